/-
  The walk of all that the reference reads of a text. Premises: the text is short.
-/
import Derived.Test.YtjidopgohdlfdaaGreatDoorJC
import Derived.Test.YtjidopgohdlfdaaGreatDoorJI

namespace Go.Proofs.YtjidopgohdlfdaaGreatDoor
open Go.RowKit Dec Pq S4

/-- How the reference's reading ends: the Input, and the requests. -/
def AllEnd (R : Sum Int Inp × List Rq) (w : World) (e : Ending) (w' : World) : Prop := Below w.heap.size w w' ∧ ∃ (q : List MR) (Aq : Option Addr) (cq : Nat), q.map rq = R.2 ∧ Rqs w' (fun b => w.heap.size ≤ b) Aq q ∧ match R.1 with
  | .inl k => k ≠ 0 ∧ e = .returned (.tuple #[.agg #[.string ⟨#[]⟩, .slice none 0 0, .int .i64 0, .int .i64 0, .bool false, .int .i64 0, .int .i64 k], .slice Aq q.length cq])
  | .inr y => ∃ my a c, MI.inp my = y ∧ SOk w' Tr a my.args ∧ e = .returned (.tuple #[.agg #[.string my.rest, .slice a my.args.length c, .int .i64 my.left, .int .i64 my.size, .bool my.body, .int .i64 my.need, .int .i64 0], .slice Aq q.length cq])
theorem after_feed {A B L : Nat} {s : List UInt8} {ss : List (List UInt8)} {size : Nat} : afterM A B L s ss 0 size = ((feedF A B L (Inp.none (s.drop size))).1, (if ss = [] then [] else [(ss, size)]) ++ (feedF A B L (Inp.none (s.drop size))).2) := by unfold afterM; rw [if_pos rfl]
theorem fins_rq2 (ss : List ByteArray) (n : Nat) : (fins ss n).map rq = (if txt ss = [] then [] else [(txt ss, n)]) := by
  unfold fins
  by_cases h : ss = []
  · rw [if_pos h, if_pos (by simp [h, txt])]; rfl
  · rw [if_neg h, if_neg (fun e => h (by simpa [txt] using e))]; rfl
/-- The last stores, into the result's block: what is held of requests still reads so. -/
theorem held_fin {w X : World} {b : Nat} {Aq : Option Addr} {cq : Nat} {q : List MR} {o0 o1 o2 o3 o4 o5 o6 : Value} (hH : Held w b (.slice none 0 0) (.slice Aq q.length cq) [] q X) (hz : X.heap[b]? = some (.cells #[o0, o1, o2, o3, o4, o5, o6] 62 (0, 0))) (v0 v1 v2 v3 v4 v5 v6 : Value) :
    (((((((X.setCell ⟨b, 0, none⟩ (v0)).setCell ⟨b, 1, none⟩ (v1)).setCell ⟨b, 2, none⟩ (v2)).setCell ⟨b, 3, none⟩ (v3)).setCell ⟨b, 4, none⟩ (v4)).setCell ⟨b, 5, none⟩ (v5)).setCell ⟨b, 6, none⟩ (v6)).heap[b]? = some (.cells #[v0, v1, v2, v3, v4, v5, v6] 62 (0, 0)) ∧ Below w.heap.size w (((((((X.setCell ⟨b, 0, none⟩ (v0)).setCell ⟨b, 1, none⟩ (v1)).setCell ⟨b, 2, none⟩ (v2)).setCell ⟨b, 3, none⟩ (v3)).setCell ⟨b, 4, none⟩ (v4)).setCell ⟨b, 5, none⟩ (v5)).setCell ⟨b, 6, none⟩ (v6)) ∧ Rqs (((((((X.setCell ⟨b, 0, none⟩ (v0)).setCell ⟨b, 1, none⟩ (v1)).setCell ⟨b, 2, none⟩ (v2)).setCell ⟨b, 3, none⟩ (v3)).setCell ⟨b, 4, none⟩ (v4)).setCell ⟨b, 5, none⟩ (v5)).setCell ⟨b, 6, none⟩ (v6)) (fun b => w.heap.size ≤ b) Aq q ∧ (∀ i, i ≠ b → (((((((X.setCell ⟨b, 0, none⟩ (v0)).setCell ⟨b, 1, none⟩ (v1)).setCell ⟨b, 2, none⟩ (v2)).setCell ⟨b, 3, none⟩ (v3)).setCell ⟨b, 4, none⟩ (v4)).setCell ⟨b, 5, none⟩ (v5)).setCell ⟨b, 6, none⟩ (v6)).heap[i]? = X.heap[i]?) ∧ X.heap.size ≤ (((((((X.setCell ⟨b, 0, none⟩ (v0)).setCell ⟨b, 1, none⟩ (v1)).setCell ⟨b, 2, none⟩ (v2)).setCell ⟨b, 3, none⟩ (v3)).setCell ⟨b, 4, none⟩ (v4)).setCell ⟨b, 5, none⟩ (v5)).setCell ⟨b, 6, none⟩ (v6)).heap.size := by
  obtain ⟨k1, k2, k3, k4⟩ := store7 hz v0 v1 v2 v3 v4 v5 v6
  have h9 := ((((((hH.poke 0 v0).poke 1 v1).poke 2 v2).poke 3 v3).poke 4 v4).poke 5 v5).poke 6 v6
  refine ⟨k1, h9.bel, ?_, k2, Nat.le_of_eq k3.symm⟩
  obtain ⟨A2, c2, he, _, hr⟩ := h9.rqs
  simp only [Value.slice.injEq] at he
  obtain ⟨rfl, -, -⟩ := he
  exact hr
/-- What a call left is laid into a block that was made before it. -/
theorem laid_in {wr w5 : World} {u : Value} {ss : List ByteArray} {z0 z1 z2 z3 z4 z5 z6 : Value} (hb : Below (wr.alloc (.cells #[z0, z1, z2, z3, z4, z5, z6] 62)).heap.size (wr.alloc (.cells #[z0, z1, z2, z3, z4, z5, z6] 62)) w5)
    (hown : w5.ownsRow (wr.alloc (.cells #[z0, z1, z2, z3, z4, z5, z6] 62)).heap.size 9 1 u ss.length (strV ss)) (v0 v1 v2 v3 v4 v5 v6 : Value) :
    (((((((w5.setCell ⟨wr.heap.size, 0, none⟩ (v0)).setCell ⟨wr.heap.size, 1, none⟩ (v1)).setCell ⟨wr.heap.size, 2, none⟩ (v2)).setCell ⟨wr.heap.size, 3, none⟩ (v3)).setCell ⟨wr.heap.size, 4, none⟩ (v4)).setCell ⟨wr.heap.size, 5, none⟩ (v5)).setCell ⟨wr.heap.size, 6, none⟩ (v6)).heap[wr.heap.size]? = some (.cells #[v0, v1, v2, v3, v4, v5, v6] 62 (0, 0)) ∧ Below wr.heap.size wr (((((((w5.setCell ⟨wr.heap.size, 0, none⟩ (v0)).setCell ⟨wr.heap.size, 1, none⟩ (v1)).setCell ⟨wr.heap.size, 2, none⟩ (v2)).setCell ⟨wr.heap.size, 3, none⟩ (v3)).setCell ⟨wr.heap.size, 4, none⟩ (v4)).setCell ⟨wr.heap.size, 5, none⟩ (v5)).setCell ⟨wr.heap.size, 6, none⟩ (v6)) ∧ (((((((w5.setCell ⟨wr.heap.size, 0, none⟩ (v0)).setCell ⟨wr.heap.size, 1, none⟩ (v1)).setCell ⟨wr.heap.size, 2, none⟩ (v2)).setCell ⟨wr.heap.size, 3, none⟩ (v3)).setCell ⟨wr.heap.size, 4, none⟩ (v4)).setCell ⟨wr.heap.size, 5, none⟩ (v5)).setCell ⟨wr.heap.size, 6, none⟩ (v6)).ownsRow (wr.heap.size + 1) 9 1 u ss.length (strV ss) := by
  have hz := (hb.block wr.heap.size (by simp)).trans (heap_alloc_new wr (.cells #[z0, z1, z2, z3, z4, z5, z6] 62))
  obtain ⟨k1, k2, k3, k4⟩ := store7 hz v0 v1 v2 v3 v4 v5 v6
  have kb := k4 0 w5 (Nat.zero_le _) (Below.refl 0 w5)
  have hs : (wr.alloc (.cells #[z0, z1, z2, z3, z4, z5, z6] 62)).heap.size = wr.heap.size + 1 := by simp
  rw [hs] at hown
  refine ⟨k1, k4 _ _ (Nat.le_refl _) (onB ((Below.refl wr.heap.size wr).alloc (Nat.le_refl _) _) hb), hown.kept (row := some wr.heap.size) ⟨kb.os, kb.tape, kb.output, kb.size, fun i _ hi => k2 i (fun e => hi (by rw [e]))⟩ (Or.inr fun e => by have := (hown.lt _ e).1; omega)⟩
/-- One request more is held. -/
theorem held_more {w W w' : World} {b c size : Nat} {a : Option Addr} {v v' : Value} {ss : List ByteArray} {q : List MR} {css : List (List Value)} (hT : Held w b (.slice a ss.length c) v ss q W) (hne : ss ≠ []) (k1 : W.ownsRow w.heap.size 69 2 v q.length css.flatten) (k2 : css.length = q.length) (k3 : ∀ x ∈ css, x.length = 2)
    (k4 : ∀ (i : Nat) p, q[i]? = some p → ∃ cs, css[i]? = some cs ∧ RqAt W (Free w.heap.size b (.slice a ss.length c) v) p cs) (hown : w'.ownsRow w.heap.size 69 2 v' (q.length + 1) (css.flatten ++ [.slice a ss.length c, .int .i64 size])) (hg : W.grownBy w' v.ownBlock)
    (hloc : v'.ownBlock = v.ownBlock ∨ v'.ownBlock = some W.heap.size) : Held w b (.slice none 0 0) v' [] (q ++ [(ss, size)]) w' := by
  rcases hown.2 with ⟨_, h0⟩ | ⟨gb, cap, cur, rfl, _⟩
  · omega
  · have hat : v.ownBlock = some gb ∨ gb = W.heap.size := by
      rcases hloc with h | h
      · exact Or.inl h.symm
      · exact Or.inr (Option.some.inj h)
    exact hT.fin rfl hne k2 k3 k4 (fun b e => k1.lt b e) hown hg hat
set_option maxRecDepth 100000 in
set_option maxHeartbeats 8000000 in
theorem rall_any (s : ByteArray) (la lb ll : Int) (A B L : Nat) (w : World) (hA : Hid (betw la 1 65536 = A)) (hB : Hid (betw lb 1 1048576 = B)) (hL : Hid (betw ll 1 65536 = L)) (hA2 : A ≤ 65536) (hB2 : B ≤ 1048576) (hL2 : L ≤ 65536) (hs : s.size ≤ 1000000000) :
    Calls Tryz.prog 32 #[.string s, .agg #[.int .i64 la, .int .i64 lb, .int .i64 ll]] w (AllEnd (feedF A B L (Inp.none s.data.toList)) w) := by
  obtain ⟨F, hF⟩ : ∃ F, feedF A B L (Inp.none s.data.toList) = F := ⟨_, rfl⟩
  rw [hF]
  have n3 := heap_alloc_new w (.cells #[.int .i64 la, .int .i64 lb, .int .i64 ll] 67)
  have n4 := heap_alloc_new (w.alloc (.cells #[.int .i64 la, .int .i64 lb, .int .i64 ll] 67)) (.cells #[.string ⟨#[]⟩, .slice none 0 0, .int .i64 0, .int .i64 0, .bool false, .int .i64 0, .int .i64 0] 62)
  have n3' := (Lib.alloc_old (w.alloc (.cells #[.int .i64 la, .int .i64 lb, .int .i64 ll] 67)) (.cells #[.string ⟨#[]⟩, .slice none 0 0, .int .i64 0, .int .i64 0, .bool false, .int .i64 0, .int .i64 0] 62) w.heap.size (by simp)).trans n3
  simp only [World.size_alloc] at n4
  have hWs : ((w.alloc (.cells #[.int .i64 la, .int .i64 lb, .int .i64 ll] 67)).alloc (.cells #[.string ⟨#[]⟩, .slice none 0 0, .int .i64 0, .int .i64 0, .bool false, .int .i64 0, .int .i64 0] 62)).heap.size = w.heap.size + 2 := by simp
  have hWb : Below w.heap.size w ((w.alloc (.cells #[.int .i64 la, .int .i64 lb, .int .i64 ll] 67)).alloc (.cells #[.string ⟨#[]⟩, .slice none 0 0, .int .i64 0, .int .i64 0, .bool false, .int .i64 0, .int .i64 0] 62)) := ((Below.refl _ _).alloc (Nat.le_refl _) _).alloc (by simp) _
  clear n3
  have hRL := Lib.hid (fun w => rlimits_any la lb ll w)
  rw [hA.out, hB.out, hL.out] at hRL
  go_enter Tryz.func32, Tryz.ntmps32
  go_upto_region 1 with fail
  generalize ((w.alloc (.cells #[.int .i64 la, .int .i64 lb, .int .i64 ll] 67)).alloc (.cells #[.string ⟨#[]⟩, .slice none 0 0, .int .i64 0, .int .i64 0, .bool false, .int .i64 0, .int .i64 0] 62)) = W1 at n3' n4 hWs hWb ⊢
  obtain ⟨l0, l1, l2⟩ := lim_facts n3'
  have g0 := Lib.frozen_of_heap n3' 0
  have g1 := Lib.frozen_of_heap n3' 1
  have g2 := Lib.frozen_of_heap n3' 2
  have n3H := Lib.hid n3'
  have n4H := Lib.hid n4
  have hWbH := Lib.hid hWb
  have hlt0 : w.heap.size < W1.heap.size := by omega
  have hlt1 : w.heap.size + 1 < W1.heap.size := by omega
  clear n3' n4 hWs hWb
  go_upto_region 2 with (go_at_call 45; ((with_reducible refine (hRL.out _).mono ?_); rintro e w2 ⟨rfl, hb2⟩; have z3 := (hb2.block w.heap.size hlt0).trans n3H.out; obtain ⟨m0, m1, m2⟩ := lim_facts z3; have o0 := Lib.frozen_of_heap z3 0; have o1 := Lib.frozen_of_heap z3 1; have o2 := Lib.frozen_of_heap z3 2; have z3H := Lib.hid z3; clear z3))
  have z3 : Hid (((((w2.setCell ⟨w.heap.size, 0, none⟩ (.int .i64 A)).setCell ⟨w.heap.size, 1, none⟩ (.int .i64 B)).setCell ⟨w.heap.size, 2, none⟩ (.int .i64 L))).heap[w.heap.size]? = some (.cells #[.int .i64 A, .int .i64 B, .int .i64 L] 67 (0, 0))) := Lib.hid (by
    have h := z3H.out
    simp [World.setCell, Array.getElem?_modify, h])
  have z4 : Hid (((((w2.setCell ⟨w.heap.size, 0, none⟩ (.int .i64 A)).setCell ⟨w.heap.size, 1, none⟩ (.int .i64 B)).setCell ⟨w.heap.size, 2, none⟩ (.int .i64 L))).heap[w.heap.size + 1]? = some (.cells #[.string ⟨#[]⟩, .slice none 0 0, .int .i64 0, .int .i64 0, .bool false, .int .i64 0, .int .i64 0] 62 (0, 0))) := Lib.hid (by
    have h := (hb2.block (w.heap.size + 1) hlt1).trans n4H.out
    simp [World.setCell, Array.getElem?_modify, h])
  have hbW := (((onB hWbH.out hb2).setCell (p := ⟨w.heap.size, 0, none⟩) (Nat.le_refl _) (.int .i64 A)).setCell (p := ⟨w.heap.size, 1, none⟩) (Nat.le_refl _) (.int .i64 B)).setCell (p := ⟨w.heap.size, 2, none⟩) (Nat.le_refl _) (.int .i64 L)
  clear l0 l1 l2 g0 g1 g2 n3H n4H hWbH hRL hb2 z3H m0 m1 m2 o0 o1 o2 hlt0 hlt1
  generalize (((w2.setCell ⟨w.heap.size, 0, none⟩ (.int .i64 A)).setCell ⟨w.heap.size, 1, none⟩ (.int .i64 B)).setCell ⟨w.heap.size, 2, none⟩ (.int .i64 L)) = W2 at z3 z4 hbW ⊢
  have hH0 : Held w (w.heap.size + 1) (.slice none 0 0) (.slice none 0 0) [] [] W2 := Held.start w W2 _ hbW (heap_lt z4.out) (by omega)
  have hH0H := Lib.hid hH0
  have hF0 : Hid (F = ((feedF A B L (Inp.none s.data.toList)).1, ([] : List MR).map rq ++ (feedF A B L (Inp.none s.data.toList)).2)) := Lib.hid (by rw [← hF]; rfl)
  clear hH0 hbW hF
  obtain ⟨i0, hi, hz0', hz1', hz2'⟩ := info_parts req_info
  go_wp2_with fail
  go_loopw [0, 6] (fun s0 s6 wr => ∃ (t : ByteArray) (v : Value) (q : List MR), s0 = .string t ∧ s6 = v ∧ t.size ≤ s.size ∧ q.length + t.size ≤ s.size ∧ Hid (Held w (w.heap.size + 1) (.slice none 0 0) v [] q wr) ∧ Hid (wr.heap[w.heap.size]? = some (.cells #[.int .i64 A, .int .i64 B, .int .i64 L] 67 (0, 0))) ∧ Hid (wr.heap[w.heap.size + 1]? = some (.cells #[.string ⟨#[]⟩, .slice none 0 0, .int .i64 0, .int .i64 0, .bool false, .int .i64 0, .int .i64 0] 62 (0, 0))) ∧ Hid (F = ((feedF A B L (Inp.none t.data.toList)).1, q.map rq ++ (feedF A B L (Inp.none t.data.toList)).2))) (fun s0 _ _ => strSize s0)
  case atStart => exact ⟨s, _, [], rfl, rfl, Nat.le_refl _, by simp, hH0H, z3, z4, hF0⟩
  case round =>
    clear hH0H z3 z4 hF0
    obtain ⟨t, v, q, rfl, rfl, hts, hqt, hH, z3, z4, hFe⟩ := hrel
    obtain ⟨l0, l1, l2⟩ := lim_facts z3.out
    obtain ⟨r0, r1, r2, r3, r4, r5, r6, q0, q1, q2, q3, q4, q5, q6⟩ := in_facts z4.out
    have hlt0 := heap_lt z3.out
    have hlt1 := heap_lt z4.out
    by_cases h0 : t.data.toList = []
    · have he : t.toList = [] := by rw [Lib.toList_data]; exact h0
      have hF1 : Hid (F = (.inr (Inp.none []), q.map rq)) := Lib.hid (by
        rw [hFe.out, h0, show feedF A B L (Inp.none []) = (.inr (Inp.none []), []) from feed_stop rfl, List.append_nil])
      obtain ⟨Aq, cq, rfl, hq0, hrq⟩ := hH.out.rqs
      have hrqH := Lib.hid hrq
      clear h0 hrq
      go_wp2_with fail
      obtain ⟨k1, k2, k3, k4, k5⟩ := held_fin hH.out z4.out (.string ⟨#[]⟩) (.slice none 0 0) (.int .i64 0) (.int .i64 0) (.bool false) (.int .i64 0) (.int .i64 0)
      clear r0 r1 r2 r3 r4 r5 r6 q0 q1 q2 q3 q4 q5 q6
      generalize (((((((wr.setCell ⟨w.heap.size + 1, 0, none⟩ (.string ⟨#[]⟩)).setCell ⟨w.heap.size + 1, 1, none⟩ (.slice none 0 0)).setCell ⟨w.heap.size + 1, 2, none⟩ (.int .i64 0)).setCell ⟨w.heap.size + 1, 3, none⟩ (.int .i64 0)).setCell ⟨w.heap.size + 1, 4, none⟩ (.bool false)).setCell ⟨w.heap.size + 1, 5, none⟩ (.int .i64 0)).setCell ⟨w.heap.size + 1, 6, none⟩ (.int .i64 0)) = w9 at k1 k2 k3 k4 k5 ⊢
      obtain ⟨d0, d1, d2, d3, d4, d5, d6, _⟩ := in_facts k1
      refine bodyPost_ret (v := .tuple #[.agg #[.string ⟨#[]⟩, .slice none 0 0, .int .i64 0, .int .i64 0, .bool false, .int .i64 0, .int .i64 0], .slice Aq q.length cq]) (by simp [results, Tryz.results32, go_sem, d0, d1, d2, d3, d4, d5, d6]) rfl ⟨k2, ?_⟩
      rw [hF1.out]
      exact ⟨q, Aq, cq, rfl, k3, ⟨⟨#[]⟩, [], 0, 0, false, 0⟩, none, 0, rfl, fun i x hx => by simp at hx, rfl⟩
    · have he : t.toList.isEmpty = false := by rw [Lib.toList_data]; simpa using h0
      have hpos : 0 < t.size := Nat.pos_of_ne_zero fun e => h0 (List.eq_nil_of_length_eq_zero (by rw [size_len]; exact e))
      have hcons := str_cons t 0 hpos
      rw [List.drop_zero] at hcons
      by_cases h42 : t[(0 : Nat)] = 42
      · have hq42 : ((t[(0 : Nat)].toNat : Int) == 42) = true := by rw [h42]; rfl
        have hcall : Hid (∀ W, Calls Tryz.prog 46 #[.string t, .agg #[.int .i64 A, .int .i64 B, .int .i64 L]] W (OneEnd A B L t W)) := Lib.hid fun W => rmany_any t A B L W (by omega) (by rw [hcons, h42]; rfl) hA2 hB2
        clear hcons h42
        obtain ⟨Aq, cq, rfl, hq0, hrq⟩ := hH.out.rqs
        clear hq0 hrq
        go_wp2_with fail
        refine (hcall.out _).mono ?_
        rintro e w5 ⟨hb5, h | h | h⟩
        · obtain ⟨f, rr, a, n, c, l, z, nd, bb, hf0, hf1, hfd, rfl⟩ := h
          have hF1 : Hid (F = (.inl f, q.map rq)) := Lib.hid (by rw [hFe.out, hfd, List.append_nil])
          have hfe : (f != 0) = true := bne_iff_ne.2 hf0
          have hff : (f == -1) = false := beq_eq_false_iff_ne.2 hf1
          have h7 := (hb5.block wr.heap.size (by simp)).trans (heap_alloc_new wr (.cells #[.string ⟨#[]⟩, .slice none 0 0, .int .i64 0, .int .i64 0, .bool false, .int .i64 0, .int .i64 0] 62))
          obtain ⟨s1, s2, s3⟩ := laid_in (u := .slice none 0 0) (ss := []) hb5 (World.ownsRow_nil _ _ _ _) (.string rr) (.slice a n c) (.int .i64 l) (.int .i64 z) (.bool bb) (.int .i64 nd) (.int .i64 0)
          have z5 := (s2.block (w.heap.size + 1) hlt1).trans z4.out
          have hH5 := hH.out.on s2
          obtain ⟨i0', i1, i2, i3, i4, i5, i6, j0, j1, j2, j3, j4, j5, j6⟩ := in_facts h7
          clear s1 s3 h7 hfd r0 r1 r2 r3 r4 r5 r6 q0 q1 q2 q3 q4 q5 q6 l0 l1 l2
          go_upto_region 8 with fail
          clear i0' i1 i2 i3 i4 i5 i6 j0 j1 j2 j3 j4 j5 j6
          generalize (((((((w5.setCell ⟨wr.heap.size, 0, none⟩ (.string rr)).setCell ⟨wr.heap.size, 1, none⟩ (.slice a n c)).setCell ⟨wr.heap.size, 2, none⟩ (.int .i64 l)).setCell ⟨wr.heap.size, 3, none⟩ (.int .i64 z)).setCell ⟨wr.heap.size, 4, none⟩ (.bool bb)).setCell ⟨wr.heap.size, 5, none⟩ (.int .i64 nd)).setCell ⟨wr.heap.size, 6, none⟩ (.int .i64 0)) = W6 at s2 z5 hH5 ⊢
          obtain ⟨r0, r1, r2, r3, r4, r5, r6, q0, q1, q2, q3, q4, q5, q6⟩ := in_facts z5
          go_wp2_with fail
          obtain ⟨k1, k2, k3, k4, k5⟩ := held_fin hH5 z5 (.string ⟨#[]⟩) (.slice none 0 0) (.int .i64 0) (.int .i64 0) (.bool false) (.int .i64 0) (.int .i64 f)
          clear r0 r1 r2 r3 r4 r5 r6 q0 q1 q2 q3 q4 q5 q6
          generalize (((((((W6.setCell ⟨w.heap.size + 1, 0, none⟩ (.string ⟨#[]⟩)).setCell ⟨w.heap.size + 1, 1, none⟩ (.slice none 0 0)).setCell ⟨w.heap.size + 1, 2, none⟩ (.int .i64 0)).setCell ⟨w.heap.size + 1, 3, none⟩ (.int .i64 0)).setCell ⟨w.heap.size + 1, 4, none⟩ (.bool false)).setCell ⟨w.heap.size + 1, 5, none⟩ (.int .i64 0)).setCell ⟨w.heap.size + 1, 6, none⟩ (.int .i64 f)) = w9 at k1 k2 k3 k4 k5 ⊢
          obtain ⟨d0, d1, d2, d3, d4, d5, d6, _⟩ := in_facts k1
          refine bodyPost_ret (v := .tuple #[.agg #[.string ⟨#[]⟩, .slice none 0 0, .int .i64 0, .int .i64 0, .bool false, .int .i64 0, .int .i64 f], .slice Aq q.length cq]) (by simp [results, Tryz.results32, go_sem, d0, d1, d2, d3, d4, d5, d6]) rfl ⟨k2, ?_⟩
          rw [hF1.out]
          exact ⟨q, Aq, cq, rfl, k3, hf0, rfl⟩
        · obtain ⟨y, a, c, hfd, hyl, hown, rfl⟩ := h
          have hF1 : Hid (F = (.inr y.inp, q.map rq)) := Lib.hid (by rw [hFe.out, hfd, List.append_nil])
          have h7 := (hb5.block wr.heap.size (by simp)).trans (heap_alloc_new wr (.cells #[.string ⟨#[]⟩, .slice none 0 0, .int .i64 0, .int .i64 0, .bool false, .int .i64 0, .int .i64 0] 62))
          obtain ⟨s1, s2, s3⟩ := laid_in hb5 hown (.string y.rest) (.slice a y.args.length c) (.int .i64 y.left) (.int .i64 y.size) (.bool y.body) (.int .i64 y.need) (.int .i64 0)
          have z5 := (s2.block (w.heap.size + 1) hlt1).trans z4.out
          have hH5 := hH.out.on s2
          have hs3H := Lib.hid s3
          obtain ⟨i0', i1, i2, i3, i4, i5, i6, j0, j1, j2, j3, j4, j5, j6⟩ := in_facts h7
          clear h7 hfd r0 r1 r2 r3 r4 r5 r6 q0 q1 q2 q3 q4 q5 q6 l0 l1 l2 s3
          go_upto_region 8 with fail
          clear i0' i1 i2 i3 i4 i5 i6 j0 j1 j2 j3 j4 j5 j6
          generalize (((((((w5.setCell ⟨wr.heap.size, 0, none⟩ (.string y.rest)).setCell ⟨wr.heap.size, 1, none⟩ (.slice a y.args.length c)).setCell ⟨wr.heap.size, 2, none⟩ (.int .i64 y.left)).setCell ⟨wr.heap.size, 3, none⟩ (.int .i64 y.size)).setCell ⟨wr.heap.size, 4, none⟩ (.bool y.body)).setCell ⟨wr.heap.size, 5, none⟩ (.int .i64 y.need)).setCell ⟨wr.heap.size, 6, none⟩ (.int .i64 0)) = W6 at s1 s2 hs3H z5 hH5 ⊢
          obtain ⟨r0, r1, r2, r3, r4, r5, r6, q0, q1, q2, q3, q4, q5, q6⟩ := in_facts z5
          obtain ⟨i0', i1, i2, i3, i4, i5, i6, j0, j1, j2, j3, j4, j5, j6⟩ := in_facts s1
          go_wp2_with fail
          obtain ⟨k1, k2, k3, k4, k5⟩ := held_fin hH5 z5 (.string y.rest) (.slice a y.args.length c) (.int .i64 y.left) (.int .i64 y.size) (.bool y.body) (.int .i64 y.need) (.int .i64 0)
          clear r0 r1 r2 r3 r4 r5 r6 q0 q1 q2 q3 q4 q5 q6
          generalize (((((((W6.setCell ⟨w.heap.size + 1, 0, none⟩ (.string y.rest)).setCell ⟨w.heap.size + 1, 1, none⟩ (.slice a y.args.length c)).setCell ⟨w.heap.size + 1, 2, none⟩ (.int .i64 y.left)).setCell ⟨w.heap.size + 1, 3, none⟩ (.int .i64 y.size)).setCell ⟨w.heap.size + 1, 4, none⟩ (.bool y.body)).setCell ⟨w.heap.size + 1, 5, none⟩ (.int .i64 y.need)).setCell ⟨w.heap.size + 1, 6, none⟩ (.int .i64 0)) = w9 at k1 k2 k3 k4 k5 ⊢
          obtain ⟨d0, d1, d2, d3, d4, d5, d6, _⟩ := in_facts k1
          refine bodyPost_ret (v := .tuple #[.agg #[.string y.rest, .slice a y.args.length c, .int .i64 y.left, .int .i64 y.size, .bool y.body, .int .i64 y.need, .int .i64 0], .slice Aq q.length cq]) (by simp [results, Tryz.results32, go_sem, d0, d1, d2, d3, d4, d5, d6]) rfl ⟨k2, ?_⟩
          rw [hF1.out]
          refine ⟨q, Aq, cq, rfl, k3, y, a, c, rfl, ?_, rfl⟩
          obtain ⟨A2, c2, he2, _, hsk⟩ := own_sok hs3H.out
          simp only [Value.slice.injEq] at he2
          obtain ⟨rfl, -, -⟩ := he2
          exact hsk.keep (fun i hi _ => k4 i (fun e => by have := (hs3H.out.lt i hi).1; omega)) k5 (fun _ _ _ => trivial)
        · obtain ⟨ss, a, c, size, hz1, hz2, hsl, hfd, hown, rfl⟩ := h
          rw [after_feed] at hfd
          have hte : (t.extract size t.size).data.toList = t.data.toList.drop size := ext_data t size
          have htz : (t.extract size t.size).size = t.size - size := by simp
          have h7 := (hb5.block wr.heap.size (by simp)).trans (heap_alloc_new wr (.cells #[.string ⟨#[]⟩, .slice none 0 0, .int .i64 0, .int .i64 0, .bool false, .int .i64 0, .int .i64 0] 62))
          obtain ⟨s1, s2, s3⟩ := laid_in hb5 hown (.string ⟨#[]⟩) (.slice a ss.length c) (.int .i64 0) (.int .i64 size) (.bool false) (.int .i64 0) (.int .i64 0)
          have z5 := Lib.hid ((s2.block (w.heap.size + 1) hlt1).trans z4.out)
          have z6 := Lib.hid ((s2.block w.heap.size hlt0).trans z3.out)
          have hTk := Lib.hid (hH.out.take s2 (own_base s3 (by omega)))
          have hH5 := Lib.hid (hH.out.on s2)
          have hF1 : Hid (F = ((feedF A B L (Inp.none (t.extract size t.size).data.toList)).1, (q ++ fins ss size).map rq ++ (feedF A B L (Inp.none (t.extract size t.size).data.toList)).2)) := Lib.hid (by
            rw [hFe.out, hfd, hte, List.map_append, fins_rq2, List.append_assoc])
          obtain ⟨i0', i1, i2, i3, i4, i5, i6, j0, j1, j2, j3, j4, j5, j6⟩ := in_facts h7
          have htzH := Lib.hid htz
          clear h7 hfd r0 r1 r2 r3 r4 r5 r6 q0 q1 q2 q3 q4 q5 q6 l0 l1 l2 s3 hte htz
          go_upto_region 12 with fail
          clear i0' i1 i2 i3 i4 i5 i6 j0 j1 j2 j3 j4 j5 j6
          have hgl : wr.heap.size < (((((((w5.setCell ⟨wr.heap.size, 0, none⟩ (.string ⟨#[]⟩)).setCell ⟨wr.heap.size, 1, none⟩ (.slice a ss.length c)).setCell ⟨wr.heap.size, 2, none⟩ (.int .i64 0)).setCell ⟨wr.heap.size, 3, none⟩ (.int .i64 size)).setCell ⟨wr.heap.size, 4, none⟩ (.bool false)).setCell ⟨wr.heap.size, 5, none⟩ (.int .i64 0)).setCell ⟨wr.heap.size, 6, none⟩ (.int .i64 0)).heap.size := heap_lt s1
          generalize (((((((w5.setCell ⟨wr.heap.size, 0, none⟩ (.string ⟨#[]⟩)).setCell ⟨wr.heap.size, 1, none⟩ (.slice a ss.length c)).setCell ⟨wr.heap.size, 2, none⟩ (.int .i64 0)).setCell ⟨wr.heap.size, 3, none⟩ (.int .i64 size)).setCell ⟨wr.heap.size, 4, none⟩ (.bool false)).setCell ⟨wr.heap.size, 5, none⟩ (.int .i64 0)).setCell ⟨wr.heap.size, 6, none⟩ (.int .i64 0)) = W6 at s1 s2 hTk z5 z6 hH5 hgl ⊢
          obtain ⟨i0', i1, i2, i3, i4, i5, i6, j0, j1, j2, j3, j4, j5, j6⟩ := in_facts s1
          have hsz6 := hTk.out.bel.size
          by_cases hne : ss = []
          · have hl0 : ss.length = 0 := by rw [hne]; rfl
            have hz0 : ¬ 0 < ss.length := by omega
            have hfin : Hid (fins ss size = []) := Lib.hid (by unfold fins; rw [if_pos hne])
            have hl0H := Lib.hid hl0
            clear hne hl0 hTk s1 s2
            go_wp2_with fail
            all_goals first
              | (exfalso; omega)
              | (go_roundw
                 case rel => exact ⟨t.extract size t.size, _, q, rfl, rfl, by rw [htzH.out]; omega, by rw [htzH.out]; omega, hH5, z6, z5, by have h := hF1; rw [hfin.out, List.append_nil] at h; exact h⟩
                 case measure => show (t.extract size t.size).size < t.size; rw [htzH.out]; omega)
          · have hpos2 : 0 < ss.length := List.length_pos_iff.2 hne
            have hfin : Hid (fins ss size = [(ss, size)]) := Lib.hid (by unfold fins; rw [if_neg hne])
            have hneH := Lib.hid hne
            have s1H := Lib.hid s1
            have hTa := hTk.out.on ((Below.refl _ _).alloc (Nat.le_refl _) (.cells #[.slice a ss.length c, .int .i64 size] 69))
            have hTaH := Lib.hid hTa
            obtain ⟨css, c1, c2, c3, c4⟩ := hTa.whole
            have c1H := Lib.hid c1
            have c3H := Lib.hid c3
            have c4H := Lib.hid c4
            have c2H := Lib.hid c2
            have ze5 := Lib.hid ((Lib.alloc_old W6 (.cells #[.slice a ss.length c, .int .i64 size] 69) (w.heap.size + 1) (heap_lt z5.out)).trans z5.out)
            have ze6 := Lib.hid ((Lib.alloc_old W6 (.cells #[.slice a ss.length c, .int .i64 size] 69) w.heap.size (heap_lt z6.out)).trans z6.out)
            clear hne hTk hTa c1 c2 c3 c4 s1 s2 hH5
            go_wp2_with (at_builtin; refine wpList_append_own_at _ rfl (.tmp 42) (.tmp 48) 63 rfl w.heap.size 69 i0 _ 2 32 Tryz.underlying63 hi hz0' hz1' hz2' rfl (by decide) (.slice Aq q.length cq) q.length css.flatten rfl c1H.out ⟨W6.heap.size, 0, none⟩ 1 1 [.slice a ss.length c, .int .i64 size] rfl rfl (one_req W6 _ _) (one_two _ _ _ _) (by unfold maxLen; omega) (by omega) (by simp; omega) ?_)
            intro v' w7 hown7 hg7 _ hloc
            have hH7 := Lib.hid (held_more hTaH.out hneH.out c1H.out c2H.out c3H.out c4H.out hown7 hg7 (by rw [World.size_alloc]; exact hloc))
            have hobn : ∀ k, k = w.heap.size ∨ k = w.heap.size + 1 ∨ k = wr.heap.size → some k ≠ (Value.slice Aq q.length cq).ownBlock := fun k hk e => by
              rcases hk with rfl | rfl | rfl
              · rcases c1H.out.2 with ⟨hv, _⟩ | ⟨gb, cap, cur, hv, _, hgb, _⟩
                · rw [hv] at e; cases e
                · rw [hv] at e
                  have e2 : w.heap.size = gb := Option.some.inj e
                  rw [← e2, ze6.out] at hgb
                  simp at hgb
              · exact hTaH.out.gv e.symm
              · obtain ⟨css0, k1, _⟩ := hH.out.whole
                have := (k1.lt _ e.symm).2
                omega
            have zf7 := (hg7.block wr.heap.size (by simp; omega) (hobn _ (Or.inr (Or.inr rfl)))).trans ((Lib.alloc_old W6 (.cells #[.slice a ss.length c, .int .i64 size] 69) wr.heap.size hgl).trans s1H.out)
            obtain ⟨x0, x1, x2, x3, x4, x5, x6, y0, y1, y2, y3, y4, y5, y6⟩ := in_facts zf7
            clear zf7
            have zf5 : Hid (w7.heap[w.heap.size + 1]? = some (.cells #[.string ⟨#[]⟩, .slice none 0 0, .int .i64 0, .int .i64 0, .bool false, .int .i64 0, .int .i64 0] 62 (0, 0))) := Lib.hid ((hg7.block _ (heap_lt ze5.out) (hobn _ (Or.inr (Or.inl rfl)))).trans ze5.out)
            have zf6 : Hid (w7.heap[w.heap.size]? = some (.cells #[.int .i64 A, .int .i64 B, .int .i64 L] 67 (0, 0))) := Lib.hid ((hg7.block _ (heap_lt ze6.out) (hobn _ (Or.inl rfl))).trans ze6.out)
            have hg7H := Lib.hid hg7
            clear hown7 hloc hobn hg7
            go_wp2_with fail
            all_goals first
              | (exfalso; omega)
              | (go_roundw
                 case rel => exact ⟨t.extract size t.size, _, q ++ [(ss, size)], rfl, rfl, by rw [htzH.out]; omega, by rw [htzH.out]; simp; omega, hH7, zf6, zf5, by have h := hF1; rw [hfin.out] at h; exact h⟩
                 case measure => show (t.extract size t.size).size < t.size; rw [htzH.out]; omega)
      · have hq42 : ((t[(0 : Nat)].toNat : Int) == 42) = false := beq_eq_false_iff_ne.2 fun e => h42 (UInt8.toNat_inj.1 (by have : (42 : UInt8).toNat = 42 := rfl; omega))
        have hcall : Hid (∀ W, Calls Tryz.prog 47 #[.string t, .agg #[.int .i64 A, .int .i64 B, .int .i64 L]] W (OneEnd A B L t W)) := Lib.hid fun W => rone_any t A B L W (by omega) h0 (by rw [hcons]; simpa using h42) hA2 hB2 hL2
        clear hcons h42
        obtain ⟨Aq, cq, rfl, hq0, hrq⟩ := hH.out.rqs
        clear hq0 hrq
        go_wp2_with fail
        refine (hcall.out _).mono ?_
        rintro e w5 ⟨hb5, h | h | h⟩
        · obtain ⟨f, rr, a, n, c, l, z, nd, bb, hf0, hf1, hfd, rfl⟩ := h
          have hF1 : Hid (F = (.inl f, q.map rq)) := Lib.hid (by rw [hFe.out, hfd, List.append_nil])
          have hfe : (f != 0) = true := bne_iff_ne.2 hf0
          have hff : (f == -1) = false := beq_eq_false_iff_ne.2 hf1
          have h7 := (hb5.block wr.heap.size (by simp)).trans (heap_alloc_new wr (.cells #[.string ⟨#[]⟩, .slice none 0 0, .int .i64 0, .int .i64 0, .bool false, .int .i64 0, .int .i64 0] 62))
          obtain ⟨s1, s2, s3⟩ := laid_in (u := .slice none 0 0) (ss := []) hb5 (World.ownsRow_nil _ _ _ _) (.string rr) (.slice a n c) (.int .i64 l) (.int .i64 z) (.bool bb) (.int .i64 nd) (.int .i64 0)
          have z5 := (s2.block (w.heap.size + 1) hlt1).trans z4.out
          have hH5 := hH.out.on s2
          obtain ⟨i0', i1, i2, i3, i4, i5, i6, j0, j1, j2, j3, j4, j5, j6⟩ := in_facts h7
          clear s1 s3 h7 hfd r0 r1 r2 r3 r4 r5 r6 q0 q1 q2 q3 q4 q5 q6 l0 l1 l2
          go_upto_region 8 with fail
          clear i0' i1 i2 i3 i4 i5 i6 j0 j1 j2 j3 j4 j5 j6
          generalize (((((((w5.setCell ⟨wr.heap.size, 0, none⟩ (.string rr)).setCell ⟨wr.heap.size, 1, none⟩ (.slice a n c)).setCell ⟨wr.heap.size, 2, none⟩ (.int .i64 l)).setCell ⟨wr.heap.size, 3, none⟩ (.int .i64 z)).setCell ⟨wr.heap.size, 4, none⟩ (.bool bb)).setCell ⟨wr.heap.size, 5, none⟩ (.int .i64 nd)).setCell ⟨wr.heap.size, 6, none⟩ (.int .i64 0)) = W6 at s2 z5 hH5 ⊢
          obtain ⟨r0, r1, r2, r3, r4, r5, r6, q0, q1, q2, q3, q4, q5, q6⟩ := in_facts z5
          go_wp2_with fail
          obtain ⟨k1, k2, k3, k4, k5⟩ := held_fin hH5 z5 (.string ⟨#[]⟩) (.slice none 0 0) (.int .i64 0) (.int .i64 0) (.bool false) (.int .i64 0) (.int .i64 f)
          clear r0 r1 r2 r3 r4 r5 r6 q0 q1 q2 q3 q4 q5 q6
          generalize (((((((W6.setCell ⟨w.heap.size + 1, 0, none⟩ (.string ⟨#[]⟩)).setCell ⟨w.heap.size + 1, 1, none⟩ (.slice none 0 0)).setCell ⟨w.heap.size + 1, 2, none⟩ (.int .i64 0)).setCell ⟨w.heap.size + 1, 3, none⟩ (.int .i64 0)).setCell ⟨w.heap.size + 1, 4, none⟩ (.bool false)).setCell ⟨w.heap.size + 1, 5, none⟩ (.int .i64 0)).setCell ⟨w.heap.size + 1, 6, none⟩ (.int .i64 f)) = w9 at k1 k2 k3 k4 k5 ⊢
          obtain ⟨d0, d1, d2, d3, d4, d5, d6, _⟩ := in_facts k1
          refine bodyPost_ret (v := .tuple #[.agg #[.string ⟨#[]⟩, .slice none 0 0, .int .i64 0, .int .i64 0, .bool false, .int .i64 0, .int .i64 f], .slice Aq q.length cq]) (by simp [results, Tryz.results32, go_sem, d0, d1, d2, d3, d4, d5, d6]) rfl ⟨k2, ?_⟩
          rw [hF1.out]
          exact ⟨q, Aq, cq, rfl, k3, hf0, rfl⟩
        · obtain ⟨y, a, c, hfd, hyl, hown, rfl⟩ := h
          have hF1 : Hid (F = (.inr y.inp, q.map rq)) := Lib.hid (by rw [hFe.out, hfd, List.append_nil])
          have h7 := (hb5.block wr.heap.size (by simp)).trans (heap_alloc_new wr (.cells #[.string ⟨#[]⟩, .slice none 0 0, .int .i64 0, .int .i64 0, .bool false, .int .i64 0, .int .i64 0] 62))
          obtain ⟨s1, s2, s3⟩ := laid_in hb5 hown (.string y.rest) (.slice a y.args.length c) (.int .i64 y.left) (.int .i64 y.size) (.bool y.body) (.int .i64 y.need) (.int .i64 0)
          have z5 := (s2.block (w.heap.size + 1) hlt1).trans z4.out
          have hH5 := hH.out.on s2
          have hs3H := Lib.hid s3
          obtain ⟨i0', i1, i2, i3, i4, i5, i6, j0, j1, j2, j3, j4, j5, j6⟩ := in_facts h7
          clear h7 hfd r0 r1 r2 r3 r4 r5 r6 q0 q1 q2 q3 q4 q5 q6 l0 l1 l2 s3
          go_upto_region 8 with fail
          clear i0' i1 i2 i3 i4 i5 i6 j0 j1 j2 j3 j4 j5 j6
          generalize (((((((w5.setCell ⟨wr.heap.size, 0, none⟩ (.string y.rest)).setCell ⟨wr.heap.size, 1, none⟩ (.slice a y.args.length c)).setCell ⟨wr.heap.size, 2, none⟩ (.int .i64 y.left)).setCell ⟨wr.heap.size, 3, none⟩ (.int .i64 y.size)).setCell ⟨wr.heap.size, 4, none⟩ (.bool y.body)).setCell ⟨wr.heap.size, 5, none⟩ (.int .i64 y.need)).setCell ⟨wr.heap.size, 6, none⟩ (.int .i64 0)) = W6 at s1 s2 hs3H z5 hH5 ⊢
          obtain ⟨r0, r1, r2, r3, r4, r5, r6, q0, q1, q2, q3, q4, q5, q6⟩ := in_facts z5
          obtain ⟨i0', i1, i2, i3, i4, i5, i6, j0, j1, j2, j3, j4, j5, j6⟩ := in_facts s1
          go_wp2_with fail
          obtain ⟨k1, k2, k3, k4, k5⟩ := held_fin hH5 z5 (.string y.rest) (.slice a y.args.length c) (.int .i64 y.left) (.int .i64 y.size) (.bool y.body) (.int .i64 y.need) (.int .i64 0)
          clear r0 r1 r2 r3 r4 r5 r6 q0 q1 q2 q3 q4 q5 q6
          generalize (((((((W6.setCell ⟨w.heap.size + 1, 0, none⟩ (.string y.rest)).setCell ⟨w.heap.size + 1, 1, none⟩ (.slice a y.args.length c)).setCell ⟨w.heap.size + 1, 2, none⟩ (.int .i64 y.left)).setCell ⟨w.heap.size + 1, 3, none⟩ (.int .i64 y.size)).setCell ⟨w.heap.size + 1, 4, none⟩ (.bool y.body)).setCell ⟨w.heap.size + 1, 5, none⟩ (.int .i64 y.need)).setCell ⟨w.heap.size + 1, 6, none⟩ (.int .i64 0)) = w9 at k1 k2 k3 k4 k5 ⊢
          obtain ⟨d0, d1, d2, d3, d4, d5, d6, _⟩ := in_facts k1
          refine bodyPost_ret (v := .tuple #[.agg #[.string y.rest, .slice a y.args.length c, .int .i64 y.left, .int .i64 y.size, .bool y.body, .int .i64 y.need, .int .i64 0], .slice Aq q.length cq]) (by simp [results, Tryz.results32, go_sem, d0, d1, d2, d3, d4, d5, d6]) rfl ⟨k2, ?_⟩
          rw [hF1.out]
          refine ⟨q, Aq, cq, rfl, k3, y, a, c, rfl, ?_, rfl⟩
          obtain ⟨A2, c2, he2, _, hsk⟩ := own_sok hs3H.out
          simp only [Value.slice.injEq] at he2
          obtain ⟨rfl, -, -⟩ := he2
          exact hsk.keep (fun i hi _ => k4 i (fun e => by have := (hs3H.out.lt i hi).1; omega)) k5 (fun _ _ _ => trivial)
        · obtain ⟨ss, a, c, size, hz1, hz2, hsl, hfd, hown, rfl⟩ := h
          rw [after_feed] at hfd
          have hte : (t.extract size t.size).data.toList = t.data.toList.drop size := ext_data t size
          have htz : (t.extract size t.size).size = t.size - size := by simp
          have h7 := (hb5.block wr.heap.size (by simp)).trans (heap_alloc_new wr (.cells #[.string ⟨#[]⟩, .slice none 0 0, .int .i64 0, .int .i64 0, .bool false, .int .i64 0, .int .i64 0] 62))
          obtain ⟨s1, s2, s3⟩ := laid_in hb5 hown (.string ⟨#[]⟩) (.slice a ss.length c) (.int .i64 0) (.int .i64 size) (.bool false) (.int .i64 0) (.int .i64 0)
          have z5 := Lib.hid ((s2.block (w.heap.size + 1) hlt1).trans z4.out)
          have z6 := Lib.hid ((s2.block w.heap.size hlt0).trans z3.out)
          have hTk := Lib.hid (hH.out.take s2 (own_base s3 (by omega)))
          have hH5 := Lib.hid (hH.out.on s2)
          have hF1 : Hid (F = ((feedF A B L (Inp.none (t.extract size t.size).data.toList)).1, (q ++ fins ss size).map rq ++ (feedF A B L (Inp.none (t.extract size t.size).data.toList)).2)) := Lib.hid (by
            rw [hFe.out, hfd, hte, List.map_append, fins_rq2, List.append_assoc])
          obtain ⟨i0', i1, i2, i3, i4, i5, i6, j0, j1, j2, j3, j4, j5, j6⟩ := in_facts h7
          have htzH := Lib.hid htz
          clear h7 hfd r0 r1 r2 r3 r4 r5 r6 q0 q1 q2 q3 q4 q5 q6 l0 l1 l2 s3 hte htz
          go_upto_region 12 with fail
          clear i0' i1 i2 i3 i4 i5 i6 j0 j1 j2 j3 j4 j5 j6
          have hgl : wr.heap.size < (((((((w5.setCell ⟨wr.heap.size, 0, none⟩ (.string ⟨#[]⟩)).setCell ⟨wr.heap.size, 1, none⟩ (.slice a ss.length c)).setCell ⟨wr.heap.size, 2, none⟩ (.int .i64 0)).setCell ⟨wr.heap.size, 3, none⟩ (.int .i64 size)).setCell ⟨wr.heap.size, 4, none⟩ (.bool false)).setCell ⟨wr.heap.size, 5, none⟩ (.int .i64 0)).setCell ⟨wr.heap.size, 6, none⟩ (.int .i64 0)).heap.size := heap_lt s1
          generalize (((((((w5.setCell ⟨wr.heap.size, 0, none⟩ (.string ⟨#[]⟩)).setCell ⟨wr.heap.size, 1, none⟩ (.slice a ss.length c)).setCell ⟨wr.heap.size, 2, none⟩ (.int .i64 0)).setCell ⟨wr.heap.size, 3, none⟩ (.int .i64 size)).setCell ⟨wr.heap.size, 4, none⟩ (.bool false)).setCell ⟨wr.heap.size, 5, none⟩ (.int .i64 0)).setCell ⟨wr.heap.size, 6, none⟩ (.int .i64 0)) = W6 at s1 s2 hTk z5 z6 hH5 hgl ⊢
          obtain ⟨i0', i1, i2, i3, i4, i5, i6, j0, j1, j2, j3, j4, j5, j6⟩ := in_facts s1
          have hsz6 := hTk.out.bel.size
          by_cases hne : ss = []
          · have hl0 : ss.length = 0 := by rw [hne]; rfl
            have hz0 : ¬ 0 < ss.length := by omega
            have hfin : Hid (fins ss size = []) := Lib.hid (by unfold fins; rw [if_pos hne])
            have hl0H := Lib.hid hl0
            clear hne hl0 hTk s1 s2
            go_wp2_with fail
            all_goals first
              | (exfalso; omega)
              | (go_roundw
                 case rel => exact ⟨t.extract size t.size, _, q, rfl, rfl, by rw [htzH.out]; omega, by rw [htzH.out]; omega, hH5, z6, z5, by have h := hF1; rw [hfin.out, List.append_nil] at h; exact h⟩
                 case measure => show (t.extract size t.size).size < t.size; rw [htzH.out]; omega)
          · have hpos2 : 0 < ss.length := List.length_pos_iff.2 hne
            have hfin : Hid (fins ss size = [(ss, size)]) := Lib.hid (by unfold fins; rw [if_neg hne])
            have hneH := Lib.hid hne
            have s1H := Lib.hid s1
            have hTa := hTk.out.on ((Below.refl _ _).alloc (Nat.le_refl _) (.cells #[.slice a ss.length c, .int .i64 size] 69))
            have hTaH := Lib.hid hTa
            obtain ⟨css, c1, c2, c3, c4⟩ := hTa.whole
            have c1H := Lib.hid c1
            have c3H := Lib.hid c3
            have c4H := Lib.hid c4
            have c2H := Lib.hid c2
            have ze5 := Lib.hid ((Lib.alloc_old W6 (.cells #[.slice a ss.length c, .int .i64 size] 69) (w.heap.size + 1) (heap_lt z5.out)).trans z5.out)
            have ze6 := Lib.hid ((Lib.alloc_old W6 (.cells #[.slice a ss.length c, .int .i64 size] 69) w.heap.size (heap_lt z6.out)).trans z6.out)
            clear hne hTk hTa c1 c2 c3 c4 s1 s2 hH5
            go_wp2_with (at_builtin; refine wpList_append_own_at _ rfl (.tmp 42) (.tmp 48) 63 rfl w.heap.size 69 i0 _ 2 32 Tryz.underlying63 hi hz0' hz1' hz2' rfl (by decide) (.slice Aq q.length cq) q.length css.flatten rfl c1H.out ⟨W6.heap.size, 0, none⟩ 1 1 [.slice a ss.length c, .int .i64 size] rfl rfl (one_req W6 _ _) (one_two _ _ _ _) (by unfold maxLen; omega) (by omega) (by simp; omega) ?_)
            intro v' w7 hown7 hg7 _ hloc
            have hH7 := Lib.hid (held_more hTaH.out hneH.out c1H.out c2H.out c3H.out c4H.out hown7 hg7 (by rw [World.size_alloc]; exact hloc))
            have hobn : ∀ k, k = w.heap.size ∨ k = w.heap.size + 1 ∨ k = wr.heap.size → some k ≠ (Value.slice Aq q.length cq).ownBlock := fun k hk e => by
              rcases hk with rfl | rfl | rfl
              · rcases c1H.out.2 with ⟨hv, _⟩ | ⟨gb, cap, cur, hv, _, hgb, _⟩
                · rw [hv] at e; cases e
                · rw [hv] at e
                  have e2 : w.heap.size = gb := Option.some.inj e
                  rw [← e2, ze6.out] at hgb
                  simp at hgb
              · exact hTaH.out.gv e.symm
              · obtain ⟨css0, k1, _⟩ := hH.out.whole
                have := (k1.lt _ e.symm).2
                omega
            have zf7 := (hg7.block wr.heap.size (by simp; omega) (hobn _ (Or.inr (Or.inr rfl)))).trans ((Lib.alloc_old W6 (.cells #[.slice a ss.length c, .int .i64 size] 69) wr.heap.size hgl).trans s1H.out)
            obtain ⟨x0, x1, x2, x3, x4, x5, x6, y0, y1, y2, y3, y4, y5, y6⟩ := in_facts zf7
            clear zf7
            have zf5 : Hid (w7.heap[w.heap.size + 1]? = some (.cells #[.string ⟨#[]⟩, .slice none 0 0, .int .i64 0, .int .i64 0, .bool false, .int .i64 0, .int .i64 0] 62 (0, 0))) := Lib.hid ((hg7.block _ (heap_lt ze5.out) (hobn _ (Or.inr (Or.inl rfl)))).trans ze5.out)
            have zf6 : Hid (w7.heap[w.heap.size]? = some (.cells #[.int .i64 A, .int .i64 B, .int .i64 L] 67 (0, 0))) := Lib.hid ((hg7.block _ (heap_lt ze6.out) (hobn _ (Or.inl rfl))).trans ze6.out)
            have hg7H := Lib.hid hg7
            clear hown7 hloc hobn hg7
            go_wp2_with fail
            all_goals first
              | (exfalso; omega)
              | (go_roundw
                 case rel => exact ⟨t.extract size t.size, _, q ++ [(ss, size)], rfl, rfl, by rw [htzH.out]; omega, by rw [htzH.out]; simp; omega, hH7, zf6, zf5, by have h := hF1; rw [hfin.out] at h; exact h⟩
                 case measure => show (t.extract size t.size).size < t.size; rw [htzH.out]; omega)
end Go.Proofs.YtjidopgohdlfdaaGreatDoor

