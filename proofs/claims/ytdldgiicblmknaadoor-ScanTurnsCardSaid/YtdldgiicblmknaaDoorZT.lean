/-
  The walk of the law of turns and scans, the document's Drop being given. The table of factors holds what the program's text lays; two lengths.
-/
import Derived.Test.YtdldgiicblmknaaDoorZF
import Derived.Test.YtdldgiicblmknaaDoorZE
import Derived.Test.YtdldgiicblmknaaDoorOpen
import Derived.Test.YtdldgiicblmknaaDoorZK

namespace Go.Proofs.YtdldgiicblmknaaDoor
open Go.RowKit

/-- A row of numbers. -/
def NumsAt (w : World) (B : Nat) (A : Option Addr) (l : List Nat) : Prop := ∀ (i x : Nat), l[i]? = some x → x < 18446744073709551616 ∧ ∃ a, A = some a ∧ a.block < B ∧ w.cell? (a.add i) = some (.int .u64 (x : Int))
theorem NumsAt.on {w w' : World} {A : Option Addr} {l : List Nat} {B : Nat} (h : NumsAt w B A l) (hb : Below B w w') : NumsAt w' B A l := fun i x hx => by
  obtain ⟨h0, a, h1, h2, h3⟩ := h i x hx
  exact ⟨h0, a, h1, h2, (hb.cell (p := a.add i) (by rw [add_block]; exact h2)).trans h3⟩
set_option maxHeartbeats 2000000 in
theorem same_any2 {w : World} {A A' : Option Addr} {c c' : Nat} {L L' : List En} (h : KeysAt w A L) (h' : KeysAt w A' L') (hk : L.map (fun e => e.2.1) = L'.map fun e => e.2.1) (hl : L.length ≤ 10000000000000) :
    Calls Tryd.prog 19 #[.slice A L.length c, .slice A' L'.length c'] w fun r w' => r = .returned (.bool true) ∧ Only [] w w' := by
  have hll : L'.length = L.length := by have := congrArg List.length hk; simpa using this.symm
  rw [hll]
  have hH := Lib.hid h
  have hH' := Lib.hid h'
  have hkH := Lib.hid hk
  clear h h' hk
  generalize hn : L.length = n at *
  have hnH := Lib.hid hn
  clear hn hll
  go_enter Tryd.func19, Tryd.ntmps19
  go_wp2_with fail
  go_loopw [5] (fun s5 wr => ∃ i : Nat, i ≤ n ∧ s5 = .int .i64 i ∧ Hid (Only [] w wr)) (fun s5 _ => n - (intOf s5).toNat)
  case atStart => exact ⟨0, by omega, rfl, Lib.hid (Only.refl _ _)⟩
  case round =>
    obtain ⟨i, hi, rfl, hon⟩ := hrel
    by_cases hil : i < n
    · obtain ⟨e, he⟩ : ∃ e, L[i]? = some e := ⟨_, List.getElem?_eq_getElem (by rw [hnH.out]; exact hil)⟩
      obtain ⟨e', he', hke⟩ : ∃ e', L'[i]? = some e' ∧ e'.2.1 = e.2.1 := by
        have h1 := congrArg (fun l => l[i]?) hkH.out
        simp only [List.getElem?_map, he, Option.map_some] at h1
        obtain ⟨e', h2, h3⟩ := Option.map_eq_some_iff.1 h1.symm
        exact ⟨e', h2, h3⟩
      obtain ⟨g1, rfl, hg1, hc1⟩ := hH.out i e he
      obtain ⟨g2, rfl, hg2, hc2⟩ := hH'.out i e' he'
      rw [hke] at hc2
      have d1 := (World.cell?_of_block (w := w) (a := ⟨g1, i, none⟩) (hon.out.2 g1 hg1 (by simp))).trans hc1
      have d2 := (World.cell?_of_block (w := w) (a := ⟨g2, i, none⟩) (hon.out.2 g2 hg2 (by simp))).trans hc2
      have y1 : wr.drew.cell? ⟨g1, i, none⟩ = some (.string e.2.1) := d1
      have y2 : wr.drew.cell? ⟨g2, i, none⟩ = some (.string e.2.1) := d2
      have hbq : (e.2.1.toList == e.2.1.toList) = true := by simp
      clear he he' hke hc1 hc2
      generalize e.2.1 = kk0 at *
      go_wp2_with fail
      go_region
      go_wp2_with fail
      go_roundw
      case rel => exact ⟨i + 1, by omega, by go_num, Lib.hid (hon.out.drewN 1)⟩
      case measure => simp [intOf]; omega
    · have : i = n := by omega
      subst this
      go_wp2_with fail
      go_ret
      exact ⟨rfl, hon.out⟩
/-- Two rows of the same texts. -/
theorem same_t {w : World} {b b' : Nat} {v v' : Value} {L : List ByteArray} (h : RowT w b v L) (h' : RowT w b' v' L) (hl : L.length ≤ 10000000000000) :
    Calls Tryd.prog 19 #[v, v'] w fun r w' => r = .returned (.bool true) ∧ Only [] w w' := by
  obtain ⟨A, cp, rfl⟩ := h.len
  obtain ⟨A', cp', rfl⟩ := h'.len
  have hk : ∀ {A : Option Addr} {cp b : Nat}, RowT w b (.slice A L.length cp) L → KeysAt w A (L.map fun k => (0, k, 0)) := fun {A cp b} hr => by
    intro j e hj
    rw [List.getElem?_map] at hj
    obtain ⟨k, hk, rfl⟩ := Option.map_eq_some_iff.1 hj
    obtain ⟨g, c, he, _, hg, hc⟩ := hr.cell hk
    cases he
    exact ⟨g, rfl, hg, hc⟩
  have hs := same_any2 (c := cp) (c' := cp') (hk h) (hk h') rfl (by simpa using hl)
  rw [List.length_map] at hs
  exact hs
theorem own_base {w : World} {B B' : Nat} {e : TypeId} {size : Nat} {v : Value} {n : Nat} {xs : List Value} (h : w.ownsRow B e size v n xs) (hB : B' ≤ B) : w.ownsRow B' e size v n xs := by
  obtain ⟨h1, h2 | ⟨g, cap, cur, e1, h3, h4⟩⟩ := h
  · exact ⟨h1, Or.inl h2⟩
  · exact ⟨h1, Or.inr ⟨g, cap, cur, e1, by omega, h4⟩⟩
theorem Rw.base {w : World} {B B' : Nat} {v : Value} {l : List (List ByteArray)} (h : Rw B w v l) (hB : B' ≤ B) : Rw B' w v l := by
  obtain ⟨vs, h1, h2⟩ := h
  refine ⟨vs, own_base h1 hB, fun i c hc => ?_⟩
  obtain ⟨u, h3, xs, h4, h5⟩ := h2 i c hc
  exact ⟨u, h3, xs, own_base h4 hB, h5⟩
theorem scanF_len {α : Type} (s : Nat) (L : Nat → List α) (hL : ∀ c, (L c).length ≤ 3000000) (count : Nat) : ∀ (f c : Nat) (acc : List α), (scanF s L count f c acc).2.length ≤ acc.length + 3000000 * f := by
  intro f
  induction f with
  | zero => intro c acc; rw [scanF_zero]; show acc.length ≤ _; omega
  | succ f ih =>
    intro c acc
    have h0 := hL c
    by_cases h : count ≤ (acc ++ L c).length ∨ nxt s c = 0
    · rw [scanF_end h, List.length_append]; omega
    · rw [scanF_more h]
      have := ih (nxt s c) (acc ++ L c)
      rw [List.length_append] at this
      omega
theorem KX_fresh (T : Nat) (seed : Int) : KX_ (newX T seed) = ⟨seed, List.replicate 4 [], [], -1⟩ := by
  unfold KX_
  rw [er_fresh]
  unfold kt keysE
  simp
theorem KX_fun {X : Tb} (hI : Inv X) : tRK (KX_ X) = tK X := funext (KX_turn hI).2

set_option maxRecDepth 100000 in
set_option maxHeartbeats 8000000 in
theorem turns_law (hD : DropOk) (seed : Int) (A : Option Addr) (c : Nat) (l : List Op3) (A2 : Option Addr) (c2 : Nat) (cs : List Nat) (w : World) (hU : U seed) (hr : OpsAt w w.heap.size A l) (hrg : ∀ x ∈ l, -9223372036854775808 ≤ x.2.2 ∧ x.2.2 ≤ 9223372036854775807) (hl : l.length ≤ 140737488355328) (hn : NumsAt w w.heap.size A2 cs) (hF : Fac w) (hz : 0 < w.heap.size) :
    Calls Tryd.prog 3 #[.int .u64 seed, .slice A l.length c, .slice A2 cs.length c2] w fun e w' => e = .returned (.bool true) ∧ Below w.heap.size w w' := by
  have hfar := Lib.hid (far_any A c l w hr hl)
  have hal : Hid (∀ w1, Below w.heap.size w w1 → Calls Tryd.prog 8 #[] w1 fun e w' => e = .returned (.bool true) ∧ Below w1.heap.size w1 w') := Lib.hid (fun w1 hb => alive_any w1 (fac_below hF hz hb) (by have := hb.size; omega))
  have hnH := Lib.hid hn
  have hDH := Lib.hid hD
  have hrH := Lib.hid hr
  have hrgH := Lib.hid hrg
  have hFH := Lib.hid hF
  have hUH := Lib.hid hU
  clear hr hF hrg hn hD
  cases hfo : farO l with
  | true =>
    rw [hfo] at hfar
    go_enter Tryd.func3, Tryd.ntmps3
    go_wp2_with (first
      | (go_at_call 7; ((with_reducible refine (hfar.out).mono ?_); rintro r w1 ⟨rfl, hb1⟩; have hb1H := Lib.hid hb1; clear hb1))
      | (go_at_call 8; ((with_reducible refine (hal.out _ hb1H.out).mono ?_); rintro e w2 ⟨rfl, hb2⟩)))
    go_ret
    exact ⟨rfl, onB hb1H.out hb2 hb1H.out.size⟩
  | false =>
    rw [hfo] at hfar
    by_cases hcl : 20 < cs.length
    · have hdc : decide ((20 : Int) < (cs.length : Int)) = true := by simp; omega
      have hdc2 : decide (20 < cs.length) = true := by simp; omega
      go_enter Tryd.func3, Tryd.ntmps3
      go_wp2_with (first
        | (go_at_call 7; ((with_reducible refine (hfar.out).mono ?_); rintro r w1 ⟨rfl, hb1⟩; have hb1H := Lib.hid hb1; clear hb1))
        | (go_at_call 8; ((with_reducible refine (hal.out _ hb1H.out).mono ?_); rintro e w2 ⟨rfl, hb2⟩)))
      go_ret
      exact ⟨rfl, onB hb1H.out hb2 hb1H.out.size⟩
    have hdc : decide ((20 : Int) < (cs.length : Int)) = false := by simp; omega
    have hdc2 : decide (20 < cs.length) = false := by simp; omega
    obtain ⟨hll, hks⟩ := farO_false hfo
    have hksH := Lib.hid hks
    clear hfo hks
    go_enter Tryd.func3, Tryd.ntmps3
    go_upto_region 5 with (first
      | (go_at_call 7; ((with_reducible refine (hfar.out).mono ?_); rintro r w1 ⟨rfl, hb1⟩))
      | (go_at_call 9; ((with_reducible refine (new_any seed _).mono ?_); rintro r w2 ⟨rfl, hw2⟩))
      | (go_at_call 10; ((with_reducible refine (fresh_ref seed _).mono ?_); rintro r w4 ⟨g, rfl, hrw, hb4⟩)))
    have hb2 := hb1.alloc hb1.size (newX w1.heap.size seed).head
    have ht2 := heap_alloc_new w1 (newX w1.heap.size seed).head
    have hok := new_ok (B := w.heap.size) w1.heap.size seed hU (fac_below hFH.out hz hb2) hz hb1.size ht2
    have hb24 := onB hb2 hb4 hb2.size
    have hb5 := hb24.alloc hb24.size (.cells #[.int .u64 seed, .slice (some ⟨g, 0, none⟩) 4 4, .slice none 0 0, .int .i64 (-1)] 31)
    have hal5 : Below w4.heap.size w4 (w4.alloc (.cells #[.int .u64 seed, .slice (some ⟨g, 0, none⟩) 4 4, .slice none 0 0, .int .i64 (-1)] 31)) := (Below.refl _ _).alloc (Nat.le_refl _) _
    have hR5 : Hid (∃ vo vn, RAt w.heap.size w4.heap.size (KX_ (newX w1.heap.size seed)) vo vn (w4.alloc (.cells #[.int .u64 seed, .slice (some ⟨g, 0, none⟩) 4 4, .slice none 0 0, .int .i64 (-1)] 31))) := Lib.hid (by
      rw [KX_fresh]
      exact ⟨_, _, ⟨heap_alloc_new w4 _, hb24.size, hb5.size, (hrw.base hb2.size).same (rsame_below hal5), Rw.nil _ _, fun k _ hk => by cases hk⟩⟩)
    have hO5 := Lib.hid (And.intro ((hok.after hb4).after hal5) (par_new w1.heap.size seed))
    have hb5H := Lib.hid hb5
    clear hok ht2 hb2 hb1 hw2 hb4 hrw hb24 hal5 hb5
    generalize w4.alloc (.cells #[.int .u64 seed, .slice (some ⟨g, 0, none⟩) 4 4, .slice none 0 0, .int .i64 (-1)] 31) = W5 at *
    generalize w4.heap.size = T2 at *
    generalize w1.heap.size = T at *
    go_wp2_with fail
    go_loopw [38] (fun s38 wr => ∃ (k : Nat) (X : Tb), k ≤ l.length ∧ s38 = .int .i64 k ∧ Hid (Ok w.heap.size X wr ∧ Par X) ∧ Hid (X.T = T) ∧ Hid (X.count ≤ k) ∧ Hid (∃ vo vn, RAt w.heap.size T2 (KX_ X) vo vn wr) ∧ Hid (Below w.heap.size w wr)) (fun s38 _ => l.length - (intOf s38).toNat)
    case atStart => exact ⟨0, _, by omega, rfl, hO5, Lib.hid rfl, Lib.hid (Nat.le_refl _), hR5, hb5H⟩
    case round =>
      obtain ⟨k, X, hk, rfl, hO, hT, hC, hR, hB⟩ := hrel
      by_cases hlt : k < l.length
      · obtain ⟨x, hx⟩ : ∃ x, l[k]? = some x := ⟨_, List.getElem?_eq_getElem hlt⟩
        obtain ⟨a, rfl, ha, x1, x2, x3⟩ := hrH.out.on hB.out k x hx
        have hxs := Lib.hid (hksH.out x (List.mem_of_getElem? hx))
        have hxr := Lib.hid (hrgH.out x (List.mem_of_getElem? hx))
        have hltH := Lib.hid hlt
        obtain ⟨kd, ok, ov⟩ := x
        simp only at x1 x2 x3 hxs hxr
        clear hx
        have hgo := heap_alloc_new wr (.cells #[.int .i64 kd, .string ok, .int .i64 ov] 34)
        have hdo : Hid (Calls Tryd.prog 11 #[.pointer (some ⟨T, 0, none⟩), .agg #[.int .i64 kd, .string ok, .int .i64 ov]] (wr.alloc (.cells #[.int .i64 kd, .string ok, .int .i64 ov] 34)) fun r w' => ∃ G, r = .returned (.tuple #[]) ∧ Did w.heap.size X G kd ok ov (wr.alloc (.cells #[.int .i64 kd, .string ok, .int .i64 ov] 34)) w' ∧ (kd = 1 → ∃ gone w3 w4, DropRes2 w.heap.size X G ok gone w3 w4)) := Lib.hid (by
          have h := does_at2 (hO.out.1.on ((Only.refl [] wr).alloc (.cells #[.int .i64 kd, .string ok, .int .i64 ov] 34)) (by simp) (by simp)) hO.out.2 kd ok ov (by have := hxs.out; omega) hxr.out (by have := hC.out; have := hltH.out; omega)
          rw [hT.out] at h
          exact h)
        have hgoH := Lib.hid hgo
        clear hgo
        go_upto_region 9 with (go_at_call 11; ((with_reducible refine (hdo.out).mono ?_); rintro r w6 ⟨G, rfl, hG, hG2⟩))
        obtain ⟨vo, vn, hR0⟩ := hR.out
        have hbo := hB.out.alloc hB.out.size (.cells #[.int .i64 kd, .string ok, .int .i64 ov] 34)
        have hoo := hO.out.1.on ((Only.refl [] wr).alloc (.cells #[.int .i64 kd, .string ok, .int .i64 ov] 34)) (by simp) (by simp)
        have hb6 := Lib.hid (hbo.trans (hG.only.below hbo.size (fun x hx => hO.out.1.live.own x hx)))
        have hgn : wr.heap.size ∉ X.blocks := fun hm => by have := hO.out.1.live.here.lt hm; omega
        have hop := hG.only.keep hgoH.out hgn
        have q0 := Lib.cell_of_heap hop 0
        have q1 := Lib.cell_of_heap hop 1
        have q2 := Lib.cell_of_heap hop 2
        have hR6 := (hR0.after ((Below.refl wr.heap.size wr).alloc (Nat.le_refl _) (.cells #[.int .i64 kd, .string ok, .int .i64 ov] 34))).same (rsame_only hG.only (here_not_ref hoo.live.here)) hb6.out.size
        have hdd := Lib.hid (did_at hDH.out hR6 hO.out.1.inv hG hG2 (by have := hxs.out; omega) hxr.out (by have := hC.out; have := hltH.out; omega))
        have hGH := Lib.hid hG
        clear hR0 hbo hoo hgn hop hR6 hG hG2 x1 x2 x3
        go_wp2_with (go_at_call 12; ((with_reducible refine (hdd.out).mono ?_); rintro r w7 ⟨rfl, vo', vn', hR7, hO7⟩; have hR7H := Lib.hid hR7; have hO7H := Lib.hid hO7; clear hR7 hO7))
        go_roundw
        case rel => exact ⟨k + 1, G, by omega, by go_num, Lib.hid ⟨hGH.out.ok.ref hO7H.out, hGH.out.par⟩, Lib.hid (hGH.out.same.1.trans hT.out), Lib.hid (by have := hGH.out.cnt; have := hC.out; omega), Lib.hid ⟨vo', vn', hR7H.out⟩, Lib.hid (hb6.out.trans hO7H.out.below)⟩
        case measure => simp [intOf]; omega
      · obtain ⟨vo, vn, hR0⟩ := hR.out
        have hI := hO.out.1.inv
        have hP := hO.out.2
        have hIH := Lib.hid hI
        have hKo := KX_ok hI
        have hKp := KX_par hI hP
        have hts := (KX_turn hI).1
        have htk := KX_fun hI
        have hB0 := hO.out.1.live.le
        have hTn : Hid (∀ W, Below wr.heap.size wr W → ∀ x : Nat, x < 18446744073709551616 → Calls Tryd.prog 13 #[.pointer (some ⟨T, 0, none⟩), .int .u64 (x : Int)] W fun r w' => ∃ v', r = .returned (.tuple #[.int .u64 ((nxt (tS X) x : Nat) : Int), v']) ∧ RowT w' W.heap.size v' (tK X x) ∧ Below W.heap.size W w') := Lib.hid fun W hb x hx => by
          have h := turn_at (hO.out.1.after hb) hP x hx
          rw [hT.out] at h
          exact h
        have hrT : Hid (∀ W, Below wr.heap.size wr W → ∀ x : Nat, x < 18446744073709551616 → Calls Tryd.prog 14 #[.pointer (some ⟨T2, 0, none⟩), .int .u64 (x : Int)] W fun r w' => ∃ v', r = .returned (.tuple #[.int .u64 ((nxt (tS X) x : Nat) : Int), v']) ∧ RowT w' W.heap.size v' (tK X x) ∧ Below W.heap.size W w') := Lib.hid fun W hb x hx => by
          have h := rturn_at (hR0.after hb) hKo hKp x hx
          rw [hts, htk] at h
          exact h
        have hSn : Hid (∀ W, Below wr.heap.size wr W → ∀ x : Nat, x < 18446744073709551616 → ∀ n : Int, -9223372036854775808 ≤ n ∧ n ≤ 9223372036854775807 → Calls Tryd.prog 15 #[.pointer (some ⟨T, 0, none⟩), .int .u64 (x : Int), .int .i64 n] W fun r w' => ∃ v', r = .returned (.tuple #[.int .u64 (((scanF (tS X) (tK X) (cntN n) (turnsN n) x []).1 : Nat) : Int), v']) ∧ RowT w' W.heap.size v' (scanF (tS X) (tK X) (cntN n) (turnsN n) x []).2 ∧ Below W.heap.size W w') := Lib.hid fun W hb x hx n hn => by
          have h := scan_at (hO.out.1.after hb) hP x hx n hn
          rw [hT.out] at h
          exact h
        have hrS : Hid (∀ W, Below wr.heap.size wr W → ∀ x : Nat, x < 18446744073709551616 → ∀ n : Int, -9223372036854775808 ≤ n ∧ n ≤ 9223372036854775807 → Calls Tryd.prog 16 #[.pointer (some ⟨T2, 0, none⟩), .int .u64 (x : Int), .int .i64 n] W fun r w' => ∃ v', r = .returned (.tuple #[.int .u64 (((scanF (tS X) (tK X) (cntN n) (turnsN n) x []).1 : Nat) : Int), v']) ∧ RowT w' W.heap.size v' (scanF (tS X) (tK X) (cntN n) (turnsN n) x []).2 ∧ Below W.heap.size W w') := Lib.hid fun W hb x hx n hn => by
          have h := rscan_at (hR0.after hb) hKo hKp x hx n hn
          rw [hts, htk] at h
          exact h
        have hPk : Hid (∀ W, Below wr.heap.size wr W → ∀ x : Nat, x < 18446744073709551616 → Calls Tryd.prog 17 #[.pointer (some ⟨T, 0, none⟩), .int .u64 (x : Int)] W fun r w' => r = .returned (.tuple #[.string ((kys X.ents).getD (x % X.ents.length) ⟨#[]⟩), .bool (decide (0 < X.ents.length))]) ∧ Below W.heap.size W w') := Lib.hid fun W hb x hx => by
          have h := pick_at (hO.out.1.after hb) x hx
          rw [hT.out] at h
          exact h
        have hrK : Hid (∀ W, Below wr.heap.size wr W → Calls Tryd.prog 18 #[.pointer (some ⟨T2, 0, none⟩)] W fun r w' => ∃ v', r = .returned v' ∧ RowT w' W.heap.size v' (kys X.ents) ∧ Below W.heap.size W w') := Lib.hid fun W hb => by
          have h := keys_ref (hR0.after hb) hKo
          rw [KX_flat hI] at h
          exact h
        have htl := Lib.hid (fun x => tK_len hI hP x)
        have hsl := Lib.hid (fun (n : Int) (x : Nat) => show (scanF (tS X) (tK X) (cntN n) (turnsN n) x []).2.length ≤ 10000000000000 by have := scanF_len (tS X) (tK X) (fun c => tK_len hI hP c) (cntN n) (turnsN n) x []; have := turnsN_le n; simp only [List.length_nil] at *; omega)
        have hnl : X.ents.length ≤ 1000000 := by rw [← hI.cnt]; exact hI.good.ct
        have hkl := Lib.hid (kys_len X.ents)
        generalize hS : scanF (tS X) (tK X) = sF at *
        generalize tS X = s at *
        generalize tK X = tl at *
        generalize kys X.ents = K at *
        generalize X.ents.length = n at *
        clear hO hT hC hR hI hP hKo hKp hts htk hR0 hIH hS
        generalize wr = w5 at *
        go_wp2_with fail
        go_loopw [50] (fun s50 wz => ∃ j : Nat, j ≤ cs.length ∧ s50 = .int .i64 j ∧ Hid (Below w5.heap.size w5 wz)) (fun s50 _ => cs.length - (intOf s50).toNat)
        case atStart => exact ⟨0, by omega, rfl, Lib.hid (Below.refl _ _)⟩
        case round =>
          obtain ⟨j, hj, rfl, hbz⟩ := hrel
          have hbw := Lib.hid (onB hB.out hbz.out hB.out.size)
          by_cases hjl : j < cs.length
          · obtain ⟨x, hx⟩ : ∃ x, cs[j]? = some x := ⟨_, List.getElem?_eq_getElem hjl⟩
            obtain ⟨hx0, a, rfl, ha, x1⟩ := hnH.out.on hbw.out j x hx
            have hj1 : -9223372036854775808 ≤ (j : Int) - 1 ∧ (j : Int) - 1 ≤ 9223372036854775807 := by omega
            have c1 := Lib.hid (hTn.out wr hbz.out x hx0)
            have hxs := Lib.hid hx0
            have hjs := Lib.hid hj1
            clear hx hj1
            go_upto_region 20 with (first
              | (go_at_call 13; ((with_reducible refine (c1.out).mono ?_); rintro r wa ⟨va, rfl, hoa, hba⟩; have hbA := Lib.hid (onB hbz.out hba hbz.out.size); have hoaH := Lib.hid hoa; have hbaH := Lib.hid hba; clear hoa hba))
              | (go_at_call 14; ((with_reducible refine (hrT.out _ hbA.out x hxs.out).mono ?_); rintro r wb ⟨vb, rfl, hob, hbb⟩; have hbB := Lib.hid (onB hbA.out hbb hbA.out.size); have hobH := Lib.hid hob; have hbbH := Lib.hid hbb; clear hob hbb))
              | (go_at_call 15; ((with_reducible refine (hSn.out _ hbB.out x hxs.out _ hjs.out).mono ?_); rintro r wc ⟨vc, rfl, hoc, hbc⟩; have hbC := Lib.hid (onB hbB.out hbc hbB.out.size); have hocH := Lib.hid hoc; have hbcH := Lib.hid hbc; clear hoc hbc))
              | (go_at_call 16; ((with_reducible refine (hrS.out _ hbC.out x hxs.out _ hjs.out).mono ?_); rintro r wd ⟨vd, rfl, hod, hbd⟩; have hbD := Lib.hid (onB hbC.out hbd hbC.out.size); have hodH := Lib.hid hod; have hbdH := Lib.hid hbd; clear hod hbd))
              | (go_at_call 17; ((with_reducible refine (hPk.out _ hbD.out x hxs.out).mono ?_); rintro r we ⟨rfl, hbe⟩; have hbE := Lib.hid (onB hbD.out hbe hbD.out.size); have hbeH := Lib.hid hbe; clear hbe))
              | (go_at_call 18; ((with_reducible refine (hrK.out _ hbE.out).mono ?_); rintro r wf ⟨vf, rfl, hof, hbf⟩; have hbF := Lib.hid (onB hbE.out hbf hbE.out.size); have hofH := Lib.hid hof; have hbfH := Lib.hid hbf; clear hof hbf)))
            have s1 := Lib.hid (same_t (hoaH.out.stay (onB (onB (onB (onB hbbH.out hbcH.out hbbH.out.size) hbdH.out (onB hbbH.out hbcH.out hbbH.out.size).size) hbeH.out (onB (onB hbbH.out hbcH.out hbbH.out.size) hbdH.out (onB hbbH.out hbcH.out hbbH.out.size).size).size) hbfH.out (onB (onB (onB hbbH.out hbcH.out hbbH.out.size) hbdH.out (onB hbbH.out hbcH.out hbbH.out.size).size) hbeH.out (onB (onB hbbH.out hbcH.out hbbH.out.size) hbdH.out (onB hbbH.out hbcH.out hbbH.out.size).size).size).size)) (hobH.out.stay (onB (onB (onB hbcH.out hbdH.out hbcH.out.size) hbeH.out (onB hbcH.out hbdH.out hbcH.out.size).size) hbfH.out (onB (onB hbcH.out hbdH.out hbcH.out.size) hbeH.out (onB hbcH.out hbdH.out hbcH.out.size).size).size)) (by have := htl.out x; omega))
            have rc := Lib.hid (hocH.out.stay (onB (onB hbdH.out hbeH.out hbdH.out.size) hbfH.out (onB hbdH.out hbeH.out hbdH.out.size).size))
            have rd := Lib.hid (hodH.out.stay (onB hbeH.out hbfH.out hbeH.out.size))
            have s2 := Lib.hid (fun (w8 : World) (ho : Only [] wf w8) => same_t (rc.out.only ho (by simp)) (rd.out.only ho (by simp)) (hsl.out _ x))
            obtain ⟨A6, c6, hv6⟩ := hofH.out.len
            rw [hkl.out] at hv6
            subst hv6
            by_cases hn0 : n = 0
            · have hz1 : decide (0 < n) = false := by simp; omega
              have hz2 : decide ((0 : Int) < (n : Int)) = false := by simp; omega
              go_wp2_with (first
                | (go_at_call 19; ((with_reducible refine (s1.out).mono ?_); rintro r w8 ⟨rfl, ho8⟩; have ho8H := Lib.hid ho8; clear ho8))
                | (go_at_call 19; ((with_reducible refine (s2.out _ ho8H.out).mono ?_); rintro r w9 ⟨rfl, ho9⟩; have ho9H := Lib.hid ho9; clear ho9)))
              go_roundw
              case rel => exact ⟨j + 1, by omega, by go_num, Lib.hid ((hbF.out.trans (ho8H.out.below hbF.out.size (by simp))).trans (ho9H.out.below (by have := hbF.out.size; have := ho8H.out.size; omega) (by simp)))⟩
              case measure => simp [intOf]; omega
            · have hz1 : decide (0 < n) = true := by simp; omega
              have hz2 : decide ((0 : Int) < (n : Int)) = true := by simp; omega
              have hmI : ((x : Int) % (n : Int)) = ((x % n : Nat) : Int) := by omega
              have hmlt := Nat.mod_lt x (show 0 < n by omega)
              obtain ⟨e, he⟩ : ∃ e, K[x % n]? = some e := ⟨_, List.getElem?_eq_getElem (by rw [hkl.out]; exact hmlt)⟩
              have hge : K.getD (x % n) ⟨#[]⟩ = e := by simp [he]
              obtain ⟨g6, c6', heq, _, hg6, hcell⟩ := hofH.out.cell he
              have hA6 : A6 = some ⟨g6, 0, none⟩ := by cases heq; rfl
              subst hA6
              have hcellH := Lib.hid (fun (w9 : World) (ho : Only [] wf w9) => (World.cell?_of_block (w := wf) (a := ⟨g6, x % n, none⟩) (ho.2 g6 hg6 (by simp))).trans hcell)
              have heH := Lib.hid he
              have hge2 : (K[x % n]?).getD ⟨#[]⟩ = e := by simp [he]
              try rw [hge]
              try rw [hge2]
              clear he heq hcell hge hge2
              generalize x % n = xm at *
              go_wp2_with (first
                | (go_at_call 19; ((with_reducible refine (s1.out).mono ?_); rintro r w8 ⟨rfl, ho8⟩; have ho8H := Lib.hid ho8; clear ho8))
                | (go_at_call 19; ((with_reducible refine (s2.out _ ho8H.out).mono ?_); rintro r w9 ⟨rfl, ho9⟩; have ho9H := Lib.hid ho9; have hc9 := hcellH.out w9 (ho8H.out.trans ho9 (fun _ hx => by cases hx)); clear ho9)))
              go_roundw
              case rel => exact ⟨j + 1, by omega, by go_num, Lib.hid ((hbF.out.trans (ho8H.out.below hbF.out.size (by simp))).trans (ho9H.out.below (by have := hbF.out.size; have := ho8H.out.size; omega) (by simp)))⟩
              case measure => simp [intOf]; omega
          · have hje : j = cs.length := by omega
            subst hje
            have halH := Lib.hid (hal.out _ hbw.out)
            go_wp2_with (go_at_call 8; ((with_reducible refine (halH.out).mono ?_); rintro e w9 ⟨rfl, hb9⟩))
            go_ret
            exact ⟨rfl, onB hbw.out hb9 hbw.out.size⟩

end Go.Proofs.YtdldgiicblmknaaDoor

/-
  How a row of numbers that is handed over is opened; the law with the document's Drop put in. No condition.
-/
namespace Go.Proofs.YtdldgiicblmknaaDoor
open Go.RowKit Go.ChangeShapes Go.WideShapes Go.Deep

theorem cellsNum : Tryd.prog.cellsOf 22 = 1 := by kernel_rfl
set_option maxRecDepth 100000 in
theorem wfu64 {n : Int} (h : (Lit.int .u64 n).wf = true) : 0 ≤ n ∧ n < 18446744073709551616 := by
  simp [Lit.wf, IntKind.min, IntKind.max, IntKind.signed, IntKind.bits] at h
  omega
theorem num_at {H : Type} {enc : TypeId × Value → H} {W : World} {fuel : Nat} {a : Addr} {cs : List Value} {x : DataW H × List MemPlace} (hc : W.cells? 0 a 1 = some cs) (h : DataW.trod enc Tryd.prog W 0 (fun _ => true) true fuel 22 cs = some x) :
    ∃ n : Nat, a.block < W.heap.size ∧ W.cell? a = some (.int .u64 (n : Int)) ∧ n < 18446744073709551616 := by
  obtain ⟨n, n1, rfl, n3⟩ := DataW.trod_int Tryd.underlying22 h
  subst n1
  obtain ⟨_, _, h7⟩ := World.cells?_some hc
  have z0 : W.cell? a = some (.int .u64 n) := by simpa [Addr.add] using h7 0 (by omega)
  obtain ⟨q1, q2⟩ := wfu64 n3
  refine ⟨n.toNat, block_lt_of_cell z0, ?_, by omega⟩
  rw [z0, Int.toNat_of_nonneg q1]
theorem nums_read {H : Type} {enc : TypeId × Value → H} {W : World} {v : Value} {fuel : Nat} {x : DataW H × List MemPlace} (h : DataW.trod enc Tryd.prog W 0 (fun _ => true) true fuel 24 [v] = some x) (_hw : ∀ n ∈ x.1.weights Tryd.prog 24, n ≤ reachBytes) :
    ∃ (l : List Nat) (A : Option Addr) (c : Nat), v = .slice A l.length c ∧ NumsAt W W.heap.size A l ∧ True ∧ True := by
  rcases open_slice Tryd.underlying24 h with ⟨hcs, hx⟩ | ⟨a, len, cap, m, n, D, Pl, hcs, _, hl, hm, hs, hx, he⟩
  · simp at hcs
    exact ⟨[], none, 0, hcs, fun i x h => by simp at h, trivial, trivial⟩
  · simp at hcs
    simp only [if_true] at hs
    rw [cellsNum] at he
    obtain ⟨l, hll, hlq⟩ := list_of (Q := fun i (o : Nat) => a.block < W.heap.size ∧ W.cell? (a.add i) = some (.int .u64 (o : Int)) ∧ o < 18446744073709551616) len fun i hi => by
      obtain ⟨cs, h3, h4⟩ := he i (by omega)
      rw [Nat.mul_one] at h3
      obtain ⟨o, h5, h6⟩ := num_at h3 h4
      rw [add_block] at h5
      exact ⟨o, h5, h6⟩
    refine ⟨l, some a, cap, by rw [hll]; exact hcs, fun i o ho => ?_, trivial, trivial⟩
    obtain ⟨h5, h6, h7⟩ := hlq i o ho
    exact ⟨h7, a, rfl, h5, h6⟩

theorem drop_ok : DropOk := fun _ _ _ _ _ _ h hk hks hnd key hs => drop_ref h hk hks hnd key hs

end Go.Proofs.YtdldgiicblmknaaDoor
