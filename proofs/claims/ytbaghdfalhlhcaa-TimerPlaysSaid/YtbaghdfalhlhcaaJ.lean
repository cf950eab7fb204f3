/-
  The walk of Drop. Premises: a timer as it lies.
-/
import Derived.Test.YtbaghdfalhlhcaaI
namespace Go.Proofs.Ytbaghdfalhlhcaa
open Go.RowKit

theorem wpList_mdel {w : World} {ops : Array Oper} {rest : List Oper} {o : Oper} {a : Act} {Q : Exit → Act → World → Prop} (hgd : o.guard = none) (m x : Operand)
    (ho : o.op = .call { callee := .builtin .delete, args := #[m, x], argTypes := #[51, 9] }) {b c : Nat} {f : ByteArray → Option Nat} (k : ByteArray) (hm : a.eval m = .map (some b)) (hx : a.eval x = .string k)
    (hown : MapAt w b c f) (hk : k.size ≤ maxLen) (hf : f k ≠ none)
    (h : ∀ w', MapAt w' b (c - 1) (unnote f k) → Only [b] w w' → wpList Try.prog ops Q rest (a.put o.dst (.tuple #[])) w') : wpList Try.prog ops Q (o :: rest) a w := by
  refine wpList_plain hgd fun K hK => ?_
  obtain ⟨w', hr, r1, r2⟩ := hown.del k hk hf o.type
  unfold Oper.wp execOp
  simp only [ho, resolve, invoke, builtin, Sem.run_bind, Sem.run_pure, Result.andThen_ok, List.map_toArray, List.map_cons, List.map_nil, hm, hx, hr]
  exact hK _ _ (h w' r1 r2)
theorem drop_nil (w : World) (k : ByteArray) : Calls Try.prog 12 #[.pointer none, .string k] w fun e w' => e = .returned (.bool false) ∧ w = w' := by
  have hf := Lib.hid (fun w => find_nil w k)
  go_enter Try.func12, Try.ntmps12
  go_wp2_with (go_at_call 23; ((with_reducible refine (hf.out _).mono ?_); rintro e w' ⟨rfl, rfl⟩))
  all_goals go_ret
  all_goals exact ⟨rfl, rfl⟩
theorem drop_none {w : World} {p : Nat} {O : List Nat} {h : List Sc} (hT : Tm w p O h) (k : ByteArray) (hk : k.size ≤ maxLen) (hn : ∀ x ∈ h, x.1 ≠ k) :
    Calls Try.prog 12 #[.pointer (some ⟨p, 0, none⟩), .string k] w fun e w' => e = .returned (.bool false) ∧ w = w' := by
  have hf := Lib.hid (find_none hT k hk hn)
  clear hT
  go_enter Try.func12, Try.ntmps12
  go_wp2_with (go_at_call 23; ((with_reducible refine (hf.out).mono ?_); rintro e w' ⟨⟨x, rfl⟩, rfl⟩))
  all_goals go_ret
  all_goals exact ⟨rfl, rfl⟩
/-- What lies behind the going of a key: the last one in its place, its note gone. -/
theorem Tg.out {w W : World} {p m g cap n i : Nat} {h : List Sc} {f : ByteArray → Option Nat} (k : Tg w p (.slice (some ⟨g, 0, none⟩) (n + 1) cap) m (n + 1) h f) (hl : h.length = n + 1) (hnt : NtAll h f) {x : Sc} (hx : h[i]? = some x)
    (hhead : W.heap[p]? = some (.cells #[.slice (some ⟨g, 0, none⟩) n cap, .map (some m)] 53 (0, 0))) (hrow : RowS W 0 (.slice (some ⟨g, 0, none⟩) n cap) (outL h i)) (hmap : MapAt W m n (unnote f x.1)) :
    Tg W p (.slice (some ⟨g, 0, none⟩) n cap) m n (outL h i) (unnote f x.1) ∧ Nt (outL h i) (unnote f x.1) i ∧ (i = n → NtAll (outL h i) (unnote f x.1)) := by
  have hp := out_perm (List.Perm.refl h) k.uq hx
  have hlen : (outL h i).length = n := by rw [outL_len, hl]; omega
  have hfew := k.few
  have hnt' : Nt (outL h i) (unnote f x.1) i := fun q y hq hqi => by
    obtain ⟨hql, _⟩ := List.getElem?_eq_some_iff.1 hq
    rw [outL_get (by rw [hl]; omega), if_neg hqi] at hq
    unfold unnote
    rw [if_neg (fun e => hqi (uniq_at k.uq hq hx e))]
    exact hnt q y hq
  refine ⟨⟨hhead, hrow, hmap, by omega, k.ap1, k.ap2, k.ap3, fun y hy => k.keys y (mem_dropK.1 (hp.mem_iff.1 hy)).1, by omega, uniq_perm hp (dropK_uniq k.uq _), fun q hq => ?_⟩, hnt', fun hin q y hq => ?_⟩
  · unfold unnote at hq
    split at hq
    · exact absurd rfl hq
    · next hne =>
      obtain ⟨y, hy, e⟩ := k.dom q hq
      exact ⟨y, hp.mem_iff.2 (mem_dropK.2 ⟨hy, fun e2 => hne (e.symm.trans e2)⟩), e⟩
  · obtain ⟨hql, _⟩ := List.getElem?_eq_some_iff.1 hq
    exact hnt' q y hq (by omega)
theorem Done.after {w w1 w' : World} {p : Nat} {O : List Nat} {h : List Sc} (ho : Only O w w1) (k : Done w1 p O h w') : Done w p O h w' := by
  obtain ⟨O', h1, h2, h3⟩ := k
  refine ⟨O', h1, ho.trans h2 (fun x hx => Or.inl hx), fun b hb => (h3 b hb).imp id (fun h => ?_)⟩
  have := ho.size
  omega
set_option maxHeartbeats 16000000 in
theorem drop_some {w : World} {p m g cap n i : Nat} {h : List Sc} {f : ByteArray → Option Nat} (k : Tg w p (.slice (some ⟨g, 0, none⟩) (n + 1) cap) m (n + 1) h f) (hl : h.length = n + 1) (hnt : NtAll h f) (hh : Hp (el h) h.length) {x : Sc} (hx : h[i]? = some x)
    (hfind : Calls Try.prog 23 #[.pointer (some ⟨p, 0, none⟩), .string x.1] w fun e w' => e = .returned (.tuple #[.int .i64 (i : Int), .bool true]) ∧ w = w') :
    Calls Try.prog 12 #[.pointer (some ⟨p, 0, none⟩), .string x.1] w fun e w' => e = .returned (.bool true) ∧ ∃ h', Done w p (own p (.slice (some ⟨g, 0, none⟩) (n + 1) cap) (some m)) h' w' ∧ h'.Perm (outL h i) ∧ Hp (el h') h'.length := by
  have hil : i < h.length := (List.getElem?_eq_some_iff.1 hx).1
  have hfew := k.few
  have hin : i < n + 1 := by omega
  have hkH := Lib.hid k
  have hfH := Lib.hid hfind
  have hc0 : w.cell? ⟨p, 0, none⟩ = some (.slice (some ⟨g, 0, none⟩) (n + 1) cap) := Lib.cell_of_heap k.head 0
  obtain ⟨q1, q2, q3, C, hb, hCs, hC⟩ := rowS_block k.row
  have hlast : h[n]? = some (el h n) := el_get (by omega)
  obtain ⟨s1, s2⟩ := hC n _ hlast
  obtain ⟨s3, s4⟩ := hC i _ hx
  have z1 : w.cell? ⟨g, n * 2, none⟩ = some (.string (el h n).1) := by rw [Joins.cell_of_block hb]; exact s1
  have z2 : w.cell? ⟨g, n * 2 + 1, none⟩ = some (.int .i64 (el h n).2) := by rw [Joins.cell_of_block hb]; exact s2
  have z3 : w.cell? ⟨g, i * 2, none⟩ = some (.string x.1) := by rw [Joins.cell_of_block hb]; exact s3
  have z4 : ∀ u, (w.setCell ⟨g, i * 2, none⟩ u).cell? ⟨g, i * 2 + 1, none⟩ = some (.int .i64 x.2) := fun u => by rw [set_other _ (Or.inr (by omega)), Joins.cell_of_block hb]; exact s4
  have z5 : ∀ q, w.frozen? ⟨g, q, none⟩ = false := fun q => Joins.unfrozen_of_block hb q
  have z6 : ∀ u q, (w.setCell ⟨g, i * 2, none⟩ u).frozen? ⟨g, q, none⟩ = false := fun u q => Joins.unfrozen_of_block (Joins.block_setCell hb u) q
  have hix := run_ixS g i (n + 1) cap hin
  have hnx := run_ixS g n (n + 1) cap (by omega)
  have hins : Hid (RowS ((w.setCell ⟨g, i * 2, none⟩ (.string (el h n).1)).setCell ⟨g, i * 2 + 1, none⟩ (.int .i64 (el h n).2)) 0 (.slice (some ⟨g, 0, none⟩) (n + 1) cap) (h.set i (el h n))) := Lib.hid (by
    have := k.row
    rw [← hl] at this ⊢
    exact rowS_put this hil (el h n))
  have hset : Hid (Only [g] w ((w.setCell ⟨g, i * 2, none⟩ (.string (el h n).1)).setCell ⟨g, i * 2 + 1, none⟩ (.int .i64 (el h n).2))) := Lib.hid (((Only.refl [g] w).set (p := ⟨g, i * 2, none⟩) (Or.inl (by simp)) _).set (p := ⟨g, i * 2 + 1, none⟩) (Or.inl (by simp)) _)
  have hnb : (n : Int) ≤ 1000000 := by omega
  have hib : (i : Int) < (n : Int) + 1 := by omega
  have hdel : Hid (∀ W : World, RowS W 0 (.slice (some ⟨g, 0, none⟩) (n + 1) cap) (h.set i (el h n)) → Calls Try.prog 25 #[.slice (some ⟨g, 0, none⟩) (n + 1 : Nat) cap, .int .i64 (n : Int), .int .i64 ((n : Int) + 1)] W fun e w' => e = .returned (.slice (some ⟨g, 0, none⟩) n cap) ∧ RowS w' 0 (.slice (some ⟨g, 0, none⟩) n cap) ((h.set i (el h n)).take n) ∧ Only [g] W w') := Lib.hid (fun W hW => by
    have := delete_last (k := n) hW
    rw [show ((n + 1 : Nat) : Int) = (n : Int) + 1 by omega] at this
    exact this)
  obtain ⟨N, hN⟩ : ∃ N, N = n + 1 := ⟨_, rfl⟩
  have hN1 : (N : Int) - 1 = (n : Int) := by omega
  have hNH := Lib.hid hN
  have hkeys := Lib.hid (k.keys x (List.mem_of_getElem? hx))
  have hfx := Lib.hid (hnt i x hx)
  have hxH := Lib.hid hx
  have hlH := Lib.hid hl
  have hntH := Lib.hid hnt
  have hhH := Lib.hid hh
  clear k hl hnt hh hx hfind hil hfew hin hb hCs hC hlast s1 s2 s3 s4 q1 q2 q3
  have hout : Hid ((h.set i (el h n)).take n = outL h i) := Lib.hid (by unfold outL; rw [hlH.out]; rfl)
  generalize el h n = y at *
  obtain ⟨xa, xs⟩ := x
  obtain ⟨ya, ys⟩ := y
  simp only at z1 z2 z3 z4 hkeys hfx hfH hins hset hdel ⊢
  rw [← hN] at hc0 hix hnx hins hdel ⊢
  clear hN
  go_enter Try.func12, Try.ntmps12
  go_upto_region 5 with (go_at_call 23; ((with_reducible refine (hfH.out).mono ?_); rintro e w' ⟨rfl, rfl⟩))
  go_region
  generalize ((w.setCell ⟨g, i * 2, none⟩ (.string ya)).setCell ⟨g, i * 2 + 1, none⟩ (.int .i64 ys)) = w2 at *
  have ho3 : Hid (Only [g] w w2.drew) := Lib.hid hset.out.drew
  have hr3 := Lib.hid (hins.out.only ((Only.refl [] w2).drew) (by simp))
  clear hins hset z1 z2 z3 z4 z5 z6 hix hnx hc0
  go_upto_region 6 with (fail)
  generalize w2.drew = w3 at *
  have hk0 := hkH.out
  rw [← hNH.out] at hk0
  have hgp : Hid (p ∉ [g] ∧ m ∉ [g]) := Lib.hid ⟨fun e => hk0.ap1 (by rw [List.mem_singleton.1 e]; rfl), fun e => hk0.ap3 (by rw [List.mem_singleton.1 e]; rfl)⟩
  have hh3 := Lib.hid (ho3.out.keep hk0.head hgp.out.1)
  have hm3 := Lib.hid (hk0.map.keep ho3.out hgp.out.2)
  have c3 : w3.cell? ⟨p, 0, none⟩ = some (.slice (some ⟨g, 0, none⟩) N cap) := Lib.cell_of_heap hh3.out 0
  have hkH2 := Lib.hid hk0
  clear hk0
  go_upto_region 7 with (first
    | (go_at_call 25; ((with_reducible refine (hdel.out _ hr3.out).mono ?_); rintro e w4 ⟨rfl, hr4, ho4⟩; have hh4 := Lib.hid (ho4.keep hh3.out hgp.out.1); have hm4 := Lib.hid (hm3.out.keep ho4 hgp.out.2); have c4 : w4.cell? ⟨p, 0, none⟩ = some (.slice (some ⟨g, 0, none⟩) N cap) := Lib.cell_of_heap hh4.out 0; have f4 : w4.frozen? ⟨p, 0, none⟩ = false := Joins.unfrozen_of_block hh4.out 0; have hr4H := Lib.hid hr4; have ho4H := Lib.hid ho4; clear hr4 ho4)))
  have ho5 : Hid (Only [p] w4 (w4.setCell ⟨p, 0, none⟩ (.slice (some ⟨g, 0, none⟩) n cap))) := Lib.hid ((Only.refl [p] w4).set (p := ⟨p, 0, none⟩) (Or.inl (by simp)) _)
  have hh5 := Lib.hid (Joins.block_setCell (i := 0) hh4.out (.slice (some ⟨g, 0, none⟩) n cap))
  have hm5 := Lib.hid (hm4.out.keep ho5.out (fun e => hkH2.out.ap2 (List.mem_singleton.1 e)))
  have hr5 := Lib.hid (hr4H.out.only ho5.out (fun b hb e => hkH2.out.ap1 (by rw [← List.mem_singleton.1 e]; exact hb)))
  clear hr4H hm4 hh4 c4 f4 hr3 hh3 hm3 c3 hdel
  generalize w4.setCell ⟨p, 0, none⟩ (.slice (some ⟨g, 0, none⟩) n cap) = w5 at *
  have d1 : w5.cell? ⟨p, 1, none⟩ = some (.map (some m)) := Lib.cell_of_heap hh5.out 1
  go_upto_region 8 with (first
    | (refine wpList_mdel (w := w5) (o := ⟨none, .call ⟨_, #[.tmp 49, .tmp 50], _⟩, _, _, _, _⟩) (by rfl) (.tmp 49) (.tmp 50) (by rfl) xa (by rfl) (by rfl) hm5.out hkeys.out (by rw [hfx.out]; simp) ?_; intro w6 hm6 ho6; have hm6H := Lib.hid hm6; have ho6H := Lib.hid ho6; clear hm6 ho6))
  have hhead6 : w6.heap[p]? = some (.cells #[.slice (some ⟨g, 0, none⟩) n cap, .map (some m)] 53 (0, 0)) := ho6H.out.keep hh5.out (fun e => hkH2.out.ap2 (List.mem_singleton.1 e).symm)
  have hrow6 : RowS w6 0 (.slice (some ⟨g, 0, none⟩) n cap) (outL h i) := by
    have := hr5.out.only ho6H.out (fun b hb e => hkH2.out.ap3 (by rw [← List.mem_singleton.1 e]; exact hb))
    rw [hout.out] at this
    exact this
  have hm6' : MapAt w6 m n (unnote f xa) := by
    have := hm6H.out
    rw [hNH.out] at this
    exact this
  obtain ⟨k6, nt6, na6⟩ := hkH.out.out hlH.out hntH.out hxH.out hhead6 hrow6 hm6'
  have hO6 : Hid (Only (own p (.slice (some ⟨g, 0, none⟩) N cap) (some m)) w w6) := Lib.hid (by
    have m1 : ∀ x ∈ [g], x ∈ own p (.slice (some ⟨g, 0, none⟩) N cap) (some m) := fun x hx => by rw [List.mem_singleton.1 hx]; exact own_r rfl
    have m2 : ∀ x ∈ [p], x ∈ own p (.slice (some ⟨g, 0, none⟩) N cap) (some m) := fun x hx => by rw [List.mem_singleton.1 hx]; exact own_p _ _ _
    have m3 : ∀ x ∈ [m], x ∈ own p (.slice (some ⟨g, 0, none⟩) N cap) (some m) := fun x hx => by rw [List.mem_singleton.1 hx]; exact own_m _ _ _
    exact (((ho3.out.mono m1).trans (ho4H.out.mono m1) (fun x hx => Or.inl hx)).trans (ho5.out.mono m2) (fun x hx => Or.inl hx)).trans (ho6H.out.mono m3) (fun x hx => Or.inl hx))
  have hlen6 : (outL h i).length = n := by rw [outL_len, hlH.out]; omega
  clear hhead6 hrow6 hm6' hm6H ho6H hr5 hm5 hh5 ho5 ho4H d1
  have hk6 := Lib.hid k6
  have hnt6 := Lib.hid nt6
  have hna6 := Lib.hid na6
  have hl6 := Lib.hid hlen6
  clear k6 nt6 na6 hlen6
  by_cases hin : i < n
  · have hmid : Hid (Mid (el (outL h i)) n i) := Lib.hid (by
      have := mid_out hhH.out (i := i) (by rw [hlH.out]; omega)
      rw [hlH.out] at this
      exact this)
    have hkn : Hid ((unnote f xa (el (outL h i) i).1 ≠ none ∧ n ≤ n) ∨ n + 1 ≤ n) := Lib.hid (by
      refine Or.inl ⟨?_, Nat.le_refl _⟩
      have e1 : (outL h i)[i]? = some (el h n) := by
        rw [outL_get (by rw [hlH.out]; omega), if_pos rfl, hlH.out]
        rfl
      have e2 : h[n]? = some (el h n) := el_get (by rw [hlH.out]; omega)
      rw [el_at e1]
      unfold unnote
      rw [if_neg (fun e => by have := uniq_at hkH.out.uq e2 hxH.out e; omega), hntH.out n _ e2]
      simp)
    have hset := Lib.hid (settle_any hin hl6.out hk6.out hmid.out hnt6.out hkn.out)
    have hdin : decide ((i : Int) < (n : Int)) = true := decide_eq_true (by omega)
    go_wp2_with (first
      | (go_at_call 24; ((with_reducible refine (hset.out).mono ?_); rintro e w7 ⟨rfl, h7, f7, k7, na7, hp7, pm7, ho7⟩; have hfit := Lib.hid (fit_any (h := h7) (Or.inr ⟨_, m, f7, (show Tg w7 p (.slice (some ⟨g, 0, none⟩) n cap) m h7.length h7 f7 by rw [pm7.length_eq, hl6.out]; exact k7), na7, (by rw [pm7.length_eq, hl6.out]; exact hp7), rfl⟩)); have ho7H := Lib.hid ho7; have hpm7 := Lib.hid pm7; have hhp7 := Lib.hid hp7; clear k7 na7 hp7 pm7 ho7))
      | (go_at_call 26; ((with_reducible refine (hfit.out).mono ?_); rintro e w8 ⟨rfl, h8⟩; have h8H := Lib.hid h8; clear h8)))
    go_ret
    refine ⟨rfl, h7, Done.after (hO6.out.trans ho7H.out (fun x hx => Or.inl hx)) h8H.out, hpm7.out, ?_⟩
    rw [hpm7.out.length_eq, hl6.out]
    exact hhp7.out
  · have hine : i = n := by have := hib; omega
    have hdin : decide ((i : Int) < (n : Int)) = false := decide_eq_false (by omega)
    have hhp : Hp (el (outL h i)) (outL h i).length := by
      rw [hl6.out]
      have := hp_out hhH.out
      rw [hlH.out] at this
      rw [hine]
      exact this
    have hfit := Lib.hid (fit_any (h := outL h i) (Or.inr ⟨_, m, _, (show Tg w6 p (.slice (some ⟨g, 0, none⟩) n cap) m (outL h i).length (outL h i) _ by rw [hl6.out]; exact hk6.out), hna6.out hine, hhp, rfl⟩))
    have hhpH := Lib.hid hhp
    clear hhp hine
    go_wp2_with (first
      | (go_at_call 26; ((with_reducible refine (hfit.out).mono ?_); rintro e w8 ⟨rfl, h8⟩; have h8H := Lib.hid h8; clear h8)))
    go_ret
    exact ⟨rfl, _, Done.after hO6.out h8H.out, List.Perm.refl _, hhpH.out⟩
/-- Drop of a key that is there. -/
theorem drop_there {w : World} {p : Nat} {O : List Nat} {h r : List Sc} (hT : Tm w p O h) (hr : HR h r) (key : ByteArray) {t : Int} (ht : atK r key = some t) :
    Calls Try.prog 12 #[.pointer (some ⟨p, 0, none⟩), .string key] w fun e w' => e = .returned (.bool true) ∧ ∃ h', Done w p O h' w' ∧ HR h' (dropK r key) := by
  have hm := hr.mem.2 (atK_mem ht)
  obtain ⟨i, hi⟩ := List.getElem?_of_mem hm
  have hf := find_some hT hi
  have hil : i < h.length := (List.getElem?_eq_some_iff.1 hi).1
  rcases hT with ⟨_, rfl, _⟩ | ⟨hv, m, f, k1, k2, k3, rfl⟩
  · simp at hi
  · rcases k1.row.form with ⟨_, rfl⟩ | ⟨g, cap, rfl, _⟩
    · simp at hi
    · obtain ⟨n, hn⟩ : ∃ n, h.length = n + 1 := ⟨h.length - 1, by omega⟩
      have k1' := k1
      rw [hn] at k1'
      have := drop_some k1' hn k2 k3 hi hf
      rw [← hn] at this
      exact this.mono fun _ _ ⟨he, h', h1, h2, h3⟩ => ⟨he, h', h1, hr.after_out hi h2 h3⟩
end Go.Proofs.Ytbaghdfalhlhcaa
