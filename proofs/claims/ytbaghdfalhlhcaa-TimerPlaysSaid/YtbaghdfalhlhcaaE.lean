/-
  Two places of a timer's heap trade. Premises: what lies of a timer; the places are two of its.
-/
import Derived.Test.YtbaghdfalhlhcaaD
namespace Go.Proofs.Ytbaghdfalhlhcaa
open Go.RowKit

theorem sw_facts {w : World} {g i j : Nat} {C : Array Value} {a1 a2 : ByteArray} {t1 t2 : Int} (hb : w.heap[g]? = some (.cells C 44 (0, 0))) (hi : C[i * 2]? = some (.string a1)) (hi' : C[i * 2 + 1]? = some (.int .i64 t1)) (hj : C[j * 2]? = some (.string a2)) (hj' : C[j * 2 + 1]? = some (.int .i64 t2)) (hne : i ≠ j) :
    (w.cell? ⟨g, i * 2, none⟩ = some (.string a1) ∧ w.cell? ⟨g, i * 2 + 1, none⟩ = some (.int .i64 t1) ∧ w.cell? ⟨g, j * 2, none⟩ = some (.string a2) ∧ w.cell? ⟨g, j * 2 + 1, none⟩ = some (.int .i64 t2)) ∧
    (∀ u, (w.setCell ⟨g, i * 2, none⟩ u).cell? ⟨g, i * 2 + 1, none⟩ = some (.int .i64 t1)) ∧ (∀ u v, ((w.setCell ⟨g, i * 2, none⟩ u).setCell ⟨g, i * 2 + 1, none⟩ v).cell? ⟨g, j * 2, none⟩ = some (.string a2)) ∧ (∀ u v u', (((w.setCell ⟨g, i * 2, none⟩ u).setCell ⟨g, i * 2 + 1, none⟩ v).setCell ⟨g, j * 2, none⟩ u').cell? ⟨g, j * 2 + 1, none⟩ = some (.int .i64 t2)) ∧
    (∀ k, w.frozen? ⟨g, k, none⟩ = false) ∧ (∀ u k, (w.setCell ⟨g, i * 2, none⟩ u).frozen? ⟨g, k, none⟩ = false) ∧ (∀ u v k, ((w.setCell ⟨g, i * 2, none⟩ u).setCell ⟨g, i * 2 + 1, none⟩ v).frozen? ⟨g, k, none⟩ = false) ∧ (∀ u v u' k, (((w.setCell ⟨g, i * 2, none⟩ u).setCell ⟨g, i * 2 + 1, none⟩ v).setCell ⟨g, j * 2, none⟩ u').frozen? ⟨g, k, none⟩ = false) := by
  refine ⟨⟨?_, ?_, ?_, ?_⟩, fun u => ?_, fun u v => ?_, fun u v u' => ?_, fun k => ?_, fun u k => ?_, fun u v k => ?_, fun u v u' k => ?_⟩
  · rw [Joins.cell_of_block hb]; exact hi
  · rw [Joins.cell_of_block hb]; exact hi'
  · rw [Joins.cell_of_block hb]; exact hj
  · rw [Joins.cell_of_block hb]; exact hj'
  · rw [set_other _ (Or.inr (by omega)), Joins.cell_of_block hb]; exact hi'
  · rw [set_other _ (Or.inr (by omega)), set_other _ (Or.inr (by omega)), Joins.cell_of_block hb]; exact hj
  · rw [set_other _ (Or.inr (by omega)), set_other _ (Or.inr (by omega)), set_other _ (Or.inr (by omega)), Joins.cell_of_block hb]; exact hj'
  · exact Joins.unfrozen_of_block hb k
  · exact Joins.unfrozen_of_block (Joins.block_setCell hb u) k
  · exact Joins.unfrozen_of_block (Joins.block_setCell (Joins.block_setCell hb u) v) k
  · exact Joins.unfrozen_of_block (Joins.block_setCell (Joins.block_setCell (Joins.block_setCell hb u) v) u') k
/-- Two places have changed. -/
def traded (w : World) (g i j : Nat) (x y : Sc) : World := (((w.setCell ⟨g, i * 2, none⟩ (.string y.1)).setCell ⟨g, i * 2 + 1, none⟩ (.int .i64 y.2)).setCell ⟨g, j * 2, none⟩ (.string x.1)).setCell ⟨g, j * 2 + 1, none⟩ (.int .i64 x.2)
theorem uniq_swL {h : List Sc} (k : Uniq h) {i j : Nat} (hi : i < h.length) (hj : j < h.length) : Uniq (swL h i j) := uniq_perm (swL_perm hi hj) k
theorem Tg.traded {w : World} {p m c g cap i j : Nat} {h : List Sc} {f : ByteArray → Option Nat} (k : Tg w p (.slice (some ⟨g, 0, none⟩) h.length cap) m c h f) (hi : i < h.length) (hj : j < h.length) :
    Tg (traded w g i j (el h i) (el h j)) p (.slice (some ⟨g, 0, none⟩) h.length cap) m c (swL h i j) f ∧ Only [g] w (traded w g i j (el h i) (el h j)) := by
  have ho : Only [g] w (Go.Proofs.Ytbaghdfalhlhcaa.traded w g i j (el h i) (el h j)) := by
    unfold Go.Proofs.Ytbaghdfalhlhcaa.traded
    exact (((((Only.refl [g] w).set (p := ⟨g, i * 2, none⟩) (Or.inl (by simp)) _).set (p := ⟨g, i * 2 + 1, none⟩) (Or.inl (by simp)) _).set (p := ⟨g, j * 2, none⟩) (Or.inl (by simp)) _).set (p := ⟨g, j * 2 + 1, none⟩) (Or.inl (by simp)) _)
  have n1 : p ∉ [g] := fun e => k.ap1 (by rw [List.mem_singleton.1 e]; rfl)
  have n2 : m ∉ [g] := fun e => k.ap3 (by rw [List.mem_singleton.1 e]; rfl)
  have hm : ∀ x, x ∈ swL h i j ↔ x ∈ h := fun x => (swL_perm hi hj).mem_iff
  refine ⟨⟨ho.keep k.head n1, ?_, k.map.keep ho n2, k.cfew, k.ap1, k.ap2, k.ap3, fun x hx => k.keys x ((hm x).1 hx), by rw [swL_len]; exact k.few, uniq_swL k.uq hi hj, fun q hq => ?_⟩, ho⟩
  · have r1 := rowS_put k.row hi (el h j)
    have hl : (h.set i (el h j)).length = h.length := List.length_set
    have r2 := rowS_put (L := h.set i (el h j)) (by rw [hl]; exact r1) (i := j) (by rw [hl]; exact hj) (el h i)
    rw [hl] at r2
    exact r2
  · obtain ⟨x, hx, e⟩ := k.dom q hq
    exact ⟨x, (hm x).2 hx, e⟩
theorem Tg.drew {w : World} {p m c : Nat} {hv : Value} {h : List Sc} {f : ByteArray → Option Nat} (k : Tg w p hv m c h f) : Tg w.drew p hv m c h f := k.keep ((Only.refl [] w).drew) (by simp)
/-- A place is noted. -/
theorem Tg.noted {w w' : World} {p m c i : Nat} {hv : Value} {h : List Sc} {f : ByteArray → Option Nat} (k : Tg w p hv m c h f) {x : Sc} (hx : x ∈ h) {c' : Nat} (hm : MapAt w' m c' (note f x.1 i)) (hc : c' ≤ 1000001) (ho : Only [m] w w') : Tg w' p hv m c' h (note f x.1 i) :=
  ⟨ho.keep k.head (fun e => k.ap2 (List.mem_singleton.1 e).symm), k.row.only ho (fun b hb e => k.ap3 (by rw [hb, List.mem_singleton.1 e])), hm, hc, k.ap1, k.ap2, k.ap3, k.keys, k.few, k.uq, fun q hq => by
    by_cases e : q = x.1
    · exact ⟨x, hx, e.symm⟩
    · rw [note_other f i e] at hq
      exact k.dom q hq⟩
set_option maxHeartbeats 4000000 in
theorem trade_any {w : World} {p m c g cap i j : Nat} {h : List Sc} {f : ByteArray → Option Nat} (k : Tg w p (.slice (some ⟨g, 0, none⟩) h.length cap) m c h f) (hi : i < h.length) (hj : j < h.length) (hne : i ≠ j) (hf : f (el h j).1 ≠ none) :
    Calls Try.prog 32 #[.pointer (some ⟨p, 0, none⟩), .int .i64 (i : Int), .int .i64 (j : Int)] w fun e w' => e = .returned (.int .i64 (j : Int)) ∧ Tg w' p (.slice (some ⟨g, 0, none⟩) h.length cap) m c (swL h i j) (note f (el h j).1 i) ∧ Only (own p (.slice (some ⟨g, 0, none⟩) h.length cap) (some m)) w w' := by
  obtain ⟨_, _, _, C, hb, _, hC⟩ := rowS_block k.row
  obtain ⟨k3, ho3⟩ := k.traded hi hj
  have hfew := k.few
  have c0 : w.cell? ⟨p, 0, none⟩ = some (.slice (some ⟨g, 0, none⟩) h.length cap) := Lib.cell_of_heap k.head 0
  obtain ⟨ei, ei'⟩ := hC i _ (el_get hi)
  obtain ⟨ej, ej'⟩ := hC j _ (el_get hj)
  obtain ⟨⟨s1, s2, s3, s4⟩, s5, s6, s7, z1, z2, z3, z4⟩ := sw_facts hb ei ei' ej ej' hne
  have hix := run_ixS g i h.length cap hi
  have hjx := run_ixS g j h.length cap hj
  have hxm : Hid (el h j ∈ swL h i j) := Lib.hid ((swL_perm hi hj).mem_iff.2 (List.mem_of_getElem? (el_get hj)))
  have hat : (swL h i j)[i]? = some (el h j) := by rw [swL_get hi hj, if_neg hne, if_pos rfl]
  have hlen := swL_len h i j
  have hksz := Lib.hid (k.keys _ (List.mem_of_getElem? (el_get hj)))
  obtain ⟨n, hnn⟩ : ∃ n, n = h.length := ⟨_, rfl⟩
  obtain ⟨L2, hL2⟩ : ∃ L2, L2 = swL h i j := ⟨_, rfl⟩
  have hil : Hid (i ≤ 4000000) := Lib.hid (by omega)
  have hiL : Hid (i < n) := Lib.hid (by omega)
  rw [← hL2] at k3 hxm hat hlen ⊢
  rw [← hnn] at c0 hix hjx k3 hlen hfew ⊢
  clear k hb hC ei ei' ej ej' hi hj
  generalize el h i = x at *
  generalize el h j = y at *
  clear hL2 hnn
  obtain ⟨xa, xs⟩ := x
  obtain ⟨ya, ys⟩ := y
  simp only at s1 s2 s3 s4 s5 s6 s7 hf hat hksz ⊢
  unfold traded at k3 ho3
  simp only at k3 ho3
  have k3H := Lib.hid k3
  have ho3H := Lib.hid ho3
  have hneH := Lib.hid hne
  clear k3 ho3 hne
  go_enter Try.func32, Try.ntmps32
  go_wp2_with fail
  go_region
  go_wp2_with fail
  generalize hW3 : ((((w.setCell ⟨g, i * 2, none⟩ (.string ya)).setCell ⟨g, i * 2 + 1, none⟩ (.int .i64 ys)).setCell ⟨g, j * 2, none⟩ (.string xa)).setCell ⟨g, j * 2 + 1, none⟩ (.int .i64 xs)) = W3 at *
  clear hW3
  have k4 := k3H.out.drew
  have ho4 := Lib.hid (ho3H.out.drew)
  generalize W3.drew = W4 at *
  have d0 : W4.cell? ⟨p, 0, none⟩ = some (.slice (some ⟨g, 0, none⟩) n cap) := Lib.cell_of_heap k4.head 0
  have d1 : W4.cell? ⟨p, 1, none⟩ = some (.map (some m)) := Lib.cell_of_heap k4.head 1
  have d2 : W4.cell? ⟨g, i * 2, none⟩ = some (.string ya) := by
    obtain ⟨_, _, _, C, hb, _, hC⟩ := rowS_block k4.row
    rw [Joins.cell_of_block hb]
    exact (hC i _ hat).1
  have k5 := k4.drew
  have ho5 := Lib.hid (ho4.out.drew)
  obtain ⟨W6, hr6, hm6, ho6⟩ := k5.map.put ya hksz.out i hil.out (by have := k5.cfew; omega) (c' := c) (Or.inl ⟨hf, Nat.le_refl _⟩)
  have k6 := Lib.hid (k5.noted (x := (ya, ys)) hxm.out hm6 k5.cfew ho6)
  have ho6H := Lib.hid ho6
  clear k4 k5 hm6 ho6 s1 s2 s3 s4 s5 s6 s7 z1 z2 z3 z4
  go_still_tail 13, (by kernel_rfl)
  change wpList _ _ _ _ _ W4.drew
  generalize W4.drew = W5 at *
  go_wp2
  go_ret
  refine ⟨rfl, k6.out, ?_⟩
  have o1 : Only (own p (.slice (some ⟨g, 0, none⟩) n cap) (some m)) w W5 := ho5.out.mono (fun x hx => by rw [List.mem_singleton.1 hx]; exact own_r rfl)
  exact o1.trans ho6H.out (fun x hx => Or.inl (by rw [List.mem_singleton.1 hx]; exact own_m _ _ _))
end Go.Proofs.Ytbaghdfalhlhcaa
