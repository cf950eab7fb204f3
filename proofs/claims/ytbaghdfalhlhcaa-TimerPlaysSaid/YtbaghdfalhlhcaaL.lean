/-
  The library's sort at a row of keys with times, and its copy; the walk of All. Premises: a row of one's own; a timer as it lies.
-/
import Derived.Test.YtbaghdfalhlhcaaD
import Derived.Test.YtbaghdfalhlhcaaShelf
namespace Go.Proofs.Ytbaghdfalhlhcaa
open Go.RowKit Go.Sort

def encS (x : Sc) : List Value := [.string x.1, .int .i64 x.2]
theorem cmpLt : ltOf cmpS = lessS := by
  funext x y
  unfold ltOf
  exact cmpS_less x y
theorem cmpO : SWO (ltOf cmpS) := by
  rw [cmpLt]
  refine ⟨less_irr, fun x y z h k => less_trans h k, fun x y z h k => ?_⟩
  have a : leS y x := h
  have b : leS z y := k
  exact leS_trans b a
theorem cmpT2 : ∀ x y, (ltOf cmpS) x y = false → (ltOf cmpS) y x = false → x = y := by
  rw [cmpLt]
  intro x y h k
  rcases less_total x y with e | e | e
  · exact e
  · rw [h] at e; cases e
  · rw [k] at e; cases e
theorem cmpL (blk off size : Nat) (w : World) : CmpLays Try.prog 29 #[] encS 2 cmpS blk off size w := fun m os dk _ x y => by
  have h := compare_any x y (sortWorldK encS 2 w blk off m dk os)
  generalize sortWorldK encS 2 w blk off m dk os = W at *
  refine h.mono ?_
  rintro e w' ⟨rfl, rfl⟩
  refine ⟨rfl, 0, #[.cells #[.string x.1, .int .i64 x.2] 44, .cells #[.string y.1, .int .i64 y.2] 44], ?_⟩
  unfold two
  rw [alloc_eq_grow, alloc_eq_grow, grow_grow]
  rfl
/-- The row in order. -/
theorem sorted_row {h r : List Sc} (hr : HR h r) : (h.mergeSort fun x y => !(ltOf cmpS) y x) = r := by
  rw [cmpLt]
  have hp : (h.mergeSort fun x y => !lessS y x).Perm h := List.mergeSort_perm _ _
  have hs := List.pairwise_mergeSort (le := fun x y => !lessS y x) (fun a b c h1 h2 => by
    simp only [Bool.not_eq_true'] at h1 h2 ⊢
    exact leS_trans h1 h2) (fun a b => by
    rcases leS_total a b with e | e
    · unfold leS at e
      simp [e]
    · have := less_asymm e
      simp [this]) h
  have hu := uniq_perm hp hr.uq
  refine rises_ext ?_ hr.ord (fun x => hp.mem_iff.trans hr.mem)
  refine hs.imp₂ (fun a b h1 h2 => ?_) hu
  simp only [Bool.not_eq_true'] at h1
  exact leS_less h1 (fun e => h2 (by rw [e]))
theorem holds_row {w : World} {B g cap n : Nat} {h : List Sc} (hR : RowS w B (.slice (some ⟨g, 0, none⟩) n cap) h) : HoldsK encS 2 w g 0 h.toArray := by
  obtain ⟨_, _, _, C, hb, _, hC⟩ := rowS_block hR
  intro t ht
  rw [size_flatK] at ht
  have hl : t / 2 < h.length := by simp at ht; omega
  rw [get_flatK _ _ _ _ ht]
  obtain ⟨c0, c1⟩ := hC (t / 2) _ (List.getElem?_eq_getElem hl)
  have hd : (h.toArray)[t / 2]! = h[t / 2] := by
    rw [getElem!_pos h.toArray (t / 2) (by simpa using hl)]
    simp
  refine ⟨?_, Joins.unfrozen_of_block hb _⟩
  rw [Joins.cell_of_block hb, hd, Nat.zero_add]
  rcases Nat.mod_two_eq_zero_or_one t with e | e
  · rw [e, show C[t]? = C[t / 2 * 2]? by congr 1; omega, c0]
    rfl
  · rw [e, show C[t]? = C[t / 2 * 2 + 1]? by congr 1; omega, c1]
    rfl
theorem row_sorted {w : World} {B g cap k : Nat} {h r : List Sc} {os : Array Obj} (hR : RowS w B (.slice (some ⟨g, 0, none⟩) h.length cap) h) (hl : r.length = h.length) :
    RowS (sortWorldK encS 2 w g 0 k r.toArray os) B (.slice (some ⟨g, 0, none⟩) h.length cap) r ∧ Only [g] w (sortWorldK encS 2 w g 0 k r.toArray os) := by
  have hH := holdsK_sortWorldK_c encS 2 w g 0 h.toArray r.toArray k os (holds_row hR) (hR.lt g rfl).2 (by simp [hl])
  obtain ⟨_, ⟨h2, _⟩ | ⟨g', cap', cur, he, h3, h4, h5, h6, h7, h8⟩⟩ := hR
  · cases h2
  · have e1 : g = g' := by injection he with e1 _ _; injection e1 with e1; injection e1
    have e3 : cap = cap' := by injection he
    subst e1 e3
    have hg := some_lt h4
    have hb : (sortWorldK encS 2 w g 0 k r.toArray os).heap[g]? = some (.cells (putCells id 0 (flatK encS 2 r.toArray) cur) 44 (0, 0)) := by
      unfold sortWorldK putRowK
      rw [heap_grow_old _ _ (by simpa using hg)]
      simp [putRow, mapBlock, Sort.ahead, Array.getElem?_modify, h4, onCells]
    have hsz : (putCells id 0 (flatK encS 2 r.toArray) cur).size = cap * 2 := by simp [putCells, h7]
    refine ⟨?_, ⟨rfl, rfl, rfl, by simp [sortWorldK, putRowK, Sort.ahead], fun q hq => absurd hq (Nat.not_lt_zero q)⟩, fun q hq hn => ?_⟩
    · unfold RowS
      rw [hl]
      refine ⟨by rw [pcs_len, hl], Or.inr ⟨g, cap, _, rfl, h3, hb, h5, h6, hsz, ?_⟩⟩
      rw [← hl]
      refine pcs_ext (by
        have e9 : (putCells id 0 (flatK encS 2 r.toArray) cur).toList.length = cap * 2 := by rw [Array.length_toList]; exact hsz
        rw [List.length_take, e9]
        show min (r.length * 2) (cap * 2) = r.length * 2
        omega) (fun j x hj => ?_)
      have hjl : j < r.length := (List.getElem?_eq_some_iff.1 hj).1
      have hd : (r.toArray)[j]! = x := by
        rw [getElem!_pos r.toArray j (by simpa using hjl)]
        simp [(List.getElem?_eq_some_iff.1 hj).2]
      have a := (HoldsK.cell hH (i := j) (c := 0) (by simpa using hjl) (by omega)).1
      have b := (HoldsK.cell hH (i := j) (c := 1) (by simpa using hjl) (by omega)).1
      rw [Joins.cell_of_block hb, hd] at a b
      rw [List.getElem?_take, if_pos (by omega), List.getElem?_take, if_pos (by omega), Array.getElem?_toList, Array.getElem?_toList]
      rw [show (0 : Nat) + j * 2 + 0 = j * 2 by omega] at a
      rw [show (0 : Nat) + j * 2 + 1 = j * 2 + 1 by omega] at b
      exact ⟨a, b⟩
    · unfold sortWorldK putRowK
      rw [heap_grow_old _ _ (by simpa using hq)]
      have : g ≠ q := fun e => hn (by rw [e]; simp)
      simp [putRow, mapBlock, Sort.ahead, Array.getElem?_modify, this]
theorem sort_any {w : World} {B : Nat} {v : Value} {h r : List Sc} (hR : RowS w B v h) (hr : HR h r) (hfew : h.length ≤ 1000000) :
    Calls Try.prog 28 #[v, .func (.func 29) #[] #[]] w fun e w' => e = .returned (.tuple #[]) ∧ RowS w' B v r ∧ Only v.ownBlock.toList w w' := by
  rcases hR.form with ⟨rfl, rfl⟩ | ⟨g, cap, rfl, h1, h2, h3, hc⟩
  · have hcon := AnyF.slices_SortFunc_none Try.sortT none 0 (.func (.func 29) #[] #[]) w
    change Calls Try.prog 28 _ _ _ at hcon
    refine hcon.mono ?_
    rintro e w' ⟨rfl, rfl⟩
    obtain rfl : r = [] := List.length_eq_zero_iff.1 (by rw [← hr.len]; rfl)
    exact ⟨rfl, hR, Only.refl _ _⟩
  · have eg : ∀ args w, (callFunc 29 args).run Try.prog w = .ok (.enter 29 args) w := enters_of Try.func29 (by kernel_rfl) rfl
    have hcon := AnyQ.slices_SortFunc_total Try.sortT 2 Try.isAgg44 Try.sizeOf44 encS (fun _ => rfl) (fun x v hv => by simp [encS] at hv; rcases hv with rfl | rfl <;> rfl) cmpS cmpO 29 #[] g 0 cap h.toArray w eg (cmpL _ _ _ _) (holds_row hR) h2 (by simp; omega) cmpT2
    change Calls Try.prog 28 _ _ _ at hcon
    have hsr := sorted_row hr
    simp only [List.size_toArray, hsr] at hcon
    refine hcon.mono ?_
    rintro e w' ⟨rfl, k, os, rfl⟩
    obtain ⟨a, b⟩ := row_sorted (k := k) (os := os) hR hr.len.symm
    exact ⟨rfl, a, b⟩
end Go.Proofs.Ytbaghdfalhlhcaa
