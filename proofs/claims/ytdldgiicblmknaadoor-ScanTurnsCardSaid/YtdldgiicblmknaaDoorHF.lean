/-
  The walks that make places. No condition but the sizes that places have.
-/
import Derived.Test.YtdldgiicblmknaaDoorHE
import Derived.OwnWalk
namespace Go.Proofs.YtdldgiicblmknaaDoor
open Go.RowKit

theorem info_entp : (Tryd.prog.info? 67).map (fun i => (i.zero, i.size, i.bytes)) = some (some (.pointer none), 1, 8) := by kernel_rfl
theorem made_places (n : Nat) : madeCells (Value.pointer none).cells (n * 1) = (((List.replicate n ([] : List En)).map fun c => Value.pointer (hd c)).toArray) := by
  apply Array.ext
  · simp [madeCells]
  · intro i h1 h2
    simp [madeCells, hd]
    show (#[Value.pointer none] : Array Value)[i % 1]! = Value.pointer none
    rw [Nat.mod_one]
    rfl
theorem run_places (n : Nat) (hn : n ≤ 65536) (w : World) : (Instr.makeSlice 57 (.int .i64 (n : Int)) (.int .i64 (n : Int))).run Tryd.prog w = .ok (.slice (some ⟨w.heap.size, 0, none⟩) n n) (w.alloc (plObj (List.replicate n []))) := by
  obtain ⟨i, hi, h0, h1, h2⟩ := info_parts info_entp
  have hb : (i.bytes : Int) * (n : Int) ≤ 281474976710656 := by rw [h2]; omega
  have := run_make (P := Tryd.prog) w 57 67 i (.pointer none) Tryd.underlying57 hi h0 .i64 .i64 n n (by omega) (by omega) hb (by omega)
  rw [h1] at this
  simp only [Int.toNat_natCast] at this
  rw [this, made_places]
  rfl

theorem tab_set1 {T : Nat} {sd : Int} {a0 a1 : Option Addr} {n0 n1 mv ct : Nat} {w : World} (h : TabC w T sd a0 a1 n0 n1 mv ct) (a : Option Addr) (n : Nat) : TabC (w.setCell ⟨T, 1, none⟩ (.slice a n n)) T sd a a1 n n1 mv ct := by
  unfold TabC at *
  rw [Joins.block_setCell (i := 1) h]
  rfl
theorem tab_set2 {T : Nat} {sd : Int} {a0 a1 : Option Addr} {n0 n1 mv ct : Nat} {w : World} (h : TabC w T sd a0 a1 n0 n1 mv ct) (a : Option Addr) (n : Nat) : TabC (w.setCell ⟨T, 2, none⟩ (.slice a n n)) T sd a0 a n0 n mv ct := by
  unfold TabC at *
  rw [Joins.block_setCell (i := 2) h]
  rfl
theorem tab_set3 {T : Nat} {sd : Int} {a0 a1 : Option Addr} {n0 n1 mv ct : Nat} {w : World} (h : TabC w T sd a0 a1 n0 n1 mv ct) (m : Nat) : TabC (w.setCell ⟨T, 3, none⟩ (.int .i64 (m : Int))) T sd a0 a1 n0 n1 m ct := by
  unfold TabC at *
  rw [Joins.block_setCell (i := 3) h]
  rfl
theorem tab_set4 {T : Nat} {sd : Int} {a0 a1 : Option Addr} {n0 n1 mv ct : Nat} {w : World} (h : TabC w T sd a0 a1 n0 n1 mv ct) (m : Nat) : TabC (w.setCell ⟨T, 4, none⟩ (.int .i64 (m : Int))) T sd a0 a1 n0 n1 mv m := by
  unfold TabC at *
  rw [Joins.block_setCell (i := 4) h]
  rfl
theorem tab_alloc {T : Nat} {sd : Int} {a0 a1 : Option Addr} {n0 n1 mv ct : Nat} {w : World} (h : TabC w T sd a0 a1 n0 n1 mv ct) (o : Obj) : TabC (w.alloc o) T sd a0 a1 n0 n1 mv ct := (Below.heap_alloc w o T (some_lt h)).trans h
theorem set_size (w : World) (p : Addr) (v : Value) : (w.setCell p v).heap.size = w.heap.size := by simp [World.setCell]

set_option maxHeartbeats 1000000 in
theorem part_any {T : Nat} {sd : Int} {a0 : Option Addr} {n0 mv ct : Nat} (w : World) (h : TabC w T sd a0 none n0 0 mv ct) (k : Nat) (h2 : 2 ≤ k) (h16 : k ≤ 16) :
    Calls Tryd.prog 62 #[.pointer (some ⟨T, 0, none⟩), .int .i64 (k : Int)] w fun e w' => e = .returned (.tuple #[]) ∧ Only [T] w w' ∧ TabC w' T sd a0 (some ⟨w.heap.size, 0, none⟩) n0 (pw k) 0 ct ∧ w'.heap[w.heap.size]? = some (plObj (List.replicate (pw k) [])) ∧ w.heap.size < w'.heap.size := by
  obtain ⟨c0, c1, c2, c3, c4, f0, f1, f2, f3, f4⟩ := tab_facts h
  have hlt : T < w.heap.size := some_lt h
  have hmk := fun w => run_places (pw k) (pw_le h16) w
  have hpl := pw_le h16
  have hw2 : wrap64 ((2 : Int) ^ k) = ((pw k : Nat) : Int) := by
    rw [show ((2 : Int) ^ k) = ((pw k : Nat) : Int) by unfold pw; simp]
    exact IntWalk.wrap64_in _ (by omega)
  have hk63 : k < 64 := by omega
  have hH := Lib.hid h
  clear h h2
  generalize pw k = N at *
  go_enter Tryd.func62, Tryd.ntmps62
  go_wp2_with fail
  go_region
  have hu := tab_alloc (tab_set2 hH.out (some ⟨w.heap.size, 0, none⟩) N) (plObj (List.replicate N []))
  have hg : ((w.setCell ⟨T, 2, none⟩ (.slice (some ⟨w.heap.size, 0, none⟩) N N)).alloc (plObj (List.replicate N []))).heap[w.heap.size]? = some (plObj (List.replicate N [])) := by
    have := heap_alloc_new (w.setCell ⟨T, 2, none⟩ (.slice (some ⟨w.heap.size, 0, none⟩) N N)) (plObj (List.replicate N []))
    rw [set_size] at this
    exact this
  have ho := ((((Only.refl [T] w).set (p := ⟨T, 2, none⟩) (Or.inl (by simp)) (.slice (some ⟨w.heap.size, 0, none⟩) N N)).alloc (plObj (List.replicate N []))).drewN 1)
  have hs := some_lt hg
  change TabC (((w.setCell ⟨T, 2, none⟩ (.slice (some ⟨w.heap.size, 0, none⟩) N N)).alloc (plObj (List.replicate N []))).drew) _ _ _ _ _ _ _ _ at hu
  change (((w.setCell ⟨T, 2, none⟩ (.slice (some ⟨w.heap.size, 0, none⟩) N N)).alloc (plObj (List.replicate N []))).drew).heap[w.heap.size]? = _ at hg
  change Only [T] w (((w.setCell ⟨T, 2, none⟩ (.slice (some ⟨w.heap.size, 0, none⟩) N N)).alloc (plObj (List.replicate N []))).drew) at ho
  change _ < (((w.setCell ⟨T, 2, none⟩ (.slice (some ⟨w.heap.size, 0, none⟩) N N)).alloc (plObj (List.replicate N []))).drew).heap.size at hs
  generalize ((w.setCell ⟨T, 2, none⟩ (.slice (some ⟨w.heap.size, 0, none⟩) N N)).alloc (plObj (List.replicate N []))).drew = u at *
  clear c0 c1 c2 c3 c4 f0 f1 f2 f3 f4
  obtain ⟨c0, c1, c2, c3, c4, f0, f1, f2, f3, f4⟩ := tab_facts hu
  have huH := Lib.hid hu
  have hgH := Lib.hid hg
  have hoH := Lib.hid ho
  clear hu hg ho
  go_wp2_with fail
  go_end0
  refine ⟨rfl, hoH.out.set (Or.inl (by simp)) _, tab_set3 huH.out 0, ?_, by rw [set_size]; exact hs⟩
  rw [Below.heap_setCell _ _ _ _ (by simp; omega)]
  exact hgH.out

end Go.Proofs.YtdldgiicblmknaaDoor
