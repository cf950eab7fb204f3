/-
  Files and faults in memory; the document's between and Find. Premise: rows have lengths that Go's own rows have.
-/
import Derived.Test.YtphppkliehohbaaChecked
import Derived.Test.YtphppkliehohbaaMath
import Derived.Test.YtphppkliehohbaaA
import Derived.WalkKit
import Derived.WalkSpells
import Derived.WalkLawsBesides
import Derived.Deep.QuietTactic
import Derived.BigQuiet
import Derived.Lib.Hide
import Derived.Lib.SmallJoins
import Derived.Outline
import Derived.OwnWalk
import Derived.Deep.CutBlock
import Derived.BigRegion
import Derived.StillTailTactics
import Derived.Laws.AppendOwnNone
import Derived.Maps.AppendAt
import Derived.Deep.RegionLaw
import Derived.Deep.RegionHeld3
import Derived.Lib.BufferRead
namespace Go.Proofs.Ytphppkliehohbaa
open Go.RowKit
def FilesAt (W : World) (A : Option Addr) (L : List Fl) : Prop := ∀ i f, L[i]? = some f → ∃ a, A = some a ∧ a.block < W.heap.size ∧
  W.cell? (a.add (i * 3)) = some (.string f.1) ∧ W.cell? ⟨(a.add (i * 3)).block, (a.add (i * 3)).off + 1, none⟩ = some (.string f.2.1) ∧ W.cell? ⟨(a.add (i * 3)).block, (a.add (i * 3)).off + 2, none⟩ = some (.int .i64 f.2.2)
def FaultsAt (W : World) (A : Option Addr) (T : List Ft) : Prop := ∀ i f, T[i]? = some f → ∃ a, A = some a ∧ a.block < W.heap.size ∧
  W.cell? (a.add (i * 3)) = some (.string f.1) ∧ W.cell? ⟨(a.add (i * 3)).block, (a.add (i * 3)).off + 1, none⟩ = some (.int .i64 f.2.1) ∧ W.cell? ⟨(a.add (i * 3)).block, (a.add (i * 3)).off + 2, none⟩ = some (.int .i64 f.2.2)
theorem FilesAt.on {W W' : World} {A : Option Addr} {L : List Fl} (h : FilesAt W A L) (hb : Below W.heap.size W W') : FilesAt W' A L := fun i f hi => by
  obtain ⟨a, h1, h2, h3, h4, h5⟩ := h i f hi
  have e : ((a.add (i * 3)) : Addr).block < W.heap.size := by rw [add_block]; exact h2
  exact ⟨a, h1, Nat.lt_of_lt_of_le h2 hb.size, (hb.cell e).trans h3, (hb.cell (p := ⟨(a.add (i * 3)).block, _, none⟩) e).trans h4, (hb.cell (p := ⟨(a.add (i * 3)).block, _, none⟩) e).trans h5⟩
theorem FaultsAt.on {W W' : World} {A : Option Addr} {T : List Ft} (h : FaultsAt W A T) (hb : Below W.heap.size W W') : FaultsAt W' A T := fun i f hi => by
  obtain ⟨a, h1, h2, h3, h4, h5⟩ := h i f hi
  have e : ((a.add (i * 3)) : Addr).block < W.heap.size := by rw [add_block]; exact h2
  exact ⟨a, h1, Nat.lt_of_lt_of_le h2 hb.size, (hb.cell e).trans h3, (hb.cell (p := ⟨(a.add (i * 3)).block, _, none⟩) e).trans h4, (hb.cell (p := ⟨(a.add (i * 3)).block, _, none⟩) e).trans h5⟩
theorem run_ixF (a : Addr) (k n c : Nat) (hk : k < n) (w : World) : Sem.run Try.prog (Instr.indexAt 22 (.slice (some a) n c) (.int .i64 (k : Int))) w = .ok (.pointer (some (a.add (k * 3)))) w := by
  go_simp
theorem run_ixT (a : Addr) (k n c : Nat) (hk : k < n) (w : World) : Sem.run Try.prog (Instr.indexAt 23 (.slice (some a) n c) (.int .i64 (k : Int))) w = .ok (.pointer (some (a.add (k * 3)))) w := by
  go_simp
theorem box_below {w : World} {cs : Array Value} {t : TypeId} : Below w.heap.size w (w.alloc (.cells cs t)) := (Below.refl _ _).alloc (Nat.le_refl _) _
theorem heap_alloc_lt {w : World} {k : Nat} {o : Obj} (h : w.heap[k]? = some o) : k < w.heap.size := some_lt h
theorem find_step {L : List Fl} {i : Nat} {f : Fl} {k : ByteArray} (h : L[i]? = some f) (h0 : findF (L.take i) k = none) : (f.1 = k → findF L k = some (normF f)) ∧ (f.1 ≠ k → findF (L.take (i + 1)) k = none) := by
  have e : L.take (i + 1) = L.take i ++ [f] := by rw [List.take_add_one, h]; rfl
  constructor
  · intro hk
    have hl : L = (L.take i ++ [f]) ++ L.drop (i + 1) := by rw [← e, List.take_append_drop]
    unfold findF
    rw [hl, List.find?_append, List.find?_append]
    unfold findF at h0
    rw [Option.map_eq_none_iff] at h0
    rw [h0]
    simp [hk]
  · intro hk
    rw [e, find_snoc, h0, if_neg hk]
    rfl
theorem store3 {X : World} {b : Nat} {o0 o1 o2 : Value} {ty : TypeId} (h : X.heap[b]? = some (.cells #[o0, o1, o2] ty (0, 0))) (v0 v1 v2 : Value) :
    (((X.setCell ⟨b, 0, none⟩ v0).setCell ⟨b, 1, none⟩ v1).setCell ⟨b, 2, none⟩ v2).heap[b]? = some (.cells #[v0, v1, v2] ty (0, 0)) := by
  simp [World.setCell, Array.getElem?_modify, h]
theorem store2 {X : World} {b : Nat} {o0 o1 : Value} {ty : TypeId} (h : X.heap[b]? = some (.cells #[o0, o1] ty (0, 0))) (v0 v1 : Value) :
    ((X.setCell ⟨b, 0, none⟩ v0).setCell ⟨b, 1, none⟩ v1).heap[b]? = some (.cells #[v0, v1] ty (0, 0)) := by
  simp [World.setCell, Array.getElem?_modify, h]
theorem below_set3 {B : Nat} {w X : World} (h : Below B w X) {b : Nat} (hb : B ≤ b) (v0 v1 v2 : Value) : Below B w (((X.setCell ⟨b, 0, none⟩ v0).setCell ⟨b, 1, none⟩ v1).setCell ⟨b, 2, none⟩ v2) :=
  ((h.setCell (p := ⟨b, 0, none⟩) hb v0).setCell (p := ⟨b, 1, none⟩) hb v1).setCell (p := ⟨b, 2, none⟩) hb v2
theorem below_set2 {B : Nat} {w X : World} (h : Below B w X) {b : Nat} (hb : B ≤ b) (v0 v1 : Value) : Below B w ((X.setCell ⟨b, 0, none⟩ v0).setCell ⟨b, 1, none⟩ v1) :=
  (h.setCell (p := ⟨b, 0, none⟩) hb v0).setCell (p := ⟨b, 1, none⟩) hb v1
theorem three {X : World} {b : Nat} {o0 o1 o2 : Value} {ty : TypeId} (h : X.heap[b]? = some (.cells #[o0, o1, o2] ty (0, 0))) : X.cell? ⟨b, 0, none⟩ = some o0 ∧ X.cell? ⟨b, 1, none⟩ = some o1 ∧ X.cell? ⟨b, 2, none⟩ = some o2 ∧ X.frozen? ⟨b, 0, none⟩ = false ∧ X.frozen? ⟨b, 1, none⟩ = false ∧ X.frozen? ⟨b, 2, none⟩ = false :=
  ⟨Lib.cell_of_heap h 0, Lib.cell_of_heap h 1, Lib.cell_of_heap h 2, Lib.frozen_of_heap h 0, Lib.frozen_of_heap h 1, Lib.frozen_of_heap h 2⟩
theorem two {X : World} {b : Nat} {o0 o1 : Value} {ty : TypeId} (h : X.heap[b]? = some (.cells #[o0, o1] ty (0, 0))) : X.cell? ⟨b, 0, none⟩ = some o0 ∧ X.cell? ⟨b, 1, none⟩ = some o1 ∧ X.frozen? ⟨b, 0, none⟩ = false ∧ X.frozen? ⟨b, 1, none⟩ = false :=
  ⟨Lib.cell_of_heap h 0, Lib.cell_of_heap h 1, Lib.frozen_of_heap h 0, Lib.frozen_of_heap h 1⟩
end Go.Proofs.Ytphppkliehohbaa
