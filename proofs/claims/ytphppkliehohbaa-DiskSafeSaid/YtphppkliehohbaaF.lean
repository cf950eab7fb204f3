/-
  Disks in memory as values; the document's Write. Premise: rows have lengths that Go's own rows have, texts together fit in Go's own.
-/
import Derived.Test.YtphppkliehohbaaChecked
import Derived.Test.YtphppkliehohbaaMath
import Derived.Test.YtphppkliehohbaaA
import Derived.Test.YtphppkliehohbaaB
import Derived.Test.YtphppkliehohbaaC
import Derived.Test.YtphppkliehohbaaE
import Derived.WalkKit
import Derived.WalkSpells
import Derived.WalkLawsBesides
import Derived.Deep.QuietTactic
import Derived.BigQuiet
import Derived.Lib.Hide
import Derived.Lib.SmallJoins
import Derived.Outline
import Derived.OwnWalk
import Derived.Deep.CutBlock
import Derived.BigRegion
import Derived.StillTailTactics
import Derived.Laws.AppendOwnNone
import Derived.Maps.AppendAt
import Derived.Deep.RegionLaw
import Derived.Deep.RegionHeld3
import Derived.Lib.BufferRead
import Derived.Deep.AppendLies
namespace Go.Proofs.Ytphppkliehohbaa
open Go.RowKit
abbrev Dk := List Fl × List Ft
/-- A disk as a value. -/
def DkAt (W : World) (v : Value) (D : Dk) : Prop := ∃ A c B d, v = .agg #[.slice A D.1.length c, .slice B D.2.length d] ∧ FilesAt W A D.1 ∧ FaultsAt W B D.2
theorem DkAt.on {W W' : World} {v : Value} {D : Dk} (h : DkAt W v D) (hb : Below W.heap.size W W') : DkAt W' v D := by
  obtain ⟨A, c, B, d, h1, h2, h3⟩ := h
  exact ⟨A, c, B, d, h1, h2.on hb, h3.on hb⟩
/-- Few files, few faults. -/
def Few (D : Dk) : Prop := D.1.length ≤ 1000000 ∧ D.2.length ≤ 1000000
def cutS (s : ByteArray) (q : Bool) (n : Int) : ByteArray := if q = true then s.extract 0 (betw n s.size).toNat else s
def noF : Fl := (⟨#[]⟩, ⟨#[]⟩, 0)
def writeF (D : Dk) (k s : ByteArray) : Dk × Nat × Int :=
  ((withF D.1 (k, ((findF D.1 k).getD noF).2.1 ++ cutS s (meetF D.2 k 1).2.2 (meetF D.2 k 1).2.1.2.2, ((findF D.1 k).getD noF).2.2), (meetF D.2 k 1).1),
   (cutS s (meetF D.2 k 1).2.2 (meetF D.2 k 1).2.1.2.2).size, if (meetF D.2 k 1).2.2 = true then 15 else 0)
theorem cutS_le (s : ByteArray) (q : Bool) (n : Int) : (cutS s q n).size ≤ s.size := by
  unfold cutS
  split
  · simp; omega
  · exact Nat.le_refl _
/-- A disk assigned to a variable g, a fault laid into a variable of its own. -/
theorem met_world {w3 : World} {g : Nat} {a0 b0 : Value} (hg : w3.heap[g]? = some (.cells #[a0, b0] 25 (0, 0))) (a b u0 u1 u2 : Value) (z : Obj) {c0 c1 c2 : Value} (hz : z = .cells #[c0, c1, c2] 60) :
    ∃ Y, Y = (((((w3.alloc z).setCell ⟨g, 0, none⟩ a).setCell ⟨g, 1, none⟩ b).setCell ⟨w3.heap.size, 0, none⟩ u0).setCell ⟨w3.heap.size, 1, none⟩ u1).setCell ⟨w3.heap.size, 2, none⟩ u2 ∧ Y.heap[g]? = some (.cells #[a, b] 25 (0, 0)) ∧ Y.heap[w3.heap.size]? = some (.cells #[u0, u1, u2] 60 (0, 0)) ∧ Only [g] w3 Y := by
  have hlt := some_lt hg
  have h0 := (Lib.alloc_old w3 z g hlt).trans hg
  have hn := heap_alloc_new w3 z
  have o0 : Only [g] w3 (w3.alloc z) := (Only.refl [g] w3).alloc _
  have o1 : Only [g] w3 (((w3.alloc z).setCell ⟨g, 0, none⟩ a).setCell ⟨g, 1, none⟩ b) := (o0.set (p := ⟨g, 0, none⟩) (Or.inl (by simp)) a).set (p := ⟨g, 1, none⟩) (Or.inl (by simp)) b
  have h1 := store2 h0 a b
  have hn1 : (((w3.alloc z).setCell ⟨g, 0, none⟩ a).setCell ⟨g, 1, none⟩ b).heap[w3.heap.size]? = some z := by
    rw [Below.heap_setCell _ _ _ _ (by simp; omega), Below.heap_setCell _ _ _ _ (by simp; omega)]
    exact hn
  generalize ((w3.alloc z).setCell ⟨g, 0, none⟩ a).setCell ⟨g, 1, none⟩ b = X at o1 h1 hn1
  rw [hz] at hn1
  have o2 : Only [w3.heap.size] X (((X.setCell ⟨w3.heap.size, 0, none⟩ u0).setCell ⟨w3.heap.size, 1, none⟩ u1).setCell ⟨w3.heap.size, 2, none⟩ u2) := (((Only.refl [w3.heap.size] X).set (p := ⟨w3.heap.size, 0, none⟩) (Or.inl (by simp)) u0).set (p := ⟨w3.heap.size, 1, none⟩) (Or.inl (by simp)) u1).set (p := ⟨w3.heap.size, 2, none⟩) (Or.inl (by simp)) u2
  exact ⟨_, rfl, o2.keep h1 (by simp; omega), store3 hn1 u0 u1 u2, o1.trans o2 (fun x hx => by rw [List.mem_singleton.1 hx]; exact Or.inr (Nat.le_refl _))⟩
theorem new_set2 (X : World) (g : Nat) (a b : Value) (o : Obj) : (((X.setCell ⟨g, 0, none⟩ a).setCell ⟨g, 1, none⟩ b).alloc o).heap[X.heap.size]? = some o := by
  have e : ((X.setCell ⟨g, 0, none⟩ a).setCell ⟨g, 1, none⟩ b).heap.size = X.heap.size := by simp [World.setCell]
  rw [← e]
  exact heap_alloc_new _ _
theorem set2_new (X : World) (g : Nat) (hg : g < X.heap.size) (a b : Value) (o : Obj) : (((X.alloc o).setCell ⟨g, 0, none⟩ a).setCell ⟨g, 1, none⟩ b).heap[X.heap.size]? = some o := by
  rw [Below.heap_setCell _ _ _ _ (by simp; omega), Below.heap_setCell _ _ _ _ (by simp; omega)]
  exact heap_alloc_new _ _
end Go.Proofs.Ytphppkliehohbaa
