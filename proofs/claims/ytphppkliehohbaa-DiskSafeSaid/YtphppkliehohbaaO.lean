/-
  The law's did: an op done in the document's own. Premises: the disk and the op are not too long.
-/
import Derived.Test.YtphppkliehohbaaChecked
import Derived.Test.YtphppkliehohbaaMath
import Derived.Test.YtphppkliehohbaaB
import Derived.Test.YtphppkliehohbaaF
import Derived.Test.YtphppkliehohbaaG
import Derived.Test.YtphppkliehohbaaH
import Derived.Test.YtphppkliehohbaaI
import Derived.Test.YtphppkliehohbaaJ
import Derived.Test.YtphppkliehohbaaK
import Derived.Test.YtphppkliehohbaaL
import Derived.Test.YtphppkliehohbaaM
import Derived.Test.YtphppkliehohbaaN
import Derived.WalkKit
import Derived.WalkSpells
import Derived.WalkLawsBesides
import Derived.Deep.QuietTactic
import Derived.BigQuiet
import Derived.Lib.Hide
import Derived.Lib.SmallJoins
import Derived.Outline
import Derived.OwnWalk
import Derived.Deep.CutBlock
import Derived.BigRegion
import Derived.StillTailTactics
import Derived.Laws.AppendOwnNone
import Derived.Maps.AppendAt
import Derived.Deep.RegionLaw
import Derived.Deep.RegionHeld3
import Derived.Lib.BufferRead
import Derived.Deep.AppendLies
namespace Go.Proofs.Ytphppkliehohbaa
open Go.RowKit
/-- What an op does to a disk, by the document; how many bytes were written; its error. -/
def didF (D : Dk) (o : Od) : Dk × Int × Int :=
  if o.1 = 0 then ((writeF D o.2.1 o.2.2.1).1, (((writeF D o.2.1 o.2.2.1).2.1 : Nat) : Int), (writeF D o.2.1 o.2.2.1).2.2)
  else if o.1 = 1 then ((syncF D o.2.1).1, 0, (syncF D o.2.1).2)
  else if o.1 = 2 then ((renameF D o.2.1 o.2.2.1).1, 0, (renameF D o.2.1 o.2.2.1).2)
  else if o.1 = 3 then ((removeF D.1 o.2.1, D.2), 0, 0)
  else if o.1 = 4 then ((cutF D o.2.1 o.2.2.2).1, 0, (cutF D o.2.1 o.2.2.2).2)
  else if o.1 = 5 then (((filesF D.1).map (crashF [(o.2.1, o.2.2.2), (o.2.1, 1)]), []), 0, 0)
  else (faultyF D o, 0, 0)
theorem cell_poke {W : World} {p : Addr} {x : Option Addr} {n c : Nat} (hp : W.cell? p = some (.slice x n c)) (u : Value) {q : Addr} {z : Value} (hq : W.cell? q = some z) (hz : ∀ x n c, z ≠ .slice x n c) : (W.setCell p u).cell? q = some z := by
  rw [World.cell?_setCell_other _ _ _ _ (fun e => by
    rw [← e, hp] at hq
    exact hz _ _ _ (Option.some.inj hq).symm)]
  exact hq
theorem FilesAt.poke {W : World} {A : Option Addr} {L : List Fl} (h : FilesAt W A L) {p : Addr} {x : Option Addr} {n c : Nat} (hp : W.cell? p = some (.slice x n c)) (u : Value) : FilesAt (W.setCell p u) A L := fun i f hi => by
  obtain ⟨a, h1, h2, h3, h4, h5⟩ := h i f hi
  exact ⟨a, h1, by simpa [World.setCell] using h2, cell_poke hp u h3 (fun _ _ _ e => by cases e), cell_poke hp u h4 (fun _ _ _ e => by cases e), cell_poke hp u h5 (fun _ _ _ e => by cases e)⟩
theorem FaultsAt.poke {W : World} {A : Option Addr} {L : List Ft} (h : FaultsAt W A L) {p : Addr} {x : Option Addr} {n c : Nat} (hp : W.cell? p = some (.slice x n c)) (u : Value) : FaultsAt (W.setCell p u) A L := fun i f hi => by
  obtain ⟨a, h1, h2, h3, h4, h5⟩ := h i f hi
  exact ⟨a, h1, by simpa [World.setCell] using h2, cell_poke hp u h3 (fun _ _ _ e => by cases e), cell_poke hp u h4 (fun _ _ _ e => by cases e), cell_poke hp u h5 (fun _ _ _ e => by cases e)⟩
theorem DkAt.poke {W : World} {v : Value} {D : Dk} (h : DkAt W v D) {p : Addr} {x : Option Addr} {n c : Nat} (hp : W.cell? p = some (.slice x n c)) (u : Value) : DkAt (W.setCell p u) v D := by
  obtain ⟨A, c, B, d, h1, h2, h3⟩ := h
  exact ⟨A, c, B, d, h1, h2.poke hp u, h3.poke hp u⟩
/-- A disk assigned to a variable that held rows. -/
theorem DkAt.assign {W : World} {v : Value} {D : Dk} (h : DkAt W v D) {g : Nat} {x y : Option Addr} {n c m d : Nat} {ty : TypeId} (hg : W.heap[g]? = some (.cells #[.slice x n c, .slice y m d] ty (0, 0))) (u0 u1 : Value) : DkAt ((W.setCell ⟨g, 0, none⟩ u0).setCell ⟨g, 1, none⟩ u1) v D := by
  refine (h.poke (Lib.cell_of_heap hg 0) u0).poke (p := ⟨g, 1, none⟩) (x := y) (n := m) (c := d) ?_ u1
  rw [World.cell?_setCell_other _ _ _ _ (fun e => by cases e)]
  exact Lib.cell_of_heap hg 1
theorem set2_other {X : World} {g b : Nat} {o : Obj} (h : X.heap[b]? = some o) (hn : b ≠ g) (v0 v1 : Value) : ((X.setCell ⟨g, 0, none⟩ v0).setCell ⟨g, 1, none⟩ v1).heap[b]? = some o := by
  rw [Below.heap_setCell _ _ _ _ hn, Below.heap_setCell _ _ _ _ hn]
  exact h
end Go.Proofs.Ytphppkliehohbaa
