/-
  The document's Same: two disks with the same files that count and the same faults are the same. Premise: rows have lengths that Go's own rows have.
-/
import Derived.Test.YtphppkliehohbaaChecked
import Derived.Test.YtphppkliehohbaaMath
import Derived.Test.YtphppkliehohbaaA
import Derived.Test.YtphppkliehohbaaF
import Derived.WalkKit
import Derived.WalkSpells
import Derived.WalkLawsBesides
import Derived.Deep.QuietTactic
import Derived.BigQuiet
import Derived.Lib.Hide
import Derived.Lib.SmallJoins
import Derived.Outline
import Derived.OwnWalk
import Derived.Deep.CutBlock
import Derived.BigRegion
import Derived.StillTailTactics
import Derived.Laws.AppendOwnNone
import Derived.Maps.AppendAt
import Derived.Deep.RegionLaw
import Derived.Deep.RegionHeld3
import Derived.Lib.BufferRead
import Derived.Deep.AppendLies
namespace Go.Proofs.Ytphppkliehohbaa
open Go.RowKit
/-- The same files that count, the same faults, in order. -/
def Eqv (a b : Dk) : Prop := (∀ k, findF a.1 k = findF b.1 k) ∧ a.2 = b.2
theorem Eqv.refl (a : Dk) : Eqv a a := ⟨fun _ => rfl, rfl⟩
theorem Eqv.symm {a b : Dk} (h : Eqv a b) : Eqv b a := ⟨fun k => (h.1 k).symm, h.2.symm⟩
theorem Eqv.trans {a b c : Dk} (h : Eqv a b) (g : Eqv b c) : Eqv a c := ⟨fun k => (h.1 k).trans (g.1 k), h.2.trans g.2⟩
theorem find_iff (L : List Fl) (k : ByteArray) : (∃ f, findF L k = some f) ↔ k ∈ L.map (·.1) := by
  constructor
  · rintro ⟨f, hf⟩
    obtain ⟨h1, g, hg, h2⟩ := find_some hf
    refine List.mem_map.2 ⟨g, hg, ?_⟩
    rw [← h1, ← h2]
    rfl
  · exact find_mem
theorem files_mem {L : List Fl} {f : Fl} (h : f ∈ filesF L) : findF L f.1 = some f := by
  revert h
  refine list_ind (p := fun L => f ∈ filesF L → findF L f.1 = some f) (fun h => by cases h) (fun l o ih => ?_) L
  rw [files_snoc, find_snoc]
  unfold addF
  split
  · intro h
    rw [ih h]
    rfl
  · rename_i hn
    intro h
    rcases List.mem_append.1 h with h | h
    · rw [ih h]
      rfl
    · obtain rfl := List.mem_singleton.1 h
      have hno : findF l o.1 = none := find_none (fun e => has_no hn ((files_names l o.1).2 e))
      show (findF l o.1).or (if o.1 = o.1 then some (normF o) else none) = some (normF o)
      rw [hno, if_pos rfl]
      rfl
end Go.Proofs.Ytphppkliehohbaa
