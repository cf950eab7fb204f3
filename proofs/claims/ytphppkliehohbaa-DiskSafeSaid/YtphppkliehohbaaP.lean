/-
  The law's does: an op done by the program. Premises: the disk and the op are not too long.
-/
import Derived.Test.YtphppkliehohbaaChecked
import Derived.Test.YtphppkliehohbaaMath
import Derived.Test.YtphppkliehohbaaA
import Derived.Test.YtphppkliehohbaaF
import Derived.Test.YtphppkliehohbaaL
import Derived.Test.YtphppkliehohbaaVX
import Derived.WalkKit
import Derived.WalkSpells
import Derived.WalkLawsBesides
import Derived.Deep.QuietTactic
import Derived.BigQuiet
import Derived.Lib.Hide
import Derived.Lib.SmallJoins
import Derived.Outline
import Derived.OwnWalk
import Derived.Deep.CutBlock
import Derived.BigRegion
import Derived.StillTailTactics
import Derived.Laws.AppendOwnNone
import Derived.Maps.AppendAt
import Derived.Deep.RegionLaw
import Derived.Deep.RegionHeld3
import Derived.Lib.BufferRead
import Derived.Deep.AppendLies
import Derived.Lib.SliceRun
import Derived.Laws.CopyOwn
import Derived.Maps.OwnSet
import Derived.StringKeys
import Derived.Lib.AppendZeros
namespace Go.Proofs.Ytphppkliehohbaa
open Go.RowKit
theorem Nm.eqv {P R : Dk} (h : ∀ k, findF P.1 k = findF R.1 k) (hR : Nm R) : Nm P := fun f hf => by
  obtain ⟨g, hg⟩ := (find_iff P.1 f.1).2 (List.mem_map_of_mem hf)
  rw [h] at hg
  obtain ⟨g2, hg2, e⟩ := List.mem_map.1 ((find_iff R.1 f.1).1 ⟨g, hg⟩)
  have := hR g2 hg2
  rw [e] at this
  exact this
theorem nm_of {D : Dk} (h : ∀ k f, findF D.1 k = some f → k.size ≤ maxLen) : Nm D := fun f hf => by
  obtain ⟨g, hg⟩ := (find_iff D.1 f.1).2 (List.mem_map_of_mem hf)
  exact h f.1 g hg
theorem Nm.find {D : Dk} (h : Nm D) {k : ByteArray} {f : Fl} (hf : findF D.1 k = some f) : k.size ≤ maxLen := by
  obtain ⟨g, hg, e⟩ := List.mem_map.1 ((find_iff D.1 k).1 ⟨f, hf⟩)
  have := h g hg
  rw [e] at this
  exact this
end Go.Proofs.Ytphppkliehohbaa
