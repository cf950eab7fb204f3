/-
  The library's DeleteFunc by a name: the files of another name are left. Premise: the row lies in a block that is written in place, of at most a million files; the name lies elsewhere.
-/
import Derived.Test.YtphppkliehohbaaChecked
import Derived.Test.YtphppkliehohbaaMath
import Derived.Test.YtphppkliehohbaaA
import Derived.Test.YtphppkliehohbaaB
import Derived.Test.YtphppkliehohbaaC
import Derived.Test.YtphppkliehohbaaL
import Derived.Test.YtphppkliehohbaaVS
import Derived.WalkKit
import Derived.WalkSpells
import Derived.WalkLawsBesides
import Derived.Deep.QuietTactic
import Derived.BigQuiet
import Derived.Lib.Hide
import Derived.Lib.SmallJoins
import Derived.Outline
import Derived.OwnWalk
import Derived.Deep.CutBlock
import Derived.BigRegion
import Derived.StillTailTactics
import Derived.Laws.AppendOwnNone
import Derived.Maps.AppendAt
import Derived.Deep.RegionLaw
import Derived.Deep.RegionHeld3
import Derived.Lib.BufferRead
import Derived.Deep.AppendLies
import Derived.Lib.SliceRun
import Derived.Laws.CopyOwn
namespace Go.Proofs.Ytphppkliehohbaa
open Go.RowKit
theorem SRow.files {w : World} {g cap : Nat} {M : List Fl} (h : SRow w g cap M) : FilesAt w (some ⟨g, 0, none⟩) M := fun i f hi => by
  obtain ⟨h1, h2, h3⟩ := h.at hi
  refine ⟨_, rfl, h.lt, ?_⟩
  rw [add_zero]
  exact ⟨h1, h2, h3⟩
theorem oneanyW (w : World) (o : Obj) : ∃ W, W = w.alloc o ∧ W.heap[w.heap.size]? = some o ∧ Below w.heap.size w W ∧ W.heap.size = w.heap.size + 1 := ⟨_, rfl, heap_alloc_new w _, (Below.refl _ _).alloc (Nat.le_refl _) _, by simp⟩
end Go.Proofs.Ytphppkliehohbaa
