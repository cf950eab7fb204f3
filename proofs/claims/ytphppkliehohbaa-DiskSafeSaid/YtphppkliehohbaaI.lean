/-
  The document's Remove. Premise: rows have lengths that Go's own rows have.
-/
import Derived.Test.YtphppkliehohbaaChecked
import Derived.Test.YtphppkliehohbaaMath
import Derived.WalkKit
import Derived.WalkSpells
import Derived.WalkLawsBesides
import Derived.Deep.QuietTactic
import Derived.BigQuiet
import Derived.Lib.Hide
import Derived.Lib.SmallJoins
import Derived.Outline
import Derived.OwnWalk
import Derived.Deep.CutBlock
import Derived.BigRegion
import Derived.StillTailTactics
import Derived.Laws.AppendOwnNone
import Derived.Maps.AppendAt
import Derived.Deep.RegionLaw
import Derived.Deep.RegionHeld3
import Derived.Lib.BufferRead
import Derived.Deep.AppendLies
namespace Go.Proofs.Ytphppkliehohbaa
open Go.RowKit
def removeF (L : List Fl) (k : ByteArray) : List Fl := (filesF L).filter (fun g => decide (g.1 ≠ k))
end Go.Proofs.Ytphppkliehohbaa
