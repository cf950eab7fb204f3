/-
  The document's Rename. Premise: rows have lengths that Go's own rows have.
-/
import Derived.Test.YtphppkliehohbaaChecked
import Derived.Test.YtphppkliehohbaaMath
import Derived.Test.YtphppkliehohbaaF
import Derived.Test.YtphppkliehohbaaI
import Derived.WalkKit
import Derived.WalkSpells
import Derived.WalkLawsBesides
import Derived.Deep.QuietTactic
import Derived.BigQuiet
import Derived.Lib.Hide
import Derived.Lib.SmallJoins
import Derived.Outline
import Derived.OwnWalk
import Derived.Deep.CutBlock
import Derived.BigRegion
import Derived.StillTailTactics
import Derived.Laws.AppendOwnNone
import Derived.Maps.AppendAt
import Derived.Deep.RegionLaw
import Derived.Deep.RegionHeld3
import Derived.Lib.BufferRead
import Derived.Deep.AppendLies
namespace Go.Proofs.Ytphppkliehohbaa
open Go.RowKit
def renameF (D : Dk) (k tk : ByteArray) : Dk × Int := match findF D.1 k with
  | none => (D, 8)
  | some x => if (meetF D.2 k 3).2.2 = true then ((D.1, (meetF D.2 k 3).1), 15) else (((filesF (if k = tk then D.1 else removeF D.1 tk)).map (fun g => if g.1 = k then (tk, x.2.1, x.2.2) else g), (meetF D.2 k 3).1), 0)
end Go.Proofs.Ytphppkliehohbaa
