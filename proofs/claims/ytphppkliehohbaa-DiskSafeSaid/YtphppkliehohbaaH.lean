/-
  The document's Cut. Premise: rows have lengths that Go's own rows have.
-/
import Derived.Test.YtphppkliehohbaaChecked
import Derived.Test.YtphppkliehohbaaMath
import Derived.Test.YtphppkliehohbaaA
import Derived.Test.YtphppkliehohbaaF
import Derived.WalkKit
import Derived.WalkSpells
import Derived.WalkLawsBesides
import Derived.Deep.QuietTactic
import Derived.BigQuiet
import Derived.Lib.Hide
import Derived.Lib.SmallJoins
import Derived.Outline
import Derived.OwnWalk
import Derived.Deep.CutBlock
import Derived.BigRegion
import Derived.StillTailTactics
import Derived.Laws.AppendOwnNone
import Derived.Maps.AppendAt
import Derived.Deep.RegionLaw
import Derived.Deep.RegionHeld3
import Derived.Lib.BufferRead
import Derived.Deep.AppendLies
namespace Go.Proofs.Ytphppkliehohbaa
open Go.RowKit
def cutD (s : ByteArray) (n : Int) : ByteArray := s.extract 0 (betw n s.size).toNat
def cutF (D : Dk) (k : ByteArray) (n : Int) : Dk × Int := match findF D.1 k with
  | none => (D, 8)
  | some x => ((withF D.1 (x.1, cutD x.2.1 n, betw x.2.2 ((cutD x.2.1 n).size : Int)), D.2), 0)
end Go.Proofs.Ytphppkliehohbaa
