/-
  How great a disk may become by an op. No condition.
-/
import Derived.Test.YtphppkliehohbaaChecked
import Derived.Test.YtphppkliehohbaaMath
import Derived.Test.YtphppkliehohbaaA
import Derived.Test.YtphppkliehohbaaF
import Derived.Test.YtphppkliehohbaaL
import Derived.WalkKit
import Derived.WalkSpells
import Derived.WalkLawsBesides
import Derived.Deep.QuietTactic
import Derived.BigQuiet
import Derived.Lib.Hide
import Derived.Lib.SmallJoins
import Derived.Outline
import Derived.OwnWalk
import Derived.Deep.CutBlock
import Derived.BigRegion
import Derived.StillTailTactics
import Derived.Laws.AppendOwnNone
import Derived.Maps.AppendAt
import Derived.Deep.RegionLaw
import Derived.Deep.RegionHeld3
import Derived.Lib.BufferRead
import Derived.Deep.AppendLies
namespace Go.Proofs.Ytphppkliehohbaa
open Go.RowKit
/-- No more files, no more faults than so many, none of more bytes than so many. -/
structure Lim (n m : Nat) (D : Dk) : Prop where
  fl : D.1.length ≤ n
  ft : D.2.length ≤ n
  sz : ∀ f ∈ D.1, f.2.1.size ≤ m
theorem Lim.mono {n n' m m' : Nat} {D : Dk} (h : Lim n m D) (hn : n ≤ n') (hm : m ≤ m') : Lim n' m' D := ⟨Nat.le_trans h.fl hn, Nat.le_trans h.ft hn, fun f hf => Nat.le_trans (h.sz f hf) hm⟩
/-- What a call tells of a disk: a disk like that one, and not much greater. -/
def To (w' : World) (v' : Value) (D R : Dk) (s : Nat) : Prop := ∃ D', DkAt w' v' D' ∧ Eqv D' R ∧ ∀ n m, Lim n m D → Lim (n + 1) (m + s) D'
def readF (D : Dk) (k : ByteArray) : ByteArray × Int := match findF D.1 k with
  | none => (⟨#[]⟩, 8)
  | some x => (x.2.1, 0)
def safeF (D : Dk) (k : ByteArray) : ByteArray := match findF D.1 k with
  | none => ⟨#[]⟩
  | some x => x.2.1.extract 0 x.2.2.toNat
/-- Disks of the size that a call is asked for. -/
abbrev Okd (D : Dk) : Prop := Lim 1000000 1152921504606846976 D
theorem Okd.few {D : Dk} (h : Okd D) : Few D := ⟨h.fl, h.ft⟩
end Go.Proofs.Ytphppkliehohbaa
