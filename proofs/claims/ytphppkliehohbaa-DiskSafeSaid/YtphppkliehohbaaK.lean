/-
  The document's Crash. Premise: rows have lengths that Go's own rows have, and so have texts.
-/
import Derived.Test.YtphppkliehohbaaChecked
import Derived.Test.YtphppkliehohbaaMath
import Derived.Test.YtphppkliehohbaaA
import Derived.Test.YtphppkliehohbaaB
import Derived.Test.YtphppkliehohbaaC
import Derived.Test.YtphppkliehohbaaE
import Derived.Test.YtphppkliehohbaaF
import Derived.WalkKit
import Derived.WalkSpells
import Derived.WalkLawsBesides
import Derived.Deep.QuietTactic
import Derived.BigQuiet
import Derived.Lib.Hide
import Derived.Lib.SmallJoins
import Derived.Outline
import Derived.OwnWalk
import Derived.Deep.CutBlock
import Derived.BigRegion
import Derived.StillTailTactics
import Derived.Laws.AppendOwnNone
import Derived.Maps.AppendAt
import Derived.Deep.RegionLaw
import Derived.Deep.RegionHeld3
import Derived.Lib.BufferRead
import Derived.Deep.AppendLies
namespace Go.Proofs.Ytphppkliehohbaa
open Go.RowKit
abbrev Kp := ByteArray × Int
def KeepsAt (W : World) (A : Option Addr) (K : List Kp) : Prop := ∀ i f, K[i]? = some f → ∃ a, A = some a ∧ a.block < W.heap.size ∧
  W.cell? (a.add (i * 2)) = some (.string f.1) ∧ W.cell? ⟨(a.add (i * 2)).block, (a.add (i * 2)).off + 1, none⟩ = some (.int .i64 f.2)
theorem KeepsAt.on {W W' : World} {A : Option Addr} {K : List Kp} (h : KeepsAt W A K) (hb : Below W.heap.size W W') : KeepsAt W' A K := fun i f hi => by
  obtain ⟨a, h1, h2, h3, h4⟩ := h i f hi
  have e : ((a.add (i * 2)) : Addr).block < W.heap.size := by rw [add_block]; exact h2
  exact ⟨a, h1, Nat.lt_of_lt_of_le h2 hb.size, (hb.cell e).trans h3, (hb.cell (p := ⟨(a.add (i * 2)).block, _, none⟩) e).trans h4⟩
theorem run_ixP (a : Addr) (k n c : Nat) (hk : k < n) (w : World) : Sem.run Try.prog (Instr.indexAt 26 (.slice (some a) n c) (.int .i64 (k : Int))) w = .ok (.pointer (some (a.add (k * 2)))) w := by
  go_simp
/-- How many bytes more are left of a file. -/
def moreF (K : List Kp) (f : Fl) : Int := match K.find? (fun p => decide (p.1 = f.1)) with
  | some p => betw p.2 ((f.2.1.size : Int) - f.2.2)
  | none => 0
def crashF (K : List Kp) (f : Fl) : Fl := (f.1, f.2.1.extract 0 (f.2.2 + moreF K f).toNat, f.2.2 + moreF K f)
theorem more_le {K : List Kp} {f : Fl} (h : f.2.2 ≤ (f.2.1.size : Int)) : 0 ≤ moreF K f ∧ moreF K f ≤ (f.2.1.size : Int) - f.2.2 := by
  unfold moreF
  split
  · exact betw_le (by omega)
  · omega
end Go.Proofs.Ytphppkliehohbaa
