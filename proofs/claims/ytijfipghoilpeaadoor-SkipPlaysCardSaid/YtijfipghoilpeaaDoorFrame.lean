/-
  What every proof of this seat's rows ends with: what the rows' list gives the walks; a start that meets the list. No condition.
-/
import Derived.Test.YtijfipghoilpeaaDoorA
import Derived.Test.YtijfipghoilpeaaDoorCards
import Derived.Test.YtijfipghoilpeaaDoorTie
import Derived.ProofKit
import Derived.OpenShut
import Derived.Deep.DeepHandedRow
import Derived.Lib.LaidTab
import Derived.Stop.LaidErr
import Derived.LaidMore
import Derived.Lib.SmallJoins
import Derived.Deep.Slices
import Derived.Carry
namespace Go.Proofs.YtijfipghoilpeaaDoor
open Go.ChangeShapes Go.WideShapes Go.ChangeAt Go.RowKit

theorem own_knob : ownKnob Tryd.prog.godebug = none := by kernel_rfl
theorem laidOut : laidOutB Tryd.prog = true := by kernel_rfl
theorem gTz : Tryd.prog.globalNamed "math/bits.deBruijn64tab" = some 0 := by kernel_rfl
theorem gTzType : (Tryd.prog.globals[0]?).map (·.type) = some 76 := by kernel_rfl
theorem cellsTz : Tryd.prog.cellsOf 76 = 64 := by kernel_rfl
theorem cellsB : Tryd.prog.cellsOf 5 = 1 := by kernel_rfl
theorem gTab : Tryd.prog.globalNamed "mews/hash.factors" = some 1 := by kernel_rfl
theorem gTabType : (Tryd.prog.globals[1]?).map (·.type) = some 48 := by kernel_rfl
theorem cellsArr : Tryd.prog.cellsOf 48 = 2 := by kernel_rfl
theorem cellsU : Tryd.prog.cellsOf 22 = 1 := by kernel_rfl
/-- What the rows list. -/
def listed : List (String × DataW Unit) := [("math/bits.deBruijn64tab", Rows.laid_math_bits_deBruijn64tab), ("mews/hash.factors", Rows.laid_mews_hash_factors)]
def tzs : List Int := [0, 1, 56, 2, 57, 49, 28, 3, 61, 58, 42, 50, 38, 29, 17, 4, 62, 47, 59, 36, 45, 43, 51, 22, 53, 39, 33, 30, 24, 18, 12, 5, 63, 55, 48, 27, 60, 41, 37, 16, 46, 35, 44, 21, 52, 32, 23, 11, 54, 26, 40, 15, 34, 20, 31, 10, 25, 14, 19, 9, 13, 8, 7, 6]
theorem tzs_small : ∀ i : Nat, i < 64 → 0 ≤ tzs.getD i 0 ∧ tzs.getD i 0 ≤ 255 := by decide +kernel
theorem tab_of {W : World} (h : laidMetH Tryd.prog listed W) : Tabs W := by
  have h1 : laidMet Tryd.prog listed W := h
  have hZ : Lib.TabIs Tryd.prog W "math/bits.deBruijn64tab" .u8 tzs := Lib.tabIs_of_head gTz gTzType Tryd.underlying76 Tryd.underlying5 cellsB cellsTz h1
  have hT : Lib.TabIs Tryd.prog W "mews/hash.factors" .u64 [18397679294719823053, 14181476777654086739] := Lib.tabIs_of_head (rest := []) gTab gTabType Tryd.underlying48 Tryd.underlying22 cellsU cellsArr h1.tail
  refine ⟨⟨hT.cell gTab 0 (by decide), hT.cell gTab 1 (by decide)⟩, fun i hi => ?_⟩
  obtain ⟨h2, h3⟩ := tzs_small i hi
  refine ⟨(tzs.getD i 0).toNat, by omega, ?_⟩
  rw [Int.toNat_of_nonneg h2]
  exact hZ.cell gTz i hi
theorem laid_met (os : Os) (args : Array Value) : laidMet Tryd.prog listed ((World.doorLaid Tryd.prog 400 os).forCall (fun _ _ => 0) ⟨#[], args, []⟩).memory :=
  laidMet_of_run' 8 (by kernel_rfl) (by kernel_rfl)

end Go.Proofs.YtijfipghoilpeaaDoor
