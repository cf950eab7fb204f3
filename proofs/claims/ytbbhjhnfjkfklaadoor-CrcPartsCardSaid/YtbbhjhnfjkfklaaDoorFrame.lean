/-
  What every proof of this seat's rows ends with: the last step where no argument lies in memory and what was there is as it was; what the rows' list gives the walks; a start that meets the list. No condition.
-/
import Derived.Test.YtbbhjhnfjkfklaaDoorV
import Derived.Test.YtbbhjhnfjkfklaaDoorCards
import Derived.Test.YtbbhjhnfjkfklaaDoorTie
import Derived.ProofKit
import Derived.OpenShut
import Derived.Deep.DeepHandedRow
import Derived.Lib.LaidTab
import Derived.LaidMore
import Derived.Lib.SmallJoins
import Derived.Deep.Slices
import Derived.Carry
namespace Go.Proofs.YtbbhjhnfjkfklaaDoor
open Go.ChangeShapes Go.WideShapes Go.ChangeAt Go.RowKit

/-- The last step of a row none of whose arguments lies in memory: new blocks, nothing else. -/
theorem flat_post {H : Type} {enc : TypeId × Value → H} {P : Program} {f : Func} {s : ChangeSpec} {apart fresh handsOn again : Bool} {W W' : World} {args : Array Value} {v : Value} {ds : List (DataW H)}
    (hW : DataW.Whole enc P f.params.toList s.vars apart W args.toList ds [] [])
    (hres : ∀ (b : Nat) (sp : Nat → Bool) (hd : Bool), DataW.TrodAll enc P W' b sp hd f.resultTypes.toList (v.resultList f.resultTypes.size) (s.fn H (ds ++ [])).results [])
    (hargs : ∀ sp : Nat → Bool, DataW.TrodAll enc P W' 0 sp true f.params.toList args.toList (s.fn H (ds ++ [])).args [])
    (hvars : ∀ sp : Nat → Bool, DataW.TrodVars enc P W' sp s.vars (s.fn H (ds ++ [])).vars [])
    (hb : Below W.heap.size W W')
    (hok : ∀ (j : Nat) (t : TypeId) (r : Value), f.resultTypes[j]? = some t → (v.resultList f.resultTypes.size)[j]? = some r → Value.okWide P W' .any 0 t r) :
    s.post enc P f apart fresh handsOn again W args v W' :=
  ⟨ds, [], [], [], [], [], hW, hres _ _ _, hargs _, hvars _, hb.frame _, fun _ =>
    ⟨hok, _, _, [], ⟨[], [], trodAll_append (hargs _) (hres _ _ _), hvars _, rfl, fun _ _ hp => by simp at hp, fun _ => List.nodup_nil⟩, fun _ hp => by simp at hp⟩⟩

theorem own_knob : ownKnob Tryd.prog.godebug = none := by kernel_rfl
theorem laidOut : laidOutB Tryd.prog = true := by kernel_rfl

theorem gTab : Tryd.prog.globalNamed "mews/crc.folds" = some 0 := by kernel_rfl
theorem gTabType : (Tryd.prog.globals[0]?).map (·.type) = some 39 := by kernel_rfl
theorem cellsArr : Tryd.prog.cellsOf 39 = 16 := by kernel_rfl
theorem cellsW : Tryd.prog.cellsOf 22 = 1 := by kernel_rfl
/-- What the rows list. -/
def listed : List (String × DataW Unit) := [("mews/crc.folds", Rows.laid_mews_crc_folds)]
theorem tab_of {W : World} (h : laidMetH Tryd.prog listed W) : Tab W := by
  have h1 : laidMet Tryd.prog listed W := h
  have hZ : Lib.TabIs Tryd.prog W "mews/crc.folds" .u32 folds := Lib.tabIs_of_head (rest := []) gTab gTabType Tryd.underlying39 Tryd.underlying22 cellsW cellsArr h1
  intro i hi
  rw [← folds_are i hi]
  exact hZ.cell gTab i hi
theorem laid_met (os : Os) (args : Array Value) : laidMet Tryd.prog listed ((World.doorLaid Tryd.prog 400 os).forCall (fun _ _ => 0) ⟨#[], args, []⟩).memory :=
  laidMet_of_run' 8 (by kernel_rfl) (by kernel_rfl)

end Go.Proofs.YtbbhjhnfjkfklaaDoor
