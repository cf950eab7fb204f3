/-
  What every proof of this seat's rows ends with: the last step where no argument lies in memory and what was there is as it was; what the rows' list gives the walks; a start that meets the list. No condition.
-/
import Derived.Test.YtdldgiicblmknaaDoorHV
import Derived.Test.YtdldgiicblmknaaDoorCards
import Derived.Test.YtdldgiicblmknaaDoorTie
import Derived.ProofKit
import Derived.OpenShut
import Derived.Deep.DeepHandedRow
import Derived.Lib.LaidTab
import Derived.Stop.LaidErr
import Derived.LaidMore
namespace Go.Proofs.YtdldgiicblmknaaDoor
open Go.ChangeShapes Go.WideShapes Go.ChangeAt Go.RowKit

/-- The last step of a row none of whose arguments lies in memory: new blocks, nothing else. -/
theorem flat_post {H : Type} {enc : TypeId × Value → H} {P : Program} {f : Func} {s : ChangeSpec} {apart fresh handsOn again : Bool} {W W' : World} {args : Array Value} {v : Value} {ds : List (DataW H)}
    (hW : DataW.Whole enc P f.params.toList s.vars apart W args.toList ds [] [])
    (hres : ∀ (b : Nat) (sp : Nat → Bool) (hd : Bool), DataW.TrodAll enc P W' b sp hd f.resultTypes.toList (v.resultList f.resultTypes.size) (s.fn H (ds ++ [])).results [])
    (hargs : ∀ sp : Nat → Bool, DataW.TrodAll enc P W' 0 sp true f.params.toList args.toList (s.fn H (ds ++ [])).args [])
    (hvars : ∀ sp : Nat → Bool, DataW.TrodVars enc P W' sp s.vars (s.fn H (ds ++ [])).vars [])
    (hb : Below W.heap.size W W')
    (hok : ∀ (j : Nat) (t : TypeId) (r : Value), f.resultTypes[j]? = some t → (v.resultList f.resultTypes.size)[j]? = some r → Value.okWide P W' .any 0 t r) :
    s.post enc P f apart fresh handsOn again W args v W' :=
  ⟨ds, [], [], [], [], [], hW, hres _ _ _, hargs _, hvars _, hb.frame _, fun _ =>
    ⟨hok, _, _, [], ⟨[], [], trodAll_append (hargs _) (hres _ _ _), hvars _, rfl, fun _ _ hp => by simp at hp, fun _ => List.nodup_nil⟩, fun _ hp => by simp at hp⟩⟩

theorem own : ownKnob Tryd.prog.godebug = none := by kernel_rfl
theorem gTab : Tryd.prog.globalNamed "mews/hash.factors" = some 0 := by kernel_rfl
theorem gTabType : (Tryd.prog.globals[0]?).map (·.type) = some 83 := by kernel_rfl
theorem cellsArr : Tryd.prog.cellsOf 83 = 2 := by kernel_rfl
theorem cellsU : Tryd.prog.cellsOf 22 = 1 := by kernel_rfl
/-- What the rows list. -/
def listed : List (String × DataW Unit) := [("mews/hash.factors", Rows.laid_mews_hash_factors)]
theorem tab_of {W : World} (h : laidMetH Tryd.prog listed W) : Fac W ∧ 0 < W.heap.size := by
  have h1 : laidMet Tryd.prog listed W := h
  have hT : Lib.TabIs Tryd.prog W "mews/hash.factors" .u64 [18397679294719823053, 14181476777654086739] := Lib.tabIs_of_head (rest := []) gTab gTabType Tryd.underlying83 Tryd.underlying22 cellsU cellsArr h1
  have c0 := hT.cell gTab 0 (by decide)
  have c1 := hT.cell gTab 1 (by decide)
  refine ⟨⟨c0, c1⟩, ?_⟩
  rcases Nat.eq_zero_or_pos W.heap.size with hz | hz
  · exfalso
    have he : W.heap = #[] := Array.eq_empty_of_size_eq_zero hz
    simp [World.cell?, he] at c0
  · exact hz
theorem laid_met (os : Os) (args : Array Value) : laidMet Tryd.prog listed ((World.doorLaid Tryd.prog 400 os).forCall (fun _ _ => 0) ⟨#[], args, []⟩).memory :=
  laidMet_of_run' 8 (by kernel_rfl) (by kernel_rfl)

end Go.Proofs.YtdldgiicblmknaaDoor
