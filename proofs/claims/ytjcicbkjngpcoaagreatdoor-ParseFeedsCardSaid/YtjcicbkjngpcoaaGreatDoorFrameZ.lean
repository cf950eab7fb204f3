/-
  What every proof of this seat's rows ends with: the last step where no argument lies in memory and what was there is as it was; what the rows' list gives the walks; a start that meets the list. No condition.
-/
import Derived.Test.YtjcicbkjngpcoaaGreatDoorQV
import Derived.Test.YtjcicbkjngpcoaaGreatDoorCards
import Derived.Test.YtjcicbkjngpcoaaGreatDoorTie
import Derived.ProofKit
import Derived.OpenShut
import Derived.Deep.DeepHandedRow
import Derived.Lib.LaidTab
import Derived.Stop.LaidErr
import Derived.LaidMore
import Derived.SliceStrings
import Derived.Carry
import Derived.Laws.IdiomArrays
import Derived.Lay
import Derived.LaidLaws
import Derived.MakeChecks
namespace Go.Proofs.YtjcicbkjngpcoaaGreatDoor
open Go.ChangeShapes Go.WideShapes Go.ChangeAt Go.RowKit S4

/-- The last step of a row none of whose arguments lies in memory: new blocks, nothing else. -/
theorem flat_post {H : Type} {enc : TypeId × Value → H} {P : Program} {f : Func} {s : ChangeSpec} {apart fresh handsOn again : Bool} {W W' : World} {args : Array Value} {v : Value} {ds : List (DataW H)}
    (hW : DataW.Whole enc P f.params.toList s.vars apart W args.toList ds [] [])
    (hres : ∀ (b : Nat) (sp : Nat → Bool) (hd : Bool), DataW.TrodAll enc P W' b sp hd f.resultTypes.toList (v.resultList f.resultTypes.size) (s.fn H (ds ++ [])).results [])
    (hargs : ∀ sp : Nat → Bool, DataW.TrodAll enc P W' 0 sp true f.params.toList args.toList (s.fn H (ds ++ [])).args [])
    (hvars : ∀ sp : Nat → Bool, DataW.TrodVars enc P W' sp s.vars (s.fn H (ds ++ [])).vars [])
    (hb : Below W.heap.size W W')
    (hok : ∀ (j : Nat) (t : TypeId) (r : Value), f.resultTypes[j]? = some t → (v.resultList f.resultTypes.size)[j]? = some r → Value.okWide P W' .any 0 t r) :
    s.post enc P f apart fresh handsOn again W args v W' :=
  ⟨ds, [], [], [], [], [], hW, hres _ _ _, hargs _, hvars _, hb.frame _, fun _ =>
    ⟨hok, _, _, [], ⟨[], [], trodAll_append (hargs _) (hres _ _ _), hvars _, rfl, fun _ _ hp => by simp at hp, fun _ => List.nodup_nil⟩, fun _ hp => by simp at hp⟩⟩

theorem laidOut : laidOutB Tryz.prog = true := by kernel_rfl
theorem own : ownKnob Tryz.prog.godebug = none := by kernel_rfl
/-- What the rows list. -/
def listed : List (String × DataW Unit) := Rows.parseBackRow.laid
/-- A start that meets the list: the listed variables laid by the kit's law, nothing else. -/
noncomputable def start (os : Os) : World := World.laidAll Tryz.prog os listed
theorem laid_met (os : Os) (args : Array Value) : laidMet Tryz.prog listed ((start os).forCall (fun _ _ => 0) ⟨#[], args, []⟩).memory :=
  laidMet_laidAll args (by kernel_rfl) (by kernel_rfl)
theorem gErr : Tryz.prog.globalNamed "strconv.ErrSyntax" = some 6 := by kernel_rfl
theorem gErrType : (Tryz.prog.globals[6]?).map (·.type) = some 64 := by kernel_rfl
theorem cells9 : Tryz.prog.cellsOf 9 = 1 := by kernel_rfl
theorem cells97 : Tryz.prog.cellsOf 158 = 1 := by kernel_rfl
theorem star : "*" ++ "errors.errorString" = "*errors.errorString" := by decide
theorem row95 (u : TypeId) (h : Tryz.prog.typeName? 3 u = some "*errors.errorString") : u = 156 :=
  typeName_ptr_named (nm := "errors.errorString") (by rw [star]; kernel_rfl) (by kernel_rfl) (by decide) u (by rw [star]; exact h)
theorem err_of {W : World} (h : laidMetH Tryz.prog listed W) : ErrAt W := by
  have h1 : laidMet Tryz.prog listed W := by
    rw [← Go.MakeChecks.laidMetH_plain Tryz.prog listed W (by kernel_rfl)]
    exact h
  have h2 := h1.tail.tail.tail.tail.tail
  obtain ⟨a, s, hv, _⟩ := laid_sentinel (n := "strconv.ErrSyntax") h2 gErr gErrType Tryz.underlying64 row95 Tryz.underlying156 Tryz.underlying158 rfl rfl Tryz.underlying9 cells97 cells9
  exact ⟨_, World.var?_cell gErr hv 0, Or.inr ⟨_, _, rfl⟩⟩
theorem gTab : Tryz.prog.globalNamed "internal/strconv.uint64pow10" = some 1 := by kernel_rfl
theorem gTabType : (Tryz.prog.globals[1]?).map (·.type) = some 122 := by kernel_rfl
theorem cells20 : Tryz.prog.cellsOf 122 = 20 := by kernel_rfl
theorem cellsU : Tryz.prog.cellsOf 44 = 1 := by kernel_rfl
theorem tab_of {W : World} (h : laidMetH Tryz.prog listed W) : Tab W := by
  have h1 : laidMet Tryz.prog listed W := by
    rw [← Go.MakeChecks.laidMetH_plain Tryz.prog listed W (by kernel_rfl)]
    exact h
  exact Lib.tabIs_of_head gTab gTabType Tryz.underlying122 Tryz.underlying44 cellsU cells20 h1.tail.tail
/-- There is an input that fits, at a start of which it is known that it is laid out as the program's variables are. -/
theorem witness_row_shaped {H : Type} {enc : TypeId × Value → H} {C : Checked} {os : Os} {f : FuncId} {fn : Func} {s : OpenSpec} {conds : List PathCond} {apart : Bool} {laid : List (String × DataW Unit)} (w0 : World) (args : Array Value) (hos : w0.os = os)
    (hsh : (w0.forCall (fun _ _ => 0) ⟨#[], args, []⟩).Shaped C.prog)
    (hok : Input.okWideB C.prog (w0.forCall (fun _ _ => 0) ⟨#[], args, []⟩) f ⟨#[], args, []⟩ = true)
    (hrow : s.preRow enc C.prog fn conds apart laid (w0.forCall (fun _ _ => 0) ⟨#[], args, []⟩).memory args) :
    ∃ (w : World) (tape : Tape) (i : Input), w.os = os ∧ (w.forCall tape i).Shaped C.prog ∧ i.vars = [] ∧ Input.okWide C.prog (w.forCall tape i) .any w.heap.size f i ∧
      s.preRow enc C.prog fn conds apart laid (w.forCall tape i).memory i.args ∧ ({ modest := false } : Assume).holds C.prog (lone (Frame.enter C.prog f i.args .normal) [] (w.forCall tape i)) :=
  ⟨w0, fun _ _ => 0, ⟨#[], args, []⟩, hos, hsh, (Input.okWide_of_okWideB (base := 0) hok).1, (Input.okWide_of_okWideB hok).2, hrow, by
    simp only [Assume.holds]
    exact ⟨by simp, by simp, fun _ => Modest.zero, by simp, by simp⟩⟩

end Go.Proofs.YtjcicbkjngpcoaaGreatDoor
