/-
  NARROWER THAN 'FOR EVERY INPUT', by the rows' own cells (each row's printed sentence says how): DictKeeps: laid · DictSteps: laid · DictNobody: laid.
  DERIVED. THE GIVEN ROWS OF THIS SEAT. 3 by the template 'for every input the law returns true; each argument reads behind the call as it read before'; 0 by the template 'total and deterministic' (their statements: YtnjccmdbfokfiaaDoorTotals.lean).
  GIVEN WITH THE SEED: the statements are not yours to turn. If you find one false, say at which input.
  Laid BY PROGRAM, IN A SANDBOX (cutbox-rows.mjs): the forced cells as the released guide's own fill.sh prints them over the translation 0435a14612984624… (all of the seat's roots in one cut). By AI agents, Wed Nov 11 2026. No macro, syntax, notation, axiom, sorry.
-/
import Derived.Test.YtnjccmdbfokfiaaDoorChecked
import GoSem.Claim
import GoSem.ClaimJoined
import GoSem.ClaimMapViews
import Derived.JoinedTies
import Derived.KernelRfl
namespace Go.Proofs.YtnjccmdbfokfiaaDoor
/- THE CELL 'sum', in the pinned program and in every row, IS THE sha256 OF THE DUMP (.gsa) THAT YtnjccmdbfokfiaaDoorProg.lean LOADS. Nothing in Lean hashes anything: it is a label: what it is worth is what the hold of that sum in a sandbox is worth. -/
noncomputable def Tryd.pinned : Pinned := { name := "ytnjccmdbfokfiaadoor", sum := "0435a146129846248f9db318140a5f1dcd9b0fb60c35e2ad0dc60c5d250f3f93", checked := Tryd.checked }
namespace Rows
def none {H : Type} : Left H := { results := [], args := [] }

/- WHAT THE LISTED PACKAGE-LEVEL VARIABLES READ AS WHEN THE CALL BEGINS. Each datum BY PROGRAM (the guide's laid-datum.mjs) off the statement by which the dump's own 'gosem.cut.vars' lays the variable. In a bare row this is a premise. The card (YtnjccmdbfokfiaaDoorCards.lean) ties it to the program's text. -/
def laid_mews_hash_factors {H : Type} : DataW H := .agg [.lit (.int .u64 18397679294719823053), .lit (.int .u64 14181476777654086739)]

/-- 'mewslaw07.DictKeeps': WHATEVER THE INPUT: true; the input reads as it did. -/
def dictKeepsSpec : ChangeSpec := { name := "dictKeeps", fn := fun _ => fun
  | [d1, d2, d3] => { results := [.lit (.bool true)], args := [d1, d2, d3] }
  | _ => none }
def dictKeepsRow : OpenClaim := { program := "ytnjccmdbfokfiaadoor", sum := "0435a146129846248f9db318140a5f1dcd9b0fb60c35e2ad0dc60c5d250f3f93", func := "mews/mewslaw07.DictKeeps", spec := "dictKeeps", named := ["mews/hash.factors"], apart := false, laid := [("mews/hash.factors", laid_mews_hash_factors)] }
def DictKeepsSaid : Prop := dictKeepsRow.holds Tryd.pinned (OpenSpec.ofChange dictKeepsSpec)

/-- ITS FALSE NEIGHBOUR: 'it returns false'. Refute it at one input. -/
def dictKeepsWrong : ChangeSpec := { name := "dictKeeps", fn := fun _ => fun
  | [d1, d2, d3] => { results := [.lit (.bool false)], args := [d1, d2, d3] }
  | _ => none }
def DictKeepsWrongFalsely : Prop := dictKeepsRow.holds Tryd.pinned (OpenSpec.ofChange dictKeepsWrong)

/-- 'mewslaw07.DictSteps': WHATEVER THE INPUT: true; the input reads as it did. -/
def dictStepsSpec : ChangeSpec := { name := "dictSteps", fn := fun _ => fun
  | [d1, d2] => { results := [.lit (.bool true)], args := [d1, d2] }
  | _ => none }
def dictStepsRow : OpenClaim := { program := "ytnjccmdbfokfiaadoor", sum := "0435a146129846248f9db318140a5f1dcd9b0fb60c35e2ad0dc60c5d250f3f93", func := "mews/mewslaw07.DictSteps", spec := "dictSteps", named := ["mews/hash.factors"], apart := false, laid := [("mews/hash.factors", laid_mews_hash_factors)] }
def DictStepsSaid : Prop := dictStepsRow.holds Tryd.pinned (OpenSpec.ofChange dictStepsSpec)

/-- ITS FALSE NEIGHBOUR: 'it returns false'. Refute it at one input. -/
def dictStepsWrong : ChangeSpec := { name := "dictSteps", fn := fun _ => fun
  | [d1, d2] => { results := [.lit (.bool false)], args := [d1, d2] }
  | _ => none }
def DictStepsWrongFalsely : Prop := dictStepsRow.holds Tryd.pinned (OpenSpec.ofChange dictStepsWrong)

/-- 'mewslaw07.DictNobody': WHATEVER THE INPUT: true; the input reads as it did. -/
def dictNobodySpec : ChangeSpec := { name := "dictNobody", fn := fun _ => fun
  | [d1, d2, d3] => { results := [.lit (.bool true)], args := [d1, d2, d3] }
  | _ => none }
def dictNobodyRow : OpenClaim := { program := "ytnjccmdbfokfiaadoor", sum := "0435a146129846248f9db318140a5f1dcd9b0fb60c35e2ad0dc60c5d250f3f93", func := "mews/mewslaw07.DictNobody", spec := "dictNobody", named := ["mews/hash.factors"], apart := false, laid := [("mews/hash.factors", laid_mews_hash_factors)] }
def DictNobodySaid : Prop := dictNobodyRow.holds Tryd.pinned (OpenSpec.ofChange dictNobodySpec)

/-- ITS FALSE NEIGHBOUR: 'it returns false'. Refute it at one input. -/
def dictNobodyWrong : ChangeSpec := { name := "dictNobody", fn := fun _ => fun
  | [d1, d2, d3] => { results := [.lit (.bool false)], args := [d1, d2, d3] }
  | _ => none }
def DictNobodyWrongFalsely : Prop := dictNobodyRow.holds Tryd.pinned (OpenSpec.ofChange dictNobodyWrong)

/- THE SECOND FORM. 'bulk': how many values and letters a reading holds, each counted each time it is reached (what is shared counts as often as it is met; a slice's spare places count too). A statement '..UptoSaid' is the law's where the arguments, and the package variables that the reading takes, are together of bulk at most 1048576: NARROWER than '..Said'. Prove '..Said' where nothing that the law and all that it calls make is longer than what came in: it says more and counts as full. Else prove '..UptoSaid'. A law counts once. -/
mutual
def uptoBulk {H : Type} : DataW H → Nat
  | .lit (.string bytes) => bytes.length + 1
  | .lit _ => 1
  | .nil => 1
  | .ptr d => uptoBulk d + 1
  | .slice elems spare => uptoBulkAll elems + uptoBulkAll spare + 1
  | .agg parts => uptoBulkAll parts + 1
  | .iface _ d => uptoBulk d + 1
  | .map entries => uptoBulkEntries entries + 1
  | .held _ => 1
def uptoBulkAll {H : Type} : List (DataW H) → Nat
  | [] => 0
  | d :: r => uptoBulk d + uptoBulkAll r
def uptoBulkEntries {H : Type} : List (Lit × DataW H) → Nat
  | [] => 0
  | x :: r => uptoBulkEntry x + uptoBulkEntries r
def uptoBulkEntry {H : Type} : Lit × DataW H → Nat
  | (.string bytes, d) => bytes.length + uptoBulk d + 1
  | (_, d) => uptoBulk d + 1
 end
def uptoSmall : (H : Type) → List (DataW H) → Bool := fun _ ds => decide (uptoBulkAll ds ≤ 1048576)
def OpenSpec.upto (s : _root_.Go.ChangeSpec) : _root_.Go.OpenSpec := { _root_.Go.OpenSpec.ofChange s with cond := some uptoSmall }

/-- 'mewslaw07.DictKeeps', WHERE WHAT IT READS IS OF BULK AT MOST 1048576: true; the input reads as it did. -/
def dictKeepsUptoRow : OpenClaim := { program := "ytnjccmdbfokfiaadoor", sum := "0435a146129846248f9db318140a5f1dcd9b0fb60c35e2ad0dc60c5d250f3f93", func := "mews/mewslaw07.DictKeeps", spec := "dictKeeps", named := ["mews/hash.factors"], apart := false, laid := [("mews/hash.factors", laid_mews_hash_factors)], narrowed := true }
def DictKeepsUptoSaid : Prop := dictKeepsUptoRow.holds Tryd.pinned (OpenSpec.upto dictKeepsSpec)

/-- 'mewslaw07.DictSteps', WHERE WHAT IT READS IS OF BULK AT MOST 1048576: true; the input reads as it did. -/
def dictStepsUptoRow : OpenClaim := { program := "ytnjccmdbfokfiaadoor", sum := "0435a146129846248f9db318140a5f1dcd9b0fb60c35e2ad0dc60c5d250f3f93", func := "mews/mewslaw07.DictSteps", spec := "dictSteps", named := ["mews/hash.factors"], apart := false, laid := [("mews/hash.factors", laid_mews_hash_factors)], narrowed := true }
def DictStepsUptoSaid : Prop := dictStepsUptoRow.holds Tryd.pinned (OpenSpec.upto dictStepsSpec)

/-- 'mewslaw07.DictNobody', WHERE WHAT IT READS IS OF BULK AT MOST 1048576: true; the input reads as it did. -/
def dictNobodyUptoRow : OpenClaim := { program := "ytnjccmdbfokfiaadoor", sum := "0435a146129846248f9db318140a5f1dcd9b0fb60c35e2ad0dc60c5d250f3f93", func := "mews/mewslaw07.DictNobody", spec := "dictNobody", named := ["mews/hash.factors"], apart := false, laid := [("mews/hash.factors", laid_mews_hash_factors)], narrowed := true }
def DictNobodyUptoSaid : Prop := dictNobodyUptoRow.holds Tryd.pinned (OpenSpec.upto dictNobodySpec)

end Rows
end Go.Proofs.YtnjccmdbfokfiaaDoor
