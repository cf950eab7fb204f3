/-
  NARROWER THAN 'FOR EVERY INPUT', by the rows' own cells (each row's printed sentence says how): ScanTurns: laid · ScanFinds: laid · ScanOnce: laid · ScanNobody: laid.
  DERIVED. THE GIVEN ROWS OF THIS SEAT. 4 by the template 'for every input the law returns true; each argument reads behind the call as it read before'; 0 by the template 'total and deterministic' (their statements: YtdldgiicblmknaaDoorTotals.lean).
  GIVEN WITH THE SEED: the statements are not yours to turn. If you find one false, say at which input.
  Laid BY PROGRAM, IN A SANDBOX (cutbox-rows.mjs): the forced cells as the released guide's own fill.sh prints them over the translation 8732a8f3f116a3c2… (all of the seat's roots in one cut). By AI agents, Wed Nov 11 2026. No macro, syntax, notation, axiom, sorry.
-/
import Derived.Test.YtdldgiicblmknaaDoorChecked
import GoSem.Claim
import GoSem.ClaimJoined
import GoSem.ClaimMapViews
import Derived.JoinedTies
import Derived.KernelRfl
namespace Go.Proofs.YtdldgiicblmknaaDoor
/- THE CELL 'sum', in the pinned program and in every row, IS THE sha256 OF THE DUMP (.gsa) THAT YtdldgiicblmknaaDoorProg.lean LOADS. Nothing in Lean hashes anything: it is a label: what it is worth is what the hold of that sum in a sandbox is worth. -/
noncomputable def Tryd.pinned : Pinned := { name := "ytdldgiicblmknaadoor", sum := "8732a8f3f116a3c2547f3318ee91f1ca0038f24fef7fc132976c8e1a63038e8d", checked := Tryd.checked }
namespace Rows
def none {H : Type} : Left H := { results := [], args := [] }

/- WHAT THE LISTED PACKAGE-LEVEL VARIABLES READ AS WHEN THE CALL BEGINS. Each datum BY PROGRAM (the guide's laid-datum.mjs) off the statement by which the dump's own 'gosem.cut.vars' lays the variable. In a bare row this is a premise. The card (YtdldgiicblmknaaDoorCards.lean) ties it to the program's text. -/
def laid_mews_hash_factors {H : Type} : DataW H := .agg [.lit (.int .u64 18397679294719823053), .lit (.int .u64 14181476777654086739)]

/-- 'mewslaw08.ScanTurns': WHATEVER THE INPUT: true; the input reads as it did. -/
def scanTurnsSpec : ChangeSpec := { name := "scanTurns", fn := fun _ => fun
  | [d1, d2, d3] => { results := [.lit (.bool true)], args := [d1, d2, d3] }
  | _ => none }
def scanTurnsRow : OpenClaim := { program := "ytdldgiicblmknaadoor", sum := "8732a8f3f116a3c2547f3318ee91f1ca0038f24fef7fc132976c8e1a63038e8d", func := "mews/mewslaw08.ScanTurns", spec := "scanTurns", named := ["mews/hash.factors"], apart := false, laid := [("mews/hash.factors", laid_mews_hash_factors)] }
def ScanTurnsSaid : Prop := scanTurnsRow.holds Tryd.pinned (OpenSpec.ofChange scanTurnsSpec)

/-- ITS FALSE NEIGHBOUR: 'it returns false'. Refute it at one input. -/
def scanTurnsWrong : ChangeSpec := { name := "scanTurns", fn := fun _ => fun
  | [d1, d2, d3] => { results := [.lit (.bool false)], args := [d1, d2, d3] }
  | _ => none }
def ScanTurnsWrongFalsely : Prop := scanTurnsRow.holds Tryd.pinned (OpenSpec.ofChange scanTurnsWrong)

/-- 'mewslaw08.ScanFinds': WHATEVER THE INPUT: true; the input reads as it did. -/
def scanFindsSpec : ChangeSpec := { name := "scanFinds", fn := fun _ => fun
  | [d1, d2, d3] => { results := [.lit (.bool true)], args := [d1, d2, d3] }
  | _ => none }
def scanFindsRow : OpenClaim := { program := "ytdldgiicblmknaadoor", sum := "8732a8f3f116a3c2547f3318ee91f1ca0038f24fef7fc132976c8e1a63038e8d", func := "mews/mewslaw08.ScanFinds", spec := "scanFinds", named := ["mews/hash.factors"], apart := false, laid := [("mews/hash.factors", laid_mews_hash_factors)] }
def ScanFindsSaid : Prop := scanFindsRow.holds Tryd.pinned (OpenSpec.ofChange scanFindsSpec)

/-- ITS FALSE NEIGHBOUR: 'it returns false'. Refute it at one input. -/
def scanFindsWrong : ChangeSpec := { name := "scanFinds", fn := fun _ => fun
  | [d1, d2, d3] => { results := [.lit (.bool false)], args := [d1, d2, d3] }
  | _ => none }
def ScanFindsWrongFalsely : Prop := scanFindsRow.holds Tryd.pinned (OpenSpec.ofChange scanFindsWrong)

/-- 'mewslaw08.ScanOnce': WHATEVER THE INPUT: true; the input reads as it did. -/
def scanOnceSpec : ChangeSpec := { name := "scanOnce", fn := fun _ => fun
  | [d1, d2, d3] => { results := [.lit (.bool true)], args := [d1, d2, d3] }
  | _ => none }
def scanOnceRow : OpenClaim := { program := "ytdldgiicblmknaadoor", sum := "8732a8f3f116a3c2547f3318ee91f1ca0038f24fef7fc132976c8e1a63038e8d", func := "mews/mewslaw08.ScanOnce", spec := "scanOnce", named := ["mews/hash.factors"], apart := false, laid := [("mews/hash.factors", laid_mews_hash_factors)] }
def ScanOnceSaid : Prop := scanOnceRow.holds Tryd.pinned (OpenSpec.ofChange scanOnceSpec)

/-- ITS FALSE NEIGHBOUR: 'it returns false'. Refute it at one input. -/
def scanOnceWrong : ChangeSpec := { name := "scanOnce", fn := fun _ => fun
  | [d1, d2, d3] => { results := [.lit (.bool false)], args := [d1, d2, d3] }
  | _ => none }
def ScanOnceWrongFalsely : Prop := scanOnceRow.holds Tryd.pinned (OpenSpec.ofChange scanOnceWrong)

/-- 'mewslaw08.ScanNobody': WHATEVER THE INPUT: true; the input reads as it did. -/
def scanNobodySpec : ChangeSpec := { name := "scanNobody", fn := fun _ => fun
  | [d1, d2] => { results := [.lit (.bool true)], args := [d1, d2] }
  | _ => none }
def scanNobodyRow : OpenClaim := { program := "ytdldgiicblmknaadoor", sum := "8732a8f3f116a3c2547f3318ee91f1ca0038f24fef7fc132976c8e1a63038e8d", func := "mews/mewslaw08.ScanNobody", spec := "scanNobody", named := ["mews/hash.factors"], apart := false, laid := [("mews/hash.factors", laid_mews_hash_factors)] }
def ScanNobodySaid : Prop := scanNobodyRow.holds Tryd.pinned (OpenSpec.ofChange scanNobodySpec)

/-- ITS FALSE NEIGHBOUR: 'it returns false'. Refute it at one input. -/
def scanNobodyWrong : ChangeSpec := { name := "scanNobody", fn := fun _ => fun
  | [d1, d2] => { results := [.lit (.bool false)], args := [d1, d2] }
  | _ => none }
def ScanNobodyWrongFalsely : Prop := scanNobodyRow.holds Tryd.pinned (OpenSpec.ofChange scanNobodyWrong)

/- THE SECOND FORM. 'bulk': how many values and letters a reading holds, each counted each time it is reached (what is shared counts as often as it is met; a slice's spare places count too). A statement '..UptoSaid' is the law's where the arguments, and the package variables that the reading takes, are together of bulk at most 1048576: NARROWER than '..Said'. Prove '..Said' where nothing that the law and all that it calls make is longer than what came in: it says more and counts as full. Else prove '..UptoSaid'. A law counts once. -/
mutual
def uptoBulk {H : Type} : DataW H → Nat
  | .lit (.string bytes) => bytes.length + 1
  | .lit _ => 1
  | .nil => 1
  | .ptr d => uptoBulk d + 1
  | .slice elems spare => uptoBulkAll elems + uptoBulkAll spare + 1
  | .agg parts => uptoBulkAll parts + 1
  | .iface _ d => uptoBulk d + 1
  | .map entries => uptoBulkEntries entries + 1
  | .held _ => 1
def uptoBulkAll {H : Type} : List (DataW H) → Nat
  | [] => 0
  | d :: r => uptoBulk d + uptoBulkAll r
def uptoBulkEntries {H : Type} : List (Lit × DataW H) → Nat
  | [] => 0
  | x :: r => uptoBulkEntry x + uptoBulkEntries r
def uptoBulkEntry {H : Type} : Lit × DataW H → Nat
  | (.string bytes, d) => bytes.length + uptoBulk d + 1
  | (_, d) => uptoBulk d + 1
 end
def uptoSmall : (H : Type) → List (DataW H) → Bool := fun _ ds => decide (uptoBulkAll ds ≤ 1048576)
def OpenSpec.upto (s : _root_.Go.ChangeSpec) : _root_.Go.OpenSpec := { _root_.Go.OpenSpec.ofChange s with cond := some uptoSmall }

/-- 'mewslaw08.ScanTurns', WHERE WHAT IT READS IS OF BULK AT MOST 1048576: true; the input reads as it did. -/
def scanTurnsUptoRow : OpenClaim := { program := "ytdldgiicblmknaadoor", sum := "8732a8f3f116a3c2547f3318ee91f1ca0038f24fef7fc132976c8e1a63038e8d", func := "mews/mewslaw08.ScanTurns", spec := "scanTurns", named := ["mews/hash.factors"], apart := false, laid := [("mews/hash.factors", laid_mews_hash_factors)], narrowed := true }
def ScanTurnsUptoSaid : Prop := scanTurnsUptoRow.holds Tryd.pinned (OpenSpec.upto scanTurnsSpec)

/-- 'mewslaw08.ScanFinds', WHERE WHAT IT READS IS OF BULK AT MOST 1048576: true; the input reads as it did. -/
def scanFindsUptoRow : OpenClaim := { program := "ytdldgiicblmknaadoor", sum := "8732a8f3f116a3c2547f3318ee91f1ca0038f24fef7fc132976c8e1a63038e8d", func := "mews/mewslaw08.ScanFinds", spec := "scanFinds", named := ["mews/hash.factors"], apart := false, laid := [("mews/hash.factors", laid_mews_hash_factors)], narrowed := true }
def ScanFindsUptoSaid : Prop := scanFindsUptoRow.holds Tryd.pinned (OpenSpec.upto scanFindsSpec)

/-- 'mewslaw08.ScanOnce', WHERE WHAT IT READS IS OF BULK AT MOST 1048576: true; the input reads as it did. -/
def scanOnceUptoRow : OpenClaim := { program := "ytdldgiicblmknaadoor", sum := "8732a8f3f116a3c2547f3318ee91f1ca0038f24fef7fc132976c8e1a63038e8d", func := "mews/mewslaw08.ScanOnce", spec := "scanOnce", named := ["mews/hash.factors"], apart := false, laid := [("mews/hash.factors", laid_mews_hash_factors)], narrowed := true }
def ScanOnceUptoSaid : Prop := scanOnceUptoRow.holds Tryd.pinned (OpenSpec.upto scanOnceSpec)

/-- 'mewslaw08.ScanNobody', WHERE WHAT IT READS IS OF BULK AT MOST 1048576: true; the input reads as it did. -/
def scanNobodyUptoRow : OpenClaim := { program := "ytdldgiicblmknaadoor", sum := "8732a8f3f116a3c2547f3318ee91f1ca0038f24fef7fc132976c8e1a63038e8d", func := "mews/mewslaw08.ScanNobody", spec := "scanNobody", named := ["mews/hash.factors"], apart := false, laid := [("mews/hash.factors", laid_mews_hash_factors)], narrowed := true }
def ScanNobodyUptoSaid : Prop := scanNobodyUptoRow.holds Tryd.pinned (OpenSpec.upto scanNobodySpec)

end Rows
end Go.Proofs.YtdldgiicblmknaaDoor
