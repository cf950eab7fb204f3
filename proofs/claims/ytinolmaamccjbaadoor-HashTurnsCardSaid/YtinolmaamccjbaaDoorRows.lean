/-
  NARROWER THAN 'FOR EVERY INPUT', by the rows' own cells (each row's printed sentence says how): HashSays: laid · HashTurns: laid · HashWalks: laid · HashGrows: laid.
  DERIVED. THE GIVEN ROWS OF THIS SEAT. 4 by the template 'for every input the law returns true; each argument reads behind the call as it read before'; 0 by the template 'total and deterministic' (their statements: YtinolmaamccjbaaDoorTotals.lean).
  GIVEN WITH THE SEED: the statements are not yours to turn. If you find one false, say at which input.
  Laid BY PROGRAM, IN A SANDBOX (cutbox-rows.mjs): the forced cells as the released guide's own fill.sh prints them over the translation f2973c873fc9346d… (all of the seat's roots in one cut). By AI agents, Wed Nov 11 2026. No macro, syntax, notation, axiom, sorry.
-/
import Derived.Test.YtinolmaamccjbaaDoorChecked
import GoSem.Claim
import GoSem.ClaimJoined
import GoSem.ClaimMapViews
import Derived.JoinedTies
import Derived.KernelRfl
namespace Go.Proofs.YtinolmaamccjbaaDoor
/- THE CELL 'sum', in the pinned program and in every row, IS THE sha256 OF THE DUMP (.gsa) THAT YtinolmaamccjbaaDoorProg.lean LOADS. Nothing in Lean hashes anything: it is a label: what it is worth is what the hold of that sum in a sandbox is worth. -/
noncomputable def Tryd.pinned : Pinned := { name := "ytinolmaamccjbaadoor", sum := "f2973c873fc9346d29d10e65cc9a8834f3fe7d0350534a9dbb81f5cc1d2ef149", checked := Tryd.checked }
namespace Rows
def none {H : Type} : Left H := { results := [], args := [] }

/- WHAT THE LISTED PACKAGE-LEVEL VARIABLES READ AS WHEN THE CALL BEGINS. Each datum BY PROGRAM (the guide's laid-datum.mjs) off the statement by which the dump's own 'gosem.cut.vars' lays the variable. In a bare row this is a premise. The card (YtinolmaamccjbaaDoorCards.lean) ties it to the program's text. -/
def laid_mews_hash_factors {H : Type} : DataW H := .agg [.lit (.int .u64 18397679294719823053), .lit (.int .u64 14181476777654086739)]

/-- 'mewslaw06.HashSays': WHATEVER THE INPUT: true; the input reads as it did. -/
def hashSaysSpec : ChangeSpec := { name := "hashSays", fn := fun _ => fun
  | [d1, d2, d3] => { results := [.lit (.bool true)], args := [d1, d2, d3] }
  | _ => none }
def hashSaysRow : OpenClaim := { program := "ytinolmaamccjbaadoor", sum := "f2973c873fc9346d29d10e65cc9a8834f3fe7d0350534a9dbb81f5cc1d2ef149", func := "mews/mewslaw06.HashSays", spec := "hashSays", named := ["mews/hash.factors"], apart := false, laid := [("mews/hash.factors", laid_mews_hash_factors)] }
def HashSaysSaid : Prop := hashSaysRow.holds Tryd.pinned (OpenSpec.ofChange hashSaysSpec)

/-- ITS FALSE NEIGHBOUR: 'it returns false'. Refute it at one input. -/
def hashSaysWrong : ChangeSpec := { name := "hashSays", fn := fun _ => fun
  | [d1, d2, d3] => { results := [.lit (.bool false)], args := [d1, d2, d3] }
  | _ => none }
def HashSaysWrongFalsely : Prop := hashSaysRow.holds Tryd.pinned (OpenSpec.ofChange hashSaysWrong)

/-- 'mewslaw06.HashTurns': WHATEVER THE INPUT: true; the input reads as it did. -/
def hashTurnsSpec : ChangeSpec := { name := "hashTurns", fn := fun _ => fun
  | [d1, d2] => { results := [.lit (.bool true)], args := [d1, d2] }
  | _ => none }
def hashTurnsRow : OpenClaim := { program := "ytinolmaamccjbaadoor", sum := "f2973c873fc9346d29d10e65cc9a8834f3fe7d0350534a9dbb81f5cc1d2ef149", func := "mews/mewslaw06.HashTurns", spec := "hashTurns", named := ["mews/hash.factors"], apart := false, laid := [("mews/hash.factors", laid_mews_hash_factors)] }
def HashTurnsSaid : Prop := hashTurnsRow.holds Tryd.pinned (OpenSpec.ofChange hashTurnsSpec)

/-- ITS FALSE NEIGHBOUR: 'it returns false'. Refute it at one input. -/
def hashTurnsWrong : ChangeSpec := { name := "hashTurns", fn := fun _ => fun
  | [d1, d2] => { results := [.lit (.bool false)], args := [d1, d2] }
  | _ => none }
def HashTurnsWrongFalsely : Prop := hashTurnsRow.holds Tryd.pinned (OpenSpec.ofChange hashTurnsWrong)

/-- 'mewslaw06.HashWalks': WHATEVER THE INPUT: true; the input reads as it did. -/
def hashWalksSpec : ChangeSpec := { name := "hashWalks", fn := fun _ => fun
  | [d] => { results := [.lit (.bool true)], args := [d] }
  | _ => none }
def hashWalksRow : OpenClaim := { program := "ytinolmaamccjbaadoor", sum := "f2973c873fc9346d29d10e65cc9a8834f3fe7d0350534a9dbb81f5cc1d2ef149", func := "mews/mewslaw06.HashWalks", spec := "hashWalks", named := ["mews/hash.factors"], apart := false, laid := [("mews/hash.factors", laid_mews_hash_factors)] }
def HashWalksSaid : Prop := hashWalksRow.holds Tryd.pinned (OpenSpec.ofChange hashWalksSpec)

/-- ITS FALSE NEIGHBOUR: 'it returns false'. Refute it at one input. -/
def hashWalksWrong : ChangeSpec := { name := "hashWalks", fn := fun _ => fun
  | [d] => { results := [.lit (.bool false)], args := [d] }
  | _ => none }
def HashWalksWrongFalsely : Prop := hashWalksRow.holds Tryd.pinned (OpenSpec.ofChange hashWalksWrong)

/-- 'mewslaw06.HashGrows': WHATEVER THE INPUT: true; the input reads as it did. -/
def hashGrowsSpec : ChangeSpec := { name := "hashGrows", fn := fun _ => fun
  | [d1, d2, d3] => { results := [.lit (.bool true)], args := [d1, d2, d3] }
  | _ => none }
def hashGrowsRow : OpenClaim := { program := "ytinolmaamccjbaadoor", sum := "f2973c873fc9346d29d10e65cc9a8834f3fe7d0350534a9dbb81f5cc1d2ef149", func := "mews/mewslaw06.HashGrows", spec := "hashGrows", named := ["mews/hash.factors"], apart := false, laid := [("mews/hash.factors", laid_mews_hash_factors)] }
def HashGrowsSaid : Prop := hashGrowsRow.holds Tryd.pinned (OpenSpec.ofChange hashGrowsSpec)

/-- ITS FALSE NEIGHBOUR: 'it returns false'. Refute it at one input. -/
def hashGrowsWrong : ChangeSpec := { name := "hashGrows", fn := fun _ => fun
  | [d1, d2, d3] => { results := [.lit (.bool false)], args := [d1, d2, d3] }
  | _ => none }
def HashGrowsWrongFalsely : Prop := hashGrowsRow.holds Tryd.pinned (OpenSpec.ofChange hashGrowsWrong)

/- THE SECOND FORM. 'bulk': how many values and letters a reading holds, each counted each time it is reached (what is shared counts as often as it is met; a slice's spare places count too). A statement '..UptoSaid' is the law's where the arguments, and the package variables that the reading takes, are together of bulk at most 1048576: NARROWER than '..Said'. Prove '..Said' where nothing that the law and all that it calls make is longer than what came in: it says more and counts as full. Else prove '..UptoSaid'. A law counts once. -/
mutual
def uptoBulk {H : Type} : DataW H → Nat
  | .lit (.string bytes) => bytes.length + 1
  | .lit _ => 1
  | .nil => 1
  | .ptr d => uptoBulk d + 1
  | .slice elems spare => uptoBulkAll elems + uptoBulkAll spare + 1
  | .agg parts => uptoBulkAll parts + 1
  | .iface _ d => uptoBulk d + 1
  | .map entries => uptoBulkEntries entries + 1
  | .held _ => 1
def uptoBulkAll {H : Type} : List (DataW H) → Nat
  | [] => 0
  | d :: r => uptoBulk d + uptoBulkAll r
def uptoBulkEntries {H : Type} : List (Lit × DataW H) → Nat
  | [] => 0
  | x :: r => uptoBulkEntry x + uptoBulkEntries r
def uptoBulkEntry {H : Type} : Lit × DataW H → Nat
  | (.string bytes, d) => bytes.length + uptoBulk d + 1
  | (_, d) => uptoBulk d + 1
 end
def uptoSmall : (H : Type) → List (DataW H) → Bool := fun _ ds => decide (uptoBulkAll ds ≤ 1048576)
def OpenSpec.upto (s : _root_.Go.ChangeSpec) : _root_.Go.OpenSpec := { _root_.Go.OpenSpec.ofChange s with cond := some uptoSmall }

/-- 'mewslaw06.HashSays', WHERE WHAT IT READS IS OF BULK AT MOST 1048576: true; the input reads as it did. -/
def hashSaysUptoRow : OpenClaim := { program := "ytinolmaamccjbaadoor", sum := "f2973c873fc9346d29d10e65cc9a8834f3fe7d0350534a9dbb81f5cc1d2ef149", func := "mews/mewslaw06.HashSays", spec := "hashSays", named := ["mews/hash.factors"], apart := false, laid := [("mews/hash.factors", laid_mews_hash_factors)], narrowed := true }
def HashSaysUptoSaid : Prop := hashSaysUptoRow.holds Tryd.pinned (OpenSpec.upto hashSaysSpec)

/-- 'mewslaw06.HashTurns', WHERE WHAT IT READS IS OF BULK AT MOST 1048576: true; the input reads as it did. -/
def hashTurnsUptoRow : OpenClaim := { program := "ytinolmaamccjbaadoor", sum := "f2973c873fc9346d29d10e65cc9a8834f3fe7d0350534a9dbb81f5cc1d2ef149", func := "mews/mewslaw06.HashTurns", spec := "hashTurns", named := ["mews/hash.factors"], apart := false, laid := [("mews/hash.factors", laid_mews_hash_factors)], narrowed := true }
def HashTurnsUptoSaid : Prop := hashTurnsUptoRow.holds Tryd.pinned (OpenSpec.upto hashTurnsSpec)

/-- 'mewslaw06.HashWalks', WHERE WHAT IT READS IS OF BULK AT MOST 1048576: true; the input reads as it did. -/
def hashWalksUptoRow : OpenClaim := { program := "ytinolmaamccjbaadoor", sum := "f2973c873fc9346d29d10e65cc9a8834f3fe7d0350534a9dbb81f5cc1d2ef149", func := "mews/mewslaw06.HashWalks", spec := "hashWalks", named := ["mews/hash.factors"], apart := false, laid := [("mews/hash.factors", laid_mews_hash_factors)], narrowed := true }
def HashWalksUptoSaid : Prop := hashWalksUptoRow.holds Tryd.pinned (OpenSpec.upto hashWalksSpec)

/-- 'mewslaw06.HashGrows', WHERE WHAT IT READS IS OF BULK AT MOST 1048576: true; the input reads as it did. -/
def hashGrowsUptoRow : OpenClaim := { program := "ytinolmaamccjbaadoor", sum := "f2973c873fc9346d29d10e65cc9a8834f3fe7d0350534a9dbb81f5cc1d2ef149", func := "mews/mewslaw06.HashGrows", spec := "hashGrows", named := ["mews/hash.factors"], apart := false, laid := [("mews/hash.factors", laid_mews_hash_factors)], narrowed := true }
def HashGrowsUptoSaid : Prop := hashGrowsUptoRow.holds Tryd.pinned (OpenSpec.upto hashGrowsSpec)

end Rows
end Go.Proofs.YtinolmaamccjbaaDoor
