/-
  DERIVED. GIVEN WITH THE SEED: THE CARDS: each row of YtjcicbkjngpcoaaGreatDoorRows.lean that lists a variable, with what it lists TIED to the program's text (the seventh form; the later family's looks); each row that meets fmt, with fmt's text TOLD by the authors' own Lean function (tested against real Go, not proved from fmt's source: count such statements apart). THE CARD IS WHAT COUNTS. Prove the row's statement (the work); the ties are given (YtjcicbkjngpcoaaGreatDoorTie.lean); close each card by the builder's one call (the guide's Derived/Test/ToyasCard.lean, 'card_holds'). Laid BY PROGRAM, IN A SANDBOX (cutbox-door.mjs). By AI agents, Wed Nov 11 2026. No macro, syntax, notation, axiom, sorry.
-/
import Derived.Test.YtjcicbkjngpcoaaGreatDoorRows
import GoSem.ClaimSeven
namespace Go.Proofs.YtjcicbkjngpcoaaGreatDoor
namespace Rows

/-- THE TIED CARD OF 'mewslaw05.ParseFeeds'. -/
def parseFeedsCard : Claim7 := { stood := { row := parseFeedsRow, standIns := [], harness := (true, "70c41fca0348923af44aff3df7066272837e00dae97816bff176ce8d01a48d2a"), looks := true }, kinds := [], alts := [], laidByText := true, laidKinds := [.data, .data, .data, .data, .sentinel, .sentinel, .pinned], laidTests := true, laidLooks := .later }
def ParseFeedsCardSaid : Prop := Claim7.holds Tryz.pinned (.plain (OpenSpec.ofChange parseFeedsSpec)) parseFeedsCard

/-- THE TIED CARD OF 'mewslaw05.ParseBack'. -/
def parseBackCard : Claim7 := { stood := { row := parseBackRow, standIns := [], harness := (true, "70c41fca0348923af44aff3df7066272837e00dae97816bff176ce8d01a48d2a"), looks := true }, kinds := [], alts := [], laidByText := true, laidKinds := [.data, .data, .data, .data, .sentinel, .sentinel, .pinned], laidTests := true, laidLooks := .later }
def ParseBackCardSaid : Prop := Claim7.holds Tryz.pinned (.plain (OpenSpec.ofChange parseBackSpec)) parseBackCard

/-- THE SECOND FORM's CARD OF 'mewslaw05.ParseFeeds'. -/
def parseFeedsUptoCard : Claim7 := { stood := { row := parseFeedsUptoRow, standIns := [], harness := (true, "70c41fca0348923af44aff3df7066272837e00dae97816bff176ce8d01a48d2a"), looks := true }, kinds := [], alts := [], laidByText := true, laidKinds := [.data, .data, .data, .data, .sentinel, .sentinel, .pinned], laidTests := true, laidLooks := .later }
def ParseFeedsUptoCardSaid : Prop := Claim7.holds Tryz.pinned (.plain (OpenSpec.upto parseFeedsSpec)) parseFeedsUptoCard

/-- THE SECOND FORM's CARD OF 'mewslaw05.ParseBack'. -/
def parseBackUptoCard : Claim7 := { stood := { row := parseBackUptoRow, standIns := [], harness := (true, "70c41fca0348923af44aff3df7066272837e00dae97816bff176ce8d01a48d2a"), looks := true }, kinds := [], alts := [], laidByText := true, laidKinds := [.data, .data, .data, .data, .sentinel, .sentinel, .pinned], laidTests := true, laidLooks := .later }
def ParseBackUptoCardSaid : Prop := Claim7.holds Tryz.pinned (.plain (OpenSpec.upto parseBackSpec)) parseBackUptoCard
end Rows
end Go.Proofs.YtjcicbkjngpcoaaGreatDoor
