/-
  DERIVED. GIVEN WITH THE SEED: THE CARDS: each row of YtijfipghoilpeaaDoorRows.lean that lists a variable, with what it lists TIED to the program's text (the seventh form; the later family's looks); each row that meets fmt, with fmt's text TOLD by the authors' own Lean function (tested against real Go, not proved from fmt's source: count such statements apart). THE CARD IS WHAT COUNTS. Prove the row's statement (the work); the ties are given (YtijfipghoilpeaaDoorTie.lean); close each card by the builder's one call (the guide's Derived/Test/ToyasCard.lean, 'card_holds'). Laid BY PROGRAM, IN A SANDBOX (cutbox-door.mjs). By AI agents, Wed Nov 11 2026. No macro, syntax, notation, axiom, sorry.
-/
import Derived.Test.YtijfipghoilpeaaDoorRows
import GoSem.ClaimSeven
namespace Go.Proofs.YtijfipghoilpeaaDoor
namespace Rows

/-- THE TIED CARD OF 'mewslaw10.SkipPlays'. -/
def skipPlaysCard : Claim7 := { stood := { row := skipPlaysRow, standIns := [], harness := (true, "6a61a66f791b5e0456d6e96c22369d44b9e6499404e4497fe8c7c2f1b68b15c4"), looks := false }, kinds := [], alts := [], laidByText := true, laidKinds := [.data, .data], laidTests := true, laidLooks := .later }
def SkipPlaysCardSaid : Prop := Claim7.holds Tryd.pinned (.plain (OpenSpec.ofChange skipPlaysSpec)) skipPlaysCard

/-- THE TIED CARD OF 'mewslaw10.SkipOrder'. -/
def skipOrderCard : Claim7 := { stood := { row := skipOrderRow, standIns := [], harness := (true, "6a61a66f791b5e0456d6e96c22369d44b9e6499404e4497fe8c7c2f1b68b15c4"), looks := false }, kinds := [], alts := [], laidByText := true, laidKinds := [.data, .data], laidTests := true, laidLooks := .later }
def SkipOrderCardSaid : Prop := Claim7.holds Tryd.pinned (.plain (OpenSpec.ofChange skipOrderSpec)) skipOrderCard

/-- THE TIED CARD OF 'mewslaw10.SkipAnyhow'. -/
def skipAnyhowCard : Claim7 := { stood := { row := skipAnyhowRow, standIns := [], harness := (true, "6a61a66f791b5e0456d6e96c22369d44b9e6499404e4497fe8c7c2f1b68b15c4"), looks := false }, kinds := [], alts := [], laidByText := true, laidKinds := [.data, .data], laidTests := true, laidLooks := .later }
def SkipAnyhowCardSaid : Prop := Claim7.holds Tryd.pinned (.plain (OpenSpec.ofChange skipAnyhowSpec)) skipAnyhowCard

/-- THE TIED CARD OF 'mewslaw10.SkipNobody'. -/
def skipNobodyCard : Claim7 := { stood := { row := skipNobodyRow, standIns := [], harness := (true, "6a61a66f791b5e0456d6e96c22369d44b9e6499404e4497fe8c7c2f1b68b15c4"), looks := false }, kinds := [], alts := [], laidByText := true, laidKinds := [.data, .data], laidTests := true, laidLooks := .later }
def SkipNobodyCardSaid : Prop := Claim7.holds Tryd.pinned (.plain (OpenSpec.ofChange skipNobodySpec)) skipNobodyCard

/-- THE SECOND FORM's CARD OF 'mewslaw10.SkipPlays'. -/
def skipPlaysUptoCard : Claim7 := { stood := { row := skipPlaysUptoRow, standIns := [], harness := (true, "6a61a66f791b5e0456d6e96c22369d44b9e6499404e4497fe8c7c2f1b68b15c4"), looks := false }, kinds := [], alts := [], laidByText := true, laidKinds := [.data, .data], laidTests := true, laidLooks := .later }
def SkipPlaysUptoCardSaid : Prop := Claim7.holds Tryd.pinned (.plain (OpenSpec.upto skipPlaysSpec)) skipPlaysUptoCard

/-- THE SECOND FORM's CARD OF 'mewslaw10.SkipOrder'. -/
def skipOrderUptoCard : Claim7 := { stood := { row := skipOrderUptoRow, standIns := [], harness := (true, "6a61a66f791b5e0456d6e96c22369d44b9e6499404e4497fe8c7c2f1b68b15c4"), looks := false }, kinds := [], alts := [], laidByText := true, laidKinds := [.data, .data], laidTests := true, laidLooks := .later }
def SkipOrderUptoCardSaid : Prop := Claim7.holds Tryd.pinned (.plain (OpenSpec.upto skipOrderSpec)) skipOrderUptoCard

/-- THE SECOND FORM's CARD OF 'mewslaw10.SkipAnyhow'. -/
def skipAnyhowUptoCard : Claim7 := { stood := { row := skipAnyhowUptoRow, standIns := [], harness := (true, "6a61a66f791b5e0456d6e96c22369d44b9e6499404e4497fe8c7c2f1b68b15c4"), looks := false }, kinds := [], alts := [], laidByText := true, laidKinds := [.data, .data], laidTests := true, laidLooks := .later }
def SkipAnyhowUptoCardSaid : Prop := Claim7.holds Tryd.pinned (.plain (OpenSpec.upto skipAnyhowSpec)) skipAnyhowUptoCard

/-- THE SECOND FORM's CARD OF 'mewslaw10.SkipNobody'. -/
def skipNobodyUptoCard : Claim7 := { stood := { row := skipNobodyUptoRow, standIns := [], harness := (true, "6a61a66f791b5e0456d6e96c22369d44b9e6499404e4497fe8c7c2f1b68b15c4"), looks := false }, kinds := [], alts := [], laidByText := true, laidKinds := [.data, .data], laidTests := true, laidLooks := .later }
def SkipNobodyUptoCardSaid : Prop := Claim7.holds Tryd.pinned (.plain (OpenSpec.upto skipNobodySpec)) skipNobodyUptoCard
end Rows
end Go.Proofs.YtijfipghoilpeaaDoor
