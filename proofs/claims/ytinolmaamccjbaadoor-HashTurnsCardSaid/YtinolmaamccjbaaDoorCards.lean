/-
  DERIVED. GIVEN WITH THE SEED: THE CARDS: each row of YtinolmaamccjbaaDoorRows.lean that lists a variable, with what it lists TIED to the program's text (the seventh form; the later family's looks); each row that meets fmt, with fmt's text TOLD by the authors' own Lean function (tested against real Go, not proved from fmt's source: count such statements apart). THE CARD IS WHAT COUNTS. Prove the row's statement (the work); the ties are given (YtinolmaamccjbaaDoorTie.lean); close each card by the builder's one call (the guide's Derived/Test/ToyasCard.lean, 'card_holds'). Laid BY PROGRAM, IN A SANDBOX (cutbox-door.mjs). By AI agents, Wed Nov 11 2026. No macro, syntax, notation, axiom, sorry.
-/
import Derived.Test.YtinolmaamccjbaaDoorRows
import GoSem.ClaimSeven
namespace Go.Proofs.YtinolmaamccjbaaDoor
namespace Rows

/-- THE TIED CARD OF 'mewslaw06.HashSays'. -/
def hashSaysCard : Claim7 := { stood := { row := hashSaysRow, standIns := [], harness := (true, "56c5f4cf60e7f4aef43efecb30cc236fbcb03a6db5cdedb675ed024115a66bfd"), looks := false }, kinds := [], alts := [], laidByText := true, laidKinds := [.data], laidTests := true, laidLooks := .later }
def HashSaysCardSaid : Prop := Claim7.holds Tryd.pinned (.plain (OpenSpec.ofChange hashSaysSpec)) hashSaysCard

/-- THE TIED CARD OF 'mewslaw06.HashTurns'. -/
def hashTurnsCard : Claim7 := { stood := { row := hashTurnsRow, standIns := [], harness := (true, "56c5f4cf60e7f4aef43efecb30cc236fbcb03a6db5cdedb675ed024115a66bfd"), looks := false }, kinds := [], alts := [], laidByText := true, laidKinds := [.data], laidTests := true, laidLooks := .later }
def HashTurnsCardSaid : Prop := Claim7.holds Tryd.pinned (.plain (OpenSpec.ofChange hashTurnsSpec)) hashTurnsCard

/-- THE TIED CARD OF 'mewslaw06.HashWalks'. -/
def hashWalksCard : Claim7 := { stood := { row := hashWalksRow, standIns := [], harness := (true, "56c5f4cf60e7f4aef43efecb30cc236fbcb03a6db5cdedb675ed024115a66bfd"), looks := false }, kinds := [], alts := [], laidByText := true, laidKinds := [.data], laidTests := true, laidLooks := .later }
def HashWalksCardSaid : Prop := Claim7.holds Tryd.pinned (.plain (OpenSpec.ofChange hashWalksSpec)) hashWalksCard

/-- THE TIED CARD OF 'mewslaw06.HashGrows'. -/
def hashGrowsCard : Claim7 := { stood := { row := hashGrowsRow, standIns := [], harness := (true, "56c5f4cf60e7f4aef43efecb30cc236fbcb03a6db5cdedb675ed024115a66bfd"), looks := false }, kinds := [], alts := [], laidByText := true, laidKinds := [.data], laidTests := true, laidLooks := .later }
def HashGrowsCardSaid : Prop := Claim7.holds Tryd.pinned (.plain (OpenSpec.ofChange hashGrowsSpec)) hashGrowsCard

/-- THE SECOND FORM's CARD OF 'mewslaw06.HashSays'. -/
def hashSaysUptoCard : Claim7 := { stood := { row := hashSaysUptoRow, standIns := [], harness := (true, "56c5f4cf60e7f4aef43efecb30cc236fbcb03a6db5cdedb675ed024115a66bfd"), looks := false }, kinds := [], alts := [], laidByText := true, laidKinds := [.data], laidTests := true, laidLooks := .later }
def HashSaysUptoCardSaid : Prop := Claim7.holds Tryd.pinned (.plain (OpenSpec.upto hashSaysSpec)) hashSaysUptoCard

/-- THE SECOND FORM's CARD OF 'mewslaw06.HashTurns'. -/
def hashTurnsUptoCard : Claim7 := { stood := { row := hashTurnsUptoRow, standIns := [], harness := (true, "56c5f4cf60e7f4aef43efecb30cc236fbcb03a6db5cdedb675ed024115a66bfd"), looks := false }, kinds := [], alts := [], laidByText := true, laidKinds := [.data], laidTests := true, laidLooks := .later }
def HashTurnsUptoCardSaid : Prop := Claim7.holds Tryd.pinned (.plain (OpenSpec.upto hashTurnsSpec)) hashTurnsUptoCard

/-- THE SECOND FORM's CARD OF 'mewslaw06.HashWalks'. -/
def hashWalksUptoCard : Claim7 := { stood := { row := hashWalksUptoRow, standIns := [], harness := (true, "56c5f4cf60e7f4aef43efecb30cc236fbcb03a6db5cdedb675ed024115a66bfd"), looks := false }, kinds := [], alts := [], laidByText := true, laidKinds := [.data], laidTests := true, laidLooks := .later }
def HashWalksUptoCardSaid : Prop := Claim7.holds Tryd.pinned (.plain (OpenSpec.upto hashWalksSpec)) hashWalksUptoCard

/-- THE SECOND FORM's CARD OF 'mewslaw06.HashGrows'. -/
def hashGrowsUptoCard : Claim7 := { stood := { row := hashGrowsUptoRow, standIns := [], harness := (true, "56c5f4cf60e7f4aef43efecb30cc236fbcb03a6db5cdedb675ed024115a66bfd"), looks := false }, kinds := [], alts := [], laidByText := true, laidKinds := [.data], laidTests := true, laidLooks := .later }
def HashGrowsUptoCardSaid : Prop := Claim7.holds Tryd.pinned (.plain (OpenSpec.upto hashGrowsSpec)) hashGrowsUptoCard
end Rows
end Go.Proofs.YtinolmaamccjbaaDoor
