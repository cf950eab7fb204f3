/-
  DERIVED. GIVEN WITH THE SEED: THE CARDS: each row of YtakjindobmbhiaaDoorRows.lean that lists a variable, with what it lists TIED to the program's text (the seventh form; the later family's looks); each row that meets fmt, with fmt's text TOLD by the authors' own Lean function (tested against real Go, not proved from fmt's source: count such statements apart). THE CARD IS WHAT COUNTS. Prove the row's statement (the work); the ties are given (YtakjindobmbhiaaDoorTie.lean); close each card by the builder's one call (the guide's Derived/Test/ToyasCard.lean, 'card_holds'). Laid BY PROGRAM, IN A SANDBOX (cutbox-door.mjs). By AI agents, Wed Nov 11 2026. No macro, syntax, notation, axiom, sorry.
-/
import Derived.Test.YtakjindobmbhiaaDoorRows
import GoSem.ClaimSeven
namespace Go.Proofs.YtakjindobmbhiaaDoor
namespace Rows

/-- THE TIED CARD OF 'mewslaw05.ParsePieces'. -/
def parsePiecesCard : Claim7 := { stood := { row := parsePiecesRow, standIns := [], harness := (true, "ccdd626a04903a7e90c062b0c52afd43b168bc06191189e509bccd18d5699515"), looks := true }, kinds := [], alts := [], laidByText := true, laidKinds := [.data, .data, .data, .data, .sentinel, .sentinel, .pinned], laidTests := true, laidLooks := .later }
def ParsePiecesCardSaid : Prop := Claim7.holds Tryd.pinned (.plain (OpenSpec.ofChange parsePiecesSpec)) parsePiecesCard

/-- THE TIED CARD OF 'mewslaw05.ParseCounts'. -/
def parseCountsCard : Claim7 := { stood := { row := parseCountsRow, standIns := [], harness := (true, "ccdd626a04903a7e90c062b0c52afd43b168bc06191189e509bccd18d5699515"), looks := true }, kinds := [], alts := [], laidByText := true, laidKinds := [.data, .data, .data, .data, .sentinel, .sentinel, .pinned], laidTests := true, laidLooks := .later }
def ParseCountsCardSaid : Prop := Claim7.holds Tryd.pinned (.plain (OpenSpec.ofChange parseCountsSpec)) parseCountsCard

/-- THE TIED CARD OF 'mewslaw06.HashSays'. -/
def hashSaysCard : Claim7 := { stood := { row := hashSaysRow, standIns := [], harness := (true, "ccdd626a04903a7e90c062b0c52afd43b168bc06191189e509bccd18d5699515"), looks := true }, kinds := [], alts := [], laidByText := true, laidKinds := [.data], laidTests := true, laidLooks := .later }
def HashSaysCardSaid : Prop := Claim7.holds Tryd.pinned (.plain (OpenSpec.ofChange hashSaysSpec)) hashSaysCard

/-- THE TIED CARD OF 'mewslaw06.HashTurns'. -/
def hashTurnsCard : Claim7 := { stood := { row := hashTurnsRow, standIns := [], harness := (true, "ccdd626a04903a7e90c062b0c52afd43b168bc06191189e509bccd18d5699515"), looks := true }, kinds := [], alts := [], laidByText := true, laidKinds := [.data], laidTests := true, laidLooks := .later }
def HashTurnsCardSaid : Prop := Claim7.holds Tryd.pinned (.plain (OpenSpec.ofChange hashTurnsSpec)) hashTurnsCard

/-- THE TIED CARD OF 'mewslaw06.HashWalks'. -/
def hashWalksCard : Claim7 := { stood := { row := hashWalksRow, standIns := [], harness := (true, "ccdd626a04903a7e90c062b0c52afd43b168bc06191189e509bccd18d5699515"), looks := true }, kinds := [], alts := [], laidByText := true, laidKinds := [.data], laidTests := true, laidLooks := .later }
def HashWalksCardSaid : Prop := Claim7.holds Tryd.pinned (.plain (OpenSpec.ofChange hashWalksSpec)) hashWalksCard

/-- THE TIED CARD OF 'mewslaw06.HashGrows'. -/
def hashGrowsCard : Claim7 := { stood := { row := hashGrowsRow, standIns := [], harness := (true, "ccdd626a04903a7e90c062b0c52afd43b168bc06191189e509bccd18d5699515"), looks := true }, kinds := [], alts := [], laidByText := true, laidKinds := [.data], laidTests := true, laidLooks := .later }
def HashGrowsCardSaid : Prop := Claim7.holds Tryd.pinned (.plain (OpenSpec.ofChange hashGrowsSpec)) hashGrowsCard

/-- THE SECOND FORM's CARD OF 'mewslaw05.ParsePieces'. -/
def parsePiecesUptoCard : Claim7 := { stood := { row := parsePiecesUptoRow, standIns := [], harness := (true, "ccdd626a04903a7e90c062b0c52afd43b168bc06191189e509bccd18d5699515"), looks := true }, kinds := [], alts := [], laidByText := true, laidKinds := [.data, .data, .data, .data, .sentinel, .sentinel, .pinned], laidTests := true, laidLooks := .later }
def ParsePiecesUptoCardSaid : Prop := Claim7.holds Tryd.pinned (.plain (OpenSpec.upto parsePiecesSpec)) parsePiecesUptoCard

/-- THE SECOND FORM's CARD OF 'mewslaw05.ParseCounts'. -/
def parseCountsUptoCard : Claim7 := { stood := { row := parseCountsUptoRow, standIns := [], harness := (true, "ccdd626a04903a7e90c062b0c52afd43b168bc06191189e509bccd18d5699515"), looks := true }, kinds := [], alts := [], laidByText := true, laidKinds := [.data, .data, .data, .data, .sentinel, .sentinel, .pinned], laidTests := true, laidLooks := .later }
def ParseCountsUptoCardSaid : Prop := Claim7.holds Tryd.pinned (.plain (OpenSpec.upto parseCountsSpec)) parseCountsUptoCard

/-- THE SECOND FORM's CARD OF 'mewslaw06.HashSays'. -/
def hashSaysUptoCard : Claim7 := { stood := { row := hashSaysUptoRow, standIns := [], harness := (true, "ccdd626a04903a7e90c062b0c52afd43b168bc06191189e509bccd18d5699515"), looks := true }, kinds := [], alts := [], laidByText := true, laidKinds := [.data], laidTests := true, laidLooks := .later }
def HashSaysUptoCardSaid : Prop := Claim7.holds Tryd.pinned (.plain (OpenSpec.upto hashSaysSpec)) hashSaysUptoCard

/-- THE SECOND FORM's CARD OF 'mewslaw06.HashTurns'. -/
def hashTurnsUptoCard : Claim7 := { stood := { row := hashTurnsUptoRow, standIns := [], harness := (true, "ccdd626a04903a7e90c062b0c52afd43b168bc06191189e509bccd18d5699515"), looks := true }, kinds := [], alts := [], laidByText := true, laidKinds := [.data], laidTests := true, laidLooks := .later }
def HashTurnsUptoCardSaid : Prop := Claim7.holds Tryd.pinned (.plain (OpenSpec.upto hashTurnsSpec)) hashTurnsUptoCard

/-- THE SECOND FORM's CARD OF 'mewslaw06.HashWalks'. -/
def hashWalksUptoCard : Claim7 := { stood := { row := hashWalksUptoRow, standIns := [], harness := (true, "ccdd626a04903a7e90c062b0c52afd43b168bc06191189e509bccd18d5699515"), looks := true }, kinds := [], alts := [], laidByText := true, laidKinds := [.data], laidTests := true, laidLooks := .later }
def HashWalksUptoCardSaid : Prop := Claim7.holds Tryd.pinned (.plain (OpenSpec.upto hashWalksSpec)) hashWalksUptoCard

/-- THE SECOND FORM's CARD OF 'mewslaw06.HashGrows'. -/
def hashGrowsUptoCard : Claim7 := { stood := { row := hashGrowsUptoRow, standIns := [], harness := (true, "ccdd626a04903a7e90c062b0c52afd43b168bc06191189e509bccd18d5699515"), looks := true }, kinds := [], alts := [], laidByText := true, laidKinds := [.data], laidTests := true, laidLooks := .later }
def HashGrowsUptoCardSaid : Prop := Claim7.holds Tryd.pinned (.plain (OpenSpec.upto hashGrowsSpec)) hashGrowsUptoCard
end Rows
end Go.Proofs.YtakjindobmbhiaaDoor
