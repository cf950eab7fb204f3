/-
  DERIVED. GIVEN WITH THE SEED: THE CARDS: each row of YtjidopgohdlfdaaGreatDoorRows.lean that lists a variable, with what it lists TIED to the program's text (the seventh form; the later family's looks); each row that meets fmt, with fmt's text TOLD by the authors' own Lean function (tested against real Go, not proved from fmt's source: count such statements apart). THE CARD IS WHAT COUNTS. Prove the row's statement (the work); the ties are given (YtjidopgohdlfdaaGreatDoorTie.lean); close each card by the builder's one call (the guide's Derived/Test/ToyasCard.lean, 'card_holds'). Laid BY PROGRAM, IN A SANDBOX (cutbox-door.mjs). By AI agents, Wed Nov 11 2026. No macro, syntax, notation, axiom, sorry.
-/
import Derived.Test.YtjidopgohdlfdaaGreatDoorRows
import GoSem.ClaimSeven
namespace Go.Proofs.YtjidopgohdlfdaaGreatDoor
namespace Rows

/-- THE TIED CARD OF 'mewslaw15.UnitPuts'. -/
def unitPutsCard : Claim7 := { stood := { row := unitPutsRow, standIns := [], harness := (true, "24b9ae4f6062b16fc48f07f5698e3bf88948375150a7c0080dabdfed747daf69"), looks := true }, kinds := [], alts := [], laidByText := true, laidKinds := [.data, .data, .data, .data, .data, .sentinel, .sentinel, .pinned], laidTests := true, laidLooks := .later }
def UnitPutsCardSaid : Prop := Claim7.holds Tryz.pinned (.plain (OpenSpec.ofChange unitPutsSpec)) unitPutsCard

/-- THE TIED CARD OF 'mewslaw15.UnitTakes'. -/
def unitTakesCard : Claim7 := { stood := { row := unitTakesRow, standIns := [], harness := (true, "24b9ae4f6062b16fc48f07f5698e3bf88948375150a7c0080dabdfed747daf69"), looks := true }, kinds := [], alts := [], laidByText := true, laidKinds := [.data, .data, .data, .data, .data, .sentinel, .sentinel, .pinned], laidTests := true, laidLooks := .later }
def UnitTakesCardSaid : Prop := Claim7.holds Tryz.pinned (.plain (OpenSpec.ofChange unitTakesSpec)) unitTakesCard

/-- THE TIED CARD OF 'mewslaw15.UnitBack'. -/
def unitBackCard : Claim7 := { stood := { row := unitBackRow, standIns := [], harness := (true, "24b9ae4f6062b16fc48f07f5698e3bf88948375150a7c0080dabdfed747daf69"), looks := true }, kinds := [], alts := [], laidByText := true, laidKinds := [.data, .data, .data, .data, .data, .sentinel, .sentinel, .pinned], laidTests := true, laidLooks := .later }
def UnitBackCardSaid : Prop := Claim7.holds Tryz.pinned (.plain (OpenSpec.ofChange unitBackSpec)) unitBackCard

/-- THE TIED CARD OF 'mewslaw15.UnitBursts'. -/
def unitBurstsCard : Claim7 := { stood := { row := unitBurstsRow, standIns := [], harness := (true, "24b9ae4f6062b16fc48f07f5698e3bf88948375150a7c0080dabdfed747daf69"), looks := true }, kinds := [], alts := [], laidByText := true, laidKinds := [.data, .data, .data, .data, .data, .sentinel, .sentinel, .pinned], laidTests := true, laidLooks := .later }
def UnitBurstsCardSaid : Prop := Claim7.holds Tryz.pinned (.plain (OpenSpec.ofChange unitBurstsSpec)) unitBurstsCard

/-- THE TIED CARD OF 'mewslaw15.UnitRows'. -/
def unitRowsCard : Claim7 := { stood := { row := unitRowsRow, standIns := [], harness := (true, "24b9ae4f6062b16fc48f07f5698e3bf88948375150a7c0080dabdfed747daf69"), looks := true }, kinds := [], alts := [], laidByText := true, laidKinds := [.data, .data, .data, .data, .data, .sentinel, .sentinel, .pinned], laidTests := true, laidLooks := .later }
def UnitRowsCardSaid : Prop := Claim7.holds Tryz.pinned (.plain (OpenSpec.ofChange unitRowsSpec)) unitRowsCard

/-- THE SECOND FORM's CARD OF 'mewslaw15.UnitPuts'. -/
def unitPutsUptoCard : Claim7 := { stood := { row := unitPutsUptoRow, standIns := [], harness := (true, "24b9ae4f6062b16fc48f07f5698e3bf88948375150a7c0080dabdfed747daf69"), looks := true }, kinds := [], alts := [], laidByText := true, laidKinds := [.data, .data, .data, .data, .data, .sentinel, .sentinel, .pinned], laidTests := true, laidLooks := .later }
def UnitPutsUptoCardSaid : Prop := Claim7.holds Tryz.pinned (.plain (OpenSpec.upto unitPutsSpec)) unitPutsUptoCard

/-- THE SECOND FORM's CARD OF 'mewslaw15.UnitTakes'. -/
def unitTakesUptoCard : Claim7 := { stood := { row := unitTakesUptoRow, standIns := [], harness := (true, "24b9ae4f6062b16fc48f07f5698e3bf88948375150a7c0080dabdfed747daf69"), looks := true }, kinds := [], alts := [], laidByText := true, laidKinds := [.data, .data, .data, .data, .data, .sentinel, .sentinel, .pinned], laidTests := true, laidLooks := .later }
def UnitTakesUptoCardSaid : Prop := Claim7.holds Tryz.pinned (.plain (OpenSpec.upto unitTakesSpec)) unitTakesUptoCard

/-- THE SECOND FORM's CARD OF 'mewslaw15.UnitBack'. -/
def unitBackUptoCard : Claim7 := { stood := { row := unitBackUptoRow, standIns := [], harness := (true, "24b9ae4f6062b16fc48f07f5698e3bf88948375150a7c0080dabdfed747daf69"), looks := true }, kinds := [], alts := [], laidByText := true, laidKinds := [.data, .data, .data, .data, .data, .sentinel, .sentinel, .pinned], laidTests := true, laidLooks := .later }
def UnitBackUptoCardSaid : Prop := Claim7.holds Tryz.pinned (.plain (OpenSpec.upto unitBackSpec)) unitBackUptoCard

/-- THE SECOND FORM's CARD OF 'mewslaw15.UnitBursts'. -/
def unitBurstsUptoCard : Claim7 := { stood := { row := unitBurstsUptoRow, standIns := [], harness := (true, "24b9ae4f6062b16fc48f07f5698e3bf88948375150a7c0080dabdfed747daf69"), looks := true }, kinds := [], alts := [], laidByText := true, laidKinds := [.data, .data, .data, .data, .data, .sentinel, .sentinel, .pinned], laidTests := true, laidLooks := .later }
def UnitBurstsUptoCardSaid : Prop := Claim7.holds Tryz.pinned (.plain (OpenSpec.upto unitBurstsSpec)) unitBurstsUptoCard

/-- THE SECOND FORM's CARD OF 'mewslaw15.UnitRows'. -/
def unitRowsUptoCard : Claim7 := { stood := { row := unitRowsUptoRow, standIns := [], harness := (true, "24b9ae4f6062b16fc48f07f5698e3bf88948375150a7c0080dabdfed747daf69"), looks := true }, kinds := [], alts := [], laidByText := true, laidKinds := [.data, .data, .data, .data, .data, .sentinel, .sentinel, .pinned], laidTests := true, laidLooks := .later }
def UnitRowsUptoCardSaid : Prop := Claim7.holds Tryz.pinned (.plain (OpenSpec.upto unitRowsSpec)) unitRowsUptoCard
end Rows
end Go.Proofs.YtjidopgohdlfdaaGreatDoor
