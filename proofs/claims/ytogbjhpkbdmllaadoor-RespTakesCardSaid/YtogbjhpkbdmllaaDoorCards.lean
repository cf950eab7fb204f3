/-
  DERIVED. GIVEN WITH THE SEED: THE CARDS: each row of YtogbjhpkbdmllaaDoorRows.lean that lists a variable, with what it lists TIED to the program's text (the seventh form; the later family's looks); each row that meets fmt, with fmt's text TOLD by the authors' own Lean function (tested against real Go, not proved from fmt's source: count such statements apart). THE CARD IS WHAT COUNTS. Prove the row's statement (the work); the ties are given (YtogbjhpkbdmllaaDoorTie.lean); close each card by the builder's one call (the guide's Derived/Test/ToyasCard.lean, 'card_holds'). Laid BY PROGRAM, IN A SANDBOX (cutbox-door.mjs). By AI agents, Wed Nov 11 2026. No macro, syntax, notation, axiom, sorry.
-/
import Derived.Test.YtogbjhpkbdmllaaDoorRows
import GoSem.ClaimSeven
namespace Go.Proofs.YtogbjhpkbdmllaaDoor
namespace Rows

/-- THE TIED CARD OF 'mewslaw03.RespPuts'. -/
def respPutsCard : Claim7 := { stood := { row := respPutsRow, standIns := [], harness := (true, "fe6f8265e02363d5260858184a23a41354edbc61862894c2a901ee12faa72c59"), looks := false }, kinds := [], alts := [], laidByText := true, laidKinds := [.data, .data, .data], laidTests := true, laidLooks := .later }
def RespPutsCardSaid : Prop := Claim7.holds Tryd.pinned (.plain (OpenSpec.ofChange respPutsSpec)) respPutsCard

/-- THE TIED CARD OF 'mewslaw03.RespTakes'. -/
def respTakesCard : Claim7 := { stood := { row := respTakesRow, standIns := [], harness := (true, "fe6f8265e02363d5260858184a23a41354edbc61862894c2a901ee12faa72c59"), looks := false }, kinds := [], alts := [], laidByText := true, laidKinds := [.data, .data, .data], laidTests := true, laidLooks := .later }
def RespTakesCardSaid : Prop := Claim7.holds Tryd.pinned (.plain (OpenSpec.ofChange respTakesSpec)) respTakesCard

/-- THE TIED CARD OF 'mewslaw03.RespMakes'. -/
def respMakesCard : Claim7 := { stood := { row := respMakesRow, standIns := [], harness := (true, "fe6f8265e02363d5260858184a23a41354edbc61862894c2a901ee12faa72c59"), looks := false }, kinds := [], alts := [], laidByText := true, laidKinds := [.data, .data, .data], laidTests := true, laidLooks := .later }
def RespMakesCardSaid : Prop := Claim7.holds Tryd.pinned (.plain (OpenSpec.ofChange respMakesSpec)) respMakesCard

/-- THE TIED CARD OF 'mewslaw03.RespBack'. -/
def respBackCard : Claim7 := { stood := { row := respBackRow, standIns := [], harness := (true, "fe6f8265e02363d5260858184a23a41354edbc61862894c2a901ee12faa72c59"), looks := false }, kinds := [], alts := [], laidByText := true, laidKinds := [.data, .data, .data], laidTests := true, laidLooks := .later }
def RespBackCardSaid : Prop := Claim7.holds Tryd.pinned (.plain (OpenSpec.ofChange respBackSpec)) respBackCard

/-- THE TIED CARD OF 'mewslaw03.RespOnly'. -/
def respOnlyCard : Claim7 := { stood := { row := respOnlyRow, standIns := [], harness := (true, "fe6f8265e02363d5260858184a23a41354edbc61862894c2a901ee12faa72c59"), looks := false }, kinds := [], alts := [], laidByText := true, laidKinds := [.data, .data, .data], laidTests := true, laidLooks := .later }
def RespOnlyCardSaid : Prop := Claim7.holds Tryd.pinned (.plain (OpenSpec.ofChange respOnlySpec)) respOnlyCard

/-- THE SECOND FORM's CARD OF 'mewslaw03.RespPuts'. -/
def respPutsUptoCard : Claim7 := { stood := { row := respPutsUptoRow, standIns := [], harness := (true, "fe6f8265e02363d5260858184a23a41354edbc61862894c2a901ee12faa72c59"), looks := false }, kinds := [], alts := [], laidByText := true, laidKinds := [.data, .data, .data], laidTests := true, laidLooks := .later }
def RespPutsUptoCardSaid : Prop := Claim7.holds Tryd.pinned (.plain (OpenSpec.upto respPutsSpec)) respPutsUptoCard

/-- THE SECOND FORM's CARD OF 'mewslaw03.RespTakes'. -/
def respTakesUptoCard : Claim7 := { stood := { row := respTakesUptoRow, standIns := [], harness := (true, "fe6f8265e02363d5260858184a23a41354edbc61862894c2a901ee12faa72c59"), looks := false }, kinds := [], alts := [], laidByText := true, laidKinds := [.data, .data, .data], laidTests := true, laidLooks := .later }
def RespTakesUptoCardSaid : Prop := Claim7.holds Tryd.pinned (.plain (OpenSpec.upto respTakesSpec)) respTakesUptoCard

/-- THE SECOND FORM's CARD OF 'mewslaw03.RespMakes'. -/
def respMakesUptoCard : Claim7 := { stood := { row := respMakesUptoRow, standIns := [], harness := (true, "fe6f8265e02363d5260858184a23a41354edbc61862894c2a901ee12faa72c59"), looks := false }, kinds := [], alts := [], laidByText := true, laidKinds := [.data, .data, .data], laidTests := true, laidLooks := .later }
def RespMakesUptoCardSaid : Prop := Claim7.holds Tryd.pinned (.plain (OpenSpec.upto respMakesSpec)) respMakesUptoCard

/-- THE SECOND FORM's CARD OF 'mewslaw03.RespBack'. -/
def respBackUptoCard : Claim7 := { stood := { row := respBackUptoRow, standIns := [], harness := (true, "fe6f8265e02363d5260858184a23a41354edbc61862894c2a901ee12faa72c59"), looks := false }, kinds := [], alts := [], laidByText := true, laidKinds := [.data, .data, .data], laidTests := true, laidLooks := .later }
def RespBackUptoCardSaid : Prop := Claim7.holds Tryd.pinned (.plain (OpenSpec.upto respBackSpec)) respBackUptoCard

/-- THE SECOND FORM's CARD OF 'mewslaw03.RespOnly'. -/
def respOnlyUptoCard : Claim7 := { stood := { row := respOnlyUptoRow, standIns := [], harness := (true, "fe6f8265e02363d5260858184a23a41354edbc61862894c2a901ee12faa72c59"), looks := false }, kinds := [], alts := [], laidByText := true, laidKinds := [.data, .data, .data], laidTests := true, laidLooks := .later }
def RespOnlyUptoCardSaid : Prop := Claim7.holds Tryd.pinned (.plain (OpenSpec.upto respOnlySpec)) respOnlyUptoCard
end Rows
end Go.Proofs.YtogbjhpkbdmllaaDoor
