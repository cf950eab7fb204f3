/-
  DERIVED. GIVEN WITH THE SEED: THE CARDS: each row of YtnjccmdbfokfiaaDoorRows.lean that lists a variable, with what it lists TIED to the program's text (the seventh form; the later family's looks); each row that meets fmt, with fmt's text TOLD by the authors' own Lean function (tested against real Go, not proved from fmt's source: count such statements apart). THE CARD IS WHAT COUNTS. Prove the row's statement (the work); the ties are given (YtnjccmdbfokfiaaDoorTie.lean); close each card by the builder's one call (the guide's Derived/Test/ToyasCard.lean, 'card_holds'). Laid BY PROGRAM, IN A SANDBOX (cutbox-door.mjs). By AI agents, Wed Nov 11 2026. No macro, syntax, notation, axiom, sorry.
-/
import Derived.Test.YtnjccmdbfokfiaaDoorRows
import GoSem.ClaimSeven
namespace Go.Proofs.YtnjccmdbfokfiaaDoor
namespace Rows

/-- THE TIED CARD OF 'mewslaw07.DictKeeps'. -/
def dictKeepsCard : Claim7 := { stood := { row := dictKeepsRow, standIns := [], harness := (true, "da8b42beb2e6c20de5394eca236907bc3c673f994880e550252583a07bf0b043"), looks := false }, kinds := [], alts := [], laidByText := true, laidKinds := [.data], laidTests := true, laidLooks := .later }
def DictKeepsCardSaid : Prop := Claim7.holds Tryd.pinned (.plain (OpenSpec.ofChange dictKeepsSpec)) dictKeepsCard

/-- THE TIED CARD OF 'mewslaw07.DictSteps'. -/
def dictStepsCard : Claim7 := { stood := { row := dictStepsRow, standIns := [], harness := (true, "da8b42beb2e6c20de5394eca236907bc3c673f994880e550252583a07bf0b043"), looks := false }, kinds := [], alts := [], laidByText := true, laidKinds := [.data], laidTests := true, laidLooks := .later }
def DictStepsCardSaid : Prop := Claim7.holds Tryd.pinned (.plain (OpenSpec.ofChange dictStepsSpec)) dictStepsCard

/-- THE TIED CARD OF 'mewslaw07.DictNobody'. -/
def dictNobodyCard : Claim7 := { stood := { row := dictNobodyRow, standIns := [], harness := (true, "da8b42beb2e6c20de5394eca236907bc3c673f994880e550252583a07bf0b043"), looks := false }, kinds := [], alts := [], laidByText := true, laidKinds := [.data], laidTests := true, laidLooks := .later }
def DictNobodyCardSaid : Prop := Claim7.holds Tryd.pinned (.plain (OpenSpec.ofChange dictNobodySpec)) dictNobodyCard

/-- THE SECOND FORM's CARD OF 'mewslaw07.DictKeeps'. -/
def dictKeepsUptoCard : Claim7 := { stood := { row := dictKeepsUptoRow, standIns := [], harness := (true, "da8b42beb2e6c20de5394eca236907bc3c673f994880e550252583a07bf0b043"), looks := false }, kinds := [], alts := [], laidByText := true, laidKinds := [.data], laidTests := true, laidLooks := .later }
def DictKeepsUptoCardSaid : Prop := Claim7.holds Tryd.pinned (.plain (OpenSpec.upto dictKeepsSpec)) dictKeepsUptoCard

/-- THE SECOND FORM's CARD OF 'mewslaw07.DictSteps'. -/
def dictStepsUptoCard : Claim7 := { stood := { row := dictStepsUptoRow, standIns := [], harness := (true, "da8b42beb2e6c20de5394eca236907bc3c673f994880e550252583a07bf0b043"), looks := false }, kinds := [], alts := [], laidByText := true, laidKinds := [.data], laidTests := true, laidLooks := .later }
def DictStepsUptoCardSaid : Prop := Claim7.holds Tryd.pinned (.plain (OpenSpec.upto dictStepsSpec)) dictStepsUptoCard

/-- THE SECOND FORM's CARD OF 'mewslaw07.DictNobody'. -/
def dictNobodyUptoCard : Claim7 := { stood := { row := dictNobodyUptoRow, standIns := [], harness := (true, "da8b42beb2e6c20de5394eca236907bc3c673f994880e550252583a07bf0b043"), looks := false }, kinds := [], alts := [], laidByText := true, laidKinds := [.data], laidTests := true, laidLooks := .later }
def DictNobodyUptoCardSaid : Prop := Claim7.holds Tryd.pinned (.plain (OpenSpec.upto dictNobodySpec)) dictNobodyUptoCard
end Rows
end Go.Proofs.YtnjccmdbfokfiaaDoor
