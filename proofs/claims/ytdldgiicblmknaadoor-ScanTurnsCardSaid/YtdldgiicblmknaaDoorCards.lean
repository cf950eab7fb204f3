/-
  DERIVED. GIVEN WITH THE SEED: THE CARDS: each row of YtdldgiicblmknaaDoorRows.lean that lists a variable, with what it lists TIED to the program's text (the seventh form; the later family's looks); each row that meets fmt, with fmt's text TOLD by the authors' own Lean function (tested against real Go, not proved from fmt's source: count such statements apart). THE CARD IS WHAT COUNTS. Prove the row's statement (the work); the ties are given (YtdldgiicblmknaaDoorTie.lean); close each card by the builder's one call (the guide's Derived/Test/ToyasCard.lean, 'card_holds'). Laid BY PROGRAM, IN A SANDBOX (cutbox-door.mjs). By AI agents, Wed Nov 11 2026. No macro, syntax, notation, axiom, sorry.
-/
import Derived.Test.YtdldgiicblmknaaDoorRows
import GoSem.ClaimSeven
namespace Go.Proofs.YtdldgiicblmknaaDoor
namespace Rows

/-- THE TIED CARD OF 'mewslaw08.ScanTurns'. -/
def scanTurnsCard : Claim7 := { stood := { row := scanTurnsRow, standIns := [], harness := (true, "5726a30f5d9e8b769d9a7a027de4350e53dcfd7a9f3953435ca6c7343516eeb8"), looks := false }, kinds := [], alts := [], laidByText := true, laidKinds := [.data], laidTests := true, laidLooks := .later }
def ScanTurnsCardSaid : Prop := Claim7.holds Tryd.pinned (.plain (OpenSpec.ofChange scanTurnsSpec)) scanTurnsCard

/-- THE TIED CARD OF 'mewslaw08.ScanFinds'. -/
def scanFindsCard : Claim7 := { stood := { row := scanFindsRow, standIns := [], harness := (true, "5726a30f5d9e8b769d9a7a027de4350e53dcfd7a9f3953435ca6c7343516eeb8"), looks := false }, kinds := [], alts := [], laidByText := true, laidKinds := [.data], laidTests := true, laidLooks := .later }
def ScanFindsCardSaid : Prop := Claim7.holds Tryd.pinned (.plain (OpenSpec.ofChange scanFindsSpec)) scanFindsCard

/-- THE TIED CARD OF 'mewslaw08.ScanOnce'. -/
def scanOnceCard : Claim7 := { stood := { row := scanOnceRow, standIns := [], harness := (true, "5726a30f5d9e8b769d9a7a027de4350e53dcfd7a9f3953435ca6c7343516eeb8"), looks := false }, kinds := [], alts := [], laidByText := true, laidKinds := [.data], laidTests := true, laidLooks := .later }
def ScanOnceCardSaid : Prop := Claim7.holds Tryd.pinned (.plain (OpenSpec.ofChange scanOnceSpec)) scanOnceCard

/-- THE TIED CARD OF 'mewslaw08.ScanNobody'. -/
def scanNobodyCard : Claim7 := { stood := { row := scanNobodyRow, standIns := [], harness := (true, "5726a30f5d9e8b769d9a7a027de4350e53dcfd7a9f3953435ca6c7343516eeb8"), looks := false }, kinds := [], alts := [], laidByText := true, laidKinds := [.data], laidTests := true, laidLooks := .later }
def ScanNobodyCardSaid : Prop := Claim7.holds Tryd.pinned (.plain (OpenSpec.ofChange scanNobodySpec)) scanNobodyCard

/-- THE SECOND FORM's CARD OF 'mewslaw08.ScanTurns'. -/
def scanTurnsUptoCard : Claim7 := { stood := { row := scanTurnsUptoRow, standIns := [], harness := (true, "5726a30f5d9e8b769d9a7a027de4350e53dcfd7a9f3953435ca6c7343516eeb8"), looks := false }, kinds := [], alts := [], laidByText := true, laidKinds := [.data], laidTests := true, laidLooks := .later }
def ScanTurnsUptoCardSaid : Prop := Claim7.holds Tryd.pinned (.plain (OpenSpec.upto scanTurnsSpec)) scanTurnsUptoCard

/-- THE SECOND FORM's CARD OF 'mewslaw08.ScanFinds'. -/
def scanFindsUptoCard : Claim7 := { stood := { row := scanFindsUptoRow, standIns := [], harness := (true, "5726a30f5d9e8b769d9a7a027de4350e53dcfd7a9f3953435ca6c7343516eeb8"), looks := false }, kinds := [], alts := [], laidByText := true, laidKinds := [.data], laidTests := true, laidLooks := .later }
def ScanFindsUptoCardSaid : Prop := Claim7.holds Tryd.pinned (.plain (OpenSpec.upto scanFindsSpec)) scanFindsUptoCard

/-- THE SECOND FORM's CARD OF 'mewslaw08.ScanOnce'. -/
def scanOnceUptoCard : Claim7 := { stood := { row := scanOnceUptoRow, standIns := [], harness := (true, "5726a30f5d9e8b769d9a7a027de4350e53dcfd7a9f3953435ca6c7343516eeb8"), looks := false }, kinds := [], alts := [], laidByText := true, laidKinds := [.data], laidTests := true, laidLooks := .later }
def ScanOnceUptoCardSaid : Prop := Claim7.holds Tryd.pinned (.plain (OpenSpec.upto scanOnceSpec)) scanOnceUptoCard

/-- THE SECOND FORM's CARD OF 'mewslaw08.ScanNobody'. -/
def scanNobodyUptoCard : Claim7 := { stood := { row := scanNobodyUptoRow, standIns := [], harness := (true, "5726a30f5d9e8b769d9a7a027de4350e53dcfd7a9f3953435ca6c7343516eeb8"), looks := false }, kinds := [], alts := [], laidByText := true, laidKinds := [.data], laidTests := true, laidLooks := .later }
def ScanNobodyUptoCardSaid : Prop := Claim7.holds Tryd.pinned (.plain (OpenSpec.upto scanNobodySpec)) scanNobodyUptoCard
end Rows
end Go.Proofs.YtdldgiicblmknaaDoor
