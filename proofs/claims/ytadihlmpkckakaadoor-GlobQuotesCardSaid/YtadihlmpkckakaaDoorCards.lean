/-
  DERIVED. GIVEN WITH THE SEED: THE CARDS: each row of YtadihlmpkckakaaDoorRows.lean that lists a variable, with what it lists TIED to the program's text (the seventh form; the later family's looks); each row that meets fmt, with fmt's text TOLD by the authors' own Lean function (tested against real Go, not proved from fmt's source: count such statements apart). THE CARD IS WHAT COUNTS. Prove the row's statement (the work); the ties are given (YtadihlmpkckakaaDoorTie.lean); close each card by the builder's one call (the guide's Derived/Test/ToyasCard.lean, 'card_holds'). Laid BY PROGRAM, IN A SANDBOX (cutbox-door.mjs). By AI agents, Wed Nov 11 2026. No macro, syntax, notation, axiom, sorry.
-/
import Derived.Test.YtadihlmpkckakaaDoorRows
import GoSem.ClaimSeven
namespace Go.Proofs.YtadihlmpkckakaaDoor
namespace Rows

/-- THE TIED CARD OF 'mewslaw02.GlobMatches'. -/
def globMatchesCard : Claim7 := { stood := { row := globMatchesRow, standIns := [], harness := (true, "130dee73b46cb75e6788f8018df2e02c010e6e62cf40bc58a257d318312c32dd"), looks := false }, kinds := [], alts := [], laidByText := true, laidKinds := [.data, .pinned], laidTests := true, laidLooks := .later }
def GlobMatchesCardSaid : Prop := Claim7.holds Tryd.pinned (.plain (OpenSpec.ofChange globMatchesSpec)) globMatchesCard

/-- THE TIED CARD OF 'mewslaw02.GlobQuotes'. -/
def globQuotesCard : Claim7 := { stood := { row := globQuotesRow, standIns := [], harness := (true, "130dee73b46cb75e6788f8018df2e02c010e6e62cf40bc58a257d318312c32dd"), looks := false }, kinds := [], alts := [], laidByText := true, laidKinds := [.data, .pinned], laidTests := true, laidLooks := .later }
def GlobQuotesCardSaid : Prop := Claim7.holds Tryd.pinned (.plain (OpenSpec.ofChange globQuotesSpec)) globQuotesCard

/-- THE TIED CARD OF 'mewslaw02.GlobAlone'. -/
def globAloneCard : Claim7 := { stood := { row := globAloneRow, standIns := [], harness := (true, "130dee73b46cb75e6788f8018df2e02c010e6e62cf40bc58a257d318312c32dd"), looks := false }, kinds := [], alts := [], laidByText := true, laidKinds := [.data, .pinned], laidTests := true, laidLooks := .later }
def GlobAloneCardSaid : Prop := Claim7.holds Tryd.pinned (.plain (OpenSpec.ofChange globAloneSpec)) globAloneCard

/-- THE TIED CARD OF 'mewslaw02.GlobRuns'. -/
def globRunsCard : Claim7 := { stood := { row := globRunsRow, standIns := [], harness := (true, "130dee73b46cb75e6788f8018df2e02c010e6e62cf40bc58a257d318312c32dd"), looks := false }, kinds := [], alts := [], laidByText := true, laidKinds := [.data, .pinned], laidTests := true, laidLooks := .later }
def GlobRunsCardSaid : Prop := Claim7.holds Tryd.pinned (.plain (OpenSpec.ofChange globRunsSpec)) globRunsCard

/-- THE SECOND FORM's CARD OF 'mewslaw02.GlobMatches'. -/
def globMatchesUptoCard : Claim7 := { stood := { row := globMatchesUptoRow, standIns := [], harness := (true, "130dee73b46cb75e6788f8018df2e02c010e6e62cf40bc58a257d318312c32dd"), looks := false }, kinds := [], alts := [], laidByText := true, laidKinds := [.data, .pinned], laidTests := true, laidLooks := .later }
def GlobMatchesUptoCardSaid : Prop := Claim7.holds Tryd.pinned (.plain (OpenSpec.upto globMatchesSpec)) globMatchesUptoCard

/-- THE SECOND FORM's CARD OF 'mewslaw02.GlobQuotes'. -/
def globQuotesUptoCard : Claim7 := { stood := { row := globQuotesUptoRow, standIns := [], harness := (true, "130dee73b46cb75e6788f8018df2e02c010e6e62cf40bc58a257d318312c32dd"), looks := false }, kinds := [], alts := [], laidByText := true, laidKinds := [.data, .pinned], laidTests := true, laidLooks := .later }
def GlobQuotesUptoCardSaid : Prop := Claim7.holds Tryd.pinned (.plain (OpenSpec.upto globQuotesSpec)) globQuotesUptoCard

/-- THE SECOND FORM's CARD OF 'mewslaw02.GlobAlone'. -/
def globAloneUptoCard : Claim7 := { stood := { row := globAloneUptoRow, standIns := [], harness := (true, "130dee73b46cb75e6788f8018df2e02c010e6e62cf40bc58a257d318312c32dd"), looks := false }, kinds := [], alts := [], laidByText := true, laidKinds := [.data, .pinned], laidTests := true, laidLooks := .later }
def GlobAloneUptoCardSaid : Prop := Claim7.holds Tryd.pinned (.plain (OpenSpec.upto globAloneSpec)) globAloneUptoCard

/-- THE SECOND FORM's CARD OF 'mewslaw02.GlobRuns'. -/
def globRunsUptoCard : Claim7 := { stood := { row := globRunsUptoRow, standIns := [], harness := (true, "130dee73b46cb75e6788f8018df2e02c010e6e62cf40bc58a257d318312c32dd"), looks := false }, kinds := [], alts := [], laidByText := true, laidKinds := [.data, .pinned], laidTests := true, laidLooks := .later }
def GlobRunsUptoCardSaid : Prop := Claim7.holds Tryd.pinned (.plain (OpenSpec.upto globRunsSpec)) globRunsUptoCard
end Rows
end Go.Proofs.YtadihlmpkckakaaDoor
