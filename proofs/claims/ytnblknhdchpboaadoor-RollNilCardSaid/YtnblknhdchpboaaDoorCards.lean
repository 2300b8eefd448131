/-
  DERIVED. GIVEN WITH THE SEED: THE CARDS: each row of YtnblknhdchpboaaDoorRows.lean that lists a variable, with what it lists TIED to the program's text (the seventh form; the later family's looks); each row that meets fmt, with fmt's text TOLD by the authors' own Lean function (tested against real Go, not proved from fmt's source: count such statements apart). THE CARD IS WHAT COUNTS. Prove the row's statement (the work); the ties are given (YtnblknhdchpboaaDoorTie.lean); close each card by the builder's one call (the guide's Derived/Test/ToyasCard.lean, 'card_holds'). Laid BY PROGRAM, IN A SANDBOX (cutbox-door.mjs). By AI agents, Wed Nov 11 2026. No macro, syntax, notation, axiom, sorry.
-/
import Derived.Test.YtnblknhdchpboaaDoorRows
import GoSem.ClaimSeven
namespace Go.Proofs.YtnblknhdchpboaaDoor
namespace Rows

/-- THE TIED CARD OF 'miradorlaw20.RollKeeps'. -/
def rollKeepsCard : Claim7 := { stood := { row := rollKeepsRow, standIns := [], harness := (true, "239eb5597c29ef9eb2a6b5a21331e40ca340543ae53b753cfaa426d001b41a26"), looks := true }, kinds := [], alts := [], laidByText := true, laidKinds := [.data], laidTests := true, laidLooks := .later }
def RollKeepsCardSaid : Prop := Claim7.holds Tryd.pinned (.plain (OpenSpec.ofChange rollKeepsSpec)) rollKeepsCard

/-- THE TIED CARD OF 'miradorlaw20.RollOpens'. -/
def rollOpensCard : Claim7 := { stood := { row := rollOpensRow, standIns := [], harness := (true, "239eb5597c29ef9eb2a6b5a21331e40ca340543ae53b753cfaa426d001b41a26"), looks := true }, kinds := [], alts := [], laidByText := true, laidKinds := [.data], laidTests := true, laidLooks := .later }
def RollOpensCardSaid : Prop := Claim7.holds Tryd.pinned (.plain (OpenSpec.ofChange rollOpensSpec)) rollOpensCard

/-- THE TIED CARD OF 'miradorlaw20.RollNil'. -/
def rollNilCard : Claim7 := { stood := { row := rollNilRow, standIns := [], harness := (true, "239eb5597c29ef9eb2a6b5a21331e40ca340543ae53b753cfaa426d001b41a26"), looks := true }, kinds := [], alts := [], laidByText := true, laidKinds := [.data], laidTests := true, laidLooks := .later }
def RollNilCardSaid : Prop := Claim7.holds Tryd.pinned (.plain (OpenSpec.ofChange rollNilSpec)) rollNilCard

/-- THE SECOND FORM's CARD OF 'miradorlaw20.RollKeeps'. -/
def rollKeepsUptoCard : Claim7 := { stood := { row := rollKeepsUptoRow, standIns := [], harness := (true, "239eb5597c29ef9eb2a6b5a21331e40ca340543ae53b753cfaa426d001b41a26"), looks := true }, kinds := [], alts := [], laidByText := true, laidKinds := [.data], laidTests := true, laidLooks := .later }
def RollKeepsUptoCardSaid : Prop := Claim7.holds Tryd.pinned (.plain (OpenSpec.upto rollKeepsSpec)) rollKeepsUptoCard

/-- THE SECOND FORM's CARD OF 'miradorlaw20.RollOpens'. -/
def rollOpensUptoCard : Claim7 := { stood := { row := rollOpensUptoRow, standIns := [], harness := (true, "239eb5597c29ef9eb2a6b5a21331e40ca340543ae53b753cfaa426d001b41a26"), looks := true }, kinds := [], alts := [], laidByText := true, laidKinds := [.data], laidTests := true, laidLooks := .later }
def RollOpensUptoCardSaid : Prop := Claim7.holds Tryd.pinned (.plain (OpenSpec.upto rollOpensSpec)) rollOpensUptoCard

/-- THE SECOND FORM's CARD OF 'miradorlaw20.RollNil'. -/
def rollNilUptoCard : Claim7 := { stood := { row := rollNilUptoRow, standIns := [], harness := (true, "239eb5597c29ef9eb2a6b5a21331e40ca340543ae53b753cfaa426d001b41a26"), looks := true }, kinds := [], alts := [], laidByText := true, laidKinds := [.data], laidTests := true, laidLooks := .later }
def RollNilUptoCardSaid : Prop := Claim7.holds Tryd.pinned (.plain (OpenSpec.upto rollNilSpec)) rollNilUptoCard
end Rows
end Go.Proofs.YtnblknhdchpboaaDoor
