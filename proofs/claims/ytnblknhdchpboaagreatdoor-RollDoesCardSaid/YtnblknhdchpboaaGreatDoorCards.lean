/-
  DERIVED. GIVEN WITH THE SEED: THE CARDS: each row of YtnblknhdchpboaaGreatDoorRows.lean that lists a variable, with what it lists TIED to the program's text (the seventh form; the later family's looks); each row that meets fmt, with fmt's text TOLD by the authors' own Lean function (tested against real Go, not proved from fmt's source: count such statements apart). THE CARD IS WHAT COUNTS. Prove the row's statement (the work); the ties are given (YtnblknhdchpboaaGreatDoorTie.lean); close each card by the builder's one call (the guide's Derived/Test/ToyasCard.lean, 'card_holds'). Laid BY PROGRAM, IN A SANDBOX (cutbox-door.mjs). By AI agents, Wed Nov 11 2026. No macro, syntax, notation, axiom, sorry.
-/
import Derived.Test.YtnblknhdchpboaaGreatDoorRows
import GoSem.ClaimSeven
namespace Go.Proofs.YtnblknhdchpboaaGreatDoor
namespace Rows

/-- THE TIED CARD OF 'miradorlaw20.RollDoes'. -/
def rollDoesCard : Claim7 := { stood := { row := rollDoesRow, standIns := [], harness := (true, "541b27dadb4b78f192ac3e7a62841f2d927b00ef588c5b31e54220e403cda4e0"), looks := true }, kinds := [], alts := [], laidByText := true, laidKinds := [.data], laidTests := true, laidLooks := .later }
def RollDoesCardSaid : Prop := Claim7.holds Tryz.pinned (.plain (OpenSpec.ofChange rollDoesSpec)) rollDoesCard

/-- THE SECOND FORM's CARD OF 'miradorlaw20.RollDoes'. -/
def rollDoesUptoCard : Claim7 := { stood := { row := rollDoesUptoRow, standIns := [], harness := (true, "541b27dadb4b78f192ac3e7a62841f2d927b00ef588c5b31e54220e403cda4e0"), looks := true }, kinds := [], alts := [], laidByText := true, laidKinds := [.data], laidTests := true, laidLooks := .later }
def RollDoesUptoCardSaid : Prop := Claim7.holds Tryz.pinned (.plain (OpenSpec.upto rollDoesSpec)) rollDoesUptoCard
end Rows
end Go.Proofs.YtnblknhdchpboaaGreatDoor
