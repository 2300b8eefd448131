/-
  DERIVED. GIVEN WITH THE SEED: THE CARDS: each row of YtcohbhimhacedaaGreatDoorRows.lean that lists a variable, with what it lists TIED to the program's text (the seventh form; the later family's looks); each row that meets fmt, with fmt's text TOLD by the authors' own Lean function (tested against real Go, not proved from fmt's source: count such statements apart). THE CARD IS WHAT COUNTS. Prove the row's statement (the work); the ties are given (YtcohbhimhacedaaGreatDoorTie.lean); close each card by the builder's one call (the guide's Derived/Test/ToyasCard.lean, 'card_holds'). Laid BY PROGRAM, IN A SANDBOX (cutbox-door.mjs). By AI agents, Wed Nov 11 2026. No macro, syntax, notation, axiom, sorry.
-/
import Derived.Test.YtcohbhimhacedaaGreatDoorRows
import GoSem.ClaimSeven
namespace Go.Proofs.YtcohbhimhacedaaGreatDoor
namespace Rows

/-- THE TIED CARD OF 'miradorlaw21.SlotDoes'. -/
def slotDoesCard : Claim7 := { stood := { row := slotDoesRow, standIns := [], harness := (true, "df28c982541759ce4e2b46b5089f9e3635028934dfa7b7165f8b0ee643a4e925"), looks := true }, kinds := [], alts := [], laidByText := true, laidKinds := [.data], laidTests := true, laidLooks := .later }
def SlotDoesCardSaid : Prop := Claim7.holds Tryz.pinned (.plain (OpenSpec.ofChange slotDoesSpec)) slotDoesCard

/-- THE SECOND FORM's CARD OF 'miradorlaw21.SlotDoes'. -/
def slotDoesUptoCard : Claim7 := { stood := { row := slotDoesUptoRow, standIns := [], harness := (true, "df28c982541759ce4e2b46b5089f9e3635028934dfa7b7165f8b0ee643a4e925"), looks := true }, kinds := [], alts := [], laidByText := true, laidKinds := [.data], laidTests := true, laidLooks := .later }
def SlotDoesUptoCardSaid : Prop := Claim7.holds Tryz.pinned (.plain (OpenSpec.upto slotDoesSpec)) slotDoesUptoCard
end Rows
end Go.Proofs.YtcohbhimhacedaaGreatDoor
