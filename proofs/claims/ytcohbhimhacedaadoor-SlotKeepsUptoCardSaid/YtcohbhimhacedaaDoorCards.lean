/-
  DERIVED. GIVEN WITH THE SEED: THE CARDS: each row of YtcohbhimhacedaaDoorRows.lean that lists a variable, with what it lists TIED to the program's text (the seventh form; the later family's looks); each row that meets fmt, with fmt's text TOLD by the authors' own Lean function (tested against real Go, not proved from fmt's source: count such statements apart). THE CARD IS WHAT COUNTS. Prove the row's statement (the work); the ties are given (YtcohbhimhacedaaDoorTie.lean); close each card by the builder's one call (the guide's Derived/Test/ToyasCard.lean, 'card_holds'). Laid BY PROGRAM, IN A SANDBOX (cutbox-door.mjs). By AI agents, Wed Nov 11 2026. No macro, syntax, notation, axiom, sorry.
-/
import Derived.Test.YtcohbhimhacedaaDoorRows
import GoSem.ClaimSeven
namespace Go.Proofs.YtcohbhimhacedaaDoor
namespace Rows

/-- THE TIED CARD OF 'miradorlaw21.SlotKeeps'. -/
def slotKeepsCard : Claim7 := { stood := { row := slotKeepsRow, standIns := [], harness := (true, "d07d8885c975cc0850350901f40a5ae7b4b594c7abfcaf6ec2fb1446e2e14c95"), looks := true }, kinds := [], alts := [], laidByText := true, laidKinds := [.data], laidTests := true, laidLooks := .later }
def SlotKeepsCardSaid : Prop := Claim7.holds Tryd.pinned (.plain (OpenSpec.ofChange slotKeepsSpec)) slotKeepsCard

/-- THE TIED CARD OF 'miradorlaw21.SlotTurns'. -/
def slotTurnsCard : Claim7 := { stood := { row := slotTurnsRow, standIns := [], harness := (true, "d07d8885c975cc0850350901f40a5ae7b4b594c7abfcaf6ec2fb1446e2e14c95"), looks := true }, kinds := [], alts := [], laidByText := true, laidKinds := [.data], laidTests := true, laidLooks := .later }
def SlotTurnsCardSaid : Prop := Claim7.holds Tryd.pinned (.plain (OpenSpec.ofChange slotTurnsSpec)) slotTurnsCard

/-- THE TIED CARD OF 'miradorlaw21.SlotNil'. -/
def slotNilCard : Claim7 := { stood := { row := slotNilRow, standIns := [], harness := (true, "d07d8885c975cc0850350901f40a5ae7b4b594c7abfcaf6ec2fb1446e2e14c95"), looks := true }, kinds := [], alts := [], laidByText := true, laidKinds := [.data], laidTests := true, laidLooks := .later }
def SlotNilCardSaid : Prop := Claim7.holds Tryd.pinned (.plain (OpenSpec.ofChange slotNilSpec)) slotNilCard

/-- THE SECOND FORM's CARD OF 'miradorlaw21.SlotKeeps'. -/
def slotKeepsUptoCard : Claim7 := { stood := { row := slotKeepsUptoRow, standIns := [], harness := (true, "d07d8885c975cc0850350901f40a5ae7b4b594c7abfcaf6ec2fb1446e2e14c95"), looks := true }, kinds := [], alts := [], laidByText := true, laidKinds := [.data], laidTests := true, laidLooks := .later }
def SlotKeepsUptoCardSaid : Prop := Claim7.holds Tryd.pinned (.plain (OpenSpec.upto slotKeepsSpec)) slotKeepsUptoCard

/-- THE SECOND FORM's CARD OF 'miradorlaw21.SlotTurns'. -/
def slotTurnsUptoCard : Claim7 := { stood := { row := slotTurnsUptoRow, standIns := [], harness := (true, "d07d8885c975cc0850350901f40a5ae7b4b594c7abfcaf6ec2fb1446e2e14c95"), looks := true }, kinds := [], alts := [], laidByText := true, laidKinds := [.data], laidTests := true, laidLooks := .later }
def SlotTurnsUptoCardSaid : Prop := Claim7.holds Tryd.pinned (.plain (OpenSpec.upto slotTurnsSpec)) slotTurnsUptoCard

/-- THE SECOND FORM's CARD OF 'miradorlaw21.SlotNil'. -/
def slotNilUptoCard : Claim7 := { stood := { row := slotNilUptoRow, standIns := [], harness := (true, "d07d8885c975cc0850350901f40a5ae7b4b594c7abfcaf6ec2fb1446e2e14c95"), looks := true }, kinds := [], alts := [], laidByText := true, laidKinds := [.data], laidTests := true, laidLooks := .later }
def SlotNilUptoCardSaid : Prop := Claim7.holds Tryd.pinned (.plain (OpenSpec.upto slotNilSpec)) slotNilUptoCard
end Rows
end Go.Proofs.YtcohbhimhacedaaDoor
