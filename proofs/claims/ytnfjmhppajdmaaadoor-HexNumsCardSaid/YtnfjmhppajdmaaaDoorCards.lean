/-
  DERIVED. GIVEN WITH THE SEED: THE CARDS: each row of YtnfjmhppajdmaaaDoorRows.lean that lists a variable, with what it lists TIED to the program's text (the seventh form; the later family's looks); each row that meets fmt, with fmt's text TOLD by the authors' own Lean function (tested against real Go, not proved from fmt's source: count such statements apart). THE CARD IS WHAT COUNTS. Prove the row's statement (the work); the ties are given (YtnfjmhppajdmaaaDoorTie.lean); close each card by the builder's one call (the guide's Derived/Test/ToyasCard.lean, 'card_holds'). Laid BY PROGRAM, IN A SANDBOX (cutbox-door.mjs). By AI agents, Wed Nov 11 2026. No macro, syntax, notation, axiom, sorry.
-/
import Derived.Test.YtnfjmhppajdmaaaDoorRows
import GoSem.ClaimSeven
namespace Go.Proofs.YtnfjmhppajdmaaaDoor
namespace Rows

/-- THE TIED CARD OF 'miradorlaw12.HexBytes'. -/
def hexBytesCard : Claim7 := { stood := { row := hexBytesRow, standIns := [], harness := (true, "47b0772665f62a6a5c1f502455935701680c85e78c980eb45a7a104ef9995083"), looks := false }, kinds := [], alts := [], laidByText := true, laidKinds := [.data, .data, .data, .data, .pinned], laidTests := true, laidLooks := .later }
def HexBytesCardSaid : Prop := Claim7.holds Tryd.pinned (.plain (OpenSpec.ofChange hexBytesSpec)) hexBytesCard

/-- THE TIED CARD OF 'miradorlaw12.HexIds'. -/
def hexIdsCard : Claim7 := { stood := { row := hexIdsRow, standIns := [], harness := (true, "47b0772665f62a6a5c1f502455935701680c85e78c980eb45a7a104ef9995083"), looks := false }, kinds := [], alts := [], laidByText := true, laidKinds := [.data, .data, .data, .data, .pinned], laidTests := true, laidLooks := .later }
def HexIdsCardSaid : Prop := Claim7.holds Tryd.pinned (.plain (OpenSpec.ofChange hexIdsSpec)) hexIdsCard

/-- THE TIED CARD OF 'miradorlaw12.HexNums'. -/
def hexNumsCard : Claim7 := { stood := { row := hexNumsRow, standIns := [], harness := (true, "47b0772665f62a6a5c1f502455935701680c85e78c980eb45a7a104ef9995083"), looks := false }, kinds := [], alts := [], laidByText := true, laidKinds := [.data, .data, .data, .data, .pinned], laidTests := true, laidLooks := .later }
def HexNumsCardSaid : Prop := Claim7.holds Tryd.pinned (.plain (OpenSpec.ofChange hexNumsSpec)) hexNumsCard

/-- THE SECOND FORM's CARD OF 'miradorlaw12.HexBytes'. -/
def hexBytesUptoCard : Claim7 := { stood := { row := hexBytesUptoRow, standIns := [], harness := (true, "47b0772665f62a6a5c1f502455935701680c85e78c980eb45a7a104ef9995083"), looks := false }, kinds := [], alts := [], laidByText := true, laidKinds := [.data, .data, .data, .data, .pinned], laidTests := true, laidLooks := .later }
def HexBytesUptoCardSaid : Prop := Claim7.holds Tryd.pinned (.plain (OpenSpec.upto hexBytesSpec)) hexBytesUptoCard

/-- THE SECOND FORM's CARD OF 'miradorlaw12.HexIds'. -/
def hexIdsUptoCard : Claim7 := { stood := { row := hexIdsUptoRow, standIns := [], harness := (true, "47b0772665f62a6a5c1f502455935701680c85e78c980eb45a7a104ef9995083"), looks := false }, kinds := [], alts := [], laidByText := true, laidKinds := [.data, .data, .data, .data, .pinned], laidTests := true, laidLooks := .later }
def HexIdsUptoCardSaid : Prop := Claim7.holds Tryd.pinned (.plain (OpenSpec.upto hexIdsSpec)) hexIdsUptoCard

/-- THE SECOND FORM's CARD OF 'miradorlaw12.HexNums'. -/
def hexNumsUptoCard : Claim7 := { stood := { row := hexNumsUptoRow, standIns := [], harness := (true, "47b0772665f62a6a5c1f502455935701680c85e78c980eb45a7a104ef9995083"), looks := false }, kinds := [], alts := [], laidByText := true, laidKinds := [.data, .data, .data, .data, .pinned], laidTests := true, laidLooks := .later }
def HexNumsUptoCardSaid : Prop := Claim7.holds Tryd.pinned (.plain (OpenSpec.upto hexNumsSpec)) hexNumsUptoCard
end Rows
end Go.Proofs.YtnfjmhppajdmaaaDoor
