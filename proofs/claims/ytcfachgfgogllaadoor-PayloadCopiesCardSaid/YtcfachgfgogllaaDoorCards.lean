/-
  DERIVED. GIVEN WITH THE SEED: THE CARDS: each row of YtcfachgfgogllaaDoorRows.lean that lists a variable, with what it lists TIED to the program's text (the seventh form; the later family's looks); each row that meets fmt, with fmt's text TOLD by the authors' own Lean function (tested against real Go, not proved from fmt's source: count such statements apart). THE CARD IS WHAT COUNTS. Prove the row's statement (the work); the ties are given (YtcfachgfgogllaaDoorTie.lean); close each card by the builder's one call (the guide's Derived/Test/ToyasCard.lean, 'card_holds'). Laid BY PROGRAM, IN A SANDBOX (cutbox-door.mjs). By AI agents, Wed Nov 11 2026. No macro, syntax, notation, axiom, sorry.
-/
import Derived.Test.YtcfachgfgogllaaDoorRows
import GoSem.ClaimSeven
namespace Go.Proofs.YtcfachgfgogllaaDoor
namespace Rows

/-- THE TIED CARD OF 'miradorlaw13.PayloadBytes'. -/
def payloadBytesCard : Claim7 := { stood := { row := payloadBytesRow, standIns := [], harness := (true, "d58ddbaad052a50c49e18933a8e45e255c1ff65e195cdd9e2b61649efa21a792"), looks := true }, kinds := [], alts := [], laidByText := true, laidKinds := [.data, .data], laidTests := true, laidLooks := .later }
def PayloadBytesCardSaid : Prop := Claim7.holds Tryd.pinned (.plain (OpenSpec.ofChange payloadBytesSpec)) payloadBytesCard

/-- THE TIED CARD OF 'miradorlaw13.PayloadReads'. -/
def payloadReadsCard : Claim7 := { stood := { row := payloadReadsRow, standIns := [], harness := (true, "d58ddbaad052a50c49e18933a8e45e255c1ff65e195cdd9e2b61649efa21a792"), looks := true }, kinds := [], alts := [], laidByText := true, laidKinds := [.data, .data], laidTests := true, laidLooks := .later }
def PayloadReadsCardSaid : Prop := Claim7.holds Tryd.pinned (.plain (OpenSpec.ofChange payloadReadsSpec)) payloadReadsCard

/-- THE TIED CARD OF 'miradorlaw13.PayloadFinds'. -/
def payloadFindsCard : Claim7 := { stood := { row := payloadFindsRow, standIns := [], harness := (true, "d58ddbaad052a50c49e18933a8e45e255c1ff65e195cdd9e2b61649efa21a792"), looks := true }, kinds := [], alts := [], laidByText := true, laidKinds := [.data, .data], laidTests := true, laidLooks := .later }
def PayloadFindsCardSaid : Prop := Claim7.holds Tryd.pinned (.plain (OpenSpec.ofChange payloadFindsSpec)) payloadFindsCard

/-- THE TIED CARD OF 'miradorlaw13.PayloadCopies'. -/
def payloadCopiesCard : Claim7 := { stood := { row := payloadCopiesRow, standIns := [], harness := (true, "d58ddbaad052a50c49e18933a8e45e255c1ff65e195cdd9e2b61649efa21a792"), looks := true }, kinds := [], alts := [], laidByText := true, laidKinds := [.data, .data], laidTests := true, laidLooks := .later }
def PayloadCopiesCardSaid : Prop := Claim7.holds Tryd.pinned (.plain (OpenSpec.ofChange payloadCopiesSpec)) payloadCopiesCard

/-- THE SECOND FORM's CARD OF 'miradorlaw13.PayloadBytes'. -/
def payloadBytesUptoCard : Claim7 := { stood := { row := payloadBytesUptoRow, standIns := [], harness := (true, "d58ddbaad052a50c49e18933a8e45e255c1ff65e195cdd9e2b61649efa21a792"), looks := true }, kinds := [], alts := [], laidByText := true, laidKinds := [.data, .data], laidTests := true, laidLooks := .later }
def PayloadBytesUptoCardSaid : Prop := Claim7.holds Tryd.pinned (.plain (OpenSpec.upto payloadBytesSpec)) payloadBytesUptoCard

/-- THE SECOND FORM's CARD OF 'miradorlaw13.PayloadReads'. -/
def payloadReadsUptoCard : Claim7 := { stood := { row := payloadReadsUptoRow, standIns := [], harness := (true, "d58ddbaad052a50c49e18933a8e45e255c1ff65e195cdd9e2b61649efa21a792"), looks := true }, kinds := [], alts := [], laidByText := true, laidKinds := [.data, .data], laidTests := true, laidLooks := .later }
def PayloadReadsUptoCardSaid : Prop := Claim7.holds Tryd.pinned (.plain (OpenSpec.upto payloadReadsSpec)) payloadReadsUptoCard

/-- THE SECOND FORM's CARD OF 'miradorlaw13.PayloadFinds'. -/
def payloadFindsUptoCard : Claim7 := { stood := { row := payloadFindsUptoRow, standIns := [], harness := (true, "d58ddbaad052a50c49e18933a8e45e255c1ff65e195cdd9e2b61649efa21a792"), looks := true }, kinds := [], alts := [], laidByText := true, laidKinds := [.data, .data], laidTests := true, laidLooks := .later }
def PayloadFindsUptoCardSaid : Prop := Claim7.holds Tryd.pinned (.plain (OpenSpec.upto payloadFindsSpec)) payloadFindsUptoCard

/-- THE SECOND FORM's CARD OF 'miradorlaw13.PayloadCopies'. -/
def payloadCopiesUptoCard : Claim7 := { stood := { row := payloadCopiesUptoRow, standIns := [], harness := (true, "d58ddbaad052a50c49e18933a8e45e255c1ff65e195cdd9e2b61649efa21a792"), looks := true }, kinds := [], alts := [], laidByText := true, laidKinds := [.data, .data], laidTests := true, laidLooks := .later }
def PayloadCopiesUptoCardSaid : Prop := Claim7.holds Tryd.pinned (.plain (OpenSpec.upto payloadCopiesSpec)) payloadCopiesUptoCard
end Rows
end Go.Proofs.YtcfachgfgogllaaDoor
