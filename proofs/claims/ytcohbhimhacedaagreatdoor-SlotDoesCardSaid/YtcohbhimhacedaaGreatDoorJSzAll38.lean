/-
  Texts of stages that were proved on their own, joined: CpGlob. Each begins with its own words.
-/
import Derived.Test.YtcohbhimhacedaaGreatDoorJSzAll27
import Derived.Test.YtcohbhimhacedaaGreatDoorRows
import Derived.Lib.LaidTab
import Derived.Deep.DeepHandedRow
import Derived.ProofKit

/-
  What the rows' condition on the package's table gives ('Glob11'), and a world that meets it. No Go function is walked here.
-/
namespace Go.Proofs.YtcohbhimhacedaaGreatDoor
open Go.RowKit

/-- The variable as the rows list it. -/
def laid11 : List (String × DataW Unit) := [("mirador/crc.halves", Rows.laid_mirador_crc_halves)]
theorem gH11 : Tryz.prog.globalNamed "mirador/crc.halves" = some 0 := by kernel_rfl
theorem gH11T : (Tryz.prog.globals[0]?).map (·.type) = some 152 := by kernel_rfl
theorem cells16 : Tryz.prog.cellsOf 152 = 16 := by kernel_rfl
theorem cells1w : Tryz.prog.cellsOf 124 = 1 := by kernel_rfl
theorem halves_are : (List.range 16).map (tabN 4) = [0, 274646895, 549293790, 820201905, 1098587580, 1361435347, 1640403810, 1905808397, 2197175160, 2460548119, 2722870694, 2987750089, 3280807620, 3553878443, 3811616794, 4084100981] := by decide +kernel
theorem laidH11 : (Rows.laid_mirador_crc_halves : DataW Unit) = Lib.tabData .u32 ((List.range 16).map (tabN 4)) := by
  rw [halves_are]
  rfl
theorem glob11_of_laid {W : World} (h : laidMetH Tryz.prog laid11 W) : Glob11 W := by
  have h' : laidMet Tryz.prog laid11 W := h
  unfold laid11 at h'
  rw [laidH11] at h'
  have tH := Lib.tabIs_of_head gH11 gH11T Tryz.underlying152 Tryz.underlying124 cells1w cells16 h'
  intro i hi
  have h1 := tH.cell gH11 i (by simpa using hi)
  rw [h1, List.getD_eq_getElem?_getD, List.getElem?_map, List.getElem?_range hi]
  rfl

/-- A world for the witness: the settled one, the variable holding what its initialiser lays. -/
def laying11 (cs : List Value) : Obj → Obj
  | .cells _ t frozen => .cells cs.toArray t frozen
  | o => o
noncomputable def laidWorld11 (os : Os) : World :=
  { World.holding Tryz.prog os ⟨#[], #[], []⟩ with heap := (World.holding Tryz.prog os ⟨#[], #[], []⟩).heap.modify 0 (laying11 (((List.range 16).map (tabN 4)).map (Value.int .u32))) }
theorem laid11_met (os : Os) (args : Array Value) : laidMet Tryz.prog laid11 ((laidWorld11 os).forCall (fun _ _ => 0) ⟨#[], args, []⟩).memory := by
  unfold laidWorld11
  rw [halves_are]
  exact laidMet_of_run' 8 (by kernel_rfl) (by kernel_rfl)
end Go.Proofs.YtcohbhimhacedaaGreatDoor
