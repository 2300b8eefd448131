/-
  Texts of stages that were proved on their own, joined: CpGlob. Each begins with its own words.
-/
import Derived.Test.YtcohbhimhacedaaDoorJSlAll22
import Derived.Test.YtcohbhimhacedaaDoorRows
import Derived.Lib.LaidTab
import Derived.Deep.DeepHandedRow
import Derived.ProofKit

/-
  What the rows' condition on the package's table gives ('Glob11'), and a world that meets it. No Go function is walked here.
-/
namespace Go.Proofs.YtcohbhimhacedaaDoor
open Go.RowKit

/-- The variable as the rows list it. -/
def laid11 : List (String × DataW Unit) := [("mirador/crc.halves", Rows.laid_mirador_crc_halves)]
theorem gH11 : Tryd.prog.globalNamed "mirador/crc.halves" = some 0 := by kernel_rfl
theorem gH11T : (Tryd.prog.globals[0]?).map (·.type) = some 120 := by kernel_rfl
theorem cells16 : Tryd.prog.cellsOf 120 = 16 := by kernel_rfl
theorem cells1w : Tryd.prog.cellsOf 71 = 1 := by kernel_rfl
theorem halves_are : (List.range 16).map (tabN 4) = [0, 274646895, 549293790, 820201905, 1098587580, 1361435347, 1640403810, 1905808397, 2197175160, 2460548119, 2722870694, 2987750089, 3280807620, 3553878443, 3811616794, 4084100981] := by decide +kernel
theorem laidH11 : (Rows.laid_mirador_crc_halves : DataW Unit) = Lib.tabData .u32 ((List.range 16).map (tabN 4)) := by
  rw [halves_are]
  rfl
theorem glob11_of_laid {W : World} (h : laidMetH Tryd.prog laid11 W) : Glob11 W := by
  have h' : laidMet Tryd.prog laid11 W := h
  unfold laid11 at h'
  rw [laidH11] at h'
  have tH := Lib.tabIs_of_head gH11 gH11T Tryd.underlying120 Tryd.underlying71 cells1w cells16 h'
  intro i hi
  have h1 := tH.cell gH11 i (by simpa using hi)
  rw [h1, List.getD_eq_getElem?_getD, List.getElem?_map, List.getElem?_range hi]
  rfl

/-- A world for the witness: the settled one, the variable holding what its initialiser lays. -/
def laying11 (cs : List Value) : Obj → Obj
  | .cells _ t frozen => .cells cs.toArray t frozen
  | o => o
noncomputable def laidWorld11 (os : Os) : World :=
  { World.holding Tryd.prog os ⟨#[], #[], []⟩ with heap := (World.holding Tryd.prog os ⟨#[], #[], []⟩).heap.modify 0 (laying11 (((List.range 16).map (tabN 4)).map (Value.int .u32))) }
theorem laid11_met (os : Os) (args : Array Value) : laidMet Tryd.prog laid11 ((laidWorld11 os).forCall (fun _ _ => 0) ⟨#[], args, []⟩).memory := by
  unfold laidWorld11
  rw [halves_are]
  exact laidMet_of_run' 8 (by kernel_rfl) (by kernel_rfl)
end Go.Proofs.YtcohbhimhacedaaDoor
