/-
  Texts of stages that were proved on their own, joined: ShaLaid. Each begins with its own words.
-/
import Derived.Test.YtagacpjeooaapaaGreatDoorJSealProg9
import Derived.Test.YtagacpjeooaapaaGreatDoorRows
import Derived.Lib.LaidTab
import Derived.Deep.DeepHandedRow
import Derived.ProofKit

/-
  What the rows' condition on the package's variables gives ('Glob'), and a world that meets it. No Go function is walked here.
-/
namespace Go.Proofs.YtagacpjeooaapaaGreatDoor
open Go.RowKit

/-- The variables as the rows list them. -/
def laid2 : List (String × DataW Unit) := [("mirador/sha.starts", Rows.laid_mirador_sha_starts), ("mirador/sha.constants", Rows.laid_mirador_sha_constants)]
theorem gS : Tryz.prog.globalNamed "mirador/sha.starts" = some 1 := by kernel_rfl
theorem gK : Tryz.prog.globalNamed "mirador/sha.constants" = some 2 := by kernel_rfl
theorem gST : (Tryz.prog.globals[1]?).map (·.type) = some 113 := by kernel_rfl
theorem gKT : (Tryz.prog.globals[2]?).map (·.type) = some 153 := by kernel_rfl
theorem cellsS : Tryz.prog.cellsOf 113 = 8 := by kernel_rfl
theorem cellsK : Tryz.prog.cellsOf 153 = 64 := by kernel_rfl
theorem cellsW : Tryz.prog.cellsOf 111 = 1 := by kernel_rfl
theorem laidS : (Rows.laid_mirador_sha_starts : DataW Unit) = Lib.tabData .u32 starts8.list := rfl
set_option maxRecDepth 100000 in
theorem laidK : (Rows.laid_mirador_sha_constants : DataW Unit) = Lib.tabData .u32 kW := rfl
theorem glob_of_laid {W : World} (h : laidMetH Tryz.prog laid2 W) : Glob W := by
  have h' : laidMet Tryz.prog laid2 W := h
  unfold laid2 at h'
  rw [laidS, laidK] at h'
  have tS := Lib.tabIs_of_head gS gST Tryz.underlying113 Tryz.underlying111 cellsW cellsS h'
  obtain ⟨ps, ⟨g, t, cs, fuel, p, q, _, _, _, _, ⟨g', t', cs', fuel', p', q', hg', ht', hvar, hd, _, _⟩, _⟩, _⟩ := h'
  obtain rfl := Option.some.inj (gK.symm.trans hg')
  obtain rfl := Option.some.inj (gKT.symm.trans ht')
  have tK : Lib.TabIs Tryz.prog W "mirador/sha.constants" .u32 kW := by
    unfold Lib.TabIs
    rw [hvar, ← Lib.cells_of_tab Tryz.underlying153 Tryz.underlying111 cellsW cellsK hd]
  exact ⟨fun i hi => tK.cell gK i (by rw [kW_length]; exact hi), fun i hi => tS.cell gS i hi⟩

/-- A world for the witness: the settled one, the two variables holding what their initialisers lay. -/
def laying (cs : List Value) : Obj → Obj
  | .cells _ t frozen => .cells cs.toArray t frozen
  | o => o
noncomputable def laidWorld (os : Os) : World :=
  { World.holding Tryz.prog os ⟨#[], #[], []⟩ with heap := ((World.holding Tryz.prog os ⟨#[], #[], []⟩).heap.modify 1 (laying (starts8.list.map (Value.int .u32)))).modify 2 (laying (kW.map (Value.int .u32))) }
end Go.Proofs.YtagacpjeooaapaaGreatDoor
