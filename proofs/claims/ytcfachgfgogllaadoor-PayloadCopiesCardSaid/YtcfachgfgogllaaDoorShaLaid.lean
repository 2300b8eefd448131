/-
  What the rows' condition on the package's variables gives ('Glob'), and a world that meets it. No Go function is walked here.
-/
import Derived.Test.YtcfachgfgogllaaDoorShaTake
import Derived.Test.YtcfachgfgogllaaDoorRows
import Derived.Lib.LaidTab
import Derived.Deep.DeepHandedRow
import Derived.ProofKit
namespace Go.Proofs.YtcfachgfgogllaaDoor
open Go.RowKit

/-- The variables as the rows list them. -/
def laid2 : List (String × DataW Unit) := [("mirador/sha.starts", Rows.laid_mirador_sha_starts), ("mirador/sha.constants", Rows.laid_mirador_sha_constants)]
theorem gS : Tryd.prog.globalNamed "mirador/sha.starts" = some 0 := by kernel_rfl
theorem gK : Tryd.prog.globalNamed "mirador/sha.constants" = some 1 := by kernel_rfl
theorem gST : (Tryd.prog.globals[0]?).map (·.type) = some 105 := by kernel_rfl
theorem gKT : (Tryd.prog.globals[1]?).map (·.type) = some 123 := by kernel_rfl
theorem cellsS : Tryd.prog.cellsOf 105 = 8 := by kernel_rfl
theorem cellsK : Tryd.prog.cellsOf 123 = 64 := by kernel_rfl
theorem cellsW : Tryd.prog.cellsOf 39 = 1 := by kernel_rfl
theorem laidS : (Rows.laid_mirador_sha_starts : DataW Unit) = Lib.tabData .u32 starts8.list := rfl
set_option maxRecDepth 100000 in
theorem laidK : (Rows.laid_mirador_sha_constants : DataW Unit) = Lib.tabData .u32 kW := rfl
theorem glob_of_laid {W : World} (h : laidMetH Tryd.prog laid2 W) : Glob W := by
  have h' : laidMet Tryd.prog laid2 W := h
  unfold laid2 at h'
  rw [laidS, laidK] at h'
  have tS := Lib.tabIs_of_head gS gST Tryd.underlying105 Tryd.underlying39 cellsW cellsS h'
  obtain ⟨ps, ⟨g, t, cs, fuel, p, q, _, _, _, _, ⟨g', t', cs', fuel', p', q', hg', ht', hvar, hd, _, _⟩, _⟩, _⟩ := h'
  obtain rfl := Option.some.inj (gK.symm.trans hg')
  obtain rfl := Option.some.inj (gKT.symm.trans ht')
  have tK : Lib.TabIs Tryd.prog W "mirador/sha.constants" .u32 kW := by
    unfold Lib.TabIs
    rw [hvar, ← Lib.cells_of_tab Tryd.underlying123 Tryd.underlying39 cellsW cellsK hd]
  exact ⟨fun i hi => tK.cell gK i (by rw [kW_length]; exact hi), fun i hi => tS.cell gS i hi⟩

/-- A world for the witness: the settled one, the two variables holding what their initialisers lay. -/
def laying (cs : List Value) : Obj → Obj
  | .cells _ t frozen => .cells cs.toArray t frozen
  | o => o
noncomputable def laidWorld (os : Os) : World :=
  { World.holding Tryd.prog os ⟨#[], #[], []⟩ with heap := ((World.holding Tryd.prog os ⟨#[], #[], []⟩).heap.modify 0 (laying (starts8.list.map (Value.int .u32)))).modify 1 (laying (kW.map (Value.int .u32))) }
end Go.Proofs.YtcfachgfgogllaaDoor
