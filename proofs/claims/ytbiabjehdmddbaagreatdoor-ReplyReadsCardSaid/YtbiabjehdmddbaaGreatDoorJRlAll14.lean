/-
  Texts of stages that were proved on their own, joined: HpGlob. Each begins with its own words.
-/
import Derived.Test.YtbiabjehdmddbaaGreatDoorJRlAll13
import Derived.Test.YtbiabjehdmddbaaGreatDoorRows
import Derived.Lib.LaidTab
import Derived.Deep.DeepHandedRow
import Derived.ProofKit

/-
  What the rows' condition on the library's tables gives (the table of powers of ten, 'Pow12'), and a world that meets it. No Go function is walked here.
-/
namespace Go.Proofs.YtbiabjehdmddbaaGreatDoor
open Go.RowKit

/-- The variables as the rows list them. -/
def laid12 : List (String × DataW Unit) := [("math/bits.deBruijn32tab", Rows.laid_math_bits_deBruijn32tab), ("math/bits.deBruijn64tab", Rows.laid_math_bits_deBruijn64tab), ("internal/strconv.uint64pow10", Rows.laid_internal_strconv_uint64pow10), ("unicode/utf8.acceptRanges", Rows.laid_unicode_utf8_acceptRanges), ("unicode/utf8.first", Rows.laid_unicode_utf8_first)]
theorem gP12 : Tryz.prog.globalNamed "internal/strconv.uint64pow10" = some 0 := by kernel_rfl
theorem gP12T : (Tryz.prog.globals[0]?).map (·.type) = some 125 := by kernel_rfl
theorem cells20 : Tryz.prog.cellsOf 125 = 20 := by kernel_rfl
theorem cells1q : Tryz.prog.cellsOf 41 = 1 := by kernel_rfl
theorem laidP12 : (Rows.laid_internal_strconv_uint64pow10 : DataW Unit) = Lib.tabData .u64 Lib.pow10Tab := by rfl
theorem laid_tail12 {P : Program} {x : String × DataW Unit} {r : List (String × DataW Unit)} {w : World} (h : laidMet P (x :: r) w) : laidMet P r w := by
  obtain ⟨ps, hv, hnd, hrows⟩ := h
  obtain ⟨n, d⟩ := x
  obtain ⟨g, t, cs, fuel, p, q, _, _, _, _, hq, rfl⟩ := hv
  exact ⟨q, hq, List.Nodup.sublist (List.sublist_append_right _ _) hnd, fun b off hm => hrows b off (List.mem_append_right _ hm)⟩
theorem pow12_of_laid {W : World} (h : laidMetH Tryz.prog laid12 W) : Pow12 W := by
  have h' : laidMet Tryz.prog laid12 W := h
  unfold laid12 at h'
  have h2 := laid_tail12 (laid_tail12 h')
  rw [laidP12] at h2
  exact Lib.tabIs_of_head gP12 gP12T Tryz.underlying125 Tryz.underlying41 cells1q cells20 h2
/-- The table stays where memory from its block's end on alone is written. -/
theorem Pow12.keep {w w' : World} {B : Nat} (h : Pow12 w) (hb : Below B w w') (hB : 0 + 1 ≤ B) : Pow12 w' := by
  unfold Pow12 Lib.TabIs World.var? at *
  rw [gP12] at h ⊢
  simp only [Option.bind_some] at h ⊢
  rw [hb.block 0 hB]
  exact h
theorem Pow12.le {w : World} (h : Pow12 w) : 0 + 1 ≤ w.heap.size := by
  by_cases hl : 0 < w.heap.size
  · exact hl
  · exfalso
    unfold Pow12 Lib.TabIs World.var? at h
    rw [gP12] at h
    simp only [Option.bind_some] at h
    rw [Array.getElem?_eq_none (by omega)] at h
    cases h

/-- A world for the witness: the settled one, each variable holding what its initialiser lays. -/
def lit1 : DataW Unit → List Value
  | .lit (.int k z) => [.int k z]
  | _ => []
def lit2 : DataW Unit → List Value
  | .agg l => l.flatMap lit1
  | d => lit1 d
def lit3 : DataW Unit → List Value
  | .agg l => l.flatMap lit2
  | d => lit1 d
def laying12 (d : DataW Unit) : Obj → Obj
  | .cells _ t frozen => .cells (lit3 d).toArray t frozen
  | o => o
noncomputable def laidWorld12 (os : Os) : World :=
  { World.holding Tryz.prog os ⟨#[], #[], []⟩ with heap := (((((World.holding Tryz.prog os ⟨#[], #[], []⟩).heap.modify 4 (laying12 Rows.laid_math_bits_deBruijn32tab)).modify 5 (laying12 Rows.laid_math_bits_deBruijn64tab)).modify 0 (laying12 Rows.laid_internal_strconv_uint64pow10)).modify 3 (laying12 Rows.laid_unicode_utf8_acceptRanges)).modify 2 (laying12 Rows.laid_unicode_utf8_first) }
theorem laid12_met (os : Os) (args : Array Value) : laidMet Tryz.prog laid12 ((laidWorld12 os).forCall (fun _ _ => 0) ⟨#[], args, []⟩).memory :=
  laidMet_of_run' 8 (by kernel_rfl) (by kernel_rfl)
end Go.Proofs.YtbiabjehdmddbaaGreatDoor
