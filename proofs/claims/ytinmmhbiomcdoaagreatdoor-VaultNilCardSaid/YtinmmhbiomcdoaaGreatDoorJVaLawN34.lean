/-
  Texts of stages that were proved on their own, joined: VaGlob. Each begins with its own words.
-/
import Derived.Test.YtinmmhbiomcdoaaGreatDoorJVaLawN23
import Derived.Test.YtinmmhbiomcdoaaGreatDoorJVaLawN33
import Derived.Test.YtinmmhbiomcdoaaGreatDoorRows
import Derived.LaidLaws
import Derived.LaidHandle
import Derived.Lib.LaidTab
import Derived.Deep.DeepHandedRow
import Derived.ProofKit
import Derived.RowKitTokens

/-
  What the rows' condition on the package-level variables gives a walk of package vault (layer 22): crc's table, strconv's powers of ten, the handle of the type 'error', and what errors.New told for errOver; and a world that meets it. No Go function is walked here.
-/
namespace Go.Proofs.YtinmmhbiomcdoaaGreatDoor
open Go.ChangeShapes Go.WideShapes Go.RowKit

/-- The variables as the rows list them. -/
def laid22 : List (String × DataW Unit) := [("math/bits.deBruijn32tab", Rows.laid_math_bits_deBruijn32tab), ("math/bits.deBruijn64tab", Rows.laid_math_bits_deBruijn64tab), ("internal/strconv.uint64pow10", Rows.laid_internal_strconv_uint64pow10), ("mirador/crc.halves", Rows.laid_mirador_crc_halves), ("errors.errorType", Rows.laid_errors_errorType), ("mirador/vault.errOver", Rows.laid_mirador_vault_errOver)]
def laid22d : List (String × DataW Unit) := [("math/bits.deBruijn32tab", Rows.laid_math_bits_deBruijn32tab), ("math/bits.deBruijn64tab", Rows.laid_math_bits_deBruijn64tab), ("internal/strconv.uint64pow10", Rows.laid_internal_strconv_uint64pow10), ("mirador/crc.halves", Rows.laid_mirador_crc_halves), ("mirador/vault.errOver", Rows.laid_mirador_vault_errOver)]
theorem gP22 : Tryz.prog.globalNamed "internal/strconv.uint64pow10" = some 2 := by kernel_rfl
theorem gP22T : (Tryz.prog.globals[2]?).map (·.type) = some 232 := by kernel_rfl
theorem cells20q : Tryz.prog.cellsOf 232 = 20 := by kernel_rfl
theorem cells1q22 : Tryz.prog.cellsOf 41 = 1 := by kernel_rfl
theorem laidP22 : (Rows.laid_internal_strconv_uint64pow10 : DataW Unit) = Lib.tabData .u64 Lib.pow10Tab := by rfl
theorem gH22 : Tryz.prog.globalNamed "mirador/crc.halves" = some 3 := by kernel_rfl
theorem gH22T : (Tryz.prog.globals[3]?).map (·.type) = some 235 := by kernel_rfl
theorem cells16q : Tryz.prog.cellsOf 235 = 16 := by kernel_rfl
theorem cells1w22 : Tryz.prog.cellsOf 125 = 1 := by kernel_rfl
theorem halves_are22 : (List.range 16).map (tabN 4) = [0, 274646895, 549293790, 820201905, 1098587580, 1361435347, 1640403810, 1905808397, 2197175160, 2460548119, 2722870694, 2987750089, 3280807620, 3553878443, 3811616794, 4084100981] := by decide +kernel
theorem laidH22 : (Rows.laid_mirador_crc_halves : DataW Unit) = Lib.tabData .u32 ((List.range 16).map (tabN 4)) := by
  rw [halves_are22]
  rfl
theorem gO22 : Tryz.prog.globalNamed "mirador/vault.errOver" = some 0 := by kernel_rfl
theorem gO22T : (Tryz.prog.globals[0]?).map (·.type) = some 94 := by kernel_rfl
theorem cellsES : Tryz.prog.cellsOf 259 = 1 := by kernel_rfl
theorem cellsS22 : Tryz.prog.cellsOf 9 = 1 := by kernel_rfl
theorem star22 : "*" ++ "errors.errorString" = "*errors.errorString" := by decide
theorem rowES (u : TypeId) (h : Tryz.prog.typeName? 3 u = some "*errors.errorString") : u = 239 :=
  typeName_ptr_named (nm := "errors.errorString") (by rw [star22]; kernel_rfl) (by kernel_rfl) (by decide) u (by rw [star22]; exact h)
theorem gE22 : Tryz.prog.globalNamed "errors.errorType" = some 1 := by kernel_rfl
theorem rtE22 : (Tryz.prog.cutTypes.find? (·.1 == "internal/reflectlite.rtype")).map (·.2) = some 185 := by kernel_rfl
theorem oneE22 : ((List.range Tryz.prog.types.size).filter fun t => Tryz.prog.rowNamed t [101, 114, 114, 111, 114]) = [94] := by kernel_rfl
/-- The variable errors.errorType holds what Go lays there. -/
def ErrT (w : World) : Prop := w.cell? ⟨1, 0, none⟩ = some (.iface 185 (.agg #[typeHandle Tryz.prog 94]))
/-- The variable errOver holds what errors.New told. -/
def Over22 (o : Addr) (w : World) : Prop := w.cell? ⟨0, 0, none⟩ = some (.iface 239 (.pointer (some o)))
/-- What the package-level variables hold. -/
structure Glob22 (o : Addr) (w : World) : Prop where
  h : Glob11 w
  p : Pow12 w
  e : ErrT w
  o : Over22 o w
theorem laid_tail22 {P : Program} {x : String × DataW Unit} {r : List (String × DataW Unit)} {w : World} (h : laidMet P (x :: r) w) : laidMet P r w := by
  obtain ⟨ps, hv, hnd, hrows⟩ := h
  obtain ⟨n, d⟩ := x
  obtain ⟨g, t, cs, fuel, p, q, _, _, _, _, hq, rfl⟩ := hv
  exact ⟨q, hq, List.Nodup.sublist (List.sublist_append_right _ _) hnd, fun b off hm => hrows b off (List.mem_append_right _ hm)⟩
set_option maxRecDepth 100000 in
theorem over_of_laid {W : World} (h : laidMet Tryz.prog [("mirador/vault.errOver", Rows.laid_mirador_vault_errOver)] W) : ∃ o, Over22 o W := by
  obtain ⟨ps, ⟨g0, t0, cs0, f0, p0, q0, hg0, ht0, hv0, hd0, hq, e0⟩, hnd, hrows⟩ := h
  obtain rfl := Option.some.inj (gO22.symm.trans hg0)
  obtain rfl := Option.some.inj (gO22T.symm.trans ht0)
  have hq' : q0 = [] := hq
  subst hq'
  subst e0
  obtain ⟨l0⟩ := cs0
  have ok0 : ∀ u v, l0 = [.iface u v] → Value.okWide Tryz.prog W .any 0 u v := fun u v e => by
    subst e
    exact (hrows 0 0 (by simp [MemPlace.row])).2 u v (by simpa using World.var?_cell hg0 hv0 0)
  obtain ⟨a0, s0, rfl, hc0, hs0, hz0, rfl⟩ := errorString_of_trod Tryz.underlying94 rowES Tryz.underlying239 Tryz.underlying259 rfl rfl Tryz.underlying9 cellsES cellsS22 hd0 ok0
  exact ⟨a0, by unfold Over22; simpa using World.var?_cell hg0 hv0 0⟩
set_option maxRecDepth 100000 in
theorem glob_of_laid22 {W : World} (h : laidMetH Tryz.prog laid22 W) : ∃ o, Glob22 o W := by
  have hf : laid22.filter (fun x => x.2.handleName?.isSome) = [("errors.errorType", Rows.laid_errors_errorType)] := by kernel_rfl
  have hn : laid22.filter (fun x => x.2.handleName?.isNone) = laid22d := by kernel_rfl
  unfold laidMetH at h
  rw [hf, hn] at h
  have h' : laidMet Tryz.prog laid22d W ∧ handlesMet Tryz.prog [("errors.errorType", Rows.laid_errors_errorType)] W := h
  have hd := h'.1
  unfold laid22d at hd
  rw [laidP22, laidH22] at hd
  have h2 := laid_tail22 (laid_tail22 hd)
  have hp := Lib.tabIs_of_head gP22 gP22T Tryz.underlying232 Tryz.underlying41 cells1q22 cells20q h2
  have h3 := laid_tail22 h2
  have tH := Lib.tabIs_of_head gH22 gH22T Tryz.underlying235 Tryz.underlying125 cells1w22 cells16q h3
  obtain ⟨o, ho⟩ := over_of_laid (laid_tail22 h3)
  refine ⟨o, ?_, hp, ?_, ho⟩
  · intro i hi
    have h1 := tH.cell gH22 i (by simpa using hi)
    rw [h1, List.getD_eq_getElem?_getD, List.getElem?_map, List.getElem?_range hi]
    rfl
  · have hh := h'.2 _ (List.mem_singleton.2 rfl)
    obtain ⟨name, u, ty, e1, e2, e3, e4, e5⟩ := hh
    have en : name = [101, 114, 114, 111, 114] := (Option.some.inj e1).symm
    subst en
    obtain rfl := Option.some.inj (rtE22.symm.trans e2)
    have hm : ty ∈ (List.range Tryz.prog.types.size).filter fun t => Tryz.prog.rowNamed t [101, 114, 114, 111, 114] := List.mem_filter.2 ⟨List.mem_range.2 e3, e4⟩
    rw [oneE22] at hm
    obtain rfl := List.mem_singleton.1 hm
    unfold ErrT
    simpa using World.var?_cell gE22 e5 0
/-! ### What stays -/
theorem ErrT.lt22 {w : World} (h : ErrT w) : 1 < w.heap.size := World.block_lt_of_cell? w _ h
theorem Over22.lt {w : World} {o : Addr} (h : Over22 o w) : 0 < w.heap.size := World.block_lt_of_cell? w _ h
theorem Pow12.le22 {w : World} (h : Pow12 w) : 2 < w.heap.size := by
  by_cases hl : 2 < w.heap.size
  · exact hl
  · exfalso
    unfold Pow12 Lib.TabIs World.var? at h
    rw [gP22] at h
    simp only [Option.bind_some] at h
    rw [Array.getElem?_eq_none (by omega)] at h
    cases h
theorem Glob22.keep {w w' : World} {B : Nat} {o : Addr} (h : Glob22 o w) (hb : Below B w w') (hB : w.heap.size ≤ B) : Glob22 o w' := by
  refine ⟨h.h.keep hb hB, ?_, ?_, ?_⟩
  · have hp := h.p
    have hl := h.p.le22
    unfold Pow12 Lib.TabIs World.var? at *
    rw [gP22] at hp ⊢
    simp only [Option.bind_some] at hp ⊢
    rw [hb.block 2 (Nat.lt_of_lt_of_le hl hB)]
    exact hp
  · exact (hb.cell (p := ⟨1, 0, none⟩) (Nat.lt_of_lt_of_le h.e.lt22 hB)).trans h.e
  · exact (hb.cell (p := ⟨0, 0, none⟩) (Nat.lt_of_lt_of_le h.o.lt hB)).trans h.o
/-! ### A world for the witness -/
def lit1v : DataW Unit → List Value
  | .lit (.int k z) => [.int k z]
  | _ => []
def lit2v : DataW Unit → List Value
  | .agg l => l.flatMap lit1v
  | d => lit1v d
def laying22 (cs : List Value) : Obj → Obj
  | .cells _ t frozen => .cells cs.toArray t frozen
  | o => o
def over22S : ByteArray := ⟨#[105, 116, 32, 105, 115, 32, 110, 111, 116, 32, 97, 98, 111, 118, 101, 32, 116, 104, 101, 32, 108, 97, 115, 116, 32, 110, 117, 109, 98, 101, 114]⟩
noncomputable def low22 : Nat := (World.holding Tryz.prog default ⟨#[], #[], []⟩).heap.size
noncomputable def laidWorld22 (os : Os) : World :=
  let w0 := World.holding Tryz.prog os ⟨#[.cells #[.string over22S] 259], #[], []⟩
  { w0 with heap := (((((w0.heap.modify 4 (laying22 (lit2v Rows.laid_math_bits_deBruijn32tab))).modify 5 (laying22 (lit2v Rows.laid_math_bits_deBruijn64tab))).modify 2 (laying22 (lit2v Rows.laid_internal_strconv_uint64pow10))).modify 3 (laying22 (lit2v Rows.laid_mirador_crc_halves))).modify 1 (laying22 [.iface 185 (.agg #[typeHandle Tryz.prog 94])])).modify 0 (laying22 [.iface 239 (.pointer (some ⟨low22, 0, none⟩))]) }
theorem laid22_met (os : Os) (args : Array Value) : laidMetH Tryz.prog laid22 ((laidWorld22 os).forCall (fun _ _ => 0) ⟨#[], args, []⟩).memory :=
  laidMetH_of_parts (laidMet_of_run' 8 (by kernel_rfl) (by kernel_rfl)) (by kernel_rfl)
end Go.Proofs.YtinmmhbiomcdoaaGreatDoor
