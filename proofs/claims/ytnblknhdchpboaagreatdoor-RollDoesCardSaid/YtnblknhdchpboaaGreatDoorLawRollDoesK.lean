/-
  The statement of RollDoes, as a card: for every input the Go function returns true, and each argument reads behind the call as it read before. The card ties what the package-level variables hold at the start to the program's text. No conditions beyond the row's own.
-/
import Derived.Test.YtnblknhdchpboaaGreatDoorCards
import Derived.Test.YtnblknhdchpboaaGreatDoorTie
import Derived.Test.YtnblknhdchpboaaGreatDoorJRzAll37
import Derived.Test.YtnblknhdchpboaaGreatDoorJRzAll1
import Derived.ProofKit
import Derived.OpenShut
import Derived.ShutString
import Derived.ChangeOld
import Derived.Below
import Derived.SizedLaws
import Derived.Test.YtnblknhdchpboaaGreatDoorJRzAll27
import Derived.Test.YtnblknhdchpboaaGreatDoorRows
import Derived.Lib.LaidTab
import Derived.Deep.DeepHandedRow

/-
  What the rows' condition on the package's table gives ('Glob11'), and a world that meets it. No Go function is walked here.
-/
namespace Go.Proofs.YtnblknhdchpboaaGreatDoor
open Go.RowKit

/-- The variable as the rows list it. -/
def laid11 : List (String × DataW Unit) := [("mirador/crc.halves", Rows.laid_mirador_crc_halves)]
theorem gH11 : Tryz.prog.globalNamed "mirador/crc.halves" = some 0 := by kernel_rfl
theorem gH11T : (Tryz.prog.globals[0]?).map (·.type) = some 130 := by kernel_rfl
theorem cells16 : Tryz.prog.cellsOf 130 = 16 := by kernel_rfl
theorem cells1w : Tryz.prog.cellsOf 103 = 1 := by kernel_rfl
theorem halves_are : (List.range 16).map (tabN 4) = [0, 274646895, 549293790, 820201905, 1098587580, 1361435347, 1640403810, 1905808397, 2197175160, 2460548119, 2722870694, 2987750089, 3280807620, 3553878443, 3811616794, 4084100981] := by decide +kernel
theorem laidH11 : (Rows.laid_mirador_crc_halves : DataW Unit) = Lib.tabData .u32 ((List.range 16).map (tabN 4)) := by
  rw [halves_are]
  rfl
theorem glob11_of_laid {W : World} (h : laidMetH Tryz.prog laid11 W) : Glob11 W := by
  have h' : laidMet Tryz.prog laid11 W := h
  unfold laid11 at h'
  rw [laidH11] at h'
  have tH := Lib.tabIs_of_head gH11 gH11T Tryz.underlying130 Tryz.underlying103 cells1w cells16 h'
  intro i hi
  have h1 := tH.cell gH11 i (by simpa using hi)
  rw [h1, List.getD_eq_getElem?_getD, List.getElem?_map, List.getElem?_range hi]
  rfl

/-- A world for the witness: the settled one, the variable holding what its initialiser lays. -/
def laying11 (cs : List Value) : Obj → Obj
  | .cells _ t frozen => .cells cs.toArray t frozen
  | o => o
noncomputable def laidWorld11 (os : Os) : World :=
  { World.holding Tryz.prog os ⟨#[], #[], []⟩ with heap := (World.holding Tryz.prog os ⟨#[], #[], []⟩).heap.modify 0 (laying11 (((List.range 16).map (tabN 4)).map (Value.int .u32))) }
theorem laid11_met (os : Os) (args : Array Value) : laidMet Tryz.prog laid11 ((laidWorld11 os).forCall (fun _ _ => 0) ⟨#[], args, []⟩).memory := by
  unfold laidWorld11
  rw [halves_are]
  exact laidMet_of_run' 8 (by kernel_rfl) (by kernel_rfl)
end Go.Proofs.YtnblknhdchpboaaGreatDoor
namespace Go.Proofs.YtnblknhdchpboaaGreatDoor.rollDoes
open Go.ChangeShapes Go.WideShapes Go.ChangeAt Go.RowKit
open Go.ChangeMaps (open_string shut_string)
set_option linter.unusedVariables false

theorem own : ownKnob Tryz.prog.godebug = none := by kernel_rfl
theorem laidOut : laidOutB Tryz.prog = true := by kernel_rfl

set_option maxRecDepth 100000 in
theorem contract (H : Type) (enc : TypeId × Value → H) (W : World) (base : Nat) (args : Array Value) (ds gs : List (DataW H)) (before : List MemPlace)
    (hval0 : ∀ (j : Nat) t v, Tryz.f3.params[j]? = some t → args[j]? = some v → Value.okWide Tryz.prog W .any base t v)
    (hW : DataW.Whole enc Tryz.prog Tryz.f3.params.toList Rows.rollDoesSpec.vars false W args.toList ds gs before) (hL : laidMetH Tryz.prog Rows.rollDoesRow.laid W) (hsz0 : (DataW.weightsEach Tryz.prog (Tryz.f3.params.toList ++ (OpenSpec.ofChange Rows.rollDoesSpec).bare.plain.varTypes Tryz.prog) (ds ++ gs)).all (· ≤ reachBytes) = true) :
    Calls Tryz.prog 3 args W fun e W' => ∃ v, e = .returned v ∧ Rows.rollDoesSpec.post enc Tryz.prog Tryz.f3 false true false false W args v W' := by
  have hval : ∀ (j : Nat) t v, Tryz.f3.params[j]? = some t → args[j]? = some v → Value.okWide Tryz.prog W .any base t v := hval0
  have hG := glob11_of_laid hL
  have hW' := hW
  obtain ⟨p, q, hA0, hV, rfl, hfz, hnd⟩ := hW
  have hA : DataW.TrodAll enc Tryz.prog W 0 (fun _ => true) true Tryz.f3.params.toList args.toList ds p := hA0
  rw [Tryz.params3] at hA hval
  obtain ⟨v0, vs0, d0, ds0, p0, q0, hargs, rfl, rfl, h0, r0⟩ := trodAll_cons hA
  obtain ⟨rfl, rfl, rfl⟩ := trodAll_nil r0
  obtain rfl : args = #[v0] := by cases args; simp_all
  obtain ⟨rfl, rfl⟩ := trodVars_none hV
  have k0 := h0
  have lt0 : ∀ x ∈ p0, x.block < W.heap.size := by obtain ⟨m, hm⟩ := k0; exact DataW.trod_lt m _ _ _ hm
  obtain ⟨R0, A0, N0, C0, O0, rfl, x0, y0, s0⟩ := rcase_open (hval 0 24 v0 rfl rfl) k0
  clear hA0 hval0
  have hsz : (DataW.weightsEach Tryz.prog [24] [d0]).all (· ≤ reachBytes) = true := hsz0
  refine (law_rydoes R0 A0 N0 C0 O0 W hG x0 y0 (rcase_sized s0 hsz (j := 0) rfl rfl)).mono fun e W' ⟨he, bel⟩ => ?_
  subst he
  exact ⟨_, rfl, _, _, _, [], _, [], hW', trodAll_mk1 (shut_bool Tryz.underlying4 _), (trodAll_cons_mk ((Below.trod laidOut (by kernel_rfl) (of_decide_eq_true (by kernel_rfl)) k0 bel lt0)) trodAll_mk0), rfl, bel.frame _, fun h => by cases h⟩

theorem laid_met (os : Os) : laidMet Tryz.prog Rows.rollDoesRow.laid ((laidWorld11 os).forCall (fun _ _ => 0) ⟨#[], #[.agg #[.int .i64 0, .slice none 0 0]], []⟩).memory := laid11_met os _
theorem reads (os : Os) {H : Type} (enc : TypeId × Value → H) : ∃ places, DataW.whole enc Tryz.prog ((laidWorld11 os).forCall (fun _ _ => 0) ⟨#[], #[.agg #[.int .i64 0, .slice none 0 0]], []⟩).memory Tryz.f3.params.toList Rows.rollDoesSpec.vars false (#[.agg #[.int .i64 0, .slice none 0 0]] : Array Value).toList 8 = some ([.agg [.lit (.int .i64 0), .nil]], [], places) :=
  ⟨[], by kernel_rfl⟩

set_option maxRecDepth 100000 in
theorem lifted (os : Os) (started : os.Started) (H : Type) (enc : TypeId × Value → H) (F : Stop.Interp) :
    ReturnsInHanded {} Tryz.checked os 3 .any ((OpenSpec.ofChange Rows.rollDoesSpec).preRow enc Tryz.prog Tryz.f3 Rows.rollDoesRow.domain false Rows.rollDoesRow.laid) (((OpenSpec.ofChange Rows.rollDoesSpec).at F).post enc Tryz.prog Tryz.f3 false true false false) := by
  obtain ⟨places, hx⟩ := reads os enc
  refine returnsInHanded_of_row (C := Tryz.checked) (s := OpenSpec.ofChange Rows.rollDoesSpec) own started (by kernel_rfl) Tryz.func3
    (witness_row_at (enc := enc) (C := Tryz.checked) false (laidWorld11 os) #[.agg #[.int .i64 0, .slice none 0 0]] rfl (by kernel_rfl) (by kernel_rfl) (by kernel_rfl)
      (OpenSpec.preRow_of_cond 8 hx (by kernel_rfl) (fun k hk => by cases hk) (by kernel_rfl) (laid_met os))) ?_
  intro W base args ds gs before hval hW _ hcond hsz hL _ _
  exact contract H enc W base args ds gs before hval hW hL hsz

set_option maxRecDepth 100000 in
theorem said : Rows.RollDoesSaid :=
  OpenClaim.holds_of_cond 3 Tryz.f3 rfl rfl rfl rfl rfl rfl rfl ⟨rfl, rfl, rfl, rfl, rfl⟩ rfl rfl rfl rfl rfl (by kernel_rfl) Tryz.func3 (by kernel_rfl)
    (of_decide_eq_true (by kernel_rfl)) (by unfold Func.isWrapper; first | (rw [if_pos (by decide +kernel)]; kernel_rfl) | (rw [if_neg (by decide +kernel)]; exact ⟨rfl, rfl⟩))
    (fun os started H enc _ F => by rw [OpenClaim.pre_eq_preRow]; exact lifted os started H enc F)

set_option maxRecDepth 100000 in
theorem plain (f : FuncId) (fn : Func) (hf : Tryz.pinned.checked.prog.funcNamed "mirador/miradorlaw20.RollDoes" = some f) (hfn : Tryz.pinned.checked.prog.funcs[f]? = some fn) :
    true = Tryz.pinned.checked.prog.looks [] ∧ ∀ (j : Nat) t, fn.params[j]? = some t → Tryz.pinned.checked.prog.wantsStandIn t = false := by
  obtain rfl : f = 3 := Option.some.inj ((show Tryz.prog.funcNamed "mirador/miradorlaw20.RollDoes" = some 3 by kernel_rfl).symm.trans hf) |>.symm
  obtain rfl : fn = Tryz.f3 := (Option.some.inj (Tryz.func3.symm.trans hfn)).symm
  refine ⟨by kernel_rfl, fun j t ht => ?_⟩
  rw [Tryz.params3] at ht
  have hm := Array.mem_of_getElem? ht
  simp only [List.mem_toArray, List.mem_cons, List.not_mem_nil, or_false] at hm
  rcases hm with rfl <;> first | exact (show Tryz.prog.wantsStandIn 24 = false by kernel_rfl)
end Go.Proofs.YtnblknhdchpboaaGreatDoor.rollDoes
namespace Go.Proofs.YtnblknhdchpboaaGreatDoor
theorem rollDoes_card : Rows.RollDoesCardSaid :=
  Claim7.holds_tied_plain_at .later [] _ _ _ _ rollDoes.said (fun _ h => by cases h) (by kernel_rfl) (fun _ h => by cases h) rollDoes_row_tie rfl ⟨rfl, rfl⟩ (by kernel_rfl) rfl rollDoes.plain (by kernel_rfl)
#print axioms rollDoes_card
end Go.Proofs.YtnblknhdchpboaaGreatDoor
