/-
  Texts of stages that were proved on their own, joined: SealLaid. Each begins with its own words.
-/
import Derived.Test.YtagacpjeooaapaaGreatDoorJSealProg12
import Derived.LaidLaws
import Derived.LaidHandle
import Derived.RowKitTokens

/-
  The row's condition on the package's variables, where errors.errorType stands among them: what it gives a walk, and a world that meets it. No conditions.
-/
namespace Go.Proofs.YtagacpjeooaapaaGreatDoor
open Go.ChangeShapes Go.WideShapes Go.RowKit

def laid3 : List (String × DataW Unit) := [("errors.errorType", Rows.laid_errors_errorType), ("mirador/sha.starts", Rows.laid_mirador_sha_starts), ("mirador/sha.constants", Rows.laid_mirador_sha_constants)]
theorem gE : Tryz.prog.globalNamed "errors.errorType" = some 0 := by kernel_rfl
theorem rtE : (Tryz.prog.cutTypes.find? (·.1 == "internal/reflectlite.rtype")).map (·.2) = some 123 := by kernel_rfl
theorem oneE : ((List.range Tryz.prog.types.size).filter fun t => Tryz.prog.rowNamed t [101, 114, 114, 111, 114]) = [49] := by kernel_rfl
/-- The variable errors.errorType holds what Go lays there. -/
def ErrT (w : World) : Prop := w.cell? ⟨0, 0, none⟩ = some (.iface 123 (.agg #[typeHandle Tryz.prog 49]))
theorem ErrT.keep {w w' : World} {B : Nat} (h : ErrT w) (hb : Below B w w') (hB : 0 < B) : ErrT w' := (hb.cell (p := ⟨0, 0, none⟩) hB).trans h
theorem glob_of_laid3 {W : World} (h : laidMetH Tryz.prog laid3 W) : Glob W ∧ ErrT W := by
  have hf : laid3.filter (fun x => x.2.handleName?.isSome) = [("errors.errorType", Rows.laid_errors_errorType)] := by kernel_rfl
  have hn : laid3.filter (fun x => x.2.handleName?.isNone) = laid2 := by kernel_rfl
  unfold laidMetH at h
  rw [hf, hn] at h
  have h' : laidMet Tryz.prog laid2 W ∧ handlesMet Tryz.prog [("errors.errorType", Rows.laid_errors_errorType)] W := h
  refine ⟨glob_of_laid (show laidMetH Tryz.prog laid2 W from ?_), ?_⟩
  · unfold laidMetH
    rw [show laid2.filter (fun x => x.2.handleName?.isSome) = [] by kernel_rfl]
    exact h'.1
  obtain ⟨name, u, ty, e1, e2, e3, e4, e5⟩ := h'.2 _ (List.mem_singleton.2 rfl)
  have en : name = [101, 114, 114, 111, 114] := (Option.some.inj e1).symm
  subst en
  obtain rfl := Option.some.inj (rtE.symm.trans e2)
  have hm : ty ∈ (List.range Tryz.prog.types.size).filter fun t => Tryz.prog.rowNamed t [101, 114, 114, 111, 114] := List.mem_filter.2 ⟨List.mem_range.2 e3, e4⟩
  rw [oneE] at hm
  obtain rfl := List.mem_singleton.1 hm
  unfold ErrT
  simpa using World.var?_cell gE e5 0

noncomputable def laidWorld3 (os : Os) : World :=
  { laidWorld os with heap := (laidWorld os).heap.modify 0 (laying [.iface 123 (.agg #[typeHandle Tryz.prog 49])]) }
theorem laid3_met (os : Os) (args : Array Value) : laidMetH Tryz.prog laid3 ((laidWorld3 os).forCall (fun _ _ => 0) ⟨#[], args, []⟩).memory :=
  laidMetH_of_parts (laidMet_of_run' 8 (by kernel_rfl) (by kernel_rfl)) (by kernel_rfl)
end Go.Proofs.YtagacpjeooaapaaGreatDoor
