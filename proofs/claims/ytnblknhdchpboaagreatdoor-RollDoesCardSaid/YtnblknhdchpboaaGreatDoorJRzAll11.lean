/-
  Texts of stages that were proved on their own, joined: YieldPart. Each begins with its own words.
-/
import Derived.Test.YtnblknhdchpboaaGreatDoorSteps

/-
  A load of a part of a block in a region that draws its order (as XWrRead has it, in a text of its own). No Go function is spoken of.
-/
namespace Go.Proofs.YtnblknhdchpboaaGreatDoor
open Go.RowKit

theorem yields_part {P : Program} {ops : Array Oper} {S : World → Prop} {o : Oper} {a : Act} (hw : Region.wanted o (yielded ops a.tmps) = true) (ty : TypeId) (x : Operand) (ho : o.op = .load ty x)
    {g off : Nat} (hx : a.eval x = .pointer (some ⟨g, off, none⟩)) {cs : List Value} (hS : ∀ w, S w → w.rangeAt g off cs) (hr : IsRow P ty cs.length) : YieldsIf P ops S o (.agg cs.toArray) a := by
  obtain ⟨⟨d, hu, hd⟩, hi⟩ := hr
  exact yieldsIf_load_mid hw ty x ho g off hx cs d hS hu hd hi
end Go.Proofs.YtnblknhdchpboaaGreatDoor
