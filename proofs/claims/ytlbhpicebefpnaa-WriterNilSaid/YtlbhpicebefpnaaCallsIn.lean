/-
  Layer 10's calls as arguments of a law: what this program's types say.
-/
import Derived.Test.YtlbhpicebefpnaaOpenCalls
import Derived.Test.YtlbhpicebefpnaaProg
namespace Go.Proofs.Ytlbhpicebefpnaa
open Go.RowKit Go.Deep Go.ChangeShapes Go.WideShapes

set_option maxRecDepth 100000 in
theorem opType : ∃ f0 f1 f2 f3 f4 f5, OpType Try.prog 37 f0 f1 f2 f3 f4 f5 :=
  ⟨_, _, _, _, _, _, ⟨Try.underlying37, by kernel_rfl, rfl, rfl, rfl, rfl, rfl, rfl, Try.underlying3, Try.underlying3, Try.underlying32, by kernel_rfl, by kernel_rfl, by kernel_rfl, by kernel_rfl, by kernel_rfl, by kernel_rfl,
    ⟨_, Try.underlying27, Try.underlying5, by kernel_rfl⟩, ⟨_, Try.underlying34, Try.underlying5, by kernel_rfl⟩, ⟨_, _, Try.underlying35, Try.underlying34, Try.underlying5, by kernel_rfl, by kernel_rfl⟩⟩⟩

set_option maxRecDepth 100000 in
theorem call_open {H : Type} {enc : TypeId × Value → H} {W : World} {base b0 : Nat} {spare : Nat → Bool} {held : Bool} {r : Reach} {v : Value} {d : DataW H} {p : List MemPlace}
    (hv : Value.okWide Try.prog W r b0 37 v) (h : ∃ fuel, DataW.trod enc Try.prog W base spare held fuel 37 v.cells.toList = some (d, p)) :
    ∃ o : OpV, v = .agg o.cells.toArray ∧ o.Ok W ∧ o.bc ≤ maxLen ∧ o.lc ≤ maxLen ∧ 1 + o.wt ≤ Rows.uptoBulk d := by
  obtain ⟨cs, rfl, _⟩ := okWide_struct Try.underlying37 hv
  obtain ⟨fuel, hf⟩ := h
  obtain ⟨_, _, _, _, _, _, T⟩ := opType
  obtain ⟨o, e, h1, h2, h3, h4⟩ := open_op T hf
  refine ⟨o, ?_, h1, h2, h3, h4⟩
  have e' : cs.toList = o.cells := e
  rw [← e']

set_option maxRecDepth 100000 in
theorem calls_open {H : Type} {enc : TypeId × Value → H} {W : World} {base : Nat} {spare : Nat → Bool} {held : Bool} {a : Option Addr} {m k : Nat} {d : DataW H} {p : List MemPlace}
    (h : ∃ fuel, DataW.trod enc Try.prog W base spare held fuel 22 (Value.slice a m k).cells.toList = some (d, p)) :
    ∃ ops, OpsAt W a m k ops ∧ k ≤ maxLen ∧ (∀ o ∈ ops, o.bc ≤ maxLen ∧ o.lc ≤ maxLen) ∧ m + wts ops ≤ Rows.uptoBulk d := by
  obtain ⟨fuel, hf⟩ := h
  obtain ⟨_, _, _, _, _, _, T⟩ := opType
  obtain ⟨a', m', k', ops, e, h1, h2, h3, h4⟩ := open_calls T Try.underlying22 hf
  have e' : Value.slice a m k = Value.slice a' m' k' := by simpa [Value.cells] using e
  cases e'
  exact ⟨ops, h1, h2, h3, h4⟩
end Go.Proofs.Ytlbhpicebefpnaa
