/-
  The arguments of layer 9's laws that are structs, opened: bytes and calls; one call. No Go function is spoken of.
-/
import Derived.Test.YtpobplkijfienaaOpenOps
import Derived.Test.YtpobplkijfienaaProg
namespace Go.Proofs.Ytpobplkijfienaa
open Go.RowKit Go.Deep Go.ChangeShapes Go.WideShapes

set_option maxRecDepth 100000 in
theorem op_open {H : Type} {enc : TypeId × Value → H} {W : World} {base b0 : Nat} {spare : Nat → Bool} {held : Bool} {r : Reach} {v : Value} {d : DataW H} {p : List MemPlace}
    (hv : Value.okWide Try.prog W r b0 33 v) (h : ∃ fuel, DataW.trod enc Try.prog W base spare held fuel 33 v.cells.toList = some (d, p)) :
    ∃ a b c : Int, v = .agg #[.int .i64 a, .int .i64 b, .int .i64 c] ∧ (Lit.int .i64 a).wf = true ∧ (Lit.int .i64 b).wf = true ∧ (Lit.int .i64 c).wf = true := by
  obtain ⟨cs, rfl, _⟩ := okWide_struct Try.underlying33 hv
  obtain ⟨fuel, hf⟩ := h
  obtain ⟨a, b, c, e, wa, wb, wc⟩ := open_int3 Try.underlying33 (by kernel_rfl) rfl rfl rfl Try.underlying3 Try.underlying3 Try.underlying3 (by kernel_rfl) (by kernel_rfl) (by kernel_rfl) hf
  refine ⟨a, b, c, ?_, wa, wb, wc⟩
  have e' : cs.toList = [.int .i64 a, .int .i64 b, .int .i64 c] := e
  rw [← Array.toArray_toList (xs := cs), e']

set_option maxRecDepth 100000 in
theorem case_open {H : Type} {enc : TypeId × Value → H} {W : World} {base b0 : Nat} {held : Bool} {r : Reach} {v : Value} {d : DataW H} {p : List MemPlace}
    (hv : Value.okWide Try.prog W r b0 25 v) (h : ∃ fuel, DataW.trod enc Try.prog W base (fun _ => true) held fuel 25 v.cells.toList = some (d, p)) :
    ∃ a n c z b m k ops, v = .agg #[.slice a n c, .slice b m k] ∧ (Ints .u8 W a n c z ∧ (∀ x ∈ z, (Lit.int .u8 x).wf = true) ∧ c ≤ maxLen) ∧
      Ops3 W b m k ops ∧ k ≤ maxLen ∧ ∀ o ∈ ops, (Lit.int .i64 o.1).wf = true ∧ (Lit.int .i64 o.2.1).wf = true ∧ (Lit.int .i64 o.2.2).wf = true := by
  obtain ⟨cs, rfl, _⟩ := okWide_struct Try.underlying25 hv
  obtain ⟨fuel, hf⟩ := h
  have hn : Try.prog.cellsOf 25 = 2 := by kernel_rfl
  obtain ⟨y0, y1, n, _, hl, h0, h1⟩ := trod_struct2 Try.underlying25 hf
  have gl : cs.toList.length = 2 := by rw [← hn]; exact hl
  have g0 : DataW.trod enc Try.prog W base (fun _ => true) held n 22 ((cs.toList.drop 0).take 1) = some y0 := h0
  have g1 : DataW.trod enc Try.prog W base (fun _ => true) held n 23 ((cs.toList.drop 1).take 1) = some y1 := h1
  obtain ⟨L, hL⟩ : ∃ L, cs.toList = L := ⟨_, rfl⟩
  have hcs : cs = L.toArray := by rw [← hL]
  clear h0 h1 hl hf hv
  rw [hL] at gl g0 g1
  subst hcs
  match L, gl with
  | [v0, v1], _ =>
    obtain ⟨b, m, k, ops, e1, ho, hk, hw⟩ := open_ops3 Try.underlying23 Try.underlying33 (by kernel_rfl) rfl rfl rfl Try.underlying3 Try.underlying3 Try.underlying3 (by kernel_rfl) (by kernel_rfl) (by kernel_rfl) g1
    simp at e1
    rcases open_ints Try.underlying22 Try.underlying5 (by kernel_rfl) g0 with ⟨e0, _⟩ | ⟨x, l, c, zs, e0, _, hlc, hm, hz, _, hcell, hwz⟩
    · simp at e0
      exact ⟨none, 0, 0, [], b, m, k, ops, by rw [e0, e1], ⟨⟨rfl, Nat.le_refl _, .inl rfl⟩, by simp, by unfold maxLen; omega⟩, ho, hk, hw⟩
    · simp at e0
      exact ⟨some x, l, c, zs.take l, b, m, k, ops, by rw [e0, e1], ⟨Ints.of_open hlc (by simpa using hz) hcell, fun y hy => hwz y (List.mem_of_mem_take hy), hm⟩, ho, hk, hw⟩
end Go.Proofs.Ytpobplkijfienaa
