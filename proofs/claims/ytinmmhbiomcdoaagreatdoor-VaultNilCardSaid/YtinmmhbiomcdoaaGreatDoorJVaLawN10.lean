/-
  Texts of stages that were proved on their own, joined: OpenOps. Each begins with its own words.
-/
import Derived.Test.YtinmmhbiomcdoaaGreatDoorSlices
import Derived.Deep.Slices
import Derived.Deep.Strs
import Derived.ProofKit
import Derived.OpenShut

/-
  A struct of three numbers, and a slice of such, that came in: what they hold. Laws about the model's own words; no Go function is spoken of.
-/
namespace Go.Proofs.YtinmmhbiomcdoaaGreatDoor
open Go.RowKit Go.Deep Go.ChangeShapes Go.WideShapes

/-- A slice of structs of three numbers. -/
def Ops3 (w : World) (a : Option Addr) (n cap : Nat) (ops : List (Int × Int × Int)) : Prop :=
  ops.length = n ∧ n ≤ cap ∧ (n = 0 ∨ ∃ b off, a = some ⟨b, off, none⟩ ∧ ∀ i, i < n → w.cell? ⟨b, off + 3 * i, none⟩ = some (.int .i64 (ops.getD i (0, 0, 0)).1) ∧ w.cell? ⟨b, off + 3 * i + 1, none⟩ = some (.int .i64 (ops.getD i (0, 0, 0)).2.1) ∧ w.cell? ⟨b, off + 3 * i + 2, none⟩ = some (.int .i64 (ops.getD i (0, 0, 0)).2.2))
theorem Ops3.keep {w w' : World} {a : Option Addr} {n cap : Nat} {ops : List (Int × Int × Int)} (h : Ops3 w a n cap ops) (hb : Below w.heap.size w w') : Ops3 w' a n cap ops := by
  refine ⟨h.1, h.2.1, ?_⟩
  rcases h.2.2 with h0 | ⟨b, off, ha, hc⟩
  · exact .inl h0
  · refine .inr ⟨b, off, ha, fun i hi => ?_⟩
    obtain ⟨h1, h2, h3⟩ := hc i hi
    exact ⟨by rw [hb.cell (World.block_lt_of_cell? w _ h1)]; exact h1, by rw [hb.cell (World.block_lt_of_cell? w _ h2)]; exact h2, by rw [hb.cell (World.block_lt_of_cell? w _ h3)]; exact h3⟩

section
variable {H : Type} {enc : TypeId × Value → H} {P : Program} {w : World} {base : Nat} {spare : Nat → Bool} {held : Bool} {fuel : Nat} {t : TypeId} {cs : List Value} {x : DataW H × List MemPlace}

theorem open_int3 {f0 f1 f2 : Field} (ht : P.underlying t = some (.struct #[f0, f1, f2])) (hn : P.cellsOf t = 3) (o0 : f0.offset = 0) (o1 : f1.offset = 1) (o2 : f2.offset = 2)
    (u0 : P.underlying f0.type = some (.int .i64)) (u1 : P.underlying f1.type = some (.int .i64)) (u2 : P.underlying f2.type = some (.int .i64)) (c0 : P.cellsOf f0.type = 1) (c1 : P.cellsOf f1.type = 1) (c2 : P.cellsOf f2.type = 1)
    (h : DataW.trod enc P w base spare held fuel t cs = some x) :
    ∃ a b c : Int, cs = [.int .i64 a, .int .i64 b, .int .i64 c] ∧ (Lit.int .i64 a).wf = true ∧ (Lit.int .i64 b).wf = true ∧ (Lit.int .i64 c).wf = true := by
  obtain ⟨y0, y1, y2, n, _, hl, h0, h1, h2⟩ := trod_struct3 ht h
  rw [o0, c0] at h0
  rw [o1, c1] at h1
  rw [o2, c2] at h2
  rw [hn] at hl
  match cs, hl with
  | [v0, v1, v2], _ =>
    obtain ⟨a, e0, _, w0⟩ := DataW.trod_int u0 h0
    obtain ⟨b, e1, _, w1⟩ := DataW.trod_int u1 h1
    obtain ⟨c, e2, _, w2⟩ := DataW.trod_int u2 h2
    refine ⟨a, b, c, ?_, w0, w1, w2⟩
    simp at e0 e1 e2
    rw [e0, e1, e2]

theorem list_of_fn {α : Type} (n : Nat) (d : α) (p : Nat → α → Prop) (h : ∀ i, i < n → ∃ v, p i v) : ∃ l : List α, l.length = n ∧ ∀ i, i < n → p i (l.getD i d) := by
  induction n with
  | zero => exact ⟨[], rfl, fun i hi => absurd hi (Nat.not_lt_zero i)⟩
  | succ n ih =>
    obtain ⟨l, hl, hp⟩ := ih (fun i hi => h i (by omega))
    obtain ⟨v, hv⟩ := h n (Nat.lt_succ_self n)
    refine ⟨l ++ [v], by simp [hl], fun i hi => ?_⟩
    by_cases hin : i < n
    · rw [List.getD_eq_getElem?_getD, List.getElem?_append_left (by omega), ← List.getD_eq_getElem?_getD]
      exact hp i hin
    · obtain rfl : i = n := by omega
      rw [List.getD_eq_getElem?_getD, List.getElem?_append_right (by omega), hl, Nat.sub_self]
      exact hv

/-- A slice of structs of three numbers, opened. -/
theorem open_ops3 {e : TypeId} {f0 f1 f2 : Field} (ht : P.underlying t = some (.slice e)) (he : P.underlying e = some (.struct #[f0, f1, f2])) (hn : P.cellsOf e = 3) (o0 : f0.offset = 0) (o1 : f1.offset = 1) (o2 : f2.offset = 2)
    (u0 : P.underlying f0.type = some (.int .i64)) (u1 : P.underlying f1.type = some (.int .i64)) (u2 : P.underlying f2.type = some (.int .i64)) (c0 : P.cellsOf f0.type = 1) (c1 : P.cellsOf f1.type = 1) (c2 : P.cellsOf f2.type = 1)
    (h : DataW.trod enc P w base spare held fuel t cs = some x) :
    ∃ a n c ops, cs = [.slice a n c] ∧ Ops3 w a n c ops ∧ c ≤ maxLen ∧ ∀ o ∈ ops, (Lit.int .i64 o.1).wf = true ∧ (Lit.int .i64 o.2.1).wf = true ∧ (Lit.int .i64 o.2.2).wf = true := by
  rcases open_slice ht h with ⟨h0, _⟩ | ⟨a, len, cap, m, n, D, Pl, rfl, hb, hl, hm, hmm, _, hx⟩
  · exact ⟨none, 0, 0, [], h0, ⟨rfl, Nat.le_refl _, .inl rfl⟩, by unfold maxLen; omega, by simp⟩
  have hlm : len ≤ m := by rw [hmm]; split <;> omega
  have each : ∀ i, i < len → ∃ v : Int × Int × Int, (w.cell? ((a.add (i * 3)).add 0) = some (.int .i64 v.1) ∧ w.cell? ((a.add (i * 3)).add 1) = some (.int .i64 v.2.1) ∧ w.cell? ((a.add (i * 3)).add 2) = some (.int .i64 v.2.2)) ∧ (Lit.int .i64 v.1).wf = true ∧ (Lit.int .i64 v.2.1).wf = true ∧ (Lit.int .i64 v.2.2).wf = true := by
    intro i hi
    obtain ⟨cs', h1, h2⟩ := hx i (by omega)
    rw [hn] at h1
    obtain ⟨_, hlen, hcell⟩ := World.cells?_some h1
    obtain ⟨p, q, r, rfl, w0, w1, w2⟩ := open_int3 he hn o0 o1 o2 u0 u1 u2 c0 c1 c2 h2
    exact ⟨(p, q, r), ⟨hcell 0 (by decide), hcell 1 (by decide), hcell 2 (by decide)⟩, w0, w1, w2⟩
  obtain ⟨l, hll, hp⟩ := list_of_fn len (0, 0, 0) _ each
  refine ⟨some a, len, cap, l, rfl, ⟨hll, hl, ?_⟩, hm, ?_⟩
  · by_cases h0 : len = 0
    · exact .inl h0
    · obtain ⟨bk, off, spot⟩ := a
      have hc0 := (hp 0 (by omega)).1.1
      have hspot : spot = none := by
        cases spot with
        | none => rfl
        | some sp => simpa [Addr.add] using World.cell?_spot hc0
      subst hspot
      have hadd : ∀ o j : Nat, (⟨bk, o, none⟩ : Addr).add j = ⟨bk, o + j, none⟩ := by intro o j; unfold Addr.add; split <;> simp_all
      refine .inr ⟨bk, off, rfl, fun i hi => ?_⟩
      obtain ⟨h1, h2, h3⟩ := (hp i hi).1
      rw [hadd, hadd] at h1 h2 h3
      rw [show off + 3 * i = off + i * 3 by omega]
      exact ⟨h1, h2, h3⟩
  · intro o ho
    obtain ⟨i, hi, rfl⟩ := List.mem_iff_getElem.1 ho
    have := (hp i (by omega)).2
    rw [List.getD_eq_getElem?_getD, List.getElem?_eq_getElem hi] at this
    exact this
end
end Go.Proofs.YtinmmhbiomcdoaaGreatDoor
