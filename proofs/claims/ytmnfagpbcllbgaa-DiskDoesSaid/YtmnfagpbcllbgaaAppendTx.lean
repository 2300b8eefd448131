/-
  append of a slice of another slice type; a slice cut at its upper end, as Ints and as a row of the call's own. Laws about the model's own words; no Go function is spoken of.
-/
import Derived.Test.YtmnfagpbcllbgaaClone
namespace Go.Proofs.Ytmnfagpbcllbgaa
open Go.RowKit

section
variable {P : Program} {w : World}
theorem run_append_tx (t tx e e' ty : TypeId) (i : TypeInfo) (ht : P.underlying t = some (.slice e)) (hx : P.underlying tx = some (.slice e')) (hi : P.info? e = some i) (A B : Option Addr) (n c m d : Nat) :
    (Builtin.append_ #[t, tx] ty #[.slice A n c, .slice B m d]).run P w = (Builtin.append_ #[t, t] ty #[.slice A n c, .slice B m d]).run P w := by
  simp [Builtin.append_, run_underlying ht, run_underlying hx, sizeOf, typeInfo, hi, Builtin.lenOf]
theorem wpList_append_ints_tx {ops : Array Oper} {rest : List Oper} {o : Oper} {a : Act} {Q : Exit → Act → World → Prop} (hgd : o.guard = none) (s x : Operand) (t tx e' : TypeId)
    (ho : o.op = .call { callee := .builtin .append, args := #[s, x], argTypes := #[t, tx] })
    (base : Nat) (e : TypeId) (i : TypeInfo) (z : Value) (bytes : Nat) (ht : P.underlying t = some (.slice e)) (htx : P.underlying tx = some (.slice e')) (hi : P.info? e = some i) (hz : i.zero = some z)
    (hsize : i.size = 1) (hby : i.bytes = bytes) (hzs : z.cells.size = 1)
    {v : Value} {n : Nat} {xs : List Value} (hs : a.eval s = v) (hown : w.ownsRow base e 1 v n xs)
    {k : IntKind} {A : Option Addr} {m c : Nat} {ys : List Int} (hx : a.eval x = .slice A m c) (hy : Ints k w A m c ys)
    (h63 : n + m ≤ maxLen) (hbytes : (n + m) * bytes ≤ 140737488355328) (hbase : base ≤ w.heap.size)
    (h : ∀ v' w', w'.ownsRow base e 1 v' (n + m) (xs ++ ys.map (Value.int k)) → w.grownBy w' v.ownBlock → (v'.ownBlock = v.ownBlock ∨ v'.ownBlock = some w.heap.size) → wpList P ops Q rest (a.put o.dst v') w') : wpList P ops Q (o :: rest) a w := by
  have hl := hy.len
  obtain ⟨vb, vc, rfl⟩ := own_slice hown
  cases A with
  | none =>
    have hm : m = 0 := by
      rcases hy.2.2 with h0 | ⟨b, off, ha, _⟩
      · exact h0
      · cases ha
    subst hm
    obtain rfl : ys = [] := List.length_eq_zero_iff.1 hl
    refine wpList_plain hgd fun K hK => ?_
    have hrun := run_append_nothing (P := P) base t o.type e i 1 ht hi _ n xs hown c
    unfold Oper.wp
    simp [execOp, ho, resolve, invoke, builtin, hs, hx, run_append_tx t tx e e' _ i ht htx hi, hrun, Result.andThen]
    exact hK _ _ (h _ w (by simpa using hown) (grown_refl _ _) (.inl rfl))
  | some ad =>
    refine wpList_plain hgd fun K hK => ?_
    have hnews : ∀ j u, (ys.map (Value.int k))[j]? = some u → w.cell? (ad.add j) = some u := by
      intro j u hu
      have hj : j < m := by have := (List.getElem?_eq_some_iff.1 hu).1; simpa [hl] using this
      obtain ⟨ad', hA, hc⟩ := hy.src m (Nat.le_refl _) (by omega)
      injection hA with hA
      subst hA
      rw [List.take_of_length_le (by omega)] at hc
      exact hc j u hu
    obtain ⟨v', w', hr, h2, h3, _, h5⟩ := run_append_own_at (P := P) w base t o.type e i z 1 bytes ht hi hz hsize hby hzs (by decide) _ n xs hown ad m c (ys.map (Value.int k)) (by simp [hl]) hnews (ints_oneCell' _ _) h63 hbytes hbase
    unfold Oper.wp execOp
    simp only [ho, resolve, invoke, builtin, Sem.run_bind, Sem.run_pure, Result.andThen_ok, List.map_toArray, List.map_cons, List.map_nil, hs, hx, run_append_tx t tx e e' _ i ht htx hi, hr]
    exact hK _ _ (h v' w' h2 h3 h5)
/-- A slice cut at its upper end. -/
theorem run_cutHi (ty e : TypeId) (hu : P.underlying ty = some (.slice e)) (hs : (P.info? e).map (·.size) = some 1) (A : Option Addr) (m c : Nat) (k : IntKind) (l : Nat) (hlm : l ≤ c) (w : World) :
    (Instr.sliceAt ty (.slice A m c) none (some (.int k (l : Int))) none).run P w = .ok (.slice A l c) w := by
  have he : P.elem ty = e := by simp [Program.elem, hu]
  rw [run_sliceAt_slice w ty _ _ _ _ (by rw [he]; exact hu), run_slice_h w ty A m c (by rw [he]; exact hu) k l (by omega) (by omega)]
  cases hq : P.info? e with
  | none => simp [hq] at hs
  | some i =>
    simp [he, sizeOf, typeInfo, hq, sliced]
    intro _
    cases A with
    | none => rfl
    | some x =>
      obtain ⟨b, o, sp⟩ := x
      cases sp <;> simp [Addr.add]
end
theorem Ints.upTo {k : IntKind} {w : World} {a : Option Addr} {n cap : Nat} {xs : List Int} (h : Ints k w a n cap xs) (m : Nat) (hm : m ≤ n) : Ints k w a m cap (xs.take m) := by
  have h1 := h.cut2 0 m (Nat.zero_le _) hm
  have hc := h.2.1
  refine ⟨by rw [List.length_take, h.1]; omega, by omega, ?_⟩
  rcases h.2.2 with h0 | ⟨b, off, ha, hcell⟩
  · exact .inl (by omega)
  · refine .inr ⟨b, off, ha, fun i hi => ?_⟩
    rw [hcell i (by omega), List.getD_eq_getElem?_getD, List.getD_eq_getElem?_getD, List.getElem?_take_of_lt hi]
theorem own_upTo {w : World} {B : Nat} {e : TypeId} {a : Option Addr} {n c : Nat} {vs : List Value} (h : w.ownsRow B e 1 (.slice a n c) n vs) (m : Nat) (hm : m ≤ n) : w.ownsRow B e 1 (.slice a m c) m (vs.take m) := by
  have hl : vs.length = n := by have := h.1; simpa using this
  refine ⟨by rw [List.length_take, hl]; omega, ?_⟩
  rcases h.2 with ⟨hv, h0⟩ | ⟨g, cap, cur, hv, hb, hg, hnc, hcm, hcs, ht⟩
  · injection hv with h1 h2 h3
    exact .inl ⟨by rw [h1, h3, show m = 0 by omega], by omega⟩
  · injection hv with h1 h2 h3
    subst h3
    refine .inr ⟨g, c, cur, by rw [h1], hb, hg, by omega, hcm, hcs, ?_⟩
    rw [Nat.mul_one] at ht ⊢
    rw [← ht, List.take_take, Nat.min_eq_left hm]
end Go.Proofs.Ytmnfagpbcllbgaa
