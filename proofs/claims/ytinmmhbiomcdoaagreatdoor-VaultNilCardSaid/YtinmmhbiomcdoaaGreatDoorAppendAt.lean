/-
  append of a slice of numbers to a row of the call's own, and where it lies. Laws about the model's own words; no Go function is spoken of.
-/
import Derived.Test.YtinmmhbiomcdoaaGreatDoorAppends
import Derived.Maps.AppendAt
namespace Go.Proofs.YtinmmhbiomcdoaaGreatDoor
open Go.RowKit

section
variable {P : Program} {w : World}
theorem wpList_append_ints_at {ops : Array Oper} {rest : List Oper} {o : Oper} {a : Act} {Q : Exit → Act → World → Prop} (hgd : o.guard = none) (s x : Operand) (t : TypeId)
    (ho : o.op = .call { callee := .builtin .append, args := #[s, x], argTypes := #[t, t] })
    (base : Nat) (e : TypeId) (i : TypeInfo) (z : Value) (bytes : Nat) (ht : P.underlying t = some (.slice e)) (hi : P.info? e = some i) (hz : i.zero = some z)
    (hsize : i.size = 1) (hby : i.bytes = bytes) (hzs : z.cells.size = 1)
    {v : Value} {n : Nat} {xs : List Value} (hs : a.eval s = v) (hown : w.ownsRow base e 1 v n xs)
    {k : IntKind} {A : Option Addr} {m c : Nat} {ys : List Int} (hx : a.eval x = .slice A m c) (hy : Ints k w A m c ys)
    (h63 : n + m ≤ maxLen) (hbytes : (n + m) * bytes ≤ 140737488355328) (hbase : base ≤ w.heap.size)
    (h : ∀ v' w', w'.ownsRow base e 1 v' (n + m) (xs ++ ys.map (Value.int k)) → w.grownBy w' v.ownBlock → (v'.ownBlock = v.ownBlock ∨ v'.ownBlock = some w.heap.size) → wpList P ops Q rest (a.put o.dst v') w') : wpList P ops Q (o :: rest) a w := by
  have hl := hy.len
  cases A with
  | none =>
    have hm : m = 0 := by
      rcases hy.2.2 with h0 | ⟨b, off, ha, _⟩
      · exact h0
      · cases ha
    subst hm
    obtain rfl : ys = [] := List.length_eq_zero_iff.1 hl
    refine wpList_plain hgd fun K hK => ?_
    have hrun := run_append_nothing (P := P) base t o.type e i 1 ht hi v n xs hown c
    unfold Oper.wp
    simp [execOp, ho, resolve, invoke, builtin, hs, hx, hrun, Result.andThen]
    exact hK _ _ (h v w (by simpa using hown) (grown_refl _ _) (.inl rfl))
  | some ad =>
    refine wpList_append_own_at w hgd s x t ho base e i z 1 bytes ht hi hz hsize hby hzs (by decide) v n xs hs hown ad m c (ys.map (Value.int k)) hx (by simp [hl]) ?_ (ints_oneCell' _ _) h63 hbytes hbase (fun v' w' h1 h2 _ h4 => h v' w' h1 h2 h4)
    intro j u hu
    have hj : j < m := by have := (List.getElem?_eq_some_iff.1 hu).1; simpa [hl] using this
    obtain ⟨ad', hA, hc⟩ := hy.src m (Nat.le_refl _) (by omega)
    injection hA with hA
    subst hA
    rw [List.take_of_length_le (by omega)] at hc
    exact hc j u hu
end
end Go.Proofs.YtinmmhbiomcdoaaGreatDoor
