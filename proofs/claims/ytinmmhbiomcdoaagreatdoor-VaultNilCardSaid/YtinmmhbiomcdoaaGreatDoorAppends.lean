/-
  append and make as laws of the walk, for a slice of numbers as the source (nil and empty let in), and for a new row of which a part is counted. No Go function is spoken of here.
-/
import Derived.Test.YtinmmhbiomcdoaaGreatDoorBlocks
import Derived.Laws.AppendOwn
import Derived.Laws.MakeOwn
import Derived.OwnWalk
namespace Go.Proofs.YtinmmhbiomcdoaaGreatDoor
open Go.RowKit

section
variable {P : Program} {w : World}
theorem run_append_nothing (base : Nat) (t ty e : TypeId) (i : TypeInfo) (size : Nat) (ht : P.underlying t = some (.slice e)) (hi : P.info? e = some i) (v : Value) (n : Nat) (xs : List Value) (h : w.ownsRow base e size v n xs) (c : Nat) :
    (Builtin.append_ #[t, t] ty #[v, .slice none 0 c]).run P w = .ok v w := by
  rcases h.2 with ⟨rfl, rfl⟩ | ⟨g, cap, cur, rfl, _, _, hnc, _⟩
  · simp [Builtin.append_, run_underlying ht, sizeOf, typeInfo, hi, Builtin.lenOf, Builtin.firstCells]
  · simp [Builtin.append_, run_underlying ht, sizeOf, typeInfo, hi, Builtin.lenOf, Builtin.firstCells, hnc, storeCells]
/-- append of a slice of numbers to a row of the call's own. -/
theorem wpList_append_ints {ops : Array Oper} {rest : List Oper} {o : Oper} {a : Act} {Q : Exit → Act → World → Prop} (hgd : o.guard = none) (s x : Operand) (t : TypeId)
    (ho : o.op = .call { callee := .builtin .append, args := #[s, x], argTypes := #[t, t] })
    (base : Nat) (e : TypeId) (i : TypeInfo) (z : Value) (bytes : Nat) (ht : P.underlying t = some (.slice e)) (hi : P.info? e = some i) (hz : i.zero = some z)
    (hsize : i.size = 1) (hby : i.bytes = bytes) (hzs : z.cells.size = 1)
    {v : Value} {n : Nat} {xs : List Value} (hs : a.eval s = v) (hown : w.ownsRow base e 1 v n xs)
    {k : IntKind} {A : Option Addr} {m c : Nat} {ys : List Int} (hx : a.eval x = .slice A m c) (hy : Ints k w A m c ys)
    (h63 : n + m ≤ maxLen) (hbytes : (n + m) * bytes ≤ 140737488355328) (hbase : base ≤ w.heap.size)
    (h : ∀ v' w', w'.ownsRow base e 1 v' (n + m) (xs ++ ys.map (Value.int k)) → w.grownBy w' v.ownBlock → wpList P ops Q rest (a.put o.dst v') w') : wpList P ops Q (o :: rest) a w := by
  have hl := hy.len
  cases A with
  | none =>
    have hm : m = 0 := by
      rcases hy.2.2 with h0 | ⟨b, off, ha, _⟩
      · exact h0
      · cases ha
    subst hm
    obtain rfl : ys = [] := List.length_eq_zero_iff.1 hl
    refine wpList_plain hgd fun K hK => ?_
    have hrun := run_append_nothing (P := P) base t o.type e i 1 ht hi v n xs hown c
    unfold Oper.wp
    simp [execOp, ho, resolve, invoke, builtin, hs, hx, hrun, Result.andThen]
    exact hK _ _ (h v w (by simpa using hown) (grown_refl _ _))
  | some ad =>
    refine wpList_append_own w hgd s x t ho base e i z 1 bytes ht hi hz hsize hby hzs (by decide) v n xs hs hown ad m c (ys.map (Value.int k)) hx (by simp [hl]) ?_ (ints_oneCell' _ _) h63 hbytes hbase (fun v' w' h1 h2 _ => h v' w' h1 h2)
    intro j u hu
    have hj : j < m := by have := (List.getElem?_eq_some_iff.1 hu).1; simpa [hl] using this
    obtain ⟨ad', hA, hc⟩ := hy.src m (Nat.le_refl _) (by omega)
    injection hA with hA
    subst hA
    rw [List.take_of_length_le (by omega)] at hc
    exact hc j u hu
/-- append of one number: it lies in a new block of one cell. -/
theorem one_at (w : World) (k : IntKind) (t : TypeId) (x : Int) : Ints k (w.alloc (.cells #[.int k x] t)) (some ⟨w.heap.size, 0, none⟩) 1 1 [x] := by
  refine ⟨rfl, by omega, .inr ⟨_, _, rfl, fun i hi => ?_⟩⟩
  obtain rfl : i = 0 := by omega
  show _ = some (Value.int k x)
  exact World.cell?_alloc_at (w := w) #[Value.int k x] t w.heap.size 0 rfl
/-- make of a row of numbers, of which the first n are counted. -/
theorem wpList_make_two {ops : Array Oper} {rest : List Oper} {o : Oper} {a : Act} {Q : Exit → Act → World → Prop} (hgd : o.guard = none) (l c : Operand) (t : TypeId) (ho : o.op = Op.makeSlice t l c)
    (base : Nat) (e : TypeId) (i : TypeInfo) (z : Value) (ht : P.underlying t = some (.slice e)) (hi : P.info? e = some i) (hz : i.zero = some z) (hsize : i.size = 1) (hzs : z.cells = #[z])
    {kl kc : IntKind} {n C : Nat} {L M : Int} (hl : a.eval l = .int kl L) (hc : a.eval c = .int kc M) (hL : L = (n : Int)) (hM : M = (C : Int)) (hn : n ≤ C) (b2 : i.bytes * C ≤ 281474976710656) (b3 : C ≤ maxLen) (b4 : base ≤ w.heap.size)
    (h : ∀ w', w'.ownsRow base e 1 (.slice (some ⟨w.heap.size, 0, none⟩) n C) n (List.replicate n z) → Blk w' w.heap.size e (List.replicate C z) → w.grownBy w' none → wpList P ops Q rest (a.put o.dst (.slice (some ⟨w.heap.size, 0, none⟩) n C)) w') :
    wpList P ops Q (o :: rest) a w := by
  subst hL; subst hM
  refine wpList_plain hgd fun K hK => ?_
  have h63' : (C : Int) ≤ 9223372036854775807 := by
    have h := b3
    simp [maxLen] at h
    omega
  have hb' : (i.bytes : Int) * (C : Int) ≤ 281474976710656 := by
    have h : ((i.bytes * C : Nat) : Int) ≤ 281474976710656 := by omega
    rwa [Int.natCast_mul] at h
  have hr := run_make (P := P) w t e i z ht hi hz kl kc n C (by omega) (by omega) hb' h63'
  have hmc : madeCells z.cells (C * 1) = (List.replicate C z).toArray := by
    rw [hzs]
    apply Array.ext
    · simp [madeCells]
    · intro j h1 h2
      simp [madeCells, Nat.mod_one]
  simp only [Int.toNat_natCast, hsize, hmc] at hr
  unfold Oper.wp
  simp [execOp, ho, hl, hc, hr, Result.andThen]
  refine hK _ _ (h _ ⟨by simp, .inr ⟨w.heap.size, C, (List.replicate C z).toArray, rfl, b4, heap_alloc_new w _, hn, b3, by simp, by simp [List.take_replicate, Nat.min_eq_left hn]⟩⟩ (Blk.new w e _) (World.grownBy_alloc w _ none))
end
end Go.Proofs.YtinmmhbiomcdoaaGreatDoor
