/-
  Texts of stages that were proved on their own, joined: AppendAt, Parts. Each begins with its own words.
-/
import Derived.Test.YtaaflnmdaplfkaaAppends
import Derived.Maps.AppendAt
import Derived.Test.YtaaflnmdaplfkaaBlocks

/-
  append of a slice of numbers to a row of the call's own, and where it lies. Laws about the model's own words; no Go function is spoken of.
-/
namespace Go.Proofs.Ytaaflnmdaplfkaa
open Go.RowKit

section
variable {P : Program} {w : World}
theorem wpList_append_ints_at {ops : Array Oper} {rest : List Oper} {o : Oper} {a : Act} {Q : Exit → Act → World → Prop} (hgd : o.guard = none) (s x : Operand) (t : TypeId)
    (ho : o.op = .call { callee := .builtin .append, args := #[s, x], argTypes := #[t, t] })
    (base : Nat) (e : TypeId) (i : TypeInfo) (z : Value) (bytes : Nat) (ht : P.underlying t = some (.slice e)) (hi : P.info? e = some i) (hz : i.zero = some z)
    (hsize : i.size = 1) (hby : i.bytes = bytes) (hzs : z.cells.size = 1)
    {v : Value} {n : Nat} {xs : List Value} (hs : a.eval s = v) (hown : w.ownsRow base e 1 v n xs)
    {k : IntKind} {A : Option Addr} {m c : Nat} {ys : List Int} (hx : a.eval x = .slice A m c) (hy : Ints k w A m c ys)
    (h63 : n + m ≤ maxLen) (hbytes : (n + m) * bytes ≤ 140737488355328) (hbase : base ≤ w.heap.size)
    (h : ∀ v' w', w'.ownsRow base e 1 v' (n + m) (xs ++ ys.map (Value.int k)) → w.grownBy w' v.ownBlock → (v'.ownBlock = v.ownBlock ∨ v'.ownBlock = some w.heap.size) → wpList P ops Q rest (a.put o.dst v') w') : wpList P ops Q (o :: rest) a w := by
  have hl := hy.len
  cases A with
  | none =>
    have hm : m = 0 := by
      rcases hy.2.2 with h0 | ⟨b, off, ha, _⟩
      · exact h0
      · cases ha
    subst hm
    obtain rfl : ys = [] := List.length_eq_zero_iff.1 hl
    refine wpList_plain hgd fun K hK => ?_
    have hrun := run_append_nothing (P := P) base t o.type e i 1 ht hi v n xs hown c
    unfold Oper.wp
    simp [execOp, ho, resolve, invoke, builtin, hs, hx, hrun, Result.andThen]
    exact hK _ _ (h v w (by simpa using hown) (grown_refl _ _) (.inl rfl))
  | some ad =>
    refine wpList_append_own_at w hgd s x t ho base e i z 1 bytes ht hi hz hsize hby hzs (by decide) v n xs hs hown ad m c (ys.map (Value.int k)) hx (by simp [hl]) ?_ (ints_oneCell' _ _) h63 hbytes hbase (fun v' w' h1 h2 _ h4 => h v' w' h1 h2 h4)
    intro j u hu
    have hj : j < m := by have := (List.getElem?_eq_some_iff.1 hu).1; simpa [hl] using this
    obtain ⟨ad', hA, hc⟩ := hy.src m (Nat.le_refl _) (by omega)
    injection hA with hA
    subst hA
    rw [List.take_of_length_le (by omega)] at hc
    exact hc j u hu
end
end Go.Proofs.Ytaaflnmdaplfkaa

/-
  A slice of slices of bytes in memory ('Parts'): its parts are known; it stays what it is where only new memory was written. No Go function is spoken of here.
-/
namespace Go.Proofs.Ytaaflnmdaplfkaa
open Go.RowKit

def Parts (w : World) (a : Option Addr) (n cap : Nat) (ps : List (List Int)) : Prop :=
  ps.length = n ∧ n ≤ cap ∧ (n = 0 ∨ ∃ b off, a = some ⟨b, off, none⟩ ∧ ∀ i, i < n → ∃ A m c, w.cell? ⟨b, off + i, none⟩ = some (.slice A m c) ∧ Ints .u8 w A m c (ps.getD i []))
theorem Parts.len {w : World} {a : Option Addr} {n cap : Nat} {ps : List (List Int)} (h : Parts w a n cap ps) : ps.length = n := h.1
theorem Parts.keep {w w' : World} {a : Option Addr} {n cap : Nat} {ps : List (List Int)} (h : Parts w a n cap ps) (hb : Below w.heap.size w w') : Parts w' a n cap ps := by
  refine ⟨h.1, h.2.1, ?_⟩
  rcases h.2.2 with h0 | ⟨b, off, ha, hc⟩
  · exact .inl h0
  · refine .inr ⟨b, off, ha, fun i hi => ?_⟩
    obtain ⟨A, m, c, hcell, hI⟩ := hc i hi
    exact ⟨A, m, c, by rw [hb.cell (World.block_lt_of_cell? w _ hcell)]; exact hcell, hI.keep hb⟩
theorem Parts.at {w : World} {a : Option Addr} {n cap : Nat} {ps : List (List Int)} (h : Parts w a n cap ps) (hn : 0 < n) :
    ∃ b off, a = some ⟨b, off, none⟩ ∧ ∀ i, i < n → ∃ A m c, w.cell? ⟨b, off + i, none⟩ = some (.slice A m c) ∧ Ints .u8 w A m c (ps.getD i []) := by
  rcases h.2.2 with h0 | h0
  · omega
  · exact h0
theorem Parts.take {w : World} {a : Option Addr} {n cap : Nat} {ps : List (List Int)} (h : Parts w a n cap ps) (k : Nat) (hk : k ≤ n) : Parts w a k cap (ps.take k) := by
  have hl := h.len
  refine ⟨by rw [List.length_take]; omega, by have := h.2.1; omega, ?_⟩
  by_cases h0 : k = 0
  · exact .inl h0
  · obtain ⟨b, off, ha, hc⟩ := h.at (by omega)
    refine .inr ⟨b, off, ha, fun i hi => ?_⟩
    have : (ps.take k).getD i [] = ps.getD i [] := by rw [List.getD_eq_getElem?_getD, List.getD_eq_getElem?_getD, List.getElem?_take_of_lt hi]
    rw [this]; exact hc i (by omega)
theorem parts_nil (w : World) (cap : Nat) : Parts w none 0 cap [] := ⟨rfl, Nat.zero_le _, .inl rfl⟩
theorem flatten_snoc (ps : List (List Int)) (k : Nat) (h : k < ps.length) : (ps.take (k + 1)).flatten = (ps.take k).flatten ++ ps.getD k [] := by
  rw [List.take_succ_eq_append_getElem h, List.flatten_append, List.getD_eq_getElem?_getD, List.getElem?_eq_getElem h]; simp
theorem flatten_take_le (ps : List (List Int)) (k : Nat) : (ps.take k).flatten.length ≤ ps.flatten.length := by
  have h : ps.flatten = (ps.take k).flatten ++ (ps.drop k).flatten := by rw [← List.flatten_append, List.take_append_drop]
  rw [h, List.length_append]; omega
theorem getD_mem_range {ps : List (List Int)} (h : ∀ p ∈ ps, ∀ x ∈ p, 0 ≤ x ∧ x < 256) (k : Nat) : ∀ x ∈ ps.getD k [], 0 ≤ x ∧ x < 256 := by
  intro x hx
  rw [List.getD_eq_getElem?_getD] at hx
  cases hk : ps[k]? with
  | none => rw [hk] at hx; simp at hx
  | some p => rw [hk] at hx; exact h p (List.mem_of_getElem? hk) x hx
/-- Parts that lie in a block of their own. -/
theorem Parts.of_blk {w : World} {g n : Nat} {t : TypeId} {cs : List Value} {ps : List (List Int)} (h : Blk w g t cs) (hl : ps.length = n) (hx : ∀ i, i < n → ∃ A m c, cs[i]? = some (.slice A m c) ∧ Ints .u8 w A m c (ps.getD i [])) : Parts w (some ⟨g, 0, none⟩) n n ps := by
  refine ⟨hl, Nat.le_refl _, .inr ⟨g, 0, rfl, fun i hi => ?_⟩⟩
  obtain ⟨A, m, c, h1, h2⟩ := hx i hi
  exact ⟨A, m, c, by rw [h.cell, Nat.zero_add]; exact h1, h2⟩
end Go.Proofs.Ytaaflnmdaplfkaa
