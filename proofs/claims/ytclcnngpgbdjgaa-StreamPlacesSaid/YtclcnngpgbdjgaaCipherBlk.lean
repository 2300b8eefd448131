/-
  Rows of bytes as values (a block of 16, a column of 4): their cells, one set, a new variable that holds one.
-/
import Derived.Test.YtclcnngpgbdjgaaCipherMath
import Derived.Test.YtclcnngpgbdjgaaBoxNew
namespace Go.Proofs.Ytclcnngpgbdjgaa
open Go.RowKit

/-- The cells of n bytes. -/
def rowN (n : Nat) (f : Nat → Nat) : List Value := (List.range n).map fun i => .int .u8 (f i : Int)
theorem rowN_len (n : Nat) (f : Nat → Nat) : (rowN n f).length = n := by simp [rowN]
theorem rowN_at (n : Nat) (f : Nat → Nat) (i : Nat) (hi : i < n) : (rowN n f)[i]? = some (.int .u8 (f i : Int)) := by simp [rowN, hi]
theorem rowN_congr {n : Nat} {f h : Nat → Nat} (e : Ag n f h) : rowN n f = rowN n h := by
  refine List.map_congr_left fun i hi => ?_
  rw [e i (List.mem_range.1 hi)]
theorem rowN_set (n : Nat) (f : Nat → Nat) (i v : Nat) (hi : i < n) : (rowN n f).set i (.int .u8 (v : Int)) = rowN n (upd f i v) := by
  apply List.ext_getElem?
  intro j
  rw [List.getElem?_set]
  by_cases hj : j < n
  · rw [rowN_at n _ _ hj, rowN_at n _ _ hj]
    by_cases e : i = j
    · subst e; simp [upd, rowN_len, hi]
    · have e' : ¬ j = i := fun h => e h.symm
      simp [e, e', upd]
  · rw [List.getElem?_eq_none (by rw [rowN_len]; omega), List.getElem?_eq_none (by rw [rowN_len]; omega)]
    split
    · omega
    · rfl
theorem rowN_one (n : Nat) (f : Nat → Nat) : ∀ v ∈ rowN n f, v.oneCell' = true := by
  intro v hv
  obtain ⟨i, _, rfl⟩ := List.mem_map.1 hv
  rfl
theorem rowN_inj {n : Nat} {f h : Nat → Nat} (e : rowN n f = rowN n h) : Ag n f h := by
  intro i hi
  have h1 := rowN_at n f i hi
  rw [e, rowN_at n h i hi] at h1
  injection h1 with h1
  injection h1 with _ h1
  omega
/-- The first k are f's, the rest b's. -/
def upto (k : Nat) (f b : Nat → Nat) : Nat → Nat := fun i => if i < k then f i else b i
theorem upto_zero (f b : Nat → Nat) : upto 0 f b = b := by funext i; simp [upto]
theorem upto_step (k v : Nat) (f b : Nat → Nat) (h : f k = v) : upd (upto k f b) k v = upto (k + 1) f b := by
  subst h
  funext i
  unfold upd upto
  by_cases e : i = k
  · subst e; rw [if_pos rfl, if_pos (by omega)]
  · rw [if_neg e]
    by_cases l : i < k
    · rw [if_pos l, if_pos (by omega)]
    · rw [if_neg l, if_neg (by omega)]
theorem upto_all (n : Nat) (f b : Nat → Nat) : Ag n (upto n f b) f := fun i hi => by unfold upto; rw [if_pos hi]
theorem upto_at (k : Nat) (f b : Nat → Nat) : upto k f b k = b k := by unfold upto; rw [if_neg (by omega)]

theorem size4 : (Try.prog.info? 89).map (·.size) = some 4 := by kernel_rfl
theorem size16 : (Try.prog.info? 42).map (·.size) = some 16 := by kernel_rfl
theorem row4' : IsRow Try.prog 89 4 := IsRow.array Try.underlying89 size4
theorem row16' : IsRow Try.prog 42 16 := IsRow.array Try.underlying42 size16
theorem row4 (f : Nat → Nat) : IsRow Try.prog 89 (rowN 4 f).length := by rw [rowN_len]; exact row4'
theorem row16 (f : Nat → Nat) : IsRow Try.prog 42 (rowN 16 f).length := by rw [rowN_len]; exact row16'
theorem zero4 : Zero Try.prog 89 (rowN 4 zf) := by unfold Zero; kernel_rfl
theorem zero16 : Zero Try.prog 42 (rowN 16 zf) := by unfold Zero; kernel_rfl
theorem over4 (a b : Nat → Nat) : overV (rowN 4 a) 0 (rowN 4 b) = rowN 4 b := overV_all _ _ (by rw [rowN_len, rowN_len])
theorem over16 (a b : Nat → Nat) : overV (rowN 16 a) 0 (rowN 16 b) = rowN 16 b := overV_all _ _ (by rw [rowN_len, rowN_len])
theorem fit4 (a b : Nat → Nat) : 0 + (rowN 4 b).length ≤ (rowN 4 a).length := by rw [rowN_len, rowN_len]; omega
theorem fit16 (a b : Nat → Nat) : 0 + (rowN 16 b).length ≤ (rowN 16 a).length := by rw [rowN_len, rowN_len]; omega
theorem zf_at (i : Nat) : zf i = 0 := rfl

/-- A new variable that holds a value of many cells. -/
theorem wpList_box_blk {P : Program} {w : World} {ops : Array Oper} {rest : List Oper} {o : Oper} {a : Act} {Q : Exit → Act → World → Prop} (hgd : o.guard = none) (ty : TypeId) (x : Operand) (ho : o.op = .box ty x)
    (cs : List Value) (hx : a.eval x = .agg cs.toArray)
    (h : wpList P ops Q rest (a.put o.dst (.pointer (some ⟨w.heap.size, 0, none⟩))) (w.alloc (.cells cs.toArray ty))) : wpList P ops Q (o :: rest) a w := by
  refine wpList_plain hgd fun K hK => ?_
  unfold Oper.wp execOp
  simp only [ho, Sem.run_bind, Instr.box, newVar, newRow, run_newObj_alloc, Sem.run_pure, Result.andThen_ok, hx]
  exact hK _ _ h
theorem Draws.cellW {w w' : World} (h : Draws w w') {p : Addr} {x : Option Value} (hc : w.cell? p = x) : w'.cell? p = x := by
  obtain ⟨n, rfl⟩ := h
  exact hc
theorem Draws.frozen {w w' : World} (h : Draws w w') {p : Addr} {x : Bool} (hc : w.frozen? p = x) : w'.frozen? p = x := by
  obtain ⟨n, rfl⟩ := h
  exact hc
theorem Draws.one (w : World) : ∃ v, w.drew = v ∧ Draws w v := ⟨_, rfl, (Draws.refl w).drew⟩
end Go.Proofs.Ytclcnngpgbdjgaa
