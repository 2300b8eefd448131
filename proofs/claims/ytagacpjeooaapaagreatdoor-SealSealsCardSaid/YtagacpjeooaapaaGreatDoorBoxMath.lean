/-
  The substitution of bytes on natural numbers: substitutes, whose substitute a byte is, words; plain facts, no Go. Conditions: bytes are numbers below 256.
-/
import Derived.Test.YtagacpjeooaapaaGreatDoorFieldMath
namespace Go.Proofs.YtagacpjeooaapaaGreatDoor

/-- A byte turned to the left by k. -/
def rot8 (b k : Nat) : Nat := (b * 2 ^ k % 256) ||| (b / 2 ^ (8 - k))
/-- 99, and the first k turns of b, added up. -/
def ac (b : Nat) : Nat → Nat
  | 0 => 99
  | k + 1 => ac b k ^^^ rot8 b k
/-- What is made of an inverse. -/
def st (b : Nat) : Nat := ac b 5
/-- The document's own sum for the bit i. -/
def shn (b i : Nat) : Nat := 99 / 2 ^ i + b / 2 ^ i + b / 2 ^ ((i + 4) % 8) + b / 2 ^ ((i + 5) % 8) + b / 2 ^ ((i + 6) % 8) + b / 2 ^ ((i + 7) % 8)
/-- The highest k bits of it. -/
def sg (b : Nat) : Nat → Nat
  | 0 => 0
  | k + 1 => 2 * sg b k + shn b (7 - k) % 2
theorem sg_st : ∀ b < 256, sg b 8 = st b := by decide +kernel
theorem sg_lt (b k : Nat) : sg b k < 2 ^ k := by
  induction k with
  | zero => exact (by decide : 0 < 1)
  | succ k ih => simp only [sg]; rw [Nat.pow_succ]; omega
theorem rot8_256 : ∀ k < 5, ∀ b < 256, rot8 b k < 256 := by decide +kernel
theorem ac_256 : ∀ k < 6, ∀ b < 256, ac b k < 256 := by decide +kernel
theorem st_256 (b : Nat) (hb : b < 256) : st b < 256 := ac_256 5 (by decide) b hb
/-- Of which inverse a byte is made. -/
def ist (y : Nat) : Nat := 5 ^^^ rot8 y 1 ^^^ rot8 y 3 ^^^ ((y * 64 % 256) ||| (y / 4))
theorem ist_256 : ∀ y < 256, ist y < 256 := by decide +kernel
theorem st_ist : ∀ y < 256, st (ist y) = y := by decide +kernel
theorem ist_st : ∀ b < 256, ist (st b) = b := by decide +kernel
theorem inv_inv (a : Nat) (ha : a < 256) : inv (inv a) = a := by
  by_cases h : a = 0
  · subst h; rw [inv_zero, inv_zero]
  · exact (inv_uniq (inv a) a (inv_256 a) ha (inv_tm a ha h)).symm
/-- The substitute, and the byte whose substitute it is. -/
def sb (x : Nat) : Nat := st (inv x)
def bk (y : Nat) : Nat := inv (ist y)
theorem sb_256 (x : Nat) : sb x < 256 := st_256 _ (inv_256 x)
theorem bk_256 (y : Nat) : bk y < 256 := inv_256 _
theorem sb_bk (y : Nat) (hy : y < 256) : sb (bk y) = y := by unfold sb bk; rw [inv_inv _ (ist_256 y hy), st_ist y hy]
theorem bk_sb (x : Nat) (hx : x < 256) : bk (sb x) = x := by unfold sb bk; rw [ist_st _ (inv_256 x), inv_inv x hx]
theorem sb_inj (x y : Nat) (hx : x < 256) (hy : y < 256) (h : sb x = sb y) : x = y := by rw [← bk_sb x hx, ← bk_sb y hy, h]
theorem own_tm : ∀ x < 256, tm x (ist x) ≠ 1 := by decide +kernel
theorem sb_ne (x : Nat) (hx : x < 256) : sb x ≠ x := by
  intro h
  have h1 : inv x = ist x := by rw [← h]; unfold sb; rw [ist_st _ (inv_256 _)]; unfold sb at h; rw [h]
  by_cases h0 : x = 0
  · subst h0
    rw [inv_zero] at h1
    exact absurd h1 (by decide)
  · exact own_tm x hx (by rw [← h1]; exact tm_inv x hx h0)
theorem sb_zero : sb 0 = 99 := by unfold sb; rw [inv_zero]; decide
theorem sb_83 : sb 83 = 237 := by unfold sb; rw [ex_inv]; decide +kernel
theorem bk_99 : bk 99 = 0 := by rw [← sb_zero]; exact bk_sb 0 (by decide)

/-! ### A word of four bytes -/
/-- The lowest k bytes of x, each turned by f. -/
def bwd (f : Nat → Nat) (x : Nat) : Nat → Nat
  | 0 => 0
  | k + 1 => bwd f x k + f (x / 2 ^ (8 * k) % 256) * 2 ^ (8 * k)
theorem wd_lt (f : Nat → Nat) (hf : ∀ i, f i < 256) (x k : Nat) : bwd f x k < 2 ^ (8 * k) := by
  induction k with
  | zero => exact (by decide : 0 < 1)
  | succ k ih =>
    simp only [bwd]
    have h := hf (x / 2 ^ (8 * k) % 256)
    have e : 2 ^ (8 * (k + 1)) = 256 * 2 ^ (8 * k) := by rw [show 8 * (k + 1) = 8 * k + 8 from by omega, Nat.pow_add, Nat.mul_comm]
    rw [e]
    have : f (x / 2 ^ (8 * k) % 256) * 2 ^ (8 * k) ≤ 255 * 2 ^ (8 * k) := Nat.mul_le_mul_right _ (by omega)
    omega
theorem wd_or (f : Nat → Nat) (hf : ∀ i, f i < 256) (x k : Nat) : bwd f x k ||| (f (x / 2 ^ (8 * k) % 256) * 2 ^ (8 * k)) = bwd f x (k + 1) := by
  simp only [bwd]
  rw [Nat.or_comm, Nat.mul_comm, ← Nat.two_pow_add_eq_or_of_lt (wd_lt f hf x k), Nat.add_comm]
/-- The highest k of four bytes, each turned by f. -/
def wr (f : Nat → Nat) (x : Nat) : Nat → Nat
  | 0 => 0
  | k + 1 => 256 * wr f x k + f (x / 2 ^ (8 * (3 - k)) % 256)
theorem wr_lt (f : Nat → Nat) (hf : ∀ i, f i < 256) (x k : Nat) : wr f x k < 256 ^ k := by
  induction k with
  | zero => exact (by decide : 0 < 1)
  | succ k ih =>
    simp only [wr]
    have h := hf (x / 2 ^ (8 * (3 - k)) % 256)
    rw [Nat.pow_succ]
    omega
theorem wr_wd (f : Nat → Nat) (x : Nat) : wr f x 4 = bwd f x 4 := by
  have e0 : 8 * 0 = 8 * (3 - 3) := rfl
  have e1 : 8 * 1 = 8 * (3 - 2) := rfl
  have e2 : 8 * 2 = 8 * (3 - 1) := rfl
  have e3 : 8 * 3 = 8 * (3 - 0) := rfl
  simp only [wr, bwd, e0, e1, e2, e3]
  omega
theorem wd_zero (x k : Nat) : bwd (fun _ => 0) x k = 0 := by
  induction k with
  | zero => rfl
  | succ k ih => simp only [bwd, ih]; omega
theorem ex_word : bwd sb 83 4 = 1667458029 := by
  have e1 : bwd sb 83 4 = sb 83 + sb 0 * 256 + sb 0 * 65536 + sb 0 * 16777216 := by
    simp [bwd]
  rw [e1, sb_zero, sb_83]

/-! ### The tables, as they are filled -/
def upd (f : Nat → Nat) (i v : Nat) : Nat → Nat := fun x => if x = i then v else f x
/-- What the first table holds behind pairs (a byte, an inverse). -/
def tf : List (Nat × Nat) → Nat → Nat
  | [] => upd (fun _ => 0) 0 (st 0)
  | p :: l => upd (tf l) p.1 (st p.2)
/-- What the second table holds behind pairs (a byte, its substitute). -/
def tb : List (Nat × Nat) → Nat → Nat
  | [] => fun _ => 0
  | p :: l => upd (tb l) p.2 p.1
/-- The elements but 0 and their inverses, in order. -/
def ivs (k : Nat) : List (Nat × Nat) := (List.range k).map fun j => (pw 3 j, pw 246 j)
theorem inv_pw (j : Nat) : pw 246 j = inv (pw 3 j) := by
  refine inv_uniq _ _ (pw_256 j) (pw_256 j) ?_
  induction j with
  | zero => exact one_tm 1 (by decide)
  | succ j ih =>
    show tm (tm (pw 3 j) 3) (tm (pw 246 j) 246) = 1
    have h3 : tm 3 246 = 1 := by decide +kernel
    have p3 : pw 3 j < 256 := pw_256 j
    have p6 : pw 246 j < 256 := pw_256 j
    rw [tm_comm (pw 246 j) 246 p6 (by decide), tm_assoc _ _ _ p3 (by decide) (tm_256 _ (by decide)), ← tm_assoc 3 246 _ (by decide) (by decide) p6, h3, one_tm _ p6, ih]
/-- The powers of an element, one behind the other. -/
def powl : Nat → Nat → List Nat
  | 0, _ => []
  | n + 1, x => x :: powl n (tm x 3)
theorem powl_mem (n : Nat) : ∀ j x, x ∈ powl n (pw 3 j) → ∃ i, i < n ∧ x = pw 3 (j + i) := by
  induction n with
  | zero => intro j x h; simp [powl] at h
  | succ n ih =>
    intro j x h
    simp only [powl, List.mem_cons] at h
    rcases h with rfl | h
    · exact ⟨0, by omega, rfl⟩
    · obtain ⟨i, hi, rfl⟩ := ih (j + 1) x h
      exact ⟨i + 1, by omega, by congr 1; omega⟩
theorem powl_all : ∀ x < 256, x ≠ 0 → x ∈ powl 255 1 := by decide +kernel
theorem pow_all (x : Nat) (hx : x < 256) (h0 : x ≠ 0) : ∃ j, j < 255 ∧ x = pw 3 j := by
  obtain ⟨i, hi, h⟩ := powl_mem 255 0 x (powl_all x hx h0)
  exact ⟨i, hi, by rw [h, Nat.zero_add]⟩
theorem tf_rows (l : List (Nat × Nat)) (h : ∀ p ∈ l, p.2 = inv p.1) (x : Nat) : tf l x = if (∃ p ∈ l, p.1 = x) ∨ x = 0 then sb x else 0 := by
  induction l with
  | nil =>
    simp only [tf, upd]
    by_cases hx : x = 0
    · subst hx; rw [if_pos rfl, if_pos (.inr rfl)]; unfold sb; rw [inv_zero]
    · rw [if_neg hx, if_neg (by simpa using hx)]
  | cons p l ih =>
    simp only [tf, upd]
    by_cases hx : x = p.1
    · rw [if_pos hx, if_pos (.inl ⟨p, by simp, hx.symm⟩), h p (by simp), ← hx]; rfl
    · rw [if_neg hx, ih (fun q hq => h q (by simp [hq]))]
      have hx' : ¬ p.1 = x := fun e => hx e.symm
      congr 1
      simp [hx']
theorem tf_ivs (x : Nat) (hx : x < 256) : tf (ivs 255).reverse x = sb x := by
  rw [tf_rows]
  · rw [if_pos]
    by_cases h0 : x = 0
    · exact .inr h0
    · obtain ⟨j, hj, e⟩ := pow_all x hx h0
      refine .inl ⟨(pw 3 j, pw 246 j), ?_, e.symm⟩
      rw [List.mem_reverse, ivs, List.mem_map]
      exact ⟨j, List.mem_range.2 hj, rfl⟩
  · intro p hp
    rw [List.mem_reverse, ivs, List.mem_map] at hp
    obtain ⟨j, _, rfl⟩ := hp
    exact inv_pw j
/-- Bytes and their substitutes, in order. -/
def sbs (f : Nat → Nat) (k : Nat) : List (Nat × Nat) := (List.range k).map fun j => (j, f j)
theorem tb_rows (l : List (Nat × Nat)) (h : ∀ p ∈ l, p.1 < 256 ∧ p.2 = sb p.1) (y : Nat) : tb l y = if ∃ p ∈ l, p.2 = y then bk y else 0 := by
  induction l with
  | nil => simp [tb]
  | cons p l ih =>
    simp only [tb, upd]
    obtain ⟨h1, h2⟩ := h p (by simp)
    by_cases hx : y = p.2
    · rw [if_pos hx, if_pos ⟨p, by simp, hx.symm⟩, hx, h2, bk_sb _ h1]
    · rw [if_neg hx, ih (fun q hq => h q (by simp [hq]))]
      have hx' : ¬ p.2 = y := fun e => hx e.symm
      congr 1
      simp [hx']
theorem tb_sbs (f : Nat → Nat) (hf : ∀ i, i < 256 → f i = sb i) (y : Nat) (hy : y < 256) : tb (sbs f 256).reverse y = bk y := by
  rw [tb_rows]
  · rw [if_pos]
    refine ⟨(bk y, f (bk y)), ?_, by rw [hf _ (bk_256 y)]; exact sb_bk y hy⟩
    rw [List.mem_reverse, sbs, List.mem_map]
    exact ⟨bk y, List.mem_range.2 (bk_256 y), rfl⟩
  · intro p hp
    rw [List.mem_reverse, sbs, List.mem_map] at hp
    obtain ⟨j, hj, rfl⟩ := hp
    exact ⟨List.mem_range.1 hj, hf j (List.mem_range.1 hj)⟩
end Go.Proofs.YtagacpjeooaapaaGreatDoor
