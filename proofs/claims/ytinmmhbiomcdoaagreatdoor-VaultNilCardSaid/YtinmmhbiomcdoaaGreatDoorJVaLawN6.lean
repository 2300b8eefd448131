/-
  Texts of stages that were proved on their own, joined: FrMath. Each begins with its own words.
-/
import Derived.Test.YtinmmhbiomcdoaaGreatDoorJVaLawN3
import Derived.Test.YtinmmhbiomcdoaaGreatDoorJVaLawN5

/-
  Frames on lists of numbers (layer 19): a body's frame, what the first frame of bytes is, the frames one behind the other. No Go function is spoken of.
-/
namespace Go.Proofs.YtinmmhbiomcdoaaGreatDoor
open Go.RowKit

/-- The sum of a body's frame. -/
def sumF (b : List Int) : Int := nv (crcOf 0#32 (bvs (beL (b.length : Int) 4 ++ b)))
theorem sumF_range (b : List Int) : 0 ≤ sumF b ∧ sumF b < 4294967296 := ⟨nv_lo _, nv_hi _⟩
/-- A body's frame. -/
def frB (b : List Int) : List Int := beL (b.length : Int) 4 ++ (beL (sumF b) 4 ++ b)
theorem frB_len (b : List Int) : (frB b).length = 8 + b.length := by
  unfold frB
  rw [List.length_append, List.length_append, beL_len, beL_len]
  omega
theorem frB_range {b : List Int} (h : ∀ x ∈ b, 0 ≤ x ∧ x < 256) : ∀ x ∈ frB b, 0 ≤ x ∧ x < 256 := by
  intro x hx
  unfold frB at hx
  rcases List.mem_append.1 hx with h1 | h1
  · exact beL_range _ _ x h1
  · rcases List.mem_append.1 h1 with h1 | h1
    · exact beL_range _ _ x h1
    · exact h x h1
/-- What One tells of bytes: a body, a size, an error. -/
def oneF (xs : List Int) : List Int × Nat × Int :=
  if xs.length < 4 then ([], 0, 2)
  else if be (xs.take 4) < 1 ∨ 65536 < be (xs.take 4) then ([], 0, 4)
  else if (xs.length : Int) < 8 + be (xs.take 4) then ([], 0, 2)
  else if be ((xs.drop 4).take 4) = sumF ((xs.drop 8).take (be (xs.take 4)).toNat) then ((xs.drop 8).take (be (xs.take 4)).toNat, 8 + (be (xs.take 4)).toNat, 0)
  else ([], 0, 9)
theorem oneF_bad {xs : List Int} (h : (oneF xs).2.2 ≠ 0) : (oneF xs).1 = [] ∧ (oneF xs).2.1 = 0 := by
  unfold oneF at h ⊢
  split
  · exact ⟨rfl, rfl⟩
  · split
    · exact ⟨rfl, rfl⟩
    · split
      · exact ⟨rfl, rfl⟩
      · split
        · rename_i h1 h2 h3 h4
          rw [if_neg h1, if_neg h2, if_neg h3, if_pos h4] at h
          exact absurd rfl h
        · exact ⟨rfl, rfl⟩
theorem oneF_ok {xs : List Int} (h : (oneF xs).2.2 = 0) : (oneF xs).2.1 = 8 + (oneF xs).1.length ∧ 1 ≤ (oneF xs).1.length ∧ (oneF xs).1.length ≤ 65536 ∧ (oneF xs).2.1 ≤ xs.length ∧ (oneF xs).1 = (xs.drop 8).take (oneF xs).1.length := by
  unfold oneF at h ⊢
  split
  · rename_i h1
    rw [if_pos h1] at h
    cases h
  · rename_i h1
    rw [if_neg h1] at h
    split
    · rename_i h2
      rw [if_pos h2] at h
      cases h
    · rename_i h2
      rw [if_neg h2] at h
      split
      · rename_i h3
        rw [if_pos h3] at h
        cases h
      · rename_i h3
        rw [if_neg h3] at h
        split
        · have hl : ((xs.drop 8).take (be (xs.take 4)).toNat).length = (be (xs.take 4)).toNat := by rw [List.length_take, List.length_drop]; omega
          refine ⟨?_, ?_, ?_, ?_, ?_⟩
          · show 8 + (be (xs.take 4)).toNat = 8 + ((xs.drop 8).take (be (xs.take 4)).toNat).length
            rw [hl]
          · show 1 ≤ ((xs.drop 8).take (be (xs.take 4)).toNat).length
            rw [hl]; omega
          · show ((xs.drop 8).take (be (xs.take 4)).toNat).length ≤ 65536
            rw [hl]; omega
          · show 8 + (be (xs.take 4)).toNat ≤ xs.length
            omega
          · show (xs.drop 8).take (be (xs.take 4)).toNat = (xs.drop 8).take ((xs.drop 8).take (be (xs.take 4)).toNat).length
            rw [hl]
        · rename_i h4
          rw [if_neg h4] at h
          cases h
theorem pow256_4 : (256 : Int) ^ 4 = 4294967296 := by decide
theorem be_len4 (n : Nat) (h : n ≤ 65536) : be (beL (n : Int) 4) = n := be_beL 4 n (by omega) (by rw [pow256_4]; omega)
theorem be_sum4 (b : List Int) : be (beL (sumF b) 4) = sumF b := be_beL 4 _ (sumF_range b).1 (by rw [pow256_4]; exact (sumF_range b).2)
theorem frB_take4 (b r : List Int) : (frB b ++ r).take 4 = beL (b.length : Int) 4 := by
  unfold frB
  rw [List.append_assoc, List.take_append_of_le_length (by rw [beL_len]; exact Nat.le_refl _), List.take_of_length_le (by rw [beL_len]; exact Nat.le_refl _)]
theorem frB_mid4 (b r : List Int) : ((frB b ++ r).drop 4).take 4 = beL (sumF b) 4 := by
  unfold frB
  rw [List.append_assoc, List.drop_append_of_le_length (by rw [beL_len]; exact Nat.le_refl _), List.drop_of_length_le (by rw [beL_len]; exact Nat.le_refl _), List.nil_append, List.append_assoc, List.take_append_of_le_length (by rw [beL_len]; exact Nat.le_refl _), List.take_of_length_le (by rw [beL_len]; exact Nat.le_refl _)]
theorem frB_drop8 (b r : List Int) : (frB b ++ r).drop 8 = b ++ r := by
  unfold frB
  have e : beL (b.length : Int) 4 ++ (beL (sumF b) 4 ++ b) ++ r = (beL (b.length : Int) 4 ++ beL (sumF b) 4) ++ (b ++ r) := by simp
  rw [e, List.drop_append_of_le_length (by rw [List.length_append, beL_len, beL_len]; exact Nat.le_refl _), List.drop_of_length_le (by rw [List.length_append, beL_len, beL_len]; exact Nat.le_refl _), List.nil_append]
theorem one_fr (b r : List Int) (h1 : 1 ≤ b.length) (h2 : b.length ≤ 65536) : oneF (frB b ++ r) = (b, 8 + b.length, 0) := by
  have hl : (frB b ++ r).length = 8 + b.length + r.length := by rw [List.length_append, frB_len]
  have hb : (b ++ r).take b.length = b := by rw [List.take_append_of_le_length (Nat.le_refl _), List.take_of_length_le (Nat.le_refl _)]
  unfold oneF
  rw [frB_take4, be_len4 _ h2, frB_mid4, be_sum4, frB_drop8, Int.toNat_natCast, hb, if_neg (by omega), if_neg (by omega), if_neg (by omega), if_pos rfl]
theorem one_torn (b : List Int) (c : Nat) (h1 : 1 ≤ b.length) (h2 : b.length ≤ 65536) (hc : c < 8 + b.length) : oneF ((frB b).take c) = ([], 0, 2) := by
  have hl : ((frB b).take c).length = c := by rw [List.length_take, frB_len]; omega
  unfold oneF
  by_cases h4 : c < 4
  · rw [if_pos (by omega)]
  · have h := frB_take4 b []
    rw [List.append_nil] at h
    rw [if_neg (by omega), List.take_take, show min 4 c = 4 by omega, h, be_len4 _ h2, if_neg (by omega), if_pos (by omega)]
theorem xor_bit_ne {v : Int} {p : Nat} (hv : 0 ≤ v ∧ v < 256) (hp : p < 8) : bits .xor .u8 v (2 ^ p) ≠ v := by
  intro h
  have hb := bit_shl p hp
  have h1 := bv_xor8 hv hb.2
  rw [h, hb.1] at h1
  have h2 : bv v ^^^ bv v = bv v ^^^ (bv v ^^^ 1#32 <<< p) := by rw [← h1]
  rw [BitVec.xor_self, ← BitVec.xor_assoc, BitVec.xor_self, BitVec.zero_xor] at h2
  revert h2
  revert hp
  clear h1 h hb
  revert p
  decide
theorem set_mid (A B C : List Int) (k : Nat) (u : Int) (h1 : A.length ≤ k) (h2 : k < A.length + B.length) : (A ++ (B ++ C)).set k u = A ++ (B.set (k - A.length) u ++ C) := by
  rw [List.set_append, if_neg (by omega), List.set_append, if_pos (by omega)]
theorem set_end (A B C : List Int) (k : Nat) (u : Int) (h1 : A.length + B.length ≤ k) : (A ++ (B ++ C)).set k u = A ++ (B ++ C.set (k - A.length - B.length) u) := by
  rw [List.set_append, if_neg (by omega), List.set_append, if_neg (by omega)]
theorem one_turned (b : List Int) (k p : Nat) (hr : ∀ x ∈ b, 0 ≤ x ∧ x < 256) (h1 : 1 ≤ b.length) (h2 : b.length ≤ 65536) (hk : 4 ≤ k ∧ k < 8 + b.length) (hp : p < 8) : oneF ((frB b).set k (bits .xor .u8 ((frB b).getD k 0) (2 ^ p))) = ([], 0, 9) := by
  have hfr := frB_range hr
  have hv := getD_range (p := fun x => 0 ≤ x ∧ x < 256) hfr k (by rw [frB_len]; omega)
  have hne := xor_bit_ne hv hp
  have hu := xor8_range ((frB b).getD k 0) (2 ^ p)
  have hbe : (b.length : Int) = b.length := rfl
  by_cases h8 : k < 8
  · obtain ⟨u, hu0⟩ : ∃ u, bits .xor .u8 ((frB b).getD k 0) (2 ^ p) = u := ⟨_, rfl⟩
    rw [hu0] at hne hu ⊢
    have e : (frB b).set k u = beL (b.length : Int) 4 ++ ((beL (sumF b) 4).set (k - 4) u ++ b) := by
      unfold frB
      rw [set_mid _ _ _ _ _ (by rw [beL_len]; omega) (by rw [beL_len, beL_len]; omega), beL_len]
    have hg : (frB b).getD k 0 = (beL (sumF b) 4).getD (k - 4) 0 := by
      unfold frB
      rw [List.getD_eq_getElem?_getD, List.getElem?_append_right (by rw [beL_len]; omega), beL_len, List.getElem?_append_left (by rw [beL_len]; omega), ← List.getD_eq_getElem?_getD]
    rw [hg] at hne
    obtain ⟨M, hM⟩ : ∃ M, (beL (sumF b) 4).set (k - 4) u = M := ⟨_, rfl⟩
    have hMl : M.length = 4 := by rw [← hM, List.length_set, beL_len]
    have hMr : ∀ x ∈ M, 0 ≤ x ∧ x < 256 := by
      rw [← hM]
      intro x hx
      rcases List.mem_or_eq_of_mem_set hx with h | h
      · exact beL_range _ _ x h
      · rw [h]; exact hu
    have hMg : M.getD (k - 4) 0 = u := by
      rw [← hM, List.getD_eq_getElem?_getD, List.getElem?_set_self (by rw [beL_len]; omega)]
      rfl
    have hMn : be M ≠ sumF b := by
      intro h
      have h5 := beL_be M hMr
      rw [h, hMl] at h5
      rw [h5, hMg] at hne
      exact hne rfl
    rw [hM] at e
    rw [e]
    have t4 : (beL (b.length : Int) 4 ++ (M ++ b)).take 4 = beL (b.length : Int) 4 := by rw [List.take_append_of_le_length (by rw [beL_len]; exact Nat.le_refl _), List.take_of_length_le (by rw [beL_len]; exact Nat.le_refl _)]
    have d4 : ((beL (b.length : Int) 4 ++ (M ++ b)).drop 4).take 4 = M := by rw [List.drop_append_of_le_length (by rw [beL_len]; exact Nat.le_refl _), List.drop_of_length_le (by rw [beL_len]; exact Nat.le_refl _), List.nil_append, List.take_append_of_le_length (by omega), List.take_of_length_le (by omega)]
    have d8 : (beL (b.length : Int) 4 ++ (M ++ b)).drop 8 = b := by rw [← List.append_assoc, List.drop_append_of_le_length (by rw [List.length_append, beL_len]; omega), List.drop_of_length_le (by rw [List.length_append, beL_len]; omega), List.nil_append]
    have hl : (beL (b.length : Int) 4 ++ (M ++ b)).length = 8 + b.length := by rw [List.length_append, List.length_append, beL_len]; omega
    unfold oneF
    rw [t4, d4, d8, be_len4 _ h2, Int.toNat_natCast, List.take_of_length_le (Nat.le_refl _), if_neg (by omega), if_neg (by omega), if_neg (by omega), if_neg hMn]
  · have hg : (frB b).getD k 0 = (beL (b.length : Int) 4 ++ b).getD (k - 4) 0 := by
      unfold frB
      rw [List.getD_eq_getElem?_getD, List.getElem?_append_right (by rw [beL_len]; omega), beL_len, List.getElem?_append_right (by rw [beL_len]; omega), beL_len, List.getD_eq_getElem?_getD, List.getElem?_append_right (by rw [beL_len]; omega), beL_len]
    rw [hg] at hne hu ⊢
    have hyr : ∀ x ∈ beL (b.length : Int) 4 ++ b, 0 ≤ x ∧ x < 256 := fun x hx => (List.mem_append.1 hx).elim (beL_range _ _ x) (hr x)
    have hyl : (beL (b.length : Int) 4 ++ b).length = 4 + b.length := by rw [List.length_append, beL_len]
    have hmt := more_turned (beL (b.length : Int) 4 ++ b) (8 * (k - 4) + p) (4 + b.length) hyl (by omega) hyr (0#32 ^^^ 4294967295#32)
    rw [show (8 * (k - 4) + p) / 8 = k - 4 by omega, show (8 * (k - 4) + p) % 8 = p by omega] at hmt
    obtain ⟨u, hu0⟩ : ∃ u, bits .xor .u8 ((beL (b.length : Int) 4 ++ b).getD (k - 4) 0) (2 ^ p) = u := ⟨_, rfl⟩
    rw [hu0] at hmt ⊢
    have hmx := turned_ne hmt (by decide)
    have e2 : (beL (b.length : Int) 4 ++ b).set (k - 4) u = beL (b.length : Int) 4 ++ b.set (k - 8) u := by
      rw [List.set_append, if_neg (by rw [beL_len]; omega), beL_len, show k - 4 - 4 = k - 8 by omega]
    rw [e2] at hmx
    have e : (frB b).set k u = beL (b.length : Int) 4 ++ (beL (sumF b) 4 ++ b.set (k - 8) u) := by
      unfold frB
      rw [set_end _ _ _ _ _ (by rw [beL_len, beL_len]; omega), beL_len, beL_len, show k - 4 - 4 = k - 8 by omega]
    obtain ⟨c, hc⟩ : ∃ c, b.set (k - 8) u = c := ⟨_, rfl⟩
    have hcl : c.length = b.length := by rw [← hc, List.length_set]
    rw [hc] at e hmx
    have hsn : ¬ sumF b = sumF c := by
      intro h
      apply hmx
      unfold sumF at h
      rw [hcl] at h
      exact h.symm
    rw [e]
    have t4 : (beL (b.length : Int) 4 ++ (beL (sumF b) 4 ++ c)).take 4 = beL (b.length : Int) 4 := by rw [List.take_append_of_le_length (by rw [beL_len]; exact Nat.le_refl _), List.take_of_length_le (by rw [beL_len]; exact Nat.le_refl _)]
    have d4 : ((beL (b.length : Int) 4 ++ (beL (sumF b) 4 ++ c)).drop 4).take 4 = beL (sumF b) 4 := by rw [List.drop_append_of_le_length (by rw [beL_len]; exact Nat.le_refl _), List.drop_of_length_le (by rw [beL_len]; exact Nat.le_refl _), List.nil_append, List.take_append_of_le_length (by rw [beL_len]; exact Nat.le_refl _), List.take_of_length_le (by rw [beL_len]; exact Nat.le_refl _)]
    have d8 : (beL (b.length : Int) 4 ++ (beL (sumF b) 4 ++ c)).drop 8 = c := by rw [← List.append_assoc, List.drop_append_of_le_length (by rw [List.length_append, beL_len, beL_len]; exact Nat.le_refl _), List.drop_of_length_le (by rw [List.length_append, beL_len, beL_len]; exact Nat.le_refl _), List.nil_append]
    have hl : (beL (b.length : Int) 4 ++ (beL (sumF b) 4 ++ c)).length = 8 + b.length := by rw [List.length_append, List.length_append, beL_len, beL_len]; omega
    unfold oneF
    rw [t4, d4, d8, be_len4 _ h2, Int.toNat_natCast, List.take_of_length_le (by omega), be_sum4, if_neg (by omega), if_neg (by omega), if_neg (by omega), if_neg hsn]

/-- The place behind k frames, as far as there are any. -/
def atF (xs : List Int) : Nat → Nat
  | 0 => 0
  | k + 1 => atF xs k + (oneF (xs.drop (atF xs k))).2.1
def bodyF (xs : List Int) (k : Nat) : List Int := (oneF (xs.drop (atF xs k))).1
def errF (xs : List Int) (k : Nat) : Int := (oneF (xs.drop (atF xs k))).2.2
/-- Bytes begin with K frames, and no more. -/
structure Fr (xs : List Int) (K : Nat) : Prop where
  ok : ∀ k, k < K → errF xs k = 0
  stop : errF xs K ≠ 0
theorem atF_le {xs : List Int} {m : Nat} (h : ∀ k, k < m → errF xs k = 0) : ∀ k, k ≤ m → 9 * k ≤ atF xs k ∧ atF xs k ≤ xs.length := by
  intro k
  induction k with
  | zero => intro _; exact ⟨Nat.le_refl _, Nat.zero_le _⟩
  | succ k ih =>
    intro hk
    have h1 := ih (by omega)
    obtain ⟨e1, e2, _, e4, _⟩ := oneF_ok (h k (by omega))
    rw [List.length_drop] at e4
    show 9 * (k + 1) ≤ atF xs k + (oneF (xs.drop (atF xs k))).2.1 ∧ atF xs k + (oneF (xs.drop (atF xs k))).2.1 ≤ xs.length
    omega
theorem atF_succ {xs : List Int} {k : Nat} (h : errF xs k = 0) : atF xs (k + 1) = atF xs k + (8 + (bodyF xs k).length) := by
  obtain ⟨e1, _⟩ := oneF_ok h
  show atF xs k + (oneF (xs.drop (atF xs k))).2.1 = _
  rw [e1]
  rfl
theorem fr_from (xs : List Int) : ∀ (n m : Nat), (∀ k, k < m → errF xs k = 0) → xs.length < n + 9 * m → ∃ K, Fr xs K := by
  intro n
  induction n with
  | zero =>
    intro m h hl
    have := atF_le h m (Nat.le_refl _)
    omega
  | succ n ih =>
    intro m h hl
    by_cases he : errF xs m = 0
    · refine ih (m + 1) (fun k hk => ?_) (by omega)
      by_cases hkm : k = m
      · rw [hkm]; exact he
      · exact h k (by omega)
    · exact ⟨m, h, he⟩
theorem fr_ex (xs : List Int) : ∃ K, Fr xs K := fr_from xs (xs.length + 1) 0 (fun k hk => by omega) (by omega)
theorem Fr.at {xs : List Int} {K : Nat} (h : Fr xs K) {k : Nat} (hk : k ≤ K) : 9 * k ≤ atF xs k ∧ atF xs k ≤ xs.length := atF_le h.ok k hk
theorem Fr.body {xs : List Int} {K : Nat} (h : Fr xs K) {k : Nat} (hk : k < K) : 1 ≤ (bodyF xs k).length ∧ (bodyF xs k).length ≤ 65536 ∧ atF xs (k + 1) = atF xs k + (8 + (bodyF xs k).length) ∧ atF xs (k + 1) ≤ xs.length := by
  obtain ⟨_, e2, e3, _, _⟩ := oneF_ok (h.ok k hk)
  exact ⟨e2, e3, atF_succ (h.ok k hk), (h.at hk).2⟩
theorem bodyF_range {xs : List Int} (hr : ∀ x ∈ xs, 0 ≤ x ∧ x < 256) (k : Nat) : ∀ x ∈ bodyF xs k, 0 ≤ x ∧ x < 256 := by
  by_cases h : errF xs k = 0
  · obtain ⟨_, _, _, _, e5⟩ := oneF_ok h
    intro x hx
    unfold bodyF at hx
    rw [e5] at hx
    exact hr x (List.mem_of_mem_drop (List.mem_of_mem_drop (List.mem_of_mem_take hx)))
  · intro x hx
    unfold bodyF at hx
    rw [(oneF_bad h).1] at hx
    cases hx
/-- The first k bodies. -/
def bodiesF (xs : List Int) (k : Nat) : List (List Int) := (List.range k).map (bodyF xs)
theorem bodiesF_succ (xs : List Int) (k : Nat) : bodiesF xs (k + 1) = bodiesF xs k ++ [bodyF xs k] := by simp [bodiesF, List.range_succ]
theorem bodiesF_len (xs : List Int) (k : Nat) : (bodiesF xs k).length = k := by simp [bodiesF]
theorem bodiesF_at (xs : List Int) (k i : Nat) (h : i < k) : (bodiesF xs k)[i]? = some (bodyF xs i) := by simp [bodiesF, h]

/-- Frames one behind the other, and a beginning of one more. -/
theorem torn_drop (L : List (List Int)) (t : List Int) (k : Nat) : ((L.map frB).flatten ++ t).drop ((L.take k).map frB).flatten.length = ((L.drop k).map frB).flatten ++ t := by
  have e : (L.map frB).flatten = ((L.take k).map frB).flatten ++ ((L.drop k).map frB).flatten := by rw [← List.flatten_append, ← List.map_append, List.take_append_drop]
  rw [e, List.append_assoc, List.drop_append_of_le_length (Nat.le_refl _), List.drop_of_length_le (Nat.le_refl _), List.nil_append]
theorem torn_one (L : List (List Int)) (t : List Int) (hL : ∀ b ∈ L, 1 ≤ b.length ∧ b.length ≤ 65536) (k : Nat) (hk : k < L.length) : oneF (((L.drop k).map frB).flatten ++ t) = (L[k], 8 + L[k].length, 0) := by
  have h := hL L[k] (List.getElem_mem _)
  rw [List.drop_eq_getElem_cons hk, List.map_cons, List.flatten_cons, List.append_assoc]
  exact one_fr _ _ h.1 h.2
theorem torn_snoc (L : List (List Int)) (k : Nat) (hk : k < L.length) : ((L.take (k + 1)).map frB).flatten.length = ((L.take k).map frB).flatten.length + (8 + L[k].length) := by
  have e : L.take (k + 1) = L.take k ++ [L[k]] := by rw [List.take_add_one, List.getElem?_eq_getElem hk]; rfl
  rw [e, List.map_append, List.flatten_append, List.length_append]
  simp [frB_len]
theorem torn_at (L : List (List Int)) (t : List Int) (hL : ∀ b ∈ L, 1 ≤ b.length ∧ b.length ≤ 65536) : ∀ k, k ≤ L.length → atF ((L.map frB).flatten ++ t) k = ((L.take k).map frB).flatten.length := by
  intro k
  induction k with
  | zero => intro _; rfl
  | succ k ih =>
    intro hk
    have h1 := ih (by omega)
    show atF _ k + (oneF (((L.map frB).flatten ++ t).drop (atF _ k))).2.1 = _
    rw [h1, torn_drop, torn_one L t hL k (by omega), torn_snoc L k (by omega)]
theorem torn_fr (L : List (List Int)) (t : List Int) (hL : ∀ b ∈ L, 1 ≤ b.length ∧ b.length ≤ 65536) (ht : (oneF t).2.2 ≠ 0) :
    Fr ((L.map frB).flatten ++ t) L.length ∧ bodiesF ((L.map frB).flatten ++ t) L.length = L ∧ atF ((L.map frB).flatten ++ t) L.length = (L.map frB).flatten.length := by
  have hA := torn_at L t hL
  have hall : ((L.take L.length).map frB).flatten = (L.map frB).flatten := by rw [List.take_of_length_le (Nat.le_refl _)]
  refine ⟨⟨fun k hk => ?_, ?_⟩, ?_, ?_⟩
  · unfold errF
    rw [hA k (by omega), torn_drop, torn_one L t hL k hk]
  · unfold errF
    rw [hA _ (Nat.le_refl _), torn_drop, List.drop_of_length_le (Nat.le_refl _)]
    exact ht
  · apply List.ext_getElem?
    intro i
    by_cases hi : i < L.length
    · rw [bodiesF_at _ _ _ hi, List.getElem?_eq_getElem hi]
      unfold bodyF
      rw [hA i (by omega), torn_drop, torn_one L t hL i hi]
    · rw [List.getElem?_eq_none (by rw [bodiesF_len]; omega), List.getElem?_eq_none (by omega)]
  · rw [hA _ (Nat.le_refl _), hall]
end Go.Proofs.YtinmmhbiomcdoaaGreatDoor
