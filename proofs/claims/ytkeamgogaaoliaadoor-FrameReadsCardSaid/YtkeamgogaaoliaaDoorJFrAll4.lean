/-
  Texts of stages that were proved on their own, joined: CrcBits. Each begins with its own words.
-/
import Derived.Test.YtkeamgogaaoliaaDoorJFrAll3
import Derived.Test.YtkeamgogaaoliaaDoorByteMath
import Derived.Test.YtkeamgogaaoliaaDoorSlices

/-
  A bit of bytes turned, and what that does to their sum: on numbers. No Go function is spoken of.
-/
namespace Go.Proofs.YtkeamgogaaoliaaDoor
open Go.RowKit

theorem turn_set (l : List (BitVec 32)) : ∀ t, t < 8 * l.length → turn l t = l.set (t / 8) (l.getD (t / 8) 0#32 ^^^ (1#32 <<< (t % 8))) := by
  induction l with
  | nil => intro t h; simp at h
  | cons b bs ih =>
    intro t h
    rw [List.length_cons] at h
    unfold turn
    by_cases h8 : t < 8
    · rw [if_pos h8, show t / 8 = 0 by omega, Nat.mod_eq_of_lt h8]
      rfl
    · rw [if_neg h8, ih (t - 8) (by omega)]
      have e : t / 8 = (t - 8) / 8 + 1 := by omega
      have e2 : t % 8 = (t - 8) % 8 := by omega
      rw [e, e2]
      rfl
theorem bv_nv8 (z : BitVec 8) : bv (nv8 z) = z.setWidth 32 := by
  unfold nv8
  rw [bv_natCast]
  apply BitVec.eq_of_toNat_eq
  simp
theorem bv_xor8 {a b : Int} (ha : 0 ≤ a ∧ a < 256) (hb : 0 ≤ b ∧ b < 256) : bv (bits .xor .u8 a b) = bv a ^^^ bv b := by
  obtain ⟨x, rfl⟩ := bv8_range a ha.1 ha.2
  obtain ⟨y, rfl⟩ := bv8_range b hb.1 hb.2
  rw [xor8, bv8_nv8, bv8_nv8, bv_nv8, bv_nv8, bv_nv8]
  apply BitVec.eq_of_getLsbD_eq
  intro i hi
  simp [hi]
theorem bit_shl (p : Nat) (h : p < 8) : bv (2 ^ p) = 1#32 <<< p ∧ (0 : Int) ≤ 2 ^ p ∧ (2 : Int) ^ p < 256 := by
  revert h
  revert p
  decide
theorem bvs_set (zs : List Int) (k : Nat) (v : Int) : bvs (zs.set k v) = (bvs zs).set k (bv v) := List.map_set
theorem bvs_getD (zs : List Int) (k : Nat) (h : k < zs.length) : (bvs zs).getD k 0#32 = bv (zs.getD k 0) := by
  unfold bvs
  rw [List.getD_eq_getElem?_getD, List.getElem?_map, List.getD_eq_getElem?_getD, List.getElem?_eq_getElem h]
  rfl
/-- One turned bit of numbers. -/
theorem more_turned (zs : List Int) (t n : Nat) (hn : zs.length = n) (ht : t < 8 * n) (hr : ∀ z ∈ zs, 0 ≤ z ∧ z < 256) (s : BitVec 32) :
    more s (bvs (zs.set (t / 8) (bits .xor .u8 (zs.getD (t / 8) 0) (2 ^ (t % 8))))) = more s (bvs zs) ^^^ mvn (8 * n - t) 1#32 := by
  have hk : t / 8 < zs.length := by omega
  have hz := getD_range (p := fun x => 0 ≤ x ∧ x < 256) hr (t / 8) hk
  have hb := bit_shl (t % 8) (Nat.mod_lt _ (by decide))
  rw [bvs_set, bv_xor8 hz hb.2, hb.1, ← bvs_getD zs (t / 8) hk, ← turn_set _ _ (by rw [bvs_len, hn]; exact ht), more_turn _ _ _ (by rw [bvs_len, hn]; exact ht), bvs_len, hn]
theorem shr_odd (Y : BitVec 32) (i : Nat) : (nv Y / 2 ^ i % 2 = 1) ↔ Y.getLsbD i = true := by
  rw [shr_nv, nv_odd, BitVec.getLsbD_ushiftRight, Nat.add_zero]
theorem turned_ne {s : BitVec 32} {xs zs : List Int} {Y : BitVec 32} {N : Nat} (h : more (s ^^^ 4294967295#32) (bvs zs) = more (s ^^^ 4294967295#32) (bvs xs) ^^^ mvn N Y) (hY : Y ≠ 0#32) : nv (crcOf s (bvs zs)) ≠ nv (crcOf s (bvs xs)) := by
  intro he
  have h1 := nv_inj he
  unfold crcOf at h1
  rw [h] at h1
  apply hY
  apply mvn_eq_zero N
  have h2 : ∀ a d f : BitVec 32, (a ^^^ d) ^^^ f = a ^^^ f → d = 0#32 := by
    intro a d f h
    have h3 : a ^^^ ((a ^^^ d) ^^^ f) ^^^ f = a ^^^ (a ^^^ f) ^^^ f := by rw [h]
    rw [← BitVec.xor_assoc, ← BitVec.xor_assoc, ← BitVec.xor_assoc, BitVec.xor_self, BitVec.zero_xor, BitVec.zero_xor, BitVec.xor_assoc, BitVec.xor_self, BitVec.xor_zero] at h3
    exact h3
  exact h2 _ _ _ h1
end Go.Proofs.YtkeamgogaaoliaaDoor
