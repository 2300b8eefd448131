/-
  Bytes as numbers from 0 to 255 beside their 8 bits: xor and or; plain facts, no Go. No conditions but those that each row names.
-/
import Derived.WalkKit
namespace Go.Proofs.YtinmmhbiomcdoaaGreatDoor
def bv8 (a : Int) : BitVec 8 := BitVec.ofInt 8 a
def nv8 (x : BitVec 8) : Int := (x.toNat : Int)
theorem nv8_lo (x : BitVec 8) : 0 ≤ nv8 x := by unfold nv8; omega
theorem nv8_hi (x : BitVec 8) : nv8 x < 256 := by unfold nv8; have := x.isLt; omega
theorem bv8_nv8 (x : BitVec 8) : bv8 (nv8 x) = x := by unfold bv8 nv8; simp
theorem nv8_bv8 (a : Int) (h0 : 0 ≤ a) (h1 : a < 256) : nv8 (bv8 a) = a := by
  unfold bv8 nv8; rw [BitVec.toNat_ofInt]; omega
theorem bv8_range (a : Int) (h0 : 0 ≤ a) (h1 : a < 256) : ∃ x : BitVec 8, a = nv8 x := ⟨bv8 a, (nv8_bv8 a h0 h1).symm⟩
theorem nv8_inj {x y : BitVec 8} (h : nv8 x = nv8 y) : x = y := by
  have := congrArg bv8 h
  rwa [bv8_nv8, bv8_nv8] at this
theorem wrap_nv8 (x : BitVec 8) : IntKind.u8.wrap (x.toNat : Int) = nv8 x := by
  rw [IntKind.wrap_u8]; have := x.isLt; unfold nv8; omega
theorem xor8 (a b : Int) : bits .xor .u8 a b = nv8 (bv8 a ^^^ bv8 b) := wrap_nv8 _
theorem or8 (a b : Int) : bits .or .u8 a b = nv8 (bv8 a ||| bv8 b) := wrap_nv8 _
theorem and8 (a b : Int) : bits .and .u8 a b = nv8 (bv8 a &&& bv8 b) := wrap_nv8 _
theorem xor8_range (a b : Int) : 0 ≤ bits .xor .u8 a b ∧ bits .xor .u8 a b < 256 := by rw [xor8]; exact ⟨nv8_lo _, nv8_hi _⟩
theorem or8_range (a b : Int) : 0 ≤ bits .or .u8 a b ∧ bits .or .u8 a b < 256 := by rw [or8]; exact ⟨nv8_lo _, nv8_hi _⟩
theorem nv8_zero {x : BitVec 8} : nv8 x = 0 ↔ x = 0 := ⟨fun h => nv8_inj (h.trans (by decide)), fun h => by subst h; decide⟩
theorem xor8_zero {a b : Int} (ha : 0 ≤ a ∧ a < 256) (hb : 0 ≤ b ∧ b < 256) : bits .xor .u8 a b = 0 ↔ a = b := by
  obtain ⟨x, rfl⟩ := bv8_range a ha.1 ha.2
  obtain ⟨y, rfl⟩ := bv8_range b hb.1 hb.2
  rw [xor8, bv8_nv8, bv8_nv8, nv8_zero]
  constructor
  · intro h
    have : x ^^^ y ^^^ y = 0 ^^^ y := by rw [h]
    rw [BitVec.xor_assoc, BitVec.xor_self] at this
    simp at this
    rw [this]
  · intro h
    rw [nv8_inj h, BitVec.xor_self]; rfl
theorem or8_zero {a b : Int} (ha : 0 ≤ a ∧ a < 256) (hb : 0 ≤ b ∧ b < 256) : bits .or .u8 a b = 0 ↔ a = 0 ∧ b = 0 := by
  obtain ⟨x, rfl⟩ := bv8_range a ha.1 ha.2
  obtain ⟨y, rfl⟩ := bv8_range b hb.1 hb.2
  rw [or8, bv8_nv8, bv8_nv8, nv8_zero, nv8_zero, nv8_zero]
  exact BitVec.or_eq_zero_iff
theorem xor8_ne {a b : Int} (ha : 0 ≤ a ∧ a < 256) (hb : 0 ≤ b ∧ b < 256) (h0 : b ≠ 0) : bits .xor .u8 a b ≠ a := by
  obtain ⟨x, rfl⟩ := bv8_range a ha.1 ha.2
  obtain ⟨y, rfl⟩ := bv8_range b hb.1 hb.2
  intro h
  rw [xor8, bv8_nv8, bv8_nv8] at h
  have h1 := nv8_inj h
  apply h0
  rw [nv8_zero]
  have : x ^^^ (x ^^^ y) = x ^^^ x := by rw [h1]
  rw [← BitVec.xor_assoc, BitVec.xor_self] at this
  simpa using this
end Go.Proofs.YtinmmhbiomcdoaaGreatDoor
