/-
  The sums of layer 11 as the numbers that a program reckons with. No Go function is spoken of.
-/
import Derived.Test.YtlningdlddnnkaaDoorCrcMath
namespace Go.Proofs.YtlningdlddnnkaaDoor

theorem nv_odd (X : BitVec 32) : (nv X % 2 = 1) ↔ X.getLsbD 0 = true := by
  unfold nv
  rw [show X.getLsbD 0 = X.toNat.testBit 0 from rfl, Nat.testBit_zero]
  simp
  omega
theorem mv_odd {X : BitVec 32} (h : nv X % 2 = 1) : bits .xor .u32 (nv X / 2) 2197175160 = nv (mv X) := by
  have h2 := shr_nv X 1
  rw [show ((2 : Int) ^ 1) = 2 from rfl] at h2
  rw [h2, bits_xor, bv_nv]
  unfold mv
  rw [if_pos ((nv_odd X).1 h)]
  rfl
theorem mv_even {X : BitVec 32} (h : ¬ nv X % 2 = 1) : nv X / 2 = nv (mv X) := by
  have h2 := shr_nv X 1
  rw [show ((2 : Int) ^ 1) = 2 from rfl] at h2
  rw [h2]
  unfold mv
  rw [if_neg (fun h' => h ((nv_odd X).2 h')), BitVec.xor_zero]
theorem mvn_succ (k : Nat) (X : BitVec 32) : mvn (k + 1) X = mv (mvn k X) := by rw [mvn_add]; rfl
theorem xor_nv (X : BitVec 32) (b : Int) : bits .xor .u32 (nv X) b = nv (X ^^^ bv b) := by rw [bits_xor, bv_nv]
theorem nv_inj {X Y : BitVec 32} (h : nv X = nv Y) : X = Y := by
  have h1 : bv (nv X) = bv (nv Y) := by rw [h]
  rwa [bv_nv, bv_nv] at h1
/-- The bytes of a sum, as bits. -/
def bvs (xs : List Int) : List (BitVec 32) := xs.map bv
theorem bvs_len (xs : List Int) : (bvs xs).length = xs.length := List.length_map _
theorem bvs_append (xs ys : List Int) : bvs (xs ++ ys) = bvs xs ++ bvs ys := List.map_append
theorem more_take (s : BitVec 32) (xs : List Int) (j : Nat) (h : j < xs.length) : more s (bvs (xs.take (j + 1))) = mvn 8 (more s (bvs (xs.take j)) ^^^ bv (xs.getD j 0)) := by
  rw [List.take_succ_eq_append_getElem h, bvs_append, more_append, List.getD_eq_getElem?_getD, List.getElem?_eq_getElem h]
  rfl
end Go.Proofs.YtlningdlddnnkaaDoor
