/-
  What the calls of package word that turn a word, and the document's own answers to them, come to: a turn by the number's rest by 32. Conditions: the word is a number from 0 to 2^32 - 1.
-/
import Derived.Test.YtagacpjeooaapaaGreatDoorWordMath
import Derived.Test.YtagacpjeooaapaaGreatDoorRows
import Derived.WalkSpells
import Derived.Lib.Hide
import Derived.WalkLawsBesides
namespace Go.Proofs.YtagacpjeooaapaaGreatDoor
open Go.RowKit

set_option maxRecDepth 100000 in
set_option maxHeartbeats 400000 in
theorem places_any (a : Int) (w : World) :
    Calls Tryz.prog 110 #[.int .i64 a] w fun e w' => e = .returned (.int .i64 (a % 32)) ∧ w = w' := by
  have h := and31_i64 a
  go_enter Tryz.func110, Tryz.ntmps110
  go_wp2
  go_ret
  exact ⟨rfl, rfl⟩

theorem ret_u32 {a b : Int} (h : a = b) : Ending.returned (.int .u32 a) = .returned (.int .u32 b) := by rw [h]
set_option maxRecDepth 100000 in
set_option maxHeartbeats 400000 in
theorem rotateLeft32_any (a b : Int) (w : World) (h0 : 0 ≤ a) (h1 : a < 4294967296) :
    Calls Tryz.prog 109 #[.int .u32 a, .int .i64 b] w fun e w' => e = .returned (.int .u32 (rotl a b)) ∧ w = w' := by
  have hs := and31_u64 b
  obtain ⟨k, hk, hkl⟩ : ∃ k : Nat, b % 32 = k ∧ k < 32 := ⟨r32 b, (r32_cast b).symm, r32_lt b⟩
  rw [hk] at hs
  have H := Lib.hid (rotl_eq a b k hk.symm); clear hk
  have G := Lib.hid (wrap_rl a k h0 h1 hkl)
  go_enter Tryz.func109, Tryz.ntmps109
  go_wp2
  go_ret
  refine ⟨ret_u32 ?_, rfl⟩
  rw [← H.out, ← G.out, IntKind.wrap_u32]

set_option maxRecDepth 100000 in
set_option maxHeartbeats 400000 in
theorem left_any (a b : Int) (w : World) (h0 : 0 ≤ a) (h1 : a < 4294967296) :
    Calls Tryz.prog 106 #[.int .u32 a, .int .i64 b] w fun e w' => e = .returned (.int .u32 (rotl a b)) ∧ w = w' := by
  have H := Lib.hid (show rotl a (b % 32) = rotl a b from by unfold rotl r32; rw [Int.emod_emod_of_dvd _ (Int.dvd_refl 32)])
  go_enter Tryz.func106, Tryz.ntmps106
  go_wp2_with (first | (go_at_call 110; refine (places_any _ _).mono ?_; rintro e w' ⟨rfl, rfl⟩) | (go_at_call 109; refine (rotateLeft32_any _ _ _ h0 h1).mono ?_; rintro e w' ⟨rfl, rfl⟩))
  go_ret
  exact ⟨ret_u32 H.out, rfl⟩

set_option maxRecDepth 100000 in
set_option maxHeartbeats 400000 in
theorem right_any (a b : Int) (w : World) (h0 : 0 ≤ a) (h1 : a < 4294967296) :
    Calls Tryz.prog 100 #[.int .u32 a, .int .i64 b] w fun e w' => e = .returned (.int .u32 (rotr a b)) ∧ w = w' := by
  have H := Lib.hid (rotl_neg a b (-(b % 32)) (by omega))
  go_enter Tryz.func100, Tryz.ntmps100
  go_wp2_with (first | (go_at_call 110; refine (places_any _ _).mono ?_; rintro e w' ⟨rfl, rfl⟩) | (go_at_call 109; refine (rotateLeft32_any _ _ _ h0 h1).mono ?_; rintro e w' ⟨rfl, rfl⟩))
  go_ret
  exact ⟨ret_u32 H.out, rfl⟩

theorem rl_step (a : Int) (k : Nat) (h : k + 1 < 32) : 2 * nv ((bv a).rotateLeft k) % 4294967296 + nv ((bv a).rotateLeft k) / 2147483648 = nv ((bv a).rotateLeft (k + 1)) := by
  rw [← rl_succ _ _ h, rl_one]
theorem rr_step (a : Int) (k : Nat) (h : k + 1 < 32) : nv ((bv a).rotateRight k) / 2 + nv ((bv a).rotateRight k) % 2 * 2147483648 = nv ((bv a).rotateRight (k + 1)) := by
  rw [← rr_succ _ _ h, rr_one]

/-- The rest that Go's own sign gives, then 32 added where it is below 0. -/
theorem rest_cases (b : Int) : (b.tmod 32 < 0 ∧ b.tmod 32 = (r32 b : Int) - 32) ∨ (0 ≤ b.tmod 32 ∧ b.tmod 32 = (r32 b : Int)) := by
  rw [r32_cast]
  have h := Int.tmod_eq_emod (a := b) (b := 32)
  split at h <;> omega
end Go.Proofs.YtagacpjeooaapaaGreatDoor
