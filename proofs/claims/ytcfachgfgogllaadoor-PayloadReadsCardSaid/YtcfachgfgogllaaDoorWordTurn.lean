/-
  What the calls of package word that turn a word, and the document's own answers to them, come to: a turn by the number's rest by 32. Conditions: the word is a number from 0 to 2^32 - 1.
-/
import Derived.Test.YtcfachgfgogllaaDoorWordMath
import Derived.Test.YtcfachgfgogllaaDoorRows
import Derived.WalkSpells
import Derived.Lib.Hide
import Derived.WalkLawsBesides
namespace Go.Proofs.YtcfachgfgogllaaDoor
open Go.RowKit

set_option maxRecDepth 100000 in
set_option maxHeartbeats 400000 in
theorem places_any (a : Int) (w : World) :
    Calls Tryd.prog 78 #[.int .i64 a] w fun e w' => e = .returned (.int .i64 (a % 32)) ∧ w = w' := by
  have h := and31_i64 a
  go_enter Tryd.func78, Tryd.ntmps78
  go_wp2
  go_ret
  exact ⟨rfl, rfl⟩

theorem ret_u32 {a b : Int} (h : a = b) : Ending.returned (.int .u32 a) = .returned (.int .u32 b) := by rw [h]
set_option maxRecDepth 100000 in
set_option maxHeartbeats 400000 in
theorem rotateLeft32_any (a b : Int) (w : World) (h0 : 0 ≤ a) (h1 : a < 4294967296) :
    Calls Tryd.prog 77 #[.int .u32 a, .int .i64 b] w fun e w' => e = .returned (.int .u32 (rotl a b)) ∧ w = w' := by
  have hs := and31_u64 b
  obtain ⟨k, hk, hkl⟩ : ∃ k : Nat, b % 32 = k ∧ k < 32 := ⟨r32 b, (r32_cast b).symm, r32_lt b⟩
  rw [hk] at hs
  have H := Lib.hid (rotl_eq a b k hk.symm); clear hk
  have G := Lib.hid (wrap_rl a k h0 h1 hkl)
  go_enter Tryd.func77, Tryd.ntmps77
  go_wp2
  go_ret
  refine ⟨ret_u32 ?_, rfl⟩
  rw [← H.out, ← G.out, IntKind.wrap_u32]

set_option maxRecDepth 100000 in
set_option maxHeartbeats 400000 in
theorem right_any (a b : Int) (w : World) (h0 : 0 ≤ a) (h1 : a < 4294967296) :
    Calls Tryd.prog 76 #[.int .u32 a, .int .i64 b] w fun e w' => e = .returned (.int .u32 (rotr a b)) ∧ w = w' := by
  have H := Lib.hid (rotl_neg a b (-(b % 32)) (by omega))
  go_enter Tryd.func76, Tryd.ntmps76
  go_wp2_with (first | (go_at_call 78; refine (places_any _ _).mono ?_; rintro e w' ⟨rfl, rfl⟩) | (go_at_call 77; refine (rotateLeft32_any _ _ _ h0 h1).mono ?_; rintro e w' ⟨rfl, rfl⟩))
  go_ret
  exact ⟨ret_u32 H.out, rfl⟩

theorem rl_step (a : Int) (k : Nat) (h : k + 1 < 32) : 2 * nv ((bv a).rotateLeft k) % 4294967296 + nv ((bv a).rotateLeft k) / 2147483648 = nv ((bv a).rotateLeft (k + 1)) := by
  rw [← rl_succ _ _ h, rl_one]
theorem rr_step (a : Int) (k : Nat) (h : k + 1 < 32) : nv ((bv a).rotateRight k) / 2 + nv ((bv a).rotateRight k) % 2 * 2147483648 = nv ((bv a).rotateRight (k + 1)) := by
  rw [← rr_succ _ _ h, rr_one]

/-- The rest that Go's own sign gives, then 32 added where it is below 0. -/
theorem rest_cases (b : Int) : (b.tmod 32 < 0 ∧ b.tmod 32 = (r32 b : Int) - 32) ∨ (0 ≤ b.tmod 32 ∧ b.tmod 32 = (r32 b : Int)) := by
  rw [r32_cast]
  have h := Int.tmod_eq_emod (a := b) (b := 32)
  split at h <;> omega
end Go.Proofs.YtcfachgfgogllaaDoor
