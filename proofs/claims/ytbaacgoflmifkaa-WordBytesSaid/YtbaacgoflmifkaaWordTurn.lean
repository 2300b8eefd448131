/-
  What the calls of package word that turn a word, and the document's own answers to them, come to: a turn by the number's rest by 32. Conditions: the word is a number from 0 to 2^32 - 1.
-/
import Derived.Test.YtbaacgoflmifkaaWordMath
import Derived.Test.YtbaacgoflmifkaaRows
import Derived.WalkSpells
import Derived.Lib.Hide
import Derived.WalkLawsBesides
namespace Go.Proofs.Ytbaacgoflmifkaa
open Go.RowKit

set_option maxHeartbeats 400000 in
theorem places_any (a : Int) (w : World) :
    Calls Try.prog 23 #[.int .i64 a] w fun e w' => e = .returned (.int .i64 (a % 32)) ∧ w = w' := by
  have h := and31_i64 a
  go_enter Try.func23, Try.ntmps23
  go_wp2
  go_ret
  exact ⟨rfl, rfl⟩

theorem ret_u32 {a b : Int} (h : a = b) : Ending.returned (.int .u32 a) = .returned (.int .u32 b) := by rw [h]
set_option maxHeartbeats 400000 in
theorem rotateLeft32_any (a b : Int) (w : World) (h0 : 0 ≤ a) (h1 : a < 4294967296) :
    Calls Try.prog 22 #[.int .u32 a, .int .i64 b] w fun e w' => e = .returned (.int .u32 (rotl a b)) ∧ w = w' := by
  have hs := and31_u64 b
  obtain ⟨k, hk, hkl⟩ : ∃ k : Nat, b % 32 = k ∧ k < 32 := ⟨r32 b, (r32_cast b).symm, r32_lt b⟩
  rw [hk] at hs
  have H := Lib.hid (rotl_eq a b k hk.symm); clear hk
  have G := Lib.hid (wrap_rl a k h0 h1 hkl)
  go_enter Try.func22, Try.ntmps22
  go_wp2
  go_ret
  refine ⟨ret_u32 ?_, rfl⟩
  rw [← H.out, ← G.out, IntKind.wrap_u32]

set_option maxHeartbeats 400000 in
theorem left_any (a b : Int) (w : World) (h0 : 0 ≤ a) (h1 : a < 4294967296) :
    Calls Try.prog 6 #[.int .u32 a, .int .i64 b] w fun e w' => e = .returned (.int .u32 (rotl a b)) ∧ w = w' := by
  have H := Lib.hid (show rotl a (b % 32) = rotl a b from by unfold rotl r32; rw [Int.emod_emod_of_dvd _ (Int.dvd_refl 32)])
  go_enter Try.func6, Try.ntmps6
  go_wp2_with (first | (go_at_call 23; refine (places_any _ _).mono ?_; rintro e w' ⟨rfl, rfl⟩) | (go_at_call 22; refine (rotateLeft32_any _ _ _ h0 h1).mono ?_; rintro e w' ⟨rfl, rfl⟩))
  go_ret
  exact ⟨ret_u32 H.out, rfl⟩

set_option maxHeartbeats 400000 in
theorem right_any (a b : Int) (w : World) (h0 : 0 ≤ a) (h1 : a < 4294967296) :
    Calls Try.prog 7 #[.int .u32 a, .int .i64 b] w fun e w' => e = .returned (.int .u32 (rotr a b)) ∧ w = w' := by
  have H := Lib.hid (rotl_neg a b (-(b % 32)) (by omega))
  go_enter Try.func7, Try.ntmps7
  go_wp2_with (first | (go_at_call 23; refine (places_any _ _).mono ?_; rintro e w' ⟨rfl, rfl⟩) | (go_at_call 22; refine (rotateLeft32_any _ _ _ h0 h1).mono ?_; rintro e w' ⟨rfl, rfl⟩))
  go_ret
  exact ⟨ret_u32 H.out, rfl⟩

theorem rl_step (a : Int) (k : Nat) (h : k + 1 < 32) : 2 * nv ((bv a).rotateLeft k) % 4294967296 + nv ((bv a).rotateLeft k) / 2147483648 = nv ((bv a).rotateLeft (k + 1)) := by
  rw [← rl_succ _ _ h, rl_one]
theorem rr_step (a : Int) (k : Nat) (h : k + 1 < 32) : nv ((bv a).rotateRight k) / 2 + nv ((bv a).rotateRight k) % 2 * 2147483648 = nv ((bv a).rotateRight (k + 1)) := by
  rw [← rr_succ _ _ h, rr_one]

/-- The rest that Go's own sign gives, then 32 added where it is below 0. -/
theorem rest_cases (b : Int) : (b.tmod 32 < 0 ∧ b.tmod 32 = (r32 b : Int) - 32) ∨ (0 ≤ b.tmod 32 ∧ b.tmod 32 = (r32 b : Int)) := by
  rw [r32_cast]
  have h := Int.tmod_eq_emod (a := b) (b := 32)
  split at h <;> omega

set_option maxHeartbeats 400000 in
theorem refLeft_any (a b : Int) (w : World) (h0 : 0 ≤ a) (h1 : a < 4294967296) :
    Calls Try.prog 8 #[.int .u32 a, .int .i64 b] w fun e w' => e = .returned (.int .u32 (rotl a b)) ∧ w = w' := by
  obtain ⟨n, hn, hnl⟩ : ∃ n, n = r32 b ∧ n < 32 := ⟨r32 b, rfl, r32_lt b⟩
  have H := Lib.hid (show nv ((bv a).rotateLeft n) = rotl a b from by rw [hn]; rfl)
  have Z := Lib.hid (show nv ((bv a).rotateLeft 0) = a from by rw [rl_zero, nv_bv a h0 h1])
  have hr := rest_cases b
  rw [← hn] at hr; clear hn
  rcases hr with ⟨hr1, hr2⟩ | ⟨hr1, hr2⟩
  all_goals
    go_enter Try.func8, Try.ntmps8
    go_wp2
    go_loop [0, 6] (fun x i => ∃ k : Nat, k ≤ n ∧ i = .int .i64 k ∧ x = .int .u32 (nv ((bv a).rotateLeft k))) (fun _ i => n - (intOf i).toNat)
    case atStart => exact ⟨0, Nat.zero_le _, rfl, by rw [Z.out]⟩
    case round =>
      obtain ⟨k, hk, rfl, rfl⟩ := hrel
      have q0 := nv_lo ((bv a).rotateLeft k)
      have q1 := nv_hi ((bv a).rotateLeft k)
      by_cases hlt : k < n
      · have S := Lib.hid (rl_step a k (by omega))
        have s0 := nv_lo ((bv a).rotateLeft (k + 1))
        have s1 := nv_hi ((bv a).rotateLeft (k + 1))
        go_wp2
        go_round
        case rel => exact ⟨k + 1, by omega, by go_num, by rw [← S.out]⟩
        case measure => simp [intOf]; omega
      · obtain rfl : n = k := by omega
        go_wp2
        go_ret
        exact ⟨ret_u32 H.out, rfl⟩

set_option maxHeartbeats 400000 in
theorem refRight_any (a b : Int) (w : World) (h0 : 0 ≤ a) (h1 : a < 4294967296) :
    Calls Try.prog 9 #[.int .u32 a, .int .i64 b] w fun e w' => e = .returned (.int .u32 (rotr a b)) ∧ w = w' := by
  obtain ⟨n, hn, hnl⟩ : ∃ n, n = r32 b ∧ n < 32 := ⟨r32 b, rfl, r32_lt b⟩
  have H := Lib.hid (show nv ((bv a).rotateRight n) = rotr a b from by rw [hn]; rfl)
  have Z := Lib.hid (show nv ((bv a).rotateRight 0) = a from by rw [rr_zero, nv_bv a h0 h1])
  have hr := rest_cases b
  rw [← hn] at hr; clear hn
  rcases hr with ⟨hr1, hr2⟩ | ⟨hr1, hr2⟩
  all_goals
    go_enter Try.func9, Try.ntmps9
    go_wp2
    go_loop [0, 6] (fun x i => ∃ k : Nat, k ≤ n ∧ i = .int .i64 k ∧ x = .int .u32 (nv ((bv a).rotateRight k))) (fun _ i => n - (intOf i).toNat)
    case atStart => exact ⟨0, Nat.zero_le _, rfl, by rw [Z.out]⟩
    case round =>
      obtain ⟨k, hk, rfl, rfl⟩ := hrel
      have q0 := nv_lo ((bv a).rotateRight k)
      have q1 := nv_hi ((bv a).rotateRight k)
      by_cases hlt : k < n
      · have S := Lib.hid (rr_step a k (by omega))
        have s0 := nv_lo ((bv a).rotateRight (k + 1))
        have s1 := nv_hi ((bv a).rotateRight (k + 1))
        go_wp2
        go_round
        case rel => exact ⟨k + 1, by omega, by go_num, by rw [← S.out]⟩
        case measure => simp [intOf]; omega
      · obtain rfl : n = k := by omega
        go_wp2
        go_ret
        exact ⟨ret_u32 H.out, rfl⟩
end Go.Proofs.Ytbaacgoflmifkaa
