/-
  What the calls of package word that choose bits, and the document's own answers to them, come to. Conditions: each word is a number from 0 to 2^32 - 1.
-/
import Derived.Test.YtbaacgoflmifkaaWordTurn
namespace Go.Proofs.Ytbaacgoflmifkaa
open Go.RowKit

set_option maxHeartbeats 400000 in
theorem choose_any (a b c : Int) (w : World) :
    Calls Try.prog 18 #[.int .u32 a, .int .u32 b, .int .u32 c] w fun e w' => e = .returned (.int .u32 (choose a b c)) ∧ w = w' := by
  have H := Lib.hid (bits_choose a b c)
  go_enter Try.func18, Try.ntmps18
  go_wp2
  go_ret
  exact ⟨ret_u32 H.out, rfl⟩

set_option maxHeartbeats 400000 in
theorem major_any (a b c : Int) (w : World) :
    Calls Try.prog 19 #[.int .u32 a, .int .u32 b, .int .u32 c] w fun e w' => e = .returned (.int .u32 (major a b c)) ∧ w = w' := by
  have H := Lib.hid (bits_major a b c)
  go_enter Try.func19, Try.ntmps19
  go_wp2
  go_ret
  exact ⟨ret_u32 H.out, rfl⟩

theorem ret_i64 {a b : Int} (h : a = b) : Ending.returned (.int .i64 a) = .returned (.int .i64 b) := by rw [h]
set_option maxHeartbeats 400000 in
theorem bit_any (a : Int) (i : Nat) (w : World) (h0 : 0 ≤ a) (h1 : a < 4294967296) (hi : i < 32) :
    Calls Try.prog 24 #[.int .u32 a, .int .i64 i] w fun e w' => e = .returned (.int .i64 (bitOf a i)) ∧ w = w' := by
  have H := Lib.hid (bitOf_eq a i h0 h1)
  have q : 0 ≤ a / 2 ^ i := Int.ediv_nonneg h0 (Int.le_of_lt (Int.pow_pos (by decide)))
  go_enter Try.func24, Try.ntmps24
  go_wp2
  go_ret
  exact ⟨ret_i64 H.out, rfl⟩

set_option maxHeartbeats 800000 in
theorem refChoose_any (a b c : Int) (w : World) (ha0 : 0 ≤ a) (ha1 : a < 4294967296) (hb0 : 0 ≤ b) (hb1 : b < 4294967296) (hc0 : 0 ≤ c) (hc1 : c < 4294967296) :
    Calls Try.prog 20 #[.int .u32 a, .int .u32 b, .int .u32 c] w fun e w' => e = .returned (.int .u32 (choose a b c)) ∧ w = w' := by
  have Z := Lib.hid (shr_top (chooseB a b c))
  go_enter Try.func20, Try.ntmps20
  go_wp2
  go_loop [7, 8] (fun x i => ∃ k : Nat, k ≤ 32 ∧ i = .int .i64 ((k : Int) - 1) ∧ x = .int .u32 (nv (chooseB a b c >>> k))) (fun _ i => (intOf i + 1).toNat)
  case atStart => exact ⟨32, by omega, by go_num, by rw [Z.out]⟩
  case round =>
    obtain ⟨k, hk, rfl, rfl⟩ := hrel
    by_cases hz : k = 0
    · subst hz
      rw [show ((0 : Nat) : Int) - 1 = -1 from rfl]
      go_wp2
      go_ret
      exact ⟨ret_u32 (by simp [choose, chooseB]), rfl⟩
    · obtain ⟨j, rfl⟩ : ∃ j, k = j + 1 := ⟨k - 1, by omega⟩
      have S := Lib.hid (choose_bit a b c j (by omega))
      have q0 := nv_lo (chooseB a b c >>> (j + 1))
      have q1 := shr_half (chooseB a b c) j
      rw [show ((j + 1 : Nat) : Int) - 1 = (j : Int) from by omega]
      rcases bitOf_two a j with xa | xa <;> rcases bitOf_two b j with xb | xb <;> rcases bitOf_two c j with xc | xc
      all_goals
        go_wp2_with (go_at_call 24; refine (bit_any _ _ _ (by assumption) (by assumption) (by omega)).mono ?_; rintro e w' ⟨rfl, rfl⟩)
        go_round
        case rel => exact ⟨j, by omega, by go_num, by rw [S.out]; simp [xa, xb, xc]⟩
        case measure => simp [intOf]

set_option maxHeartbeats 800000 in
theorem refMajor_any (a b c : Int) (w : World) (ha0 : 0 ≤ a) (ha1 : a < 4294967296) (hb0 : 0 ≤ b) (hb1 : b < 4294967296) (hc0 : 0 ≤ c) (hc1 : c < 4294967296) :
    Calls Try.prog 21 #[.int .u32 a, .int .u32 b, .int .u32 c] w fun e w' => e = .returned (.int .u32 (major a b c)) ∧ w = w' := by
  have Z := Lib.hid (shr_top (majorB a b c))
  go_enter Try.func21, Try.ntmps21
  go_wp2
  go_loop [7, 8] (fun x i => ∃ k : Nat, k ≤ 32 ∧ i = .int .i64 ((k : Int) - 1) ∧ x = .int .u32 (nv (majorB a b c >>> k))) (fun _ i => (intOf i + 1).toNat)
  case atStart => exact ⟨32, by omega, by go_num, by rw [Z.out]⟩
  case round =>
    obtain ⟨k, hk, rfl, rfl⟩ := hrel
    by_cases hz : k = 0
    · subst hz
      rw [show ((0 : Nat) : Int) - 1 = -1 from rfl]
      go_wp2
      go_ret
      exact ⟨ret_u32 (by simp [major, majorB]), rfl⟩
    · obtain ⟨j, rfl⟩ : ∃ j, k = j + 1 := ⟨k - 1, by omega⟩
      have S := Lib.hid (major_bit a b c j)
      have q0 := nv_lo (majorB a b c >>> (j + 1))
      have q1 := shr_half (majorB a b c) j
      rw [show ((j + 1 : Nat) : Int) - 1 = (j : Int) from by omega]
      rcases bitOf_two a j with xa | xa <;> rcases bitOf_two b j with xb | xb <;> rcases bitOf_two c j with xc | xc
      all_goals
        go_wp2_with (go_at_call 24; refine (bit_any _ _ _ (by assumption) (by assumption) (by omega)).mono ?_; rintro e w' ⟨rfl, rfl⟩)
        go_round
        case rel => exact ⟨j, by omega, by go_num, by rw [S.out]; simp [xa, xb, xc]⟩
        case measure => simp [intOf]
end Go.Proofs.Ytbaacgoflmifkaa
