/-
  What the document's own answers on substitutes come to: the same substitute, whose substitute a byte is, and words. Conditions: bytes are numbers below 256, words below 2^32.
-/
import Derived.Test.YtnifkajiplgpcaaBoxWalk
namespace Go.Proofs.Ytnifkajiplgpcaa
open Go.RowKit

theorem shifted_of (x : Int) (b t : Nat) (w : World) (hx : x = b) (hb : b < 256) (ht : st b = t) :
    Calls Try.prog 17 #[.int .i64 x] w fun e w' => e = .returned (.int .u8 (t : Int)) ∧ ∃ m, w' = w.drewN m := by
  subst hx; subst ht; exact shifted_any b w hb

set_option maxHeartbeats 400000 in
theorem rSub_any (a : Nat) (w : World) (ha : a < 256) :
    Calls Try.prog 8 #[.int .u8 (a : Int)] w fun e w' => e = .returned (.int .u8 (sb a : Int)) ∧ ∃ m, w' = w.drewN m := by
  have hi := inv_256 a
  go_enter Try.func8, Try.ntmps8
  go_wp2_with fail
  refine (rInverse_any a _ ha).mono ?_; rintro e w' ⟨rfl, rfl⟩
  go_wp2_with fail
  refine (shifted_of _ (inv a) (sb a) _ rfl hi rfl).mono ?_; rintro e w' ⟨rfl, m, rfl⟩
  go_wp2
  go_ret
  exact ⟨rfl, m, rfl⟩

theorem rSub_of (x : Int) (a t : Nat) (w : World) (hx : x = a) (ha : a < 256) (ht : sb a = t) :
    Calls Try.prog 8 #[.int .u8 x] w fun e w' => e = .returned (.int .u8 (t : Int)) ∧ ∃ m, w' = w.drewN m := by
  subst hx; subst ht; exact rSub_any a w ha

set_option maxHeartbeats 400000 in
theorem rBack_any (y : Nat) (w : World) (hy : y < 256) :
    Calls Try.prog 10 #[.int .u8 (y : Int)] w fun e w' => e = .returned (.int .u8 (bk y : Int)) ∧ ∃ m, w' = w.drewN m := by
  obtain ⟨B, hB⟩ : ∃ B, bk y = B := ⟨_, rfl⟩
  have hBl : B < 256 := by rw [← hB]; exact bk_256 y
  have h1 := Lib.hid (show sb B = y from by rw [← hB]; exact sb_bk y hy)
  have h2 := Lib.hid (show ∀ k, k < B → sb k ≠ y from fun k hk h => by have := bk_sb k (by omega); rw [h, hB] at this; omega)
  rw [hB]; clear hB
  go_enter Try.func10, Try.ntmps10
  go_wp2
  go_loopw [3] (fun i wr => ∃ k : Nat, k ≤ B ∧ i = .int .i64 k ∧ ∃ m, wr = w.drewN m) (fun i _ => 256 - (intOf i).toNat)
  case atStart => exact ⟨0, by omega, rfl, 0, rfl⟩
  case round =>
    obtain ⟨k, hk, rfl, m, rfl⟩ := hrel
    have hk' := Lib.hid hk
    by_cases he : k = B
    · have hki : (k : Int) < 256 := by omega
      have hkn := Lib.hid (show k < 256 from by omega)
      have h1' := Lib.hid (show sb k = y from by rw [he]; exact h1.out)
      have he' := Lib.hid he
      clear he hk hBl
      have hyl := Lib.hid hy
      clear hy
      go_wp2_with fail
      refine (rSub_of _ k y _ (by have := hkn.out; omega) hkn.out h1'.out).mono ?_; rintro e w' ⟨rfl, n, rfl⟩
      go_wp2
      go_ret
      refine ⟨ret_u8 (by have := he'.out; have := hkn.out; omega), m + n, rfl⟩
    · obtain ⟨z, hz⟩ : ∃ z, sb k = z := ⟨_, rfl⟩
      have hne : ((z : Int) == (y : Int)) = false := beq_false_of_ne (fun e => h2.out k (by omega) (by omega))
      have hz := Lib.hid hz
      have hki : (k : Int) < 256 := by omega
      have hkn := Lib.hid (show k < B from by omega)
      have hBn := Lib.hid hBl
      clear he hk hBl
      have hyl := Lib.hid hy
      clear hy
      go_wp2_with fail
      refine (rSub_of _ k z _ (by omega) (by omega) hz.out).mono ?_; rintro e w' ⟨rfl, n, rfl⟩
      go_wp2
      go_roundw
      case rel => exact ⟨k + 1, by have := hkn.out; omega, by go_num, m + n, rfl⟩
      case measure => simp [intOf]; omega

theorem ret_u32' {a b : Int} (h : a = b) : Ending.returned (.int .u32 a) = .returned (.int .u32 b) := by rw [h]
set_option maxHeartbeats 400000 in
theorem rWord_any (x : Nat) (w : World) (hx : x < 4294967296) :
    Calls Try.prog 12 #[.int .u32 (x : Int)] w fun e w' => e = .returned (.int .u32 (wd sb x 4 : Int)) ∧ ∃ m, w' = w.drewN m := by
  have hxi : (x : Int) < 4294967296 := by omega
  have hxn := Lib.hid hx
  clear hx
  go_enter Try.func12, Try.ntmps12
  go_wp2
  go_loopw [3, 4] (fun out i wm => ∃ k : Nat, k ≤ 4 ∧ i = .int .i64 (3 - (k : Int)) ∧ out = .int .u32 (wr sb x k : Int) ∧ ∃ m, wm = w.drewN m) (fun _ i _ => (intOf i + 1).toNat)
  case atStart => exact ⟨0, by omega, rfl, rfl, 0, rfl⟩
  case round =>
    obtain ⟨k, hk, rfl, rfl, m, rfl⟩ := hrel
    by_cases hlt : k < 4
    · have hl := Lib.hid (wr_lt sb sb_256 x k)
      have hs := Lib.hid (show wr sb x (k + 1) = 256 * wr sb x k + sb (x / 2 ^ (8 * (3 - k)) % 256) from rfl)
      obtain ⟨g, hg⟩ : ∃ g, wr sb x k = g := ⟨_, rfl⟩
      rw [hg] at hs hl ⊢
      clear hg
      obtain rfl | rfl | rfl | rfl : k = 0 ∨ k = 1 ∨ k = 2 ∨ k = 3 := by omega
      · obtain ⟨t, ht⟩ : ∃ t, sb (x / 16777216 % 256) = t := ⟨_, rfl⟩
        have htl : (t : Int) < 256 := by have := sb_256 (x / 16777216 % 256); omega
        have hs2 := Lib.hid (show wr sb x (0 + 1) = 256 * g + t from by rw [hs.out, ← ht])
        have ht := Lib.hid ht
        go_wp2_with fail
        refine (rSub_of _ (x / 16777216 % 256) t _ (by have := hxn.out; omega) (Nat.mod_lt _ (by decide)) ht.out).mono ?_; rintro e w' ⟨rfl, n, rfl⟩
        go_wp2
        go_roundw
        case rel =>
          refine ⟨1, by omega, by go_num, ?_, m + n, rfl⟩
          rw [hs2.out]
          have := hl.out
          refine congrArg (Value.int .u32) ?_
          omega
        case measure => simp [intOf]
      · obtain ⟨t, ht⟩ : ∃ t, sb (x / 65536 % 256) = t := ⟨_, rfl⟩
        have htl : (t : Int) < 256 := by have := sb_256 (x / 65536 % 256); omega
        have hs2 := Lib.hid (show wr sb x (1 + 1) = 256 * g + t from by rw [hs.out, ← ht])
        have ht := Lib.hid ht
        go_wp2_with fail
        refine (rSub_of _ (x / 65536 % 256) t _ (by have := hxn.out; omega) (Nat.mod_lt _ (by decide)) ht.out).mono ?_; rintro e w' ⟨rfl, n, rfl⟩
        go_wp2
        go_roundw
        case rel =>
          refine ⟨2, by omega, by go_num, ?_, m + n, rfl⟩
          rw [hs2.out]
          have := hl.out
          refine congrArg (Value.int .u32) ?_
          omega
        case measure => simp [intOf]
      · obtain ⟨t, ht⟩ : ∃ t, sb (x / 256 % 256) = t := ⟨_, rfl⟩
        have htl : (t : Int) < 256 := by have := sb_256 (x / 256 % 256); omega
        have hs2 := Lib.hid (show wr sb x (2 + 1) = 256 * g + t from by rw [hs.out, ← ht])
        have ht := Lib.hid ht
        go_wp2_with fail
        refine (rSub_of _ (x / 256 % 256) t _ (by have := hxn.out; omega) (Nat.mod_lt _ (by decide)) ht.out).mono ?_; rintro e w' ⟨rfl, n, rfl⟩
        go_wp2
        go_roundw
        case rel =>
          refine ⟨3, by omega, by go_num, ?_, m + n, rfl⟩
          rw [hs2.out]
          have := hl.out
          refine congrArg (Value.int .u32) ?_
          omega
        case measure => simp [intOf]
      · obtain ⟨t, ht⟩ : ∃ t, sb (x / 1 % 256) = t := ⟨_, rfl⟩
        have htl : (t : Int) < 256 := by have := sb_256 (x / 1 % 256); omega
        have hs2 := Lib.hid (show wr sb x (3 + 1) = 256 * g + t from by rw [hs.out, ← ht])
        have ht := Lib.hid ht
        go_wp2_with fail
        refine (rSub_of _ (x / 1 % 256) t _ (by have := hxn.out; omega) (Nat.mod_lt _ (by decide)) ht.out).mono ?_; rintro e w' ⟨rfl, n, rfl⟩
        go_wp2
        go_roundw
        case rel =>
          refine ⟨4, by omega, by go_num, ?_, m + n, rfl⟩
          rw [hs2.out]
          have := hl.out
          refine congrArg (Value.int .u32) ?_
          omega
        case measure => simp [intOf]
    · obtain rfl : k = 4 := by omega
      have h4 := Lib.hid (wr_wd sb x)
      go_wp2
      go_ret
      exact ⟨ret_u32' (by rw [h4.out]), m, rfl⟩
end Go.Proofs.Ytnifkajiplgpcaa
