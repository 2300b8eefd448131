/-
  What the calls of package box that only reckon come to: turned bytes, the substitute made of an inverse; and the document's own substitutes. Conditions: bytes are numbers below 256.
-/
import Derived.Test.YtagacpjeooaapaaGreatDoorBoxMath
import Derived.Test.YtagacpjeooaapaaGreatDoorFieldRef
import Derived.Test.YtagacpjeooaapaaGreatDoorFieldWalk
import Derived.StillTailTactics
namespace Go.Proofs.YtagacpjeooaapaaGreatDoor
open Go.RowKit

theorem and64_seven (k : Nat) (h : k < 8) : bits .and .u64 (k : Int) 7 = (k : Int) := by
  show IntKind.u64.wrap (((BitVec.ofInt 64 (k : Int)) &&& (BitVec.ofInt 64 ((7 : Nat) : Int))).toNat : Int) = _
  rw [BitVec.toNat_and, ofInt_toNat 64 k (by omega), ofInt_toNat 64 7 (by decide), IntKind.wrap_u64]
  have : ∀ k < 8, k &&& 7 = k := by decide
  rw [this k h]
  omega
theorem bits_or8 (a b : Nat) (ha : a < 256) (hb : b < 256) : bits .or .u8 (a : Int) (b : Int) = ((a ||| b : Nat) : Int) := by
  show IntKind.u8.wrap (((BitVec.ofInt 8 (a : Int)) ||| (BitVec.ofInt 8 (b : Int))).toNat : Int) = _
  rw [BitVec.toNat_or, ofInt_toNat 8 a ha, ofInt_toNat 8 b hb, IntKind.wrap_u8]
  have : a ||| b < 2 ^ 8 := Nat.or_lt_two_pow ha hb
  omega

set_option maxRecDepth 100000 in
set_option maxHeartbeats 400000 in
theorem rotl8_any (b k : Nat) (w : World) (hb : b < 256) (hk : k < 5) :
    Calls Tryz.prog 101 #[.int .u8 (b : Int), .int .i64 (k : Int)] w fun e w' => e = .returned (.int .u8 (rot8 b k : Int)) ∧ w = w' := by
  have h := and64_seven k (by omega)
  have hw : IntKind.u64.wrap (k : Int) = k := wrap_u64_small k (by omega)
  go_enter Tryz.func101, Tryz.ntmps101
  go_wp2
  go_ret
  refine ⟨ret_u8 ?_, rfl⟩
  have e1 : (b : Int) * 2 ^ k % 256 = ((b * 2 ^ k % 256 : Nat) : Int) := by simp
  have e2 : (b : Int) / 2 ^ (8 - k) = ((b / 2 ^ (8 - k) : Nat) : Int) := by simp
  rw [e1, e2]
  exact bits_or8 _ _ (Nat.mod_lt _ (by decide)) (Nat.lt_of_le_of_lt (Nat.div_le_self _ _) hb)

set_option maxRecDepth 100000 in
set_option maxHeartbeats 400000 in
theorem substitute_any (b : Nat) (w : World) (hb : b < 256) :
    Calls Tryz.prog 88 #[.int .u8 (b : Int)] w fun e w' => e = .returned (.int .u8 (st b : Int)) ∧ w = w' := by
  go_enter Tryz.func88, Tryz.ntmps88
  go_wp2
  go_loop [3, 5] (fun y i => ∃ k : Nat, k ≤ 5 ∧ i = .int .i64 k ∧ y = .int .u8 (ac b k)) (fun _ i => 5 - (intOf i).toNat)
  case atStart => exact ⟨0, by omega, rfl, rfl⟩
  case round =>
    obtain ⟨k, hk, rfl, rfl⟩ := hrel
    by_cases hlt : k < 5
    · have hx := bits_xor8 (ac b k) (rot8 b k) (ac_256 k (by omega) b hb) (rot8_256 k hlt b hb)
      have hs := Lib.hid (show ac b (k + 1) = ac b k ^^^ rot8 b k from rfl)
      go_wp2_with (go_at_call 101; refine (rotl8_any b k _ hb hlt).mono ?_; rintro e w' ⟨rfl, rfl⟩)
      go_round
      case rel => exact ⟨k + 1, by omega, by go_num, by rw [hs.out]⟩
      case measure => simp [intOf]; omega
    · obtain rfl : k = 5 := by omega
      go_wp2
      go_ret
      exact ⟨rfl, rfl⟩

theorem substitute_of (x z : Int) (b t : Nat) (w : World) (hx : x = b) (hb : b < 256) (ht : st b = t) (hz : z = t) :
    Calls Tryz.prog 88 #[.int .u8 x] w fun e w' => e = .returned (.int .u8 z) ∧ w = w' := by
  subst hx; subst ht; subst hz; exact substitute_any b w hb

theorem w64' (x : Int) (h0 : 0 ≤ x) (h1 : x < 4611686018427387904) : wrap64 x = x := by unfold wrap64; omega
set_option maxRecDepth 100000 in
set_option maxHeartbeats 400000 in
theorem shifted_any (b : Nat) (w : World) (hb : b < 256) :
    Calls Tryz.prog 96 #[.int .i64 (b : Int)] w fun e w' => e = .returned (.int .u8 (st b : Int)) ∧ ∃ m, w' = w.drewN m := by
  go_enter Tryz.func96, Tryz.ntmps96
  go_wp2
  go_loopw [3, 4] (fun out i wr => ∃ k : Nat, k ≤ 8 ∧ i = .int .i64 (7 - (k : Int)) ∧ out = .int .i64 (sg b k) ∧ ∃ m, wr = w.drewN m) (fun _ i _ => (intOf i + 1).toNat)
  case atStart => exact ⟨0, by omega, rfl, rfl, 0, rfl⟩
  case round =>
    obtain ⟨k, hk, rfl, rfl, m, rfl⟩ := hrel
    by_cases hlt : k < 8
    · have hsg := Lib.hid (sg_lt b k)
      have hs := Lib.hid (show sg b (k + 1) = 2 * sg b k + shn b (7 - k) % 2 from rfl)
      obtain ⟨g, hg⟩ : ∃ g, sg b k = g := ⟨_, rfl⟩
      have e4 : IntKind.i64.wrap 4 = 4 := by decide
      have t4 : ((4 : Int).tmod 8) = 4 := by decide
      have e5 : IntKind.i64.wrap 5 = 5 := by decide
      have t5 : ((5 : Int).tmod 8) = 5 := by decide
      have e6 : IntKind.i64.wrap 6 = 6 := by decide
      have t6 : ((6 : Int).tmod 8) = 6 := by decide
      have e7 : IntKind.i64.wrap 7 = 7 := by decide
      have t7 : ((7 : Int).tmod 8) = 7 := by decide
      have e8 : IntKind.i64.wrap 8 = 8 := by decide
      have t8 : ((8 : Int).tmod 8) = 0 := by decide
      have e9 : IntKind.i64.wrap 9 = 9 := by decide
      have t9 : ((9 : Int).tmod 8) = 1 := by decide
      have e10 : IntKind.i64.wrap 10 = 10 := by decide
      have t10 : ((10 : Int).tmod 8) = 2 := by decide
      have e11 : IntKind.i64.wrap 11 = 11 := by decide
      have t11 : ((11 : Int).tmod 8) = 3 := by decide
      have e12 : IntKind.i64.wrap 12 = 12 := by decide
      have t12 : ((12 : Int).tmod 8) = 4 := by decide
      have e13 : IntKind.i64.wrap 13 = 13 := by decide
      have t13 : ((13 : Int).tmod 8) = 5 := by decide
      have e14 : IntKind.i64.wrap 14 = 14 := by decide
      have t14 : ((14 : Int).tmod 8) = 6 := by decide
      rw [hg] at hs hsg ⊢
      clear hg
      obtain rfl | rfl | rfl | rfl | rfl | rfl | rfl | rfl : k = 0 ∨ k = 1 ∨ k = 2 ∨ k = 3 ∨ k = 4 ∨ k = 5 ∨ k = 6 ∨ k = 7 := by omega
      · have hn := Lib.hid (show shn b (7 - 0) = 0 + b / 128 + b / 8 + b / 16 + b / 32 + b / 64 from rfl)
        go_wp2
        refine wp_region_still_tail 30 (by kernel_rfl) (by decide +kernel) ?_
        simp only [List.take_succ_cons, List.take_zero, List.drop_succ_cons, List.drop_zero]
        repeat still_step
        refine wpStill_nil ?_
        change wpList _ _ _ _ _ (w.drewN m).drew
        go_wp2
        go_roundw
        case rel =>
          refine ⟨1, by omega, by go_num, ?_, m + 1, rfl⟩
          rw [hs.out, hn.out]
          have := hsg.out
          refine congrArg (Value.int .i64) ?_
          clear e4 t4 e5 t5 e6 t6 e7 t7 e8 t8 e9 t9 e10 t10 e11 t11 e12 t12 e13 t13 e14 t14
          simp (disch := omega) only [w64']
          omega
        case measure => simp [intOf]
      · have hn := Lib.hid (show shn b (7 - 1) = 1 + b / 64 + b / 4 + b / 8 + b / 16 + b / 32 from rfl)
        go_wp2
        refine wp_region_still_tail 30 (by kernel_rfl) (by decide +kernel) ?_
        simp only [List.take_succ_cons, List.take_zero, List.drop_succ_cons, List.drop_zero]
        repeat still_step
        refine wpStill_nil ?_
        change wpList _ _ _ _ _ (w.drewN m).drew
        go_wp2
        go_roundw
        case rel =>
          refine ⟨2, by omega, by go_num, ?_, m + 1, rfl⟩
          rw [hs.out, hn.out]
          have := hsg.out
          refine congrArg (Value.int .i64) ?_
          clear e4 t4 e5 t5 e6 t6 e7 t7 e8 t8 e9 t9 e10 t10 e11 t11 e12 t12 e13 t13 e14 t14
          simp (disch := omega) only [w64']
          omega
        case measure => simp [intOf]
      · have hn := Lib.hid (show shn b (7 - 2) = 3 + b / 32 + b / 2 + b / 4 + b / 8 + b / 16 from rfl)
        go_wp2
        refine wp_region_still_tail 30 (by kernel_rfl) (by decide +kernel) ?_
        simp only [List.take_succ_cons, List.take_zero, List.drop_succ_cons, List.drop_zero]
        repeat still_step
        refine wpStill_nil ?_
        change wpList _ _ _ _ _ (w.drewN m).drew
        go_wp2
        go_roundw
        case rel =>
          refine ⟨3, by omega, by go_num, ?_, m + 1, rfl⟩
          rw [hs.out, hn.out]
          have := hsg.out
          refine congrArg (Value.int .i64) ?_
          clear e4 t4 e5 t5 e6 t6 e7 t7 e8 t8 e9 t9 e10 t10 e11 t11 e12 t12 e13 t13 e14 t14
          simp (disch := omega) only [w64']
          omega
        case measure => simp [intOf]
      · have hn := Lib.hid (show shn b (7 - 3) = 6 + b / 16 + b / 1 + b / 2 + b / 4 + b / 8 from rfl)
        go_wp2
        refine wp_region_still_tail 30 (by kernel_rfl) (by decide +kernel) ?_
        simp only [List.take_succ_cons, List.take_zero, List.drop_succ_cons, List.drop_zero]
        repeat still_step
        refine wpStill_nil ?_
        change wpList _ _ _ _ _ (w.drewN m).drew
        go_wp2
        go_roundw
        case rel =>
          refine ⟨4, by omega, by go_num, ?_, m + 1, rfl⟩
          rw [hs.out, hn.out]
          have := hsg.out
          refine congrArg (Value.int .i64) ?_
          clear e4 t4 e5 t5 e6 t6 e7 t7 e8 t8 e9 t9 e10 t10 e11 t11 e12 t12 e13 t13 e14 t14
          simp (disch := omega) only [w64']
          omega
        case measure => simp [intOf]
      · have hn := Lib.hid (show shn b (7 - 4) = 12 + b / 8 + b / 128 + b / 1 + b / 2 + b / 4 from rfl)
        go_wp2
        refine wp_region_still_tail 30 (by kernel_rfl) (by decide +kernel) ?_
        simp only [List.take_succ_cons, List.take_zero, List.drop_succ_cons, List.drop_zero]
        repeat still_step
        refine wpStill_nil ?_
        change wpList _ _ _ _ _ (w.drewN m).drew
        go_wp2
        go_roundw
        case rel =>
          refine ⟨5, by omega, by go_num, ?_, m + 1, rfl⟩
          rw [hs.out, hn.out]
          have := hsg.out
          refine congrArg (Value.int .i64) ?_
          clear e4 t4 e5 t5 e6 t6 e7 t7 e8 t8 e9 t9 e10 t10 e11 t11 e12 t12 e13 t13 e14 t14
          simp (disch := omega) only [w64']
          omega
        case measure => simp [intOf]
      · have hn := Lib.hid (show shn b (7 - 5) = 24 + b / 4 + b / 64 + b / 128 + b / 1 + b / 2 from rfl)
        go_wp2
        refine wp_region_still_tail 30 (by kernel_rfl) (by decide +kernel) ?_
        simp only [List.take_succ_cons, List.take_zero, List.drop_succ_cons, List.drop_zero]
        repeat still_step
        refine wpStill_nil ?_
        change wpList _ _ _ _ _ (w.drewN m).drew
        go_wp2
        go_roundw
        case rel =>
          refine ⟨6, by omega, by go_num, ?_, m + 1, rfl⟩
          rw [hs.out, hn.out]
          have := hsg.out
          refine congrArg (Value.int .i64) ?_
          clear e4 t4 e5 t5 e6 t6 e7 t7 e8 t8 e9 t9 e10 t10 e11 t11 e12 t12 e13 t13 e14 t14
          simp (disch := omega) only [w64']
          omega
        case measure => simp [intOf]
      · have hn := Lib.hid (show shn b (7 - 6) = 49 + b / 2 + b / 32 + b / 64 + b / 128 + b / 1 from rfl)
        go_wp2
        refine wp_region_still_tail 30 (by kernel_rfl) (by decide +kernel) ?_
        simp only [List.take_succ_cons, List.take_zero, List.drop_succ_cons, List.drop_zero]
        repeat still_step
        refine wpStill_nil ?_
        change wpList _ _ _ _ _ (w.drewN m).drew
        go_wp2
        go_roundw
        case rel =>
          refine ⟨7, by omega, by go_num, ?_, m + 1, rfl⟩
          rw [hs.out, hn.out]
          have := hsg.out
          refine congrArg (Value.int .i64) ?_
          clear e4 t4 e5 t5 e6 t6 e7 t7 e8 t8 e9 t9 e10 t10 e11 t11 e12 t12 e13 t13 e14 t14
          simp (disch := omega) only [w64']
          omega
        case measure => simp [intOf]
      · have hn := Lib.hid (show shn b (7 - 7) = 99 + b / 1 + b / 16 + b / 32 + b / 64 + b / 128 from rfl)
        go_wp2
        refine wp_region_still_tail 30 (by kernel_rfl) (by decide +kernel) ?_
        simp only [List.take_succ_cons, List.take_zero, List.drop_succ_cons, List.drop_zero]
        repeat still_step
        refine wpStill_nil ?_
        change wpList _ _ _ _ _ (w.drewN m).drew
        go_wp2
        go_roundw
        case rel =>
          refine ⟨8, by omega, by go_num, ?_, m + 1, rfl⟩
          rw [hs.out, hn.out]
          have := hsg.out
          refine congrArg (Value.int .i64) ?_
          clear e4 t4 e5 t5 e6 t6 e7 t7 e8 t8 e9 t9 e10 t10 e11 t11 e12 t12 e13 t13 e14 t14
          simp (disch := omega) only [w64']
          omega
        case measure => simp [intOf]
    · obtain rfl : k = 8 := by omega
      have hst := sg_st b hb
      have hlt := st_256 b hb
      rw [hst]
      go_wp2
      go_ret
      refine ⟨ret_u8 ?_, m, rfl⟩
      omega
end Go.Proofs.YtagacpjeooaapaaGreatDoor
