/-
  What a cipher that is nil, or that no call made, does with a block; and what a word of the key gives to the next one.
-/
import Derived.Test.YtclcnngpgbdjgaaCipherEnc
import Derived.Test.YtclcnngpgbdjgaaCipherKey
import Derived.Test.YtclcnngpgbdjgaaWordTurn
namespace Go.Proofs.Ytclcnngpgbdjgaa
open Go.RowKit

theorem bits_xor32 (a b : Nat) (ha : a < 4294967296) (hb : b < 4294967296) : bits .xor .u32 (a : Int) (b : Int) = ((a ^^^ b : Nat) : Int) := by
  show IntKind.u32.wrap (((BitVec.ofInt 32 (a : Int)) ^^^ (BitVec.ofInt 32 (b : Int))).toNat : Int) = _
  rw [BitVec.toNat_xor, ofInt_toNat 32 a ha, ofInt_toNat 32 b hb, IntKind.wrap_u32]
  have : a ^^^ b < 2 ^ 32 := Nat.xor_lt_two_pow ha hb
  omega
theorem pz_pw (a n : Nat) : pz a (n : Int) = pw a n := by
  unfold pz
  rw [if_neg (by omega), Int.toNat_natCast]

set_option maxHeartbeats 400000 in
theorem cEnc_nil (b : Nat → Nat) (w : World) :
    Calls Try.prog 17 #[.pointer none, .agg (rowN 16 b).toArray] w fun e w' => e = .returned (.agg (rowN 16 b).toArray) ∧ Below w.heap.size w w' := by
  have hx : ∀ o, Blk ((w.alloc (.cells (rowN 16 b).toArray 42)).alloc o) w.heap.size 42 (rowN 16 b) := fun o => (Blk.new w _ _).alloc _
  have hr := Blk.new1 w (.cells (rowN 16 b).toArray 42) 42 (rowN 16 zf)
  have hB := below2 w (.cells (rowN 16 b).toArray 42) (.cells (rowN 16 zf).toArray 42)
  go_enter Try.func17, Try.ntmps17
  go_wp2_with (first
    | ((with_reducible refine wpList_box_blk rfl 42 (.tmp 1) rfl (rowN 16 b) ?_ ?_); rfl)
    | (with_reducible refine wpList_alloc_blk rfl 42 rfl zero16 ?_)
    | ((refine wpList_load16 rfl (.tmp 3) rfl ?_ (hx _) ?_); rfl)
    | ((refine wpList_store16 (new := b) rfl (.tmp 4) (.tmp 15) rfl ?_ ?_ hr ?_); rfl; rfl; intro w9 hR9 hg9))
  (try simp only [Exit.inBlock, Exit.then])
  refine bodyPost_ret (results_blk rfl rfl hR9 (row16 _)) rfl ?_
  exact ⟨rfl, hB.trans ((below_of_grown hg9 (Nat.le_refl _) hr.lt).mono (by omega))⟩

set_option maxHeartbeats 400000 in
theorem cEnc_zero (q : Nat) (F f h : Nat → Nat) (bm : Bool) (b : Nat → Nat) (w : World) (hC : CiAt w q F f h bm false) :
    Calls Try.prog 17 #[.pointer (some ⟨q, 0, none⟩), .agg (rowN 16 b).toArray] w fun e w' => e = .returned (.agg (rowN 16 b).toArray) ∧ Below w.heap.size w w' := by
  have hmd : ∀ o o', ((w.alloc o).alloc o').cell? ⟨q, 753, none⟩ = some (.bool false) := fun o o' => by rw [((Blk.alloc hC o).alloc o').cell, ciCells_made]
  have hx : ∀ o, Blk ((w.alloc (.cells (rowN 16 b).toArray 42)).alloc o) w.heap.size 42 (rowN 16 b) := fun o => (Blk.new w _ _).alloc _
  have hr := Blk.new1 w (.cells (rowN 16 b).toArray 42) 42 (rowN 16 zf)
  have hB := below2 w (.cells (rowN 16 b).toArray 42) (.cells (rowN 16 zf).toArray 42)
  go_enter Try.func17, Try.ntmps17
  go_wp2_with (first
    | ((with_reducible refine wpList_box_blk rfl 42 (.tmp 1) rfl (rowN 16 b) ?_ ?_); rfl)
    | (with_reducible refine wpList_alloc_blk rfl 42 rfl zero16 ?_)
    | ((refine wpList_load16 rfl (.tmp 3) rfl ?_ (hx _) ?_); rfl)
    | ((refine wpList_store16 (new := b) rfl (.tmp 4) (.tmp 15) rfl ?_ ?_ hr ?_); rfl; rfl; intro w9 hR9 hg9))
  (try simp only [Exit.inBlock, Exit.then])
  refine bodyPost_ret (results_blk rfl rfl hR9 (row16 _)) rfl ?_
  exact ⟨rfl, hB.trans ((below_of_grown hg9 (Nat.le_refl _) hr.lt).mono (by omega))⟩

set_option maxRecDepth 100000 in
set_option maxHeartbeats 1000000 in
theorem cChg_any (q : Nat) (F : Nat → Nat) (bm m : Bool) (t x : Nat) (w : World) (hC : CiAt w q F sb bk bm m) (ht : t < 60) (h8 : 8 ≤ t) (hx : x < 4294967296) :
    Calls Try.prog 43 #[.pointer (some ⟨q, 0, none⟩), .int .i64 (t : Int), .int .u32 (x : Int)] w fun e w' => e = .returned (.int .u32 (chg t x : Nat)) ∧ Draws w w' := by
  go_enter Try.func43, Try.ntmps43
  by_cases h0 : t % 8 = 0
  · have e0 : (t : Int) % 8 = 0 := by omega
    obtain ⟨s, hs⟩ : ∃ s, t / 8 = s + 1 := ⟨t / 8 - 1, by omega⟩
    have hsl : s < 7 := by omega
    have hch : chg t x = bwd sb (rl8 x) 4 ^^^ (pw 2 s * 16777216) := by unfold chg; rw [if_pos h0, hs, Nat.add_sub_cancel]
    have e1 : (t : Int).tdiv 8 = (s + 1 : Nat) := by rw [← hs]; exact Int.ofNat_tdiv t 8
    have hs' := Lib.hid hs
    have h8' := Lib.hid h8
    have hx' := Lib.hid hx
    have e0' : ((t : Int) % 8 == 0) = true := by rw [e0]; rfl
    have c1 : ∀ v, Calls Try.prog 55 #[.int .u32 (x : Int), .int .i64 8] v fun e w' => e = .returned (.int .u32 (rl8 x : Nat)) ∧ v = w' := fun v => by rw [← rotl_rl8 x hx]; exact left_any x 8 v (by omega) (by omega)
    have c2 : ∀ v, CiAt v q F sb bk bm m → Calls Try.prog 54 #[.pointer (some ⟨q, 240, none⟩), .int .u32 (rl8 x : Nat)] v fun e w' => e = .returned (.int .u32 (bwd sb (rl8 x) 4 : Nat)) ∧ v = w' := fun v hv => cWord_any q F sb bk bm m sb_256 (rl8 x) v hv (rl8_lt x hx)
    have c3 : ∀ v, Calls Try.prog 56 #[.int .u8 2, .int .i64 (s : Int)] v fun e w' => e = .returned (.int .u8 (pw 2 s : Nat)) ∧ v = w' := fun v => by rw [← pz_pw 2 s]; exact fPower_any 2 s v (by decide) (by omega) (by omega)
    have w1 : IntKind.i64.wrap ((s : Int) + 1) = (s : Int) + 1 := by rw [IntKind.wrap_i64]; omega
    have w2 : IntKind.i64.wrap ((s : Int) + 1 - 1) = (s : Int) := by rw [IntKind.wrap_i64]; omega
    have w2' : IntKind.i64.wrap (s : Int) = (s : Int) := by rw [IntKind.wrap_i64]; omega
    have hp := pw_256 (a := 2) s
    have ha := wd4_lt (rl8 x)
    obtain ⟨p, hpe⟩ : ∃ p, pw 2 s = p := ⟨_, rfl⟩
    obtain ⟨a, hae⟩ : ∃ a, bwd sb (rl8 x) 4 = a := ⟨_, rfl⟩
    rw [hpe, hae] at hch
    rw [hpe] at hp c3
    rw [hae] at ha c2
    have w3 : IntKind.u32.wrap (p : Int) = (p : Int) := by rw [IntKind.wrap_u32]; omega
    have w4 : IntKind.u32.wrap ((p : Int) * 16777216) = ((p * 16777216 : Nat) : Int) := by rw [IntKind.wrap_u32]; omega
    have w5 : bits .xor .u32 (a : Int) ((p * 16777216 : Nat) : Int) = ((a ^^^ (p * 16777216) : Nat) : Int) := bits_xor32 _ _ ha (by omega)
    have w5 := Lib.hid w5
    have hch := Lib.hid hch
    clear hs ht h8 hx h0 hpe hae hp ha hsl
    go_wp2_with fail
    refine wp_region_still_lit (by kernel_rfl) (by decide +kernel) ?_
    change wpStill _ _ w.drew _ _ _
    repeat still_step
    still_call ((c1 _).mono fun _ _ h => ⟨h.1, h.2.symm⟩)
    repeat still_step
    still_call ((c2 _ (show CiAt w.drew q F sb bk bm m from hC)).mono fun _ _ h => ⟨h.1, h.2.symm⟩)
    repeat still_step
    still_call ((c3 _).mono fun _ _ h => ⟨h.1, h.2.symm⟩)
    repeat still_step
    refine wpStill_nil ?_
    change Exit.then _ _ _ _ w.drew
    go_wp2
    go_ret
    refine ⟨ret_u32 ?_, (Draws.refl w).drew⟩
    rw [hch.out]
    exact w5.out
  · by_cases h4 : t % 8 = 4
    · have e4 : (t : Int) % 8 = 4 := by omega
      have hch := Lib.hid (show chg t x = bwd sb x 4 by unfold chg; rw [if_neg h0, if_pos h4])
      have c2 : ∀ v, CiAt v q F sb bk bm m → Calls Try.prog 54 #[.pointer (some ⟨q, 240, none⟩), .int .u32 (x : Int)] v fun e w' => e = .returned (.int .u32 (bwd sb x 4 : Nat)) ∧ v = w' := fun v hv => cWord_any q F sb bk bm m sb_256 x v hv hx
      clear h0 h4 ht h8 hx
      go_wp2_with fail
      refine (c2 _ hC).mono ?_
      rintro e w' ⟨rfl, rfl⟩
      go_wp2
      go_ret
      exact ⟨ret_u32 (by rw [hch.out]), Draws.refl w⟩
    · obtain ⟨r, hr⟩ : ∃ r, t % 8 = r := ⟨_, rfl⟩
      have hch := Lib.hid (show chg t x = x by unfold chg; rw [if_neg h0, if_neg h4])
      have e : (t : Int) % 8 = (r : Int) := by omega
      have n0 : ¬ (r : Int) = 0 := by omega
      have n4 : ¬ (r : Int) = 4 := by omega
      have b0 : ((r : Int) == 0) = false := by simp; omega
      have b4 : ((r : Int) == 4) = false := by simp; omega
      clear h0 h4 ht h8 hx hr
      go_wp2
      go_ret
      exact ⟨ret_u32 (by rw [hch.out]), Draws.refl w⟩
end Go.Proofs.Ytclcnngpgbdjgaa
