/-
  A cipher in memory ('CiAt'): its round keys' bytes, its box and its mark; what the calls of the box in it come to.
-/
import Derived.Test.YtclcnngpgbdjgaaCipherBlk
namespace Go.Proofs.Ytclcnngpgbdjgaa
open Go.RowKit

/-- The cells of a cipher. -/
def ciCells (F f h : Nat → Nat) (bm m : Bool) : List Value := rowN 240 F ++ (boxCells f h bm ++ [.bool m])
/-- Block g holds a cipher. -/
def CiAt (w : World) (g : Nat) (F f h : Nat → Nat) (bm m : Bool) : Prop := Blk w g 48 (ciCells F f h bm m)
theorem ciCells_key (F f h : Nat → Nat) (bm m : Bool) (i : Nat) (hi : i < 240) : (ciCells F f h bm m)[i]? = some (.int .u8 (F i : Int)) := by
  unfold ciCells
  rw [List.getElem?_append_left (by rw [rowN_len]; exact hi), rowN_at 240 F i hi]
theorem ciCells_box (F f h : Nat → Nat) (bm m : Bool) (i : Nat) (hi : i < 513) : (ciCells F f h bm m)[240 + i]? = (boxCells f h bm)[i]? := by
  unfold ciCells
  rw [List.getElem?_append_right (by rw [rowN_len]; omega), rowN_len, Nat.add_sub_cancel_left, List.getElem?_append_left (by rw [boxCells_len]; exact hi)]
theorem ciCells_sub (F f h : Nat → Nat) (bm m : Bool) (i : Nat) (hi : i < 256) : (ciCells F f h bm m)[240 + i]? = some (.int .u8 (f i : Int)) := by
  rw [ciCells_box _ _ _ _ _ i (by omega), boxCells_sub f h bm i hi]
theorem ciCells_back (F f h : Nat → Nat) (bm m : Bool) (i : Nat) (hi : i < 256) : (ciCells F f h bm m)[496 + i]? = some (.int .u8 (h i : Int)) := by
  rw [show 496 + i = 240 + (256 + i) by omega, ciCells_box _ _ _ _ _ (256 + i) (by omega), boxCells_back f h bm i hi]
theorem ciCells_made (F f h : Nat → Nat) (bm m : Bool) : (ciCells F f h bm m)[753]? = some (.bool m) := by
  unfold ciCells
  rw [List.getElem?_append_right (by rw [rowN_len]; omega), rowN_len, List.getElem?_append_right (by rw [boxCells_len]; omega), boxCells_len]
  rfl
theorem ciCells_len (F f h : Nat → Nat) (bm m : Bool) : (ciCells F f h bm m).length = 754 := by simp [ciCells, rowN_len, boxCells_len]
/-- The bytes of the round key r. -/
def keyAt (F : Nat → Nat) (r : Nat) : Nat → Nat := fun i => F (16 * r + i)
theorem keyAt_by {F : Nat → Nat} (h : By F) (r : Nat) : By (keyAt F r) := fun _ => h _
theorem ci_key {w : World} {g : Nat} {F f h : Nat → Nat} {bm m : Bool} (hb : CiAt w g F f h bm m) (r : Nat) (hr : r < 15) : w.rangeAt g (16 * r) (rowN 16 (keyAt F r)) := by
  refine Blk.range hb (16 * r) _ fun j v hj => ?_
  by_cases h16 : j < 16
  · rw [rowN_at 16 _ j h16] at hj
    rw [ciCells_key _ _ _ _ _ _ (by omega)]
    exact hj
  · rw [List.getElem?_eq_none (by rw [rowN_len]; omega)] at hj
    cases hj

set_option maxHeartbeats 400000 in
theorem cSub_any (g : Nat) (F f h : Nat → Nat) (bm m : Bool) (x : Nat) (w : World) (hb : CiAt w g F f h bm m) (hx : x < 256) :
    Calls Try.prog 30 #[.pointer (some ⟨g, 240, none⟩), .int .u8 (x : Int)] w fun e w' => e = .returned (.int .u8 (f x : Int)) ∧ w = w' := by
  have hc : w.cell? ⟨g, 240 + x, none⟩ = some (.int .u8 (f x : Int)) := by rw [Blk.cell hb, ciCells_sub F f h bm m x hx]
  have hxi : (x : Int) < 256 := by omega
  clear hx
  go_enter Try.func30, Try.ntmps30
  go_wp2
  go_ret
  exact ⟨rfl, rfl⟩

theorem cSub_of (g : Nat) (F f h : Nat → Nat) (bm m : Bool) (x z : Int) (n t : Nat) (w : World) (hb : CiAt w g F f h bm m) (hx : x = n) (hn : n < 256) (ht : f n = t) (hz : z = t) :
    Calls Try.prog 30 #[.pointer (some ⟨g, 240, none⟩), .int .u8 x] w fun e w' => e = .returned (.int .u8 z) ∧ w = w' := by
  subst hx; subst ht; subst hz; exact cSub_any g F f h bm m n w hb hn

set_option maxHeartbeats 400000 in
theorem cWord_any (g : Nat) (F f h : Nat → Nat) (bm m : Bool) (hf : ∀ i, f i < 256) (x : Nat) (w : World) (hb : CiAt w g F f h bm m) (hx : x < 4294967296) :
    Calls Try.prog 54 #[.pointer (some ⟨g, 240, none⟩), .int .u32 (x : Int)] w fun e w' => e = .returned (.int .u32 (bwd f x 4 : Int)) ∧ w = w' := by
  have hxi : (x : Int) < 4294967296 := by omega
  have hxn := Lib.hid hx
  clear hx
  go_enter Try.func54, Try.ntmps54
  go_wp2
  go_loop [5, 6] (fun out i => ∃ k : Nat, k ≤ 4 ∧ i = .int .i64 (8 * (k : Int)) ∧ out = .int .u32 (bwd f x k : Int)) (fun _ i => (40 - intOf i).toNat)
  case atStart => exact ⟨0, by omega, rfl, rfl⟩
  case round =>
    obtain ⟨k, hk, rfl, rfl⟩ := hrel
    by_cases hlt : k < 4
    · have hl := wd_lt f hf x k
      have hs := wd_or f hf x k
      have hle := wd_lt f hf x (k + 1)
      obtain ⟨q, hq⟩ : ∃ q, bwd f x k = q := ⟨_, rfl⟩
      obtain ⟨q', hq'⟩ : ∃ q', bwd f x (k + 1) = q' := ⟨_, rfl⟩
      rw [hq, hq'] at hs
      rw [hq] at hl ⊢
      rw [hq'] at hle
      clear hq
      obtain rfl | rfl | rfl | rfl : k = 0 ∨ k = 1 ∨ k = 2 ∨ k = 3 := by omega
      · obtain ⟨t, ht⟩ : ∃ t, f (x % 256) = t := ⟨_, rfl⟩
        have hs := Lib.hid (show q ||| (t * 1) = q' from by rw [← hs, ← ht, Nat.mul_zero, Nat.pow_zero, Nat.div_one])
        have htn : t < 256 := by rw [← ht]; exact hf _
        have hti : (t : Int) < 256 := by omega
        have hor : bits .or .u32 (q : Int) (t : Int) = (q' : Int) := by
          have e : (t : Int) = ((t * 1 : Nat) : Int) := by omega
          rw [e, bits_or32 q (t * 1) (Nat.lt_trans hl (by decide)) (by omega), hs.out]
        have ht := Lib.hid ht
        have hl := Lib.hid hl
        have hle := Lib.hid hle
        have htn := Lib.hid htn
        have hq'' := Lib.hid hq'
        clear hq'
        go_wp2_with fail
        refine (cSub_of g F f h bm m _ t (x % 256) t _ hb (by have := hxn.out; omega) (Nat.mod_lt _ (by decide)) ht.out rfl).mono ?_; rintro e w' ⟨rfl, rfl⟩
        go_wp2
        go_round
        case rel => exact ⟨1, by omega, by go_num, by rw [hq''.out]⟩
        case measure => simp [intOf]
      · obtain ⟨t, ht⟩ : ∃ t, f (x / 256 % 256) = t := ⟨_, rfl⟩
        have hs := Lib.hid (show q ||| (t * 256) = q' from by rw [← hs, ← ht])
        have htn : t < 256 := by rw [← ht]; exact hf _
        have hti : (t : Int) < 256 := by omega
        have hor : bits .or .u32 (q : Int) ((t : Int) * 256) = (q' : Int) := by
          have e : ((t : Int) * 256) = ((t * 256 : Nat) : Int) := by omega
          rw [e, bits_or32 q (t * 256) (Nat.lt_trans hl (by decide)) (by omega), hs.out]
        have ht := Lib.hid ht
        have hl := Lib.hid hl
        have hle := Lib.hid hle
        have htn := Lib.hid htn
        have hq'' := Lib.hid hq'
        clear hq'
        go_wp2_with fail
        refine (cSub_of g F f h bm m _ t (x / 256 % 256) t _ hb (by have := hxn.out; omega) (Nat.mod_lt _ (by decide)) ht.out rfl).mono ?_; rintro e w' ⟨rfl, rfl⟩
        go_wp2
        go_round
        case rel => exact ⟨2, by omega, by go_num, by rw [hq''.out]⟩
        case measure => simp [intOf]
      · obtain ⟨t, ht⟩ : ∃ t, f (x / 65536 % 256) = t := ⟨_, rfl⟩
        have hs := Lib.hid (show q ||| (t * 65536) = q' from by rw [← hs, ← ht])
        have htn : t < 256 := by rw [← ht]; exact hf _
        have hti : (t : Int) < 256 := by omega
        have hor : bits .or .u32 (q : Int) ((t : Int) * 65536) = (q' : Int) := by
          have e : ((t : Int) * 65536) = ((t * 65536 : Nat) : Int) := by omega
          rw [e, bits_or32 q (t * 65536) (Nat.lt_trans hl (by decide)) (by omega), hs.out]
        have ht := Lib.hid ht
        have hl := Lib.hid hl
        have hle := Lib.hid hle
        have htn := Lib.hid htn
        have hq'' := Lib.hid hq'
        clear hq'
        go_wp2_with fail
        refine (cSub_of g F f h bm m _ t (x / 65536 % 256) t _ hb (by have := hxn.out; omega) (Nat.mod_lt _ (by decide)) ht.out rfl).mono ?_; rintro e w' ⟨rfl, rfl⟩
        go_wp2
        go_round
        case rel => exact ⟨3, by omega, by go_num, by rw [hq''.out]⟩
        case measure => simp [intOf]
      · obtain ⟨t, ht⟩ : ∃ t, f (x / 16777216 % 256) = t := ⟨_, rfl⟩
        have hs := Lib.hid (show q ||| (t * 16777216) = q' from by rw [← hs, ← ht])
        have htn : t < 256 := by rw [← ht]; exact hf _
        have hti : (t : Int) < 256 := by omega
        have hor : bits .or .u32 (q : Int) ((t : Int) * 16777216) = (q' : Int) := by
          have e : ((t : Int) * 16777216) = ((t * 16777216 : Nat) : Int) := by omega
          rw [e, bits_or32 q (t * 16777216) (Nat.lt_trans hl (by decide)) (by omega), hs.out]
        have ht := Lib.hid ht
        have hl := Lib.hid hl
        have hle := Lib.hid hle
        have htn := Lib.hid htn
        have hq'' := Lib.hid hq'
        clear hq'
        go_wp2_with fail
        refine (cSub_of g F f h bm m _ t (x / 16777216 % 256) t _ hb (by have := hxn.out; omega) (Nat.mod_lt _ (by decide)) ht.out rfl).mono ?_; rintro e w' ⟨rfl, rfl⟩
        go_wp2
        go_round
        case rel => exact ⟨4, by omega, by go_num, by rw [hq''.out]⟩
        case measure => simp [intOf]
    · obtain rfl : k = 4 := by omega
      go_wp2
      go_ret
      exact ⟨rfl, rfl⟩
end Go.Proofs.Ytclcnngpgbdjgaa
