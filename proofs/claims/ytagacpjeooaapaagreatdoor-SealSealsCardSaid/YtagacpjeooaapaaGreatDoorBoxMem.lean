/-
  A box in memory ('BoxAt'): its two tables of 256 bytes and its mark; what its calls Sub, Back and Word come to, of a nil box, too. Conditions: bytes are numbers below 256, words below 2^32.
-/
import Derived.Test.YtagacpjeooaapaaGreatDoorBoxRef
import Derived.Test.YtagacpjeooaapaaGreatDoorBlocks
namespace Go.Proofs.YtagacpjeooaapaaGreatDoor
open Go.RowKit

/-- The cells of a table. -/
def rowOf (f : Nat → Nat) : List Value := (List.range 256).map fun i => .int .u8 (f i : Int)
/-- The cells of a box. -/
def boxCells (f h : Nat → Nat) (m : Bool) : List Value := rowOf f ++ (rowOf h ++ [.bool m])
/-- Block g holds a box. -/
def BoxAt (w : World) (g : Nat) (f h : Nat → Nat) (m : Bool) : Prop := Blk w g 94 (boxCells f h m)

theorem rowOf_len (f : Nat → Nat) : (rowOf f).length = 256 := by simp [rowOf]
theorem rowOf_at (f : Nat → Nat) (i : Nat) (hi : i < 256) : (rowOf f)[i]? = some (.int .u8 (f i : Int)) := by
  simp [rowOf, hi]
theorem rowOf_congr (f h : Nat → Nat) (e : ∀ i, i < 256 → f i = h i) : rowOf f = rowOf h := by
  refine List.map_congr_left fun i hi => ?_
  rw [e i (List.mem_range.1 hi)]
theorem rowOf_set (f : Nat → Nat) (i v : Nat) (hi : i < 256) : (rowOf f).set i (.int .u8 (v : Int)) = rowOf (upd f i v) := by
  apply List.ext_getElem?
  intro j
  rw [List.getElem?_set]
  by_cases hj : j < 256
  · rw [rowOf_at _ _ hj, rowOf_at _ _ hj]
    by_cases e : i = j
    · subst e; simp [upd, rowOf_len, hi]
    · have e' : ¬ j = i := fun h => e h.symm
      simp [e, e', upd]
  · rw [List.getElem?_eq_none (by rw [rowOf_len]; omega), List.getElem?_eq_none (by rw [rowOf_len]; omega)]
    split
    · omega
    · rfl
theorem boxCells_sub (f h : Nat → Nat) (m : Bool) (i : Nat) (hi : i < 256) : (boxCells f h m)[i]? = some (.int .u8 (f i : Int)) := by
  unfold boxCells
  rw [List.getElem?_append_left (by rw [rowOf_len]; exact hi), rowOf_at f i hi]
theorem boxCells_back (f h : Nat → Nat) (m : Bool) (i : Nat) (hi : i < 256) : (boxCells f h m)[256 + i]? = some (.int .u8 (h i : Int)) := by
  unfold boxCells
  rw [List.getElem?_append_right (by rw [rowOf_len]; omega), rowOf_len, Nat.add_sub_cancel_left, List.getElem?_append_left (by rw [rowOf_len]; exact hi), rowOf_at h i hi]
theorem boxCells_made (f h : Nat → Nat) (m : Bool) : (boxCells f h m)[512]? = some (.bool m) := by
  unfold boxCells
  rw [List.getElem?_append_right (by rw [rowOf_len]; omega), rowOf_len, List.getElem?_append_right (by rw [rowOf_len]; omega), rowOf_len]
  rfl
theorem boxCells_setSub (f h : Nat → Nat) (m : Bool) (i v : Nat) (hi : i < 256) : (boxCells f h m).set i (.int .u8 (v : Int)) = boxCells (upd f i v) h m := by
  unfold boxCells
  rw [List.set_append_left _ _ (by rw [rowOf_len]; exact hi), rowOf_set f i v hi]
theorem boxCells_setBack (f h : Nat → Nat) (m : Bool) (i v : Nat) (hi : i < 256) : (boxCells f h m).set (256 + i) (.int .u8 (v : Int)) = boxCells f (upd h i v) m := by
  unfold boxCells
  rw [List.set_append_right _ _ (by rw [rowOf_len]; omega), rowOf_len, Nat.add_sub_cancel_left, List.set_append_left _ _ (by rw [rowOf_len]; exact hi), rowOf_set h i v hi]
theorem boxCells_len (f h : Nat → Nat) (m : Bool) : (boxCells f h m).length = 513 := by simp [boxCells, rowOf_len]

set_option maxRecDepth 100000 in
set_option maxHeartbeats 400000 in
theorem bSub_any (g : Nat) (f h : Nat → Nat) (m : Bool) (x : Nat) (w : World) (hb : BoxAt w g f h m) (hx : x < 256) :
    Calls Tryz.prog 73 #[.pointer (some ⟨g, 0, none⟩), .int .u8 (x : Int)] w fun e w' => e = .returned (.int .u8 (f x : Int)) ∧ w = w' := by
  have hc : w.cell? ⟨g, x, none⟩ = some (.int .u8 (f x : Int)) := by rw [Blk.cell hb, boxCells_sub f h m x hx]
  have hxi : (x : Int) < 256 := by omega
  clear hx
  go_enter Tryz.func73, Tryz.ntmps73
  go_wp2
  go_ret
  exact ⟨rfl, rfl⟩

set_option maxRecDepth 100000 in
set_option maxHeartbeats 400000 in
theorem bSub_nil (x : Int) (w : World) :
    Calls Tryz.prog 73 #[.pointer none, .int .u8 x] w fun e w' => e = .returned (.int .u8 0) ∧ w = w' := by
  go_enter Tryz.func73, Tryz.ntmps73
  go_wp2
  go_ret
  exact ⟨rfl, rfl⟩

theorem bSub_of (g : Nat) (f h : Nat → Nat) (m : Bool) (x z : Int) (n t : Nat) (w : World) (hb : BoxAt w g f h m) (hx : x = n) (hn : n < 256) (ht : f n = t) (hz : z = t) :
    Calls Tryz.prog 73 #[.pointer (some ⟨g, 0, none⟩), .int .u8 x] w fun e w' => e = .returned (.int .u8 z) ∧ w = w' := by
  subst hx; subst ht; subst hz; exact bSub_any g f h m n w hb hn

theorem bits_or32 (a b : Nat) (ha : a < 4294967296) (hb : b < 4294967296) : bits .or .u32 (a : Int) (b : Int) = ((a ||| b : Nat) : Int) := by
  show IntKind.u32.wrap (((BitVec.ofInt 32 (a : Int)) ||| (BitVec.ofInt 32 (b : Int))).toNat : Int) = _
  rw [BitVec.toNat_or, ofInt_toNat 32 a ha, ofInt_toNat 32 b hb, IntKind.wrap_u32]
  have : a ||| b < 2 ^ 32 := Nat.or_lt_two_pow ha hb
  omega

set_option maxRecDepth 100000 in
set_option maxHeartbeats 400000 in
theorem bWord_any (g : Nat) (f h : Nat → Nat) (m : Bool) (hf : ∀ i, f i < 256) (x : Nat) (w : World) (hb : BoxAt w g f h m) (hx : x < 4294967296) :
    Calls Tryz.prog 105 #[.pointer (some ⟨g, 0, none⟩), .int .u32 (x : Int)] w fun e w' => e = .returned (.int .u32 (bwd f x 4 : Int)) ∧ w = w' := by
  have hxi : (x : Int) < 4294967296 := by omega
  have hxn := Lib.hid hx
  clear hx
  go_enter Tryz.func105, Tryz.ntmps105
  go_wp2
  go_loop [5, 6] (fun out i => ∃ k : Nat, k ≤ 4 ∧ i = .int .i64 (8 * (k : Int)) ∧ out = .int .u32 (bwd f x k : Int)) (fun _ i => (40 - intOf i).toNat)
  case atStart => exact ⟨0, by omega, rfl, rfl⟩
  case round =>
    obtain ⟨k, hk, rfl, rfl⟩ := hrel
    by_cases hlt : k < 4
    · have hl := wd_lt f hf x k
      have hs := wd_or f hf x k
      have hle := wd_lt f hf x (k + 1)
      obtain ⟨q, hq⟩ : ∃ q, bwd f x k = q := ⟨_, rfl⟩
      obtain ⟨q', hq'⟩ : ∃ q', bwd f x (k + 1) = q' := ⟨_, rfl⟩
      rw [hq, hq'] at hs
      rw [hq] at hl ⊢
      rw [hq'] at hle
      clear hq
      obtain rfl | rfl | rfl | rfl : k = 0 ∨ k = 1 ∨ k = 2 ∨ k = 3 := by omega
      · obtain ⟨t, ht⟩ : ∃ t, f (x % 256) = t := ⟨_, rfl⟩
        have hs := Lib.hid (show q ||| (t * 1) = q' from by rw [← hs, ← ht, Nat.mul_zero, Nat.pow_zero, Nat.div_one])
        have htn : t < 256 := by rw [← ht]; exact hf _
        have hti : (t : Int) < 256 := by omega
        have hor : bits .or .u32 (q : Int) (t : Int) = (q' : Int) := by
          have e : (t : Int) = ((t * 1 : Nat) : Int) := by omega
          rw [e, bits_or32 q (t * 1) (Nat.lt_trans hl (by decide)) (by omega), hs.out]
        have ht := Lib.hid ht
        have hl := Lib.hid hl
        have hle := Lib.hid hle
        have htn := Lib.hid htn
        have hq'' := Lib.hid hq'
        clear hq'
        go_wp2_with fail
        refine (bSub_of g f h m _ t (x % 256) t _ hb (by have := hxn.out; omega) (Nat.mod_lt _ (by decide)) ht.out rfl).mono ?_; rintro e w' ⟨rfl, rfl⟩
        go_wp2
        go_round
        case rel => exact ⟨1, by omega, by go_num, by rw [hq''.out]⟩
        case measure => simp [intOf]
      · obtain ⟨t, ht⟩ : ∃ t, f (x / 256 % 256) = t := ⟨_, rfl⟩
        have hs := Lib.hid (show q ||| (t * 256) = q' from by rw [← hs, ← ht])
        have htn : t < 256 := by rw [← ht]; exact hf _
        have hti : (t : Int) < 256 := by omega
        have hor : bits .or .u32 (q : Int) ((t : Int) * 256) = (q' : Int) := by
          have e : ((t : Int) * 256) = ((t * 256 : Nat) : Int) := by omega
          rw [e, bits_or32 q (t * 256) (Nat.lt_trans hl (by decide)) (by omega), hs.out]
        have ht := Lib.hid ht
        have hl := Lib.hid hl
        have hle := Lib.hid hle
        have htn := Lib.hid htn
        have hq'' := Lib.hid hq'
        clear hq'
        go_wp2_with fail
        refine (bSub_of g f h m _ t (x / 256 % 256) t _ hb (by have := hxn.out; omega) (Nat.mod_lt _ (by decide)) ht.out rfl).mono ?_; rintro e w' ⟨rfl, rfl⟩
        go_wp2
        go_round
        case rel => exact ⟨2, by omega, by go_num, by rw [hq''.out]⟩
        case measure => simp [intOf]
      · obtain ⟨t, ht⟩ : ∃ t, f (x / 65536 % 256) = t := ⟨_, rfl⟩
        have hs := Lib.hid (show q ||| (t * 65536) = q' from by rw [← hs, ← ht])
        have htn : t < 256 := by rw [← ht]; exact hf _
        have hti : (t : Int) < 256 := by omega
        have hor : bits .or .u32 (q : Int) ((t : Int) * 65536) = (q' : Int) := by
          have e : ((t : Int) * 65536) = ((t * 65536 : Nat) : Int) := by omega
          rw [e, bits_or32 q (t * 65536) (Nat.lt_trans hl (by decide)) (by omega), hs.out]
        have ht := Lib.hid ht
        have hl := Lib.hid hl
        have hle := Lib.hid hle
        have htn := Lib.hid htn
        have hq'' := Lib.hid hq'
        clear hq'
        go_wp2_with fail
        refine (bSub_of g f h m _ t (x / 65536 % 256) t _ hb (by have := hxn.out; omega) (Nat.mod_lt _ (by decide)) ht.out rfl).mono ?_; rintro e w' ⟨rfl, rfl⟩
        go_wp2
        go_round
        case rel => exact ⟨3, by omega, by go_num, by rw [hq''.out]⟩
        case measure => simp [intOf]
      · obtain ⟨t, ht⟩ : ∃ t, f (x / 16777216 % 256) = t := ⟨_, rfl⟩
        have hs := Lib.hid (show q ||| (t * 16777216) = q' from by rw [← hs, ← ht])
        have htn : t < 256 := by rw [← ht]; exact hf _
        have hti : (t : Int) < 256 := by omega
        have hor : bits .or .u32 (q : Int) ((t : Int) * 16777216) = (q' : Int) := by
          have e : ((t : Int) * 16777216) = ((t * 16777216 : Nat) : Int) := by omega
          rw [e, bits_or32 q (t * 16777216) (Nat.lt_trans hl (by decide)) (by omega), hs.out]
        have ht := Lib.hid ht
        have hl := Lib.hid hl
        have hle := Lib.hid hle
        have htn := Lib.hid htn
        have hq'' := Lib.hid hq'
        clear hq'
        go_wp2_with fail
        refine (bSub_of g f h m _ t (x / 16777216 % 256) t _ hb (by have := hxn.out; omega) (Nat.mod_lt _ (by decide)) ht.out rfl).mono ?_; rintro e w' ⟨rfl, rfl⟩
        go_wp2
        go_round
        case rel => exact ⟨4, by omega, by go_num, by rw [hq''.out]⟩
        case measure => simp [intOf]
    · obtain rfl : k = 4 := by omega
      go_wp2
      go_ret
      exact ⟨rfl, rfl⟩

set_option maxRecDepth 100000 in
set_option maxHeartbeats 400000 in
theorem bWord_nil (x : Nat) (w : World) (hx : x < 4294967296) :
    Calls Tryz.prog 105 #[.pointer none, .int .u32 (x : Int)] w fun e w' => e = .returned (.int .u32 0) ∧ w = w' := by
  have hxi : (x : Int) < 4294967296 := by omega
  clear hx
  have hor : bits .or .u32 0 0 = 0 := by decide
  go_enter Tryz.func105, Tryz.ntmps105
  go_wp2
  go_loop [5, 6] (fun out i => ∃ k : Nat, k ≤ 4 ∧ i = .int .i64 (8 * (k : Int)) ∧ out = .int .u32 0) (fun _ i => (40 - intOf i).toNat)
  case atStart => exact ⟨0, by omega, rfl, rfl⟩
  case round =>
    obtain ⟨k, hk, rfl, rfl⟩ := hrel
    by_cases hlt : k < 4
    · obtain rfl | rfl | rfl | rfl : k = 0 ∨ k = 1 ∨ k = 2 ∨ k = 3 := by omega
      all_goals
        go_wp2_with fail
        refine (bSub_nil _ _).mono ?_; rintro e w' ⟨rfl, rfl⟩
        go_wp2
        go_round
      case rel => exact ⟨1, by omega, by go_num, rfl⟩
      case measure => simp [intOf]
      case rel => exact ⟨2, by omega, by go_num, rfl⟩
      case measure => simp [intOf]
      case rel => exact ⟨3, by omega, by go_num, rfl⟩
      case measure => simp [intOf]
      case rel => exact ⟨4, by omega, by go_num, rfl⟩
      case measure => simp [intOf]
    · obtain rfl : k = 4 := by omega
      go_wp2
      go_ret
      exact ⟨rfl, rfl⟩
end Go.Proofs.YtagacpjeooaapaaGreatDoor
