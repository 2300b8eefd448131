/-
  A move by many bytes through squares of a matrix, told by a closure; Join; the sums as the laws of layer 11 take them ('crcProg'). New memory alone is written.
-/
import Derived.Test.YtlningdlddnnkaaDoorCpMat
import Derived.Test.YtlningdlddnnkaaDoorCpMore
namespace Go.Proofs.YtlningdlddnnkaaDoor
open Go.RowKit

theorem ofInt_toNat' (w n : Nat) (h : n < 2 ^ w) : (BitVec.ofInt w (n : Int)).toNat = n := by
  rw [BitVec.ofInt_natCast, BitVec.toNat_ofNat, Nat.mod_eq_of_lt h]
theorem and1_64 (l : Nat) (h : l < 18446744073709551616) : bits .and .u64 (l : Int) 1 = ((l % 2 : Nat) : Int) := by
  show IntKind.u64.wrap (((BitVec.ofInt 64 (l : Int)) &&& (BitVec.ofInt 64 ((1 : Nat) : Int))).toNat : Int) = _
  rw [BitVec.toNat_and, ofInt_toNat' 64 l h, ofInt_toNat' 64 1 (by decide), Nat.and_one_is_mod, IntKind.wrap_u64]
  omega

set_option maxRecDepth 100000 in
set_option maxHeartbeats 1000000 in
theorem cMoved_any (X : BitVec 32) (n : Nat) (w : World) (hG0 : Glob11 w) (hn : n < 18446744073709551616) :
    Calls Tryd.prog 15 #[.int .u32 (nv X), .int .u64 (n : Int)] w fun q w' => q = .returned (.int .u32 (nv (mvn (8 * n) X))) ∧ Below w.heap.size w w' := by
  have hsq := squares_any w hG0
  clear hG0
  obtain ⟨x, hx⟩ : ∃ x, nv X = x := ⟨_, rfl⟩
  have hxH := Lib.hid hx
  rw [hx]
  obtain ⟨G, hG⟩ : ∃ G, w.heap.size = G := ⟨_, rfl⟩
  rw [hG] at hsq ⊢
  obtain ⟨Z, hZZ, hZl⟩ : ∃ Z : List Value, Zero Tryd.prog 46 Z ∧ Z.length = 32 := ⟨_, zero32m, rowZ_len _ _⟩
  have hGH := Lib.hid hG
  have hnH := Lib.hid hn
  clear hx hG hn
  go_enter Tryd.func15, Tryd.ntmps15
  go_wp2_with fail
  refine hsq.mono ?_
  rintro q w1 ⟨rfl, k1, B1⟩
  clear hsq
  go_wp2_with fail
  go_loopw [0, 1] (fun s b wr => ∃ t : Nat, b = .int .u64 ((n / 2 ^ t : Nat) : Int) ∧ s = .int .u32 (nv (mvn (8 * (n % 2 ^ t)) X)) ∧ Blk wr G 46 (rowZ 32 (matF (4 * 2 ^ t))) ∧ Below G w wr) (fun _ b _ => (intOf b).toNat)
  case atStart => exact ⟨0, by rw [Nat.pow_zero, Nat.div_one], by rw [Nat.pow_zero, Nat.mod_one, Nat.mul_zero, mvn, hxH.out], k1, B1⟩
  case round =>
    clear k1 B1
    obtain ⟨t, rfl, rfl, hk, hB⟩ := hrel
    by_cases h0 : n / 2 ^ t = 0
    · have hf := moved_done n t X h0
      rw [hf, h0]
      clear hf
      go_wp2
      go_ret
      exact ⟨rfl, hB⟩
    · have hst := moved_step n t X
      obtain ⟨m, hm⟩ : ∃ m, n / 2 ^ t = m := ⟨_, rfl⟩
      have hmn : m ≤ n := by rw [← hm]; exact Nat.div_le_self _ _
      have hm2 : n / 2 ^ (t + 1) = m / 2 := by rw [Nat.pow_succ, ← Nat.div_div_eq_div_mul, hm]
      have hm2H := Lib.hid hm2
      rw [hm] at h0 hst ⊢
      have hm0 : (0 : Int) < (m : Int) := by omega
      have hnx := next_any (4 * 2 ^ t) G wr hk
      rw [show 2 * (4 * 2 ^ t) = 8 * 2 ^ t by omega] at hnx
      have h48 := Lib.hid (show 8 * 2 ^ t = 4 * 2 ^ (t + 1) by rw [Nat.pow_succ]; omega)
      have a1 := and1_64 m (by have := hnH.out; omega)
      have hct := fun Y g W h => cOfM_any (8 * 2 ^ t) Y g W h
      obtain ⟨R, hR⟩ : ∃ R, rowZ 32 (matF (8 * 2 ^ t)) = R := ⟨_, rfl⟩
      have hRl : R.length = 32 := by rw [← hR, rowZ_len]
      have hR1 := Lib.hid (show ∀ v ∈ R, v.oneCell' = true by rw [← hR]; exact rowZ_one _ _)
      have hIR : IsRow Tryd.prog 46 R.length := by rw [hRl]; exact row32m
      have hfit := Lib.hid (show 0 + R.length ≤ Z.length by rw [hRl, hZl]; decide)
      have hov := Lib.hid (overV_all Z R (by rw [hRl, hZl]))
      have hRk := Lib.hid (show ∀ W, Blk W G 46 R → Blk W G 46 (rowZ 32 (matF (4 * 2 ^ (t + 1)))) from fun W h => by rw [← h48.out, hR]; exact h)
      rw [hR] at hnx hct
      by_cases hb : m % 2 = 1
      · have hb1 : bits .and .u64 (m : Int) 1 = 1 := by rw [a1, hb]; rfl
        rw [if_pos hb] at hst
        have hct2 := fun g W h => hct (mvn (8 * (n % 2 ^ t)) X) g W h
        rw [← hst] at hct2
        obtain ⟨y, hy⟩ : ∃ y, nv (mvn (8 * (n % 2 ^ t)) X) = y := ⟨_, rfl⟩
        rw [hy] at hct2 ⊢
        have hctH := Lib.hid hct2
        have hmH := Lib.hid hm
        have hh0 := Lib.hid h0
        have hmnH := Lib.hid hmn
        clear hst hm hm2 hR a1 hct hct2 hk hy h0 hmn hb
        go_wp2_with (go_at_call 21; refine hnx.mono ?_; rintro q w3 ⟨rfl, k3, b3⟩; refine RowKit.Hid.out ?_)
        refine Lib.hid ?_
        have B3 := hB.trans b3
        clear hnx hB b3
        have m4 := Blk.new w3 46 Z
        have k4 := k3.alloc (.cells Z.toArray 46)
        have B4 : Below G w (w3.alloc (.cells Z.toArray 46)) := B3.alloc (Nat.le_of_lt k3.lt) _
        have hlt3 := k3.lt
        clear k3 B3
        go_wp2_with (first
          | (with_reducible refine wpList_alloc_blk rfl 46 rfl hZZ ?_)
          | (refine wpList_store_part (cs := R) rfl 46 (.tmp 6) (.tmp 13) rfl rfl rfl m4 hIR hfit.out hR1.out ?_; intro w5 m5 u5; refine RowKit.Hid.out ?_))
        refine Lib.hid ?_
        rw [hov.out] at m5
        have k5 := k4.grown u5 (by intro e; injection e with e; omega)
        have B5 : Below G w w5 := B4.grown u5 (Nat.le_of_lt k4.lt) (fun k hk => by injection hk with hk; omega)
        clear m4 k4 B4 u5
        go_wp2_with fail
        refine (hctH.out _ w5 m5).mono ?_
        rintro q w6 ⟨rfl, b6⟩
        have k6 := k5.keep b6 k5.lt
        have B6 := B5.trans (b6.mono (Nat.le_of_lt k5.lt))
        clear k5 B5 b6 hctH
        go_wp2
        exact ⟨⟨t + 1, by rw [hm2H.out]; congr 1, rfl, hRk.out _ k6, B6⟩, by simp only [intOf]; have := hh0.out; omega⟩
      · have hb1 : ¬ bits .and .u64 (m : Int) 1 = 1 := by rw [a1]; omega
        rw [if_neg hb] at hst
        obtain ⟨y, hy⟩ : ∃ y, nv (mvn (8 * (n % 2 ^ t)) X) = y := ⟨_, rfl⟩
        have hstH := Lib.hid (show nv (mvn (8 * (n % 2 ^ (t + 1))) X) = y by rw [hst]; exact hy)
        rw [hy]
        have hmH := Lib.hid hm
        have hh0 := Lib.hid h0
        have hmnH := Lib.hid hmn
        clear hst hm hm2 hR a1 hct hk hy h0 hmn hb
        go_wp2_with (go_at_call 21; refine hnx.mono ?_; rintro q w3 ⟨rfl, k3, b3⟩; refine RowKit.Hid.out ?_)
        refine Lib.hid ?_
        have B3 := hB.trans b3
        clear hnx hB b3
        have m4 := Blk.new w3 46 Z
        have k4 := k3.alloc (.cells Z.toArray 46)
        have B4 : Below G w (w3.alloc (.cells Z.toArray 46)) := B3.alloc (Nat.le_of_lt k3.lt) _
        have hlt3 := k3.lt
        clear k3 B3
        go_wp2_with (first
          | (with_reducible refine wpList_alloc_blk rfl 46 rfl hZZ ?_)
          | (refine wpList_store_part (cs := R) rfl 46 (.tmp 6) (.tmp 13) rfl rfl rfl m4 hIR hfit.out hR1.out ?_; intro w5 m5 u5; refine RowKit.Hid.out ?_))
        refine Lib.hid ?_
        rw [hov.out] at m5
        have k5 := k4.grown u5 (by intro e; injection e with e; omega)
        have B5 : Below G w w5 := B4.grown u5 (Nat.le_of_lt k4.lt) (fun k hk => by injection hk with hk; omega)
        clear m4 k4 B4 u5
        have k6 := k5
        have B6 := B5
        clear k5 B5
        go_wp2
        rw [← hstH.out]
        exact ⟨⟨t + 1, by rw [hm2H.out]; congr 1, rfl, hRk.out _ k6, B6⟩, by simp only [intOf]; have := hh0.out; omega⟩

set_option maxRecDepth 100000 in
set_option maxHeartbeats 1000000 in
theorem cJoin_any (X Y : BitVec 32) (n : Nat) (w : World) (hG0 : Glob11 w) (hn : n < 18446744073709551616) :
    Calls Tryd.prog 14 #[.int .u32 (nv X), .int .u32 (nv Y), .int .u64 (n : Int)] w fun q w' => q = .returned (.int .u32 (nv (mvn (8 * n) X ^^^ Y))) ∧ Below w.heap.size w w' := by
  have hc := cMoved_any X n w hG0 hn
  clear hG0
  have hx := xor_nv (mvn (8 * n) X) (nv Y)
  rw [bv_nv] at hx
  have hnH := Lib.hid hn
  clear hn
  obtain ⟨x, hx1⟩ : ∃ x, nv X = x := ⟨_, rfl⟩
  obtain ⟨y, hy1⟩ : ∃ y, nv Y = y := ⟨_, rfl⟩
  obtain ⟨z, hz1⟩ : ∃ z, nv (mvn (8 * n) X) = z := ⟨_, rfl⟩
  rw [hx1, hz1] at hc
  rw [hy1, hz1] at hx
  rw [hx1, hy1]
  clear hx1 hy1 hz1
  go_enter Tryd.func14, Tryd.ntmps14
  go_wp2_with fail
  refine hc.mono ?_
  rintro q w1 ⟨rfl, b1⟩
  go_wp2
  go_ret
  exact ⟨rfl, b1⟩

def crcProg : CrcProg where
  Gl := Glob11
  N := 0 + 1
  gl_le := fun h => h.lt
  gl_keep := fun h hb => fun i hi => by rw [hb.cell (Nat.lt_succ_self _)]; exact h i hi
  of := fun a n c ps w hG hP hr hn => (cOf_any a n c ps w hG hP hr hn).mono fun q w' h => ⟨h.1, h.2 ▸ Below.refl _ _⟩
  more := fun S a n c xs w hG hI hr hn => (cMore_any S a n c xs w hG hI hr hn).mono fun q w' h => ⟨h.1, h.2 ▸ Below.refl _ _⟩
  moved := fun X n w hG hn => cMoved_any X n w hG hn
  join := fun X Y n w hG hn => cJoin_any X Y n w hG hn
end Go.Proofs.YtlningdlddnnkaaDoor
