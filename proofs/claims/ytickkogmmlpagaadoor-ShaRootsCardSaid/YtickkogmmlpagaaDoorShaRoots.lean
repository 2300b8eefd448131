/-
  The law ShaRoots comes to true, whatever the number; only new memory is written. Condition: the package's variables hold the constants and the starts.
-/
import Derived.Test.YtickkogmmlpagaaDoorRootFns
import Derived.Test.YtickkogmmlpagaaDoorShaAlive
namespace Go.Proofs.YtickkogmmlpagaaDoor
open Go.RowKit

theorem good_range (c s p : Int) (is : Bool) : ∀ t : Nat, 0 ≤ goodOf c s p is t ∧ goodOf c s p is t ≤ 101 * t
  | 0 => by simp [goodOf]
  | t + 1 => by
    obtain ⟨h1, h2⟩ := good_range c s p is t
    simp only [goodOf]
    split <;> split <;> omega
theorem good_end (n : Nat) (hn : n < 64) : goodOf (kW.getD n 0) (if n < 8 then starts8.list.getD n 0 else 0) (primes.getD (n + 1) 0 : Nat) (decide (n < 8)) 19 = if n < 8 then 101 else 1 := by
  have h := List.all_eq_true.1 roots_all n (List.mem_range.2 hn)
  unfold rootsOk at h
  exact of_decide_eq_true h

theorem root3_any (n p : Int) (w : World) (h0 : 0 ≤ n) (h1 : n < 1099511627776) :
    Calls Tryd.prog 19 #[.int .u64 n, .int .u64 p, .int .i64 3] w fun e w' => e = .returned (.bool (rootOf n p 3)) ∧ Below w.heap.size w w' := root_any n p 3 w h0 h1 (by decide) (by decide)
theorem root2_any (n p : Int) (w : World) (h0 : 0 ≤ n) (h1 : n < 1099511627776) :
    Calls Tryd.prog 19 #[.int .u64 n, .int .u64 p, .int .i64 2] w fun e w' => e = .returned (.bool (rootOf n p 2)) ∧ Below w.heap.size w w' := root_any n p 2 w h0 h1 (by decide) (by decide)

set_option maxHeartbeats 1600000 in
theorem roots_far (a : Int) (w : World) (hG : Glob w) (h : a < 0 ∨ 64 ≤ a) :
    Calls Tryd.prog 5 #[.int .i64 a] w fun e w' => e = .returned (.bool true) ∧ Below w.heap.size w w' := by
  go_enter Tryd.func5, Tryd.ntmps5
  go_wp2_with fail
  refine (constant_no a w h).mono ?_; rintro e w1 ⟨rfl, rfl⟩
  go_wp2_with fail
  refine (start_no a w (by omega)).mono ?_; rintro e w2 ⟨rfl, rfl⟩
  rcases h with h | h
  · have h' : ¬ (0 ≤ a) := by omega
    go_wp2_with fail
    refine (alive2_any w hG).mono ?_; rintro e w3 ⟨rfl, b3⟩
    go_wp2_with fail
    go_ret
    exact ⟨rfl, b3⟩
  · have h' : (0 : Int) ≤ a := by omega
    have h2 : ¬ (a < 64) := by omega
    have h3 : ¬ (a < 8) := by omega
    go_wp2_with fail
    refine (alive2_any w hG).mono ?_; rintro e w3 ⟨rfl, b3⟩
    go_wp2_with fail
    go_ret
    exact ⟨rfl, b3⟩

set_option maxHeartbeats 3200000 in
theorem roots_near (n : Nat) (w : World) (hG : Glob w) (hn : n < 64) (is : Bool) (s : Int) (his : decide (n < 8) = is) (hs : s = if n < 8 then starts8.list.getD n 0 else 0) :
    Calls Tryd.prog 5 #[.int .i64 n] w fun e w' => e = .returned (.bool true) ∧ Below w.heap.size w w' := by
  have hS : Calls Tryd.prog 17 #[.int .i64 n] w fun e w' => e = .returned (.tuple #[.int .u32 s, .bool is]) ∧ w = w' := by
    by_cases h8 : n < 8
    · rw [hs, if_pos h8, ← his, decide_eq_true h8]; exact start_any n w hG h8
    · rw [hs, if_neg h8, ← his, decide_eq_false h8]; exact start_no n w (by omega)
  have s0 : is = false → s = 0 := by intro h; rw [hs, if_neg (by rw [h] at his; simpa using his)]
  have sr : 0 ≤ s ∧ s < 4294967296 := by
    rw [hs]; split
    · exact getD_range (S8.ok_range starts8_ok) n (by show n < 8; assumption)
    · omega
  have cr := getD_range kW_range n (by rw [kW_length]; exact hn)
  obtain ⟨c, hc⟩ : ∃ c, c = kW.getD n 0 := ⟨_, rfl⟩
  have hE := good_end n hn
  have PB := primes_small (n + 1) (by omega)
  have hC := constant_any n w hG hn
  have hP := fun w => prime_any n w hn
  obtain ⟨p, hp⟩ : ∃ p, p = primes.getD (n + 1) 0 := ⟨_, rfl⟩
  rw [← hc] at hC cr
  rw [← hs, ← hc, his, ← hp] at hE
  rw [← hp] at hP
  have hE2 : goodOf c s p is 19 = if is = true then 101 else 1 := by rw [hE]; cases is <;> simp_all
  have i8 : decide ((n : Int) < 8) = is := by rw [← his]; exact decide_eq_decide.2 (by omega)
  have HC := Lib.hid hC; have HS := Lib.hid hS; have HP := Lib.hid hP
  have n0 : (0 : Int) ≤ (n : Int) := by omega
  have n64 : (n : Int) < 64 := by omega
  obtain ⟨c0, c1⟩ := cr
  obtain ⟨r0, r1⟩ := sr
  obtain ⟨gf, hgf⟩ : ∃ gf, gf = goodOf c s p is := ⟨_, rfl⟩
  rw [← hgf] at hE2
  have g0 : gf 0 = 0 := by rw [hgf]; rfl
  have GS := Lib.hid (show ∀ t : Nat, gf (t + 1) = gf t + (if rootOf (((t : Int) + 1) * 4294967296 + c) p 3 then 1 else 0) + (if is && rootOf (((t : Int) + 1) * 4294967296 + s) p 2 then 100 else 0) by intro t; rw [hgf]; rfl)
  have GR := Lib.hid (show ∀ t : Nat, 0 ≤ gf t ∧ gf t ≤ 101 * t by intro t; rw [hgf]; exact good_range c s p is t)
  clear hgf
  have HE := Lib.hid hE2
  clear hE hE2 hC hS hP hp hc hs his
  go_enter Tryd.func5, Tryd.ntmps5
  go_wp2_with fail
  refine HC.out.mono ?_; rintro e w1 ⟨rfl, rfl⟩
  go_wp2_with fail
  refine HS.out.mono ?_; rintro e w2 ⟨rfl, rfl⟩
  cases is
  · have s0' := s0 rfl
    subst s0'
    clear s0
    go_wp2_with fail
    refine (HP.out w).mono ?_; rintro e w3 ⟨rfl, rfl⟩
    go_wp2_with fail
    go_loopw [8, 9] (fun gv tv wr => ∃ k : Nat, k ≤ 19 ∧ tv = .int .u64 ((k : Int) + 1) ∧ gv = .int .i64 (gf k) ∧ Below w.heap.size w wr) (fun _ tv _ => 20 - (intOf tv).toNat)
    case atStart => exact ⟨0, by omega, by go_num, by rw [g0], Below.refl _ _⟩
    case round =>
      obtain ⟨k, hk, rfl, rfl, hb⟩ := hrel
      obtain ⟨gl, gu⟩ := GR.out k
      have gu' : gf k ≤ 1919 := by omega
      by_cases hlt : k < 19
      · have hkI : (k : Int) < 19 := by omega
        have hk0 : (0 : Int) ≤ (k : Int) := by omega
        have GK := Lib.hid (GS.out k)
        obtain ⟨g, hg⟩ : ∃ g, g = gf k := ⟨_, rfl⟩
        rw [← hg] at gl gu' GK ⊢
        clear hg gu
        obtain ⟨X, hX⟩ : ∃ X, X = rootOf (((k : Int) + 1) * 4294967296 + c) p 3 := ⟨_, rfl⟩
        rw [← hX] at GK
        have HX := Lib.hid hX
        clear hX
        go_wp2_with fail
        refine (root3_any _ p wr (by omega) (by omega)).mono ?_; rintro e w4 ⟨rfl, b4⟩
        rw [← HX.out]
        have hb4 := hb.trans (b4.mono hb.size)
        clear HX b4 hb
        cases X
        · go_wp2_with fail
          go_roundw
          case rel => exact ⟨k + 1, by omega, by go_num, by rw [GK.out]; first | (simp; done) | go_num, hb4⟩
          case measure => simp [intOf] <;> omega
        · go_wp2_with fail
          go_roundw
          case rel => exact ⟨k + 1, by omega, by go_num, by rw [GK.out]; first | (simp; done) | go_num, hb4⟩
          case measure => simp [intOf] <;> omega
      · obtain rfl : k = 19 := by omega
        have hfin : gf 19 = 1 := HE.out.trans (if_neg (by decide))
        rw [hfin]
        clear gl gu gu' hlt
        go_wp2_with fail
        refine (alive2_any _ (hG.keep hb (Nat.le_refl _))).mono ?_; rintro e w6 ⟨rfl, b6⟩
        go_wp2_with fail
        go_ret
        exact ⟨rfl, hb.trans (b6.mono hb.size)⟩
  · clear s0
    go_wp2_with fail
    refine (HP.out w).mono ?_; rintro e w3 ⟨rfl, rfl⟩
    go_wp2_with fail
    go_loopw [8, 9] (fun gv tv wr => ∃ k : Nat, k ≤ 19 ∧ tv = .int .u64 ((k : Int) + 1) ∧ gv = .int .i64 (gf k) ∧ Below w.heap.size w wr) (fun _ tv _ => 20 - (intOf tv).toNat)
    case atStart => exact ⟨0, by omega, by go_num, by rw [g0], Below.refl _ _⟩
    case round =>
      obtain ⟨k, hk, rfl, rfl, hb⟩ := hrel
      obtain ⟨gl, gu⟩ := GR.out k
      have gu' : gf k ≤ 1919 := by omega
      by_cases hlt : k < 19
      · have hkI : (k : Int) < 19 := by omega
        have hk0 : (0 : Int) ≤ (k : Int) := by omega
        have GK := Lib.hid (GS.out k)
        obtain ⟨g, hg⟩ : ∃ g, g = gf k := ⟨_, rfl⟩
        rw [← hg] at gl gu' GK ⊢
        clear hg gu
        obtain ⟨X, hX⟩ : ∃ X, X = rootOf (((k : Int) + 1) * 4294967296 + c) p 3 := ⟨_, rfl⟩
        obtain ⟨Y, hY⟩ : ∃ Y, Y = rootOf (((k : Int) + 1) * 4294967296 + s) p 2 := ⟨_, rfl⟩
        rw [← hX, ← hY] at GK
        have HX := Lib.hid hX
        have HY := Lib.hid hY
        clear hX hY
        go_wp2_with fail
        refine (root3_any _ p wr (by omega) (by omega)).mono ?_; rintro e w4 ⟨rfl, b4⟩
        rw [← HX.out]
        have hb4 := hb.trans (b4.mono hb.size)
        clear HX b4 hb
        cases X
        · go_wp2_with fail
          refine (root2_any _ p w4 (by omega) (by omega)).mono ?_; rintro e w5 ⟨rfl, b5⟩
          rw [← HY.out]
          have hb5 := hb4.trans (b5.mono hb4.size)
          clear HY b5 hb4
          cases Y
          · go_wp2_with fail
            go_roundw
            case rel => exact ⟨k + 1, by omega, by go_num, by rw [GK.out]; first | (simp; done) | go_num, hb5⟩
            case measure => simp [intOf] <;> omega
          · go_wp2_with fail
            go_roundw
            case rel => exact ⟨k + 1, by omega, by go_num, by rw [GK.out]; first | (simp; done) | go_num, hb5⟩
            case measure => simp [intOf] <;> omega
        · go_wp2_with fail
          refine (root2_any _ p w4 (by omega) (by omega)).mono ?_; rintro e w5 ⟨rfl, b5⟩
          rw [← HY.out]
          have hb5 := hb4.trans (b5.mono hb4.size)
          clear HY b5 hb4
          cases Y
          · go_wp2_with fail
            go_roundw
            case rel => exact ⟨k + 1, by omega, by go_num, by rw [GK.out]; first | (simp; done) | go_num, hb5⟩
            case measure => simp [intOf] <;> omega
          · go_wp2_with fail
            go_roundw
            case rel => exact ⟨k + 1, by omega, by go_num, by rw [GK.out]; first | (simp; done) | go_num, hb5⟩
            case measure => simp [intOf] <;> omega
      · obtain rfl : k = 19 := by omega
        have hfin : gf 19 = 101 := HE.out.trans (if_pos trivial)
        rw [hfin]
        clear gl gu gu' hlt
        go_wp2_with fail
        refine (alive2_any _ (hG.keep hb (Nat.le_refl _))).mono ?_; rintro e w6 ⟨rfl, b6⟩
        go_wp2_with fail
        go_ret
        exact ⟨rfl, hb.trans (b6.mono hb.size)⟩

theorem law_ShaRoots (a : Int) (w : World) (hG : Glob w) (_ : (Lit.int .i64 a).wf = true) :
    Calls Tryd.prog 5 #[.int .i64 a] w fun e w' => e = .returned (.bool true) ∧ Below w.heap.size w w' := by
  by_cases h : a < 0 ∨ 64 ≤ a
  · exact roots_far a w hG h
  · obtain ⟨n, rfl⟩ := Int.eq_ofNat_of_zero_le (show 0 ≤ a by omega)
    exact roots_near n w hG (by omega) _ _ rfl rfl
end Go.Proofs.YtickkogmmlpagaaDoor
