/-
  Texts of stages that were proved on their own, joined: CrcRef. Each begins with its own words.
-/
import Derived.Test.YtinmmhbiomcdoaaGreatDoorJVaLawN4
import Derived.Test.YtinmmhbiomcdoaaGreatDoorSlices
import Derived.Test.YtinmmhbiomcdoaaGreatDoorProg

/-
  The document's own sums (layer 11): move, More, Of, Moved. Nothing is written. Conditions: bytes below 256, at most a hundred million.
-/
namespace Go.Proofs.YtinmmhbiomcdoaaGreatDoor
open Go.RowKit

set_option maxRecDepth 100000 in
set_option maxHeartbeats 800000 in
theorem rMove_any (X : BitVec 32) (w : World) : Calls Tryz.prog 129 #[.int .u32 (nv X)] w fun q w' => q = .returned (.int .u32 (nv (mv X))) ∧ w = w' := by
  have h0 := nv_lo X
  have h1 := nv_hi X
  by_cases h : nv X % 2 = 1
  · have hm := mv_odd h
    obtain ⟨x, hx⟩ : ∃ x, nv X = x := ⟨_, rfl⟩
    rw [hx] at h h0 h1 hm ⊢
    clear hx
    go_enter Tryz.func129, Tryz.ntmps129
    go_wp2
    go_ret
    exact ⟨rfl, rfl⟩
  · have hm := mv_even h
    obtain ⟨x, hx⟩ : ∃ x, nv X = x := ⟨_, rfl⟩
    rw [hx] at h h0 h1 hm ⊢
    clear hx
    go_enter Tryz.func129, Tryz.ntmps129
    go_wp2
    go_ret
    exact ⟨by rw [← hm]; rfl, rfl⟩

set_option maxRecDepth 100000 in
set_option maxHeartbeats 800000 in
theorem rMore_any (S : BitVec 32) (a : Option Addr) (n c : Nat) (xs : List Int) (w : World) (hI : Ints .u8 w a n c xs) (hr : ∀ x ∈ xs, 0 ≤ x ∧ x < 256) (hn : n ≤ 100000000) :
    Calls Tryz.prog 103 #[.int .u32 (nv S), .slice a n c] w fun q w' => q = .returned (.int .u32 (nv (crcOf S (bvs xs)))) ∧ w = w' := by
  have hnI : (n : Int) ≤ 100000000 := by omega
  have hl := hI.len
  unfold crcOf
  have e0 : bits .xor .u32 (nv S) 4294967295 = nv (S ^^^ 4294967295#32) := xor_nv S 4294967295
  obtain ⟨T, hT⟩ : ∃ T, S ^^^ 4294967295#32 = T := ⟨_, rfl⟩
  rw [hT] at e0 ⊢
  obtain ⟨s0, hs0⟩ : ∃ s0, nv S = s0 := ⟨_, rfl⟩
  rw [hs0] at e0 ⊢
  clear hT hs0
  go_enter Tryz.func103, Tryz.ntmps103
  go_wp2_with fail
  go_loopw [0, 5] (fun s i wr => ∃ j : Nat, j ≤ n ∧ i = .int .i64 j ∧ s = .int .u32 (nv (more T (bvs (xs.take j)))) ∧ wr = w) (fun _ i _ => n - (intOf i).toNat)
  case atStart => exact ⟨0, Nat.zero_le _, rfl, by first | rfl | (rw [e0]; rfl), rfl⟩
  case round =>
    obtain ⟨j, hj, rfl, rfl, hwr⟩ := hrel
    have hwr' := hwr.symm
    subst hwr'
    by_cases hlt : j < n
    · have hji : (j : Int) < (n : Int) := by omega
      obtain ⟨b, off, rfl, hat⟩ := hI.at (by omega)
      have hb := hat j hlt
      have hv := getD_range (p := fun x => 0 ≤ x ∧ x < 256) hr j (by omega)
      have hstep := Lib.hid (more_take T xs j (by omega))
      obtain ⟨M, hM⟩ : ∃ M, more T (bvs (xs.take j)) = M := ⟨_, rfl⟩
      rw [hM] at hstep
      rw [hM]
      obtain ⟨v, hve⟩ : ∃ v, xs.getD j 0 = v := ⟨_, rfl⟩
      rw [hve] at hb hv hstep
      have ex := xor_nv M v
      obtain ⟨Z, hZ⟩ : ∃ Z, M ^^^ bv v = Z := ⟨_, rfl⟩
      rw [hZ] at ex hstep
      obtain ⟨y, hy⟩ : ∃ y, nv M = y := ⟨_, rfl⟩
      rw [hy] at ex ⊢
      have hv0 := hv.1
      have hv1 := hv.2
      have hltH := Lib.hid hlt
      clear hlt hj hM hve hy hZ hat
      go_wp2_with fail
      go_loopw [0, 6] (fun s i wr => ∃ k : Nat, k ≤ 8 ∧ i = .int .i64 k ∧ s = .int .u32 (nv (mvn k Z)) ∧ wr = w) (fun _ i _ => 8 - (intOf i).toNat)
      case atStart => exact ⟨0, Nat.zero_le _, rfl, by first | rfl | (rw [ex]; rfl), rfl⟩
      case round =>
        obtain ⟨k, hk, rfl, rfl, hwr⟩ := hrel
        have hwr' := hwr.symm
        subst hwr'
        by_cases hlt : k < 8
        · have hki : (k : Int) < 8 := by omega
          have hc := rMove_any (mvn k Z) w
          rw [← mvn_succ] at hc
          obtain ⟨y2, hy2⟩ : ∃ y2, nv (mvn k Z) = y2 := ⟨_, rfl⟩
          rw [hy2] at hc ⊢
          have hkH := Lib.hid hlt
          clear hlt hk hy2
          go_wp2_with fail
          refine hc.mono ?_
          rintro q w1 ⟨rfl, rfl⟩
          clear hc
          go_wp2
          exact ⟨⟨k + 1, by have := hkH.out; omega, by congr 1, rfl, by trivial⟩, by simp only [intOf]; have := hkH.out; omega⟩
        · obtain rfl : k = 8 := by omega
          clear hlt hk
          rw [← hstep.out]
          go_wp2
          exact ⟨⟨j + 1, by have := hltH.out; omega, by congr 1, rfl, by trivial⟩, by simp only [intOf]; have := hltH.out; omega⟩
    · obtain rfl : j = n := by omega
      have hji : ¬ (j : Int) < (j : Int) := by omega
      rw [List.take_of_length_le (by omega)]
      have ex := xor_nv (more T (bvs xs)) 4294967295
      rw [show bv 4294967295 = 4294967295#32 from by decide] at ex
      obtain ⟨y, hy⟩ : ∃ y, nv (more T (bvs xs)) = y := ⟨_, rfl⟩
      rw [hy] at ex ⊢
      have exH := Lib.hid ex
      clear hlt hj hy ex
      go_wp2
      go_ret
      exact ⟨by rw [← exH.out]; rfl, rfl⟩

set_option maxRecDepth 100000 in
set_option maxHeartbeats 800000 in
theorem rOf_any (a : Option Addr) (n c : Nat) (xs : List Int) (w : World) (hI : Ints .u8 w a n c xs) (hr : ∀ x ∈ xs, 0 ≤ x ∧ x < 256) (hn : n ≤ 100000000) :
    Calls Tryz.prog 64 #[.slice a n c] w fun q w' => q = .returned (.int .u32 (nv (crcOf 0#32 (bvs xs)))) ∧ w = w' := by
  have hc := rMore_any 0#32 a n c xs w hI hr hn
  rw [show nv 0#32 = 0 from rfl] at hc
  go_enter Tryz.func64, Tryz.ntmps64
  go_wp2_with fail
  refine hc.mono ?_
  rintro q w1 ⟨rfl, rfl⟩
  go_wp2
  go_ret
  exact ⟨rfl, rfl⟩
end Go.Proofs.YtinmmhbiomcdoaaGreatDoor
