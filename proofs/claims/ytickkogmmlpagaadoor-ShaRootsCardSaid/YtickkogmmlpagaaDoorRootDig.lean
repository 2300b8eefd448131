/-
  What the document's own reckoning by digits comes to: digits, comparison, product. Conditions: rows of at most 1000 digits.
-/
import Derived.Test.YtickkogmmlpagaaDoorRootMath
import Derived.Test.YtickkogmmlpagaaDoorAppends
import Derived.Test.YtickkogmmlpagaaDoorShaSched
namespace Go.Proofs.YtickkogmmlpagaaDoor
open Go.RowKit

theorem infoU64 : (Tryd.prog.info? 34).map (fun i => (i.zero, i.size, i.bytes)) = some (some (.int .u64 0), 1, 8) := by kernel_rfl

theorem mulAdd_quo (o x y c : Int) : IntKind.u64.wrap ((IntKind.u64.wrap (IntKind.u64.wrap (o + IntKind.u64.wrap (x * y)) + c)).tdiv 65536) = mulAdd o x y c / 65536 := by
  have h0 := mulAdd_lo o x y c
  have h1 := mulAdd_hi o x y c
  rw [mulAdd_eq, IntKind.wrap_u64, Int.tdiv_eq_ediv_of_nonneg h0]; omega
theorem mulAdd_rem (o x y c : Int) : (IntKind.u64.wrap (IntKind.u64.wrap (o + IntKind.u64.wrap (x * y)) + c)).tmod 65536 = mulAdd o x y c % 65536 := by
  rw [mulAdd_eq, Int.tmod_eq_emod_of_nonneg (mulAdd_lo o x y c)]
theorem digits_any (n : Int) (w : World) (h0 : 0 ≤ n) (h1 : n < 18446744073709551616) :
    Calls Tryd.prog 27 #[.int .u64 n] w fun e w' => ∃ b c, e = .returned (.slice b 3 c) ∧ Ints .u64 w' b 3 c (digitsOf n) ∧ Below w.heap.size w w' := by
  have e1 : IntKind.u64.wrap (n.tdiv 65536) = n / 65536 := by rw [IntKind.wrap_u64, Int.tdiv_eq_ediv_of_nonneg h0]; omega
  have e2 : (n / 65536).tmod 65536 = n / 65536 % 65536 := Int.tmod_eq_emod_of_nonneg (by omega)
  have e3 : IntKind.u64.wrap ((n / 65536).tdiv 65536) = n / 65536 / 65536 := by rw [IntKind.wrap_u64, Int.tdiv_eq_ediv_of_nonneg (by omega)]; omega
  go_enter Tryd.func27, Tryd.ntmps27
  go_wp2
  go_ret
  exact ⟨_, _, rfl, Ints.of_blk (Blk.new w 34 ((digitsOf n).map (Value.int .u64))) rfl (Nat.le_refl _) (fun i hi => by rw [Nat.zero_add]; exact getElem?_mapInt _ _ _ hi), below1 _ _⟩

set_option maxHeartbeats 800000 in
theorem most_any (a : Option Addr) (n ca : Nat) (xs : List Int) (b : Option Addr) (m cb : Nat) (ys : List Int) (w : World)
    (h : Ints .u64 w a n ca xs) (h' : Ints .u64 w b m cb ys) (hm : 0 < m) (hmn : m ≤ n) (hn : n ≤ 1000) :
    Calls Tryd.prog 29 #[.slice a n ca, .slice b m cb] w fun e w' => e = .returned (.bool (mostOf xs ys n)) ∧ w = w' := by
  have lx := Lib.hid h.len
  have ly := Lib.hid h'.len
  obtain ⟨bx, ox, rfl, cx⟩ := h.at (by omega)
  obtain ⟨by', oy, rfl, cy⟩ := h'.at hm
  have CX := Lib.hid cx; have CY := Lib.hid cy
  clear h h' cx cy
  have hmnI : (m : Int) ≤ (n : Int) := by omega
  go_enter Tryd.func29, Tryd.ntmps29
  go_wp2_with fail
  go_loop [6] (fun i => ∃ j : Nat, j ≤ n ∧ i = .int .i64 ((j : Int) - 1) ∧ mostOf xs ys n = mostOf xs ys j) (fun i => (intOf i + 1).toNat)
  case atStart => exact ⟨n, Nat.le_refl _, rfl, rfl⟩
  case round =>
    obtain ⟨j, hj, rfl, hE⟩ := hrel
    have HE := Lib.hid hE
    clear hE
    rcases j with _ | k
    · go_wp2
      go_ret
      exact ⟨by rw [HE.out]; rfl, rfl⟩
    · rw [show ((k + 1 : Nat) : Int) - 1 = (k : Int) by omega]
      obtain ⟨x, ex⟩ : ∃ x, x = xs.getD k 0 := ⟨_, rfl⟩
      obtain ⟨y, ey⟩ : ∃ y, y = ys.getD k 0 := ⟨_, rfl⟩
      have hkn : (k : Int) < (n : Int) := by omega
      have hkx := CX.out k (by omega)
      rw [← ex] at hkx
      have ST := Lib.hid (show mostOf xs ys (k + 1) = if x = y then mostOf xs ys k else decide (x < y) by rw [ex, ey]; rfl)
      have HX := Lib.hid ex
      clear ex
      by_cases hkm : k < m
      · have hky := CY.out k hkm
        rw [← ey] at hky
        have hkmI : (k : Int) < (m : Int) := by omega
        clear ey
        by_cases hxy : x = y
        · subst hxy
          go_wp2
          go_round
          case rel => exact ⟨k, by omega, rfl, by rw [HE.out, ST.out, if_pos rfl]⟩
          case measure => simp [intOf] <;> omega
        · go_wp2
          go_ret
          exact ⟨by rw [HE.out, ST.out, if_neg hxy]; rfl, rfl⟩
      · have hkmI : (m : Int) ≤ (k : Int) := by omega
        have ey0 : y = 0 := by rw [ey, List.getD_eq_getElem?_getD, List.getElem?_eq_none (by rw [ly.out]; omega)]; rfl
        subst ey0
        clear ey
        by_cases hxy : x = 0
        · subst hxy
          go_wp2
          go_round
          case rel => exact ⟨k, by omega, rfl, by rw [HE.out, ST.out, if_pos rfl]⟩
          case measure => simp [intOf] <;> omega
        · go_wp2
          go_ret
          exact ⟨by rw [HE.out, ST.out, if_neg hxy]; rfl, rfl⟩

set_option maxHeartbeats 1600000 in
theorem times_any (a : Option Addr) (n ca : Nat) (xs : List Int) (b : Option Addr) (m cb : Nat) (ys : List Int) (w : World)
    (h : Ints .u64 w a n ca xs) (h' : Ints .u64 w b m cb ys) (hn0 : 0 < n) (hm0 : 0 < m) (hn : n ≤ 1000) (hm : m ≤ 1000) :
    Calls Tryd.prog 28 #[.slice a n ca, .slice b m cb] w fun e w' => ∃ v c, e = .returned (.slice v (n + m) c) ∧ Ints .u64 w' v (n + m) c (timesOf xs ys) ∧ Below w.heap.size w w' := by
  obtain ⟨i0, hi, hz0, hz1, hz2⟩ := info_parts infoU64
  have lx := Lib.hid h.len
  have ly := Lib.hid h'.len
  obtain ⟨bx, ox, rfl, cx⟩ := h.at hn0
  obtain ⟨by', oy, rfl, cy⟩ := h'.at hm0
  have CX := Lib.hid cx; have CY := Lib.hid cy
  clear h h' cx cy
  obtain ⟨N, hN⟩ : ∃ N, N = n + m := ⟨_, rfl⟩
  rw [← hN]
  have HN := Lib.hid hN
  have hNI : (n : Int) + (m : Int) = (N : Int) := by omega
  have hN2 : N ≤ 2000 := by omega
  obtain ⟨G, hG⟩ : ∃ G, G = w.heap.size := ⟨_, rfl⟩
  have HG := Lib.hid hG
  have HT := fun j => Lib.hid (timesTo_length xs ys j)
  rw [lx.out, ly.out, ← hN] at HT
  clear hN hG
  go_enter Tryd.func28, Tryd.ntmps28
  go_wp2_with (at_make; refine wpList_make_two rfl (.tmp 14) (.tmp 14) 59 rfl w.heap.size 34 i0 (.int .u64 0) Tryd.underlying59 hi hz0 hz1 rfl rfl rfl (n := N) (C := N) ?_ ?_ ?_ ?_ ?_ (Nat.le_refl _) ?_; omega; omega; exact Nat.le_refl _; (rw [hz2]; omega); (unfold maxLen; omega); intro w1 hown1 hblk1 hgr1)
  have hb1 : Below w.heap.size w w1 := (Below.refl _ _).grown hgr1 (Nat.le_refl _) (by simp)
  rw [← HG.out] at hblk1 hb1
  have hblk : Blk w1 G 34 ((timesTo xs ys 0).map (Value.int .u64)) := hblk1.cast (by rw [timesTo, List.map_replicate, lx.out, ly.out, HN.out])
  clear hown1 hblk1 hgr1
  rw [← HG.out]
  go_loopw [6] (fun i wr => ∃ j : Nat, j ≤ n ∧ i = .int .i64 j ∧ Blk wr G 34 ((timesTo xs ys j).map (Value.int .u64)) ∧ Below G w wr) (fun i _ => n - (intOf i).toNat)
  case atStart => exact ⟨0, Nat.zero_le _, rfl, hblk, hb1⟩
  case round =>
    obtain ⟨j, hj, rfl, hv, hb⟩ := hrel
    clear hblk hb1
    by_cases hlt : j < n
    · have hltI : (j : Int) < (n : Int) := by omega
      obtain ⟨x, ex⟩ : ∃ x, x = xs.getD j 0 := ⟨_, rfl⟩
      obtain ⟨T, eT⟩ : ∃ T, T = timesTo xs ys j := ⟨_, rfl⟩
      have TS := Lib.hid (show timesTo xs ys (j + 1) = (timesRow x ys j T m).1.set (j + m) (timesRow x ys j T m).2 by rw [ex, eT, ← ly.out]; rfl)
      have lT := Lib.hid (show T.length = N by rw [eT]; exact (HT j).out)
      have hx0 := CX.out j hlt
      rw [← eT] at hv
      rw [← ex] at hx0
      have HX := Lib.hid hx0
      clear ex eT hx0
      go_wp2_with fail
      go_loopw [7, 8] (fun c i wr => ∃ k : Nat, k ≤ m ∧ i = .int .i64 k ∧ c = .int .u64 (timesRow x ys j T k).2 ∧ Blk wr G 34 ((timesRow x ys j T k).1.map (Value.int .u64)) ∧ Below G w wr) (fun _ i _ => m - (intOf i).toNat)
      case atStart => exact ⟨0, Nat.zero_le _, rfl, rfl, hv, hb⟩
      case round =>
        obtain ⟨k, hk, rfl, rfl, hv, hb⟩ := hrel
        have RL := Lib.hid (show (timesRow x ys j T k).1.length = N by rw [timesRow_length]; exact lT.out)
        obtain ⟨R, eR⟩ : ∃ R, R = (timesRow x ys j T k).1 := ⟨_, rfl⟩
        obtain ⟨c, ec⟩ : ∃ c, c = (timesRow x ys j T k).2 := ⟨_, rfl⟩
        have RL2 : R.length = N := by rw [eR]; exact RL.out
        by_cases hltk : k < m
        · have hltkI : (k : Int) < (m : Int) := by omega
          obtain ⟨o, eo⟩ : ∃ o, o = R.getD (j + k) 0 := ⟨_, rfl⟩
          obtain ⟨y, ey⟩ : ∃ y, y = ys.getD k 0 := ⟨_, rfl⟩
          have RS := Lib.hid (show timesRow x ys j T (k + 1) = (R.set (j + k) (mulAdd o x y c % 65536), mulAdd o x y c / 65536) by rw [eo, ey, eR, ec]; rfl)
          have hx : wr.cell? ⟨bx, ox + j, none⟩ = some (.int .u64 x) := by rw [hb.cell (by rw [HG.out]; exact World.block_lt_of_cell? w _ HX.out)]; exact HX.out
          have hy : wr.cell? ⟨by', oy + k, none⟩ = some (.int .u64 y) := by
            have hh := CY.out k hltk
            rw [hb.cell (by rw [HG.out]; exact World.block_lt_of_cell? w _ hh), ey]; exact hh
          rw [← eR] at hv
          rw [← ec]
          have ho : wr.cell? ⟨G, j + k, none⟩ = some (.int .u64 o) := by rw [hv.cell, eo]; exact getElem?_mapInt _ _ _ (by rw [RL2]; have := HN.out; omega)
          have hf := hv.frozen (j + k)
          have jk1 : IntKind.i64.wrap ((j : Int) + (k : Int)) = (j : Int) + (k : Int) := IntWalk.i64_in _ (by omega)
          have jk2 : ((j : Int) + (k : Int)).toNat = j + k := by omega
          have jk3 : (j : Int) + (k : Int) < (N : Int) := by omega
          have jk4 : (0 : Int) ≤ (j : Int) + (k : Int) := by omega
          clear eR ec eo ey RL RL2
          go_wp2_with fail
          go_quiet (fail)
          go_wp2_with fail
          go_roundw
          case rel =>
            refine ⟨k + 1, by omega, by go_num, ?_, ?_, (below_drewN hb _).setCell (by rw [HG.out]; exact Nat.le_refl _) _⟩
            · rw [RS.out, mulAdd_quo]
            · rw [RS.out, mulAdd_rem]
              have hv2 : Blk (wr.drewN nq) G 34 (R.map (Value.int .u64)) := hv
              exact (hv2.set (j + k) _).cast (by rw [List.map_set])
          case measure => simp [intOf] <;> omega
        · obtain rfl : m = k := by omega
          have hge : (m : Int) ≤ (m : Int) := Int.le_refl _
          rw [← eR] at hv
          rw [← ec]
          rw [← eR, ← ec] at TS
          have ho : wr.cell? ⟨G, j + m, none⟩ = some (.int .u64 (R.getD (j + m) 0)) := by rw [hv.cell]; exact getElem?_mapInt _ _ _ (by rw [RL2]; have := HN.out; omega)
          have hf := hv.frozen (j + m)
          have jk1 : IntKind.i64.wrap ((j : Int) + (m : Int)) = (j : Int) + (m : Int) := IntWalk.i64_in _ (by omega)
          have jk2 : ((j : Int) + (m : Int)).toNat = j + m := by omega
          have jk3 : (j : Int) + (m : Int) < (N : Int) := by omega
          have jk4 : (0 : Int) ≤ (j : Int) + (m : Int) := by omega
          clear eR ec RL RL2
          go_wp2_with fail
          go_roundw
          case rel =>
            refine ⟨j + 1, by omega, by go_num, ?_, hb.setCell (by rw [HG.out]; exact Nat.le_refl _) _⟩
            rw [TS.out]
            exact (hv.set (j + m) _).cast (by rw [List.map_set])
          case measure => simp [intOf] <;> omega
    · obtain rfl : n = j := by omega
      have hge : (n : Int) ≤ (n : Int) := Int.le_refl _
      go_wp2_with fail
      go_ret
      refine ⟨_, _, rfl, Ints.of_blk hv ?_ (Nat.le_refl _) (fun i hi => ?_), by rw [← HG.out]; exact hb⟩
      · unfold timesOf; rw [lx.out]; exact (HT n).out
      · rw [Nat.zero_add]
        unfold timesOf
        rw [lx.out]
        exact getElem?_mapInt _ _ _ (by rw [(HT n).out]; exact hi)
end Go.Proofs.YtickkogmmlpagaaDoor
