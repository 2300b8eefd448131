/-
  Texts of stages that were proved on their own, joined: StreamCi. Each begins with its own words.
-/
import Derived.Test.YtclcnngpgbdjgaaCipherEnc

/-
  What Encrypt comes to of a cipher that lies at the beginning of a greater block. (Printed by mk_streamci.py out of XCipherSubst and XCipherEnc.)
-/
namespace Go.Proofs.Ytclcnngpgbdjgaa
open Go.RowKit

/-- Block g begins with a cipher of round keys F. -/
def CiR (w : World) (g : Nat) (t : TypeId) (F : Nat → Nat) (more : List Value) : Prop := Blk w g t (ciCells F sb bk true true ++ more)
theorem ciR_at (F : Nat → Nat) (more : List Value) (i : Nat) (hi : i < 754) : (ciCells F sb bk true true ++ more)[i]? = (ciCells F sb bk true true)[i]? := List.getElem?_append_left (by rw [ciCells_len]; exact hi)
theorem ciR_made (F : Nat → Nat) (more : List Value) : (ciCells F sb bk true true ++ more)[753]? = some (.bool true) := by rw [ciR_at F more 753 (by decide), ciCells_made]
theorem ciR_key {w : World} {g : Nat} {t : TypeId} {F : Nat → Nat} {more : List Value} (hb : CiR w g t F more) (r : Nat) (hr : r < 15) : w.rangeAt g (16 * r) (rowN 16 (keyAt F r)) := by
  refine Blk.range hb (16 * r) _ fun j v hj => ?_
  by_cases h16 : j < 16
  · rw [rowN_at 16 _ j h16] at hj
    rw [ciR_at _ _ _ (by omega), ciCells_key _ _ _ _ _ _ (by omega)]
    exact hj
  · rw [List.getElem?_eq_none (by rw [rowN_len]; omega)] at hj
    cases hj
theorem ciR_key' {w : World} {g : Nat} {t : TypeId} {F : Nat → Nat} {more : List Value} (hb : CiR w g t F more) (r : Nat) (hr : r < 15) : w.rangeAt g (r * 16) (rowN 16 (keyAt F r)) := by
  rw [Nat.mul_comm]; exact ciR_key hb r hr

set_option maxHeartbeats 400000 in
theorem tSub_any (g : Nat) (t : TypeId) (F : Nat → Nat) (more : List Value) (x : Nat) (w : World) (hb : CiR w g t F more) (hx : x < 256) :
    Calls Try.prog 30 #[.pointer (some ⟨g, 240, none⟩), .int .u8 (x : Int)] w fun e w' => e = .returned (.int .u8 (sb x : Int)) ∧ w = w' := by
  have hc : w.cell? ⟨g, 240 + x, none⟩ = some (.int .u8 (sb x : Int)) := by rw [Blk.cell hb, ciR_at F more _ (by omega), ciCells_sub F sb bk true true x hx]
  have hxi : (x : Int) < 256 := by omega
  clear hx
  go_enter Try.func30, Try.ntmps30
  go_wp2
  go_ret
  exact ⟨rfl, rfl⟩

set_option maxRecDepth 100000 in
set_option maxHeartbeats 1000000 in
theorem tSubst_sub (b : Nat → Nat) (q : Nat) (ty : TypeId) (F : Nat → Nat) (more : List Value) (w : World) (hb : By b) (hC : CiR w q ty F more) :
    Calls Try.prog 29 #[.agg (rowN 16 b).toArray, .func (.func 30) #[.pointer (some ⟨q, 240, none⟩)] #[]] w fun e w' => e = .returned (.agg (rowN 16 (bSb sb b)).toArray) ∧ Below w.heap.size w w' := by
  go_enter Try.func29, Try.ntmps29
  have hb0 : ∀ o, Blk ((w.alloc (.cells (rowN 16 b).toArray 42)).alloc o) w.heap.size 42 (rowN 16 b) := fun o => (Blk.new w _ _).alloc _
  go_wp2_with (first
    | ((with_reducible refine wpList_box_blk rfl 42 (.tmp 0) rfl (rowN 16 b) ?_ ?_); rfl)
    | (with_reducible refine wpList_alloc_blk rfl 42 rfl zero16 ?_)
    | ((with_reducible refine wpList_load_blk rfl 42 (.tmp 2) rfl ?_ (hb0 _) row16' (rowN_len 16 _) ?_); rfl))
  obtain ⟨W0, hW0⟩ : ∃ W0, (w.alloc (.cells (rowN 16 b).toArray 42)).alloc (.cells (rowN 16 zf).toArray 42) = W0 := ⟨_, rfl⟩
  obtain ⟨g, hg⟩ : ∃ g, w.heap.size = g := ⟨_, rfl⟩
  have hx0 : Blk W0 g 42 (rowN 16 (upto 0 (bSb sb b) b)) := by rw [upto_zero, ← hW0, ← hg]; exact (Blk.new w _ _).alloc _
  have hr0 : Blk W0 (g + 1) 42 (rowN 16 zf) := by rw [← hW0, ← hg]; exact Blk.new1 w _ _ _
  have hB0 : Below g w W0 := by rw [← hW0, ← hg]; exact below2 w _ _
  have hql : q < g := by rw [← hg]; exact Blk.lt hC
  rw [hW0, hg]
  clear hW0 hb0
  have hg := Lib.hid hg
  have hql := Lib.hid hql
  have hb := Lib.hid hb
  have hC := Lib.hid hC
  go_loopw [8] (fun i wr => ∃ k : Nat, k ≤ 16 ∧ i = .int .i64 k ∧ Blk wr g 42 (rowN 16 (upto k (bSb sb b) b)) ∧ Blk wr (g + 1) 42 (rowN 16 zf) ∧ Below g w wr) (fun i _ => 16 - (intOf i).toNat)
  case atStart => exact ⟨0, by omega, rfl, hx0, hr0, hB0⟩
  case round =>
    obtain ⟨k, hk, rfl, hx, hr, hB⟩ := hrel
    by_cases hlt : k < 16
    · have cx := hx.cell k
      rw [rowN_at 16 _ k hlt, upto_at] at cx
      have fx : wr.frozen? ⟨g, k, none⟩ = false := Blk.frozen hx k
      have hset := hx.set k (.int .u8 (bSb sb b k : Nat))
      rw [rowN_set 16 _ _ _ hlt, upto_step _ _ _ _ rfl] at hset
      have hset := Lib.hid hset
      have hat := fun wx => run_index_row (P := Try.prog) 42 5 16 Try.underlying42 (by kernel_rfl) (by kernel_rfl) (rowN 16 b).toArray .i64 k hlt (.int .u8 (b k : Int)) (by simpa using rowN_at 16 b k hlt) wx
      have hki : (k : Int) < 16 := by omega
      have hle := Lib.hid hlt
      have hCr := Lib.hid (show CiR wr q ty F more from Blk.keep hC.out hB hql.out)
      clear hlt hk
      go_wp2_with fail
      refine (tSub_any q ty F more (b k) _ hCr.out (hb.out k)).mono ?_
      rintro e w' ⟨rfl, rfl⟩
      go_wp2
      go_roundw
      case rel => exact ⟨k + 1, by have := hle.out; omega, by go_num, hset.out, hr.far (p := ⟨g, k, none⟩) (by simp) _, hB.setCell (p := ⟨g, k, none⟩) (Nat.le_refl _) _⟩
      case measure => have := hle.out; simp [intOf]; omega
    · obtain rfl : k = 16 := by omega
      have hx : Blk wr _ 42 (rowN 16 (bSb sb b)) := hx.cast (rowN_congr (upto_all 16 (bSb sb b) b))
      have HI := row16 (bSb sb b)
      have HF := Lib.hid (fit16 zf (bSb sb b))
      have H1 := Lib.hid (rowN_one 16 (bSb sb b))
      go_wp2_with (first
        | ((with_reducible refine wpList_load_blk rfl 42 (.tmp 2) rfl ?_ hx row16' (rowN_len 16 _) ?_); rfl)
        | ((with_reducible refine wpList_store_part rfl 42 (.tmp 4) (.tmp 18) rfl ?_ ?_ hr HI HF.out H1.out ?_); rfl; rfl; intro w9 hR9 hg9))
      rw [over16] at hR9
      (try simp only [Exit.inBlock, Exit.then])
      refine bodyPost_ret (results_blk rfl rfl hR9 HI) rfl ?_
      refine ⟨rfl, ?_⟩
      rw [hg.out]
      exact hB.trans (below_of_grown hg9 (by omega) hr.lt)

set_option maxRecDepth 100000 in
set_option maxHeartbeats 1000000 in
theorem tEnc_any (q : Nat) (ty : TypeId) (F : Nat → Nat) (more : List Value) (b : Nat → Nat) (w : World) (hF : By F) (hb : By b) (hC : CiR w q ty F more) :
    Calls Try.prog 17 #[.pointer (some ⟨q, 0, none⟩), .agg (rowN 16 b).toArray] w fun e w' => e = .returned (.agg (rowN 16 (enc (keyAt F) b)).toArray) ∧ Below w.heap.size w w' := by
  go_enter Try.func17, Try.ntmps17
  have hmd : ∀ o o', ((w.alloc o).alloc o').cell? ⟨q, 753, none⟩ = some (.bool true) := fun o o' => by rw [((Blk.alloc hC o).alloc o').cell, ciR_made]
  go_wp2_with (first
    | ((with_reducible refine wpList_box_blk rfl 42 (.tmp 1) rfl (rowN 16 b) ?_ ?_); rfl)
    | (with_reducible refine wpList_alloc_blk rfl 42 rfl zero16 ?_))
  obtain ⟨W0, hW0⟩ : ∃ W0, (w.alloc (.cells (rowN 16 b).toArray 42)).alloc (.cells (rowN 16 zf).toArray 42) = W0 := ⟨_, rfl⟩
  obtain ⟨g, hg⟩ : ∃ g, w.heap.size = g := ⟨_, rfl⟩
  have hx0 : Blk W0 g 42 (rowN 16 b) := by rw [← hW0, ← hg]; exact (Blk.new w _ _).alloc _
  have hr0 : Blk W0 (g + 1) 42 (rowN 16 zf) := by rw [← hW0, ← hg]; exact Blk.new1 w _ _ _
  have hB0 : Below g w W0 := by rw [← hW0, ← hg]; exact below2 w _ _
  have hql : q < g := by rw [← hg]; exact Blk.lt hC
  have hC0 : CiR W0 q ty F more := by rw [← hW0]; exact (Blk.alloc hC _).alloc _
  rw [hW0, hg]
  clear hW0 hmd hC
  have hg := Lib.hid hg
  have hql := Lib.hid hql
  have hb := Lib.hid hb
  have hF := Lib.hid hF
  obtain ⟨v, hv, hD⟩ := Draws.one W0
  have hx1 := hD.blk hx0
  have hr1 := hD.blk hr0
  have hB1 := hB0.trans (hD.below g)
  have hC1 : CiR v q ty F more := hD.blk hC0
  have hK := ciR_key hC1 0 (by decide)
  refine wp_region_still_tail 6 (by kernel_rfl) (by decide +kernel) ?_
  simp only [List.take_succ_cons, List.take_zero, List.drop_succ_cons, List.drop_zero]
  change wpStill _ _ W0.drew _ _ _
  rw [hv]
  repeat (first | (refine still_load_mid (x := .tmp 3) rfl 42 rfl rfl hx1.all (row16 _) ?_) | (refine still_load_mid (x := .tmp 20) rfl 42 rfl rfl hK (row16 _) ?_) | still_step)
  refine wpStill_nil ?_
  change wpList _ _ _ _ _ W0.drew
  rw [hv]
  clear hv hK hx0 hr0 hB0 hC0 hD
  go_wp2_with fail
  refine (cSum_any b (keyAt F 0) _ hb.out (keyAt_by hF.out 0)).mono ?_
  rintro e w1 ⟨rfl, h1⟩
  have hx2 := hx1.keep h1 hx1.lt
  have hr2 := hr1.keep h1 hr1.lt
  have hC2 : CiR w1 q ty F more := Blk.keep hC1 h1 (Blk.lt hC1)
  have hB2 := hB1.trans (h1.mono (Nat.le_of_lt hx1.lt))
  clear h1 hx1 hr1 hC1 hB1
  go_wp2_with ((refine wpList_store16 (new := bAdd b (keyAt F 0)) rfl (.tmp 3) (.tmp 22) rfl ?_ ?_ hx2 ?_); rfl; rfl; intro w2 hx3 hg2; refine RowKit.Hid.out ?_)
  refine Lib.hid ?_
  have hr3 := hr2.grown hg2 (by intro e; injection e; omega)
  have hC3 : CiR w2 q ty F more := Blk.grown hC2 hg2 (by intro e; injection e; have := hql.out; omega)
  have hB3 := hB2.trans (below_of_grown hg2 (Nat.le_refl g) hx2.lt)
  clear hx2 hr2 hC2 hB2 hg2
  go_wp2
  go_loopw [5] (fun i wr => ∃ r : Nat, 1 ≤ r ∧ r ≤ 15 ∧ i = .int .i64 r ∧ Blk wr g 42 (rowN 16 (encs (keyAt F) b (r - 1))) ∧ Blk wr (g + 1) 42 (rowN 16 zf) ∧ CiR wr q ty F more ∧ Below g w wr) (fun i _ => 15 - (intOf i).toNat)
  case atStart => exact ⟨1, by omega, by omega, rfl, hx3, hr3, hC3, hB3⟩
  case round =>
    clear hx3 hr3 hC3 hB3
    obtain ⟨r, hr1, hk, rfl, hx, hr, hC, hB⟩ := hrel
    by_cases hlt : r < 15
    · have hby := encs_by (fun r => keyAt_by hF.out r) hb.out (r - 1)
      obtain ⟨c, hc⟩ : ∃ c, encs (keyAt F) b (r - 1) = c := ⟨_, rfl⟩
      have hnx : encs (keyAt F) b r = crnd (keyAt F) r c := by
        obtain ⟨k, rfl⟩ : ∃ k, r = k + 1 := ⟨r - 1, by omega⟩
        rw [← hc]; rfl
      rw [hc] at hx hby
      have hby := Lib.hid hby
      have hnx := Lib.hid hnx
      clear hc
      have hki : (r : Int) ≤ 14 := by omega
      have hkl : (r : Int) < 15 := by omega
      have hr1 := Lib.hid hr1
      have hlt := Lib.hid hlt
      clear hk
      obtain ⟨v, hv, hD⟩ := Draws.one wr
      have hx := hD.blk hx
      have hr := hD.blk hr
      have hB := hB.trans (hD.below g)
      have hC : CiR v q ty F more := hD.blk hC
      go_wp2_with fail
      refine wp_region_still_tail 5 (by kernel_rfl) (by decide +kernel) ?_
      simp only [List.take_succ_cons, List.take_zero, List.drop_succ_cons, List.drop_zero]
      change wpStill _ _ wr.drew _ _ _
      rw [hv]
      repeat (first | (refine still_load_mid (x := .tmp 3) rfl 42 rfl rfl hx.all (row16 _) ?_) | still_step)
      refine wpStill_nil ?_
      change wpList _ _ _ _ _ wr.drew
      rw [hv]
      clear hv hD
      go_wp2_with fail
      refine (tSubst_sub c q ty F more _ hby.out hC).mono ?_
      rintro e w3 ⟨rfl, h1⟩
      have hgl := hx.lt
      have hr := hr.keep h1 hr.lt
      have hB := hB.trans (h1.mono (Nat.le_of_lt hgl))
      have hC : CiR w3 q ty F more := Blk.keep hC h1 (Blk.lt hC)
      have hx := hx.keep h1 hgl
      clear h1 hgl
      go_wp2_with fail
      refine (cTurned_any (bSb sb c) 1 _ (by decide)).mono ?_
      rintro e w4 ⟨rfl, h1⟩
      have hgl := hx.lt
      have hr := hr.keep h1 hr.lt
      have hB := hB.trans (h1.mono (Nat.le_of_lt hgl))
      have hC : CiR w4 q ty F more := Blk.keep hC h1 (Blk.lt hC)
      have hx := hx.keep h1 hgl
      clear h1 hgl
      go_wp2_with ((refine wpList_store16 (new := bTurn 1 (bSb sb c)) rfl (.tmp 3) (.tmp 33) rfl ?_ ?_ hx ?_); rfl; rfl; intro w5 hy hg2; refine RowKit.Hid.out ?_)
      refine Lib.hid ?_
      have hr := hr.grown hg2 (by intro e; injection e; omega)
      have hC : CiR w5 q ty F more := Blk.grown hC hg2 (by intro e; injection e; have := hql.out; omega)
      have hB := hB.trans (below_of_grown hg2 (Nat.le_refl g) hx.lt)
      have hx := hy
      clear hy hg2
      by_cases hl : r < 14
      · have hli : (r : Int) < 14 := by omega
        have hl := Lib.hid hl
        have hbt := Lib.hid (show By (bTurn 1 (bSb sb c)) from bTurn_by (bSb_by sb_256))
        go_wp2_with ((refine wpList_load16 rfl (.tmp 3) rfl ?_ hx ?_); rfl)
        refine (cCols_mix (bTurn 1 (bSb sb c)) _ hbt.out).mono ?_
        rintro e w6 ⟨rfl, h1⟩
        have hgl := hx.lt
        have hr := hr.keep h1 hr.lt
        have hB := hB.trans (h1.mono (Nat.le_of_lt hgl))
        have hC : CiR w6 q ty F more := Blk.keep hC h1 (Blk.lt hC)
        have hx := hx.keep h1 hgl
        clear h1 hgl
        go_wp2_with ((refine wpList_store16 (new := bCols mixc (bTurn 1 (bSb sb c))) rfl (.tmp 3) (.tmp 37) rfl ?_ ?_ hx ?_); rfl; rfl; intro w7 hy hg2; refine RowKit.Hid.out ?_)
        refine Lib.hid ?_
        have hr := hr.grown hg2 (by intro e; injection e; omega)
        have hC : CiR w7 q ty F more := Blk.grown hC hg2 (by intro e; injection e; have := hql.out; omega)
        have hB := hB.trans (below_of_grown hg2 (Nat.le_refl g) hx.lt)
        have hx := hy
        clear hy hg2
        have hbt := Lib.hid (show By (bCols mixc (bTurn 1 (bSb sb c))) from bCols_by hbt.out (fun _ => mixc_by))
        obtain ⟨v2, hv, hD⟩ := Draws.one w7
        have hx := hD.blk hx
        have hr := hD.blk hr
        have hB := hB.trans (hD.below g)
        have hC : CiR v2 q ty F more := hD.blk hC
        have hK := ciR_key' hC r hlt.out
        go_wp2_with fail
        refine wp_region_still_tail 7 (by kernel_rfl) (by decide +kernel) ?_
        simp only [List.take_succ_cons, List.take_zero, List.drop_succ_cons, List.drop_zero]
        change wpStill _ _ w7.drew _ _ _
        rw [hv]
        repeat (first | (refine still_load_mid (x := .tmp 3) rfl 42 rfl rfl hx.all (row16 _) ?_) | (refine still_load_mid (x := .tmp 43) rfl 42 rfl rfl hK (row16 _) ?_) | still_step)
        refine wpStill_nil ?_
        change wpList _ _ _ _ _ w7.drew
        rw [hv]
        clear hv hD
        go_wp2_with fail
        refine (cSum_any (bCols mixc (bTurn 1 (bSb sb c))) (keyAt F r) _ hbt.out (keyAt_by hF.out _)).mono ?_
        rintro e w8 ⟨rfl, h1⟩
        have hgl := hx.lt
        have hr := hr.keep h1 hr.lt
        have hB := hB.trans (h1.mono (Nat.le_of_lt hgl))
        have hC : CiR w8 q ty F more := Blk.keep hC h1 (Blk.lt hC)
        have hx := hx.keep h1 hgl
        clear h1 hgl
        go_wp2_with ((refine wpList_store16 (new := bAdd (bCols mixc (bTurn 1 (bSb sb c))) (keyAt F r)) rfl (.tmp 3) (.tmp 45) rfl ?_ ?_ hx ?_); rfl; rfl; intro w9 hy hg2; refine RowKit.Hid.out ?_)
        refine Lib.hid ?_
        have hr := hr.grown hg2 (by intro e; injection e; omega)
        have hC : CiR w9 q ty F more := Blk.grown hC hg2 (by intro e; injection e; have := hql.out; omega)
        have hB := hB.trans (below_of_grown hg2 (Nat.le_refl g) hx.lt)
        have hx := hy
        clear hy hg2
        go_wp2
        go_roundw
        case rel => exact ⟨r + 1, by omega, by have := hlt.out; omega, by go_num, by rw [Nat.add_sub_cancel, hnx.out, crnd, mid, if_pos hl.out]; exact hx, hr, hC, hB⟩
        case measure => have := hlt.out; simp [intOf]; omega
      · have hli : ¬ (r : Int) < 14 := by omega
        have hl := Lib.hid hl
        have hbt := Lib.hid (show By (bTurn 1 (bSb sb c)) from bTurn_by (bSb_by sb_256))
        obtain ⟨v2, hv, hD⟩ := Draws.one w5
        have hx := hD.blk hx
        have hr := hD.blk hr
        have hB := hB.trans (hD.below g)
        have hC : CiR v2 q ty F more := hD.blk hC
        have hK := ciR_key' hC r hlt.out
        go_wp2_with fail
        refine wp_region_still_tail 7 (by kernel_rfl) (by decide +kernel) ?_
        simp only [List.take_succ_cons, List.take_zero, List.drop_succ_cons, List.drop_zero]
        change wpStill _ _ w5.drew _ _ _
        rw [hv]
        repeat (first | (refine still_load_mid (x := .tmp 3) rfl 42 rfl rfl hx.all (row16 _) ?_) | (refine still_load_mid (x := .tmp 43) rfl 42 rfl rfl hK (row16 _) ?_) | still_step)
        refine wpStill_nil ?_
        change wpList _ _ _ _ _ w5.drew
        rw [hv]
        clear hv hD
        go_wp2_with fail
        refine (cSum_any (bTurn 1 (bSb sb c)) (keyAt F r) _ hbt.out (keyAt_by hF.out _)).mono ?_
        rintro e w8 ⟨rfl, h1⟩
        have hgl := hx.lt
        have hr := hr.keep h1 hr.lt
        have hB := hB.trans (h1.mono (Nat.le_of_lt hgl))
        have hC : CiR w8 q ty F more := Blk.keep hC h1 (Blk.lt hC)
        have hx := hx.keep h1 hgl
        clear h1 hgl
        go_wp2_with ((refine wpList_store16 (new := bAdd (bTurn 1 (bSb sb c)) (keyAt F r)) rfl (.tmp 3) (.tmp 45) rfl ?_ ?_ hx ?_); rfl; rfl; intro w9 hy hg2; refine RowKit.Hid.out ?_)
        refine Lib.hid ?_
        have hr := hr.grown hg2 (by intro e; injection e; omega)
        have hC : CiR w9 q ty F more := Blk.grown hC hg2 (by intro e; injection e; have := hql.out; omega)
        have hB := hB.trans (below_of_grown hg2 (Nat.le_refl g) hx.lt)
        have hx := hy
        clear hy hg2
        go_wp2
        go_roundw
        case rel => exact ⟨r + 1, by omega, by have := hlt.out; omega, by go_num, by rw [Nat.add_sub_cancel, hnx.out, crnd, mid, if_neg hl.out]; exact hx, hr, hC, hB⟩
        case measure => have := hlt.out; simp [intOf]; omega
    · obtain rfl : r = 15 := by omega
      have hx : Blk wr g 42 (rowN 16 (enc (keyAt F) b)) := hx
      go_wp2_with (first
        | ((refine wpList_load16 rfl (.tmp 3) rfl ?_ hx ?_); rfl)
        | ((refine wpList_store16 (new := enc (keyAt F) b) rfl (.tmp 4) (.tmp 46) rfl ?_ ?_ hr ?_); rfl; rfl; intro w9 hR9 hg9))
      (try simp only [Exit.inBlock, Exit.then])
      refine bodyPost_ret (results_blk rfl rfl hR9 (row16 _)) rfl ?_
      refine ⟨rfl, ?_⟩
      rw [hg.out]
      exact hB.trans (below_of_grown hg9 (by omega) hr.lt)
end Go.Proofs.Ytclcnngpgbdjgaa
