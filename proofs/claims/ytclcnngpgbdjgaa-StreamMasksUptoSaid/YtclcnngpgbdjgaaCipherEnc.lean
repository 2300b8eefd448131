/-
  What a cipher's Encrypt comes to: the block encrypted with the bytes of its round keys; new memory alone is written.
-/
import Derived.Test.YtclcnngpgbdjgaaCipherSubst
import Derived.Test.YtclcnngpgbdjgaaCipherTurn
import Derived.Test.YtclcnngpgbdjgaaCipherCols
namespace Go.Proofs.Ytclcnngpgbdjgaa
open Go.RowKit

/-- A load of many cells in a region that only reads. -/
theorem still_load_mid {P : Program} {ops : Array Oper} {o : Oper} {rest : List Oper} {a : Act} {w : World} {Q : Act → Prop} (hgd : o.guard = none) (ty : TypeId) (x : Operand) (ho : o.op = .load ty x)
    {g off : Nat} (hx : a.eval x = .pointer (some ⟨g, off, none⟩)) {cs : List Value} (hc : w.rangeAt g off cs) (hr : IsRow P ty cs.length)
    (h : wpStill P ops w Q rest (a.put o.dst (.agg cs.toArray))) : wpStill P ops w Q (o :: rest) a := by
  obtain ⟨⟨d, hu, hd⟩, hi⟩ := hr
  refine wpStill_step fun K hK => ?_
  have hw : Region.wanted o (yielded ops a.tmps) = true := by simp [Region.wanted, hgd]
  rw [if_pos hw]
  have hrun : (execOp a.eval o).run P w = .ok (.value (.agg cs.toArray)) w := by
    unfold execOp
    simp only [ho, hx, Instr.loadAt, Instr.sureAddr, Sem.run_bind, Sem.run_pure, Result.andThen_ok, run_loadVar_mid w g off ty cs d hc hu hd hi]
  unfold Oper.still
  rw [hrun, Oper.stillUpon_value]
  exact hK _ h
theorem Blk.all {w : World} {g : Nat} {t : TypeId} {cs : List Value} (h : Blk w g t cs) : w.rangeAt g 0 cs := h.range 0 cs (fun j v hj => by simpa using hj)
theorem ci_key' {w : World} {g : Nat} {F f h : Nat → Nat} {bm m : Bool} (hb : CiAt w g F f h bm m) (r : Nat) (hr : r < 15) : w.rangeAt g (r * 16) (rowN 16 (keyAt F r)) := by
  rw [Nat.mul_comm]; exact ci_key hb r hr

/-- A block stored over a block. -/
theorem wpList_store16 {w : World} {ops : Array Oper} {rest : List Oper} {o : Oper} {a : Act} {Q : Exit → Act → World → Prop} (hgd : o.guard = none) (x y : Operand) (ho : o.op = .store 42 x y)
    {g : Nat} {cur new : Nat → Nat} (hx : a.eval x = .pointer (some ⟨g, 0, none⟩)) (hy : a.eval y = .agg (rowN 16 new).toArray) (hg : Blk w g 42 (rowN 16 cur))
    (h : ∀ w', Blk w' g 42 (rowN 16 new) → w.grownBy w' (some g) → wpList Try.prog ops Q rest (a.put o.dst undef) w') : wpList Try.prog ops Q (o :: rest) a w :=
  wpList_store_part hgd 42 x y ho hx hy hg (row16 new) (fit16 cur new) (rowN_one 16 new) (fun w' h1 h2 => h w' (h1.cast (over16 cur new)) h2)
theorem wpList_load16 {w : World} {ops : Array Oper} {rest : List Oper} {o : Oper} {a : Act} {Q : Exit → Act → World → Prop} (hgd : o.guard = none) (x : Operand) (ho : o.op = .load 42 x)
    {g : Nat} {f : Nat → Nat} (hx : a.eval x = .pointer (some ⟨g, 0, none⟩)) (hg : Blk w g 42 (rowN 16 f))
    (h : wpList Try.prog ops Q rest (a.put o.dst (.agg (rowN 16 f).toArray)) w) : wpList Try.prog ops Q (o :: rest) a w :=
  wpList_load_blk hgd 42 x ho hx hg row16' (rowN_len 16 f) h

set_option maxRecDepth 100000 in
set_option maxHeartbeats 1000000 in
theorem cEnc_any (q : Nat) (F : Nat → Nat) (b : Nat → Nat) (w : World) (hF : By F) (hb : By b) (hC : CiAt w q F sb bk true true) :
    Calls Try.prog 17 #[.pointer (some ⟨q, 0, none⟩), .agg (rowN 16 b).toArray] w fun e w' => e = .returned (.agg (rowN 16 (enc (keyAt F) b)).toArray) ∧ Below w.heap.size w w' := by
  go_enter Try.func17, Try.ntmps17
  have hmd : ∀ o o', ((w.alloc o).alloc o').cell? ⟨q, 753, none⟩ = some (.bool true) := fun o o' => by rw [((Blk.alloc hC o).alloc o').cell, ciCells_made]
  go_wp2_with (first
    | ((with_reducible refine wpList_box_blk rfl 42 (.tmp 1) rfl (rowN 16 b) ?_ ?_); rfl)
    | (with_reducible refine wpList_alloc_blk rfl 42 rfl zero16 ?_))
  obtain ⟨W0, hW0⟩ : ∃ W0, (w.alloc (.cells (rowN 16 b).toArray 42)).alloc (.cells (rowN 16 zf).toArray 42) = W0 := ⟨_, rfl⟩
  obtain ⟨g, hg⟩ : ∃ g, w.heap.size = g := ⟨_, rfl⟩
  have hx0 : Blk W0 g 42 (rowN 16 b) := by rw [← hW0, ← hg]; exact (Blk.new w _ _).alloc _
  have hr0 : Blk W0 (g + 1) 42 (rowN 16 zf) := by rw [← hW0, ← hg]; exact Blk.new1 w _ _ _
  have hB0 : Below g w W0 := by rw [← hW0, ← hg]; exact below2 w _ _
  have hql : q < g := by rw [← hg]; exact Blk.lt hC
  have hC0 : CiAt W0 q F sb bk true true := by rw [← hW0]; exact (Blk.alloc hC _).alloc _
  rw [hW0, hg]
  clear hW0 hmd hC
  have hg := Lib.hid hg
  have hql := Lib.hid hql
  have hb := Lib.hid hb
  have hF := Lib.hid hF
  obtain ⟨v, hv, hD⟩ := Draws.one W0
  have hx1 := hD.blk hx0
  have hr1 := hD.blk hr0
  have hB1 := hB0.trans (hD.below g)
  have hC1 : CiAt v q F sb bk true true := hD.blk hC0
  have hK := ci_key hC1 0 (by decide)
  refine wp_region_still_tail 6 (by kernel_rfl) (by decide +kernel) ?_
  simp only [List.take_succ_cons, List.take_zero, List.drop_succ_cons, List.drop_zero]
  change wpStill _ _ W0.drew _ _ _
  rw [hv]
  repeat (first | (refine still_load_mid (x := .tmp 3) rfl 42 rfl rfl hx1.all (row16 _) ?_) | (refine still_load_mid (x := .tmp 20) rfl 42 rfl rfl hK (row16 _) ?_) | still_step)
  refine wpStill_nil ?_
  change wpList _ _ _ _ _ W0.drew
  rw [hv]
  clear hv hK hx0 hr0 hB0 hC0 hD
  go_wp2_with fail
  refine (cSum_any b (keyAt F 0) _ hb.out (keyAt_by hF.out 0)).mono ?_
  rintro e w1 ⟨rfl, h1⟩
  have hx2 := hx1.keep h1 hx1.lt
  have hr2 := hr1.keep h1 hr1.lt
  have hC2 : CiAt w1 q F sb bk true true := Blk.keep hC1 h1 (Blk.lt hC1)
  have hB2 := hB1.trans (h1.mono (Nat.le_of_lt hx1.lt))
  clear h1 hx1 hr1 hC1 hB1
  go_wp2_with ((refine wpList_store16 (new := bAdd b (keyAt F 0)) rfl (.tmp 3) (.tmp 22) rfl ?_ ?_ hx2 ?_); rfl; rfl; intro w2 hx3 hg2; refine RowKit.Hid.out ?_)
  refine Lib.hid ?_
  have hr3 := hr2.grown hg2 (by intro e; injection e; omega)
  have hC3 : CiAt w2 q F sb bk true true := Blk.grown hC2 hg2 (by intro e; injection e; have := hql.out; omega)
  have hB3 := hB2.trans (below_of_grown hg2 (Nat.le_refl g) hx2.lt)
  clear hx2 hr2 hC2 hB2 hg2
  go_wp2
  go_loopw [5] (fun i wr => ∃ r : Nat, 1 ≤ r ∧ r ≤ 15 ∧ i = .int .i64 r ∧ Blk wr g 42 (rowN 16 (encs (keyAt F) b (r - 1))) ∧ Blk wr (g + 1) 42 (rowN 16 zf) ∧ CiAt wr q F sb bk true true ∧ Below g w wr) (fun i _ => 15 - (intOf i).toNat)
  case atStart => exact ⟨1, by omega, by omega, rfl, hx3, hr3, hC3, hB3⟩
  case round =>
    clear hx3 hr3 hC3 hB3
    obtain ⟨r, hr1, hk, rfl, hx, hr, hC, hB⟩ := hrel
    by_cases hlt : r < 15
    · have hby := encs_by (fun r => keyAt_by hF.out r) hb.out (r - 1)
      obtain ⟨c, hc⟩ : ∃ c, encs (keyAt F) b (r - 1) = c := ⟨_, rfl⟩
      have hnx : encs (keyAt F) b r = crnd (keyAt F) r c := by
        obtain ⟨k, rfl⟩ : ∃ k, r = k + 1 := ⟨r - 1, by omega⟩
        rw [← hc]; rfl
      rw [hc] at hx hby
      have hby := Lib.hid hby
      have hnx := Lib.hid hnx
      clear hc
      have hki : (r : Int) ≤ 14 := by omega
      have hkl : (r : Int) < 15 := by omega
      have hr1 := Lib.hid hr1
      have hlt := Lib.hid hlt
      clear hk
      obtain ⟨v, hv, hD⟩ := Draws.one wr
      have hx := hD.blk hx
      have hr := hD.blk hr
      have hB := hB.trans (hD.below g)
      have hC : CiAt v q F sb bk true true := hD.blk hC
      go_wp2_with fail
      refine wp_region_still_tail 5 (by kernel_rfl) (by decide +kernel) ?_
      simp only [List.take_succ_cons, List.take_zero, List.drop_succ_cons, List.drop_zero]
      change wpStill _ _ wr.drew _ _ _
      rw [hv]
      repeat (first | (refine still_load_mid (x := .tmp 3) rfl 42 rfl rfl hx.all (row16 _) ?_) | still_step)
      refine wpStill_nil ?_
      change wpList _ _ _ _ _ wr.drew
      rw [hv]
      clear hv hD
      go_wp2_with fail
      refine (cSubst_sub c q F sb bk true true _ hby.out hC).mono ?_
      rintro e w3 ⟨rfl, h1⟩
      have hgl := hx.lt
      have hr := hr.keep h1 hr.lt
      have hB := hB.trans (h1.mono (Nat.le_of_lt hgl))
      have hC : CiAt w3 q F sb bk true true := Blk.keep hC h1 (Blk.lt hC)
      have hx := hx.keep h1 hgl
      clear h1 hgl
      go_wp2_with fail
      refine (cTurned_any (bSb sb c) 1 _ (by decide)).mono ?_
      rintro e w4 ⟨rfl, h1⟩
      have hgl := hx.lt
      have hr := hr.keep h1 hr.lt
      have hB := hB.trans (h1.mono (Nat.le_of_lt hgl))
      have hC : CiAt w4 q F sb bk true true := Blk.keep hC h1 (Blk.lt hC)
      have hx := hx.keep h1 hgl
      clear h1 hgl
      go_wp2_with ((refine wpList_store16 (new := bTurn 1 (bSb sb c)) rfl (.tmp 3) (.tmp 33) rfl ?_ ?_ hx ?_); rfl; rfl; intro w5 hy hg2; refine RowKit.Hid.out ?_)
      refine Lib.hid ?_
      have hr := hr.grown hg2 (by intro e; injection e; omega)
      have hC : CiAt w5 q F sb bk true true := Blk.grown hC hg2 (by intro e; injection e; have := hql.out; omega)
      have hB := hB.trans (below_of_grown hg2 (Nat.le_refl g) hx.lt)
      have hx := hy
      clear hy hg2
      by_cases hl : r < 14
      · have hli : (r : Int) < 14 := by omega
        have hl := Lib.hid hl
        have hbt := Lib.hid (show By (bTurn 1 (bSb sb c)) from bTurn_by (bSb_by sb_256))
        go_wp2_with ((refine wpList_load16 rfl (.tmp 3) rfl ?_ hx ?_); rfl)
        refine (cCols_mix (bTurn 1 (bSb sb c)) _ hbt.out).mono ?_
        rintro e w6 ⟨rfl, h1⟩
        have hgl := hx.lt
        have hr := hr.keep h1 hr.lt
        have hB := hB.trans (h1.mono (Nat.le_of_lt hgl))
        have hC : CiAt w6 q F sb bk true true := Blk.keep hC h1 (Blk.lt hC)
        have hx := hx.keep h1 hgl
        clear h1 hgl
        go_wp2_with ((refine wpList_store16 (new := bCols mixc (bTurn 1 (bSb sb c))) rfl (.tmp 3) (.tmp 37) rfl ?_ ?_ hx ?_); rfl; rfl; intro w7 hy hg2; refine RowKit.Hid.out ?_)
        refine Lib.hid ?_
        have hr := hr.grown hg2 (by intro e; injection e; omega)
        have hC : CiAt w7 q F sb bk true true := Blk.grown hC hg2 (by intro e; injection e; have := hql.out; omega)
        have hB := hB.trans (below_of_grown hg2 (Nat.le_refl g) hx.lt)
        have hx := hy
        clear hy hg2
        have hbt := Lib.hid (show By (bCols mixc (bTurn 1 (bSb sb c))) from bCols_by hbt.out (fun _ => mixc_by))
        obtain ⟨v2, hv, hD⟩ := Draws.one w7
        have hx := hD.blk hx
        have hr := hD.blk hr
        have hB := hB.trans (hD.below g)
        have hC : CiAt v2 q F sb bk true true := hD.blk hC
        have hK := ci_key' hC r hlt.out
        go_wp2_with fail
        refine wp_region_still_tail 7 (by kernel_rfl) (by decide +kernel) ?_
        simp only [List.take_succ_cons, List.take_zero, List.drop_succ_cons, List.drop_zero]
        change wpStill _ _ w7.drew _ _ _
        rw [hv]
        repeat (first | (refine still_load_mid (x := .tmp 3) rfl 42 rfl rfl hx.all (row16 _) ?_) | (refine still_load_mid (x := .tmp 43) rfl 42 rfl rfl hK (row16 _) ?_) | still_step)
        refine wpStill_nil ?_
        change wpList _ _ _ _ _ w7.drew
        rw [hv]
        clear hv hD
        go_wp2_with fail
        refine (cSum_any (bCols mixc (bTurn 1 (bSb sb c))) (keyAt F r) _ hbt.out (keyAt_by hF.out _)).mono ?_
        rintro e w8 ⟨rfl, h1⟩
        have hgl := hx.lt
        have hr := hr.keep h1 hr.lt
        have hB := hB.trans (h1.mono (Nat.le_of_lt hgl))
        have hC : CiAt w8 q F sb bk true true := Blk.keep hC h1 (Blk.lt hC)
        have hx := hx.keep h1 hgl
        clear h1 hgl
        go_wp2_with ((refine wpList_store16 (new := bAdd (bCols mixc (bTurn 1 (bSb sb c))) (keyAt F r)) rfl (.tmp 3) (.tmp 45) rfl ?_ ?_ hx ?_); rfl; rfl; intro w9 hy hg2; refine RowKit.Hid.out ?_)
        refine Lib.hid ?_
        have hr := hr.grown hg2 (by intro e; injection e; omega)
        have hC : CiAt w9 q F sb bk true true := Blk.grown hC hg2 (by intro e; injection e; have := hql.out; omega)
        have hB := hB.trans (below_of_grown hg2 (Nat.le_refl g) hx.lt)
        have hx := hy
        clear hy hg2
        go_wp2
        go_roundw
        case rel => exact ⟨r + 1, by omega, by have := hlt.out; omega, by go_num, by rw [Nat.add_sub_cancel, hnx.out, crnd, mid, if_pos hl.out]; exact hx, hr, hC, hB⟩
        case measure => have := hlt.out; simp [intOf]; omega
      · have hli : ¬ (r : Int) < 14 := by omega
        have hl := Lib.hid hl
        have hbt := Lib.hid (show By (bTurn 1 (bSb sb c)) from bTurn_by (bSb_by sb_256))
        obtain ⟨v2, hv, hD⟩ := Draws.one w5
        have hx := hD.blk hx
        have hr := hD.blk hr
        have hB := hB.trans (hD.below g)
        have hC : CiAt v2 q F sb bk true true := hD.blk hC
        have hK := ci_key' hC r hlt.out
        go_wp2_with fail
        refine wp_region_still_tail 7 (by kernel_rfl) (by decide +kernel) ?_
        simp only [List.take_succ_cons, List.take_zero, List.drop_succ_cons, List.drop_zero]
        change wpStill _ _ w5.drew _ _ _
        rw [hv]
        repeat (first | (refine still_load_mid (x := .tmp 3) rfl 42 rfl rfl hx.all (row16 _) ?_) | (refine still_load_mid (x := .tmp 43) rfl 42 rfl rfl hK (row16 _) ?_) | still_step)
        refine wpStill_nil ?_
        change wpList _ _ _ _ _ w5.drew
        rw [hv]
        clear hv hD
        go_wp2_with fail
        refine (cSum_any (bTurn 1 (bSb sb c)) (keyAt F r) _ hbt.out (keyAt_by hF.out _)).mono ?_
        rintro e w8 ⟨rfl, h1⟩
        have hgl := hx.lt
        have hr := hr.keep h1 hr.lt
        have hB := hB.trans (h1.mono (Nat.le_of_lt hgl))
        have hC : CiAt w8 q F sb bk true true := Blk.keep hC h1 (Blk.lt hC)
        have hx := hx.keep h1 hgl
        clear h1 hgl
        go_wp2_with ((refine wpList_store16 (new := bAdd (bTurn 1 (bSb sb c)) (keyAt F r)) rfl (.tmp 3) (.tmp 45) rfl ?_ ?_ hx ?_); rfl; rfl; intro w9 hy hg2; refine RowKit.Hid.out ?_)
        refine Lib.hid ?_
        have hr := hr.grown hg2 (by intro e; injection e; omega)
        have hC : CiAt w9 q F sb bk true true := Blk.grown hC hg2 (by intro e; injection e; have := hql.out; omega)
        have hB := hB.trans (below_of_grown hg2 (Nat.le_refl g) hx.lt)
        have hx := hy
        clear hy hg2
        go_wp2
        go_roundw
        case rel => exact ⟨r + 1, by omega, by have := hlt.out; omega, by go_num, by rw [Nat.add_sub_cancel, hnx.out, crnd, mid, if_neg hl.out]; exact hx, hr, hC, hB⟩
        case measure => have := hlt.out; simp [intOf]; omega
    · obtain rfl : r = 15 := by omega
      have hx : Blk wr g 42 (rowN 16 (enc (keyAt F) b)) := hx
      go_wp2_with (first
        | ((refine wpList_load16 rfl (.tmp 3) rfl ?_ hx ?_); rfl)
        | ((refine wpList_store16 (new := enc (keyAt F) b) rfl (.tmp 4) (.tmp 46) rfl ?_ ?_ hr ?_); rfl; rfl; intro w9 hR9 hg9))
      (try simp only [Exit.inBlock, Exit.then])
      refine bodyPost_ret (results_blk rfl rfl hR9 (row16 _)) rfl ?_
      refine ⟨rfl, ?_⟩
      rw [hg.out]
      exact hB.trans (below_of_grown hg9 (by omega) hr.lt)
end Go.Proofs.Ytclcnngpgbdjgaa
