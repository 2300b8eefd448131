/-
  A block's columns, each replaced: mixed, or unmixed; new memory alone is written.
-/
import Derived.Test.YtclcnngpgbdjgaaCipherStep
namespace Go.Proofs.Ytclcnngpgbdjgaa
open Go.RowKit

theorem over_upto (k : Nat) (hk : k < 4) (F b c : Nat → Nat) (h : ∀ j, j < 4 → c j = F (4 * k + j)) : overV (rowN 16 (upto (4 * k) F b)) (4 * k) (rowN 4 c) = rowN 16 (upto (4 * (k + 1)) F b) := by
  apply List.ext_getElem?
  intro j
  unfold overV
  by_cases h16 : j < 16
  · rw [rowN_at 16 _ j h16]
    have hlt : (List.take (4 * k) (rowN 16 (upto (4 * k) F b))).length = 4 * k := by rw [List.length_take, rowN_len]; omega
    by_cases h1 : j < 4 * k
    · rw [List.getElem?_append_left (by rw [hlt]; exact h1), List.getElem?_take_of_lt h1, rowN_at 16 _ j h16]
      simp only [upto, if_pos h1, if_pos (show j < 4 * (k + 1) by omega)]
    · rw [List.getElem?_append_right (by rw [hlt]; omega), hlt]
      by_cases h2 : j - 4 * k < 4
      · rw [List.getElem?_append_left (by rw [rowN_len]; exact h2), rowN_at 4 _ _ h2, h _ h2]
        simp only [upto, if_pos (show j < 4 * (k + 1) by omega)]
        rw [show 4 * k + (j - 4 * k) = j by omega]
      · rw [List.getElem?_append_right (by rw [rowN_len]; omega), rowN_len, List.getElem?_drop, show 4 * k + 4 + (j - 4 * k - 4) = j by omega, rowN_at 16 _ j h16]
        simp only [upto, if_neg h1, if_neg (show ¬ j < 4 * (k + 1) by omega)]
  · rw [List.getElem?_eq_none (l := rowN 16 (upto (4 * (k + 1)) F b)) (by rw [rowN_len]; omega), List.getElem?_eq_none]
    simp only [List.length_append, List.length_take, List.length_drop, rowN_len]
    omega
theorem part_col {w : World} {g : Nat} {t : TypeId} (k : Nat) (hk : k < 4) (F b : Nat → Nat) (h : Blk w g t (rowN 16 (upto (4 * k) F b))) : w.rangeAt g (4 * k) (rowN 4 (colOf b k)) := by
  refine h.range (4 * k) _ fun j v hj => ?_
  by_cases h4 : j < 4
  · rw [rowN_at 4 _ j h4] at hj
    rw [rowN_at 16 _ _ (by omega), ← hj]
    simp only [upto, if_neg (show ¬ 4 * k + j < 4 * k by omega), colOf]
  · rw [List.getElem?_eq_none (by rw [rowN_len]; omega)] at hj
    cases hj
theorem colCopy {w : World} {p g off d : Nat} (c : Nat → Nat) (hp : Blk w p 89 (rowN 4 c)) (hd : 4 ≤ d) (hf : off + 4 ≤ 16) : CopyFits w (some ⟨g, off, none⟩) (some ⟨p, 0, none⟩) 4 d g off 16 (rowN 4 c) := by
  refine ⟨by rw [rowN_len]; show 4 = Nat.min 4 d; exact (Nat.min_eq_left hd).symm, fun _ => ⟨rfl, _, rfl, fun j v hj => ?_⟩, by rw [rowN_len]; exact hf, rowN_one 4 c⟩
  rw [Addr.add_mid, Nat.zero_add, hp.cell]
  exact hj
/-- A slice's first cells as an array. -/
theorem run_array_at {P : Program} (ty e : TypeId) (n : Nat) (hu : P.underlying ty = some (.array n e)) (A : Option Addr) (len cap : Nat) (hn : n ≤ len) (w : World) :
    (Instr.arrayAt ty (.slice A len cap)).run P w = .ok (.pointer A) w := by
  simp [Instr.arrayAt, run_underlying hu, Nat.not_lt.2 hn]
theorem sizeU8' : (Try.prog.info? 5).map (·.size) = some 1 := by kernel_rfl

set_option maxRecDepth 100000 in
set_option maxHeartbeats 1000000 in
theorem cCols_mix (b : Nat → Nat) (w : World) (hb : By b) :
    Calls Try.prog 31 #[.agg (rowN 16 b).toArray, .func (.func 32) #[] #[]] w fun e w' => e = .returned (.agg (rowN 16 (bCols mixc b)).toArray) ∧ Below w.heap.size w w' := by
  go_enter Try.func31, Try.ntmps31
  go_wp2_with (first
    | ((with_reducible refine wpList_box_blk rfl 42 (.tmp 0) rfl (rowN 16 b) ?_ ?_); rfl)
    | (with_reducible refine wpList_alloc_blk rfl 42 rfl zero16 ?_))
  obtain ⟨W0, hW0⟩ : ∃ W0, (w.alloc (.cells (rowN 16 b).toArray 42)).alloc (.cells (rowN 16 zf).toArray 42) = W0 := ⟨_, rfl⟩
  obtain ⟨g, hg⟩ : ∃ g, w.heap.size = g := ⟨_, rfl⟩
  have hx0 : Blk W0 g 42 (rowN 16 (upto (4 * 0) (bCols mixc b) b)) := by rw [upto_zero, ← hW0, ← hg]; exact (Blk.new w _ _).alloc _
  have hr0 : Blk W0 (g + 1) 42 (rowN 16 zf) := by rw [← hW0, ← hg]; exact Blk.new1 w _ _ _
  have hB0 : Below g w W0 := by rw [← hW0, ← hg]; exact below2 w _ _
  rw [hW0, hg]
  clear hW0
  have hg := Lib.hid hg
  have hb := Lib.hid hb
  go_loopw [5] (fun i wr => ∃ k : Nat, k ≤ 4 ∧ i = .int .i64 (4 * k : Nat) ∧ Blk wr g 42 (rowN 16 (upto (4 * k) (bCols mixc b) b)) ∧ Blk wr (g + 1) 42 (rowN 16 zf) ∧ Below g w wr) (fun i _ => 16 - (intOf i).toNat)
  case atStart => exact ⟨0, by omega, rfl, hx0, hr0, hB0⟩
  case round =>
    obtain ⟨k, hk, rfl, hx, hr, hB⟩ := hrel
    by_cases hlt : k < 4
    · obtain rfl | rfl | rfl | rfl : k = 0 ∨ k = 1 ∨ k = 2 ∨ k = 3 := by omega
      · have hpart := part_col 0 (by decide) (bCols mixc b) b hx
        have hby := Lib.hid (show By (colOf b 0) from fun _ => hb.out _)
        have hIr := row4 (colOf b 0)
        have e1 : wrap64 (0 + 4) = 4 := by unfold wrap64; decide
        have hat := fun cap v => run_array_at (P := Try.prog) 89 5 4 Try.underlying89 (some ⟨g, 0, none⟩) 4 cap (by decide) v
        go_wp2_with ((with_reducible refine wpList_load_part rfl 89 (.tmp 16) rfl ?_ (rowN 4 (colOf b 0)) hpart hIr ?_); rfl)
        refine (cMix_any (colOf b 0) _ hby.out).mono ?_
        rintro e w1 ⟨rfl, h1⟩
        have hgl := hx.lt
        have hx := hx.keep h1 hx.lt
        have hr := hr.keep h1 hr.lt
        have hB1 := hB.trans (h1.mono (Nat.le_of_lt hgl))
        have hsz1 := h1.size
        clear h1 hpart
        have hcol := Blk.new w1 89 (rowN 4 zf)
        have HI := row4 (mixc (colOf b 0))
        have HF := Lib.hid (fit4 zf (mixc (colOf b 0)))
        have H1 := Lib.hid (rowN_one 4 (mixc (colOf b 0)))
        go_wp2_with (first
          | (with_reducible refine wpList_alloc_blk rfl 89 rfl zero4 ?_)
          | ((with_reducible refine wpList_store_part (cs := rowN 4 (mixc (colOf b 0))) rfl 89 (.tmp 6) (.tmp 18) rfl ?_ ?_ hcol HI HF.out H1.out ?_); rfl; rfl; intro w2 hP hg2; refine RowKit.Hid.out ?_))
        refine Lib.hid ?_
        rw [over4] at hP
        have b2 : Below w1.heap.size w1 w2 := (below1 w1 _).trans (below_of_grown hg2 (Nat.le_refl _) (by rw [size1]; omega))
        have hx := hx.keep b2 hx.lt
        have hr := hr.keep b2 hr.lt
        have hpl : g < w1.heap.size := Nat.lt_of_lt_of_le hgl hsz1
        have hB := hB1.trans (b2.mono (Nat.le_of_lt hpl))
        obtain ⟨p, hp⟩ : ∃ p, w1.heap.size = p := ⟨_, rfl⟩
        rw [hp] at hP hpl ⊢
        have hne : p ≠ g := by omega
        clear hB1 b2 hg2 hcol hp hgl hsz1
        obtain ⟨v, hv, hD⟩ := Draws.one w2
        have hx := hD.blk hx
        have hr := hD.blk hr
        have hB := hB.trans (hD.below g)
        have hP := hD.blk hP
        have CF := Lib.hid (colCopy (g := g) (off := 0) (d := 16) _ hP (by decide) (by decide))
        go_wp2_with fail
        refine wp_region_still_tail 3 (by kernel_rfl) (by decide +kernel) ?_
        simp only [List.take_succ_cons, List.take_zero, List.drop_succ_cons, List.drop_zero]
        change wpStill _ _ w2.drew _ _ _
        rw [hv]
        repeat still_step
        refine wpStill_nil ?_
        change wpList _ _ _ _ _ w2.drew
        rw [hv]
        clear hv
        have CF : CopyFits v (some ⟨g, 0, none⟩) (some ⟨p, 0, none⟩) 4 16 g 0 (rowN 16 (upto (4 * 0) (bCols mixc b) b)).length (rowN 4 (mixc (colOf b 0))) := by rw [rowN_len]; exact CF.out
        have HL := rowN_len 4 (mixc (colOf b 0))
        refine wpList_copy_num rfl (.tmp 20) (.tmp 21) 31 31 rfl 5 Try.underlying31 sizeU8' rfl rfl hx CF 4 HL ?_
        intro w4 hx4 hg4
        have hx4 := hx4.cast (over_upto 0 (by decide) (bCols mixc b) b (mixc (colOf b 0)) (fun j hj => by unfold bCols; rw [show (4 * 0 + j) / 4 = 0 by omega, show (4 * 0 + j) % 4 = j by omega]))
        have hr4 := hr.grown hg4 (by intro e; injection e; omega)
        have hB4 := hB.trans (below_of_grown hg4 (Nat.le_refl g) hx.lt)
        go_wp2
        go_roundw
        case rel => exact ⟨1, by omega, by go_num, hx4, hr4, hB4⟩
        case measure => simp [intOf]
      · have hpart := part_col 1 (by decide) (bCols mixc b) b hx
        have hby := Lib.hid (show By (colOf b 1) from fun _ => hb.out _)
        have hIr := row4 (colOf b 1)
        have e1 : wrap64 (4 + 4) = 8 := by unfold wrap64; decide
        have hat := fun cap v => run_array_at (P := Try.prog) 89 5 4 Try.underlying89 (some ⟨g, 4, none⟩) 4 cap (by decide) v
        go_wp2_with ((with_reducible refine wpList_load_part rfl 89 (.tmp 16) rfl ?_ (rowN 4 (colOf b 1)) hpart hIr ?_); rfl)
        refine (cMix_any (colOf b 1) _ hby.out).mono ?_
        rintro e w1 ⟨rfl, h1⟩
        have hgl := hx.lt
        have hx := hx.keep h1 hx.lt
        have hr := hr.keep h1 hr.lt
        have hB1 := hB.trans (h1.mono (Nat.le_of_lt hgl))
        have hsz1 := h1.size
        clear h1 hpart
        have hcol := Blk.new w1 89 (rowN 4 zf)
        have HI := row4 (mixc (colOf b 1))
        have HF := Lib.hid (fit4 zf (mixc (colOf b 1)))
        have H1 := Lib.hid (rowN_one 4 (mixc (colOf b 1)))
        go_wp2_with (first
          | (with_reducible refine wpList_alloc_blk rfl 89 rfl zero4 ?_)
          | ((with_reducible refine wpList_store_part (cs := rowN 4 (mixc (colOf b 1))) rfl 89 (.tmp 6) (.tmp 18) rfl ?_ ?_ hcol HI HF.out H1.out ?_); rfl; rfl; intro w2 hP hg2; refine RowKit.Hid.out ?_))
        refine Lib.hid ?_
        rw [over4] at hP
        have b2 : Below w1.heap.size w1 w2 := (below1 w1 _).trans (below_of_grown hg2 (Nat.le_refl _) (by rw [size1]; omega))
        have hx := hx.keep b2 hx.lt
        have hr := hr.keep b2 hr.lt
        have hpl : g < w1.heap.size := Nat.lt_of_lt_of_le hgl hsz1
        have hB := hB1.trans (b2.mono (Nat.le_of_lt hpl))
        obtain ⟨p, hp⟩ : ∃ p, w1.heap.size = p := ⟨_, rfl⟩
        rw [hp] at hP hpl ⊢
        have hne : p ≠ g := by omega
        clear hB1 b2 hg2 hcol hp hgl hsz1
        obtain ⟨v, hv, hD⟩ := Draws.one w2
        have hx := hD.blk hx
        have hr := hD.blk hr
        have hB := hB.trans (hD.below g)
        have hP := hD.blk hP
        have CF := Lib.hid (colCopy (g := g) (off := 4) (d := 12) _ hP (by decide) (by decide))
        go_wp2_with fail
        refine wp_region_still_tail 3 (by kernel_rfl) (by decide +kernel) ?_
        simp only [List.take_succ_cons, List.take_zero, List.drop_succ_cons, List.drop_zero]
        change wpStill _ _ w2.drew _ _ _
        rw [hv]
        repeat still_step
        refine wpStill_nil ?_
        change wpList _ _ _ _ _ w2.drew
        rw [hv]
        clear hv
        have CF : CopyFits v (some ⟨g, 4, none⟩) (some ⟨p, 0, none⟩) 4 12 g 4 (rowN 16 (upto (4 * 1) (bCols mixc b) b)).length (rowN 4 (mixc (colOf b 1))) := by rw [rowN_len]; exact CF.out
        have HL := rowN_len 4 (mixc (colOf b 1))
        refine wpList_copy_num rfl (.tmp 20) (.tmp 21) 31 31 rfl 5 Try.underlying31 sizeU8' rfl rfl hx CF 4 HL ?_
        intro w4 hx4 hg4
        have hx4 := hx4.cast (over_upto 1 (by decide) (bCols mixc b) b (mixc (colOf b 1)) (fun j hj => by unfold bCols; rw [show (4 * 1 + j) / 4 = 1 by omega, show (4 * 1 + j) % 4 = j by omega]))
        have hr4 := hr.grown hg4 (by intro e; injection e; omega)
        have hB4 := hB.trans (below_of_grown hg4 (Nat.le_refl g) hx.lt)
        go_wp2
        go_roundw
        case rel => exact ⟨2, by omega, by go_num, hx4, hr4, hB4⟩
        case measure => simp [intOf]
      · have hpart := part_col 2 (by decide) (bCols mixc b) b hx
        have hby := Lib.hid (show By (colOf b 2) from fun _ => hb.out _)
        have hIr := row4 (colOf b 2)
        have e1 : wrap64 (8 + 4) = 12 := by unfold wrap64; decide
        have hat := fun cap v => run_array_at (P := Try.prog) 89 5 4 Try.underlying89 (some ⟨g, 8, none⟩) 4 cap (by decide) v
        go_wp2_with ((with_reducible refine wpList_load_part rfl 89 (.tmp 16) rfl ?_ (rowN 4 (colOf b 2)) hpart hIr ?_); rfl)
        refine (cMix_any (colOf b 2) _ hby.out).mono ?_
        rintro e w1 ⟨rfl, h1⟩
        have hgl := hx.lt
        have hx := hx.keep h1 hx.lt
        have hr := hr.keep h1 hr.lt
        have hB1 := hB.trans (h1.mono (Nat.le_of_lt hgl))
        have hsz1 := h1.size
        clear h1 hpart
        have hcol := Blk.new w1 89 (rowN 4 zf)
        have HI := row4 (mixc (colOf b 2))
        have HF := Lib.hid (fit4 zf (mixc (colOf b 2)))
        have H1 := Lib.hid (rowN_one 4 (mixc (colOf b 2)))
        go_wp2_with (first
          | (with_reducible refine wpList_alloc_blk rfl 89 rfl zero4 ?_)
          | ((with_reducible refine wpList_store_part (cs := rowN 4 (mixc (colOf b 2))) rfl 89 (.tmp 6) (.tmp 18) rfl ?_ ?_ hcol HI HF.out H1.out ?_); rfl; rfl; intro w2 hP hg2; refine RowKit.Hid.out ?_))
        refine Lib.hid ?_
        rw [over4] at hP
        have b2 : Below w1.heap.size w1 w2 := (below1 w1 _).trans (below_of_grown hg2 (Nat.le_refl _) (by rw [size1]; omega))
        have hx := hx.keep b2 hx.lt
        have hr := hr.keep b2 hr.lt
        have hpl : g < w1.heap.size := Nat.lt_of_lt_of_le hgl hsz1
        have hB := hB1.trans (b2.mono (Nat.le_of_lt hpl))
        obtain ⟨p, hp⟩ : ∃ p, w1.heap.size = p := ⟨_, rfl⟩
        rw [hp] at hP hpl ⊢
        have hne : p ≠ g := by omega
        clear hB1 b2 hg2 hcol hp hgl hsz1
        obtain ⟨v, hv, hD⟩ := Draws.one w2
        have hx := hD.blk hx
        have hr := hD.blk hr
        have hB := hB.trans (hD.below g)
        have hP := hD.blk hP
        have CF := Lib.hid (colCopy (g := g) (off := 8) (d := 8) _ hP (by decide) (by decide))
        go_wp2_with fail
        refine wp_region_still_tail 3 (by kernel_rfl) (by decide +kernel) ?_
        simp only [List.take_succ_cons, List.take_zero, List.drop_succ_cons, List.drop_zero]
        change wpStill _ _ w2.drew _ _ _
        rw [hv]
        repeat still_step
        refine wpStill_nil ?_
        change wpList _ _ _ _ _ w2.drew
        rw [hv]
        clear hv
        have CF : CopyFits v (some ⟨g, 8, none⟩) (some ⟨p, 0, none⟩) 4 8 g 8 (rowN 16 (upto (4 * 2) (bCols mixc b) b)).length (rowN 4 (mixc (colOf b 2))) := by rw [rowN_len]; exact CF.out
        have HL := rowN_len 4 (mixc (colOf b 2))
        refine wpList_copy_num rfl (.tmp 20) (.tmp 21) 31 31 rfl 5 Try.underlying31 sizeU8' rfl rfl hx CF 4 HL ?_
        intro w4 hx4 hg4
        have hx4 := hx4.cast (over_upto 2 (by decide) (bCols mixc b) b (mixc (colOf b 2)) (fun j hj => by unfold bCols; rw [show (4 * 2 + j) / 4 = 2 by omega, show (4 * 2 + j) % 4 = j by omega]))
        have hr4 := hr.grown hg4 (by intro e; injection e; omega)
        have hB4 := hB.trans (below_of_grown hg4 (Nat.le_refl g) hx.lt)
        go_wp2
        go_roundw
        case rel => exact ⟨3, by omega, by go_num, hx4, hr4, hB4⟩
        case measure => simp [intOf]
      · have hpart := part_col 3 (by decide) (bCols mixc b) b hx
        have hby := Lib.hid (show By (colOf b 3) from fun _ => hb.out _)
        have hIr := row4 (colOf b 3)
        have e1 : wrap64 (12 + 4) = 16 := by unfold wrap64; decide
        have hat := fun cap v => run_array_at (P := Try.prog) 89 5 4 Try.underlying89 (some ⟨g, 12, none⟩) 4 cap (by decide) v
        go_wp2_with ((with_reducible refine wpList_load_part rfl 89 (.tmp 16) rfl ?_ (rowN 4 (colOf b 3)) hpart hIr ?_); rfl)
        refine (cMix_any (colOf b 3) _ hby.out).mono ?_
        rintro e w1 ⟨rfl, h1⟩
        have hgl := hx.lt
        have hx := hx.keep h1 hx.lt
        have hr := hr.keep h1 hr.lt
        have hB1 := hB.trans (h1.mono (Nat.le_of_lt hgl))
        have hsz1 := h1.size
        clear h1 hpart
        have hcol := Blk.new w1 89 (rowN 4 zf)
        have HI := row4 (mixc (colOf b 3))
        have HF := Lib.hid (fit4 zf (mixc (colOf b 3)))
        have H1 := Lib.hid (rowN_one 4 (mixc (colOf b 3)))
        go_wp2_with (first
          | (with_reducible refine wpList_alloc_blk rfl 89 rfl zero4 ?_)
          | ((with_reducible refine wpList_store_part (cs := rowN 4 (mixc (colOf b 3))) rfl 89 (.tmp 6) (.tmp 18) rfl ?_ ?_ hcol HI HF.out H1.out ?_); rfl; rfl; intro w2 hP hg2; refine RowKit.Hid.out ?_))
        refine Lib.hid ?_
        rw [over4] at hP
        have b2 : Below w1.heap.size w1 w2 := (below1 w1 _).trans (below_of_grown hg2 (Nat.le_refl _) (by rw [size1]; omega))
        have hx := hx.keep b2 hx.lt
        have hr := hr.keep b2 hr.lt
        have hpl : g < w1.heap.size := Nat.lt_of_lt_of_le hgl hsz1
        have hB := hB1.trans (b2.mono (Nat.le_of_lt hpl))
        obtain ⟨p, hp⟩ : ∃ p, w1.heap.size = p := ⟨_, rfl⟩
        rw [hp] at hP hpl ⊢
        have hne : p ≠ g := by omega
        clear hB1 b2 hg2 hcol hp hgl hsz1
        obtain ⟨v, hv, hD⟩ := Draws.one w2
        have hx := hD.blk hx
        have hr := hD.blk hr
        have hB := hB.trans (hD.below g)
        have hP := hD.blk hP
        have CF := Lib.hid (colCopy (g := g) (off := 12) (d := 4) _ hP (by decide) (by decide))
        go_wp2_with fail
        refine wp_region_still_tail 3 (by kernel_rfl) (by decide +kernel) ?_
        simp only [List.take_succ_cons, List.take_zero, List.drop_succ_cons, List.drop_zero]
        change wpStill _ _ w2.drew _ _ _
        rw [hv]
        repeat still_step
        refine wpStill_nil ?_
        change wpList _ _ _ _ _ w2.drew
        rw [hv]
        clear hv
        have CF : CopyFits v (some ⟨g, 12, none⟩) (some ⟨p, 0, none⟩) 4 4 g 12 (rowN 16 (upto (4 * 3) (bCols mixc b) b)).length (rowN 4 (mixc (colOf b 3))) := by rw [rowN_len]; exact CF.out
        have HL := rowN_len 4 (mixc (colOf b 3))
        refine wpList_copy_num rfl (.tmp 20) (.tmp 21) 31 31 rfl 5 Try.underlying31 sizeU8' rfl rfl hx CF 4 HL ?_
        intro w4 hx4 hg4
        have hx4 := hx4.cast (over_upto 3 (by decide) (bCols mixc b) b (mixc (colOf b 3)) (fun j hj => by unfold bCols; rw [show (4 * 3 + j) / 4 = 3 by omega, show (4 * 3 + j) % 4 = j by omega]))
        have hr4 := hr.grown hg4 (by intro e; injection e; omega)
        have hB4 := hB.trans (below_of_grown hg4 (Nat.le_refl g) hx.lt)
        go_wp2
        go_roundw
        case rel => exact ⟨4, by omega, by go_num, hx4, hr4, hB4⟩
        case measure => simp [intOf]
    · obtain rfl : k = 4 := by omega
      have hx : Blk wr _ 42 (rowN 16 (bCols mixc b)) := hx.cast (rowN_congr (upto_all 16 (bCols mixc b) b))
      have HI := row16 (bCols mixc b)
      have HF := Lib.hid (fit16 zf (bCols mixc b))
      have H1 := Lib.hid (rowN_one 16 (bCols mixc b))
      go_wp2_with (first
        | ((with_reducible refine wpList_load_blk rfl 42 (.tmp 2) rfl ?_ hx row16' (rowN_len 16 _) ?_); rfl)
        | ((with_reducible refine wpList_store_part rfl 42 (.tmp 4) (.tmp 23) rfl ?_ ?_ hr HI HF.out H1.out ?_); rfl; rfl; intro w9 hR9 hg9))
      rw [over16] at hR9
      (try simp only [Exit.inBlock, Exit.then])
      refine bodyPost_ret (results_blk rfl rfl hR9 HI) rfl ?_
      refine ⟨rfl, ?_⟩
      rw [hg.out]
      exact hB.trans (below_of_grown hg9 (by omega) hr.lt)
end Go.Proofs.Ytclcnngpgbdjgaa
