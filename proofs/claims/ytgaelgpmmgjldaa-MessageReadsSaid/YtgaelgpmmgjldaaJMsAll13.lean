/-
  Texts of stages that were proved on their own, joined: MsDecodeU, MsAlive, MsLawR, MsLawB, MsLawB2, MsLawC, MsLw. Each begins with its own words.
-/
import Derived.Test.YtgaelgpmmgjldaaJMsAll12
import Derived.Test.YtgaelgpmmgjldaaJMsAll6
import Derived.Test.YtgaelgpmmgjldaaJMsAll9
import Derived.Test.YtgaelgpmmgjldaaJMsAll1

/-
  What message's Decode comes to. New memory alone is written. Conditions: bytes below 256, at most a million. (Made by wip/tools/mk_msdecode.py.)
-/
namespace Go.Proofs.Ytgaelgpmmgjldaa
open Go.RowKit

set_option maxRecDepth 100000 in
set_option maxHeartbeats 4000000 in
theorem msDecode_upload (a : Option Addr) (n c : Nat) (xs : List Int) (w : World) (hI : Ints .u8 w a n c xs) (hr : ∀ x ∈ xs, 0 ≤ x ∧ x < 256) (hn : n ≤ 1000000) (hk0 : kindOf xs = 2) :
    Calls Try.prog 11 #[.slice a n c] w (DecEnd xs w) := by
  have hln := hI.len
  have hb := below1 w (.cells (msC 0 0 0 0 z16 none 0 0).toArray 28)
  have hk : Blk (w.alloc (.cells (msC 0 0 0 0 z16 none 0 0).toArray 28)) w.heap.size 28 (msC 0 0 0 0 z16 none 0 0) := Blk.new w _ _
  obtain ⟨V, hV⟩ : ∃ V, w.alloc (.cells (msC 0 0 0 0 z16 none 0 0).toArray 28) = V := ⟨_, rfl⟩
  rw [hV] at hb hk
  have hnew := Lib.hid (pNew_any a n c xs V (hI.keep hb) hr hn)
  obtain ⟨G, g9⟩ : ∃ G, w.heap.size = G := ⟨_, rfl⟩
  rw [g9] at hk
  have gH := Lib.hid g9
  obtain ⟨⟨P1, E1, k⟩, hq1⟩ : ∃ q, rdNum xs 0 0 1 = q := ⟨_, rfl⟩
  have hkd : kindOf xs = k := by unfold kindOf; rw [hq1]
  have hkr := kindOf_range hr
  rw [hkd] at hkr
  have k64 : wrap64 k = k := by unfold wrap64; omega
  have k64' : IntKind.i64.wrap k = k := by rw [IntKind.wrap_i64]; omega
  have hbt := built_ms1 k
  have hbt0 := built_ms0
  obtain ⟨B, hB⟩ : ∃ B, msC k 0 0 0 z16 none 0 0 = B := ⟨_, rfl⟩
  have hBH := Lib.hid hB
  have hBl : B.length = 21 := by rw [← hB]; exact msC_len z16_len
  have hB1' : ∀ v ∈ B, v.oneCell' = true := by rw [← hB]; exact msC_one _ _ _ _ _ _ _ _
  rw [hB] at hbt
  clear hB
  obtain ⟨Z, hZ⟩ : ∃ B, msC 0 0 0 0 z16 none 0 0 = B := ⟨_, rfl⟩
  have hZH := Lib.hid hZ
  have hZl : Z.length = 21 := by rw [← hZ]; exact msC_len z16_len
  have hZ1 : ∀ v ∈ Z, v.oneCell' = true := by rw [← hZ]; exact msC_one _ _ _ _ _ _ _ _
  rw [hZ] at hbt0
  clear hZ
  unfold DecEnd
  obtain ⟨E, hdn, hend1, hend2⟩ := decM_upload hr hk0
  have hHl : (upH xs).length = 16 := upH_len
  have hv := num32 hr (rdNum xs 0 0 1).1 (rdNum xs 0 0 1).2.1
  have hu := num32 hr (rdOne xs 4).1 (rdOne xs 4).2.1
  change 0 ≤ (rdOne xs 4).2.2 ∧ (rdOne xs 4).2.2 < 4294967296 at hv
  change 0 ≤ (up3 xs).2.2 ∧ (up3 xs).2.2 < 4294967296 at hu
  obtain ⟨⟨P2, E2, v⟩, hq2⟩ : ∃ q, rdOne xs 4 = q := ⟨_, rfl⟩
  obtain ⟨⟨P3, E3, u⟩, hq3⟩ : ∃ q, up3 xs = q := ⟨_, rfl⟩
  obtain ⟨⟨P4, E4, L4⟩, hq4⟩ : ∃ q, up4 xs = q := ⟨_, rfl⟩
  obtain ⟨HH, hHH⟩ : ∃ q, upH xs = q := ⟨_, rfl⟩
  obtain ⟨⟨P5, E5, N5⟩, hq5⟩ : ∃ q, up5 xs = q := ⟨_, rfl⟩
  obtain ⟨⟨P6, E6, L⟩, hq6⟩ : ∃ q, up6 xs = q := ⟨_, rfl⟩
  obtain ⟨ys, hy⟩ : ∃ q, upB xs = q := ⟨_, rfl⟩
  rw [hq2, hq3, hHH, hy] at hend2
  rw [hq6] at hdn
  rw [hHH] at hHl
  rw [hq2] at hv
  rw [hq3] at hu
  dsimp only at hdn hend2 hv hu
  unfold upB at hy
  unfold up6 at hq6
  rw [hq5] at hy hq6
  unfold up5 at hq5
  rw [hq4] at hq5
  unfold up4 at hq4
  unfold upH at hHH
  rw [hq3] at hq4 hHH
  unfold up3 at hq3
  rw [hq2] at hq3
  unfold rdOne at hq2
  rw [hq1] at hq2
  dsimp only at hq2 hq3 hq4 hq5 hq6 hy hHH
  rw [hkd] at hk0
  subst hk0
  have v32 : v % 4294967296 = v := by omega
  have u32 : u % 4294967296 = u := by omega
  have hXl : (HH.map (Value.int .u8)).length = 16 := by rw [List.length_map, hHl]
  have hX1 : ∀ v ∈ HH.map (Value.int .u8), v.oneCell' = true := hint_one HH
  have hrX : IsRow Try.prog 25 (HH.map (Value.int .u8)).length := by rw [hXl]; exact rowHint9
  have hXf : 4 + (HH.map (Value.int .u8)).length ≤ (msC 2 v u 0 z16 none 0 0).length := by rw [hXl, msC_len z16_len]; decide
  clear hkr hkd hr hI hn hln hv hu hXl
  by_cases hE0 : E = 0
  · have hend := Lib.hid (hend2 hE0)
    clear hend1 hend2
    go_enter Try.func11, Try.ntmps11
    go_wp2_with ((with_reducible refine wpList_alloc_blk rfl 28 rfl zeroMs ?_); refine RowKit.Hid.out ?_)
    refine Lib.hid ?_
    clear hV
    go_wp2_with fail
    refine hnew.out.mono ?_
    rintro r w1 ⟨g, F, rfl, hR1, hF1, b1⟩
    have hG1 := hk.keep b1 hk.lt
    have hB1 := hb.trans (b1.mono hb.size)
    have nG : Hid (¬ F G) := Lib.hid (fun h => by have := hF1 _ h; have := hk.lt; omega)
    have hFg : Hid (∀ b, F b → w.heap.size ≤ b) := Lib.hid (fun b hb' => Nat.le_trans hb.size (hF1 b hb'))
    clear hk hb b1 hnew hF1
    have cn := pNum_any 1 hR1
    rw [hq1] at cn
    dsimp only at cn
    clear hR1
    go_wp2_with fail
    refine cn.mono ?_
    rintro r w2 ⟨rfl, hR2, hm2⟩
    have hG2 : Blk w2 G 28 (msC 0 0 0 0 z16 none 0 0) := (hm2.2 G hG1.lt nG.out).trans hG1
    have hB2 := hB1.trans (hm2.below hFg.out hB1.size)
    clear cn hG1 hB1 hm2
    go_wp2_with ((with_reducible refine build_row rfl 28 #[(0, .tmp 11)] rfl (cells := B.toArray) ?_ ?_); (refine Eq.trans (congrArg _ ?_) hbt; kernel_rfl); refine RowKit.Hid.out ?_)
    refine Lib.hid ?_
    refine wpList_alloc_blk rfl 28 rfl zeroMs ?_
    try simp only [Act.put, List.setIfInBounds_toArray, List.set_cons_zero, List.set_cons_succ]
    have hGA := hG2.alloc (.cells (msC 0 0 0 0 z16 none 0 0).toArray 28)
    have hNA := Blk.new w2 28 (msC 0 0 0 0 z16 none 0 0)
    have hBA := hB2.alloc hB2.size (.cells (msC 0 0 0 0 z16 none 0 0).toArray 28)
    have hnG : G < w2.heap.size := hG2.lt
    have hRA := hR2.keep (w' := w2.alloc (.cells (msC 0 0 0 0 z16 none 0 0).toArray 28)) (fun b hb => Below.heap_alloc w2 _ b (hR2.lt b hb)) (by rw [size1]; omega)
    have nN0 : ¬ F w2.heap.size := fun h => Nat.lt_irrefl _ (hR2.lt _ h)
    obtain ⟨N, hN⟩ : ∃ N, w2.heap.size = N := ⟨_, rfl⟩
    rw [hN] at hNA hnG nN0 ⊢
    have nN := Lib.hid nN0
    have nGN := Lib.hid hnG
    obtain ⟨U, hU⟩ : ∃ W, w2.alloc (.cells (msC 0 0 0 0 z16 none 0 0).toArray 28) = W := ⟨_, rfl⟩
    rw [hU] at hGA hNA hBA hRA ⊢
    clear hR2 hG2 hB2 hN hU nN0
    refine store_row rfl 28 (.tmp 5) (.tmp 12) rfl rfl rfl hNA rowMs hBl (msC_len z16_len) hB1' ?_
    intro w3 hN3 hg3
    rw [← hBH.out] at hN3
    have hG3 := hGA.grown hg3 (fun e => by injection e with e; omega)
    have hR3 := hRA.keep (fun b hb => hg3.block b (hRA.lt b hb) (fun e => by injection e with e; subst e; exact nN.out hb)) hg3.size
    have hB3 := hBA.grown hg3 hBA.size (fun q hq => by injection hq with hq; have := gH.out; have := nGN.out; omega)
    have c0 := ms0 hN3
    clear hGA hNA hBA hRA hg3 hnG
    have cn := pNum_any 4 hR3
    rw [hq2] at cn
    dsimp only at cn
    clear hR3
    have cnH := Lib.hid cn
    clear cn
    go_wp2_with fail
    refine cnH.out.mono ?_
    rintro r w4 ⟨rfl, hR4, hm4⟩
    clear cnH
    have hN4 : Blk w4 N 28 (msC 2 0 0 0 z16 none 0 0) := (hm4.2 N hN3.lt nN.out).trans hN3
    have hG4 : Blk w4 G 28 (msC 0 0 0 0 z16 none 0 0) := (hm4.2 G hG3.lt nG.out).trans hG3
    have hB4 := hB3.trans (hm4.below hFg.out hB3.size)
    clear hN3 hG3 hB3 hm4
    have d0 := hN4.cell 1
    have f0 := hN4.frozen 1
    have hN5 : Blk (w4.setCell ⟨N, 1, none⟩ (.int .u32 v)) N 28 (msC 2 v 0 0 z16 none 0 0) := hN4.set 1 (.int .u32 v)
    have hG5 : Blk (w4.setCell ⟨N, 1, none⟩ (.int .u32 v)) G 28 (msC 0 0 0 0 z16 none 0 0) := hG4.far (by show G ≠ N; have := nGN.out; omega) _
    have hB5 : Below w.heap.size w (w4.setCell ⟨N, 1, none⟩ (.int .u32 v)) := hB4.setCell (p := ⟨N, 1, none⟩) (by show w.heap.size ≤ N; have := nGN.out; have := gH.out; omega) _
    have hR5 := hR4.keep (w' := w4.setCell ⟨N, 1, none⟩ (.int .u32 v)) (fun b hb => Below.heap_setCell w4 ⟨N, 1, none⟩ _ b (by show b ≠ N; intro e; subst e; exact nN.out hb)) (Nat.le_of_eq (by simp))
    obtain ⟨w5, hw5⟩ : ∃ W, w4.setCell ⟨N, 1, none⟩ (.int .u32 v) = W := ⟨_, rfl⟩
    rw [hw5] at hN5 hG5 hB5 hR5
    clear hN4 hG4 hB4 hR4
    have cn := pNum_any 4 hR5
    rw [hq3] at cn
    dsimp only at cn
    clear hR5
    have cnH := Lib.hid cn
    clear cn
    go_wp2_with fail
    refine cnH.out.mono ?_
    rintro r w6 ⟨rfl, hR6, hm6⟩
    clear cnH
    have hN6 : Blk w6 N 28 (msC 2 v 0 0 z16 none 0 0) := (hm6.2 N hN5.lt nN.out).trans hN5
    have hG6 : Blk w6 G 28 (msC 0 0 0 0 z16 none 0 0) := (hm6.2 G hG5.lt nG.out).trans hG5
    have hB6 := hB5.trans (hm6.below hFg.out hB5.size)
    clear hN5 hG5 hB5 hm6
    have d0 := hN6.cell 2
    have f0 := hN6.frozen 2
    have hN7 : Blk (w6.setCell ⟨N, 2, none⟩ (.int .u32 u)) N 28 (msC 2 v u 0 z16 none 0 0) := hN6.set 2 (.int .u32 u)
    have hG7 : Blk (w6.setCell ⟨N, 2, none⟩ (.int .u32 u)) G 28 (msC 0 0 0 0 z16 none 0 0) := hG6.far (by show G ≠ N; have := nGN.out; omega) _
    have hB7 : Below w.heap.size w (w6.setCell ⟨N, 2, none⟩ (.int .u32 u)) := hB6.setCell (p := ⟨N, 2, none⟩) (by show w.heap.size ≤ N; have := nGN.out; have := gH.out; omega) _
    have hR7 := hR6.keep (w' := w6.setCell ⟨N, 2, none⟩ (.int .u32 u)) (fun b hb => Below.heap_setCell w6 ⟨N, 2, none⟩ _ b (by show b ≠ N; intro e; subst e; exact nN.out hb)) (Nat.le_of_eq (by simp))
    obtain ⟨w7, hw7⟩ : ∃ W, w6.setCell ⟨N, 2, none⟩ (.int .u32 u) = W := ⟨_, rfl⟩
    rw [hw7] at hN7 hG7 hB7 hR7
    clear hN6 hG6 hB6 hR6
    have cn := pHint_any hR7
    rw [hq4] at cn
    rw [hHH] at cn
    dsimp only at cn
    have cnH := Lib.hid cn
    clear cn
    go_wp2_with fail
    refine cnH.out.mono ?_
    rintro r w8 ⟨rfl, hR8, hm8⟩
    clear cnH hR7
    have hN8 : Blk w8 N 28 (msC 2 v u 0 z16 none 0 0) := (hm8.2 N hN7.lt nN.out).trans hN7
    have hG8 : Blk w8 G 28 (msC 0 0 0 0 z16 none 0 0) := (hm8.2 G hG7.lt nG.out).trans hG7
    have hB8 := hB7.trans (hm8.below hFg.out hB7.size)
    clear hN7 hG7 hB7 hm8
    go_wp2_with ((with_reducible refine wpList_store_part rfl 25 (.tmp 37) (.tmp 36) rfl (g := N) (off := 4) (cs := HH.map (Value.int .u8)) ?_ ?_ hN8 hrX hXf hX1 ?_); rfl; rfl; intro w11 hN11' hg11; refine RowKit.Hid.out ?_)
    refine Lib.hid ?_
    have hN11 : Blk w11 N 28 (msC 2 v u 0 HH none 0 0) := by
      rw [msC_hint z16_len hHl] at hN11'
      exact hN11'
    have hG11 := hG8.grown hg11 (fun e => by injection e with e; have := nGN.out; omega)
    have hR11 := hR8.keep (fun b hb => hg11.block b (hR8.lt b hb) (fun e => by injection e with e; subst e; exact nN.out hb)) hg11.size
    have hB11 := hB8.grown hg11 hB8.size (fun q hq => by injection hq with hq; have := gH.out; have := nGN.out; omega)
    clear hN8 hG8 hR8 hB8 hN11' hg11
    have cn := pCount_any 2 1000 (by decide) hR11
    rw [hq5] at cn
    dsimp only at cn
    have cnH := Lib.hid cn
    clear cn
    go_wp2_with fail
    refine cnH.out.mono ?_
    rintro r w12 ⟨rfl, hR12, hm12⟩
    clear cnH hR11
    have hN12 : Blk w12 N 28 (msC 2 v u 0 HH none 0 0) := (hm12.2 N hN11.lt nN.out).trans hN11
    have hG12 : Blk w12 G 28 (msC 0 0 0 0 z16 none 0 0) := (hm12.2 G hG11.lt nG.out).trans hG11
    have hB12 := hB11.trans (hm12.below hFg.out hB11.size)
    clear hN11 hG11 hB11 hm12
    have hNl := hN12.lt
    have hGl := hB12.size
    have hyl := rdBytes_len E5 N5 hR12.within
    rw [hy, hq6] at hyl
    dsimp only at hyl
    have hylH := Lib.hid hyl
    clear hyl
    have cn := pBytes_any N5 hR12
    rw [hq6] at cn
    rw [hy] at cn
    dsimp only at cn
    have cnH := Lib.hid cn
    clear cn
    go_wp2_with fail
    refine cnH.out.mono ?_
    rintro r w13 ⟨b, d, rfl, ho, -, hR13, hm13⟩
    clear cnH hR12
    have hN13 : Blk w13 N 28 (msC 2 v u 0 HH none 0 0) := (hm13.2 N hN12.lt nN.out).trans hN12
    have hG13 : Blk w13 G 28 (msC 0 0 0 0 z16 none 0 0) := (hm13.2 G hG12.lt nG.out).trans hG12
    have hB13 := hB12.trans (hm13.below hFg.out hB12.size)
    clear hN12 hG12 hB12 hm13
    have hN9set := msC_set (K := 2) (S := v) (Q := u) (O := 0) (a := none) (n := 0) (c := 0) hHl b L d
    have d0 := ms5 hN13 hHl
    have f0 := hN13.frozen 20
    have hN9 : Blk (w13.setCell ⟨N, 20, none⟩ (.slice b L d)) N 28 (msC 2 v u 0 HH b L d) := by
      have h := hN13.set 20 (.slice b L d)
      rw [hN9set] at h
      exact h
    have hG9 : Blk (w13.setCell ⟨N, 20, none⟩ (.slice b L d)) G 28 (msC 0 0 0 0 z16 none 0 0) := hG13.far (by show G ≠ N; have := nGN.out; omega) _
    have hB9 : Below w.heap.size w (w13.setCell ⟨N, 20, none⟩ (.slice b L d)) := hB13.setCell (p := ⟨N, 20, none⟩) (by show w.heap.size ≤ N; have := nGN.out; have := gH.out; omega) _
    have hR9 := hR13.keep (w' := w13.setCell ⟨N, 20, none⟩ (.slice b L d)) (fun b hb => Below.heap_setCell w13 ⟨N, 20, none⟩ _ b (by show b ≠ N; intro e; subst e; exact nN.out hb)) (Nat.le_of_eq (by simp))
    have ho9 : (w13.setCell ⟨N, 20, none⟩ (.slice b L d)).ownsRow w12.heap.size 5 1 (.slice b L d) L (ys.map (Value.int .u8)) := own_far9 ho (grown_setCell w13 N 20 _) hNl
    obtain ⟨w9, hw9⟩ : ∃ W, w13.setCell ⟨N, 20, none⟩ (.slice b L d) = W := ⟨_, rfl⟩
    rw [hw9] at hN9 hG9 hB9 hR9 ho9
    clear hN13 hG13 hB13 hR13 ho hN9set
    have cd := pDone_any hR9
    rw [hdn] at cd
    have cdH := Lib.hid cd
    clear cd hR9
    go_wp2_with fail
    refine cdH.out.mono ?_
    rintro r wX ⟨rfl, bX⟩
    have hNX := hN9.keep bX hN9.lt
    have hGX := hG9.keep bX hG9.lt
    have hBX := hB9.trans (bX.mono hB9.size)
    clear cdH hN9 hG9 hB9
    have hoX := own_stay9 ho9 bX
    clear ho9 bX
    have hl2 : (msC 2 v u 0 HH b L d).length = 21 := msC_len hHl
    subst hE0
    go_wp2_with ((with_reducible refine wpList_load_blk rfl 28 (.tmp 5) rfl ?_ hNX rowMs hl2 ?_); rfl; refine RowKit.Hid.out ?_)
    refine Lib.hid ?_
    refine store_row rfl 28 (.tmp 2) (.tmp 55) rfl rfl rfl hGX rowMs hl2 (msC_len z16_len) (msC_one _ _ _ _ _ _ _ _) ?_
    intro wY hGY hgY
    have hrZ : IsRow Try.prog 28 (msC 2 v u 0 HH b L d).length := by rw [hl2]; exact rowMs
    go_wp2_with fail
    refine bodyPost_ret (results_blk_tmp rfl rfl hGY hrZ) rfl ?_
    rw [hend.out]
    have hoY := own_far9 hoX hgY (by have := nGN.out; omega)
    obtain ⟨b', d', hv', hJ⟩ := Ints.of_owns hoY
    injection hv' with e1 _ e2
    subst e1; subst e2
    dsimp only
    rw [hylH.out]
    exact ⟨b, d, by unfold mC; dsimp only; rw [hylH.out]; rfl, hJ, (fun x hx => Nat.le_trans hGl (own_block hoY hx)), hBX.grown hgY hBX.size (fun q hq => by injection hq with hq; have := gH.out; omega)⟩
  · have hend := Lib.hid (hend1 hE0)
    clear hend1 hend2
    go_enter Try.func11, Try.ntmps11
    go_wp2_with ((with_reducible refine wpList_alloc_blk rfl 28 rfl zeroMs ?_); refine RowKit.Hid.out ?_)
    refine Lib.hid ?_
    clear hV
    go_wp2_with fail
    refine hnew.out.mono ?_
    rintro r w1 ⟨g, F, rfl, hR1, hF1, b1⟩
    have hG1 := hk.keep b1 hk.lt
    have hB1 := hb.trans (b1.mono hb.size)
    have nG : Hid (¬ F G) := Lib.hid (fun h => by have := hF1 _ h; have := hk.lt; omega)
    have hFg : Hid (∀ b, F b → w.heap.size ≤ b) := Lib.hid (fun b hb' => Nat.le_trans hb.size (hF1 b hb'))
    clear hk hb b1 hnew hF1
    have cn := pNum_any 1 hR1
    rw [hq1] at cn
    dsimp only at cn
    clear hR1
    go_wp2_with fail
    refine cn.mono ?_
    rintro r w2 ⟨rfl, hR2, hm2⟩
    have hG2 : Blk w2 G 28 (msC 0 0 0 0 z16 none 0 0) := (hm2.2 G hG1.lt nG.out).trans hG1
    have hB2 := hB1.trans (hm2.below hFg.out hB1.size)
    clear cn hG1 hB1 hm2
    go_wp2_with ((with_reducible refine build_row rfl 28 #[(0, .tmp 11)] rfl (cells := B.toArray) ?_ ?_); (refine Eq.trans (congrArg _ ?_) hbt; kernel_rfl); refine RowKit.Hid.out ?_)
    refine Lib.hid ?_
    refine wpList_alloc_blk rfl 28 rfl zeroMs ?_
    try simp only [Act.put, List.setIfInBounds_toArray, List.set_cons_zero, List.set_cons_succ]
    have hGA := hG2.alloc (.cells (msC 0 0 0 0 z16 none 0 0).toArray 28)
    have hNA := Blk.new w2 28 (msC 0 0 0 0 z16 none 0 0)
    have hBA := hB2.alloc hB2.size (.cells (msC 0 0 0 0 z16 none 0 0).toArray 28)
    have hnG : G < w2.heap.size := hG2.lt
    have hRA := hR2.keep (w' := w2.alloc (.cells (msC 0 0 0 0 z16 none 0 0).toArray 28)) (fun b hb => Below.heap_alloc w2 _ b (hR2.lt b hb)) (by rw [size1]; omega)
    have nN0 : ¬ F w2.heap.size := fun h => Nat.lt_irrefl _ (hR2.lt _ h)
    obtain ⟨N, hN⟩ : ∃ N, w2.heap.size = N := ⟨_, rfl⟩
    rw [hN] at hNA hnG nN0 ⊢
    have nN := Lib.hid nN0
    have nGN := Lib.hid hnG
    obtain ⟨U, hU⟩ : ∃ W, w2.alloc (.cells (msC 0 0 0 0 z16 none 0 0).toArray 28) = W := ⟨_, rfl⟩
    rw [hU] at hGA hNA hBA hRA ⊢
    clear hR2 hG2 hB2 hN hU nN0
    refine store_row rfl 28 (.tmp 5) (.tmp 12) rfl rfl rfl hNA rowMs hBl (msC_len z16_len) hB1' ?_
    intro w3 hN3 hg3
    rw [← hBH.out] at hN3
    have hG3 := hGA.grown hg3 (fun e => by injection e with e; omega)
    have hR3 := hRA.keep (fun b hb => hg3.block b (hRA.lt b hb) (fun e => by injection e with e; subst e; exact nN.out hb)) hg3.size
    have hB3 := hBA.grown hg3 hBA.size (fun q hq => by injection hq with hq; have := gH.out; have := nGN.out; omega)
    have c0 := ms0 hN3
    clear hGA hNA hBA hRA hg3 hnG
    have cn := pNum_any 4 hR3
    rw [hq2] at cn
    dsimp only at cn
    clear hR3
    have cnH := Lib.hid cn
    clear cn
    go_wp2_with fail
    refine cnH.out.mono ?_
    rintro r w4 ⟨rfl, hR4, hm4⟩
    clear cnH
    have hN4 : Blk w4 N 28 (msC 2 0 0 0 z16 none 0 0) := (hm4.2 N hN3.lt nN.out).trans hN3
    have hG4 : Blk w4 G 28 (msC 0 0 0 0 z16 none 0 0) := (hm4.2 G hG3.lt nG.out).trans hG3
    have hB4 := hB3.trans (hm4.below hFg.out hB3.size)
    clear hN3 hG3 hB3 hm4
    have d0 := hN4.cell 1
    have f0 := hN4.frozen 1
    have hN5 : Blk (w4.setCell ⟨N, 1, none⟩ (.int .u32 v)) N 28 (msC 2 v 0 0 z16 none 0 0) := hN4.set 1 (.int .u32 v)
    have hG5 : Blk (w4.setCell ⟨N, 1, none⟩ (.int .u32 v)) G 28 (msC 0 0 0 0 z16 none 0 0) := hG4.far (by show G ≠ N; have := nGN.out; omega) _
    have hB5 : Below w.heap.size w (w4.setCell ⟨N, 1, none⟩ (.int .u32 v)) := hB4.setCell (p := ⟨N, 1, none⟩) (by show w.heap.size ≤ N; have := nGN.out; have := gH.out; omega) _
    have hR5 := hR4.keep (w' := w4.setCell ⟨N, 1, none⟩ (.int .u32 v)) (fun b hb => Below.heap_setCell w4 ⟨N, 1, none⟩ _ b (by show b ≠ N; intro e; subst e; exact nN.out hb)) (Nat.le_of_eq (by simp))
    obtain ⟨w5, hw5⟩ : ∃ W, w4.setCell ⟨N, 1, none⟩ (.int .u32 v) = W := ⟨_, rfl⟩
    rw [hw5] at hN5 hG5 hB5 hR5
    clear hN4 hG4 hB4 hR4
    have cn := pNum_any 4 hR5
    rw [hq3] at cn
    dsimp only at cn
    clear hR5
    have cnH := Lib.hid cn
    clear cn
    go_wp2_with fail
    refine cnH.out.mono ?_
    rintro r w6 ⟨rfl, hR6, hm6⟩
    clear cnH
    have hN6 : Blk w6 N 28 (msC 2 v 0 0 z16 none 0 0) := (hm6.2 N hN5.lt nN.out).trans hN5
    have hG6 : Blk w6 G 28 (msC 0 0 0 0 z16 none 0 0) := (hm6.2 G hG5.lt nG.out).trans hG5
    have hB6 := hB5.trans (hm6.below hFg.out hB5.size)
    clear hN5 hG5 hB5 hm6
    have d0 := hN6.cell 2
    have f0 := hN6.frozen 2
    have hN7 : Blk (w6.setCell ⟨N, 2, none⟩ (.int .u32 u)) N 28 (msC 2 v u 0 z16 none 0 0) := hN6.set 2 (.int .u32 u)
    have hG7 : Blk (w6.setCell ⟨N, 2, none⟩ (.int .u32 u)) G 28 (msC 0 0 0 0 z16 none 0 0) := hG6.far (by show G ≠ N; have := nGN.out; omega) _
    have hB7 : Below w.heap.size w (w6.setCell ⟨N, 2, none⟩ (.int .u32 u)) := hB6.setCell (p := ⟨N, 2, none⟩) (by show w.heap.size ≤ N; have := nGN.out; have := gH.out; omega) _
    have hR7 := hR6.keep (w' := w6.setCell ⟨N, 2, none⟩ (.int .u32 u)) (fun b hb => Below.heap_setCell w6 ⟨N, 2, none⟩ _ b (by show b ≠ N; intro e; subst e; exact nN.out hb)) (Nat.le_of_eq (by simp))
    obtain ⟨w7, hw7⟩ : ∃ W, w6.setCell ⟨N, 2, none⟩ (.int .u32 u) = W := ⟨_, rfl⟩
    rw [hw7] at hN7 hG7 hB7 hR7
    clear hN6 hG6 hB6 hR6
    have cn := pHint_any hR7
    rw [hq4] at cn
    rw [hHH] at cn
    dsimp only at cn
    have cnH := Lib.hid cn
    clear cn
    go_wp2_with fail
    refine cnH.out.mono ?_
    rintro r w8 ⟨rfl, hR8, hm8⟩
    clear cnH hR7
    have hN8 : Blk w8 N 28 (msC 2 v u 0 z16 none 0 0) := (hm8.2 N hN7.lt nN.out).trans hN7
    have hG8 : Blk w8 G 28 (msC 0 0 0 0 z16 none 0 0) := (hm8.2 G hG7.lt nG.out).trans hG7
    have hB8 := hB7.trans (hm8.below hFg.out hB7.size)
    clear hN7 hG7 hB7 hm8
    go_wp2_with ((with_reducible refine wpList_store_part rfl 25 (.tmp 37) (.tmp 36) rfl (g := N) (off := 4) (cs := HH.map (Value.int .u8)) ?_ ?_ hN8 hrX hXf hX1 ?_); rfl; rfl; intro w11 hN11' hg11; refine RowKit.Hid.out ?_)
    refine Lib.hid ?_
    have hN11 : Blk w11 N 28 (msC 2 v u 0 HH none 0 0) := by
      rw [msC_hint z16_len hHl] at hN11'
      exact hN11'
    have hG11 := hG8.grown hg11 (fun e => by injection e with e; have := nGN.out; omega)
    have hR11 := hR8.keep (fun b hb => hg11.block b (hR8.lt b hb) (fun e => by injection e with e; subst e; exact nN.out hb)) hg11.size
    have hB11 := hB8.grown hg11 hB8.size (fun q hq => by injection hq with hq; have := gH.out; have := nGN.out; omega)
    clear hN8 hG8 hR8 hB8 hN11' hg11
    have cn := pCount_any 2 1000 (by decide) hR11
    rw [hq5] at cn
    dsimp only at cn
    have cnH := Lib.hid cn
    clear cn
    go_wp2_with fail
    refine cnH.out.mono ?_
    rintro r w12 ⟨rfl, hR12, hm12⟩
    clear cnH hR11
    have hN12 : Blk w12 N 28 (msC 2 v u 0 HH none 0 0) := (hm12.2 N hN11.lt nN.out).trans hN11
    have hG12 : Blk w12 G 28 (msC 0 0 0 0 z16 none 0 0) := (hm12.2 G hG11.lt nG.out).trans hG11
    have hB12 := hB11.trans (hm12.below hFg.out hB11.size)
    clear hN11 hG11 hB11 hm12
    have hNl := hN12.lt
    have hGl := hB12.size
    have hyl := rdBytes_len E5 N5 hR12.within
    rw [hy, hq6] at hyl
    dsimp only at hyl
    have hylH := Lib.hid hyl
    clear hyl
    have cn := pBytes_any N5 hR12
    rw [hq6] at cn
    rw [hy] at cn
    dsimp only at cn
    have cnH := Lib.hid cn
    clear cn
    go_wp2_with fail
    refine cnH.out.mono ?_
    rintro r w13 ⟨b, d, rfl, ho, -, hR13, hm13⟩
    clear cnH hR12
    have hN13 : Blk w13 N 28 (msC 2 v u 0 HH none 0 0) := (hm13.2 N hN12.lt nN.out).trans hN12
    have hG13 : Blk w13 G 28 (msC 0 0 0 0 z16 none 0 0) := (hm13.2 G hG12.lt nG.out).trans hG12
    have hB13 := hB12.trans (hm13.below hFg.out hB12.size)
    clear hN12 hG12 hB12 hm13
    have hN9set := msC_set (K := 2) (S := v) (Q := u) (O := 0) (a := none) (n := 0) (c := 0) hHl b L d
    have d0 := ms5 hN13 hHl
    have f0 := hN13.frozen 20
    have hN9 : Blk (w13.setCell ⟨N, 20, none⟩ (.slice b L d)) N 28 (msC 2 v u 0 HH b L d) := by
      have h := hN13.set 20 (.slice b L d)
      rw [hN9set] at h
      exact h
    have hG9 : Blk (w13.setCell ⟨N, 20, none⟩ (.slice b L d)) G 28 (msC 0 0 0 0 z16 none 0 0) := hG13.far (by show G ≠ N; have := nGN.out; omega) _
    have hB9 : Below w.heap.size w (w13.setCell ⟨N, 20, none⟩ (.slice b L d)) := hB13.setCell (p := ⟨N, 20, none⟩) (by show w.heap.size ≤ N; have := nGN.out; have := gH.out; omega) _
    have hR9 := hR13.keep (w' := w13.setCell ⟨N, 20, none⟩ (.slice b L d)) (fun b hb => Below.heap_setCell w13 ⟨N, 20, none⟩ _ b (by show b ≠ N; intro e; subst e; exact nN.out hb)) (Nat.le_of_eq (by simp))
    have ho9 : (w13.setCell ⟨N, 20, none⟩ (.slice b L d)).ownsRow w12.heap.size 5 1 (.slice b L d) L (ys.map (Value.int .u8)) := own_far9 ho (grown_setCell w13 N 20 _) hNl
    obtain ⟨w9, hw9⟩ : ∃ W, w13.setCell ⟨N, 20, none⟩ (.slice b L d) = W := ⟨_, rfl⟩
    rw [hw9] at hN9 hG9 hB9 hR9 ho9
    clear hN13 hG13 hB13 hR13 ho hN9set
    have cd := pDone_any hR9
    rw [hdn] at cd
    have cdH := Lib.hid cd
    clear cd hR9
    go_wp2_with fail
    refine cdH.out.mono ?_
    rintro r wX ⟨rfl, bX⟩
    have hNX := hN9.keep bX hN9.lt
    have hGX := hG9.keep bX hG9.lt
    have hBX := hB9.trans (bX.mono hB9.size)
    clear cdH hN9 hG9 hB9
    have hoX := own_stay9 ho9 bX
    clear ho9 bX
    have hnz : ¬ E = 0 := hE0
    have hnb : (E != 0) = true := bne_iff_ne.2 hE0
    go_wp2_with ((with_reducible refine build_row rfl 28 #[] rfl (cells := Z.toArray) ?_ ?_); (refine Eq.trans (congrArg _ ?_) hbt0; kernel_rfl); refine RowKit.Hid.out ?_)
    refine Lib.hid ?_
    refine wpList_mv rfl (.tmp 6) rfl rfl ?_
    try simp only [Act.put, List.setIfInBounds_toArray, List.set_cons_zero, List.set_cons_succ]
    refine store_row rfl 28 (.tmp 2) (.tmp 53) rfl rfl rfl hGX rowMs hZl (msC_len z16_len) hZ1 ?_
    intro wY hGY hgY
    have hrZ : IsRow Try.prog 28 Z.length := by rw [hZl]; exact rowMs
    go_wp2_with fail
    refine bodyPost_ret (results_blk_tmp rfl rfl hGY hrZ) rfl ?_
    rw [hend.out]
    exact ⟨none, 0, by rw [← hZH.out]; rfl, ⟨rfl, Nat.le_refl _, .inl rfl⟩, (fun x hx => by cases hx), hBX.grown hgY hBX.size (fun q hq => by injection hq with hq; have := gH.out; omega)⟩

theorem msDecode_any (a : Option Addr) (n c : Nat) (xs : List Int) (w : World) (hI : Ints .u8 w a n c xs) (hr : ∀ x ∈ xs, 0 ≤ x ∧ x < 256) (hn : n ≤ 1000000) : Calls Try.prog 11 #[.slice a n c] w (DecEnd xs w) := by
  by_cases h1 : kindOf xs = 1
  · exact msDecode_open a n c xs w hI hr hn h1
  by_cases h2 : kindOf xs = 2
  · exact msDecode_upload a n c xs w hI hr hn h2
  by_cases h3 : kindOf xs = 3
  · exact msDecode_ask a n c xs w hI hr hn h3
  by_cases h4 : kindOf xs = 4
  · exact msDecode_close a n c xs w hI hr hn h4
  · exact msDecode_other a n c xs w hI hr hn (by omega)
end Go.Proofs.Ytgaelgpmmgjldaa

/-
  The example of layer 14's laws ('alive'). New memory alone is written. No conditions.
-/
namespace Go.Proofs.Ytgaelgpmmgjldaa
open Go.RowKit

theorem okMsg_ex : MsgOk ⟨1, 0, 0, 258, z16, []⟩ := ⟨by decide, by decide, by decide, rfl, z16_range, fun x hx => by cases hx⟩
theorem exEnc14 : encM ⟨1, 0, 0, 258, z16, []⟩ = ([1, 1, 2], 0) := by
  have h : rightM ⟨1, 0, 0, 258, z16, []⟩ = true := (rightM_iff _).2 (.inl ⟨rfl, rfl, rfl, by decide, rfl, rfl⟩)
  unfold encM
  rw [h]
  rfl
theorem exDec14 : decM [3, 0, 0, 0, 3] = (⟨3, 3, 0, 0, z16, []⟩, 0) := rfl
theorem exStr14 : strOfNums [1, 1, 2] = { data := #[1, 1, 2] } := by decide +kernel
theorem built_ex14 : Try.prog.built 28 [(0, .int .i64 1), (3, .int .u32 258)] = some (msC 1 0 0 258 z16 none 0 0).toArray := by kernel_rfl

set_option maxRecDepth 100000 in
set_option maxHeartbeats 1600000 in
theorem alive14_any (w : World) : Calls Try.prog 6 #[] w fun e w' => e = .returned (.bool true) ∧ Below w.heap.size w w' := by
  have hE := msEncode_any 1 0 0 258 z16 none 0 0 [] w okMsg_ex ⟨rfl, Nat.le_refl _, .inl rfl⟩
  rw [exEnc14] at hE
  dsimp only [List.length_cons, List.length_nil] at hE
  have hbt := built_ex14
  obtain ⟨B, hB⟩ : ∃ B, msC 1 0 0 258 z16 none 0 0 = B := ⟨_, rfl⟩
  rw [hB] at hE hbt
  have hEH := Lib.hid hE
  clear hE hB
  go_enter Try.func6, Try.ntmps6
  go_wp2_with ((with_reducible refine build_row rfl 28 #[(0, .const (.int .i64 1)), (3, .const (.int .u32 258))] rfl (cells := B.toArray) ?_ ?_); (refine Eq.trans (congrArg _ ?_) hbt; kernel_rfl); refine RowKit.Hid.out ?_)
  refine Lib.hid ?_
  go_wp2_with fail
  refine hEH.out.mono ?_
  rintro q w1 ⟨b, d, rfl, hI, b1⟩
  clear hEH
  have b2 := below1 w1 (.cells #[.int .u8 3, .int .u8 0, .int .u8 0, .int .u8 0, .int .u8 3] 5)
  have hI5 : Ints .u8 (w1.alloc (.cells #[.int .u8 3, .int .u8 0, .int .u8 0, .int .u8 0, .int .u8 3] 5)) (some ⟨w1.heap.size, 0, none⟩) 5 5 [3, 0, 0, 0, 3] :=
    Ints.of_blk (Blk.new w1 5 [.int .u8 3, .int .u8 0, .int .u8 0, .int .u8 0, .int .u8 3]) rfl (Nat.le_refl _) (fun i hi => by
      match i, hi with
      | 0, _ => rfl
      | 1, _ => rfl
      | 2, _ => rfl
      | 3, _ => rfl
      | 4, _ => rfl)
  have hD := msDecode_any _ 5 5 _ _ hI5 (by decide) (by decide)
  unfold DecEnd at hD
  rw [exDec14] at hD
  dsimp only at hD
  have hI2 := hI.keep b2
  have B2 := b1.trans (b2.mono b1.size)
  obtain ⟨W2, hW2⟩ : ∃ W, w1.alloc (.cells #[.int .u8 3, .int .u8 0, .int .u8 0, .int .u8 0, .int .u8 3] 5) = W := ⟨_, rfl⟩
  rw [hW2] at hD hI2 B2
  have hDH := Lib.hid hD
  clear hD hI5 hI b1 b2
  go_wp2_with fail
  refine hDH.out.mono ?_
  rintro q w3 ⟨b', d', rfl, -, -, b3⟩
  unfold mC
  dsimp only
  have hI3 := hI2.keep b3
  have B3 := B2.trans (b3.mono B2.size)
  have hl21 : (msC 3 3 0 0 z16 b' 0 d').length = 21 := msC_len z16_len
  have hone := msC_one 3 3 0 0 z16 b' 0 d'
  clear hDH hI2 B2 b3 hW2
  rw [show ([] : List Int).length = 0 from rfl]
  go_wp2_with ((with_reducible refine wpList_alloc_blk rfl 28 rfl zeroMs ?_); refine RowKit.Hid.out ?_)
  refine Lib.hid ?_
  try simp only [Act.put, List.setIfInBounds_toArray, List.set_cons_zero, List.set_cons_succ]
  have hnA := Blk.new w3 28 (msC 0 0 0 0 z16 none 0 0)
  have bA := below1 w3 (.cells (msC 0 0 0 0 z16 none 0 0).toArray 28)
  have hIA := hI3.keep bA
  have BA := B3.trans (bA.mono B3.size)
  have hBl := B3.size
  have hIn := hI3.isIn.2
  obtain ⟨N, hN⟩ : ∃ N, w3.heap.size = N := ⟨_, rfl⟩
  rw [hN] at hnA hBl hIn ⊢
  obtain ⟨U, hU⟩ : ∃ W, w3.alloc (.cells (msC 0 0 0 0 z16 none 0 0).toArray 28) = W := ⟨_, rfl⟩
  rw [hU] at hnA hIA BA ⊢
  clear hI3 B3 bA hN hU
  refine store_row rfl 28 (.tmp 3) (.tmp 13) rfl rfl rfl hnA rowMs hl21 (msC_len z16_len) hone ?_
  intro w4 hn4 hg4
  have hI4 := hIA.grown hg4 (fun x hx h0 => by have := hIn x hx h0; omega)
  have B4 := BA.grown hg4 BA.size (fun q hq => by injection hq with hq; omega)
  have v1 := hI4.string (P := Try.prog) 26 9 5 Try.underlying26 Try.underlying5 Try.underlying9
  rw [exStr14] at v1
  have c0 := ms0 hn4
  have c1 := ms1 hn4
  clear hnA hIA BA hg4 hn4 hI4 hIn hl21 hone
  go_wp2
  go_ret
  exact ⟨rfl, B4⟩
end Go.Proofs.Ytgaelgpmmgjldaa

/-
  The law MessageReads, by what the program's messages and the document's own come to. New memory alone is written. Conditions: bytes below 256.
-/
namespace Go.Proofs.Ytgaelgpmmgjldaa
open Go.RowKit

theorem hs_self (K S Q O : Int) (H : List Int) : hsB K S Q O H K S Q O H = true := by unfold hsB; simp
theorem noMsg_ok : MsgOk noMsg := ⟨by decide, by decide, by decide, rfl, z16_range, fun x hx => by cases hx⟩

set_option maxRecDepth 100000 in
set_option maxHeartbeats 4000000 in
theorem msReads_any (a : Option Addr) (n c : Nat) (xs : List Int) (w : World) (hI : Ints .u8 w a n c xs) (hr : ∀ x ∈ xs, 0 ≤ x ∧ x < 256) :
    Calls Try.prog 4 #[.slice a n c] w fun q w' => q = .returned (.bool true) ∧ Below w.heap.size w w' := by
  by_cases hn : 3000 < n
  · have hni : (3000 : Int) < (n : Int) := by omega
    clear hI hr hn
    go_enter Try.func4, Try.ntmps4
    go_wp2_with fail
    refine (alive14_any w).mono ?_
    rintro q w1 ⟨rfl, b1⟩
    go_wp2
    go_ret
    exact ⟨rfl, b1⟩
  have hni : ¬ (3000 : Int) < (n : Int) := by omega
  have hpd := fun w' (h : Below w.heap.size w w') => msDecode_any a n c xs w' (hI.keep h) hr (by omega)
  have hrd := fun w' (h : Below w.heap.size w w') => r14Decode_any a n c xs w' (hI.keep h) hr (by omega)
  unfold DecEnd mC at hpd hrd
  have hno := decM_none xs
  have hok : ∀ m, decM xs = (m, 0) → msgB m = xs ∧ MsgRight m ∧ MsgOk m := fun m h => decM_ok hr h
  obtain ⟨⟨m, E⟩, hd⟩ : ∃ q, decM xs = q := ⟨_, rfl⟩
  rw [hd] at hpd hrd hno hok
  dsimp only at hpd hrd hno
  by_cases hE : E = 0
  · subst hE
    obtain ⟨hmb, hmr, hmo⟩ := hok m rfl
    obtain ⟨K, S, Q, O, H, B⟩ := m
    dsimp only at hpd hrd
    have hl : H.length = 16 := hmo.hl
    have hbo : okB B := hmo.br
    have he : encM ⟨K, S, Q, O, H, B⟩ = (xs, 0) := by unfold encM; rw [(rightM_iff _).2 hmr, if_pos rfl, hmb]
    have hrt := (rightM_iff _).2 hmr
    have hst := str_eq (xs := xs) (ys := xs) hr hr
    rw [decide_eq_true rfl] at hst
    obtain ⟨L, hL⟩ : ∃ L, B.length = L := ⟨_, rfl⟩
    rw [hL] at hpd hrd
    have hLn := hI.len
    have hen := Lib.hid (fun w' b1 d1 (h : Ints .u8 w' b1 L d1 B) => msEncode_any K S Q O H b1 L d1 B w' hmo h)
    have hri := Lib.hid (fun w' b1 d1 (h : Ints .u8 w' b1 L d1 B) => msRight_any K S Q O H b1 L d1 B w' hl h hbo)
    rw [he] at hen
    rw [hrt] at hri
    dsimp only at hen
    rw [hLn] at hen
    have hIH := Lib.hid (fun w' (h : Below w.heap.size w w') => hI.keep h)
    have cv := Lib.hid (fun (w' : World) (b : Option Addr) (k d : Nat) (zs : List Int) (h : Ints .u8 w' b k d zs) => h.string (P := Try.prog) 26 9 5 Try.underlying26 Try.underlying5 Try.underlying9)
    obtain ⟨SA, hSA⟩ : ∃ S, strOfNums xs = S := ⟨_, rfl⟩
    rw [hSA] at hst
    have hSAH := Lib.hid hSA
    have hpd := Lib.hid hpd
    have hrd := Lib.hid hrd
    clear hno hok hmb hmr hmo he hrt hd hI hr hn hL hLn hSA
    go_enter Try.func4, Try.ntmps4
    go_wp2_with fail
    refine (hpd.out w (Below.refl _ _)).mono ?_
    rintro q w1 ⟨b1, d1, rfl, hI1, -, B1⟩
    have hl1 : (msC K S Q O H b1 L d1).length = 21 := msC_len hl
    have ho1 := msC_one K S Q O H b1 L d1
    go_wp2_with ((with_reducible refine wpList_alloc_blk rfl 28 rfl zeroMs ?_); refine RowKit.Hid.out ?_)
    refine Lib.hid ?_
    try simp only [Act.put, List.setIfInBounds_toArray, List.set_cons_zero, List.set_cons_succ]
    have hnA := Blk.new w1 28 (msC 0 0 0 0 z16 none 0 0)
    have bA := below1 w1 (.cells (msC 0 0 0 0 z16 none 0 0).toArray 28)
    have hIA := hI1.keep bA
    have BA := B1.trans (bA.mono B1.size)
    have hwN := B1.size
    have hIn := hI1.isIn.2
    obtain ⟨N, hN⟩ : ∃ N, w1.heap.size = N := ⟨_, rfl⟩
    rw [hN] at hnA hwN hIn ⊢
    obtain ⟨U, hU⟩ : ∃ W, w1.alloc (.cells (msC 0 0 0 0 z16 none 0 0).toArray 28) = W := ⟨_, rfl⟩
    rw [hU] at hnA hIA BA ⊢
    clear hI1 B1 bA hN hU
    refine store_row rfl 28 (.tmp 3) (.tmp 16) rfl rfl rfl hnA rowMs hl1 (msC_len z16_len) ho1 ?_
    intro w2 hn2 hg2
    have hI2 := hIA.grown hg2 (fun x hx h0 => by have := hIn x hx h0; omega)
    have B2 := BA.grown hg2 BA.size (fun q hq => by injection hq with hq; omega)
    have hrdH := Lib.hid (hrd.out w2 B2)
    clear hnA hIA BA hg2 hIn
    go_wp2_with fail
    refine hrdH.out.mono ?_
    rintro q w3 ⟨b2, d2, rfl, hJ3, -, b3⟩
    have hI3 := hI2.keep b3
    have hn3 := hn2.keep b3 hn2.lt
    have B3 := B2.trans (b3.mono B2.size)
    have hl2 : (msC K S Q O H b2 L d2).length = 21 := msC_len hl
    have ho2 := msC_one K S Q O H b2 L d2
    clear hrdH hI2 hn2 B2 b3
    go_wp2_with ((with_reducible refine wpList_alloc_blk rfl 28 rfl zeroMs ?_); refine RowKit.Hid.out ?_)
    refine Lib.hid ?_
    try simp only [Act.put, List.setIfInBounds_toArray, List.set_cons_zero, List.set_cons_succ]
    have hmA := Blk.new w3 28 (msC 0 0 0 0 z16 none 0 0)
    have bA := below1 w3 (.cells (msC 0 0 0 0 z16 none 0 0).toArray 28)
    have hIA := hI3.keep bA
    have hJA := hJ3.keep bA
    have hnA := hn3.keep bA hn3.lt
    have BA := B3.trans (bA.mono B3.size)
    have hNM := hn3.lt
    have hIn := hI3.isIn.2
    have hJn := hJ3.isIn.2
    obtain ⟨M, hM⟩ : ∃ N, w3.heap.size = N := ⟨_, rfl⟩
    rw [hM] at hmA hNM hIn hJn ⊢
    obtain ⟨U, hU⟩ : ∃ W, w3.alloc (.cells (msC 0 0 0 0 z16 none 0 0).toArray 28) = W := ⟨_, rfl⟩
    rw [hU] at hmA hIA hJA hnA BA ⊢
    clear hI3 hJ3 hn3 B3 bA hM hU
    refine store_row rfl 28 (.tmp 5) (.tmp 21) rfl rfl rfl hmA rowMs hl2 (msC_len z16_len) ho2 ?_
    intro w4 hm4 hg4
    have hn4 := hnA.grown hg4 (fun e => by injection e with e; omega)
    have hI4 := hIA.grown hg4 (fun x hx h0 => by have := hIn x hx h0; omega)
    have hJ4 := hJA.grown hg4 (fun x hx h0 => by have := hJn x hx h0; omega)
    have B4 := BA.grown hg4 BA.size (fun q hq => by injection hq with hq; omega)
    have hsm := Lib.hid (r14Same_any K S Q O H b1 L d1 _ K S Q O H b2 L d2 _ w4 hl hl hI4 hJ4 hbo hbo)
    rw [hs_self K S Q O H, Bool.true_and, beq_self_eq_true] at hsm
    clear hmA hnA hIA hJA BA hg4 hIn hJn hJ4
    go_wp2_with (first
      | ((with_reducible refine wpList_load_blk rfl 28 (.tmp 3) rfl ?_ hn4 rowMs hl1 ?_); rfl)
      | ((with_reducible refine wpList_load_blk rfl 28 (.tmp 5) rfl ?_ hm4 rowMs hl2 ?_); rfl))
    refine hsm.out.mono ?_
    rintro q w5 ⟨rfl, b5⟩
    have hn5 := hn4.keep b5 hn4.lt
    have hI5 := hI4.keep b5
    have B5 := B4.trans (b5.mono B4.size)
    clear hsm hn4 hm4 hI4 B4 b5 hl2 ho2
    have hen5 := Lib.hid (hen.out w5 b1 d1 hI5)
    go_wp2_with ((with_reducible refine wpList_load_blk rfl 28 (.tmp 3) rfl ?_ hn5 rowMs hl1 ?_); rfl)
    refine hen5.out.mono ?_
    rintro q w6 ⟨b6, d6, rfl, hJ6, bb6⟩
    have hn6 := hn5.keep bb6 hn5.lt
    have hI6 := hI5.keep bb6
    have B6 := B5.trans (bb6.mono B5.size)
    have v1 := cv.out w6 b6 n d6 xs hJ6
    have v2 := cv.out w6 a n c xs (hIH.out w6 B6)
    rw [hSAH.out] at v1 v2
    have hri6 := Lib.hid (hri.out w6 b1 d1 hI6)
    clear hen5 hn5 hI5 bb6 hJ6 B5
    go_wp2_with ((with_reducible refine load_if rfl 28 (.tmp 3) rfl ?_ hn6 rowMs hl1 ?_); rfl)
    refine hri6.out.mono ?_
    rintro q w7 ⟨rfl, b7⟩
    have B7 := B6.trans (b7.mono B6.size)
    clear hri6 hn6 hI6 B6 b7 v1 v2
    go_wp2_with fail
    refine (alive14_any w7).mono ?_
    rintro q w8 ⟨rfl, b8⟩
    go_wp2
    go_ret
    exact ⟨by first | rfl | simp, B7.trans (b8.mono B7.size)⟩
  · obtain rfl := hno hE
    have hEb : (E != 0) = true := bne_iff_ne.2 hE
    obtain ⟨K, S, Q, O, H, B, hm⟩ : ∃ K S Q O H B, noMsg = ⟨K, S, Q, O, H, B⟩ := ⟨_, _, _, _, _, _, rfl⟩
    have hmo := noMsg_ok
    have hz : msC 0 0 0 0 z16 none 0 0 = msC K S Q O H none 0 0 := by injection hm with e1 e2 e3 e4 e5 e6; rw [← e1, ← e2, ← e3, ← e4, ← e5]
    have hB0 : B = [] := by injection hm with e1 e2 e3 e4 e5 e6; exact e6.symm
    rw [hm] at hpd hrd hmo
    dsimp only at hpd hrd
    subst hB0
    have hl : H.length = 16 := hmo.hl
    have hbo : okB [] := fun _ h => by cases h
    obtain ⟨L, hL⟩ : ∃ L, ([] : List Int).length = L := ⟨_, rfl⟩
    rw [hL] at hpd hrd
    have hbt0 := built_ms0
    have hz0 := hz
    obtain ⟨Z, hZ⟩ : ∃ B, msC 0 0 0 0 z16 none 0 0 = B := ⟨_, rfl⟩
    rw [hZ] at hbt0 hz0
    have hsz := Lib.hid (fun w' b1 d1 (h : Ints .u8 w' b1 L d1 []) => r14Same_any K S Q O H b1 L d1 [] K S Q O H none 0 0 [] w' hl hl h ⟨rfl, Nat.le_refl _, .inl rfl⟩ hbo hbo)
    rw [hs_self K S Q O H, Bool.true_and, beq_self_eq_true, ← hz0] at hsz
    have hpd := Lib.hid hpd
    have hrd := Lib.hid hrd
    clear hno hok hm hmo hz hd hI hr hn hL hZ hz0
    go_enter Try.func4, Try.ntmps4
    go_wp2_with fail
    refine (hpd.out w (Below.refl _ _)).mono ?_
    rintro q w1 ⟨b1, d1, rfl, hI1, -, B1⟩
    have hl1 : (msC K S Q O H b1 L d1).length = 21 := msC_len hl
    have ho1 := msC_one K S Q O H b1 L d1
    go_wp2_with ((with_reducible refine wpList_alloc_blk rfl 28 rfl zeroMs ?_); refine RowKit.Hid.out ?_)
    refine Lib.hid ?_
    try simp only [Act.put, List.setIfInBounds_toArray, List.set_cons_zero, List.set_cons_succ]
    have hnA := Blk.new w1 28 (msC 0 0 0 0 z16 none 0 0)
    have bA := below1 w1 (.cells (msC 0 0 0 0 z16 none 0 0).toArray 28)
    have hIA := hI1.keep bA
    have BA := B1.trans (bA.mono B1.size)
    have hwN := B1.size
    have hIn := hI1.isIn.2
    obtain ⟨N, hN⟩ : ∃ N, w1.heap.size = N := ⟨_, rfl⟩
    rw [hN] at hnA hwN hIn ⊢
    obtain ⟨U, hU⟩ : ∃ W, w1.alloc (.cells (msC 0 0 0 0 z16 none 0 0).toArray 28) = W := ⟨_, rfl⟩
    rw [hU] at hnA hIA BA ⊢
    clear hI1 B1 bA hN hU
    refine store_row rfl 28 (.tmp 3) (.tmp 16) rfl rfl rfl hnA rowMs hl1 (msC_len z16_len) ho1 ?_
    intro w2 hn2 hg2
    have hI2 := hIA.grown hg2 (fun x hx h0 => by have := hIn x hx h0; omega)
    have B2 := BA.grown hg2 BA.size (fun q hq => by injection hq with hq; omega)
    have hrdH := Lib.hid (hrd.out w2 B2)
    clear hnA hIA BA hg2 hIn
    go_wp2_with fail
    refine hrdH.out.mono ?_
    rintro q w3 ⟨b2, d2, rfl, hJ3, -, b3⟩
    have hI3 := hI2.keep b3
    have hn3 := hn2.keep b3 hn2.lt
    have B3 := B2.trans (b3.mono B2.size)
    have hl2 : (msC K S Q O H b2 L d2).length = 21 := msC_len hl
    have ho2 := msC_one K S Q O H b2 L d2
    clear hrdH hI2 hn2 B2 b3
    go_wp2_with ((with_reducible refine wpList_alloc_blk rfl 28 rfl zeroMs ?_); refine RowKit.Hid.out ?_)
    refine Lib.hid ?_
    try simp only [Act.put, List.setIfInBounds_toArray, List.set_cons_zero, List.set_cons_succ]
    have hmA := Blk.new w3 28 (msC 0 0 0 0 z16 none 0 0)
    have bA := below1 w3 (.cells (msC 0 0 0 0 z16 none 0 0).toArray 28)
    have hIA := hI3.keep bA
    have hJA := hJ3.keep bA
    have hnA := hn3.keep bA hn3.lt
    have BA := B3.trans (bA.mono B3.size)
    have hNM := hn3.lt
    have hIn := hI3.isIn.2
    have hJn := hJ3.isIn.2
    obtain ⟨M, hM⟩ : ∃ N, w3.heap.size = N := ⟨_, rfl⟩
    rw [hM] at hmA hNM hIn hJn ⊢
    obtain ⟨U, hU⟩ : ∃ W, w3.alloc (.cells (msC 0 0 0 0 z16 none 0 0).toArray 28) = W := ⟨_, rfl⟩
    rw [hU] at hmA hIA hJA hnA BA ⊢
    clear hI3 hJ3 hn3 B3 bA hM hU
    refine store_row rfl 28 (.tmp 5) (.tmp 21) rfl rfl rfl hmA rowMs hl2 (msC_len z16_len) ho2 ?_
    intro w4 hm4 hg4
    have hn4 := hnA.grown hg4 (fun e => by injection e with e; omega)
    have hI4 := hIA.grown hg4 (fun x hx h0 => by have := hIn x hx h0; omega)
    have hJ4 := hJA.grown hg4 (fun x hx h0 => by have := hJn x hx h0; omega)
    have B4 := BA.grown hg4 BA.size (fun q hq => by injection hq with hq; omega)
    have hsm := Lib.hid (r14Same_any K S Q O H b1 L d1 _ K S Q O H b2 L d2 _ w4 hl hl hI4 hJ4 hbo hbo)
    rw [hs_self K S Q O H, Bool.true_and, beq_self_eq_true] at hsm
    clear hmA hnA hIA hJA BA hg4 hIn hJn hJ4
    go_wp2_with (first
      | ((with_reducible refine wpList_load_blk rfl 28 (.tmp 3) rfl ?_ hn4 rowMs hl1 ?_); rfl)
      | ((with_reducible refine wpList_load_blk rfl 28 (.tmp 5) rfl ?_ hm4 rowMs hl2 ?_); rfl))
    refine hsm.out.mono ?_
    rintro q w5 ⟨rfl, b5⟩
    have hn5 := hn4.keep b5 hn4.lt
    have hI5 := hI4.keep b5
    have B5 := B4.trans (b5.mono B4.size)
    clear hsm hn4 hm4 hI4 B4 b5 hl2 ho2
    have hsz5 := Lib.hid (hsz.out w5 b1 d1 hI5)
    go_wp2_with ((with_reducible refine wpList_load_blk rfl 28 (.tmp 3) rfl ?_ hn5 rowMs hl1 ?_); rfl; refine RowKit.Hid.out ?_)
    refine Lib.hid ?_
    try simp only [Act.put, List.setIfInBounds_toArray, List.set_cons_zero, List.set_cons_succ]
    go_wp2_with ((with_reducible refine build_row rfl 28 #[] rfl (cells := Z.toArray) ?_ ?_); (refine Eq.trans (congrArg _ ?_) hbt0; kernel_rfl))
    refine hsz5.out.mono ?_
    rintro q w7 ⟨rfl, b7⟩
    have B7 := B5.trans (b7.mono B5.size)
    clear hsz5 hn5 hI5 B5 b7
    go_wp2_with fail
    refine (alive14_any w7).mono ?_
    rintro q w8 ⟨rfl, b8⟩
    go_wp2
    go_ret
    exact ⟨by first | rfl | simp, B7.trans (b8.mono B7.size)⟩
end Go.Proofs.Ytgaelgpmmgjldaa

/-
  The law MessageBytes, by what the program's messages and the document's own come to. New memory alone is written. Conditions: the fields' ranges.
-/
namespace Go.Proofs.Ytgaelgpmmgjldaa
open Go.RowKit

theorem run_cutTo14 {P : Program} (ty e : TypeId) (hu : P.underlying ty = some (.slice e)) (hs : (P.info? e).map (·.size) = some 1) (w : World) (g off m c : Nat) (k : IntKind) (h : Nat) (hc : h ≤ c) :
    (Instr.sliceAt ty (.slice (some ⟨g, off, none⟩) m c) none (some (.int k (h : Int))) none).run P w = .ok (.slice (some ⟨g, off, none⟩) h c) w := by
  have he : P.elem ty = e := by simp [Program.elem, hu]
  rw [run_sliceAt_slice w ty _ _ _ _ (by rw [he]; exact hu), run_slice_h w ty (some ⟨g, off, none⟩) m c (by rw [he]; exact hu) k h (by omega) (by omega)]
  cases hq : P.info? e with
  | none => simp [hq] at hs
  | some i =>
    have hi : i.size = 1 := by simpa [hq] using hs
    simp [he, sizeOf, typeInfo, hq, hi, sliced, Addr.add, Result.andThen]
theorem Ints.short14 {kd : IntKind} {w : World} {a : Option Addr} {n cap : Nat} {xs : List Int} (hi : Ints kd w a n cap xs) (h : Nat) (hn : h ≤ n) : Ints kd w a h cap (xs.take h) := by
  refine ⟨by rw [List.length_take, hi.1]; omega, Nat.le_trans hn hi.2.1, ?_⟩
  by_cases h0 : h = 0
  · exact .inl h0
  · obtain ⟨b, off, ha, hcell⟩ := hi.at (by omega)
    refine .inr ⟨b, off, ha, fun i hil => ?_⟩
    rw [hcell i (by omega), List.getD_eq_getElem?_getD, List.getD_eq_getElem?_getD, List.getElem?_take_of_lt hil]
theorem ints_made14 (w : World) (x : Int) : Ints .u8 (w.alloc (.cells #[.int .u8 x] 5)) (some ⟨w.heap.size, 0, none⟩) 1 1 [x] := by
  refine ⟨rfl, Nat.le_refl _, .inr ⟨_, _, rfl, fun i hi => ?_⟩⟩
  obtain rfl : i = 0 := by omega
  exact (Blk.new w 5 [.int .u8 x]).cell 0
theorem Ints.grownR {k : IntKind} {w w' : World} {a : Option Addr} {n cap : Nat} {xs : List Int} {row : Option Nat} (h : Ints k w a n cap xs) (hb : w.grownBy w' row) (hne : ∀ x, a = some x → 0 < n → some x.block ≠ row) : Ints k w' a n cap xs := by
  refine ⟨h.1, h.2.1, ?_⟩
  rcases h.2.2 with h0 | ⟨b, off, ha, hc⟩
  · exact .inl h0
  · by_cases h0 : n = 0
    · exact .inl h0
    refine .inr ⟨b, off, ha, fun i hi => ?_⟩
    have h1 := hc i hi
    have he := hb.block b (World.block_lt_of_cell? w _ h1) (hne _ ha (by omega))
    unfold World.cell? at h1 ⊢
    rw [he]
    exact h1
theorem msgB_ne (m : MsgV) : 0 < (msgB m).length := by unfold msgB; exact Nat.succ_pos _
theorem msgB_ok {m : MsgV} (hm : MsgOk m) (h : MsgRight m) : (∀ x ∈ msgB m, 0 ≤ x ∧ x < 256) ∧ (msgB m).length ≤ 2000 := by
  have hk : 0 ≤ m.kind ∧ m.kind < 256 := by rcases h with ⟨h, _⟩ | ⟨h, _⟩ | ⟨h, _⟩ <;> omega
  have hbe : ∀ (k : Nat) (n : Int), ∀ x ∈ beL n k, 0 ≤ x ∧ x < 256 := by
    intro k
    induction k with
    | zero => intro n x hx; cases hx
    | succ k ih =>
      intro n x hx
      rcases List.mem_append.1 hx with hx | hx
      · exact ih _ x hx
      · obtain rfl := List.mem_singleton.1 hx
        omega
  have h1000 : m.blob.length ≤ 1000 := by
    rcases h with ⟨_, _, _, _, _, h⟩ | ⟨_, _, h⟩ | ⟨_, _, _, _, h⟩
    · rw [h]; decide
    · exact h
    · rw [h]; decide
  constructor
  · intro x hx
    unfold msgB at hx
    rcases List.mem_cons.1 hx with rfl | hx
    · exact hk
    · split at hx
      · exact hbe _ _ x hx
      · rcases List.mem_append.1 hx with hx | hx
        · exact hbe _ _ x hx
        · split at hx
          · rcases List.mem_append.1 hx with hx | hx
            · exact hbe _ _ x hx
            · rcases List.mem_append.1 hx with hx | hx
              · exact hm.hr x hx
              · rcases List.mem_append.1 hx with hx | hx
                · exact hbe _ _ x hx
                · exact hm.br x hx
          · cases hx
  · unfold msgB
    rw [List.length_cons]
    split
    · rw [beL_len]; omega
    · rw [List.length_append, beL_len]
      split
      · rw [List.length_append, List.length_append, List.length_append, beL_len, beL_len, hm.hl]; omega
      · rw [List.length_nil]; omega

set_option maxRecDepth 100000 in
set_option maxHeartbeats 4000000 in
theorem msBytes_no (K S Q O : Int) (H : List Int) (a : Option Addr) (n c : Nat) (xs : List Int) (w : World) (hM : MsgOk ⟨K, S, Q, O, H, xs⟩) (hI0 : Ints .u8 w a n c xs) (h0 : 3000 < n ∨ rightM ⟨K, S, Q, O, H, xs⟩ = false) :
    Calls Try.prog 3 #[.agg (msC K S Q O H a n c).toArray] w fun q w' => q = .returned (.bool true) ∧ Below w.heap.size w w' := by
  have hl : H.length = 16 := hM.hl
  have hbo : okB xs := hM.br
  have hCl := msC_len (K := K) (S := S) (Q := Q) (O := O) (a := a) (n := n) (c := c) hl
  have en := fun w' (h : Below w.heap.size w w') => msEncode_any K S Q O H a n c xs w' hM (hI0.keep h)
  have re := fun w' (h : Below w.heap.size w w') => r14Encode_any K S Q O H a n c xs w' hM (hI0.keep h)
  have rg := fun w' (h : Below w.heap.size w w') => msRight_any K S Q O H a n c xs w' hl (hI0.keep h) hbo
  have rr := fun w' (_ : Below w.heap.size w w') => r14Right_any K S Q O H a n c xs w' hl hI0.len
  have cv := Lib.hid (fun (w' : World) (b : Option Addr) (k d : Nat) (zs : List Int) (h : Ints .u8 w' b k d zs) => h.string (P := Try.prog) 26 9 5 Try.underlying26 Try.underlying5 Try.underlying9)
  obtain ⟨C, hC⟩ : ∃ C, msC K S Q O H a n c = C := ⟨_, rfl⟩
  rw [hC] at hCl en re rg rr ⊢
  have hrC : IsRow Try.prog 28 C.length := by rw [hCl]; exact rowMs
  have hb := below1 w (.cells C.toArray 28)
  have hk : Blk (w.alloc (.cells C.toArray 28)) w.heap.size 28 C := Blk.new w _ C
  obtain ⟨W, hW⟩ : ∃ V, w.alloc (.cells C.toArray 28) = V := ⟨_, rfl⟩
  rw [hW] at hb hk
  obtain ⟨G, g9⟩ : ∃ G, w.heap.size = G := ⟨_, rfl⟩
  rw [g9] at hk
  have hk' := hk
  rw [← hC] at hk'
  have c5 := ms5 hk' hl
  clear hk' hC
  by_cases hn : 3000 < n
  · have hni : (3000 : Int) < (n : Int) := by omega
    clear en re rg rr cv hM hI0 h0 hn hbo
    go_enter Try.func3, Try.ntmps3
    go_wp2_with ((with_reducible refine box_row rfl 28 (.tmp 0) rfl C ?_ ?_); rfl; refine RowKit.Hid.out ?_)
    refine Lib.hid ?_
    clear hW
    go_wp2_with fail
    refine (alive14_any W).mono ?_
    rintro q w1 ⟨rfl, b1⟩
    go_wp2
    go_ret
    exact ⟨rfl, hb.trans (b1.mono hb.size)⟩
  have hni : ¬ (3000 : Int) < (n : Int) := by omega
  have hF : rightM ⟨K, S, Q, O, H, xs⟩ = false := by rcases h0 with h | h; exact absurd h hn; exact h
  have he : encM ⟨K, S, Q, O, H, xs⟩ = ([], 1) := by unfold encM; rw [hF]; rfl
  rw [he] at en re
  rw [hF] at rg rr
  dsimp only [List.length_nil] at en re
  obtain ⟨P, hP⟩ : ∃ P : List Int, [] = P := ⟨_, rfl⟩
  obtain ⟨M, hMM⟩ : ∃ K : Nat, 0 = K := ⟨_, rfl⟩
  rw [hP, hMM] at en re
  have enH := Lib.hid en
  have reH := Lib.hid re
  have rgH := Lib.hid rg
  have rrH := Lib.hid rr
  have hMH := Lib.hid hMM
  clear en re rg rr he hF h0 hn hM hI0 hP hMM hbo
  go_enter Try.func3, Try.ntmps3
  go_wp2_with ((with_reducible refine box_row rfl 28 (.tmp 0) rfl C ?_ ?_); rfl; refine RowKit.Hid.out ?_)
  refine Lib.hid ?_
  clear hW
  go_wp2_with ((with_reducible refine wpList_load_blk rfl 28 (.tmp 1) rfl ?_ hk rowMs hCl ?_); rfl)
  refine (enH.out W hb).mono ?_
  rintro q w1 ⟨b, d, rfl, hI, b1⟩
  have hk1 := hk.keep b1 hk.lt
  have B1 := hb.trans (b1.mono hb.size)
  clear hk hb enH c5 b1
  go_wp2_with ((with_reducible refine wpList_load_blk rfl 28 (.tmp 1) rfl ?_ hk1 rowMs hCl ?_); rfl)
  refine (reH.out w1 B1).mono ?_
  rintro q w2 ⟨b', d', rfl, hI', b2⟩
  have hk2 := hk1.keep b2 hk1.lt
  have hI2 := hI.keep b2
  have B2 := B1.trans (b2.mono B1.size)
  clear hk1 hI B1 b2 reH
  go_wp2_with fail
  have b3 : Below w2.heap.size w2 w2.drew := (Below.refl _ _).drew
  have KC := Lib.hid (fun w' (h : Below w2.heap.size w2 w') => hk2.keep h hk2.lt)
  have RG := Lib.hid (fun w' (h : Below w2.heap.size w2 w') => rgH.out w' (B2.trans (h.mono B2.size)))
  have RR := Lib.hid (fun w' (h : Below w2.heap.size w2 w') => rrH.out w' (B2.trans (h.mono B2.size)))
  have v1 := Lib.hid (fun w' (h : Below w2.heap.size w2 w') => cv.out w' b M d P (hI2.keep h))
  have v2 := Lib.hid (fun w' (h : Below w2.heap.size w2 w') => cv.out w' b' M d' P (hI'.keep h))
  have B2H := Lib.hid B2
  have I2H := Lib.hid hI2
  clear rgH rrH hI' B2 hk2 hI2
  refine region_seqS (fun w' => Below w2.heap.size w2 w') (by kernel_rfl) b3 ?_
  simp only [pairs, Nat.reduceAdd]
  repeat (first
    | (refine SeqS.take (v := .agg (C).toArray) (by first | assumption | trivial) (by kernel_rfl) (by decide +kernel) (by decide +kernel) (yields_blk (by rfl) 28 (.tmp 1) rfl rfl (fun w' h => KC.out w' h) (hrC)) ?_
       simp only [Act.put, List.setIfInBounds_toArray, List.set_cons_zero, List.set_cons_succ])
    | (refine SeqS.take (v := ?_) (by first | assumption | trivial) (by kernel_rfl) (by decide +kernel) (by decide +kernel) (Or.inl ⟨by rfl, ?_⟩) ?_
       rotate_left
       focus
         intro w' hb'
         go_simp
         with_reducible rfl
       simp only [Act.put, List.setIfInBounds_toArray, List.set_cons_zero, List.set_cons_succ])
    | (refine SeqS.take (v := undef) (by first | assumption | trivial) (by kernel_rfl) (by decide +kernel) (by decide +kernel) (Or.inr ⟨by rfl, rfl⟩) ?_
       simp only [Act.put, List.setIfInBounds_toArray, List.set_cons_zero, List.set_cons_succ])
    | (refine SeqS.take1 (v := .agg (C).toArray) (by first | assumption | trivial) (by kernel_rfl) (by decide +kernel) (by decide +kernel) (yields_blk (by rfl) 28 (.tmp 1) rfl rfl (fun w' h => KC.out w' h) (hrC)) ?_
       simp only [Act.put, List.setIfInBounds_toArray, List.set_cons_zero, List.set_cons_succ])
    | (refine SeqS.take1 (v := ?_) (by first | assumption | trivial) (by kernel_rfl) (by decide +kernel) (by decide +kernel) (Or.inl ⟨by rfl, ?_⟩) ?_
       rotate_left
       focus
         intro w' hb'
         go_simp
         with_reducible rfl
       simp only [Act.put, List.setIfInBounds_toArray, List.set_cons_zero, List.set_cons_succ])
    | (refine SeqS.take1 (v := undef) (by first | assumption | trivial) (by kernel_rfl) (by decide +kernel) (by decide +kernel) (Or.inr ⟨by rfl, rfl⟩) ?_
       simp only [Act.put, List.setIfInBounds_toArray, List.set_cons_zero, List.set_cons_succ])
    | (refine SeqS.take2 (v := .agg (C).toArray) (by first | assumption | trivial) (by kernel_rfl) (by decide +kernel) (by decide +kernel) (yields_blk (by rfl) 28 (.tmp 1) rfl rfl (fun w' h => KC.out w' h) (hrC)) ?_
       simp only [Act.put, List.setIfInBounds_toArray, List.set_cons_zero, List.set_cons_succ])
    | (refine SeqS.take2 (v := ?_) (by first | assumption | trivial) (by kernel_rfl) (by decide +kernel) (by decide +kernel) (Or.inl ⟨by rfl, ?_⟩) ?_
       rotate_left
       focus
         intro w' hb'
         go_simp
         with_reducible rfl
       simp only [Act.put, List.setIfInBounds_toArray, List.set_cons_zero, List.set_cons_succ])
    | (refine SeqS.take2 (v := undef) (by first | assumption | trivial) (by kernel_rfl) (by decide +kernel) (by decide +kernel) (Or.inr ⟨by rfl, rfl⟩) ?_
       simp only [Act.put, List.setIfInBounds_toArray, List.set_cons_zero, List.set_cons_succ]))
  refine SeqS.alone (by decide +kernel) (by rfl) (fun K hK => ?_)
  go_simp
  go_at_call 9
  refine (RG.out _ b3).mono ?_
  rintro e w5 ⟨rfl, b5⟩
  go_simp
  have S5 : Below w2.heap.size w2 w5 := b3.trans (b5.mono b3.size)
  refine hK _ _ S5 ?_
  clear hK K
  refine SeqS.alone (by decide +kernel) (by rfl) (fun K hK => ?_)
  go_simp
  go_at_call 10
  refine (RR.out _ S5).mono ?_
  rintro e w6 ⟨rfl, b6⟩
  go_simp
  have S6 : Below w2.heap.size w2 w6 := S5.trans (b6.mono S5.size)
  refine hK _ _ S6 ?_
  clear hK K
  repeat (first
    | (refine SeqS.take (v := ?_) (by first | assumption | trivial) (by kernel_rfl) (by decide +kernel) (by decide +kernel) (Or.inl ⟨by rfl, ?_⟩) ?_
       rotate_left
       focus
         intro w' hb'
         go_simp
         with_reducible rfl
       simp only [Act.put, List.setIfInBounds_toArray, List.set_cons_zero, List.set_cons_succ])
    | (refine SeqS.take (v := ?_) (by first | assumption | trivial) (by kernel_rfl) (by decide +kernel) (by decide +kernel) (Or.inl ⟨by rfl, ?_⟩) ?_
       rotate_left
       focus
         intro w' hb'
         have d0 := v1.out w' hb'
         go_simp
         with_reducible rfl
       simp only [Act.put, List.setIfInBounds_toArray, List.set_cons_zero, List.set_cons_succ])
    | (refine SeqS.take (v := ?_) (by first | assumption | trivial) (by kernel_rfl) (by decide +kernel) (by decide +kernel) (Or.inl ⟨by rfl, ?_⟩) ?_
       rotate_left
       focus
         intro w' hb'
         have d0 := v2.out w' hb'
         go_simp
         with_reducible rfl
       simp only [Act.put, List.setIfInBounds_toArray, List.set_cons_zero, List.set_cons_succ])
    | (refine SeqS.take (v := undef) (by first | assumption | trivial) (by kernel_rfl) (by decide +kernel) (by decide +kernel) (Or.inr ⟨by rfl, rfl⟩) ?_
       simp only [Act.put, List.setIfInBounds_toArray, List.set_cons_zero, List.set_cons_succ])
    | (refine SeqS.take1 (v := ?_) (by first | assumption | trivial) (by kernel_rfl) (by decide +kernel) (by decide +kernel) (Or.inl ⟨by rfl, ?_⟩) ?_
       rotate_left
       focus
         intro w' hb'
         go_simp
         with_reducible rfl
       simp only [Act.put, List.setIfInBounds_toArray, List.set_cons_zero, List.set_cons_succ])
    | (refine SeqS.take1 (v := ?_) (by first | assumption | trivial) (by kernel_rfl) (by decide +kernel) (by decide +kernel) (Or.inl ⟨by rfl, ?_⟩) ?_
       rotate_left
       focus
         intro w' hb'
         have d0 := v1.out w' hb'
         go_simp
         with_reducible rfl
       simp only [Act.put, List.setIfInBounds_toArray, List.set_cons_zero, List.set_cons_succ])
    | (refine SeqS.take1 (v := ?_) (by first | assumption | trivial) (by kernel_rfl) (by decide +kernel) (by decide +kernel) (Or.inl ⟨by rfl, ?_⟩) ?_
       rotate_left
       focus
         intro w' hb'
         have d0 := v2.out w' hb'
         go_simp
         with_reducible rfl
       simp only [Act.put, List.setIfInBounds_toArray, List.set_cons_zero, List.set_cons_succ])
    | (refine SeqS.take1 (v := undef) (by first | assumption | trivial) (by kernel_rfl) (by decide +kernel) (by decide +kernel) (Or.inr ⟨by rfl, rfl⟩) ?_
       simp only [Act.put, List.setIfInBounds_toArray, List.set_cons_zero, List.set_cons_succ])
    | (refine SeqS.take2 (v := ?_) (by first | assumption | trivial) (by kernel_rfl) (by decide +kernel) (by decide +kernel) (Or.inl ⟨by rfl, ?_⟩) ?_
       rotate_left
       focus
         intro w' hb'
         go_simp
         with_reducible rfl
       simp only [Act.put, List.setIfInBounds_toArray, List.set_cons_zero, List.set_cons_succ])
    | (refine SeqS.take2 (v := ?_) (by first | assumption | trivial) (by kernel_rfl) (by decide +kernel) (by decide +kernel) (Or.inl ⟨by rfl, ?_⟩) ?_
       rotate_left
       focus
         intro w' hb'
         have d0 := v1.out w' hb'
         go_simp
         with_reducible rfl
       simp only [Act.put, List.setIfInBounds_toArray, List.set_cons_zero, List.set_cons_succ])
    | (refine SeqS.take2 (v := ?_) (by first | assumption | trivial) (by kernel_rfl) (by decide +kernel) (by decide +kernel) (Or.inl ⟨by rfl, ?_⟩) ?_
       rotate_left
       focus
         intro w' hb'
         have d0 := v2.out w' hb'
         go_simp
         with_reducible rfl
       simp only [Act.put, List.setIfInBounds_toArray, List.set_cons_zero, List.set_cons_succ])
    | (refine SeqS.take2 (v := undef) (by first | assumption | trivial) (by kernel_rfl) (by decide +kernel) (by decide +kernel) (Or.inr ⟨by rfl, rfl⟩) ?_
       simp only [Act.put, List.setIfInBounds_toArray, List.set_cons_zero, List.set_cons_succ]))
  refine SeqS.done (by decide +kernel) ?_
  have B6 := B2H.out.trans (S6.mono B2H.out.size)
  have hP6 := I2H.out.keep S6
  have hG6 := KC.out w6 S6
  clear b3 b5 b6 S5 S6 RG RR v1 v2 KC B2H I2H
  obtain rfl := hMH.out
  go_wp2_with fail
  refine (alive14_any w6).mono ?_
  rintro q w7 ⟨rfl, b7⟩
  go_wp2
  go_ret
  exact ⟨rfl, B6.trans (b7.mono B6.size)⟩
end Go.Proofs.Ytgaelgpmmgjldaa

/-
  The law MessageBytes for a message that may be, by what the program's messages and the document's own come to. New memory alone is written. Conditions: the fields' ranges.
-/
namespace Go.Proofs.Ytgaelgpmmgjldaa
open Go.RowKit

set_option maxRecDepth 100000 in
set_option maxHeartbeats 4000000 in
theorem msBytes_ok (K S Q O : Int) (H : List Int) (a : Option Addr) (n c : Nat) (xs : List Int) (w : World) (hM : MsgOk ⟨K, S, Q, O, H, xs⟩) (hI0 : Ints .u8 w a n c xs) (hn : n ≤ 3000) (hF : rightM ⟨K, S, Q, O, H, xs⟩ = true) :
    Calls Try.prog 3 #[.agg (msC K S Q O H a n c).toArray] w fun q w' => q = .returned (.bool true) ∧ Below w.heap.size w w' := by
  have sm := fun w' b1 d1 (h : Below w.heap.size w w') (hJ : Ints .u8 w' b1 n d1 xs) => r14Same_any K S Q O H a n c xs K S Q O H b1 n d1 xs w' hM.hl hM.hl (hI0.keep h) hJ hM.br hM.br
  rw [hs_self K S Q O H, Bool.true_and, beq_self_eq_true] at sm
  have hl : H.length = 16 := hM.hl
  have hbo : okB xs := hM.br
  have hCl := msC_len (K := K) (S := S) (Q := Q) (O := O) (a := a) (n := n) (c := c) hl
  have en := fun w' (h : Below w.heap.size w w') => msEncode_any K S Q O H a n c xs w' hM (hI0.keep h)
  have re := fun w' (h : Below w.heap.size w w') => r14Encode_any K S Q O H a n c xs w' hM (hI0.keep h)
  have rg := fun w' (h : Below w.heap.size w w') => msRight_any K S Q O H a n c xs w' hl (hI0.keep h) hbo
  have rr := fun w' (_ : Below w.heap.size w w') => r14Right_any K S Q O H a n c xs w' hl hI0.len
  have cv := Lib.hid (fun (w' : World) (b : Option Addr) (k d : Nat) (zs : List Int) (h : Ints .u8 w' b k d zs) => h.string (P := Try.prog) 26 9 5 Try.underlying26 Try.underlying5 Try.underlying9)
  obtain ⟨C, hC⟩ : ∃ C, msC K S Q O H a n c = C := ⟨_, rfl⟩
  rw [hC] at hCl en re rg rr sm ⊢
  have hrC : IsRow Try.prog 28 C.length := by rw [hCl]; exact rowMs
  have hb := below1 w (.cells C.toArray 28)
  have hk : Blk (w.alloc (.cells C.toArray 28)) w.heap.size 28 C := Blk.new w _ C
  obtain ⟨W, hW⟩ : ∃ V, w.alloc (.cells C.toArray 28) = V := ⟨_, rfl⟩
  rw [hW] at hb hk
  obtain ⟨G, g9⟩ : ∃ G, w.heap.size = G := ⟨_, rfl⟩
  rw [g9] at hk
  have hk' := hk
  rw [← hC] at hk'
  have c5 := ms5 hk' hl
  clear hk' hC
  have hni : ¬ (3000 : Int) < (n : Int) := by omega
  have hRM := (rightM_iff _).1 hF
  have he : encM ⟨K, S, Q, O, H, xs⟩ = (msgB ⟨K, S, Q, O, H, xs⟩, 0) := by unfold encM; rw [hF]; rfl
  rw [he] at en re
  rw [hF] at rg rr
  dsimp only at en re
  have d1 := decM_msgB hM hRM
  have d2 := decM_less hM hRM
  have d3 := decM_more hM hRM 0
  obtain ⟨hpr, hpl⟩ := msgB_ok hM hRM
  have hp0 := msgB_ne ⟨K, S, Q, O, H, xs⟩
  have hln := hI0.len
  obtain ⟨P, hP⟩ : ∃ P : List Int, msgB ⟨K, S, Q, O, H, xs⟩ = P := ⟨_, rfl⟩
  obtain ⟨M, hMM⟩ : ∃ M : Nat, P.length = M := ⟨_, rfl⟩
  rw [hP] at en re hpr hpl d1 d2 d3 hp0
  rw [hMM] at en re hpl hp0
  have pd1 := fun w' b d (h : Ints .u8 w' b M d P) => msDecode_any b M d P w' h hpr (by omega)
  have pd2 := fun w' b d (h : Ints .u8 w' b (M - 1) d P.dropLast) => msDecode_any b (M - 1) d P.dropLast w' h (fun x hx => hpr x (by rw [List.dropLast_eq_take] at hx; exact List.mem_of_mem_take hx)) (by omega)
  have pd3 := fun w' b d (h : Ints .u8 w' b (M + 1) d (P ++ [0])) => msDecode_any b (M + 1) d (P ++ [0]) w' h (fun x hx => by
    rcases List.mem_append.1 hx with hx | hx
    · exact hpr x hx
    · obtain rfl := List.mem_singleton.1 hx
      exact ⟨by decide, by decide⟩) (by omega)
  unfold DecEnd mC at pd1 pd2 pd3
  rw [d1] at pd1
  rw [d2] at pd2
  rw [d3] at pd3
  dsimp only at pd1
  rw [hln] at pd1
  have hdl : P.take (M - 1) = P.dropLast := by rw [List.dropLast_eq_take, hMM]
  obtain ⟨Z, hZ⟩ : ∃ Z, (fun (b : Option Addr) (d : Nat) => msC noMsg.kind noMsg.ses noMsg.seq noMsg.quo noMsg.hint b noMsg.blob.length d) = Z := ⟨_, rfl⟩
  have hZl : ∀ b d, (Z b d).length = 21 := fun b d => by rw [← hZ]; exact msC_len z16_len
  have hZ1 : ∀ b d, ∀ v ∈ Z b d, v.oneCell' = true := fun b d => by rw [← hZ]; exact msC_one _ _ _ _ _ _ _ _
  have pd2' : ∀ w' b d, Ints .u8 w' b (M - 1) d P.dropLast → Calls Try.prog 11 #[.slice b (M - 1) d] w' fun q w2 => ∃ b2 d2, q = .returned (.tuple #[.agg (Z b2 d2).toArray, .int .i64 2]) ∧ Below w'.heap.size w' w2 := fun w' b d h => (pd2 w' b d h).mono fun q w2 ⟨b2, d2, h1, _, _, h4⟩ => ⟨b2, d2, by rw [h1, ← hZ], h4⟩
  have pd3' : ∀ w' b d, Ints .u8 w' b (M + 1) d (P ++ [0]) → Calls Try.prog 11 #[.slice b (M + 1) d] w' fun q w2 => ∃ b2 d2, q = .returned (.tuple #[.agg (Z b2 d2).toArray, .int .i64 3]) ∧ Below w'.heap.size w' w2 := fun w' b d h => (pd3 w' b d h).mono fun q w2 ⟨b2, d2, h1, _, _, h4⟩ => ⟨b2, d2, by rw [h1, ← hZ], h4⟩
  have pd1H := Lib.hid pd1
  have pd2H := Lib.hid pd2'
  have pd3H := Lib.hid pd3'
  have enH := Lib.hid en
  have reH := Lib.hid re
  have rgH := Lib.hid rg
  have rrH := Lib.hid rr
  have smH := Lib.hid sm
  have hpH := Lib.hid (And.intro hpl (And.intro hp0 hdl))
  obtain ⟨i0, hi, hz0, hz1, hz2⟩ := info_u8b
  clear en re rg rr he hF hRM hn hM hI0 hP hbo d1 d2 d3 hpr hpl hp0 hln pd1 pd2 pd3 pd2' pd3' hdl hZ sm hMM
  go_enter Try.func3, Try.ntmps3
  go_wp2_with ((with_reducible refine box_row rfl 28 (.tmp 0) rfl C ?_ ?_); rfl; refine RowKit.Hid.out ?_)
  refine Lib.hid ?_
  clear hW
  go_wp2_with ((with_reducible refine wpList_load_blk rfl 28 (.tmp 1) rfl ?_ hk rowMs hCl ?_); rfl)
  refine (enH.out W hb).mono ?_
  rintro q w1 ⟨b, d, rfl, hI, b1⟩
  have hk1 := hk.keep b1 hk.lt
  have B1 := hb.trans (b1.mono hb.size)
  clear hk hb enH c5 b1
  go_wp2_with ((with_reducible refine wpList_load_blk rfl 28 (.tmp 1) rfl ?_ hk1 rowMs hCl ?_); rfl)
  refine (reH.out w1 B1).mono ?_
  rintro q w2 ⟨b', d', rfl, hI', b2⟩
  have hk2 := hk1.keep b2 hk1.lt
  have hI2 := hI.keep b2
  have B2 := B1.trans (b2.mono B1.size)
  clear hk1 hI B1 b2 reH
  go_wp2_with fail
  have b3 : Below w2.heap.size w2 w2.drew := (Below.refl _ _).drew
  have KC := Lib.hid (fun w' (h : Below w2.heap.size w2 w') => hk2.keep h hk2.lt)
  have RG := Lib.hid (fun w' (h : Below w2.heap.size w2 w') => rgH.out w' (B2.trans (h.mono B2.size)))
  have RR := Lib.hid (fun w' (h : Below w2.heap.size w2 w') => rrH.out w' (B2.trans (h.mono B2.size)))
  have v1 := Lib.hid (fun w' (h : Below w2.heap.size w2 w') => cv.out w' b M d P (hI2.keep h))
  have v2 := Lib.hid (fun w' (h : Below w2.heap.size w2 w') => cv.out w' b' M d' P (hI'.keep h))
  have B2H := Lib.hid B2
  have I2H := Lib.hid hI2
  clear rgH rrH hI' B2 hk2 hI2
  refine region_seqS (fun w' => Below w2.heap.size w2 w') (by kernel_rfl) b3 ?_
  simp only [pairs, Nat.reduceAdd]
  repeat (first
    | (refine SeqS.take (v := .agg (C).toArray) (by first | assumption | trivial) (by kernel_rfl) (by decide +kernel) (by decide +kernel) (yields_blk (by rfl) 28 (.tmp 1) rfl rfl (fun w' h => KC.out w' h) (hrC)) ?_
       simp only [Act.put, List.setIfInBounds_toArray, List.set_cons_zero, List.set_cons_succ])
    | (refine SeqS.take (v := ?_) (by first | assumption | trivial) (by kernel_rfl) (by decide +kernel) (by decide +kernel) (Or.inl ⟨by rfl, ?_⟩) ?_
       rotate_left
       focus
         intro w' hb'
         go_simp
         with_reducible rfl
       simp only [Act.put, List.setIfInBounds_toArray, List.set_cons_zero, List.set_cons_succ])
    | (refine SeqS.take (v := undef) (by first | assumption | trivial) (by kernel_rfl) (by decide +kernel) (by decide +kernel) (Or.inr ⟨by rfl, rfl⟩) ?_
       simp only [Act.put, List.setIfInBounds_toArray, List.set_cons_zero, List.set_cons_succ])
    | (refine SeqS.take1 (v := .agg (C).toArray) (by first | assumption | trivial) (by kernel_rfl) (by decide +kernel) (by decide +kernel) (yields_blk (by rfl) 28 (.tmp 1) rfl rfl (fun w' h => KC.out w' h) (hrC)) ?_
       simp only [Act.put, List.setIfInBounds_toArray, List.set_cons_zero, List.set_cons_succ])
    | (refine SeqS.take1 (v := ?_) (by first | assumption | trivial) (by kernel_rfl) (by decide +kernel) (by decide +kernel) (Or.inl ⟨by rfl, ?_⟩) ?_
       rotate_left
       focus
         intro w' hb'
         go_simp
         with_reducible rfl
       simp only [Act.put, List.setIfInBounds_toArray, List.set_cons_zero, List.set_cons_succ])
    | (refine SeqS.take1 (v := undef) (by first | assumption | trivial) (by kernel_rfl) (by decide +kernel) (by decide +kernel) (Or.inr ⟨by rfl, rfl⟩) ?_
       simp only [Act.put, List.setIfInBounds_toArray, List.set_cons_zero, List.set_cons_succ])
    | (refine SeqS.take2 (v := .agg (C).toArray) (by first | assumption | trivial) (by kernel_rfl) (by decide +kernel) (by decide +kernel) (yields_blk (by rfl) 28 (.tmp 1) rfl rfl (fun w' h => KC.out w' h) (hrC)) ?_
       simp only [Act.put, List.setIfInBounds_toArray, List.set_cons_zero, List.set_cons_succ])
    | (refine SeqS.take2 (v := ?_) (by first | assumption | trivial) (by kernel_rfl) (by decide +kernel) (by decide +kernel) (Or.inl ⟨by rfl, ?_⟩) ?_
       rotate_left
       focus
         intro w' hb'
         go_simp
         with_reducible rfl
       simp only [Act.put, List.setIfInBounds_toArray, List.set_cons_zero, List.set_cons_succ])
    | (refine SeqS.take2 (v := undef) (by first | assumption | trivial) (by kernel_rfl) (by decide +kernel) (by decide +kernel) (Or.inr ⟨by rfl, rfl⟩) ?_
       simp only [Act.put, List.setIfInBounds_toArray, List.set_cons_zero, List.set_cons_succ]))
  refine SeqS.alone (by decide +kernel) (by rfl) (fun K hK => ?_)
  go_simp
  go_at_call 9
  refine (RG.out _ b3).mono ?_
  rintro e w5 ⟨rfl, b5⟩
  go_simp
  have S5 : Below w2.heap.size w2 w5 := b3.trans (b5.mono b3.size)
  refine hK _ _ S5 ?_
  clear hK K
  refine SeqS.alone (by decide +kernel) (by rfl) (fun K hK => ?_)
  go_simp
  go_at_call 10
  refine (RR.out _ S5).mono ?_
  rintro e w6 ⟨rfl, b6⟩
  go_simp
  have S6 : Below w2.heap.size w2 w6 := S5.trans (b6.mono S5.size)
  refine hK _ _ S6 ?_
  clear hK K
  repeat (first
    | (refine SeqS.take (v := ?_) (by first | assumption | trivial) (by kernel_rfl) (by decide +kernel) (by decide +kernel) (Or.inl ⟨by rfl, ?_⟩) ?_
       rotate_left
       focus
         intro w' hb'
         go_simp
         with_reducible rfl
       simp only [Act.put, List.setIfInBounds_toArray, List.set_cons_zero, List.set_cons_succ])
    | (refine SeqS.take (v := ?_) (by first | assumption | trivial) (by kernel_rfl) (by decide +kernel) (by decide +kernel) (Or.inl ⟨by rfl, ?_⟩) ?_
       rotate_left
       focus
         intro w' hb'
         have d0 := v1.out w' hb'
         go_simp
         with_reducible rfl
       simp only [Act.put, List.setIfInBounds_toArray, List.set_cons_zero, List.set_cons_succ])
    | (refine SeqS.take (v := ?_) (by first | assumption | trivial) (by kernel_rfl) (by decide +kernel) (by decide +kernel) (Or.inl ⟨by rfl, ?_⟩) ?_
       rotate_left
       focus
         intro w' hb'
         have d0 := v2.out w' hb'
         go_simp
         with_reducible rfl
       simp only [Act.put, List.setIfInBounds_toArray, List.set_cons_zero, List.set_cons_succ])
    | (refine SeqS.take (v := undef) (by first | assumption | trivial) (by kernel_rfl) (by decide +kernel) (by decide +kernel) (Or.inr ⟨by rfl, rfl⟩) ?_
       simp only [Act.put, List.setIfInBounds_toArray, List.set_cons_zero, List.set_cons_succ])
    | (refine SeqS.take1 (v := ?_) (by first | assumption | trivial) (by kernel_rfl) (by decide +kernel) (by decide +kernel) (Or.inl ⟨by rfl, ?_⟩) ?_
       rotate_left
       focus
         intro w' hb'
         go_simp
         with_reducible rfl
       simp only [Act.put, List.setIfInBounds_toArray, List.set_cons_zero, List.set_cons_succ])
    | (refine SeqS.take1 (v := ?_) (by first | assumption | trivial) (by kernel_rfl) (by decide +kernel) (by decide +kernel) (Or.inl ⟨by rfl, ?_⟩) ?_
       rotate_left
       focus
         intro w' hb'
         have d0 := v1.out w' hb'
         go_simp
         with_reducible rfl
       simp only [Act.put, List.setIfInBounds_toArray, List.set_cons_zero, List.set_cons_succ])
    | (refine SeqS.take1 (v := ?_) (by first | assumption | trivial) (by kernel_rfl) (by decide +kernel) (by decide +kernel) (Or.inl ⟨by rfl, ?_⟩) ?_
       rotate_left
       focus
         intro w' hb'
         have d0 := v2.out w' hb'
         go_simp
         with_reducible rfl
       simp only [Act.put, List.setIfInBounds_toArray, List.set_cons_zero, List.set_cons_succ])
    | (refine SeqS.take1 (v := undef) (by first | assumption | trivial) (by kernel_rfl) (by decide +kernel) (by decide +kernel) (Or.inr ⟨by rfl, rfl⟩) ?_
       simp only [Act.put, List.setIfInBounds_toArray, List.set_cons_zero, List.set_cons_succ])
    | (refine SeqS.take2 (v := ?_) (by first | assumption | trivial) (by kernel_rfl) (by decide +kernel) (by decide +kernel) (Or.inl ⟨by rfl, ?_⟩) ?_
       rotate_left
       focus
         intro w' hb'
         go_simp
         with_reducible rfl
       simp only [Act.put, List.setIfInBounds_toArray, List.set_cons_zero, List.set_cons_succ])
    | (refine SeqS.take2 (v := ?_) (by first | assumption | trivial) (by kernel_rfl) (by decide +kernel) (by decide +kernel) (Or.inl ⟨by rfl, ?_⟩) ?_
       rotate_left
       focus
         intro w' hb'
         have d0 := v1.out w' hb'
         go_simp
         with_reducible rfl
       simp only [Act.put, List.setIfInBounds_toArray, List.set_cons_zero, List.set_cons_succ])
    | (refine SeqS.take2 (v := ?_) (by first | assumption | trivial) (by kernel_rfl) (by decide +kernel) (by decide +kernel) (Or.inl ⟨by rfl, ?_⟩) ?_
       rotate_left
       focus
         intro w' hb'
         have d0 := v2.out w' hb'
         go_simp
         with_reducible rfl
       simp only [Act.put, List.setIfInBounds_toArray, List.set_cons_zero, List.set_cons_succ])
    | (refine SeqS.take2 (v := undef) (by first | assumption | trivial) (by kernel_rfl) (by decide +kernel) (by decide +kernel) (Or.inr ⟨by rfl, rfl⟩) ?_
       simp only [Act.put, List.setIfInBounds_toArray, List.set_cons_zero, List.set_cons_succ]))
  refine SeqS.done (by decide +kernel) ?_
  have B6 := B2H.out.trans (S6.mono B2H.out.size)
  have hP6 := I2H.out.keep S6
  have hG6 := KC.out w6 S6
  clear b3 b5 b6 S5 S6 RG RR v1 v2 KC B2H I2H
  obtain ⟨hpl, hp0, hdl⟩ := hpH.out
  obtain ⟨g, off, rfl, _⟩ := hP6.at hp0
  have hKd := hP6.2.1
  have hsl := fun wx => run_cutTo14 (P := Try.prog) 26 5 Try.underlying26 sizeU8s wx g off M d .i64 (M - 1) (by omega)
  rw [show ((M - 1 : Nat) : Int) = (M : Int) - 1 by omega] at hsl
  have hK1 : 1 ≤ (M : Int) := by omega
  have hK2 : (M : Int) ≤ 2000 := by omega
  have hnPH := Lib.hid hpl
  have hdlH := Lib.hid hdl
  clear hpH hpl hp0 hKd hdl
  have p1 := Lib.hid (pd1H.out w6 _ _ hP6)
  have hPin := hP6.isIn.2
  have hPg : g < w6.heap.size := hPin _ rfl (by have := hnPH.out; omega)
  clear hPin
  go_wp2_with fail
  refine p1.out.mono ?_
  rintro q w7 ⟨u, ud, rfl, hQ7, hQlow, b7⟩
  have hG7 := hG6.keep b7 hG6.lt
  have hP7 := hP6.keep b7
  have B7 := B6.trans (b7.mono B6.size)
  have hl1 : (msC K S Q O H u n ud).length = 21 := msC_len hl
  have ho1 := msC_one K S Q O H u n ud
  have hw67 := b7.size
  clear p1 hG6 hP6 B6 b7
  go_wp2_with ((with_reducible refine wpList_alloc_blk rfl 28 rfl zeroMs ?_); refine RowKit.Hid.out ?_)
  refine Lib.hid ?_
  try simp only [Act.put, List.setIfInBounds_toArray, List.set_cons_zero, List.set_cons_succ]
  have hNA := Blk.new w7 28 (msC 0 0 0 0 z16 none 0 0)
  have bA := below1 w7 (.cells (msC 0 0 0 0 z16 none 0 0).toArray 28)
  have hGA := hG7.keep bA hG7.lt
  have hPA := hP7.keep bA
  have hQA := hQ7.keep bA
  have BA := B7.trans (bA.mono B7.size)
  have hPn := hP7.isIn.2
  have hQn := hQ7.isIn.2
  have hGn := hG7.lt
  obtain ⟨N, hN⟩ : ∃ N, w7.heap.size = N := ⟨_, rfl⟩
  rw [hN] at hNA hPn hQn hGn ⊢
  obtain ⟨U, hU⟩ : ∃ W, w7.alloc (.cells (msC 0 0 0 0 z16 none 0 0).toArray 28) = W := ⟨_, rfl⟩
  rw [hU] at hNA hGA hPA hQA BA ⊢
  have hwN := B7.size
  rw [hN] at hwN
  clear hG7 hP7 hQ7 B7 bA hN hU
  refine store_row rfl 28 (.tmp 7) (.tmp 57) rfl rfl rfl hNA rowMs hl1 (msC_len z16_len) ho1 ?_
  intro w8 hN8 hg8
  have hG8 := hGA.grown hg8 (fun e => by injection e with e; omega)
  have hP8 := hPA.grown hg8 (fun x hx h0 => by have := hPn x hx h0; omega)
  have hQ8 := hQA.grown hg8 (fun x hx h0 => by have := hQn x hx h0; omega)
  have B8 := BA.grown hg8 BA.size (fun q hq => by injection hq with hq; omega)
  clear hNA hGA hPA hQA BA hg8 hPn hQn hwN hPg hQlow hw67
  have p2 := Lib.hid (pd2H.out w8 (some ⟨g, off, none⟩) d (by rw [← hdlH.out]; exact hP8.short14 (M - 1) (by omega)))
  clear pd2H
  go_wp2_with fail
  refine p2.out.mono ?_
  rintro q w9 ⟨u2, e2, rfl, b9⟩
  have hG9 := hG8.keep b9 hG8.lt
  have hP9 := hP8.keep b9
  have hQ9 := hQ8.keep b9
  have hN9 := hN8.keep b9 hN8.lt
  have B9 := B8.trans (b9.mono B8.size)
  have hZl2 := hZl u2 e2
  have hZ12 := hZ1 u2 e2
  clear p2 hG8 hP8 hQ8 hN8 B8 b9 hsl
  go_wp2_with ((with_reducible refine wpList_alloc_blk rfl 28 rfl zeroMs ?_); refine RowKit.Hid.out ?_)
  refine Lib.hid ?_
  try simp only [Act.put, List.setIfInBounds_toArray, List.set_cons_zero, List.set_cons_succ]
  have hmA := Blk.new w9 28 (msC 0 0 0 0 z16 none 0 0)
  have bA := below1 w9 (.cells (msC 0 0 0 0 z16 none 0 0).toArray 28)
  have hGA := hG9.keep bA hG9.lt
  have hPA := hP9.keep bA
  have hQA := hQ9.keep bA
  have hNA := hN9.keep bA hN9.lt
  have BA := B9.trans (bA.mono B9.size)
  have hPn := hP9.isIn.2
  have hQn := hQ9.isIn.2
  have hGn2 := hG9.lt
  have hNn := hN9.lt
  obtain ⟨N2, hN2⟩ : ∃ N, w9.heap.size = N := ⟨_, rfl⟩
  rw [hN2] at hmA hPn hQn hGn2 hNn ⊢
  obtain ⟨U, hU⟩ : ∃ W, w9.alloc (.cells (msC 0 0 0 0 z16 none 0 0).toArray 28) = W := ⟨_, rfl⟩
  rw [hU] at hmA hNA hGA hPA hQA BA ⊢
  have hwN := B9.size
  rw [hN2] at hwN
  clear hG9 hP9 hQ9 hN9 B9 bA hN2 hU
  refine store_row rfl 28 (.tmp 9) (.tmp 66) rfl rfl rfl hmA rowMs hZl2 (msC_len z16_len) hZ12 ?_
  intro w10 _ hg10
  have hG10 := hGA.grown hg10 (fun e => by injection e with e; omega)
  have hN10 := hNA.grown hg10 (fun e => by injection e with e; omega)
  have hP10 := hPA.grown hg10 (fun x hx h0 => by have := hPn x hx h0; omega)
  have hQ10 := hQA.grown hg10 (fun x hx h0 => by have := hQn x hx h0; omega)
  have B10 := BA.grown hg10 BA.size (fun q hq => by injection hq with hq; omega)
  clear hmA hNA hGA hPA hQA BA hg10 hPn hQn hwN hZl2 hZ12 hGn2 hNn
  have bE := below1 w10 (.cells #[] 5)
  have hPE := Lib.hid (hP10.keep bE)
  have hGE := hG10.keep bE hG10.lt
  have hNE := hN10.keep bE hN10.lt
  have hQE := hQ10.keep bE
  have BE := B10.trans (bE.mono B10.size)
  have ownE := World.ownsRow_made (e := 5) (size := 1) w10 #[] 0 (Nat.le_refl _) (Nat.zero_le _) rfl
  have hEs : w10.heap.size ≤ (w10.alloc (.cells #[] 5)).heap.size := by rw [size1]; omega
  have hGr := Lib.hid hG10.lt
  have hNr := Lib.hid hN10.lt
  have hQr := Lib.hid hQ10.isIn.2
  have hwr := Lib.hid B10.size
  obtain ⟨R0, hR0⟩ : ∃ N, w10.heap.size = N := ⟨_, rfl⟩
  obtain ⟨wE, hwE⟩ : ∃ W, w10.alloc (.cells #[] 5) = W := ⟨_, rfl⟩
  rw [hwE] at hPE hGE hNE hQE BE ownE hEs
  rw [hR0] at ownE hEs hGr hNr hQr hwr
  clear hP10 hG10 hN10 hQ10 B10 bE
  go_wp2_with (at_builtin; refine wpList_append_ints rfl (.tmp 68) (.tmp 69) 26 rfl R0 5 i0 (.int .u8 0) 1 Try.underlying26 hi hz0 hz1 hz2 rfl rfl ownE rfl hPE.out ?_ ?_ hEs ?_; (have := hnPH.out; unfold maxLen; omega); (have := hnPH.out; omega); intro v11 w11 o11 g11; refine RowKit.Hid.out ?_)
  refine Lib.hid ?_
  rw [List.nil_append, Nat.zero_add] at o11
  have nb : ∀ k, k < R0 → some k ≠ (Value.slice (some ⟨R0, 0, none⟩) 0 0).ownBlock := fun k hk e => by injection e with e; have e : k = R0 := e; omega
  have hG11 := hGE.grown g11 (nb G hGr.out)
  have hN11 := hNE.grown g11 (nb N hNr.out)
  have hQ11 : Ints .u8 w11 u n ud xs := hQE.grown (g := R0) g11 (fun x hx h0 => by have := hQr.out x hx h0; omega)
  have B11 := BE.grown g11 BE.size (fun q hq => by injection hq with hq; have hq : R0 = q := hq; have := hwr.out; omega)
  have hR11 : R0 ≤ w11.heap.size := Nat.le_trans hEs g11.size
  clear hPE hGE hNE hQE BE ownE hEs g11 nb hwE
  have b12 := below1 w11 (.cells #[.int .u8 0] 5)
  have hG12 := hG11.keep b12 hG11.lt
  have hN12 := hN11.keep b12 hN11.lt
  have hQ12 := hQ11.keep b12
  have B12 := B11.trans (b12.mono B11.size)
  have o12 := o11.alloc (.cells #[.int .u8 0] 5)
  have I12 := Lib.hid (ints_made14 w11 0)
  have hRs : R0 ≤ (w11.alloc (.cells #[.int .u8 0] 5)).heap.size := Nat.le_trans hR11 b12.size
  obtain ⟨wF, hwF⟩ : ∃ W, w11.alloc (.cells #[.int .u8 0] 5) = W := ⟨_, rfl⟩
  rw [hwF] at hG12 hN12 hQ12 B12 o12 I12 hRs
  clear o11 hG11 hN11 hQ11 B11 b12
  go_wp2_with (at_builtin; refine wpList_append_ints rfl (.tmp 71) (.tmp 72) 26 rfl R0 5 i0 (.int .u8 0) 1 Try.underlying26 hi hz0 hz1 hz2 rfl rfl o12 rfl I12.out ?_ ?_ hRs ?_; (have := hnPH.out; unfold maxLen; omega); (have := hnPH.out; omega); intro v13 w13 o13 g13; refine RowKit.Hid.out ?_)
  refine Lib.hid ?_
  have hG13 := hG12.grown g13 (fun e => by have := (o12.lt G e.symm).1; have := hGr.out; omega)
  have hN13 := hN12.grown g13 (fun e => by have := (o12.lt N e.symm).1; have := hNr.out; omega)
  have hQ13 := hQ12.grownR g13 (fun x hx h0 e => by have := (o12.lt _ e.symm).1; have := hQr.out x hx h0; omega)
  have B13 := B12.grown g13 B12.size (fun q hq => Nat.le_trans hwr.out (o12.lt q hq).1)
  have hI13 : ∃ oa oc, v13 = .slice oa (M + 1) oc ∧ Ints .u8 w13 oa (M + 1) oc (P ++ [0]) := by
    obtain ⟨a', c', hv, hi⟩ := Ints.of_owns (xs := P ++ [0]) (by rw [List.map_append]; exact o13)
    exact ⟨a', c', hv, hi⟩
  obtain ⟨ma, mc, hv13, hI13⟩ := hI13
  rw [hv13]
  have p3 := Lib.hid (pd3H.out w13 ma mc hI13)
  clear pd3H hG12 hN12 hQ12 B12 o12 I12 hRs o13 g13 hv13 hI13 hwF hR11
  go_wp2_with fail
  refine p3.out.mono ?_
  rintro q w14 ⟨u3, e3, rfl, b14⟩
  have hG14 := hG13.keep b14 hG13.lt
  have hN14 := hN13.keep b14 hN13.lt
  have hQ14 := hQ13.keep b14
  have B14 := B13.trans (b14.mono B13.size)
  have hZl3 := hZl u3 e3
  have hZ13 := hZ1 u3 e3
  clear p3 hG13 hN13 hQ13 B13 b14
  go_wp2_with ((with_reducible refine wpList_alloc_blk rfl 28 rfl zeroMs ?_); refine RowKit.Hid.out ?_)
  refine Lib.hid ?_
  try simp only [Act.put, List.setIfInBounds_toArray, List.set_cons_zero, List.set_cons_succ]
  have hmA := Blk.new w14 28 (msC 0 0 0 0 z16 none 0 0)
  have bA := below1 w14 (.cells (msC 0 0 0 0 z16 none 0 0).toArray 28)
  have hGA := hG14.keep bA hG14.lt
  have hNA := hN14.keep bA hN14.lt
  have hQA := hQ14.keep bA
  have BA := B14.trans (bA.mono B14.size)
  have hQn := hQ14.isIn.2
  have hGn3 := hG14.lt
  have hNn := hN14.lt
  obtain ⟨N3, hN3⟩ : ∃ N, w14.heap.size = N := ⟨_, rfl⟩
  rw [hN3] at hmA hQn hGn3 hNn ⊢
  obtain ⟨U3, hU⟩ : ∃ W, w14.alloc (.cells (msC 0 0 0 0 z16 none 0 0).toArray 28) = W := ⟨_, rfl⟩
  rw [hU] at hmA hNA hGA hQA BA ⊢
  have hwN := B14.size
  rw [hN3] at hwN
  clear hG14 hQ14 hN14 B14 bA hN3 hU
  refine store_row rfl 28 (.tmp 12) (.tmp 77) rfl rfl rfl hmA rowMs hZl3 (msC_len z16_len) hZ13 ?_
  intro w15 _ hg15
  have hG15 := hGA.grown hg15 (fun e => by injection e with e; omega)
  have hN15 := hNA.grown hg15 (fun e => by injection e with e; omega)
  have hQ15 := hQA.grown hg15 (fun x hx h0 => by have := hQn x hx h0; omega)
  have B15 := BA.grown hg15 BA.size (fun q hq => by injection hq with hq; omega)
  have sm := Lib.hid (smH.out w15 u ud B15 hQ15)
  clear hmA hNA hGA hQA BA hg15 hQn hwN hGn3 hNn smH hZl hZ1 hZl3 hZ13 hQ15
  go_wp2_with (first
    | ((with_reducible refine load_if rfl 28 (.tmp 1) rfl ?_ hG15 rowMs hCl ?_); rfl)
    | ((with_reducible refine load_if rfl 28 (.tmp 7) rfl ?_ hN15 rowMs hl1 ?_); rfl))
  refine sm.out.mono ?_
  rintro q w16 ⟨rfl, b16⟩
  have B16 := B15.trans (b16.mono B15.size)
  clear sm hG15 hN15 B15 b16
  go_wp2_with fail
  refine (alive14_any w16).mono ?_
  rintro q w17 ⟨rfl, b17⟩
  go_wp2
  go_ret
  exact ⟨by first | rfl | simp, B16.trans (b17.mono B16.size)⟩

theorem msBytes_any (K S Q O : Int) (H : List Int) (a : Option Addr) (n c : Nat) (xs : List Int) (w : World) (hM : MsgOk ⟨K, S, Q, O, H, xs⟩) (hI : Ints .u8 w a n c xs) :
    Calls Try.prog 3 #[.agg (msC K S Q O H a n c).toArray] w fun q w' => q = .returned (.bool true) ∧ Below w.heap.size w w' := by
  by_cases hn : 3000 < n
  · exact msBytes_no K S Q O H a n c xs w hM hI (.inl hn)
  · cases hF : rightM ⟨K, S, Q, O, H, xs⟩ with
    | false => exact msBytes_no K S Q O H a n c xs w hM hI (.inr hF)
    | true => exact msBytes_ok K S Q O H a n c xs w hM hI (by omega) hF
end Go.Proofs.Ytgaelgpmmgjldaa

/-
  The law MessageCopies, by what the program's messages and the document's own come to. New memory alone is written. Conditions: the fields' ranges.
-/
namespace Go.Proofs.Ytgaelgpmmgjldaa
open Go.RowKit

set_option maxRecDepth 100000 in
set_option maxHeartbeats 8000000 in
theorem msCopies_any (K S Q O : Int) (H : List Int) (a : Option Addr) (n c : Nat) (xs : List Int) (K' S' Q' O' : Int) (H' : List Int) (a' : Option Addr) (n' c' : Nat) (ys : List Int) (w : World) (hM : MsgOk ⟨K, S, Q, O, H, xs⟩) (hM' : MsgOk ⟨K', S', Q', O', H', ys⟩) (hI : Ints .u8 w a n c xs) (hJ : Ints .u8 w a' n' c' ys) :
    Calls Try.prog 5 #[.agg (msC K S Q O H a n c).toArray, .agg (msC K' S' Q' O' H' a' n' c').toArray] w fun q w' => q = .returned (.bool true) ∧ Below w.heap.size w w' := by
  have hl : H.length = 16 := hM.hl
  have hl' : H'.length = 16 := hM'.hl
  have hx : okB xs := hM.br
  have hy : okB ys := hM'.br
  have hCl := msC_len (K := K) (S := S) (Q := Q) (O := O) (a := a) (n := n) (c := c) hl
  have hDl := msC_len (K := K') (S := S') (Q := Q') (O := O') (a := a') (n := n') (c := c') hl'
  have hlenE := fun b m d => msC_len (K := K) (S := S) (Q := Q) (O := O) (a := b) (n := m) (c := d) hl
  have honeE := fun b m d => msC_one K S Q O H b m d
  have cp := fun w' (h : Below w.heap.size w w') (hn : n ≤ 3000) => msCopy_any K S Q O H a n c xs w' hl (hI.keep h) (by omega)
  have s1 := fun w' (h : Below w.heap.size w w') => msSame_any K S Q O H a n c xs K' S' Q' O' H' a' n' c' ys w' hl hl' (hI.keep h) (hJ.keep h) hx hy
  have s2 := fun w' (h : Below w.heap.size w w') => r14Same_any K S Q O H a n c xs K' S' Q' O' H' a' n' c' ys w' hl hl' (hI.keep h) (hJ.keep h) hx hy
  have s3 := fun w' b d (h : Below w.heap.size w w') (hB : Ints .u8 w' b n d xs) => msSame_any K S Q O H a n c xs K S Q O H b n d xs w' hl hl (hI.keep h) hB hx hx
  have s4 := fun w' b d (h : Below w.heap.size w w') (hB : Ints .u8 w' b n d xs) => r14Same_any K S Q O H a n c xs K S Q O H b n d xs w' hl hl (hI.keep h) hB hx hx
  rw [hs_self K S Q O H, Bool.true_and, beq_self_eq_true] at s3 s4
  have e5 := Lib.hid (fun w' (h : Blk w' w.heap.size 28 (msC K S Q O H a n c)) => ms5 h hl)
  have f5 := Lib.hid (fun w' g b d (h : Blk w' g 28 (msC K S Q O H b n d)) => ms5 h hl)
  have vs := Lib.hid (fun w' (h : Below w.heap.size w w') => (hI.keep h).string (P := Try.prog) 26 9 5 Try.underlying26 Try.underlying5 Try.underlying9)
  have hb1 := fun w' g (h : Blk w' g 28 (msC K' S' Q' O' H' a' n' c')) => ms5 h hl'
  obtain ⟨E, hE⟩ : ∃ E, msC K S Q O H = E := ⟨_, rfl⟩
  rw [hE] at hCl hlenE honeE cp s1 s2 s3 s4 e5 f5 ⊢
  obtain ⟨C, hC⟩ : ∃ C, E a n c = C := ⟨_, rfl⟩
  obtain ⟨D, hD⟩ : ∃ C, msC K' S' Q' O' H' a' n' c' = C := ⟨_, rfl⟩
  rw [hC] at hCl cp s1 s2 s3 s4 e5
  rw [hC, hD]
  rw [hD] at hDl s1 s2 hb1
  obtain ⟨SA, hSA⟩ : ∃ S, strOfNums xs = S := ⟨_, rfl⟩
  rw [hSA] at vs
  obtain ⟨F, hF⟩ : ∃ F, (hsB K S Q O H K' S' Q' O' H' && (xs == ys)) = F := ⟨_, rfl⟩
  rw [hF] at s1 s2
  have hrC : IsRow Try.prog 28 C.length := by rw [hCl]; exact rowMs
  have hrD : IsRow Try.prog 28 D.length := by rw [hDl]; exact rowMs
  have hb := below2 w (.cells C.toArray 28) (.cells D.toArray 28)
  have hk : Blk ((w.alloc (.cells C.toArray 28)).alloc (.cells D.toArray 28)) w.heap.size 28 C := (Blk.new w _ C).alloc _
  have hk2 : Blk ((w.alloc (.cells C.toArray 28)).alloc (.cells D.toArray 28)) (w.heap.size + 1) 28 D := Blk.new1 w _ _ _
  obtain ⟨V, hV⟩ : ∃ V, (w.alloc (.cells C.toArray 28)).alloc (.cells D.toArray 28) = V := ⟨_, rfl⟩
  rw [hV] at hb hk hk2
  have c5 := e5.out V hk
  have d5 := hb1 V _ hk2
  obtain ⟨G, g9⟩ : ∃ G, w.heap.size = G := ⟨_, rfl⟩
  rw [g9] at hk hk2 c5 d5 e5
  clear hE hC hD hSA hF hI hJ hM hM' hx hy
  by_cases hn : 3000 < n
  · have hni : (3000 : Int) < (n : Int) := by omega
    have hnd : decide ((3000 : Int) < (n : Int)) = true := decide_eq_true hni
    clear cp s1 s2 s3 s4 hn hb1
    go_enter Try.func5, Try.ntmps5
    go_wp2_with (first
      | ((with_reducible refine box_row rfl 28 (.tmp 0) rfl C ?_ ?_); rfl)
      | ((with_reducible refine box_row rfl 28 (.tmp 1) rfl D ?_ ?_); rfl; refine RowKit.Hid.out ?_))
    refine Lib.hid ?_
    clear hV
    go_wp2_with fail
    refine (alive14_any V).mono ?_
    rintro q w1 ⟨rfl, b1⟩
    go_wp2
    go_ret
    exact ⟨rfl, hb.trans (b1.mono hb.size)⟩
  have hni : ¬ (3000 : Int) < (n : Int) := by omega
  have hnd : decide ((3000 : Int) < (n : Int)) = false := decide_eq_false hni
  by_cases hn' : 3000 < n'
  · have hni' : (3000 : Int) < (n' : Int) := by omega
    have hnd' : decide ((3000 : Int) < (n' : Int)) = true := decide_eq_true hni'
    clear cp s1 s2 s3 s4 hn hn' hb1
    go_enter Try.func5, Try.ntmps5
    go_wp2_with (first
      | ((with_reducible refine box_row rfl 28 (.tmp 0) rfl C ?_ ?_); rfl)
      | ((with_reducible refine box_row rfl 28 (.tmp 1) rfl D ?_ ?_); rfl; refine RowKit.Hid.out ?_))
    refine Lib.hid ?_
    clear hV
    go_wp2_with fail
    refine (alive14_any V).mono ?_
    rintro q w1 ⟨rfl, b1⟩
    go_wp2
    go_ret
    exact ⟨rfl, hb.trans (b1.mono hb.size)⟩
  have hni' : ¬ (3000 : Int) < (n' : Int) := by omega
  have hnd' : decide ((3000 : Int) < (n' : Int)) = false := decide_eq_false hni'
  have cpH := Lib.hid (fun w' h => cp w' h (by omega))
  replace s1 := Lib.hid s1
  replace s2 := Lib.hid s2
  replace s3 := Lib.hid s3
  replace s4 := Lib.hid s4
  have hnI : (n : Int) ≤ 3000 := by omega
  clear cp hn hn'
  cases F with
  | true =>
    go_enter Try.func5, Try.ntmps5
    go_wp2_with (first
      | ((with_reducible refine box_row rfl 28 (.tmp 0) rfl C ?_ ?_); rfl)
      | ((with_reducible refine box_row rfl 28 (.tmp 1) rfl D ?_ ?_); rfl; refine RowKit.Hid.out ?_))
    refine Lib.hid ?_
    clear hV
    go_wp2_with ((with_reducible refine wpList_load_blk rfl 28 (.tmp 2) rfl ?_ hk rowMs hCl ?_); rfl)
    refine (cpH.out V hb).mono ?_
    rintro q w1 ⟨b, d, rfl, ho1, b1⟩
    have hG1 := hk.keep b1 hk.lt
    have hD1 := hk2.keep b1 hk2.lt
    have B1 := hb.trans (b1.mono hb.size)
    have hBy1 := Bys.of_owns ho1
    have hoL := fun q (h : (Value.slice b n d).ownBlock = some q) => (ho1.lt q h).2
    have hoB1 : ∀ x, At b n x → V.heap.size ≤ x ∧ x < w1.heap.size := fun x ⟨_, y, hy, hyx⟩ => by rw [← hyx]; exact ho1.lt y.block (by rw [hy]; rfl)
    have hGV := hk.lt
    have hDV := hk2.lt
    have hwV := hb.size
    have hlE := hlenE b n d
    have hoE := honeE b n d
    clear hk hk2 hb b1 cpH hb1 c5 d5
    go_wp2_with ((with_reducible refine wpList_alloc_blk rfl 28 rfl zeroMs ?_); refine RowKit.Hid.out ?_)
    refine Lib.hid ?_
    try simp only [Act.put, List.setIfInBounds_toArray, List.set_cons_zero, List.set_cons_succ]
    have hNA := Blk.new w1 28 (msC 0 0 0 0 z16 none 0 0)
    have bA := below1 w1 (.cells (msC 0 0 0 0 z16 none 0 0).toArray 28)
    have hGA := hG1.keep bA hG1.lt
    have hDA := hD1.keep bA hD1.lt
    have hoA := own_stay9 ho1 bA
    have BA := B1.trans (bA.mono B1.size)
    have hGn := hG1.lt
    have hDn := hD1.lt
    have hwN := B1.size
    obtain ⟨N, hN⟩ : ∃ N, w1.heap.size = N := ⟨_, rfl⟩
    rw [hN] at hNA hGn hDn hwN hoB1 hoL ⊢
    obtain ⟨U, hU⟩ : ∃ W, w1.alloc (.cells (msC 0 0 0 0 z16 none 0 0).toArray 28) = W := ⟨_, rfl⟩
    rw [hU] at hNA hGA hDA hoA BA ⊢
    clear hG1 hD1 ho1 B1 bA hN hU hBy1
    refine store_row rfl 28 (.tmp 5) (.tmp 20) rfl rfl rfl hNA rowMs hlE (msC_len z16_len) hoE ?_
    intro w3 hN3 hg3
    have hG3 := hGA.grown hg3 (fun e => by injection e with e; omega)
    have hD3 := hDA.grown hg3 (fun e => by injection e with e; omega)
    have B3 := BA.grown hg3 BA.size (fun q hq => by injection hq with hq; omega)
    have ho3 : w3.ownsRow V.heap.size 5 1 (.slice b n d) n (xs.map (Value.int .u8)) := own_same hoA (fun q e => hg3.block q (hoA.lt q e).2 (by intro e2; injection e2 with e2; have := hoL q e; omega))
    clear hNA hGA hDA hoA BA hg3
    have hBy3 := Bys.of_owns ho3
    obtain ⟨b'', d'', hv'', hJ3⟩ := Ints.of_owns ho3
    injection hv'' with e1 _ e2
    subst e1; subst e2
    go_wp2_with fail
    have b3 : Below w3.heap.size w3 w3.drew := (Below.refl _ _).drew
    have LC := Lib.hid (fun w' (h : Below w3.heap.size w3 w') => hG3.keep h hG3.lt)
    have LD := Lib.hid (fun w' (h : Below w3.heap.size w3 w') => hD3.keep h hD3.lt)
    have LE := Lib.hid (fun w' (h : Below w3.heap.size w3 w') => hN3.keep h hN3.lt)
    have hrE : IsRow Try.prog 28 (E b n d).length := by rw [hlE]; exact rowMs
    have q1 := Lib.hid (fun w' (h : Below w3.heap.size w3 w') => s1.out w' (B3.trans (h.mono B3.size)))
    have q2 := Lib.hid (fun w' (h : Below w3.heap.size w3 w') => s2.out w' (B3.trans (h.mono B3.size)))
    have q3 := Lib.hid (fun w' (h : Below w3.heap.size w3 w') => s3.out w' b d (B3.trans (h.mono B3.size)) (hJ3.keep h))
    have q4 := Lib.hid (fun w' (h : Below w3.heap.size w3 w') => s4.out w' b d (B3.trans (h.mono B3.size)) (hJ3.keep h))
    have B3H := Lib.hid B3
    have H3 := Lib.hid (And.intro hG3 (And.intro hN3 hBy3))
    clear s1 s2 s3 s4 hJ3 ho3 hG3 hD3 hN3 hBy3 B3 hlenE honeE hoE
    refine region_seqS (fun w' => Below w3.heap.size w3 w') (by kernel_rfl) b3 ?_
    simp only [pairs, Nat.reduceAdd]
    repeat (first
      | (refine SeqS.take (v := .agg (C).toArray) (by first | assumption | trivial) (by kernel_rfl) (by decide +kernel) (by decide +kernel) (yields_blk (by rfl) 28 (.tmp 2) rfl rfl (fun w' h => LC.out w' h) (hrC)) ?_
         simp only [Act.put, List.setIfInBounds_toArray, List.set_cons_zero, List.set_cons_succ])
      | (refine SeqS.take (v := .agg (D).toArray) (by first | assumption | trivial) (by kernel_rfl) (by decide +kernel) (by decide +kernel) (yields_blk (by rfl) 28 (.tmp 3) rfl rfl (fun w' h => LD.out w' h) (hrD)) ?_
         simp only [Act.put, List.setIfInBounds_toArray, List.set_cons_zero, List.set_cons_succ])
      | (refine SeqS.take (v := ?_) (by first | assumption | trivial) (by kernel_rfl) (by decide +kernel) (by decide +kernel) (Or.inl ⟨by rfl, ?_⟩) ?_
         rotate_left
         focus
           intro w' hb'
           go_simp
           with_reducible rfl
         simp only [Act.put, List.setIfInBounds_toArray, List.set_cons_zero, List.set_cons_succ])
      | (refine SeqS.take (v := undef) (by first | assumption | trivial) (by kernel_rfl) (by decide +kernel) (by decide +kernel) (Or.inr ⟨by rfl, rfl⟩) ?_
         simp only [Act.put, List.setIfInBounds_toArray, List.set_cons_zero, List.set_cons_succ])
      | (refine SeqS.take1 (v := .agg (C).toArray) (by first | assumption | trivial) (by kernel_rfl) (by decide +kernel) (by decide +kernel) (yields_blk (by rfl) 28 (.tmp 2) rfl rfl (fun w' h => LC.out w' h) (hrC)) ?_
         simp only [Act.put, List.setIfInBounds_toArray, List.set_cons_zero, List.set_cons_succ])
      | (refine SeqS.take1 (v := .agg (D).toArray) (by first | assumption | trivial) (by kernel_rfl) (by decide +kernel) (by decide +kernel) (yields_blk (by rfl) 28 (.tmp 3) rfl rfl (fun w' h => LD.out w' h) (hrD)) ?_
         simp only [Act.put, List.setIfInBounds_toArray, List.set_cons_zero, List.set_cons_succ])
      | (refine SeqS.take1 (v := ?_) (by first | assumption | trivial) (by kernel_rfl) (by decide +kernel) (by decide +kernel) (Or.inl ⟨by rfl, ?_⟩) ?_
         rotate_left
         focus
           intro w' hb'
           go_simp
           with_reducible rfl
         simp only [Act.put, List.setIfInBounds_toArray, List.set_cons_zero, List.set_cons_succ])
      | (refine SeqS.take1 (v := undef) (by first | assumption | trivial) (by kernel_rfl) (by decide +kernel) (by decide +kernel) (Or.inr ⟨by rfl, rfl⟩) ?_
         simp only [Act.put, List.setIfInBounds_toArray, List.set_cons_zero, List.set_cons_succ])
      | (refine SeqS.take2 (v := .agg (C).toArray) (by first | assumption | trivial) (by kernel_rfl) (by decide +kernel) (by decide +kernel) (yields_blk (by rfl) 28 (.tmp 2) rfl rfl (fun w' h => LC.out w' h) (hrC)) ?_
         simp only [Act.put, List.setIfInBounds_toArray, List.set_cons_zero, List.set_cons_succ])
      | (refine SeqS.take2 (v := .agg (D).toArray) (by first | assumption | trivial) (by kernel_rfl) (by decide +kernel) (by decide +kernel) (yields_blk (by rfl) 28 (.tmp 3) rfl rfl (fun w' h => LD.out w' h) (hrD)) ?_
         simp only [Act.put, List.setIfInBounds_toArray, List.set_cons_zero, List.set_cons_succ])
      | (refine SeqS.take2 (v := ?_) (by first | assumption | trivial) (by kernel_rfl) (by decide +kernel) (by decide +kernel) (Or.inl ⟨by rfl, ?_⟩) ?_
         rotate_left
         focus
           intro w' hb'
           go_simp
           with_reducible rfl
         simp only [Act.put, List.setIfInBounds_toArray, List.set_cons_zero, List.set_cons_succ])
      | (refine SeqS.take2 (v := undef) (by first | assumption | trivial) (by kernel_rfl) (by decide +kernel) (by decide +kernel) (Or.inr ⟨by rfl, rfl⟩) ?_
         simp only [Act.put, List.setIfInBounds_toArray, List.set_cons_zero, List.set_cons_succ]))
    refine SeqS.alone (by decide +kernel) (by rfl) (fun K hK => ?_)
    go_simp
    go_at_call 15
    refine (q1.out _ b3).mono ?_
    rintro e w5 ⟨rfl, b5⟩
    go_simp
    have S5 : Below w3.heap.size w3 w5 := b3.trans (b5.mono b3.size)
    refine hK _ _ S5 ?_
    clear hK K
    repeat (first
      | (refine SeqS.take (v := .agg (C).toArray) (by first | assumption | trivial) (by kernel_rfl) (by decide +kernel) (by decide +kernel) (yields_blk (by rfl) 28 (.tmp 2) rfl rfl (fun w' h => LC.out w' h) (hrC)) ?_
         simp only [Act.put, List.setIfInBounds_toArray, List.set_cons_zero, List.set_cons_succ])
      | (refine SeqS.take (v := .agg (D).toArray) (by first | assumption | trivial) (by kernel_rfl) (by decide +kernel) (by decide +kernel) (yields_blk (by rfl) 28 (.tmp 3) rfl rfl (fun w' h => LD.out w' h) (hrD)) ?_
         simp only [Act.put, List.setIfInBounds_toArray, List.set_cons_zero, List.set_cons_succ])
      | (refine SeqS.take (v := ?_) (by first | assumption | trivial) (by kernel_rfl) (by decide +kernel) (by decide +kernel) (Or.inl ⟨by rfl, ?_⟩) ?_
         rotate_left
         focus
           intro w' hb'
           go_simp
           with_reducible rfl
         simp only [Act.put, List.setIfInBounds_toArray, List.set_cons_zero, List.set_cons_succ])
      | (refine SeqS.take (v := undef) (by first | assumption | trivial) (by kernel_rfl) (by decide +kernel) (by decide +kernel) (Or.inr ⟨by rfl, rfl⟩) ?_
         simp only [Act.put, List.setIfInBounds_toArray, List.set_cons_zero, List.set_cons_succ])
      | (refine SeqS.take1 (v := .agg (C).toArray) (by first | assumption | trivial) (by kernel_rfl) (by decide +kernel) (by decide +kernel) (yields_blk (by rfl) 28 (.tmp 2) rfl rfl (fun w' h => LC.out w' h) (hrC)) ?_
         simp only [Act.put, List.setIfInBounds_toArray, List.set_cons_zero, List.set_cons_succ])
      | (refine SeqS.take1 (v := .agg (D).toArray) (by first | assumption | trivial) (by kernel_rfl) (by decide +kernel) (by decide +kernel) (yields_blk (by rfl) 28 (.tmp 3) rfl rfl (fun w' h => LD.out w' h) (hrD)) ?_
         simp only [Act.put, List.setIfInBounds_toArray, List.set_cons_zero, List.set_cons_succ])
      | (refine SeqS.take1 (v := ?_) (by first | assumption | trivial) (by kernel_rfl) (by decide +kernel) (by decide +kernel) (Or.inl ⟨by rfl, ?_⟩) ?_
         rotate_left
         focus
           intro w' hb'
           go_simp
           with_reducible rfl
         simp only [Act.put, List.setIfInBounds_toArray, List.set_cons_zero, List.set_cons_succ])
      | (refine SeqS.take1 (v := undef) (by first | assumption | trivial) (by kernel_rfl) (by decide +kernel) (by decide +kernel) (Or.inr ⟨by rfl, rfl⟩) ?_
         simp only [Act.put, List.setIfInBounds_toArray, List.set_cons_zero, List.set_cons_succ])
      | (refine SeqS.take2 (v := .agg (C).toArray) (by first | assumption | trivial) (by kernel_rfl) (by decide +kernel) (by decide +kernel) (yields_blk (by rfl) 28 (.tmp 2) rfl rfl (fun w' h => LC.out w' h) (hrC)) ?_
         simp only [Act.put, List.setIfInBounds_toArray, List.set_cons_zero, List.set_cons_succ])
      | (refine SeqS.take2 (v := .agg (D).toArray) (by first | assumption | trivial) (by kernel_rfl) (by decide +kernel) (by decide +kernel) (yields_blk (by rfl) 28 (.tmp 3) rfl rfl (fun w' h => LD.out w' h) (hrD)) ?_
         simp only [Act.put, List.setIfInBounds_toArray, List.set_cons_zero, List.set_cons_succ])
      | (refine SeqS.take2 (v := ?_) (by first | assumption | trivial) (by kernel_rfl) (by decide +kernel) (by decide +kernel) (Or.inl ⟨by rfl, ?_⟩) ?_
         rotate_left
         focus
           intro w' hb'
           go_simp
           with_reducible rfl
         simp only [Act.put, List.setIfInBounds_toArray, List.set_cons_zero, List.set_cons_succ])
      | (refine SeqS.take2 (v := undef) (by first | assumption | trivial) (by kernel_rfl) (by decide +kernel) (by decide +kernel) (Or.inr ⟨by rfl, rfl⟩) ?_
         simp only [Act.put, List.setIfInBounds_toArray, List.set_cons_zero, List.set_cons_succ]))
    refine SeqS.alone (by decide +kernel) (by rfl) (fun K hK => ?_)
    go_simp
    go_at_call 12
    refine (q2.out _ S5).mono ?_
    rintro e w6 ⟨rfl, b6⟩
    go_simp
    have S6 : Below w3.heap.size w3 w6 := S5.trans (b6.mono S5.size)
    refine hK _ _ S6 ?_
    clear hK K
    repeat (first
      | (refine SeqS.take (v := .agg (C).toArray) (by first | assumption | trivial) (by kernel_rfl) (by decide +kernel) (by decide +kernel) (yields_blk (by rfl) 28 (.tmp 2) rfl rfl (fun w' h => LC.out w' h) (hrC)) ?_
         simp only [Act.put, List.setIfInBounds_toArray, List.set_cons_zero, List.set_cons_succ])
      | (refine SeqS.take (v := .agg (E b n d).toArray) (by first | assumption | trivial) (by kernel_rfl) (by decide +kernel) (by decide +kernel) (yields_blk (by rfl) 28 (.tmp 5) rfl rfl (fun w' h => LE.out w' h) (hrE)) ?_
         simp only [Act.put, List.setIfInBounds_toArray, List.set_cons_zero, List.set_cons_succ])
      | (refine SeqS.take (v := ?_) (by first | assumption | trivial) (by kernel_rfl) (by decide +kernel) (by decide +kernel) (Or.inl ⟨by rfl, ?_⟩) ?_
         rotate_left
         focus
           intro w' hb'
           go_simp
           with_reducible rfl
         simp only [Act.put, List.setIfInBounds_toArray, List.set_cons_zero, List.set_cons_succ])
      | (refine SeqS.take (v := undef) (by first | assumption | trivial) (by kernel_rfl) (by decide +kernel) (by decide +kernel) (Or.inr ⟨by rfl, rfl⟩) ?_
         simp only [Act.put, List.setIfInBounds_toArray, List.set_cons_zero, List.set_cons_succ])
      | (refine SeqS.take1 (v := .agg (C).toArray) (by first | assumption | trivial) (by kernel_rfl) (by decide +kernel) (by decide +kernel) (yields_blk (by rfl) 28 (.tmp 2) rfl rfl (fun w' h => LC.out w' h) (hrC)) ?_
         simp only [Act.put, List.setIfInBounds_toArray, List.set_cons_zero, List.set_cons_succ])
      | (refine SeqS.take1 (v := .agg (E b n d).toArray) (by first | assumption | trivial) (by kernel_rfl) (by decide +kernel) (by decide +kernel) (yields_blk (by rfl) 28 (.tmp 5) rfl rfl (fun w' h => LE.out w' h) (hrE)) ?_
         simp only [Act.put, List.setIfInBounds_toArray, List.set_cons_zero, List.set_cons_succ])
      | (refine SeqS.take1 (v := ?_) (by first | assumption | trivial) (by kernel_rfl) (by decide +kernel) (by decide +kernel) (Or.inl ⟨by rfl, ?_⟩) ?_
         rotate_left
         focus
           intro w' hb'
           go_simp
           with_reducible rfl
         simp only [Act.put, List.setIfInBounds_toArray, List.set_cons_zero, List.set_cons_succ])
      | (refine SeqS.take1 (v := undef) (by first | assumption | trivial) (by kernel_rfl) (by decide +kernel) (by decide +kernel) (Or.inr ⟨by rfl, rfl⟩) ?_
         simp only [Act.put, List.setIfInBounds_toArray, List.set_cons_zero, List.set_cons_succ])
      | (refine SeqS.take2 (v := .agg (C).toArray) (by first | assumption | trivial) (by kernel_rfl) (by decide +kernel) (by decide +kernel) (yields_blk (by rfl) 28 (.tmp 2) rfl rfl (fun w' h => LC.out w' h) (hrC)) ?_
         simp only [Act.put, List.setIfInBounds_toArray, List.set_cons_zero, List.set_cons_succ])
      | (refine SeqS.take2 (v := .agg (E b n d).toArray) (by first | assumption | trivial) (by kernel_rfl) (by decide +kernel) (by decide +kernel) (yields_blk (by rfl) 28 (.tmp 5) rfl rfl (fun w' h => LE.out w' h) (hrE)) ?_
         simp only [Act.put, List.setIfInBounds_toArray, List.set_cons_zero, List.set_cons_succ])
      | (refine SeqS.take2 (v := ?_) (by first | assumption | trivial) (by kernel_rfl) (by decide +kernel) (by decide +kernel) (Or.inl ⟨by rfl, ?_⟩) ?_
         rotate_left
         focus
           intro w' hb'
           go_simp
           with_reducible rfl
         simp only [Act.put, List.setIfInBounds_toArray, List.set_cons_zero, List.set_cons_succ])
      | (refine SeqS.take2 (v := undef) (by first | assumption | trivial) (by kernel_rfl) (by decide +kernel) (by decide +kernel) (Or.inr ⟨by rfl, rfl⟩) ?_
         simp only [Act.put, List.setIfInBounds_toArray, List.set_cons_zero, List.set_cons_succ]))
    refine SeqS.alone (by decide +kernel) (by rfl) (fun K hK => ?_)
    go_simp
    go_at_call 15
    refine (q3.out _ S6).mono ?_
    rintro e w7 ⟨rfl, b7⟩
    go_simp
    have S7 : Below w3.heap.size w3 w7 := S6.trans (b7.mono S6.size)
    refine hK _ _ S7 ?_
    clear hK K
    repeat (first
      | (refine SeqS.take (v := .agg (C).toArray) (by first | assumption | trivial) (by kernel_rfl) (by decide +kernel) (by decide +kernel) (yields_blk (by rfl) 28 (.tmp 2) rfl rfl (fun w' h => LC.out w' h) (hrC)) ?_
         simp only [Act.put, List.setIfInBounds_toArray, List.set_cons_zero, List.set_cons_succ])
      | (refine SeqS.take (v := .agg (E b n d).toArray) (by first | assumption | trivial) (by kernel_rfl) (by decide +kernel) (by decide +kernel) (yields_blk (by rfl) 28 (.tmp 5) rfl rfl (fun w' h => LE.out w' h) (hrE)) ?_
         simp only [Act.put, List.setIfInBounds_toArray, List.set_cons_zero, List.set_cons_succ])
      | (refine SeqS.take (v := ?_) (by first | assumption | trivial) (by kernel_rfl) (by decide +kernel) (by decide +kernel) (Or.inl ⟨by rfl, ?_⟩) ?_
         rotate_left
         focus
           intro w' hb'
           go_simp
           with_reducible rfl
         simp only [Act.put, List.setIfInBounds_toArray, List.set_cons_zero, List.set_cons_succ])
      | (refine SeqS.take (v := undef) (by first | assumption | trivial) (by kernel_rfl) (by decide +kernel) (by decide +kernel) (Or.inr ⟨by rfl, rfl⟩) ?_
         simp only [Act.put, List.setIfInBounds_toArray, List.set_cons_zero, List.set_cons_succ])
      | (refine SeqS.take1 (v := .agg (C).toArray) (by first | assumption | trivial) (by kernel_rfl) (by decide +kernel) (by decide +kernel) (yields_blk (by rfl) 28 (.tmp 2) rfl rfl (fun w' h => LC.out w' h) (hrC)) ?_
         simp only [Act.put, List.setIfInBounds_toArray, List.set_cons_zero, List.set_cons_succ])
      | (refine SeqS.take1 (v := .agg (E b n d).toArray) (by first | assumption | trivial) (by kernel_rfl) (by decide +kernel) (by decide +kernel) (yields_blk (by rfl) 28 (.tmp 5) rfl rfl (fun w' h => LE.out w' h) (hrE)) ?_
         simp only [Act.put, List.setIfInBounds_toArray, List.set_cons_zero, List.set_cons_succ])
      | (refine SeqS.take1 (v := ?_) (by first | assumption | trivial) (by kernel_rfl) (by decide +kernel) (by decide +kernel) (Or.inl ⟨by rfl, ?_⟩) ?_
         rotate_left
         focus
           intro w' hb'
           go_simp
           with_reducible rfl
         simp only [Act.put, List.setIfInBounds_toArray, List.set_cons_zero, List.set_cons_succ])
      | (refine SeqS.take1 (v := undef) (by first | assumption | trivial) (by kernel_rfl) (by decide +kernel) (by decide +kernel) (Or.inr ⟨by rfl, rfl⟩) ?_
         simp only [Act.put, List.setIfInBounds_toArray, List.set_cons_zero, List.set_cons_succ])
      | (refine SeqS.take2 (v := .agg (C).toArray) (by first | assumption | trivial) (by kernel_rfl) (by decide +kernel) (by decide +kernel) (yields_blk (by rfl) 28 (.tmp 2) rfl rfl (fun w' h => LC.out w' h) (hrC)) ?_
         simp only [Act.put, List.setIfInBounds_toArray, List.set_cons_zero, List.set_cons_succ])
      | (refine SeqS.take2 (v := .agg (E b n d).toArray) (by first | assumption | trivial) (by kernel_rfl) (by decide +kernel) (by decide +kernel) (yields_blk (by rfl) 28 (.tmp 5) rfl rfl (fun w' h => LE.out w' h) (hrE)) ?_
         simp only [Act.put, List.setIfInBounds_toArray, List.set_cons_zero, List.set_cons_succ])
      | (refine SeqS.take2 (v := ?_) (by first | assumption | trivial) (by kernel_rfl) (by decide +kernel) (by decide +kernel) (Or.inl ⟨by rfl, ?_⟩) ?_
         rotate_left
         focus
           intro w' hb'
           go_simp
           with_reducible rfl
         simp only [Act.put, List.setIfInBounds_toArray, List.set_cons_zero, List.set_cons_succ])
      | (refine SeqS.take2 (v := undef) (by first | assumption | trivial) (by kernel_rfl) (by decide +kernel) (by decide +kernel) (Or.inr ⟨by rfl, rfl⟩) ?_
         simp only [Act.put, List.setIfInBounds_toArray, List.set_cons_zero, List.set_cons_succ]))
    refine SeqS.alone (by decide +kernel) (by rfl) (fun K hK => ?_)
    go_simp
    go_at_call 12
    refine (q4.out _ S7).mono ?_
    rintro e w8 ⟨rfl, b8⟩
    go_simp
    have S8 : Below w3.heap.size w3 w8 := S7.trans (b8.mono S7.size)
    refine hK _ _ S8 ?_
    clear hK K
    repeat (first
      | (refine SeqS.take (v := ?_) (by first | assumption | trivial) (by kernel_rfl) (by decide +kernel) (by decide +kernel) (Or.inl ⟨by rfl, ?_⟩) ?_
         rotate_left
         focus
           intro w' hb'
           go_simp
           with_reducible rfl
         simp only [Act.put, List.setIfInBounds_toArray, List.set_cons_zero, List.set_cons_succ])
      | (refine SeqS.take (v := undef) (by first | assumption | trivial) (by kernel_rfl) (by decide +kernel) (by decide +kernel) (Or.inr ⟨by rfl, rfl⟩) ?_
         simp only [Act.put, List.setIfInBounds_toArray, List.set_cons_zero, List.set_cons_succ])
      | (refine SeqS.take1 (v := ?_) (by first | assumption | trivial) (by kernel_rfl) (by decide +kernel) (by decide +kernel) (Or.inl ⟨by rfl, ?_⟩) ?_
         rotate_left
         focus
           intro w' hb'
           go_simp
           with_reducible rfl
         simp only [Act.put, List.setIfInBounds_toArray, List.set_cons_zero, List.set_cons_succ])
      | (refine SeqS.take1 (v := undef) (by first | assumption | trivial) (by kernel_rfl) (by decide +kernel) (by decide +kernel) (Or.inr ⟨by rfl, rfl⟩) ?_
         simp only [Act.put, List.setIfInBounds_toArray, List.set_cons_zero, List.set_cons_succ])
      | (refine SeqS.take2 (v := ?_) (by first | assumption | trivial) (by kernel_rfl) (by decide +kernel) (by decide +kernel) (Or.inl ⟨by rfl, ?_⟩) ?_
         rotate_left
         focus
           intro w' hb'
           go_simp
           with_reducible rfl
         simp only [Act.put, List.setIfInBounds_toArray, List.set_cons_zero, List.set_cons_succ])
      | (refine SeqS.take2 (v := undef) (by first | assumption | trivial) (by kernel_rfl) (by decide +kernel) (by decide +kernel) (Or.inr ⟨by rfl, rfl⟩) ?_
         simp only [Act.put, List.setIfInBounds_toArray, List.set_cons_zero, List.set_cons_succ]))
    refine SeqS.done (by decide +kernel) ?_
    have B8 := B3H.out.trans (S8.mono B3H.out.size)
    have hG8 := H3.out.1.keep S8 H3.out.1.lt
    have hN8 := H3.out.2.1.keep S8 H3.out.2.1.lt
    have hBy8 : Bys w8 b n d := by
      refine ⟨H3.out.2.2.1, ?_⟩
      rcases H3.out.2.2.2 with h0 | ⟨k, cs, ha, hk, hv⟩
      · exact .inl h0
      · exact .inr ⟨k, cs, ha, hk.keep S8 hk.lt, hv⟩
    have c5 := e5.out w8 hG8
    have v1 := vs.out w8 B8
    have n5 := f5.out w8 N b d hN8
    clear b3 b5 b6 b7 b8 S5 S6 S7 S8 q1 q2 q3 q4 LC LD LE B3H H3 hrE
    go_wp2_with fail
    go_loopw [46] (fun i wr => ∃ j : Nat, j ≤ n ∧ i = .int .i64 j ∧ Bys wr b n d ∧ Moved (At b n) w8 wr) (fun i _ => n - (intOf i).toNat)
    case atStart => exact ⟨0, Nat.zero_le _, rfl, hBy8, Moved.rfl'⟩
    case round =>
      clear c5 v1 n5
      obtain ⟨j, hj, rfl, hBy, hMv⟩ := hrel
      have nN : ¬ At b n N := fun h => by have := (hoB1 N h).2; omega
      have nG : ¬ At b n G := fun h => by have := (hoB1 G h).1; omega
      by_cases hlt : j < n
      · have hji : (j : Int) < (n : Int) := by omega
        obtain ⟨o, v, rfl, hc, hf, hinc⟩ := hBy.inc j hlt
        have hNr : Blk wr N 28 (E (some ⟨o, 0, none⟩) n d) := (hMv.2 N hN8.lt nN).trans hN8
        have n5 := f5.out wr N (some ⟨o, 0, none⟩) d hNr
        have hltH := Lib.hid hlt
        clear hlt hj hNr nN nG
        go_wp2
        exact ⟨⟨j + 1, by have := hltH.out; omega, by congr 1, (hinc _).1, hMv.then (hinc _).2⟩, by simp only [intOf]; have := hltH.out; omega⟩
      · have hji : ¬ (j : Int) < (n : Int) := by omega
        have hGr : Blk wr G 28 C := (hMv.2 G hG8.lt nG).trans hG8
        have Br := B8.trans (hMv.below (fun x hx => Nat.le_trans hwV (hoB1 x hx).1) B8.size)
        have c5 := e5.out wr hGr
        have v1 := vs.out wr Br
        clear hlt hj hMv hBy hBy8 hG8 hN8 B8 hGr nN nG
        go_wp2_with fail
        refine (alive14_any wr).mono ?_
        rintro q w9 ⟨rfl, b9⟩
        go_wp2
        go_ret
        exact ⟨by first | rfl | simp, Br.trans (b9.mono Br.size)⟩
  | false =>
    go_enter Try.func5, Try.ntmps5
    go_wp2_with (first
      | ((with_reducible refine box_row rfl 28 (.tmp 0) rfl C ?_ ?_); rfl)
      | ((with_reducible refine box_row rfl 28 (.tmp 1) rfl D ?_ ?_); rfl; refine RowKit.Hid.out ?_))
    refine Lib.hid ?_
    clear hV
    go_wp2_with ((with_reducible refine wpList_load_blk rfl 28 (.tmp 2) rfl ?_ hk rowMs hCl ?_); rfl)
    refine (cpH.out V hb).mono ?_
    rintro q w1 ⟨b, d, rfl, ho1, b1⟩
    have hG1 := hk.keep b1 hk.lt
    have hD1 := hk2.keep b1 hk2.lt
    have B1 := hb.trans (b1.mono hb.size)
    have hBy1 := Bys.of_owns ho1
    have hoL := fun q (h : (Value.slice b n d).ownBlock = some q) => (ho1.lt q h).2
    have hoB1 : ∀ x, At b n x → V.heap.size ≤ x ∧ x < w1.heap.size := fun x ⟨_, y, hy, hyx⟩ => by rw [← hyx]; exact ho1.lt y.block (by rw [hy]; rfl)
    have hGV := hk.lt
    have hDV := hk2.lt
    have hwV := hb.size
    have hlE := hlenE b n d
    have hoE := honeE b n d
    clear hk hk2 hb b1 cpH hb1 c5 d5
    go_wp2_with ((with_reducible refine wpList_alloc_blk rfl 28 rfl zeroMs ?_); refine RowKit.Hid.out ?_)
    refine Lib.hid ?_
    try simp only [Act.put, List.setIfInBounds_toArray, List.set_cons_zero, List.set_cons_succ]
    have hNA := Blk.new w1 28 (msC 0 0 0 0 z16 none 0 0)
    have bA := below1 w1 (.cells (msC 0 0 0 0 z16 none 0 0).toArray 28)
    have hGA := hG1.keep bA hG1.lt
    have hDA := hD1.keep bA hD1.lt
    have hoA := own_stay9 ho1 bA
    have BA := B1.trans (bA.mono B1.size)
    have hGn := hG1.lt
    have hDn := hD1.lt
    have hwN := B1.size
    obtain ⟨N, hN⟩ : ∃ N, w1.heap.size = N := ⟨_, rfl⟩
    rw [hN] at hNA hGn hDn hwN hoB1 hoL ⊢
    obtain ⟨U, hU⟩ : ∃ W, w1.alloc (.cells (msC 0 0 0 0 z16 none 0 0).toArray 28) = W := ⟨_, rfl⟩
    rw [hU] at hNA hGA hDA hoA BA ⊢
    clear hG1 hD1 ho1 B1 bA hN hU hBy1
    refine store_row rfl 28 (.tmp 5) (.tmp 20) rfl rfl rfl hNA rowMs hlE (msC_len z16_len) hoE ?_
    intro w3 hN3 hg3
    have hG3 := hGA.grown hg3 (fun e => by injection e with e; omega)
    have hD3 := hDA.grown hg3 (fun e => by injection e with e; omega)
    have B3 := BA.grown hg3 BA.size (fun q hq => by injection hq with hq; omega)
    have ho3 : w3.ownsRow V.heap.size 5 1 (.slice b n d) n (xs.map (Value.int .u8)) := own_same hoA (fun q e => hg3.block q (hoA.lt q e).2 (by intro e2; injection e2 with e2; have := hoL q e; omega))
    clear hNA hGA hDA hoA BA hg3
    have hBy3 := Bys.of_owns ho3
    obtain ⟨b'', d'', hv'', hJ3⟩ := Ints.of_owns ho3
    injection hv'' with e1 _ e2
    subst e1; subst e2
    go_wp2_with fail
    have b3 : Below w3.heap.size w3 w3.drew := (Below.refl _ _).drew
    have LC := Lib.hid (fun w' (h : Below w3.heap.size w3 w') => hG3.keep h hG3.lt)
    have LD := Lib.hid (fun w' (h : Below w3.heap.size w3 w') => hD3.keep h hD3.lt)
    have LE := Lib.hid (fun w' (h : Below w3.heap.size w3 w') => hN3.keep h hN3.lt)
    have hrE : IsRow Try.prog 28 (E b n d).length := by rw [hlE]; exact rowMs
    have q1 := Lib.hid (fun w' (h : Below w3.heap.size w3 w') => s1.out w' (B3.trans (h.mono B3.size)))
    have q2 := Lib.hid (fun w' (h : Below w3.heap.size w3 w') => s2.out w' (B3.trans (h.mono B3.size)))
    have q3 := Lib.hid (fun w' (h : Below w3.heap.size w3 w') => s3.out w' b d (B3.trans (h.mono B3.size)) (hJ3.keep h))
    have q4 := Lib.hid (fun w' (h : Below w3.heap.size w3 w') => s4.out w' b d (B3.trans (h.mono B3.size)) (hJ3.keep h))
    have B3H := Lib.hid B3
    have H3 := Lib.hid (And.intro hG3 (And.intro hN3 hBy3))
    clear s1 s2 s3 s4 hJ3 ho3 hG3 hD3 hN3 hBy3 B3 hlenE honeE hoE
    refine region_seqS (fun w' => Below w3.heap.size w3 w') (by kernel_rfl) b3 ?_
    simp only [pairs, Nat.reduceAdd]
    repeat (first
      | (refine SeqS.take (v := .agg (C).toArray) (by first | assumption | trivial) (by kernel_rfl) (by decide +kernel) (by decide +kernel) (yields_blk (by rfl) 28 (.tmp 2) rfl rfl (fun w' h => LC.out w' h) (hrC)) ?_
         simp only [Act.put, List.setIfInBounds_toArray, List.set_cons_zero, List.set_cons_succ])
      | (refine SeqS.take (v := .agg (D).toArray) (by first | assumption | trivial) (by kernel_rfl) (by decide +kernel) (by decide +kernel) (yields_blk (by rfl) 28 (.tmp 3) rfl rfl (fun w' h => LD.out w' h) (hrD)) ?_
         simp only [Act.put, List.setIfInBounds_toArray, List.set_cons_zero, List.set_cons_succ])
      | (refine SeqS.take (v := ?_) (by first | assumption | trivial) (by kernel_rfl) (by decide +kernel) (by decide +kernel) (Or.inl ⟨by rfl, ?_⟩) ?_
         rotate_left
         focus
           intro w' hb'
           go_simp
           with_reducible rfl
         simp only [Act.put, List.setIfInBounds_toArray, List.set_cons_zero, List.set_cons_succ])
      | (refine SeqS.take (v := undef) (by first | assumption | trivial) (by kernel_rfl) (by decide +kernel) (by decide +kernel) (Or.inr ⟨by rfl, rfl⟩) ?_
         simp only [Act.put, List.setIfInBounds_toArray, List.set_cons_zero, List.set_cons_succ])
      | (refine SeqS.take1 (v := .agg (C).toArray) (by first | assumption | trivial) (by kernel_rfl) (by decide +kernel) (by decide +kernel) (yields_blk (by rfl) 28 (.tmp 2) rfl rfl (fun w' h => LC.out w' h) (hrC)) ?_
         simp only [Act.put, List.setIfInBounds_toArray, List.set_cons_zero, List.set_cons_succ])
      | (refine SeqS.take1 (v := .agg (D).toArray) (by first | assumption | trivial) (by kernel_rfl) (by decide +kernel) (by decide +kernel) (yields_blk (by rfl) 28 (.tmp 3) rfl rfl (fun w' h => LD.out w' h) (hrD)) ?_
         simp only [Act.put, List.setIfInBounds_toArray, List.set_cons_zero, List.set_cons_succ])
      | (refine SeqS.take1 (v := ?_) (by first | assumption | trivial) (by kernel_rfl) (by decide +kernel) (by decide +kernel) (Or.inl ⟨by rfl, ?_⟩) ?_
         rotate_left
         focus
           intro w' hb'
           go_simp
           with_reducible rfl
         simp only [Act.put, List.setIfInBounds_toArray, List.set_cons_zero, List.set_cons_succ])
      | (refine SeqS.take1 (v := undef) (by first | assumption | trivial) (by kernel_rfl) (by decide +kernel) (by decide +kernel) (Or.inr ⟨by rfl, rfl⟩) ?_
         simp only [Act.put, List.setIfInBounds_toArray, List.set_cons_zero, List.set_cons_succ])
      | (refine SeqS.take2 (v := .agg (C).toArray) (by first | assumption | trivial) (by kernel_rfl) (by decide +kernel) (by decide +kernel) (yields_blk (by rfl) 28 (.tmp 2) rfl rfl (fun w' h => LC.out w' h) (hrC)) ?_
         simp only [Act.put, List.setIfInBounds_toArray, List.set_cons_zero, List.set_cons_succ])
      | (refine SeqS.take2 (v := .agg (D).toArray) (by first | assumption | trivial) (by kernel_rfl) (by decide +kernel) (by decide +kernel) (yields_blk (by rfl) 28 (.tmp 3) rfl rfl (fun w' h => LD.out w' h) (hrD)) ?_
         simp only [Act.put, List.setIfInBounds_toArray, List.set_cons_zero, List.set_cons_succ])
      | (refine SeqS.take2 (v := ?_) (by first | assumption | trivial) (by kernel_rfl) (by decide +kernel) (by decide +kernel) (Or.inl ⟨by rfl, ?_⟩) ?_
         rotate_left
         focus
           intro w' hb'
           go_simp
           with_reducible rfl
         simp only [Act.put, List.setIfInBounds_toArray, List.set_cons_zero, List.set_cons_succ])
      | (refine SeqS.take2 (v := undef) (by first | assumption | trivial) (by kernel_rfl) (by decide +kernel) (by decide +kernel) (Or.inr ⟨by rfl, rfl⟩) ?_
         simp only [Act.put, List.setIfInBounds_toArray, List.set_cons_zero, List.set_cons_succ]))
    refine SeqS.alone (by decide +kernel) (by rfl) (fun K hK => ?_)
    go_simp
    go_at_call 15
    refine (q1.out _ b3).mono ?_
    rintro e w5 ⟨rfl, b5⟩
    go_simp
    have S5 : Below w3.heap.size w3 w5 := b3.trans (b5.mono b3.size)
    refine hK _ _ S5 ?_
    clear hK K
    repeat (first
      | (refine SeqS.take (v := .agg (C).toArray) (by first | assumption | trivial) (by kernel_rfl) (by decide +kernel) (by decide +kernel) (yields_blk (by rfl) 28 (.tmp 2) rfl rfl (fun w' h => LC.out w' h) (hrC)) ?_
         simp only [Act.put, List.setIfInBounds_toArray, List.set_cons_zero, List.set_cons_succ])
      | (refine SeqS.take (v := .agg (D).toArray) (by first | assumption | trivial) (by kernel_rfl) (by decide +kernel) (by decide +kernel) (yields_blk (by rfl) 28 (.tmp 3) rfl rfl (fun w' h => LD.out w' h) (hrD)) ?_
         simp only [Act.put, List.setIfInBounds_toArray, List.set_cons_zero, List.set_cons_succ])
      | (refine SeqS.take (v := ?_) (by first | assumption | trivial) (by kernel_rfl) (by decide +kernel) (by decide +kernel) (Or.inl ⟨by rfl, ?_⟩) ?_
         rotate_left
         focus
           intro w' hb'
           go_simp
           with_reducible rfl
         simp only [Act.put, List.setIfInBounds_toArray, List.set_cons_zero, List.set_cons_succ])
      | (refine SeqS.take (v := undef) (by first | assumption | trivial) (by kernel_rfl) (by decide +kernel) (by decide +kernel) (Or.inr ⟨by rfl, rfl⟩) ?_
         simp only [Act.put, List.setIfInBounds_toArray, List.set_cons_zero, List.set_cons_succ])
      | (refine SeqS.take1 (v := .agg (C).toArray) (by first | assumption | trivial) (by kernel_rfl) (by decide +kernel) (by decide +kernel) (yields_blk (by rfl) 28 (.tmp 2) rfl rfl (fun w' h => LC.out w' h) (hrC)) ?_
         simp only [Act.put, List.setIfInBounds_toArray, List.set_cons_zero, List.set_cons_succ])
      | (refine SeqS.take1 (v := .agg (D).toArray) (by first | assumption | trivial) (by kernel_rfl) (by decide +kernel) (by decide +kernel) (yields_blk (by rfl) 28 (.tmp 3) rfl rfl (fun w' h => LD.out w' h) (hrD)) ?_
         simp only [Act.put, List.setIfInBounds_toArray, List.set_cons_zero, List.set_cons_succ])
      | (refine SeqS.take1 (v := ?_) (by first | assumption | trivial) (by kernel_rfl) (by decide +kernel) (by decide +kernel) (Or.inl ⟨by rfl, ?_⟩) ?_
         rotate_left
         focus
           intro w' hb'
           go_simp
           with_reducible rfl
         simp only [Act.put, List.setIfInBounds_toArray, List.set_cons_zero, List.set_cons_succ])
      | (refine SeqS.take1 (v := undef) (by first | assumption | trivial) (by kernel_rfl) (by decide +kernel) (by decide +kernel) (Or.inr ⟨by rfl, rfl⟩) ?_
         simp only [Act.put, List.setIfInBounds_toArray, List.set_cons_zero, List.set_cons_succ])
      | (refine SeqS.take2 (v := .agg (C).toArray) (by first | assumption | trivial) (by kernel_rfl) (by decide +kernel) (by decide +kernel) (yields_blk (by rfl) 28 (.tmp 2) rfl rfl (fun w' h => LC.out w' h) (hrC)) ?_
         simp only [Act.put, List.setIfInBounds_toArray, List.set_cons_zero, List.set_cons_succ])
      | (refine SeqS.take2 (v := .agg (D).toArray) (by first | assumption | trivial) (by kernel_rfl) (by decide +kernel) (by decide +kernel) (yields_blk (by rfl) 28 (.tmp 3) rfl rfl (fun w' h => LD.out w' h) (hrD)) ?_
         simp only [Act.put, List.setIfInBounds_toArray, List.set_cons_zero, List.set_cons_succ])
      | (refine SeqS.take2 (v := ?_) (by first | assumption | trivial) (by kernel_rfl) (by decide +kernel) (by decide +kernel) (Or.inl ⟨by rfl, ?_⟩) ?_
         rotate_left
         focus
           intro w' hb'
           go_simp
           with_reducible rfl
         simp only [Act.put, List.setIfInBounds_toArray, List.set_cons_zero, List.set_cons_succ])
      | (refine SeqS.take2 (v := undef) (by first | assumption | trivial) (by kernel_rfl) (by decide +kernel) (by decide +kernel) (Or.inr ⟨by rfl, rfl⟩) ?_
         simp only [Act.put, List.setIfInBounds_toArray, List.set_cons_zero, List.set_cons_succ]))
    refine SeqS.alone (by decide +kernel) (by rfl) (fun K hK => ?_)
    go_simp
    go_at_call 12
    refine (q2.out _ S5).mono ?_
    rintro e w6 ⟨rfl, b6⟩
    go_simp
    have S6 : Below w3.heap.size w3 w6 := S5.trans (b6.mono S5.size)
    refine hK _ _ S6 ?_
    clear hK K
    repeat (first
      | (refine SeqS.take (v := .agg (C).toArray) (by first | assumption | trivial) (by kernel_rfl) (by decide +kernel) (by decide +kernel) (yields_blk (by rfl) 28 (.tmp 2) rfl rfl (fun w' h => LC.out w' h) (hrC)) ?_
         simp only [Act.put, List.setIfInBounds_toArray, List.set_cons_zero, List.set_cons_succ])
      | (refine SeqS.take (v := .agg (E b n d).toArray) (by first | assumption | trivial) (by kernel_rfl) (by decide +kernel) (by decide +kernel) (yields_blk (by rfl) 28 (.tmp 5) rfl rfl (fun w' h => LE.out w' h) (hrE)) ?_
         simp only [Act.put, List.setIfInBounds_toArray, List.set_cons_zero, List.set_cons_succ])
      | (refine SeqS.take (v := ?_) (by first | assumption | trivial) (by kernel_rfl) (by decide +kernel) (by decide +kernel) (Or.inl ⟨by rfl, ?_⟩) ?_
         rotate_left
         focus
           intro w' hb'
           go_simp
           with_reducible rfl
         simp only [Act.put, List.setIfInBounds_toArray, List.set_cons_zero, List.set_cons_succ])
      | (refine SeqS.take (v := undef) (by first | assumption | trivial) (by kernel_rfl) (by decide +kernel) (by decide +kernel) (Or.inr ⟨by rfl, rfl⟩) ?_
         simp only [Act.put, List.setIfInBounds_toArray, List.set_cons_zero, List.set_cons_succ])
      | (refine SeqS.take1 (v := .agg (C).toArray) (by first | assumption | trivial) (by kernel_rfl) (by decide +kernel) (by decide +kernel) (yields_blk (by rfl) 28 (.tmp 2) rfl rfl (fun w' h => LC.out w' h) (hrC)) ?_
         simp only [Act.put, List.setIfInBounds_toArray, List.set_cons_zero, List.set_cons_succ])
      | (refine SeqS.take1 (v := .agg (E b n d).toArray) (by first | assumption | trivial) (by kernel_rfl) (by decide +kernel) (by decide +kernel) (yields_blk (by rfl) 28 (.tmp 5) rfl rfl (fun w' h => LE.out w' h) (hrE)) ?_
         simp only [Act.put, List.setIfInBounds_toArray, List.set_cons_zero, List.set_cons_succ])
      | (refine SeqS.take1 (v := ?_) (by first | assumption | trivial) (by kernel_rfl) (by decide +kernel) (by decide +kernel) (Or.inl ⟨by rfl, ?_⟩) ?_
         rotate_left
         focus
           intro w' hb'
           go_simp
           with_reducible rfl
         simp only [Act.put, List.setIfInBounds_toArray, List.set_cons_zero, List.set_cons_succ])
      | (refine SeqS.take1 (v := undef) (by first | assumption | trivial) (by kernel_rfl) (by decide +kernel) (by decide +kernel) (Or.inr ⟨by rfl, rfl⟩) ?_
         simp only [Act.put, List.setIfInBounds_toArray, List.set_cons_zero, List.set_cons_succ])
      | (refine SeqS.take2 (v := .agg (C).toArray) (by first | assumption | trivial) (by kernel_rfl) (by decide +kernel) (by decide +kernel) (yields_blk (by rfl) 28 (.tmp 2) rfl rfl (fun w' h => LC.out w' h) (hrC)) ?_
         simp only [Act.put, List.setIfInBounds_toArray, List.set_cons_zero, List.set_cons_succ])
      | (refine SeqS.take2 (v := .agg (E b n d).toArray) (by first | assumption | trivial) (by kernel_rfl) (by decide +kernel) (by decide +kernel) (yields_blk (by rfl) 28 (.tmp 5) rfl rfl (fun w' h => LE.out w' h) (hrE)) ?_
         simp only [Act.put, List.setIfInBounds_toArray, List.set_cons_zero, List.set_cons_succ])
      | (refine SeqS.take2 (v := ?_) (by first | assumption | trivial) (by kernel_rfl) (by decide +kernel) (by decide +kernel) (Or.inl ⟨by rfl, ?_⟩) ?_
         rotate_left
         focus
           intro w' hb'
           go_simp
           with_reducible rfl
         simp only [Act.put, List.setIfInBounds_toArray, List.set_cons_zero, List.set_cons_succ])
      | (refine SeqS.take2 (v := undef) (by first | assumption | trivial) (by kernel_rfl) (by decide +kernel) (by decide +kernel) (Or.inr ⟨by rfl, rfl⟩) ?_
         simp only [Act.put, List.setIfInBounds_toArray, List.set_cons_zero, List.set_cons_succ]))
    refine SeqS.alone (by decide +kernel) (by rfl) (fun K hK => ?_)
    go_simp
    go_at_call 15
    refine (q3.out _ S6).mono ?_
    rintro e w7 ⟨rfl, b7⟩
    go_simp
    have S7 : Below w3.heap.size w3 w7 := S6.trans (b7.mono S6.size)
    refine hK _ _ S7 ?_
    clear hK K
    repeat (first
      | (refine SeqS.take (v := .agg (C).toArray) (by first | assumption | trivial) (by kernel_rfl) (by decide +kernel) (by decide +kernel) (yields_blk (by rfl) 28 (.tmp 2) rfl rfl (fun w' h => LC.out w' h) (hrC)) ?_
         simp only [Act.put, List.setIfInBounds_toArray, List.set_cons_zero, List.set_cons_succ])
      | (refine SeqS.take (v := .agg (E b n d).toArray) (by first | assumption | trivial) (by kernel_rfl) (by decide +kernel) (by decide +kernel) (yields_blk (by rfl) 28 (.tmp 5) rfl rfl (fun w' h => LE.out w' h) (hrE)) ?_
         simp only [Act.put, List.setIfInBounds_toArray, List.set_cons_zero, List.set_cons_succ])
      | (refine SeqS.take (v := ?_) (by first | assumption | trivial) (by kernel_rfl) (by decide +kernel) (by decide +kernel) (Or.inl ⟨by rfl, ?_⟩) ?_
         rotate_left
         focus
           intro w' hb'
           go_simp
           with_reducible rfl
         simp only [Act.put, List.setIfInBounds_toArray, List.set_cons_zero, List.set_cons_succ])
      | (refine SeqS.take (v := undef) (by first | assumption | trivial) (by kernel_rfl) (by decide +kernel) (by decide +kernel) (Or.inr ⟨by rfl, rfl⟩) ?_
         simp only [Act.put, List.setIfInBounds_toArray, List.set_cons_zero, List.set_cons_succ])
      | (refine SeqS.take1 (v := .agg (C).toArray) (by first | assumption | trivial) (by kernel_rfl) (by decide +kernel) (by decide +kernel) (yields_blk (by rfl) 28 (.tmp 2) rfl rfl (fun w' h => LC.out w' h) (hrC)) ?_
         simp only [Act.put, List.setIfInBounds_toArray, List.set_cons_zero, List.set_cons_succ])
      | (refine SeqS.take1 (v := .agg (E b n d).toArray) (by first | assumption | trivial) (by kernel_rfl) (by decide +kernel) (by decide +kernel) (yields_blk (by rfl) 28 (.tmp 5) rfl rfl (fun w' h => LE.out w' h) (hrE)) ?_
         simp only [Act.put, List.setIfInBounds_toArray, List.set_cons_zero, List.set_cons_succ])
      | (refine SeqS.take1 (v := ?_) (by first | assumption | trivial) (by kernel_rfl) (by decide +kernel) (by decide +kernel) (Or.inl ⟨by rfl, ?_⟩) ?_
         rotate_left
         focus
           intro w' hb'
           go_simp
           with_reducible rfl
         simp only [Act.put, List.setIfInBounds_toArray, List.set_cons_zero, List.set_cons_succ])
      | (refine SeqS.take1 (v := undef) (by first | assumption | trivial) (by kernel_rfl) (by decide +kernel) (by decide +kernel) (Or.inr ⟨by rfl, rfl⟩) ?_
         simp only [Act.put, List.setIfInBounds_toArray, List.set_cons_zero, List.set_cons_succ])
      | (refine SeqS.take2 (v := .agg (C).toArray) (by first | assumption | trivial) (by kernel_rfl) (by decide +kernel) (by decide +kernel) (yields_blk (by rfl) 28 (.tmp 2) rfl rfl (fun w' h => LC.out w' h) (hrC)) ?_
         simp only [Act.put, List.setIfInBounds_toArray, List.set_cons_zero, List.set_cons_succ])
      | (refine SeqS.take2 (v := .agg (E b n d).toArray) (by first | assumption | trivial) (by kernel_rfl) (by decide +kernel) (by decide +kernel) (yields_blk (by rfl) 28 (.tmp 5) rfl rfl (fun w' h => LE.out w' h) (hrE)) ?_
         simp only [Act.put, List.setIfInBounds_toArray, List.set_cons_zero, List.set_cons_succ])
      | (refine SeqS.take2 (v := ?_) (by first | assumption | trivial) (by kernel_rfl) (by decide +kernel) (by decide +kernel) (Or.inl ⟨by rfl, ?_⟩) ?_
         rotate_left
         focus
           intro w' hb'
           go_simp
           with_reducible rfl
         simp only [Act.put, List.setIfInBounds_toArray, List.set_cons_zero, List.set_cons_succ])
      | (refine SeqS.take2 (v := undef) (by first | assumption | trivial) (by kernel_rfl) (by decide +kernel) (by decide +kernel) (Or.inr ⟨by rfl, rfl⟩) ?_
         simp only [Act.put, List.setIfInBounds_toArray, List.set_cons_zero, List.set_cons_succ]))
    refine SeqS.alone (by decide +kernel) (by rfl) (fun K hK => ?_)
    go_simp
    go_at_call 12
    refine (q4.out _ S7).mono ?_
    rintro e w8 ⟨rfl, b8⟩
    go_simp
    have S8 : Below w3.heap.size w3 w8 := S7.trans (b8.mono S7.size)
    refine hK _ _ S8 ?_
    clear hK K
    repeat (first
      | (refine SeqS.take (v := ?_) (by first | assumption | trivial) (by kernel_rfl) (by decide +kernel) (by decide +kernel) (Or.inl ⟨by rfl, ?_⟩) ?_
         rotate_left
         focus
           intro w' hb'
           go_simp
           with_reducible rfl
         simp only [Act.put, List.setIfInBounds_toArray, List.set_cons_zero, List.set_cons_succ])
      | (refine SeqS.take (v := undef) (by first | assumption | trivial) (by kernel_rfl) (by decide +kernel) (by decide +kernel) (Or.inr ⟨by rfl, rfl⟩) ?_
         simp only [Act.put, List.setIfInBounds_toArray, List.set_cons_zero, List.set_cons_succ])
      | (refine SeqS.take1 (v := ?_) (by first | assumption | trivial) (by kernel_rfl) (by decide +kernel) (by decide +kernel) (Or.inl ⟨by rfl, ?_⟩) ?_
         rotate_left
         focus
           intro w' hb'
           go_simp
           with_reducible rfl
         simp only [Act.put, List.setIfInBounds_toArray, List.set_cons_zero, List.set_cons_succ])
      | (refine SeqS.take1 (v := undef) (by first | assumption | trivial) (by kernel_rfl) (by decide +kernel) (by decide +kernel) (Or.inr ⟨by rfl, rfl⟩) ?_
         simp only [Act.put, List.setIfInBounds_toArray, List.set_cons_zero, List.set_cons_succ])
      | (refine SeqS.take2 (v := ?_) (by first | assumption | trivial) (by kernel_rfl) (by decide +kernel) (by decide +kernel) (Or.inl ⟨by rfl, ?_⟩) ?_
         rotate_left
         focus
           intro w' hb'
           go_simp
           with_reducible rfl
         simp only [Act.put, List.setIfInBounds_toArray, List.set_cons_zero, List.set_cons_succ])
      | (refine SeqS.take2 (v := undef) (by first | assumption | trivial) (by kernel_rfl) (by decide +kernel) (by decide +kernel) (Or.inr ⟨by rfl, rfl⟩) ?_
         simp only [Act.put, List.setIfInBounds_toArray, List.set_cons_zero, List.set_cons_succ]))
    refine SeqS.done (by decide +kernel) ?_
    have B8 := B3H.out.trans (S8.mono B3H.out.size)
    have hG8 := H3.out.1.keep S8 H3.out.1.lt
    have hN8 := H3.out.2.1.keep S8 H3.out.2.1.lt
    have hBy8 : Bys w8 b n d := by
      refine ⟨H3.out.2.2.1, ?_⟩
      rcases H3.out.2.2.2 with h0 | ⟨k, cs, ha, hk, hv⟩
      · exact .inl h0
      · exact .inr ⟨k, cs, ha, hk.keep S8 hk.lt, hv⟩
    have c5 := e5.out w8 hG8
    have v1 := vs.out w8 B8
    have n5 := f5.out w8 N b d hN8
    clear b3 b5 b6 b7 b8 S5 S6 S7 S8 q1 q2 q3 q4 LC LD LE B3H H3 hrE
    go_wp2_with fail
    go_loopw [46] (fun i wr => ∃ j : Nat, j ≤ n ∧ i = .int .i64 j ∧ Bys wr b n d ∧ Moved (At b n) w8 wr) (fun i _ => n - (intOf i).toNat)
    case atStart => exact ⟨0, Nat.zero_le _, rfl, hBy8, Moved.rfl'⟩
    case round =>
      clear c5 v1 n5
      obtain ⟨j, hj, rfl, hBy, hMv⟩ := hrel
      have nN : ¬ At b n N := fun h => by have := (hoB1 N h).2; omega
      have nG : ¬ At b n G := fun h => by have := (hoB1 G h).1; omega
      by_cases hlt : j < n
      · have hji : (j : Int) < (n : Int) := by omega
        obtain ⟨o, v, rfl, hc, hf, hinc⟩ := hBy.inc j hlt
        have hNr : Blk wr N 28 (E (some ⟨o, 0, none⟩) n d) := (hMv.2 N hN8.lt nN).trans hN8
        have n5 := f5.out wr N (some ⟨o, 0, none⟩) d hNr
        have hltH := Lib.hid hlt
        clear hlt hj hNr nN nG
        go_wp2
        exact ⟨⟨j + 1, by have := hltH.out; omega, by congr 1, (hinc _).1, hMv.then (hinc _).2⟩, by simp only [intOf]; have := hltH.out; omega⟩
      · have hji : ¬ (j : Int) < (n : Int) := by omega
        have hGr : Blk wr G 28 C := (hMv.2 G hG8.lt nG).trans hG8
        have Br := B8.trans (hMv.below (fun x hx => Nat.le_trans hwV (hoB1 x hx).1) B8.size)
        have c5 := e5.out wr hGr
        have v1 := vs.out wr Br
        clear hlt hj hMv hBy hBy8 hG8 hN8 B8 hGr nN nG
        go_wp2_with fail
        refine (alive14_any wr).mono ?_
        rintro q w9 ⟨rfl, b9⟩
        go_wp2
        go_ret
        exact ⟨by first | rfl | simp, Br.trans (b9.mono Br.size)⟩
end Go.Proofs.Ytgaelgpmmgjldaa

/-
  The laws MessageReads, MessageBytes and MessageCopies, as their statements' frames take them. Conditions: the rows' own.
-/
namespace Go.Proofs.Ytgaelgpmmgjldaa
open Go.RowKit

theorem byte_of14 {z : Int} (h : (Lit.int .u8 z).wf = true) : 0 ≤ z ∧ z < 256 := by
  simp [Lit.wf, IntKind.min, IntKind.max, IntKind.signed, IntKind.bits] at h
  omega
theorem law_msreads (a : Option Addr) (n c : Nat) (xs : List Int) (w : World) (hI : Ints .u8 w a n c xs) (hr : ∀ x ∈ xs, (Lit.int .u8 x).wf = true) (_hm : c ≤ maxLen) :
    Calls Try.prog 4 #[.slice a n c] w fun q w' => q = .returned (.bool true) ∧ Below w.heap.size w w' :=
  msReads_any a n c xs w hI (fun x hx => byte_of14 (hr x hx))
theorem law_msbytes (K S Q O : Int) (H : List Int) (a : Option Addr) (n c : Nat) (xs : List Int) (w : World) (hM : MsgOk ⟨K, S, Q, O, H, xs⟩) (hI : Ints .u8 w a n c xs) :
    Calls Try.prog 3 #[.agg (msC K S Q O H a n c).toArray] w fun q w' => q = .returned (.bool true) ∧ Below w.heap.size w w' :=
  msBytes_any K S Q O H a n c xs w hM hI
theorem law_mscopies (K S Q O : Int) (H : List Int) (a : Option Addr) (n c : Nat) (xs : List Int) (K' S' Q' O' : Int) (H' : List Int) (a' : Option Addr) (n' c' : Nat) (ys : List Int) (w : World) (hM : MsgOk ⟨K, S, Q, O, H, xs⟩) (hI : Ints .u8 w a n c xs) (hM' : MsgOk ⟨K', S', Q', O', H', ys⟩) (hJ : Ints .u8 w a' n' c' ys) :
    Calls Try.prog 5 #[.agg (msC K S Q O H a n c).toArray, .agg (msC K' S' Q' O' H' a' n' c').toArray] w fun q w' => q = .returned (.bool true) ∧ Below w.heap.size w w' :=
  msCopies_any K S Q O H a n c xs K' S' Q' O' H' a' n' c' ys w hM hM' hI hJ
end Go.Proofs.Ytgaelgpmmgjldaa
