/-
  Texts of stages that were proved on their own, joined: MsDecode, MrValue, MrDecode, MrDecodeU. Each begins with its own words.
-/
import Derived.Test.YtgaelgpmmgjldaaJMsAll9
import Derived.Test.YtgaelgpmmgjldaaJMsAll10
import Derived.Test.YtgaelgpmmgjldaaJMsAll11

/-
  What message's Decode comes to. New memory alone is written. Conditions: bytes below 256, at most a million. (Made by wip/tools/mk_msdecode.py.)
-/
namespace Go.Proofs.Ytgaelgpmmgjldaa
open Go.RowKit

/-- A message's cells, its blob at b. -/
def mC (m : MsgV) (b : Option Addr) (d : Nat) : List Value := msC m.kind m.ses m.seq m.quo m.hint b m.blob.length d
/-- What a decoding ends with. -/
def DecEnd (xs : List Int) (w : World) (q : Ending) (w' : World) : Prop := ∃ b d, q = .returned (.tuple #[.agg (mC (decM xs).1 b d).toArray, .int .i64 (decM xs).2]) ∧ Ints .u8 w' b (decM xs).1.blob.length d (decM xs).1.blob ∧ (∀ x, b = some x → w.heap.size ≤ x.block) ∧ Below w.heap.size w w'

set_option maxRecDepth 100000 in
set_option maxHeartbeats 4000000 in
theorem msDecode_other (a : Option Addr) (n c : Nat) (xs : List Int) (w : World) (hI : Ints .u8 w a n c xs) (hr : ∀ x ∈ xs, 0 ≤ x ∧ x < 256) (hn : n ≤ 1000000) (hk0 : ¬ (kindOf xs = 1 ∨ kindOf xs = 2 ∨ kindOf xs = 3 ∨ kindOf xs = 4)) :
    Calls Try.prog 11 #[.slice a n c] w (DecEnd xs w) := by
  have hln := hI.len
  have hb := below1 w (.cells (msC 0 0 0 0 z16 none 0 0).toArray 28)
  have hk : Blk (w.alloc (.cells (msC 0 0 0 0 z16 none 0 0).toArray 28)) w.heap.size 28 (msC 0 0 0 0 z16 none 0 0) := Blk.new w _ _
  obtain ⟨V, hV⟩ : ∃ V, w.alloc (.cells (msC 0 0 0 0 z16 none 0 0).toArray 28) = V := ⟨_, rfl⟩
  rw [hV] at hb hk
  have hnew := Lib.hid (pNew_any a n c xs V (hI.keep hb) hr hn)
  obtain ⟨G, g9⟩ : ∃ G, w.heap.size = G := ⟨_, rfl⟩
  rw [g9] at hk
  have gH := Lib.hid g9
  obtain ⟨⟨P1, E1, k⟩, hq1⟩ : ∃ q, rdNum xs 0 0 1 = q := ⟨_, rfl⟩
  have hkd : kindOf xs = k := by unfold kindOf; rw [hq1]
  have hkr := kindOf_range hr
  rw [hkd] at hkr
  have k64 : wrap64 k = k := by unfold wrap64; omega
  have k64' : IntKind.i64.wrap k = k := by rw [IntKind.wrap_i64]; omega
  have hbt := built_ms1 k
  have hbt0 := built_ms0
  obtain ⟨B, hB⟩ : ∃ B, msC k 0 0 0 z16 none 0 0 = B := ⟨_, rfl⟩
  have hBH := Lib.hid hB
  have hBl : B.length = 21 := by rw [← hB]; exact msC_len z16_len
  have hB1' : ∀ v ∈ B, v.oneCell' = true := by rw [← hB]; exact msC_one _ _ _ _ _ _ _ _
  rw [hB] at hbt
  clear hB
  obtain ⟨Z, hZ⟩ : ∃ B, msC 0 0 0 0 z16 none 0 0 = B := ⟨_, rfl⟩
  have hZH := Lib.hid hZ
  have hZl : Z.length = 21 := by rw [← hZ]; exact msC_len z16_len
  have hZ1 : ∀ v ∈ Z, v.oneCell' = true := by rw [← hZ]; exact msC_one _ _ _ _ _ _ _ _
  rw [hZ] at hbt0
  clear hZ
  unfold DecEnd
  obtain ⟨E, hE0, hbad, hend0⟩ := decM_other hk0
  have hend := Lib.hid hend0
  rw [hkd] at hk0
  rw [hq1] at hbad
  dsimp only at hbad
  have n1 : (k == 1) = false := beq_false_of_ne (by omega)
  have n2 : (k == 2) = false := beq_false_of_ne (by omega)
  have n3 : (k == 3) = false := beq_false_of_ne (by omega)
  have n4 : (k == 4) = false := beq_false_of_ne (by omega)
  have hdn : doneOf xs.length (P1 : Int) E = E := doneOf_bad hE0
  clear hkr hkd hk0 hr hI hn hend0 hln
  go_enter Try.func11, Try.ntmps11
  go_wp2_with ((with_reducible refine wpList_alloc_blk rfl 28 rfl zeroMs ?_); refine RowKit.Hid.out ?_)
  refine Lib.hid ?_
  clear hV
  go_wp2_with fail
  refine hnew.out.mono ?_
  rintro r w1 ⟨g, F, rfl, hR1, hF1, b1⟩
  have hG1 := hk.keep b1 hk.lt
  have hB1 := hb.trans (b1.mono hb.size)
  have nG : Hid (¬ F G) := Lib.hid (fun h => by have := hF1 _ h; have := hk.lt; omega)
  have hFg : Hid (∀ b, F b → w.heap.size ≤ b) := Lib.hid (fun b hb' => Nat.le_trans hb.size (hF1 b hb'))
  clear hk hb b1 hnew hF1
  have cn := pNum_any 1 hR1
  rw [hq1] at cn
  dsimp only at cn
  clear hR1
  go_wp2_with fail
  refine cn.mono ?_
  rintro r w2 ⟨rfl, hR2, hm2⟩
  have hG2 : Blk w2 G 28 (msC 0 0 0 0 z16 none 0 0) := (hm2.2 G hG1.lt nG.out).trans hG1
  have hB2 := hB1.trans (hm2.below hFg.out hB1.size)
  clear cn hG1 hB1 hm2
  go_wp2_with ((with_reducible refine build_row rfl 28 #[(0, .tmp 11)] rfl (cells := B.toArray) ?_ ?_); (refine Eq.trans (congrArg _ ?_) hbt; kernel_rfl); refine RowKit.Hid.out ?_)
  refine Lib.hid ?_
  refine wpList_alloc_blk rfl 28 rfl zeroMs ?_
  try simp only [Act.put, List.setIfInBounds_toArray, List.set_cons_zero, List.set_cons_succ]
  have hGA := hG2.alloc (.cells (msC 0 0 0 0 z16 none 0 0).toArray 28)
  have hNA := Blk.new w2 28 (msC 0 0 0 0 z16 none 0 0)
  have hBA := hB2.alloc hB2.size (.cells (msC 0 0 0 0 z16 none 0 0).toArray 28)
  have hnG : G < w2.heap.size := hG2.lt
  have hRA := hR2.keep (w' := w2.alloc (.cells (msC 0 0 0 0 z16 none 0 0).toArray 28)) (fun b hb => Below.heap_alloc w2 _ b (hR2.lt b hb)) (by rw [size1]; omega)
  have nN0 : ¬ F w2.heap.size := fun h => Nat.lt_irrefl _ (hR2.lt _ h)
  obtain ⟨N, hN⟩ : ∃ N, w2.heap.size = N := ⟨_, rfl⟩
  rw [hN] at hNA hnG nN0 ⊢
  have nN := Lib.hid nN0
  have nGN := Lib.hid hnG
  obtain ⟨U, hU⟩ : ∃ W, w2.alloc (.cells (msC 0 0 0 0 z16 none 0 0).toArray 28) = W := ⟨_, rfl⟩
  rw [hU] at hGA hNA hBA hRA ⊢
  clear hR2 hG2 hB2 hN hU nN0
  refine store_row rfl 28 (.tmp 5) (.tmp 12) rfl rfl rfl hNA rowMs hBl (msC_len z16_len) hB1' ?_
  intro w3 hN3 hg3
  rw [← hBH.out] at hN3
  have hG3 := hGA.grown hg3 (fun e => by injection e with e; omega)
  have hR3 := hRA.keep (fun b hb => hg3.block b (hRA.lt b hb) (fun e => by injection e with e; subst e; exact nN.out hb)) hg3.size
  have hB3 := hBA.grown hg3 hBA.size (fun q hq => by injection hq with hq; have := gH.out; have := nGN.out; omega)
  have c0 := ms0 hN3
  clear hGA hNA hBA hRA hg3 hnG
  have cf := pFail_any 4 hR3
  rw [hbad] at cf
  clear hR3 hbad
  go_wp2_with fail
  refine cf.mono ?_
  rintro r w9 ⟨rfl, hR9, hm9⟩
  clear cf
  have hN9 : Blk w9 N 28 (msC k 0 0 0 z16 none 0 0) := (hm9.2 N hN3.lt nN.out).trans hN3
  have hG9 : Blk w9 G 28 (msC 0 0 0 0 z16 none 0 0) := (hm9.2 G hG3.lt nG.out).trans hG3
  have hB9 := hB3.trans (hm9.below hFg.out hB3.size)
  clear hN3 hG3 hB3 hm9
  have cd := pDone_any hR9
  rw [hdn] at cd
  have cdH := Lib.hid cd
  clear cd hR9
  go_wp2_with fail
  refine cdH.out.mono ?_
  rintro r wX ⟨rfl, bX⟩
  have hNX := hN9.keep bX hN9.lt
  have hGX := hG9.keep bX hG9.lt
  have hBX := hB9.trans (bX.mono hB9.size)
  clear cdH hN9 hG9 hB9
  have hnz : ¬ E = 0 := hE0
  have hnb : (E != 0) = true := bne_iff_ne.2 hE0
  go_wp2_with ((with_reducible refine build_row rfl 28 #[] rfl (cells := Z.toArray) ?_ ?_); (refine Eq.trans (congrArg _ ?_) hbt0; kernel_rfl); refine RowKit.Hid.out ?_)
  refine Lib.hid ?_
  refine wpList_mv rfl (.tmp 6) rfl rfl ?_
  try simp only [Act.put, List.setIfInBounds_toArray, List.set_cons_zero, List.set_cons_succ]
  refine store_row rfl 28 (.tmp 2) (.tmp 53) rfl rfl rfl hGX rowMs hZl (msC_len z16_len) hZ1 ?_
  intro wY hGY hgY
  have hrZ : IsRow Try.prog 28 Z.length := by rw [hZl]; exact rowMs
  go_wp2_with fail
  refine bodyPost_ret (results_blk_tmp rfl rfl hGY hrZ) rfl ?_
  rw [hend.out]
  exact ⟨none, 0, by rw [← hZH.out]; rfl, ⟨rfl, Nat.le_refl _, .inl rfl⟩, (fun x hx => by cases hx), hBX.grown hgY hBX.size (fun q hq => by injection hq with hq; have := gH.out; omega)⟩

set_option maxRecDepth 100000 in
set_option maxHeartbeats 4000000 in
theorem msDecode_open (a : Option Addr) (n c : Nat) (xs : List Int) (w : World) (hI : Ints .u8 w a n c xs) (hr : ∀ x ∈ xs, 0 ≤ x ∧ x < 256) (hn : n ≤ 1000000) (hk0 : kindOf xs = 1) :
    Calls Try.prog 11 #[.slice a n c] w (DecEnd xs w) := by
  have hln := hI.len
  have hb := below1 w (.cells (msC 0 0 0 0 z16 none 0 0).toArray 28)
  have hk : Blk (w.alloc (.cells (msC 0 0 0 0 z16 none 0 0).toArray 28)) w.heap.size 28 (msC 0 0 0 0 z16 none 0 0) := Blk.new w _ _
  obtain ⟨V, hV⟩ : ∃ V, w.alloc (.cells (msC 0 0 0 0 z16 none 0 0).toArray 28) = V := ⟨_, rfl⟩
  rw [hV] at hb hk
  have hnew := Lib.hid (pNew_any a n c xs V (hI.keep hb) hr hn)
  obtain ⟨G, g9⟩ : ∃ G, w.heap.size = G := ⟨_, rfl⟩
  rw [g9] at hk
  have gH := Lib.hid g9
  obtain ⟨⟨P1, E1, k⟩, hq1⟩ : ∃ q, rdNum xs 0 0 1 = q := ⟨_, rfl⟩
  have hkd : kindOf xs = k := by unfold kindOf; rw [hq1]
  have hkr := kindOf_range hr
  rw [hkd] at hkr
  have k64 : wrap64 k = k := by unfold wrap64; omega
  have k64' : IntKind.i64.wrap k = k := by rw [IntKind.wrap_i64]; omega
  have hbt := built_ms1 k
  have hbt0 := built_ms0
  obtain ⟨B, hB⟩ : ∃ B, msC k 0 0 0 z16 none 0 0 = B := ⟨_, rfl⟩
  have hBH := Lib.hid hB
  have hBl : B.length = 21 := by rw [← hB]; exact msC_len z16_len
  have hB1' : ∀ v ∈ B, v.oneCell' = true := by rw [← hB]; exact msC_one _ _ _ _ _ _ _ _
  rw [hB] at hbt
  clear hB
  obtain ⟨Z, hZ⟩ : ∃ B, msC 0 0 0 0 z16 none 0 0 = B := ⟨_, rfl⟩
  have hZH := Lib.hid hZ
  have hZl : Z.length = 21 := by rw [← hZ]; exact msC_len z16_len
  have hZ1 : ∀ v ∈ Z, v.oneCell' = true := by rw [← hZ]; exact msC_one _ _ _ _ _ _ _ _
  rw [hZ] at hbt0
  clear hZ
  unfold DecEnd
  obtain ⟨⟨P2, E2, v⟩, hq2⟩ : ∃ q, rdOne xs 2 = q := ⟨_, rfl⟩
  obtain ⟨E, hdn, hend1, hend2, hv⟩ := decM_open hr hk0
  rw [hq2] at hdn hend2 hv
  dsimp only at hdn hend2 hv
  rw [hkd] at hk0
  subst hk0
  unfold rdOne at hq2
  rw [hq1] at hq2
  dsimp only at hq2
  have v32 : v % 4294967296 = v := by omega
  clear hkr hkd hr hI hn hln hv
  by_cases hE0 : E = 0
  · have hend := Lib.hid (hend2 hE0)
    have hl2 : (msC 1 0 0 v z16 none 0 0).length = 21 := msC_len z16_len
    clear hend1 hend2
    go_enter Try.func11, Try.ntmps11
    go_wp2_with ((with_reducible refine wpList_alloc_blk rfl 28 rfl zeroMs ?_); refine RowKit.Hid.out ?_)
    refine Lib.hid ?_
    clear hV
    go_wp2_with fail
    refine hnew.out.mono ?_
    rintro r w1 ⟨g, F, rfl, hR1, hF1, b1⟩
    have hG1 := hk.keep b1 hk.lt
    have hB1 := hb.trans (b1.mono hb.size)
    have nG : Hid (¬ F G) := Lib.hid (fun h => by have := hF1 _ h; have := hk.lt; omega)
    have hFg : Hid (∀ b, F b → w.heap.size ≤ b) := Lib.hid (fun b hb' => Nat.le_trans hb.size (hF1 b hb'))
    clear hk hb b1 hnew hF1
    have cn := pNum_any 1 hR1
    rw [hq1] at cn
    dsimp only at cn
    clear hR1
    go_wp2_with fail
    refine cn.mono ?_
    rintro r w2 ⟨rfl, hR2, hm2⟩
    have hG2 : Blk w2 G 28 (msC 0 0 0 0 z16 none 0 0) := (hm2.2 G hG1.lt nG.out).trans hG1
    have hB2 := hB1.trans (hm2.below hFg.out hB1.size)
    clear cn hG1 hB1 hm2
    go_wp2_with ((with_reducible refine build_row rfl 28 #[(0, .tmp 11)] rfl (cells := B.toArray) ?_ ?_); (refine Eq.trans (congrArg _ ?_) hbt; kernel_rfl); refine RowKit.Hid.out ?_)
    refine Lib.hid ?_
    refine wpList_alloc_blk rfl 28 rfl zeroMs ?_
    try simp only [Act.put, List.setIfInBounds_toArray, List.set_cons_zero, List.set_cons_succ]
    have hGA := hG2.alloc (.cells (msC 0 0 0 0 z16 none 0 0).toArray 28)
    have hNA := Blk.new w2 28 (msC 0 0 0 0 z16 none 0 0)
    have hBA := hB2.alloc hB2.size (.cells (msC 0 0 0 0 z16 none 0 0).toArray 28)
    have hnG : G < w2.heap.size := hG2.lt
    have hRA := hR2.keep (w' := w2.alloc (.cells (msC 0 0 0 0 z16 none 0 0).toArray 28)) (fun b hb => Below.heap_alloc w2 _ b (hR2.lt b hb)) (by rw [size1]; omega)
    have nN0 : ¬ F w2.heap.size := fun h => Nat.lt_irrefl _ (hR2.lt _ h)
    obtain ⟨N, hN⟩ : ∃ N, w2.heap.size = N := ⟨_, rfl⟩
    rw [hN] at hNA hnG nN0 ⊢
    have nN := Lib.hid nN0
    have nGN := Lib.hid hnG
    obtain ⟨U, hU⟩ : ∃ W, w2.alloc (.cells (msC 0 0 0 0 z16 none 0 0).toArray 28) = W := ⟨_, rfl⟩
    rw [hU] at hGA hNA hBA hRA ⊢
    clear hR2 hG2 hB2 hN hU nN0
    refine store_row rfl 28 (.tmp 5) (.tmp 12) rfl rfl rfl hNA rowMs hBl (msC_len z16_len) hB1' ?_
    intro w3 hN3 hg3
    rw [← hBH.out] at hN3
    have hG3 := hGA.grown hg3 (fun e => by injection e with e; omega)
    have hR3 := hRA.keep (fun b hb => hg3.block b (hRA.lt b hb) (fun e => by injection e with e; subst e; exact nN.out hb)) hg3.size
    have hB3 := hBA.grown hg3 hBA.size (fun q hq => by injection hq with hq; have := gH.out; have := nGN.out; omega)
    have c0 := ms0 hN3
    clear hGA hNA hBA hRA hg3 hnG
    have cn := pNum_any 2 hR3
    rw [hq2] at cn
    dsimp only at cn
    clear hR3
    have cnH := Lib.hid cn
    clear cn
    go_wp2_with fail
    refine cnH.out.mono ?_
    rintro r w4 ⟨rfl, hR4, hm4⟩
    clear cnH
    have hN4 : Blk w4 N 28 (msC 1 0 0 0 z16 none 0 0) := (hm4.2 N hN3.lt nN.out).trans hN3
    have hG4 : Blk w4 G 28 (msC 0 0 0 0 z16 none 0 0) := (hm4.2 G hG3.lt nG.out).trans hG3
    have hB4 := hB3.trans (hm4.below hFg.out hB3.size)
    clear hN3 hG3 hB3 hm4
    have d0 := hN4.cell 3
    have f0 := hN4.frozen 3
    have hN9 : Blk (w4.setCell ⟨N, 3, none⟩ (.int .u32 v)) N 28 (msC 1 0 0 v z16 none 0 0) := hN4.set 3 (.int .u32 v)
    have hG9 : Blk (w4.setCell ⟨N, 3, none⟩ (.int .u32 v)) G 28 (msC 0 0 0 0 z16 none 0 0) := hG4.far (by show G ≠ N; have := nGN.out; omega) _
    have hB9 : Below w.heap.size w (w4.setCell ⟨N, 3, none⟩ (.int .u32 v)) := hB4.setCell (p := ⟨N, 3, none⟩) (by show w.heap.size ≤ N; have := nGN.out; have := gH.out; omega) _
    have hR9 := hR4.keep (w' := w4.setCell ⟨N, 3, none⟩ (.int .u32 v)) (fun b hb => Below.heap_setCell w4 ⟨N, 3, none⟩ _ b (by show b ≠ N; intro e; subst e; exact nN.out hb)) (Nat.le_of_eq (by simp))
    obtain ⟨w9, hw9⟩ : ∃ W, w4.setCell ⟨N, 3, none⟩ (.int .u32 v) = W := ⟨_, rfl⟩
    rw [hw9] at hN9 hG9 hB9 hR9
    clear hN4 hG4 hB4 hR4
    have cd := pDone_any hR9
    rw [hdn] at cd
    have cdH := Lib.hid cd
    clear cd hR9
    go_wp2_with fail
    refine cdH.out.mono ?_
    rintro r wX ⟨rfl, bX⟩
    have hNX := hN9.keep bX hN9.lt
    have hGX := hG9.keep bX hG9.lt
    have hBX := hB9.trans (bX.mono hB9.size)
    clear cdH hN9 hG9 hB9
    subst hE0
    go_wp2_with ((with_reducible refine wpList_load_blk rfl 28 (.tmp 5) rfl ?_ hNX rowMs hl2 ?_); rfl; refine RowKit.Hid.out ?_)
    refine Lib.hid ?_
    refine store_row rfl 28 (.tmp 2) (.tmp 55) rfl rfl rfl hGX rowMs hl2 (msC_len z16_len) (msC_one _ _ _ _ _ _ _ _) ?_
    intro wY hGY hgY
    have hrZ : IsRow Try.prog 28 (msC 1 0 0 v z16 none 0 0).length := by rw [hl2]; exact rowMs
    go_wp2_with fail
    refine bodyPost_ret (results_blk_tmp rfl rfl hGY hrZ) rfl ?_
    rw [hend.out]
    exact ⟨none, 0, rfl, ⟨rfl, Nat.le_refl _, .inl rfl⟩, (fun x hx => by cases hx), hBX.grown hgY hBX.size (fun q hq => by injection hq with hq; have := gH.out; omega)⟩
  · have hend := Lib.hid (hend1 hE0)
    clear hend1 hend2
    go_enter Try.func11, Try.ntmps11
    go_wp2_with ((with_reducible refine wpList_alloc_blk rfl 28 rfl zeroMs ?_); refine RowKit.Hid.out ?_)
    refine Lib.hid ?_
    clear hV
    go_wp2_with fail
    refine hnew.out.mono ?_
    rintro r w1 ⟨g, F, rfl, hR1, hF1, b1⟩
    have hG1 := hk.keep b1 hk.lt
    have hB1 := hb.trans (b1.mono hb.size)
    have nG : Hid (¬ F G) := Lib.hid (fun h => by have := hF1 _ h; have := hk.lt; omega)
    have hFg : Hid (∀ b, F b → w.heap.size ≤ b) := Lib.hid (fun b hb' => Nat.le_trans hb.size (hF1 b hb'))
    clear hk hb b1 hnew hF1
    have cn := pNum_any 1 hR1
    rw [hq1] at cn
    dsimp only at cn
    clear hR1
    go_wp2_with fail
    refine cn.mono ?_
    rintro r w2 ⟨rfl, hR2, hm2⟩
    have hG2 : Blk w2 G 28 (msC 0 0 0 0 z16 none 0 0) := (hm2.2 G hG1.lt nG.out).trans hG1
    have hB2 := hB1.trans (hm2.below hFg.out hB1.size)
    clear cn hG1 hB1 hm2
    go_wp2_with ((with_reducible refine build_row rfl 28 #[(0, .tmp 11)] rfl (cells := B.toArray) ?_ ?_); (refine Eq.trans (congrArg _ ?_) hbt; kernel_rfl); refine RowKit.Hid.out ?_)
    refine Lib.hid ?_
    refine wpList_alloc_blk rfl 28 rfl zeroMs ?_
    try simp only [Act.put, List.setIfInBounds_toArray, List.set_cons_zero, List.set_cons_succ]
    have hGA := hG2.alloc (.cells (msC 0 0 0 0 z16 none 0 0).toArray 28)
    have hNA := Blk.new w2 28 (msC 0 0 0 0 z16 none 0 0)
    have hBA := hB2.alloc hB2.size (.cells (msC 0 0 0 0 z16 none 0 0).toArray 28)
    have hnG : G < w2.heap.size := hG2.lt
    have hRA := hR2.keep (w' := w2.alloc (.cells (msC 0 0 0 0 z16 none 0 0).toArray 28)) (fun b hb => Below.heap_alloc w2 _ b (hR2.lt b hb)) (by rw [size1]; omega)
    have nN0 : ¬ F w2.heap.size := fun h => Nat.lt_irrefl _ (hR2.lt _ h)
    obtain ⟨N, hN⟩ : ∃ N, w2.heap.size = N := ⟨_, rfl⟩
    rw [hN] at hNA hnG nN0 ⊢
    have nN := Lib.hid nN0
    have nGN := Lib.hid hnG
    obtain ⟨U, hU⟩ : ∃ W, w2.alloc (.cells (msC 0 0 0 0 z16 none 0 0).toArray 28) = W := ⟨_, rfl⟩
    rw [hU] at hGA hNA hBA hRA ⊢
    clear hR2 hG2 hB2 hN hU nN0
    refine store_row rfl 28 (.tmp 5) (.tmp 12) rfl rfl rfl hNA rowMs hBl (msC_len z16_len) hB1' ?_
    intro w3 hN3 hg3
    rw [← hBH.out] at hN3
    have hG3 := hGA.grown hg3 (fun e => by injection e with e; omega)
    have hR3 := hRA.keep (fun b hb => hg3.block b (hRA.lt b hb) (fun e => by injection e with e; subst e; exact nN.out hb)) hg3.size
    have hB3 := hBA.grown hg3 hBA.size (fun q hq => by injection hq with hq; have := gH.out; have := nGN.out; omega)
    have c0 := ms0 hN3
    clear hGA hNA hBA hRA hg3 hnG
    have cn := pNum_any 2 hR3
    rw [hq2] at cn
    dsimp only at cn
    clear hR3
    have cnH := Lib.hid cn
    clear cn
    go_wp2_with fail
    refine cnH.out.mono ?_
    rintro r w4 ⟨rfl, hR4, hm4⟩
    clear cnH
    have hN4 : Blk w4 N 28 (msC 1 0 0 0 z16 none 0 0) := (hm4.2 N hN3.lt nN.out).trans hN3
    have hG4 : Blk w4 G 28 (msC 0 0 0 0 z16 none 0 0) := (hm4.2 G hG3.lt nG.out).trans hG3
    have hB4 := hB3.trans (hm4.below hFg.out hB3.size)
    clear hN3 hG3 hB3 hm4
    have d0 := hN4.cell 3
    have f0 := hN4.frozen 3
    have hN9 : Blk (w4.setCell ⟨N, 3, none⟩ (.int .u32 v)) N 28 (msC 1 0 0 v z16 none 0 0) := hN4.set 3 (.int .u32 v)
    have hG9 : Blk (w4.setCell ⟨N, 3, none⟩ (.int .u32 v)) G 28 (msC 0 0 0 0 z16 none 0 0) := hG4.far (by show G ≠ N; have := nGN.out; omega) _
    have hB9 : Below w.heap.size w (w4.setCell ⟨N, 3, none⟩ (.int .u32 v)) := hB4.setCell (p := ⟨N, 3, none⟩) (by show w.heap.size ≤ N; have := nGN.out; have := gH.out; omega) _
    have hR9 := hR4.keep (w' := w4.setCell ⟨N, 3, none⟩ (.int .u32 v)) (fun b hb => Below.heap_setCell w4 ⟨N, 3, none⟩ _ b (by show b ≠ N; intro e; subst e; exact nN.out hb)) (Nat.le_of_eq (by simp))
    obtain ⟨w9, hw9⟩ : ∃ W, w4.setCell ⟨N, 3, none⟩ (.int .u32 v) = W := ⟨_, rfl⟩
    rw [hw9] at hN9 hG9 hB9 hR9
    clear hN4 hG4 hB4 hR4
    have cd := pDone_any hR9
    rw [hdn] at cd
    have cdH := Lib.hid cd
    clear cd hR9
    go_wp2_with fail
    refine cdH.out.mono ?_
    rintro r wX ⟨rfl, bX⟩
    have hNX := hN9.keep bX hN9.lt
    have hGX := hG9.keep bX hG9.lt
    have hBX := hB9.trans (bX.mono hB9.size)
    clear cdH hN9 hG9 hB9
    have hnz : ¬ E = 0 := hE0
    have hnb : (E != 0) = true := bne_iff_ne.2 hE0
    go_wp2_with ((with_reducible refine build_row rfl 28 #[] rfl (cells := Z.toArray) ?_ ?_); (refine Eq.trans (congrArg _ ?_) hbt0; kernel_rfl); refine RowKit.Hid.out ?_)
    refine Lib.hid ?_
    refine wpList_mv rfl (.tmp 6) rfl rfl ?_
    try simp only [Act.put, List.setIfInBounds_toArray, List.set_cons_zero, List.set_cons_succ]
    refine store_row rfl 28 (.tmp 2) (.tmp 53) rfl rfl rfl hGX rowMs hZl (msC_len z16_len) hZ1 ?_
    intro wY hGY hgY
    have hrZ : IsRow Try.prog 28 Z.length := by rw [hZl]; exact rowMs
    go_wp2_with fail
    refine bodyPost_ret (results_blk_tmp rfl rfl hGY hrZ) rfl ?_
    rw [hend.out]
    exact ⟨none, 0, by rw [← hZH.out]; rfl, ⟨rfl, Nat.le_refl _, .inl rfl⟩, (fun x hx => by cases hx), hBX.grown hgY hBX.size (fun q hq => by injection hq with hq; have := gH.out; omega)⟩

set_option maxRecDepth 100000 in
set_option maxHeartbeats 4000000 in
theorem msDecode_ask (a : Option Addr) (n c : Nat) (xs : List Int) (w : World) (hI : Ints .u8 w a n c xs) (hr : ∀ x ∈ xs, 0 ≤ x ∧ x < 256) (hn : n ≤ 1000000) (hk0 : kindOf xs = 3) :
    Calls Try.prog 11 #[.slice a n c] w (DecEnd xs w) := by
  have hln := hI.len
  have hb := below1 w (.cells (msC 0 0 0 0 z16 none 0 0).toArray 28)
  have hk : Blk (w.alloc (.cells (msC 0 0 0 0 z16 none 0 0).toArray 28)) w.heap.size 28 (msC 0 0 0 0 z16 none 0 0) := Blk.new w _ _
  obtain ⟨V, hV⟩ : ∃ V, w.alloc (.cells (msC 0 0 0 0 z16 none 0 0).toArray 28) = V := ⟨_, rfl⟩
  rw [hV] at hb hk
  have hnew := Lib.hid (pNew_any a n c xs V (hI.keep hb) hr hn)
  obtain ⟨G, g9⟩ : ∃ G, w.heap.size = G := ⟨_, rfl⟩
  rw [g9] at hk
  have gH := Lib.hid g9
  obtain ⟨⟨P1, E1, k⟩, hq1⟩ : ∃ q, rdNum xs 0 0 1 = q := ⟨_, rfl⟩
  have hkd : kindOf xs = k := by unfold kindOf; rw [hq1]
  have hkr := kindOf_range hr
  rw [hkd] at hkr
  have k64 : wrap64 k = k := by unfold wrap64; omega
  have k64' : IntKind.i64.wrap k = k := by rw [IntKind.wrap_i64]; omega
  have hbt := built_ms1 k
  have hbt0 := built_ms0
  obtain ⟨B, hB⟩ : ∃ B, msC k 0 0 0 z16 none 0 0 = B := ⟨_, rfl⟩
  have hBH := Lib.hid hB
  have hBl : B.length = 21 := by rw [← hB]; exact msC_len z16_len
  have hB1' : ∀ v ∈ B, v.oneCell' = true := by rw [← hB]; exact msC_one _ _ _ _ _ _ _ _
  rw [hB] at hbt
  clear hB
  obtain ⟨Z, hZ⟩ : ∃ B, msC 0 0 0 0 z16 none 0 0 = B := ⟨_, rfl⟩
  have hZH := Lib.hid hZ
  have hZl : Z.length = 21 := by rw [← hZ]; exact msC_len z16_len
  have hZ1 : ∀ v ∈ Z, v.oneCell' = true := by rw [← hZ]; exact msC_one _ _ _ _ _ _ _ _
  rw [hZ] at hbt0
  clear hZ
  unfold DecEnd
  obtain ⟨⟨P2, E2, v⟩, hq2⟩ : ∃ q, rdOne xs 4 = q := ⟨_, rfl⟩
  obtain ⟨E, hdn, hend1, hend2, hv⟩ := decM_ask hr (.inl hk0)
  rw [hq2] at hdn hend2 hv
  dsimp only at hdn hend2 hv
  rw [hkd] at hk0 hend2
  subst hk0
  unfold rdOne at hq2
  rw [hq1] at hq2
  dsimp only at hq2
  have v32 : v % 4294967296 = v := by omega
  clear hkr hkd hr hI hn hln hv
  by_cases hE0 : E = 0
  · have hend := Lib.hid (hend2 hE0)
    have hl2 : (msC 3 v 0 0 z16 none 0 0).length = 21 := msC_len z16_len
    clear hend1 hend2
    go_enter Try.func11, Try.ntmps11
    go_wp2_with ((with_reducible refine wpList_alloc_blk rfl 28 rfl zeroMs ?_); refine RowKit.Hid.out ?_)
    refine Lib.hid ?_
    clear hV
    go_wp2_with fail
    refine hnew.out.mono ?_
    rintro r w1 ⟨g, F, rfl, hR1, hF1, b1⟩
    have hG1 := hk.keep b1 hk.lt
    have hB1 := hb.trans (b1.mono hb.size)
    have nG : Hid (¬ F G) := Lib.hid (fun h => by have := hF1 _ h; have := hk.lt; omega)
    have hFg : Hid (∀ b, F b → w.heap.size ≤ b) := Lib.hid (fun b hb' => Nat.le_trans hb.size (hF1 b hb'))
    clear hk hb b1 hnew hF1
    have cn := pNum_any 1 hR1
    rw [hq1] at cn
    dsimp only at cn
    clear hR1
    go_wp2_with fail
    refine cn.mono ?_
    rintro r w2 ⟨rfl, hR2, hm2⟩
    have hG2 : Blk w2 G 28 (msC 0 0 0 0 z16 none 0 0) := (hm2.2 G hG1.lt nG.out).trans hG1
    have hB2 := hB1.trans (hm2.below hFg.out hB1.size)
    clear cn hG1 hB1 hm2
    go_wp2_with ((with_reducible refine build_row rfl 28 #[(0, .tmp 11)] rfl (cells := B.toArray) ?_ ?_); (refine Eq.trans (congrArg _ ?_) hbt; kernel_rfl); refine RowKit.Hid.out ?_)
    refine Lib.hid ?_
    refine wpList_alloc_blk rfl 28 rfl zeroMs ?_
    try simp only [Act.put, List.setIfInBounds_toArray, List.set_cons_zero, List.set_cons_succ]
    have hGA := hG2.alloc (.cells (msC 0 0 0 0 z16 none 0 0).toArray 28)
    have hNA := Blk.new w2 28 (msC 0 0 0 0 z16 none 0 0)
    have hBA := hB2.alloc hB2.size (.cells (msC 0 0 0 0 z16 none 0 0).toArray 28)
    have hnG : G < w2.heap.size := hG2.lt
    have hRA := hR2.keep (w' := w2.alloc (.cells (msC 0 0 0 0 z16 none 0 0).toArray 28)) (fun b hb => Below.heap_alloc w2 _ b (hR2.lt b hb)) (by rw [size1]; omega)
    have nN0 : ¬ F w2.heap.size := fun h => Nat.lt_irrefl _ (hR2.lt _ h)
    obtain ⟨N, hN⟩ : ∃ N, w2.heap.size = N := ⟨_, rfl⟩
    rw [hN] at hNA hnG nN0 ⊢
    have nN := Lib.hid nN0
    have nGN := Lib.hid hnG
    obtain ⟨U, hU⟩ : ∃ W, w2.alloc (.cells (msC 0 0 0 0 z16 none 0 0).toArray 28) = W := ⟨_, rfl⟩
    rw [hU] at hGA hNA hBA hRA ⊢
    clear hR2 hG2 hB2 hN hU nN0
    refine store_row rfl 28 (.tmp 5) (.tmp 12) rfl rfl rfl hNA rowMs hBl (msC_len z16_len) hB1' ?_
    intro w3 hN3 hg3
    rw [← hBH.out] at hN3
    have hG3 := hGA.grown hg3 (fun e => by injection e with e; omega)
    have hR3 := hRA.keep (fun b hb => hg3.block b (hRA.lt b hb) (fun e => by injection e with e; subst e; exact nN.out hb)) hg3.size
    have hB3 := hBA.grown hg3 hBA.size (fun q hq => by injection hq with hq; have := gH.out; have := nGN.out; omega)
    have c0 := ms0 hN3
    clear hGA hNA hBA hRA hg3 hnG
    have cn := pNum_any 4 hR3
    rw [hq2] at cn
    dsimp only at cn
    clear hR3
    have cnH := Lib.hid cn
    clear cn
    go_wp2_with fail
    refine cnH.out.mono ?_
    rintro r w4 ⟨rfl, hR4, hm4⟩
    clear cnH
    have hN4 : Blk w4 N 28 (msC 3 0 0 0 z16 none 0 0) := (hm4.2 N hN3.lt nN.out).trans hN3
    have hG4 : Blk w4 G 28 (msC 0 0 0 0 z16 none 0 0) := (hm4.2 G hG3.lt nG.out).trans hG3
    have hB4 := hB3.trans (hm4.below hFg.out hB3.size)
    clear hN3 hG3 hB3 hm4
    have d0 := hN4.cell 1
    have f0 := hN4.frozen 1
    have hN9 : Blk (w4.setCell ⟨N, 1, none⟩ (.int .u32 v)) N 28 (msC 3 v 0 0 z16 none 0 0) := hN4.set 1 (.int .u32 v)
    have hG9 : Blk (w4.setCell ⟨N, 1, none⟩ (.int .u32 v)) G 28 (msC 0 0 0 0 z16 none 0 0) := hG4.far (by show G ≠ N; have := nGN.out; omega) _
    have hB9 : Below w.heap.size w (w4.setCell ⟨N, 1, none⟩ (.int .u32 v)) := hB4.setCell (p := ⟨N, 1, none⟩) (by show w.heap.size ≤ N; have := nGN.out; have := gH.out; omega) _
    have hR9 := hR4.keep (w' := w4.setCell ⟨N, 1, none⟩ (.int .u32 v)) (fun b hb => Below.heap_setCell w4 ⟨N, 1, none⟩ _ b (by show b ≠ N; intro e; subst e; exact nN.out hb)) (Nat.le_of_eq (by simp))
    obtain ⟨w9, hw9⟩ : ∃ W, w4.setCell ⟨N, 1, none⟩ (.int .u32 v) = W := ⟨_, rfl⟩
    rw [hw9] at hN9 hG9 hB9 hR9
    clear hN4 hG4 hB4 hR4
    have cd := pDone_any hR9
    rw [hdn] at cd
    have cdH := Lib.hid cd
    clear cd hR9
    go_wp2_with fail
    refine cdH.out.mono ?_
    rintro r wX ⟨rfl, bX⟩
    have hNX := hN9.keep bX hN9.lt
    have hGX := hG9.keep bX hG9.lt
    have hBX := hB9.trans (bX.mono hB9.size)
    clear cdH hN9 hG9 hB9
    subst hE0
    go_wp2_with ((with_reducible refine wpList_load_blk rfl 28 (.tmp 5) rfl ?_ hNX rowMs hl2 ?_); rfl; refine RowKit.Hid.out ?_)
    refine Lib.hid ?_
    refine store_row rfl 28 (.tmp 2) (.tmp 55) rfl rfl rfl hGX rowMs hl2 (msC_len z16_len) (msC_one _ _ _ _ _ _ _ _) ?_
    intro wY hGY hgY
    have hrZ : IsRow Try.prog 28 (msC 3 v 0 0 z16 none 0 0).length := by rw [hl2]; exact rowMs
    go_wp2_with fail
    refine bodyPost_ret (results_blk_tmp rfl rfl hGY hrZ) rfl ?_
    rw [hend.out]
    exact ⟨none, 0, rfl, ⟨rfl, Nat.le_refl _, .inl rfl⟩, (fun x hx => by cases hx), hBX.grown hgY hBX.size (fun q hq => by injection hq with hq; have := gH.out; omega)⟩
  · have hend := Lib.hid (hend1 hE0)
    clear hend1 hend2
    go_enter Try.func11, Try.ntmps11
    go_wp2_with ((with_reducible refine wpList_alloc_blk rfl 28 rfl zeroMs ?_); refine RowKit.Hid.out ?_)
    refine Lib.hid ?_
    clear hV
    go_wp2_with fail
    refine hnew.out.mono ?_
    rintro r w1 ⟨g, F, rfl, hR1, hF1, b1⟩
    have hG1 := hk.keep b1 hk.lt
    have hB1 := hb.trans (b1.mono hb.size)
    have nG : Hid (¬ F G) := Lib.hid (fun h => by have := hF1 _ h; have := hk.lt; omega)
    have hFg : Hid (∀ b, F b → w.heap.size ≤ b) := Lib.hid (fun b hb' => Nat.le_trans hb.size (hF1 b hb'))
    clear hk hb b1 hnew hF1
    have cn := pNum_any 1 hR1
    rw [hq1] at cn
    dsimp only at cn
    clear hR1
    go_wp2_with fail
    refine cn.mono ?_
    rintro r w2 ⟨rfl, hR2, hm2⟩
    have hG2 : Blk w2 G 28 (msC 0 0 0 0 z16 none 0 0) := (hm2.2 G hG1.lt nG.out).trans hG1
    have hB2 := hB1.trans (hm2.below hFg.out hB1.size)
    clear cn hG1 hB1 hm2
    go_wp2_with ((with_reducible refine build_row rfl 28 #[(0, .tmp 11)] rfl (cells := B.toArray) ?_ ?_); (refine Eq.trans (congrArg _ ?_) hbt; kernel_rfl); refine RowKit.Hid.out ?_)
    refine Lib.hid ?_
    refine wpList_alloc_blk rfl 28 rfl zeroMs ?_
    try simp only [Act.put, List.setIfInBounds_toArray, List.set_cons_zero, List.set_cons_succ]
    have hGA := hG2.alloc (.cells (msC 0 0 0 0 z16 none 0 0).toArray 28)
    have hNA := Blk.new w2 28 (msC 0 0 0 0 z16 none 0 0)
    have hBA := hB2.alloc hB2.size (.cells (msC 0 0 0 0 z16 none 0 0).toArray 28)
    have hnG : G < w2.heap.size := hG2.lt
    have hRA := hR2.keep (w' := w2.alloc (.cells (msC 0 0 0 0 z16 none 0 0).toArray 28)) (fun b hb => Below.heap_alloc w2 _ b (hR2.lt b hb)) (by rw [size1]; omega)
    have nN0 : ¬ F w2.heap.size := fun h => Nat.lt_irrefl _ (hR2.lt _ h)
    obtain ⟨N, hN⟩ : ∃ N, w2.heap.size = N := ⟨_, rfl⟩
    rw [hN] at hNA hnG nN0 ⊢
    have nN := Lib.hid nN0
    have nGN := Lib.hid hnG
    obtain ⟨U, hU⟩ : ∃ W, w2.alloc (.cells (msC 0 0 0 0 z16 none 0 0).toArray 28) = W := ⟨_, rfl⟩
    rw [hU] at hGA hNA hBA hRA ⊢
    clear hR2 hG2 hB2 hN hU nN0
    refine store_row rfl 28 (.tmp 5) (.tmp 12) rfl rfl rfl hNA rowMs hBl (msC_len z16_len) hB1' ?_
    intro w3 hN3 hg3
    rw [← hBH.out] at hN3
    have hG3 := hGA.grown hg3 (fun e => by injection e with e; omega)
    have hR3 := hRA.keep (fun b hb => hg3.block b (hRA.lt b hb) (fun e => by injection e with e; subst e; exact nN.out hb)) hg3.size
    have hB3 := hBA.grown hg3 hBA.size (fun q hq => by injection hq with hq; have := gH.out; have := nGN.out; omega)
    have c0 := ms0 hN3
    clear hGA hNA hBA hRA hg3 hnG
    have cn := pNum_any 4 hR3
    rw [hq2] at cn
    dsimp only at cn
    clear hR3
    have cnH := Lib.hid cn
    clear cn
    go_wp2_with fail
    refine cnH.out.mono ?_
    rintro r w4 ⟨rfl, hR4, hm4⟩
    clear cnH
    have hN4 : Blk w4 N 28 (msC 3 0 0 0 z16 none 0 0) := (hm4.2 N hN3.lt nN.out).trans hN3
    have hG4 : Blk w4 G 28 (msC 0 0 0 0 z16 none 0 0) := (hm4.2 G hG3.lt nG.out).trans hG3
    have hB4 := hB3.trans (hm4.below hFg.out hB3.size)
    clear hN3 hG3 hB3 hm4
    have d0 := hN4.cell 1
    have f0 := hN4.frozen 1
    have hN9 : Blk (w4.setCell ⟨N, 1, none⟩ (.int .u32 v)) N 28 (msC 3 v 0 0 z16 none 0 0) := hN4.set 1 (.int .u32 v)
    have hG9 : Blk (w4.setCell ⟨N, 1, none⟩ (.int .u32 v)) G 28 (msC 0 0 0 0 z16 none 0 0) := hG4.far (by show G ≠ N; have := nGN.out; omega) _
    have hB9 : Below w.heap.size w (w4.setCell ⟨N, 1, none⟩ (.int .u32 v)) := hB4.setCell (p := ⟨N, 1, none⟩) (by show w.heap.size ≤ N; have := nGN.out; have := gH.out; omega) _
    have hR9 := hR4.keep (w' := w4.setCell ⟨N, 1, none⟩ (.int .u32 v)) (fun b hb => Below.heap_setCell w4 ⟨N, 1, none⟩ _ b (by show b ≠ N; intro e; subst e; exact nN.out hb)) (Nat.le_of_eq (by simp))
    obtain ⟨w9, hw9⟩ : ∃ W, w4.setCell ⟨N, 1, none⟩ (.int .u32 v) = W := ⟨_, rfl⟩
    rw [hw9] at hN9 hG9 hB9 hR9
    clear hN4 hG4 hB4 hR4
    have cd := pDone_any hR9
    rw [hdn] at cd
    have cdH := Lib.hid cd
    clear cd hR9
    go_wp2_with fail
    refine cdH.out.mono ?_
    rintro r wX ⟨rfl, bX⟩
    have hNX := hN9.keep bX hN9.lt
    have hGX := hG9.keep bX hG9.lt
    have hBX := hB9.trans (bX.mono hB9.size)
    clear cdH hN9 hG9 hB9
    have hnz : ¬ E = 0 := hE0
    have hnb : (E != 0) = true := bne_iff_ne.2 hE0
    go_wp2_with ((with_reducible refine build_row rfl 28 #[] rfl (cells := Z.toArray) ?_ ?_); (refine Eq.trans (congrArg _ ?_) hbt0; kernel_rfl); refine RowKit.Hid.out ?_)
    refine Lib.hid ?_
    refine wpList_mv rfl (.tmp 6) rfl rfl ?_
    try simp only [Act.put, List.setIfInBounds_toArray, List.set_cons_zero, List.set_cons_succ]
    refine store_row rfl 28 (.tmp 2) (.tmp 53) rfl rfl rfl hGX rowMs hZl (msC_len z16_len) hZ1 ?_
    intro wY hGY hgY
    have hrZ : IsRow Try.prog 28 Z.length := by rw [hZl]; exact rowMs
    go_wp2_with fail
    refine bodyPost_ret (results_blk_tmp rfl rfl hGY hrZ) rfl ?_
    rw [hend.out]
    exact ⟨none, 0, by rw [← hZH.out]; rfl, ⟨rfl, Nat.le_refl _, .inl rfl⟩, (fun x hx => by cases hx), hBX.grown hgY hBX.size (fun q hq => by injection hq with hq; have := gH.out; omega)⟩

set_option maxRecDepth 100000 in
set_option maxHeartbeats 4000000 in
theorem msDecode_close (a : Option Addr) (n c : Nat) (xs : List Int) (w : World) (hI : Ints .u8 w a n c xs) (hr : ∀ x ∈ xs, 0 ≤ x ∧ x < 256) (hn : n ≤ 1000000) (hk0 : kindOf xs = 4) :
    Calls Try.prog 11 #[.slice a n c] w (DecEnd xs w) := by
  have hln := hI.len
  have hb := below1 w (.cells (msC 0 0 0 0 z16 none 0 0).toArray 28)
  have hk : Blk (w.alloc (.cells (msC 0 0 0 0 z16 none 0 0).toArray 28)) w.heap.size 28 (msC 0 0 0 0 z16 none 0 0) := Blk.new w _ _
  obtain ⟨V, hV⟩ : ∃ V, w.alloc (.cells (msC 0 0 0 0 z16 none 0 0).toArray 28) = V := ⟨_, rfl⟩
  rw [hV] at hb hk
  have hnew := Lib.hid (pNew_any a n c xs V (hI.keep hb) hr hn)
  obtain ⟨G, g9⟩ : ∃ G, w.heap.size = G := ⟨_, rfl⟩
  rw [g9] at hk
  have gH := Lib.hid g9
  obtain ⟨⟨P1, E1, k⟩, hq1⟩ : ∃ q, rdNum xs 0 0 1 = q := ⟨_, rfl⟩
  have hkd : kindOf xs = k := by unfold kindOf; rw [hq1]
  have hkr := kindOf_range hr
  rw [hkd] at hkr
  have k64 : wrap64 k = k := by unfold wrap64; omega
  have k64' : IntKind.i64.wrap k = k := by rw [IntKind.wrap_i64]; omega
  have hbt := built_ms1 k
  have hbt0 := built_ms0
  obtain ⟨B, hB⟩ : ∃ B, msC k 0 0 0 z16 none 0 0 = B := ⟨_, rfl⟩
  have hBH := Lib.hid hB
  have hBl : B.length = 21 := by rw [← hB]; exact msC_len z16_len
  have hB1' : ∀ v ∈ B, v.oneCell' = true := by rw [← hB]; exact msC_one _ _ _ _ _ _ _ _
  rw [hB] at hbt
  clear hB
  obtain ⟨Z, hZ⟩ : ∃ B, msC 0 0 0 0 z16 none 0 0 = B := ⟨_, rfl⟩
  have hZH := Lib.hid hZ
  have hZl : Z.length = 21 := by rw [← hZ]; exact msC_len z16_len
  have hZ1 : ∀ v ∈ Z, v.oneCell' = true := by rw [← hZ]; exact msC_one _ _ _ _ _ _ _ _
  rw [hZ] at hbt0
  clear hZ
  unfold DecEnd
  obtain ⟨⟨P2, E2, v⟩, hq2⟩ : ∃ q, rdOne xs 4 = q := ⟨_, rfl⟩
  obtain ⟨E, hdn, hend1, hend2, hv⟩ := decM_ask hr (.inr hk0)
  rw [hq2] at hdn hend2 hv
  dsimp only at hdn hend2 hv
  rw [hkd] at hk0 hend2
  subst hk0
  unfold rdOne at hq2
  rw [hq1] at hq2
  dsimp only at hq2
  have v32 : v % 4294967296 = v := by omega
  clear hkr hkd hr hI hn hln hv
  by_cases hE0 : E = 0
  · have hend := Lib.hid (hend2 hE0)
    have hl2 : (msC 4 v 0 0 z16 none 0 0).length = 21 := msC_len z16_len
    clear hend1 hend2
    go_enter Try.func11, Try.ntmps11
    go_wp2_with ((with_reducible refine wpList_alloc_blk rfl 28 rfl zeroMs ?_); refine RowKit.Hid.out ?_)
    refine Lib.hid ?_
    clear hV
    go_wp2_with fail
    refine hnew.out.mono ?_
    rintro r w1 ⟨g, F, rfl, hR1, hF1, b1⟩
    have hG1 := hk.keep b1 hk.lt
    have hB1 := hb.trans (b1.mono hb.size)
    have nG : Hid (¬ F G) := Lib.hid (fun h => by have := hF1 _ h; have := hk.lt; omega)
    have hFg : Hid (∀ b, F b → w.heap.size ≤ b) := Lib.hid (fun b hb' => Nat.le_trans hb.size (hF1 b hb'))
    clear hk hb b1 hnew hF1
    have cn := pNum_any 1 hR1
    rw [hq1] at cn
    dsimp only at cn
    clear hR1
    go_wp2_with fail
    refine cn.mono ?_
    rintro r w2 ⟨rfl, hR2, hm2⟩
    have hG2 : Blk w2 G 28 (msC 0 0 0 0 z16 none 0 0) := (hm2.2 G hG1.lt nG.out).trans hG1
    have hB2 := hB1.trans (hm2.below hFg.out hB1.size)
    clear cn hG1 hB1 hm2
    go_wp2_with ((with_reducible refine build_row rfl 28 #[(0, .tmp 11)] rfl (cells := B.toArray) ?_ ?_); (refine Eq.trans (congrArg _ ?_) hbt; kernel_rfl); refine RowKit.Hid.out ?_)
    refine Lib.hid ?_
    refine wpList_alloc_blk rfl 28 rfl zeroMs ?_
    try simp only [Act.put, List.setIfInBounds_toArray, List.set_cons_zero, List.set_cons_succ]
    have hGA := hG2.alloc (.cells (msC 0 0 0 0 z16 none 0 0).toArray 28)
    have hNA := Blk.new w2 28 (msC 0 0 0 0 z16 none 0 0)
    have hBA := hB2.alloc hB2.size (.cells (msC 0 0 0 0 z16 none 0 0).toArray 28)
    have hnG : G < w2.heap.size := hG2.lt
    have hRA := hR2.keep (w' := w2.alloc (.cells (msC 0 0 0 0 z16 none 0 0).toArray 28)) (fun b hb => Below.heap_alloc w2 _ b (hR2.lt b hb)) (by rw [size1]; omega)
    have nN0 : ¬ F w2.heap.size := fun h => Nat.lt_irrefl _ (hR2.lt _ h)
    obtain ⟨N, hN⟩ : ∃ N, w2.heap.size = N := ⟨_, rfl⟩
    rw [hN] at hNA hnG nN0 ⊢
    have nN := Lib.hid nN0
    have nGN := Lib.hid hnG
    obtain ⟨U, hU⟩ : ∃ W, w2.alloc (.cells (msC 0 0 0 0 z16 none 0 0).toArray 28) = W := ⟨_, rfl⟩
    rw [hU] at hGA hNA hBA hRA ⊢
    clear hR2 hG2 hB2 hN hU nN0
    refine store_row rfl 28 (.tmp 5) (.tmp 12) rfl rfl rfl hNA rowMs hBl (msC_len z16_len) hB1' ?_
    intro w3 hN3 hg3
    rw [← hBH.out] at hN3
    have hG3 := hGA.grown hg3 (fun e => by injection e with e; omega)
    have hR3 := hRA.keep (fun b hb => hg3.block b (hRA.lt b hb) (fun e => by injection e with e; subst e; exact nN.out hb)) hg3.size
    have hB3 := hBA.grown hg3 hBA.size (fun q hq => by injection hq with hq; have := gH.out; have := nGN.out; omega)
    have c0 := ms0 hN3
    clear hGA hNA hBA hRA hg3 hnG
    have cn := pNum_any 4 hR3
    rw [hq2] at cn
    dsimp only at cn
    clear hR3
    have cnH := Lib.hid cn
    clear cn
    go_wp2_with fail
    refine cnH.out.mono ?_
    rintro r w4 ⟨rfl, hR4, hm4⟩
    clear cnH
    have hN4 : Blk w4 N 28 (msC 4 0 0 0 z16 none 0 0) := (hm4.2 N hN3.lt nN.out).trans hN3
    have hG4 : Blk w4 G 28 (msC 0 0 0 0 z16 none 0 0) := (hm4.2 G hG3.lt nG.out).trans hG3
    have hB4 := hB3.trans (hm4.below hFg.out hB3.size)
    clear hN3 hG3 hB3 hm4
    have d0 := hN4.cell 1
    have f0 := hN4.frozen 1
    have hN9 : Blk (w4.setCell ⟨N, 1, none⟩ (.int .u32 v)) N 28 (msC 4 v 0 0 z16 none 0 0) := hN4.set 1 (.int .u32 v)
    have hG9 : Blk (w4.setCell ⟨N, 1, none⟩ (.int .u32 v)) G 28 (msC 0 0 0 0 z16 none 0 0) := hG4.far (by show G ≠ N; have := nGN.out; omega) _
    have hB9 : Below w.heap.size w (w4.setCell ⟨N, 1, none⟩ (.int .u32 v)) := hB4.setCell (p := ⟨N, 1, none⟩) (by show w.heap.size ≤ N; have := nGN.out; have := gH.out; omega) _
    have hR9 := hR4.keep (w' := w4.setCell ⟨N, 1, none⟩ (.int .u32 v)) (fun b hb => Below.heap_setCell w4 ⟨N, 1, none⟩ _ b (by show b ≠ N; intro e; subst e; exact nN.out hb)) (Nat.le_of_eq (by simp))
    obtain ⟨w9, hw9⟩ : ∃ W, w4.setCell ⟨N, 1, none⟩ (.int .u32 v) = W := ⟨_, rfl⟩
    rw [hw9] at hN9 hG9 hB9 hR9
    clear hN4 hG4 hB4 hR4
    have cd := pDone_any hR9
    rw [hdn] at cd
    have cdH := Lib.hid cd
    clear cd hR9
    go_wp2_with fail
    refine cdH.out.mono ?_
    rintro r wX ⟨rfl, bX⟩
    have hNX := hN9.keep bX hN9.lt
    have hGX := hG9.keep bX hG9.lt
    have hBX := hB9.trans (bX.mono hB9.size)
    clear cdH hN9 hG9 hB9
    subst hE0
    go_wp2_with ((with_reducible refine wpList_load_blk rfl 28 (.tmp 5) rfl ?_ hNX rowMs hl2 ?_); rfl; refine RowKit.Hid.out ?_)
    refine Lib.hid ?_
    refine store_row rfl 28 (.tmp 2) (.tmp 55) rfl rfl rfl hGX rowMs hl2 (msC_len z16_len) (msC_one _ _ _ _ _ _ _ _) ?_
    intro wY hGY hgY
    have hrZ : IsRow Try.prog 28 (msC 4 v 0 0 z16 none 0 0).length := by rw [hl2]; exact rowMs
    go_wp2_with fail
    refine bodyPost_ret (results_blk_tmp rfl rfl hGY hrZ) rfl ?_
    rw [hend.out]
    exact ⟨none, 0, rfl, ⟨rfl, Nat.le_refl _, .inl rfl⟩, (fun x hx => by cases hx), hBX.grown hgY hBX.size (fun q hq => by injection hq with hq; have := gH.out; omega)⟩
  · have hend := Lib.hid (hend1 hE0)
    clear hend1 hend2
    go_enter Try.func11, Try.ntmps11
    go_wp2_with ((with_reducible refine wpList_alloc_blk rfl 28 rfl zeroMs ?_); refine RowKit.Hid.out ?_)
    refine Lib.hid ?_
    clear hV
    go_wp2_with fail
    refine hnew.out.mono ?_
    rintro r w1 ⟨g, F, rfl, hR1, hF1, b1⟩
    have hG1 := hk.keep b1 hk.lt
    have hB1 := hb.trans (b1.mono hb.size)
    have nG : Hid (¬ F G) := Lib.hid (fun h => by have := hF1 _ h; have := hk.lt; omega)
    have hFg : Hid (∀ b, F b → w.heap.size ≤ b) := Lib.hid (fun b hb' => Nat.le_trans hb.size (hF1 b hb'))
    clear hk hb b1 hnew hF1
    have cn := pNum_any 1 hR1
    rw [hq1] at cn
    dsimp only at cn
    clear hR1
    go_wp2_with fail
    refine cn.mono ?_
    rintro r w2 ⟨rfl, hR2, hm2⟩
    have hG2 : Blk w2 G 28 (msC 0 0 0 0 z16 none 0 0) := (hm2.2 G hG1.lt nG.out).trans hG1
    have hB2 := hB1.trans (hm2.below hFg.out hB1.size)
    clear cn hG1 hB1 hm2
    go_wp2_with ((with_reducible refine build_row rfl 28 #[(0, .tmp 11)] rfl (cells := B.toArray) ?_ ?_); (refine Eq.trans (congrArg _ ?_) hbt; kernel_rfl); refine RowKit.Hid.out ?_)
    refine Lib.hid ?_
    refine wpList_alloc_blk rfl 28 rfl zeroMs ?_
    try simp only [Act.put, List.setIfInBounds_toArray, List.set_cons_zero, List.set_cons_succ]
    have hGA := hG2.alloc (.cells (msC 0 0 0 0 z16 none 0 0).toArray 28)
    have hNA := Blk.new w2 28 (msC 0 0 0 0 z16 none 0 0)
    have hBA := hB2.alloc hB2.size (.cells (msC 0 0 0 0 z16 none 0 0).toArray 28)
    have hnG : G < w2.heap.size := hG2.lt
    have hRA := hR2.keep (w' := w2.alloc (.cells (msC 0 0 0 0 z16 none 0 0).toArray 28)) (fun b hb => Below.heap_alloc w2 _ b (hR2.lt b hb)) (by rw [size1]; omega)
    have nN0 : ¬ F w2.heap.size := fun h => Nat.lt_irrefl _ (hR2.lt _ h)
    obtain ⟨N, hN⟩ : ∃ N, w2.heap.size = N := ⟨_, rfl⟩
    rw [hN] at hNA hnG nN0 ⊢
    have nN := Lib.hid nN0
    have nGN := Lib.hid hnG
    obtain ⟨U, hU⟩ : ∃ W, w2.alloc (.cells (msC 0 0 0 0 z16 none 0 0).toArray 28) = W := ⟨_, rfl⟩
    rw [hU] at hGA hNA hBA hRA ⊢
    clear hR2 hG2 hB2 hN hU nN0
    refine store_row rfl 28 (.tmp 5) (.tmp 12) rfl rfl rfl hNA rowMs hBl (msC_len z16_len) hB1' ?_
    intro w3 hN3 hg3
    rw [← hBH.out] at hN3
    have hG3 := hGA.grown hg3 (fun e => by injection e with e; omega)
    have hR3 := hRA.keep (fun b hb => hg3.block b (hRA.lt b hb) (fun e => by injection e with e; subst e; exact nN.out hb)) hg3.size
    have hB3 := hBA.grown hg3 hBA.size (fun q hq => by injection hq with hq; have := gH.out; have := nGN.out; omega)
    have c0 := ms0 hN3
    clear hGA hNA hBA hRA hg3 hnG
    have cn := pNum_any 4 hR3
    rw [hq2] at cn
    dsimp only at cn
    clear hR3
    have cnH := Lib.hid cn
    clear cn
    go_wp2_with fail
    refine cnH.out.mono ?_
    rintro r w4 ⟨rfl, hR4, hm4⟩
    clear cnH
    have hN4 : Blk w4 N 28 (msC 4 0 0 0 z16 none 0 0) := (hm4.2 N hN3.lt nN.out).trans hN3
    have hG4 : Blk w4 G 28 (msC 0 0 0 0 z16 none 0 0) := (hm4.2 G hG3.lt nG.out).trans hG3
    have hB4 := hB3.trans (hm4.below hFg.out hB3.size)
    clear hN3 hG3 hB3 hm4
    have d0 := hN4.cell 1
    have f0 := hN4.frozen 1
    have hN9 : Blk (w4.setCell ⟨N, 1, none⟩ (.int .u32 v)) N 28 (msC 4 v 0 0 z16 none 0 0) := hN4.set 1 (.int .u32 v)
    have hG9 : Blk (w4.setCell ⟨N, 1, none⟩ (.int .u32 v)) G 28 (msC 0 0 0 0 z16 none 0 0) := hG4.far (by show G ≠ N; have := nGN.out; omega) _
    have hB9 : Below w.heap.size w (w4.setCell ⟨N, 1, none⟩ (.int .u32 v)) := hB4.setCell (p := ⟨N, 1, none⟩) (by show w.heap.size ≤ N; have := nGN.out; have := gH.out; omega) _
    have hR9 := hR4.keep (w' := w4.setCell ⟨N, 1, none⟩ (.int .u32 v)) (fun b hb => Below.heap_setCell w4 ⟨N, 1, none⟩ _ b (by show b ≠ N; intro e; subst e; exact nN.out hb)) (Nat.le_of_eq (by simp))
    obtain ⟨w9, hw9⟩ : ∃ W, w4.setCell ⟨N, 1, none⟩ (.int .u32 v) = W := ⟨_, rfl⟩
    rw [hw9] at hN9 hG9 hB9 hR9
    clear hN4 hG4 hB4 hR4
    have cd := pDone_any hR9
    rw [hdn] at cd
    have cdH := Lib.hid cd
    clear cd hR9
    go_wp2_with fail
    refine cdH.out.mono ?_
    rintro r wX ⟨rfl, bX⟩
    have hNX := hN9.keep bX hN9.lt
    have hGX := hG9.keep bX hG9.lt
    have hBX := hB9.trans (bX.mono hB9.size)
    clear cdH hN9 hG9 hB9
    have hnz : ¬ E = 0 := hE0
    have hnb : (E != 0) = true := bne_iff_ne.2 hE0
    go_wp2_with ((with_reducible refine build_row rfl 28 #[] rfl (cells := Z.toArray) ?_ ?_); (refine Eq.trans (congrArg _ ?_) hbt0; kernel_rfl); refine RowKit.Hid.out ?_)
    refine Lib.hid ?_
    refine wpList_mv rfl (.tmp 6) rfl rfl ?_
    try simp only [Act.put, List.setIfInBounds_toArray, List.set_cons_zero, List.set_cons_succ]
    refine store_row rfl 28 (.tmp 2) (.tmp 53) rfl rfl rfl hGX rowMs hZl (msC_len z16_len) hZ1 ?_
    intro wY hGY hgY
    have hrZ : IsRow Try.prog 28 Z.length := by rw [hZl]; exact rowMs
    go_wp2_with fail
    refine bodyPost_ret (results_blk_tmp rfl rfl hGY hrZ) rfl ?_
    rw [hend.out]
    exact ⟨none, 0, by rw [← hZH.out]; rfl, ⟨rfl, Nat.le_refl _, .inl rfl⟩, (fun x hx => by cases hx), hBX.grown hgY hBX.size (fun q hq => by injection hq with hq; have := gH.out; omega)⟩

end Go.Proofs.Ytgaelgpmmgjldaa

/-
  The document's own value of a message's bytes (layer 14): a number of at most four bytes. Nothing is written. Conditions: bytes below 256, at most four.
-/
namespace Go.Proofs.Ytgaelgpmmgjldaa
open Go.RowKit

theorem be_bound (xs : List Int) (h : ∀ x ∈ xs, 0 ≤ x ∧ x < 256) (hl : xs.length ≤ 3) : 0 ≤ be xs ∧ be xs < 16777216 := by
  have h1 := be_range xs xs.length rfl h
  refine ⟨h1.1, Int.lt_of_lt_of_le h1.2 ?_⟩
  match xs.length, hl with
  | 0, _ => decide
  | 1, _ => decide
  | 2, _ => decide
  | 3, _ => decide

set_option maxRecDepth 100000 in
set_option maxHeartbeats 1000000 in
theorem r14Value_any (a : Option Addr) (n c : Nat) (xs : List Int) (w : World) (hI : Ints .u8 w a n c xs) (hr : ∀ x ∈ xs, 0 ≤ x ∧ x < 256) (hn : n ≤ 4) :
    Calls Try.prog 30 #[.slice a n c] w fun q w' => q = .returned (.int .u32 (be xs)) ∧ w = w' := by
  have hln := hI.len
  have hnH := Lib.hid hn
  have hnm : (n : Int) ≤ 4 := by omega
  have hIH := Lib.hid hI
  clear hn hI
  go_enter Try.func30, Try.ntmps30
  go_wp2_with fail
  go_loopw [3, 4] (fun s i wr => ∃ j : Nat, j ≤ n ∧ i = .int .i64 j ∧ s = .int .u32 (be (xs.take j)) ∧ w = wr) (fun _ i _ => n - (intOf i).toNat)
  case atStart => exact ⟨0, Nat.zero_le _, rfl, rfl, rfl⟩
  case round =>
    obtain ⟨j, hj, rfl, rfl, rfl⟩ := hrel
    by_cases hlt : j < n
    · have hji : (j : Int) < (n : Int) := by omega
      obtain ⟨b, off, rfl, hc⟩ := hIH.out.at (by omega)
      have c1 := hc j hlt
      have hb := be_bound (xs.take j) (fun x hx => hr x (List.mem_of_mem_take hx)) (by rw [List.length_take]; have := hnH.out; omega)
      have hx := hr (xs.getD j 0) (by rw [List.getD_eq_getElem?_getD, List.getElem?_eq_getElem (by omega)]; exact List.getElem_mem _)
      have hst := be_take xs j (by omega)
      obtain ⟨X, hX⟩ : ∃ X, be (xs.take j) = X := ⟨_, rfl⟩
      obtain ⟨y, hy⟩ : ∃ X, xs.getD j 0 = X := ⟨_, rfl⟩
      rw [hX] at hb hst
      rw [hy] at hx hst c1
      rw [hX]
      have m1 : 256 * X % 4294967296 = 256 * X := by omega
      have m2 : (256 * X + y) % 4294967296 = 256 * X + y := by omega
      have m3 : y % 4294967296 = y := by omega
      have hstH := Lib.hid hst
      have hltH := Lib.hid hlt
      clear hlt hj hX hy hst hc hb hx
      go_wp2
      exact ⟨⟨j + 1, by have := hltH.out; omega, by congr 1, by rw [hstH.out], by trivial⟩, by simp only [intOf]; have := hltH.out; omega⟩
    · obtain rfl : n = j := by omega
      have hji : ¬ (n : Int) < (n : Int) := by omega
      rw [List.take_of_length_le (by omega)]
      clear hlt hj
      go_wp2
      go_ret
      exact ⟨rfl, rfl⟩
end Go.Proofs.Ytgaelgpmmgjldaa

/-
  The document's own Decode of a message but uploads'. New memory alone is written. Conditions: bytes below 256, at most a million. (Made by wip/tools/mk_mrdecode.py.)
-/
namespace Go.Proofs.Ytgaelgpmmgjldaa
open Go.RowKit

theorem sl_cut {n c : Nat} (a : Option Addr) (l h : Nat) (hlh : l ≤ h) (hc : h ≤ c) (wx : World) : (Instr.sliceAt 26 (.slice a n c) (some (.int .i64 (l : Int))) (some (.int .i64 (h : Int))) none).run Try.prog wx = .ok (.slice (cutAddr a c l) (h - l) (c - l)) wx :=
  run_cut2 26 5 Try.underlying26 sizeU8s wx a n c .i64 .i64 l h hlh hc

set_option maxRecDepth 100000 in
set_option maxHeartbeats 4000000 in
theorem r14Decode_nil (a : Option Addr) (n c : Nat) (xs : List Int) (w : World) (hI : Ints .u8 w a n c xs) (hr : ∀ x ∈ xs, 0 ≤ x ∧ x < 256) (hn : n ≤ 1000000) (hx : xs = []) :
    Calls Try.prog 13 #[.slice a n c] w (DecEnd xs w) := by
  have hln := hI.len
  have hnm0 : (n : Int) ≤ 1000000 := by omega
  have hcH := Lib.hid hI.2.1
  have hIH := Lib.hid (fun w' (h : Below w.heap.size w w') => hI.keep h)
  have hrH := Lib.hid hr
  obtain ⟨Z, hZ⟩ : ∃ B, msC 0 0 0 0 z16 none 0 0 = B := ⟨_, rfl⟩
  have hZz : Zero Try.prog 28 Z := hZ ▸ zeroMs
  have hbt0 := built_ms0
  have hZH := Lib.hid hZ
  have hZl : Z.length = 21 := by rw [← hZ]; exact msC_len z16_len
  have hZ1 : ∀ v ∈ Z, v.oneCell' = true := by rw [← hZ]; exact msC_one _ _ _ _ _ _ _ _
  rw [hZ] at hbt0
  clear hZ
  have hb := below1 w (.cells Z.toArray 28)
  have hk : Blk (w.alloc (.cells Z.toArray 28)) w.heap.size 28 Z := Blk.new w _ _
  obtain ⟨V, hV⟩ : ∃ V, w.alloc (.cells Z.toArray 28) = V := ⟨_, rfl⟩
  rw [hV] at hb hk
  obtain ⟨G, g9⟩ : ∃ G, w.heap.size = G := ⟨_, rfl⟩
  rw [g9] at hk
  have gH := Lib.hid g9
  unfold DecEnd
  subst hx
  obtain rfl : n = 0 := hln.symm
  have hend := Lib.hid (show decM [] = (noMsg, 2) from rfl)
  clear hI hr hn hln hnm0
  go_enter Try.func13, Try.ntmps13
  go_wp2_with ((with_reducible refine wpList_alloc_blk rfl 28 rfl hZz ?_); refine RowKit.Hid.out ?_)
  refine Lib.hid ?_
  clear hV
  go_wp2_with ((with_reducible refine build_row rfl 28 #[] rfl (cells := Z.toArray) ?_ ?_); (refine Eq.trans (congrArg _ ?_) hbt0; kernel_rfl); refine RowKit.Hid.out ?_)
  refine Lib.hid ?_
  refine wpList_alloc_blk rfl 28 rfl hZz ?_
  try simp only [Act.put, List.setIfInBounds_toArray, List.set_cons_zero, List.set_cons_succ]
  have hGA := hk.alloc (.cells Z.toArray 28)
  have hNA := Blk.new V 28 Z
  have hBA := hb.alloc hb.size (.cells Z.toArray 28)
  have hnG : G < V.heap.size := hk.lt
  obtain ⟨N0, hN⟩ : ∃ N, V.heap.size = N := ⟨_, rfl⟩
  rw [hN] at hNA hnG ⊢
  have nG0 := Lib.hid hnG
  obtain ⟨U, hU⟩ : ∃ W, V.alloc (.cells Z.toArray 28) = W := ⟨_, rfl⟩
  rw [hU] at hGA hNA hBA ⊢
  clear hk hb hN hU
  refine store_row rfl 28 (.tmp 4) (.tmp 10) rfl rfl rfl hNA rowMs hZl hZl hZ1 ?_
  intro w1 hz1 hg1
  have hG1 := hGA.grown hg1 (fun e => by injection e with e; omega)
  have hB1 := hBA.grown hg1 hBA.size (fun q hq => by injection hq with hq; have := gH.out; omega)
  clear hGA hNA hBA hg1 hnG
  go_wp2_with ((with_reducible refine wpList_load_blk rfl 28 (.tmp 4) rfl ?_ hz1 rowMs hZl ?_); rfl; refine RowKit.Hid.out ?_)
  refine Lib.hid ?_
  skip
  refine store_row rfl 28 (.tmp 2) (.tmp 14) rfl rfl rfl hG1 rowMs hZl hZl hZ1 ?_
  intro wY hGY hgY
  have hrZ : IsRow Try.prog 28 Z.length := by rw [hZl]; exact rowMs
  go_wp2_with fail
  refine bodyPost_ret (results_blk_tmp rfl rfl hGY hrZ) rfl ?_
  rw [hend.out]
  exact ⟨none, 0, by rw [← hZH.out]; rfl, ⟨rfl, Nat.le_refl _, .inl rfl⟩, (fun x hx => by cases hx), hB1.grown hgY hB1.size (fun q hq => by injection hq with hq; have := gH.out; omega)⟩

set_option maxRecDepth 100000 in
set_option maxHeartbeats 4000000 in
theorem r14Decode_other (a : Option Addr) (n c : Nat) (xs : List Int) (w : World) (hI : Ints .u8 w a n c xs) (hr : ∀ x ∈ xs, 0 ≤ x ∧ x < 256) (hn : n ≤ 1000000) (k : Int) (hx : ∃ r, xs = k :: r) (hk0 : k < 1 ∨ 4 < k) :
    Calls Try.prog 13 #[.slice a n c] w (DecEnd xs w) := by
  have hln := hI.len
  have hnm0 : (n : Int) ≤ 1000000 := by omega
  have hcH := Lib.hid hI.2.1
  have hIH := Lib.hid (fun w' (h : Below w.heap.size w w') => hI.keep h)
  have hrH := Lib.hid hr
  obtain ⟨Z, hZ⟩ : ∃ B, msC 0 0 0 0 z16 none 0 0 = B := ⟨_, rfl⟩
  have hZz : Zero Try.prog 28 Z := hZ ▸ zeroMs
  have hbt0 := built_ms0
  have hZH := Lib.hid hZ
  have hZl : Z.length = 21 := by rw [← hZ]; exact msC_len z16_len
  have hZ1 : ∀ v ∈ Z, v.oneCell' = true := by rw [← hZ]; exact msC_one _ _ _ _ _ _ _ _
  rw [hZ] at hbt0
  clear hZ
  have hb := below1 w (.cells Z.toArray 28)
  have hk : Blk (w.alloc (.cells Z.toArray 28)) w.heap.size 28 Z := Blk.new w _ _
  obtain ⟨V, hV⟩ : ∃ V, w.alloc (.cells Z.toArray 28) = V := ⟨_, rfl⟩
  rw [hV] at hb hk
  obtain ⟨G, g9⟩ : ∃ G, w.heap.size = G := ⟨_, rfl⟩
  rw [g9] at hk
  have gH := Lib.hid g9
  unfold DecEnd
  have hkr : 0 ≤ k ∧ k < 256 := by obtain ⟨r, rfl⟩ := hx; exact hr k (by simp)
  obtain ⟨r, rfl⟩ := hx
  have hlr : r.length + 1 = n := hln
  have hn1 := Lib.hid (show 0 < n by omega)
  have hx0 := Lib.hid (show (k :: r).getD 0 0 = k from rfl)
  have hni : ¬ (n : Int) < 1 := by omega
  have hbt := built_ms1 k
  obtain ⟨B, hB⟩ : ∃ B, msC k 0 0 0 z16 none 0 0 = B := ⟨_, rfl⟩
  have hBH := Lib.hid hB
  have hBl : B.length = 21 := by rw [← hB]; exact msC_len z16_len
  have hB1' : ∀ v ∈ B, v.oneCell' = true := by rw [← hB]; exact msC_one _ _ _ _ _ _ _ _
  rw [hB] at hbt
  obtain ⟨xs, hxs⟩ : ∃ xs, k :: r = xs := ⟨_, rfl⟩
  rw [hxs] at hx0 hIH hrH
  rw [hxs]
  have hxsH := Lib.hid hxs
  clear hB hxs hI hr hn
  have hend := Lib.hid (show decM xs = (noMsg, 4) by rw [← hxsH.out, decM, if_pos hk0])
  clear hlr hln
  rcases hk0 with hk1 | hk4
  · have g1 : decide (k < 1) = true := decide_eq_true hk1
    go_enter Try.func13, Try.ntmps13
    go_wp2_with ((with_reducible refine wpList_alloc_blk rfl 28 rfl hZz ?_); refine RowKit.Hid.out ?_)
    refine Lib.hid ?_
    clear hV
    go_wp2_with ((with_reducible refine build_row rfl 28 #[] rfl (cells := Z.toArray) ?_ ?_); (refine Eq.trans (congrArg _ ?_) hbt0; kernel_rfl); refine RowKit.Hid.out ?_)
    refine Lib.hid ?_
    refine wpList_alloc_blk rfl 28 rfl hZz ?_
    try simp only [Act.put, List.setIfInBounds_toArray, List.set_cons_zero, List.set_cons_succ]
    have hGA := hk.alloc (.cells Z.toArray 28)
    have hNA := Blk.new V 28 Z
    have hBA := hb.alloc hb.size (.cells Z.toArray 28)
    have hnG : G < V.heap.size := hk.lt
    obtain ⟨N0, hN⟩ : ∃ N, V.heap.size = N := ⟨_, rfl⟩
    rw [hN] at hNA hnG ⊢
    have nG0 := Lib.hid hnG
    obtain ⟨U, hU⟩ : ∃ W, V.alloc (.cells Z.toArray 28) = W := ⟨_, rfl⟩
    rw [hU] at hGA hNA hBA ⊢
    clear hk hb hN hU
    refine store_row rfl 28 (.tmp 4) (.tmp 10) rfl rfl rfl hNA rowMs hZl hZl hZ1 ?_
    intro w1 hz1 hg1
    have hG1 := hGA.grown hg1 (fun e => by injection e with e; omega)
    have hB1 := hBA.grown hg1 hBA.size (fun q hq => by injection hq with hq; have := gH.out; omega)
    clear hGA hNA hBA hg1 hnG
    have hI1 := hIH.out w1 hB1
    obtain ⟨bb, off, rfl, hcell⟩ := hI1.at hn1.out
    have cb := hcell 0 hn1.out
    rw [hx0.out, Nat.add_zero] at cb
    clear hI1 hcell
    go_wp2_with ((with_reducible refine build_row rfl 28 #[(0, .tmp 18)] rfl (cells := B.toArray) ?_ ?_); (refine Eq.trans (congrArg _ ?_) hbt; kernel_rfl); refine RowKit.Hid.out ?_)
    refine Lib.hid ?_
    refine wpList_alloc_blk rfl 28 rfl hZz ?_
    try simp only [Act.put, List.setIfInBounds_toArray, List.set_cons_zero, List.set_cons_succ]
    have hGA := hG1.alloc (.cells Z.toArray 28)
    have hzA := hz1.alloc (.cells Z.toArray 28)
    have hNA := Blk.new w1 28 Z
    have hBA := hB1.alloc hB1.size (.cells Z.toArray 28)
    have hn0 : N0 < w1.heap.size := hz1.lt
    obtain ⟨N, hN⟩ : ∃ N, w1.heap.size = N := ⟨_, rfl⟩
    rw [hN] at hNA hn0 ⊢
    have nGN := Lib.hid hn0
    obtain ⟨U1, hU⟩ : ∃ W, w1.alloc (.cells Z.toArray 28) = W := ⟨_, rfl⟩
    rw [hU] at hGA hzA hNA hBA ⊢
    clear hG1 hz1 hB1 hN hU cb
    refine store_row rfl 28 (.tmp 5) (.tmp 19) rfl rfl rfl hNA rowMs hBl hZl hB1' ?_
    intro w2 hN2 hg2
    have hG2 := hGA.grown hg2 (fun e => by injection e with e; have := nG0.out; omega)
    have hz2 := hzA.grown hg2 (fun e => by injection e with e; omega)
    have hB2 := hBA.grown hg2 hBA.size (fun q hq => by injection hq with hq; have := gH.out; have := nG0.out; omega)
    clear hGA hzA hNA hBA hg2 hn0
    have hG3 := hG2.alloc (.cells #[.int .i64 0, .int .i64 3, .int .i64 27, .int .i64 5, .int .i64 5] 3)
    have hz3 := hz2.alloc (.cells #[.int .i64 0, .int .i64 3, .int .i64 27, .int .i64 5, .int .i64 5] 3)
    have hN3 := hN2.alloc (.cells #[.int .i64 0, .int .i64 3, .int .i64 27, .int .i64 5, .int .i64 5] 3)
    have hM3 := Blk.new w2 3 [.int .i64 0, .int .i64 3, .int .i64 27, .int .i64 5, .int .i64 5]
    have hB3 := hB2.alloc hB2.size (.cells #[.int .i64 0, .int .i64 3, .int .i64 27, .int .i64 5, .int .i64 5] 3)
    have hnm : N < w2.heap.size := hN2.lt
    obtain ⟨M5, hM⟩ : ∃ N, w2.heap.size = N := ⟨_, rfl⟩
    obtain ⟨w3, hw3⟩ : ∃ W, w2.alloc (.cells #[.int .i64 0, .int .i64 3, .int .i64 27, .int .i64 5, .int .i64 5] 3) = W := ⟨_, rfl⟩
    rw [hw3] at hG3 hz3 hN3 hM3 hB3
    rw [hM] at hM3 hnm
    have nNM := Lib.hid hnm
    rw [← hBH.out] at hN3
    have c0 := ms0 hN3
    clear hG2 hz2 hN2 hB2 hnm
    go_wp2_with ((with_reducible refine wpList_load_blk rfl 28 (.tmp 4) rfl ?_ hz3 rowMs hZl ?_); rfl; refine RowKit.Hid.out ?_)
    refine Lib.hid ?_
    skip
    refine store_row rfl 28 (.tmp 2) (.tmp 29) rfl rfl rfl hG3 rowMs hZl hZl hZ1 ?_
    intro wY hGY hgY
    have hrZ : IsRow Try.prog 28 Z.length := by rw [hZl]; exact rowMs
    go_wp2_with fail
    refine bodyPost_ret (results_blk_tmp rfl rfl hGY hrZ) rfl ?_
    rw [hend.out]
    exact ⟨none, 0, by rw [← hZH.out]; rfl, ⟨rfl, Nat.le_refl _, .inl rfl⟩, (fun x hx => by cases hx), hB3.grown hgY hB3.size (fun q hq => by injection hq with hq; have := gH.out; omega)⟩
  · have hk1 : ¬ k < 1 := by omega
    have g1 : decide (k < 1) = false := decide_eq_false hk1
    have g4 : decide ((4 : Int) < k) = true := decide_eq_true hk4
    go_enter Try.func13, Try.ntmps13
    go_wp2_with ((with_reducible refine wpList_alloc_blk rfl 28 rfl hZz ?_); refine RowKit.Hid.out ?_)
    refine Lib.hid ?_
    clear hV
    go_wp2_with ((with_reducible refine build_row rfl 28 #[] rfl (cells := Z.toArray) ?_ ?_); (refine Eq.trans (congrArg _ ?_) hbt0; kernel_rfl); refine RowKit.Hid.out ?_)
    refine Lib.hid ?_
    refine wpList_alloc_blk rfl 28 rfl hZz ?_
    try simp only [Act.put, List.setIfInBounds_toArray, List.set_cons_zero, List.set_cons_succ]
    have hGA := hk.alloc (.cells Z.toArray 28)
    have hNA := Blk.new V 28 Z
    have hBA := hb.alloc hb.size (.cells Z.toArray 28)
    have hnG : G < V.heap.size := hk.lt
    obtain ⟨N0, hN⟩ : ∃ N, V.heap.size = N := ⟨_, rfl⟩
    rw [hN] at hNA hnG ⊢
    have nG0 := Lib.hid hnG
    obtain ⟨U, hU⟩ : ∃ W, V.alloc (.cells Z.toArray 28) = W := ⟨_, rfl⟩
    rw [hU] at hGA hNA hBA ⊢
    clear hk hb hN hU
    refine store_row rfl 28 (.tmp 4) (.tmp 10) rfl rfl rfl hNA rowMs hZl hZl hZ1 ?_
    intro w1 hz1 hg1
    have hG1 := hGA.grown hg1 (fun e => by injection e with e; omega)
    have hB1 := hBA.grown hg1 hBA.size (fun q hq => by injection hq with hq; have := gH.out; omega)
    clear hGA hNA hBA hg1 hnG
    have hI1 := hIH.out w1 hB1
    obtain ⟨bb, off, rfl, hcell⟩ := hI1.at hn1.out
    have cb := hcell 0 hn1.out
    rw [hx0.out, Nat.add_zero] at cb
    clear hI1 hcell
    go_wp2_with ((with_reducible refine build_row rfl 28 #[(0, .tmp 18)] rfl (cells := B.toArray) ?_ ?_); (refine Eq.trans (congrArg _ ?_) hbt; kernel_rfl); refine RowKit.Hid.out ?_)
    refine Lib.hid ?_
    refine wpList_alloc_blk rfl 28 rfl hZz ?_
    try simp only [Act.put, List.setIfInBounds_toArray, List.set_cons_zero, List.set_cons_succ]
    have hGA := hG1.alloc (.cells Z.toArray 28)
    have hzA := hz1.alloc (.cells Z.toArray 28)
    have hNA := Blk.new w1 28 Z
    have hBA := hB1.alloc hB1.size (.cells Z.toArray 28)
    have hn0 : N0 < w1.heap.size := hz1.lt
    obtain ⟨N, hN⟩ : ∃ N, w1.heap.size = N := ⟨_, rfl⟩
    rw [hN] at hNA hn0 ⊢
    have nGN := Lib.hid hn0
    obtain ⟨U1, hU⟩ : ∃ W, w1.alloc (.cells Z.toArray 28) = W := ⟨_, rfl⟩
    rw [hU] at hGA hzA hNA hBA ⊢
    clear hG1 hz1 hB1 hN hU cb
    refine store_row rfl 28 (.tmp 5) (.tmp 19) rfl rfl rfl hNA rowMs hBl hZl hB1' ?_
    intro w2 hN2 hg2
    have hG2 := hGA.grown hg2 (fun e => by injection e with e; have := nG0.out; omega)
    have hz2 := hzA.grown hg2 (fun e => by injection e with e; omega)
    have hB2 := hBA.grown hg2 hBA.size (fun q hq => by injection hq with hq; have := gH.out; have := nG0.out; omega)
    clear hGA hzA hNA hBA hg2 hn0
    have hG3 := hG2.alloc (.cells #[.int .i64 0, .int .i64 3, .int .i64 27, .int .i64 5, .int .i64 5] 3)
    have hz3 := hz2.alloc (.cells #[.int .i64 0, .int .i64 3, .int .i64 27, .int .i64 5, .int .i64 5] 3)
    have hN3 := hN2.alloc (.cells #[.int .i64 0, .int .i64 3, .int .i64 27, .int .i64 5, .int .i64 5] 3)
    have hM3 := Blk.new w2 3 [.int .i64 0, .int .i64 3, .int .i64 27, .int .i64 5, .int .i64 5]
    have hB3 := hB2.alloc hB2.size (.cells #[.int .i64 0, .int .i64 3, .int .i64 27, .int .i64 5, .int .i64 5] 3)
    have hnm : N < w2.heap.size := hN2.lt
    obtain ⟨M5, hM⟩ : ∃ N, w2.heap.size = N := ⟨_, rfl⟩
    obtain ⟨w3, hw3⟩ : ∃ W, w2.alloc (.cells #[.int .i64 0, .int .i64 3, .int .i64 27, .int .i64 5, .int .i64 5] 3) = W := ⟨_, rfl⟩
    rw [hw3] at hG3 hz3 hN3 hM3 hB3
    rw [hM] at hM3 hnm
    have nNM := Lib.hid hnm
    rw [← hBH.out] at hN3
    have c0 := ms0 hN3
    clear hG2 hz2 hN2 hB2 hnm
    go_wp2_with ((with_reducible refine wpList_load_blk rfl 28 (.tmp 4) rfl ?_ hz3 rowMs hZl ?_); rfl; refine RowKit.Hid.out ?_)
    refine Lib.hid ?_
    skip
    refine store_row rfl 28 (.tmp 2) (.tmp 29) rfl rfl rfl hG3 rowMs hZl hZl hZ1 ?_
    intro wY hGY hgY
    have hrZ : IsRow Try.prog 28 Z.length := by rw [hZl]; exact rowMs
    go_wp2_with fail
    refine bodyPost_ret (results_blk_tmp rfl rfl hGY hrZ) rfl ?_
    rw [hend.out]
    exact ⟨none, 0, by rw [← hZH.out]; rfl, ⟨rfl, Nat.le_refl _, .inl rfl⟩, (fun x hx => by cases hx), hB3.grown hgY hB3.size (fun q hq => by injection hq with hq; have := gH.out; omega)⟩

set_option maxRecDepth 100000 in
set_option maxHeartbeats 4000000 in
theorem r14Decode_open (a : Option Addr) (n c : Nat) (xs : List Int) (w : World) (hI : Ints .u8 w a n c xs) (hr : ∀ x ∈ xs, 0 ≤ x ∧ x < 256) (hn : n ≤ 1000000) (hx : ∃ r, xs = 1 :: r) :
    Calls Try.prog 13 #[.slice a n c] w (DecEnd xs w) := by
  have hln := hI.len
  have hnm0 : (n : Int) ≤ 1000000 := by omega
  have hcH := Lib.hid hI.2.1
  have hIH := Lib.hid (fun w' (h : Below w.heap.size w w') => hI.keep h)
  have hrH := Lib.hid hr
  obtain ⟨Z, hZ⟩ : ∃ B, msC 0 0 0 0 z16 none 0 0 = B := ⟨_, rfl⟩
  have hZz : Zero Try.prog 28 Z := hZ ▸ zeroMs
  have hbt0 := built_ms0
  have hZH := Lib.hid hZ
  have hZl : Z.length = 21 := by rw [← hZ]; exact msC_len z16_len
  have hZ1 : ∀ v ∈ Z, v.oneCell' = true := by rw [← hZ]; exact msC_one _ _ _ _ _ _ _ _
  rw [hZ] at hbt0
  clear hZ
  have hb := below1 w (.cells Z.toArray 28)
  have hk : Blk (w.alloc (.cells Z.toArray 28)) w.heap.size 28 Z := Blk.new w _ _
  obtain ⟨V, hV⟩ : ∃ V, w.alloc (.cells Z.toArray 28) = V := ⟨_, rfl⟩
  rw [hV] at hb hk
  obtain ⟨G, g9⟩ : ∃ G, w.heap.size = G := ⟨_, rfl⟩
  rw [g9] at hk
  have gH := Lib.hid g9
  unfold DecEnd
  obtain ⟨r, rfl⟩ := hx
  have hlr : r.length + 1 = n := hln
  have hn1 := Lib.hid (show 0 < n by omega)
  have hx0 := Lib.hid (show (1 :: r).getD 0 0 = 1 from rfl)
  have hni : ¬ (n : Int) < 1 := by omega
  have hbt := built_ms1 1
  obtain ⟨B, hB⟩ : ∃ B, msC 1 0 0 0 z16 none 0 0 = B := ⟨_, rfl⟩
  have hBH := Lib.hid hB
  have hBl : B.length = 21 := by rw [← hB]; exact msC_len z16_len
  have hB1' : ∀ v ∈ B, v.oneCell' = true := by rw [← hB]; exact msC_one _ _ _ _ _ _ _ _
  rw [hB] at hbt
  obtain ⟨xs, hxs⟩ : ∃ xs, 1 :: r = xs := ⟨_, rfl⟩
  rw [hxs] at hx0 hIH hrH
  rw [hxs]
  have hxsH := Lib.hid hxs
  clear hB hxs hI hr hn
  have hxr : (xs.drop 1).take 2 = r.take 2 := by rw [← hxsH.out]; rfl
  obtain ⟨v, hv⟩ : ∃ v, be ((xs.drop 1).take 2) = v := ⟨_, rfl⟩
  by_cases h3 : n < 3
  · have hend := Lib.hid (show decM xs = (noMsg, 2) by rw [← hxsH.out, decM, if_neg (by decide), if_pos rfl, if_pos (by omega)])
    have hni3 : (n : Int) < 3 := by omega
    clear hlr hln h3 hxr
    go_enter Try.func13, Try.ntmps13
    go_wp2_with ((with_reducible refine wpList_alloc_blk rfl 28 rfl hZz ?_); refine RowKit.Hid.out ?_)
    refine Lib.hid ?_
    clear hV
    go_wp2_with ((with_reducible refine build_row rfl 28 #[] rfl (cells := Z.toArray) ?_ ?_); (refine Eq.trans (congrArg _ ?_) hbt0; kernel_rfl); refine RowKit.Hid.out ?_)
    refine Lib.hid ?_
    refine wpList_alloc_blk rfl 28 rfl hZz ?_
    try simp only [Act.put, List.setIfInBounds_toArray, List.set_cons_zero, List.set_cons_succ]
    have hGA := hk.alloc (.cells Z.toArray 28)
    have hNA := Blk.new V 28 Z
    have hBA := hb.alloc hb.size (.cells Z.toArray 28)
    have hnG : G < V.heap.size := hk.lt
    obtain ⟨N0, hN⟩ : ∃ N, V.heap.size = N := ⟨_, rfl⟩
    rw [hN] at hNA hnG ⊢
    have nG0 := Lib.hid hnG
    obtain ⟨U, hU⟩ : ∃ W, V.alloc (.cells Z.toArray 28) = W := ⟨_, rfl⟩
    rw [hU] at hGA hNA hBA ⊢
    clear hk hb hN hU
    refine store_row rfl 28 (.tmp 4) (.tmp 10) rfl rfl rfl hNA rowMs hZl hZl hZ1 ?_
    intro w1 hz1 hg1
    have hG1 := hGA.grown hg1 (fun e => by injection e with e; omega)
    have hB1 := hBA.grown hg1 hBA.size (fun q hq => by injection hq with hq; have := gH.out; omega)
    clear hGA hNA hBA hg1 hnG
    have hI1 := hIH.out w1 hB1
    obtain ⟨bb, off, rfl, hcell⟩ := hI1.at hn1.out
    have cb := hcell 0 hn1.out
    rw [hx0.out, Nat.add_zero] at cb
    clear hI1 hcell
    go_wp2_with ((with_reducible refine build_row rfl 28 #[(0, .tmp 18)] rfl (cells := B.toArray) ?_ ?_); (refine Eq.trans (congrArg _ ?_) hbt; kernel_rfl); refine RowKit.Hid.out ?_)
    refine Lib.hid ?_
    refine wpList_alloc_blk rfl 28 rfl hZz ?_
    try simp only [Act.put, List.setIfInBounds_toArray, List.set_cons_zero, List.set_cons_succ]
    have hGA := hG1.alloc (.cells Z.toArray 28)
    have hzA := hz1.alloc (.cells Z.toArray 28)
    have hNA := Blk.new w1 28 Z
    have hBA := hB1.alloc hB1.size (.cells Z.toArray 28)
    have hn0 : N0 < w1.heap.size := hz1.lt
    obtain ⟨N, hN⟩ : ∃ N, w1.heap.size = N := ⟨_, rfl⟩
    rw [hN] at hNA hn0 ⊢
    have nGN := Lib.hid hn0
    obtain ⟨U1, hU⟩ : ∃ W, w1.alloc (.cells Z.toArray 28) = W := ⟨_, rfl⟩
    rw [hU] at hGA hzA hNA hBA ⊢
    clear hG1 hz1 hB1 hN hU cb
    refine store_row rfl 28 (.tmp 5) (.tmp 19) rfl rfl rfl hNA rowMs hBl hZl hB1' ?_
    intro w2 hN2 hg2
    have hG2 := hGA.grown hg2 (fun e => by injection e with e; have := nG0.out; omega)
    have hz2 := hzA.grown hg2 (fun e => by injection e with e; omega)
    have hB2 := hBA.grown hg2 hBA.size (fun q hq => by injection hq with hq; have := gH.out; have := nG0.out; omega)
    clear hGA hzA hNA hBA hg2 hn0
    have hG3 := hG2.alloc (.cells #[.int .i64 0, .int .i64 3, .int .i64 27, .int .i64 5, .int .i64 5] 3)
    have hz3 := hz2.alloc (.cells #[.int .i64 0, .int .i64 3, .int .i64 27, .int .i64 5, .int .i64 5] 3)
    have hN3 := hN2.alloc (.cells #[.int .i64 0, .int .i64 3, .int .i64 27, .int .i64 5, .int .i64 5] 3)
    have hM3 := Blk.new w2 3 [.int .i64 0, .int .i64 3, .int .i64 27, .int .i64 5, .int .i64 5]
    have hB3 := hB2.alloc hB2.size (.cells #[.int .i64 0, .int .i64 3, .int .i64 27, .int .i64 5, .int .i64 5] 3)
    have hnm : N < w2.heap.size := hN2.lt
    obtain ⟨M5, hM⟩ : ∃ N, w2.heap.size = N := ⟨_, rfl⟩
    obtain ⟨w3, hw3⟩ : ∃ W, w2.alloc (.cells #[.int .i64 0, .int .i64 3, .int .i64 27, .int .i64 5, .int .i64 5] 3) = W := ⟨_, rfl⟩
    rw [hw3] at hG3 hz3 hN3 hM3 hB3
    rw [hM] at hM3 hnm
    have nNM := Lib.hid hnm
    rw [← hBH.out] at hN3
    have c0 := ms0 hN3
    clear hG2 hz2 hN2 hB2 hnm
    have cs : w3.cell? ⟨M5, 1, none⟩ = some (.int .i64 3) := hM3.cell 1
    clear hM3
    go_wp2_with ((with_reducible refine wpList_load_blk rfl 28 (.tmp 4) rfl ?_ hz3 rowMs hZl ?_); rfl; refine RowKit.Hid.out ?_)
    refine Lib.hid ?_
    skip
    refine store_row rfl 28 (.tmp 2) (.tmp 39) rfl rfl rfl hG3 rowMs hZl hZl hZ1 ?_
    intro wY hGY hgY
    have hrZ : IsRow Try.prog 28 Z.length := by rw [hZl]; exact rowMs
    go_wp2_with fail
    refine bodyPost_ret (results_blk_tmp rfl rfl hGY hrZ) rfl ?_
    rw [hend.out]
    exact ⟨none, 0, by rw [← hZH.out]; rfl, ⟨rfl, Nat.le_refl _, .inl rfl⟩, (fun x hx => by cases hx), hB3.grown hgY hB3.size (fun q hq => by injection hq with hq; have := gH.out; omega)⟩
  have hni3 : ¬ (n : Int) < 3 := by omega
  have hnL := Lib.hid (show 3 ≤ n by omega)
  by_cases h4 : 3 < n
  · have hend := Lib.hid (show decM xs = (noMsg, 3) by rw [← hxsH.out, decM, if_neg (by decide), if_pos rfl, if_neg (by omega), if_pos (by omega)])
    have hni4 : (3 : Int) < (n : Int) := by omega
    clear hlr hln h3 h4 hxr
    go_enter Try.func13, Try.ntmps13
    go_wp2_with ((with_reducible refine wpList_alloc_blk rfl 28 rfl hZz ?_); refine RowKit.Hid.out ?_)
    refine Lib.hid ?_
    clear hV
    go_wp2_with ((with_reducible refine build_row rfl 28 #[] rfl (cells := Z.toArray) ?_ ?_); (refine Eq.trans (congrArg _ ?_) hbt0; kernel_rfl); refine RowKit.Hid.out ?_)
    refine Lib.hid ?_
    refine wpList_alloc_blk rfl 28 rfl hZz ?_
    try simp only [Act.put, List.setIfInBounds_toArray, List.set_cons_zero, List.set_cons_succ]
    have hGA := hk.alloc (.cells Z.toArray 28)
    have hNA := Blk.new V 28 Z
    have hBA := hb.alloc hb.size (.cells Z.toArray 28)
    have hnG : G < V.heap.size := hk.lt
    obtain ⟨N0, hN⟩ : ∃ N, V.heap.size = N := ⟨_, rfl⟩
    rw [hN] at hNA hnG ⊢
    have nG0 := Lib.hid hnG
    obtain ⟨U, hU⟩ : ∃ W, V.alloc (.cells Z.toArray 28) = W := ⟨_, rfl⟩
    rw [hU] at hGA hNA hBA ⊢
    clear hk hb hN hU
    refine store_row rfl 28 (.tmp 4) (.tmp 10) rfl rfl rfl hNA rowMs hZl hZl hZ1 ?_
    intro w1 hz1 hg1
    have hG1 := hGA.grown hg1 (fun e => by injection e with e; omega)
    have hB1 := hBA.grown hg1 hBA.size (fun q hq => by injection hq with hq; have := gH.out; omega)
    clear hGA hNA hBA hg1 hnG
    have hI1 := hIH.out w1 hB1
    obtain ⟨bb, off, rfl, hcell⟩ := hI1.at hn1.out
    have cb := hcell 0 hn1.out
    rw [hx0.out, Nat.add_zero] at cb
    clear hI1 hcell
    go_wp2_with ((with_reducible refine build_row rfl 28 #[(0, .tmp 18)] rfl (cells := B.toArray) ?_ ?_); (refine Eq.trans (congrArg _ ?_) hbt; kernel_rfl); refine RowKit.Hid.out ?_)
    refine Lib.hid ?_
    refine wpList_alloc_blk rfl 28 rfl hZz ?_
    try simp only [Act.put, List.setIfInBounds_toArray, List.set_cons_zero, List.set_cons_succ]
    have hGA := hG1.alloc (.cells Z.toArray 28)
    have hzA := hz1.alloc (.cells Z.toArray 28)
    have hNA := Blk.new w1 28 Z
    have hBA := hB1.alloc hB1.size (.cells Z.toArray 28)
    have hn0 : N0 < w1.heap.size := hz1.lt
    obtain ⟨N, hN⟩ : ∃ N, w1.heap.size = N := ⟨_, rfl⟩
    rw [hN] at hNA hn0 ⊢
    have nGN := Lib.hid hn0
    obtain ⟨U1, hU⟩ : ∃ W, w1.alloc (.cells Z.toArray 28) = W := ⟨_, rfl⟩
    rw [hU] at hGA hzA hNA hBA ⊢
    clear hG1 hz1 hB1 hN hU cb
    refine store_row rfl 28 (.tmp 5) (.tmp 19) rfl rfl rfl hNA rowMs hBl hZl hB1' ?_
    intro w2 hN2 hg2
    have hG2 := hGA.grown hg2 (fun e => by injection e with e; have := nG0.out; omega)
    have hz2 := hzA.grown hg2 (fun e => by injection e with e; omega)
    have hB2 := hBA.grown hg2 hBA.size (fun q hq => by injection hq with hq; have := gH.out; have := nG0.out; omega)
    clear hGA hzA hNA hBA hg2 hn0
    have hG3 := hG2.alloc (.cells #[.int .i64 0, .int .i64 3, .int .i64 27, .int .i64 5, .int .i64 5] 3)
    have hz3 := hz2.alloc (.cells #[.int .i64 0, .int .i64 3, .int .i64 27, .int .i64 5, .int .i64 5] 3)
    have hN3 := hN2.alloc (.cells #[.int .i64 0, .int .i64 3, .int .i64 27, .int .i64 5, .int .i64 5] 3)
    have hM3 := Blk.new w2 3 [.int .i64 0, .int .i64 3, .int .i64 27, .int .i64 5, .int .i64 5]
    have hB3 := hB2.alloc hB2.size (.cells #[.int .i64 0, .int .i64 3, .int .i64 27, .int .i64 5, .int .i64 5] 3)
    have hnm : N < w2.heap.size := hN2.lt
    obtain ⟨M5, hM⟩ : ∃ N, w2.heap.size = N := ⟨_, rfl⟩
    obtain ⟨w3, hw3⟩ : ∃ W, w2.alloc (.cells #[.int .i64 0, .int .i64 3, .int .i64 27, .int .i64 5, .int .i64 5] 3) = W := ⟨_, rfl⟩
    rw [hw3] at hG3 hz3 hN3 hM3 hB3
    rw [hM] at hM3 hnm
    have nNM := Lib.hid hnm
    rw [← hBH.out] at hN3
    have c0 := ms0 hN3
    clear hG2 hz2 hN2 hB2 hnm
    have cs : w3.cell? ⟨M5, 1, none⟩ = some (.int .i64 3) := hM3.cell 1
    clear hM3
    have cv := (r14Value_any (cutAddr (some ⟨bb, off, none⟩) c 1) 2 (c - 1) ((xs.drop 1).take 2) w3 ((hIH.out w3 hB3).cut2 1 3 (by decide) (by have := hnL.out; omega)) (fun x hx => hrH.out x (List.mem_of_mem_drop (List.mem_of_mem_take hx))) (by decide))
    rw [hv] at cv
    have cvH := Lib.hid cv
    clear cv
    have hsl : ∀ wx : World, (Instr.sliceAt 26 (.slice (some ⟨bb, off, none⟩) n c) (some (.int .i64 1)) (some (.int .i64 3)) none).run Try.prog wx = .ok (.slice (cutAddr (some ⟨bb, off, none⟩) c 1) 2 (c - 1)) wx := sl_cut (n := n) (c := c) (some ⟨bb, off, none⟩) 1 3 (by decide) (by have := hnL.out; have := hcH.out; omega)
    obtain ⟨A4, hA4⟩ : ∃ A, cutAddr (some ⟨bb, off, none⟩) c 1 = A := ⟨_, rfl⟩
    rw [hA4] at cvH hsl
    clear hA4
    go_wp2_with fail
    refine cvH.out.mono ?_
    rintro r w4 ⟨rfl, hww⟩
    subst hww
    clear cvH hsl
    have d0 := ms3 hN3
    have f0 := hN3.frozen 3
    have hN5 : Blk (w3.setCell ⟨N, 3, none⟩ (.int .u32 v)) N 28 (msC 1 0 0 v z16 none 0 0) := hN3.set 3 (.int .u32 v)
    have hG5 : Blk (w3.setCell ⟨N, 3, none⟩ (.int .u32 v)) G 28 Z := hG3.far (by show G ≠ N; have := nGN.out; have := nG0.out; omega) _
    have hz5 : Blk (w3.setCell ⟨N, 3, none⟩ (.int .u32 v)) N0 28 Z := hz3.far (by show N0 ≠ N; have := nGN.out; omega) _
    have hB5 : Below w.heap.size w (w3.setCell ⟨N, 3, none⟩ (.int .u32 v)) := hB3.setCell (p := ⟨N, 3, none⟩) (by show w.heap.size ≤ N; have := nGN.out; have := nG0.out; have := gH.out; omega) _
    obtain ⟨w5, hw5⟩ : ∃ W, w3.setCell ⟨N, 3, none⟩ (.int .u32 v) = W := ⟨_, rfl⟩
    rw [hw5] at hN5 hG5 hz5 hB5
    clear hN3 hG3 hz3 hB3
    have c0 := ms0 hN5
    go_wp2_with ((with_reducible refine wpList_load_blk rfl 28 (.tmp 4) rfl ?_ hz5 rowMs hZl ?_); rfl; refine RowKit.Hid.out ?_)
    refine Lib.hid ?_
    try simp only [Act.put, List.setIfInBounds_toArray, List.set_cons_zero, List.set_cons_succ]
    refine store_row rfl 28 (.tmp 2) (.tmp 100) rfl rfl rfl hG5 rowMs hZl hZl hZ1 ?_
    intro wY hGY hgY
    have hrZ : IsRow Try.prog 28 Z.length := by rw [hZl]; exact rowMs
    go_wp2_with fail
    refine bodyPost_ret (results_blk_tmp rfl rfl hGY hrZ) rfl ?_
    rw [hend.out]
    exact ⟨none, 0, by rw [← hZH.out]; rfl, ⟨rfl, Nat.le_refl _, .inl rfl⟩, (fun x hx => by cases hx), hB5.grown hgY hB5.size (fun q hq => by injection hq with hq; have := gH.out; omega)⟩
  have hni4 : ¬ (3 : Int) < (n : Int) := by omega
  have hend := Lib.hid (show decM xs = (⟨1, 0, 0, v, z16, []⟩, 0) by rw [← hv, hxr, List.take_of_length_le (l := r) (by omega), ← hxsH.out, decM, if_neg (by decide), if_pos rfl, if_neg (by omega), if_neg (by omega)])
  have hl2 : (msC 1 0 0 v z16 none 0 0).length = 21 := msC_len z16_len
  clear hlr hln h3 h4 hxr
  go_enter Try.func13, Try.ntmps13
  go_wp2_with ((with_reducible refine wpList_alloc_blk rfl 28 rfl hZz ?_); refine RowKit.Hid.out ?_)
  refine Lib.hid ?_
  clear hV
  go_wp2_with ((with_reducible refine build_row rfl 28 #[] rfl (cells := Z.toArray) ?_ ?_); (refine Eq.trans (congrArg _ ?_) hbt0; kernel_rfl); refine RowKit.Hid.out ?_)
  refine Lib.hid ?_
  refine wpList_alloc_blk rfl 28 rfl hZz ?_
  try simp only [Act.put, List.setIfInBounds_toArray, List.set_cons_zero, List.set_cons_succ]
  have hGA := hk.alloc (.cells Z.toArray 28)
  have hNA := Blk.new V 28 Z
  have hBA := hb.alloc hb.size (.cells Z.toArray 28)
  have hnG : G < V.heap.size := hk.lt
  obtain ⟨N0, hN⟩ : ∃ N, V.heap.size = N := ⟨_, rfl⟩
  rw [hN] at hNA hnG ⊢
  have nG0 := Lib.hid hnG
  obtain ⟨U, hU⟩ : ∃ W, V.alloc (.cells Z.toArray 28) = W := ⟨_, rfl⟩
  rw [hU] at hGA hNA hBA ⊢
  clear hk hb hN hU
  refine store_row rfl 28 (.tmp 4) (.tmp 10) rfl rfl rfl hNA rowMs hZl hZl hZ1 ?_
  intro w1 hz1 hg1
  have hG1 := hGA.grown hg1 (fun e => by injection e with e; omega)
  have hB1 := hBA.grown hg1 hBA.size (fun q hq => by injection hq with hq; have := gH.out; omega)
  clear hGA hNA hBA hg1 hnG
  have hI1 := hIH.out w1 hB1
  obtain ⟨bb, off, rfl, hcell⟩ := hI1.at hn1.out
  have cb := hcell 0 hn1.out
  rw [hx0.out, Nat.add_zero] at cb
  clear hI1 hcell
  go_wp2_with ((with_reducible refine build_row rfl 28 #[(0, .tmp 18)] rfl (cells := B.toArray) ?_ ?_); (refine Eq.trans (congrArg _ ?_) hbt; kernel_rfl); refine RowKit.Hid.out ?_)
  refine Lib.hid ?_
  refine wpList_alloc_blk rfl 28 rfl hZz ?_
  try simp only [Act.put, List.setIfInBounds_toArray, List.set_cons_zero, List.set_cons_succ]
  have hGA := hG1.alloc (.cells Z.toArray 28)
  have hzA := hz1.alloc (.cells Z.toArray 28)
  have hNA := Blk.new w1 28 Z
  have hBA := hB1.alloc hB1.size (.cells Z.toArray 28)
  have hn0 : N0 < w1.heap.size := hz1.lt
  obtain ⟨N, hN⟩ : ∃ N, w1.heap.size = N := ⟨_, rfl⟩
  rw [hN] at hNA hn0 ⊢
  have nGN := Lib.hid hn0
  obtain ⟨U1, hU⟩ : ∃ W, w1.alloc (.cells Z.toArray 28) = W := ⟨_, rfl⟩
  rw [hU] at hGA hzA hNA hBA ⊢
  clear hG1 hz1 hB1 hN hU cb
  refine store_row rfl 28 (.tmp 5) (.tmp 19) rfl rfl rfl hNA rowMs hBl hZl hB1' ?_
  intro w2 hN2 hg2
  have hG2 := hGA.grown hg2 (fun e => by injection e with e; have := nG0.out; omega)
  have hz2 := hzA.grown hg2 (fun e => by injection e with e; omega)
  have hB2 := hBA.grown hg2 hBA.size (fun q hq => by injection hq with hq; have := gH.out; have := nG0.out; omega)
  clear hGA hzA hNA hBA hg2 hn0
  have hG3 := hG2.alloc (.cells #[.int .i64 0, .int .i64 3, .int .i64 27, .int .i64 5, .int .i64 5] 3)
  have hz3 := hz2.alloc (.cells #[.int .i64 0, .int .i64 3, .int .i64 27, .int .i64 5, .int .i64 5] 3)
  have hN3 := hN2.alloc (.cells #[.int .i64 0, .int .i64 3, .int .i64 27, .int .i64 5, .int .i64 5] 3)
  have hM3 := Blk.new w2 3 [.int .i64 0, .int .i64 3, .int .i64 27, .int .i64 5, .int .i64 5]
  have hB3 := hB2.alloc hB2.size (.cells #[.int .i64 0, .int .i64 3, .int .i64 27, .int .i64 5, .int .i64 5] 3)
  have hnm : N < w2.heap.size := hN2.lt
  obtain ⟨M5, hM⟩ : ∃ N, w2.heap.size = N := ⟨_, rfl⟩
  obtain ⟨w3, hw3⟩ : ∃ W, w2.alloc (.cells #[.int .i64 0, .int .i64 3, .int .i64 27, .int .i64 5, .int .i64 5] 3) = W := ⟨_, rfl⟩
  rw [hw3] at hG3 hz3 hN3 hM3 hB3
  rw [hM] at hM3 hnm
  have nNM := Lib.hid hnm
  rw [← hBH.out] at hN3
  have c0 := ms0 hN3
  clear hG2 hz2 hN2 hB2 hnm
  have cs : w3.cell? ⟨M5, 1, none⟩ = some (.int .i64 3) := hM3.cell 1
  clear hM3
  have cv := (r14Value_any (cutAddr (some ⟨bb, off, none⟩) c 1) 2 (c - 1) ((xs.drop 1).take 2) w3 ((hIH.out w3 hB3).cut2 1 3 (by decide) (by have := hnL.out; omega)) (fun x hx => hrH.out x (List.mem_of_mem_drop (List.mem_of_mem_take hx))) (by decide))
  rw [hv] at cv
  have cvH := Lib.hid cv
  clear cv
  have hsl : ∀ wx : World, (Instr.sliceAt 26 (.slice (some ⟨bb, off, none⟩) n c) (some (.int .i64 1)) (some (.int .i64 3)) none).run Try.prog wx = .ok (.slice (cutAddr (some ⟨bb, off, none⟩) c 1) 2 (c - 1)) wx := sl_cut (n := n) (c := c) (some ⟨bb, off, none⟩) 1 3 (by decide) (by have := hnL.out; have := hcH.out; omega)
  obtain ⟨A4, hA4⟩ : ∃ A, cutAddr (some ⟨bb, off, none⟩) c 1 = A := ⟨_, rfl⟩
  rw [hA4] at cvH hsl
  clear hA4
  go_wp2_with fail
  refine cvH.out.mono ?_
  rintro r w4 ⟨rfl, hww⟩
  subst hww
  clear cvH hsl
  have d0 := ms3 hN3
  have f0 := hN3.frozen 3
  have hN5 : Blk (w3.setCell ⟨N, 3, none⟩ (.int .u32 v)) N 28 (msC 1 0 0 v z16 none 0 0) := hN3.set 3 (.int .u32 v)
  have hG5 : Blk (w3.setCell ⟨N, 3, none⟩ (.int .u32 v)) G 28 Z := hG3.far (by show G ≠ N; have := nGN.out; have := nG0.out; omega) _
  have hz5 : Blk (w3.setCell ⟨N, 3, none⟩ (.int .u32 v)) N0 28 Z := hz3.far (by show N0 ≠ N; have := nGN.out; omega) _
  have hB5 : Below w.heap.size w (w3.setCell ⟨N, 3, none⟩ (.int .u32 v)) := hB3.setCell (p := ⟨N, 3, none⟩) (by show w.heap.size ≤ N; have := nGN.out; have := nG0.out; have := gH.out; omega) _
  obtain ⟨w5, hw5⟩ : ∃ W, w3.setCell ⟨N, 3, none⟩ (.int .u32 v) = W := ⟨_, rfl⟩
  rw [hw5] at hN5 hG5 hz5 hB5
  clear hN3 hG3 hz3 hB3
  have c0 := ms0 hN5
  go_wp2_with ((with_reducible refine wpList_load_blk rfl 28 (.tmp 5) rfl ?_ hN5 rowMs hl2 ?_); rfl; refine RowKit.Hid.out ?_)
  refine Lib.hid ?_
  try simp only [Act.put, List.setIfInBounds_toArray, List.set_cons_zero, List.set_cons_succ]
  refine store_row rfl 28 (.tmp 2) (.tmp 101) rfl rfl rfl hG5 rowMs hl2 hZl (msC_one _ _ _ _ _ _ _ _) ?_
  intro wY hGY hgY
  have hrZ : IsRow Try.prog 28 (msC 1 0 0 v z16 none 0 0).length := by rw [hl2]; exact rowMs
  go_wp2_with fail
  refine bodyPost_ret (results_blk_tmp rfl rfl hGY hrZ) rfl ?_
  rw [hend.out]
  exact ⟨none, 0, rfl, ⟨rfl, Nat.le_refl _, .inl rfl⟩, (fun x hx => by cases hx), hB5.grown hgY hB5.size (fun q hq => by injection hq with hq; have := gH.out; omega)⟩

set_option maxRecDepth 100000 in
set_option maxHeartbeats 4000000 in
theorem r14Decode_ask (a : Option Addr) (n c : Nat) (xs : List Int) (w : World) (hI : Ints .u8 w a n c xs) (hr : ∀ x ∈ xs, 0 ≤ x ∧ x < 256) (hn : n ≤ 1000000) (hx : ∃ r, xs = 3 :: r) :
    Calls Try.prog 13 #[.slice a n c] w (DecEnd xs w) := by
  have hln := hI.len
  have hnm0 : (n : Int) ≤ 1000000 := by omega
  have hcH := Lib.hid hI.2.1
  have hIH := Lib.hid (fun w' (h : Below w.heap.size w w') => hI.keep h)
  have hrH := Lib.hid hr
  obtain ⟨Z, hZ⟩ : ∃ B, msC 0 0 0 0 z16 none 0 0 = B := ⟨_, rfl⟩
  have hZz : Zero Try.prog 28 Z := hZ ▸ zeroMs
  have hbt0 := built_ms0
  have hZH := Lib.hid hZ
  have hZl : Z.length = 21 := by rw [← hZ]; exact msC_len z16_len
  have hZ1 : ∀ v ∈ Z, v.oneCell' = true := by rw [← hZ]; exact msC_one _ _ _ _ _ _ _ _
  rw [hZ] at hbt0
  clear hZ
  have hb := below1 w (.cells Z.toArray 28)
  have hk : Blk (w.alloc (.cells Z.toArray 28)) w.heap.size 28 Z := Blk.new w _ _
  obtain ⟨V, hV⟩ : ∃ V, w.alloc (.cells Z.toArray 28) = V := ⟨_, rfl⟩
  rw [hV] at hb hk
  obtain ⟨G, g9⟩ : ∃ G, w.heap.size = G := ⟨_, rfl⟩
  rw [g9] at hk
  have gH := Lib.hid g9
  unfold DecEnd
  obtain ⟨r, rfl⟩ := hx
  have hlr : r.length + 1 = n := hln
  have hn1 := Lib.hid (show 0 < n by omega)
  have hx0 := Lib.hid (show (3 :: r).getD 0 0 = 3 from rfl)
  have hni : ¬ (n : Int) < 1 := by omega
  have hbt := built_ms1 3
  obtain ⟨B, hB⟩ : ∃ B, msC 3 0 0 0 z16 none 0 0 = B := ⟨_, rfl⟩
  have hBH := Lib.hid hB
  have hBl : B.length = 21 := by rw [← hB]; exact msC_len z16_len
  have hB1' : ∀ v ∈ B, v.oneCell' = true := by rw [← hB]; exact msC_one _ _ _ _ _ _ _ _
  rw [hB] at hbt
  obtain ⟨xs, hxs⟩ : ∃ xs, 3 :: r = xs := ⟨_, rfl⟩
  rw [hxs] at hx0 hIH hrH
  rw [hxs]
  have hxsH := Lib.hid hxs
  clear hB hxs hI hr hn
  have hxr : (xs.drop 1).take 4 = r.take 4 := by rw [← hxsH.out]; rfl
  obtain ⟨v, hv⟩ : ∃ v, be ((xs.drop 1).take 4) = v := ⟨_, rfl⟩
  by_cases h3 : n < 5
  · have hend := Lib.hid (show decM xs = (noMsg, 2) by rw [← hxsH.out, decM, if_neg (by decide), if_neg (by decide), if_neg (by decide), if_pos (by omega)])
    have hni3 : (n : Int) < 5 := by omega
    clear hlr hln h3 hxr
    go_enter Try.func13, Try.ntmps13
    go_wp2_with ((with_reducible refine wpList_alloc_blk rfl 28 rfl hZz ?_); refine RowKit.Hid.out ?_)
    refine Lib.hid ?_
    clear hV
    go_wp2_with ((with_reducible refine build_row rfl 28 #[] rfl (cells := Z.toArray) ?_ ?_); (refine Eq.trans (congrArg _ ?_) hbt0; kernel_rfl); refine RowKit.Hid.out ?_)
    refine Lib.hid ?_
    refine wpList_alloc_blk rfl 28 rfl hZz ?_
    try simp only [Act.put, List.setIfInBounds_toArray, List.set_cons_zero, List.set_cons_succ]
    have hGA := hk.alloc (.cells Z.toArray 28)
    have hNA := Blk.new V 28 Z
    have hBA := hb.alloc hb.size (.cells Z.toArray 28)
    have hnG : G < V.heap.size := hk.lt
    obtain ⟨N0, hN⟩ : ∃ N, V.heap.size = N := ⟨_, rfl⟩
    rw [hN] at hNA hnG ⊢
    have nG0 := Lib.hid hnG
    obtain ⟨U, hU⟩ : ∃ W, V.alloc (.cells Z.toArray 28) = W := ⟨_, rfl⟩
    rw [hU] at hGA hNA hBA ⊢
    clear hk hb hN hU
    refine store_row rfl 28 (.tmp 4) (.tmp 10) rfl rfl rfl hNA rowMs hZl hZl hZ1 ?_
    intro w1 hz1 hg1
    have hG1 := hGA.grown hg1 (fun e => by injection e with e; omega)
    have hB1 := hBA.grown hg1 hBA.size (fun q hq => by injection hq with hq; have := gH.out; omega)
    clear hGA hNA hBA hg1 hnG
    have hI1 := hIH.out w1 hB1
    obtain ⟨bb, off, rfl, hcell⟩ := hI1.at hn1.out
    have cb := hcell 0 hn1.out
    rw [hx0.out, Nat.add_zero] at cb
    clear hI1 hcell
    go_wp2_with ((with_reducible refine build_row rfl 28 #[(0, .tmp 18)] rfl (cells := B.toArray) ?_ ?_); (refine Eq.trans (congrArg _ ?_) hbt; kernel_rfl); refine RowKit.Hid.out ?_)
    refine Lib.hid ?_
    refine wpList_alloc_blk rfl 28 rfl hZz ?_
    try simp only [Act.put, List.setIfInBounds_toArray, List.set_cons_zero, List.set_cons_succ]
    have hGA := hG1.alloc (.cells Z.toArray 28)
    have hzA := hz1.alloc (.cells Z.toArray 28)
    have hNA := Blk.new w1 28 Z
    have hBA := hB1.alloc hB1.size (.cells Z.toArray 28)
    have hn0 : N0 < w1.heap.size := hz1.lt
    obtain ⟨N, hN⟩ : ∃ N, w1.heap.size = N := ⟨_, rfl⟩
    rw [hN] at hNA hn0 ⊢
    have nGN := Lib.hid hn0
    obtain ⟨U1, hU⟩ : ∃ W, w1.alloc (.cells Z.toArray 28) = W := ⟨_, rfl⟩
    rw [hU] at hGA hzA hNA hBA ⊢
    clear hG1 hz1 hB1 hN hU cb
    refine store_row rfl 28 (.tmp 5) (.tmp 19) rfl rfl rfl hNA rowMs hBl hZl hB1' ?_
    intro w2 hN2 hg2
    have hG2 := hGA.grown hg2 (fun e => by injection e with e; have := nG0.out; omega)
    have hz2 := hzA.grown hg2 (fun e => by injection e with e; omega)
    have hB2 := hBA.grown hg2 hBA.size (fun q hq => by injection hq with hq; have := gH.out; have := nG0.out; omega)
    clear hGA hzA hNA hBA hg2 hn0
    have hG3 := hG2.alloc (.cells #[.int .i64 0, .int .i64 3, .int .i64 27, .int .i64 5, .int .i64 5] 3)
    have hz3 := hz2.alloc (.cells #[.int .i64 0, .int .i64 3, .int .i64 27, .int .i64 5, .int .i64 5] 3)
    have hN3 := hN2.alloc (.cells #[.int .i64 0, .int .i64 3, .int .i64 27, .int .i64 5, .int .i64 5] 3)
    have hM3 := Blk.new w2 3 [.int .i64 0, .int .i64 3, .int .i64 27, .int .i64 5, .int .i64 5]
    have hB3 := hB2.alloc hB2.size (.cells #[.int .i64 0, .int .i64 3, .int .i64 27, .int .i64 5, .int .i64 5] 3)
    have hnm : N < w2.heap.size := hN2.lt
    obtain ⟨M5, hM⟩ : ∃ N, w2.heap.size = N := ⟨_, rfl⟩
    obtain ⟨w3, hw3⟩ : ∃ W, w2.alloc (.cells #[.int .i64 0, .int .i64 3, .int .i64 27, .int .i64 5, .int .i64 5] 3) = W := ⟨_, rfl⟩
    rw [hw3] at hG3 hz3 hN3 hM3 hB3
    rw [hM] at hM3 hnm
    have nNM := Lib.hid hnm
    rw [← hBH.out] at hN3
    have c0 := ms0 hN3
    clear hG2 hz2 hN2 hB2 hnm
    have cs : w3.cell? ⟨M5, 3, none⟩ = some (.int .i64 5) := hM3.cell 3
    clear hM3
    go_wp2_with ((with_reducible refine wpList_load_blk rfl 28 (.tmp 4) rfl ?_ hz3 rowMs hZl ?_); rfl; refine RowKit.Hid.out ?_)
    refine Lib.hid ?_
    skip
    refine store_row rfl 28 (.tmp 2) (.tmp 39) rfl rfl rfl hG3 rowMs hZl hZl hZ1 ?_
    intro wY hGY hgY
    have hrZ : IsRow Try.prog 28 Z.length := by rw [hZl]; exact rowMs
    go_wp2_with fail
    refine bodyPost_ret (results_blk_tmp rfl rfl hGY hrZ) rfl ?_
    rw [hend.out]
    exact ⟨none, 0, by rw [← hZH.out]; rfl, ⟨rfl, Nat.le_refl _, .inl rfl⟩, (fun x hx => by cases hx), hB3.grown hgY hB3.size (fun q hq => by injection hq with hq; have := gH.out; omega)⟩
  have hni3 : ¬ (n : Int) < 5 := by omega
  have hnL := Lib.hid (show 5 ≤ n by omega)
  by_cases h4 : 5 < n
  · have hend := Lib.hid (show decM xs = (noMsg, 3) by rw [← hxsH.out, decM, if_neg (by decide), if_neg (by decide), if_neg (by decide), if_neg (by omega), if_pos (by omega)])
    have hni4 : (5 : Int) < (n : Int) := by omega
    clear hlr hln h3 h4 hxr
    go_enter Try.func13, Try.ntmps13
    go_wp2_with ((with_reducible refine wpList_alloc_blk rfl 28 rfl hZz ?_); refine RowKit.Hid.out ?_)
    refine Lib.hid ?_
    clear hV
    go_wp2_with ((with_reducible refine build_row rfl 28 #[] rfl (cells := Z.toArray) ?_ ?_); (refine Eq.trans (congrArg _ ?_) hbt0; kernel_rfl); refine RowKit.Hid.out ?_)
    refine Lib.hid ?_
    refine wpList_alloc_blk rfl 28 rfl hZz ?_
    try simp only [Act.put, List.setIfInBounds_toArray, List.set_cons_zero, List.set_cons_succ]
    have hGA := hk.alloc (.cells Z.toArray 28)
    have hNA := Blk.new V 28 Z
    have hBA := hb.alloc hb.size (.cells Z.toArray 28)
    have hnG : G < V.heap.size := hk.lt
    obtain ⟨N0, hN⟩ : ∃ N, V.heap.size = N := ⟨_, rfl⟩
    rw [hN] at hNA hnG ⊢
    have nG0 := Lib.hid hnG
    obtain ⟨U, hU⟩ : ∃ W, V.alloc (.cells Z.toArray 28) = W := ⟨_, rfl⟩
    rw [hU] at hGA hNA hBA ⊢
    clear hk hb hN hU
    refine store_row rfl 28 (.tmp 4) (.tmp 10) rfl rfl rfl hNA rowMs hZl hZl hZ1 ?_
    intro w1 hz1 hg1
    have hG1 := hGA.grown hg1 (fun e => by injection e with e; omega)
    have hB1 := hBA.grown hg1 hBA.size (fun q hq => by injection hq with hq; have := gH.out; omega)
    clear hGA hNA hBA hg1 hnG
    have hI1 := hIH.out w1 hB1
    obtain ⟨bb, off, rfl, hcell⟩ := hI1.at hn1.out
    have cb := hcell 0 hn1.out
    rw [hx0.out, Nat.add_zero] at cb
    clear hI1 hcell
    go_wp2_with ((with_reducible refine build_row rfl 28 #[(0, .tmp 18)] rfl (cells := B.toArray) ?_ ?_); (refine Eq.trans (congrArg _ ?_) hbt; kernel_rfl); refine RowKit.Hid.out ?_)
    refine Lib.hid ?_
    refine wpList_alloc_blk rfl 28 rfl hZz ?_
    try simp only [Act.put, List.setIfInBounds_toArray, List.set_cons_zero, List.set_cons_succ]
    have hGA := hG1.alloc (.cells Z.toArray 28)
    have hzA := hz1.alloc (.cells Z.toArray 28)
    have hNA := Blk.new w1 28 Z
    have hBA := hB1.alloc hB1.size (.cells Z.toArray 28)
    have hn0 : N0 < w1.heap.size := hz1.lt
    obtain ⟨N, hN⟩ : ∃ N, w1.heap.size = N := ⟨_, rfl⟩
    rw [hN] at hNA hn0 ⊢
    have nGN := Lib.hid hn0
    obtain ⟨U1, hU⟩ : ∃ W, w1.alloc (.cells Z.toArray 28) = W := ⟨_, rfl⟩
    rw [hU] at hGA hzA hNA hBA ⊢
    clear hG1 hz1 hB1 hN hU cb
    refine store_row rfl 28 (.tmp 5) (.tmp 19) rfl rfl rfl hNA rowMs hBl hZl hB1' ?_
    intro w2 hN2 hg2
    have hG2 := hGA.grown hg2 (fun e => by injection e with e; have := nG0.out; omega)
    have hz2 := hzA.grown hg2 (fun e => by injection e with e; omega)
    have hB2 := hBA.grown hg2 hBA.size (fun q hq => by injection hq with hq; have := gH.out; have := nG0.out; omega)
    clear hGA hzA hNA hBA hg2 hn0
    have hG3 := hG2.alloc (.cells #[.int .i64 0, .int .i64 3, .int .i64 27, .int .i64 5, .int .i64 5] 3)
    have hz3 := hz2.alloc (.cells #[.int .i64 0, .int .i64 3, .int .i64 27, .int .i64 5, .int .i64 5] 3)
    have hN3 := hN2.alloc (.cells #[.int .i64 0, .int .i64 3, .int .i64 27, .int .i64 5, .int .i64 5] 3)
    have hM3 := Blk.new w2 3 [.int .i64 0, .int .i64 3, .int .i64 27, .int .i64 5, .int .i64 5]
    have hB3 := hB2.alloc hB2.size (.cells #[.int .i64 0, .int .i64 3, .int .i64 27, .int .i64 5, .int .i64 5] 3)
    have hnm : N < w2.heap.size := hN2.lt
    obtain ⟨M5, hM⟩ : ∃ N, w2.heap.size = N := ⟨_, rfl⟩
    obtain ⟨w3, hw3⟩ : ∃ W, w2.alloc (.cells #[.int .i64 0, .int .i64 3, .int .i64 27, .int .i64 5, .int .i64 5] 3) = W := ⟨_, rfl⟩
    rw [hw3] at hG3 hz3 hN3 hM3 hB3
    rw [hM] at hM3 hnm
    have nNM := Lib.hid hnm
    rw [← hBH.out] at hN3
    have c0 := ms0 hN3
    clear hG2 hz2 hN2 hB2 hnm
    have cs : w3.cell? ⟨M5, 3, none⟩ = some (.int .i64 5) := hM3.cell 3
    clear hM3
    have cv := (r14Value_any (cutAddr (some ⟨bb, off, none⟩) c 1) 4 (c - 1) ((xs.drop 1).take 4) w3 ((hIH.out w3 hB3).cut2 1 5 (by decide) (by have := hnL.out; omega)) (fun x hx => hrH.out x (List.mem_of_mem_drop (List.mem_of_mem_take hx))) (by decide))
    rw [hv] at cv
    have cvH := Lib.hid cv
    clear cv
    have hsl : ∀ wx : World, (Instr.sliceAt 26 (.slice (some ⟨bb, off, none⟩) n c) (some (.int .i64 1)) (some (.int .i64 5)) none).run Try.prog wx = .ok (.slice (cutAddr (some ⟨bb, off, none⟩) c 1) 4 (c - 1)) wx := sl_cut (n := n) (c := c) (some ⟨bb, off, none⟩) 1 5 (by decide) (by have := hnL.out; have := hcH.out; omega)
    obtain ⟨A4, hA4⟩ : ∃ A, cutAddr (some ⟨bb, off, none⟩) c 1 = A := ⟨_, rfl⟩
    rw [hA4] at cvH hsl
    clear hA4
    go_wp2_with fail
    refine cvH.out.mono ?_
    rintro r w4 ⟨rfl, hww⟩
    subst hww
    clear cvH hsl
    have d0 := ms1 hN3
    have f0 := hN3.frozen 1
    have hN5 : Blk (w3.setCell ⟨N, 1, none⟩ (.int .u32 v)) N 28 (msC 3 v 0 0 z16 none 0 0) := hN3.set 1 (.int .u32 v)
    have hG5 : Blk (w3.setCell ⟨N, 1, none⟩ (.int .u32 v)) G 28 Z := hG3.far (by show G ≠ N; have := nGN.out; have := nG0.out; omega) _
    have hz5 : Blk (w3.setCell ⟨N, 1, none⟩ (.int .u32 v)) N0 28 Z := hz3.far (by show N0 ≠ N; have := nGN.out; omega) _
    have hB5 : Below w.heap.size w (w3.setCell ⟨N, 1, none⟩ (.int .u32 v)) := hB3.setCell (p := ⟨N, 1, none⟩) (by show w.heap.size ≤ N; have := nGN.out; have := nG0.out; have := gH.out; omega) _
    obtain ⟨w5, hw5⟩ : ∃ W, w3.setCell ⟨N, 1, none⟩ (.int .u32 v) = W := ⟨_, rfl⟩
    rw [hw5] at hN5 hG5 hz5 hB5
    clear hN3 hG3 hz3 hB3
    have c0 := ms0 hN5
    go_wp2_with ((with_reducible refine wpList_load_blk rfl 28 (.tmp 4) rfl ?_ hz5 rowMs hZl ?_); rfl; refine RowKit.Hid.out ?_)
    refine Lib.hid ?_
    try simp only [Act.put, List.setIfInBounds_toArray, List.set_cons_zero, List.set_cons_succ]
    refine store_row rfl 28 (.tmp 2) (.tmp 100) rfl rfl rfl hG5 rowMs hZl hZl hZ1 ?_
    intro wY hGY hgY
    have hrZ : IsRow Try.prog 28 Z.length := by rw [hZl]; exact rowMs
    go_wp2_with fail
    refine bodyPost_ret (results_blk_tmp rfl rfl hGY hrZ) rfl ?_
    rw [hend.out]
    exact ⟨none, 0, by rw [← hZH.out]; rfl, ⟨rfl, Nat.le_refl _, .inl rfl⟩, (fun x hx => by cases hx), hB5.grown hgY hB5.size (fun q hq => by injection hq with hq; have := gH.out; omega)⟩
  have hni4 : ¬ (5 : Int) < (n : Int) := by omega
  have hend := Lib.hid (show decM xs = (⟨3, v, 0, 0, z16, []⟩, 0) by rw [← hv, hxr, List.take_of_length_le (l := r) (by omega), ← hxsH.out, decM, if_neg (by decide), if_neg (by decide), if_neg (by decide), if_neg (by omega), if_neg (by omega)])
  have hl2 : (msC 3 v 0 0 z16 none 0 0).length = 21 := msC_len z16_len
  clear hlr hln h3 h4 hxr
  go_enter Try.func13, Try.ntmps13
  go_wp2_with ((with_reducible refine wpList_alloc_blk rfl 28 rfl hZz ?_); refine RowKit.Hid.out ?_)
  refine Lib.hid ?_
  clear hV
  go_wp2_with ((with_reducible refine build_row rfl 28 #[] rfl (cells := Z.toArray) ?_ ?_); (refine Eq.trans (congrArg _ ?_) hbt0; kernel_rfl); refine RowKit.Hid.out ?_)
  refine Lib.hid ?_
  refine wpList_alloc_blk rfl 28 rfl hZz ?_
  try simp only [Act.put, List.setIfInBounds_toArray, List.set_cons_zero, List.set_cons_succ]
  have hGA := hk.alloc (.cells Z.toArray 28)
  have hNA := Blk.new V 28 Z
  have hBA := hb.alloc hb.size (.cells Z.toArray 28)
  have hnG : G < V.heap.size := hk.lt
  obtain ⟨N0, hN⟩ : ∃ N, V.heap.size = N := ⟨_, rfl⟩
  rw [hN] at hNA hnG ⊢
  have nG0 := Lib.hid hnG
  obtain ⟨U, hU⟩ : ∃ W, V.alloc (.cells Z.toArray 28) = W := ⟨_, rfl⟩
  rw [hU] at hGA hNA hBA ⊢
  clear hk hb hN hU
  refine store_row rfl 28 (.tmp 4) (.tmp 10) rfl rfl rfl hNA rowMs hZl hZl hZ1 ?_
  intro w1 hz1 hg1
  have hG1 := hGA.grown hg1 (fun e => by injection e with e; omega)
  have hB1 := hBA.grown hg1 hBA.size (fun q hq => by injection hq with hq; have := gH.out; omega)
  clear hGA hNA hBA hg1 hnG
  have hI1 := hIH.out w1 hB1
  obtain ⟨bb, off, rfl, hcell⟩ := hI1.at hn1.out
  have cb := hcell 0 hn1.out
  rw [hx0.out, Nat.add_zero] at cb
  clear hI1 hcell
  go_wp2_with ((with_reducible refine build_row rfl 28 #[(0, .tmp 18)] rfl (cells := B.toArray) ?_ ?_); (refine Eq.trans (congrArg _ ?_) hbt; kernel_rfl); refine RowKit.Hid.out ?_)
  refine Lib.hid ?_
  refine wpList_alloc_blk rfl 28 rfl hZz ?_
  try simp only [Act.put, List.setIfInBounds_toArray, List.set_cons_zero, List.set_cons_succ]
  have hGA := hG1.alloc (.cells Z.toArray 28)
  have hzA := hz1.alloc (.cells Z.toArray 28)
  have hNA := Blk.new w1 28 Z
  have hBA := hB1.alloc hB1.size (.cells Z.toArray 28)
  have hn0 : N0 < w1.heap.size := hz1.lt
  obtain ⟨N, hN⟩ : ∃ N, w1.heap.size = N := ⟨_, rfl⟩
  rw [hN] at hNA hn0 ⊢
  have nGN := Lib.hid hn0
  obtain ⟨U1, hU⟩ : ∃ W, w1.alloc (.cells Z.toArray 28) = W := ⟨_, rfl⟩
  rw [hU] at hGA hzA hNA hBA ⊢
  clear hG1 hz1 hB1 hN hU cb
  refine store_row rfl 28 (.tmp 5) (.tmp 19) rfl rfl rfl hNA rowMs hBl hZl hB1' ?_
  intro w2 hN2 hg2
  have hG2 := hGA.grown hg2 (fun e => by injection e with e; have := nG0.out; omega)
  have hz2 := hzA.grown hg2 (fun e => by injection e with e; omega)
  have hB2 := hBA.grown hg2 hBA.size (fun q hq => by injection hq with hq; have := gH.out; have := nG0.out; omega)
  clear hGA hzA hNA hBA hg2 hn0
  have hG3 := hG2.alloc (.cells #[.int .i64 0, .int .i64 3, .int .i64 27, .int .i64 5, .int .i64 5] 3)
  have hz3 := hz2.alloc (.cells #[.int .i64 0, .int .i64 3, .int .i64 27, .int .i64 5, .int .i64 5] 3)
  have hN3 := hN2.alloc (.cells #[.int .i64 0, .int .i64 3, .int .i64 27, .int .i64 5, .int .i64 5] 3)
  have hM3 := Blk.new w2 3 [.int .i64 0, .int .i64 3, .int .i64 27, .int .i64 5, .int .i64 5]
  have hB3 := hB2.alloc hB2.size (.cells #[.int .i64 0, .int .i64 3, .int .i64 27, .int .i64 5, .int .i64 5] 3)
  have hnm : N < w2.heap.size := hN2.lt
  obtain ⟨M5, hM⟩ : ∃ N, w2.heap.size = N := ⟨_, rfl⟩
  obtain ⟨w3, hw3⟩ : ∃ W, w2.alloc (.cells #[.int .i64 0, .int .i64 3, .int .i64 27, .int .i64 5, .int .i64 5] 3) = W := ⟨_, rfl⟩
  rw [hw3] at hG3 hz3 hN3 hM3 hB3
  rw [hM] at hM3 hnm
  have nNM := Lib.hid hnm
  rw [← hBH.out] at hN3
  have c0 := ms0 hN3
  clear hG2 hz2 hN2 hB2 hnm
  have cs : w3.cell? ⟨M5, 3, none⟩ = some (.int .i64 5) := hM3.cell 3
  clear hM3
  have cv := (r14Value_any (cutAddr (some ⟨bb, off, none⟩) c 1) 4 (c - 1) ((xs.drop 1).take 4) w3 ((hIH.out w3 hB3).cut2 1 5 (by decide) (by have := hnL.out; omega)) (fun x hx => hrH.out x (List.mem_of_mem_drop (List.mem_of_mem_take hx))) (by decide))
  rw [hv] at cv
  have cvH := Lib.hid cv
  clear cv
  have hsl : ∀ wx : World, (Instr.sliceAt 26 (.slice (some ⟨bb, off, none⟩) n c) (some (.int .i64 1)) (some (.int .i64 5)) none).run Try.prog wx = .ok (.slice (cutAddr (some ⟨bb, off, none⟩) c 1) 4 (c - 1)) wx := sl_cut (n := n) (c := c) (some ⟨bb, off, none⟩) 1 5 (by decide) (by have := hnL.out; have := hcH.out; omega)
  obtain ⟨A4, hA4⟩ : ∃ A, cutAddr (some ⟨bb, off, none⟩) c 1 = A := ⟨_, rfl⟩
  rw [hA4] at cvH hsl
  clear hA4
  go_wp2_with fail
  refine cvH.out.mono ?_
  rintro r w4 ⟨rfl, hww⟩
  subst hww
  clear cvH hsl
  have d0 := ms1 hN3
  have f0 := hN3.frozen 1
  have hN5 : Blk (w3.setCell ⟨N, 1, none⟩ (.int .u32 v)) N 28 (msC 3 v 0 0 z16 none 0 0) := hN3.set 1 (.int .u32 v)
  have hG5 : Blk (w3.setCell ⟨N, 1, none⟩ (.int .u32 v)) G 28 Z := hG3.far (by show G ≠ N; have := nGN.out; have := nG0.out; omega) _
  have hz5 : Blk (w3.setCell ⟨N, 1, none⟩ (.int .u32 v)) N0 28 Z := hz3.far (by show N0 ≠ N; have := nGN.out; omega) _
  have hB5 : Below w.heap.size w (w3.setCell ⟨N, 1, none⟩ (.int .u32 v)) := hB3.setCell (p := ⟨N, 1, none⟩) (by show w.heap.size ≤ N; have := nGN.out; have := nG0.out; have := gH.out; omega) _
  obtain ⟨w5, hw5⟩ : ∃ W, w3.setCell ⟨N, 1, none⟩ (.int .u32 v) = W := ⟨_, rfl⟩
  rw [hw5] at hN5 hG5 hz5 hB5
  clear hN3 hG3 hz3 hB3
  have c0 := ms0 hN5
  go_wp2_with ((with_reducible refine wpList_load_blk rfl 28 (.tmp 5) rfl ?_ hN5 rowMs hl2 ?_); rfl; refine RowKit.Hid.out ?_)
  refine Lib.hid ?_
  try simp only [Act.put, List.setIfInBounds_toArray, List.set_cons_zero, List.set_cons_succ]
  refine store_row rfl 28 (.tmp 2) (.tmp 101) rfl rfl rfl hG5 rowMs hl2 hZl (msC_one _ _ _ _ _ _ _ _) ?_
  intro wY hGY hgY
  have hrZ : IsRow Try.prog 28 (msC 3 v 0 0 z16 none 0 0).length := by rw [hl2]; exact rowMs
  go_wp2_with fail
  refine bodyPost_ret (results_blk_tmp rfl rfl hGY hrZ) rfl ?_
  rw [hend.out]
  exact ⟨none, 0, rfl, ⟨rfl, Nat.le_refl _, .inl rfl⟩, (fun x hx => by cases hx), hB5.grown hgY hB5.size (fun q hq => by injection hq with hq; have := gH.out; omega)⟩

set_option maxRecDepth 100000 in
set_option maxHeartbeats 4000000 in
theorem r14Decode_close (a : Option Addr) (n c : Nat) (xs : List Int) (w : World) (hI : Ints .u8 w a n c xs) (hr : ∀ x ∈ xs, 0 ≤ x ∧ x < 256) (hn : n ≤ 1000000) (hx : ∃ r, xs = 4 :: r) :
    Calls Try.prog 13 #[.slice a n c] w (DecEnd xs w) := by
  have hln := hI.len
  have hnm0 : (n : Int) ≤ 1000000 := by omega
  have hcH := Lib.hid hI.2.1
  have hIH := Lib.hid (fun w' (h : Below w.heap.size w w') => hI.keep h)
  have hrH := Lib.hid hr
  obtain ⟨Z, hZ⟩ : ∃ B, msC 0 0 0 0 z16 none 0 0 = B := ⟨_, rfl⟩
  have hZz : Zero Try.prog 28 Z := hZ ▸ zeroMs
  have hbt0 := built_ms0
  have hZH := Lib.hid hZ
  have hZl : Z.length = 21 := by rw [← hZ]; exact msC_len z16_len
  have hZ1 : ∀ v ∈ Z, v.oneCell' = true := by rw [← hZ]; exact msC_one _ _ _ _ _ _ _ _
  rw [hZ] at hbt0
  clear hZ
  have hb := below1 w (.cells Z.toArray 28)
  have hk : Blk (w.alloc (.cells Z.toArray 28)) w.heap.size 28 Z := Blk.new w _ _
  obtain ⟨V, hV⟩ : ∃ V, w.alloc (.cells Z.toArray 28) = V := ⟨_, rfl⟩
  rw [hV] at hb hk
  obtain ⟨G, g9⟩ : ∃ G, w.heap.size = G := ⟨_, rfl⟩
  rw [g9] at hk
  have gH := Lib.hid g9
  unfold DecEnd
  obtain ⟨r, rfl⟩ := hx
  have hlr : r.length + 1 = n := hln
  have hn1 := Lib.hid (show 0 < n by omega)
  have hx0 := Lib.hid (show (4 :: r).getD 0 0 = 4 from rfl)
  have hni : ¬ (n : Int) < 1 := by omega
  have hbt := built_ms1 4
  obtain ⟨B, hB⟩ : ∃ B, msC 4 0 0 0 z16 none 0 0 = B := ⟨_, rfl⟩
  have hBH := Lib.hid hB
  have hBl : B.length = 21 := by rw [← hB]; exact msC_len z16_len
  have hB1' : ∀ v ∈ B, v.oneCell' = true := by rw [← hB]; exact msC_one _ _ _ _ _ _ _ _
  rw [hB] at hbt
  obtain ⟨xs, hxs⟩ : ∃ xs, 4 :: r = xs := ⟨_, rfl⟩
  rw [hxs] at hx0 hIH hrH
  rw [hxs]
  have hxsH := Lib.hid hxs
  clear hB hxs hI hr hn
  have hxr : (xs.drop 1).take 4 = r.take 4 := by rw [← hxsH.out]; rfl
  obtain ⟨v, hv⟩ : ∃ v, be ((xs.drop 1).take 4) = v := ⟨_, rfl⟩
  by_cases h3 : n < 5
  · have hend := Lib.hid (show decM xs = (noMsg, 2) by rw [← hxsH.out, decM, if_neg (by decide), if_neg (by decide), if_neg (by decide), if_pos (by omega)])
    have hni3 : (n : Int) < 5 := by omega
    clear hlr hln h3 hxr
    go_enter Try.func13, Try.ntmps13
    go_wp2_with ((with_reducible refine wpList_alloc_blk rfl 28 rfl hZz ?_); refine RowKit.Hid.out ?_)
    refine Lib.hid ?_
    clear hV
    go_wp2_with ((with_reducible refine build_row rfl 28 #[] rfl (cells := Z.toArray) ?_ ?_); (refine Eq.trans (congrArg _ ?_) hbt0; kernel_rfl); refine RowKit.Hid.out ?_)
    refine Lib.hid ?_
    refine wpList_alloc_blk rfl 28 rfl hZz ?_
    try simp only [Act.put, List.setIfInBounds_toArray, List.set_cons_zero, List.set_cons_succ]
    have hGA := hk.alloc (.cells Z.toArray 28)
    have hNA := Blk.new V 28 Z
    have hBA := hb.alloc hb.size (.cells Z.toArray 28)
    have hnG : G < V.heap.size := hk.lt
    obtain ⟨N0, hN⟩ : ∃ N, V.heap.size = N := ⟨_, rfl⟩
    rw [hN] at hNA hnG ⊢
    have nG0 := Lib.hid hnG
    obtain ⟨U, hU⟩ : ∃ W, V.alloc (.cells Z.toArray 28) = W := ⟨_, rfl⟩
    rw [hU] at hGA hNA hBA ⊢
    clear hk hb hN hU
    refine store_row rfl 28 (.tmp 4) (.tmp 10) rfl rfl rfl hNA rowMs hZl hZl hZ1 ?_
    intro w1 hz1 hg1
    have hG1 := hGA.grown hg1 (fun e => by injection e with e; omega)
    have hB1 := hBA.grown hg1 hBA.size (fun q hq => by injection hq with hq; have := gH.out; omega)
    clear hGA hNA hBA hg1 hnG
    have hI1 := hIH.out w1 hB1
    obtain ⟨bb, off, rfl, hcell⟩ := hI1.at hn1.out
    have cb := hcell 0 hn1.out
    rw [hx0.out, Nat.add_zero] at cb
    clear hI1 hcell
    go_wp2_with ((with_reducible refine build_row rfl 28 #[(0, .tmp 18)] rfl (cells := B.toArray) ?_ ?_); (refine Eq.trans (congrArg _ ?_) hbt; kernel_rfl); refine RowKit.Hid.out ?_)
    refine Lib.hid ?_
    refine wpList_alloc_blk rfl 28 rfl hZz ?_
    try simp only [Act.put, List.setIfInBounds_toArray, List.set_cons_zero, List.set_cons_succ]
    have hGA := hG1.alloc (.cells Z.toArray 28)
    have hzA := hz1.alloc (.cells Z.toArray 28)
    have hNA := Blk.new w1 28 Z
    have hBA := hB1.alloc hB1.size (.cells Z.toArray 28)
    have hn0 : N0 < w1.heap.size := hz1.lt
    obtain ⟨N, hN⟩ : ∃ N, w1.heap.size = N := ⟨_, rfl⟩
    rw [hN] at hNA hn0 ⊢
    have nGN := Lib.hid hn0
    obtain ⟨U1, hU⟩ : ∃ W, w1.alloc (.cells Z.toArray 28) = W := ⟨_, rfl⟩
    rw [hU] at hGA hzA hNA hBA ⊢
    clear hG1 hz1 hB1 hN hU cb
    refine store_row rfl 28 (.tmp 5) (.tmp 19) rfl rfl rfl hNA rowMs hBl hZl hB1' ?_
    intro w2 hN2 hg2
    have hG2 := hGA.grown hg2 (fun e => by injection e with e; have := nG0.out; omega)
    have hz2 := hzA.grown hg2 (fun e => by injection e with e; omega)
    have hB2 := hBA.grown hg2 hBA.size (fun q hq => by injection hq with hq; have := gH.out; have := nG0.out; omega)
    clear hGA hzA hNA hBA hg2 hn0
    have hG3 := hG2.alloc (.cells #[.int .i64 0, .int .i64 3, .int .i64 27, .int .i64 5, .int .i64 5] 3)
    have hz3 := hz2.alloc (.cells #[.int .i64 0, .int .i64 3, .int .i64 27, .int .i64 5, .int .i64 5] 3)
    have hN3 := hN2.alloc (.cells #[.int .i64 0, .int .i64 3, .int .i64 27, .int .i64 5, .int .i64 5] 3)
    have hM3 := Blk.new w2 3 [.int .i64 0, .int .i64 3, .int .i64 27, .int .i64 5, .int .i64 5]
    have hB3 := hB2.alloc hB2.size (.cells #[.int .i64 0, .int .i64 3, .int .i64 27, .int .i64 5, .int .i64 5] 3)
    have hnm : N < w2.heap.size := hN2.lt
    obtain ⟨M5, hM⟩ : ∃ N, w2.heap.size = N := ⟨_, rfl⟩
    obtain ⟨w3, hw3⟩ : ∃ W, w2.alloc (.cells #[.int .i64 0, .int .i64 3, .int .i64 27, .int .i64 5, .int .i64 5] 3) = W := ⟨_, rfl⟩
    rw [hw3] at hG3 hz3 hN3 hM3 hB3
    rw [hM] at hM3 hnm
    have nNM := Lib.hid hnm
    rw [← hBH.out] at hN3
    have c0 := ms0 hN3
    clear hG2 hz2 hN2 hB2 hnm
    have cs : w3.cell? ⟨M5, 4, none⟩ = some (.int .i64 5) := hM3.cell 4
    clear hM3
    go_wp2_with ((with_reducible refine wpList_load_blk rfl 28 (.tmp 4) rfl ?_ hz3 rowMs hZl ?_); rfl; refine RowKit.Hid.out ?_)
    refine Lib.hid ?_
    skip
    refine store_row rfl 28 (.tmp 2) (.tmp 39) rfl rfl rfl hG3 rowMs hZl hZl hZ1 ?_
    intro wY hGY hgY
    have hrZ : IsRow Try.prog 28 Z.length := by rw [hZl]; exact rowMs
    go_wp2_with fail
    refine bodyPost_ret (results_blk_tmp rfl rfl hGY hrZ) rfl ?_
    rw [hend.out]
    exact ⟨none, 0, by rw [← hZH.out]; rfl, ⟨rfl, Nat.le_refl _, .inl rfl⟩, (fun x hx => by cases hx), hB3.grown hgY hB3.size (fun q hq => by injection hq with hq; have := gH.out; omega)⟩
  have hni3 : ¬ (n : Int) < 5 := by omega
  have hnL := Lib.hid (show 5 ≤ n by omega)
  by_cases h4 : 5 < n
  · have hend := Lib.hid (show decM xs = (noMsg, 3) by rw [← hxsH.out, decM, if_neg (by decide), if_neg (by decide), if_neg (by decide), if_neg (by omega), if_pos (by omega)])
    have hni4 : (5 : Int) < (n : Int) := by omega
    clear hlr hln h3 h4 hxr
    go_enter Try.func13, Try.ntmps13
    go_wp2_with ((with_reducible refine wpList_alloc_blk rfl 28 rfl hZz ?_); refine RowKit.Hid.out ?_)
    refine Lib.hid ?_
    clear hV
    go_wp2_with ((with_reducible refine build_row rfl 28 #[] rfl (cells := Z.toArray) ?_ ?_); (refine Eq.trans (congrArg _ ?_) hbt0; kernel_rfl); refine RowKit.Hid.out ?_)
    refine Lib.hid ?_
    refine wpList_alloc_blk rfl 28 rfl hZz ?_
    try simp only [Act.put, List.setIfInBounds_toArray, List.set_cons_zero, List.set_cons_succ]
    have hGA := hk.alloc (.cells Z.toArray 28)
    have hNA := Blk.new V 28 Z
    have hBA := hb.alloc hb.size (.cells Z.toArray 28)
    have hnG : G < V.heap.size := hk.lt
    obtain ⟨N0, hN⟩ : ∃ N, V.heap.size = N := ⟨_, rfl⟩
    rw [hN] at hNA hnG ⊢
    have nG0 := Lib.hid hnG
    obtain ⟨U, hU⟩ : ∃ W, V.alloc (.cells Z.toArray 28) = W := ⟨_, rfl⟩
    rw [hU] at hGA hNA hBA ⊢
    clear hk hb hN hU
    refine store_row rfl 28 (.tmp 4) (.tmp 10) rfl rfl rfl hNA rowMs hZl hZl hZ1 ?_
    intro w1 hz1 hg1
    have hG1 := hGA.grown hg1 (fun e => by injection e with e; omega)
    have hB1 := hBA.grown hg1 hBA.size (fun q hq => by injection hq with hq; have := gH.out; omega)
    clear hGA hNA hBA hg1 hnG
    have hI1 := hIH.out w1 hB1
    obtain ⟨bb, off, rfl, hcell⟩ := hI1.at hn1.out
    have cb := hcell 0 hn1.out
    rw [hx0.out, Nat.add_zero] at cb
    clear hI1 hcell
    go_wp2_with ((with_reducible refine build_row rfl 28 #[(0, .tmp 18)] rfl (cells := B.toArray) ?_ ?_); (refine Eq.trans (congrArg _ ?_) hbt; kernel_rfl); refine RowKit.Hid.out ?_)
    refine Lib.hid ?_
    refine wpList_alloc_blk rfl 28 rfl hZz ?_
    try simp only [Act.put, List.setIfInBounds_toArray, List.set_cons_zero, List.set_cons_succ]
    have hGA := hG1.alloc (.cells Z.toArray 28)
    have hzA := hz1.alloc (.cells Z.toArray 28)
    have hNA := Blk.new w1 28 Z
    have hBA := hB1.alloc hB1.size (.cells Z.toArray 28)
    have hn0 : N0 < w1.heap.size := hz1.lt
    obtain ⟨N, hN⟩ : ∃ N, w1.heap.size = N := ⟨_, rfl⟩
    rw [hN] at hNA hn0 ⊢
    have nGN := Lib.hid hn0
    obtain ⟨U1, hU⟩ : ∃ W, w1.alloc (.cells Z.toArray 28) = W := ⟨_, rfl⟩
    rw [hU] at hGA hzA hNA hBA ⊢
    clear hG1 hz1 hB1 hN hU cb
    refine store_row rfl 28 (.tmp 5) (.tmp 19) rfl rfl rfl hNA rowMs hBl hZl hB1' ?_
    intro w2 hN2 hg2
    have hG2 := hGA.grown hg2 (fun e => by injection e with e; have := nG0.out; omega)
    have hz2 := hzA.grown hg2 (fun e => by injection e with e; omega)
    have hB2 := hBA.grown hg2 hBA.size (fun q hq => by injection hq with hq; have := gH.out; have := nG0.out; omega)
    clear hGA hzA hNA hBA hg2 hn0
    have hG3 := hG2.alloc (.cells #[.int .i64 0, .int .i64 3, .int .i64 27, .int .i64 5, .int .i64 5] 3)
    have hz3 := hz2.alloc (.cells #[.int .i64 0, .int .i64 3, .int .i64 27, .int .i64 5, .int .i64 5] 3)
    have hN3 := hN2.alloc (.cells #[.int .i64 0, .int .i64 3, .int .i64 27, .int .i64 5, .int .i64 5] 3)
    have hM3 := Blk.new w2 3 [.int .i64 0, .int .i64 3, .int .i64 27, .int .i64 5, .int .i64 5]
    have hB3 := hB2.alloc hB2.size (.cells #[.int .i64 0, .int .i64 3, .int .i64 27, .int .i64 5, .int .i64 5] 3)
    have hnm : N < w2.heap.size := hN2.lt
    obtain ⟨M5, hM⟩ : ∃ N, w2.heap.size = N := ⟨_, rfl⟩
    obtain ⟨w3, hw3⟩ : ∃ W, w2.alloc (.cells #[.int .i64 0, .int .i64 3, .int .i64 27, .int .i64 5, .int .i64 5] 3) = W := ⟨_, rfl⟩
    rw [hw3] at hG3 hz3 hN3 hM3 hB3
    rw [hM] at hM3 hnm
    have nNM := Lib.hid hnm
    rw [← hBH.out] at hN3
    have c0 := ms0 hN3
    clear hG2 hz2 hN2 hB2 hnm
    have cs : w3.cell? ⟨M5, 4, none⟩ = some (.int .i64 5) := hM3.cell 4
    clear hM3
    have cv := (r14Value_any (cutAddr (some ⟨bb, off, none⟩) c 1) 4 (c - 1) ((xs.drop 1).take 4) w3 ((hIH.out w3 hB3).cut2 1 5 (by decide) (by have := hnL.out; omega)) (fun x hx => hrH.out x (List.mem_of_mem_drop (List.mem_of_mem_take hx))) (by decide))
    rw [hv] at cv
    have cvH := Lib.hid cv
    clear cv
    have hsl : ∀ wx : World, (Instr.sliceAt 26 (.slice (some ⟨bb, off, none⟩) n c) (some (.int .i64 1)) (some (.int .i64 5)) none).run Try.prog wx = .ok (.slice (cutAddr (some ⟨bb, off, none⟩) c 1) 4 (c - 1)) wx := sl_cut (n := n) (c := c) (some ⟨bb, off, none⟩) 1 5 (by decide) (by have := hnL.out; have := hcH.out; omega)
    obtain ⟨A4, hA4⟩ : ∃ A, cutAddr (some ⟨bb, off, none⟩) c 1 = A := ⟨_, rfl⟩
    rw [hA4] at cvH hsl
    clear hA4
    go_wp2_with fail
    refine cvH.out.mono ?_
    rintro r w4 ⟨rfl, hww⟩
    subst hww
    clear cvH hsl
    have d0 := ms1 hN3
    have f0 := hN3.frozen 1
    have hN5 : Blk (w3.setCell ⟨N, 1, none⟩ (.int .u32 v)) N 28 (msC 4 v 0 0 z16 none 0 0) := hN3.set 1 (.int .u32 v)
    have hG5 : Blk (w3.setCell ⟨N, 1, none⟩ (.int .u32 v)) G 28 Z := hG3.far (by show G ≠ N; have := nGN.out; have := nG0.out; omega) _
    have hz5 : Blk (w3.setCell ⟨N, 1, none⟩ (.int .u32 v)) N0 28 Z := hz3.far (by show N0 ≠ N; have := nGN.out; omega) _
    have hB5 : Below w.heap.size w (w3.setCell ⟨N, 1, none⟩ (.int .u32 v)) := hB3.setCell (p := ⟨N, 1, none⟩) (by show w.heap.size ≤ N; have := nGN.out; have := nG0.out; have := gH.out; omega) _
    obtain ⟨w5, hw5⟩ : ∃ W, w3.setCell ⟨N, 1, none⟩ (.int .u32 v) = W := ⟨_, rfl⟩
    rw [hw5] at hN5 hG5 hz5 hB5
    clear hN3 hG3 hz3 hB3
    have c0 := ms0 hN5
    go_wp2_with ((with_reducible refine wpList_load_blk rfl 28 (.tmp 4) rfl ?_ hz5 rowMs hZl ?_); rfl; refine RowKit.Hid.out ?_)
    refine Lib.hid ?_
    try simp only [Act.put, List.setIfInBounds_toArray, List.set_cons_zero, List.set_cons_succ]
    refine store_row rfl 28 (.tmp 2) (.tmp 100) rfl rfl rfl hG5 rowMs hZl hZl hZ1 ?_
    intro wY hGY hgY
    have hrZ : IsRow Try.prog 28 Z.length := by rw [hZl]; exact rowMs
    go_wp2_with fail
    refine bodyPost_ret (results_blk_tmp rfl rfl hGY hrZ) rfl ?_
    rw [hend.out]
    exact ⟨none, 0, by rw [← hZH.out]; rfl, ⟨rfl, Nat.le_refl _, .inl rfl⟩, (fun x hx => by cases hx), hB5.grown hgY hB5.size (fun q hq => by injection hq with hq; have := gH.out; omega)⟩
  have hni4 : ¬ (5 : Int) < (n : Int) := by omega
  have hend := Lib.hid (show decM xs = (⟨4, v, 0, 0, z16, []⟩, 0) by rw [← hv, hxr, List.take_of_length_le (l := r) (by omega), ← hxsH.out, decM, if_neg (by decide), if_neg (by decide), if_neg (by decide), if_neg (by omega), if_neg (by omega)])
  have hl2 : (msC 4 v 0 0 z16 none 0 0).length = 21 := msC_len z16_len
  clear hlr hln h3 h4 hxr
  go_enter Try.func13, Try.ntmps13
  go_wp2_with ((with_reducible refine wpList_alloc_blk rfl 28 rfl hZz ?_); refine RowKit.Hid.out ?_)
  refine Lib.hid ?_
  clear hV
  go_wp2_with ((with_reducible refine build_row rfl 28 #[] rfl (cells := Z.toArray) ?_ ?_); (refine Eq.trans (congrArg _ ?_) hbt0; kernel_rfl); refine RowKit.Hid.out ?_)
  refine Lib.hid ?_
  refine wpList_alloc_blk rfl 28 rfl hZz ?_
  try simp only [Act.put, List.setIfInBounds_toArray, List.set_cons_zero, List.set_cons_succ]
  have hGA := hk.alloc (.cells Z.toArray 28)
  have hNA := Blk.new V 28 Z
  have hBA := hb.alloc hb.size (.cells Z.toArray 28)
  have hnG : G < V.heap.size := hk.lt
  obtain ⟨N0, hN⟩ : ∃ N, V.heap.size = N := ⟨_, rfl⟩
  rw [hN] at hNA hnG ⊢
  have nG0 := Lib.hid hnG
  obtain ⟨U, hU⟩ : ∃ W, V.alloc (.cells Z.toArray 28) = W := ⟨_, rfl⟩
  rw [hU] at hGA hNA hBA ⊢
  clear hk hb hN hU
  refine store_row rfl 28 (.tmp 4) (.tmp 10) rfl rfl rfl hNA rowMs hZl hZl hZ1 ?_
  intro w1 hz1 hg1
  have hG1 := hGA.grown hg1 (fun e => by injection e with e; omega)
  have hB1 := hBA.grown hg1 hBA.size (fun q hq => by injection hq with hq; have := gH.out; omega)
  clear hGA hNA hBA hg1 hnG
  have hI1 := hIH.out w1 hB1
  obtain ⟨bb, off, rfl, hcell⟩ := hI1.at hn1.out
  have cb := hcell 0 hn1.out
  rw [hx0.out, Nat.add_zero] at cb
  clear hI1 hcell
  go_wp2_with ((with_reducible refine build_row rfl 28 #[(0, .tmp 18)] rfl (cells := B.toArray) ?_ ?_); (refine Eq.trans (congrArg _ ?_) hbt; kernel_rfl); refine RowKit.Hid.out ?_)
  refine Lib.hid ?_
  refine wpList_alloc_blk rfl 28 rfl hZz ?_
  try simp only [Act.put, List.setIfInBounds_toArray, List.set_cons_zero, List.set_cons_succ]
  have hGA := hG1.alloc (.cells Z.toArray 28)
  have hzA := hz1.alloc (.cells Z.toArray 28)
  have hNA := Blk.new w1 28 Z
  have hBA := hB1.alloc hB1.size (.cells Z.toArray 28)
  have hn0 : N0 < w1.heap.size := hz1.lt
  obtain ⟨N, hN⟩ : ∃ N, w1.heap.size = N := ⟨_, rfl⟩
  rw [hN] at hNA hn0 ⊢
  have nGN := Lib.hid hn0
  obtain ⟨U1, hU⟩ : ∃ W, w1.alloc (.cells Z.toArray 28) = W := ⟨_, rfl⟩
  rw [hU] at hGA hzA hNA hBA ⊢
  clear hG1 hz1 hB1 hN hU cb
  refine store_row rfl 28 (.tmp 5) (.tmp 19) rfl rfl rfl hNA rowMs hBl hZl hB1' ?_
  intro w2 hN2 hg2
  have hG2 := hGA.grown hg2 (fun e => by injection e with e; have := nG0.out; omega)
  have hz2 := hzA.grown hg2 (fun e => by injection e with e; omega)
  have hB2 := hBA.grown hg2 hBA.size (fun q hq => by injection hq with hq; have := gH.out; have := nG0.out; omega)
  clear hGA hzA hNA hBA hg2 hn0
  have hG3 := hG2.alloc (.cells #[.int .i64 0, .int .i64 3, .int .i64 27, .int .i64 5, .int .i64 5] 3)
  have hz3 := hz2.alloc (.cells #[.int .i64 0, .int .i64 3, .int .i64 27, .int .i64 5, .int .i64 5] 3)
  have hN3 := hN2.alloc (.cells #[.int .i64 0, .int .i64 3, .int .i64 27, .int .i64 5, .int .i64 5] 3)
  have hM3 := Blk.new w2 3 [.int .i64 0, .int .i64 3, .int .i64 27, .int .i64 5, .int .i64 5]
  have hB3 := hB2.alloc hB2.size (.cells #[.int .i64 0, .int .i64 3, .int .i64 27, .int .i64 5, .int .i64 5] 3)
  have hnm : N < w2.heap.size := hN2.lt
  obtain ⟨M5, hM⟩ : ∃ N, w2.heap.size = N := ⟨_, rfl⟩
  obtain ⟨w3, hw3⟩ : ∃ W, w2.alloc (.cells #[.int .i64 0, .int .i64 3, .int .i64 27, .int .i64 5, .int .i64 5] 3) = W := ⟨_, rfl⟩
  rw [hw3] at hG3 hz3 hN3 hM3 hB3
  rw [hM] at hM3 hnm
  have nNM := Lib.hid hnm
  rw [← hBH.out] at hN3
  have c0 := ms0 hN3
  clear hG2 hz2 hN2 hB2 hnm
  have cs : w3.cell? ⟨M5, 4, none⟩ = some (.int .i64 5) := hM3.cell 4
  clear hM3
  have cv := (r14Value_any (cutAddr (some ⟨bb, off, none⟩) c 1) 4 (c - 1) ((xs.drop 1).take 4) w3 ((hIH.out w3 hB3).cut2 1 5 (by decide) (by have := hnL.out; omega)) (fun x hx => hrH.out x (List.mem_of_mem_drop (List.mem_of_mem_take hx))) (by decide))
  rw [hv] at cv
  have cvH := Lib.hid cv
  clear cv
  have hsl : ∀ wx : World, (Instr.sliceAt 26 (.slice (some ⟨bb, off, none⟩) n c) (some (.int .i64 1)) (some (.int .i64 5)) none).run Try.prog wx = .ok (.slice (cutAddr (some ⟨bb, off, none⟩) c 1) 4 (c - 1)) wx := sl_cut (n := n) (c := c) (some ⟨bb, off, none⟩) 1 5 (by decide) (by have := hnL.out; have := hcH.out; omega)
  obtain ⟨A4, hA4⟩ : ∃ A, cutAddr (some ⟨bb, off, none⟩) c 1 = A := ⟨_, rfl⟩
  rw [hA4] at cvH hsl
  clear hA4
  go_wp2_with fail
  refine cvH.out.mono ?_
  rintro r w4 ⟨rfl, hww⟩
  subst hww
  clear cvH hsl
  have d0 := ms1 hN3
  have f0 := hN3.frozen 1
  have hN5 : Blk (w3.setCell ⟨N, 1, none⟩ (.int .u32 v)) N 28 (msC 4 v 0 0 z16 none 0 0) := hN3.set 1 (.int .u32 v)
  have hG5 : Blk (w3.setCell ⟨N, 1, none⟩ (.int .u32 v)) G 28 Z := hG3.far (by show G ≠ N; have := nGN.out; have := nG0.out; omega) _
  have hz5 : Blk (w3.setCell ⟨N, 1, none⟩ (.int .u32 v)) N0 28 Z := hz3.far (by show N0 ≠ N; have := nGN.out; omega) _
  have hB5 : Below w.heap.size w (w3.setCell ⟨N, 1, none⟩ (.int .u32 v)) := hB3.setCell (p := ⟨N, 1, none⟩) (by show w.heap.size ≤ N; have := nGN.out; have := nG0.out; have := gH.out; omega) _
  obtain ⟨w5, hw5⟩ : ∃ W, w3.setCell ⟨N, 1, none⟩ (.int .u32 v) = W := ⟨_, rfl⟩
  rw [hw5] at hN5 hG5 hz5 hB5
  clear hN3 hG3 hz3 hB3
  have c0 := ms0 hN5
  go_wp2_with ((with_reducible refine wpList_load_blk rfl 28 (.tmp 5) rfl ?_ hN5 rowMs hl2 ?_); rfl; refine RowKit.Hid.out ?_)
  refine Lib.hid ?_
  try simp only [Act.put, List.setIfInBounds_toArray, List.set_cons_zero, List.set_cons_succ]
  refine store_row rfl 28 (.tmp 2) (.tmp 101) rfl rfl rfl hG5 rowMs hl2 hZl (msC_one _ _ _ _ _ _ _ _) ?_
  intro wY hGY hgY
  have hrZ : IsRow Try.prog 28 (msC 4 v 0 0 z16 none 0 0).length := by rw [hl2]; exact rowMs
  go_wp2_with fail
  refine bodyPost_ret (results_blk_tmp rfl rfl hGY hrZ) rfl ?_
  rw [hend.out]
  exact ⟨none, 0, rfl, ⟨rfl, Nat.le_refl _, .inl rfl⟩, (fun x hx => by cases hx), hB5.grown hgY hB5.size (fun q hq => by injection hq with hq; have := gH.out; omega)⟩

end Go.Proofs.Ytgaelgpmmgjldaa

/-
  The document's own Decode of a message: uploads. New memory alone is written. Conditions: bytes below 256, at most a million. (Made by wip/tools/mk_mrdecode.py.)
-/
namespace Go.Proofs.Ytgaelgpmmgjldaa
open Go.RowKit

/-- The hint, as far as it has been read. -/
def hj (xs : List Int) (j : Nat) : List Int := ((xs.drop 9).take 16).take j ++ z16.drop j
theorem hj_len {xs : List Int} (h : 27 ≤ xs.length) (j : Nat) (hj' : j ≤ 16) : (hj xs j).length = 16 := by
  unfold hj
  rw [List.length_append, List.length_take, List.length_take, List.length_drop, List.length_drop, show z16.length = 16 from rfl]
  omega
theorem hj_at {xs : List Int} (h : 27 ≤ xs.length) {j : Nat} (hj' : j < 16) : (hj xs j)[j]? = some 0 := by
  unfold hj
  have hl : (((xs.drop 9).take 16).take j).length = j := by rw [List.length_take, List.length_take, List.length_drop]; omega
  rw [List.getElem?_append_right (by rw [hl]; exact Nat.le_refl _), hl, Nat.sub_self, List.getElem?_drop, Nat.add_zero]
  unfold z16
  rw [List.getElem?_replicate, if_pos hj']
theorem hj_step {xs : List Int} (h : 27 ≤ xs.length) {j : Nat} (hj' : j < 16) : hj xs (j + 1) = (hj xs j).set j (xs.getD (9 + j) 0) := by
  unfold hj
  have hl : (((xs.drop 9).take 16).take j).length = j := by rw [List.length_take, List.length_take, List.length_drop]; omega
  rw [List.set_append_right _ _ (by rw [hl]; exact Nat.le_refl _), hl, Nat.sub_self]
  have e1 : ((xs.drop 9).take 16).take (j + 1) = ((xs.drop 9).take 16).take j ++ [xs.getD (9 + j) 0] := by
    rw [List.take_succ_eq_append_getElem (by rw [List.length_take, List.length_drop]; omega)]
    congr 2
    rw [List.getElem_take, List.getElem_drop, List.getD_eq_getElem?_getD, List.getElem?_eq_getElem (by omega)]
    rfl
  have e2 : z16.drop j = 0 :: z16.drop (j + 1) := by
    rw [List.drop_eq_getElem_cons (show j < z16.length from hj')]
    congr 1
    unfold z16
    rw [List.getElem_replicate]
  rw [e1, e2, List.set_cons_zero, List.append_assoc]
  rfl
theorem hj_all {xs : List Int} : hj xs 16 = (xs.drop 9).take 16 := by
  unfold hj
  rw [List.take_of_length_le (by rw [List.length_take]; omega), show z16.drop 16 = [] from rfl, List.append_nil]
theorem msC_sethint {K S Q O : Int} {H : List Int} {a : Option Addr} {n c j : Nat} (h : H.length = 16) (hj' : j < 16) {x : Int} : (msC K S Q O H a n c).set (4 + j) (.int .u8 x) = msC K S Q O (H.set j x) a n c := by
  unfold msC hdC
  rw [show 4 + j = j + 4 by omega]
  simp only [List.cons_append, List.set_cons_succ]
  rw [List.set_append_left _ _ (by rw [List.length_map]; omega), List.map_set]

set_option maxRecDepth 100000 in
set_option maxHeartbeats 4000000 in
theorem r14Decode_upload (a : Option Addr) (n c : Nat) (xs : List Int) (w : World) (hI : Ints .u8 w a n c xs) (hr : ∀ x ∈ xs, 0 ≤ x ∧ x < 256) (hn : n ≤ 1000000) (hx : ∃ r, xs = 2 :: r) :
    Calls Try.prog 13 #[.slice a n c] w (DecEnd xs w) := by
  have hln := hI.len
  have hnm0 : (n : Int) ≤ 1000000 := by omega
  have hcH := Lib.hid hI.2.1
  have hIH := Lib.hid (fun w' (h : Below w.heap.size w w') => hI.keep h)
  have hrH := Lib.hid hr
  obtain ⟨Z, hZ⟩ : ∃ B, msC 0 0 0 0 z16 none 0 0 = B := ⟨_, rfl⟩
  have hZz : Zero Try.prog 28 Z := hZ ▸ zeroMs
  have hbt0 := built_ms0
  have hZH := Lib.hid hZ
  have hZl : Z.length = 21 := by rw [← hZ]; exact msC_len z16_len
  have hZ1 : ∀ v ∈ Z, v.oneCell' = true := by rw [← hZ]; exact msC_one _ _ _ _ _ _ _ _
  rw [hZ] at hbt0
  clear hZ
  have hb := below1 w (.cells Z.toArray 28)
  have hk : Blk (w.alloc (.cells Z.toArray 28)) w.heap.size 28 Z := Blk.new w _ _
  obtain ⟨V, hV⟩ : ∃ V, w.alloc (.cells Z.toArray 28) = V := ⟨_, rfl⟩
  rw [hV] at hb hk
  obtain ⟨G, g9⟩ : ∃ G, w.heap.size = G := ⟨_, rfl⟩
  rw [g9] at hk
  have gH := Lib.hid g9
  unfold DecEnd
  obtain ⟨r, rfl⟩ := hx
  have hlr : r.length + 1 = n := hln
  have hn1 := Lib.hid (show 0 < n by omega)
  have hx0 := Lib.hid (show (2 :: r).getD 0 0 = 2 from rfl)
  have hni : ¬ (n : Int) < 1 := by omega
  have hbt := built_ms1 2
  obtain ⟨B, hB⟩ : ∃ B, msC 2 0 0 0 z16 none 0 0 = B := ⟨_, rfl⟩
  have hBH := Lib.hid hB
  have hBl : B.length = 21 := by rw [← hB]; exact msC_len z16_len
  have hB1' : ∀ v ∈ B, v.oneCell' = true := by rw [← hB]; exact msC_one _ _ _ _ _ _ _ _
  rw [hB] at hbt
  obtain ⟨xs, hxs⟩ : ∃ xs, 2 :: r = xs := ⟨_, rfl⟩
  rw [hxs] at hx0 hIH hrH
  rw [hxs]
  have hxsH := Lib.hid hxs
  clear hB hxs hI hr hn
  have hlnH := Lib.hid (show xs.length = n from by rw [← hxsH.out]; exact hln)
  have hni1 : ¬ (n : Int) < 1 := hni
  by_cases h3 : n < 27
  · have hend := Lib.hid (show decM xs = (noMsg, 2) by rw [← hxsH.out, decM, if_neg (by decide), if_neg (by decide), if_pos rfl, if_pos (by omega)])
    have hni3 : (n : Int) < 27 := by omega
    clear hlr hln h3 hni1
    go_enter Try.func13, Try.ntmps13
    go_wp2_with ((with_reducible refine wpList_alloc_blk rfl 28 rfl hZz ?_); refine RowKit.Hid.out ?_)
    refine Lib.hid ?_
    clear hV
    go_wp2_with ((with_reducible refine build_row rfl 28 #[] rfl (cells := Z.toArray) ?_ ?_); (refine Eq.trans (congrArg _ ?_) hbt0; kernel_rfl); refine RowKit.Hid.out ?_)
    refine Lib.hid ?_
    refine wpList_alloc_blk rfl 28 rfl hZz ?_
    try simp only [Act.put, List.setIfInBounds_toArray, List.set_cons_zero, List.set_cons_succ]
    have hGA := hk.alloc (.cells Z.toArray 28)
    have hNA := Blk.new V 28 Z
    have hBA := hb.alloc hb.size (.cells Z.toArray 28)
    have hnG : G < V.heap.size := hk.lt
    obtain ⟨N0, hN⟩ : ∃ N, V.heap.size = N := ⟨_, rfl⟩
    rw [hN] at hNA hnG ⊢
    have nG0 := Lib.hid hnG
    obtain ⟨U, hU⟩ : ∃ W, V.alloc (.cells Z.toArray 28) = W := ⟨_, rfl⟩
    rw [hU] at hGA hNA hBA ⊢
    clear hk hb hN hU
    refine store_row rfl 28 (.tmp 4) (.tmp 10) rfl rfl rfl hNA rowMs hZl hZl hZ1 ?_
    intro w1 hz1 hg1
    have hG1 := hGA.grown hg1 (fun e => by injection e with e; omega)
    have hB1 := hBA.grown hg1 hBA.size (fun q hq => by injection hq with hq; have := gH.out; omega)
    clear hGA hNA hBA hg1 hnG
    have hI1 := hIH.out w1 hB1
    obtain ⟨bb, off, rfl, hcell⟩ := hI1.at hn1.out
    have cb := hcell 0 hn1.out
    rw [hx0.out, Nat.add_zero] at cb
    clear hI1 hcell
    go_wp2_with ((with_reducible refine build_row rfl 28 #[(0, .tmp 18)] rfl (cells := B.toArray) ?_ ?_); (refine Eq.trans (congrArg _ ?_) hbt; kernel_rfl); refine RowKit.Hid.out ?_)
    refine Lib.hid ?_
    refine wpList_alloc_blk rfl 28 rfl hZz ?_
    try simp only [Act.put, List.setIfInBounds_toArray, List.set_cons_zero, List.set_cons_succ]
    have hGA := hG1.alloc (.cells Z.toArray 28)
    have hzA := hz1.alloc (.cells Z.toArray 28)
    have hNA := Blk.new w1 28 Z
    have hBA := hB1.alloc hB1.size (.cells Z.toArray 28)
    have hn0 : N0 < w1.heap.size := hz1.lt
    obtain ⟨N, hN⟩ : ∃ N, w1.heap.size = N := ⟨_, rfl⟩
    rw [hN] at hNA hn0 ⊢
    have nGN := Lib.hid hn0
    obtain ⟨U1, hU⟩ : ∃ W, w1.alloc (.cells Z.toArray 28) = W := ⟨_, rfl⟩
    rw [hU] at hGA hzA hNA hBA ⊢
    clear hG1 hz1 hB1 hN hU cb
    refine store_row rfl 28 (.tmp 5) (.tmp 19) rfl rfl rfl hNA rowMs hBl hZl hB1' ?_
    intro w2 hN2 hg2
    have hG2 := hGA.grown hg2 (fun e => by injection e with e; have := nG0.out; omega)
    have hz2 := hzA.grown hg2 (fun e => by injection e with e; omega)
    have hB2 := hBA.grown hg2 hBA.size (fun q hq => by injection hq with hq; have := gH.out; have := nG0.out; omega)
    clear hGA hzA hNA hBA hg2 hn0
    have hG3 := hG2.alloc (.cells #[.int .i64 0, .int .i64 3, .int .i64 27, .int .i64 5, .int .i64 5] 3)
    have hz3 := hz2.alloc (.cells #[.int .i64 0, .int .i64 3, .int .i64 27, .int .i64 5, .int .i64 5] 3)
    have hN3 := hN2.alloc (.cells #[.int .i64 0, .int .i64 3, .int .i64 27, .int .i64 5, .int .i64 5] 3)
    have hM3 := Blk.new w2 3 [.int .i64 0, .int .i64 3, .int .i64 27, .int .i64 5, .int .i64 5]
    have hB3 := hB2.alloc hB2.size (.cells #[.int .i64 0, .int .i64 3, .int .i64 27, .int .i64 5, .int .i64 5] 3)
    have hnm : N < w2.heap.size := hN2.lt
    obtain ⟨M5, hM⟩ : ∃ N, w2.heap.size = N := ⟨_, rfl⟩
    obtain ⟨w3, hw3⟩ : ∃ W, w2.alloc (.cells #[.int .i64 0, .int .i64 3, .int .i64 27, .int .i64 5, .int .i64 5] 3) = W := ⟨_, rfl⟩
    rw [hw3] at hG3 hz3 hN3 hM3 hB3
    rw [hM] at hM3 hnm
    have nNM := Lib.hid hnm
    rw [← hBH.out] at hN3
    have c0 := ms0 hN3
    clear hG2 hz2 hN2 hB2 hnm
    have cs : w3.cell? ⟨M5, 2, none⟩ = some (.int .i64 27) := hM3.cell 2
    clear hM3
    go_wp2_with ((with_reducible refine wpList_load_blk rfl 28 (.tmp 4) rfl ?_ hz3 rowMs hZl ?_); rfl; refine RowKit.Hid.out ?_)
    refine Lib.hid ?_
    skip
    refine store_row rfl 28 (.tmp 2) (.tmp 39) rfl rfl rfl hG3 rowMs hZl hZl hZ1 ?_
    intro wY hGY hgY
    have hrZ : IsRow Try.prog 28 Z.length := by rw [hZl]; exact rowMs
    go_wp2_with fail
    refine bodyPost_ret (results_blk_tmp rfl rfl hGY hrZ) rfl ?_
    rw [hend.out]
    exact ⟨none, 0, by rw [← hZH.out]; rfl, ⟨rfl, Nat.le_refl _, .inl rfl⟩, (fun x hx => by cases hx), hB3.grown hgY hB3.size (fun q hq => by injection hq with hq; have := gH.out; omega)⟩
  have hni3 : ¬ (n : Int) < 27 := by omega
  have hnL := Lib.hid (show 27 ≤ n by omega)
  obtain ⟨i0, hi, hz0, hz1, hz2⟩ := info_u8b
  have hxA : (xs.drop 1).take 4 = r.take 4 := by rw [← hxsH.out]; rfl
  have hxB : (xs.drop 5).take 4 = (r.drop 4).take 4 := by rw [← hxsH.out]; rfl
  have hxC : (xs.drop 9).take 16 = (r.drop 8).take 16 := by rw [← hxsH.out]; rfl
  have hxD : (xs.drop 25).take 2 = (r.drop 24).take 2 := by rw [← hxsH.out]; rfl
  have hxE : xs.drop 27 = r.drop 26 := by rw [← hxsH.out]; rfl
  obtain ⟨v, hv⟩ : ∃ v, be ((xs.drop 1).take 4) = v := ⟨_, rfl⟩
  obtain ⟨u, hu⟩ : ∃ v, be ((xs.drop 5).take 4) = v := ⟨_, rfl⟩
  have hLr := be_range ((xs.drop 25).take 2) 2 (by rw [List.length_take, List.length_drop, hlnH.out]; omega) (fun x hx => hrH.out x (List.mem_of_mem_drop (List.mem_of_mem_take hx)))
  obtain ⟨L, hL⟩ : ∃ N : Nat, be ((xs.drop 25).take 2) = (N : Int) := ⟨(be ((xs.drop 25).take 2)).toNat, by omega⟩
  rw [hL] at hLr
  have hL6 : (L : Int) ≤ 65535 := by have := hLr.2; omega
  obtain ⟨HH, hHH⟩ : ∃ H, (xs.drop 9).take 16 = H := ⟨_, rfl⟩
  have hHl : HH.length = 16 := by rw [← hHH, List.length_take, List.length_drop, hlnH.out]; omega
  have hdM : decM xs = if 1000 < (L : Int) then (noMsg, 4) else decU r L := by
    rw [← hxsH.out, decM, if_neg (by decide), if_neg (by decide), if_pos rfl, if_neg (by omega), ← hxD, hL, Int.toNat_natCast]
  clear hLr h3 hni1
  by_cases h1000 : 1000 < L
  · have hl1000 : (1000 : Int) < (L : Int) := by omega
    have hend := Lib.hid (show decM xs = (noMsg, 4) by rw [hdM, if_pos hl1000])
    clear hlr hln hxA hxB hxC hxD hxE hdM h1000
    go_enter Try.func13, Try.ntmps13
    go_wp2_with ((with_reducible refine wpList_alloc_blk rfl 28 rfl hZz ?_); refine RowKit.Hid.out ?_)
    refine Lib.hid ?_
    clear hV
    go_wp2_with ((with_reducible refine build_row rfl 28 #[] rfl (cells := Z.toArray) ?_ ?_); (refine Eq.trans (congrArg _ ?_) hbt0; kernel_rfl); refine RowKit.Hid.out ?_)
    refine Lib.hid ?_
    refine wpList_alloc_blk rfl 28 rfl hZz ?_
    try simp only [Act.put, List.setIfInBounds_toArray, List.set_cons_zero, List.set_cons_succ]
    have hGA := hk.alloc (.cells Z.toArray 28)
    have hNA := Blk.new V 28 Z
    have hBA := hb.alloc hb.size (.cells Z.toArray 28)
    have hnG : G < V.heap.size := hk.lt
    obtain ⟨N0, hN⟩ : ∃ N, V.heap.size = N := ⟨_, rfl⟩
    rw [hN] at hNA hnG ⊢
    have nG0 := Lib.hid hnG
    obtain ⟨U, hU⟩ : ∃ W, V.alloc (.cells Z.toArray 28) = W := ⟨_, rfl⟩
    rw [hU] at hGA hNA hBA ⊢
    clear hk hb hN hU
    refine store_row rfl 28 (.tmp 4) (.tmp 10) rfl rfl rfl hNA rowMs hZl hZl hZ1 ?_
    intro w1 hz1 hg1
    have hG1 := hGA.grown hg1 (fun e => by injection e with e; omega)
    have hB1 := hBA.grown hg1 hBA.size (fun q hq => by injection hq with hq; have := gH.out; omega)
    clear hGA hNA hBA hg1 hnG
    have hI1 := hIH.out w1 hB1
    obtain ⟨bb, off, rfl, hcell⟩ := hI1.at hn1.out
    have cb := hcell 0 hn1.out
    rw [hx0.out, Nat.add_zero] at cb
    clear hI1 hcell
    go_wp2_with ((with_reducible refine build_row rfl 28 #[(0, .tmp 18)] rfl (cells := B.toArray) ?_ ?_); (refine Eq.trans (congrArg _ ?_) hbt; kernel_rfl); refine RowKit.Hid.out ?_)
    refine Lib.hid ?_
    refine wpList_alloc_blk rfl 28 rfl hZz ?_
    try simp only [Act.put, List.setIfInBounds_toArray, List.set_cons_zero, List.set_cons_succ]
    have hGA := hG1.alloc (.cells Z.toArray 28)
    have hzA := hz1.alloc (.cells Z.toArray 28)
    have hNA := Blk.new w1 28 Z
    have hBA := hB1.alloc hB1.size (.cells Z.toArray 28)
    have hn0 : N0 < w1.heap.size := hz1.lt
    obtain ⟨N, hN⟩ : ∃ N, w1.heap.size = N := ⟨_, rfl⟩
    rw [hN] at hNA hn0 ⊢
    have nGN := Lib.hid hn0
    obtain ⟨U1, hU⟩ : ∃ W, w1.alloc (.cells Z.toArray 28) = W := ⟨_, rfl⟩
    rw [hU] at hGA hzA hNA hBA ⊢
    clear hG1 hz1 hB1 hN hU cb
    refine store_row rfl 28 (.tmp 5) (.tmp 19) rfl rfl rfl hNA rowMs hBl hZl hB1' ?_
    intro w2 hN2 hg2
    have hG2 := hGA.grown hg2 (fun e => by injection e with e; have := nG0.out; omega)
    have hz2 := hzA.grown hg2 (fun e => by injection e with e; omega)
    have hB2 := hBA.grown hg2 hBA.size (fun q hq => by injection hq with hq; have := gH.out; have := nG0.out; omega)
    clear hGA hzA hNA hBA hg2 hn0
    have hG3 := hG2.alloc (.cells #[.int .i64 0, .int .i64 3, .int .i64 27, .int .i64 5, .int .i64 5] 3)
    have hz3 := hz2.alloc (.cells #[.int .i64 0, .int .i64 3, .int .i64 27, .int .i64 5, .int .i64 5] 3)
    have hN3 := hN2.alloc (.cells #[.int .i64 0, .int .i64 3, .int .i64 27, .int .i64 5, .int .i64 5] 3)
    have hM3 := Blk.new w2 3 [.int .i64 0, .int .i64 3, .int .i64 27, .int .i64 5, .int .i64 5]
    have hB3 := hB2.alloc hB2.size (.cells #[.int .i64 0, .int .i64 3, .int .i64 27, .int .i64 5, .int .i64 5] 3)
    have hnm : N < w2.heap.size := hN2.lt
    obtain ⟨M5, hM⟩ : ∃ N, w2.heap.size = N := ⟨_, rfl⟩
    obtain ⟨w3, hw3⟩ : ∃ W, w2.alloc (.cells #[.int .i64 0, .int .i64 3, .int .i64 27, .int .i64 5, .int .i64 5] 3) = W := ⟨_, rfl⟩
    rw [hw3] at hG3 hz3 hN3 hM3 hB3
    rw [hM] at hM3 hnm
    have nNM := Lib.hid hnm
    rw [← hBH.out] at hN3
    have c0 := ms0 hN3
    clear hG2 hz2 hN2 hB2 hnm
    have cs : w3.cell? ⟨M5, 2, none⟩ = some (.int .i64 27) := hM3.cell 2
    clear hM3
    have cv := (r14Value_any (cutAddr (some ⟨bb, off, none⟩) c 1) 4 (c - 1) ((xs.drop 1).take 4) w3 ((hIH.out w3 hB3).cut2 1 5 (by decide) (by have := hnL.out; omega)) (fun x hx => hrH.out x (List.mem_of_mem_drop (List.mem_of_mem_take hx))) (by decide))
    rw [hv] at cv
    have cvH := Lib.hid cv
    clear cv
    have hsl : ∀ wx : World, (Instr.sliceAt 26 (.slice (some ⟨bb, off, none⟩) n c) (some (.int .i64 1)) (some (.int .i64 5)) none).run Try.prog wx = .ok (.slice (cutAddr (some ⟨bb, off, none⟩) c 1) 4 (c - 1)) wx := sl_cut (n := n) (c := c) (some ⟨bb, off, none⟩) 1 5 (by decide) (by have := hnL.out; have := hcH.out; omega)
    obtain ⟨A4, hA4⟩ : ∃ A, cutAddr (some ⟨bb, off, none⟩) c 1 = A := ⟨_, rfl⟩
    rw [hA4] at cvH hsl
    clear hA4
    go_wp2_with fail
    refine cvH.out.mono ?_
    rintro r w4 ⟨rfl, hww⟩
    subst hww
    clear cvH hsl
    have d0 := ms1 hN3
    have f0 := hN3.frozen 1
    have hN5 : Blk (w3.setCell ⟨N, 1, none⟩ (.int .u32 v)) N 28 (msC 2 v 0 0 z16 none 0 0) := hN3.set 1 (.int .u32 v)
    have hG5 : Blk (w3.setCell ⟨N, 1, none⟩ (.int .u32 v)) G 28 Z := hG3.far (by show G ≠ N; have := nGN.out; have := nG0.out; omega) _
    have hz5 : Blk (w3.setCell ⟨N, 1, none⟩ (.int .u32 v)) N0 28 Z := hz3.far (by show N0 ≠ N; have := nGN.out; omega) _
    have hB5 : Below w.heap.size w (w3.setCell ⟨N, 1, none⟩ (.int .u32 v)) := hB3.setCell (p := ⟨N, 1, none⟩) (by show w.heap.size ≤ N; have := nGN.out; have := nG0.out; have := gH.out; omega) _
    obtain ⟨w5, hw5⟩ : ∃ W, w3.setCell ⟨N, 1, none⟩ (.int .u32 v) = W := ⟨_, rfl⟩
    rw [hw5] at hN5 hG5 hz5 hB5
    clear hN3 hG3 hz3 hB3
    have c0 := ms0 hN5
    have cv := (r14Value_any (cutAddr (some ⟨bb, off, none⟩) c 5) 4 (c - 5) ((xs.drop 5).take 4) w5 ((hIH.out w5 hB5).cut2 5 9 (by decide) (by have := hnL.out; omega)) (fun x hx => hrH.out x (List.mem_of_mem_drop (List.mem_of_mem_take hx))) (by decide))
    rw [hu] at cv
    have cvH := Lib.hid cv
    clear cv
    have hsl : ∀ wx : World, (Instr.sliceAt 26 (.slice (some ⟨bb, off, none⟩) n c) (some (.int .i64 5)) (some (.int .i64 9)) none).run Try.prog wx = .ok (.slice (cutAddr (some ⟨bb, off, none⟩) c 5) 4 (c - 5)) wx := sl_cut (n := n) (c := c) (some ⟨bb, off, none⟩) 5 9 (by decide) (by have := hnL.out; have := hcH.out; omega)
    obtain ⟨A6, hA6⟩ : ∃ A, cutAddr (some ⟨bb, off, none⟩) c 5 = A := ⟨_, rfl⟩
    rw [hA6] at cvH hsl
    clear hA6
    go_wp2_with fail
    refine cvH.out.mono ?_
    rintro r w6 ⟨rfl, hww⟩
    subst hww
    clear cvH hsl
    have d0 := ms2 hN5
    have f0 := hN5.frozen 2
    have hN7 : Blk (w5.setCell ⟨N, 2, none⟩ (.int .u32 u)) N 28 (msC 2 v u 0 z16 none 0 0) := hN5.set 2 (.int .u32 u)
    have hG7 : Blk (w5.setCell ⟨N, 2, none⟩ (.int .u32 u)) G 28 Z := hG5.far (by show G ≠ N; have := nGN.out; have := nG0.out; omega) _
    have hz7 : Blk (w5.setCell ⟨N, 2, none⟩ (.int .u32 u)) N0 28 Z := hz5.far (by show N0 ≠ N; have := nGN.out; omega) _
    have hB7 : Below w.heap.size w (w5.setCell ⟨N, 2, none⟩ (.int .u32 u)) := hB5.setCell (p := ⟨N, 2, none⟩) (by show w.heap.size ≤ N; have := nGN.out; have := nG0.out; have := gH.out; omega) _
    obtain ⟨w7, hw7⟩ : ∃ W, w5.setCell ⟨N, 2, none⟩ (.int .u32 u) = W := ⟨_, rfl⟩
    rw [hw7] at hN7 hG7 hz7 hB7
    clear hN5 hG5 hz5 hB5
    have hI7 := hIH.out w7 hB7
    obtain ⟨bb', off', hae, hcl⟩ := hI7.at hn1.out
    injection hae with hae
    injection hae with e1 e2 _
    subst e1; subst e2
    have hcl7 := Lib.hid (fun i (h : i < n) wr (hb : Below w.heap.size w wr) => ((hIH.out wr hb).at hn1.out))
    clear hI7 hcl
    go_wp2_with fail
    go_loopw [8] (fun i wr => ∃ j : Nat, j ≤ 16 ∧ i = .int .i64 j ∧ Blk wr N 28 (msC 2 v u 0 (hj xs j) none 0 0) ∧ Blk wr G 28 Z ∧ Blk wr N0 28 Z ∧ Below w.heap.size w wr) (fun i _ => 16 - (intOf i).toNat)
    case atStart => exact ⟨0, Nat.zero_le _, rfl, hN7, hG7, hz7, hB7⟩
    case round =>
      clear hN7 hG7 hz7 hB7
      obtain ⟨j, hjl, rfl, hNr, hGr, hzr, hBr⟩ := hrel
      by_cases hlt : j < 16
      · have hji : (j : Int) < 16 := by omega
        have hj9 : (9 : Int) + (j : Int) < (n : Int) := by have := hnL.out; omega
        obtain ⟨bb', off', hae, hcl⟩ := hcl7.out 0 hn1.out wr hBr
        injection hae with hae
        injection hae with e1 e2 _
        subst e1; subst e2
        have cb := hcl (9 + j) (by have := hnL.out; omega)
        obtain ⟨x, hx⟩ : ∃ x, xs.getD (9 + j) 0 = x := ⟨_, rfl⟩
        rw [hx] at cb
        have hst := hj_step (xs := xs) (by rw [hlnH.out]; have := hnL.out; omega) hlt
        rw [hx] at hst
        have hjl16 := hj_len (xs := xs) (by rw [hlnH.out]; have := hnL.out; omega) j hjl
        have d0 := (ms4 hNr hjl16) j (.int .u8 0) (by rw [List.getElem?_map, hj_at (xs := xs) (by rw [hlnH.out]; have := hnL.out; omega) hlt]; rfl)
        have f0 := hNr.frozen (4 + j)
        have hNs : Blk (wr.setCell ⟨N, 4 + j, none⟩ (.int .u8 x)) N 28 (msC 2 v u 0 (hj xs (j + 1)) none 0 0) := by
          have h := hNr.set (4 + j) (.int .u8 x)
          rw [msC_sethint hjl16 hlt, ← hst] at h
          exact h
        have hGs : Blk (wr.setCell ⟨N, 4 + j, none⟩ (.int .u8 x)) G 28 Z := hGr.far (by show G ≠ N; have := nGN.out; have := nG0.out; omega) _
        have hzs : Blk (wr.setCell ⟨N, 4 + j, none⟩ (.int .u8 x)) N0 28 Z := hzr.far (by show N0 ≠ N; have := nGN.out; omega) _
        have hBs : Below w.heap.size w (wr.setCell ⟨N, 4 + j, none⟩ (.int .u8 x)) := hBr.setCell (p := ⟨N, 4 + j, none⟩) (by show w.heap.size ≤ N; have := nGN.out; have := nG0.out; have := gH.out; omega) _
        have hltH := Lib.hid hlt
        clear hlt hjl hNr hGr hzr hBr hcl hx hst hjl16
        go_wp2
        exact ⟨⟨j + 1, by have := hltH.out; omega, by congr 1, hNs, hGs, hzs, hBs⟩, by simp only [intOf]; have := hltH.out; omega⟩
      · obtain rfl : j = 16 := by omega
        have hji : ¬ ((16 : Nat) : Int) < 16 := by omega
        rw [hj_all (xs := xs)] at hNr
        clear hlt hjl hcl7
        obtain ⟨w8, hw8⟩ : ∃ W, wr = W := ⟨_, rfl⟩
        subst hw8
        rw [hHH] at hNr
        have cv := (r14Value_any (cutAddr (some ⟨bb, off, none⟩) c 25) 2 (c - 25) ((xs.drop 25).take 2) wr ((hIH.out wr hBr).cut2 25 27 (by decide) (by have := hnL.out; omega)) (fun x hx => hrH.out x (List.mem_of_mem_drop (List.mem_of_mem_take hx))) (by decide))
        rw [hL] at cv
        have cvH := Lib.hid cv
        clear cv
        have hsl : ∀ wx : World, (Instr.sliceAt 26 (.slice (some ⟨bb, off, none⟩) n c) (some (.int .i64 25)) (some (.int .i64 27)) none).run Try.prog wx = .ok (.slice (cutAddr (some ⟨bb, off, none⟩) c 25) 2 (c - 25)) wx := sl_cut (n := n) (c := c) (some ⟨bb, off, none⟩) 25 27 (by decide) (by have := hnL.out; have := hcH.out; omega)
        obtain ⟨A9, hA9⟩ : ∃ A, cutAddr (some ⟨bb, off, none⟩) c 25 = A := ⟨_, rfl⟩
        rw [hA9] at cvH hsl
        clear hA9
        go_wp2_with fail
        refine cvH.out.mono ?_
        rintro r w9 ⟨rfl, hww⟩
        subst hww
        clear cvH hsl
        go_wp2_with ((with_reducible refine wpList_load_blk rfl 28 (.tmp 4) rfl ?_ hzr rowMs hZl ?_); rfl; refine RowKit.Hid.out ?_)
        refine Lib.hid ?_
        try simp only [Act.put, List.setIfInBounds_toArray, List.set_cons_zero, List.set_cons_succ]
        refine store_row rfl 28 (.tmp 2) (.tmp 76) rfl rfl rfl hGr rowMs hZl hZl hZ1 ?_
        intro wY hGY hgY
        have hrZ : IsRow Try.prog 28 Z.length := by rw [hZl]; exact rowMs
        go_wp2_with fail
        refine bodyPost_ret (results_blk_tmp rfl rfl hGY hrZ) rfl ?_
        rw [hend.out]
        exact ⟨none, 0, by rw [← hZH.out]; rfl, ⟨rfl, Nat.le_refl _, .inl rfl⟩, (fun x hx => by cases hx), hBr.grown hgY hBr.size (fun q hq => by injection hq with hq; have := gH.out; omega)⟩
  have hl1000 : ¬ (1000 : Int) < (L : Int) := by omega
  have hL1 := Lib.hid (show L ≤ 1000 by omega)
  have hLm : (L : Int) ≤ 1000 := by omega
  rw [if_neg hl1000] at hdM
  unfold decU at hdM
  by_cases hs : n < 27 + L
  · have hsi : (n : Int) < 27 + (L : Int) := by omega
    have hend := Lib.hid (show decM xs = (noMsg, 2) by rw [hdM, if_pos (by omega)])
    clear hlr hln hxA hxB hxC hxD hxE hdM h1000 hs
    go_enter Try.func13, Try.ntmps13
    go_wp2_with ((with_reducible refine wpList_alloc_blk rfl 28 rfl hZz ?_); refine RowKit.Hid.out ?_)
    refine Lib.hid ?_
    clear hV
    go_wp2_with ((with_reducible refine build_row rfl 28 #[] rfl (cells := Z.toArray) ?_ ?_); (refine Eq.trans (congrArg _ ?_) hbt0; kernel_rfl); refine RowKit.Hid.out ?_)
    refine Lib.hid ?_
    refine wpList_alloc_blk rfl 28 rfl hZz ?_
    try simp only [Act.put, List.setIfInBounds_toArray, List.set_cons_zero, List.set_cons_succ]
    have hGA := hk.alloc (.cells Z.toArray 28)
    have hNA := Blk.new V 28 Z
    have hBA := hb.alloc hb.size (.cells Z.toArray 28)
    have hnG : G < V.heap.size := hk.lt
    obtain ⟨N0, hN⟩ : ∃ N, V.heap.size = N := ⟨_, rfl⟩
    rw [hN] at hNA hnG ⊢
    have nG0 := Lib.hid hnG
    obtain ⟨U, hU⟩ : ∃ W, V.alloc (.cells Z.toArray 28) = W := ⟨_, rfl⟩
    rw [hU] at hGA hNA hBA ⊢
    clear hk hb hN hU
    refine store_row rfl 28 (.tmp 4) (.tmp 10) rfl rfl rfl hNA rowMs hZl hZl hZ1 ?_
    intro w1 hz1 hg1
    have hG1 := hGA.grown hg1 (fun e => by injection e with e; omega)
    have hB1 := hBA.grown hg1 hBA.size (fun q hq => by injection hq with hq; have := gH.out; omega)
    clear hGA hNA hBA hg1 hnG
    have hI1 := hIH.out w1 hB1
    obtain ⟨bb, off, rfl, hcell⟩ := hI1.at hn1.out
    have cb := hcell 0 hn1.out
    rw [hx0.out, Nat.add_zero] at cb
    clear hI1 hcell
    go_wp2_with ((with_reducible refine build_row rfl 28 #[(0, .tmp 18)] rfl (cells := B.toArray) ?_ ?_); (refine Eq.trans (congrArg _ ?_) hbt; kernel_rfl); refine RowKit.Hid.out ?_)
    refine Lib.hid ?_
    refine wpList_alloc_blk rfl 28 rfl hZz ?_
    try simp only [Act.put, List.setIfInBounds_toArray, List.set_cons_zero, List.set_cons_succ]
    have hGA := hG1.alloc (.cells Z.toArray 28)
    have hzA := hz1.alloc (.cells Z.toArray 28)
    have hNA := Blk.new w1 28 Z
    have hBA := hB1.alloc hB1.size (.cells Z.toArray 28)
    have hn0 : N0 < w1.heap.size := hz1.lt
    obtain ⟨N, hN⟩ : ∃ N, w1.heap.size = N := ⟨_, rfl⟩
    rw [hN] at hNA hn0 ⊢
    have nGN := Lib.hid hn0
    obtain ⟨U1, hU⟩ : ∃ W, w1.alloc (.cells Z.toArray 28) = W := ⟨_, rfl⟩
    rw [hU] at hGA hzA hNA hBA ⊢
    clear hG1 hz1 hB1 hN hU cb
    refine store_row rfl 28 (.tmp 5) (.tmp 19) rfl rfl rfl hNA rowMs hBl hZl hB1' ?_
    intro w2 hN2 hg2
    have hG2 := hGA.grown hg2 (fun e => by injection e with e; have := nG0.out; omega)
    have hz2 := hzA.grown hg2 (fun e => by injection e with e; omega)
    have hB2 := hBA.grown hg2 hBA.size (fun q hq => by injection hq with hq; have := gH.out; have := nG0.out; omega)
    clear hGA hzA hNA hBA hg2 hn0
    have hG3 := hG2.alloc (.cells #[.int .i64 0, .int .i64 3, .int .i64 27, .int .i64 5, .int .i64 5] 3)
    have hz3 := hz2.alloc (.cells #[.int .i64 0, .int .i64 3, .int .i64 27, .int .i64 5, .int .i64 5] 3)
    have hN3 := hN2.alloc (.cells #[.int .i64 0, .int .i64 3, .int .i64 27, .int .i64 5, .int .i64 5] 3)
    have hM3 := Blk.new w2 3 [.int .i64 0, .int .i64 3, .int .i64 27, .int .i64 5, .int .i64 5]
    have hB3 := hB2.alloc hB2.size (.cells #[.int .i64 0, .int .i64 3, .int .i64 27, .int .i64 5, .int .i64 5] 3)
    have hnm : N < w2.heap.size := hN2.lt
    obtain ⟨M5, hM⟩ : ∃ N, w2.heap.size = N := ⟨_, rfl⟩
    obtain ⟨w3, hw3⟩ : ∃ W, w2.alloc (.cells #[.int .i64 0, .int .i64 3, .int .i64 27, .int .i64 5, .int .i64 5] 3) = W := ⟨_, rfl⟩
    rw [hw3] at hG3 hz3 hN3 hM3 hB3
    rw [hM] at hM3 hnm
    have nNM := Lib.hid hnm
    rw [← hBH.out] at hN3
    have c0 := ms0 hN3
    clear hG2 hz2 hN2 hB2 hnm
    have cs : w3.cell? ⟨M5, 2, none⟩ = some (.int .i64 27) := hM3.cell 2
    clear hM3
    have cv := (r14Value_any (cutAddr (some ⟨bb, off, none⟩) c 1) 4 (c - 1) ((xs.drop 1).take 4) w3 ((hIH.out w3 hB3).cut2 1 5 (by decide) (by have := hnL.out; omega)) (fun x hx => hrH.out x (List.mem_of_mem_drop (List.mem_of_mem_take hx))) (by decide))
    rw [hv] at cv
    have cvH := Lib.hid cv
    clear cv
    have hsl : ∀ wx : World, (Instr.sliceAt 26 (.slice (some ⟨bb, off, none⟩) n c) (some (.int .i64 1)) (some (.int .i64 5)) none).run Try.prog wx = .ok (.slice (cutAddr (some ⟨bb, off, none⟩) c 1) 4 (c - 1)) wx := sl_cut (n := n) (c := c) (some ⟨bb, off, none⟩) 1 5 (by decide) (by have := hnL.out; have := hcH.out; omega)
    obtain ⟨A4, hA4⟩ : ∃ A, cutAddr (some ⟨bb, off, none⟩) c 1 = A := ⟨_, rfl⟩
    rw [hA4] at cvH hsl
    clear hA4
    go_wp2_with fail
    refine cvH.out.mono ?_
    rintro r w4 ⟨rfl, hww⟩
    subst hww
    clear cvH hsl
    have d0 := ms1 hN3
    have f0 := hN3.frozen 1
    have hN5 : Blk (w3.setCell ⟨N, 1, none⟩ (.int .u32 v)) N 28 (msC 2 v 0 0 z16 none 0 0) := hN3.set 1 (.int .u32 v)
    have hG5 : Blk (w3.setCell ⟨N, 1, none⟩ (.int .u32 v)) G 28 Z := hG3.far (by show G ≠ N; have := nGN.out; have := nG0.out; omega) _
    have hz5 : Blk (w3.setCell ⟨N, 1, none⟩ (.int .u32 v)) N0 28 Z := hz3.far (by show N0 ≠ N; have := nGN.out; omega) _
    have hB5 : Below w.heap.size w (w3.setCell ⟨N, 1, none⟩ (.int .u32 v)) := hB3.setCell (p := ⟨N, 1, none⟩) (by show w.heap.size ≤ N; have := nGN.out; have := nG0.out; have := gH.out; omega) _
    obtain ⟨w5, hw5⟩ : ∃ W, w3.setCell ⟨N, 1, none⟩ (.int .u32 v) = W := ⟨_, rfl⟩
    rw [hw5] at hN5 hG5 hz5 hB5
    clear hN3 hG3 hz3 hB3
    have c0 := ms0 hN5
    have cv := (r14Value_any (cutAddr (some ⟨bb, off, none⟩) c 5) 4 (c - 5) ((xs.drop 5).take 4) w5 ((hIH.out w5 hB5).cut2 5 9 (by decide) (by have := hnL.out; omega)) (fun x hx => hrH.out x (List.mem_of_mem_drop (List.mem_of_mem_take hx))) (by decide))
    rw [hu] at cv
    have cvH := Lib.hid cv
    clear cv
    have hsl : ∀ wx : World, (Instr.sliceAt 26 (.slice (some ⟨bb, off, none⟩) n c) (some (.int .i64 5)) (some (.int .i64 9)) none).run Try.prog wx = .ok (.slice (cutAddr (some ⟨bb, off, none⟩) c 5) 4 (c - 5)) wx := sl_cut (n := n) (c := c) (some ⟨bb, off, none⟩) 5 9 (by decide) (by have := hnL.out; have := hcH.out; omega)
    obtain ⟨A6, hA6⟩ : ∃ A, cutAddr (some ⟨bb, off, none⟩) c 5 = A := ⟨_, rfl⟩
    rw [hA6] at cvH hsl
    clear hA6
    go_wp2_with fail
    refine cvH.out.mono ?_
    rintro r w6 ⟨rfl, hww⟩
    subst hww
    clear cvH hsl
    have d0 := ms2 hN5
    have f0 := hN5.frozen 2
    have hN7 : Blk (w5.setCell ⟨N, 2, none⟩ (.int .u32 u)) N 28 (msC 2 v u 0 z16 none 0 0) := hN5.set 2 (.int .u32 u)
    have hG7 : Blk (w5.setCell ⟨N, 2, none⟩ (.int .u32 u)) G 28 Z := hG5.far (by show G ≠ N; have := nGN.out; have := nG0.out; omega) _
    have hz7 : Blk (w5.setCell ⟨N, 2, none⟩ (.int .u32 u)) N0 28 Z := hz5.far (by show N0 ≠ N; have := nGN.out; omega) _
    have hB7 : Below w.heap.size w (w5.setCell ⟨N, 2, none⟩ (.int .u32 u)) := hB5.setCell (p := ⟨N, 2, none⟩) (by show w.heap.size ≤ N; have := nGN.out; have := nG0.out; have := gH.out; omega) _
    obtain ⟨w7, hw7⟩ : ∃ W, w5.setCell ⟨N, 2, none⟩ (.int .u32 u) = W := ⟨_, rfl⟩
    rw [hw7] at hN7 hG7 hz7 hB7
    clear hN5 hG5 hz5 hB5
    have hI7 := hIH.out w7 hB7
    obtain ⟨bb', off', hae, hcl⟩ := hI7.at hn1.out
    injection hae with hae
    injection hae with e1 e2 _
    subst e1; subst e2
    have hcl7 := Lib.hid (fun i (h : i < n) wr (hb : Below w.heap.size w wr) => ((hIH.out wr hb).at hn1.out))
    clear hI7 hcl
    go_wp2_with fail
    go_loopw [8] (fun i wr => ∃ j : Nat, j ≤ 16 ∧ i = .int .i64 j ∧ Blk wr N 28 (msC 2 v u 0 (hj xs j) none 0 0) ∧ Blk wr G 28 Z ∧ Blk wr N0 28 Z ∧ Below w.heap.size w wr) (fun i _ => 16 - (intOf i).toNat)
    case atStart => exact ⟨0, Nat.zero_le _, rfl, hN7, hG7, hz7, hB7⟩
    case round =>
      clear hN7 hG7 hz7 hB7
      obtain ⟨j, hjl, rfl, hNr, hGr, hzr, hBr⟩ := hrel
      by_cases hlt : j < 16
      · have hji : (j : Int) < 16 := by omega
        have hj9 : (9 : Int) + (j : Int) < (n : Int) := by have := hnL.out; omega
        obtain ⟨bb', off', hae, hcl⟩ := hcl7.out 0 hn1.out wr hBr
        injection hae with hae
        injection hae with e1 e2 _
        subst e1; subst e2
        have cb := hcl (9 + j) (by have := hnL.out; omega)
        obtain ⟨x, hx⟩ : ∃ x, xs.getD (9 + j) 0 = x := ⟨_, rfl⟩
        rw [hx] at cb
        have hst := hj_step (xs := xs) (by rw [hlnH.out]; have := hnL.out; omega) hlt
        rw [hx] at hst
        have hjl16 := hj_len (xs := xs) (by rw [hlnH.out]; have := hnL.out; omega) j hjl
        have d0 := (ms4 hNr hjl16) j (.int .u8 0) (by rw [List.getElem?_map, hj_at (xs := xs) (by rw [hlnH.out]; have := hnL.out; omega) hlt]; rfl)
        have f0 := hNr.frozen (4 + j)
        have hNs : Blk (wr.setCell ⟨N, 4 + j, none⟩ (.int .u8 x)) N 28 (msC 2 v u 0 (hj xs (j + 1)) none 0 0) := by
          have h := hNr.set (4 + j) (.int .u8 x)
          rw [msC_sethint hjl16 hlt, ← hst] at h
          exact h
        have hGs : Blk (wr.setCell ⟨N, 4 + j, none⟩ (.int .u8 x)) G 28 Z := hGr.far (by show G ≠ N; have := nGN.out; have := nG0.out; omega) _
        have hzs : Blk (wr.setCell ⟨N, 4 + j, none⟩ (.int .u8 x)) N0 28 Z := hzr.far (by show N0 ≠ N; have := nGN.out; omega) _
        have hBs : Below w.heap.size w (wr.setCell ⟨N, 4 + j, none⟩ (.int .u8 x)) := hBr.setCell (p := ⟨N, 4 + j, none⟩) (by show w.heap.size ≤ N; have := nGN.out; have := nG0.out; have := gH.out; omega) _
        have hltH := Lib.hid hlt
        clear hlt hjl hNr hGr hzr hBr hcl hx hst hjl16
        go_wp2
        exact ⟨⟨j + 1, by have := hltH.out; omega, by congr 1, hNs, hGs, hzs, hBs⟩, by simp only [intOf]; have := hltH.out; omega⟩
      · obtain rfl : j = 16 := by omega
        have hji : ¬ ((16 : Nat) : Int) < 16 := by omega
        rw [hj_all (xs := xs)] at hNr
        clear hlt hjl hcl7
        obtain ⟨w8, hw8⟩ : ∃ W, wr = W := ⟨_, rfl⟩
        subst hw8
        rw [hHH] at hNr
        have cv := (r14Value_any (cutAddr (some ⟨bb, off, none⟩) c 25) 2 (c - 25) ((xs.drop 25).take 2) wr ((hIH.out wr hBr).cut2 25 27 (by decide) (by have := hnL.out; omega)) (fun x hx => hrH.out x (List.mem_of_mem_drop (List.mem_of_mem_take hx))) (by decide))
        rw [hL] at cv
        have cvH := Lib.hid cv
        clear cv
        have hsl : ∀ wx : World, (Instr.sliceAt 26 (.slice (some ⟨bb, off, none⟩) n c) (some (.int .i64 25)) (some (.int .i64 27)) none).run Try.prog wx = .ok (.slice (cutAddr (some ⟨bb, off, none⟩) c 25) 2 (c - 25)) wx := sl_cut (n := n) (c := c) (some ⟨bb, off, none⟩) 25 27 (by decide) (by have := hnL.out; have := hcH.out; omega)
        obtain ⟨A9, hA9⟩ : ∃ A, cutAddr (some ⟨bb, off, none⟩) c 25 = A := ⟨_, rfl⟩
        rw [hA9] at cvH hsl
        clear hA9
        go_wp2_with fail
        refine cvH.out.mono ?_
        rintro r w9 ⟨rfl, hww⟩
        subst hww
        clear cvH hsl
        go_wp2_with ((with_reducible refine wpList_load_blk rfl 28 (.tmp 4) rfl ?_ hzr rowMs hZl ?_); rfl; refine RowKit.Hid.out ?_)
        refine Lib.hid ?_
        try simp only [Act.put, List.setIfInBounds_toArray, List.set_cons_zero, List.set_cons_succ]
        refine store_row rfl 28 (.tmp 2) (.tmp 83) rfl rfl rfl hGr rowMs hZl hZl hZ1 ?_
        intro wY hGY hgY
        have hrZ : IsRow Try.prog 28 Z.length := by rw [hZl]; exact rowMs
        go_wp2_with fail
        refine bodyPost_ret (results_blk_tmp rfl rfl hGY hrZ) rfl ?_
        rw [hend.out]
        exact ⟨none, 0, by rw [← hZH.out]; rfl, ⟨rfl, Nat.le_refl _, .inl rfl⟩, (fun x hx => by cases hx), hBr.grown hgY hBr.size (fun q hq => by injection hq with hq; have := gH.out; omega)⟩
  have hsi : ¬ (n : Int) < 27 + (L : Int) := by omega
  have hnF := Lib.hid (show 27 + L ≤ n by omega)
  by_cases hg : 27 + L < n
  · have hgi : 27 + (L : Int) < (n : Int) := by omega
    have hend := Lib.hid (show decM xs = (noMsg, 3) by rw [hdM, if_neg (by omega), if_pos (by omega)])
    clear hlr hln hxA hxB hxC hxD hxE hdM h1000 hs hg
    go_enter Try.func13, Try.ntmps13
    go_wp2_with ((with_reducible refine wpList_alloc_blk rfl 28 rfl hZz ?_); refine RowKit.Hid.out ?_)
    refine Lib.hid ?_
    clear hV
    go_wp2_with ((with_reducible refine build_row rfl 28 #[] rfl (cells := Z.toArray) ?_ ?_); (refine Eq.trans (congrArg _ ?_) hbt0; kernel_rfl); refine RowKit.Hid.out ?_)
    refine Lib.hid ?_
    refine wpList_alloc_blk rfl 28 rfl hZz ?_
    try simp only [Act.put, List.setIfInBounds_toArray, List.set_cons_zero, List.set_cons_succ]
    have hGA := hk.alloc (.cells Z.toArray 28)
    have hNA := Blk.new V 28 Z
    have hBA := hb.alloc hb.size (.cells Z.toArray 28)
    have hnG : G < V.heap.size := hk.lt
    obtain ⟨N0, hN⟩ : ∃ N, V.heap.size = N := ⟨_, rfl⟩
    rw [hN] at hNA hnG ⊢
    have nG0 := Lib.hid hnG
    obtain ⟨U, hU⟩ : ∃ W, V.alloc (.cells Z.toArray 28) = W := ⟨_, rfl⟩
    rw [hU] at hGA hNA hBA ⊢
    clear hk hb hN hU
    refine store_row rfl 28 (.tmp 4) (.tmp 10) rfl rfl rfl hNA rowMs hZl hZl hZ1 ?_
    intro w1 hz1 hg1
    have hG1 := hGA.grown hg1 (fun e => by injection e with e; omega)
    have hB1 := hBA.grown hg1 hBA.size (fun q hq => by injection hq with hq; have := gH.out; omega)
    clear hGA hNA hBA hg1 hnG
    have hI1 := hIH.out w1 hB1
    obtain ⟨bb, off, rfl, hcell⟩ := hI1.at hn1.out
    have cb := hcell 0 hn1.out
    rw [hx0.out, Nat.add_zero] at cb
    clear hI1 hcell
    go_wp2_with ((with_reducible refine build_row rfl 28 #[(0, .tmp 18)] rfl (cells := B.toArray) ?_ ?_); (refine Eq.trans (congrArg _ ?_) hbt; kernel_rfl); refine RowKit.Hid.out ?_)
    refine Lib.hid ?_
    refine wpList_alloc_blk rfl 28 rfl hZz ?_
    try simp only [Act.put, List.setIfInBounds_toArray, List.set_cons_zero, List.set_cons_succ]
    have hGA := hG1.alloc (.cells Z.toArray 28)
    have hzA := hz1.alloc (.cells Z.toArray 28)
    have hNA := Blk.new w1 28 Z
    have hBA := hB1.alloc hB1.size (.cells Z.toArray 28)
    have hn0 : N0 < w1.heap.size := hz1.lt
    obtain ⟨N, hN⟩ : ∃ N, w1.heap.size = N := ⟨_, rfl⟩
    rw [hN] at hNA hn0 ⊢
    have nGN := Lib.hid hn0
    obtain ⟨U1, hU⟩ : ∃ W, w1.alloc (.cells Z.toArray 28) = W := ⟨_, rfl⟩
    rw [hU] at hGA hzA hNA hBA ⊢
    clear hG1 hz1 hB1 hN hU cb
    refine store_row rfl 28 (.tmp 5) (.tmp 19) rfl rfl rfl hNA rowMs hBl hZl hB1' ?_
    intro w2 hN2 hg2
    have hG2 := hGA.grown hg2 (fun e => by injection e with e; have := nG0.out; omega)
    have hz2 := hzA.grown hg2 (fun e => by injection e with e; omega)
    have hB2 := hBA.grown hg2 hBA.size (fun q hq => by injection hq with hq; have := gH.out; have := nG0.out; omega)
    clear hGA hzA hNA hBA hg2 hn0
    have hG3 := hG2.alloc (.cells #[.int .i64 0, .int .i64 3, .int .i64 27, .int .i64 5, .int .i64 5] 3)
    have hz3 := hz2.alloc (.cells #[.int .i64 0, .int .i64 3, .int .i64 27, .int .i64 5, .int .i64 5] 3)
    have hN3 := hN2.alloc (.cells #[.int .i64 0, .int .i64 3, .int .i64 27, .int .i64 5, .int .i64 5] 3)
    have hM3 := Blk.new w2 3 [.int .i64 0, .int .i64 3, .int .i64 27, .int .i64 5, .int .i64 5]
    have hB3 := hB2.alloc hB2.size (.cells #[.int .i64 0, .int .i64 3, .int .i64 27, .int .i64 5, .int .i64 5] 3)
    have hnm : N < w2.heap.size := hN2.lt
    obtain ⟨M5, hM⟩ : ∃ N, w2.heap.size = N := ⟨_, rfl⟩
    obtain ⟨w3, hw3⟩ : ∃ W, w2.alloc (.cells #[.int .i64 0, .int .i64 3, .int .i64 27, .int .i64 5, .int .i64 5] 3) = W := ⟨_, rfl⟩
    rw [hw3] at hG3 hz3 hN3 hM3 hB3
    rw [hM] at hM3 hnm
    have nNM := Lib.hid hnm
    rw [← hBH.out] at hN3
    have c0 := ms0 hN3
    clear hG2 hz2 hN2 hB2 hnm
    have cs : w3.cell? ⟨M5, 2, none⟩ = some (.int .i64 27) := hM3.cell 2
    clear hM3
    have cv := (r14Value_any (cutAddr (some ⟨bb, off, none⟩) c 1) 4 (c - 1) ((xs.drop 1).take 4) w3 ((hIH.out w3 hB3).cut2 1 5 (by decide) (by have := hnL.out; omega)) (fun x hx => hrH.out x (List.mem_of_mem_drop (List.mem_of_mem_take hx))) (by decide))
    rw [hv] at cv
    have cvH := Lib.hid cv
    clear cv
    have hsl : ∀ wx : World, (Instr.sliceAt 26 (.slice (some ⟨bb, off, none⟩) n c) (some (.int .i64 1)) (some (.int .i64 5)) none).run Try.prog wx = .ok (.slice (cutAddr (some ⟨bb, off, none⟩) c 1) 4 (c - 1)) wx := sl_cut (n := n) (c := c) (some ⟨bb, off, none⟩) 1 5 (by decide) (by have := hnL.out; have := hcH.out; omega)
    obtain ⟨A4, hA4⟩ : ∃ A, cutAddr (some ⟨bb, off, none⟩) c 1 = A := ⟨_, rfl⟩
    rw [hA4] at cvH hsl
    clear hA4
    go_wp2_with fail
    refine cvH.out.mono ?_
    rintro r w4 ⟨rfl, hww⟩
    subst hww
    clear cvH hsl
    have d0 := ms1 hN3
    have f0 := hN3.frozen 1
    have hN5 : Blk (w3.setCell ⟨N, 1, none⟩ (.int .u32 v)) N 28 (msC 2 v 0 0 z16 none 0 0) := hN3.set 1 (.int .u32 v)
    have hG5 : Blk (w3.setCell ⟨N, 1, none⟩ (.int .u32 v)) G 28 Z := hG3.far (by show G ≠ N; have := nGN.out; have := nG0.out; omega) _
    have hz5 : Blk (w3.setCell ⟨N, 1, none⟩ (.int .u32 v)) N0 28 Z := hz3.far (by show N0 ≠ N; have := nGN.out; omega) _
    have hB5 : Below w.heap.size w (w3.setCell ⟨N, 1, none⟩ (.int .u32 v)) := hB3.setCell (p := ⟨N, 1, none⟩) (by show w.heap.size ≤ N; have := nGN.out; have := nG0.out; have := gH.out; omega) _
    obtain ⟨w5, hw5⟩ : ∃ W, w3.setCell ⟨N, 1, none⟩ (.int .u32 v) = W := ⟨_, rfl⟩
    rw [hw5] at hN5 hG5 hz5 hB5
    clear hN3 hG3 hz3 hB3
    have c0 := ms0 hN5
    have cv := (r14Value_any (cutAddr (some ⟨bb, off, none⟩) c 5) 4 (c - 5) ((xs.drop 5).take 4) w5 ((hIH.out w5 hB5).cut2 5 9 (by decide) (by have := hnL.out; omega)) (fun x hx => hrH.out x (List.mem_of_mem_drop (List.mem_of_mem_take hx))) (by decide))
    rw [hu] at cv
    have cvH := Lib.hid cv
    clear cv
    have hsl : ∀ wx : World, (Instr.sliceAt 26 (.slice (some ⟨bb, off, none⟩) n c) (some (.int .i64 5)) (some (.int .i64 9)) none).run Try.prog wx = .ok (.slice (cutAddr (some ⟨bb, off, none⟩) c 5) 4 (c - 5)) wx := sl_cut (n := n) (c := c) (some ⟨bb, off, none⟩) 5 9 (by decide) (by have := hnL.out; have := hcH.out; omega)
    obtain ⟨A6, hA6⟩ : ∃ A, cutAddr (some ⟨bb, off, none⟩) c 5 = A := ⟨_, rfl⟩
    rw [hA6] at cvH hsl
    clear hA6
    go_wp2_with fail
    refine cvH.out.mono ?_
    rintro r w6 ⟨rfl, hww⟩
    subst hww
    clear cvH hsl
    have d0 := ms2 hN5
    have f0 := hN5.frozen 2
    have hN7 : Blk (w5.setCell ⟨N, 2, none⟩ (.int .u32 u)) N 28 (msC 2 v u 0 z16 none 0 0) := hN5.set 2 (.int .u32 u)
    have hG7 : Blk (w5.setCell ⟨N, 2, none⟩ (.int .u32 u)) G 28 Z := hG5.far (by show G ≠ N; have := nGN.out; have := nG0.out; omega) _
    have hz7 : Blk (w5.setCell ⟨N, 2, none⟩ (.int .u32 u)) N0 28 Z := hz5.far (by show N0 ≠ N; have := nGN.out; omega) _
    have hB7 : Below w.heap.size w (w5.setCell ⟨N, 2, none⟩ (.int .u32 u)) := hB5.setCell (p := ⟨N, 2, none⟩) (by show w.heap.size ≤ N; have := nGN.out; have := nG0.out; have := gH.out; omega) _
    obtain ⟨w7, hw7⟩ : ∃ W, w5.setCell ⟨N, 2, none⟩ (.int .u32 u) = W := ⟨_, rfl⟩
    rw [hw7] at hN7 hG7 hz7 hB7
    clear hN5 hG5 hz5 hB5
    have hI7 := hIH.out w7 hB7
    obtain ⟨bb', off', hae, hcl⟩ := hI7.at hn1.out
    injection hae with hae
    injection hae with e1 e2 _
    subst e1; subst e2
    have hcl7 := Lib.hid (fun i (h : i < n) wr (hb : Below w.heap.size w wr) => ((hIH.out wr hb).at hn1.out))
    clear hI7 hcl
    go_wp2_with fail
    go_loopw [8] (fun i wr => ∃ j : Nat, j ≤ 16 ∧ i = .int .i64 j ∧ Blk wr N 28 (msC 2 v u 0 (hj xs j) none 0 0) ∧ Blk wr G 28 Z ∧ Blk wr N0 28 Z ∧ Below w.heap.size w wr) (fun i _ => 16 - (intOf i).toNat)
    case atStart => exact ⟨0, Nat.zero_le _, rfl, hN7, hG7, hz7, hB7⟩
    case round =>
      clear hN7 hG7 hz7 hB7
      obtain ⟨j, hjl, rfl, hNr, hGr, hzr, hBr⟩ := hrel
      by_cases hlt : j < 16
      · have hji : (j : Int) < 16 := by omega
        have hj9 : (9 : Int) + (j : Int) < (n : Int) := by have := hnL.out; omega
        obtain ⟨bb', off', hae, hcl⟩ := hcl7.out 0 hn1.out wr hBr
        injection hae with hae
        injection hae with e1 e2 _
        subst e1; subst e2
        have cb := hcl (9 + j) (by have := hnL.out; omega)
        obtain ⟨x, hx⟩ : ∃ x, xs.getD (9 + j) 0 = x := ⟨_, rfl⟩
        rw [hx] at cb
        have hst := hj_step (xs := xs) (by rw [hlnH.out]; have := hnL.out; omega) hlt
        rw [hx] at hst
        have hjl16 := hj_len (xs := xs) (by rw [hlnH.out]; have := hnL.out; omega) j hjl
        have d0 := (ms4 hNr hjl16) j (.int .u8 0) (by rw [List.getElem?_map, hj_at (xs := xs) (by rw [hlnH.out]; have := hnL.out; omega) hlt]; rfl)
        have f0 := hNr.frozen (4 + j)
        have hNs : Blk (wr.setCell ⟨N, 4 + j, none⟩ (.int .u8 x)) N 28 (msC 2 v u 0 (hj xs (j + 1)) none 0 0) := by
          have h := hNr.set (4 + j) (.int .u8 x)
          rw [msC_sethint hjl16 hlt, ← hst] at h
          exact h
        have hGs : Blk (wr.setCell ⟨N, 4 + j, none⟩ (.int .u8 x)) G 28 Z := hGr.far (by show G ≠ N; have := nGN.out; have := nG0.out; omega) _
        have hzs : Blk (wr.setCell ⟨N, 4 + j, none⟩ (.int .u8 x)) N0 28 Z := hzr.far (by show N0 ≠ N; have := nGN.out; omega) _
        have hBs : Below w.heap.size w (wr.setCell ⟨N, 4 + j, none⟩ (.int .u8 x)) := hBr.setCell (p := ⟨N, 4 + j, none⟩) (by show w.heap.size ≤ N; have := nGN.out; have := nG0.out; have := gH.out; omega) _
        have hltH := Lib.hid hlt
        clear hlt hjl hNr hGr hzr hBr hcl hx hst hjl16
        go_wp2
        exact ⟨⟨j + 1, by have := hltH.out; omega, by congr 1, hNs, hGs, hzs, hBs⟩, by simp only [intOf]; have := hltH.out; omega⟩
      · obtain rfl : j = 16 := by omega
        have hji : ¬ ((16 : Nat) : Int) < 16 := by omega
        rw [hj_all (xs := xs)] at hNr
        clear hlt hjl hcl7
        obtain ⟨w8, hw8⟩ : ∃ W, wr = W := ⟨_, rfl⟩
        subst hw8
        rw [hHH] at hNr
        have cv := (r14Value_any (cutAddr (some ⟨bb, off, none⟩) c 25) 2 (c - 25) ((xs.drop 25).take 2) wr ((hIH.out wr hBr).cut2 25 27 (by decide) (by have := hnL.out; omega)) (fun x hx => hrH.out x (List.mem_of_mem_drop (List.mem_of_mem_take hx))) (by decide))
        rw [hL] at cv
        have cvH := Lib.hid cv
        clear cv
        have hsl : ∀ wx : World, (Instr.sliceAt 26 (.slice (some ⟨bb, off, none⟩) n c) (some (.int .i64 25)) (some (.int .i64 27)) none).run Try.prog wx = .ok (.slice (cutAddr (some ⟨bb, off, none⟩) c 25) 2 (c - 25)) wx := sl_cut (n := n) (c := c) (some ⟨bb, off, none⟩) 25 27 (by decide) (by have := hnL.out; have := hcH.out; omega)
        obtain ⟨A9, hA9⟩ : ∃ A, cutAddr (some ⟨bb, off, none⟩) c 25 = A := ⟨_, rfl⟩
        rw [hA9] at cvH hsl
        clear hA9
        go_wp2_with fail
        refine cvH.out.mono ?_
        rintro r w9 ⟨rfl, hww⟩
        subst hww
        clear cvH hsl
        have hIr := hIH.out wr hBr
        have hIc := hIr.cut2 27 (27 + L) (by omega) (by have := hnF.out; omega)
        rw [show 27 + L - 27 = L by omega] at hIc
        have hsl : ∀ wx : World, (Instr.sliceAt 26 (.slice (some ⟨bb, off, none⟩) n c) (some (.int .i64 27)) (some (.int .i64 (27 + (L : Int)))) none).run Try.prog wx = .ok (.slice (cutAddr (some ⟨bb, off, none⟩) c 27) L (c - 27)) wx := fun wx => by
          have h := sl_cut (n := n) (c := c) (some ⟨bb, off, none⟩) 27 (27 + L) (by omega) (by have := hnF.out; have := hcH.out; omega) wx
          rw [show 27 + L - 27 = L by omega, show ((27 + L : Nat) : Int) = 27 + (L : Int) by omega] at h
          exact h
        obtain ⟨A9, hA9⟩ : ∃ A, cutAddr (some ⟨bb, off, none⟩) c 27 = A := ⟨_, rfl⟩
        rw [hA9] at hIc hsl
        have bE := below1 wr (.cells #[] 5)
        have hNE := hNr.keep bE hNr.lt
        have hGE := hGr.keep bE hGr.lt
        have hzE := hzr.keep bE hzr.lt
        have hBE := hBr.trans (bE.mono hBr.size)
        have hIE := Lib.hid (hIc.keep bE)
        have ownE := World.ownsRow_made (e := 5) (size := 1) wr #[] 0 (Nat.le_refl _) (Nat.zero_le _) rfl
        have hEs : wr.heap.size ≤ (wr.alloc (.cells #[] 5)).heap.size := by rw [size1]; omega
        have hNs := Lib.hid hNr.lt
        obtain ⟨R0, hR0⟩ : ∃ N, wr.heap.size = N := ⟨_, rfl⟩
        obtain ⟨wE, hwE⟩ : ∃ W, wr.alloc (.cells #[] 5) = W := ⟨_, rfl⟩
        rw [hwE] at hNE hGE hzE hBE hIE ownE hEs
        rw [hR0] at ownE hEs hNs
        clear hIr hIc hA9 bE hNr hGr hzr hBr
        go_wp2_with (at_builtin; refine wpList_append_ints rfl (.tmp 84) (.tmp 90) 26 rfl R0 5 i0 (.int .u8 0) 1 Try.underlying26 hi hz0 hz1 hz2 rfl rfl ownE rfl hIE.out ?_ ?_ hEs ?_; (have := hL1.out; unfold maxLen; omega); (have := hL1.out; omega); intro vB wB hOB hgB; refine RowKit.Hid.out ?_)
        refine Lib.hid ?_
        rw [List.nil_append, Nat.zero_add] at hOB
        have hslB : ∃ b d, vB = .slice b L d := own_slice32 hOB
        obtain ⟨b, d, hvB⟩ := hslB
        rw [hvB] at hOB ⊢
        have nb : ∀ k, k < R0 → some k ≠ (Value.slice (some ⟨R0, 0, none⟩) 0 0).ownBlock := fun k hk e => by injection e with e; have e : k = R0 := e; omega
        have hNB := hNE.grown hgB (nb N hNs.out)
        have hGB := hGE.grown hgB (nb G (by have := hNs.out; have := nGN.out; have := nG0.out; omega))
        have hzB := hzE.grown hgB (nb N0 (by have := hNs.out; have := nGN.out; omega))
        have hBB := hBE.grown hgB hBE.size (fun q hq => by injection hq with hq; have hq : R0 = q := hq; have := hNs.out; have := nGN.out; have := nG0.out; have := gH.out; omega)
        clear hNE hGE hzE hBE hIE hgB hvB hsl ownE hEs
        have d0 := ms5 hNB hHl
        have f0 := hNB.frozen 20
        have hN9 : Blk (wB.setCell ⟨N, 20, none⟩ (.slice b L d)) N 28 (msC 2 v u 0 HH b L d) := by
          have h := hNB.set 20 (.slice b L d)
          rw [msC_set hHl] at h
          exact h
        have hG9 : Blk (wB.setCell ⟨N, 20, none⟩ (.slice b L d)) G 28 Z := hGB.far (by show G ≠ N; have := nGN.out; have := nG0.out; omega) _
        have hz9 : Blk (wB.setCell ⟨N, 20, none⟩ (.slice b L d)) N0 28 Z := hzB.far (by show N0 ≠ N; have := nGN.out; omega) _
        have hB9 : Below w.heap.size w (wB.setCell ⟨N, 20, none⟩ (.slice b L d)) := hBB.setCell (p := ⟨N, 20, none⟩) (by show w.heap.size ≤ N; have := nGN.out; have := nG0.out; have := gH.out; omega) _
        have hO9 : (wB.setCell ⟨N, 20, none⟩ (.slice b L d)).ownsRow R0 5 1 (.slice b L d) L (((xs.drop 27).take L).map (Value.int .u8)) := own_far9 hOB (grown_setCell wB N 20 _) hNs.out
        obtain ⟨w9, hw9⟩ : ∃ W, wB.setCell ⟨N, 20, none⟩ (.slice b L d) = W := ⟨_, rfl⟩
        rw [hw9] at hN9 hG9 hz9 hB9 hO9
        clear hNB hGB hzB hBB hOB
        go_wp2_with ((with_reducible refine wpList_load_blk rfl 28 (.tmp 4) rfl ?_ hz9 rowMs hZl ?_); rfl; refine RowKit.Hid.out ?_)
        refine Lib.hid ?_
        try simp only [Act.put, List.setIfInBounds_toArray, List.set_cons_zero, List.set_cons_succ]
        refine store_row rfl 28 (.tmp 2) (.tmp 100) rfl rfl rfl hG9 rowMs hZl hZl hZ1 ?_
        intro wY hGY hgY
        have hrZ : IsRow Try.prog 28 Z.length := by rw [hZl]; exact rowMs
        go_wp2_with fail
        refine bodyPost_ret (results_blk_tmp rfl rfl hGY hrZ) rfl ?_
        rw [hend.out]
        exact ⟨none, 0, by rw [← hZH.out]; rfl, ⟨rfl, Nat.le_refl _, .inl rfl⟩, (fun x hx => by cases hx), hB9.grown hgY hB9.size (fun q hq => by injection hq with hq; have := gH.out; omega)⟩
  have hgi : ¬ 27 + (L : Int) < (n : Int) := by omega
  have hend := Lib.hid (show decM xs = (⟨2, v, u, 0, HH, (xs.drop 27).take L⟩, 0) by rw [hdM, if_neg (by omega), if_neg (by omega), ← hv, ← hu, ← hHH, hxA, hxB, hxC, hxE, List.take_of_length_le (l := r.drop 26) (by rw [List.length_drop]; omega)])
  have hbl := Lib.hid (show ((xs.drop 27).take L).length = L by rw [List.length_take, List.length_drop, hlnH.out]; omega)
  have hl2 : ∀ b d, (msC 2 v u 0 HH b L d).length = 21 := fun b d => msC_len hHl
  clear hlr hln hxA hxB hxC hxD hxE hdM h1000 hs hg
  go_enter Try.func13, Try.ntmps13
  go_wp2_with ((with_reducible refine wpList_alloc_blk rfl 28 rfl hZz ?_); refine RowKit.Hid.out ?_)
  refine Lib.hid ?_
  clear hV
  go_wp2_with ((with_reducible refine build_row rfl 28 #[] rfl (cells := Z.toArray) ?_ ?_); (refine Eq.trans (congrArg _ ?_) hbt0; kernel_rfl); refine RowKit.Hid.out ?_)
  refine Lib.hid ?_
  refine wpList_alloc_blk rfl 28 rfl hZz ?_
  try simp only [Act.put, List.setIfInBounds_toArray, List.set_cons_zero, List.set_cons_succ]
  have hGA := hk.alloc (.cells Z.toArray 28)
  have hNA := Blk.new V 28 Z
  have hBA := hb.alloc hb.size (.cells Z.toArray 28)
  have hnG : G < V.heap.size := hk.lt
  obtain ⟨N0, hN⟩ : ∃ N, V.heap.size = N := ⟨_, rfl⟩
  rw [hN] at hNA hnG ⊢
  have nG0 := Lib.hid hnG
  obtain ⟨U, hU⟩ : ∃ W, V.alloc (.cells Z.toArray 28) = W := ⟨_, rfl⟩
  rw [hU] at hGA hNA hBA ⊢
  clear hk hb hN hU
  refine store_row rfl 28 (.tmp 4) (.tmp 10) rfl rfl rfl hNA rowMs hZl hZl hZ1 ?_
  intro w1 hz1 hg1
  have hG1 := hGA.grown hg1 (fun e => by injection e with e; omega)
  have hB1 := hBA.grown hg1 hBA.size (fun q hq => by injection hq with hq; have := gH.out; omega)
  clear hGA hNA hBA hg1 hnG
  have hI1 := hIH.out w1 hB1
  obtain ⟨bb, off, rfl, hcell⟩ := hI1.at hn1.out
  have cb := hcell 0 hn1.out
  rw [hx0.out, Nat.add_zero] at cb
  clear hI1 hcell
  go_wp2_with ((with_reducible refine build_row rfl 28 #[(0, .tmp 18)] rfl (cells := B.toArray) ?_ ?_); (refine Eq.trans (congrArg _ ?_) hbt; kernel_rfl); refine RowKit.Hid.out ?_)
  refine Lib.hid ?_
  refine wpList_alloc_blk rfl 28 rfl hZz ?_
  try simp only [Act.put, List.setIfInBounds_toArray, List.set_cons_zero, List.set_cons_succ]
  have hGA := hG1.alloc (.cells Z.toArray 28)
  have hzA := hz1.alloc (.cells Z.toArray 28)
  have hNA := Blk.new w1 28 Z
  have hBA := hB1.alloc hB1.size (.cells Z.toArray 28)
  have hn0 : N0 < w1.heap.size := hz1.lt
  obtain ⟨N, hN⟩ : ∃ N, w1.heap.size = N := ⟨_, rfl⟩
  rw [hN] at hNA hn0 ⊢
  have nGN := Lib.hid hn0
  obtain ⟨U1, hU⟩ : ∃ W, w1.alloc (.cells Z.toArray 28) = W := ⟨_, rfl⟩
  rw [hU] at hGA hzA hNA hBA ⊢
  clear hG1 hz1 hB1 hN hU cb
  refine store_row rfl 28 (.tmp 5) (.tmp 19) rfl rfl rfl hNA rowMs hBl hZl hB1' ?_
  intro w2 hN2 hg2
  have hG2 := hGA.grown hg2 (fun e => by injection e with e; have := nG0.out; omega)
  have hz2 := hzA.grown hg2 (fun e => by injection e with e; omega)
  have hB2 := hBA.grown hg2 hBA.size (fun q hq => by injection hq with hq; have := gH.out; have := nG0.out; omega)
  clear hGA hzA hNA hBA hg2 hn0
  have hG3 := hG2.alloc (.cells #[.int .i64 0, .int .i64 3, .int .i64 27, .int .i64 5, .int .i64 5] 3)
  have hz3 := hz2.alloc (.cells #[.int .i64 0, .int .i64 3, .int .i64 27, .int .i64 5, .int .i64 5] 3)
  have hN3 := hN2.alloc (.cells #[.int .i64 0, .int .i64 3, .int .i64 27, .int .i64 5, .int .i64 5] 3)
  have hM3 := Blk.new w2 3 [.int .i64 0, .int .i64 3, .int .i64 27, .int .i64 5, .int .i64 5]
  have hB3 := hB2.alloc hB2.size (.cells #[.int .i64 0, .int .i64 3, .int .i64 27, .int .i64 5, .int .i64 5] 3)
  have hnm : N < w2.heap.size := hN2.lt
  obtain ⟨M5, hM⟩ : ∃ N, w2.heap.size = N := ⟨_, rfl⟩
  obtain ⟨w3, hw3⟩ : ∃ W, w2.alloc (.cells #[.int .i64 0, .int .i64 3, .int .i64 27, .int .i64 5, .int .i64 5] 3) = W := ⟨_, rfl⟩
  rw [hw3] at hG3 hz3 hN3 hM3 hB3
  rw [hM] at hM3 hnm
  have nNM := Lib.hid hnm
  rw [← hBH.out] at hN3
  have c0 := ms0 hN3
  clear hG2 hz2 hN2 hB2 hnm
  have cs : w3.cell? ⟨M5, 2, none⟩ = some (.int .i64 27) := hM3.cell 2
  clear hM3
  have cv := (r14Value_any (cutAddr (some ⟨bb, off, none⟩) c 1) 4 (c - 1) ((xs.drop 1).take 4) w3 ((hIH.out w3 hB3).cut2 1 5 (by decide) (by have := hnL.out; omega)) (fun x hx => hrH.out x (List.mem_of_mem_drop (List.mem_of_mem_take hx))) (by decide))
  rw [hv] at cv
  have cvH := Lib.hid cv
  clear cv
  have hsl : ∀ wx : World, (Instr.sliceAt 26 (.slice (some ⟨bb, off, none⟩) n c) (some (.int .i64 1)) (some (.int .i64 5)) none).run Try.prog wx = .ok (.slice (cutAddr (some ⟨bb, off, none⟩) c 1) 4 (c - 1)) wx := sl_cut (n := n) (c := c) (some ⟨bb, off, none⟩) 1 5 (by decide) (by have := hnL.out; have := hcH.out; omega)
  obtain ⟨A4, hA4⟩ : ∃ A, cutAddr (some ⟨bb, off, none⟩) c 1 = A := ⟨_, rfl⟩
  rw [hA4] at cvH hsl
  clear hA4
  go_wp2_with fail
  refine cvH.out.mono ?_
  rintro r w4 ⟨rfl, hww⟩
  subst hww
  clear cvH hsl
  have d0 := ms1 hN3
  have f0 := hN3.frozen 1
  have hN5 : Blk (w3.setCell ⟨N, 1, none⟩ (.int .u32 v)) N 28 (msC 2 v 0 0 z16 none 0 0) := hN3.set 1 (.int .u32 v)
  have hG5 : Blk (w3.setCell ⟨N, 1, none⟩ (.int .u32 v)) G 28 Z := hG3.far (by show G ≠ N; have := nGN.out; have := nG0.out; omega) _
  have hz5 : Blk (w3.setCell ⟨N, 1, none⟩ (.int .u32 v)) N0 28 Z := hz3.far (by show N0 ≠ N; have := nGN.out; omega) _
  have hB5 : Below w.heap.size w (w3.setCell ⟨N, 1, none⟩ (.int .u32 v)) := hB3.setCell (p := ⟨N, 1, none⟩) (by show w.heap.size ≤ N; have := nGN.out; have := nG0.out; have := gH.out; omega) _
  obtain ⟨w5, hw5⟩ : ∃ W, w3.setCell ⟨N, 1, none⟩ (.int .u32 v) = W := ⟨_, rfl⟩
  rw [hw5] at hN5 hG5 hz5 hB5
  clear hN3 hG3 hz3 hB3
  have c0 := ms0 hN5
  have cv := (r14Value_any (cutAddr (some ⟨bb, off, none⟩) c 5) 4 (c - 5) ((xs.drop 5).take 4) w5 ((hIH.out w5 hB5).cut2 5 9 (by decide) (by have := hnL.out; omega)) (fun x hx => hrH.out x (List.mem_of_mem_drop (List.mem_of_mem_take hx))) (by decide))
  rw [hu] at cv
  have cvH := Lib.hid cv
  clear cv
  have hsl : ∀ wx : World, (Instr.sliceAt 26 (.slice (some ⟨bb, off, none⟩) n c) (some (.int .i64 5)) (some (.int .i64 9)) none).run Try.prog wx = .ok (.slice (cutAddr (some ⟨bb, off, none⟩) c 5) 4 (c - 5)) wx := sl_cut (n := n) (c := c) (some ⟨bb, off, none⟩) 5 9 (by decide) (by have := hnL.out; have := hcH.out; omega)
  obtain ⟨A6, hA6⟩ : ∃ A, cutAddr (some ⟨bb, off, none⟩) c 5 = A := ⟨_, rfl⟩
  rw [hA6] at cvH hsl
  clear hA6
  go_wp2_with fail
  refine cvH.out.mono ?_
  rintro r w6 ⟨rfl, hww⟩
  subst hww
  clear cvH hsl
  have d0 := ms2 hN5
  have f0 := hN5.frozen 2
  have hN7 : Blk (w5.setCell ⟨N, 2, none⟩ (.int .u32 u)) N 28 (msC 2 v u 0 z16 none 0 0) := hN5.set 2 (.int .u32 u)
  have hG7 : Blk (w5.setCell ⟨N, 2, none⟩ (.int .u32 u)) G 28 Z := hG5.far (by show G ≠ N; have := nGN.out; have := nG0.out; omega) _
  have hz7 : Blk (w5.setCell ⟨N, 2, none⟩ (.int .u32 u)) N0 28 Z := hz5.far (by show N0 ≠ N; have := nGN.out; omega) _
  have hB7 : Below w.heap.size w (w5.setCell ⟨N, 2, none⟩ (.int .u32 u)) := hB5.setCell (p := ⟨N, 2, none⟩) (by show w.heap.size ≤ N; have := nGN.out; have := nG0.out; have := gH.out; omega) _
  obtain ⟨w7, hw7⟩ : ∃ W, w5.setCell ⟨N, 2, none⟩ (.int .u32 u) = W := ⟨_, rfl⟩
  rw [hw7] at hN7 hG7 hz7 hB7
  clear hN5 hG5 hz5 hB5
  have hI7 := hIH.out w7 hB7
  obtain ⟨bb', off', hae, hcl⟩ := hI7.at hn1.out
  injection hae with hae
  injection hae with e1 e2 _
  subst e1; subst e2
  have hcl7 := Lib.hid (fun i (h : i < n) wr (hb : Below w.heap.size w wr) => ((hIH.out wr hb).at hn1.out))
  clear hI7 hcl
  go_wp2_with fail
  go_loopw [8] (fun i wr => ∃ j : Nat, j ≤ 16 ∧ i = .int .i64 j ∧ Blk wr N 28 (msC 2 v u 0 (hj xs j) none 0 0) ∧ Blk wr G 28 Z ∧ Blk wr N0 28 Z ∧ Below w.heap.size w wr) (fun i _ => 16 - (intOf i).toNat)
  case atStart => exact ⟨0, Nat.zero_le _, rfl, hN7, hG7, hz7, hB7⟩
  case round =>
    clear hN7 hG7 hz7 hB7
    obtain ⟨j, hjl, rfl, hNr, hGr, hzr, hBr⟩ := hrel
    by_cases hlt : j < 16
    · have hji : (j : Int) < 16 := by omega
      have hj9 : (9 : Int) + (j : Int) < (n : Int) := by have := hnL.out; omega
      obtain ⟨bb', off', hae, hcl⟩ := hcl7.out 0 hn1.out wr hBr
      injection hae with hae
      injection hae with e1 e2 _
      subst e1; subst e2
      have cb := hcl (9 + j) (by have := hnL.out; omega)
      obtain ⟨x, hx⟩ : ∃ x, xs.getD (9 + j) 0 = x := ⟨_, rfl⟩
      rw [hx] at cb
      have hst := hj_step (xs := xs) (by rw [hlnH.out]; have := hnL.out; omega) hlt
      rw [hx] at hst
      have hjl16 := hj_len (xs := xs) (by rw [hlnH.out]; have := hnL.out; omega) j hjl
      have d0 := (ms4 hNr hjl16) j (.int .u8 0) (by rw [List.getElem?_map, hj_at (xs := xs) (by rw [hlnH.out]; have := hnL.out; omega) hlt]; rfl)
      have f0 := hNr.frozen (4 + j)
      have hNs : Blk (wr.setCell ⟨N, 4 + j, none⟩ (.int .u8 x)) N 28 (msC 2 v u 0 (hj xs (j + 1)) none 0 0) := by
        have h := hNr.set (4 + j) (.int .u8 x)
        rw [msC_sethint hjl16 hlt, ← hst] at h
        exact h
      have hGs : Blk (wr.setCell ⟨N, 4 + j, none⟩ (.int .u8 x)) G 28 Z := hGr.far (by show G ≠ N; have := nGN.out; have := nG0.out; omega) _
      have hzs : Blk (wr.setCell ⟨N, 4 + j, none⟩ (.int .u8 x)) N0 28 Z := hzr.far (by show N0 ≠ N; have := nGN.out; omega) _
      have hBs : Below w.heap.size w (wr.setCell ⟨N, 4 + j, none⟩ (.int .u8 x)) := hBr.setCell (p := ⟨N, 4 + j, none⟩) (by show w.heap.size ≤ N; have := nGN.out; have := nG0.out; have := gH.out; omega) _
      have hltH := Lib.hid hlt
      clear hlt hjl hNr hGr hzr hBr hcl hx hst hjl16
      go_wp2
      exact ⟨⟨j + 1, by have := hltH.out; omega, by congr 1, hNs, hGs, hzs, hBs⟩, by simp only [intOf]; have := hltH.out; omega⟩
    · obtain rfl : j = 16 := by omega
      have hji : ¬ ((16 : Nat) : Int) < 16 := by omega
      rw [hj_all (xs := xs)] at hNr
      clear hlt hjl hcl7
      obtain ⟨w8, hw8⟩ : ∃ W, wr = W := ⟨_, rfl⟩
      subst hw8
      rw [hHH] at hNr
      have cv := (r14Value_any (cutAddr (some ⟨bb, off, none⟩) c 25) 2 (c - 25) ((xs.drop 25).take 2) wr ((hIH.out wr hBr).cut2 25 27 (by decide) (by have := hnL.out; omega)) (fun x hx => hrH.out x (List.mem_of_mem_drop (List.mem_of_mem_take hx))) (by decide))
      rw [hL] at cv
      have cvH := Lib.hid cv
      clear cv
      have hsl : ∀ wx : World, (Instr.sliceAt 26 (.slice (some ⟨bb, off, none⟩) n c) (some (.int .i64 25)) (some (.int .i64 27)) none).run Try.prog wx = .ok (.slice (cutAddr (some ⟨bb, off, none⟩) c 25) 2 (c - 25)) wx := sl_cut (n := n) (c := c) (some ⟨bb, off, none⟩) 25 27 (by decide) (by have := hnL.out; have := hcH.out; omega)
      obtain ⟨A9, hA9⟩ : ∃ A, cutAddr (some ⟨bb, off, none⟩) c 25 = A := ⟨_, rfl⟩
      rw [hA9] at cvH hsl
      clear hA9
      go_wp2_with fail
      refine cvH.out.mono ?_
      rintro r w9 ⟨rfl, hww⟩
      subst hww
      clear cvH hsl
      have hIr := hIH.out wr hBr
      have hIc := hIr.cut2 27 (27 + L) (by omega) (by have := hnF.out; omega)
      rw [show 27 + L - 27 = L by omega] at hIc
      have hsl : ∀ wx : World, (Instr.sliceAt 26 (.slice (some ⟨bb, off, none⟩) n c) (some (.int .i64 27)) (some (.int .i64 (27 + (L : Int)))) none).run Try.prog wx = .ok (.slice (cutAddr (some ⟨bb, off, none⟩) c 27) L (c - 27)) wx := fun wx => by
        have h := sl_cut (n := n) (c := c) (some ⟨bb, off, none⟩) 27 (27 + L) (by omega) (by have := hnF.out; have := hcH.out; omega) wx
        rw [show 27 + L - 27 = L by omega, show ((27 + L : Nat) : Int) = 27 + (L : Int) by omega] at h
        exact h
      obtain ⟨A9, hA9⟩ : ∃ A, cutAddr (some ⟨bb, off, none⟩) c 27 = A := ⟨_, rfl⟩
      rw [hA9] at hIc hsl
      have bE := below1 wr (.cells #[] 5)
      have hNE := hNr.keep bE hNr.lt
      have hGE := hGr.keep bE hGr.lt
      have hzE := hzr.keep bE hzr.lt
      have hBE := hBr.trans (bE.mono hBr.size)
      have hIE := Lib.hid (hIc.keep bE)
      have ownE := World.ownsRow_made (e := 5) (size := 1) wr #[] 0 (Nat.le_refl _) (Nat.zero_le _) rfl
      have hEs : wr.heap.size ≤ (wr.alloc (.cells #[] 5)).heap.size := by rw [size1]; omega
      have hNs := Lib.hid hNr.lt
      obtain ⟨R0, hR0⟩ : ∃ N, wr.heap.size = N := ⟨_, rfl⟩
      obtain ⟨wE, hwE⟩ : ∃ W, wr.alloc (.cells #[] 5) = W := ⟨_, rfl⟩
      rw [hwE] at hNE hGE hzE hBE hIE ownE hEs
      rw [hR0] at ownE hEs hNs
      clear hIr hIc hA9 bE hNr hGr hzr hBr
      go_wp2_with (at_builtin; refine wpList_append_ints rfl (.tmp 84) (.tmp 90) 26 rfl R0 5 i0 (.int .u8 0) 1 Try.underlying26 hi hz0 hz1 hz2 rfl rfl ownE rfl hIE.out ?_ ?_ hEs ?_; (have := hL1.out; unfold maxLen; omega); (have := hL1.out; omega); intro vB wB hOB hgB; refine RowKit.Hid.out ?_)
      refine Lib.hid ?_
      rw [List.nil_append, Nat.zero_add] at hOB
      have hslB : ∃ b d, vB = .slice b L d := own_slice32 hOB
      obtain ⟨b, d, hvB⟩ := hslB
      rw [hvB] at hOB ⊢
      have nb : ∀ k, k < R0 → some k ≠ (Value.slice (some ⟨R0, 0, none⟩) 0 0).ownBlock := fun k hk e => by injection e with e; have e : k = R0 := e; omega
      have hNB := hNE.grown hgB (nb N hNs.out)
      have hGB := hGE.grown hgB (nb G (by have := hNs.out; have := nGN.out; have := nG0.out; omega))
      have hzB := hzE.grown hgB (nb N0 (by have := hNs.out; have := nGN.out; omega))
      have hBB := hBE.grown hgB hBE.size (fun q hq => by injection hq with hq; have hq : R0 = q := hq; have := hNs.out; have := nGN.out; have := nG0.out; have := gH.out; omega)
      clear hNE hGE hzE hBE hIE hgB hvB hsl ownE hEs
      have d0 := ms5 hNB hHl
      have f0 := hNB.frozen 20
      have hN9 : Blk (wB.setCell ⟨N, 20, none⟩ (.slice b L d)) N 28 (msC 2 v u 0 HH b L d) := by
        have h := hNB.set 20 (.slice b L d)
        rw [msC_set hHl] at h
        exact h
      have hG9 : Blk (wB.setCell ⟨N, 20, none⟩ (.slice b L d)) G 28 Z := hGB.far (by show G ≠ N; have := nGN.out; have := nG0.out; omega) _
      have hz9 : Blk (wB.setCell ⟨N, 20, none⟩ (.slice b L d)) N0 28 Z := hzB.far (by show N0 ≠ N; have := nGN.out; omega) _
      have hB9 : Below w.heap.size w (wB.setCell ⟨N, 20, none⟩ (.slice b L d)) := hBB.setCell (p := ⟨N, 20, none⟩) (by show w.heap.size ≤ N; have := nGN.out; have := nG0.out; have := gH.out; omega) _
      have hO9 : (wB.setCell ⟨N, 20, none⟩ (.slice b L d)).ownsRow R0 5 1 (.slice b L d) L (((xs.drop 27).take L).map (Value.int .u8)) := own_far9 hOB (grown_setCell wB N 20 _) hNs.out
      obtain ⟨w9, hw9⟩ : ∃ W, wB.setCell ⟨N, 20, none⟩ (.slice b L d) = W := ⟨_, rfl⟩
      rw [hw9] at hN9 hG9 hz9 hB9 hO9
      clear hNB hGB hzB hBB hOB
      have hl2 := hl2 b d
      go_wp2_with ((with_reducible refine wpList_load_blk rfl 28 (.tmp 5) rfl ?_ hN9 rowMs hl2 ?_); rfl; refine RowKit.Hid.out ?_)
      refine Lib.hid ?_
      try simp only [Act.put, List.setIfInBounds_toArray, List.set_cons_zero, List.set_cons_succ]
      refine store_row rfl 28 (.tmp 2) (.tmp 101) rfl rfl rfl hG9 rowMs hl2 hZl (msC_one _ _ _ _ _ _ _ _) ?_
      intro wY hGY hgY
      have hrZ : IsRow Try.prog 28 (msC 2 v u 0 HH b L d).length := by rw [hl2]; exact rowMs
      go_wp2_with fail
      refine bodyPost_ret (results_blk_tmp rfl rfl hGY hrZ) rfl ?_
      rw [hend.out]
      have hoY := own_far9 hO9 hgY (by have := hNs.out; have := nGN.out; have := nG0.out; omega)
      obtain ⟨b', d', hv', hJ⟩ := Ints.of_owns hoY
      injection hv' with e1 _ e2
      subst e1; subst e2
      dsimp only
      rw [hbl.out]
      exact ⟨b, d, by unfold mC; dsimp only; rw [hbl.out]; rfl, hJ, (fun x hx => Nat.le_trans (by have := hNs.out; have := nGN.out; have := nG0.out; have := gH.out; omega) (own_block hoY hx)), hB9.grown hgY hB9.size (fun q hq => by injection hq with hq; have := gH.out; omega)⟩

theorem r14Decode_any (a : Option Addr) (n c : Nat) (xs : List Int) (w : World) (hI : Ints .u8 w a n c xs) (hr : ∀ x ∈ xs, 0 ≤ x ∧ x < 256) (hn : n ≤ 1000000) : Calls Try.prog 13 #[.slice a n c] w (DecEnd xs w) := by
  match xs, hI, hr with
  | [], hI, hr => exact r14Decode_nil a n c [] w hI hr hn rfl
  | k :: r, hI, hr =>
    by_cases h1 : k = 1
    · subst h1; exact r14Decode_open a n c _ w hI hr hn ⟨r, rfl⟩
    by_cases h2 : k = 2
    · subst h2; exact r14Decode_upload a n c _ w hI hr hn ⟨r, rfl⟩
    by_cases h3 : k = 3
    · subst h3; exact r14Decode_ask a n c _ w hI hr hn ⟨r, rfl⟩
    by_cases h4 : k = 4
    · subst h4; exact r14Decode_close a n c _ w hI hr hn ⟨r, rfl⟩
    · exact r14Decode_other a n c _ w hI hr hn k ⟨r, rfl⟩ (by omega)
end Go.Proofs.Ytgaelgpmmgjldaa
