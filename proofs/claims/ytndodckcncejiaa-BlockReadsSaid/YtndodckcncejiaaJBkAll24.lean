/-
  Texts of stages that were proved on their own, joined: BkLawA2, BkLw. Each begins with its own words.
-/
import Derived.Test.YtndodckcncejiaaJBkAll23

/-
  The law BlockAsks, where the blocks are not too long, by what the program's blocks and the document's own come to. New memory alone is written. Conditions: the fields' ranges.
-/
namespace Go.Proofs.Ytndodckcncejiaa
open Go.RowKit

set_option maxRecDepth 100000 in
set_option maxHeartbeats 8000000 in
theorem bkAsks_hash (H P : List Int) (a : Option Addr) (n c : Nat) (zs : List Int) (H' P' : List Int) (a' : Option Addr) (n' c' : Nat) (ys : List Int) (A : Nat) (w : World) (hM : BlkOk ⟨H, P, n, zs⟩) (hM' : BlkOk ⟨H', P', n', ys⟩) (hT : IdsAt w a n c zs) (hT' : IdsAt w a' n' c' ys) (hn : n ≤ 100) (hn' : n' ≤ 100) (hA : A < 256) (h0 : n = 0 ∨ A % 2 = 1) :
    Calls Try.prog 5 #[.agg (bkC H P a n c).toArray, .agg (bkC H' P' a' n' c').toArray, .int .u8 (A : Int)] w fun q w' => q = .returned (.bool true) ∧ Below w.heap.size w w' := by
  have hH : H.length = 32 := hM.1
  have hP : P.length = 32 := hM.2.1
  have hH' : H'.length = 32 := hM'.1
  have hP' : P'.length = 32 := hM'.2.1
  have hCl := bkC_len (a := a) (n := n) (c := c) hH hP
  have hDl := bkC_len (a := a') (n := n') (c := c') hH' hP'
  have fw1 := fun w' => r16Few_any H P a n c w' hH hP
  have fw2 := fun w' => r16Few_any H' P' a' n' c' w' hH' hP'
  rw [show decide (n ≤ 100) = true from decide_eq_true hn] at fw1
  rw [show decide (n' ≤ 100) = true from decide_eq_true hn'] at fw2
  have e0 := Lib.hid (fun w' g (h : Blk w' g 26 (bkC H P a n c)) => bk0 h)
  have e2 := Lib.hid (fun w' g (h : Blk w' g 26 (bkC H P a n c)) => bk2 h hH hP)
  have f1 := Lib.hid (fun w' g (h : Blk w' g 26 (bkC H' P' a' n' c')) => bk1 h hH')
  obtain ⟨E, hEe⟩ : ∃ E : Option Addr → Nat → List Value, ∀ b d, bkC H P b n d = E b d := ⟨_, fun _ _ => rfl⟩
  have hEl := Lib.hid (fun b d => show (E b d).length = 65 by rw [← hEe]; exact bkC_len hH hP)
  have hE1 := Lib.hid (fun b d => show ∀ v ∈ E b d, v.oneCell' = true by rw [← hEe]; exact bkC_one _ _ _ _ _)
  have f5 := Lib.hid (fun w' g b d (h : Blk w' g 26 (E b d)) => show w'.cell? ⟨g, 64, none⟩ = some (.slice b n d) by rw [← hEe] at h; exact bk2 h hH hP)
  have hqc := fun w' => eqId16 P' H hP' hH w'
  have hrX := rowId_of hH
  have hrY := rowId_of hP'
  have hX01 := u8_one H
  have hX0l : (H.map (Value.int .u8)).length = 32 := by rw [List.length_map, hH]
  obtain ⟨C, hC⟩ : ∃ C, bkC H P a n c = C := ⟨_, rfl⟩
  obtain ⟨D, hD⟩ : ∃ C, bkC H' P' a' n' c' = C := ⟨_, rfl⟩
  rw [hC] at hCl fw1 e0 e2
  rw [hD] at hDl fw2 f1
  obtain ⟨x, hxH⟩ : ∃ x, H = x := ⟨_, rfl⟩
  have hx : x.length = 32 := by rw [← hxH]; exact hH
  have hXl : (x.map (Value.int .u8)).length = 32 := by rw [List.length_map, hx]
  have hXHl : ((x.take 16).map (Value.int .u8)).length = 16 := by rw [List.length_map, List.length_take]; omega
  have hx16 : (x.take 16).length = 16 := by rw [List.length_take]; omega
  have hrXx := rowId_of hx
  have hrXH := rowHint_of hx16
  have hXH1 := u8_one (x.take 16)
  have s1 := fun w' (h : Below w.heap.size w w') => bkHas_any H P a n c zs x w' hH hP (hT.keep h) (by omega) hx
  have s2 := fun w' (h : Below w.heap.size w w') => r16Has_any H P a n c zs x w' hH hP (hT.keep h) (by omega) hx
  have s3 := fun w' (h : Below w.heap.size w w') => bkHas_any H' P' a' n' c' ys x w' hH' hP' (hT'.keep h) (by omega) hx
  have s4 := fun w' (h : Below w.heap.size w w') => r16Has_any H' P' a' n' c' ys x w' hH' hP' (hT'.keep h) (by omega) hx
  have s5 := fun w' (h : Below w.heap.size w w') => bkHinted_any H P a n c zs (x.take 16) w' hH hP (hT.keep h) (by omega) hx16
  have s6 := fun w' (h : Below w.heap.size w w') => r16Hinted_any H P a n c zs (x.take 16) w' hH hP (hT.keep h) (by omega) hx16
  have hKn := hintN_le zs (x.take 16) n
  have s8 := fun w' => bkChild_any H P a n c H' P' a' n' c' w' hH hH' hP'
  have s9 := fun w' (h : Below w.heap.size w w') => bkCopy_any H P a n c zs w' hH hP (hT.keep h) (by omega)
  have r1 := fun w' (h : Below w.heap.size w w') => bkSame_any H P a n c zs H' P' a' n' c' ys w' hH hP hH' hP' (hT.keep h) (hT'.keep h) (by omega)
  have r2 := fun w' (h : Below w.heap.size w w') => r16Same_any H P a n c zs H' P' a' n' c' ys w' hH hP hH' hP' (hT.keep h) (hT'.keep h) (by omega)
  have r3 := fun w' b d (h : Below w.heap.size w w') (hB : IdsAt w' b n d zs) => bkSame_any H P a n c zs H P b n d zs w' hH hP hH hP (hT.keep h) hB (by omega)
  have r4 := fun w' b d (h : Below w.heap.size w w') (hB : IdsAt w' b n d zs) => r16Same_any H P a n c zs H P b n d zs w' hH hP hH hP (hT.keep h) hB (by omega)
  rw [sameK_self] at r3 r4
  rw [hC] at s1 s2 s5 s6 s8 s9 r1 r2 r3 r4
  rw [hD] at s3 s4 s8 r1 r2
  simp only [hEe] at s9 r3 r4
  obtain ⟨T1, hT1⟩ : ∃ B, hasL zs x n = B := ⟨_, rfl⟩
  obtain ⟨T2, hT2⟩ : ∃ B, hasL ys x n' = B := ⟨_, rfl⟩
  obtain ⟨T3, hT3⟩ : ∃ B, sameK ⟨H, P, n, zs⟩ ⟨H', P', n', ys⟩ = B := ⟨_, rfl⟩
  rw [hT1] at s1 s2
  rw [hT2] at s3 s4
  rw [hT3] at r1 r2
  obtain ⟨K, hK⟩ : ∃ K, hintN zs (x.take 16) n = K := ⟨_, rfl⟩
  obtain ⟨L, hL⟩ : ∃ K, hintL zs (x.take 16) n = K := ⟨_, rfl⟩
  rw [hK, hL] at s5 s6
  rw [hK] at hKn
  have s7 := fun b1 d1 b2 d2 w' (h1 : IdsAt w' b1 K d1 L) (h2 : IdsAt w' b2 K d2 L) => rSameB_any b1 K d1 L b2 K d2 L w' h1 h2 (by omega)
  rw [show sameL K L K L = true by simp [sameL]] at s7
  have hph := Lib.hid (fun w' g (h : Blk w' g 23 (x.map (Value.int .u8))) => id_head16 h)
  obtain ⟨X, hXe⟩ : ∃ X, x.map (Value.int .u8) = X := ⟨_, rfl⟩
  obtain ⟨XH, hXHe⟩ : ∃ X, (x.take 16).map (Value.int .u8) = X := ⟨_, rfl⟩
  rw [hXe] at hXl hrXx s1 s2 s3 s4
  rw [hXHe] at hXHl hrXH hXH1 s5 s6
  rw [hXe, hXHe] at hph
  have hXeH := Lib.hid hXe
  have t1 := Lib.hid s1
  have t2 := Lib.hid s2
  have t3 := Lib.hid s3
  have t4 := Lib.hid s4
  have t5 := Lib.hid s5
  have t6 := Lib.hid s6
  have t7 := Lib.hid s7
  have t8 := Lib.hid s8
  have t9 := Lib.hid s9
  have u1 := Lib.hid r1
  have u2 := Lib.hid r2
  have u3 := Lib.hid r3
  have u4 := Lib.hid r4
  clear s1 s2 s3 s4 s5 s6 s7 s8 s9 r1 r2 r3 r4 hT1 hT2 hT3 hK hL hXe hXHe hx hx16 hKn
  rw [hC, hD]
  have hrC : IsRow Try.prog 26 C.length := by rw [hCl]; exact rowBk
  have hrD : IsRow Try.prog 26 D.length := by rw [hDl]; exact rowBk
  obtain ⟨F, hF⟩ : ∃ C, (P' == H) = C := ⟨_, rfl⟩
  rw [hF] at hqc
  have t8 := Lib.hid (fun w' => by have := t8.out w'; rw [hF] at this; exact this)
  obtain ⟨X0, hX0⟩ : ∃ C, H.map (Value.int .u8) = C := ⟨_, rfl⟩
  obtain ⟨Y1, hY1⟩ : ∃ C, P'.map (Value.int .u8) = C := ⟨_, rfl⟩
  rw [hX0] at e0 hqc hrX hX01 hX0l
  rw [hY1] at f1 hqc hrY
  have hX0H := Lib.hid hX0
  have hqc := Lib.hid hqc
  have fw1 := Lib.hid fw1
  have fw2 := Lib.hid fw2
  have hng := noGuardIds
  have z1 : (T1 != T1) = false := by cases T1 <;> rfl
  have z2 : (T2 != T2) = false := by cases T2 <;> rfl
  have z3 : (T3 != T3) = false := by cases T3 <;> rfl
  have z4 : (F != F) = false := by cases F <;> rfl
  obtain ⟨Zr, hZr⟩ : ∃ Z, List.replicate 32 (Value.int .u8 0) = Z := ⟨_, rfl⟩
  have hRl : Zr.length = 32 := by rw [← hZr]; rfl
  have hR0 : Zero Try.prog 23 Zr := by rw [← hZr]; exact zeroId9
  obtain ⟨Zh, hZh⟩ : ∃ Z, List.replicate 16 (Value.int .u8 0) = Z := ⟨_, rfl⟩
  have hZhl : Zh.length = 16 := by rw [← hZh]; rfl
  have hJ0 : Zero Try.prog 38 Zh := by rw [← hZh]; exact zeroHint9
  obtain ⟨Z, hZ⟩ : ∃ Z, bkC z32 z32 none 0 0 = Z := ⟨_, rfl⟩
  have hZ0 : Zero Try.prog 26 Z := by rw [← hZ]; exact zeroBk
  have hZl : Z.length = 65 := by rw [← hZ]; exact bkC_len rfl rfl
  have hb := below2 w (.cells C.toArray 26) (.cells D.toArray 26)
  have hk : Blk ((w.alloc (.cells C.toArray 26)).alloc (.cells D.toArray 26)) w.heap.size 26 C := (Blk.new w _ C).alloc _
  have hk2 : Blk ((w.alloc (.cells C.toArray 26)).alloc (.cells D.toArray 26)) (w.heap.size + 1) 26 D := Blk.new1 w _ _ _
  obtain ⟨V, hV⟩ : ∃ V, (w.alloc (.cells C.toArray 26)).alloc (.cells D.toArray 26) = V := ⟨_, rfl⟩
  rw [hV] at hb hk hk2
  obtain ⟨G, g9⟩ : ∃ G, w.heap.size = G := ⟨_, rfl⟩
  rw [g9] at hk hk2
  have hMM := Lib.hid (And.intro hM hM')
  clear hC hD hEe hF hX0 hY1 hZr hZh hZ hM hM' hH hP hH' hP' hn'
  have hXX := Lib.hid (show X0 = X by rw [← hX0H.out, hxH, hXeH.out])
  clear hxH
  have hAi : (A : Int) < 256 := by omega
  have hnm : (n : Int) ≤ 100 := by omega
  have hTH := Lib.hid hT
  clear hT hT'
  by_cases hz : n = 0
  · have hni : ¬ (0 : Int) < (n : Int) := by omega
    have hnH := Lib.hid hn
    clear h0 hz hn
    go_enter Try.func5, Try.ntmps5
    go_wp2_with (first
      | ((with_reducible refine box_row rfl 26 (.tmp 0) rfl C ?_ ?_); rfl)
      | ((with_reducible refine box_row rfl 26 (.tmp 1) rfl D ?_ ?_); rfl; refine RowKit.Hid.out ?_))
    refine Lib.hid ?_
    clear hV
    go_wp2_with ((with_reducible refine wpList_load_blk rfl 26 (.tmp 3) rfl ?_ hk rowBk hCl ?_); rfl)
    refine (fw1.out V).mono ?_
    rintro q w1 ⟨rfl, b1⟩
    have hk := hk.keep b1 hk.lt
    have hk2 := hk2.keep b1 hk2.lt
    have hb := hb.trans (b1.mono hb.size)
    clear fw1 b1
    go_wp2_with ((with_reducible refine load_if rfl 26 (.tmp 4) rfl ?_ hk2 rowBk hDl ?_); rfl)
    refine (fw2.out w1).mono ?_
    rintro q w2 ⟨rfl, b2⟩
    have hk := hk.keep b2 hk.lt
    have hk2 := hk2.keep b2 hk2.lt
    have hb := hb.trans (b2.mono hb.size)
    clear fw2 b2
    have p0 := e0.out w2 G hk
    go_wp2_with (first
      | ((with_reducible refine wpList_load_part rfl 23 (.tmp 21) rfl ?_ X0 p0 hrX ?_); rfl)
      | ((with_reducible refine wpList_alloc_blk rfl 23 rfl hR0 ?_); refine RowKit.Hid.out ?_))
    refine Lib.hid ?_
    try simp only [Act.put, List.setIfInBounds_toArray, List.set_cons_zero, List.set_cons_succ]
    have hGA := hk.alloc (.cells Zr.toArray 23)
    have hDA := hk2.alloc (.cells Zr.toArray 23)
    have hIA := Blk.new w2 23 Zr
    have BA := hb.alloc hb.size (.cells Zr.toArray 23)
    have l1 := hk.lt
    have l2 := hk2.lt
    have l3 := hb.size
    obtain ⟨I, hI⟩ : ∃ N, w2.heap.size = N := ⟨_, rfl⟩
    rw [hI] at hIA l1 l2 l3 ⊢
    obtain ⟨U, hU⟩ : ∃ W, w2.alloc (.cells Zr.toArray 23) = W := ⟨_, rfl⟩
    rw [hU] at hGA hDA hIA BA ⊢
    clear hk hk2 hb hI hU p0
    refine store_row rfl 23 (.tmp 7) (.tmp 22) rfl rfl rfl hIA rowId9 hX0l hRl hX01 ?_
    intro wq hI3 hg3
    have hG3 := hGA.grown hg3 (fun e => by injection e with e; omega)
    have hD3 := hDA.grown hg3 (fun e => by injection e with e; omega)
    have B3 := BA.grown hg3 BA.size (fun q hq => by injection hq with hq; omega)
    have c2 := e2.out wq G hG3
    clear hGA hDA hIA BA hg3
    rw [hXX.out] at hI3
    -- the hint
    have hIlt := hI3.lt
    have hpart := hph.out wq I hI3
    have hat := fun cap v => run_array_at9 (P := Try.prog) 38 5 16 Try.underlying38 (some ⟨I, 0, none⟩) 16 cap (by decide) v
    go_wp2_with (first
      | ((with_reducible refine wpList_load_part rfl 38 (.tmp 44) rfl ?_ XH hpart hrXH ?_); rfl)
      | ((with_reducible refine wpList_alloc_blk rfl 38 rfl hJ0 ?_); refine RowKit.Hid.out ?_))
    refine Lib.hid ?_
    try simp only [Act.put, List.setIfInBounds_toArray, List.set_cons_zero, List.set_cons_succ]
    have hGA := hG3.alloc (.cells Zh.toArray 38)
    have hDA := hD3.alloc (.cells Zh.toArray 38)
    have hIA := hI3.alloc (.cells Zh.toArray 38)
    have hJA := Blk.new wq 38 Zh
    have BA := B3.alloc B3.size (.cells Zh.toArray 38)
    have l4 := hG3.lt
    have l5 := hD3.lt
    have l6 := B3.size
    obtain ⟨J, hJ⟩ : ∃ N, wq.heap.size = N := ⟨_, rfl⟩
    rw [hJ] at hJA l4 l5 l6 hIlt ⊢
    obtain ⟨U4, hU4⟩ : ∃ W, wq.alloc (.cells Zh.toArray 38) = W := ⟨_, rfl⟩
    rw [hU4] at hGA hDA hIA hJA BA ⊢
    clear hG3 hD3 hI3 B3 hJ hU4 hpart hat
    refine store_row rfl 38 (.tmp 8) (.tmp 45) rfl rfl rfl hJA rowHint9 hXHl hZhl hXH1 ?_
    intro w4 hJ4 hg4
    have hG4 := hGA.grown hg4 (fun e => by injection e with e; omega)
    have hD4 := hDA.grown hg4 (fun e => by injection e with e; omega)
    have hI4 := hIA.grown hg4 (fun e => by injection e with e; omega)
    have B4 := BA.grown hg4 BA.size (fun q hq => by injection hq with hq; omega)
    clear hGA hDA hIA hJA BA hg4
    -- what is asked
    have LC := Lib.hid (fun w' (h : Below w4.heap.size w4 w') => hG4.keep h hG4.lt)
    have LD := Lib.hid (fun w' (h : Below w4.heap.size w4 w') => hD4.keep h hD4.lt)
    have LX := Lib.hid (fun w' (h : Below w4.heap.size w4 w') => hI4.keep h hI4.lt)
    have LH := Lib.hid (fun w' (h : Below w4.heap.size w4 w') => hJ4.keep h hJ4.lt)
    have PC := Lib.hid (fun w' (h : Below w4.heap.size w4 w') => e0.out w' G (LC.out w' h))
    have PD := Lib.hid (fun w' (h : Below w4.heap.size w4 w') => f1.out w' (G + 1) (LD.out w' h))
    have BB := Lib.hid (fun w' (h : Below w4.heap.size w4 w') => B4.trans (h.mono B4.size))
    have b3 : Below w4.heap.size w4 w4.drew := (Below.refl _ _).drew
    clear hI4 hJ4 hIlt c2 l4 l5 l6 l1 l2 l3
    go_wp2_with fail
    have HG4 := Lib.hid (And.intro hG4 (And.intro hD4 B4))
    clear hG4 hD4 B4
    refine region_seqS (fun w' => Below w4.heap.size w4 w') (by kernel_rfl) b3 ?_
    simp only [pairs, Nat.reduceAdd]
    repeat (first
      | (refine SeqS.take (v := .agg (C).toArray) (by first | assumption | trivial) (by kernel_rfl) (by decide +kernel) (by decide +kernel) (yields_blk (by rfl) 26 (.tmp 3) rfl rfl (fun w' h => LC.out w' h) (hrC)) ?_
         simp only [Act.put, List.setIfInBounds_toArray, List.set_cons_zero, List.set_cons_succ])
      | (refine SeqS.take (v := .agg (X).toArray) (by first | assumption | trivial) (by kernel_rfl) (by decide +kernel) (by decide +kernel) (yields_blk (by rfl) 23 (.tmp 7) rfl rfl (fun w' h => LX.out w' h) (hrXx)) ?_
         simp only [Act.put, List.setIfInBounds_toArray, List.set_cons_zero, List.set_cons_succ])
      | (refine SeqS.take (v := ?_) (by first | assumption | trivial) (by kernel_rfl) (by decide +kernel) (by decide +kernel) (Or.inl ⟨by rfl, ?_⟩) ?_
         rotate_left
         focus
           intro w' hb'
           go_simp
           with_reducible rfl
         simp only [Act.put, List.setIfInBounds_toArray, List.set_cons_zero, List.set_cons_succ])
      | (refine SeqS.take (v := undef) (by first | assumption | trivial) (by kernel_rfl) (by decide +kernel) (by decide +kernel) (Or.inr ⟨by rfl, rfl⟩) ?_
         simp only [Act.put, List.setIfInBounds_toArray, List.set_cons_zero, List.set_cons_succ])
      | (refine SeqS.take1 (v := .agg (C).toArray) (by first | assumption | trivial) (by kernel_rfl) (by decide +kernel) (by decide +kernel) (yields_blk (by rfl) 26 (.tmp 3) rfl rfl (fun w' h => LC.out w' h) (hrC)) ?_
         simp only [Act.put, List.setIfInBounds_toArray, List.set_cons_zero, List.set_cons_succ])
      | (refine SeqS.take1 (v := .agg (X).toArray) (by first | assumption | trivial) (by kernel_rfl) (by decide +kernel) (by decide +kernel) (yields_blk (by rfl) 23 (.tmp 7) rfl rfl (fun w' h => LX.out w' h) (hrXx)) ?_
         simp only [Act.put, List.setIfInBounds_toArray, List.set_cons_zero, List.set_cons_succ])
      | (refine SeqS.take1 (v := ?_) (by first | assumption | trivial) (by kernel_rfl) (by decide +kernel) (by decide +kernel) (Or.inl ⟨by rfl, ?_⟩) ?_
         rotate_left
         focus
           intro w' hb'
           go_simp
           with_reducible rfl
         simp only [Act.put, List.setIfInBounds_toArray, List.set_cons_zero, List.set_cons_succ])
      | (refine SeqS.take1 (v := undef) (by first | assumption | trivial) (by kernel_rfl) (by decide +kernel) (by decide +kernel) (Or.inr ⟨by rfl, rfl⟩) ?_
         simp only [Act.put, List.setIfInBounds_toArray, List.set_cons_zero, List.set_cons_succ])
      | (refine SeqS.take2 (v := .agg (C).toArray) (by first | assumption | trivial) (by kernel_rfl) (by decide +kernel) (by decide +kernel) (yields_blk (by rfl) 26 (.tmp 3) rfl rfl (fun w' h => LC.out w' h) (hrC)) ?_
         simp only [Act.put, List.setIfInBounds_toArray, List.set_cons_zero, List.set_cons_succ])
      | (refine SeqS.take2 (v := .agg (X).toArray) (by first | assumption | trivial) (by kernel_rfl) (by decide +kernel) (by decide +kernel) (yields_blk (by rfl) 23 (.tmp 7) rfl rfl (fun w' h => LX.out w' h) (hrXx)) ?_
         simp only [Act.put, List.setIfInBounds_toArray, List.set_cons_zero, List.set_cons_succ])
      | (refine SeqS.take2 (v := ?_) (by first | assumption | trivial) (by kernel_rfl) (by decide +kernel) (by decide +kernel) (Or.inl ⟨by rfl, ?_⟩) ?_
         rotate_left
         focus
           intro w' hb'
           go_simp
           with_reducible rfl
         simp only [Act.put, List.setIfInBounds_toArray, List.set_cons_zero, List.set_cons_succ])
      | (refine SeqS.take2 (v := undef) (by first | assumption | trivial) (by kernel_rfl) (by decide +kernel) (by decide +kernel) (Or.inr ⟨by rfl, rfl⟩) ?_
         simp only [Act.put, List.setIfInBounds_toArray, List.set_cons_zero, List.set_cons_succ]))
    refine SeqS.alone (by decide +kernel) (by rfl) (fun K hK => ?_)
    go_simp
    go_at_call 15
    refine (t1.out _ (BB.out _ b3)).mono ?_
    rintro e w11 ⟨rfl, b11⟩
    go_simp
    have S11 : Below w4.heap.size w4 w11 := b3.trans (b11.mono b3.size)
    refine hK _ _ S11 ?_
    clear hK K
    refine SeqS.alone (by decide +kernel) (by rfl) (fun K hK => ?_)
    go_simp
    go_at_call 16
    refine (t2.out _ (BB.out _ S11)).mono ?_
    rintro e w12 ⟨rfl, b12⟩
    go_simp
    have S12 : Below w4.heap.size w4 w12 := S11.trans (b12.mono S11.size)
    refine hK _ _ S12 ?_
    clear hK K
    repeat (first
      | (refine SeqS.take (v := .agg (D).toArray) (by first | assumption | trivial) (by kernel_rfl) (by decide +kernel) (by decide +kernel) (yields_blk (by rfl) 26 (.tmp 4) rfl rfl (fun w' h => LD.out w' h) (hrD)) ?_
         simp only [Act.put, List.setIfInBounds_toArray, List.set_cons_zero, List.set_cons_succ])
      | (refine SeqS.take (v := .agg (X).toArray) (by first | assumption | trivial) (by kernel_rfl) (by decide +kernel) (by decide +kernel) (yields_blk (by rfl) 23 (.tmp 7) rfl rfl (fun w' h => LX.out w' h) (hrXx)) ?_
         simp only [Act.put, List.setIfInBounds_toArray, List.set_cons_zero, List.set_cons_succ])
      | (refine SeqS.take (v := ?_) (by first | assumption | trivial) (by kernel_rfl) (by decide +kernel) (by decide +kernel) (Or.inl ⟨by rfl, ?_⟩) ?_
         rotate_left
         focus
           intro w' hb'
           go_simp
           with_reducible rfl
         simp only [Act.put, List.setIfInBounds_toArray, List.set_cons_zero, List.set_cons_succ])
      | (refine SeqS.take (v := undef) (by first | assumption | trivial) (by kernel_rfl) (by decide +kernel) (by decide +kernel) (Or.inr ⟨by rfl, rfl⟩) ?_
         simp only [Act.put, List.setIfInBounds_toArray, List.set_cons_zero, List.set_cons_succ])
      | (refine SeqS.take1 (v := .agg (D).toArray) (by first | assumption | trivial) (by kernel_rfl) (by decide +kernel) (by decide +kernel) (yields_blk (by rfl) 26 (.tmp 4) rfl rfl (fun w' h => LD.out w' h) (hrD)) ?_
         simp only [Act.put, List.setIfInBounds_toArray, List.set_cons_zero, List.set_cons_succ])
      | (refine SeqS.take1 (v := .agg (X).toArray) (by first | assumption | trivial) (by kernel_rfl) (by decide +kernel) (by decide +kernel) (yields_blk (by rfl) 23 (.tmp 7) rfl rfl (fun w' h => LX.out w' h) (hrXx)) ?_
         simp only [Act.put, List.setIfInBounds_toArray, List.set_cons_zero, List.set_cons_succ])
      | (refine SeqS.take1 (v := ?_) (by first | assumption | trivial) (by kernel_rfl) (by decide +kernel) (by decide +kernel) (Or.inl ⟨by rfl, ?_⟩) ?_
         rotate_left
         focus
           intro w' hb'
           go_simp
           with_reducible rfl
         simp only [Act.put, List.setIfInBounds_toArray, List.set_cons_zero, List.set_cons_succ])
      | (refine SeqS.take1 (v := undef) (by first | assumption | trivial) (by kernel_rfl) (by decide +kernel) (by decide +kernel) (Or.inr ⟨by rfl, rfl⟩) ?_
         simp only [Act.put, List.setIfInBounds_toArray, List.set_cons_zero, List.set_cons_succ])
      | (refine SeqS.take2 (v := .agg (D).toArray) (by first | assumption | trivial) (by kernel_rfl) (by decide +kernel) (by decide +kernel) (yields_blk (by rfl) 26 (.tmp 4) rfl rfl (fun w' h => LD.out w' h) (hrD)) ?_
         simp only [Act.put, List.setIfInBounds_toArray, List.set_cons_zero, List.set_cons_succ])
      | (refine SeqS.take2 (v := .agg (X).toArray) (by first | assumption | trivial) (by kernel_rfl) (by decide +kernel) (by decide +kernel) (yields_blk (by rfl) 23 (.tmp 7) rfl rfl (fun w' h => LX.out w' h) (hrXx)) ?_
         simp only [Act.put, List.setIfInBounds_toArray, List.set_cons_zero, List.set_cons_succ])
      | (refine SeqS.take2 (v := ?_) (by first | assumption | trivial) (by kernel_rfl) (by decide +kernel) (by decide +kernel) (Or.inl ⟨by rfl, ?_⟩) ?_
         rotate_left
         focus
           intro w' hb'
           go_simp
           with_reducible rfl
         simp only [Act.put, List.setIfInBounds_toArray, List.set_cons_zero, List.set_cons_succ])
      | (refine SeqS.take2 (v := undef) (by first | assumption | trivial) (by kernel_rfl) (by decide +kernel) (by decide +kernel) (Or.inr ⟨by rfl, rfl⟩) ?_
         simp only [Act.put, List.setIfInBounds_toArray, List.set_cons_zero, List.set_cons_succ]))
    refine SeqS.alone (by decide +kernel) (by rfl) (fun K hK => ?_)
    go_simp
    go_at_call 15
    refine (t3.out _ (BB.out _ S12)).mono ?_
    rintro e w13 ⟨rfl, b13⟩
    go_simp
    have S13 : Below w4.heap.size w4 w13 := S12.trans (b13.mono S12.size)
    refine hK _ _ S13 ?_
    clear hK K
    refine SeqS.alone (by decide +kernel) (by rfl) (fun K hK => ?_)
    go_simp
    go_at_call 16
    refine (t4.out _ (BB.out _ S13)).mono ?_
    rintro e w14 ⟨rfl, b14⟩
    go_simp
    have S14 : Below w4.heap.size w4 w14 := S13.trans (b14.mono S13.size)
    refine hK _ _ S14 ?_
    clear hK K
    repeat (first
      | (refine SeqS.take (v := .agg (C).toArray) (by first | assumption | trivial) (by kernel_rfl) (by decide +kernel) (by decide +kernel) (yields_blk (by rfl) 26 (.tmp 3) rfl rfl (fun w' h => LC.out w' h) (hrC)) ?_
         simp only [Act.put, List.setIfInBounds_toArray, List.set_cons_zero, List.set_cons_succ])
      | (refine SeqS.take (v := .agg (XH).toArray) (by first | assumption | trivial) (by kernel_rfl) (by decide +kernel) (by decide +kernel) (yields_blk (by rfl) 38 (.tmp 8) rfl rfl (fun w' h => LH.out w' h) (hrXH)) ?_
         simp only [Act.put, List.setIfInBounds_toArray, List.set_cons_zero, List.set_cons_succ])
      | (refine SeqS.take (v := ?_) (by first | assumption | trivial) (by kernel_rfl) (by decide +kernel) (by decide +kernel) (Or.inl ⟨by rfl, ?_⟩) ?_
         rotate_left
         focus
           intro w' hb'
           go_simp
           with_reducible rfl
         simp only [Act.put, List.setIfInBounds_toArray, List.set_cons_zero, List.set_cons_succ])
      | (refine SeqS.take (v := undef) (by first | assumption | trivial) (by kernel_rfl) (by decide +kernel) (by decide +kernel) (Or.inr ⟨by rfl, rfl⟩) ?_
         simp only [Act.put, List.setIfInBounds_toArray, List.set_cons_zero, List.set_cons_succ])
      | (refine SeqS.take1 (v := .agg (C).toArray) (by first | assumption | trivial) (by kernel_rfl) (by decide +kernel) (by decide +kernel) (yields_blk (by rfl) 26 (.tmp 3) rfl rfl (fun w' h => LC.out w' h) (hrC)) ?_
         simp only [Act.put, List.setIfInBounds_toArray, List.set_cons_zero, List.set_cons_succ])
      | (refine SeqS.take1 (v := .agg (XH).toArray) (by first | assumption | trivial) (by kernel_rfl) (by decide +kernel) (by decide +kernel) (yields_blk (by rfl) 38 (.tmp 8) rfl rfl (fun w' h => LH.out w' h) (hrXH)) ?_
         simp only [Act.put, List.setIfInBounds_toArray, List.set_cons_zero, List.set_cons_succ])
      | (refine SeqS.take1 (v := ?_) (by first | assumption | trivial) (by kernel_rfl) (by decide +kernel) (by decide +kernel) (Or.inl ⟨by rfl, ?_⟩) ?_
         rotate_left
         focus
           intro w' hb'
           go_simp
           with_reducible rfl
         simp only [Act.put, List.setIfInBounds_toArray, List.set_cons_zero, List.set_cons_succ])
      | (refine SeqS.take1 (v := undef) (by first | assumption | trivial) (by kernel_rfl) (by decide +kernel) (by decide +kernel) (Or.inr ⟨by rfl, rfl⟩) ?_
         simp only [Act.put, List.setIfInBounds_toArray, List.set_cons_zero, List.set_cons_succ])
      | (refine SeqS.take2 (v := .agg (C).toArray) (by first | assumption | trivial) (by kernel_rfl) (by decide +kernel) (by decide +kernel) (yields_blk (by rfl) 26 (.tmp 3) rfl rfl (fun w' h => LC.out w' h) (hrC)) ?_
         simp only [Act.put, List.setIfInBounds_toArray, List.set_cons_zero, List.set_cons_succ])
      | (refine SeqS.take2 (v := .agg (XH).toArray) (by first | assumption | trivial) (by kernel_rfl) (by decide +kernel) (by decide +kernel) (yields_blk (by rfl) 38 (.tmp 8) rfl rfl (fun w' h => LH.out w' h) (hrXH)) ?_
         simp only [Act.put, List.setIfInBounds_toArray, List.set_cons_zero, List.set_cons_succ])
      | (refine SeqS.take2 (v := ?_) (by first | assumption | trivial) (by kernel_rfl) (by decide +kernel) (by decide +kernel) (Or.inl ⟨by rfl, ?_⟩) ?_
         rotate_left
         focus
           intro w' hb'
           go_simp
           with_reducible rfl
         simp only [Act.put, List.setIfInBounds_toArray, List.set_cons_zero, List.set_cons_succ])
      | (refine SeqS.take2 (v := undef) (by first | assumption | trivial) (by kernel_rfl) (by decide +kernel) (by decide +kernel) (Or.inr ⟨by rfl, rfl⟩) ?_
         simp only [Act.put, List.setIfInBounds_toArray, List.set_cons_zero, List.set_cons_succ]))
    refine SeqS.alone (by decide +kernel) (by rfl) (fun K hK => ?_)
    go_simp
    go_at_call 18
    refine (t5.out _ (BB.out _ S14)).mono ?_
    rintro e w15 ⟨hb5, hd5, rfl, hI5, -, b15⟩
    go_simp
    have S15 : Below w4.heap.size w4 w15 := S14.trans (b15.mono S14.size)
    refine hK _ _ S15 ?_
    clear hK K
    refine SeqS.alone (by decide +kernel) (by rfl) (fun K hK => ?_)
    go_simp
    go_at_call 19
    refine (t6.out _ (BB.out _ S15)).mono ?_
    rintro e w16 ⟨hb6, hd6, rfl, hI6, -, b16⟩
    go_simp
    have S16 : Below w4.heap.size w4 w16 := S15.trans (b16.mono S15.size)
    refine hK _ _ S16 ?_
    clear hK K
    refine SeqS.alone (by decide +kernel) (by rfl) (fun K hK => ?_)
    go_simp
    go_at_call 17
    refine (t7.out _ _ _ _ _ (hI5.keep b16) hI6).mono ?_
    rintro e w17 ⟨rfl, b17⟩
    go_simp
    have S17 : Below w4.heap.size w4 w17 := S16.trans (b17.mono S16.size)
    refine hK _ _ S17 ?_
    clear hK K
    repeat (first
      | (refine SeqS.take (v := .agg (C).toArray) (by first | assumption | trivial) (by kernel_rfl) (by decide +kernel) (by decide +kernel) (yields_blk (by rfl) 26 (.tmp 3) rfl rfl (fun w' h => LC.out w' h) (hrC)) ?_
         simp only [Act.put, List.setIfInBounds_toArray, List.set_cons_zero, List.set_cons_succ])
      | (refine SeqS.take (v := .agg (D).toArray) (by first | assumption | trivial) (by kernel_rfl) (by decide +kernel) (by decide +kernel) (yields_blk (by rfl) 26 (.tmp 4) rfl rfl (fun w' h => LD.out w' h) (hrD)) ?_
         simp only [Act.put, List.setIfInBounds_toArray, List.set_cons_zero, List.set_cons_succ])
      | (refine SeqS.take (v := .agg (Y1).toArray) (by first | assumption | trivial) (by kernel_rfl) (by decide +kernel) (by decide +kernel) (yields_part (by rfl) 23 (.tmp 76) rfl rfl (fun w' h => PD.out w' h) (hrY)) ?_
         simp only [Act.put, List.setIfInBounds_toArray, List.set_cons_zero, List.set_cons_succ])
      | (refine SeqS.take (v := .agg (X0).toArray) (by first | assumption | trivial) (by kernel_rfl) (by decide +kernel) (by decide +kernel) (yields_part (by rfl) 23 (.tmp 78) rfl rfl (fun w' h => PC.out w' h) (hrX)) ?_
         simp only [Act.put, List.setIfInBounds_toArray, List.set_cons_zero, List.set_cons_succ])
      | (refine SeqS.take (v := ?_) (by first | assumption | trivial) (by kernel_rfl) (by decide +kernel) (by decide +kernel) (Or.inl ⟨by rfl, ?_⟩) ?_
         rotate_left
         focus
           intro w' hb'
           go_simp
           with_reducible rfl
         simp only [Act.put, List.setIfInBounds_toArray, List.set_cons_zero, List.set_cons_succ])
      | (refine SeqS.take (v := ?_) (by first | assumption | trivial) (by kernel_rfl) (by decide +kernel) (by decide +kernel) (Or.inl ⟨by rfl, ?_⟩) ?_
         rotate_left
         focus
           intro w' hb'
           have d0 := hqc.out w'
           go_simp
           with_reducible rfl
         simp only [Act.put, List.setIfInBounds_toArray, List.set_cons_zero, List.set_cons_succ])
      | (refine SeqS.take (v := undef) (by first | assumption | trivial) (by kernel_rfl) (by decide +kernel) (by decide +kernel) (Or.inr ⟨by rfl, rfl⟩) ?_
         simp only [Act.put, List.setIfInBounds_toArray, List.set_cons_zero, List.set_cons_succ])
      | (refine SeqS.take1 (v := .agg (C).toArray) (by first | assumption | trivial) (by kernel_rfl) (by decide +kernel) (by decide +kernel) (yields_blk (by rfl) 26 (.tmp 3) rfl rfl (fun w' h => LC.out w' h) (hrC)) ?_
         simp only [Act.put, List.setIfInBounds_toArray, List.set_cons_zero, List.set_cons_succ])
      | (refine SeqS.take1 (v := .agg (D).toArray) (by first | assumption | trivial) (by kernel_rfl) (by decide +kernel) (by decide +kernel) (yields_blk (by rfl) 26 (.tmp 4) rfl rfl (fun w' h => LD.out w' h) (hrD)) ?_
         simp only [Act.put, List.setIfInBounds_toArray, List.set_cons_zero, List.set_cons_succ])
      | (refine SeqS.take1 (v := .agg (Y1).toArray) (by first | assumption | trivial) (by kernel_rfl) (by decide +kernel) (by decide +kernel) (yields_part (by rfl) 23 (.tmp 76) rfl rfl (fun w' h => PD.out w' h) (hrY)) ?_
         simp only [Act.put, List.setIfInBounds_toArray, List.set_cons_zero, List.set_cons_succ])
      | (refine SeqS.take1 (v := .agg (X0).toArray) (by first | assumption | trivial) (by kernel_rfl) (by decide +kernel) (by decide +kernel) (yields_part (by rfl) 23 (.tmp 78) rfl rfl (fun w' h => PC.out w' h) (hrX)) ?_
         simp only [Act.put, List.setIfInBounds_toArray, List.set_cons_zero, List.set_cons_succ])
      | (refine SeqS.take1 (v := ?_) (by first | assumption | trivial) (by kernel_rfl) (by decide +kernel) (by decide +kernel) (Or.inl ⟨by rfl, ?_⟩) ?_
         rotate_left
         focus
           intro w' hb'
           go_simp
           with_reducible rfl
         simp only [Act.put, List.setIfInBounds_toArray, List.set_cons_zero, List.set_cons_succ])
      | (refine SeqS.take1 (v := ?_) (by first | assumption | trivial) (by kernel_rfl) (by decide +kernel) (by decide +kernel) (Or.inl ⟨by rfl, ?_⟩) ?_
         rotate_left
         focus
           intro w' hb'
           have d0 := hqc.out w'
           go_simp
           with_reducible rfl
         simp only [Act.put, List.setIfInBounds_toArray, List.set_cons_zero, List.set_cons_succ])
      | (refine SeqS.take1 (v := undef) (by first | assumption | trivial) (by kernel_rfl) (by decide +kernel) (by decide +kernel) (Or.inr ⟨by rfl, rfl⟩) ?_
         simp only [Act.put, List.setIfInBounds_toArray, List.set_cons_zero, List.set_cons_succ])
      | (refine SeqS.take2 (v := .agg (C).toArray) (by first | assumption | trivial) (by kernel_rfl) (by decide +kernel) (by decide +kernel) (yields_blk (by rfl) 26 (.tmp 3) rfl rfl (fun w' h => LC.out w' h) (hrC)) ?_
         simp only [Act.put, List.setIfInBounds_toArray, List.set_cons_zero, List.set_cons_succ])
      | (refine SeqS.take2 (v := .agg (D).toArray) (by first | assumption | trivial) (by kernel_rfl) (by decide +kernel) (by decide +kernel) (yields_blk (by rfl) 26 (.tmp 4) rfl rfl (fun w' h => LD.out w' h) (hrD)) ?_
         simp only [Act.put, List.setIfInBounds_toArray, List.set_cons_zero, List.set_cons_succ])
      | (refine SeqS.take2 (v := .agg (Y1).toArray) (by first | assumption | trivial) (by kernel_rfl) (by decide +kernel) (by decide +kernel) (yields_part (by rfl) 23 (.tmp 76) rfl rfl (fun w' h => PD.out w' h) (hrY)) ?_
         simp only [Act.put, List.setIfInBounds_toArray, List.set_cons_zero, List.set_cons_succ])
      | (refine SeqS.take2 (v := .agg (X0).toArray) (by first | assumption | trivial) (by kernel_rfl) (by decide +kernel) (by decide +kernel) (yields_part (by rfl) 23 (.tmp 78) rfl rfl (fun w' h => PC.out w' h) (hrX)) ?_
         simp only [Act.put, List.setIfInBounds_toArray, List.set_cons_zero, List.set_cons_succ])
      | (refine SeqS.take2 (v := ?_) (by first | assumption | trivial) (by kernel_rfl) (by decide +kernel) (by decide +kernel) (Or.inl ⟨by rfl, ?_⟩) ?_
         rotate_left
         focus
           intro w' hb'
           go_simp
           with_reducible rfl
         simp only [Act.put, List.setIfInBounds_toArray, List.set_cons_zero, List.set_cons_succ])
      | (refine SeqS.take2 (v := ?_) (by first | assumption | trivial) (by kernel_rfl) (by decide +kernel) (by decide +kernel) (Or.inl ⟨by rfl, ?_⟩) ?_
         rotate_left
         focus
           intro w' hb'
           have d0 := hqc.out w'
           go_simp
           with_reducible rfl
         simp only [Act.put, List.setIfInBounds_toArray, List.set_cons_zero, List.set_cons_succ])
      | (refine SeqS.take2 (v := undef) (by first | assumption | trivial) (by kernel_rfl) (by decide +kernel) (by decide +kernel) (Or.inr ⟨by rfl, rfl⟩) ?_
         simp only [Act.put, List.setIfInBounds_toArray, List.set_cons_zero, List.set_cons_succ])
      | (refine SeqS.take3 (v := .agg (C).toArray) (by first | assumption | trivial) (by kernel_rfl) (by decide +kernel) (by decide +kernel) (yields_blk (by rfl) 26 (.tmp 3) rfl rfl (fun w' h => LC.out w' h) (hrC)) ?_
         simp only [Act.put, List.setIfInBounds_toArray, List.set_cons_zero, List.set_cons_succ])
      | (refine SeqS.take3 (v := .agg (D).toArray) (by first | assumption | trivial) (by kernel_rfl) (by decide +kernel) (by decide +kernel) (yields_blk (by rfl) 26 (.tmp 4) rfl rfl (fun w' h => LD.out w' h) (hrD)) ?_
         simp only [Act.put, List.setIfInBounds_toArray, List.set_cons_zero, List.set_cons_succ])
      | (refine SeqS.take3 (v := .agg (Y1).toArray) (by first | assumption | trivial) (by kernel_rfl) (by decide +kernel) (by decide +kernel) (yields_part (by rfl) 23 (.tmp 76) rfl rfl (fun w' h => PD.out w' h) (hrY)) ?_
         simp only [Act.put, List.setIfInBounds_toArray, List.set_cons_zero, List.set_cons_succ])
      | (refine SeqS.take3 (v := .agg (X0).toArray) (by first | assumption | trivial) (by kernel_rfl) (by decide +kernel) (by decide +kernel) (yields_part (by rfl) 23 (.tmp 78) rfl rfl (fun w' h => PC.out w' h) (hrX)) ?_
         simp only [Act.put, List.setIfInBounds_toArray, List.set_cons_zero, List.set_cons_succ])
      | (refine SeqS.take3 (v := ?_) (by first | assumption | trivial) (by kernel_rfl) (by decide +kernel) (by decide +kernel) (Or.inl ⟨by rfl, ?_⟩) ?_
         rotate_left
         focus
           intro w' hb'
           go_simp
           with_reducible rfl
         simp only [Act.put, List.setIfInBounds_toArray, List.set_cons_zero, List.set_cons_succ])
      | (refine SeqS.take3 (v := ?_) (by first | assumption | trivial) (by kernel_rfl) (by decide +kernel) (by decide +kernel) (Or.inl ⟨by rfl, ?_⟩) ?_
         rotate_left
         focus
           intro w' hb'
           have d0 := hqc.out w'
           go_simp
           with_reducible rfl
         simp only [Act.put, List.setIfInBounds_toArray, List.set_cons_zero, List.set_cons_succ])
      | (refine SeqS.take3 (v := undef) (by first | assumption | trivial) (by kernel_rfl) (by decide +kernel) (by decide +kernel) (Or.inr ⟨by rfl, rfl⟩) ?_
         simp only [Act.put, List.setIfInBounds_toArray, List.set_cons_zero, List.set_cons_succ]))
    refine SeqS.alone (by decide +kernel) (by rfl) (fun K hK => ?_)
    go_simp
    go_at_call 20
    refine (t8.out _).mono ?_
    rintro e w18 ⟨rfl, b18⟩
    go_simp
    have S18 : Below w4.heap.size w4 w18 := S17.trans (b18.mono S17.size)
    refine hK _ _ S18 ?_
    clear hK K
    repeat (first
      | (refine SeqS.take (v := ?_) (by first | assumption | trivial) (by kernel_rfl) (by decide +kernel) (by decide +kernel) (Or.inl ⟨by rfl, ?_⟩) ?_
         rotate_left
         focus
           intro w' hb'
           go_simp
           with_reducible rfl
         simp only [Act.put, List.setIfInBounds_toArray, List.set_cons_zero, List.set_cons_succ])
      | (refine SeqS.take (v := ?_) (by first | assumption | trivial) (by kernel_rfl) (by decide +kernel) (by decide +kernel) (Or.inl ⟨by rfl, ?_⟩) ?_
         rotate_left
         focus
           intro w' hb'
           have d0 := hqc.out w'
           go_simp
           with_reducible rfl
         simp only [Act.put, List.setIfInBounds_toArray, List.set_cons_zero, List.set_cons_succ])
      | (refine SeqS.take (v := undef) (by first | assumption | trivial) (by kernel_rfl) (by decide +kernel) (by decide +kernel) (Or.inr ⟨by rfl, rfl⟩) ?_
         simp only [Act.put, List.setIfInBounds_toArray, List.set_cons_zero, List.set_cons_succ])
      | (refine SeqS.take1 (v := ?_) (by first | assumption | trivial) (by kernel_rfl) (by decide +kernel) (by decide +kernel) (Or.inl ⟨by rfl, ?_⟩) ?_
         rotate_left
         focus
           intro w' hb'
           go_simp
           with_reducible rfl
         simp only [Act.put, List.setIfInBounds_toArray, List.set_cons_zero, List.set_cons_succ])
      | (refine SeqS.take1 (v := ?_) (by first | assumption | trivial) (by kernel_rfl) (by decide +kernel) (by decide +kernel) (Or.inl ⟨by rfl, ?_⟩) ?_
         rotate_left
         focus
           intro w' hb'
           have d0 := hqc.out w'
           go_simp
           with_reducible rfl
         simp only [Act.put, List.setIfInBounds_toArray, List.set_cons_zero, List.set_cons_succ])
      | (refine SeqS.take1 (v := undef) (by first | assumption | trivial) (by kernel_rfl) (by decide +kernel) (by decide +kernel) (Or.inr ⟨by rfl, rfl⟩) ?_
         simp only [Act.put, List.setIfInBounds_toArray, List.set_cons_zero, List.set_cons_succ])
      | (refine SeqS.take2 (v := ?_) (by first | assumption | trivial) (by kernel_rfl) (by decide +kernel) (by decide +kernel) (Or.inl ⟨by rfl, ?_⟩) ?_
         rotate_left
         focus
           intro w' hb'
           go_simp
           with_reducible rfl
         simp only [Act.put, List.setIfInBounds_toArray, List.set_cons_zero, List.set_cons_succ])
      | (refine SeqS.take2 (v := ?_) (by first | assumption | trivial) (by kernel_rfl) (by decide +kernel) (by decide +kernel) (Or.inl ⟨by rfl, ?_⟩) ?_
         rotate_left
         focus
           intro w' hb'
           have d0 := hqc.out w'
           go_simp
           with_reducible rfl
         simp only [Act.put, List.setIfInBounds_toArray, List.set_cons_zero, List.set_cons_succ])
      | (refine SeqS.take2 (v := undef) (by first | assumption | trivial) (by kernel_rfl) (by decide +kernel) (by decide +kernel) (Or.inr ⟨by rfl, rfl⟩) ?_
         simp only [Act.put, List.setIfInBounds_toArray, List.set_cons_zero, List.set_cons_succ]))
    refine SeqS.done (by decide +kernel) ?_
    have hG5 := HG4.out.1.keep S18 HG4.out.1.lt
    have hD5 := HG4.out.2.1.keep S18 HG4.out.2.1.lt
    have B5 := HG4.out.2.2.trans (S18.mono HG4.out.2.2.size)
    clear b3 b11 b12 b13 b14 b15 b16 b17 b18 S11 S12 S13 S14 S15 S16 S17 S18 t1 t2 t3 t4 t5 t6 t7 t8 LC LD LX LH PC PD BB HG4 hI5 hI6
    -- the first copy
    go_wp2_with ((with_reducible refine wpList_load_blk rfl 26 (.tmp 3) rfl ?_ hG5 rowBk hCl ?_); rfl)
    refine (t9.out w18 B5).mono ?_
    rintro q w6 ⟨b, d, rfl, ho6, b6⟩
    have hG6 := hG5.keep b6 hG5.lt
    have hD6 := hD5.keep b6 hD5.lt
    have B6 := B5.trans (b6.mono B5.size)
    have hlo6 : ∀ y, b = some y → w18.heap.size ≤ y.block ∧ y.block < w6.heap.size := fun y hy => ho6.lt y.block (by rw [hy]; rfl)
    have lG := hG5.lt
    have lD := hD5.lt
    have hT6 := IdsAt.of_owns ho6
    have hBy6 := Bym.of_owns ho6
    have hlE := hEl.out b d
    have hoE := hE1.out b d
    obtain ⟨C1, hC1⟩ : ∃ C, E b d = C := ⟨_, rfl⟩
    rw [hC1] at hlE hoE
    have hC1H := Lib.hid hC1
    have hB5s := B5.size
    clear hG5 hD5 B5 b6 ho6
    go_wp2_with ((with_reducible refine wpList_alloc_blk rfl 26 rfl hZ0 ?_); refine RowKit.Hid.out ?_)
    refine Lib.hid ?_
    try simp only [Act.put, List.setIfInBounds_toArray, List.set_cons_zero, List.set_cons_succ]
    try simp only [hC1]
    have hGA := hG6.alloc (.cells Z.toArray 26)
    have hDA := hD6.alloc (.cells Z.toArray 26)
    have hNA := Blk.new w6 26 Z
    have bA := below1 w6 (.cells Z.toArray 26)
    have hTA := hT6.keep bA
    have BA := B6.alloc B6.size (.cells Z.toArray 26)
    have hByA := hBy6.grown (World.grownBy_alloc w6 (.cells Z.toArray 26) none) (fun _ _ => by simp)
    have l7 := hG6.lt
    have l8 := hD6.lt
    have l9 := B6.size
    have hin6 := hT6.isIn
    obtain ⟨N, hN⟩ : ∃ N, w6.heap.size = N := ⟨_, rfl⟩
    rw [hN] at hNA l7 l8 l9 hin6 hlo6 ⊢
    obtain ⟨U6, hU6⟩ : ∃ W, w6.alloc (.cells Z.toArray 26) = W := ⟨_, rfl⟩
    rw [hU6] at hGA hDA hNA hTA BA hByA ⊢
    clear hG6 hD6 hT6 B6 hBy6 bA hN hU6 hC1
    refine store_row rfl 26 (.tmp 9) (.tmp 84) rfl rfl rfl hNA rowBk hlE hZl hoE ?_
    intro w7 hN7 hg7
    have hG7 := hGA.grown hg7 (fun e => by injection e with e; omega)
    have hD7 := hDA.grown hg7 (fun e => by injection e with e; omega)
    have hT7 := hTA.grownR hg7 (fun y hy h0 e => by injection e with e; have := hin6 y hy h0; omega)
    have hBy7 := hByA.grown hg7 (fun q hq e => by injection e with e; obtain ⟨h0, y, hy, hyq⟩ := hq; have := hin6 y hy h0; omega)
    have B7 := BA.grown hg7 BA.size (fun q hq => by injection hq with hq; omega)
    clear hGA hDA hNA hTA BA hByA hg7
    go_wp2_with fail
    have b3 : Below w7.heap.size w7 w7.drew := (Below.refl _ _).drew
    have LC := Lib.hid (fun w' (h : Below w7.heap.size w7 w') => hG7.keep h hG7.lt)
    have LD := Lib.hid (fun w' (h : Below w7.heap.size w7 w') => hD7.keep h hD7.lt)
    have LE := Lib.hid (fun w' (h : Below w7.heap.size w7 w') => hN7.keep h hN7.lt)
    have hrE : IsRow Try.prog 26 C1.length := by rw [hlE]; exact rowBk
    have q1 := Lib.hid (fun w' (h : Below w7.heap.size w7 w') => u1.out w' (B7.trans (h.mono B7.size)))
    have q2 := Lib.hid (fun w' (h : Below w7.heap.size w7 w') => u2.out w' (B7.trans (h.mono B7.size)))
    have q3 := Lib.hid (fun w' (h : Below w7.heap.size w7 w') => u3.out w' b d (B7.trans (h.mono B7.size)) (hT7.keep h))
    have q4 := Lib.hid (fun w' (h : Below w7.heap.size w7 w') => u4.out w' b d (B7.trans (h.mono B7.size)) (hT7.keep h))
    rw [hC1H.out] at q3 q4
    have H7 := Lib.hid (And.intro hG7 (And.intro hN7 (And.intro hBy7 B7)))
    clear u1 u2 u3 hT7 hG7 hD7 hN7 hBy7 B7
    refine region_seqS (fun w' => Below w7.heap.size w7 w') (by kernel_rfl) b3 ?_
    simp only [pairs, Nat.reduceAdd]
    repeat (first
      | (refine SeqS.take (v := .agg (C).toArray) (by first | assumption | trivial) (by kernel_rfl) (by decide +kernel) (by decide +kernel) (yields_blk (by rfl) 26 (.tmp 3) rfl rfl (fun w' h => LC.out w' h) (hrC)) ?_
         simp only [Act.put, List.setIfInBounds_toArray, List.set_cons_zero, List.set_cons_succ])
      | (refine SeqS.take (v := .agg (D).toArray) (by first | assumption | trivial) (by kernel_rfl) (by decide +kernel) (by decide +kernel) (yields_blk (by rfl) 26 (.tmp 4) rfl rfl (fun w' h => LD.out w' h) (hrD)) ?_
         simp only [Act.put, List.setIfInBounds_toArray, List.set_cons_zero, List.set_cons_succ])
      | (refine SeqS.take (v := ?_) (by first | assumption | trivial) (by kernel_rfl) (by decide +kernel) (by decide +kernel) (Or.inl ⟨by rfl, ?_⟩) ?_
         rotate_left
         focus
           intro w' hb'
           go_simp
           with_reducible rfl
         simp only [Act.put, List.setIfInBounds_toArray, List.set_cons_zero, List.set_cons_succ])
      | (refine SeqS.take (v := undef) (by first | assumption | trivial) (by kernel_rfl) (by decide +kernel) (by decide +kernel) (Or.inr ⟨by rfl, rfl⟩) ?_
         simp only [Act.put, List.setIfInBounds_toArray, List.set_cons_zero, List.set_cons_succ])
      | (refine SeqS.take1 (v := .agg (C).toArray) (by first | assumption | trivial) (by kernel_rfl) (by decide +kernel) (by decide +kernel) (yields_blk (by rfl) 26 (.tmp 3) rfl rfl (fun w' h => LC.out w' h) (hrC)) ?_
         simp only [Act.put, List.setIfInBounds_toArray, List.set_cons_zero, List.set_cons_succ])
      | (refine SeqS.take1 (v := .agg (D).toArray) (by first | assumption | trivial) (by kernel_rfl) (by decide +kernel) (by decide +kernel) (yields_blk (by rfl) 26 (.tmp 4) rfl rfl (fun w' h => LD.out w' h) (hrD)) ?_
         simp only [Act.put, List.setIfInBounds_toArray, List.set_cons_zero, List.set_cons_succ])
      | (refine SeqS.take1 (v := ?_) (by first | assumption | trivial) (by kernel_rfl) (by decide +kernel) (by decide +kernel) (Or.inl ⟨by rfl, ?_⟩) ?_
         rotate_left
         focus
           intro w' hb'
           go_simp
           with_reducible rfl
         simp only [Act.put, List.setIfInBounds_toArray, List.set_cons_zero, List.set_cons_succ])
      | (refine SeqS.take1 (v := undef) (by first | assumption | trivial) (by kernel_rfl) (by decide +kernel) (by decide +kernel) (Or.inr ⟨by rfl, rfl⟩) ?_
         simp only [Act.put, List.setIfInBounds_toArray, List.set_cons_zero, List.set_cons_succ])
      | (refine SeqS.take2 (v := .agg (C).toArray) (by first | assumption | trivial) (by kernel_rfl) (by decide +kernel) (by decide +kernel) (yields_blk (by rfl) 26 (.tmp 3) rfl rfl (fun w' h => LC.out w' h) (hrC)) ?_
         simp only [Act.put, List.setIfInBounds_toArray, List.set_cons_zero, List.set_cons_succ])
      | (refine SeqS.take2 (v := .agg (D).toArray) (by first | assumption | trivial) (by kernel_rfl) (by decide +kernel) (by decide +kernel) (yields_blk (by rfl) 26 (.tmp 4) rfl rfl (fun w' h => LD.out w' h) (hrD)) ?_
         simp only [Act.put, List.setIfInBounds_toArray, List.set_cons_zero, List.set_cons_succ])
      | (refine SeqS.take2 (v := ?_) (by first | assumption | trivial) (by kernel_rfl) (by decide +kernel) (by decide +kernel) (Or.inl ⟨by rfl, ?_⟩) ?_
         rotate_left
         focus
           intro w' hb'
           go_simp
           with_reducible rfl
         simp only [Act.put, List.setIfInBounds_toArray, List.set_cons_zero, List.set_cons_succ])
      | (refine SeqS.take2 (v := undef) (by first | assumption | trivial) (by kernel_rfl) (by decide +kernel) (by decide +kernel) (Or.inr ⟨by rfl, rfl⟩) ?_
         simp only [Act.put, List.setIfInBounds_toArray, List.set_cons_zero, List.set_cons_succ]))
    refine SeqS.alone (by decide +kernel) (by rfl) (fun K hK => ?_)
    go_simp
    go_at_call 22
    refine (q1.out _ b3).mono ?_
    rintro e w11 ⟨rfl, b11⟩
    go_simp
    have S11 : Below w7.heap.size w7 w11 := b3.trans (b11.mono b3.size)
    refine hK _ _ S11 ?_
    clear hK K
    refine SeqS.alone (by decide +kernel) (by rfl) (fun K hK => ?_)
    go_simp
    go_at_call 13
    refine (q2.out _ S11).mono ?_
    rintro e w12 ⟨rfl, b12⟩
    go_simp
    have S12 : Below w7.heap.size w7 w12 := S11.trans (b12.mono S11.size)
    refine hK _ _ S12 ?_
    clear hK K
    repeat (first
      | (refine SeqS.take (v := .agg (C).toArray) (by first | assumption | trivial) (by kernel_rfl) (by decide +kernel) (by decide +kernel) (yields_blk (by rfl) 26 (.tmp 3) rfl rfl (fun w' h => LC.out w' h) (hrC)) ?_
         simp only [Act.put, List.setIfInBounds_toArray, List.set_cons_zero, List.set_cons_succ])
      | (refine SeqS.take (v := .agg (C1).toArray) (by first | assumption | trivial) (by kernel_rfl) (by decide +kernel) (by decide +kernel) (yields_blk (by rfl) 26 (.tmp 9) rfl rfl (fun w' h => LE.out w' h) (hrE)) ?_
         simp only [Act.put, List.setIfInBounds_toArray, List.set_cons_zero, List.set_cons_succ])
      | (refine SeqS.take (v := ?_) (by first | assumption | trivial) (by kernel_rfl) (by decide +kernel) (by decide +kernel) (Or.inl ⟨by rfl, ?_⟩) ?_
         rotate_left
         focus
           intro w' hb'
           go_simp
           with_reducible rfl
         simp only [Act.put, List.setIfInBounds_toArray, List.set_cons_zero, List.set_cons_succ])
      | (refine SeqS.take (v := undef) (by first | assumption | trivial) (by kernel_rfl) (by decide +kernel) (by decide +kernel) (Or.inr ⟨by rfl, rfl⟩) ?_
         simp only [Act.put, List.setIfInBounds_toArray, List.set_cons_zero, List.set_cons_succ])
      | (refine SeqS.take1 (v := .agg (C).toArray) (by first | assumption | trivial) (by kernel_rfl) (by decide +kernel) (by decide +kernel) (yields_blk (by rfl) 26 (.tmp 3) rfl rfl (fun w' h => LC.out w' h) (hrC)) ?_
         simp only [Act.put, List.setIfInBounds_toArray, List.set_cons_zero, List.set_cons_succ])
      | (refine SeqS.take1 (v := .agg (C1).toArray) (by first | assumption | trivial) (by kernel_rfl) (by decide +kernel) (by decide +kernel) (yields_blk (by rfl) 26 (.tmp 9) rfl rfl (fun w' h => LE.out w' h) (hrE)) ?_
         simp only [Act.put, List.setIfInBounds_toArray, List.set_cons_zero, List.set_cons_succ])
      | (refine SeqS.take1 (v := ?_) (by first | assumption | trivial) (by kernel_rfl) (by decide +kernel) (by decide +kernel) (Or.inl ⟨by rfl, ?_⟩) ?_
         rotate_left
         focus
           intro w' hb'
           go_simp
           with_reducible rfl
         simp only [Act.put, List.setIfInBounds_toArray, List.set_cons_zero, List.set_cons_succ])
      | (refine SeqS.take1 (v := undef) (by first | assumption | trivial) (by kernel_rfl) (by decide +kernel) (by decide +kernel) (Or.inr ⟨by rfl, rfl⟩) ?_
         simp only [Act.put, List.setIfInBounds_toArray, List.set_cons_zero, List.set_cons_succ])
      | (refine SeqS.take2 (v := .agg (C).toArray) (by first | assumption | trivial) (by kernel_rfl) (by decide +kernel) (by decide +kernel) (yields_blk (by rfl) 26 (.tmp 3) rfl rfl (fun w' h => LC.out w' h) (hrC)) ?_
         simp only [Act.put, List.setIfInBounds_toArray, List.set_cons_zero, List.set_cons_succ])
      | (refine SeqS.take2 (v := .agg (C1).toArray) (by first | assumption | trivial) (by kernel_rfl) (by decide +kernel) (by decide +kernel) (yields_blk (by rfl) 26 (.tmp 9) rfl rfl (fun w' h => LE.out w' h) (hrE)) ?_
         simp only [Act.put, List.setIfInBounds_toArray, List.set_cons_zero, List.set_cons_succ])
      | (refine SeqS.take2 (v := ?_) (by first | assumption | trivial) (by kernel_rfl) (by decide +kernel) (by decide +kernel) (Or.inl ⟨by rfl, ?_⟩) ?_
         rotate_left
         focus
           intro w' hb'
           go_simp
           with_reducible rfl
         simp only [Act.put, List.setIfInBounds_toArray, List.set_cons_zero, List.set_cons_succ])
      | (refine SeqS.take2 (v := undef) (by first | assumption | trivial) (by kernel_rfl) (by decide +kernel) (by decide +kernel) (Or.inr ⟨by rfl, rfl⟩) ?_
         simp only [Act.put, List.setIfInBounds_toArray, List.set_cons_zero, List.set_cons_succ]))
    refine SeqS.alone (by decide +kernel) (by rfl) (fun K hK => ?_)
    go_simp
    go_at_call 22
    refine (q3.out _ S12).mono ?_
    rintro e w13 ⟨rfl, b13⟩
    go_simp
    have S13 : Below w7.heap.size w7 w13 := S12.trans (b13.mono S12.size)
    refine hK _ _ S13 ?_
    clear hK K
    repeat (first
      | (refine SeqS.take (v := .agg (C).toArray) (by first | assumption | trivial) (by kernel_rfl) (by decide +kernel) (by decide +kernel) (yields_blk (by rfl) 26 (.tmp 3) rfl rfl (fun w' h => LC.out w' h) (hrC)) ?_
         simp only [Act.put, List.setIfInBounds_toArray, List.set_cons_zero, List.set_cons_succ])
      | (refine SeqS.take (v := .agg (C1).toArray) (by first | assumption | trivial) (by kernel_rfl) (by decide +kernel) (by decide +kernel) (yields_blk (by rfl) 26 (.tmp 9) rfl rfl (fun w' h => LE.out w' h) (hrE)) ?_
         simp only [Act.put, List.setIfInBounds_toArray, List.set_cons_zero, List.set_cons_succ])
      | (refine SeqS.take (v := ?_) (by first | assumption | trivial) (by kernel_rfl) (by decide +kernel) (by decide +kernel) (Or.inl ⟨by rfl, ?_⟩) ?_
         rotate_left
         focus
           intro w' hb'
           go_simp
           with_reducible rfl
         simp only [Act.put, List.setIfInBounds_toArray, List.set_cons_zero, List.set_cons_succ])
      | (refine SeqS.take (v := undef) (by first | assumption | trivial) (by kernel_rfl) (by decide +kernel) (by decide +kernel) (Or.inr ⟨by rfl, rfl⟩) ?_
         simp only [Act.put, List.setIfInBounds_toArray, List.set_cons_zero, List.set_cons_succ])
      | (refine SeqS.take1 (v := .agg (C).toArray) (by first | assumption | trivial) (by kernel_rfl) (by decide +kernel) (by decide +kernel) (yields_blk (by rfl) 26 (.tmp 3) rfl rfl (fun w' h => LC.out w' h) (hrC)) ?_
         simp only [Act.put, List.setIfInBounds_toArray, List.set_cons_zero, List.set_cons_succ])
      | (refine SeqS.take1 (v := .agg (C1).toArray) (by first | assumption | trivial) (by kernel_rfl) (by decide +kernel) (by decide +kernel) (yields_blk (by rfl) 26 (.tmp 9) rfl rfl (fun w' h => LE.out w' h) (hrE)) ?_
         simp only [Act.put, List.setIfInBounds_toArray, List.set_cons_zero, List.set_cons_succ])
      | (refine SeqS.take1 (v := ?_) (by first | assumption | trivial) (by kernel_rfl) (by decide +kernel) (by decide +kernel) (Or.inl ⟨by rfl, ?_⟩) ?_
         rotate_left
         focus
           intro w' hb'
           go_simp
           with_reducible rfl
         simp only [Act.put, List.setIfInBounds_toArray, List.set_cons_zero, List.set_cons_succ])
      | (refine SeqS.take1 (v := undef) (by first | assumption | trivial) (by kernel_rfl) (by decide +kernel) (by decide +kernel) (Or.inr ⟨by rfl, rfl⟩) ?_
         simp only [Act.put, List.setIfInBounds_toArray, List.set_cons_zero, List.set_cons_succ])
      | (refine SeqS.take2 (v := .agg (C).toArray) (by first | assumption | trivial) (by kernel_rfl) (by decide +kernel) (by decide +kernel) (yields_blk (by rfl) 26 (.tmp 3) rfl rfl (fun w' h => LC.out w' h) (hrC)) ?_
         simp only [Act.put, List.setIfInBounds_toArray, List.set_cons_zero, List.set_cons_succ])
      | (refine SeqS.take2 (v := .agg (C1).toArray) (by first | assumption | trivial) (by kernel_rfl) (by decide +kernel) (by decide +kernel) (yields_blk (by rfl) 26 (.tmp 9) rfl rfl (fun w' h => LE.out w' h) (hrE)) ?_
         simp only [Act.put, List.setIfInBounds_toArray, List.set_cons_zero, List.set_cons_succ])
      | (refine SeqS.take2 (v := ?_) (by first | assumption | trivial) (by kernel_rfl) (by decide +kernel) (by decide +kernel) (Or.inl ⟨by rfl, ?_⟩) ?_
         rotate_left
         focus
           intro w' hb'
           go_simp
           with_reducible rfl
         simp only [Act.put, List.setIfInBounds_toArray, List.set_cons_zero, List.set_cons_succ])
      | (refine SeqS.take2 (v := undef) (by first | assumption | trivial) (by kernel_rfl) (by decide +kernel) (by decide +kernel) (Or.inr ⟨by rfl, rfl⟩) ?_
         simp only [Act.put, List.setIfInBounds_toArray, List.set_cons_zero, List.set_cons_succ]))
    refine SeqS.alone (by decide +kernel) (by rfl) (fun K hK => ?_)
    go_simp
    go_at_call 13
    refine (q4.out _ S13).mono ?_
    rintro e w14 ⟨rfl, b14⟩
    go_simp
    have S14 : Below w7.heap.size w7 w14 := S13.trans (b14.mono S13.size)
    refine hK _ _ S14 ?_
    clear hK K
    repeat (first
      | (refine SeqS.take (v := ?_) (by first | assumption | trivial) (by kernel_rfl) (by decide +kernel) (by decide +kernel) (Or.inl ⟨by rfl, ?_⟩) ?_
         rotate_left
         focus
           intro w' hb'
           go_simp
           with_reducible rfl
         simp only [Act.put, List.setIfInBounds_toArray, List.set_cons_zero, List.set_cons_succ])
      | (refine SeqS.take (v := undef) (by first | assumption | trivial) (by kernel_rfl) (by decide +kernel) (by decide +kernel) (Or.inr ⟨by rfl, rfl⟩) ?_
         simp only [Act.put, List.setIfInBounds_toArray, List.set_cons_zero, List.set_cons_succ])
      | (refine SeqS.take1 (v := ?_) (by first | assumption | trivial) (by kernel_rfl) (by decide +kernel) (by decide +kernel) (Or.inl ⟨by rfl, ?_⟩) ?_
         rotate_left
         focus
           intro w' hb'
           go_simp
           with_reducible rfl
         simp only [Act.put, List.setIfInBounds_toArray, List.set_cons_zero, List.set_cons_succ])
      | (refine SeqS.take1 (v := undef) (by first | assumption | trivial) (by kernel_rfl) (by decide +kernel) (by decide +kernel) (Or.inr ⟨by rfl, rfl⟩) ?_
         simp only [Act.put, List.setIfInBounds_toArray, List.set_cons_zero, List.set_cons_succ])
      | (refine SeqS.take2 (v := ?_) (by first | assumption | trivial) (by kernel_rfl) (by decide +kernel) (by decide +kernel) (Or.inl ⟨by rfl, ?_⟩) ?_
         rotate_left
         focus
           intro w' hb'
           go_simp
           with_reducible rfl
         simp only [Act.put, List.setIfInBounds_toArray, List.set_cons_zero, List.set_cons_succ])
      | (refine SeqS.take2 (v := undef) (by first | assumption | trivial) (by kernel_rfl) (by decide +kernel) (by decide +kernel) (Or.inr ⟨by rfl, rfl⟩) ?_
         simp only [Act.put, List.setIfInBounds_toArray, List.set_cons_zero, List.set_cons_succ]))
    refine SeqS.done (by decide +kernel) ?_
    have hG8 := H7.out.1.keep S14 H7.out.1.lt
    have hN8 := H7.out.2.1.keep S14 H7.out.2.1.lt
    have hBy8 := H7.out.2.2.1.keep S14
    have B8 := H7.out.2.2.2.trans (S14.mono H7.out.2.2.2.size)
    clear b3 b11 b12 b13 b14 S11 S12 S13 S14 q1 q2 q3 q4 LC LD LE H7 hrE
    -- the second copy
    go_wp2_with ((with_reducible refine wpList_load_blk rfl 26 (.tmp 3) rfl ?_ hG8 rowBk hCl ?_); rfl)
    refine (t9.out _ B8).mono ?_
    rintro q w9 ⟨b2, d2, rfl, ho9, b9⟩
    have lN := hN8.lt
    have hG9 := hG8.keep b9 hG8.lt
    have hN9 := hN8.keep b9 hN8.lt
    have hBy9 := hBy8.keep b9
    have B9 := B8.trans (b9.mono B8.size)
    have hlo9 : ∀ y, b2 = some y → N < y.block ∧ y.block < w9.heap.size := fun y hy => by have := ho9.lt y.block (by rw [hy]; rfl); omega
    have hT9 := IdsAt.of_owns ho9
    have hlF := hEl.out b2 d2
    have hoF := hE1.out b2 d2
    obtain ⟨C2, hC2⟩ : ∃ C, E b2 d2 = C := ⟨_, rfl⟩
    rw [hC2] at hlF hoF
    have hC2H := Lib.hid hC2
    clear hG8 hN8 hBy8 B8 b9 ho9 t9
    go_wp2_with ((with_reducible refine wpList_alloc_blk rfl 26 rfl hZ0 ?_); refine RowKit.Hid.out ?_)
    refine Lib.hid ?_
    try simp only [Act.put, List.setIfInBounds_toArray, List.set_cons_zero, List.set_cons_succ]
    try simp only [hC2]
    have hGA := hG9.alloc (.cells Z.toArray 26)
    have hNA := hN9.alloc (.cells Z.toArray 26)
    have hOA := Blk.new w9 26 Z
    have bA := below1 w9 (.cells Z.toArray 26)
    have hTA := hT9.keep bA
    have hByA := hBy9.keep bA
    have BA := B9.alloc B9.size (.cells Z.toArray 26)
    have m1 := hG9.lt
    have m2 := hN9.lt
    have m3 := B9.size
    obtain ⟨O, hO⟩ : ∃ N, w9.heap.size = N := ⟨_, rfl⟩
    rw [hO] at hOA m1 m2 m3 hlo9 ⊢
    obtain ⟨U9, hU9⟩ : ∃ W, w9.alloc (.cells Z.toArray 26) = W := ⟨_, rfl⟩
    rw [hU9] at hGA hNA hOA hTA BA hByA ⊢
    clear hG9 hN9 hT9 B9 hBy9 bA hO hU9 hC2
    refine store_row rfl 26 (.tmp 10) (.tmp 105) rfl rfl rfl hOA rowBk hlF hZl hoF ?_
    intro w10 hO10 hg10
    have hG10 := hGA.grown hg10 (fun e => by injection e with e; omega)
    have hN10 := hNA.grown hg10 (fun e => by injection e with e; omega)
    have hT10 := hTA.grownR hg10 (fun y hy h0 e => by injection e with e; have := hlo9 y hy; omega)
    have hBy10 := hByA.grown hg10 (fun q hq e => by injection e with e; obtain ⟨h0, y, hy, hyq⟩ := hq; have := hlo6 y hy; omega)
    have B10 := BA.grown hg10 BA.size (fun q hq => by injection hq with hq; omega)
    have n5 := f5.out w10 N b d (by rw [hC1H.out]; exact hN10)
    have hAt : ∀ q, Atm b n q → w.heap.size ≤ q ∧ q ≠ G ∧ q ≠ N ∧ q < N := fun q ⟨h0, y, hy, hyq⟩ => by have := hlo6 y hy; omega
    clear hGA hNA hOA hTA BA hByA hg10
    go_wp2_with fail
    go_loopw [109] (fun i wr => ∃ j : Nat, j ≤ n ∧ i = .int .i64 j ∧ Bym wr b n d ∧ Moved (Atm b n) w10 wr) (fun i _ => n - (intOf i).toNat)
    case atStart => exact ⟨0, Nat.zero_le _, rfl, hBy10, Moved.rfl'⟩
    case round =>
      clear n5
      obtain ⟨j, hj, rfl, hBy, hMv⟩ := hrel
      have hNr := blk_moved hN10 hMv (fun h => (hAt N h).2.2.1 rfl)
      by_cases hlt : j < n
      · have hji : (j : Int) < (n : Int) := by omega
        obtain ⟨V5, hV5⟩ : ∃ V, wr.drew = V := ⟨_, rfl⟩
        have hByV : Bym V5 b n d := by rw [← hV5]; exact hBy.keep (Below.drew (Below.refl _ _))
        have hNV : Blk V5 N 26 C1 := by rw [← hV5]; exact hNr
        have hMV : Moved (Atm b n) w10 V5 := by rw [← hV5]; exact hMv.then (Moved.of_below (Below.drew (Below.refl _ _)))
        obtain ⟨o, v, hbo, hc, hf, hinc⟩ := hByV.inc j hlt
        have hoN : o ≠ N := fun e => (hAt o ⟨by omega, _, hbo, rfl⟩).2.2.1 e
        subst hbo
        have n5 := f5.out V5 N (some ⟨o, 0, none⟩) d (by rw [hC1H.out]; exact hNV)
        obtain ⟨v', hv'⟩ : ∃ v', (v + 1) % 256 = v' := ⟨_, rfl⟩
        have hv'' : IntKind.u8.wrap (v + 1) = v' := by rw [IntKind.wrap_u8]; exact hv'
        have n5S := Lib.hid (f5.out _ N (some ⟨o, 0, none⟩) d (by rw [hC1H.out]; exact hNV.far (p := ⟨o, j * 32, none⟩) (by show N ≠ o; omega) (.int .u8 v')))
        have hincH := Lib.hid (hinc v')
        have hMvH := Lib.hid hMV
        have hltH := Lib.hid hlt
        clear hlt hj hNr hinc hBy hMv hByV hNV hMV
        go_wp2_with fail
        refine region_seqS (fun w' => w'.cell? ⟨N, 64, none⟩ = some (.slice (some ⟨o, 0, none⟩) n d)) (by kernel_rfl) (by rw [hV5]; exact n5) ?_
        simp only [pairs, Nat.reduceAdd]
        try rw [hV5]
        clear hV5
        repeat (first
          | (refine SeqS.take (v := ?_) (by first | assumption | trivial) (by kernel_rfl) (by decide +kernel) (by decide +kernel) (Or.inl ⟨by rfl, ?_⟩) ?_
             rotate_left
             focus
               intro w' hb'
               go_simp
               with_reducible rfl
             simp only [Act.put, List.setIfInBounds_toArray, List.set_cons_zero, List.set_cons_succ])
          | (refine SeqS.take (v := ?_) (by first | assumption | trivial) (by kernel_rfl) (by decide +kernel) (by decide +kernel) (Or.inl ⟨by rfl, ?_⟩) ?_
             rotate_left
             focus
               intro w' hb'
               have d0 := hb'
               go_simp
               with_reducible rfl
             simp only [Act.put, List.setIfInBounds_toArray, List.set_cons_zero, List.set_cons_succ])
          | (refine SeqS.take (v := undef) (by first | assumption | trivial) (by kernel_rfl) (by decide +kernel) (by decide +kernel) (Or.inr ⟨by rfl, rfl⟩) ?_
             simp only [Act.put, List.setIfInBounds_toArray, List.set_cons_zero, List.set_cons_succ])
          | (refine SeqS.take1 (v := ?_) (by first | assumption | trivial) (by kernel_rfl) (by decide +kernel) (by decide +kernel) (Or.inl ⟨by rfl, ?_⟩) ?_
             rotate_left
             focus
               intro w' hb'
               go_simp
               with_reducible rfl
             simp only [Act.put, List.setIfInBounds_toArray, List.set_cons_zero, List.set_cons_succ])
          | (refine SeqS.take1 (v := ?_) (by first | assumption | trivial) (by kernel_rfl) (by decide +kernel) (by decide +kernel) (Or.inl ⟨by rfl, ?_⟩) ?_
             rotate_left
             focus
               intro w' hb'
               have d0 := hb'
               go_simp
               with_reducible rfl
             simp only [Act.put, List.setIfInBounds_toArray, List.set_cons_zero, List.set_cons_succ])
          | (refine SeqS.take1 (v := undef) (by first | assumption | trivial) (by kernel_rfl) (by decide +kernel) (by decide +kernel) (Or.inr ⟨by rfl, rfl⟩) ?_
             simp only [Act.put, List.setIfInBounds_toArray, List.set_cons_zero, List.set_cons_succ])
          | (refine SeqS.take2 (v := ?_) (by first | assumption | trivial) (by kernel_rfl) (by decide +kernel) (by decide +kernel) (Or.inl ⟨by rfl, ?_⟩) ?_
             rotate_left
             focus
               intro w' hb'
               go_simp
               with_reducible rfl
             simp only [Act.put, List.setIfInBounds_toArray, List.set_cons_zero, List.set_cons_succ])
          | (refine SeqS.take2 (v := ?_) (by first | assumption | trivial) (by kernel_rfl) (by decide +kernel) (by decide +kernel) (Or.inl ⟨by rfl, ?_⟩) ?_
             rotate_left
             focus
               intro w' hb'
               have d0 := hb'
               go_simp
               with_reducible rfl
             simp only [Act.put, List.setIfInBounds_toArray, List.set_cons_zero, List.set_cons_succ])
          | (refine SeqS.take2 (v := undef) (by first | assumption | trivial) (by kernel_rfl) (by decide +kernel) (by decide +kernel) (Or.inr ⟨by rfl, rfl⟩) ?_
             simp only [Act.put, List.setIfInBounds_toArray, List.set_cons_zero, List.set_cons_succ])
          | (refine SeqS.take3 (v := ?_) (by first | assumption | trivial) (by kernel_rfl) (by decide +kernel) (by decide +kernel) (Or.inl ⟨by rfl, ?_⟩) ?_
             rotate_left
             focus
               intro w' hb'
               go_simp
               with_reducible rfl
             simp only [Act.put, List.setIfInBounds_toArray, List.set_cons_zero, List.set_cons_succ])
          | (refine SeqS.take3 (v := ?_) (by first | assumption | trivial) (by kernel_rfl) (by decide +kernel) (by decide +kernel) (Or.inl ⟨by rfl, ?_⟩) ?_
             rotate_left
             focus
               intro w' hb'
               have d0 := hb'
               go_simp
               with_reducible rfl
             simp only [Act.put, List.setIfInBounds_toArray, List.set_cons_zero, List.set_cons_succ])
          | (refine SeqS.take3 (v := undef) (by first | assumption | trivial) (by kernel_rfl) (by decide +kernel) (by decide +kernel) (Or.inr ⟨by rfl, rfl⟩) ?_
             simp only [Act.put, List.setIfInBounds_toArray, List.set_cons_zero, List.set_cons_succ]))
        refine SeqS.alone (by decide +kernel) (by rfl) (fun K5 hK5 => ?_)
        go_simp
        refine hK5 _ _ n5 ?_
        clear hK5 K5
        try simp only [Act.put, List.setIfInBounds_toArray, List.set_cons_zero, List.set_cons_succ]
        repeat (first
          | (refine SeqS.take (v := ?_) (by first | assumption | trivial) (by kernel_rfl) (by decide +kernel) (by decide +kernel) (Or.inl ⟨by rfl, ?_⟩) ?_
             rotate_left
             focus
               intro w' hb'
               go_simp
               with_reducible rfl
             simp only [Act.put, List.setIfInBounds_toArray, List.set_cons_zero, List.set_cons_succ])
          | (refine SeqS.take (v := ?_) (by first | assumption | trivial) (by kernel_rfl) (by decide +kernel) (by decide +kernel) (Or.inl ⟨by rfl, ?_⟩) ?_
             rotate_left
             focus
               intro w' hb'
               have d0 := hv'
               go_simp
               with_reducible rfl
             simp only [Act.put, List.setIfInBounds_toArray, List.set_cons_zero, List.set_cons_succ])
          | (refine SeqS.take (v := undef) (by first | assumption | trivial) (by kernel_rfl) (by decide +kernel) (by decide +kernel) (Or.inr ⟨by rfl, rfl⟩) ?_
             simp only [Act.put, List.setIfInBounds_toArray, List.set_cons_zero, List.set_cons_succ])
          | (refine SeqS.take1 (v := ?_) (by first | assumption | trivial) (by kernel_rfl) (by decide +kernel) (by decide +kernel) (Or.inl ⟨by rfl, ?_⟩) ?_
             rotate_left
             focus
               intro w' hb'
               go_simp
               with_reducible rfl
             simp only [Act.put, List.setIfInBounds_toArray, List.set_cons_zero, List.set_cons_succ])
          | (refine SeqS.take1 (v := ?_) (by first | assumption | trivial) (by kernel_rfl) (by decide +kernel) (by decide +kernel) (Or.inl ⟨by rfl, ?_⟩) ?_
             rotate_left
             focus
               intro w' hb'
               have d0 := hv'
               go_simp
               with_reducible rfl
             simp only [Act.put, List.setIfInBounds_toArray, List.set_cons_zero, List.set_cons_succ])
          | (refine SeqS.take1 (v := undef) (by first | assumption | trivial) (by kernel_rfl) (by decide +kernel) (by decide +kernel) (Or.inr ⟨by rfl, rfl⟩) ?_
             simp only [Act.put, List.setIfInBounds_toArray, List.set_cons_zero, List.set_cons_succ])
          | (refine SeqS.take2 (v := ?_) (by first | assumption | trivial) (by kernel_rfl) (by decide +kernel) (by decide +kernel) (Or.inl ⟨by rfl, ?_⟩) ?_
             rotate_left
             focus
               intro w' hb'
               go_simp
               with_reducible rfl
             simp only [Act.put, List.setIfInBounds_toArray, List.set_cons_zero, List.set_cons_succ])
          | (refine SeqS.take2 (v := ?_) (by first | assumption | trivial) (by kernel_rfl) (by decide +kernel) (by decide +kernel) (Or.inl ⟨by rfl, ?_⟩) ?_
             rotate_left
             focus
               intro w' hb'
               have d0 := hv'
               go_simp
               with_reducible rfl
             simp only [Act.put, List.setIfInBounds_toArray, List.set_cons_zero, List.set_cons_succ])
          | (refine SeqS.take2 (v := undef) (by first | assumption | trivial) (by kernel_rfl) (by decide +kernel) (by decide +kernel) (Or.inr ⟨by rfl, rfl⟩) ?_
             simp only [Act.put, List.setIfInBounds_toArray, List.set_cons_zero, List.set_cons_succ]))
        refine SeqS.alone (by decide +kernel) (by rfl) (fun K5 hK5 => ?_)
        go_simp
        refine hK5 _ _ n5S.out ?_
        clear hK5 K5
        refine SeqS.done (by decide +kernel) ?_
        go_wp2
        exact ⟨⟨j + 1, by have := hltH.out; omega, by congr 1, hincH.out.1, hMvH.out.then hincH.out.2⟩, by simp only [intOf]; have := hltH.out; omega⟩
      · have hji : ¬ (j : Int) < (n : Int) := by omega
        have hGr := blk_moved hG10 hMv (fun h => (hAt G h).2.1 rfl)
        have hOr := blk_moved hO10 hMv (fun h => by have := (hAt O h).2.2.2; omega)
        have Br := B10.trans (hMv.below (fun q hq => (hAt q hq).1) B10.size)
        have hTr := ids_stay hT10 hMv (fun y hy h0 h => by have := (hAt _ h).2.2.2; have := hlo9 y hy; omega)
        have sm := Lib.hid (u4.out wr b2 d2 Br hTr)
        rw [hC2H.out] at sm
        clear hlt hj hMv hBy hBy10 hG10 hN10 hNr hO10 B10 hT10 hTr
        go_wp2_with (first
          | ((with_reducible refine wpList_load_blk rfl 26 (.tmp 3) rfl ?_ hGr rowBk hCl ?_); rfl)
          | ((with_reducible refine wpList_load_blk rfl 26 (.tmp 10) rfl ?_ hOr rowBk hlF ?_); rfl))
        refine sm.out.mono ?_
        rintro q w11 ⟨rfl, b11⟩
        have B11 := Br.trans (b11.mono Br.size)
        clear sm hGr hOr Br b11
        go_wp2_with fail
        refine (alive16_any w11).mono ?_
        rintro q w12 ⟨rfl, b12⟩
        go_wp2
        go_ret
        exact ⟨by first | rfl | simp, B11.trans (b12.mono B11.size)⟩
  · have hni : (0 : Int) < (n : Int) := by omega
    have hnH := Lib.hid hn
    have ho : (A : Int) % 2 = 1 := by omega
    have ho' : (A : Int).tmod 2 = 1 := by rw [Int.tmod_eq_emod_of_nonneg (by omega)]; exact ho
    clear h0 hz hn
    go_enter Try.func5, Try.ntmps5
    go_wp2_with (first
      | ((with_reducible refine box_row rfl 26 (.tmp 0) rfl C ?_ ?_); rfl)
      | ((with_reducible refine box_row rfl 26 (.tmp 1) rfl D ?_ ?_); rfl; refine RowKit.Hid.out ?_))
    refine Lib.hid ?_
    clear hV
    go_wp2_with ((with_reducible refine wpList_load_blk rfl 26 (.tmp 3) rfl ?_ hk rowBk hCl ?_); rfl)
    refine (fw1.out V).mono ?_
    rintro q w1 ⟨rfl, b1⟩
    have hk := hk.keep b1 hk.lt
    have hk2 := hk2.keep b1 hk2.lt
    have hb := hb.trans (b1.mono hb.size)
    clear fw1 b1
    go_wp2_with ((with_reducible refine load_if rfl 26 (.tmp 4) rfl ?_ hk2 rowBk hDl ?_); rfl)
    refine (fw2.out w1).mono ?_
    rintro q w2 ⟨rfl, b2⟩
    have hk := hk.keep b2 hk.lt
    have hk2 := hk2.keep b2 hk2.lt
    have hb := hb.trans (b2.mono hb.size)
    clear fw2 b2
    have p0 := e0.out w2 G hk
    go_wp2_with (first
      | ((with_reducible refine wpList_load_part rfl 23 (.tmp 21) rfl ?_ X0 p0 hrX ?_); rfl)
      | ((with_reducible refine wpList_alloc_blk rfl 23 rfl hR0 ?_); refine RowKit.Hid.out ?_))
    refine Lib.hid ?_
    try simp only [Act.put, List.setIfInBounds_toArray, List.set_cons_zero, List.set_cons_succ]
    have hGA := hk.alloc (.cells Zr.toArray 23)
    have hDA := hk2.alloc (.cells Zr.toArray 23)
    have hIA := Blk.new w2 23 Zr
    have BA := hb.alloc hb.size (.cells Zr.toArray 23)
    have l1 := hk.lt
    have l2 := hk2.lt
    have l3 := hb.size
    obtain ⟨I, hI⟩ : ∃ N, w2.heap.size = N := ⟨_, rfl⟩
    rw [hI] at hIA l1 l2 l3 ⊢
    obtain ⟨U, hU⟩ : ∃ W, w2.alloc (.cells Zr.toArray 23) = W := ⟨_, rfl⟩
    rw [hU] at hGA hDA hIA BA ⊢
    clear hk hk2 hb hI hU p0
    refine store_row rfl 23 (.tmp 7) (.tmp 22) rfl rfl rfl hIA rowId9 hX0l hRl hX01 ?_
    intro wq hI3 hg3
    have hG3 := hGA.grown hg3 (fun e => by injection e with e; omega)
    have hD3 := hDA.grown hg3 (fun e => by injection e with e; omega)
    have B3 := BA.grown hg3 BA.size (fun q hq => by injection hq with hq; omega)
    have c2 := e2.out wq G hG3
    clear hGA hDA hIA BA hg3
    rw [hXX.out] at hI3
    -- the hint
    have hIlt := hI3.lt
    have hpart := hph.out wq I hI3
    have hat := fun cap v => run_array_at9 (P := Try.prog) 38 5 16 Try.underlying38 (some ⟨I, 0, none⟩) 16 cap (by decide) v
    go_wp2_with (first
      | ((with_reducible refine wpList_load_part rfl 38 (.tmp 44) rfl ?_ XH hpart hrXH ?_); rfl)
      | ((with_reducible refine wpList_alloc_blk rfl 38 rfl hJ0 ?_); refine RowKit.Hid.out ?_))
    refine Lib.hid ?_
    try simp only [Act.put, List.setIfInBounds_toArray, List.set_cons_zero, List.set_cons_succ]
    have hGA := hG3.alloc (.cells Zh.toArray 38)
    have hDA := hD3.alloc (.cells Zh.toArray 38)
    have hIA := hI3.alloc (.cells Zh.toArray 38)
    have hJA := Blk.new wq 38 Zh
    have BA := B3.alloc B3.size (.cells Zh.toArray 38)
    have l4 := hG3.lt
    have l5 := hD3.lt
    have l6 := B3.size
    obtain ⟨J, hJ⟩ : ∃ N, wq.heap.size = N := ⟨_, rfl⟩
    rw [hJ] at hJA l4 l5 l6 hIlt ⊢
    obtain ⟨U4, hU4⟩ : ∃ W, wq.alloc (.cells Zh.toArray 38) = W := ⟨_, rfl⟩
    rw [hU4] at hGA hDA hIA hJA BA ⊢
    clear hG3 hD3 hI3 B3 hJ hU4 hpart hat
    refine store_row rfl 38 (.tmp 8) (.tmp 45) rfl rfl rfl hJA rowHint9 hXHl hZhl hXH1 ?_
    intro w4 hJ4 hg4
    have hG4 := hGA.grown hg4 (fun e => by injection e with e; omega)
    have hD4 := hDA.grown hg4 (fun e => by injection e with e; omega)
    have hI4 := hIA.grown hg4 (fun e => by injection e with e; omega)
    have B4 := BA.grown hg4 BA.size (fun q hq => by injection hq with hq; omega)
    clear hGA hDA hIA hJA BA hg4
    -- what is asked
    have LC := Lib.hid (fun w' (h : Below w4.heap.size w4 w') => hG4.keep h hG4.lt)
    have LD := Lib.hid (fun w' (h : Below w4.heap.size w4 w') => hD4.keep h hD4.lt)
    have LX := Lib.hid (fun w' (h : Below w4.heap.size w4 w') => hI4.keep h hI4.lt)
    have LH := Lib.hid (fun w' (h : Below w4.heap.size w4 w') => hJ4.keep h hJ4.lt)
    have PC := Lib.hid (fun w' (h : Below w4.heap.size w4 w') => e0.out w' G (LC.out w' h))
    have PD := Lib.hid (fun w' (h : Below w4.heap.size w4 w') => f1.out w' (G + 1) (LD.out w' h))
    have BB := Lib.hid (fun w' (h : Below w4.heap.size w4 w') => B4.trans (h.mono B4.size))
    have b3 : Below w4.heap.size w4 w4.drew := (Below.refl _ _).drew
    clear hI4 hJ4 hIlt c2 l4 l5 l6 l1 l2 l3
    go_wp2_with fail
    have HG4 := Lib.hid (And.intro hG4 (And.intro hD4 B4))
    clear hG4 hD4 B4
    refine region_seqS (fun w' => Below w4.heap.size w4 w') (by kernel_rfl) b3 ?_
    simp only [pairs, Nat.reduceAdd]
    repeat (first
      | (refine SeqS.take (v := .agg (C).toArray) (by first | assumption | trivial) (by kernel_rfl) (by decide +kernel) (by decide +kernel) (yields_blk (by rfl) 26 (.tmp 3) rfl rfl (fun w' h => LC.out w' h) (hrC)) ?_
         simp only [Act.put, List.setIfInBounds_toArray, List.set_cons_zero, List.set_cons_succ])
      | (refine SeqS.take (v := .agg (X).toArray) (by first | assumption | trivial) (by kernel_rfl) (by decide +kernel) (by decide +kernel) (yields_blk (by rfl) 23 (.tmp 7) rfl rfl (fun w' h => LX.out w' h) (hrXx)) ?_
         simp only [Act.put, List.setIfInBounds_toArray, List.set_cons_zero, List.set_cons_succ])
      | (refine SeqS.take (v := ?_) (by first | assumption | trivial) (by kernel_rfl) (by decide +kernel) (by decide +kernel) (Or.inl ⟨by rfl, ?_⟩) ?_
         rotate_left
         focus
           intro w' hb'
           go_simp
           with_reducible rfl
         simp only [Act.put, List.setIfInBounds_toArray, List.set_cons_zero, List.set_cons_succ])
      | (refine SeqS.take (v := undef) (by first | assumption | trivial) (by kernel_rfl) (by decide +kernel) (by decide +kernel) (Or.inr ⟨by rfl, rfl⟩) ?_
         simp only [Act.put, List.setIfInBounds_toArray, List.set_cons_zero, List.set_cons_succ])
      | (refine SeqS.take1 (v := .agg (C).toArray) (by first | assumption | trivial) (by kernel_rfl) (by decide +kernel) (by decide +kernel) (yields_blk (by rfl) 26 (.tmp 3) rfl rfl (fun w' h => LC.out w' h) (hrC)) ?_
         simp only [Act.put, List.setIfInBounds_toArray, List.set_cons_zero, List.set_cons_succ])
      | (refine SeqS.take1 (v := .agg (X).toArray) (by first | assumption | trivial) (by kernel_rfl) (by decide +kernel) (by decide +kernel) (yields_blk (by rfl) 23 (.tmp 7) rfl rfl (fun w' h => LX.out w' h) (hrXx)) ?_
         simp only [Act.put, List.setIfInBounds_toArray, List.set_cons_zero, List.set_cons_succ])
      | (refine SeqS.take1 (v := ?_) (by first | assumption | trivial) (by kernel_rfl) (by decide +kernel) (by decide +kernel) (Or.inl ⟨by rfl, ?_⟩) ?_
         rotate_left
         focus
           intro w' hb'
           go_simp
           with_reducible rfl
         simp only [Act.put, List.setIfInBounds_toArray, List.set_cons_zero, List.set_cons_succ])
      | (refine SeqS.take1 (v := undef) (by first | assumption | trivial) (by kernel_rfl) (by decide +kernel) (by decide +kernel) (Or.inr ⟨by rfl, rfl⟩) ?_
         simp only [Act.put, List.setIfInBounds_toArray, List.set_cons_zero, List.set_cons_succ])
      | (refine SeqS.take2 (v := .agg (C).toArray) (by first | assumption | trivial) (by kernel_rfl) (by decide +kernel) (by decide +kernel) (yields_blk (by rfl) 26 (.tmp 3) rfl rfl (fun w' h => LC.out w' h) (hrC)) ?_
         simp only [Act.put, List.setIfInBounds_toArray, List.set_cons_zero, List.set_cons_succ])
      | (refine SeqS.take2 (v := .agg (X).toArray) (by first | assumption | trivial) (by kernel_rfl) (by decide +kernel) (by decide +kernel) (yields_blk (by rfl) 23 (.tmp 7) rfl rfl (fun w' h => LX.out w' h) (hrXx)) ?_
         simp only [Act.put, List.setIfInBounds_toArray, List.set_cons_zero, List.set_cons_succ])
      | (refine SeqS.take2 (v := ?_) (by first | assumption | trivial) (by kernel_rfl) (by decide +kernel) (by decide +kernel) (Or.inl ⟨by rfl, ?_⟩) ?_
         rotate_left
         focus
           intro w' hb'
           go_simp
           with_reducible rfl
         simp only [Act.put, List.setIfInBounds_toArray, List.set_cons_zero, List.set_cons_succ])
      | (refine SeqS.take2 (v := undef) (by first | assumption | trivial) (by kernel_rfl) (by decide +kernel) (by decide +kernel) (Or.inr ⟨by rfl, rfl⟩) ?_
         simp only [Act.put, List.setIfInBounds_toArray, List.set_cons_zero, List.set_cons_succ]))
    refine SeqS.alone (by decide +kernel) (by rfl) (fun K hK => ?_)
    go_simp
    go_at_call 15
    refine (t1.out _ (BB.out _ b3)).mono ?_
    rintro e w11 ⟨rfl, b11⟩
    go_simp
    have S11 : Below w4.heap.size w4 w11 := b3.trans (b11.mono b3.size)
    refine hK _ _ S11 ?_
    clear hK K
    refine SeqS.alone (by decide +kernel) (by rfl) (fun K hK => ?_)
    go_simp
    go_at_call 16
    refine (t2.out _ (BB.out _ S11)).mono ?_
    rintro e w12 ⟨rfl, b12⟩
    go_simp
    have S12 : Below w4.heap.size w4 w12 := S11.trans (b12.mono S11.size)
    refine hK _ _ S12 ?_
    clear hK K
    repeat (first
      | (refine SeqS.take (v := .agg (D).toArray) (by first | assumption | trivial) (by kernel_rfl) (by decide +kernel) (by decide +kernel) (yields_blk (by rfl) 26 (.tmp 4) rfl rfl (fun w' h => LD.out w' h) (hrD)) ?_
         simp only [Act.put, List.setIfInBounds_toArray, List.set_cons_zero, List.set_cons_succ])
      | (refine SeqS.take (v := .agg (X).toArray) (by first | assumption | trivial) (by kernel_rfl) (by decide +kernel) (by decide +kernel) (yields_blk (by rfl) 23 (.tmp 7) rfl rfl (fun w' h => LX.out w' h) (hrXx)) ?_
         simp only [Act.put, List.setIfInBounds_toArray, List.set_cons_zero, List.set_cons_succ])
      | (refine SeqS.take (v := ?_) (by first | assumption | trivial) (by kernel_rfl) (by decide +kernel) (by decide +kernel) (Or.inl ⟨by rfl, ?_⟩) ?_
         rotate_left
         focus
           intro w' hb'
           go_simp
           with_reducible rfl
         simp only [Act.put, List.setIfInBounds_toArray, List.set_cons_zero, List.set_cons_succ])
      | (refine SeqS.take (v := undef) (by first | assumption | trivial) (by kernel_rfl) (by decide +kernel) (by decide +kernel) (Or.inr ⟨by rfl, rfl⟩) ?_
         simp only [Act.put, List.setIfInBounds_toArray, List.set_cons_zero, List.set_cons_succ])
      | (refine SeqS.take1 (v := .agg (D).toArray) (by first | assumption | trivial) (by kernel_rfl) (by decide +kernel) (by decide +kernel) (yields_blk (by rfl) 26 (.tmp 4) rfl rfl (fun w' h => LD.out w' h) (hrD)) ?_
         simp only [Act.put, List.setIfInBounds_toArray, List.set_cons_zero, List.set_cons_succ])
      | (refine SeqS.take1 (v := .agg (X).toArray) (by first | assumption | trivial) (by kernel_rfl) (by decide +kernel) (by decide +kernel) (yields_blk (by rfl) 23 (.tmp 7) rfl rfl (fun w' h => LX.out w' h) (hrXx)) ?_
         simp only [Act.put, List.setIfInBounds_toArray, List.set_cons_zero, List.set_cons_succ])
      | (refine SeqS.take1 (v := ?_) (by first | assumption | trivial) (by kernel_rfl) (by decide +kernel) (by decide +kernel) (Or.inl ⟨by rfl, ?_⟩) ?_
         rotate_left
         focus
           intro w' hb'
           go_simp
           with_reducible rfl
         simp only [Act.put, List.setIfInBounds_toArray, List.set_cons_zero, List.set_cons_succ])
      | (refine SeqS.take1 (v := undef) (by first | assumption | trivial) (by kernel_rfl) (by decide +kernel) (by decide +kernel) (Or.inr ⟨by rfl, rfl⟩) ?_
         simp only [Act.put, List.setIfInBounds_toArray, List.set_cons_zero, List.set_cons_succ])
      | (refine SeqS.take2 (v := .agg (D).toArray) (by first | assumption | trivial) (by kernel_rfl) (by decide +kernel) (by decide +kernel) (yields_blk (by rfl) 26 (.tmp 4) rfl rfl (fun w' h => LD.out w' h) (hrD)) ?_
         simp only [Act.put, List.setIfInBounds_toArray, List.set_cons_zero, List.set_cons_succ])
      | (refine SeqS.take2 (v := .agg (X).toArray) (by first | assumption | trivial) (by kernel_rfl) (by decide +kernel) (by decide +kernel) (yields_blk (by rfl) 23 (.tmp 7) rfl rfl (fun w' h => LX.out w' h) (hrXx)) ?_
         simp only [Act.put, List.setIfInBounds_toArray, List.set_cons_zero, List.set_cons_succ])
      | (refine SeqS.take2 (v := ?_) (by first | assumption | trivial) (by kernel_rfl) (by decide +kernel) (by decide +kernel) (Or.inl ⟨by rfl, ?_⟩) ?_
         rotate_left
         focus
           intro w' hb'
           go_simp
           with_reducible rfl
         simp only [Act.put, List.setIfInBounds_toArray, List.set_cons_zero, List.set_cons_succ])
      | (refine SeqS.take2 (v := undef) (by first | assumption | trivial) (by kernel_rfl) (by decide +kernel) (by decide +kernel) (Or.inr ⟨by rfl, rfl⟩) ?_
         simp only [Act.put, List.setIfInBounds_toArray, List.set_cons_zero, List.set_cons_succ]))
    refine SeqS.alone (by decide +kernel) (by rfl) (fun K hK => ?_)
    go_simp
    go_at_call 15
    refine (t3.out _ (BB.out _ S12)).mono ?_
    rintro e w13 ⟨rfl, b13⟩
    go_simp
    have S13 : Below w4.heap.size w4 w13 := S12.trans (b13.mono S12.size)
    refine hK _ _ S13 ?_
    clear hK K
    refine SeqS.alone (by decide +kernel) (by rfl) (fun K hK => ?_)
    go_simp
    go_at_call 16
    refine (t4.out _ (BB.out _ S13)).mono ?_
    rintro e w14 ⟨rfl, b14⟩
    go_simp
    have S14 : Below w4.heap.size w4 w14 := S13.trans (b14.mono S13.size)
    refine hK _ _ S14 ?_
    clear hK K
    repeat (first
      | (refine SeqS.take (v := .agg (C).toArray) (by first | assumption | trivial) (by kernel_rfl) (by decide +kernel) (by decide +kernel) (yields_blk (by rfl) 26 (.tmp 3) rfl rfl (fun w' h => LC.out w' h) (hrC)) ?_
         simp only [Act.put, List.setIfInBounds_toArray, List.set_cons_zero, List.set_cons_succ])
      | (refine SeqS.take (v := .agg (XH).toArray) (by first | assumption | trivial) (by kernel_rfl) (by decide +kernel) (by decide +kernel) (yields_blk (by rfl) 38 (.tmp 8) rfl rfl (fun w' h => LH.out w' h) (hrXH)) ?_
         simp only [Act.put, List.setIfInBounds_toArray, List.set_cons_zero, List.set_cons_succ])
      | (refine SeqS.take (v := ?_) (by first | assumption | trivial) (by kernel_rfl) (by decide +kernel) (by decide +kernel) (Or.inl ⟨by rfl, ?_⟩) ?_
         rotate_left
         focus
           intro w' hb'
           go_simp
           with_reducible rfl
         simp only [Act.put, List.setIfInBounds_toArray, List.set_cons_zero, List.set_cons_succ])
      | (refine SeqS.take (v := undef) (by first | assumption | trivial) (by kernel_rfl) (by decide +kernel) (by decide +kernel) (Or.inr ⟨by rfl, rfl⟩) ?_
         simp only [Act.put, List.setIfInBounds_toArray, List.set_cons_zero, List.set_cons_succ])
      | (refine SeqS.take1 (v := .agg (C).toArray) (by first | assumption | trivial) (by kernel_rfl) (by decide +kernel) (by decide +kernel) (yields_blk (by rfl) 26 (.tmp 3) rfl rfl (fun w' h => LC.out w' h) (hrC)) ?_
         simp only [Act.put, List.setIfInBounds_toArray, List.set_cons_zero, List.set_cons_succ])
      | (refine SeqS.take1 (v := .agg (XH).toArray) (by first | assumption | trivial) (by kernel_rfl) (by decide +kernel) (by decide +kernel) (yields_blk (by rfl) 38 (.tmp 8) rfl rfl (fun w' h => LH.out w' h) (hrXH)) ?_
         simp only [Act.put, List.setIfInBounds_toArray, List.set_cons_zero, List.set_cons_succ])
      | (refine SeqS.take1 (v := ?_) (by first | assumption | trivial) (by kernel_rfl) (by decide +kernel) (by decide +kernel) (Or.inl ⟨by rfl, ?_⟩) ?_
         rotate_left
         focus
           intro w' hb'
           go_simp
           with_reducible rfl
         simp only [Act.put, List.setIfInBounds_toArray, List.set_cons_zero, List.set_cons_succ])
      | (refine SeqS.take1 (v := undef) (by first | assumption | trivial) (by kernel_rfl) (by decide +kernel) (by decide +kernel) (Or.inr ⟨by rfl, rfl⟩) ?_
         simp only [Act.put, List.setIfInBounds_toArray, List.set_cons_zero, List.set_cons_succ])
      | (refine SeqS.take2 (v := .agg (C).toArray) (by first | assumption | trivial) (by kernel_rfl) (by decide +kernel) (by decide +kernel) (yields_blk (by rfl) 26 (.tmp 3) rfl rfl (fun w' h => LC.out w' h) (hrC)) ?_
         simp only [Act.put, List.setIfInBounds_toArray, List.set_cons_zero, List.set_cons_succ])
      | (refine SeqS.take2 (v := .agg (XH).toArray) (by first | assumption | trivial) (by kernel_rfl) (by decide +kernel) (by decide +kernel) (yields_blk (by rfl) 38 (.tmp 8) rfl rfl (fun w' h => LH.out w' h) (hrXH)) ?_
         simp only [Act.put, List.setIfInBounds_toArray, List.set_cons_zero, List.set_cons_succ])
      | (refine SeqS.take2 (v := ?_) (by first | assumption | trivial) (by kernel_rfl) (by decide +kernel) (by decide +kernel) (Or.inl ⟨by rfl, ?_⟩) ?_
         rotate_left
         focus
           intro w' hb'
           go_simp
           with_reducible rfl
         simp only [Act.put, List.setIfInBounds_toArray, List.set_cons_zero, List.set_cons_succ])
      | (refine SeqS.take2 (v := undef) (by first | assumption | trivial) (by kernel_rfl) (by decide +kernel) (by decide +kernel) (Or.inr ⟨by rfl, rfl⟩) ?_
         simp only [Act.put, List.setIfInBounds_toArray, List.set_cons_zero, List.set_cons_succ]))
    refine SeqS.alone (by decide +kernel) (by rfl) (fun K hK => ?_)
    go_simp
    go_at_call 18
    refine (t5.out _ (BB.out _ S14)).mono ?_
    rintro e w15 ⟨hb5, hd5, rfl, hI5, -, b15⟩
    go_simp
    have S15 : Below w4.heap.size w4 w15 := S14.trans (b15.mono S14.size)
    refine hK _ _ S15 ?_
    clear hK K
    refine SeqS.alone (by decide +kernel) (by rfl) (fun K hK => ?_)
    go_simp
    go_at_call 19
    refine (t6.out _ (BB.out _ S15)).mono ?_
    rintro e w16 ⟨hb6, hd6, rfl, hI6, -, b16⟩
    go_simp
    have S16 : Below w4.heap.size w4 w16 := S15.trans (b16.mono S15.size)
    refine hK _ _ S16 ?_
    clear hK K
    refine SeqS.alone (by decide +kernel) (by rfl) (fun K hK => ?_)
    go_simp
    go_at_call 17
    refine (t7.out _ _ _ _ _ (hI5.keep b16) hI6).mono ?_
    rintro e w17 ⟨rfl, b17⟩
    go_simp
    have S17 : Below w4.heap.size w4 w17 := S16.trans (b17.mono S16.size)
    refine hK _ _ S17 ?_
    clear hK K
    repeat (first
      | (refine SeqS.take (v := .agg (C).toArray) (by first | assumption | trivial) (by kernel_rfl) (by decide +kernel) (by decide +kernel) (yields_blk (by rfl) 26 (.tmp 3) rfl rfl (fun w' h => LC.out w' h) (hrC)) ?_
         simp only [Act.put, List.setIfInBounds_toArray, List.set_cons_zero, List.set_cons_succ])
      | (refine SeqS.take (v := .agg (D).toArray) (by first | assumption | trivial) (by kernel_rfl) (by decide +kernel) (by decide +kernel) (yields_blk (by rfl) 26 (.tmp 4) rfl rfl (fun w' h => LD.out w' h) (hrD)) ?_
         simp only [Act.put, List.setIfInBounds_toArray, List.set_cons_zero, List.set_cons_succ])
      | (refine SeqS.take (v := .agg (Y1).toArray) (by first | assumption | trivial) (by kernel_rfl) (by decide +kernel) (by decide +kernel) (yields_part (by rfl) 23 (.tmp 76) rfl rfl (fun w' h => PD.out w' h) (hrY)) ?_
         simp only [Act.put, List.setIfInBounds_toArray, List.set_cons_zero, List.set_cons_succ])
      | (refine SeqS.take (v := .agg (X0).toArray) (by first | assumption | trivial) (by kernel_rfl) (by decide +kernel) (by decide +kernel) (yields_part (by rfl) 23 (.tmp 78) rfl rfl (fun w' h => PC.out w' h) (hrX)) ?_
         simp only [Act.put, List.setIfInBounds_toArray, List.set_cons_zero, List.set_cons_succ])
      | (refine SeqS.take (v := ?_) (by first | assumption | trivial) (by kernel_rfl) (by decide +kernel) (by decide +kernel) (Or.inl ⟨by rfl, ?_⟩) ?_
         rotate_left
         focus
           intro w' hb'
           go_simp
           with_reducible rfl
         simp only [Act.put, List.setIfInBounds_toArray, List.set_cons_zero, List.set_cons_succ])
      | (refine SeqS.take (v := ?_) (by first | assumption | trivial) (by kernel_rfl) (by decide +kernel) (by decide +kernel) (Or.inl ⟨by rfl, ?_⟩) ?_
         rotate_left
         focus
           intro w' hb'
           have d0 := hqc.out w'
           go_simp
           with_reducible rfl
         simp only [Act.put, List.setIfInBounds_toArray, List.set_cons_zero, List.set_cons_succ])
      | (refine SeqS.take (v := undef) (by first | assumption | trivial) (by kernel_rfl) (by decide +kernel) (by decide +kernel) (Or.inr ⟨by rfl, rfl⟩) ?_
         simp only [Act.put, List.setIfInBounds_toArray, List.set_cons_zero, List.set_cons_succ])
      | (refine SeqS.take1 (v := .agg (C).toArray) (by first | assumption | trivial) (by kernel_rfl) (by decide +kernel) (by decide +kernel) (yields_blk (by rfl) 26 (.tmp 3) rfl rfl (fun w' h => LC.out w' h) (hrC)) ?_
         simp only [Act.put, List.setIfInBounds_toArray, List.set_cons_zero, List.set_cons_succ])
      | (refine SeqS.take1 (v := .agg (D).toArray) (by first | assumption | trivial) (by kernel_rfl) (by decide +kernel) (by decide +kernel) (yields_blk (by rfl) 26 (.tmp 4) rfl rfl (fun w' h => LD.out w' h) (hrD)) ?_
         simp only [Act.put, List.setIfInBounds_toArray, List.set_cons_zero, List.set_cons_succ])
      | (refine SeqS.take1 (v := .agg (Y1).toArray) (by first | assumption | trivial) (by kernel_rfl) (by decide +kernel) (by decide +kernel) (yields_part (by rfl) 23 (.tmp 76) rfl rfl (fun w' h => PD.out w' h) (hrY)) ?_
         simp only [Act.put, List.setIfInBounds_toArray, List.set_cons_zero, List.set_cons_succ])
      | (refine SeqS.take1 (v := .agg (X0).toArray) (by first | assumption | trivial) (by kernel_rfl) (by decide +kernel) (by decide +kernel) (yields_part (by rfl) 23 (.tmp 78) rfl rfl (fun w' h => PC.out w' h) (hrX)) ?_
         simp only [Act.put, List.setIfInBounds_toArray, List.set_cons_zero, List.set_cons_succ])
      | (refine SeqS.take1 (v := ?_) (by first | assumption | trivial) (by kernel_rfl) (by decide +kernel) (by decide +kernel) (Or.inl ⟨by rfl, ?_⟩) ?_
         rotate_left
         focus
           intro w' hb'
           go_simp
           with_reducible rfl
         simp only [Act.put, List.setIfInBounds_toArray, List.set_cons_zero, List.set_cons_succ])
      | (refine SeqS.take1 (v := ?_) (by first | assumption | trivial) (by kernel_rfl) (by decide +kernel) (by decide +kernel) (Or.inl ⟨by rfl, ?_⟩) ?_
         rotate_left
         focus
           intro w' hb'
           have d0 := hqc.out w'
           go_simp
           with_reducible rfl
         simp only [Act.put, List.setIfInBounds_toArray, List.set_cons_zero, List.set_cons_succ])
      | (refine SeqS.take1 (v := undef) (by first | assumption | trivial) (by kernel_rfl) (by decide +kernel) (by decide +kernel) (Or.inr ⟨by rfl, rfl⟩) ?_
         simp only [Act.put, List.setIfInBounds_toArray, List.set_cons_zero, List.set_cons_succ])
      | (refine SeqS.take2 (v := .agg (C).toArray) (by first | assumption | trivial) (by kernel_rfl) (by decide +kernel) (by decide +kernel) (yields_blk (by rfl) 26 (.tmp 3) rfl rfl (fun w' h => LC.out w' h) (hrC)) ?_
         simp only [Act.put, List.setIfInBounds_toArray, List.set_cons_zero, List.set_cons_succ])
      | (refine SeqS.take2 (v := .agg (D).toArray) (by first | assumption | trivial) (by kernel_rfl) (by decide +kernel) (by decide +kernel) (yields_blk (by rfl) 26 (.tmp 4) rfl rfl (fun w' h => LD.out w' h) (hrD)) ?_
         simp only [Act.put, List.setIfInBounds_toArray, List.set_cons_zero, List.set_cons_succ])
      | (refine SeqS.take2 (v := .agg (Y1).toArray) (by first | assumption | trivial) (by kernel_rfl) (by decide +kernel) (by decide +kernel) (yields_part (by rfl) 23 (.tmp 76) rfl rfl (fun w' h => PD.out w' h) (hrY)) ?_
         simp only [Act.put, List.setIfInBounds_toArray, List.set_cons_zero, List.set_cons_succ])
      | (refine SeqS.take2 (v := .agg (X0).toArray) (by first | assumption | trivial) (by kernel_rfl) (by decide +kernel) (by decide +kernel) (yields_part (by rfl) 23 (.tmp 78) rfl rfl (fun w' h => PC.out w' h) (hrX)) ?_
         simp only [Act.put, List.setIfInBounds_toArray, List.set_cons_zero, List.set_cons_succ])
      | (refine SeqS.take2 (v := ?_) (by first | assumption | trivial) (by kernel_rfl) (by decide +kernel) (by decide +kernel) (Or.inl ⟨by rfl, ?_⟩) ?_
         rotate_left
         focus
           intro w' hb'
           go_simp
           with_reducible rfl
         simp only [Act.put, List.setIfInBounds_toArray, List.set_cons_zero, List.set_cons_succ])
      | (refine SeqS.take2 (v := ?_) (by first | assumption | trivial) (by kernel_rfl) (by decide +kernel) (by decide +kernel) (Or.inl ⟨by rfl, ?_⟩) ?_
         rotate_left
         focus
           intro w' hb'
           have d0 := hqc.out w'
           go_simp
           with_reducible rfl
         simp only [Act.put, List.setIfInBounds_toArray, List.set_cons_zero, List.set_cons_succ])
      | (refine SeqS.take2 (v := undef) (by first | assumption | trivial) (by kernel_rfl) (by decide +kernel) (by decide +kernel) (Or.inr ⟨by rfl, rfl⟩) ?_
         simp only [Act.put, List.setIfInBounds_toArray, List.set_cons_zero, List.set_cons_succ])
      | (refine SeqS.take3 (v := .agg (C).toArray) (by first | assumption | trivial) (by kernel_rfl) (by decide +kernel) (by decide +kernel) (yields_blk (by rfl) 26 (.tmp 3) rfl rfl (fun w' h => LC.out w' h) (hrC)) ?_
         simp only [Act.put, List.setIfInBounds_toArray, List.set_cons_zero, List.set_cons_succ])
      | (refine SeqS.take3 (v := .agg (D).toArray) (by first | assumption | trivial) (by kernel_rfl) (by decide +kernel) (by decide +kernel) (yields_blk (by rfl) 26 (.tmp 4) rfl rfl (fun w' h => LD.out w' h) (hrD)) ?_
         simp only [Act.put, List.setIfInBounds_toArray, List.set_cons_zero, List.set_cons_succ])
      | (refine SeqS.take3 (v := .agg (Y1).toArray) (by first | assumption | trivial) (by kernel_rfl) (by decide +kernel) (by decide +kernel) (yields_part (by rfl) 23 (.tmp 76) rfl rfl (fun w' h => PD.out w' h) (hrY)) ?_
         simp only [Act.put, List.setIfInBounds_toArray, List.set_cons_zero, List.set_cons_succ])
      | (refine SeqS.take3 (v := .agg (X0).toArray) (by first | assumption | trivial) (by kernel_rfl) (by decide +kernel) (by decide +kernel) (yields_part (by rfl) 23 (.tmp 78) rfl rfl (fun w' h => PC.out w' h) (hrX)) ?_
         simp only [Act.put, List.setIfInBounds_toArray, List.set_cons_zero, List.set_cons_succ])
      | (refine SeqS.take3 (v := ?_) (by first | assumption | trivial) (by kernel_rfl) (by decide +kernel) (by decide +kernel) (Or.inl ⟨by rfl, ?_⟩) ?_
         rotate_left
         focus
           intro w' hb'
           go_simp
           with_reducible rfl
         simp only [Act.put, List.setIfInBounds_toArray, List.set_cons_zero, List.set_cons_succ])
      | (refine SeqS.take3 (v := ?_) (by first | assumption | trivial) (by kernel_rfl) (by decide +kernel) (by decide +kernel) (Or.inl ⟨by rfl, ?_⟩) ?_
         rotate_left
         focus
           intro w' hb'
           have d0 := hqc.out w'
           go_simp
           with_reducible rfl
         simp only [Act.put, List.setIfInBounds_toArray, List.set_cons_zero, List.set_cons_succ])
      | (refine SeqS.take3 (v := undef) (by first | assumption | trivial) (by kernel_rfl) (by decide +kernel) (by decide +kernel) (Or.inr ⟨by rfl, rfl⟩) ?_
         simp only [Act.put, List.setIfInBounds_toArray, List.set_cons_zero, List.set_cons_succ]))
    refine SeqS.alone (by decide +kernel) (by rfl) (fun K hK => ?_)
    go_simp
    go_at_call 20
    refine (t8.out _).mono ?_
    rintro e w18 ⟨rfl, b18⟩
    go_simp
    have S18 : Below w4.heap.size w4 w18 := S17.trans (b18.mono S17.size)
    refine hK _ _ S18 ?_
    clear hK K
    repeat (first
      | (refine SeqS.take (v := ?_) (by first | assumption | trivial) (by kernel_rfl) (by decide +kernel) (by decide +kernel) (Or.inl ⟨by rfl, ?_⟩) ?_
         rotate_left
         focus
           intro w' hb'
           go_simp
           with_reducible rfl
         simp only [Act.put, List.setIfInBounds_toArray, List.set_cons_zero, List.set_cons_succ])
      | (refine SeqS.take (v := ?_) (by first | assumption | trivial) (by kernel_rfl) (by decide +kernel) (by decide +kernel) (Or.inl ⟨by rfl, ?_⟩) ?_
         rotate_left
         focus
           intro w' hb'
           have d0 := hqc.out w'
           go_simp
           with_reducible rfl
         simp only [Act.put, List.setIfInBounds_toArray, List.set_cons_zero, List.set_cons_succ])
      | (refine SeqS.take (v := undef) (by first | assumption | trivial) (by kernel_rfl) (by decide +kernel) (by decide +kernel) (Or.inr ⟨by rfl, rfl⟩) ?_
         simp only [Act.put, List.setIfInBounds_toArray, List.set_cons_zero, List.set_cons_succ])
      | (refine SeqS.take1 (v := ?_) (by first | assumption | trivial) (by kernel_rfl) (by decide +kernel) (by decide +kernel) (Or.inl ⟨by rfl, ?_⟩) ?_
         rotate_left
         focus
           intro w' hb'
           go_simp
           with_reducible rfl
         simp only [Act.put, List.setIfInBounds_toArray, List.set_cons_zero, List.set_cons_succ])
      | (refine SeqS.take1 (v := ?_) (by first | assumption | trivial) (by kernel_rfl) (by decide +kernel) (by decide +kernel) (Or.inl ⟨by rfl, ?_⟩) ?_
         rotate_left
         focus
           intro w' hb'
           have d0 := hqc.out w'
           go_simp
           with_reducible rfl
         simp only [Act.put, List.setIfInBounds_toArray, List.set_cons_zero, List.set_cons_succ])
      | (refine SeqS.take1 (v := undef) (by first | assumption | trivial) (by kernel_rfl) (by decide +kernel) (by decide +kernel) (Or.inr ⟨by rfl, rfl⟩) ?_
         simp only [Act.put, List.setIfInBounds_toArray, List.set_cons_zero, List.set_cons_succ])
      | (refine SeqS.take2 (v := ?_) (by first | assumption | trivial) (by kernel_rfl) (by decide +kernel) (by decide +kernel) (Or.inl ⟨by rfl, ?_⟩) ?_
         rotate_left
         focus
           intro w' hb'
           go_simp
           with_reducible rfl
         simp only [Act.put, List.setIfInBounds_toArray, List.set_cons_zero, List.set_cons_succ])
      | (refine SeqS.take2 (v := ?_) (by first | assumption | trivial) (by kernel_rfl) (by decide +kernel) (by decide +kernel) (Or.inl ⟨by rfl, ?_⟩) ?_
         rotate_left
         focus
           intro w' hb'
           have d0 := hqc.out w'
           go_simp
           with_reducible rfl
         simp only [Act.put, List.setIfInBounds_toArray, List.set_cons_zero, List.set_cons_succ])
      | (refine SeqS.take2 (v := undef) (by first | assumption | trivial) (by kernel_rfl) (by decide +kernel) (by decide +kernel) (Or.inr ⟨by rfl, rfl⟩) ?_
         simp only [Act.put, List.setIfInBounds_toArray, List.set_cons_zero, List.set_cons_succ]))
    refine SeqS.done (by decide +kernel) ?_
    have hG5 := HG4.out.1.keep S18 HG4.out.1.lt
    have hD5 := HG4.out.2.1.keep S18 HG4.out.2.1.lt
    have B5 := HG4.out.2.2.trans (S18.mono HG4.out.2.2.size)
    clear b3 b11 b12 b13 b14 b15 b16 b17 b18 S11 S12 S13 S14 S15 S16 S17 S18 t1 t2 t3 t4 t5 t6 t7 t8 LC LD LX LH PC PD BB HG4 hI5 hI6
    -- the first copy
    go_wp2_with ((with_reducible refine wpList_load_blk rfl 26 (.tmp 3) rfl ?_ hG5 rowBk hCl ?_); rfl)
    refine (t9.out w18 B5).mono ?_
    rintro q w6 ⟨b, d, rfl, ho6, b6⟩
    have hG6 := hG5.keep b6 hG5.lt
    have hD6 := hD5.keep b6 hD5.lt
    have B6 := B5.trans (b6.mono B5.size)
    have hlo6 : ∀ y, b = some y → w18.heap.size ≤ y.block ∧ y.block < w6.heap.size := fun y hy => ho6.lt y.block (by rw [hy]; rfl)
    have lG := hG5.lt
    have lD := hD5.lt
    have hT6 := IdsAt.of_owns ho6
    have hBy6 := Bym.of_owns ho6
    have hlE := hEl.out b d
    have hoE := hE1.out b d
    obtain ⟨C1, hC1⟩ : ∃ C, E b d = C := ⟨_, rfl⟩
    rw [hC1] at hlE hoE
    have hC1H := Lib.hid hC1
    have hB5s := B5.size
    clear hG5 hD5 B5 b6 ho6
    go_wp2_with ((with_reducible refine wpList_alloc_blk rfl 26 rfl hZ0 ?_); refine RowKit.Hid.out ?_)
    refine Lib.hid ?_
    try simp only [Act.put, List.setIfInBounds_toArray, List.set_cons_zero, List.set_cons_succ]
    try simp only [hC1]
    have hGA := hG6.alloc (.cells Z.toArray 26)
    have hDA := hD6.alloc (.cells Z.toArray 26)
    have hNA := Blk.new w6 26 Z
    have bA := below1 w6 (.cells Z.toArray 26)
    have hTA := hT6.keep bA
    have BA := B6.alloc B6.size (.cells Z.toArray 26)
    have hByA := hBy6.grown (World.grownBy_alloc w6 (.cells Z.toArray 26) none) (fun _ _ => by simp)
    have l7 := hG6.lt
    have l8 := hD6.lt
    have l9 := B6.size
    have hin6 := hT6.isIn
    obtain ⟨N, hN⟩ : ∃ N, w6.heap.size = N := ⟨_, rfl⟩
    rw [hN] at hNA l7 l8 l9 hin6 hlo6 ⊢
    obtain ⟨U6, hU6⟩ : ∃ W, w6.alloc (.cells Z.toArray 26) = W := ⟨_, rfl⟩
    rw [hU6] at hGA hDA hNA hTA BA hByA ⊢
    clear hG6 hD6 hT6 B6 hBy6 bA hN hU6 hC1
    refine store_row rfl 26 (.tmp 9) (.tmp 84) rfl rfl rfl hNA rowBk hlE hZl hoE ?_
    intro w7 hN7 hg7
    have hG7 := hGA.grown hg7 (fun e => by injection e with e; omega)
    have hD7 := hDA.grown hg7 (fun e => by injection e with e; omega)
    have hT7 := hTA.grownR hg7 (fun y hy h0 e => by injection e with e; have := hin6 y hy h0; omega)
    have hBy7 := hByA.grown hg7 (fun q hq e => by injection e with e; obtain ⟨h0, y, hy, hyq⟩ := hq; have := hin6 y hy h0; omega)
    have B7 := BA.grown hg7 BA.size (fun q hq => by injection hq with hq; omega)
    clear hGA hDA hNA hTA BA hByA hg7
    go_wp2_with fail
    have b3 : Below w7.heap.size w7 w7.drew := (Below.refl _ _).drew
    have LC := Lib.hid (fun w' (h : Below w7.heap.size w7 w') => hG7.keep h hG7.lt)
    have LD := Lib.hid (fun w' (h : Below w7.heap.size w7 w') => hD7.keep h hD7.lt)
    have LE := Lib.hid (fun w' (h : Below w7.heap.size w7 w') => hN7.keep h hN7.lt)
    have hrE : IsRow Try.prog 26 C1.length := by rw [hlE]; exact rowBk
    have q1 := Lib.hid (fun w' (h : Below w7.heap.size w7 w') => u1.out w' (B7.trans (h.mono B7.size)))
    have q2 := Lib.hid (fun w' (h : Below w7.heap.size w7 w') => u2.out w' (B7.trans (h.mono B7.size)))
    have q3 := Lib.hid (fun w' (h : Below w7.heap.size w7 w') => u3.out w' b d (B7.trans (h.mono B7.size)) (hT7.keep h))
    have q4 := Lib.hid (fun w' (h : Below w7.heap.size w7 w') => u4.out w' b d (B7.trans (h.mono B7.size)) (hT7.keep h))
    rw [hC1H.out] at q3 q4
    have H7 := Lib.hid (And.intro hG7 (And.intro hN7 (And.intro hBy7 B7)))
    clear u1 u2 u3 hT7 hG7 hD7 hN7 hBy7 B7
    refine region_seqS (fun w' => Below w7.heap.size w7 w') (by kernel_rfl) b3 ?_
    simp only [pairs, Nat.reduceAdd]
    repeat (first
      | (refine SeqS.take (v := .agg (C).toArray) (by first | assumption | trivial) (by kernel_rfl) (by decide +kernel) (by decide +kernel) (yields_blk (by rfl) 26 (.tmp 3) rfl rfl (fun w' h => LC.out w' h) (hrC)) ?_
         simp only [Act.put, List.setIfInBounds_toArray, List.set_cons_zero, List.set_cons_succ])
      | (refine SeqS.take (v := .agg (D).toArray) (by first | assumption | trivial) (by kernel_rfl) (by decide +kernel) (by decide +kernel) (yields_blk (by rfl) 26 (.tmp 4) rfl rfl (fun w' h => LD.out w' h) (hrD)) ?_
         simp only [Act.put, List.setIfInBounds_toArray, List.set_cons_zero, List.set_cons_succ])
      | (refine SeqS.take (v := ?_) (by first | assumption | trivial) (by kernel_rfl) (by decide +kernel) (by decide +kernel) (Or.inl ⟨by rfl, ?_⟩) ?_
         rotate_left
         focus
           intro w' hb'
           go_simp
           with_reducible rfl
         simp only [Act.put, List.setIfInBounds_toArray, List.set_cons_zero, List.set_cons_succ])
      | (refine SeqS.take (v := undef) (by first | assumption | trivial) (by kernel_rfl) (by decide +kernel) (by decide +kernel) (Or.inr ⟨by rfl, rfl⟩) ?_
         simp only [Act.put, List.setIfInBounds_toArray, List.set_cons_zero, List.set_cons_succ])
      | (refine SeqS.take1 (v := .agg (C).toArray) (by first | assumption | trivial) (by kernel_rfl) (by decide +kernel) (by decide +kernel) (yields_blk (by rfl) 26 (.tmp 3) rfl rfl (fun w' h => LC.out w' h) (hrC)) ?_
         simp only [Act.put, List.setIfInBounds_toArray, List.set_cons_zero, List.set_cons_succ])
      | (refine SeqS.take1 (v := .agg (D).toArray) (by first | assumption | trivial) (by kernel_rfl) (by decide +kernel) (by decide +kernel) (yields_blk (by rfl) 26 (.tmp 4) rfl rfl (fun w' h => LD.out w' h) (hrD)) ?_
         simp only [Act.put, List.setIfInBounds_toArray, List.set_cons_zero, List.set_cons_succ])
      | (refine SeqS.take1 (v := ?_) (by first | assumption | trivial) (by kernel_rfl) (by decide +kernel) (by decide +kernel) (Or.inl ⟨by rfl, ?_⟩) ?_
         rotate_left
         focus
           intro w' hb'
           go_simp
           with_reducible rfl
         simp only [Act.put, List.setIfInBounds_toArray, List.set_cons_zero, List.set_cons_succ])
      | (refine SeqS.take1 (v := undef) (by first | assumption | trivial) (by kernel_rfl) (by decide +kernel) (by decide +kernel) (Or.inr ⟨by rfl, rfl⟩) ?_
         simp only [Act.put, List.setIfInBounds_toArray, List.set_cons_zero, List.set_cons_succ])
      | (refine SeqS.take2 (v := .agg (C).toArray) (by first | assumption | trivial) (by kernel_rfl) (by decide +kernel) (by decide +kernel) (yields_blk (by rfl) 26 (.tmp 3) rfl rfl (fun w' h => LC.out w' h) (hrC)) ?_
         simp only [Act.put, List.setIfInBounds_toArray, List.set_cons_zero, List.set_cons_succ])
      | (refine SeqS.take2 (v := .agg (D).toArray) (by first | assumption | trivial) (by kernel_rfl) (by decide +kernel) (by decide +kernel) (yields_blk (by rfl) 26 (.tmp 4) rfl rfl (fun w' h => LD.out w' h) (hrD)) ?_
         simp only [Act.put, List.setIfInBounds_toArray, List.set_cons_zero, List.set_cons_succ])
      | (refine SeqS.take2 (v := ?_) (by first | assumption | trivial) (by kernel_rfl) (by decide +kernel) (by decide +kernel) (Or.inl ⟨by rfl, ?_⟩) ?_
         rotate_left
         focus
           intro w' hb'
           go_simp
           with_reducible rfl
         simp only [Act.put, List.setIfInBounds_toArray, List.set_cons_zero, List.set_cons_succ])
      | (refine SeqS.take2 (v := undef) (by first | assumption | trivial) (by kernel_rfl) (by decide +kernel) (by decide +kernel) (Or.inr ⟨by rfl, rfl⟩) ?_
         simp only [Act.put, List.setIfInBounds_toArray, List.set_cons_zero, List.set_cons_succ]))
    refine SeqS.alone (by decide +kernel) (by rfl) (fun K hK => ?_)
    go_simp
    go_at_call 22
    refine (q1.out _ b3).mono ?_
    rintro e w11 ⟨rfl, b11⟩
    go_simp
    have S11 : Below w7.heap.size w7 w11 := b3.trans (b11.mono b3.size)
    refine hK _ _ S11 ?_
    clear hK K
    refine SeqS.alone (by decide +kernel) (by rfl) (fun K hK => ?_)
    go_simp
    go_at_call 13
    refine (q2.out _ S11).mono ?_
    rintro e w12 ⟨rfl, b12⟩
    go_simp
    have S12 : Below w7.heap.size w7 w12 := S11.trans (b12.mono S11.size)
    refine hK _ _ S12 ?_
    clear hK K
    repeat (first
      | (refine SeqS.take (v := .agg (C).toArray) (by first | assumption | trivial) (by kernel_rfl) (by decide +kernel) (by decide +kernel) (yields_blk (by rfl) 26 (.tmp 3) rfl rfl (fun w' h => LC.out w' h) (hrC)) ?_
         simp only [Act.put, List.setIfInBounds_toArray, List.set_cons_zero, List.set_cons_succ])
      | (refine SeqS.take (v := .agg (C1).toArray) (by first | assumption | trivial) (by kernel_rfl) (by decide +kernel) (by decide +kernel) (yields_blk (by rfl) 26 (.tmp 9) rfl rfl (fun w' h => LE.out w' h) (hrE)) ?_
         simp only [Act.put, List.setIfInBounds_toArray, List.set_cons_zero, List.set_cons_succ])
      | (refine SeqS.take (v := ?_) (by first | assumption | trivial) (by kernel_rfl) (by decide +kernel) (by decide +kernel) (Or.inl ⟨by rfl, ?_⟩) ?_
         rotate_left
         focus
           intro w' hb'
           go_simp
           with_reducible rfl
         simp only [Act.put, List.setIfInBounds_toArray, List.set_cons_zero, List.set_cons_succ])
      | (refine SeqS.take (v := undef) (by first | assumption | trivial) (by kernel_rfl) (by decide +kernel) (by decide +kernel) (Or.inr ⟨by rfl, rfl⟩) ?_
         simp only [Act.put, List.setIfInBounds_toArray, List.set_cons_zero, List.set_cons_succ])
      | (refine SeqS.take1 (v := .agg (C).toArray) (by first | assumption | trivial) (by kernel_rfl) (by decide +kernel) (by decide +kernel) (yields_blk (by rfl) 26 (.tmp 3) rfl rfl (fun w' h => LC.out w' h) (hrC)) ?_
         simp only [Act.put, List.setIfInBounds_toArray, List.set_cons_zero, List.set_cons_succ])
      | (refine SeqS.take1 (v := .agg (C1).toArray) (by first | assumption | trivial) (by kernel_rfl) (by decide +kernel) (by decide +kernel) (yields_blk (by rfl) 26 (.tmp 9) rfl rfl (fun w' h => LE.out w' h) (hrE)) ?_
         simp only [Act.put, List.setIfInBounds_toArray, List.set_cons_zero, List.set_cons_succ])
      | (refine SeqS.take1 (v := ?_) (by first | assumption | trivial) (by kernel_rfl) (by decide +kernel) (by decide +kernel) (Or.inl ⟨by rfl, ?_⟩) ?_
         rotate_left
         focus
           intro w' hb'
           go_simp
           with_reducible rfl
         simp only [Act.put, List.setIfInBounds_toArray, List.set_cons_zero, List.set_cons_succ])
      | (refine SeqS.take1 (v := undef) (by first | assumption | trivial) (by kernel_rfl) (by decide +kernel) (by decide +kernel) (Or.inr ⟨by rfl, rfl⟩) ?_
         simp only [Act.put, List.setIfInBounds_toArray, List.set_cons_zero, List.set_cons_succ])
      | (refine SeqS.take2 (v := .agg (C).toArray) (by first | assumption | trivial) (by kernel_rfl) (by decide +kernel) (by decide +kernel) (yields_blk (by rfl) 26 (.tmp 3) rfl rfl (fun w' h => LC.out w' h) (hrC)) ?_
         simp only [Act.put, List.setIfInBounds_toArray, List.set_cons_zero, List.set_cons_succ])
      | (refine SeqS.take2 (v := .agg (C1).toArray) (by first | assumption | trivial) (by kernel_rfl) (by decide +kernel) (by decide +kernel) (yields_blk (by rfl) 26 (.tmp 9) rfl rfl (fun w' h => LE.out w' h) (hrE)) ?_
         simp only [Act.put, List.setIfInBounds_toArray, List.set_cons_zero, List.set_cons_succ])
      | (refine SeqS.take2 (v := ?_) (by first | assumption | trivial) (by kernel_rfl) (by decide +kernel) (by decide +kernel) (Or.inl ⟨by rfl, ?_⟩) ?_
         rotate_left
         focus
           intro w' hb'
           go_simp
           with_reducible rfl
         simp only [Act.put, List.setIfInBounds_toArray, List.set_cons_zero, List.set_cons_succ])
      | (refine SeqS.take2 (v := undef) (by first | assumption | trivial) (by kernel_rfl) (by decide +kernel) (by decide +kernel) (Or.inr ⟨by rfl, rfl⟩) ?_
         simp only [Act.put, List.setIfInBounds_toArray, List.set_cons_zero, List.set_cons_succ]))
    refine SeqS.alone (by decide +kernel) (by rfl) (fun K hK => ?_)
    go_simp
    go_at_call 22
    refine (q3.out _ S12).mono ?_
    rintro e w13 ⟨rfl, b13⟩
    go_simp
    have S13 : Below w7.heap.size w7 w13 := S12.trans (b13.mono S12.size)
    refine hK _ _ S13 ?_
    clear hK K
    repeat (first
      | (refine SeqS.take (v := .agg (C).toArray) (by first | assumption | trivial) (by kernel_rfl) (by decide +kernel) (by decide +kernel) (yields_blk (by rfl) 26 (.tmp 3) rfl rfl (fun w' h => LC.out w' h) (hrC)) ?_
         simp only [Act.put, List.setIfInBounds_toArray, List.set_cons_zero, List.set_cons_succ])
      | (refine SeqS.take (v := .agg (C1).toArray) (by first | assumption | trivial) (by kernel_rfl) (by decide +kernel) (by decide +kernel) (yields_blk (by rfl) 26 (.tmp 9) rfl rfl (fun w' h => LE.out w' h) (hrE)) ?_
         simp only [Act.put, List.setIfInBounds_toArray, List.set_cons_zero, List.set_cons_succ])
      | (refine SeqS.take (v := ?_) (by first | assumption | trivial) (by kernel_rfl) (by decide +kernel) (by decide +kernel) (Or.inl ⟨by rfl, ?_⟩) ?_
         rotate_left
         focus
           intro w' hb'
           go_simp
           with_reducible rfl
         simp only [Act.put, List.setIfInBounds_toArray, List.set_cons_zero, List.set_cons_succ])
      | (refine SeqS.take (v := undef) (by first | assumption | trivial) (by kernel_rfl) (by decide +kernel) (by decide +kernel) (Or.inr ⟨by rfl, rfl⟩) ?_
         simp only [Act.put, List.setIfInBounds_toArray, List.set_cons_zero, List.set_cons_succ])
      | (refine SeqS.take1 (v := .agg (C).toArray) (by first | assumption | trivial) (by kernel_rfl) (by decide +kernel) (by decide +kernel) (yields_blk (by rfl) 26 (.tmp 3) rfl rfl (fun w' h => LC.out w' h) (hrC)) ?_
         simp only [Act.put, List.setIfInBounds_toArray, List.set_cons_zero, List.set_cons_succ])
      | (refine SeqS.take1 (v := .agg (C1).toArray) (by first | assumption | trivial) (by kernel_rfl) (by decide +kernel) (by decide +kernel) (yields_blk (by rfl) 26 (.tmp 9) rfl rfl (fun w' h => LE.out w' h) (hrE)) ?_
         simp only [Act.put, List.setIfInBounds_toArray, List.set_cons_zero, List.set_cons_succ])
      | (refine SeqS.take1 (v := ?_) (by first | assumption | trivial) (by kernel_rfl) (by decide +kernel) (by decide +kernel) (Or.inl ⟨by rfl, ?_⟩) ?_
         rotate_left
         focus
           intro w' hb'
           go_simp
           with_reducible rfl
         simp only [Act.put, List.setIfInBounds_toArray, List.set_cons_zero, List.set_cons_succ])
      | (refine SeqS.take1 (v := undef) (by first | assumption | trivial) (by kernel_rfl) (by decide +kernel) (by decide +kernel) (Or.inr ⟨by rfl, rfl⟩) ?_
         simp only [Act.put, List.setIfInBounds_toArray, List.set_cons_zero, List.set_cons_succ])
      | (refine SeqS.take2 (v := .agg (C).toArray) (by first | assumption | trivial) (by kernel_rfl) (by decide +kernel) (by decide +kernel) (yields_blk (by rfl) 26 (.tmp 3) rfl rfl (fun w' h => LC.out w' h) (hrC)) ?_
         simp only [Act.put, List.setIfInBounds_toArray, List.set_cons_zero, List.set_cons_succ])
      | (refine SeqS.take2 (v := .agg (C1).toArray) (by first | assumption | trivial) (by kernel_rfl) (by decide +kernel) (by decide +kernel) (yields_blk (by rfl) 26 (.tmp 9) rfl rfl (fun w' h => LE.out w' h) (hrE)) ?_
         simp only [Act.put, List.setIfInBounds_toArray, List.set_cons_zero, List.set_cons_succ])
      | (refine SeqS.take2 (v := ?_) (by first | assumption | trivial) (by kernel_rfl) (by decide +kernel) (by decide +kernel) (Or.inl ⟨by rfl, ?_⟩) ?_
         rotate_left
         focus
           intro w' hb'
           go_simp
           with_reducible rfl
         simp only [Act.put, List.setIfInBounds_toArray, List.set_cons_zero, List.set_cons_succ])
      | (refine SeqS.take2 (v := undef) (by first | assumption | trivial) (by kernel_rfl) (by decide +kernel) (by decide +kernel) (Or.inr ⟨by rfl, rfl⟩) ?_
         simp only [Act.put, List.setIfInBounds_toArray, List.set_cons_zero, List.set_cons_succ]))
    refine SeqS.alone (by decide +kernel) (by rfl) (fun K hK => ?_)
    go_simp
    go_at_call 13
    refine (q4.out _ S13).mono ?_
    rintro e w14 ⟨rfl, b14⟩
    go_simp
    have S14 : Below w7.heap.size w7 w14 := S13.trans (b14.mono S13.size)
    refine hK _ _ S14 ?_
    clear hK K
    repeat (first
      | (refine SeqS.take (v := ?_) (by first | assumption | trivial) (by kernel_rfl) (by decide +kernel) (by decide +kernel) (Or.inl ⟨by rfl, ?_⟩) ?_
         rotate_left
         focus
           intro w' hb'
           go_simp
           with_reducible rfl
         simp only [Act.put, List.setIfInBounds_toArray, List.set_cons_zero, List.set_cons_succ])
      | (refine SeqS.take (v := undef) (by first | assumption | trivial) (by kernel_rfl) (by decide +kernel) (by decide +kernel) (Or.inr ⟨by rfl, rfl⟩) ?_
         simp only [Act.put, List.setIfInBounds_toArray, List.set_cons_zero, List.set_cons_succ])
      | (refine SeqS.take1 (v := ?_) (by first | assumption | trivial) (by kernel_rfl) (by decide +kernel) (by decide +kernel) (Or.inl ⟨by rfl, ?_⟩) ?_
         rotate_left
         focus
           intro w' hb'
           go_simp
           with_reducible rfl
         simp only [Act.put, List.setIfInBounds_toArray, List.set_cons_zero, List.set_cons_succ])
      | (refine SeqS.take1 (v := undef) (by first | assumption | trivial) (by kernel_rfl) (by decide +kernel) (by decide +kernel) (Or.inr ⟨by rfl, rfl⟩) ?_
         simp only [Act.put, List.setIfInBounds_toArray, List.set_cons_zero, List.set_cons_succ])
      | (refine SeqS.take2 (v := ?_) (by first | assumption | trivial) (by kernel_rfl) (by decide +kernel) (by decide +kernel) (Or.inl ⟨by rfl, ?_⟩) ?_
         rotate_left
         focus
           intro w' hb'
           go_simp
           with_reducible rfl
         simp only [Act.put, List.setIfInBounds_toArray, List.set_cons_zero, List.set_cons_succ])
      | (refine SeqS.take2 (v := undef) (by first | assumption | trivial) (by kernel_rfl) (by decide +kernel) (by decide +kernel) (Or.inr ⟨by rfl, rfl⟩) ?_
         simp only [Act.put, List.setIfInBounds_toArray, List.set_cons_zero, List.set_cons_succ]))
    refine SeqS.done (by decide +kernel) ?_
    have hG8 := H7.out.1.keep S14 H7.out.1.lt
    have hN8 := H7.out.2.1.keep S14 H7.out.2.1.lt
    have hBy8 := H7.out.2.2.1.keep S14
    have B8 := H7.out.2.2.2.trans (S14.mono H7.out.2.2.2.size)
    clear b3 b11 b12 b13 b14 S11 S12 S13 S14 q1 q2 q3 q4 LC LD LE H7 hrE
    -- the second copy
    go_wp2_with ((with_reducible refine wpList_load_blk rfl 26 (.tmp 3) rfl ?_ hG8 rowBk hCl ?_); rfl)
    refine (t9.out _ B8).mono ?_
    rintro q w9 ⟨b2, d2, rfl, ho9, b9⟩
    have lN := hN8.lt
    have hG9 := hG8.keep b9 hG8.lt
    have hN9 := hN8.keep b9 hN8.lt
    have hBy9 := hBy8.keep b9
    have B9 := B8.trans (b9.mono B8.size)
    have hlo9 : ∀ y, b2 = some y → N < y.block ∧ y.block < w9.heap.size := fun y hy => by have := ho9.lt y.block (by rw [hy]; rfl); omega
    have hT9 := IdsAt.of_owns ho9
    have hlF := hEl.out b2 d2
    have hoF := hE1.out b2 d2
    obtain ⟨C2, hC2⟩ : ∃ C, E b2 d2 = C := ⟨_, rfl⟩
    rw [hC2] at hlF hoF
    have hC2H := Lib.hid hC2
    clear hG8 hN8 hBy8 B8 b9 ho9 t9
    go_wp2_with ((with_reducible refine wpList_alloc_blk rfl 26 rfl hZ0 ?_); refine RowKit.Hid.out ?_)
    refine Lib.hid ?_
    try simp only [Act.put, List.setIfInBounds_toArray, List.set_cons_zero, List.set_cons_succ]
    try simp only [hC2]
    have hGA := hG9.alloc (.cells Z.toArray 26)
    have hNA := hN9.alloc (.cells Z.toArray 26)
    have hOA := Blk.new w9 26 Z
    have bA := below1 w9 (.cells Z.toArray 26)
    have hTA := hT9.keep bA
    have hByA := hBy9.keep bA
    have BA := B9.alloc B9.size (.cells Z.toArray 26)
    have m1 := hG9.lt
    have m2 := hN9.lt
    have m3 := B9.size
    obtain ⟨O, hO⟩ : ∃ N, w9.heap.size = N := ⟨_, rfl⟩
    rw [hO] at hOA m1 m2 m3 hlo9 ⊢
    obtain ⟨U9, hU9⟩ : ∃ W, w9.alloc (.cells Z.toArray 26) = W := ⟨_, rfl⟩
    rw [hU9] at hGA hNA hOA hTA BA hByA ⊢
    clear hG9 hN9 hT9 B9 hBy9 bA hO hU9 hC2
    refine store_row rfl 26 (.tmp 10) (.tmp 105) rfl rfl rfl hOA rowBk hlF hZl hoF ?_
    intro w10 hO10 hg10
    have hG10 := hGA.grown hg10 (fun e => by injection e with e; omega)
    have hN10 := hNA.grown hg10 (fun e => by injection e with e; omega)
    have hT10 := hTA.grownR hg10 (fun y hy h0 e => by injection e with e; have := hlo9 y hy; omega)
    have hBy10 := hByA.grown hg10 (fun q hq e => by injection e with e; obtain ⟨h0, y, hy, hyq⟩ := hq; have := hlo6 y hy; omega)
    have B10 := BA.grown hg10 BA.size (fun q hq => by injection hq with hq; omega)
    have n5 := f5.out w10 N b d (by rw [hC1H.out]; exact hN10)
    have hAt : ∀ q, Atm b n q → w.heap.size ≤ q ∧ q ≠ G ∧ q ≠ N ∧ q < N := fun q ⟨h0, y, hy, hyq⟩ => by have := hlo6 y hy; omega
    clear hGA hNA hOA hTA BA hByA hg10
    go_wp2_with fail
    go_loopw [109] (fun i wr => ∃ j : Nat, j ≤ n ∧ i = .int .i64 j ∧ Bym wr b n d ∧ Moved (Atm b n) w10 wr) (fun i _ => n - (intOf i).toNat)
    case atStart => exact ⟨0, Nat.zero_le _, rfl, hBy10, Moved.rfl'⟩
    case round =>
      clear n5
      obtain ⟨j, hj, rfl, hBy, hMv⟩ := hrel
      have hNr := blk_moved hN10 hMv (fun h => (hAt N h).2.2.1 rfl)
      by_cases hlt : j < n
      · have hji : (j : Int) < (n : Int) := by omega
        obtain ⟨V5, hV5⟩ : ∃ V, wr.drew = V := ⟨_, rfl⟩
        have hByV : Bym V5 b n d := by rw [← hV5]; exact hBy.keep (Below.drew (Below.refl _ _))
        have hNV : Blk V5 N 26 C1 := by rw [← hV5]; exact hNr
        have hMV : Moved (Atm b n) w10 V5 := by rw [← hV5]; exact hMv.then (Moved.of_below (Below.drew (Below.refl _ _)))
        obtain ⟨o, v, hbo, hc, hf, hinc⟩ := hByV.inc j hlt
        have hoN : o ≠ N := fun e => (hAt o ⟨by omega, _, hbo, rfl⟩).2.2.1 e
        subst hbo
        have n5 := f5.out V5 N (some ⟨o, 0, none⟩) d (by rw [hC1H.out]; exact hNV)
        obtain ⟨v', hv'⟩ : ∃ v', (v + 1) % 256 = v' := ⟨_, rfl⟩
        have hv'' : IntKind.u8.wrap (v + 1) = v' := by rw [IntKind.wrap_u8]; exact hv'
        have n5S := Lib.hid (f5.out _ N (some ⟨o, 0, none⟩) d (by rw [hC1H.out]; exact hNV.far (p := ⟨o, j * 32, none⟩) (by show N ≠ o; omega) (.int .u8 v')))
        have hincH := Lib.hid (hinc v')
        have hMvH := Lib.hid hMV
        have hltH := Lib.hid hlt
        clear hlt hj hNr hinc hBy hMv hByV hNV hMV
        go_wp2_with fail
        refine region_seqS (fun w' => w'.cell? ⟨N, 64, none⟩ = some (.slice (some ⟨o, 0, none⟩) n d)) (by kernel_rfl) (by rw [hV5]; exact n5) ?_
        simp only [pairs, Nat.reduceAdd]
        try rw [hV5]
        clear hV5
        repeat (first
          | (refine SeqS.take (v := ?_) (by first | assumption | trivial) (by kernel_rfl) (by decide +kernel) (by decide +kernel) (Or.inl ⟨by rfl, ?_⟩) ?_
             rotate_left
             focus
               intro w' hb'
               go_simp
               with_reducible rfl
             simp only [Act.put, List.setIfInBounds_toArray, List.set_cons_zero, List.set_cons_succ])
          | (refine SeqS.take (v := ?_) (by first | assumption | trivial) (by kernel_rfl) (by decide +kernel) (by decide +kernel) (Or.inl ⟨by rfl, ?_⟩) ?_
             rotate_left
             focus
               intro w' hb'
               have d0 := hb'
               go_simp
               with_reducible rfl
             simp only [Act.put, List.setIfInBounds_toArray, List.set_cons_zero, List.set_cons_succ])
          | (refine SeqS.take (v := undef) (by first | assumption | trivial) (by kernel_rfl) (by decide +kernel) (by decide +kernel) (Or.inr ⟨by rfl, rfl⟩) ?_
             simp only [Act.put, List.setIfInBounds_toArray, List.set_cons_zero, List.set_cons_succ])
          | (refine SeqS.take1 (v := ?_) (by first | assumption | trivial) (by kernel_rfl) (by decide +kernel) (by decide +kernel) (Or.inl ⟨by rfl, ?_⟩) ?_
             rotate_left
             focus
               intro w' hb'
               go_simp
               with_reducible rfl
             simp only [Act.put, List.setIfInBounds_toArray, List.set_cons_zero, List.set_cons_succ])
          | (refine SeqS.take1 (v := ?_) (by first | assumption | trivial) (by kernel_rfl) (by decide +kernel) (by decide +kernel) (Or.inl ⟨by rfl, ?_⟩) ?_
             rotate_left
             focus
               intro w' hb'
               have d0 := hb'
               go_simp
               with_reducible rfl
             simp only [Act.put, List.setIfInBounds_toArray, List.set_cons_zero, List.set_cons_succ])
          | (refine SeqS.take1 (v := undef) (by first | assumption | trivial) (by kernel_rfl) (by decide +kernel) (by decide +kernel) (Or.inr ⟨by rfl, rfl⟩) ?_
             simp only [Act.put, List.setIfInBounds_toArray, List.set_cons_zero, List.set_cons_succ])
          | (refine SeqS.take2 (v := ?_) (by first | assumption | trivial) (by kernel_rfl) (by decide +kernel) (by decide +kernel) (Or.inl ⟨by rfl, ?_⟩) ?_
             rotate_left
             focus
               intro w' hb'
               go_simp
               with_reducible rfl
             simp only [Act.put, List.setIfInBounds_toArray, List.set_cons_zero, List.set_cons_succ])
          | (refine SeqS.take2 (v := ?_) (by first | assumption | trivial) (by kernel_rfl) (by decide +kernel) (by decide +kernel) (Or.inl ⟨by rfl, ?_⟩) ?_
             rotate_left
             focus
               intro w' hb'
               have d0 := hb'
               go_simp
               with_reducible rfl
             simp only [Act.put, List.setIfInBounds_toArray, List.set_cons_zero, List.set_cons_succ])
          | (refine SeqS.take2 (v := undef) (by first | assumption | trivial) (by kernel_rfl) (by decide +kernel) (by decide +kernel) (Or.inr ⟨by rfl, rfl⟩) ?_
             simp only [Act.put, List.setIfInBounds_toArray, List.set_cons_zero, List.set_cons_succ])
          | (refine SeqS.take3 (v := ?_) (by first | assumption | trivial) (by kernel_rfl) (by decide +kernel) (by decide +kernel) (Or.inl ⟨by rfl, ?_⟩) ?_
             rotate_left
             focus
               intro w' hb'
               go_simp
               with_reducible rfl
             simp only [Act.put, List.setIfInBounds_toArray, List.set_cons_zero, List.set_cons_succ])
          | (refine SeqS.take3 (v := ?_) (by first | assumption | trivial) (by kernel_rfl) (by decide +kernel) (by decide +kernel) (Or.inl ⟨by rfl, ?_⟩) ?_
             rotate_left
             focus
               intro w' hb'
               have d0 := hb'
               go_simp
               with_reducible rfl
             simp only [Act.put, List.setIfInBounds_toArray, List.set_cons_zero, List.set_cons_succ])
          | (refine SeqS.take3 (v := undef) (by first | assumption | trivial) (by kernel_rfl) (by decide +kernel) (by decide +kernel) (Or.inr ⟨by rfl, rfl⟩) ?_
             simp only [Act.put, List.setIfInBounds_toArray, List.set_cons_zero, List.set_cons_succ]))
        refine SeqS.alone (by decide +kernel) (by rfl) (fun K5 hK5 => ?_)
        go_simp
        refine hK5 _ _ n5 ?_
        clear hK5 K5
        try simp only [Act.put, List.setIfInBounds_toArray, List.set_cons_zero, List.set_cons_succ]
        repeat (first
          | (refine SeqS.take (v := ?_) (by first | assumption | trivial) (by kernel_rfl) (by decide +kernel) (by decide +kernel) (Or.inl ⟨by rfl, ?_⟩) ?_
             rotate_left
             focus
               intro w' hb'
               go_simp
               with_reducible rfl
             simp only [Act.put, List.setIfInBounds_toArray, List.set_cons_zero, List.set_cons_succ])
          | (refine SeqS.take (v := ?_) (by first | assumption | trivial) (by kernel_rfl) (by decide +kernel) (by decide +kernel) (Or.inl ⟨by rfl, ?_⟩) ?_
             rotate_left
             focus
               intro w' hb'
               have d0 := hv'
               go_simp
               with_reducible rfl
             simp only [Act.put, List.setIfInBounds_toArray, List.set_cons_zero, List.set_cons_succ])
          | (refine SeqS.take (v := undef) (by first | assumption | trivial) (by kernel_rfl) (by decide +kernel) (by decide +kernel) (Or.inr ⟨by rfl, rfl⟩) ?_
             simp only [Act.put, List.setIfInBounds_toArray, List.set_cons_zero, List.set_cons_succ])
          | (refine SeqS.take1 (v := ?_) (by first | assumption | trivial) (by kernel_rfl) (by decide +kernel) (by decide +kernel) (Or.inl ⟨by rfl, ?_⟩) ?_
             rotate_left
             focus
               intro w' hb'
               go_simp
               with_reducible rfl
             simp only [Act.put, List.setIfInBounds_toArray, List.set_cons_zero, List.set_cons_succ])
          | (refine SeqS.take1 (v := ?_) (by first | assumption | trivial) (by kernel_rfl) (by decide +kernel) (by decide +kernel) (Or.inl ⟨by rfl, ?_⟩) ?_
             rotate_left
             focus
               intro w' hb'
               have d0 := hv'
               go_simp
               with_reducible rfl
             simp only [Act.put, List.setIfInBounds_toArray, List.set_cons_zero, List.set_cons_succ])
          | (refine SeqS.take1 (v := undef) (by first | assumption | trivial) (by kernel_rfl) (by decide +kernel) (by decide +kernel) (Or.inr ⟨by rfl, rfl⟩) ?_
             simp only [Act.put, List.setIfInBounds_toArray, List.set_cons_zero, List.set_cons_succ])
          | (refine SeqS.take2 (v := ?_) (by first | assumption | trivial) (by kernel_rfl) (by decide +kernel) (by decide +kernel) (Or.inl ⟨by rfl, ?_⟩) ?_
             rotate_left
             focus
               intro w' hb'
               go_simp
               with_reducible rfl
             simp only [Act.put, List.setIfInBounds_toArray, List.set_cons_zero, List.set_cons_succ])
          | (refine SeqS.take2 (v := ?_) (by first | assumption | trivial) (by kernel_rfl) (by decide +kernel) (by decide +kernel) (Or.inl ⟨by rfl, ?_⟩) ?_
             rotate_left
             focus
               intro w' hb'
               have d0 := hv'
               go_simp
               with_reducible rfl
             simp only [Act.put, List.setIfInBounds_toArray, List.set_cons_zero, List.set_cons_succ])
          | (refine SeqS.take2 (v := undef) (by first | assumption | trivial) (by kernel_rfl) (by decide +kernel) (by decide +kernel) (Or.inr ⟨by rfl, rfl⟩) ?_
             simp only [Act.put, List.setIfInBounds_toArray, List.set_cons_zero, List.set_cons_succ]))
        refine SeqS.alone (by decide +kernel) (by rfl) (fun K5 hK5 => ?_)
        go_simp
        refine hK5 _ _ n5S.out ?_
        clear hK5 K5
        refine SeqS.done (by decide +kernel) ?_
        go_wp2
        exact ⟨⟨j + 1, by have := hltH.out; omega, by congr 1, hincH.out.1, hMvH.out.then hincH.out.2⟩, by simp only [intOf]; have := hltH.out; omega⟩
      · have hji : ¬ (j : Int) < (n : Int) := by omega
        have hGr := blk_moved hG10 hMv (fun h => (hAt G h).2.1 rfl)
        have hOr := blk_moved hO10 hMv (fun h => by have := (hAt O h).2.2.2; omega)
        have Br := B10.trans (hMv.below (fun q hq => (hAt q hq).1) B10.size)
        have hTr := ids_stay hT10 hMv (fun y hy h0 h => by have := (hAt _ h).2.2.2; have := hlo9 y hy; omega)
        have sm := Lib.hid (u4.out wr b2 d2 Br hTr)
        rw [hC2H.out] at sm
        clear hlt hj hMv hBy hBy10 hG10 hN10 hNr hO10 B10 hT10 hTr
        go_wp2_with (first
          | ((with_reducible refine wpList_load_blk rfl 26 (.tmp 3) rfl ?_ hGr rowBk hCl ?_); rfl)
          | ((with_reducible refine wpList_load_blk rfl 26 (.tmp 10) rfl ?_ hOr rowBk hlF ?_); rfl))
        refine sm.out.mono ?_
        rintro q w11 ⟨rfl, b11⟩
        have B11 := Br.trans (b11.mono Br.size)
        clear sm hGr hOr Br b11
        go_wp2_with fail
        refine (alive16_any w11).mono ?_
        rintro q w12 ⟨rfl, b12⟩
        go_wp2
        go_ret
        exact ⟨by first | rfl | simp, B11.trans (b12.mono B11.size)⟩
end Go.Proofs.Ytndodckcncejiaa

/-
  The laws BlockReads, BlockBytes and BlockAsks, as their statements' frames take them. Conditions: the rows' own.
-/
namespace Go.Proofs.Ytndodckcncejiaa
open Go.RowKit

theorem byte_of16 {z : Int} (h : (Lit.int .u8 z).wf = true) : 0 ≤ z ∧ z < 256 := by
  simp [Lit.wf, IntKind.min, IntKind.max, IntKind.signed, IntKind.bits] at h
  omega
theorem law_bkreads (a : Option Addr) (n c : Nat) (xs : List Int) (w : World) (hI : Ints .u8 w a n c xs) (hr : ∀ x ∈ xs, (Lit.int .u8 x).wf = true) (_hm : c ≤ maxLen) :
    Calls Try.prog 4 #[.slice a n c] w fun q w' => q = .returned (.bool true) ∧ Below w.heap.size w w' :=
  bkReads_any a n c xs w hI (fun x hx => byte_of16 (hr x hx))
theorem law_bkbytes (H P : List Int) (a : Option Addr) (n c : Nat) (zs : List Int) (w : World) (hM : BlkOk ⟨H, P, n, zs⟩) (hT : IdsAt w a n c zs) :
    Calls Try.prog 3 #[.agg (bkC H P a n c).toArray] w fun q w' => q = .returned (.bool true) ∧ Below w.heap.size w w' :=
  bkBytes_any H P a n c zs w hM hT
theorem law_bkasks (H P : List Int) (a : Option Addr) (n c : Nat) (zs : List Int) (H' P' : List Int) (a' : Option Addr) (n' c' : Nat) (ys : List Int) (A : Int) (w : World) (hM : BlkOk ⟨H, P, n, zs⟩) (hT : IdsAt w a n c zs) (hM' : BlkOk ⟨H', P', n', ys⟩) (hT' : IdsAt w a' n' c' ys) (hA : (Lit.int .u8 A).wf = true) :
    Calls Try.prog 5 #[.agg (bkC H P a n c).toArray, .agg (bkC H' P' a' n' c').toArray, .int .u8 A] w fun q w' => q = .returned (.bool true) ∧ Below w.heap.size w w' := by
  have hb := byte_of16 hA
  obtain ⟨k, rfl⟩ : ∃ k : Nat, A = (k : Int) := ⟨A.toNat, by omega⟩
  by_cases h1 : 100 < n ∨ 100 < n'
  · exact bkAsks_few H P a n c zs H' P' a' n' c' ys k w hM hM' h1
  · by_cases h2 : n = 0 ∨ k % 2 = 1
    · exact bkAsks_hash H P a n c zs H' P' a' n' c' ys k w hM hM' hT hT' (by omega) (by omega) (by omega) h2
    · obtain ⟨b0, off, rfl, _⟩ := hT.get (i := 0) (by omega)
      exact bkAsks_id H P b0 off n c zs H' P' a' n' c' ys k w hM hM' hT hT' (by omega) (by omega) (by omega) (by omega) (by omega)
end Go.Proofs.Ytndodckcncejiaa
