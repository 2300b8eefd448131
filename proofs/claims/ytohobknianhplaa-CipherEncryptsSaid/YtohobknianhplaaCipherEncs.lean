/-
  The law CipherEncrypts comes to true, whatever key of 32 bytes and whatever block; new memory alone is written. Conditions: bytes are numbers below 256.
-/
import Derived.Test.YtohobknianhplaaCipherRefEnc
import Derived.Test.YtohobknianhplaaOpenArr
namespace Go.Proofs.Ytohobknianhplaa
open Go.RowKit

theorem Ints.row16 {w : World} {g : Nat} {f : Nat → Nat} {t : TypeId} (n : Nat) (h : Blk w g t (rowN n f)) : Ints .u8 w (some ⟨g, 0, none⟩) n n (bytesL n f) := by
  have := Ints.row (o := 0) (cap := n) h n (by omega) (Nat.le_refl n)
  rw [show (fun i => f (0 + i)) = f by funext i; rw [Nat.zero_add]] at this
  exact this

set_option maxRecDepth 100000 in
set_option maxHeartbeats 2000000 in
theorem cipherEncrypts_any (kf b : Nat → Nat) (w : World) (hkf : By kf) (hb : By b) :
    Calls Try.prog 3 #[.agg (rowN 32 kf).toArray, .agg (rowN 16 b).toArray] w fun e w' => e = .returned (.bool true) ∧ Below w.heap.size w w' := by
  go_enter Try.func3, Try.ntmps3
  go_wp2_with (first
    | ((with_reducible refine wpList_box_blk rfl 22 (.tmp 0) rfl (rowN 32 kf) ?_ ?_); rfl)
    | ((with_reducible refine wpList_box_blk rfl 24 (.tmp 1) rfl (rowN 16 b) ?_ ?_); rfl))
  obtain ⟨W0, hW0⟩ : ∃ W0, (w.alloc (.cells (rowN 32 kf).toArray 22)).alloc (.cells (rowN 16 b).toArray 24) = W0 := ⟨_, rfl⟩
  obtain ⟨g, hg⟩ : ∃ g, w.heap.size = g := ⟨_, rfl⟩
  have hk0 : Blk W0 g 22 (rowN 32 kf) := by rw [← hW0, ← hg]; exact (Blk.new w _ _).alloc _
  have hx0 : Blk W0 (g + 1) 24 (rowN 16 b) := by rw [← hW0, ← hg]; exact Blk.new1 w _ _ _
  have hB0 : Below g w W0 := by rw [← hW0, ← hg]; exact below2 w _ _
  rw [hW0, hg]
  clear hW0
  have hg := Lib.hid hg
  have hkr := bytesL_range hkf 32
  refine (cNew_any (some ⟨g, 0, none⟩) 32 (bytesL 32 kf) W0 (Ints.row16 32 hk0) hkr).mono ?_
  rintro e w1 ⟨q, rfl, _, hC, b1⟩
  have hwd := kws_wd (own_wd (bytesL 32 kf) hkr) 52
  obtain ⟨W, hW⟩ : ∃ W, kws (own (bytesL 32 kf)) 52 = W := ⟨_, rfl⟩
  rw [hW] at hC hwd
  have hW := Lib.hid hW
  have hk1 := hk0.keep b1 hk0.lt
  have hx1 := hx0.keep b1 hx0.lt
  have hB1 := hB0.trans (b1.mono (Nat.le_of_lt hk0.lt))
  clear b1 hk0 hx0 hB0
  go_wp2_with ((refine wpList_load16 rfl (.tmp 3) rfl ?_ hx1 ?_); rfl)
  refine (cEnc_any q (kb W) b w1 (kb_by W) hb hC).mono ?_
  rintro e w2 ⟨rfl, b2⟩
  obtain ⟨X, hX⟩ : ∃ X, enc (keyAt (kb W)) b = X := ⟨_, rfl⟩
  have hXb : By X := by rw [← hX]; exact enc_by (fun r => keyAt_by (kb_by W) r) hb
  have hXd : rowN 16 (dec (keyAt (kb W)) X) = rowN 16 b := by rw [← hX]; exact rowN_congr (dec_enc _ (fun r => keyAt_by (kb_by W) r) _ hb)
  rw [hX]
  have hX := Lib.hid hX
  have hk2 := hk1.keep b2 hk1.lt
  have hx2 := hx1.keep b2 hx1.lt
  have hC2 : CiAt w2 q (kb W) sb bk true true := Blk.keep hC b2 (Blk.lt hC)
  have hB2 := hB1.trans (b2.mono (Nat.le_of_lt hk1.lt))
  have hn2 := Blk.new w2 24 (rowN 16 zf)
  clear b2 hk1 hx1 hC hB1
  go_wp2_with (first
    | (with_reducible refine wpList_alloc_blk rfl 24 rfl zero16 ?_)
    | ((refine wpList_store16 (new := X) rfl (.tmp 7) (.tmp 22) rfl ?_ ?_ hn2 ?_); rfl; rfl; intro w3 h73 hg3; refine RowKit.Hid.out ?_))
  refine Lib.hid ?_
  have b3 : Below w2.heap.size w2 w3 := (below1 w2 _).trans (below_of_grown hg3 (Nat.le_refl _) (by rw [size1]; omega))
  have hk3 := hk2.keep b3 hk2.lt
  have hx3 := hx2.keep b3 hx2.lt
  have hC3 : CiAt w3 q (kb W) sb bk true true := Blk.keep hC2 b3 (Blk.lt hC2)
  have hB3 := hB2.trans (b3.mono (Nat.le_of_lt hk2.lt))
  obtain ⟨p7, hp7⟩ : ∃ p, w2.heap.size = p := ⟨_, rfl⟩
  rw [hp7] at h73 ⊢
  clear b3 hg3 hn2 hp7 hk2 hx2 hC2 hB2
  go_wp2_with ((refine wpList_load16 rfl (.tmp 3) rfl ?_ hx3 ?_); rfl)
  refine (cDec_any q (kb W) b w3 (kb_by W) hb hC3).mono ?_
  rintro e w4 ⟨rfl, b4⟩
  obtain ⟨Y, hY⟩ : ∃ Y, dec (keyAt (kb W)) b = Y := ⟨_, rfl⟩
  have hYb : By Y := by rw [← hY]; exact dec_by (fun r => keyAt_by (kb_by W) r) hb
  have hYd : rowN 16 (enc (keyAt (kb W)) Y) = rowN 16 b := by rw [← hY]; exact rowN_congr (enc_dec _ (fun r => keyAt_by (kb_by W) r) _ hb)
  rw [hY]
  have hk4 := hk3.keep b4 hk3.lt
  have hx4 := hx3.keep b4 hx3.lt
  have h74 := h73.keep b4 h73.lt
  have hC4 : CiAt w4 q (kb W) sb bk true true := Blk.keep hC3 b4 (Blk.lt hC3)
  have hB4 := hB3.trans (b4.mono (Nat.le_of_lt hk3.lt))
  have hn4 := Blk.new w4 24 (rowN 16 zf)
  clear b4 hk3 hx3 hC3 hB3 h73 hY
  go_wp2_with (first
    | (with_reducible refine wpList_alloc_blk rfl 24 rfl zero16 ?_)
    | ((refine wpList_store16 (new := Y) rfl (.tmp 8) (.tmp 25) rfl ?_ ?_ hn4 ?_); rfl; rfl; intro V h85 hg5; refine RowKit.Hid.out ?_))
  refine Lib.hid ?_
  have b5 : Below w4.heap.size w4 V := (below1 w4 _).trans (below_of_grown hg5 (Nat.le_refl _) (by rw [size1]; omega))
  have hk5 := hk4.keep b5 hk4.lt
  have hx5 := hx4.keep b5 hx4.lt
  have h75 := h74.keep b5 h74.lt
  have hC5 : CiAt V q (kb W) sb bk true true := Blk.keep hC4 b5 (Blk.lt hC4)
  have hB5 := hB4.trans (b5.mono (Nat.le_of_lt hk4.lt))
  obtain ⟨p8, hp8⟩ : ∃ p, w4.heap.size = p := ⟨_, rfl⟩
  rw [hp8] at h85 ⊢
  clear b5 hg5 hn4 hp8 hk4 hx4 hC4 hB4 h74
  have hng := noGuard16
  have same := same16 b
  have KK := Lib.hid (fun w' (h : Below V.heap.size V w') => Ints.row16 32 (hk5.keep h hk5.lt))
  have XX := Lib.hid (fun w' (h : Below V.heap.size V w') => (hx5.keep h hx5.lt : Blk w' (g + 1) 24 (rowN 16 b)))
  have X7 := Lib.hid (fun w' (h : Below V.heap.size V w') => (h75.keep h h75.lt : Blk w' p7 24 (rowN 16 X)))
  have X8 := Lib.hid (fun w' (h : Below V.heap.size V w') => (h85.keep h h85.lt : Blk w' p8 24 (rowN 16 Y)))
  have CC := Lib.hid (fun w' (h : Below V.heap.size V w') => (Blk.keep hC5 h (Blk.lt hC5) : CiAt w' q (kb W) sb bk true true))
  have FX := Lib.hid (fun w' (h : Below V.heap.size V w') => (Ints.row16 16 (X7.out w' h)).string 29 9 5 Try.underlying29 Try.underlying5 Try.underlying9)
  have hVg : g ≤ V.heap.size := Nat.le_of_lt hk5.lt
  have hB5 := Lib.hid hB5
  have hVg := Lib.hid hVg
  have hXd := Lib.hid hXd
  have hYd := Lib.hid hYd
  have hS : Below V.heap.size V V.drew := Below.drew (Below.refl _ _)
  clear hk5 hx5 h75 h85 hC5
  go_wp2_with fail
  refine region_seqS (fun w' => Below V.heap.size V w') (by kernel_rfl) hS ?_
  simp only [pairs, Nat.reduceAdd]
  repeat (first
    | (refine SeqS.take (v := .agg (rowN 16 b).toArray) (by first | assumption | trivial) (by kernel_rfl) (by decide +kernel) (by decide +kernel) (yields_blk (by rfl) 24 (.tmp 3) rfl rfl (fun w' h => XX.out w' h) (row16 _)) ?_; simp only [Act.put, List.setIfInBounds_toArray, List.set_cons_zero, List.set_cons_succ])
    | (refine SeqS.take (v := .agg (rowN 16 X).toArray) (by first | assumption | trivial) (by kernel_rfl) (by decide +kernel) (by decide +kernel) (yields_blk (by rfl) 24 (.tmp 7) rfl rfl (fun w' h => X7.out w' h) (row16 _)) ?_; simp only [Act.put, List.setIfInBounds_toArray, List.set_cons_zero, List.set_cons_succ])
    | (refine SeqS.take (v := .agg (rowN 16 Y).toArray) (by first | assumption | trivial) (by kernel_rfl) (by decide +kernel) (by decide +kernel) (yields_blk (by rfl) 24 (.tmp 8) rfl rfl (fun w' h => X8.out w' h) (row16 _)) ?_; simp only [Act.put, List.setIfInBounds_toArray, List.set_cons_zero, List.set_cons_succ])
    | (refine SeqS.take (v := ?_) (by first | assumption | trivial) (by kernel_rfl) (by decide +kernel) (by decide +kernel) (Or.inl ⟨by rfl, ?_⟩) ?_
       rotate_left
       focus
         intro w' hb'
         have f1 := FX.out w' hb'
         go_simp
         with_reducible rfl
       simp only [Act.put, List.setIfInBounds_toArray, List.set_cons_zero, List.set_cons_succ])
    | (refine SeqS.take (v := undef) (by first | assumption | trivial) (by kernel_rfl) (by decide +kernel) (by decide +kernel) (Or.inr ⟨by rfl, rfl⟩) ?_
       simp only [Act.put, List.setIfInBounds_toArray, List.set_cons_zero, List.set_cons_succ])
    | (refine SeqS.take1 (v := .agg (rowN 16 b).toArray) (by first | assumption | trivial) (by kernel_rfl) (by decide +kernel) (by decide +kernel) (yields_blk (by rfl) 24 (.tmp 3) rfl rfl (fun w' h => XX.out w' h) (row16 _)) ?_; simp only [Act.put, List.setIfInBounds_toArray, List.set_cons_zero, List.set_cons_succ])
    | (refine SeqS.take1 (v := .agg (rowN 16 X).toArray) (by first | assumption | trivial) (by kernel_rfl) (by decide +kernel) (by decide +kernel) (yields_blk (by rfl) 24 (.tmp 7) rfl rfl (fun w' h => X7.out w' h) (row16 _)) ?_; simp only [Act.put, List.setIfInBounds_toArray, List.set_cons_zero, List.set_cons_succ])
    | (refine SeqS.take1 (v := .agg (rowN 16 Y).toArray) (by first | assumption | trivial) (by kernel_rfl) (by decide +kernel) (by decide +kernel) (yields_blk (by rfl) 24 (.tmp 8) rfl rfl (fun w' h => X8.out w' h) (row16 _)) ?_; simp only [Act.put, List.setIfInBounds_toArray, List.set_cons_zero, List.set_cons_succ])
    | (refine SeqS.take1 (v := ?_) (by first | assumption | trivial) (by kernel_rfl) (by decide +kernel) (by decide +kernel) (Or.inl ⟨by rfl, ?_⟩) ?_
       rotate_left
       focus
         intro w' hb'
         have f1 := FX.out w' hb'
         go_simp
         with_reducible rfl
       simp only [Act.put, List.setIfInBounds_toArray, List.set_cons_zero, List.set_cons_succ])
    | (refine SeqS.take1 (v := undef) (by first | assumption | trivial) (by kernel_rfl) (by decide +kernel) (by decide +kernel) (Or.inr ⟨by rfl, rfl⟩) ?_
       simp only [Act.put, List.setIfInBounds_toArray, List.set_cons_zero, List.set_cons_succ])
    | (refine SeqS.take2 (v := .agg (rowN 16 b).toArray) (by first | assumption | trivial) (by kernel_rfl) (by decide +kernel) (by decide +kernel) (yields_blk (by rfl) 24 (.tmp 3) rfl rfl (fun w' h => XX.out w' h) (row16 _)) ?_; simp only [Act.put, List.setIfInBounds_toArray, List.set_cons_zero, List.set_cons_succ])
    | (refine SeqS.take2 (v := .agg (rowN 16 X).toArray) (by first | assumption | trivial) (by kernel_rfl) (by decide +kernel) (by decide +kernel) (yields_blk (by rfl) 24 (.tmp 7) rfl rfl (fun w' h => X7.out w' h) (row16 _)) ?_; simp only [Act.put, List.setIfInBounds_toArray, List.set_cons_zero, List.set_cons_succ])
    | (refine SeqS.take2 (v := .agg (rowN 16 Y).toArray) (by first | assumption | trivial) (by kernel_rfl) (by decide +kernel) (by decide +kernel) (yields_blk (by rfl) 24 (.tmp 8) rfl rfl (fun w' h => X8.out w' h) (row16 _)) ?_; simp only [Act.put, List.setIfInBounds_toArray, List.set_cons_zero, List.set_cons_succ])
    | (refine SeqS.take2 (v := ?_) (by first | assumption | trivial) (by kernel_rfl) (by decide +kernel) (by decide +kernel) (Or.inl ⟨by rfl, ?_⟩) ?_
       rotate_left
       focus
         intro w' hb'
         have f1 := FX.out w' hb'
         go_simp
         with_reducible rfl
       simp only [Act.put, List.setIfInBounds_toArray, List.set_cons_zero, List.set_cons_succ])
    | (refine SeqS.take2 (v := undef) (by first | assumption | trivial) (by kernel_rfl) (by decide +kernel) (by decide +kernel) (Or.inr ⟨by rfl, rfl⟩) ?_
       simp only [Act.put, List.setIfInBounds_toArray, List.set_cons_zero, List.set_cons_succ]))
  refine SeqS.alone (by decide +kernel) (by rfl) (fun K hK => ?_)
  go_simp
  refine (rNew_any (some ⟨g, 0, none⟩) 32 (bytesL 32 kf) _ (KK.out _ hS) hkr).mono ?_
  rintro e w5 ⟨wa, wc, ta, tc, rfl, hWW, hTT, b5⟩
  rw [hW.out] at hWW
  go_simp
  have Z5 : Below V.heap.size V w5 := hS.trans (b5.mono hS.size)
  refine hK _ _ Z5 ?_
  clear hK K
  obtain ⟨tb, toff, rfl, _⟩ := hTT.at (by decide)
  refine SeqS.alone (by decide +kernel) (by rfl) (fun K hK => ?_)
  go_simp
  refine (rEnc_any wa wc tb toff tc W (some ⟨g + 1, 0, none⟩) 16 b w5 hWW hwd hTT (Ints.row16 16 (XX.out _ Z5)) hb).mono ?_
  rintro e w6 ⟨oa, oc, rfl, hO, b6⟩
  rw [hX.out] at hO
  go_simp
  have Z6 : Below V.heap.size V w6 := Z5.trans (b6.mono Z5.size)
  refine hK _ _ Z6 ?_
  clear hK K
  have f2 := hO.string 29 9 5 Try.underlying29 Try.underlying5 Try.underlying9
  refine SeqS.alone (by decide +kernel) (by rfl) (fun K hK => ?_)
  go_simp
  refine hK _ _ Z6 ?_
  clear hK K f2 hO hWW hTT
  try simp only [Act.put, List.setIfInBounds_toArray, List.set_cons_zero, List.set_cons_succ]
  repeat (first
    | (refine SeqS.take (v := .agg (rowN 16 b).toArray) (by first | assumption | trivial) (by kernel_rfl) (by decide +kernel) (by decide +kernel) (yields_blk (by rfl) 24 (.tmp 3) rfl rfl (fun w' h => XX.out w' h) (row16 _)) ?_; simp only [Act.put, List.setIfInBounds_toArray, List.set_cons_zero, List.set_cons_succ])
    | (refine SeqS.take (v := .agg (rowN 16 X).toArray) (by first | assumption | trivial) (by kernel_rfl) (by decide +kernel) (by decide +kernel) (yields_blk (by rfl) 24 (.tmp 7) rfl rfl (fun w' h => X7.out w' h) (row16 _)) ?_; simp only [Act.put, List.setIfInBounds_toArray, List.set_cons_zero, List.set_cons_succ])
    | (refine SeqS.take (v := .agg (rowN 16 Y).toArray) (by first | assumption | trivial) (by kernel_rfl) (by decide +kernel) (by decide +kernel) (yields_blk (by rfl) 24 (.tmp 8) rfl rfl (fun w' h => X8.out w' h) (row16 _)) ?_; simp only [Act.put, List.setIfInBounds_toArray, List.set_cons_zero, List.set_cons_succ])
    | (refine SeqS.take (v := ?_) (by first | assumption | trivial) (by kernel_rfl) (by decide +kernel) (by decide +kernel) (Or.inl ⟨by rfl, ?_⟩) ?_
       rotate_left
       focus
         intro w' hb'
         have f1 := FX.out w' hb'
         go_simp
         with_reducible rfl
       simp only [Act.put, List.setIfInBounds_toArray, List.set_cons_zero, List.set_cons_succ])
    | (refine SeqS.take (v := undef) (by first | assumption | trivial) (by kernel_rfl) (by decide +kernel) (by decide +kernel) (Or.inr ⟨by rfl, rfl⟩) ?_
       simp only [Act.put, List.setIfInBounds_toArray, List.set_cons_zero, List.set_cons_succ])
    | (refine SeqS.take1 (v := .agg (rowN 16 b).toArray) (by first | assumption | trivial) (by kernel_rfl) (by decide +kernel) (by decide +kernel) (yields_blk (by rfl) 24 (.tmp 3) rfl rfl (fun w' h => XX.out w' h) (row16 _)) ?_; simp only [Act.put, List.setIfInBounds_toArray, List.set_cons_zero, List.set_cons_succ])
    | (refine SeqS.take1 (v := .agg (rowN 16 X).toArray) (by first | assumption | trivial) (by kernel_rfl) (by decide +kernel) (by decide +kernel) (yields_blk (by rfl) 24 (.tmp 7) rfl rfl (fun w' h => X7.out w' h) (row16 _)) ?_; simp only [Act.put, List.setIfInBounds_toArray, List.set_cons_zero, List.set_cons_succ])
    | (refine SeqS.take1 (v := .agg (rowN 16 Y).toArray) (by first | assumption | trivial) (by kernel_rfl) (by decide +kernel) (by decide +kernel) (yields_blk (by rfl) 24 (.tmp 8) rfl rfl (fun w' h => X8.out w' h) (row16 _)) ?_; simp only [Act.put, List.setIfInBounds_toArray, List.set_cons_zero, List.set_cons_succ])
    | (refine SeqS.take1 (v := ?_) (by first | assumption | trivial) (by kernel_rfl) (by decide +kernel) (by decide +kernel) (Or.inl ⟨by rfl, ?_⟩) ?_
       rotate_left
       focus
         intro w' hb'
         have f1 := FX.out w' hb'
         go_simp
         with_reducible rfl
       simp only [Act.put, List.setIfInBounds_toArray, List.set_cons_zero, List.set_cons_succ])
    | (refine SeqS.take1 (v := undef) (by first | assumption | trivial) (by kernel_rfl) (by decide +kernel) (by decide +kernel) (Or.inr ⟨by rfl, rfl⟩) ?_
       simp only [Act.put, List.setIfInBounds_toArray, List.set_cons_zero, List.set_cons_succ])
    | (refine SeqS.take2 (v := .agg (rowN 16 b).toArray) (by first | assumption | trivial) (by kernel_rfl) (by decide +kernel) (by decide +kernel) (yields_blk (by rfl) 24 (.tmp 3) rfl rfl (fun w' h => XX.out w' h) (row16 _)) ?_; simp only [Act.put, List.setIfInBounds_toArray, List.set_cons_zero, List.set_cons_succ])
    | (refine SeqS.take2 (v := .agg (rowN 16 X).toArray) (by first | assumption | trivial) (by kernel_rfl) (by decide +kernel) (by decide +kernel) (yields_blk (by rfl) 24 (.tmp 7) rfl rfl (fun w' h => X7.out w' h) (row16 _)) ?_; simp only [Act.put, List.setIfInBounds_toArray, List.set_cons_zero, List.set_cons_succ])
    | (refine SeqS.take2 (v := .agg (rowN 16 Y).toArray) (by first | assumption | trivial) (by kernel_rfl) (by decide +kernel) (by decide +kernel) (yields_blk (by rfl) 24 (.tmp 8) rfl rfl (fun w' h => X8.out w' h) (row16 _)) ?_; simp only [Act.put, List.setIfInBounds_toArray, List.set_cons_zero, List.set_cons_succ])
    | (refine SeqS.take2 (v := ?_) (by first | assumption | trivial) (by kernel_rfl) (by decide +kernel) (by decide +kernel) (Or.inl ⟨by rfl, ?_⟩) ?_
       rotate_left
       focus
         intro w' hb'
         have f1 := FX.out w' hb'
         go_simp
         with_reducible rfl
       simp only [Act.put, List.setIfInBounds_toArray, List.set_cons_zero, List.set_cons_succ])
    | (refine SeqS.take2 (v := undef) (by first | assumption | trivial) (by kernel_rfl) (by decide +kernel) (by decide +kernel) (Or.inr ⟨by rfl, rfl⟩) ?_
       simp only [Act.put, List.setIfInBounds_toArray, List.set_cons_zero, List.set_cons_succ]))
  refine SeqS.alone (by decide +kernel) (by rfl) (fun K hK => ?_)
  go_simp
  refine (cDec_any q (kb W) X _ (kb_by W) hXb (CC.out _ Z6)).mono ?_
  rintro e w7 ⟨rfl, b7⟩
  rw [hXd.out]
  go_simp
  have Z7 : Below V.heap.size V w7 := Z6.trans (b7.mono Z6.size)
  refine hK _ _ Z7 ?_
  clear hK K
  repeat (first
    | (refine SeqS.take (v := .agg (rowN 16 b).toArray) (by first | assumption | trivial) (by kernel_rfl) (by decide +kernel) (by decide +kernel) (yields_blk (by rfl) 24 (.tmp 3) rfl rfl (fun w' h => XX.out w' h) (row16 _)) ?_; simp only [Act.put, List.setIfInBounds_toArray, List.set_cons_zero, List.set_cons_succ])
    | (refine SeqS.take (v := .agg (rowN 16 X).toArray) (by first | assumption | trivial) (by kernel_rfl) (by decide +kernel) (by decide +kernel) (yields_blk (by rfl) 24 (.tmp 7) rfl rfl (fun w' h => X7.out w' h) (row16 _)) ?_; simp only [Act.put, List.setIfInBounds_toArray, List.set_cons_zero, List.set_cons_succ])
    | (refine SeqS.take (v := .agg (rowN 16 Y).toArray) (by first | assumption | trivial) (by kernel_rfl) (by decide +kernel) (by decide +kernel) (yields_blk (by rfl) 24 (.tmp 8) rfl rfl (fun w' h => X8.out w' h) (row16 _)) ?_; simp only [Act.put, List.setIfInBounds_toArray, List.set_cons_zero, List.set_cons_succ])
    | (refine SeqS.take (v := ?_) (by first | assumption | trivial) (by kernel_rfl) (by decide +kernel) (by decide +kernel) (Or.inl ⟨by rfl, ?_⟩) ?_
       rotate_left
       focus
         intro w' hb'
         have f1 := FX.out w' hb'
         go_simp
         with_reducible rfl
       simp only [Act.put, List.setIfInBounds_toArray, List.set_cons_zero, List.set_cons_succ])
    | (refine SeqS.take (v := undef) (by first | assumption | trivial) (by kernel_rfl) (by decide +kernel) (by decide +kernel) (Or.inr ⟨by rfl, rfl⟩) ?_
       simp only [Act.put, List.setIfInBounds_toArray, List.set_cons_zero, List.set_cons_succ])
    | (refine SeqS.take1 (v := .agg (rowN 16 b).toArray) (by first | assumption | trivial) (by kernel_rfl) (by decide +kernel) (by decide +kernel) (yields_blk (by rfl) 24 (.tmp 3) rfl rfl (fun w' h => XX.out w' h) (row16 _)) ?_; simp only [Act.put, List.setIfInBounds_toArray, List.set_cons_zero, List.set_cons_succ])
    | (refine SeqS.take1 (v := .agg (rowN 16 X).toArray) (by first | assumption | trivial) (by kernel_rfl) (by decide +kernel) (by decide +kernel) (yields_blk (by rfl) 24 (.tmp 7) rfl rfl (fun w' h => X7.out w' h) (row16 _)) ?_; simp only [Act.put, List.setIfInBounds_toArray, List.set_cons_zero, List.set_cons_succ])
    | (refine SeqS.take1 (v := .agg (rowN 16 Y).toArray) (by first | assumption | trivial) (by kernel_rfl) (by decide +kernel) (by decide +kernel) (yields_blk (by rfl) 24 (.tmp 8) rfl rfl (fun w' h => X8.out w' h) (row16 _)) ?_; simp only [Act.put, List.setIfInBounds_toArray, List.set_cons_zero, List.set_cons_succ])
    | (refine SeqS.take1 (v := ?_) (by first | assumption | trivial) (by kernel_rfl) (by decide +kernel) (by decide +kernel) (Or.inl ⟨by rfl, ?_⟩) ?_
       rotate_left
       focus
         intro w' hb'
         have f1 := FX.out w' hb'
         go_simp
         with_reducible rfl
       simp only [Act.put, List.setIfInBounds_toArray, List.set_cons_zero, List.set_cons_succ])
    | (refine SeqS.take1 (v := undef) (by first | assumption | trivial) (by kernel_rfl) (by decide +kernel) (by decide +kernel) (Or.inr ⟨by rfl, rfl⟩) ?_
       simp only [Act.put, List.setIfInBounds_toArray, List.set_cons_zero, List.set_cons_succ])
    | (refine SeqS.take2 (v := .agg (rowN 16 b).toArray) (by first | assumption | trivial) (by kernel_rfl) (by decide +kernel) (by decide +kernel) (yields_blk (by rfl) 24 (.tmp 3) rfl rfl (fun w' h => XX.out w' h) (row16 _)) ?_; simp only [Act.put, List.setIfInBounds_toArray, List.set_cons_zero, List.set_cons_succ])
    | (refine SeqS.take2 (v := .agg (rowN 16 X).toArray) (by first | assumption | trivial) (by kernel_rfl) (by decide +kernel) (by decide +kernel) (yields_blk (by rfl) 24 (.tmp 7) rfl rfl (fun w' h => X7.out w' h) (row16 _)) ?_; simp only [Act.put, List.setIfInBounds_toArray, List.set_cons_zero, List.set_cons_succ])
    | (refine SeqS.take2 (v := .agg (rowN 16 Y).toArray) (by first | assumption | trivial) (by kernel_rfl) (by decide +kernel) (by decide +kernel) (yields_blk (by rfl) 24 (.tmp 8) rfl rfl (fun w' h => X8.out w' h) (row16 _)) ?_; simp only [Act.put, List.setIfInBounds_toArray, List.set_cons_zero, List.set_cons_succ])
    | (refine SeqS.take2 (v := ?_) (by first | assumption | trivial) (by kernel_rfl) (by decide +kernel) (by decide +kernel) (Or.inl ⟨by rfl, ?_⟩) ?_
       rotate_left
       focus
         intro w' hb'
         have f1 := FX.out w' hb'
         go_simp
         with_reducible rfl
       simp only [Act.put, List.setIfInBounds_toArray, List.set_cons_zero, List.set_cons_succ])
    | (refine SeqS.take2 (v := undef) (by first | assumption | trivial) (by kernel_rfl) (by decide +kernel) (by decide +kernel) (Or.inr ⟨by rfl, rfl⟩) ?_
       simp only [Act.put, List.setIfInBounds_toArray, List.set_cons_zero, List.set_cons_succ]))
  refine SeqS.alone (by decide +kernel) (by rfl) (fun K hK => ?_)
  go_simp
  refine (cEnc_any q (kb W) Y _ (kb_by W) hYb (CC.out _ Z7)).mono ?_
  rintro e w8 ⟨rfl, b8⟩
  rw [hYd.out]
  go_simp
  have Z8 : Below V.heap.size V w8 := Z7.trans (b8.mono Z7.size)
  refine hK _ _ Z8 ?_
  clear hK K
  repeat (first
    | (refine SeqS.take (v := .agg (rowN 16 b).toArray) (by first | assumption | trivial) (by kernel_rfl) (by decide +kernel) (by decide +kernel) (yields_blk (by rfl) 24 (.tmp 3) rfl rfl (fun w' h => XX.out w' h) (row16 _)) ?_; simp only [Act.put, List.setIfInBounds_toArray, List.set_cons_zero, List.set_cons_succ])
    | (refine SeqS.take (v := .agg (rowN 16 X).toArray) (by first | assumption | trivial) (by kernel_rfl) (by decide +kernel) (by decide +kernel) (yields_blk (by rfl) 24 (.tmp 7) rfl rfl (fun w' h => X7.out w' h) (row16 _)) ?_; simp only [Act.put, List.setIfInBounds_toArray, List.set_cons_zero, List.set_cons_succ])
    | (refine SeqS.take (v := .agg (rowN 16 Y).toArray) (by first | assumption | trivial) (by kernel_rfl) (by decide +kernel) (by decide +kernel) (yields_blk (by rfl) 24 (.tmp 8) rfl rfl (fun w' h => X8.out w' h) (row16 _)) ?_; simp only [Act.put, List.setIfInBounds_toArray, List.set_cons_zero, List.set_cons_succ])
    | (refine SeqS.take (v := ?_) (by first | assumption | trivial) (by kernel_rfl) (by decide +kernel) (by decide +kernel) (Or.inl ⟨by rfl, ?_⟩) ?_
       rotate_left
       focus
         intro w' hb'
         have f1 := FX.out w' hb'
         go_simp
         with_reducible rfl
       simp only [Act.put, List.setIfInBounds_toArray, List.set_cons_zero, List.set_cons_succ])
    | (refine SeqS.take (v := undef) (by first | assumption | trivial) (by kernel_rfl) (by decide +kernel) (by decide +kernel) (Or.inr ⟨by rfl, rfl⟩) ?_
       simp only [Act.put, List.setIfInBounds_toArray, List.set_cons_zero, List.set_cons_succ])
    | (refine SeqS.take1 (v := .agg (rowN 16 b).toArray) (by first | assumption | trivial) (by kernel_rfl) (by decide +kernel) (by decide +kernel) (yields_blk (by rfl) 24 (.tmp 3) rfl rfl (fun w' h => XX.out w' h) (row16 _)) ?_; simp only [Act.put, List.setIfInBounds_toArray, List.set_cons_zero, List.set_cons_succ])
    | (refine SeqS.take1 (v := .agg (rowN 16 X).toArray) (by first | assumption | trivial) (by kernel_rfl) (by decide +kernel) (by decide +kernel) (yields_blk (by rfl) 24 (.tmp 7) rfl rfl (fun w' h => X7.out w' h) (row16 _)) ?_; simp only [Act.put, List.setIfInBounds_toArray, List.set_cons_zero, List.set_cons_succ])
    | (refine SeqS.take1 (v := .agg (rowN 16 Y).toArray) (by first | assumption | trivial) (by kernel_rfl) (by decide +kernel) (by decide +kernel) (yields_blk (by rfl) 24 (.tmp 8) rfl rfl (fun w' h => X8.out w' h) (row16 _)) ?_; simp only [Act.put, List.setIfInBounds_toArray, List.set_cons_zero, List.set_cons_succ])
    | (refine SeqS.take1 (v := ?_) (by first | assumption | trivial) (by kernel_rfl) (by decide +kernel) (by decide +kernel) (Or.inl ⟨by rfl, ?_⟩) ?_
       rotate_left
       focus
         intro w' hb'
         have f1 := FX.out w' hb'
         go_simp
         with_reducible rfl
       simp only [Act.put, List.setIfInBounds_toArray, List.set_cons_zero, List.set_cons_succ])
    | (refine SeqS.take1 (v := undef) (by first | assumption | trivial) (by kernel_rfl) (by decide +kernel) (by decide +kernel) (Or.inr ⟨by rfl, rfl⟩) ?_
       simp only [Act.put, List.setIfInBounds_toArray, List.set_cons_zero, List.set_cons_succ])
    | (refine SeqS.take2 (v := .agg (rowN 16 b).toArray) (by first | assumption | trivial) (by kernel_rfl) (by decide +kernel) (by decide +kernel) (yields_blk (by rfl) 24 (.tmp 3) rfl rfl (fun w' h => XX.out w' h) (row16 _)) ?_; simp only [Act.put, List.setIfInBounds_toArray, List.set_cons_zero, List.set_cons_succ])
    | (refine SeqS.take2 (v := .agg (rowN 16 X).toArray) (by first | assumption | trivial) (by kernel_rfl) (by decide +kernel) (by decide +kernel) (yields_blk (by rfl) 24 (.tmp 7) rfl rfl (fun w' h => X7.out w' h) (row16 _)) ?_; simp only [Act.put, List.setIfInBounds_toArray, List.set_cons_zero, List.set_cons_succ])
    | (refine SeqS.take2 (v := .agg (rowN 16 Y).toArray) (by first | assumption | trivial) (by kernel_rfl) (by decide +kernel) (by decide +kernel) (yields_blk (by rfl) 24 (.tmp 8) rfl rfl (fun w' h => X8.out w' h) (row16 _)) ?_; simp only [Act.put, List.setIfInBounds_toArray, List.set_cons_zero, List.set_cons_succ])
    | (refine SeqS.take2 (v := ?_) (by first | assumption | trivial) (by kernel_rfl) (by decide +kernel) (by decide +kernel) (Or.inl ⟨by rfl, ?_⟩) ?_
       rotate_left
       focus
         intro w' hb'
         have f1 := FX.out w' hb'
         go_simp
         with_reducible rfl
       simp only [Act.put, List.setIfInBounds_toArray, List.set_cons_zero, List.set_cons_succ])
    | (refine SeqS.take2 (v := undef) (by first | assumption | trivial) (by kernel_rfl) (by decide +kernel) (by decide +kernel) (Or.inr ⟨by rfl, rfl⟩) ?_
       simp only [Act.put, List.setIfInBounds_toArray, List.set_cons_zero, List.set_cons_succ]))
  refine SeqS.alone (by decide +kernel) (by rfl) (fun K hK => ?_)
  go_simp
  refine (cAlive_any _).mono ?_
  rintro e w9 ⟨rfl, b9⟩
  go_simp
  have Z9 : Below V.heap.size V w9 := Z8.trans (b9.mono Z8.size)
  refine hK _ _ Z9 ?_
  clear hK K
  repeat (first
    | (refine SeqS.take (v := .agg (rowN 16 b).toArray) (by first | assumption | trivial) (by kernel_rfl) (by decide +kernel) (by decide +kernel) (yields_blk (by rfl) 24 (.tmp 3) rfl rfl (fun w' h => XX.out w' h) (row16 _)) ?_; simp only [Act.put, List.setIfInBounds_toArray, List.set_cons_zero, List.set_cons_succ])
    | (refine SeqS.take (v := .agg (rowN 16 X).toArray) (by first | assumption | trivial) (by kernel_rfl) (by decide +kernel) (by decide +kernel) (yields_blk (by rfl) 24 (.tmp 7) rfl rfl (fun w' h => X7.out w' h) (row16 _)) ?_; simp only [Act.put, List.setIfInBounds_toArray, List.set_cons_zero, List.set_cons_succ])
    | (refine SeqS.take (v := .agg (rowN 16 Y).toArray) (by first | assumption | trivial) (by kernel_rfl) (by decide +kernel) (by decide +kernel) (yields_blk (by rfl) 24 (.tmp 8) rfl rfl (fun w' h => X8.out w' h) (row16 _)) ?_; simp only [Act.put, List.setIfInBounds_toArray, List.set_cons_zero, List.set_cons_succ])
    | (refine SeqS.take (v := ?_) (by first | assumption | trivial) (by kernel_rfl) (by decide +kernel) (by decide +kernel) (Or.inl ⟨by rfl, ?_⟩) ?_
       rotate_left
       focus
         intro w' hb'
         have f1 := FX.out w' hb'
         go_simp
         with_reducible rfl
       simp only [Act.put, List.setIfInBounds_toArray, List.set_cons_zero, List.set_cons_succ])
    | (refine SeqS.take (v := undef) (by first | assumption | trivial) (by kernel_rfl) (by decide +kernel) (by decide +kernel) (Or.inr ⟨by rfl, rfl⟩) ?_
       simp only [Act.put, List.setIfInBounds_toArray, List.set_cons_zero, List.set_cons_succ])
    | (refine SeqS.take1 (v := .agg (rowN 16 b).toArray) (by first | assumption | trivial) (by kernel_rfl) (by decide +kernel) (by decide +kernel) (yields_blk (by rfl) 24 (.tmp 3) rfl rfl (fun w' h => XX.out w' h) (row16 _)) ?_; simp only [Act.put, List.setIfInBounds_toArray, List.set_cons_zero, List.set_cons_succ])
    | (refine SeqS.take1 (v := .agg (rowN 16 X).toArray) (by first | assumption | trivial) (by kernel_rfl) (by decide +kernel) (by decide +kernel) (yields_blk (by rfl) 24 (.tmp 7) rfl rfl (fun w' h => X7.out w' h) (row16 _)) ?_; simp only [Act.put, List.setIfInBounds_toArray, List.set_cons_zero, List.set_cons_succ])
    | (refine SeqS.take1 (v := .agg (rowN 16 Y).toArray) (by first | assumption | trivial) (by kernel_rfl) (by decide +kernel) (by decide +kernel) (yields_blk (by rfl) 24 (.tmp 8) rfl rfl (fun w' h => X8.out w' h) (row16 _)) ?_; simp only [Act.put, List.setIfInBounds_toArray, List.set_cons_zero, List.set_cons_succ])
    | (refine SeqS.take1 (v := ?_) (by first | assumption | trivial) (by kernel_rfl) (by decide +kernel) (by decide +kernel) (Or.inl ⟨by rfl, ?_⟩) ?_
       rotate_left
       focus
         intro w' hb'
         have f1 := FX.out w' hb'
         go_simp
         with_reducible rfl
       simp only [Act.put, List.setIfInBounds_toArray, List.set_cons_zero, List.set_cons_succ])
    | (refine SeqS.take1 (v := undef) (by first | assumption | trivial) (by kernel_rfl) (by decide +kernel) (by decide +kernel) (Or.inr ⟨by rfl, rfl⟩) ?_
       simp only [Act.put, List.setIfInBounds_toArray, List.set_cons_zero, List.set_cons_succ])
    | (refine SeqS.take2 (v := .agg (rowN 16 b).toArray) (by first | assumption | trivial) (by kernel_rfl) (by decide +kernel) (by decide +kernel) (yields_blk (by rfl) 24 (.tmp 3) rfl rfl (fun w' h => XX.out w' h) (row16 _)) ?_; simp only [Act.put, List.setIfInBounds_toArray, List.set_cons_zero, List.set_cons_succ])
    | (refine SeqS.take2 (v := .agg (rowN 16 X).toArray) (by first | assumption | trivial) (by kernel_rfl) (by decide +kernel) (by decide +kernel) (yields_blk (by rfl) 24 (.tmp 7) rfl rfl (fun w' h => X7.out w' h) (row16 _)) ?_; simp only [Act.put, List.setIfInBounds_toArray, List.set_cons_zero, List.set_cons_succ])
    | (refine SeqS.take2 (v := .agg (rowN 16 Y).toArray) (by first | assumption | trivial) (by kernel_rfl) (by decide +kernel) (by decide +kernel) (yields_blk (by rfl) 24 (.tmp 8) rfl rfl (fun w' h => X8.out w' h) (row16 _)) ?_; simp only [Act.put, List.setIfInBounds_toArray, List.set_cons_zero, List.set_cons_succ])
    | (refine SeqS.take2 (v := ?_) (by first | assumption | trivial) (by kernel_rfl) (by decide +kernel) (by decide +kernel) (Or.inl ⟨by rfl, ?_⟩) ?_
       rotate_left
       focus
         intro w' hb'
         have f1 := FX.out w' hb'
         go_simp
         with_reducible rfl
       simp only [Act.put, List.setIfInBounds_toArray, List.set_cons_zero, List.set_cons_succ])
    | (refine SeqS.take2 (v := undef) (by first | assumption | trivial) (by kernel_rfl) (by decide +kernel) (by decide +kernel) (Or.inr ⟨by rfl, rfl⟩) ?_
       simp only [Act.put, List.setIfInBounds_toArray, List.set_cons_zero, List.set_cons_succ]))
  refine SeqS.done (by decide +kernel) ?_
  go_wp2
  go_ret
  refine ⟨rfl, ?_⟩
  rw [hg.out]
  exact hB5.out.trans (Z9.mono hVg.out)

theorem law_CipherEncrypts (z0 z1 : List Int) (w : World) (h0 : z0.length = 32) (w0 : ∀ x ∈ z0, (Lit.int .u8 x).wf = true) (h1 : z1.length = 16) (w1 : ∀ x ∈ z1, (Lit.int .u8 x).wf = true) :
    Calls Try.prog 3 #[.agg (z0.map (Value.int .u8)).toArray, .agg (z1.map (Value.int .u8)).toArray] w fun e w' => e = .returned (.bool true) ∧ Below w.heap.size w w' := by
  obtain ⟨a, ha, rfl⟩ := bytes_fn z0 32 h0 w0
  obtain ⟨b, hb, rfl⟩ := bytes_fn z1 16 h1 w1
  rw [bytesL_row, bytesL_row]
  exact cipherEncrypts_any a b w ha hb
end Go.Proofs.Ytohobknianhplaa
