/-
  The law ReaderNumbers, out of what the program's reader comes to ('ReaderProg'). New memory alone is written. Conditions: numbers below 2^64, a width below 256.
-/
import Derived.Test.YtpobplkijfienaaRdProg
import Derived.OpenShut
namespace Go.Proofs.Ytpobplkijfienaa
open Go.RowKit Go.ChangeShapes Go.WideShapes

theorem rd_two1 (ys zs : List Int) (k : Nat) (hy : ys.length = k) (hz : zs.length = k) (h1 : 1 ≤ k) (h8 : k ≤ 8) : rdNum (ys ++ zs) 0 0 (k : Int) = (k, 0, be ys) := by
  have hs : rdStep (ys ++ zs).length 0 0 (k : Int) = (0 + (k : Int).toNat, 0, (k : Int).toNat) := by
    unfold rdStep
    rw [if_neg (by omega), if_neg (by omega), if_neg (by rw [List.length_append]; omega)]
  unfold rdNum rdBytes
  rw [if_neg (by omega), hs]
  simp only [Int.toNat_natCast, Nat.zero_add, List.drop_zero]
  rw [List.take_append_of_le_length (by omega), List.take_of_length_le (by omega)]
theorem rd_two2 (ys zs : List Int) (k : Nat) (hy : ys.length = k) (hz : zs.length = k) (h1 : 1 ≤ k) (h8 : k ≤ 8) : rdNum (ys ++ zs) k 0 (k : Int) = (k + k, 0, be zs) := by
  have hs : rdStep (ys ++ zs).length k 0 (k : Int) = (k + (k : Int).toNat, 0, (k : Int).toNat) := by
    unfold rdStep
    rw [if_neg (by omega), if_neg (by omega), if_neg (by rw [List.length_append]; omega)]
  unfold rdNum rdBytes
  rw [if_neg (by omega), hs]
  simp only [Int.toNat_natCast]
  rw [← hy, List.drop_left, List.take_of_length_le (by omega)]
theorem small_of (n n1 : Int) (k : Nat) (C : Int) (hC : C = 256 ^ k) (h0 : 0 < C) (hn : 0 ≤ n) (h : n.tmod C = n1) : 0 ≤ n1 ∧ n1 < 256 ^ k := by
  rw [Int.tmod_eq_emod_of_nonneg hn] at h
  have h1 := Int.emod_nonneg n (Int.ne_of_gt h0)
  have h2 := Int.emod_lt_of_pos n h0
  rw [← hC]
  omega

set_option maxRecDepth 100000 in
set_option maxHeartbeats 1000000 in
theorem numbers_1 (RP : ReaderProg) (n m x : Int) (w : World) (hG : RP.Gl w) (hw : wrap64 (1 + (wrap64 x).tmod 8) = 1) (hn : 0 ≤ n) (hm : 0 ≤ m) :
    Calls Try.prog 5 #[.int .u64 n, .int .u64 m, .int .u8 x] w fun r w' => r = .returned (.bool true) ∧ Below w.heap.size w w' := by
  go_enter Try.func5, Try.ntmps5
  have e8 : IntKind.i64.wrap 8 = 8 := by decide
  have e9 : IntKind.u64.wrap 256 = 256 := by decide
  obtain ⟨n1, hn1⟩ : ∃ n1, n.tmod 256 = n1 := ⟨_, rfl⟩
  obtain ⟨m1, hm1⟩ : ∃ m1, m.tmod 256 = m1 := ⟨_, rfl⟩
  have hn3 := Lib.hid (small_of n n1 1 256 (by decide) (by decide) hn hn1)
  have hm3 := Lib.hid (small_of m m1 1 256 (by decide) (by decide) hm hm1)
  clear hn hm
  go_wp2_with fail
  refine region_seqS (fun _ => True) (by kernel_rfl) trivial ?_
  simp only [pairs, Nat.reduceAdd]
  repeat (first
    | (refine SeqS.take (v := ?_) (by first | assumption | trivial) (by kernel_rfl) (by decide +kernel) (by decide +kernel) (Or.inl ⟨by rfl, ?_⟩) ?_
       rotate_left
       focus
         intro w' hb'
         go_simp
         with_reducible rfl
       simp only [Act.put, List.setIfInBounds_toArray, List.set_cons_zero, List.set_cons_succ])
    | (refine SeqS.take (v := undef) (by first | assumption | trivial) (by kernel_rfl) (by decide +kernel) (by decide +kernel) (Or.inr ⟨by rfl, rfl⟩) ?_
       simp only [Act.put, List.setIfInBounds_toArray, List.set_cons_zero, List.set_cons_succ])
    | (refine SeqS.take1 (v := ?_) (by first | assumption | trivial) (by kernel_rfl) (by decide +kernel) (by decide +kernel) (Or.inl ⟨by rfl, ?_⟩) ?_
       rotate_left
       focus
         intro w' hb'
         go_simp
         with_reducible rfl
       simp only [Act.put, List.setIfInBounds_toArray, List.set_cons_zero, List.set_cons_succ])
    | (refine SeqS.take1 (v := undef) (by first | assumption | trivial) (by kernel_rfl) (by decide +kernel) (by decide +kernel) (Or.inr ⟨by rfl, rfl⟩) ?_
       simp only [Act.put, List.setIfInBounds_toArray, List.set_cons_zero, List.set_cons_succ])
    | (refine SeqS.take2 (v := ?_) (by first | assumption | trivial) (by kernel_rfl) (by decide +kernel) (by decide +kernel) (Or.inl ⟨by rfl, ?_⟩) ?_
       rotate_left
       focus
         intro w' hb'
         go_simp
         with_reducible rfl
       simp only [Act.put, List.setIfInBounds_toArray, List.set_cons_zero, List.set_cons_succ])
    | (refine SeqS.take2 (v := undef) (by first | assumption | trivial) (by kernel_rfl) (by decide +kernel) (by decide +kernel) (Or.inr ⟨by rfl, rfl⟩) ?_
       simp only [Act.put, List.setIfInBounds_toArray, List.set_cons_zero, List.set_cons_succ])
    | (refine SeqS.take3 (v := ?_) (by first | assumption | trivial) (by kernel_rfl) (by decide +kernel) (by decide +kernel) (Or.inl ⟨by rfl, ?_⟩) ?_
       rotate_left
       focus
         intro w' hb'
         go_simp
         with_reducible rfl
       simp only [Act.put, List.setIfInBounds_toArray, List.set_cons_zero, List.set_cons_succ])
    | (refine SeqS.take3 (v := undef) (by first | assumption | trivial) (by kernel_rfl) (by decide +kernel) (by decide +kernel) (Or.inr ⟨by rfl, rfl⟩) ?_
       simp only [Act.put, List.setIfInBounds_toArray, List.set_cons_zero, List.set_cons_succ]))
  refine SeqS.done (by decide +kernel) ?_
  have hw0 : RP.Gl w.drew := RP.gl_keep hG (Below.drew (Below.refl _ _))
  have hB0 : Below w.heap.size w w.drew := Below.drew (Below.refl _ _)
  clear hn1 hm1 e8 e9
  obtain ⟨W, hW⟩ : ∃ W, w.drew = W := ⟨_, rfl⟩
  rw [hW] at hw0 hB0 ⊢
  clear hW
  go_wp2_with fail
  refine (rNumber_any n1 1 W (by decide)).mono ?_
  rintro r w1 ⟨b1, c1, rfl, o1, d1⟩
  have hB1 := hB0.trans (d1.mono hB0.size)
  have o1 := own_low9 o1 hB0.size
  have hG1 := RP.gl_keep hw0 (d1.mono (RP.gl_le hw0))
  clear hB0 d1 hw0
  go_wp2_with fail
  refine (rNumber_any m1 1 w1 (by decide)).mono ?_
  rintro r w2 ⟨b2, c2, rfl, o2, d2⟩
  have o2 := own_low9 o2 hB1.size
  have o3 := own_stay9 o1 d2
  have hB2 := hB1.trans (d2.mono hB1.size)
  have hG2 := RP.gl_keep hG1 (d2.mono (RP.gl_le hG1))
  have hI2 : Ints .u8 w2 b2 1 c2 (beL m1 1) := by
    obtain ⟨a', c', hv, hi⟩ := Ints.of_owns o2
    injection hv with e1 _ e2
    subst e1; subst e2
    exact hi
  obtain ⟨i0, hi, hz0, hz1, hz2⟩ := info_u8b
  have hs2 : w.heap.size ≤ w2.heap.size := hB2.size
  clear hB1 d2 hG1 o1 o2
  go_wp2_with (at_builtin; refine wpList_append_ints rfl (.tmp 27) (.tmp 30) 22 rfl w.heap.size 5 i0 (.int .u8 0) 1 Try.underlying22 hi hz0 hz1 hz2 rfl rfl o3 rfl hI2 ?_ ?_ hs2 ?_; (unfold maxLen; decide); decide; intro v3 w3 o4 g4; refine RowKit.Hid.out ?_)
  refine Lib.hid ?_
  have e1 := be_beL 1 n1 hn3.out.1 hn3.out.2
  have e2 := be_beL 1 m1 hm3.out.1 hm3.out.2
  obtain ⟨YN, hYN⟩ : ∃ YN, beL n1 1 = YN := ⟨_, rfl⟩
  obtain ⟨YM, hYM⟩ : ∃ YM, beL m1 1 = YM := ⟨_, rfl⟩
  have hr1 : ∀ x ∈ YN, 0 ≤ x ∧ x < 256 := by rw [← hYN]; exact beL_range 1 n1
  have hr2 : ∀ x ∈ YM, 0 ≤ x ∧ x < 256 := by rw [← hYM]; exact beL_range 1 m1
  have hl1 : YN.length = 1 := by rw [← hYN]; exact beL_len n1 1
  have hl2 : YM.length = 1 := by rw [← hYM]; exact beL_len m1 1
  rw [hYN] at e1 o4 o3
  rw [hYM] at e2 o4 hI2
  obtain ⟨b3, c3, hv⟩ := own_slice32 o4
  subst hv
  have hI3 : Ints .u8 w3 b3 (1 + 1) c3 (YN ++ YM) := by
    obtain ⟨a', c', hv, hi⟩ := Ints.of_owns (xs := YN ++ YM) (by rw [List.map_append]; exact o4)
    injection hv with e1 _ e2
    subst e1; subst e2
    exact hi
  have hB3 := hB2.grown g4 hs2 (fun q hq => (o3.lt q hq).1)
  have hG3 := RP.gl_keep hG (hB3.mono (RP.gl_le hG))
  clear g4 o3 o4 hI2 hB2 hG2 hYN hYM hn3 hm3 hs2
  go_wp2_with fail
  refine (RP.new b3 (1 + 1) c3 (YN ++ YM) w3 hG3 hI3 (by intro x hx; rcases List.mem_append.1 hx with hx | hx; exact hr1 x hx; exact hr2 x hx) (by decide)).mono ?_
  rintro r w4 ⟨g, F, rfl, R4, hF, d4⟩
  have hF4 : ∀ b, F b → w.heap.size ≤ b := fun b hb => Nat.le_trans hB3.size (hF b hb)
  have hB4 := hB3.trans (d4.mono hB3.size)
  have hG4 := RP.gl_keep hG (hB4.mono (RP.gl_le hG))
  clear hF d4 hB3 hG3 hI3
  have hc := RP.num F g (YN ++ YM) 0 0 ((1 : Nat) : Int) w4 hG4 R4 (Nat.zero_le _)
  rw [rd_two1 YN YM 1 hl1 hl2 (by decide) (by decide)] at hc
  go_wp2_with fail
  refine hc.mono ?_
  rintro r w5 ⟨F5, rfl, R5, g5, m5⟩
  have hF5 := g5.low hF4 hB4.size
  have hB5 := hB4.trans (m5.below hF4 hB4.size)
  have hG5 := RP.gl_keep hG (hB5.mono (RP.gl_le hG))
  clear hc R4 g5 m5 hF4 hB4 hG4
  have hc := RP.num F5 g (YN ++ YM) 1 0 ((1 : Nat) : Int) w5 hG5 R5 (by rw [List.length_append]; omega)
  rw [rd_two2 YN YM 1 hl1 hl2 (by decide) (by decide)] at hc
  go_wp2_with fail
  refine hc.mono ?_
  rintro r w6 ⟨F6, rfl, R6, g6, m6⟩
  have hF6 := g6.low hF5 hB5.size
  have hB6 := hB5.trans (m6.below hF5 hB5.size)
  have hG6 := RP.gl_keep hG (hB6.mono (RP.gl_le hG))
  clear hc R5 g6 m6 hF5 hB5 hG5
  have hc := RP.done F6 g (YN ++ YM) (1 + 1) 0 w6 hG6 R6
  rw [show doneOf (YN ++ YM).length (((1 + 1 : Nat) : Int)) 0 = 0 by rw [List.length_append, hl1, hl2]; rfl] at hc
  go_wp2_with fail
  refine hc.mono ?_
  rintro r w7 ⟨rfl, d7⟩
  have hB7 := hB6.trans (d7.mono hB6.size)
  have hG7 := RP.gl_keep hG (hB7.mono (RP.gl_le hG))
  clear hc R6 d7 hF6 hB6 hG6
  go_wp2_with fail
  refine (alive9_any RP w7 hG7).mono ?_
  rintro r w8 ⟨rfl, d8⟩
  go_wp2
  go_ret
  exact ⟨rfl, hB7.trans (d8.mono hB7.size)⟩

set_option maxRecDepth 100000 in
set_option maxHeartbeats 1000000 in
theorem numbers_2 (RP : ReaderProg) (n m x : Int) (w : World) (hG : RP.Gl w) (hw : wrap64 (1 + (wrap64 x).tmod 8) = 2) (hn : 0 ≤ n) (hm : 0 ≤ m) :
    Calls Try.prog 5 #[.int .u64 n, .int .u64 m, .int .u8 x] w fun r w' => r = .returned (.bool true) ∧ Below w.heap.size w w' := by
  go_enter Try.func5, Try.ntmps5
  have e8 : IntKind.i64.wrap 16 = 16 := by decide
  have e9 : IntKind.u64.wrap 65536 = 65536 := by decide
  obtain ⟨n1, hn1⟩ : ∃ n1, n.tmod 65536 = n1 := ⟨_, rfl⟩
  obtain ⟨m1, hm1⟩ : ∃ m1, m.tmod 65536 = m1 := ⟨_, rfl⟩
  have hn3 := Lib.hid (small_of n n1 2 65536 (by decide) (by decide) hn hn1)
  have hm3 := Lib.hid (small_of m m1 2 65536 (by decide) (by decide) hm hm1)
  clear hn hm
  go_wp2_with fail
  refine region_seqS (fun _ => True) (by kernel_rfl) trivial ?_
  simp only [pairs, Nat.reduceAdd]
  repeat (first
    | (refine SeqS.take (v := ?_) (by first | assumption | trivial) (by kernel_rfl) (by decide +kernel) (by decide +kernel) (Or.inl ⟨by rfl, ?_⟩) ?_
       rotate_left
       focus
         intro w' hb'
         go_simp
         with_reducible rfl
       simp only [Act.put, List.setIfInBounds_toArray, List.set_cons_zero, List.set_cons_succ])
    | (refine SeqS.take (v := undef) (by first | assumption | trivial) (by kernel_rfl) (by decide +kernel) (by decide +kernel) (Or.inr ⟨by rfl, rfl⟩) ?_
       simp only [Act.put, List.setIfInBounds_toArray, List.set_cons_zero, List.set_cons_succ])
    | (refine SeqS.take1 (v := ?_) (by first | assumption | trivial) (by kernel_rfl) (by decide +kernel) (by decide +kernel) (Or.inl ⟨by rfl, ?_⟩) ?_
       rotate_left
       focus
         intro w' hb'
         go_simp
         with_reducible rfl
       simp only [Act.put, List.setIfInBounds_toArray, List.set_cons_zero, List.set_cons_succ])
    | (refine SeqS.take1 (v := undef) (by first | assumption | trivial) (by kernel_rfl) (by decide +kernel) (by decide +kernel) (Or.inr ⟨by rfl, rfl⟩) ?_
       simp only [Act.put, List.setIfInBounds_toArray, List.set_cons_zero, List.set_cons_succ])
    | (refine SeqS.take2 (v := ?_) (by first | assumption | trivial) (by kernel_rfl) (by decide +kernel) (by decide +kernel) (Or.inl ⟨by rfl, ?_⟩) ?_
       rotate_left
       focus
         intro w' hb'
         go_simp
         with_reducible rfl
       simp only [Act.put, List.setIfInBounds_toArray, List.set_cons_zero, List.set_cons_succ])
    | (refine SeqS.take2 (v := undef) (by first | assumption | trivial) (by kernel_rfl) (by decide +kernel) (by decide +kernel) (Or.inr ⟨by rfl, rfl⟩) ?_
       simp only [Act.put, List.setIfInBounds_toArray, List.set_cons_zero, List.set_cons_succ])
    | (refine SeqS.take3 (v := ?_) (by first | assumption | trivial) (by kernel_rfl) (by decide +kernel) (by decide +kernel) (Or.inl ⟨by rfl, ?_⟩) ?_
       rotate_left
       focus
         intro w' hb'
         go_simp
         with_reducible rfl
       simp only [Act.put, List.setIfInBounds_toArray, List.set_cons_zero, List.set_cons_succ])
    | (refine SeqS.take3 (v := undef) (by first | assumption | trivial) (by kernel_rfl) (by decide +kernel) (by decide +kernel) (Or.inr ⟨by rfl, rfl⟩) ?_
       simp only [Act.put, List.setIfInBounds_toArray, List.set_cons_zero, List.set_cons_succ]))
  refine SeqS.done (by decide +kernel) ?_
  have hw0 : RP.Gl w.drew := RP.gl_keep hG (Below.drew (Below.refl _ _))
  have hB0 : Below w.heap.size w w.drew := Below.drew (Below.refl _ _)
  clear hn1 hm1 e8 e9
  obtain ⟨W, hW⟩ : ∃ W, w.drew = W := ⟨_, rfl⟩
  rw [hW] at hw0 hB0 ⊢
  clear hW
  go_wp2_with fail
  refine (rNumber_any n1 2 W (by decide)).mono ?_
  rintro r w1 ⟨b1, c1, rfl, o1, d1⟩
  have hB1 := hB0.trans (d1.mono hB0.size)
  have o1 := own_low9 o1 hB0.size
  have hG1 := RP.gl_keep hw0 (d1.mono (RP.gl_le hw0))
  clear hB0 d1 hw0
  go_wp2_with fail
  refine (rNumber_any m1 2 w1 (by decide)).mono ?_
  rintro r w2 ⟨b2, c2, rfl, o2, d2⟩
  have o2 := own_low9 o2 hB1.size
  have o3 := own_stay9 o1 d2
  have hB2 := hB1.trans (d2.mono hB1.size)
  have hG2 := RP.gl_keep hG1 (d2.mono (RP.gl_le hG1))
  have hI2 : Ints .u8 w2 b2 2 c2 (beL m1 2) := by
    obtain ⟨a', c', hv, hi⟩ := Ints.of_owns o2
    injection hv with e1 _ e2
    subst e1; subst e2
    exact hi
  obtain ⟨i0, hi, hz0, hz1, hz2⟩ := info_u8b
  have hs2 : w.heap.size ≤ w2.heap.size := hB2.size
  clear hB1 d2 hG1 o1 o2
  go_wp2_with (at_builtin; refine wpList_append_ints rfl (.tmp 27) (.tmp 30) 22 rfl w.heap.size 5 i0 (.int .u8 0) 1 Try.underlying22 hi hz0 hz1 hz2 rfl rfl o3 rfl hI2 ?_ ?_ hs2 ?_; (unfold maxLen; decide); decide; intro v3 w3 o4 g4; refine RowKit.Hid.out ?_)
  refine Lib.hid ?_
  have e1 := be_beL 2 n1 hn3.out.1 hn3.out.2
  have e2 := be_beL 2 m1 hm3.out.1 hm3.out.2
  obtain ⟨YN, hYN⟩ : ∃ YN, beL n1 2 = YN := ⟨_, rfl⟩
  obtain ⟨YM, hYM⟩ : ∃ YM, beL m1 2 = YM := ⟨_, rfl⟩
  have hr1 : ∀ x ∈ YN, 0 ≤ x ∧ x < 256 := by rw [← hYN]; exact beL_range 2 n1
  have hr2 : ∀ x ∈ YM, 0 ≤ x ∧ x < 256 := by rw [← hYM]; exact beL_range 2 m1
  have hl1 : YN.length = 2 := by rw [← hYN]; exact beL_len n1 2
  have hl2 : YM.length = 2 := by rw [← hYM]; exact beL_len m1 2
  rw [hYN] at e1 o4 o3
  rw [hYM] at e2 o4 hI2
  obtain ⟨b3, c3, hv⟩ := own_slice32 o4
  subst hv
  have hI3 : Ints .u8 w3 b3 (2 + 2) c3 (YN ++ YM) := by
    obtain ⟨a', c', hv, hi⟩ := Ints.of_owns (xs := YN ++ YM) (by rw [List.map_append]; exact o4)
    injection hv with e1 _ e2
    subst e1; subst e2
    exact hi
  have hB3 := hB2.grown g4 hs2 (fun q hq => (o3.lt q hq).1)
  have hG3 := RP.gl_keep hG (hB3.mono (RP.gl_le hG))
  clear g4 o3 o4 hI2 hB2 hG2 hYN hYM hn3 hm3 hs2
  go_wp2_with fail
  refine (RP.new b3 (2 + 2) c3 (YN ++ YM) w3 hG3 hI3 (by intro x hx; rcases List.mem_append.1 hx with hx | hx; exact hr1 x hx; exact hr2 x hx) (by decide)).mono ?_
  rintro r w4 ⟨g, F, rfl, R4, hF, d4⟩
  have hF4 : ∀ b, F b → w.heap.size ≤ b := fun b hb => Nat.le_trans hB3.size (hF b hb)
  have hB4 := hB3.trans (d4.mono hB3.size)
  have hG4 := RP.gl_keep hG (hB4.mono (RP.gl_le hG))
  clear hF d4 hB3 hG3 hI3
  have hc := RP.num F g (YN ++ YM) 0 0 ((2 : Nat) : Int) w4 hG4 R4 (Nat.zero_le _)
  rw [rd_two1 YN YM 2 hl1 hl2 (by decide) (by decide)] at hc
  go_wp2_with fail
  refine hc.mono ?_
  rintro r w5 ⟨F5, rfl, R5, g5, m5⟩
  have hF5 := g5.low hF4 hB4.size
  have hB5 := hB4.trans (m5.below hF4 hB4.size)
  have hG5 := RP.gl_keep hG (hB5.mono (RP.gl_le hG))
  clear hc R4 g5 m5 hF4 hB4 hG4
  have hc := RP.num F5 g (YN ++ YM) 2 0 ((2 : Nat) : Int) w5 hG5 R5 (by rw [List.length_append]; omega)
  rw [rd_two2 YN YM 2 hl1 hl2 (by decide) (by decide)] at hc
  go_wp2_with fail
  refine hc.mono ?_
  rintro r w6 ⟨F6, rfl, R6, g6, m6⟩
  have hF6 := g6.low hF5 hB5.size
  have hB6 := hB5.trans (m6.below hF5 hB5.size)
  have hG6 := RP.gl_keep hG (hB6.mono (RP.gl_le hG))
  clear hc R5 g6 m6 hF5 hB5 hG5
  have hc := RP.done F6 g (YN ++ YM) (2 + 2) 0 w6 hG6 R6
  rw [show doneOf (YN ++ YM).length (((2 + 2 : Nat) : Int)) 0 = 0 by rw [List.length_append, hl1, hl2]; rfl] at hc
  go_wp2_with fail
  refine hc.mono ?_
  rintro r w7 ⟨rfl, d7⟩
  have hB7 := hB6.trans (d7.mono hB6.size)
  have hG7 := RP.gl_keep hG (hB7.mono (RP.gl_le hG))
  clear hc R6 d7 hF6 hB6 hG6
  go_wp2_with fail
  refine (alive9_any RP w7 hG7).mono ?_
  rintro r w8 ⟨rfl, d8⟩
  go_wp2
  go_ret
  exact ⟨rfl, hB7.trans (d8.mono hB7.size)⟩

set_option maxRecDepth 100000 in
set_option maxHeartbeats 1000000 in
theorem numbers_3 (RP : ReaderProg) (n m x : Int) (w : World) (hG : RP.Gl w) (hw : wrap64 (1 + (wrap64 x).tmod 8) = 3) (hn : 0 ≤ n) (hm : 0 ≤ m) :
    Calls Try.prog 5 #[.int .u64 n, .int .u64 m, .int .u8 x] w fun r w' => r = .returned (.bool true) ∧ Below w.heap.size w w' := by
  go_enter Try.func5, Try.ntmps5
  have e8 : IntKind.i64.wrap 24 = 24 := by decide
  have e9 : IntKind.u64.wrap 16777216 = 16777216 := by decide
  obtain ⟨n1, hn1⟩ : ∃ n1, n.tmod 16777216 = n1 := ⟨_, rfl⟩
  obtain ⟨m1, hm1⟩ : ∃ m1, m.tmod 16777216 = m1 := ⟨_, rfl⟩
  have hn3 := Lib.hid (small_of n n1 3 16777216 (by decide) (by decide) hn hn1)
  have hm3 := Lib.hid (small_of m m1 3 16777216 (by decide) (by decide) hm hm1)
  clear hn hm
  go_wp2_with fail
  refine region_seqS (fun _ => True) (by kernel_rfl) trivial ?_
  simp only [pairs, Nat.reduceAdd]
  repeat (first
    | (refine SeqS.take (v := ?_) (by first | assumption | trivial) (by kernel_rfl) (by decide +kernel) (by decide +kernel) (Or.inl ⟨by rfl, ?_⟩) ?_
       rotate_left
       focus
         intro w' hb'
         go_simp
         with_reducible rfl
       simp only [Act.put, List.setIfInBounds_toArray, List.set_cons_zero, List.set_cons_succ])
    | (refine SeqS.take (v := undef) (by first | assumption | trivial) (by kernel_rfl) (by decide +kernel) (by decide +kernel) (Or.inr ⟨by rfl, rfl⟩) ?_
       simp only [Act.put, List.setIfInBounds_toArray, List.set_cons_zero, List.set_cons_succ])
    | (refine SeqS.take1 (v := ?_) (by first | assumption | trivial) (by kernel_rfl) (by decide +kernel) (by decide +kernel) (Or.inl ⟨by rfl, ?_⟩) ?_
       rotate_left
       focus
         intro w' hb'
         go_simp
         with_reducible rfl
       simp only [Act.put, List.setIfInBounds_toArray, List.set_cons_zero, List.set_cons_succ])
    | (refine SeqS.take1 (v := undef) (by first | assumption | trivial) (by kernel_rfl) (by decide +kernel) (by decide +kernel) (Or.inr ⟨by rfl, rfl⟩) ?_
       simp only [Act.put, List.setIfInBounds_toArray, List.set_cons_zero, List.set_cons_succ])
    | (refine SeqS.take2 (v := ?_) (by first | assumption | trivial) (by kernel_rfl) (by decide +kernel) (by decide +kernel) (Or.inl ⟨by rfl, ?_⟩) ?_
       rotate_left
       focus
         intro w' hb'
         go_simp
         with_reducible rfl
       simp only [Act.put, List.setIfInBounds_toArray, List.set_cons_zero, List.set_cons_succ])
    | (refine SeqS.take2 (v := undef) (by first | assumption | trivial) (by kernel_rfl) (by decide +kernel) (by decide +kernel) (Or.inr ⟨by rfl, rfl⟩) ?_
       simp only [Act.put, List.setIfInBounds_toArray, List.set_cons_zero, List.set_cons_succ])
    | (refine SeqS.take3 (v := ?_) (by first | assumption | trivial) (by kernel_rfl) (by decide +kernel) (by decide +kernel) (Or.inl ⟨by rfl, ?_⟩) ?_
       rotate_left
       focus
         intro w' hb'
         go_simp
         with_reducible rfl
       simp only [Act.put, List.setIfInBounds_toArray, List.set_cons_zero, List.set_cons_succ])
    | (refine SeqS.take3 (v := undef) (by first | assumption | trivial) (by kernel_rfl) (by decide +kernel) (by decide +kernel) (Or.inr ⟨by rfl, rfl⟩) ?_
       simp only [Act.put, List.setIfInBounds_toArray, List.set_cons_zero, List.set_cons_succ]))
  refine SeqS.done (by decide +kernel) ?_
  have hw0 : RP.Gl w.drew := RP.gl_keep hG (Below.drew (Below.refl _ _))
  have hB0 : Below w.heap.size w w.drew := Below.drew (Below.refl _ _)
  clear hn1 hm1 e8 e9
  obtain ⟨W, hW⟩ : ∃ W, w.drew = W := ⟨_, rfl⟩
  rw [hW] at hw0 hB0 ⊢
  clear hW
  go_wp2_with fail
  refine (rNumber_any n1 3 W (by decide)).mono ?_
  rintro r w1 ⟨b1, c1, rfl, o1, d1⟩
  have hB1 := hB0.trans (d1.mono hB0.size)
  have o1 := own_low9 o1 hB0.size
  have hG1 := RP.gl_keep hw0 (d1.mono (RP.gl_le hw0))
  clear hB0 d1 hw0
  go_wp2_with fail
  refine (rNumber_any m1 3 w1 (by decide)).mono ?_
  rintro r w2 ⟨b2, c2, rfl, o2, d2⟩
  have o2 := own_low9 o2 hB1.size
  have o3 := own_stay9 o1 d2
  have hB2 := hB1.trans (d2.mono hB1.size)
  have hG2 := RP.gl_keep hG1 (d2.mono (RP.gl_le hG1))
  have hI2 : Ints .u8 w2 b2 3 c2 (beL m1 3) := by
    obtain ⟨a', c', hv, hi⟩ := Ints.of_owns o2
    injection hv with e1 _ e2
    subst e1; subst e2
    exact hi
  obtain ⟨i0, hi, hz0, hz1, hz2⟩ := info_u8b
  have hs2 : w.heap.size ≤ w2.heap.size := hB2.size
  clear hB1 d2 hG1 o1 o2
  go_wp2_with (at_builtin; refine wpList_append_ints rfl (.tmp 27) (.tmp 30) 22 rfl w.heap.size 5 i0 (.int .u8 0) 1 Try.underlying22 hi hz0 hz1 hz2 rfl rfl o3 rfl hI2 ?_ ?_ hs2 ?_; (unfold maxLen; decide); decide; intro v3 w3 o4 g4; refine RowKit.Hid.out ?_)
  refine Lib.hid ?_
  have e1 := be_beL 3 n1 hn3.out.1 hn3.out.2
  have e2 := be_beL 3 m1 hm3.out.1 hm3.out.2
  obtain ⟨YN, hYN⟩ : ∃ YN, beL n1 3 = YN := ⟨_, rfl⟩
  obtain ⟨YM, hYM⟩ : ∃ YM, beL m1 3 = YM := ⟨_, rfl⟩
  have hr1 : ∀ x ∈ YN, 0 ≤ x ∧ x < 256 := by rw [← hYN]; exact beL_range 3 n1
  have hr2 : ∀ x ∈ YM, 0 ≤ x ∧ x < 256 := by rw [← hYM]; exact beL_range 3 m1
  have hl1 : YN.length = 3 := by rw [← hYN]; exact beL_len n1 3
  have hl2 : YM.length = 3 := by rw [← hYM]; exact beL_len m1 3
  rw [hYN] at e1 o4 o3
  rw [hYM] at e2 o4 hI2
  obtain ⟨b3, c3, hv⟩ := own_slice32 o4
  subst hv
  have hI3 : Ints .u8 w3 b3 (3 + 3) c3 (YN ++ YM) := by
    obtain ⟨a', c', hv, hi⟩ := Ints.of_owns (xs := YN ++ YM) (by rw [List.map_append]; exact o4)
    injection hv with e1 _ e2
    subst e1; subst e2
    exact hi
  have hB3 := hB2.grown g4 hs2 (fun q hq => (o3.lt q hq).1)
  have hG3 := RP.gl_keep hG (hB3.mono (RP.gl_le hG))
  clear g4 o3 o4 hI2 hB2 hG2 hYN hYM hn3 hm3 hs2
  go_wp2_with fail
  refine (RP.new b3 (3 + 3) c3 (YN ++ YM) w3 hG3 hI3 (by intro x hx; rcases List.mem_append.1 hx with hx | hx; exact hr1 x hx; exact hr2 x hx) (by decide)).mono ?_
  rintro r w4 ⟨g, F, rfl, R4, hF, d4⟩
  have hF4 : ∀ b, F b → w.heap.size ≤ b := fun b hb => Nat.le_trans hB3.size (hF b hb)
  have hB4 := hB3.trans (d4.mono hB3.size)
  have hG4 := RP.gl_keep hG (hB4.mono (RP.gl_le hG))
  clear hF d4 hB3 hG3 hI3
  have hc := RP.num F g (YN ++ YM) 0 0 ((3 : Nat) : Int) w4 hG4 R4 (Nat.zero_le _)
  rw [rd_two1 YN YM 3 hl1 hl2 (by decide) (by decide)] at hc
  go_wp2_with fail
  refine hc.mono ?_
  rintro r w5 ⟨F5, rfl, R5, g5, m5⟩
  have hF5 := g5.low hF4 hB4.size
  have hB5 := hB4.trans (m5.below hF4 hB4.size)
  have hG5 := RP.gl_keep hG (hB5.mono (RP.gl_le hG))
  clear hc R4 g5 m5 hF4 hB4 hG4
  have hc := RP.num F5 g (YN ++ YM) 3 0 ((3 : Nat) : Int) w5 hG5 R5 (by rw [List.length_append]; omega)
  rw [rd_two2 YN YM 3 hl1 hl2 (by decide) (by decide)] at hc
  go_wp2_with fail
  refine hc.mono ?_
  rintro r w6 ⟨F6, rfl, R6, g6, m6⟩
  have hF6 := g6.low hF5 hB5.size
  have hB6 := hB5.trans (m6.below hF5 hB5.size)
  have hG6 := RP.gl_keep hG (hB6.mono (RP.gl_le hG))
  clear hc R5 g6 m6 hF5 hB5 hG5
  have hc := RP.done F6 g (YN ++ YM) (3 + 3) 0 w6 hG6 R6
  rw [show doneOf (YN ++ YM).length (((3 + 3 : Nat) : Int)) 0 = 0 by rw [List.length_append, hl1, hl2]; rfl] at hc
  go_wp2_with fail
  refine hc.mono ?_
  rintro r w7 ⟨rfl, d7⟩
  have hB7 := hB6.trans (d7.mono hB6.size)
  have hG7 := RP.gl_keep hG (hB7.mono (RP.gl_le hG))
  clear hc R6 d7 hF6 hB6 hG6
  go_wp2_with fail
  refine (alive9_any RP w7 hG7).mono ?_
  rintro r w8 ⟨rfl, d8⟩
  go_wp2
  go_ret
  exact ⟨rfl, hB7.trans (d8.mono hB7.size)⟩

set_option maxRecDepth 100000 in
set_option maxHeartbeats 1000000 in
theorem numbers_4 (RP : ReaderProg) (n m x : Int) (w : World) (hG : RP.Gl w) (hw : wrap64 (1 + (wrap64 x).tmod 8) = 4) (hn : 0 ≤ n) (hm : 0 ≤ m) :
    Calls Try.prog 5 #[.int .u64 n, .int .u64 m, .int .u8 x] w fun r w' => r = .returned (.bool true) ∧ Below w.heap.size w w' := by
  go_enter Try.func5, Try.ntmps5
  have e8 : IntKind.i64.wrap 32 = 32 := by decide
  have e9 : IntKind.u64.wrap 4294967296 = 4294967296 := by decide
  obtain ⟨n1, hn1⟩ : ∃ n1, n.tmod 4294967296 = n1 := ⟨_, rfl⟩
  obtain ⟨m1, hm1⟩ : ∃ m1, m.tmod 4294967296 = m1 := ⟨_, rfl⟩
  have hn3 := Lib.hid (small_of n n1 4 4294967296 (by decide) (by decide) hn hn1)
  have hm3 := Lib.hid (small_of m m1 4 4294967296 (by decide) (by decide) hm hm1)
  clear hn hm
  go_wp2_with fail
  refine region_seqS (fun _ => True) (by kernel_rfl) trivial ?_
  simp only [pairs, Nat.reduceAdd]
  repeat (first
    | (refine SeqS.take (v := ?_) (by first | assumption | trivial) (by kernel_rfl) (by decide +kernel) (by decide +kernel) (Or.inl ⟨by rfl, ?_⟩) ?_
       rotate_left
       focus
         intro w' hb'
         go_simp
         with_reducible rfl
       simp only [Act.put, List.setIfInBounds_toArray, List.set_cons_zero, List.set_cons_succ])
    | (refine SeqS.take (v := undef) (by first | assumption | trivial) (by kernel_rfl) (by decide +kernel) (by decide +kernel) (Or.inr ⟨by rfl, rfl⟩) ?_
       simp only [Act.put, List.setIfInBounds_toArray, List.set_cons_zero, List.set_cons_succ])
    | (refine SeqS.take1 (v := ?_) (by first | assumption | trivial) (by kernel_rfl) (by decide +kernel) (by decide +kernel) (Or.inl ⟨by rfl, ?_⟩) ?_
       rotate_left
       focus
         intro w' hb'
         go_simp
         with_reducible rfl
       simp only [Act.put, List.setIfInBounds_toArray, List.set_cons_zero, List.set_cons_succ])
    | (refine SeqS.take1 (v := undef) (by first | assumption | trivial) (by kernel_rfl) (by decide +kernel) (by decide +kernel) (Or.inr ⟨by rfl, rfl⟩) ?_
       simp only [Act.put, List.setIfInBounds_toArray, List.set_cons_zero, List.set_cons_succ])
    | (refine SeqS.take2 (v := ?_) (by first | assumption | trivial) (by kernel_rfl) (by decide +kernel) (by decide +kernel) (Or.inl ⟨by rfl, ?_⟩) ?_
       rotate_left
       focus
         intro w' hb'
         go_simp
         with_reducible rfl
       simp only [Act.put, List.setIfInBounds_toArray, List.set_cons_zero, List.set_cons_succ])
    | (refine SeqS.take2 (v := undef) (by first | assumption | trivial) (by kernel_rfl) (by decide +kernel) (by decide +kernel) (Or.inr ⟨by rfl, rfl⟩) ?_
       simp only [Act.put, List.setIfInBounds_toArray, List.set_cons_zero, List.set_cons_succ])
    | (refine SeqS.take3 (v := ?_) (by first | assumption | trivial) (by kernel_rfl) (by decide +kernel) (by decide +kernel) (Or.inl ⟨by rfl, ?_⟩) ?_
       rotate_left
       focus
         intro w' hb'
         go_simp
         with_reducible rfl
       simp only [Act.put, List.setIfInBounds_toArray, List.set_cons_zero, List.set_cons_succ])
    | (refine SeqS.take3 (v := undef) (by first | assumption | trivial) (by kernel_rfl) (by decide +kernel) (by decide +kernel) (Or.inr ⟨by rfl, rfl⟩) ?_
       simp only [Act.put, List.setIfInBounds_toArray, List.set_cons_zero, List.set_cons_succ]))
  refine SeqS.done (by decide +kernel) ?_
  have hw0 : RP.Gl w.drew := RP.gl_keep hG (Below.drew (Below.refl _ _))
  have hB0 : Below w.heap.size w w.drew := Below.drew (Below.refl _ _)
  clear hn1 hm1 e8 e9
  obtain ⟨W, hW⟩ : ∃ W, w.drew = W := ⟨_, rfl⟩
  rw [hW] at hw0 hB0 ⊢
  clear hW
  go_wp2_with fail
  refine (rNumber_any n1 4 W (by decide)).mono ?_
  rintro r w1 ⟨b1, c1, rfl, o1, d1⟩
  have hB1 := hB0.trans (d1.mono hB0.size)
  have o1 := own_low9 o1 hB0.size
  have hG1 := RP.gl_keep hw0 (d1.mono (RP.gl_le hw0))
  clear hB0 d1 hw0
  go_wp2_with fail
  refine (rNumber_any m1 4 w1 (by decide)).mono ?_
  rintro r w2 ⟨b2, c2, rfl, o2, d2⟩
  have o2 := own_low9 o2 hB1.size
  have o3 := own_stay9 o1 d2
  have hB2 := hB1.trans (d2.mono hB1.size)
  have hG2 := RP.gl_keep hG1 (d2.mono (RP.gl_le hG1))
  have hI2 : Ints .u8 w2 b2 4 c2 (beL m1 4) := by
    obtain ⟨a', c', hv, hi⟩ := Ints.of_owns o2
    injection hv with e1 _ e2
    subst e1; subst e2
    exact hi
  obtain ⟨i0, hi, hz0, hz1, hz2⟩ := info_u8b
  have hs2 : w.heap.size ≤ w2.heap.size := hB2.size
  clear hB1 d2 hG1 o1 o2
  go_wp2_with (at_builtin; refine wpList_append_ints rfl (.tmp 27) (.tmp 30) 22 rfl w.heap.size 5 i0 (.int .u8 0) 1 Try.underlying22 hi hz0 hz1 hz2 rfl rfl o3 rfl hI2 ?_ ?_ hs2 ?_; (unfold maxLen; decide); decide; intro v3 w3 o4 g4; refine RowKit.Hid.out ?_)
  refine Lib.hid ?_
  have e1 := be_beL 4 n1 hn3.out.1 hn3.out.2
  have e2 := be_beL 4 m1 hm3.out.1 hm3.out.2
  obtain ⟨YN, hYN⟩ : ∃ YN, beL n1 4 = YN := ⟨_, rfl⟩
  obtain ⟨YM, hYM⟩ : ∃ YM, beL m1 4 = YM := ⟨_, rfl⟩
  have hr1 : ∀ x ∈ YN, 0 ≤ x ∧ x < 256 := by rw [← hYN]; exact beL_range 4 n1
  have hr2 : ∀ x ∈ YM, 0 ≤ x ∧ x < 256 := by rw [← hYM]; exact beL_range 4 m1
  have hl1 : YN.length = 4 := by rw [← hYN]; exact beL_len n1 4
  have hl2 : YM.length = 4 := by rw [← hYM]; exact beL_len m1 4
  rw [hYN] at e1 o4 o3
  rw [hYM] at e2 o4 hI2
  obtain ⟨b3, c3, hv⟩ := own_slice32 o4
  subst hv
  have hI3 : Ints .u8 w3 b3 (4 + 4) c3 (YN ++ YM) := by
    obtain ⟨a', c', hv, hi⟩ := Ints.of_owns (xs := YN ++ YM) (by rw [List.map_append]; exact o4)
    injection hv with e1 _ e2
    subst e1; subst e2
    exact hi
  have hB3 := hB2.grown g4 hs2 (fun q hq => (o3.lt q hq).1)
  have hG3 := RP.gl_keep hG (hB3.mono (RP.gl_le hG))
  clear g4 o3 o4 hI2 hB2 hG2 hYN hYM hn3 hm3 hs2
  go_wp2_with fail
  refine (RP.new b3 (4 + 4) c3 (YN ++ YM) w3 hG3 hI3 (by intro x hx; rcases List.mem_append.1 hx with hx | hx; exact hr1 x hx; exact hr2 x hx) (by decide)).mono ?_
  rintro r w4 ⟨g, F, rfl, R4, hF, d4⟩
  have hF4 : ∀ b, F b → w.heap.size ≤ b := fun b hb => Nat.le_trans hB3.size (hF b hb)
  have hB4 := hB3.trans (d4.mono hB3.size)
  have hG4 := RP.gl_keep hG (hB4.mono (RP.gl_le hG))
  clear hF d4 hB3 hG3 hI3
  have hc := RP.num F g (YN ++ YM) 0 0 ((4 : Nat) : Int) w4 hG4 R4 (Nat.zero_le _)
  rw [rd_two1 YN YM 4 hl1 hl2 (by decide) (by decide)] at hc
  go_wp2_with fail
  refine hc.mono ?_
  rintro r w5 ⟨F5, rfl, R5, g5, m5⟩
  have hF5 := g5.low hF4 hB4.size
  have hB5 := hB4.trans (m5.below hF4 hB4.size)
  have hG5 := RP.gl_keep hG (hB5.mono (RP.gl_le hG))
  clear hc R4 g5 m5 hF4 hB4 hG4
  have hc := RP.num F5 g (YN ++ YM) 4 0 ((4 : Nat) : Int) w5 hG5 R5 (by rw [List.length_append]; omega)
  rw [rd_two2 YN YM 4 hl1 hl2 (by decide) (by decide)] at hc
  go_wp2_with fail
  refine hc.mono ?_
  rintro r w6 ⟨F6, rfl, R6, g6, m6⟩
  have hF6 := g6.low hF5 hB5.size
  have hB6 := hB5.trans (m6.below hF5 hB5.size)
  have hG6 := RP.gl_keep hG (hB6.mono (RP.gl_le hG))
  clear hc R5 g6 m6 hF5 hB5 hG5
  have hc := RP.done F6 g (YN ++ YM) (4 + 4) 0 w6 hG6 R6
  rw [show doneOf (YN ++ YM).length (((4 + 4 : Nat) : Int)) 0 = 0 by rw [List.length_append, hl1, hl2]; rfl] at hc
  go_wp2_with fail
  refine hc.mono ?_
  rintro r w7 ⟨rfl, d7⟩
  have hB7 := hB6.trans (d7.mono hB6.size)
  have hG7 := RP.gl_keep hG (hB7.mono (RP.gl_le hG))
  clear hc R6 d7 hF6 hB6 hG6
  go_wp2_with fail
  refine (alive9_any RP w7 hG7).mono ?_
  rintro r w8 ⟨rfl, d8⟩
  go_wp2
  go_ret
  exact ⟨rfl, hB7.trans (d8.mono hB7.size)⟩

set_option maxRecDepth 100000 in
set_option maxHeartbeats 1000000 in
theorem numbers_5 (RP : ReaderProg) (n m x : Int) (w : World) (hG : RP.Gl w) (hw : wrap64 (1 + (wrap64 x).tmod 8) = 5) (hn : 0 ≤ n) (hm : 0 ≤ m) :
    Calls Try.prog 5 #[.int .u64 n, .int .u64 m, .int .u8 x] w fun r w' => r = .returned (.bool true) ∧ Below w.heap.size w w' := by
  go_enter Try.func5, Try.ntmps5
  have e8 : IntKind.i64.wrap 40 = 40 := by decide
  have e9 : IntKind.u64.wrap 1099511627776 = 1099511627776 := by decide
  obtain ⟨n1, hn1⟩ : ∃ n1, n.tmod 1099511627776 = n1 := ⟨_, rfl⟩
  obtain ⟨m1, hm1⟩ : ∃ m1, m.tmod 1099511627776 = m1 := ⟨_, rfl⟩
  have hn3 := Lib.hid (small_of n n1 5 1099511627776 (by decide) (by decide) hn hn1)
  have hm3 := Lib.hid (small_of m m1 5 1099511627776 (by decide) (by decide) hm hm1)
  clear hn hm
  go_wp2_with fail
  refine region_seqS (fun _ => True) (by kernel_rfl) trivial ?_
  simp only [pairs, Nat.reduceAdd]
  repeat (first
    | (refine SeqS.take (v := ?_) (by first | assumption | trivial) (by kernel_rfl) (by decide +kernel) (by decide +kernel) (Or.inl ⟨by rfl, ?_⟩) ?_
       rotate_left
       focus
         intro w' hb'
         go_simp
         with_reducible rfl
       simp only [Act.put, List.setIfInBounds_toArray, List.set_cons_zero, List.set_cons_succ])
    | (refine SeqS.take (v := undef) (by first | assumption | trivial) (by kernel_rfl) (by decide +kernel) (by decide +kernel) (Or.inr ⟨by rfl, rfl⟩) ?_
       simp only [Act.put, List.setIfInBounds_toArray, List.set_cons_zero, List.set_cons_succ])
    | (refine SeqS.take1 (v := ?_) (by first | assumption | trivial) (by kernel_rfl) (by decide +kernel) (by decide +kernel) (Or.inl ⟨by rfl, ?_⟩) ?_
       rotate_left
       focus
         intro w' hb'
         go_simp
         with_reducible rfl
       simp only [Act.put, List.setIfInBounds_toArray, List.set_cons_zero, List.set_cons_succ])
    | (refine SeqS.take1 (v := undef) (by first | assumption | trivial) (by kernel_rfl) (by decide +kernel) (by decide +kernel) (Or.inr ⟨by rfl, rfl⟩) ?_
       simp only [Act.put, List.setIfInBounds_toArray, List.set_cons_zero, List.set_cons_succ])
    | (refine SeqS.take2 (v := ?_) (by first | assumption | trivial) (by kernel_rfl) (by decide +kernel) (by decide +kernel) (Or.inl ⟨by rfl, ?_⟩) ?_
       rotate_left
       focus
         intro w' hb'
         go_simp
         with_reducible rfl
       simp only [Act.put, List.setIfInBounds_toArray, List.set_cons_zero, List.set_cons_succ])
    | (refine SeqS.take2 (v := undef) (by first | assumption | trivial) (by kernel_rfl) (by decide +kernel) (by decide +kernel) (Or.inr ⟨by rfl, rfl⟩) ?_
       simp only [Act.put, List.setIfInBounds_toArray, List.set_cons_zero, List.set_cons_succ])
    | (refine SeqS.take3 (v := ?_) (by first | assumption | trivial) (by kernel_rfl) (by decide +kernel) (by decide +kernel) (Or.inl ⟨by rfl, ?_⟩) ?_
       rotate_left
       focus
         intro w' hb'
         go_simp
         with_reducible rfl
       simp only [Act.put, List.setIfInBounds_toArray, List.set_cons_zero, List.set_cons_succ])
    | (refine SeqS.take3 (v := undef) (by first | assumption | trivial) (by kernel_rfl) (by decide +kernel) (by decide +kernel) (Or.inr ⟨by rfl, rfl⟩) ?_
       simp only [Act.put, List.setIfInBounds_toArray, List.set_cons_zero, List.set_cons_succ]))
  refine SeqS.done (by decide +kernel) ?_
  have hw0 : RP.Gl w.drew := RP.gl_keep hG (Below.drew (Below.refl _ _))
  have hB0 : Below w.heap.size w w.drew := Below.drew (Below.refl _ _)
  clear hn1 hm1 e8 e9
  obtain ⟨W, hW⟩ : ∃ W, w.drew = W := ⟨_, rfl⟩
  rw [hW] at hw0 hB0 ⊢
  clear hW
  go_wp2_with fail
  refine (rNumber_any n1 5 W (by decide)).mono ?_
  rintro r w1 ⟨b1, c1, rfl, o1, d1⟩
  have hB1 := hB0.trans (d1.mono hB0.size)
  have o1 := own_low9 o1 hB0.size
  have hG1 := RP.gl_keep hw0 (d1.mono (RP.gl_le hw0))
  clear hB0 d1 hw0
  go_wp2_with fail
  refine (rNumber_any m1 5 w1 (by decide)).mono ?_
  rintro r w2 ⟨b2, c2, rfl, o2, d2⟩
  have o2 := own_low9 o2 hB1.size
  have o3 := own_stay9 o1 d2
  have hB2 := hB1.trans (d2.mono hB1.size)
  have hG2 := RP.gl_keep hG1 (d2.mono (RP.gl_le hG1))
  have hI2 : Ints .u8 w2 b2 5 c2 (beL m1 5) := by
    obtain ⟨a', c', hv, hi⟩ := Ints.of_owns o2
    injection hv with e1 _ e2
    subst e1; subst e2
    exact hi
  obtain ⟨i0, hi, hz0, hz1, hz2⟩ := info_u8b
  have hs2 : w.heap.size ≤ w2.heap.size := hB2.size
  clear hB1 d2 hG1 o1 o2
  go_wp2_with (at_builtin; refine wpList_append_ints rfl (.tmp 27) (.tmp 30) 22 rfl w.heap.size 5 i0 (.int .u8 0) 1 Try.underlying22 hi hz0 hz1 hz2 rfl rfl o3 rfl hI2 ?_ ?_ hs2 ?_; (unfold maxLen; decide); decide; intro v3 w3 o4 g4; refine RowKit.Hid.out ?_)
  refine Lib.hid ?_
  have e1 := be_beL 5 n1 hn3.out.1 hn3.out.2
  have e2 := be_beL 5 m1 hm3.out.1 hm3.out.2
  obtain ⟨YN, hYN⟩ : ∃ YN, beL n1 5 = YN := ⟨_, rfl⟩
  obtain ⟨YM, hYM⟩ : ∃ YM, beL m1 5 = YM := ⟨_, rfl⟩
  have hr1 : ∀ x ∈ YN, 0 ≤ x ∧ x < 256 := by rw [← hYN]; exact beL_range 5 n1
  have hr2 : ∀ x ∈ YM, 0 ≤ x ∧ x < 256 := by rw [← hYM]; exact beL_range 5 m1
  have hl1 : YN.length = 5 := by rw [← hYN]; exact beL_len n1 5
  have hl2 : YM.length = 5 := by rw [← hYM]; exact beL_len m1 5
  rw [hYN] at e1 o4 o3
  rw [hYM] at e2 o4 hI2
  obtain ⟨b3, c3, hv⟩ := own_slice32 o4
  subst hv
  have hI3 : Ints .u8 w3 b3 (5 + 5) c3 (YN ++ YM) := by
    obtain ⟨a', c', hv, hi⟩ := Ints.of_owns (xs := YN ++ YM) (by rw [List.map_append]; exact o4)
    injection hv with e1 _ e2
    subst e1; subst e2
    exact hi
  have hB3 := hB2.grown g4 hs2 (fun q hq => (o3.lt q hq).1)
  have hG3 := RP.gl_keep hG (hB3.mono (RP.gl_le hG))
  clear g4 o3 o4 hI2 hB2 hG2 hYN hYM hn3 hm3 hs2
  go_wp2_with fail
  refine (RP.new b3 (5 + 5) c3 (YN ++ YM) w3 hG3 hI3 (by intro x hx; rcases List.mem_append.1 hx with hx | hx; exact hr1 x hx; exact hr2 x hx) (by decide)).mono ?_
  rintro r w4 ⟨g, F, rfl, R4, hF, d4⟩
  have hF4 : ∀ b, F b → w.heap.size ≤ b := fun b hb => Nat.le_trans hB3.size (hF b hb)
  have hB4 := hB3.trans (d4.mono hB3.size)
  have hG4 := RP.gl_keep hG (hB4.mono (RP.gl_le hG))
  clear hF d4 hB3 hG3 hI3
  have hc := RP.num F g (YN ++ YM) 0 0 ((5 : Nat) : Int) w4 hG4 R4 (Nat.zero_le _)
  rw [rd_two1 YN YM 5 hl1 hl2 (by decide) (by decide)] at hc
  go_wp2_with fail
  refine hc.mono ?_
  rintro r w5 ⟨F5, rfl, R5, g5, m5⟩
  have hF5 := g5.low hF4 hB4.size
  have hB5 := hB4.trans (m5.below hF4 hB4.size)
  have hG5 := RP.gl_keep hG (hB5.mono (RP.gl_le hG))
  clear hc R4 g5 m5 hF4 hB4 hG4
  have hc := RP.num F5 g (YN ++ YM) 5 0 ((5 : Nat) : Int) w5 hG5 R5 (by rw [List.length_append]; omega)
  rw [rd_two2 YN YM 5 hl1 hl2 (by decide) (by decide)] at hc
  go_wp2_with fail
  refine hc.mono ?_
  rintro r w6 ⟨F6, rfl, R6, g6, m6⟩
  have hF6 := g6.low hF5 hB5.size
  have hB6 := hB5.trans (m6.below hF5 hB5.size)
  have hG6 := RP.gl_keep hG (hB6.mono (RP.gl_le hG))
  clear hc R5 g6 m6 hF5 hB5 hG5
  have hc := RP.done F6 g (YN ++ YM) (5 + 5) 0 w6 hG6 R6
  rw [show doneOf (YN ++ YM).length (((5 + 5 : Nat) : Int)) 0 = 0 by rw [List.length_append, hl1, hl2]; rfl] at hc
  go_wp2_with fail
  refine hc.mono ?_
  rintro r w7 ⟨rfl, d7⟩
  have hB7 := hB6.trans (d7.mono hB6.size)
  have hG7 := RP.gl_keep hG (hB7.mono (RP.gl_le hG))
  clear hc R6 d7 hF6 hB6 hG6
  go_wp2_with fail
  refine (alive9_any RP w7 hG7).mono ?_
  rintro r w8 ⟨rfl, d8⟩
  go_wp2
  go_ret
  exact ⟨rfl, hB7.trans (d8.mono hB7.size)⟩

set_option maxRecDepth 100000 in
set_option maxHeartbeats 1000000 in
theorem numbers_6 (RP : ReaderProg) (n m x : Int) (w : World) (hG : RP.Gl w) (hw : wrap64 (1 + (wrap64 x).tmod 8) = 6) (hn : 0 ≤ n) (hm : 0 ≤ m) :
    Calls Try.prog 5 #[.int .u64 n, .int .u64 m, .int .u8 x] w fun r w' => r = .returned (.bool true) ∧ Below w.heap.size w w' := by
  go_enter Try.func5, Try.ntmps5
  have e8 : IntKind.i64.wrap 48 = 48 := by decide
  have e9 : IntKind.u64.wrap 281474976710656 = 281474976710656 := by decide
  obtain ⟨n1, hn1⟩ : ∃ n1, n.tmod 281474976710656 = n1 := ⟨_, rfl⟩
  obtain ⟨m1, hm1⟩ : ∃ m1, m.tmod 281474976710656 = m1 := ⟨_, rfl⟩
  have hn3 := Lib.hid (small_of n n1 6 281474976710656 (by decide) (by decide) hn hn1)
  have hm3 := Lib.hid (small_of m m1 6 281474976710656 (by decide) (by decide) hm hm1)
  clear hn hm
  go_wp2_with fail
  refine region_seqS (fun _ => True) (by kernel_rfl) trivial ?_
  simp only [pairs, Nat.reduceAdd]
  repeat (first
    | (refine SeqS.take (v := ?_) (by first | assumption | trivial) (by kernel_rfl) (by decide +kernel) (by decide +kernel) (Or.inl ⟨by rfl, ?_⟩) ?_
       rotate_left
       focus
         intro w' hb'
         go_simp
         with_reducible rfl
       simp only [Act.put, List.setIfInBounds_toArray, List.set_cons_zero, List.set_cons_succ])
    | (refine SeqS.take (v := undef) (by first | assumption | trivial) (by kernel_rfl) (by decide +kernel) (by decide +kernel) (Or.inr ⟨by rfl, rfl⟩) ?_
       simp only [Act.put, List.setIfInBounds_toArray, List.set_cons_zero, List.set_cons_succ])
    | (refine SeqS.take1 (v := ?_) (by first | assumption | trivial) (by kernel_rfl) (by decide +kernel) (by decide +kernel) (Or.inl ⟨by rfl, ?_⟩) ?_
       rotate_left
       focus
         intro w' hb'
         go_simp
         with_reducible rfl
       simp only [Act.put, List.setIfInBounds_toArray, List.set_cons_zero, List.set_cons_succ])
    | (refine SeqS.take1 (v := undef) (by first | assumption | trivial) (by kernel_rfl) (by decide +kernel) (by decide +kernel) (Or.inr ⟨by rfl, rfl⟩) ?_
       simp only [Act.put, List.setIfInBounds_toArray, List.set_cons_zero, List.set_cons_succ])
    | (refine SeqS.take2 (v := ?_) (by first | assumption | trivial) (by kernel_rfl) (by decide +kernel) (by decide +kernel) (Or.inl ⟨by rfl, ?_⟩) ?_
       rotate_left
       focus
         intro w' hb'
         go_simp
         with_reducible rfl
       simp only [Act.put, List.setIfInBounds_toArray, List.set_cons_zero, List.set_cons_succ])
    | (refine SeqS.take2 (v := undef) (by first | assumption | trivial) (by kernel_rfl) (by decide +kernel) (by decide +kernel) (Or.inr ⟨by rfl, rfl⟩) ?_
       simp only [Act.put, List.setIfInBounds_toArray, List.set_cons_zero, List.set_cons_succ])
    | (refine SeqS.take3 (v := ?_) (by first | assumption | trivial) (by kernel_rfl) (by decide +kernel) (by decide +kernel) (Or.inl ⟨by rfl, ?_⟩) ?_
       rotate_left
       focus
         intro w' hb'
         go_simp
         with_reducible rfl
       simp only [Act.put, List.setIfInBounds_toArray, List.set_cons_zero, List.set_cons_succ])
    | (refine SeqS.take3 (v := undef) (by first | assumption | trivial) (by kernel_rfl) (by decide +kernel) (by decide +kernel) (Or.inr ⟨by rfl, rfl⟩) ?_
       simp only [Act.put, List.setIfInBounds_toArray, List.set_cons_zero, List.set_cons_succ]))
  refine SeqS.done (by decide +kernel) ?_
  have hw0 : RP.Gl w.drew := RP.gl_keep hG (Below.drew (Below.refl _ _))
  have hB0 : Below w.heap.size w w.drew := Below.drew (Below.refl _ _)
  clear hn1 hm1 e8 e9
  obtain ⟨W, hW⟩ : ∃ W, w.drew = W := ⟨_, rfl⟩
  rw [hW] at hw0 hB0 ⊢
  clear hW
  go_wp2_with fail
  refine (rNumber_any n1 6 W (by decide)).mono ?_
  rintro r w1 ⟨b1, c1, rfl, o1, d1⟩
  have hB1 := hB0.trans (d1.mono hB0.size)
  have o1 := own_low9 o1 hB0.size
  have hG1 := RP.gl_keep hw0 (d1.mono (RP.gl_le hw0))
  clear hB0 d1 hw0
  go_wp2_with fail
  refine (rNumber_any m1 6 w1 (by decide)).mono ?_
  rintro r w2 ⟨b2, c2, rfl, o2, d2⟩
  have o2 := own_low9 o2 hB1.size
  have o3 := own_stay9 o1 d2
  have hB2 := hB1.trans (d2.mono hB1.size)
  have hG2 := RP.gl_keep hG1 (d2.mono (RP.gl_le hG1))
  have hI2 : Ints .u8 w2 b2 6 c2 (beL m1 6) := by
    obtain ⟨a', c', hv, hi⟩ := Ints.of_owns o2
    injection hv with e1 _ e2
    subst e1; subst e2
    exact hi
  obtain ⟨i0, hi, hz0, hz1, hz2⟩ := info_u8b
  have hs2 : w.heap.size ≤ w2.heap.size := hB2.size
  clear hB1 d2 hG1 o1 o2
  go_wp2_with (at_builtin; refine wpList_append_ints rfl (.tmp 27) (.tmp 30) 22 rfl w.heap.size 5 i0 (.int .u8 0) 1 Try.underlying22 hi hz0 hz1 hz2 rfl rfl o3 rfl hI2 ?_ ?_ hs2 ?_; (unfold maxLen; decide); decide; intro v3 w3 o4 g4; refine RowKit.Hid.out ?_)
  refine Lib.hid ?_
  have e1 := be_beL 6 n1 hn3.out.1 hn3.out.2
  have e2 := be_beL 6 m1 hm3.out.1 hm3.out.2
  obtain ⟨YN, hYN⟩ : ∃ YN, beL n1 6 = YN := ⟨_, rfl⟩
  obtain ⟨YM, hYM⟩ : ∃ YM, beL m1 6 = YM := ⟨_, rfl⟩
  have hr1 : ∀ x ∈ YN, 0 ≤ x ∧ x < 256 := by rw [← hYN]; exact beL_range 6 n1
  have hr2 : ∀ x ∈ YM, 0 ≤ x ∧ x < 256 := by rw [← hYM]; exact beL_range 6 m1
  have hl1 : YN.length = 6 := by rw [← hYN]; exact beL_len n1 6
  have hl2 : YM.length = 6 := by rw [← hYM]; exact beL_len m1 6
  rw [hYN] at e1 o4 o3
  rw [hYM] at e2 o4 hI2
  obtain ⟨b3, c3, hv⟩ := own_slice32 o4
  subst hv
  have hI3 : Ints .u8 w3 b3 (6 + 6) c3 (YN ++ YM) := by
    obtain ⟨a', c', hv, hi⟩ := Ints.of_owns (xs := YN ++ YM) (by rw [List.map_append]; exact o4)
    injection hv with e1 _ e2
    subst e1; subst e2
    exact hi
  have hB3 := hB2.grown g4 hs2 (fun q hq => (o3.lt q hq).1)
  have hG3 := RP.gl_keep hG (hB3.mono (RP.gl_le hG))
  clear g4 o3 o4 hI2 hB2 hG2 hYN hYM hn3 hm3 hs2
  go_wp2_with fail
  refine (RP.new b3 (6 + 6) c3 (YN ++ YM) w3 hG3 hI3 (by intro x hx; rcases List.mem_append.1 hx with hx | hx; exact hr1 x hx; exact hr2 x hx) (by decide)).mono ?_
  rintro r w4 ⟨g, F, rfl, R4, hF, d4⟩
  have hF4 : ∀ b, F b → w.heap.size ≤ b := fun b hb => Nat.le_trans hB3.size (hF b hb)
  have hB4 := hB3.trans (d4.mono hB3.size)
  have hG4 := RP.gl_keep hG (hB4.mono (RP.gl_le hG))
  clear hF d4 hB3 hG3 hI3
  have hc := RP.num F g (YN ++ YM) 0 0 ((6 : Nat) : Int) w4 hG4 R4 (Nat.zero_le _)
  rw [rd_two1 YN YM 6 hl1 hl2 (by decide) (by decide)] at hc
  go_wp2_with fail
  refine hc.mono ?_
  rintro r w5 ⟨F5, rfl, R5, g5, m5⟩
  have hF5 := g5.low hF4 hB4.size
  have hB5 := hB4.trans (m5.below hF4 hB4.size)
  have hG5 := RP.gl_keep hG (hB5.mono (RP.gl_le hG))
  clear hc R4 g5 m5 hF4 hB4 hG4
  have hc := RP.num F5 g (YN ++ YM) 6 0 ((6 : Nat) : Int) w5 hG5 R5 (by rw [List.length_append]; omega)
  rw [rd_two2 YN YM 6 hl1 hl2 (by decide) (by decide)] at hc
  go_wp2_with fail
  refine hc.mono ?_
  rintro r w6 ⟨F6, rfl, R6, g6, m6⟩
  have hF6 := g6.low hF5 hB5.size
  have hB6 := hB5.trans (m6.below hF5 hB5.size)
  have hG6 := RP.gl_keep hG (hB6.mono (RP.gl_le hG))
  clear hc R5 g6 m6 hF5 hB5 hG5
  have hc := RP.done F6 g (YN ++ YM) (6 + 6) 0 w6 hG6 R6
  rw [show doneOf (YN ++ YM).length (((6 + 6 : Nat) : Int)) 0 = 0 by rw [List.length_append, hl1, hl2]; rfl] at hc
  go_wp2_with fail
  refine hc.mono ?_
  rintro r w7 ⟨rfl, d7⟩
  have hB7 := hB6.trans (d7.mono hB6.size)
  have hG7 := RP.gl_keep hG (hB7.mono (RP.gl_le hG))
  clear hc R6 d7 hF6 hB6 hG6
  go_wp2_with fail
  refine (alive9_any RP w7 hG7).mono ?_
  rintro r w8 ⟨rfl, d8⟩
  go_wp2
  go_ret
  exact ⟨rfl, hB7.trans (d8.mono hB7.size)⟩

set_option maxRecDepth 100000 in
set_option maxHeartbeats 1000000 in
theorem numbers_7 (RP : ReaderProg) (n m x : Int) (w : World) (hG : RP.Gl w) (hw : wrap64 (1 + (wrap64 x).tmod 8) = 7) (hn : 0 ≤ n) (hm : 0 ≤ m) :
    Calls Try.prog 5 #[.int .u64 n, .int .u64 m, .int .u8 x] w fun r w' => r = .returned (.bool true) ∧ Below w.heap.size w w' := by
  go_enter Try.func5, Try.ntmps5
  have e8 : IntKind.i64.wrap 56 = 56 := by decide
  have e9 : IntKind.u64.wrap 72057594037927936 = 72057594037927936 := by decide
  obtain ⟨n1, hn1⟩ : ∃ n1, n.tmod 72057594037927936 = n1 := ⟨_, rfl⟩
  obtain ⟨m1, hm1⟩ : ∃ m1, m.tmod 72057594037927936 = m1 := ⟨_, rfl⟩
  have hn3 := Lib.hid (small_of n n1 7 72057594037927936 (by decide) (by decide) hn hn1)
  have hm3 := Lib.hid (small_of m m1 7 72057594037927936 (by decide) (by decide) hm hm1)
  clear hn hm
  go_wp2_with fail
  refine region_seqS (fun _ => True) (by kernel_rfl) trivial ?_
  simp only [pairs, Nat.reduceAdd]
  repeat (first
    | (refine SeqS.take (v := ?_) (by first | assumption | trivial) (by kernel_rfl) (by decide +kernel) (by decide +kernel) (Or.inl ⟨by rfl, ?_⟩) ?_
       rotate_left
       focus
         intro w' hb'
         go_simp
         with_reducible rfl
       simp only [Act.put, List.setIfInBounds_toArray, List.set_cons_zero, List.set_cons_succ])
    | (refine SeqS.take (v := undef) (by first | assumption | trivial) (by kernel_rfl) (by decide +kernel) (by decide +kernel) (Or.inr ⟨by rfl, rfl⟩) ?_
       simp only [Act.put, List.setIfInBounds_toArray, List.set_cons_zero, List.set_cons_succ])
    | (refine SeqS.take1 (v := ?_) (by first | assumption | trivial) (by kernel_rfl) (by decide +kernel) (by decide +kernel) (Or.inl ⟨by rfl, ?_⟩) ?_
       rotate_left
       focus
         intro w' hb'
         go_simp
         with_reducible rfl
       simp only [Act.put, List.setIfInBounds_toArray, List.set_cons_zero, List.set_cons_succ])
    | (refine SeqS.take1 (v := undef) (by first | assumption | trivial) (by kernel_rfl) (by decide +kernel) (by decide +kernel) (Or.inr ⟨by rfl, rfl⟩) ?_
       simp only [Act.put, List.setIfInBounds_toArray, List.set_cons_zero, List.set_cons_succ])
    | (refine SeqS.take2 (v := ?_) (by first | assumption | trivial) (by kernel_rfl) (by decide +kernel) (by decide +kernel) (Or.inl ⟨by rfl, ?_⟩) ?_
       rotate_left
       focus
         intro w' hb'
         go_simp
         with_reducible rfl
       simp only [Act.put, List.setIfInBounds_toArray, List.set_cons_zero, List.set_cons_succ])
    | (refine SeqS.take2 (v := undef) (by first | assumption | trivial) (by kernel_rfl) (by decide +kernel) (by decide +kernel) (Or.inr ⟨by rfl, rfl⟩) ?_
       simp only [Act.put, List.setIfInBounds_toArray, List.set_cons_zero, List.set_cons_succ])
    | (refine SeqS.take3 (v := ?_) (by first | assumption | trivial) (by kernel_rfl) (by decide +kernel) (by decide +kernel) (Or.inl ⟨by rfl, ?_⟩) ?_
       rotate_left
       focus
         intro w' hb'
         go_simp
         with_reducible rfl
       simp only [Act.put, List.setIfInBounds_toArray, List.set_cons_zero, List.set_cons_succ])
    | (refine SeqS.take3 (v := undef) (by first | assumption | trivial) (by kernel_rfl) (by decide +kernel) (by decide +kernel) (Or.inr ⟨by rfl, rfl⟩) ?_
       simp only [Act.put, List.setIfInBounds_toArray, List.set_cons_zero, List.set_cons_succ]))
  refine SeqS.done (by decide +kernel) ?_
  have hw0 : RP.Gl w.drew := RP.gl_keep hG (Below.drew (Below.refl _ _))
  have hB0 : Below w.heap.size w w.drew := Below.drew (Below.refl _ _)
  clear hn1 hm1 e8 e9
  obtain ⟨W, hW⟩ : ∃ W, w.drew = W := ⟨_, rfl⟩
  rw [hW] at hw0 hB0 ⊢
  clear hW
  go_wp2_with fail
  refine (rNumber_any n1 7 W (by decide)).mono ?_
  rintro r w1 ⟨b1, c1, rfl, o1, d1⟩
  have hB1 := hB0.trans (d1.mono hB0.size)
  have o1 := own_low9 o1 hB0.size
  have hG1 := RP.gl_keep hw0 (d1.mono (RP.gl_le hw0))
  clear hB0 d1 hw0
  go_wp2_with fail
  refine (rNumber_any m1 7 w1 (by decide)).mono ?_
  rintro r w2 ⟨b2, c2, rfl, o2, d2⟩
  have o2 := own_low9 o2 hB1.size
  have o3 := own_stay9 o1 d2
  have hB2 := hB1.trans (d2.mono hB1.size)
  have hG2 := RP.gl_keep hG1 (d2.mono (RP.gl_le hG1))
  have hI2 : Ints .u8 w2 b2 7 c2 (beL m1 7) := by
    obtain ⟨a', c', hv, hi⟩ := Ints.of_owns o2
    injection hv with e1 _ e2
    subst e1; subst e2
    exact hi
  obtain ⟨i0, hi, hz0, hz1, hz2⟩ := info_u8b
  have hs2 : w.heap.size ≤ w2.heap.size := hB2.size
  clear hB1 d2 hG1 o1 o2
  go_wp2_with (at_builtin; refine wpList_append_ints rfl (.tmp 27) (.tmp 30) 22 rfl w.heap.size 5 i0 (.int .u8 0) 1 Try.underlying22 hi hz0 hz1 hz2 rfl rfl o3 rfl hI2 ?_ ?_ hs2 ?_; (unfold maxLen; decide); decide; intro v3 w3 o4 g4; refine RowKit.Hid.out ?_)
  refine Lib.hid ?_
  have e1 := be_beL 7 n1 hn3.out.1 hn3.out.2
  have e2 := be_beL 7 m1 hm3.out.1 hm3.out.2
  obtain ⟨YN, hYN⟩ : ∃ YN, beL n1 7 = YN := ⟨_, rfl⟩
  obtain ⟨YM, hYM⟩ : ∃ YM, beL m1 7 = YM := ⟨_, rfl⟩
  have hr1 : ∀ x ∈ YN, 0 ≤ x ∧ x < 256 := by rw [← hYN]; exact beL_range 7 n1
  have hr2 : ∀ x ∈ YM, 0 ≤ x ∧ x < 256 := by rw [← hYM]; exact beL_range 7 m1
  have hl1 : YN.length = 7 := by rw [← hYN]; exact beL_len n1 7
  have hl2 : YM.length = 7 := by rw [← hYM]; exact beL_len m1 7
  rw [hYN] at e1 o4 o3
  rw [hYM] at e2 o4 hI2
  obtain ⟨b3, c3, hv⟩ := own_slice32 o4
  subst hv
  have hI3 : Ints .u8 w3 b3 (7 + 7) c3 (YN ++ YM) := by
    obtain ⟨a', c', hv, hi⟩ := Ints.of_owns (xs := YN ++ YM) (by rw [List.map_append]; exact o4)
    injection hv with e1 _ e2
    subst e1; subst e2
    exact hi
  have hB3 := hB2.grown g4 hs2 (fun q hq => (o3.lt q hq).1)
  have hG3 := RP.gl_keep hG (hB3.mono (RP.gl_le hG))
  clear g4 o3 o4 hI2 hB2 hG2 hYN hYM hn3 hm3 hs2
  go_wp2_with fail
  refine (RP.new b3 (7 + 7) c3 (YN ++ YM) w3 hG3 hI3 (by intro x hx; rcases List.mem_append.1 hx with hx | hx; exact hr1 x hx; exact hr2 x hx) (by decide)).mono ?_
  rintro r w4 ⟨g, F, rfl, R4, hF, d4⟩
  have hF4 : ∀ b, F b → w.heap.size ≤ b := fun b hb => Nat.le_trans hB3.size (hF b hb)
  have hB4 := hB3.trans (d4.mono hB3.size)
  have hG4 := RP.gl_keep hG (hB4.mono (RP.gl_le hG))
  clear hF d4 hB3 hG3 hI3
  have hc := RP.num F g (YN ++ YM) 0 0 ((7 : Nat) : Int) w4 hG4 R4 (Nat.zero_le _)
  rw [rd_two1 YN YM 7 hl1 hl2 (by decide) (by decide)] at hc
  go_wp2_with fail
  refine hc.mono ?_
  rintro r w5 ⟨F5, rfl, R5, g5, m5⟩
  have hF5 := g5.low hF4 hB4.size
  have hB5 := hB4.trans (m5.below hF4 hB4.size)
  have hG5 := RP.gl_keep hG (hB5.mono (RP.gl_le hG))
  clear hc R4 g5 m5 hF4 hB4 hG4
  have hc := RP.num F5 g (YN ++ YM) 7 0 ((7 : Nat) : Int) w5 hG5 R5 (by rw [List.length_append]; omega)
  rw [rd_two2 YN YM 7 hl1 hl2 (by decide) (by decide)] at hc
  go_wp2_with fail
  refine hc.mono ?_
  rintro r w6 ⟨F6, rfl, R6, g6, m6⟩
  have hF6 := g6.low hF5 hB5.size
  have hB6 := hB5.trans (m6.below hF5 hB5.size)
  have hG6 := RP.gl_keep hG (hB6.mono (RP.gl_le hG))
  clear hc R5 g6 m6 hF5 hB5 hG5
  have hc := RP.done F6 g (YN ++ YM) (7 + 7) 0 w6 hG6 R6
  rw [show doneOf (YN ++ YM).length (((7 + 7 : Nat) : Int)) 0 = 0 by rw [List.length_append, hl1, hl2]; rfl] at hc
  go_wp2_with fail
  refine hc.mono ?_
  rintro r w7 ⟨rfl, d7⟩
  have hB7 := hB6.trans (d7.mono hB6.size)
  have hG7 := RP.gl_keep hG (hB7.mono (RP.gl_le hG))
  clear hc R6 d7 hF6 hB6 hG6
  go_wp2_with fail
  refine (alive9_any RP w7 hG7).mono ?_
  rintro r w8 ⟨rfl, d8⟩
  go_wp2
  go_ret
  exact ⟨rfl, hB7.trans (d8.mono hB7.size)⟩

set_option maxRecDepth 100000 in
set_option maxHeartbeats 1000000 in
theorem numbers_8 (RP : ReaderProg) (n m x : Int) (w : World) (hG : RP.Gl w) (hw : wrap64 (1 + (wrap64 x).tmod 8) = 8) (hn : 0 ≤ n) (hm : 0 ≤ m) (hn2 : n < 18446744073709551616) (hm2 : m < 18446744073709551616) :
    Calls Try.prog 5 #[.int .u64 n, .int .u64 m, .int .u8 x] w fun r w' => r = .returned (.bool true) ∧ Below w.heap.size w w' := by
  go_enter Try.func5, Try.ntmps5
  obtain ⟨n1, hn1⟩ : ∃ n1, n = n1 := ⟨_, rfl⟩
  obtain ⟨m1, hm1⟩ : ∃ m1, m = m1 := ⟨_, rfl⟩
  subst hn1; subst hm1
  have hn3 := Lib.hid (show 0 ≤ n ∧ n < 256 ^ 8 from ⟨hn, by omega⟩)
  have hm3 := Lib.hid (show 0 ≤ m ∧ m < 256 ^ 8 from ⟨hm, by omega⟩)
  clear hn hm
  have hw0 : RP.Gl w := hG
  have hB0 : Below w.heap.size w w := Below.refl _ _
  go_wp2_with fail
  refine (rNumber_any n 8 w (by decide)).mono ?_
  rintro r w1 ⟨b1, c1, rfl, o1, d1⟩
  have hB1 := hB0.trans (d1.mono hB0.size)
  have o1 := own_low9 o1 hB0.size
  have hG1 := RP.gl_keep hw0 (d1.mono (RP.gl_le hw0))
  clear hB0 d1 hw0
  go_wp2_with fail
  refine (rNumber_any m 8 w1 (by decide)).mono ?_
  rintro r w2 ⟨b2, c2, rfl, o2, d2⟩
  have o2 := own_low9 o2 hB1.size
  have o3 := own_stay9 o1 d2
  have hB2 := hB1.trans (d2.mono hB1.size)
  have hG2 := RP.gl_keep hG1 (d2.mono (RP.gl_le hG1))
  have hI2 : Ints .u8 w2 b2 8 c2 (beL m 8) := by
    obtain ⟨a', c', hv, hi⟩ := Ints.of_owns o2
    injection hv with e1 _ e2
    subst e1; subst e2
    exact hi
  obtain ⟨i0, hi, hz0, hz1, hz2⟩ := info_u8b
  have hs2 : w.heap.size ≤ w2.heap.size := hB2.size
  clear hB1 d2 hG1 o1 o2
  go_wp2_with (at_builtin; refine wpList_append_ints rfl (.tmp 27) (.tmp 30) 22 rfl w.heap.size 5 i0 (.int .u8 0) 1 Try.underlying22 hi hz0 hz1 hz2 rfl rfl o3 rfl hI2 ?_ ?_ hs2 ?_; (unfold maxLen; decide); decide; intro v3 w3 o4 g4; refine RowKit.Hid.out ?_)
  refine Lib.hid ?_
  have e1 := be_beL 8 n hn3.out.1 hn3.out.2
  have e2 := be_beL 8 m hm3.out.1 hm3.out.2
  obtain ⟨YN, hYN⟩ : ∃ YN, beL n 8 = YN := ⟨_, rfl⟩
  obtain ⟨YM, hYM⟩ : ∃ YM, beL m 8 = YM := ⟨_, rfl⟩
  have hr1 : ∀ x ∈ YN, 0 ≤ x ∧ x < 256 := by rw [← hYN]; exact beL_range 8 n
  have hr2 : ∀ x ∈ YM, 0 ≤ x ∧ x < 256 := by rw [← hYM]; exact beL_range 8 m
  have hl1 : YN.length = 8 := by rw [← hYN]; exact beL_len n 8
  have hl2 : YM.length = 8 := by rw [← hYM]; exact beL_len m 8
  rw [hYN] at e1 o4 o3
  rw [hYM] at e2 o4 hI2
  obtain ⟨b3, c3, hv⟩ := own_slice32 o4
  subst hv
  have hI3 : Ints .u8 w3 b3 (8 + 8) c3 (YN ++ YM) := by
    obtain ⟨a', c', hv, hi⟩ := Ints.of_owns (xs := YN ++ YM) (by rw [List.map_append]; exact o4)
    injection hv with e1 _ e2
    subst e1; subst e2
    exact hi
  have hB3 := hB2.grown g4 hs2 (fun q hq => (o3.lt q hq).1)
  have hG3 := RP.gl_keep hG (hB3.mono (RP.gl_le hG))
  clear g4 o3 o4 hI2 hB2 hG2 hYN hYM hn3 hm3 hs2
  go_wp2_with fail
  refine (RP.new b3 (8 + 8) c3 (YN ++ YM) w3 hG3 hI3 (by intro x hx; rcases List.mem_append.1 hx with hx | hx; exact hr1 x hx; exact hr2 x hx) (by decide)).mono ?_
  rintro r w4 ⟨g, F, rfl, R4, hF, d4⟩
  have hF4 : ∀ b, F b → w.heap.size ≤ b := fun b hb => Nat.le_trans hB3.size (hF b hb)
  have hB4 := hB3.trans (d4.mono hB3.size)
  have hG4 := RP.gl_keep hG (hB4.mono (RP.gl_le hG))
  clear hF d4 hB3 hG3 hI3
  have hc := RP.num F g (YN ++ YM) 0 0 ((8 : Nat) : Int) w4 hG4 R4 (Nat.zero_le _)
  rw [rd_two1 YN YM 8 hl1 hl2 (by decide) (by decide)] at hc
  go_wp2_with fail
  refine hc.mono ?_
  rintro r w5 ⟨F5, rfl, R5, g5, m5⟩
  have hF5 := g5.low hF4 hB4.size
  have hB5 := hB4.trans (m5.below hF4 hB4.size)
  have hG5 := RP.gl_keep hG (hB5.mono (RP.gl_le hG))
  clear hc R4 g5 m5 hF4 hB4 hG4
  have hc := RP.num F5 g (YN ++ YM) 8 0 ((8 : Nat) : Int) w5 hG5 R5 (by rw [List.length_append]; omega)
  rw [rd_two2 YN YM 8 hl1 hl2 (by decide) (by decide)] at hc
  go_wp2_with fail
  refine hc.mono ?_
  rintro r w6 ⟨F6, rfl, R6, g6, m6⟩
  have hF6 := g6.low hF5 hB5.size
  have hB6 := hB5.trans (m6.below hF5 hB5.size)
  have hG6 := RP.gl_keep hG (hB6.mono (RP.gl_le hG))
  clear hc R5 g6 m6 hF5 hB5 hG5
  have hc := RP.done F6 g (YN ++ YM) (8 + 8) 0 w6 hG6 R6
  rw [show doneOf (YN ++ YM).length (((8 + 8 : Nat) : Int)) 0 = 0 by rw [List.length_append, hl1, hl2]; rfl] at hc
  go_wp2_with fail
  refine hc.mono ?_
  rintro r w7 ⟨rfl, d7⟩
  have hB7 := hB6.trans (d7.mono hB6.size)
  have hG7 := RP.gl_keep hG (hB7.mono (RP.gl_le hG))
  clear hc R6 d7 hF6 hB6 hG6
  go_wp2_with fail
  refine (alive9_any RP w7 hG7).mono ?_
  rintro r w8 ⟨rfl, d8⟩
  go_wp2
  go_ret
  exact ⟨rfl, hB7.trans (d8.mono hB7.size)⟩

theorem law_ReaderNumbers (RP : ReaderProg) (n m x : Int) (w : World) (hG : RP.Gl w) (wn : (Lit.int .u64 n).wf = true) (wm : (Lit.int .u64 m).wf = true) (wx : (Lit.int .u8 x).wf = true) :
    Calls Try.prog 5 #[.int .u64 n, .int .u64 m, .int .u8 x] w fun r w' => r = .returned (.bool true) ∧ Below w.heap.size w w' := by
  have hn := bounds_u64 wn
  have hm := bounds_u64 wm
  have hx := bounds_u8 wx
  have e1 : wrap64 x = x := by unfold wrap64; omega
  have e2 : x.tmod 8 = x % 8 := Int.tmod_eq_emod_of_nonneg hx.1
  have hw : wrap64 (1 + (wrap64 x).tmod 8) = 1 + x % 8 := by rw [e1, e2]; unfold wrap64; omega
  rcases (show x % 8 = 0 ∨ x % 8 = 1 ∨ x % 8 = 2 ∨ x % 8 = 3 ∨ x % 8 = 4 ∨ x % 8 = 5 ∨ x % 8 = 6 ∨ x % 8 = 7 by omega) with h | h | h | h | h | h | h | h
  · exact numbers_1 RP n m x w hG (by rw [hw, h]; rfl) hn.1 hm.1
  · exact numbers_2 RP n m x w hG (by rw [hw, h]; rfl) hn.1 hm.1
  · exact numbers_3 RP n m x w hG (by rw [hw, h]; rfl) hn.1 hm.1
  · exact numbers_4 RP n m x w hG (by rw [hw, h]; rfl) hn.1 hm.1
  · exact numbers_5 RP n m x w hG (by rw [hw, h]; rfl) hn.1 hm.1
  · exact numbers_6 RP n m x w hG (by rw [hw, h]; rfl) hn.1 hm.1
  · exact numbers_7 RP n m x w hG (by rw [hw, h]; rfl) hn.1 hm.1
  · exact numbers_8 RP n m x w hG (by rw [hw, h]; rfl) hn.1 hm.1 (by omega) (by omega)
end Go.Proofs.Ytpobplkijfienaa
