/-
  The law MacTells comes to true, whatever key, tag and parts; only new memory is written. Conditions: at most 2^32 parts, of at most 2^32 - 8192 bytes in all, each byte a number from 0 to 255; the package's variables hold the constants and the starts.
-/
import Derived.Test.YtglgkobfpjkilaaDoorMacEqual
import Derived.Test.YtglgkobfpjkilaaDoorShaJoin
namespace Go.Proofs.YtglgkobfpjkilaaDoor
open Go.RowKit

set_option maxRecDepth 100000 in
set_option maxHeartbeats 3200000 in
theorem macTells_any (a : Option Addr) (n ca : Nat) (key : List Int) (c : Option Addr) (l cc : Nat) (ts : List Int) (b : Option Addr) (m cb : Nat) (ps : List (List Int)) (w : World) (hG : Glob w)
    (h1 : Ints .u8 w a n ca key) (r1 : ∀ x ∈ key, 0 ≤ x ∧ x < 256) (h2 : Ints .u8 w c l cc ts) (r2 : ∀ x ∈ ts, 0 ≤ x ∧ x < 256) (hP : Parts w b m cb ps) (hr : ∀ p ∈ ps, ∀ x ∈ p, 0 ≤ x ∧ x < 256)
    (hn : n ≤ 200) (hl : l ≤ 100) (hm : m ≤ 1048576) (ht : ps.flatten.length ≤ 1048576) (hfew : m + ps.flatten.length ≤ 300) :
    Calls Tryd.prog 3 #[.slice a n ca, .slice c l cc, .slice b m cb] w fun e w' => e = .returned (.bool true) ∧ Below w.heap.size w w' := by
  have hnI : decide ((200 : Int) < (n : Int)) = false := by simp; omega
  have hlI : decide ((100 : Int) < (l : Int)) = false := by simp; omega
  have CF := Lib.hid (refFew_any b m cb ps w hP (by omega) (by omega) 300 300 rfl)
  rw [decide_eq_true hfew] at CF
  obtain ⟨bs, hbs⟩ : ∃ bs, bs = ps.flatten := ⟨_, rfl⟩
  have hbr : ∀ x ∈ bs, 0 ≤ x ∧ x < 256 := by
    intro x hx
    rw [hbs] at hx
    obtain ⟨p, hp, hxp⟩ := List.mem_flatten.1 hx
    exact hr p hp x hxp
  obtain ⟨L, hL⟩ : ∃ L, bs.length = L := ⟨_, rfl⟩
  have hL3 : L ≤ 300 := by rw [← hL, hbs]; omega
  obtain ⟨T, hT⟩ : ∃ T, T = tagOf key bs := ⟨_, rfl⟩
  have hTl : T.length = 32 := by rw [hT, tagOf_length]
  have hTr : ∀ x ∈ T, 0 ≤ x ∧ x < 256 := by rw [hT]; exact shaSum_range _
  obtain ⟨X, hX⟩ : ∃ X, X = T.map (Value.int .u8) := ⟨_, rfl⟩
  have hXl : X.length = 32 := by rw [hX, List.length_map, hTl]
  have HX := Lib.hid hX; have HXL := Lib.hid hXl; have HTL := Lib.hid hTl; have HT := Lib.hid hT; have HTR := Lib.hid hTr; have HBS := Lib.hid hbs; have HBR := Lib.hid hbr; have HL := Lib.hid hL
  have HI : IsRow Tryd.prog 27 X.length := by rw [hXl]; exact rowId
  have HO1 := Lib.hid (show ∀ v ∈ X, v.oneCell' = true by rw [hX]; exact ints_oneCell' _ _)
  have HOF := Lib.hid (show 0 + X.length ≤ (zb 32).length by rw [hXl]; decide)
  have CO := Lib.hid (show Calls Tryd.prog 9 #[.slice a n ca, .slice b m cb] w fun e w'' => e = .returned (.agg X.toArray) ∧ Below w.heap.size w w'' by
    rw [hX, hT, hbs]; exact of_any a n ca key b m cb ps w hG h1 r1 (by omega) hP hr (by omega) (by omega))
  have CJ := Lib.hid (fun w' (q : Below w.heap.size w w') => (show Calls Tryd.prog 11 #[.slice b m cb] w' fun e w'' => ∃ b c, e = .returned (.slice b L c) ∧ Ints .u8 w'' b L c bs ∧ Below w'.heap.size w' w'' by
    have hh := refJoin_any b m cb ps w' (hP.keep q) (by omega) (by omega)
    rw [← hbs, hL] at hh; exact hh))
  have CR := Lib.hid (fun w' jb jc (q : Below w.heap.size w w') (i : Ints .u8 w' jb L jc bs) => (show Calls Tryd.prog 10 #[.slice a n ca, .slice jb L jc] w' fun e w'' => e = .returned (.agg X.toArray) ∧ Below w'.heap.size w' w'' by
    rw [hX, hT]; exact refOf_any a n ca key jb L jc bs w' (h1.keep q) r1 i HBR.out (by omega) (by omega)))
  have CC := Lib.hid (fun w' A k cA (xs : List Int) (q : Below w.heap.size w w') (i : Ints .u8 w' A k cA xs) (hxr : ∀ x ∈ xs, 0 ≤ x ∧ x < 256) (hk : k ≤ 100) => (show Calls Tryd.prog 12 #[.slice a n ca, .slice A k cA, .slice b m cb] w' fun e w'' => e = .returned (.bool (decide (xs = T))) ∧ Below w'.heap.size w' w'' by
    have h := check_any a n ca key A k cA xs b m cb ps w' (hG.keep q (Nat.le_refl _)) (h1.keep q) r1 (by omega) i hxr (by unfold maxLen; omega) (hP.keep q) hr (by omega) (by omega)
    rw [← hbs, ← hT] at h
    exact h))
  have GA := Lib.hid (fun w' (q : Below w.heap.size w w') => alive3_any w' (hG.keep q (Nat.le_refl _)))
  have K2 := Lib.hid (fun w' (q : Below w.heap.size w w') => (h2.keep q : Ints .u8 w' c l cc ts))
  have R2 := Lib.hid r2
  have same : ∀ w, (Op.equalIn 10000 27 (.agg X.toArray) (.agg X.toArray)).run Tryd.prog w = .ok true w := fun w => by rw [hX, eq_id T T hTl hTl w, decide_eq_true rfl]
  have hng := noGuardId3
  clear hX hXl hTl hT hTr hbs hbr hL hP hr h1 h2 r1 r2 hG ht hfew
  go_enter Tryd.func3, Tryd.ntmps3
  go_wp2_with fail
  refine CF.out.mono ?_; rintro e w0 ⟨rfl, rfl⟩
  go_wp2_with fail
  refine CO.out.mono ?_; rintro e w1 ⟨rfl, b1⟩
  go_wp2_with fail
  refine (CJ.out w1 b1).mono ?_; rintro e w2 ⟨jb, jc, rfl, J2, b2⟩
  have q2 : Below w.heap.size w w2 := b1.trans (b2.mono b1.size)
  go_wp2_with fail
  refine (CR.out w2 jb jc q2 J2).mono ?_; rintro e w3 ⟨rfl, b3⟩
  have q3 : Below w.heap.size w w3 := q2.trans (b3.mono q2.size)
  clear CF CO CJ CR b1 b2 b3 J2 q2
  have A0 : Blk ((w3.alloc (.cells (zb 32).toArray 27)).alloc (.cells (zb 32).toArray 27)) w3.heap.size 27 (zb 32) := (Blk.new w3 27 (zb 32)).alloc _
  have B0 : Blk ((w3.alloc (.cells (zb 32).toArray 27)).alloc (.cells (zb 32).toArray 27)) (w3.heap.size + 1) 27 (zb 32) := Blk.new1 w3 _ _ (zb 32)
  go_wp2_with (first
    | (with_reducible refine wpList_alloc_blk rfl 27 rfl zeroId ?_)
    | ((with_reducible refine wpList_store_part rfl 27 (.tmp 7) (.tmp 25) rfl ?_ ?_ A0 HI HOF.out HO1.out ?_)
       rfl
       rfl
       intro w4 A4' g4
       have B4 := B0.grown g4 (by intro e; injection e; omega))
    | ((with_reducible refine wpList_store_part rfl 27 (.tmp 8) (.tmp 29) rfl ?_ ?_ B4 HI HOF.out HO1.out ?_)
       exact congrArg (fun k => Value.pointer (some ⟨k, 0, none⟩)) (size1 w3 _)
       rfl
       intro w5 B5' g5
       refine RowKit.Hid.out ?_))
  refine Lib.hid ?_
  have A5 := (A4'.grown g5 (by intro e; injection e; omega)).cast (overV_all _ _ (by rw [HXL.out]; rfl))
  have B5 := B5'.cast (overV_all _ _ (by rw [HXL.out]; rfl))
  have b5 : Below w3.heap.size w3 w5 := ((below2 w3 _ _).trans (below_of_grown g4 (Nat.le_refl _) A0.lt)).trans (below_of_grown g5 (by omega) B4.lt)
  have q5 : Below w.heap.size w w5 := q3.trans (b5.mono q3.size)
  obtain ⟨g7, hg7⟩ : ∃ g, g = w3.heap.size := ⟨_, rfl⟩
  obtain ⟨g8, hg8⟩ : ∃ g, g = w3.heap.size + 1 := ⟨_, rfl⟩
  rw [← hg7] at A5
  rw [← hg8] at B5
  rw [← hg8, ← hg7]
  clear hg7 hg8 A4' B5' g4 g5 A0 B0 B4 b5 q3 HO1 HOF
  obtain ⟨D, hD⟩ : ∃ D, D = decide (ts = T) := ⟨_, rfl⟩
  have DD : (D == D) = true := by simp
  have BB := Lib.hid (fun w' (q : Below w5.heap.size w5 w') => (A5.keep q A5.lt : Blk w' g7 27 X))
  have BC := Lib.hid (fun w' (q : Below w5.heap.size w5 w') => (B5.keep q B5.lt : Blk w' g8 27 X))
  have I7 := Lib.hid (fun w' (q : Below w5.heap.size w5 w') => (Ints.of_blk (BB.out w' q) HTL.out (Nat.le_refl _) (fun i hi => by rw [HX.out, Nat.zero_add]; exact getElem?_mapInt _ _ _ (by rw [HTL.out]; exact hi)) : Ints .u8 w' (some ⟨g7, 0, none⟩) 32 32 T))
  have I8 := Lib.hid (fun w' (q : Below w5.heap.size w5 w') => (Ints.of_blk (BC.out w' q) HTL.out (Nat.le_refl _) (fun i hi => by rw [HX.out, Nat.zero_add]; exact getElem?_mapInt _ _ _ (by rw [HTL.out]; exact hi)) : Ints .u8 w' (some ⟨g8, 0, none⟩) 32 32 T))
  have C1 := Lib.hid (fun w' (q : Below w5.heap.size w5 w') => (show Calls Tryd.prog 12 #[.slice a n ca, .slice (some ⟨g7, 0, none⟩) 32 32, .slice b m cb] w' fun e w'' => e = .returned (.bool true) ∧ Below w'.heap.size w' w'' by
    have h := CC.out w' (some ⟨g7, 0, none⟩) 32 32 T (q5.trans (q.mono q5.size)) (I7.out w' q) HTR.out (by omega)
    rw [decide_eq_true rfl] at h; exact h))
  have C2 := Lib.hid (fun w' (q : Below w5.heap.size w5 w') => (show Calls Tryd.prog 12 #[.slice a n ca, .slice c l cc, .slice b m cb] w' fun e w'' => e = .returned (.bool D) ∧ Below w'.heap.size w' w'' by
    rw [hD]; exact CC.out w' c l cc ts (q5.trans (q.mono q5.size)) (K2.out w' (q5.trans (q.mono q5.size))) R2.out hl))
  have CS := Lib.hid (fun w' (q : Below w5.heap.size w5 w') => (show Calls Tryd.prog 13 #[.slice c l cc, .slice (some ⟨g8, 0, none⟩) 32 32] w' fun e w'' => e = .returned (.bool D) ∧ Below w'.heap.size w' w'' by
    refine (refSame_any c l cc ts (some ⟨g8, 0, none⟩) 32 32 T w' (K2.out w' (q5.trans (q.mono q5.size))) R2.out (I8.out w' q) HTR.out).mono ?_
    rintro e w'' ⟨rfl, rfl⟩
    exact ⟨by rw [hD], Below.refl _ _⟩))
  have C3 := Lib.hid (fun w' (q : Below w5.heap.size w5 w') => (show Calls Tryd.prog 12 #[.slice a n ca, .slice (some ⟨g7, 0, none⟩) 31 32, .slice b m cb] w' fun e w'' => e = .returned (.bool false) ∧ Below w'.heap.size w' w'' by
    have h := CC.out w' (some ⟨g7, 0, none⟩) 31 32 (T.take 31) (q5.trans (q.mono q5.size)) ((I7.out w' q).cut2 0 31 (by omega) (by omega)) (fun x hx => HTR.out x (List.mem_of_mem_take hx)) (by omega)
    rw [decide_eq_false (by intro e; have := congrArg List.length e; rw [List.length_take, HTL.out] at this; omega)] at h; exact h))
  have CA := Lib.hid (fun w' (q : Below w5.heap.size w5 w') => GA.out w' (q5.trans (q.mono q5.size)))
  have hS : Below w5.heap.size w5 w5.drew := Below.drew (Below.refl _ _)
  clear A5 B5 hD
  go_wp2_with fail
  refine region_seqS (fun w' => Below w5.heap.size w5 w') (by kernel_rfl) hS ?_
  simp only [pairs, Nat.reduceAdd]
  (refine SeqS.take (v := .agg X.toArray) (by assumption) (by kernel_rfl) (by decide +kernel) (by decide +kernel) (yields_blk (by rfl) 27 (.tmp 7) rfl rfl (fun w' h => BB.out w' h) HI) ?_; simp only [Act.put, List.setIfInBounds_toArray, List.set_cons_zero, List.set_cons_succ])
  (refine SeqS.take (v := .agg X.toArray) (by assumption) (by kernel_rfl) (by decide +kernel) (by decide +kernel) (yields_blk (by rfl) 27 (.tmp 8) rfl rfl (fun w' h => BC.out w' h) HI) ?_; simp only [Act.put, List.setIfInBounds_toArray, List.set_cons_zero, List.set_cons_succ])
  repeat (first
    | (refine SeqS.take (v := ?_) (by first | assumption | trivial) (by kernel_rfl) (by decide +kernel) (by decide +kernel) (Or.inl ⟨by rfl, ?_⟩) ?_
       rotate_left
       focus
         intro w' hb'
         go_simp
         with_reducible rfl
       simp only [Act.put, List.setIfInBounds_toArray, List.set_cons_zero, List.set_cons_succ])
    | (refine SeqS.take (v := undef) (by first | assumption | trivial) (by kernel_rfl) (by decide +kernel) (by decide +kernel) (Or.inr ⟨by rfl, rfl⟩) ?_
       simp only [Act.put, List.setIfInBounds_toArray, List.set_cons_zero, List.set_cons_succ])
    | (refine SeqS.take1 (v := ?_) (by first | assumption | trivial) (by kernel_rfl) (by decide +kernel) (by decide +kernel) (Or.inl ⟨by rfl, ?_⟩) ?_
       rotate_left
       focus
         intro w' hb'
         go_simp
         with_reducible rfl
       simp only [Act.put, List.setIfInBounds_toArray, List.set_cons_zero, List.set_cons_succ])
    | (refine SeqS.take1 (v := undef) (by first | assumption | trivial) (by kernel_rfl) (by decide +kernel) (by decide +kernel) (Or.inr ⟨by rfl, rfl⟩) ?_
       simp only [Act.put, List.setIfInBounds_toArray, List.set_cons_zero, List.set_cons_succ])
    | (refine SeqS.take2 (v := ?_) (by first | assumption | trivial) (by kernel_rfl) (by decide +kernel) (by decide +kernel) (Or.inl ⟨by rfl, ?_⟩) ?_
       rotate_left
       focus
         intro w' hb'
         go_simp
         with_reducible rfl
       simp only [Act.put, List.setIfInBounds_toArray, List.set_cons_zero, List.set_cons_succ])
    | (refine SeqS.take2 (v := undef) (by first | assumption | trivial) (by kernel_rfl) (by decide +kernel) (by decide +kernel) (Or.inr ⟨by rfl, rfl⟩) ?_
       simp only [Act.put, List.setIfInBounds_toArray, List.set_cons_zero, List.set_cons_succ]))
  refine SeqS.alone (by decide +kernel) (by rfl) (fun K hK => ?_)
  go_simp
  go_at_call 12
  refine (C1.out _ hS).mono ?_
  rintro e w6 ⟨rfl, b6⟩
  go_simp
  have S6 : Below w5.heap.size w5 w6 := hS.trans (b6.mono hS.size)
  refine hK _ _ S6 ?_
  clear hK K
  repeat (first
    | (refine SeqS.take (v := ?_) (by first | assumption | trivial) (by kernel_rfl) (by decide +kernel) (by decide +kernel) (Or.inl ⟨by rfl, ?_⟩) ?_
       rotate_left
       focus
         intro w' hb'
         go_simp
         with_reducible rfl
       simp only [Act.put, List.setIfInBounds_toArray, List.set_cons_zero, List.set_cons_succ])
    | (refine SeqS.take (v := undef) (by first | assumption | trivial) (by kernel_rfl) (by decide +kernel) (by decide +kernel) (Or.inr ⟨by rfl, rfl⟩) ?_
       simp only [Act.put, List.setIfInBounds_toArray, List.set_cons_zero, List.set_cons_succ])
    | (refine SeqS.take1 (v := ?_) (by first | assumption | trivial) (by kernel_rfl) (by decide +kernel) (by decide +kernel) (Or.inl ⟨by rfl, ?_⟩) ?_
       rotate_left
       focus
         intro w' hb'
         go_simp
         with_reducible rfl
       simp only [Act.put, List.setIfInBounds_toArray, List.set_cons_zero, List.set_cons_succ])
    | (refine SeqS.take1 (v := undef) (by first | assumption | trivial) (by kernel_rfl) (by decide +kernel) (by decide +kernel) (Or.inr ⟨by rfl, rfl⟩) ?_
       simp only [Act.put, List.setIfInBounds_toArray, List.set_cons_zero, List.set_cons_succ])
    | (refine SeqS.take2 (v := ?_) (by first | assumption | trivial) (by kernel_rfl) (by decide +kernel) (by decide +kernel) (Or.inl ⟨by rfl, ?_⟩) ?_
       rotate_left
       focus
         intro w' hb'
         go_simp
         with_reducible rfl
       simp only [Act.put, List.setIfInBounds_toArray, List.set_cons_zero, List.set_cons_succ])
    | (refine SeqS.take2 (v := undef) (by first | assumption | trivial) (by kernel_rfl) (by decide +kernel) (by decide +kernel) (Or.inr ⟨by rfl, rfl⟩) ?_
       simp only [Act.put, List.setIfInBounds_toArray, List.set_cons_zero, List.set_cons_succ]))
  refine SeqS.alone (by decide +kernel) (by rfl) (fun K hK => ?_)
  go_simp
  go_at_call 12
  refine (C2.out _ S6).mono ?_
  rintro e w7 ⟨rfl, b7⟩
  go_simp
  have S7 : Below w5.heap.size w5 w7 := S6.trans (b7.mono S6.size)
  refine hK _ _ S7 ?_
  clear hK K
  repeat (first
    | (refine SeqS.take (v := ?_) (by first | assumption | trivial) (by kernel_rfl) (by decide +kernel) (by decide +kernel) (Or.inl ⟨by rfl, ?_⟩) ?_
       rotate_left
       focus
         intro w' hb'
         go_simp
         with_reducible rfl
       simp only [Act.put, List.setIfInBounds_toArray, List.set_cons_zero, List.set_cons_succ])
    | (refine SeqS.take (v := undef) (by first | assumption | trivial) (by kernel_rfl) (by decide +kernel) (by decide +kernel) (Or.inr ⟨by rfl, rfl⟩) ?_
       simp only [Act.put, List.setIfInBounds_toArray, List.set_cons_zero, List.set_cons_succ])
    | (refine SeqS.take1 (v := ?_) (by first | assumption | trivial) (by kernel_rfl) (by decide +kernel) (by decide +kernel) (Or.inl ⟨by rfl, ?_⟩) ?_
       rotate_left
       focus
         intro w' hb'
         go_simp
         with_reducible rfl
       simp only [Act.put, List.setIfInBounds_toArray, List.set_cons_zero, List.set_cons_succ])
    | (refine SeqS.take1 (v := undef) (by first | assumption | trivial) (by kernel_rfl) (by decide +kernel) (by decide +kernel) (Or.inr ⟨by rfl, rfl⟩) ?_
       simp only [Act.put, List.setIfInBounds_toArray, List.set_cons_zero, List.set_cons_succ])
    | (refine SeqS.take2 (v := ?_) (by first | assumption | trivial) (by kernel_rfl) (by decide +kernel) (by decide +kernel) (Or.inl ⟨by rfl, ?_⟩) ?_
       rotate_left
       focus
         intro w' hb'
         go_simp
         with_reducible rfl
       simp only [Act.put, List.setIfInBounds_toArray, List.set_cons_zero, List.set_cons_succ])
    | (refine SeqS.take2 (v := undef) (by first | assumption | trivial) (by kernel_rfl) (by decide +kernel) (by decide +kernel) (Or.inr ⟨by rfl, rfl⟩) ?_
       simp only [Act.put, List.setIfInBounds_toArray, List.set_cons_zero, List.set_cons_succ]))
  refine SeqS.alone (by decide +kernel) (by rfl) (fun K hK => ?_)
  go_simp
  go_at_call 13
  refine (CS.out _ S7).mono ?_
  rintro e w8 ⟨rfl, b8⟩
  go_simp
  have S8 : Below w5.heap.size w5 w8 := S7.trans (b8.mono S7.size)
  refine hK _ _ S8 ?_
  clear hK K
  repeat (first
    | (refine SeqS.take (v := ?_) (by first | assumption | trivial) (by kernel_rfl) (by decide +kernel) (by decide +kernel) (Or.inl ⟨by rfl, ?_⟩) ?_
       rotate_left
       focus
         intro w' hb'
         go_simp
         with_reducible rfl
       simp only [Act.put, List.setIfInBounds_toArray, List.set_cons_zero, List.set_cons_succ])
    | (refine SeqS.take (v := undef) (by first | assumption | trivial) (by kernel_rfl) (by decide +kernel) (by decide +kernel) (Or.inr ⟨by rfl, rfl⟩) ?_
       simp only [Act.put, List.setIfInBounds_toArray, List.set_cons_zero, List.set_cons_succ])
    | (refine SeqS.take1 (v := ?_) (by first | assumption | trivial) (by kernel_rfl) (by decide +kernel) (by decide +kernel) (Or.inl ⟨by rfl, ?_⟩) ?_
       rotate_left
       focus
         intro w' hb'
         go_simp
         with_reducible rfl
       simp only [Act.put, List.setIfInBounds_toArray, List.set_cons_zero, List.set_cons_succ])
    | (refine SeqS.take1 (v := undef) (by first | assumption | trivial) (by kernel_rfl) (by decide +kernel) (by decide +kernel) (Or.inr ⟨by rfl, rfl⟩) ?_
       simp only [Act.put, List.setIfInBounds_toArray, List.set_cons_zero, List.set_cons_succ])
    | (refine SeqS.take2 (v := ?_) (by first | assumption | trivial) (by kernel_rfl) (by decide +kernel) (by decide +kernel) (Or.inl ⟨by rfl, ?_⟩) ?_
       rotate_left
       focus
         intro w' hb'
         go_simp
         with_reducible rfl
       simp only [Act.put, List.setIfInBounds_toArray, List.set_cons_zero, List.set_cons_succ])
    | (refine SeqS.take2 (v := undef) (by first | assumption | trivial) (by kernel_rfl) (by decide +kernel) (by decide +kernel) (Or.inr ⟨by rfl, rfl⟩) ?_
       simp only [Act.put, List.setIfInBounds_toArray, List.set_cons_zero, List.set_cons_succ]))
  refine SeqS.alone (by decide +kernel) (by rfl) (fun K hK => ?_)
  go_simp
  go_at_call 12
  refine (C3.out _ S8).mono ?_
  rintro e w9 ⟨rfl, b9⟩
  go_simp
  have S9 : Below w5.heap.size w5 w9 := S8.trans (b9.mono S8.size)
  refine hK _ _ S9 ?_
  clear hK K
  repeat (first
    | (refine SeqS.take (v := ?_) (by first | assumption | trivial) (by kernel_rfl) (by decide +kernel) (by decide +kernel) (Or.inl ⟨by rfl, ?_⟩) ?_
       rotate_left
       focus
         intro w' hb'
         go_simp
         with_reducible rfl
       simp only [Act.put, List.setIfInBounds_toArray, List.set_cons_zero, List.set_cons_succ])
    | (refine SeqS.take (v := undef) (by first | assumption | trivial) (by kernel_rfl) (by decide +kernel) (by decide +kernel) (Or.inr ⟨by rfl, rfl⟩) ?_
       simp only [Act.put, List.setIfInBounds_toArray, List.set_cons_zero, List.set_cons_succ])
    | (refine SeqS.take1 (v := ?_) (by first | assumption | trivial) (by kernel_rfl) (by decide +kernel) (by decide +kernel) (Or.inl ⟨by rfl, ?_⟩) ?_
       rotate_left
       focus
         intro w' hb'
         go_simp
         with_reducible rfl
       simp only [Act.put, List.setIfInBounds_toArray, List.set_cons_zero, List.set_cons_succ])
    | (refine SeqS.take1 (v := undef) (by first | assumption | trivial) (by kernel_rfl) (by decide +kernel) (by decide +kernel) (Or.inr ⟨by rfl, rfl⟩) ?_
       simp only [Act.put, List.setIfInBounds_toArray, List.set_cons_zero, List.set_cons_succ])
    | (refine SeqS.take2 (v := ?_) (by first | assumption | trivial) (by kernel_rfl) (by decide +kernel) (by decide +kernel) (Or.inl ⟨by rfl, ?_⟩) ?_
       rotate_left
       focus
         intro w' hb'
         go_simp
         with_reducible rfl
       simp only [Act.put, List.setIfInBounds_toArray, List.set_cons_zero, List.set_cons_succ])
    | (refine SeqS.take2 (v := undef) (by first | assumption | trivial) (by kernel_rfl) (by decide +kernel) (by decide +kernel) (Or.inr ⟨by rfl, rfl⟩) ?_
       simp only [Act.put, List.setIfInBounds_toArray, List.set_cons_zero, List.set_cons_succ]))
  refine SeqS.alone (by decide +kernel) (by rfl) (fun K hK => ?_)
  go_simp
  go_at_call 8
  refine (CA.out _ S9).mono ?_
  rintro e w10 ⟨rfl, b10⟩
  go_simp
  have S10 : Below w5.heap.size w5 w10 := S9.trans (b10.mono S9.size)
  refine hK _ _ S10 ?_
  clear hK K
  repeat (first
    | (refine SeqS.take (v := ?_) (by first | assumption | trivial) (by kernel_rfl) (by decide +kernel) (by decide +kernel) (Or.inl ⟨by rfl, ?_⟩) ?_
       rotate_left
       focus
         intro w' hb'
         go_simp
         with_reducible rfl
       simp only [Act.put, List.setIfInBounds_toArray, List.set_cons_zero, List.set_cons_succ])
    | (refine SeqS.take (v := undef) (by first | assumption | trivial) (by kernel_rfl) (by decide +kernel) (by decide +kernel) (Or.inr ⟨by rfl, rfl⟩) ?_
       simp only [Act.put, List.setIfInBounds_toArray, List.set_cons_zero, List.set_cons_succ])
    | (refine SeqS.take1 (v := ?_) (by first | assumption | trivial) (by kernel_rfl) (by decide +kernel) (by decide +kernel) (Or.inl ⟨by rfl, ?_⟩) ?_
       rotate_left
       focus
         intro w' hb'
         go_simp
         with_reducible rfl
       simp only [Act.put, List.setIfInBounds_toArray, List.set_cons_zero, List.set_cons_succ])
    | (refine SeqS.take1 (v := undef) (by first | assumption | trivial) (by kernel_rfl) (by decide +kernel) (by decide +kernel) (Or.inr ⟨by rfl, rfl⟩) ?_
       simp only [Act.put, List.setIfInBounds_toArray, List.set_cons_zero, List.set_cons_succ])
    | (refine SeqS.take2 (v := ?_) (by first | assumption | trivial) (by kernel_rfl) (by decide +kernel) (by decide +kernel) (Or.inl ⟨by rfl, ?_⟩) ?_
       rotate_left
       focus
         intro w' hb'
         go_simp
         with_reducible rfl
       simp only [Act.put, List.setIfInBounds_toArray, List.set_cons_zero, List.set_cons_succ])
    | (refine SeqS.take2 (v := undef) (by first | assumption | trivial) (by kernel_rfl) (by decide +kernel) (by decide +kernel) (Or.inr ⟨by rfl, rfl⟩) ?_
       simp only [Act.put, List.setIfInBounds_toArray, List.set_cons_zero, List.set_cons_succ]))
  refine SeqS.done (by decide +kernel) ?_
  go_wp2_with fail
  go_ret
  exact ⟨rfl, q5.trans (S10.mono q5.size)⟩

set_option maxRecDepth 100000 in
set_option maxHeartbeats 1600000 in
theorem macTells_long (a : Option Addr) (n ca : Nat) (c : Option Addr) (l cc : Nat) (b : Option Addr) (m cb : Nat) (ps : List (List Int)) (w : World) (hG : Glob w) (hP : Parts w b m cb ps)
    (hn : n ≤ 9223372036854775807) (hl : l ≤ 9223372036854775807) (hm : m ≤ 1048576) (ht : ps.flatten.length ≤ 1048576) (h : 200 < n ∨ 100 < l ∨ 300 < m + ps.flatten.length) :
    Calls Tryd.prog 3 #[.slice a n ca, .slice c l cc, .slice b m cb] w fun e w' => e = .returned (.bool true) ∧ Below w.heap.size w w' := by
  rcases (show 200 < n ∨ (n ≤ 200 ∧ 100 < l) ∨ (n ≤ 200 ∧ l ≤ 100 ∧ ¬ (m + ps.flatten.length ≤ 300)) from by omega) with h | ⟨h1, h2⟩ | ⟨h1, h2, h3⟩
  · have h0 : decide ((200 : Int) < (n : Int)) = true := by simp; omega
    clear ht
    go_enter Tryd.func3, Tryd.ntmps3
    go_wp2_with fail
    refine (alive3_any _ hG).mono ?_; rintro e w' ⟨rfl, hb⟩
    go_wp2
    go_ret
    exact ⟨rfl, hb⟩
  · have h0 : decide ((200 : Int) < (n : Int)) = false := by simp; omega
    have h3 : decide ((100 : Int) < (l : Int)) = true := by simp; omega
    clear ht
    go_enter Tryd.func3, Tryd.ntmps3
    go_wp2_with fail
    refine (alive3_any _ hG).mono ?_; rintro e w' ⟨rfl, hb⟩
    go_wp2
    go_ret
    exact ⟨rfl, hb⟩
  · have h0 : decide ((200 : Int) < (n : Int)) = false := by simp; omega
    have h4 : decide ((100 : Int) < (l : Int)) = false := by simp; omega
    have CF := Lib.hid (refFew_any b m cb ps w hP (by omega) (by omega) 300 300 rfl)
    rw [decide_eq_false h3] at CF
    clear ht h h3 hP
    go_enter Tryd.func3, Tryd.ntmps3
    go_wp2_with fail
    refine CF.out.mono ?_; rintro e w0 ⟨rfl, rfl⟩
    go_wp2_with fail
    refine (alive3_any _ hG).mono ?_; rintro e w' ⟨rfl, hb⟩
    go_wp2
    go_ret
    exact ⟨rfl, hb⟩
theorem law_MacTells (a : Option Addr) (n ca : Nat) (key : List Int) (c : Option Addr) (l cc : Nat) (ts : List Int) (b : Option Addr) (m cb : Nat) (ps : List (List Int)) (w : World) (hG : Glob w)
    (h1 : Ints .u8 w a n ca key) (r1 : ∀ x ∈ key, (Lit.int .u8 x).wf = true) (k1 : ca ≤ maxLen) (h2 : Ints .u8 w c l cc ts) (r2 : ∀ x ∈ ts, (Lit.int .u8 x).wf = true) (k2 : cc ≤ maxLen) (hP : Parts w b m cb ps) (hr : ∀ p ∈ ps, ∀ x ∈ p, 0 ≤ x ∧ x < 256) (hb : m + ps.flatten.length ≤ 1048576) :
    Calls Tryd.prog 3 #[.slice a n ca, .slice c l cc, .slice b m cb] w fun e w' => e = .returned (.bool true) ∧ Below w.heap.size w w' := by
  have q1 := h1.2.1
  have q2 := h2.2.1
  unfold maxLen at k1 k2
  by_cases h : 200 < n ∨ 100 < l ∨ 300 < m + ps.flatten.length
  · exact macTells_long a n ca c l cc b m cb ps w hG hP (by omega) (by omega) (by omega) (by omega) h
  · exact macTells_any a n ca key c l cc ts b m cb ps w hG h1 (fun x hx => wf_byte3 (r1 x hx)) h2 (fun x hx => wf_byte3 (r2 x hx)) hP hr (by omega) (by omega) (by omega) (by omega) (by omega)
end Go.Proofs.YtglgkobfpjkilaaDoor
