/-
  What package mac's Check comes to; the document's examples of layer 3 (alive) come to true. Conditions: bytes are numbers from 0 to 255; of key and parts fewer than 2^32 - 4096; the package's variables hold the constants and the starts.
-/
import Derived.Test.YtglgkobfpjkilaaDoorMacOf
import Derived.Test.YtglgkobfpjkilaaDoorMacRefOf
import Derived.Test.YtglgkobfpjkilaaDoorEqArr
namespace Go.Proofs.YtglgkobfpjkilaaDoor
open Go.RowKit

theorem below_of_draws {w w' : World} (h : ∃ k, w' = w.drewN k) (B : Nat) : Below B w w' := Draws.below h B

set_option maxRecDepth 100000 in
set_option maxHeartbeats 800000 in
theorem check_any (a : Option Addr) (n ca : Nat) (key : List Int) (c : Option Addr) (l cc : Nat) (ts : List Int) (b : Option Addr) (m cb : Nat) (ps : List (List Int)) (w : World) (hG : Glob w) (h1 : Ints .u8 w a n ca key) (r1 : ∀ x ∈ key, 0 ≤ x ∧ x < 256) (hn : n ≤ 4294967168) (h2 : Ints .u8 w c l cc ts) (r2 : ∀ x ∈ ts, 0 ≤ x ∧ x < 256) (hl : l ≤ maxLen) (hP : Parts w b m cb ps) (hr : ∀ p ∈ ps, ∀ x ∈ p, 0 ≤ x ∧ x < 256) (ht : ps.flatten.length ≤ 4294960000) (hm : m ≤ 4294967296) :
    Calls Tryd.prog 12 #[.slice a n ca, .slice c l cc, .slice b m cb] w fun e w' => e = .returned (.bool (decide (ts = tagOf key ps.flatten))) ∧ Below w.heap.size w w' := by
  go_enter Tryd.func12, Tryd.ntmps12
  go_wp2_with fail
  refine (of_any a n ca key b m cb ps w hG h1 r1 hn hP hr ht hm).mono ?_
  rintro e w1 ⟨rfl, hb1⟩
  obtain ⟨T, hT⟩ : ∃ T, T = tagOf key ps.flatten := ⟨_, rfl⟩
  have hTl : T.length = 32 := by rw [hT, tagOf_length]
  have hTr : ∀ x ∈ T, 0 ≤ x ∧ x < 256 := by rw [hT]; exact shaSum_range _
  rw [← hT]
  obtain ⟨X, hX⟩ : ∃ X, X = T.map (Value.int .u8) := ⟨_, rfl⟩
  have hXl : X.length = 32 := by rw [hX, List.length_map, hTl]
  rw [← hX]
  have HX := Lib.hid hX; have HXL := Lib.hid hXl; have HTL := Lib.hid hTl; have HT := Lib.hid hT
  have HI : IsRow Tryd.prog 27 X.length := by rw [hXl]; exact rowId
  have HO1 := Lib.hid (show ∀ v ∈ X, v.oneCell' = true by rw [hX]; exact ints_oneCell' _ _)
  have HOF := Lib.hid (show 0 + X.length ≤ (zb 32).length by rw [hXl]; decide)
  clear hX hXl hTl hT
  go_wp2_with ((with_reducible refine wpList_alloc_blk rfl 27 rfl zeroId ?_)
               refine wpList_store_part (g := w1.heap.size) (off := 0) (t := 27) (cur := zb 32) (cs := X) rfl 27 (.tmp 7) (.tmp 10) rfl ?_ ?_ (Blk.new w1 _ (zb 32)) HI ?_ HO1.out ?_
               rfl
               rfl
               exact HOF.out
               intro w2 hX' hg2)
  have B2 := hX'.cast (overV_all _ _ (by rw [HXL.out]; rfl))
  have hb2 : Below w1.heap.size w1 w2 := (below1 w1 _).trans (below_of_grown hg2 (Nat.le_refl _) (by rw [size1]; omega))
  have hw2 : Below w.heap.size w w2 := hb1.trans (hb2.mono hb1.size)
  have I2 : Ints .u8 w2 (some ⟨w1.heap.size, 0, none⟩) 32 32 T := Ints.of_blk B2 HTL.out (Nat.le_refl _) (fun i hi => by rw [HX.out, Nat.zero_add]; exact getElem?_mapInt _ _ _ (by rw [HTL.out]; exact hi))
  have h2' := h2.keep hw2
  clear hX' hg2 hb1 hb2 B2
  go_wp2_with fail
  refine (equal_any c l cc ts _ 32 32 T w2 h2' r2 I2 hTr hl (by unfold maxLen; omega)).mono ?_
  rintro e w3 ⟨rfl, hd⟩
  have hw3 : Below w.heap.size w w3 := hw2.trans ((below_of_draws hd _).mono (Nat.le_refl _))
  clear hd
  go_wp2
  go_ret
  exact ⟨by rw [HT.out]; rfl, hw3⟩

theorem noGuardId3 : Tryd.prog.eqGuardType Tryd.prog.depth 27 = false := by kernel_rfl
theorem eq_id (xs ys : List Int) (h : xs.length = 32) (h' : ys.length = 32) (w : World) : (Op.equalIn 10000 27 (.agg (xs.map (Value.int .u8)).toArray) (.agg (ys.map (Value.int .u8)).toArray)).run Tryd.prog w = .ok (decide (xs = ys)) w := by
  rw [run_equalIn_ints w 9998 27 5 32 .u8 Tryd.underlying27 Tryd.underlying5 sizeU8 xs ys h h']
  congr 1
  by_cases e : xs = ys
  · subst e; simp
  · rw [decide_eq_false e]; simp [e]
theorem ints_nil (k : IntKind) (w : World) (a : Option Addr) (cap : Nat) : Ints k w a 0 cap [] := ⟨rfl, Nat.zero_le _, .inl rfl⟩

set_option maxRecDepth 100000 in
set_option maxHeartbeats 1600000 in
theorem alive3_any (w : World) (hG : Glob w) : Calls Tryd.prog 8 #[] w fun e w' => e = .returned (.bool true) ∧ Below w.heap.size w w' := by
  obtain ⟨T, hT⟩ : ∃ T, T = tagOf [] [] := ⟨_, rfl⟩
  have hTl : T.length = 32 := by rw [hT, tagOf_length]
  have hTr : ∀ x ∈ T, 0 ≤ x ∧ x < 256 := by rw [hT]; exact shaSum_range _
  have same : ∀ w, (Op.equalIn 10000 27 (.agg (T.map (Value.int .u8)).toArray) (.agg (T.map (Value.int .u8)).toArray)).run Tryd.prog w = .ok true w := fun w => by rw [eq_id T T hTl hTl w, decide_eq_true rfl]
  have hng := noGuardId3
  have hne : T ≠ [] := by intro e; rw [e] at hTl; cases hTl
  obtain ⟨X, hX⟩ : ∃ X, X = T.map (Value.int .u8) := ⟨_, rfl⟩
  have hXl : X.length = 32 := by rw [hX, List.length_map, hTl]
  rw [← hX] at same
  have HX := Lib.hid hX; have HXL := Lib.hid hXl; have HTL := Lib.hid hTl; have HT := Lib.hid hT
  have HI : IsRow Tryd.prog 27 X.length := by rw [hXl]; exact rowId
  have HO1 := Lib.hid (show ∀ v ∈ X, v.oneCell' = true by rw [hX]; exact ints_oneCell' _ _)
  have HOF := Lib.hid (show 0 + X.length ≤ (zb 32).length by rw [hXl]; decide)
  have CO := Lib.hid (fun w' (q : Glob w') => (show Calls Tryd.prog 9 #[.slice none 0 0, .slice none 0 0] w' fun e w'' => e = .returned (.agg X.toArray) ∧ Below w'.heap.size w' w'' by
    rw [hX, hT]; exact of_any none 0 0 [] none 0 0 [] w' q (ints_nil _ _ _ _) (by simp) (by decide) (parts_nil _ _) (by simp) (by decide) (by decide)))
  have CR := Lib.hid (fun w' => (show Calls Tryd.prog 10 #[.slice none 0 0, .slice none 0 0] w' fun e w'' => e = .returned (.agg X.toArray) ∧ Below w'.heap.size w' w'' by
    rw [hX, hT]; exact refOf_any none 0 0 [] none 0 0 [] w' (ints_nil _ _ _ _) (by simp) (ints_nil _ _ _ _) (by simp) (by decide) (by decide)))
  have CN := Lib.hid (fun w' (q : Glob w') => (show Calls Tryd.prog 12 #[.slice none 0 0, .slice none 0 0, .slice none 0 0] w' fun e w'' => e = .returned (.bool false) ∧ Below w'.heap.size w' w'' by
    have h := check_any none 0 0 [] none 0 0 [] none 0 0 [] w' q (ints_nil _ _ _ _) (by simp) (by decide) (ints_nil _ _ _ _) (by simp) (by decide) (parts_nil _ _) (by simp) (by decide) (by decide)
    rw [show ([] : List (List Int)).flatten = [] from rfl, ← hT, decide_eq_false (fun e => hne e.symm)] at h
    exact h))
  have CC := Lib.hid (fun w' g (q : Glob w') (i : Ints .u8 w' (some ⟨g, 0, none⟩) 32 32 T) => (show Calls Tryd.prog 12 #[.slice none 0 0, .slice (some ⟨g, 0, none⟩) 32 32, .slice none 0 0] w' fun e w'' => e = .returned (.bool true) ∧ Below w'.heap.size w' w'' by
    have h := check_any none 0 0 [] (some ⟨g, 0, none⟩) 32 32 T none 0 0 [] w' q (ints_nil _ _ _ _) (by simp) (by decide) i hTr (by unfold maxLen; omega) (parts_nil _ _) (by simp) (by decide) (by decide)
    rw [show ([] : List (List Int)).flatten = [] from rfl, ← hT, decide_eq_true rfl] at h
    exact h))
  have CE := Lib.hid (fun w' A c => (show Calls Tryd.prog 14 #[.slice none 0 0, .slice A 0 c] w' fun e w'' => e = .returned (.bool true) ∧ Below w'.heap.size w' w'' by
    refine (equal_any none 0 0 [] A 0 c [] w' (ints_nil _ _ _ _) (by simp) (ints_nil _ _ _ _) (by simp) (by decide) (by decide)).mono ?_
    rintro e w'' ⟨rfl, hd⟩
    exact ⟨rfl, below_of_draws hd _⟩))
  clear hX hXl hTl hT hne
  go_enter Tryd.func8, Tryd.ntmps8
  go_wp2_with fail
  refine (CO.out w hG).mono ?_
  rintro e w1 ⟨rfl, hb1⟩
  go_wp2_with ((with_reducible refine wpList_alloc_blk rfl 27 rfl zeroId ?_)
               refine wpList_store_part (g := w1.heap.size) (off := 0) (t := 27) (cur := zb 32) (cs := X) rfl 27 (.tmp 1) (.tmp 2) rfl ?_ ?_ (Blk.new w1 _ (zb 32)) HI ?_ HO1.out ?_
               rfl
               rfl
               exact HOF.out
               intro w2 hX' hg2)
  have B2 := hX'.cast (overV_all _ _ (by rw [HXL.out]; rfl))
  have hb2 : Below w1.heap.size w1 w2 := (below1 w1 _).trans (below_of_grown hg2 (Nat.le_refl _) (by rw [size1]; omega))
  have hw2 : Below w.heap.size w w2 := hb1.trans (hb2.mono hb1.size)
  have hg1 := B2.lt
  obtain ⟨g, hg⟩ : ∃ g, g = w1.heap.size := ⟨_, rfl⟩
  rw [← hg] at B2 hg1
  rw [← hg]
  clear hg hX' hg2 hb1 hb2
  have GG := Lib.hid (fun w' (q : Below w2.heap.size w2 w') => (hG.keep (hw2.trans (q.mono hw2.size)) (Nat.le_refl _) : Glob w'))
  have BB := Lib.hid (fun w' (q : Below w2.heap.size w2 w') => (B2.keep q B2.lt : Blk w' g 27 X))
  have II := Lib.hid (fun w' (q : Below w2.heap.size w2 w') => (Ints.of_blk (BB.out w' q) HTL.out (Nat.le_refl _) (fun i hi => by rw [HX.out, Nat.zero_add]; exact getElem?_mapInt _ _ _ (by rw [HTL.out]; exact hi)) : Ints .u8 w' (some ⟨g, 0, none⟩) 32 32 T))
  have hS : Below w2.heap.size w2 w2.drew := Below.drew (Below.refl _ _)
  clear B2
  go_wp2_with fail
  refine region_seqS (fun w' => Below w2.heap.size w2 w') (by kernel_rfl) hS ?_
  simp only [pairs, Nat.reduceAdd]
  (refine SeqS.take (v := .agg X.toArray) (by assumption) (by kernel_rfl) (by decide +kernel) (by decide +kernel) (yields_blk (by rfl) 27 (.tmp 1) rfl rfl (fun w' h => BB.out w' h) HI) ?_; simp only [Act.put, List.setIfInBounds_toArray, List.set_cons_zero, List.set_cons_succ])
  refine SeqS.alone (by decide +kernel) (by rfl) (fun K hK => ?_)
  go_simp
  go_at_call 10
  refine (CR.out _).mono ?_
  rintro e w3 ⟨rfl, b3⟩
  go_simp
  have S3 : Below w2.heap.size w2 w3 := hS.trans (b3.mono hS.size)
  refine hK _ _ S3 ?_
  clear hK K
  repeat (first
    | (refine SeqS.take (v := ?_) (by first | assumption | trivial) (by kernel_rfl) (by decide +kernel) (by decide +kernel) (Or.inl ⟨by rfl, ?_⟩) ?_
       rotate_left
       focus
         intro w' hb'
         go_simp
         with_reducible rfl
       simp only [Act.put, List.setIfInBounds_toArray, List.set_cons_zero, List.set_cons_succ])
    | (refine SeqS.take (v := undef) (by first | assumption | trivial) (by kernel_rfl) (by decide +kernel) (by decide +kernel) (Or.inr ⟨by rfl, rfl⟩) ?_
       simp only [Act.put, List.setIfInBounds_toArray, List.set_cons_zero, List.set_cons_succ])
    | (refine SeqS.take1 (v := ?_) (by first | assumption | trivial) (by kernel_rfl) (by decide +kernel) (by decide +kernel) (Or.inl ⟨by rfl, ?_⟩) ?_
       rotate_left
       focus
         intro w' hb'
         go_simp
         with_reducible rfl
       simp only [Act.put, List.setIfInBounds_toArray, List.set_cons_zero, List.set_cons_succ])
    | (refine SeqS.take1 (v := undef) (by first | assumption | trivial) (by kernel_rfl) (by decide +kernel) (by decide +kernel) (Or.inr ⟨by rfl, rfl⟩) ?_
       simp only [Act.put, List.setIfInBounds_toArray, List.set_cons_zero, List.set_cons_succ])
    | (refine SeqS.take2 (v := ?_) (by first | assumption | trivial) (by kernel_rfl) (by decide +kernel) (by decide +kernel) (Or.inl ⟨by rfl, ?_⟩) ?_
       rotate_left
       focus
         intro w' hb'
         go_simp
         with_reducible rfl
       simp only [Act.put, List.setIfInBounds_toArray, List.set_cons_zero, List.set_cons_succ])
    | (refine SeqS.take2 (v := undef) (by first | assumption | trivial) (by kernel_rfl) (by decide +kernel) (by decide +kernel) (Or.inr ⟨by rfl, rfl⟩) ?_
       simp only [Act.put, List.setIfInBounds_toArray, List.set_cons_zero, List.set_cons_succ]))
  refine SeqS.alone (by decide +kernel) (by rfl) (fun K hK => ?_)
  go_simp
  go_at_call 12
  refine (CC.out _ g (GG.out _ S3) (II.out _ S3)).mono ?_
  rintro e w4 ⟨rfl, b4⟩
  go_simp
  have S4 : Below w2.heap.size w2 w4 := S3.trans (b4.mono S3.size)
  refine hK _ _ S4 ?_
  clear hK K
  repeat (first
    | (refine SeqS.take (v := ?_) (by first | assumption | trivial) (by kernel_rfl) (by decide +kernel) (by decide +kernel) (Or.inl ⟨by rfl, ?_⟩) ?_
       rotate_left
       focus
         intro w' hb'
         go_simp
         with_reducible rfl
       simp only [Act.put, List.setIfInBounds_toArray, List.set_cons_zero, List.set_cons_succ])
    | (refine SeqS.take (v := undef) (by first | assumption | trivial) (by kernel_rfl) (by decide +kernel) (by decide +kernel) (Or.inr ⟨by rfl, rfl⟩) ?_
       simp only [Act.put, List.setIfInBounds_toArray, List.set_cons_zero, List.set_cons_succ])
    | (refine SeqS.take1 (v := ?_) (by first | assumption | trivial) (by kernel_rfl) (by decide +kernel) (by decide +kernel) (Or.inl ⟨by rfl, ?_⟩) ?_
       rotate_left
       focus
         intro w' hb'
         go_simp
         with_reducible rfl
       simp only [Act.put, List.setIfInBounds_toArray, List.set_cons_zero, List.set_cons_succ])
    | (refine SeqS.take1 (v := undef) (by first | assumption | trivial) (by kernel_rfl) (by decide +kernel) (by decide +kernel) (Or.inr ⟨by rfl, rfl⟩) ?_
       simp only [Act.put, List.setIfInBounds_toArray, List.set_cons_zero, List.set_cons_succ])
    | (refine SeqS.take2 (v := ?_) (by first | assumption | trivial) (by kernel_rfl) (by decide +kernel) (by decide +kernel) (Or.inl ⟨by rfl, ?_⟩) ?_
       rotate_left
       focus
         intro w' hb'
         go_simp
         with_reducible rfl
       simp only [Act.put, List.setIfInBounds_toArray, List.set_cons_zero, List.set_cons_succ])
    | (refine SeqS.take2 (v := undef) (by first | assumption | trivial) (by kernel_rfl) (by decide +kernel) (by decide +kernel) (Or.inr ⟨by rfl, rfl⟩) ?_
       simp only [Act.put, List.setIfInBounds_toArray, List.set_cons_zero, List.set_cons_succ]))
  refine SeqS.alone (by decide +kernel) (by rfl) (fun K hK => ?_)
  go_simp
  go_at_call 12
  refine (CN.out _ (GG.out _ S4)).mono ?_
  rintro e w5 ⟨rfl, b5⟩
  go_simp
  have S5 : Below w2.heap.size w2 w5 := S4.trans (b5.mono S4.size)
  refine hK _ _ S5 ?_
  clear hK K
  repeat (first
    | (refine SeqS.take (v := ?_) (by first | assumption | trivial) (by kernel_rfl) (by decide +kernel) (by decide +kernel) (Or.inl ⟨by rfl, ?_⟩) ?_
       rotate_left
       focus
         intro w' hb'
         go_simp
         with_reducible rfl
       simp only [Act.put, List.setIfInBounds_toArray, List.set_cons_zero, List.set_cons_succ])
    | (refine SeqS.take (v := undef) (by first | assumption | trivial) (by kernel_rfl) (by decide +kernel) (by decide +kernel) (Or.inr ⟨by rfl, rfl⟩) ?_
       simp only [Act.put, List.setIfInBounds_toArray, List.set_cons_zero, List.set_cons_succ])
    | (refine SeqS.take1 (v := ?_) (by first | assumption | trivial) (by kernel_rfl) (by decide +kernel) (by decide +kernel) (Or.inl ⟨by rfl, ?_⟩) ?_
       rotate_left
       focus
         intro w' hb'
         go_simp
         with_reducible rfl
       simp only [Act.put, List.setIfInBounds_toArray, List.set_cons_zero, List.set_cons_succ])
    | (refine SeqS.take1 (v := undef) (by first | assumption | trivial) (by kernel_rfl) (by decide +kernel) (by decide +kernel) (Or.inr ⟨by rfl, rfl⟩) ?_
       simp only [Act.put, List.setIfInBounds_toArray, List.set_cons_zero, List.set_cons_succ])
    | (refine SeqS.take2 (v := ?_) (by first | assumption | trivial) (by kernel_rfl) (by decide +kernel) (by decide +kernel) (Or.inl ⟨by rfl, ?_⟩) ?_
       rotate_left
       focus
         intro w' hb'
         go_simp
         with_reducible rfl
       simp only [Act.put, List.setIfInBounds_toArray, List.set_cons_zero, List.set_cons_succ])
    | (refine SeqS.take2 (v := undef) (by first | assumption | trivial) (by kernel_rfl) (by decide +kernel) (by decide +kernel) (Or.inr ⟨by rfl, rfl⟩) ?_
       simp only [Act.put, List.setIfInBounds_toArray, List.set_cons_zero, List.set_cons_succ]))
  refine SeqS.alone (by decide +kernel) (by rfl) (fun K hK => ?_)
  go_simp
  have S6 : Below w2.heap.size w2 (w5.alloc (.cells #[] 5)) := S5.alloc S5.size _
  refine hK _ _ S6 ?_
  clear hK K
  repeat (first
    | (refine SeqS.take (v := ?_) (by first | assumption | trivial) (by kernel_rfl) (by decide +kernel) (by decide +kernel) (Or.inl ⟨by rfl, ?_⟩) ?_
       rotate_left
       focus
         intro w' hb'
         go_simp
         with_reducible rfl
       simp only [Act.put, List.setIfInBounds_toArray, List.set_cons_zero, List.set_cons_succ])
    | (refine SeqS.take (v := undef) (by first | assumption | trivial) (by kernel_rfl) (by decide +kernel) (by decide +kernel) (Or.inr ⟨by rfl, rfl⟩) ?_
       simp only [Act.put, List.setIfInBounds_toArray, List.set_cons_zero, List.set_cons_succ])
    | (refine SeqS.take1 (v := ?_) (by first | assumption | trivial) (by kernel_rfl) (by decide +kernel) (by decide +kernel) (Or.inl ⟨by rfl, ?_⟩) ?_
       rotate_left
       focus
         intro w' hb'
         go_simp
         with_reducible rfl
       simp only [Act.put, List.setIfInBounds_toArray, List.set_cons_zero, List.set_cons_succ])
    | (refine SeqS.take1 (v := undef) (by first | assumption | trivial) (by kernel_rfl) (by decide +kernel) (by decide +kernel) (Or.inr ⟨by rfl, rfl⟩) ?_
       simp only [Act.put, List.setIfInBounds_toArray, List.set_cons_zero, List.set_cons_succ])
    | (refine SeqS.take2 (v := ?_) (by first | assumption | trivial) (by kernel_rfl) (by decide +kernel) (by decide +kernel) (Or.inl ⟨by rfl, ?_⟩) ?_
       rotate_left
       focus
         intro w' hb'
         go_simp
         with_reducible rfl
       simp only [Act.put, List.setIfInBounds_toArray, List.set_cons_zero, List.set_cons_succ])
    | (refine SeqS.take2 (v := undef) (by first | assumption | trivial) (by kernel_rfl) (by decide +kernel) (by decide +kernel) (Or.inr ⟨by rfl, rfl⟩) ?_
       simp only [Act.put, List.setIfInBounds_toArray, List.set_cons_zero, List.set_cons_succ]))
  refine SeqS.alone (by decide +kernel) (by rfl) (fun K hK => ?_)
  go_simp
  go_at_call 14
  refine (CE.out _ _ _).mono ?_
  rintro e w7 ⟨rfl, b7⟩
  go_simp
  have S7 : Below w2.heap.size w2 w7 := S6.trans (b7.mono S6.size)
  refine hK _ _ S7 ?_
  clear hK K
  repeat (first
    | (refine SeqS.take (v := ?_) (by first | assumption | trivial) (by kernel_rfl) (by decide +kernel) (by decide +kernel) (Or.inl ⟨by rfl, ?_⟩) ?_
       rotate_left
       focus
         intro w' hb'
         go_simp
         with_reducible rfl
       simp only [Act.put, List.setIfInBounds_toArray, List.set_cons_zero, List.set_cons_succ])
    | (refine SeqS.take (v := undef) (by first | assumption | trivial) (by kernel_rfl) (by decide +kernel) (by decide +kernel) (Or.inr ⟨by rfl, rfl⟩) ?_
       simp only [Act.put, List.setIfInBounds_toArray, List.set_cons_zero, List.set_cons_succ])
    | (refine SeqS.take1 (v := ?_) (by first | assumption | trivial) (by kernel_rfl) (by decide +kernel) (by decide +kernel) (Or.inl ⟨by rfl, ?_⟩) ?_
       rotate_left
       focus
         intro w' hb'
         go_simp
         with_reducible rfl
       simp only [Act.put, List.setIfInBounds_toArray, List.set_cons_zero, List.set_cons_succ])
    | (refine SeqS.take1 (v := undef) (by first | assumption | trivial) (by kernel_rfl) (by decide +kernel) (by decide +kernel) (Or.inr ⟨by rfl, rfl⟩) ?_
       simp only [Act.put, List.setIfInBounds_toArray, List.set_cons_zero, List.set_cons_succ])
    | (refine SeqS.take2 (v := ?_) (by first | assumption | trivial) (by kernel_rfl) (by decide +kernel) (by decide +kernel) (Or.inl ⟨by rfl, ?_⟩) ?_
       rotate_left
       focus
         intro w' hb'
         go_simp
         with_reducible rfl
       simp only [Act.put, List.setIfInBounds_toArray, List.set_cons_zero, List.set_cons_succ])
    | (refine SeqS.take2 (v := undef) (by first | assumption | trivial) (by kernel_rfl) (by decide +kernel) (by decide +kernel) (Or.inr ⟨by rfl, rfl⟩) ?_
       simp only [Act.put, List.setIfInBounds_toArray, List.set_cons_zero, List.set_cons_succ]))
  refine SeqS.done (by decide +kernel) ?_
  go_wp2_with fail
  go_ret
  exact ⟨rfl, hw2.trans (S7.mono hw2.size)⟩
end Go.Proofs.YtglgkobfpjkilaaDoor
