/-
  The law MacTurned comes to true, whatever key, bytes and turn; only new memory is written. Conditions: each byte is a number from 0 to 255; the package's variables hold the constants and the starts.
-/
import Derived.Test.YtglgkobfpjkilaaDoorMacEqual
namespace Go.Proofs.YtglgkobfpjkilaaDoor
open Go.RowKit

theorem set_ne (xs : List Int) (j : Nat) (v : Int) (hj : j < xs.length) (h : v ≠ xs.getD j 0) : xs.set j v ≠ xs := by
  intro e
  have h1 : (xs.set j v)[j]? = xs[j]? := by rw [e]
  rw [List.getElem?_set_self (by omega)] at h1
  apply h
  rw [List.getD_eq_getElem?_getD, ← h1]; rfl
theorem set_range (xs : List Int) (j : Nat) (v : Int) (h : ∀ x ∈ xs, 0 ≤ x ∧ x < 256) (hv : 0 ≤ v ∧ v < 256) : ∀ x ∈ xs.set j v, 0 ≤ x ∧ x < 256 := by
  intro x hx
  rcases List.mem_or_eq_of_mem_set hx with hx | rfl
  · exact h x hx
  · exact hv
theorem set_map (k : IntKind) (xs : List Int) (j : Nat) (v : Int) : (xs.map (Value.int k)).set j (.int k v) = (xs.set j v).map (Value.int k) := by
  rw [List.map_set]

theorem own_parts {w : World} {B : Nat} {e : TypeId} {v : Value} {n : Nat} {k : IntKind} {xs : List Int} (h : w.ownsRow B e 1 v n (xs.map (Value.int k))) (hn : 0 < n) :
    ∃ g cap, v = .slice (some ⟨g, 0, none⟩) n cap ∧ B ≤ g ∧ g < w.heap.size ∧ ∀ j, j < n → w.cell? ⟨g, j, none⟩ = some (.int k (xs.getD j 0)) ∧ w.frozen? ⟨g, j, none⟩ = false := by
  have hlt := h.lt
  have hl : xs.length = n := by have := h.1; simpa using this
  rcases h.2 with ⟨_, h0⟩ | ⟨g, cap, cur, rfl, hB, hg, hnc, hcm, hcs, htake⟩
  · omega
  · refine ⟨g, cap, rfl, hB, (hlt g rfl).2, fun j hj => ?_⟩
    have hj1 : cur[j]? = some (.int k (xs.getD j 0)) := by
      have h1 : (cur.toList.take (n * 1))[j]? = (xs.map (Value.int k))[j]? := by rw [htake]
      rw [List.getElem?_take_of_lt (by omega), getElem?_mapInt _ _ _ (by omega)] at h1
      simpa using h1
    refine ⟨?_, by simp [World.frozen?, hg]⟩
    rw [cell_of_row w g j cur e (0, 0) hg]
    exact hj1
theorem own_ints {w : World} {B : Nat} {e : TypeId} {g n cap : Nat} {k : IntKind} {xs : List Int} (h : w.ownsRow B e 1 (.slice (some ⟨g, 0, none⟩) n cap) n (xs.map (Value.int k))) : Ints k w (some ⟨g, 0, none⟩) n cap xs := by
  obtain ⟨a, c, e1, hI⟩ := Ints.of_owns h
  cases e1
  exact hI

set_option maxRecDepth 100000 in
set_option maxHeartbeats 1600000 in
theorem macTurned_any (a : Option Addr) (n ca : Nat) (key : List Int) (b : Option Addr) (m cb : Nat) (bs : List Int) (t : Int) (w : World) (hG : Glob w)
    (h1 : Ints .u8 w a n ca key) (r1 : ∀ x ∈ key, 0 ≤ x ∧ x < 256) (h2 : Ints .u8 w b m cb bs) (r2 : ∀ x ∈ bs, 0 ≤ x ∧ x < 256) (t0 : 0 ≤ t) (t1 : t < 65536)
    (hn : n ≤ 100) (hm : m ≤ 100) (hby : t / 256 ≠ 0) :
    Calls Tryd.prog 4 #[.slice a n ca, .slice b m cb, .int .u16 t] w fun e w' => e = .returned (.bool true) ∧ Below w.heap.size w w' := by
  obtain ⟨i0, hi, hz0, hz1, hz2⟩ := info_parts infoU8
  have hnI : decide ((100 : Int) < (n : Int)) = false := by simp; omega
  have hmI : decide ((100 : Int) < (m : Int)) = false := by simp; omega
  have hL2 := Lib.hid h2.len
  obtain ⟨q, hq⟩ : ∃ q, q = t / 256 := ⟨_, rfl⟩
  obtain ⟨j0, hj0⟩ : ∃ j0 : Nat, (j0 : Int) = t % 256 := ⟨(t % 256).toNat, by omega⟩
  have q0 : 0 < q := by omega
  have q1 : q < 256 := by omega
  have htm : t.tmod 256 = (j0 : Int) := by rw [Int.tmod_eq_emod_of_nonneg t0]; exact hj0.symm
  have hem : t % 256 = (j0 : Int) := hj0.symm
  have hdv : t / 256 = q := hq.symm
  have hqb : (q == 0) = false := by simp; omega
  clear hq hj0 hby
  go_enter Tryd.func4, Tryd.ntmps4
  go_wp2_with fail
  have b0 := below1 w (.cells #[.slice b m cb] 22)
  refine (of_any a n ca key (some ⟨w.heap.size, 0, none⟩) 1 1 [bs] _ (hG.keep b0 (Nat.le_refl _)) (h1.keep b0) r1 (by omega) (one_part w b m cb bs h2 _) (by simpa using r2) (by simp; rw [hL2.out]; omega) (by decide)).mono ?_
  rintro e w1 ⟨rfl, hb1⟩
  have hw1 : Below w.heap.size w w1 := b0.trans (hb1.mono b0.size)
  rw [show ([bs] : List (List Int)).flatten = bs by simp]
  obtain ⟨T, hT⟩ : ∃ T, T = tagOf key bs := ⟨_, rfl⟩
  have hTl : T.length = 32 := by rw [hT, tagOf_length]
  have hTr : ∀ x ∈ T, 0 ≤ x ∧ x < 256 := by rw [hT]; exact shaSum_range _
  rw [← hT]
  obtain ⟨X, hX⟩ : ∃ X, X = T.map (Value.int .u8) := ⟨_, rfl⟩
  have hXl : X.length = 32 := by rw [hX, List.length_map, hTl]
  rw [← hX]
  have HX := Lib.hid hX; have HXL := Lib.hid hXl; have HTL := Lib.hid hTl; have HT := Lib.hid hT; have HTR := Lib.hid hTr
  have HI : IsRow Tryd.prog 27 X.length := by rw [hXl]; exact rowId
  have HO1 := Lib.hid (show ∀ v ∈ X, v.oneCell' = true by rw [hX]; exact ints_oneCell' _ _)
  have HOF := Lib.hid (show 0 + X.length ≤ (zb 32).length by rw [hXl]; decide)
  clear hX hXl hTl hT hTr hb1 b0
  go_wp2_with ((with_reducible refine wpList_alloc_blk rfl 27 rfl zeroId ?_)
               refine wpList_store_part (g := w1.heap.size) (off := 0) (t := 27) (cur := zb 32) (cs := X) rfl 27 (.tmp 9) (.tmp 34) rfl ?_ ?_ (Blk.new w1 _ (zb 32)) HI ?_ HO1.out ?_
               rfl
               rfl
               exact HOF.out
               intro w2 hX' hg2
               refine RowKit.Hid.out ?_)
  refine Lib.hid ?_
  have B2 := hX'.cast (overV_all _ _ (by rw [HXL.out]; rfl))
  have hb2 : Below w1.heap.size w1 w2 := (below1 w1 _).trans (below_of_grown hg2 (Nat.le_refl _) (by rw [size1]; omega))
  have hw2 : Below w.heap.size w w2 := hw1.trans (hb2.mono hw1.size)
  obtain ⟨g, hg⟩ : ∃ g, g = w1.heap.size := ⟨_, rfl⟩
  rw [← hg] at B2
  rw [← hg]
  clear hg hX' hg2 hb2 hw1 HO1 HOF
  have GG := Lib.hid (fun w' (q : Below w2.heap.size w2 w') => (hG.keep (hw2.trans (q.mono hw2.size)) (Nat.le_refl _) : Glob w'))
  have BB := Lib.hid (fun w' (q : Below w2.heap.size w2 w') => (B2.keep q B2.lt : Blk w' g 27 X))
  have II := Lib.hid (fun w' (q : Below w2.heap.size w2 w') => (Ints.of_blk (BB.out w' q) HTL.out (Nat.le_refl _) (fun i hi => by rw [HX.out, Nat.zero_add]; exact getElem?_mapInt _ _ _ (by rw [HTL.out]; exact hi)) : Ints .u8 w' (some ⟨g, 0, none⟩) 32 32 T))
  have K1 := Lib.hid (fun w' (q : Below w2.heap.size w2 w') => (h1.keep (hw2.trans (q.mono hw2.size)) : Ints .u8 w' a n ca key))
  have K2 := Lib.hid (fun w' (q : Below w2.heap.size w2 w') => (h2.keep (hw2.trans (q.mono hw2.size)) : Ints .u8 w' b m cb bs))
  have R1 := Lib.hid r1
  have R2 := Lib.hid r2
  clear B2 hG h1 h2 r1 r2
  have q3 : Below w2.heap.size w2 (w2.alloc (.cells #[] 5)) := below1 _ _
  have I3 := Lib.hid (II.out _ q3)
  go_wp2_with (at_builtin
               refine wpList_append_ints rfl (.tmp 35) (.tmp 36) 22 rfl w2.heap.size 5 i0 (.int .u8 0) 1 Tryd.underlying22 hi hz0 hz1 hz2 rfl rfl (World.ownsRow_made w2 #[] 0 (Nat.le_refl _) (Nat.zero_le _) rfl) rfl I3.out ?_ ?_ q3.size ?_
               (unfold maxLen; omega)
               omega
               intro v4 w4 hown4 hg4
               refine RowKit.Hid.out ?_)
  refine Lib.hid ?_
  have q4 : Below w2.heap.size w2 w4 := q3.grown hg4 q3.size (fun k hk => by injection hk with hk; rw [← hk]; exact Nat.le_refl _)
  rw [List.nil_append] at hown4
  obtain ⟨gy, cy, rfl, ly, ly2, cellY⟩ := own_parts hown4 (by decide)
  clear hg4 I3 q3
  obtain ⟨j, hj⟩ : ∃ j, j = j0 % 32 := ⟨_, rfl⟩
  have hjl : j < 32 := by omega
  have hjm : (j0 : Int) % 32 = (j : Int) := by omega
  have hjt : (j0 : Int).tmod 32 = (j : Int) := by rw [Int.tmod_eq_emod_of_nonneg (by omega)]; exact hjm
  obtain ⟨cj, fj⟩ := cellY j (by omega)
  obtain ⟨x, hx⟩ : ∃ x, x = T.getD j 0 := ⟨_, rfl⟩
  rw [← hx] at cj
  have hxr : 0 ≤ x ∧ x < 256 := by rw [hx]; exact getD_range (p := fun x => 0 ≤ x ∧ x < 256) HTR.out j (by rw [HTL.out]; exact hjl)
  obtain ⟨Y, hY⟩ : ∃ Y, Y = T.set j (bits .xor .u8 x q) := ⟨_, rfl⟩
  have HYN := Lib.hid (show ¬ Y = T by rw [hY]; exact set_ne T j _ (by rw [HTL.out]; exact hjl) (by rw [← hx]; exact xor8_ne hxr (by omega) (by omega)))
  have HYR := Lib.hid (show ∀ x ∈ Y, 0 ≤ x ∧ x < 256 by rw [hY]; exact set_range T j _ HTR.out (xor8_range _ _))
  have hown5 := (hown4.stored j (.int .u8 (bits .xor .u8 x q))).1
  rw [set_map, ← hY] at hown5
  have q5 : Below w2.heap.size w2 (w4.setCell ⟨gy, j, none⟩ (.int .u8 (bits .xor .u8 x q))) := q4.setCell ly _
  obtain ⟨w5, hw5⟩ : ∃ w5, w5 = w4.setCell ⟨gy, j, none⟩ (.int .u8 (bits .xor .u8 x q)) := ⟨_, rfl⟩
  rw [← hw5] at hown5 q5
  have HW5 := Lib.hid hw5
  have IY5 := Lib.hid (own_ints hown5)
  have HS5 := Lib.hid (show w5.heap.size = w4.heap.size by rw [hw5]; simp [World.setCell])
  have hj0 : (0 : Int) ≤ (j : Int) := by omega
  have hj1 : (j : Int) < 32 := by omega
  clear hown4 cellY hx hxr hY hw5 hown5 hj
  go_wp2_with fail
  rw [← HW5.out]
  have q6 : Below w2.heap.size w2 (w5.alloc (.cells #[.slice b m cb] 22)) := q5.alloc q5.size _
  have P6 := one_part w5 b m cb bs (K2.out _ q5) 22
  rw [HS5.out] at P6
  refine (check_any a n ca key (some ⟨gy, 0, none⟩) 32 cy Y (some ⟨w4.heap.size, 0, none⟩) 1 1 [bs] _ (GG.out _ q6) (K1.out _ q6) R1.out (by omega) (IY5.out.keep (below1 _ _)) HYR.out (by unfold maxLen; omega) P6 (by simpa using R2.out) (by simp; rw [hL2.out]; omega) (by decide)).mono ?_
  rintro e w6 ⟨rfl, b6⟩
  rw [show ([bs] : List (List Int)).flatten = bs by simp, ← HT.out, decide_eq_false HYN.out]
  have q6' : Below w2.heap.size w2 w6 := q6.trans (b6.mono q6.size)
  clear P6 q6 b6 IY5 q5 q4 cj fj
  go_wp2_with fail
  have q7 : Below w2.heap.size w2 (w6.alloc (.cells #[.slice b m cb] 22)) := q6'.alloc q6'.size _
  have P7 := one_part w6 b m cb bs (K2.out _ q6') 22
  refine (check_any a n ca key (some ⟨g, 0, none⟩) 32 32 T (some ⟨w6.heap.size, 0, none⟩) 1 1 [bs] _ (GG.out _ q7) (K1.out _ q7) R1.out (by omega) (II.out _ q7) HTR.out (by unfold maxLen; omega) P7 (by simpa using R2.out) (by simp; rw [hL2.out]; omega) (by decide)).mono ?_
  rintro e w7 ⟨rfl, b7⟩
  rw [show ([bs] : List (List Int)).flatten = bs by simp, ← HT.out, decide_eq_true rfl]
  have q7' : Below w2.heap.size w2 w7 := q7.trans (b7.mono q7.size)
  clear P7 q7 b7 q6'
  by_cases hm0 : m = 0
  · have e0 : ((m : Int) == 0) = true := by simp; omega
    clear hm0
    go_wp2_with fail
    refine (alive3_any w7 (GG.out _ q7')).mono ?_
    rintro e w8 ⟨rfl, b8⟩
    go_wp2
    go_ret
    exact ⟨rfl, hw2.trans ((q7'.trans (b8.mono q7'.size)).mono hw2.size)⟩
  have e0 : ((m : Int) == 0) = false := by simp; omega
  have I8 := Lib.hid (K2.out _ (q7'.alloc q7'.size (.cells #[] 5)))
  have q8 := q7'.alloc q7'.size (.cells #[] 5)
  go_wp2_with (at_builtin
               refine wpList_append_ints rfl (.tmp 63) (.tmp 64) 22 rfl w7.heap.size 5 i0 (.int .u8 0) 1 Tryd.underlying22 hi hz0 hz1 hz2 rfl rfl (World.ownsRow_made w7 #[] 0 (Nat.le_refl _) (Nat.zero_le _) rfl) rfl I8.out ?_ ?_ (below1 w7 _).size ?_
               (unfold maxLen; omega)
               omega
               intro v8 w8 hown8 hg8
               refine RowKit.Hid.out ?_)
  refine Lib.hid ?_
  have q8' : Below w7.heap.size w7 w8 := (below1 w7 _).grown hg8 (below1 w7 _).size (fun k hk => by injection hk with hk; rw [← hk]; exact Nat.le_refl _)
  rw [List.nil_append, Nat.zero_add] at hown8
  obtain ⟨gc, cc, rfl, lc, lc2, cellC⟩ := own_parts hown8 (by omega)
  clear hg8 I8 q8
  obtain ⟨j2, hj2⟩ : ∃ j2, j2 = j0 % m := ⟨_, rfl⟩
  have hj2l : j2 < m := by rw [hj2]; exact Nat.mod_lt _ (by omega)
  have hj2m : (j0 : Int) % (m : Int) = (j2 : Int) := by rw [hj2]; exact (Int.natCast_emod j0 m).symm
  have hj2t : (j0 : Int).tmod (m : Int) = (j2 : Int) := by rw [Int.tmod_eq_emod_of_nonneg (by omega)]; exact hj2m
  obtain ⟨ck, fk⟩ := cellC j2 hj2l
  obtain ⟨z, hz⟩ : ∃ z, z = bs.getD j2 0 := ⟨_, rfl⟩
  rw [← hz] at ck
  obtain ⟨C, hC⟩ : ∃ C, C = bs.set j2 (bits .xor .u8 z q) := ⟨_, rfl⟩
  have HCR := Lib.hid (show ∀ x ∈ C, 0 ≤ x ∧ x < 256 by rw [hC]; exact set_range bs j2 _ R2.out (xor8_range _ _))
  have HCL := Lib.hid (show C.length = m by rw [hC, List.length_set]; exact hL2.out)
  have hown9 := (hown8.stored j2 (.int .u8 (bits .xor .u8 z q))).1
  rw [set_map, ← hC] at hown9
  have q9 : Below w7.heap.size w7 (w8.setCell ⟨gc, j2, none⟩ (.int .u8 (bits .xor .u8 z q))) := q8'.setCell lc _
  obtain ⟨w9, hw9⟩ : ∃ w9, w9 = w8.setCell ⟨gc, j2, none⟩ (.int .u8 (bits .xor .u8 z q)) := ⟨_, rfl⟩
  rw [← hw9] at hown9 q9
  have HW9 := Lib.hid hw9

  have IC9 := Lib.hid (own_ints hown9)
  have Q9 : Below w2.heap.size w2 w9 := q7'.trans (q9.mono q7'.size)
  have j20 : (0 : Int) ≤ (j2 : Int) := by omega
  have j21 : (j2 : Int) < (m : Int) := by omega
  have m1 : ¬ (m : Int) = 0 := by omega
  have hngt := noGuardId3
  obtain ⟨E, hE⟩ : ∃ E, E = ((tagOf key C).map (Value.int .u8)).toArray := ⟨_, rfl⟩
  obtain ⟨D, hD⟩ : ∃ D, D = decide (T = tagOf key C) := ⟨_, rfl⟩
  have EQ : ∀ w, (Op.equalIn 10000 27 (.agg E) (.agg X.toArray)).run Tryd.prog w = .ok D w := fun w => by
    rw [hE, HX.out, hD, eq_id _ _ (tagOf_length _ _) HTL.out w]
    congr 1
    exact decide_eq_decide.2 eq_comm
  have DD : (D == D) = true := by simp
  have CR := Lib.hid (fun w' (q : Below w9.heap.size w9 w') => (show Calls Tryd.prog 10 #[.slice a n ca, .slice (some ⟨gc, 0, none⟩) m cc] w' fun e w'' => e = .returned (.agg E) ∧ Below w'.heap.size w' w'' by
    rw [hE]; exact refOf_any a n ca key (some ⟨gc, 0, none⟩) m cc C w' (K1.out _ (Q9.trans (q.mono Q9.size))) R1.out (IC9.out.keep q) HCR.out (by omega) (by omega)))
  have CC := Lib.hid (fun w' pa (q : Below w9.heap.size w9 w') (p : Parts w' pa 1 1 [C]) => (show Calls Tryd.prog 12 #[.slice a n ca, .slice (some ⟨g, 0, none⟩) 32 32, .slice pa 1 1] w' fun e w'' => e = .returned (.bool D) ∧ Below w'.heap.size w' w'' by
    have h := check_any a n ca key (some ⟨g, 0, none⟩) 32 32 T pa 1 1 [C] w' (GG.out _ (Q9.trans (q.mono Q9.size))) (K1.out _ (Q9.trans (q.mono Q9.size))) R1.out (by omega) (II.out _ (Q9.trans (q.mono Q9.size))) HTR.out (by unfold maxLen; omega) p (by simpa using HCR.out) (by simp; rw [HCL.out]; omega) (by decide)
    rw [show ([C] : List (List Int)).flatten = C by simp, ← hD] at h
    exact h))
  have CA := Lib.hid (fun w' (q : Below w9.heap.size w9 w') => alive3_any w' (GG.out _ (Q9.trans (q.mono Q9.size))))
  have CB := Lib.hid (fun w' (q : Below w9.heap.size w9 w') => BB.out w' (Q9.trans (q.mono Q9.size)))
  have hS : Below w9.heap.size w9 w9.drew := Below.drew (Below.refl _ _)
  clear hown8 cellC hz hC hw9 hown9 hj2 hE hD q8' q9 lc2
  go_wp2_with fail
  rw [← HW9.out]
  refine region_seqS (fun w' => Below w9.heap.size w9 w') (by kernel_rfl) hS ?_
  simp only [pairs, Nat.reduceAdd]
  repeat (first
    | (refine SeqS.take (v := ?_) (by first | assumption | trivial) (by kernel_rfl) (by decide +kernel) (by decide +kernel) (Or.inl ⟨by rfl, ?_⟩) ?_
       rotate_left
       focus
         intro w' hb'
         go_simp
         with_reducible rfl
       simp only [Act.put, List.setIfInBounds_toArray, List.set_cons_zero, List.set_cons_succ])
    | (refine SeqS.take (v := undef) (by first | assumption | trivial) (by kernel_rfl) (by decide +kernel) (by decide +kernel) (Or.inr ⟨by rfl, rfl⟩) ?_
       simp only [Act.put, List.setIfInBounds_toArray, List.set_cons_zero, List.set_cons_succ])
    | (refine SeqS.take1 (v := ?_) (by first | assumption | trivial) (by kernel_rfl) (by decide +kernel) (by decide +kernel) (Or.inl ⟨by rfl, ?_⟩) ?_
       rotate_left
       focus
         intro w' hb'
         go_simp
         with_reducible rfl
       simp only [Act.put, List.setIfInBounds_toArray, List.set_cons_zero, List.set_cons_succ])
    | (refine SeqS.take1 (v := undef) (by first | assumption | trivial) (by kernel_rfl) (by decide +kernel) (by decide +kernel) (Or.inr ⟨by rfl, rfl⟩) ?_
       simp only [Act.put, List.setIfInBounds_toArray, List.set_cons_zero, List.set_cons_succ])
    | (refine SeqS.take2 (v := ?_) (by first | assumption | trivial) (by kernel_rfl) (by decide +kernel) (by decide +kernel) (Or.inl ⟨by rfl, ?_⟩) ?_
       rotate_left
       focus
         intro w' hb'
         go_simp
         with_reducible rfl
       simp only [Act.put, List.setIfInBounds_toArray, List.set_cons_zero, List.set_cons_succ])
    | (refine SeqS.take2 (v := undef) (by first | assumption | trivial) (by kernel_rfl) (by decide +kernel) (by decide +kernel) (Or.inr ⟨by rfl, rfl⟩) ?_
       simp only [Act.put, List.setIfInBounds_toArray, List.set_cons_zero, List.set_cons_succ])
    | (refine SeqS.take3 (v := ?_) (by first | assumption | trivial) (by kernel_rfl) (by decide +kernel) (by decide +kernel) (Or.inl ⟨by rfl, ?_⟩) ?_
       rotate_left
       focus
         intro w' hb'
         go_simp
         with_reducible rfl
       simp only [Act.put, List.setIfInBounds_toArray, List.set_cons_zero, List.set_cons_succ])
    | (refine SeqS.take3 (v := undef) (by first | assumption | trivial) (by kernel_rfl) (by decide +kernel) (by decide +kernel) (Or.inr ⟨by rfl, rfl⟩) ?_
       simp only [Act.put, List.setIfInBounds_toArray, List.set_cons_zero, List.set_cons_succ])
    | (refine SeqS.take (v := .agg X.toArray) (by assumption) (by kernel_rfl) (by decide +kernel) (by decide +kernel) (yields_blk (by rfl) 27 (.tmp 9) rfl rfl (fun w' h => CB.out w' h) HI) ?_; simp only [Act.put, List.setIfInBounds_toArray, List.set_cons_zero, List.set_cons_succ])
    | (refine SeqS.take1 (v := .agg X.toArray) (by assumption) (by kernel_rfl) (by decide +kernel) (by decide +kernel) (yields_blk (by rfl) 27 (.tmp 9) rfl rfl (fun w' h => CB.out w' h) HI) ?_; simp only [Act.put, List.setIfInBounds_toArray, List.set_cons_zero, List.set_cons_succ])
    | (refine SeqS.take2 (v := .agg X.toArray) (by assumption) (by kernel_rfl) (by decide +kernel) (by decide +kernel) (yields_blk (by rfl) 27 (.tmp 9) rfl rfl (fun w' h => CB.out w' h) HI) ?_; simp only [Act.put, List.setIfInBounds_toArray, List.set_cons_zero, List.set_cons_succ])
    | (refine SeqS.take3 (v := .agg X.toArray) (by assumption) (by kernel_rfl) (by decide +kernel) (by decide +kernel) (yields_blk (by rfl) 27 (.tmp 9) rfl rfl (fun w' h => CB.out w' h) HI) ?_; simp only [Act.put, List.setIfInBounds_toArray, List.set_cons_zero, List.set_cons_succ]))
  refine SeqS.alone (by decide +kernel) (by rfl) (fun K hK => ?_)
  go_simp
  have S10 : Below w9.heap.size w9 (w9.alloc (.cells #[.slice (some ⟨gc, 0, none⟩) m cc] 22)).drew := (below1 w9 _).drew
  have P10 := Lib.hid (show Parts (w9.alloc (.cells #[.slice (some ⟨gc, 0, none⟩) m cc] 22)).drew (some ⟨w9.heap.size, 0, none⟩) 1 1 [C] from one_part w9 (some ⟨gc, 0, none⟩) m cc C IC9.out 22)
  refine hK _ _ S10 ?_
  clear hK K
  repeat (first
    | (refine SeqS.take (v := ?_) (by first | assumption | trivial) (by kernel_rfl) (by decide +kernel) (by decide +kernel) (Or.inl ⟨by rfl, ?_⟩) ?_
       rotate_left
       focus
         intro w' hb'
         go_simp
         with_reducible rfl
       simp only [Act.put, List.setIfInBounds_toArray, List.set_cons_zero, List.set_cons_succ])
    | (refine SeqS.take (v := undef) (by first | assumption | trivial) (by kernel_rfl) (by decide +kernel) (by decide +kernel) (Or.inr ⟨by rfl, rfl⟩) ?_
       simp only [Act.put, List.setIfInBounds_toArray, List.set_cons_zero, List.set_cons_succ])
    | (refine SeqS.take1 (v := ?_) (by first | assumption | trivial) (by kernel_rfl) (by decide +kernel) (by decide +kernel) (Or.inl ⟨by rfl, ?_⟩) ?_
       rotate_left
       focus
         intro w' hb'
         go_simp
         with_reducible rfl
       simp only [Act.put, List.setIfInBounds_toArray, List.set_cons_zero, List.set_cons_succ])
    | (refine SeqS.take1 (v := undef) (by first | assumption | trivial) (by kernel_rfl) (by decide +kernel) (by decide +kernel) (Or.inr ⟨by rfl, rfl⟩) ?_
       simp only [Act.put, List.setIfInBounds_toArray, List.set_cons_zero, List.set_cons_succ])
    | (refine SeqS.take2 (v := ?_) (by first | assumption | trivial) (by kernel_rfl) (by decide +kernel) (by decide +kernel) (Or.inl ⟨by rfl, ?_⟩) ?_
       rotate_left
       focus
         intro w' hb'
         go_simp
         with_reducible rfl
       simp only [Act.put, List.setIfInBounds_toArray, List.set_cons_zero, List.set_cons_succ])
    | (refine SeqS.take2 (v := undef) (by first | assumption | trivial) (by kernel_rfl) (by decide +kernel) (by decide +kernel) (Or.inr ⟨by rfl, rfl⟩) ?_
       simp only [Act.put, List.setIfInBounds_toArray, List.set_cons_zero, List.set_cons_succ]))
  refine SeqS.alone (by decide +kernel) (by rfl) (fun K hK => ?_)
  go_simp
  go_at_call 12
  refine (CC.out _ _ S10 P10.out).mono ?_
  rintro e w11 ⟨rfl, b11⟩
  go_simp
  have S11 : Below w9.heap.size w9 w11 := S10.trans (b11.mono S10.size)
  refine hK _ _ S11 ?_
  clear hK K
  repeat (first
    | (refine SeqS.take (v := ?_) (by first | assumption | trivial) (by kernel_rfl) (by decide +kernel) (by decide +kernel) (Or.inl ⟨by rfl, ?_⟩) ?_
       rotate_left
       focus
         intro w' hb'
         go_simp
         with_reducible rfl
       simp only [Act.put, List.setIfInBounds_toArray, List.set_cons_zero, List.set_cons_succ])
    | (refine SeqS.take (v := undef) (by first | assumption | trivial) (by kernel_rfl) (by decide +kernel) (by decide +kernel) (Or.inr ⟨by rfl, rfl⟩) ?_
       simp only [Act.put, List.setIfInBounds_toArray, List.set_cons_zero, List.set_cons_succ])
    | (refine SeqS.take1 (v := ?_) (by first | assumption | trivial) (by kernel_rfl) (by decide +kernel) (by decide +kernel) (Or.inl ⟨by rfl, ?_⟩) ?_
       rotate_left
       focus
         intro w' hb'
         go_simp
         with_reducible rfl
       simp only [Act.put, List.setIfInBounds_toArray, List.set_cons_zero, List.set_cons_succ])
    | (refine SeqS.take1 (v := undef) (by first | assumption | trivial) (by kernel_rfl) (by decide +kernel) (by decide +kernel) (Or.inr ⟨by rfl, rfl⟩) ?_
       simp only [Act.put, List.setIfInBounds_toArray, List.set_cons_zero, List.set_cons_succ])
    | (refine SeqS.take2 (v := ?_) (by first | assumption | trivial) (by kernel_rfl) (by decide +kernel) (by decide +kernel) (Or.inl ⟨by rfl, ?_⟩) ?_
       rotate_left
       focus
         intro w' hb'
         go_simp
         with_reducible rfl
       simp only [Act.put, List.setIfInBounds_toArray, List.set_cons_zero, List.set_cons_succ])
    | (refine SeqS.take2 (v := undef) (by first | assumption | trivial) (by kernel_rfl) (by decide +kernel) (by decide +kernel) (Or.inr ⟨by rfl, rfl⟩) ?_
       simp only [Act.put, List.setIfInBounds_toArray, List.set_cons_zero, List.set_cons_succ])
    | (refine SeqS.take (v := .agg X.toArray) (by assumption) (by kernel_rfl) (by decide +kernel) (by decide +kernel) (yields_blk (by rfl) 27 (.tmp 9) rfl rfl (fun w' h => CB.out w' h) HI) ?_; simp only [Act.put, List.setIfInBounds_toArray, List.set_cons_zero, List.set_cons_succ])
    | (refine SeqS.take1 (v := .agg X.toArray) (by assumption) (by kernel_rfl) (by decide +kernel) (by decide +kernel) (yields_blk (by rfl) 27 (.tmp 9) rfl rfl (fun w' h => CB.out w' h) HI) ?_; simp only [Act.put, List.setIfInBounds_toArray, List.set_cons_zero, List.set_cons_succ])
    | (refine SeqS.take2 (v := .agg X.toArray) (by assumption) (by kernel_rfl) (by decide +kernel) (by decide +kernel) (yields_blk (by rfl) 27 (.tmp 9) rfl rfl (fun w' h => CB.out w' h) HI) ?_; simp only [Act.put, List.setIfInBounds_toArray, List.set_cons_zero, List.set_cons_succ]))
  refine SeqS.alone (by decide +kernel) (by rfl) (fun K hK => ?_)
  go_simp
  go_at_call 10
  refine (CR.out _ S11).mono ?_
  rintro e w12 ⟨rfl, b12⟩
  go_simp
  have S12 : Below w9.heap.size w9 w12 := S11.trans (b12.mono S11.size)
  refine hK _ _ S12 ?_
  clear hK K
  repeat (first
    | (refine SeqS.take (v := ?_) (by first | assumption | trivial) (by kernel_rfl) (by decide +kernel) (by decide +kernel) (Or.inl ⟨by rfl, ?_⟩) ?_
       rotate_left
       focus
         intro w' hb'
         go_simp
         with_reducible rfl
       simp only [Act.put, List.setIfInBounds_toArray, List.set_cons_zero, List.set_cons_succ])
    | (refine SeqS.take (v := undef) (by first | assumption | trivial) (by kernel_rfl) (by decide +kernel) (by decide +kernel) (Or.inr ⟨by rfl, rfl⟩) ?_
       simp only [Act.put, List.setIfInBounds_toArray, List.set_cons_zero, List.set_cons_succ])
    | (refine SeqS.take1 (v := ?_) (by first | assumption | trivial) (by kernel_rfl) (by decide +kernel) (by decide +kernel) (Or.inl ⟨by rfl, ?_⟩) ?_
       rotate_left
       focus
         intro w' hb'
         go_simp
         with_reducible rfl
       simp only [Act.put, List.setIfInBounds_toArray, List.set_cons_zero, List.set_cons_succ])
    | (refine SeqS.take1 (v := undef) (by first | assumption | trivial) (by kernel_rfl) (by decide +kernel) (by decide +kernel) (Or.inr ⟨by rfl, rfl⟩) ?_
       simp only [Act.put, List.setIfInBounds_toArray, List.set_cons_zero, List.set_cons_succ])
    | (refine SeqS.take2 (v := ?_) (by first | assumption | trivial) (by kernel_rfl) (by decide +kernel) (by decide +kernel) (Or.inl ⟨by rfl, ?_⟩) ?_
       rotate_left
       focus
         intro w' hb'
         go_simp
         with_reducible rfl
       simp only [Act.put, List.setIfInBounds_toArray, List.set_cons_zero, List.set_cons_succ])
    | (refine SeqS.take2 (v := undef) (by first | assumption | trivial) (by kernel_rfl) (by decide +kernel) (by decide +kernel) (Or.inr ⟨by rfl, rfl⟩) ?_
       simp only [Act.put, List.setIfInBounds_toArray, List.set_cons_zero, List.set_cons_succ])
    | (refine SeqS.take (v := .agg X.toArray) (by assumption) (by kernel_rfl) (by decide +kernel) (by decide +kernel) (yields_blk (by rfl) 27 (.tmp 9) rfl rfl (fun w' h => CB.out w' h) HI) ?_; simp only [Act.put, List.setIfInBounds_toArray, List.set_cons_zero, List.set_cons_succ]))
  refine SeqS.alone (by decide +kernel) (by rfl) (fun K hK => ?_)
  go_simp
  go_at_call 8
  refine (CA.out _ S12).mono ?_
  rintro e w13 ⟨rfl, b13⟩
  go_simp
  have S13 : Below w9.heap.size w9 w13 := S12.trans (b13.mono S12.size)
  refine hK _ _ S13 ?_
  clear hK K
  repeat (first
    | (refine SeqS.take (v := ?_) (by first | assumption | trivial) (by kernel_rfl) (by decide +kernel) (by decide +kernel) (Or.inl ⟨by rfl, ?_⟩) ?_
       rotate_left
       focus
         intro w' hb'
         go_simp
         with_reducible rfl
       simp only [Act.put, List.setIfInBounds_toArray, List.set_cons_zero, List.set_cons_succ])
    | (refine SeqS.take (v := undef) (by first | assumption | trivial) (by kernel_rfl) (by decide +kernel) (by decide +kernel) (Or.inr ⟨by rfl, rfl⟩) ?_
       simp only [Act.put, List.setIfInBounds_toArray, List.set_cons_zero, List.set_cons_succ])
    | (refine SeqS.take1 (v := ?_) (by first | assumption | trivial) (by kernel_rfl) (by decide +kernel) (by decide +kernel) (Or.inl ⟨by rfl, ?_⟩) ?_
       rotate_left
       focus
         intro w' hb'
         go_simp
         with_reducible rfl
       simp only [Act.put, List.setIfInBounds_toArray, List.set_cons_zero, List.set_cons_succ])
    | (refine SeqS.take1 (v := undef) (by first | assumption | trivial) (by kernel_rfl) (by decide +kernel) (by decide +kernel) (Or.inr ⟨by rfl, rfl⟩) ?_
       simp only [Act.put, List.setIfInBounds_toArray, List.set_cons_zero, List.set_cons_succ])
    | (refine SeqS.take2 (v := ?_) (by first | assumption | trivial) (by kernel_rfl) (by decide +kernel) (by decide +kernel) (Or.inl ⟨by rfl, ?_⟩) ?_
       rotate_left
       focus
         intro w' hb'
         go_simp
         with_reducible rfl
       simp only [Act.put, List.setIfInBounds_toArray, List.set_cons_zero, List.set_cons_succ])
    | (refine SeqS.take2 (v := undef) (by first | assumption | trivial) (by kernel_rfl) (by decide +kernel) (by decide +kernel) (Or.inr ⟨by rfl, rfl⟩) ?_
       simp only [Act.put, List.setIfInBounds_toArray, List.set_cons_zero, List.set_cons_succ]))
  refine SeqS.done (by decide +kernel) ?_
  go_wp2_with fail
  go_ret
  exact ⟨rfl, hw2.trans ((Q9.trans (S13.mono Q9.size)).mono hw2.size)⟩

theorem wf_u16 {a : Int} (h : (Lit.int .u16 a).wf = true) : 0 ≤ a ∧ a < 65536 := by
  simp only [Lit.wf, Bool.and_eq_true, decide_eq_true_eq] at h
  have h1 : IntKind.u16.min = 0 := rfl
  have h2 : IntKind.u16.max = 65535 := rfl
  omega
set_option maxRecDepth 100000 in
set_option maxHeartbeats 1600000 in
theorem macTurned_long (a : Option Addr) (n ca : Nat) (b : Option Addr) (m cb : Nat) (t : Int) (w : World) (hG : Glob w) (t0 : 0 ≤ t) (t1 : t < 65536) (hn : n ≤ 9223372036854775807) (hm : m ≤ 9223372036854775807) (h : 100 < n ∨ 100 < m ∨ t / 256 = 0) :
    Calls Tryd.prog 4 #[.slice a n ca, .slice b m cb, .int .u16 t] w fun e w' => e = .returned (.bool true) ∧ Below w.heap.size w w' := by
  obtain ⟨q, hq⟩ : ∃ q, q = t / 256 := ⟨_, rfl⟩
  obtain ⟨j0, hj0⟩ : ∃ j0 : Nat, (j0 : Int) = t % 256 := ⟨(t % 256).toNat, by omega⟩
  have q0 : 0 ≤ q := by omega
  have q1 : q < 256 := by omega
  have htm : t.tmod 256 = (j0 : Int) := by rw [Int.tmod_eq_emod_of_nonneg t0]; exact hj0.symm
  have hem : t % 256 = (j0 : Int) := hj0.symm
  have hdv : t / 256 = q := hq.symm
  rcases (show 100 < n ∨ (n ≤ 100 ∧ 100 < m) ∨ (n ≤ 100 ∧ m ≤ 100 ∧ q = 0) from by omega) with h | ⟨h1, h2⟩ | ⟨h1, h2, h3⟩
  · have h0 : decide ((100 : Int) < (n : Int)) = true := by simp; omega
    clear hq hj0
    go_enter Tryd.func4, Tryd.ntmps4
    go_wp2_with fail
    refine (alive3_any _ hG).mono ?_; rintro e w' ⟨rfl, hb⟩
    go_wp2
    go_ret
    exact ⟨rfl, hb⟩
  · have h0 : decide ((100 : Int) < (n : Int)) = false := by simp; omega
    have h3 : decide ((100 : Int) < (m : Int)) = true := by simp; omega
    clear hq hj0
    go_enter Tryd.func4, Tryd.ntmps4
    go_wp2_with fail
    refine (alive3_any _ hG).mono ?_; rintro e w' ⟨rfl, hb⟩
    go_wp2
    go_ret
    exact ⟨rfl, hb⟩
  · have h0 : decide ((100 : Int) < (n : Int)) = false := by simp; omega
    have h4 : decide ((100 : Int) < (m : Int)) = false := by simp; omega
    subst h3
    clear hq hj0
    go_enter Tryd.func4, Tryd.ntmps4
    go_wp2_with fail
    refine (alive3_any _ hG).mono ?_; rintro e w' ⟨rfl, hb⟩
    go_wp2
    go_ret
    exact ⟨rfl, hb⟩
theorem law_MacTurned (a : Option Addr) (n ca : Nat) (key : List Int) (b : Option Addr) (m cb : Nat) (bs : List Int) (t : Int) (w : World) (hG : Glob w)
    (h1 : Ints .u8 w a n ca key) (r1 : ∀ x ∈ key, (Lit.int .u8 x).wf = true) (k1 : ca ≤ maxLen) (h2 : Ints .u8 w b m cb bs) (r2 : ∀ x ∈ bs, (Lit.int .u8 x).wf = true) (k2 : cb ≤ maxLen) (ht : (Lit.int .u16 t).wf = true) :
    Calls Tryd.prog 4 #[.slice a n ca, .slice b m cb, .int .u16 t] w fun e w' => e = .returned (.bool true) ∧ Below w.heap.size w w' := by
  have q1 := h1.2.1
  have q2 := h2.2.1
  have t01 := wf_u16 ht
  unfold maxLen at k1 k2
  by_cases h : 100 < n ∨ 100 < m ∨ t / 256 = 0
  · exact macTurned_long a n ca b m cb t w hG t01.1 t01.2 (by omega) (by omega) h
  · exact macTurned_any a n ca key b m cb bs t w hG h1 (fun x hx => wf_byte3 (r1 x hx)) h2 (fun x hx => wf_byte3 (r2 x hx)) t01.1 t01.2 (by omega) (by omega) (by omega)
end Go.Proofs.YtglgkobfpjkilaaDoor
