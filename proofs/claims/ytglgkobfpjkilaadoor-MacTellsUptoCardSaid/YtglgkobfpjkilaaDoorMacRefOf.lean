/-
  What the document's own tag, and its own look whether bytes are the same, come to. Conditions: bytes are numbers from 0 to 255, at most 2^32 - 4096 of them.
-/
import Derived.Test.YtglgkobfpjkilaaDoorMacRef
namespace Go.Proofs.YtglgkobfpjkilaaDoor
open Go.RowKit

theorem str_inj {xs ys : List Int} (hx : ∀ x ∈ xs, 0 ≤ x ∧ x < 256) (hy : ∀ x ∈ ys, 0 ≤ x ∧ x < 256) (h : strOfNums xs = strOfNums ys) : xs = ys := by
  have h1 : (strOfNums xs).data.toList = (strOfNums ys).data.toList := by rw [h]
  rw [strOfNums_data, strOfNums_data] at h1
  have back : ∀ (l : List Int), (∀ x ∈ l, 0 ≤ x ∧ x < 256) → (l.map fun n => UInt8.ofNat n.toNat).map (fun b => (b.toNat : Int)) = l := by
    intro l hl
    rw [List.map_map]
    conv => rhs; rw [← List.map_id l]
    apply List.map_congr_left
    intro x hx
    have := hl x hx
    simp only [Function.comp_def, id_eq, UInt8.toNat_ofNat']
    omega
  rw [← back xs hx, ← back ys hy, h1]

theorem str_toList_inj {s t : ByteArray} (h : s.toList = t.toList) : s = t := by
  rw [ByteArray.toList_eq, ByteArray.toList_eq] at h
  cases s; cases t
  simpa using h

set_option maxHeartbeats 400000 in
theorem refSame_any (a : Option Addr) (n ca : Nat) (xs : List Int) (b : Option Addr) (m cb : Nat) (ys : List Int) (w : World) (h1 : Ints .u8 w a n ca xs) (r1 : ∀ x ∈ xs, 0 ≤ x ∧ x < 256) (h2 : Ints .u8 w b m cb ys) (r2 : ∀ x ∈ ys, 0 ≤ x ∧ x < 256) :
    Calls Tryd.prog 13 #[.slice a n ca, .slice b m cb] w fun e w' => e = .returned (.bool (decide (xs = ys))) ∧ w = w' := by
  have c1 := h1.string (P := Tryd.prog) 22 9 5 Tryd.underlying22 Tryd.underlying5 Tryd.underlying9
  have c2 := h2.string (P := Tryd.prog) 22 9 5 Tryd.underlying22 Tryd.underlying5 Tryd.underlying9
  have hE : decide (xs = ys) = decide (strOfNums xs = strOfNums ys) := decide_eq_decide.2 ⟨fun h => by rw [h], str_inj r1 r2⟩
  rw [hE]
  clear hE
  obtain ⟨s1, hs1⟩ : ∃ s, s = strOfNums xs := ⟨_, rfl⟩
  obtain ⟨s2, hs2⟩ : ∃ s, s = strOfNums ys := ⟨_, rfl⟩
  rw [← hs1] at c1
  rw [← hs2] at c2
  rw [← hs1, ← hs2]
  clear hs1 hs2 h1 h2 r1 r2
  go_enter Tryd.func13, Tryd.ntmps13
  go_wp2
  go_ret
  refine ⟨congrArg (fun b => Ending.returned (.bool b)) ?_, rfl⟩
  by_cases h : s1 = s2
  · subst h; simp
  · rw [decide_eq_false h]
    refine beq_eq_false_iff_ne.2 (fun e => h ?_)
    exact str_toList_inj e

set_option maxRecDepth 100000 in
set_option maxHeartbeats 1600000 in
theorem refOf_any (a : Option Addr) (n ca : Nat) (key : List Int) (b : Option Addr) (m cb : Nat) (bs : List Int) (w : World) (h1 : Ints .u8 w a n ca key) (r1 : ∀ x ∈ key, 0 ≤ x ∧ x < 256) (h2 : Ints .u8 w b m cb bs) (r2 : ∀ x ∈ bs, 0 ≤ x ∧ x < 256) (hn : n ≤ 4294967296) (hm : m ≤ 4294960000) :
    Calls Tryd.prog 10 #[.slice a n ca, .slice b m cb] w fun e w' => e = .returned (.agg ((tagOf key bs).map (Value.int .u8)).toArray) ∧ Below w.heap.size w w' := by
  obtain ⟨i0, hi, hz0, hz1, hz2⟩ := info_parts infoU8
  go_enter Tryd.func10, Tryd.ntmps10
  go_wp2_with ((with_reducible refine wpList_alloc_blk rfl 27 rfl zeroId ?_))
  refine (refBlock_any a n ca key 54 _ (h1.keep (below1 _ _)) r1 hn).mono ?_
  rintro e w1 ⟨v1, rfl, hown1, hb1⟩
  rw [size1] at hown1 hb1
  have hR1 : Blk w1 w.heap.size 27 (zb 32) := Blk.keep (Blk.new w 27 (zb 32)) hb1 (by omega)
  have hw1 : Below w.heap.size w w1 := (below1 _ _).trans (hb1.mono (by omega))
  have h2' := h2.keep hw1
  have hbs : w.heap.size + 1 ≤ w1.heap.size := by have := hb1.size; rw [size1] at this; exact this
  go_wp2_with (at_builtin; refine wpList_append_ints rfl (.tmp 7) (.tmp 8) 22 rfl (w.heap.size + 1) 5 i0 (.int .u8 0) 1 Tryd.underlying22 hi hz0 hz1 hz2 rfl rfl hown1 rfl h2' ?_ ?_ hbs ?_; (unfold maxLen; omega); omega; intro v2 w2 hown2 hg2)
  have hb2 : Below (w.heap.size + 1) w1 w2 := (Below.refl _ _).grown hg2 hbs (fun q hq => (hown1.lt q hq).1)
  have hR2 := hR1.keep hb2 (by omega)
  have hw2 : Below w.heap.size w w2 := hw1.trans (hb2.mono (by omega))
  rw [← List.map_append] at hown2
  obtain ⟨A2, c2, rfl, hI2⟩ := Ints.of_owns hown2
  clear hown2 hown1 hg2 hb1 hb2 hR1 hw1 h2'
  refine (refSum_any A2 (64 + m) c2 (pad key 54 ++ bs) w2 hI2 (by intro x hx; rcases List.mem_append.1 hx with hx | hx; exact pad_range _ _ x hx; exact r2 x hx) (by omega)).mono ?_
  rintro e w3 ⟨rfl, hb3⟩
  have hR3 := hR2.keep hb3 hR2.lt
  have hw3 : Below w.heap.size w w3 := hw2.trans (hb3.mono hw2.size)
  clear hI2 hb3 hR2 hw2
  obtain ⟨IN, hIN⟩ : ∃ IN, IN = shaSum (pad key 54 ++ bs) := ⟨_, rfl⟩
  have hINl : IN.length = 32 := by rw [hIN, shaSum_length]
  have hINr : ∀ x ∈ IN, 0 ≤ x ∧ x < 256 := by rw [hIN]; exact shaSum_range _
  have FIN := Lib.hid (show tagOf key bs = shaSum (pad key 92 ++ IN) by rw [hIN]; rfl)
  rw [← hIN]
  obtain ⟨X, hX⟩ : ∃ X, X = IN.map (Value.int .u8) := ⟨_, rfl⟩
  have hXl : X.length = 32 := by rw [hX, List.length_map, hINl]
  rw [← hX]
  have HX := Lib.hid hX; have HXL := Lib.hid hXl; have HIL := Lib.hid hINl; have HIR := Lib.hid hINr
  have HI : IsRow Tryd.prog 27 X.length := by rw [hXl]; exact rowId
  have HO1 := Lib.hid (show ∀ v ∈ X, v.oneCell' = true by rw [hX]; exact ints_oneCell' _ _)
  have HOF := Lib.hid (show 0 + X.length ≤ (zb 32).length by rw [hXl]; decide)
  clear hIN hX hXl hINl hINr
  go_wp2_with ((with_reducible refine wpList_alloc_blk rfl 27 rfl zeroId ?_)
               refine wpList_store_part (g := w3.heap.size) (off := 0) (t := 27) (cur := zb 32) (cs := X) rfl 27 (.tmp 5) (.tmp 10) rfl ?_ ?_ (Blk.new w3 _ (zb 32)) HI ?_ HO1.out ?_
               rfl
               rfl
               exact HOF.out
               intro w4 hX' hg4)
  have hB4 := hX'.cast (overV_all _ _ (by rw [HXL.out]; rfl))
  have hb4 : Below w3.heap.size w3 w4 := (below1 w3 _).trans (below_of_grown hg4 (Nat.le_refl _) (by rw [size1]; omega))
  have hR4 := hR3.keep hb4 hR3.lt
  have hw4 : Below w.heap.size w w4 := hw3.trans (hb4.mono hw3.size)
  have hIN4 : Ints .u8 w4 (some ⟨w3.heap.size, 0, none⟩) 32 32 IN := Ints.of_blk hB4 HIL.out (Nat.le_refl _) (fun i hi => by rw [HX.out, Nat.zero_add]; exact getElem?_mapInt _ _ _ (by rw [HIL.out]; exact hi))
  clear hX' hg4 hb4 hR3 hw3 hB4
  have hS : True := trivial
  go_wp2_with fail
  refine region_seqS (fun _ => True) (by kernel_rfl) hS ?_
  simp only [pairs, Nat.reduceAdd]
  repeat (first
    | (refine SeqS.take (v := ?_) (by first | assumption | trivial) (by kernel_rfl) (by decide +kernel) (by decide +kernel) (Or.inl ⟨by rfl, ?_⟩) ?_
       rotate_left
       focus
         intro w' hb'
         go_simp
         with_reducible rfl
       simp only [Act.put, List.setIfInBounds_toArray, List.set_cons_zero, List.set_cons_succ])
    | (refine SeqS.take1 (v := ?_) (by first | assumption | trivial) (by kernel_rfl) (by decide +kernel) (by decide +kernel) (Or.inl ⟨by rfl, ?_⟩) ?_
       rotate_left
       focus
         intro w' hb'
         go_simp
         with_reducible rfl
       simp only [Act.put, List.setIfInBounds_toArray, List.set_cons_zero, List.set_cons_succ])
    | (refine SeqS.take2 (v := ?_) (by first | assumption | trivial) (by kernel_rfl) (by decide +kernel) (by decide +kernel) (Or.inl ⟨by rfl, ?_⟩) ?_
       rotate_left
       focus
         intro w' hb'
         go_simp
         with_reducible rfl
       simp only [Act.put, List.setIfInBounds_toArray, List.set_cons_zero, List.set_cons_succ]))
  refine SeqS.alone (by decide +kernel) (by rfl) (fun K hK => ?_)
  go_simp
  go_at_call 20
  refine (refBlock_any a n ca key 92 _ (h1.keep hw4.drew) r1 hn).mono ?_
  rintro e w5 ⟨v5, rfl, hown5, hb5⟩
  go_simp
  refine hK _ _ trivial ?_
  clear hK K
  repeat (first
    | (refine SeqS.take (v := ?_) (by first | assumption | trivial) (by kernel_rfl) (by decide +kernel) (by decide +kernel) (Or.inl ⟨by rfl, ?_⟩) ?_
       rotate_left
       focus
         intro w' hb'
         go_simp
         with_reducible rfl
       simp only [Act.put, List.setIfInBounds_toArray, List.set_cons_zero, List.set_cons_succ])
    | (refine SeqS.take1 (v := ?_) (by first | assumption | trivial) (by kernel_rfl) (by decide +kernel) (by decide +kernel) (Or.inl ⟨by rfl, ?_⟩) ?_
       rotate_left
       focus
         intro w' hb'
         go_simp
         with_reducible rfl
       simp only [Act.put, List.setIfInBounds_toArray, List.set_cons_zero, List.set_cons_succ])
    | (refine SeqS.take2 (v := ?_) (by first | assumption | trivial) (by kernel_rfl) (by decide +kernel) (by decide +kernel) (Or.inl ⟨by rfl, ?_⟩) ?_
       rotate_left
       focus
         intro w' hb'
         go_simp
         with_reducible rfl
       simp only [Act.put, List.setIfInBounds_toArray, List.set_cons_zero, List.set_cons_succ]))
  have hb5s : w4.heap.size ≤ w5.heap.size := by have := hb5.size; simpa using this
  have hw5' : Below w4.heap.size w4 w5 := (Below.drew (Below.refl _ _)).trans hb5
  have hIN5 := hIN4.keep hw5'
  refine SeqS.alone (by decide +kernel) (by rfl) (fun K hK => ?_)
  refine wp_append_ints (.tmp 12) (.tmp 13) 22 rfl w4.heap.size 5 i0 (.int .u8 0) 1 Tryd.underlying22 hi hz0 hz1 hz2 rfl rfl hown5 rfl hIN5 ?_ ?_ hb5s ?_
  (unfold maxLen; omega)
  omega
  intro v6 w6 hown6 hg6
  go_simp
  refine hK _ _ trivial ?_
  clear hK K
  have hw6 : Below w4.heap.size w4 w6 := hw5'.trans (((Below.refl w4.heap.size w5).grown hg6 hb5s (fun q hq => (hown5.lt q hq).1)))
  rw [← List.map_append] at hown6
  obtain ⟨A6, c6, rfl, hI6⟩ := Ints.of_owns hown6
  clear hown6 hown5 hg6 hb5 hb5s hw5' hIN5 hIN4
  repeat (first
    | (refine SeqS.take (v := ?_) (by first | assumption | trivial) (by kernel_rfl) (by decide +kernel) (by decide +kernel) (Or.inl ⟨by rfl, ?_⟩) ?_
       rotate_left
       focus
         intro w' hb'
         go_simp
         with_reducible rfl
       simp only [Act.put, List.setIfInBounds_toArray, List.set_cons_zero, List.set_cons_succ])
    | (refine SeqS.take1 (v := ?_) (by first | assumption | trivial) (by kernel_rfl) (by decide +kernel) (by decide +kernel) (Or.inl ⟨by rfl, ?_⟩) ?_
       rotate_left
       focus
         intro w' hb'
         go_simp
         with_reducible rfl
       simp only [Act.put, List.setIfInBounds_toArray, List.set_cons_zero, List.set_cons_succ])
    | (refine SeqS.take2 (v := ?_) (by first | assumption | trivial) (by kernel_rfl) (by decide +kernel) (by decide +kernel) (Or.inl ⟨by rfl, ?_⟩) ?_
       rotate_left
       focus
         intro w' hb'
         go_simp
         with_reducible rfl
       simp only [Act.put, List.setIfInBounds_toArray, List.set_cons_zero, List.set_cons_succ]))
  refine SeqS.alone (by decide +kernel) (by rfl) (fun K hK => ?_)
  go_simp
  go_at_call 19
  refine (refSum_any A6 96 c6 (pad key 92 ++ IN) w6 hI6 (by intro x hx; rcases List.mem_append.1 hx with hx | hx; exact pad_range _ _ x hx; exact HIR.out x hx) (by decide)).mono ?_
  rintro e w7 ⟨rfl, hb7⟩
  rw [← FIN.out]
  go_simp
  refine hK _ _ trivial ?_
  clear hK K
  have hw7 : Below w4.heap.size w4 w7 := hw6.trans (hb7.mono hw6.size)
  have hR7 := hR4.keep hw7 hR4.lt
  have hz7 : Below w.heap.size w w7 := hw4.trans (hw7.mono hw4.size)
  clear hI6 hw6 hb7 hw7 hR4 hw4
  obtain ⟨OUT, hOUT⟩ : ∃ X, X = (tagOf key bs).map (Value.int .u8) := ⟨_, rfl⟩
  have hOl : OUT.length = 32 := by rw [hOUT, List.length_map, tagOf_length]
  rw [← hOUT]
  have hJ : IsRow Tryd.prog 27 OUT.length := by rw [hOl]; exact rowId
  refine SeqS.alone (by decide +kernel) (by rfl) (fun K hK => ?_)
  refine wp_store_part 27 (.tmp 4) (.tmp 15) rfl rfl rfl hR7 hJ (by rw [hOl]; decide) (by rw [hOUT]; exact ints_oneCell' _ _) ?_
  intro w9 hR9 hg9
  go_simp
  refine hK _ _ trivial ?_
  clear hK K
  refine SeqS.done (by decide +kernel) ?_
  have hR9' := hR9.cast (overV_all _ _ (by rw [hOl]; rfl))
  go_wp2_with fail
  refine bodyPost_ret (results_blk rfl rfl hR9' hJ) rfl ?_
  exact ⟨by rw [hOUT], hz7.trans (below_of_grown hg9 (Nat.le_refl _) hR7.lt)⟩
end Go.Proofs.YtglgkobfpjkilaaDoor
