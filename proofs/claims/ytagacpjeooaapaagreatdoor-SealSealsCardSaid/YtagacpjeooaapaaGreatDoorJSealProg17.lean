/-
  Texts of stages that were proved on their own, joined: SealMore, SealDoes. Each begins with its own words.
-/
import Derived.Test.YtagacpjeooaapaaGreatDoorJSealProg11
import Derived.Test.YtagacpjeooaapaaGreatDoorJSealProg16

/-
  What package seal's partsOf, masked and fits come to: the document's own words. New memory alone is written. Conditions: bytes below 256, at most 2^32 of them; the package's variables of sha hold the constants and the starts.
-/
namespace Go.Proofs.YtagacpjeooaapaaGreatDoor
open Go.RowKit

theorem zeroParts : Zero Tryz.prog 36 [.slice none 0 0, .slice none 0 0] := by unfold Zero; kernel_rfl
theorem sizeParts : (Tryz.prog.info? 36).map (·.size) = some 2 := by kernel_rfl
theorem rowParts : IsRow Tryz.prog 36 2 := IsRow.struct Tryz.underlying36 sizeParts

set_option maxRecDepth 100000 in
set_option maxHeartbeats 1000000 in
theorem partsOf_any (f : Nat → Nat) (w : World) (hG : Glob w) (hf : By f) :
    Calls Tryz.prog 15 #[.agg (rowN 32 f).toArray] w fun e w' => ∃ a c b d, e = .returned (.agg #[.slice a 32 c, .slice b 32 d]) ∧ Ints .u8 w' a 32 c (sealA f) ∧ Ints .u8 w' b 32 d (sealB f) ∧ Below w.heap.size w w' := by
  obtain ⟨g, hg⟩ : ∃ g, w.heap.size = g := ⟨_, rfl⟩
  go_enter Tryz.func15, Tryz.ntmps15
  go_wp2_with (first
    | ((with_reducible refine wpList_box_blk rfl 23 (.tmp 0) rfl (rowN 32 f) ?_ ?_); rfl)
    | (with_reducible refine wpList_alloc_blk rfl 36 rfl zeroParts ?_; refine RowKit.Hid.out ?_))
  refine Lib.hid ?_
  obtain ⟨W0, hW0⟩ : ∃ W0, (w.alloc (.cells (rowN 32 f).toArray 23)).alloc (.cells [Value.slice none 0 0, .slice none 0 0].toArray 36) = W0 := ⟨_, rfl⟩
  have hx0 : Blk W0 g 23 (rowN 32 f) := by rw [← hW0, ← hg]; exact (Blk.new w _ _).alloc _
  have hr0 : Blk W0 (g + 1) 36 [.slice none 0 0, .slice none 0 0] := by rw [← hW0, ← hg]; exact Blk.new1 w _ _ _
  have hB0 : Below g w W0 := by rw [← hW0, ← hg]; exact below2 w _ _
  rw [hW0]
  have hG0 : Glob W0 := hG.keep (by rw [hg]; exact hB0) (Nat.le_refl _)
  have hgH := Lib.hid hg
  clear hW0 hg hG
  go_wp2_with ((refine wpList_load_blk rfl 23 (.tmp 1) rfl ?_ hx0 rowId (rowN_len 32 f) ?_); rfl)
  refine (key_any f W0 hG0 hf).mono ?_
  rintro e w1 ⟨rfl, b1⟩
  have hG1 := hG0.keep b1 (Nat.le_refl _)
  have hr1 := hr0.keep b1 hr0.lt
  have hB1 := Lib.hid (hB0.trans (b1.mono (Nat.le_of_lt hx0.lt)))
  have hg1 : g ≤ w1.heap.size := Nat.le_trans (Nat.le_of_lt hx0.lt) b1.size
  obtain ⟨X, hX⟩ : ∃ X, (sealK f).map (Value.int .u8) = X := ⟨_, rfl⟩
  have hXl : X.length = 32 := by rw [← hX, List.length_map, sealK_len]
  have HI : IsRow Tryz.prog 23 X.length := by rw [hXl]; exact rowId
  have HO1 := Lib.hid (show ∀ v ∈ X, v.oneCell' = true by rw [← hX]; exact ints_oneCell' _ _)
  have HOF := Lib.hid (show 0 + X.length ≤ (zb 32).length by rw [hXl]; decide)
  have hov := Lib.hid (overV_all (zb 32) X (by rw [hXl]; rfl))
  rw [hX]
  have hXH := Lib.hid hX
  have hg1H := Lib.hid hg1
  clear hX hXl hx0 hB0 b1 hg1 hG0 hr0
  go_wp2_with (first
    | (with_reducible refine wpList_alloc_blk rfl 23 rfl zeroId ?_)
    | (refine wpList_store_part (g := w1.heap.size) (off := 0) (t := 23) (cur := zb 32) (cs := X) rfl 23 (.tmp 3) (.tmp 6) rfl ?_ ?_ (Blk.new w1 _ (zb 32)) HI ?_ HO1.out ?_
       rfl
       rfl
       exact HOF.out
       intro w2 hk2 hg2
       refine RowKit.Hid.out ?_))
  refine Lib.hid ?_
  rw [hov.out, ← hXH.out] at hk2
  have b2 : Below w1.heap.size w1 w2 := (below1 w1 _).trans (below_of_grown hg2 (Nat.le_refl _) (by rw [size1]; omega))
  have hI2 : Ints .u8 w2 (some ⟨w1.heap.size, 0, none⟩) 32 32 (sealK f) := Ints.of_blk hk2 (sealK_len f) (Nat.le_refl _) (fun i hi => by rw [Nat.zero_add]; exact getElem?_mapInt _ _ _ (by rw [sealK_len]; exact hi))
  have hG2 := hG1.keep b2 (Nat.le_refl _)
  have hr2 := hr1.keep b2 hr1.lt
  have hB2 := hB1.out.trans (b2.mono hg1H.out)
  have hg2s : g ≤ w2.heap.size := Nat.le_trans hg1H.out b2.size
  obtain ⟨k, hk⟩ : ∃ k, w1.heap.size = k := ⟨_, rfl⟩
  rw [hk] at hI2 ⊢
  clear hk2 hg2 b2 HI HO1 HOF hov hXH hk hG1 hr1
  go_wp2_with fail
  refine (derive_any (some ⟨k, 0, none⟩) 32 32 (sealK f) { data := #[115, 101, 97, 108] } 64 w2 hG2 hI2 (sealK_range f) (by decide) (by decide) (by decide)).mono ?_
  rintro e w3 ⟨lb, lc, rfl, hL, b3⟩
  have hL : Ints .u8 w3 lb 64 lc (sealAll f) := hL
  have hB3 := hB2.trans (b3.mono hg2s)
  have hr3 := hr2.keep b3 hr2.lt
  have hc1 := hL.2.1
  obtain ⟨bb, off, rfl, hat⟩ := hL.at (by decide)
  have hbn : bb ≠ g + 1 := by
    intro e
    have h0 := hat 0 (by decide)
    rw [e, hr3.cell] at h0
    rcases off with _ | _ | off
    · simp at h0
    · simp at h0
    · simp at h0
  clear hat
  have hA : Ints .u8 w3 (some ⟨bb, off, none⟩) 32 lc (sealA f) := hL.upto 32 (by decide)
  have hc1H := Lib.hid hc1
  have hci : (32 : Int) ≤ (lc : Int) := by omega
  have hci' : 32 ≤ lc := by omega
  have hcn : ¬ lc = 32 := by omega
  have hb32 : Ints .u8 w3 (some ⟨bb, off + 32, none⟩) 32 (lc - 32) (sealB f) := by
    have h := hL.cut2 32 64 (by decide) (by decide)
    rw [show cutAddr (some ⟨bb, off, none⟩) lc 32 = some ⟨bb, off + 32, none⟩ by unfold cutAddr; rw [if_neg hcn]; rfl, List.take_of_length_le (by rw [List.length_drop, sealAll_len]; decide)] at h
    exact h
  clear hc1 hI2 hg2s hB2 hr2
  go_wp2_with fail
  refine region_seqS (fun _ => True) (by kernel_rfl) trivial ?_
  simp only [pairs, Nat.reduceAdd]
  repeat (first
    | (refine SeqS.take (v := ?_) (by first | assumption | trivial) (by kernel_rfl) (by decide +kernel) (by decide +kernel) (Or.inl ⟨by rfl, ?_⟩) ?_
       rotate_left
       focus
         intro w' hb'
         go_simp
         with_reducible rfl
       simp only [Act.put, List.setIfInBounds_toArray, List.set_cons_zero, List.set_cons_succ])
    | (refine SeqS.take (v := undef) (by first | assumption | trivial) (by kernel_rfl) (by decide +kernel) (by decide +kernel) (Or.inr ⟨by rfl, rfl⟩) ?_
       simp only [Act.put, List.setIfInBounds_toArray, List.set_cons_zero, List.set_cons_succ])
    | (refine SeqS.take1 (v := ?_) (by first | assumption | trivial) (by kernel_rfl) (by decide +kernel) (by decide +kernel) (Or.inl ⟨by rfl, ?_⟩) ?_
       rotate_left
       focus
         intro w' hb'
         go_simp
         with_reducible rfl
       simp only [Act.put, List.setIfInBounds_toArray, List.set_cons_zero, List.set_cons_succ])
    | (refine SeqS.take1 (v := undef) (by first | assumption | trivial) (by kernel_rfl) (by decide +kernel) (by decide +kernel) (Or.inr ⟨by rfl, rfl⟩) ?_
       simp only [Act.put, List.setIfInBounds_toArray, List.set_cons_zero, List.set_cons_succ])
    | (refine SeqS.take2 (v := ?_) (by first | assumption | trivial) (by kernel_rfl) (by decide +kernel) (by decide +kernel) (Or.inl ⟨by rfl, ?_⟩) ?_
       rotate_left
       focus
         intro w' hb'
         go_simp
         with_reducible rfl
       simp only [Act.put, List.setIfInBounds_toArray, List.set_cons_zero, List.set_cons_succ])
    | (refine SeqS.take2 (v := undef) (by first | assumption | trivial) (by kernel_rfl) (by decide +kernel) (by decide +kernel) (Or.inr ⟨by rfl, rfl⟩) ?_
       simp only [Act.put, List.setIfInBounds_toArray, List.set_cons_zero, List.set_cons_succ]))
  refine SeqS.alone (by decide +kernel) (by rfl) (fun K hK => ?_)
  refine wp_store_part (cs := [.slice (some ⟨bb, off, none⟩) 32 lc, .slice (some ⟨bb, off + 32, none⟩) 32 (lc - 32)]) 36 (.tmp 2) (.tmp 13) rfl rfl rfl (show Blk w3.drew (g + 1) _ _ from hr3) rowParts (by simp) (by simp [Value.oneCell']) (fun w4 hR4 hg4 => ?_)
  refine hK _ _ trivial ?_
  refine SeqS.done (by decide +kernel) ?_
  have g4 : w3.grownBy w4 (some (g + 1)) := ⟨hg4.os, hg4.tape, hg4.output, hg4.size, hg4.block⟩
  have hA4 := hA.grown g4 (fun x hx _ => by obtain rfl := Option.some.inj hx; exact hbn)
  have hB4 := hb32.grown g4 (fun x hx _ => by obtain rfl := Option.some.inj hx; exact hbn)
  have b4 := hB3.trans (below_of_grown g4 (Nat.le_succ g) hr3.lt)
  clear hL hA hb32 hg4 g4 hB3
  go_wp2_with fail
  have hR4 := hR4.cast (overV_all _ _ (by rfl))
  (try simp only [Exit.inBlock, Exit.then])
  refine bodyPost_ret (results_blk rfl rfl hR4 rowParts) rfl ?_
  refine ⟨_, _, _, _, rfl, hA4, hB4, ?_⟩
  rw [hgH.out]
  exact b4

set_option maxRecDepth 100000 in
set_option maxHeartbeats 1000000 in
theorem masked_any (id : Nat → Nat) (a b x : Option Addr) (c d n cap : Nat) (f : Nat → Nat) (w : World) (hA : Ints .u8 w a 32 c (sealA id)) (hf : By f) (hI : Ints .u8 w x n cap (bytesL n f)) (hn : n ≤ 4294967296) :
    Calls Tryz.prog 16 #[.agg #[.slice a 32 c, .slice b 32 d], .slice x n cap] w fun e w' => ∃ q r, e = .returned (.slice q n r) ∧ w'.ownsRow w.heap.size 5 1 (.slice q n r) n (rowN n (sealM id f)) ∧ Below w.heap.size w w' := by
  have B1 := below1 w (.cells #[.slice a 32 c, .slice b 32 d] 36)
  have hA1 := hA.keep B1
  have hI1 := hI.keep B1
  go_enter Tryz.func16, Tryz.ntmps16
  go_wp2_with fail
  refine (stNew_any a c (sealA id) _ hA1 (sealA_range id)).mono ?_
  rintro e w2 ⟨g, rfl, hg, hS, b2⟩
  have hS : StAt w2 g (sealF id) 0 := hS
  have hI2 := hI1.keep b2
  have hgl := hS.lt
  rw [size1] at hg b2
  have B2 := B1.trans (b2.mono (Nat.le_succ _))
  have hB2 := Lib.hid B2
  have hgw : w.heap.size ≤ g := by omega
  have hgH := Lib.hid hgw
  have hgl := Lib.hid hgl
  clear hA hI hA1 hI1 B1 b2 B2 hg hgw
  go_wp2_with fail
  refine (mask_any g (sealF id) 0 x n cap f w2 (sealF_by id) hf hS (by decide) hI2 hn).mono ?_
  rintro e w3 ⟨q, r, rfl, ho, _, g3⟩
  have b3 : Below w.heap.size w2 w3 := below_of_grown g3 hgH.out hgl.out
  have ho : w3.ownsRow w2.heap.size 5 1 (.slice q n r) n (rowN n (sealM id f)) := ho
  clear hS hI2 g3
  go_wp2
  go_ret
  exact ⟨q, r, rfl, own_base ho hB2.out.size, hB2.out.trans b3⟩

set_option maxRecDepth 100000 in
set_option maxHeartbeats 1000000 in
theorem fits_any (id : Nat → Nat) (a b : Option Addr) (xb xo : Nat) (c d m n cap : Nat) (f : Nat → Nat) (w : World) (hG : Glob w) (hB : Ints .u8 w b 32 d (sealB id)) (hf : By f) (hI : Ints .u8 w (some ⟨xb, xo, none⟩) n cap (bytesL n f)) (hmn : m + 32 = n) (hn : n ≤ 100000) (ok : Bool) (hok : decide (bytesL 32 (fun i => f (m + i)) = sealT id m f) = ok) :
    Calls Tryz.prog 46 #[.agg #[.slice a 32 c, .slice b 32 d], .slice (some ⟨xb, xo, none⟩) n cap] w fun e w' => e = .returned (.bool ok) ∧ Below w.heap.size w w' := by
  have B1 := below1 w (.cells #[.slice a 32 c, .slice b 32 d] 36)
  obtain ⟨W1, hW1⟩ : ∃ W1, w.alloc (.cells #[.slice a 32 c, .slice b 32 d] 36) = W1 := ⟨_, rfl⟩
  have hc := hI.2.1
  have hHd : Ints .u8 w (some ⟨xb, xo, none⟩) m cap (bytesL m f) := by
    have h := hI.upto m (by omega)
    have h2 := bytes_cut n f 0 m (by omega)
    rw [List.drop_zero, show (fun i => f (0 + i)) = f by funext i; rw [Nat.zero_add]] at h2
    rw [h2] at h
    exact h
  have hTl : Ints .u8 w (some ⟨xb, xo + m, none⟩) 32 (cap - m) (bytesL 32 (fun i => f (m + i))) := by
    have h := hI.cut2 m n (by omega) (Nat.le_refl n)
    rw [show cutAddr (some ⟨xb, xo, none⟩) cap m = some ⟨xb, xo + m, none⟩ by unfold cutAddr; rw [if_neg (by omega), Option.map_some, add_off], show n - m = 32 by omega, bytes_cut n f m 32 (by omega)] at h
    exact h
  have hP : Blk W1 w.heap.size 36 [.slice a 32 c, .slice b 32 d] := by rw [← hW1]; exact Blk.new w 36 _
  rw [hW1] at B1
  have hB1 := hB.keep B1
  have hH1 := hHd.keep B1
  have hT1 := hTl.keep B1
  have hG1 := hG.keep B1 (Nat.le_refl _)
  have hokH := Lib.hid hok
  have hnH := Lib.hid hn
  have hmH := Lib.hid hmn
  have hcH := Lib.hid hc
  go_enter Tryz.func46, Tryz.ntmps46
  clear hB hHd hTl hI hG hok
  go_wp2_with fail
  refine (cut_any xb xo m n cap W1 hmH.out hcH.out (by have := hnH.out; omega)).mono ?_
  rintro e w2 ⟨rfl, b2⟩
  have B2 := B1.trans (b2.mono B1.size)
  have hP2 := (hP.keep b2 hP.lt).cell 1
  have hB2 := hB1.keep b2
  have hH2 := hH1.keep b2
  have hT2 := hT1.keep b2
  have hG2 := hG1.keep b2 (Nat.le_refl _)
  have B2H := Lib.hid B2
  have hP2 : w2.cell? ⟨w.heap.size, 1, none⟩ = some (.slice b 32 d) := hP2
  clear hW1 hP hB1 hH1 hT1 hG1 B1 b2 hc hn hmn B2
  have hPt := one_part w2 _ _ _ _ hH2 24
  have b3 := below1 w2 (.cells #[.slice (some ⟨xb, xo, none⟩) m cap] 24)
  have hB3 := hB2.keep b3
  have hT3 := hT2.keep b3
  have hG3 := hG2.keep b3 (Nat.le_refl _)
  have hPtH := Lib.hid hPt
  clear hPt hB2 hH2 hT2 hG2
  go_wp2_with fail
  refine (check_any b 32 d (sealB id) (some ⟨xb, xo + m, none⟩) 32 (cap - m) (bytesL 32 (fun i => f (m + i))) _ 1 1 [bytesL m f] _ hG3 hB3 (sealB_range id) (by decide) hT3 (bytesL_range (fun i => hf (m + i)) 32) (by unfold maxLen; decide) hPtH.out (by intro p hp x hx; obtain rfl := List.mem_singleton.1 hp; exact bytesL_range hf m x hx) (by simp [bytesL_len]; have := hnH.out; have := hmH.out; omega) (by decide)).mono ?_
  rintro e w5 ⟨rfl, b5⟩
  have hE : decide (bytesL 32 (fun i => f (m + i)) = tagOf (sealB id) [bytesL m f].flatten) = ok := by
    rw [← hokH.out, show [bytesL m f].flatten = bytesL m f by simp]
    rfl
  rw [hE]
  have B5 := Lib.hid (B2H.out.trans ((b3.trans (b5.mono b3.size)).mono B2H.out.size))
  clear hE b5 hB3 hT3 hG3 b3
  go_wp2
  go_ret
  exact ⟨rfl, B5.out⟩
end Go.Proofs.YtagacpjeooaapaaGreatDoor

/-
  What package seal's Seal comes to: the document's own words. New memory alone is written. Conditions: bytes below 256; the package's variables of sha hold the constants and the starts.
-/
namespace Go.Proofs.YtagacpjeooaapaaGreatDoor
open Go.RowKit

set_option maxRecDepth 100000 in
set_option maxHeartbeats 1000000 in
theorem seal_long (id : Nat → Nat) (a : Option Addr) (n cap : Nat) (w : World) (hn : 568 < n) :
    Calls Tryz.prog 6 #[.agg (rowN 32 id).toArray, .slice a n cap] w fun e w' => e = .returned (.tuple #[.slice none 0 0, .int .i64 3]) ∧ Below w.heap.size w w' := by
  have hni : (568 : Int) < (n : Int) := by omega
  obtain ⟨g, hg⟩ : ∃ g, w.heap.size = g := ⟨_, rfl⟩
  have hx0 : Blk (w.alloc (.cells (rowN 32 id).toArray 23)) w.heap.size 23 (rowN 32 id) := Blk.new w _ _
  have hB0 := below1 w (.cells (rowN 32 id).toArray 23)
  obtain ⟨W0, hW0⟩ : ∃ W0, w.alloc (.cells (rowN 32 id).toArray 23) = W0 := ⟨_, rfl⟩
  rw [hW0] at hx0 hB0
  go_enter Tryz.func6, Tryz.ntmps6
  go_wp2_with ((with_reducible refine wpList_box_blk rfl 23 (.tmp 0) rfl (rowN 32 id) ?_ ?_); rfl; refine RowKit.Hid.out ?_)
  refine Lib.hid ?_
  rw [hg] at hx0 hB0
  have hgH := Lib.hid hg
  clear hW0 hg
  clear hn
  go_wp2_with fail
  refine (room_any _).mono ?_
  rintro e w' ⟨rfl, rfl⟩
  go_wp2
  go_ret2
  refine ⟨rfl, ?_⟩
  rw [hgH.out]
  exact hB0

set_option maxRecDepth 100000 in
set_option maxHeartbeats 1000000 in
theorem seal_ok (id : Nat → Nat) (a : Option Addr) (n cap : Nat) (f : Nat → Nat) (w : World) (hG : Glob w) (hid : By id) (hf : By f) (hI : Ints .u8 w a n cap (bytesL n f)) (hn : n ≤ 568) :
    Calls Tryz.prog 6 #[.agg (rowN 32 id).toArray, .slice a n cap] w fun e w' => ∃ b c, e = .returned (.tuple #[.slice b (n + 32) c, .int .i64 0]) ∧ w'.ownsRow w.heap.size 5 1 (.slice b (n + 32) c) (n + 32) (rowN n (sealM id f) ++ (sealT id n (sealM id f)).map (Value.int .u8)) ∧ Below w.heap.size w w' := by
  obtain ⟨i0, hi, hz0, hz1, hz2⟩ := info_u8
  have hni : ¬ (568 : Int) < (n : Int) := by omega
  obtain ⟨g, hg⟩ : ∃ g, w.heap.size = g := ⟨_, rfl⟩
  have hx0 : Blk (w.alloc (.cells (rowN 32 id).toArray 23)) w.heap.size 23 (rowN 32 id) := Blk.new w _ _
  have hB0 := below1 w (.cells (rowN 32 id).toArray 23)
  obtain ⟨W0, hW0⟩ : ∃ W0, w.alloc (.cells (rowN 32 id).toArray 23) = W0 := ⟨_, rfl⟩
  rw [hW0] at hx0 hB0
  have hI0 : Ints .u8 W0 a n cap (bytesL n f) := hI.keep hB0
  have hG0 : Glob W0 := hG.keep hB0 (Nat.le_refl _)
  go_enter Tryz.func6, Tryz.ntmps6
  go_wp2_with ((with_reducible refine wpList_box_blk rfl 23 (.tmp 0) rfl (rowN 32 id) ?_ ?_); rfl; refine RowKit.Hid.out ?_)
  refine Lib.hid ?_
  rw [hg] at hx0 hB0
  have hgH := Lib.hid hg
  clear hW0 hg
  have hnH := Lib.hid hn
  clear hn hI hG
  go_wp2_with fail
  refine (room_any _).mono ?_
  rintro e w' ⟨rfl, rfl⟩
  go_wp2_with ((refine wpList_load_blk rfl 23 (.tmp 2) rfl ?_ hx0 rowId (rowN_len 32 id) ?_); rfl)
  refine (partsOf_any id W0 hG0 hid).mono ?_
  rintro e w1 ⟨ka, kac, kb', kbc, rfl, hA, hBk, b1⟩
  have hI1 := hI0.keep b1
  have hG1 := hG0.keep b1 (Nat.le_refl _)
  have hB1 := hB0.trans (b1.mono (Nat.le_of_lt hx0.lt))
  have hg1 : g ≤ w1.heap.size := Nat.le_trans (Nat.le_of_lt hx0.lt) b1.size
  clear hx0 hB0 hI0 b1 hG0
  go_wp2_with (first
    | (with_reducible refine wpList_alloc_blk rfl 36 rfl zeroParts ?_)
    | (refine wpList_store_part (g := w1.heap.size) (off := 0) (t := 36) (cur := [.slice none 0 0, .slice none 0 0]) (cs := [.slice ka 32 kac, .slice kb' 32 kbc]) rfl 36 (.tmp 6) (.tmp 14) rfl rfl rfl (Blk.new w1 _ _) rowParts (by simp) (by simp [Value.oneCell']) ?_
       intro w2 hk2 hg2
       refine RowKit.Hid.out ?_))
  refine Lib.hid ?_
  have hk2 := hk2.cast (overV_all _ _ (by rfl))
  have b2 : Below w1.heap.size w1 w2 := (below1 w1 _).trans (below_of_grown hg2 (Nat.le_refl _) (by rw [size1]; omega))
  have hA2 := hA.keep b2
  have hBk2 := hBk.keep b2
  have hI2 := hI1.keep b2
  have hG2 := hG1.keep b2 (Nat.le_refl _)
  have hB2 := hB1.trans (b2.mono hg1)
  have hg2' := Nat.le_trans hg1 b2.size
  obtain ⟨k, hk⟩ : ∃ k, w1.heap.size = k := ⟨_, rfl⟩
  rw [hk] at hk2 ⊢
  clear hA hBk hI1 hG1 hB1 hg1 b2 hg2 hk
  go_wp2_with ((refine wpList_load_blk rfl 36 (.tmp 6) rfl ?_ hk2 rowParts rfl ?_); rfl)
  refine (masked_any id ka kb' a kac kbc n cap f w2 hA2 hf hI2 (by have := hnH.out; omega)).mono ?_
  rintro e w3 ⟨xb, xc, rfl, ho, b3⟩
  have ho : w3.ownsRow g 5 1 (.slice xb n xc) n (rowN n (sealM id f)) := own_base ho hg2'
  have hXi := own_intsL ho
  have hBk3 := hBk2.keep b3
  have hG3 := hG2.keep b3 (Nat.le_refl _)
  have c1 : w3.cell? ⟨k, 1, none⟩ = some (.slice kb' 32 kbc) := (hk2.keep b3 hk2.lt).cell 1
  have hB3 := hB2.trans (b3.mono hg2')
  have hg3 : g ≤ w3.heap.size := Nat.le_trans hg2' b3.size
  clear hA2 hBk2 hI2 hG2 hB2 hg2' hk2 b3
  have hP := one_part w3 _ _ _ _ hXi 24
  have b4 := below1 w3 (.cells #[.slice xb n xc] 24)
  have hBk4 := hBk3.keep b4
  have hG4 := hG3.keep b4 (Nat.le_refl _)
  have ho4 := own_keep ho b4
  have hB4 := hB3.trans (b4.mono hg3)
  have hg4 := Nat.le_trans hg3 b4.size
  have hPH := Lib.hid hP
  have hofH := Lib.hid ho4
  have hB4H := Lib.hid hB4
  have hg4H := Lib.hid hg4
  clear hP hBk3 hG3 ho4 ho hXi hB3 hg3 b4 hB4 hg4
  go_wp2_with fail
  refine (of_any kb' 32 kbc (sealB id) _ 1 1 [bytesL n (sealM id f)] _ hG4 hBk4 (sealB_range id) (by decide) hPH.out (by intro p hp x hx; obtain rfl := List.mem_singleton.1 hp; exact bytesL_range (sealM_by id hf) n x hx) (by simp [bytesL_len]; have := hnH.out; omega) (by decide)).mono ?_
  rintro e w5 ⟨rfl, b5⟩
  rw [show [bytesL n (sealM id f)].flatten = bytesL n (sealM id f) by simp]
  have ho5 := own_keep hofH.out b5
  have hB5 := Lib.hid (hB4H.out.trans (b5.mono hg4H.out))
  have hg5 := Lib.hid (Nat.le_trans hg4H.out b5.size)
  obtain ⟨TG, hTe⟩ : ∃ TG, tagOf (sealB id) (bytesL n (sealM id f)) = TG := ⟨_, rfl⟩
  have hTG : TG.length = 32 := by rw [← hTe]; exact tagOf_length _ _
  have hTeH : Hid (sealT id n (sealM id f) = TG) := Lib.hid hTe
  rw [hTe]
  clear hTe hPH hofH hB4H hg4H hBk4 hG4 b5 c1
  obtain ⟨X, hX⟩ : ∃ X, TG.map (Value.int .u8) = X := ⟨_, rfl⟩
  have hXl : X.length = 32 := by rw [← hX, List.length_map, hTG]
  have HI : IsRow Tryz.prog 23 X.length := by rw [hXl]; exact rowId
  have HO1 := Lib.hid (show ∀ v ∈ X, v.oneCell' = true by rw [← hX]; exact ints_oneCell' _ _)
  have HOF := Lib.hid (show 0 + X.length ≤ (zb 32).length by rw [hXl]; decide)
  have hov := Lib.hid (overV_all (zb 32) X (by rw [hXl]; rfl))
  rw [hX]
  have hXH := Lib.hid hX
  have hTGH := Lib.hid hTG
  clear hX hXl hTG
  have ho5H := Lib.hid ho5
  clear ho5
  go_wp2_with (first
    | (with_reducible refine wpList_alloc_blk rfl 23 rfl zeroId ?_)
    | (refine wpList_store_part (g := w5.heap.size) (off := 0) (t := 23) (cur := zb 32) (cs := X) rfl 23 (.tmp 8) (.tmp 22) rfl ?_ ?_ (Blk.new w5 _ (zb 32)) HI ?_ HO1.out ?_
       rfl
       rfl
       exact HOF.out
       intro w6 hk6 hg6
       refine RowKit.Hid.out ?_))
  refine Lib.hid ?_
  rw [hov.out, ← hXH.out] at hk6
  have b6 : Below w5.heap.size w5 w6 := (below1 w5 _).trans (below_of_grown hg6 (Nat.le_refl _) (by rw [size1]; omega))
  have hI6 : Ints .u8 w6 (some ⟨w5.heap.size, 0, none⟩) 32 32 TG := Ints.of_blk hk6 hTGH.out (Nat.le_refl _) (fun i hi => by rw [Nat.zero_add]; exact getElem?_mapInt _ _ _ (by rw [hTGH.out]; exact hi))
  have ho6 := own_keep ho5H.out b6
  have hB6 := Lib.hid (hB5.out.trans (b6.mono hg5.out))
  have hg6s : g ≤ w6.heap.size := Nat.le_trans hg5.out b6.size
  obtain ⟨q, hq⟩ : ∃ q, w5.heap.size = q := ⟨_, rfl⟩
  rw [hq] at hI6 ⊢
  have hg6H := Lib.hid hg6s
  clear hk6 hg6 b6 ho5H HI HO1 HOF hov hq hg6s
  go_wp2_with (at_builtin; refine wpList_append_ints rfl (.tmp 23) (.tmp 24) 24 rfl g 5 i0 (.int .u8 0) 1 Tryz.underlying24 hi hz0 hz1 hz2 rfl rfl ho6 rfl hI6 ?_ ?_ hg6H.out ?_; (have := hnH.out; unfold maxLen; omega); (have := hnH.out; omega); intro v7 w7 hown7 hg7; refine RowKit.Hid.out ?_)
  refine Lib.hid ?_
  have hB7 := hB6.out.grown hg7 hg6H.out (fun q hq => (ho6.lt q hq).1)
  obtain ⟨rb, rc, hv⟩ := own_slice hown7
  subst hv
  rw [← hTeH.out] at hown7
  clear hg7 ho6 hI6
  go_wp2
  go_ret2
  refine ⟨rb, rc, rfl, ?_, ?_⟩
  · rw [hgH.out]; exact hown7
  · rw [hgH.out]; exact hB7
end Go.Proofs.YtagacpjeooaapaaGreatDoor
