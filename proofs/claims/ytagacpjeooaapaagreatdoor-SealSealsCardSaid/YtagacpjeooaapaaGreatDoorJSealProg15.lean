/-
  Texts of stages that were proved on their own, joined: SealLaw. Each begins with its own words.
-/
import Derived.Test.YtagacpjeooaapaaGreatDoorJSealProg11
import Derived.Test.YtagacpjeooaapaaGreatDoorJSealProg13
import Derived.Test.YtagacpjeooaapaaGreatDoorJSealProg14

/-
  Layer 8's statements, out of what the program's calls come to ('SealProg', an assumption of these texts: it is proved of the landed code elsewhere): the example, and the law SealSeals. New memory alone is written. Conditions: bytes below 256.
-/
namespace Go.Proofs.YtagacpjeooaapaaGreatDoor
open Go.RowKit

/-- The package's variables hold what is laid there. -/
def GE (w : World) : Prop := Glob w ∧ ErrT w
theorem GE.keep {w w' : World} (h : GE w) (hb : Below w.heap.size w w') : GE w' := ⟨h.1.keep hb (Nat.le_refl _), h.2.keep hb (World.block_lt_of_cell? w _ h.2)⟩
/-- The blob of bytes. -/
def blobL (id : Nat → Nat) (n : Nat) (f : Nat → Nat) : List Int := bytesL n (sealM id f) ++ sealT id n (sealM id f)
theorem blobL_len (id : Nat → Nat) (n : Nat) (f : Nat → Nat) : (blobL id n f).length = n + 32 := by unfold blobL; rw [List.length_append, bytesL_len, sealT_len]
theorem wf_byte {x : Int} (h : 0 ≤ x ∧ x < 256) : (Lit.int .u8 x).wf = true := by
  simp only [Lit.wf, Bool.and_eq_true, decide_eq_true_eq]
  have h1 : IntKind.u8.min = 0 := rfl
  have h2 : IntKind.u8.max = 255 := rfl
  omega
theorem bytes_head (n m : Nat) (f : Nat → Nat) : (bytesL (n + m) f).take n = bytesL n f := by
  have h := bytes_cut (n + m) f 0 n (by omega)
  rw [List.drop_zero, show (fun i => f (0 + i)) = f by funext i; rw [Nat.zero_add]] at h
  exact h
theorem bytes_tail (n m : Nat) (f : Nat → Nat) : (bytesL (n + m) f).drop n = bytesL m (fun i => f (n + i)) := by
  have h := bytes_cut (n + m) f n m (Nat.le_refl _)
  rw [List.take_of_length_le (by rw [List.length_drop, bytesL_len]; omega)] at h
  exact h
theorem bytes_eq {n : Nat} {f h : Nat → Nat} (e : bytesL n f = bytesL n h) : Ag n f h := rowN_inj (by rw [← bytesL_row, ← bytesL_row, e])
theorem blob_fn (id f : Nat → Nat) (n : Nat) (hf : By f) : ∃ fb, By fb ∧ blobL id n f = bytesL (n + 32) fb ∧ sealT id n fb = bytesL 32 (fun i => fb (n + i)) ∧ bytesL n (sealM id fb) = bytesL n f := by
  obtain ⟨fb, hb, he⟩ := bytes_fn (blobL id n f) (n + 32) (blobL_len id n f) (fun x hx => wf_byte (by
    rcases List.mem_append.1 hx with hx | hx
    · exact bytesL_range (sealM_by id hf) n x hx
    · exact sealT_range id n _ x hx))
  have h1 : bytesL n fb = bytesL n (sealM id f) := by
    rw [← bytes_head n 32 fb, ← he]
    unfold blobL
    rw [List.take_append_of_le_length (by rw [bytesL_len]; exact Nat.le_refl _), List.take_of_length_le (by rw [bytesL_len]; exact Nat.le_refl _)]
  have h2 : bytesL 32 (fun i => fb (n + i)) = sealT id n (sealM id f) := by
    rw [← bytes_tail n 32 fb, ← he]
    unfold blobL
    rw [List.drop_append, bytesL_len, Nat.sub_self, List.drop_zero, List.drop_of_length_le (by rw [bytesL_len]; exact Nat.le_refl _), List.nil_append]
  refine ⟨fb, hb, he, ?_, ?_⟩
  · rw [h2]
    unfold sealT
    rw [h1]
  · have h3 : Ag n fb (sealM id f) := bytes_eq h1
    refine bytesL_congr (fun i hi => ?_)
    have h4 : sealM id fb i = sealM id (sealM id f) i := by
      unfold sealM mk
      have := h3 i hi
      unfold sealM mk at this
      rw [this]
    rw [h4, sealM_back]

/-- What the program's calls come to. -/
structure SealProg : Prop where
  room : ∀ w, Calls Tryz.prog 12 #[] w fun e w' => e = .returned (.int .i64 568) ∧ w = w'
  hint : ∀ (id : Nat → Nat) w, By id → Calls Tryz.prog 8 #[.agg (rowN 32 id).toArray] w fun e w' => e = .returned (.agg (rowN 16 id).toArray) ∧ Below w.heap.size w w'
  key : ∀ (id : Nat → Nat) w, GE w → By id → Calls Tryz.prog 10 #[.agg (rowN 32 id).toArray] w fun e w' => e = .returned (.agg ((sealK id).map (Value.int .u8)).toArray) ∧ Below w.heap.size w w'
  long : ∀ (id : Nat → Nat) a n cap w, GE w → 568 < n → n ≤ 4294967296 → Calls Tryz.prog 6 #[.agg (rowN 32 id).toArray, .slice a n cap] w fun e w' => ∃ b c, e = .returned (.tuple #[.slice b 0 c, .int .i64 3]) ∧ Below w.heap.size w w'
  ok : ∀ (id : Nat → Nat) a n cap (f : Nat → Nat) w, GE w → By id → By f → Ints .u8 w a n cap (bytesL n f) → n ≤ 568 →
    Calls Tryz.prog 6 #[.agg (rowN 32 id).toArray, .slice a n cap] w fun e w' => ∃ b c, e = .returned (.tuple #[.slice b (n + 32) c, .int .i64 0]) ∧ Ints .u8 w' b (n + 32) c (blobL id n f) ∧ Below w.heap.size w w'
  opens : ∀ (id : Nat → Nat) a m cap (f : Nat → Nat) w, GE w → By id → By f → Ints .u8 w a (m + 32) cap (bytesL (m + 32) f) → m ≤ 568 → sealT id m f = bytesL 32 (fun i => f (m + i)) →
    Calls Tryz.prog 13 #[.agg (rowN 32 id).toArray, .slice a (m + 32) cap] w fun e w' => ∃ b c, e = .returned (.tuple #[.slice b m c, .int .i64 0]) ∧ Ints .u8 w' b m c (bytesL m (sealM id f)) ∧ Below w.heap.size w w'
  shut : ∀ (id : Nat → Nat) a m cap (f : Nat → Nat) w, GE w → By id → By f → Ints .u8 w a (m + 32) cap (bytesL (m + 32) f) → m ≤ 568 → sealT id m f ≠ bytesL 32 (fun i => f (m + i)) →
    Calls Tryz.prog 13 #[.agg (rowN 32 id).toArray, .slice a (m + 32) cap] w fun e w' => ∃ b c, e = .returned (.tuple #[.slice b 0 c, .int .i64 8]) ∧ Below w.heap.size w w'
  short : ∀ (id : Nat → Nat) a n cap w, GE w → By id → n < 32 → Calls Tryz.prog 13 #[.agg (rowN 32 id).toArray, .slice a n cap] w fun e w' => ∃ b c, e = .returned (.tuple #[.slice b 0 c, .int .i64 2]) ∧ Below w.heap.size w w'
  longer : ∀ (id : Nat → Nat) a n cap w, GE w → By id → 600 < n → n ≤ 4294967296 → Calls Tryz.prog 13 #[.agg (rowN 32 id).toArray, .slice a n cap] w fun e w' => ∃ b c, e = .returned (.tuple #[.slice b 0 c, .int .i64 3]) ∧ Below w.heap.size w w'

theorem zeroId32 : Zero Tryz.prog 23 (rowN 32 zf) := by unfold Zero; kernel_rfl
theorem zf_by : By zf := fun _ => (by decide : 0 < 256)

set_option maxRecDepth 100000 in
set_option maxHeartbeats 1000000 in
theorem sealAlive_any (SP : SealProg) (w : World) (hG : GE w) : Calls Tryz.prog 5 #[] w fun e w' => e = .returned (.bool true) ∧ Below w.heap.size w w' := by
  obtain ⟨g, hg⟩ : ∃ g, w.heap.size = g := ⟨_, rfl⟩
  have hx0 : Blk (w.alloc (.cells (rowN 32 zf).toArray 23)) w.heap.size 23 (rowN 32 zf) := Blk.new w _ _
  have hB0 := below1 w (.cells (rowN 32 zf).toArray 23)
  obtain ⟨W0, hW0⟩ : ∃ W0, w.alloc (.cells (rowN 32 zf).toArray 23) = W0 := ⟨_, rfl⟩
  rw [hW0] at hx0 hB0
  have hG0 := hG.keep hB0
  go_enter Tryz.func5, Tryz.ntmps5
  go_wp2_with ((with_reducible refine wpList_alloc_blk rfl 23 rfl zeroId32 ?_); refine RowKit.Hid.out ?_)
  refine Lib.hid ?_
  rw [hg] at hx0 hB0
  have hgH := Lib.hid hg
  clear hW0 hg hG
  go_wp2_with ((refine wpList_load_blk rfl 23 (.tmp 1) rfl ?_ hx0 rowId (rowN_len 32 zf) ?_); rfl)
  refine (SP.ok zf none 0 0 zf W0 hG0 zf_by zf_by ⟨rfl, Nat.le_refl _, .inl rfl⟩ (by decide)).mono ?_
  rintro e w1 ⟨b, c, rfl, hI, b1⟩
  obtain ⟨fb, hfb, hbe, htag, hback⟩ := blob_fn zf zf 0 zf_by
  rw [hbe] at hI
  have hx1 := hx0.keep b1 hx0.lt
  have hG1 := hG0.keep b1
  have hB1 := hB0.trans (b1.mono (Nat.le_of_lt hx0.lt))
  clear hx0 hB0 hG0 b1 hbe
  go_wp2_with ((refine wpList_load_blk rfl 23 (.tmp 1) rfl ?_ hx1 rowId (rowN_len 32 zf) ?_); rfl)
  refine (SP.opens zf b 0 c fb w1 hG1 zf_by hfb hI (by decide) htag).mono ?_
  rintro e w2 ⟨b', c', rfl, hI2, b2⟩
  have hB2 := Lib.hid (hB1.trans (b2.mono (Nat.le_of_lt hx1.lt)))
  clear hx1 hB1 hG1 b2 hI2 hI
  go_wp2_with fail
  refine (SP.room w2).mono ?_
  rintro e w' ⟨rfl, rfl⟩
  go_wp2
  go_ret
  refine ⟨rfl, ?_⟩
  rw [hgH.out]
  exact hB2.out

theorem rowId32 (f : Nat → Nat) : IsRow Tryz.prog 23 (rowN 32 f).length := by rw [rowN_len]; exact rowId
theorem noGuardHint : Tryz.prog.eqGuardType Tryz.prog.depth 30 = false := by kernel_rfl
theorem noGuardId4 : Tryz.prog.eqGuardType Tryz.prog.depth 23 = false := by kernel_rfl
theorem sameHint (f : Nat → Nat) (w : World) : (Op.equalIn 10000 30 (.agg (rowN 16 f).toArray) (.agg (rowN 16 f).toArray)).run Tryz.prog w = .ok true w := by
  rw [← bytesL_row]
  have h := run_equalIn_ints (P := Tryz.prog) w 9998 30 5 16 .u8 Tryz.underlying30 Tryz.underlying5 sizeU8' (bytesL 16 f) (bytesL 16 f) (bytesL_len 16 f) (bytesL_len 16 f)
  rw [h]; simp
theorem sameId (zs : List Int) (hl : zs.length = 32) (w : World) : (Op.equalIn 10000 23 (.agg (zs.map (Value.int .u8)).toArray) (.agg (zs.map (Value.int .u8)).toArray)).run Tryz.prog w = .ok true w := by
  have h := run_equalIn_ints (P := Tryz.prog) w 9998 23 5 32 .u8 Tryz.underlying23 Tryz.underlying5 sizeU8' zs zs hl hl
  rw [h]; simp

set_option maxRecDepth 100000 in
set_option maxHeartbeats 2000000 in
theorem sealSeals_any (SP : SealProg) (id f : Nat → Nat) (a : Option Addr) (n cap : Nat) (w : World) (hG : GE w) (hid : By id) (hf : By f) (hI : Ints .u8 w a n cap (bytesL n f)) :
    Calls Tryz.prog 3 #[.agg (rowN 32 id).toArray, .slice a n cap] w fun e w' => e = .returned (.bool true) ∧ Below w.heap.size w w' := by
  obtain ⟨g, hg⟩ : ∃ g, w.heap.size = g := ⟨_, rfl⟩
  have hx0 : Blk (w.alloc (.cells (rowN 32 id).toArray 23)) w.heap.size 23 (rowN 32 id) := Blk.new w _ _
  have hB0 := below1 w (.cells (rowN 32 id).toArray 23)
  obtain ⟨W0, hW0⟩ : ∃ W0, w.alloc (.cells (rowN 32 id).toArray 23) = W0 := ⟨_, rfl⟩
  rw [hW0] at hx0 hB0
  have hG0 := hG.keep hB0
  have hI0 : Ints .u8 W0 a n cap (bytesL n f) := hI.keep hB0
  obtain ⟨KL, hKL⟩ : ∃ KL, sealK id = KL := ⟨_, rfl⟩
  have hKl := Lib.hid (show KL.length = 32 by rw [← hKL]; exact sealK_len id)
  have CK := Lib.hid (show ∀ w', GE w' → Calls Tryz.prog 10 #[.agg (rowN 32 id).toArray] w' fun e w'' => e = .returned (.agg (KL.map (Value.int .u8)).toArray) ∧ Below w'.heap.size w' w'' by rw [← hKL]; exact fun w' h => SP.key id w' h hid)
  have CR := Lib.hid (show ∀ w', Calls Tryz.prog 11 #[.agg (rowN 32 id).toArray] w' fun e w'' => e = .returned (.agg (KL.map (Value.int .u8)).toArray) ∧ Below w'.heap.size w' w'' by rw [← hKL]; exact fun w' => rKey_any id w' hid)
  clear hKL
  obtain ⟨BL, hBL⟩ : ∃ BL, blobL id n f = BL := ⟨_, rfl⟩
  have CSL := Lib.hid (show n ≤ 568 → ∀ w', GE w' → Ints .u8 w' a n cap (bytesL n f) → Calls Tryz.prog 6 #[.agg (rowN 32 id).toArray, .slice a n cap] w' fun e w'' => ∃ b c, e = .returned (.tuple #[.slice b (n + 32) c, .int .i64 0]) ∧ Ints .u8 w'' b (n + 32) c BL ∧ Below w'.heap.size w' w'' by
    rw [← hBL]; exact fun hn w' hg hi => SP.ok id a n cap f w' hg hid hf hi hn)
  have CRS := Lib.hid (show n ≤ 568 → ∀ w', Ints .u8 w' a n cap (bytesL n f) → Calls Tryz.prog 7 #[.agg (rowN 32 id).toArray, .slice a n cap] w' fun e w'' => ∃ b c, e = .returned (.tuple #[.slice b (n + 32) c, .int .i64 0]) ∧ Ints .u8 w'' b (n + 32) c BL ∧ Below w'.heap.size w' w'' by
    rw [← hBL]
    intro hn w' hi
    refine (rSeal_any id a n cap f w' hid hf hi hn).mono ?_
    rintro e w'' ⟨b, c, rfl, ho, hb⟩
    refine ⟨b, c, rfl, ?_, hb⟩
    obtain ⟨a', c', hv, hi⟩ := Ints.of_owns (xs := blobL id n f) (by unfold blobL; rw [List.map_append, bytesL_row]; exact ho)
    injection hv with h1 _ h2
    subst h1; subst h2
    exact hi)
  have COP := Lib.hid (show n ≤ 568 → ∀ w' b c, GE w' → Ints .u8 w' b (n + 32) c BL → Calls Tryz.prog 13 #[.agg (rowN 32 id).toArray, .slice b (n + 32) c] w' fun e w'' => ∃ b' c', e = .returned (.tuple #[.slice b' n c', .int .i64 0]) ∧ Ints .u8 w'' b' n c' (bytesL n f) ∧ Below w'.heap.size w' w'' by
    rw [← hBL]
    intro hn w' b c hg hi
    obtain ⟨fb, hfb, hbe, htag, hback⟩ := blob_fn id f n hf
    rw [hbe] at hi
    rw [← hback]
    exact SP.opens id b n c fb w' hg hid hfb hi hn htag)
  clear hBL
  obtain ⟨PL, hPL⟩ : ∃ PL, bytesL n f = PL := ⟨_, rfl⟩
  rw [hPL] at hI0 hI CSL CRS COP
  clear hPL
  go_enter Tryz.func3, Tryz.ntmps3
  go_wp2_with ((with_reducible refine wpList_box_blk rfl 23 (.tmp 0) rfl (rowN 32 id) ?_ ?_); rfl; refine RowKit.Hid.out ?_)
  refine Lib.hid ?_
  rw [hg] at hx0 hB0
  have hgH := Lib.hid hg
  clear hW0 hg hG hI
  by_cases hbig : 1000 < n
  · have hbi : (1000 : Int) < (n : Int) := by omega
    clear hbig
    go_wp2_with fail
    refine (sealAlive_any SP W0 hG0).mono ?_
    rintro e w9 ⟨rfl, b9⟩
    go_wp2
    go_ret
    refine ⟨rfl, ?_⟩
    rw [hgH.out]
    exact hB0.trans (b9.mono (Nat.le_of_lt hx0.lt))
  · have hbi : ¬ (1000 : Int) < (n : Int) := by omega
    have hn0 : n ≤ 1000 := by omega
    have hn0H := Lib.hid hn0
    clear hbig hn0
    have fs := hI0.string 24 9 5 Tryz.underlying24 Tryz.underlying5 Tryz.underlying9
    by_cases hl : n ≤ 568
    · have hlH := Lib.hid hl
      clear hl
      go_wp2_with ((refine wpList_load_blk rfl 23 (.tmp 2) rfl ?_ hx0 rowId (rowN_len 32 id) ?_); rfl)
      clear fs
      refine (CSL.out hlH.out W0 hG0 hI0).mono ?_
      rintro e w1 ⟨b, c, rfl, hb, b1⟩
      have hx1 := hx0.keep b1 hx0.lt
      have hG1 := hG0.keep b1
      have hI1 := hI0.keep b1
      have hB1 := hB0.trans (b1.mono (Nat.le_of_lt hx0.lt))
      clear hx0 hG0 hI0 hB0 b1
      go_wp2_with ((refine wpList_load_blk rfl 23 (.tmp 2) rfl ?_ hx1 rowId (rowN_len 32 id) ?_); rfl)
      refine (CRS.out hlH.out w1 hI1).mono ?_
      rintro e w2 ⟨rb, rc, rfl, hR, b2⟩
      have hx2 := hx1.keep b2 hx1.lt
      have hG2 := hG1.keep b2
      have hI2 := hI1.keep b2
      have hb2 := hb.keep b2
      have hB2 := hB1.trans (b2.mono (Nat.le_of_lt hx1.lt))
      have XX := Lib.hid (fun w' (h : Below w2.heap.size w2 w') => (hx2.keep h hx2.lt : Blk w' g 23 (rowN 32 id)))
      have II := Lib.hid (fun w' (h : Below w2.heap.size w2 w') => hI2.keep h)
      have BI := Lib.hid (fun w' (h : Below w2.heap.size w2 w') => hb2.keep h)
      have FB := Lib.hid (fun w' (h : Below w2.heap.size w2 w') => (hb2.keep h).string 24 9 5 Tryz.underlying24 Tryz.underlying5 Tryz.underlying9)
      have FR := Lib.hid (fun w' (h : Below w2.heap.size w2 w') => (hR.keep h).string 24 9 5 Tryz.underlying24 Tryz.underlying5 Tryz.underlying9)
      have FP := Lib.hid (fun w' (h : Below w2.heap.size w2 w') => (hI2.keep h).string 24 9 5 Tryz.underlying24 Tryz.underlying5 Tryz.underlying9)
      have hB2H := Lib.hid hB2
      have hg2H := Lib.hid (Nat.le_of_lt hx2.lt)
      clear hx1 hG1 hI1 hb hB1 hR hx2 hI2 hb2 hB2 b2
      have hngH := noGuardHint
      have hngI := noGuardId4
      have sameH := sameHint id
      have sameK := sameId KL hKl.out
      have hS : Below w2.heap.size w2 w2.drew := Below.drew (Below.refl _ _)
      have GG := Lib.hid (fun w' (h : Below w2.heap.size w2 w') => hG2.keep h)
      go_wp2_with fail
      refine region_seqS (fun w' => Below w2.heap.size w2 w') (by kernel_rfl) hS ?_
      simp only [pairs, Nat.reduceAdd]
      repeat (first
        | (refine SeqS.take (v := .agg (rowN 32 id).toArray) (by first | assumption | trivial) (by kernel_rfl) (by decide +kernel) (by decide +kernel) (yields_blk (by rfl) 23 (.tmp 2) rfl rfl (fun w' h => XX.out w' h) (rowId32 id)) ?_
           simp only [Act.put, List.setIfInBounds_toArray, List.set_cons_zero, List.set_cons_succ])
        | (refine SeqS.take (v := ?_) (by first | assumption | trivial) (by kernel_rfl) (by decide +kernel) (by decide +kernel) (Or.inl ⟨by rfl, ?_⟩) ?_
           rotate_left
           focus
             intro w' hb'
             go_simp
             with_reducible rfl
           simp only [Act.put, List.setIfInBounds_toArray, List.set_cons_zero, List.set_cons_succ])
        | (refine SeqS.take (v := ?_) (by first | assumption | trivial) (by kernel_rfl) (by decide +kernel) (by decide +kernel) (Or.inl ⟨by rfl, ?_⟩) ?_
           rotate_left
           focus
             intro w' hb'
             have d0 := FB.out w' hb'
             go_simp
             with_reducible rfl
           simp only [Act.put, List.setIfInBounds_toArray, List.set_cons_zero, List.set_cons_succ])
        | (refine SeqS.take (v := ?_) (by first | assumption | trivial) (by kernel_rfl) (by decide +kernel) (by decide +kernel) (Or.inl ⟨by rfl, ?_⟩) ?_
           rotate_left
           focus
             intro w' hb'
             have d0 := FR.out w' hb'
             go_simp
             with_reducible rfl
           simp only [Act.put, List.setIfInBounds_toArray, List.set_cons_zero, List.set_cons_succ])
        | (refine SeqS.take (v := ?_) (by first | assumption | trivial) (by kernel_rfl) (by decide +kernel) (by decide +kernel) (Or.inl ⟨by rfl, ?_⟩) ?_
           rotate_left
           focus
             intro w' hb'
             have d0 := FP.out w' hb'
             go_simp
             with_reducible rfl
           simp only [Act.put, List.setIfInBounds_toArray, List.set_cons_zero, List.set_cons_succ])
        | (refine SeqS.take (v := undef) (by first | assumption | trivial) (by kernel_rfl) (by decide +kernel) (by decide +kernel) (Or.inr ⟨by rfl, rfl⟩) ?_
           simp only [Act.put, List.setIfInBounds_toArray, List.set_cons_zero, List.set_cons_succ])
        | (refine SeqS.take1 (v := .agg (rowN 32 id).toArray) (by first | assumption | trivial) (by kernel_rfl) (by decide +kernel) (by decide +kernel) (yields_blk (by rfl) 23 (.tmp 2) rfl rfl (fun w' h => XX.out w' h) (rowId32 id)) ?_
           simp only [Act.put, List.setIfInBounds_toArray, List.set_cons_zero, List.set_cons_succ])
        | (refine SeqS.take1 (v := ?_) (by first | assumption | trivial) (by kernel_rfl) (by decide +kernel) (by decide +kernel) (Or.inl ⟨by rfl, ?_⟩) ?_
           rotate_left
           focus
             intro w' hb'
             go_simp
             with_reducible rfl
           simp only [Act.put, List.setIfInBounds_toArray, List.set_cons_zero, List.set_cons_succ])
        | (refine SeqS.take1 (v := ?_) (by first | assumption | trivial) (by kernel_rfl) (by decide +kernel) (by decide +kernel) (Or.inl ⟨by rfl, ?_⟩) ?_
           rotate_left
           focus
             intro w' hb'
             have d0 := FB.out w' hb'
             go_simp
             with_reducible rfl
           simp only [Act.put, List.setIfInBounds_toArray, List.set_cons_zero, List.set_cons_succ])
        | (refine SeqS.take1 (v := ?_) (by first | assumption | trivial) (by kernel_rfl) (by decide +kernel) (by decide +kernel) (Or.inl ⟨by rfl, ?_⟩) ?_
           rotate_left
           focus
             intro w' hb'
             have d0 := FR.out w' hb'
             go_simp
             with_reducible rfl
           simp only [Act.put, List.setIfInBounds_toArray, List.set_cons_zero, List.set_cons_succ])
        | (refine SeqS.take1 (v := ?_) (by first | assumption | trivial) (by kernel_rfl) (by decide +kernel) (by decide +kernel) (Or.inl ⟨by rfl, ?_⟩) ?_
           rotate_left
           focus
             intro w' hb'
             have d0 := FP.out w' hb'
             go_simp
             with_reducible rfl
           simp only [Act.put, List.setIfInBounds_toArray, List.set_cons_zero, List.set_cons_succ])
        | (refine SeqS.take1 (v := undef) (by first | assumption | trivial) (by kernel_rfl) (by decide +kernel) (by decide +kernel) (Or.inr ⟨by rfl, rfl⟩) ?_
           simp only [Act.put, List.setIfInBounds_toArray, List.set_cons_zero, List.set_cons_succ])
        | (refine SeqS.take2 (v := .agg (rowN 32 id).toArray) (by first | assumption | trivial) (by kernel_rfl) (by decide +kernel) (by decide +kernel) (yields_blk (by rfl) 23 (.tmp 2) rfl rfl (fun w' h => XX.out w' h) (rowId32 id)) ?_
           simp only [Act.put, List.setIfInBounds_toArray, List.set_cons_zero, List.set_cons_succ])
        | (refine SeqS.take2 (v := ?_) (by first | assumption | trivial) (by kernel_rfl) (by decide +kernel) (by decide +kernel) (Or.inl ⟨by rfl, ?_⟩) ?_
           rotate_left
           focus
             intro w' hb'
             go_simp
             with_reducible rfl
           simp only [Act.put, List.setIfInBounds_toArray, List.set_cons_zero, List.set_cons_succ])
        | (refine SeqS.take2 (v := ?_) (by first | assumption | trivial) (by kernel_rfl) (by decide +kernel) (by decide +kernel) (Or.inl ⟨by rfl, ?_⟩) ?_
           rotate_left
           focus
             intro w' hb'
             have d0 := FB.out w' hb'
             go_simp
             with_reducible rfl
           simp only [Act.put, List.setIfInBounds_toArray, List.set_cons_zero, List.set_cons_succ])
        | (refine SeqS.take2 (v := ?_) (by first | assumption | trivial) (by kernel_rfl) (by decide +kernel) (by decide +kernel) (Or.inl ⟨by rfl, ?_⟩) ?_
           rotate_left
           focus
             intro w' hb'
             have d0 := FR.out w' hb'
             go_simp
             with_reducible rfl
           simp only [Act.put, List.setIfInBounds_toArray, List.set_cons_zero, List.set_cons_succ])
        | (refine SeqS.take2 (v := ?_) (by first | assumption | trivial) (by kernel_rfl) (by decide +kernel) (by decide +kernel) (Or.inl ⟨by rfl, ?_⟩) ?_
           rotate_left
           focus
             intro w' hb'
             have d0 := FP.out w' hb'
             go_simp
             with_reducible rfl
           simp only [Act.put, List.setIfInBounds_toArray, List.set_cons_zero, List.set_cons_succ])
        | (refine SeqS.take2 (v := undef) (by first | assumption | trivial) (by kernel_rfl) (by decide +kernel) (by decide +kernel) (Or.inr ⟨by rfl, rfl⟩) ?_
           simp only [Act.put, List.setIfInBounds_toArray, List.set_cons_zero, List.set_cons_succ])
        | (refine SeqS.take3 (v := .agg (rowN 32 id).toArray) (by first | assumption | trivial) (by kernel_rfl) (by decide +kernel) (by decide +kernel) (yields_blk (by rfl) 23 (.tmp 2) rfl rfl (fun w' h => XX.out w' h) (rowId32 id)) ?_
           simp only [Act.put, List.setIfInBounds_toArray, List.set_cons_zero, List.set_cons_succ])
        | (refine SeqS.take3 (v := ?_) (by first | assumption | trivial) (by kernel_rfl) (by decide +kernel) (by decide +kernel) (Or.inl ⟨by rfl, ?_⟩) ?_
           rotate_left
           focus
             intro w' hb'
             go_simp
             with_reducible rfl
           simp only [Act.put, List.setIfInBounds_toArray, List.set_cons_zero, List.set_cons_succ])
        | (refine SeqS.take3 (v := ?_) (by first | assumption | trivial) (by kernel_rfl) (by decide +kernel) (by decide +kernel) (Or.inl ⟨by rfl, ?_⟩) ?_
           rotate_left
           focus
             intro w' hb'
             have d0 := FB.out w' hb'
             go_simp
             with_reducible rfl
           simp only [Act.put, List.setIfInBounds_toArray, List.set_cons_zero, List.set_cons_succ])
        | (refine SeqS.take3 (v := ?_) (by first | assumption | trivial) (by kernel_rfl) (by decide +kernel) (by decide +kernel) (Or.inl ⟨by rfl, ?_⟩) ?_
           rotate_left
           focus
             intro w' hb'
             have d0 := FR.out w' hb'
             go_simp
             with_reducible rfl
           simp only [Act.put, List.setIfInBounds_toArray, List.set_cons_zero, List.set_cons_succ])
        | (refine SeqS.take3 (v := ?_) (by first | assumption | trivial) (by kernel_rfl) (by decide +kernel) (by decide +kernel) (Or.inl ⟨by rfl, ?_⟩) ?_
           rotate_left
           focus
             intro w' hb'
             have d0 := FP.out w' hb'
             go_simp
             with_reducible rfl
           simp only [Act.put, List.setIfInBounds_toArray, List.set_cons_zero, List.set_cons_succ])
        | (refine SeqS.take3 (v := undef) (by first | assumption | trivial) (by kernel_rfl) (by decide +kernel) (by decide +kernel) (Or.inr ⟨by rfl, rfl⟩) ?_
           simp only [Act.put, List.setIfInBounds_toArray, List.set_cons_zero, List.set_cons_succ]))
      refine SeqS.alone (by decide +kernel) (by rfl) (fun K hK => ?_)
      go_simp
      refine (SP.hint id _ hid).mono ?_
      rintro e v2 ⟨rfl, c2⟩
      have S2 := hS.trans (c2.mono hS.size)
      go_simp
      refine hK _ _ S2 ?_
      clear hK K c2
      repeat (first
        | (refine SeqS.take (v := .agg (rowN 32 id).toArray) (by first | assumption | trivial) (by kernel_rfl) (by decide +kernel) (by decide +kernel) (yields_blk (by rfl) 23 (.tmp 2) rfl rfl (fun w' h => XX.out w' h) (rowId32 id)) ?_
           simp only [Act.put, List.setIfInBounds_toArray, List.set_cons_zero, List.set_cons_succ])
        | (refine SeqS.take (v := ?_) (by first | assumption | trivial) (by kernel_rfl) (by decide +kernel) (by decide +kernel) (Or.inl ⟨by rfl, ?_⟩) ?_
           rotate_left
           focus
             intro w' hb'
             go_simp
             with_reducible rfl
           simp only [Act.put, List.setIfInBounds_toArray, List.set_cons_zero, List.set_cons_succ])
        | (refine SeqS.take (v := undef) (by first | assumption | trivial) (by kernel_rfl) (by decide +kernel) (by decide +kernel) (Or.inr ⟨by rfl, rfl⟩) ?_
           simp only [Act.put, List.setIfInBounds_toArray, List.set_cons_zero, List.set_cons_succ])
        | (refine SeqS.take1 (v := .agg (rowN 32 id).toArray) (by first | assumption | trivial) (by kernel_rfl) (by decide +kernel) (by decide +kernel) (yields_blk (by rfl) 23 (.tmp 2) rfl rfl (fun w' h => XX.out w' h) (rowId32 id)) ?_
           simp only [Act.put, List.setIfInBounds_toArray, List.set_cons_zero, List.set_cons_succ])
        | (refine SeqS.take1 (v := ?_) (by first | assumption | trivial) (by kernel_rfl) (by decide +kernel) (by decide +kernel) (Or.inl ⟨by rfl, ?_⟩) ?_
           rotate_left
           focus
             intro w' hb'
             go_simp
             with_reducible rfl
           simp only [Act.put, List.setIfInBounds_toArray, List.set_cons_zero, List.set_cons_succ])
        | (refine SeqS.take1 (v := undef) (by first | assumption | trivial) (by kernel_rfl) (by decide +kernel) (by decide +kernel) (Or.inr ⟨by rfl, rfl⟩) ?_
           simp only [Act.put, List.setIfInBounds_toArray, List.set_cons_zero, List.set_cons_succ])
        | (refine SeqS.take2 (v := .agg (rowN 32 id).toArray) (by first | assumption | trivial) (by kernel_rfl) (by decide +kernel) (by decide +kernel) (yields_blk (by rfl) 23 (.tmp 2) rfl rfl (fun w' h => XX.out w' h) (rowId32 id)) ?_
           simp only [Act.put, List.setIfInBounds_toArray, List.set_cons_zero, List.set_cons_succ])
        | (refine SeqS.take2 (v := ?_) (by first | assumption | trivial) (by kernel_rfl) (by decide +kernel) (by decide +kernel) (Or.inl ⟨by rfl, ?_⟩) ?_
           rotate_left
           focus
             intro w' hb'
             go_simp
             with_reducible rfl
           simp only [Act.put, List.setIfInBounds_toArray, List.set_cons_zero, List.set_cons_succ])
        | (refine SeqS.take2 (v := undef) (by first | assumption | trivial) (by kernel_rfl) (by decide +kernel) (by decide +kernel) (Or.inr ⟨by rfl, rfl⟩) ?_
           simp only [Act.put, List.setIfInBounds_toArray, List.set_cons_zero, List.set_cons_succ])
        | (refine SeqS.take3 (v := .agg (rowN 32 id).toArray) (by first | assumption | trivial) (by kernel_rfl) (by decide +kernel) (by decide +kernel) (yields_blk (by rfl) 23 (.tmp 2) rfl rfl (fun w' h => XX.out w' h) (rowId32 id)) ?_
           simp only [Act.put, List.setIfInBounds_toArray, List.set_cons_zero, List.set_cons_succ])
        | (refine SeqS.take3 (v := ?_) (by first | assumption | trivial) (by kernel_rfl) (by decide +kernel) (by decide +kernel) (Or.inl ⟨by rfl, ?_⟩) ?_
           rotate_left
           focus
             intro w' hb'
             go_simp
             with_reducible rfl
           simp only [Act.put, List.setIfInBounds_toArray, List.set_cons_zero, List.set_cons_succ])
        | (refine SeqS.take3 (v := undef) (by first | assumption | trivial) (by kernel_rfl) (by decide +kernel) (by decide +kernel) (Or.inr ⟨by rfl, rfl⟩) ?_
           simp only [Act.put, List.setIfInBounds_toArray, List.set_cons_zero, List.set_cons_succ]))
      refine SeqS.alone (by decide +kernel) (by rfl) (fun K hK => ?_)
      go_simp
      refine (rHint_any id _).mono ?_
      rintro e v3 ⟨rfl, c3⟩
      have S3 := S2.trans (c3.mono S2.size)
      go_simp
      refine hK _ _ S3 ?_
      clear hK K c3
      repeat (first
        | (refine SeqS.take (v := .agg (rowN 32 id).toArray) (by first | assumption | trivial) (by kernel_rfl) (by decide +kernel) (by decide +kernel) (yields_blk (by rfl) 23 (.tmp 2) rfl rfl (fun w' h => XX.out w' h) (rowId32 id)) ?_
           simp only [Act.put, List.setIfInBounds_toArray, List.set_cons_zero, List.set_cons_succ])
        | (refine SeqS.take (v := ?_) (by first | assumption | trivial) (by kernel_rfl) (by decide +kernel) (by decide +kernel) (Or.inl ⟨by rfl, ?_⟩) ?_
           rotate_left
           focus
             intro w' hb'
             go_simp
             with_reducible rfl
           simp only [Act.put, List.setIfInBounds_toArray, List.set_cons_zero, List.set_cons_succ])
        | (refine SeqS.take (v := undef) (by first | assumption | trivial) (by kernel_rfl) (by decide +kernel) (by decide +kernel) (Or.inr ⟨by rfl, rfl⟩) ?_
           simp only [Act.put, List.setIfInBounds_toArray, List.set_cons_zero, List.set_cons_succ])
        | (refine SeqS.take1 (v := .agg (rowN 32 id).toArray) (by first | assumption | trivial) (by kernel_rfl) (by decide +kernel) (by decide +kernel) (yields_blk (by rfl) 23 (.tmp 2) rfl rfl (fun w' h => XX.out w' h) (rowId32 id)) ?_
           simp only [Act.put, List.setIfInBounds_toArray, List.set_cons_zero, List.set_cons_succ])
        | (refine SeqS.take1 (v := ?_) (by first | assumption | trivial) (by kernel_rfl) (by decide +kernel) (by decide +kernel) (Or.inl ⟨by rfl, ?_⟩) ?_
           rotate_left
           focus
             intro w' hb'
             go_simp
             with_reducible rfl
           simp only [Act.put, List.setIfInBounds_toArray, List.set_cons_zero, List.set_cons_succ])
        | (refine SeqS.take1 (v := undef) (by first | assumption | trivial) (by kernel_rfl) (by decide +kernel) (by decide +kernel) (Or.inr ⟨by rfl, rfl⟩) ?_
           simp only [Act.put, List.setIfInBounds_toArray, List.set_cons_zero, List.set_cons_succ])
        | (refine SeqS.take2 (v := .agg (rowN 32 id).toArray) (by first | assumption | trivial) (by kernel_rfl) (by decide +kernel) (by decide +kernel) (yields_blk (by rfl) 23 (.tmp 2) rfl rfl (fun w' h => XX.out w' h) (rowId32 id)) ?_
           simp only [Act.put, List.setIfInBounds_toArray, List.set_cons_zero, List.set_cons_succ])
        | (refine SeqS.take2 (v := ?_) (by first | assumption | trivial) (by kernel_rfl) (by decide +kernel) (by decide +kernel) (Or.inl ⟨by rfl, ?_⟩) ?_
           rotate_left
           focus
             intro w' hb'
             go_simp
             with_reducible rfl
           simp only [Act.put, List.setIfInBounds_toArray, List.set_cons_zero, List.set_cons_succ])
        | (refine SeqS.take2 (v := undef) (by first | assumption | trivial) (by kernel_rfl) (by decide +kernel) (by decide +kernel) (Or.inr ⟨by rfl, rfl⟩) ?_
           simp only [Act.put, List.setIfInBounds_toArray, List.set_cons_zero, List.set_cons_succ])
        | (refine SeqS.take3 (v := .agg (rowN 32 id).toArray) (by first | assumption | trivial) (by kernel_rfl) (by decide +kernel) (by decide +kernel) (yields_blk (by rfl) 23 (.tmp 2) rfl rfl (fun w' h => XX.out w' h) (rowId32 id)) ?_
           simp only [Act.put, List.setIfInBounds_toArray, List.set_cons_zero, List.set_cons_succ])
        | (refine SeqS.take3 (v := ?_) (by first | assumption | trivial) (by kernel_rfl) (by decide +kernel) (by decide +kernel) (Or.inl ⟨by rfl, ?_⟩) ?_
           rotate_left
           focus
             intro w' hb'
             go_simp
             with_reducible rfl
           simp only [Act.put, List.setIfInBounds_toArray, List.set_cons_zero, List.set_cons_succ])
        | (refine SeqS.take3 (v := undef) (by first | assumption | trivial) (by kernel_rfl) (by decide +kernel) (by decide +kernel) (Or.inr ⟨by rfl, rfl⟩) ?_
           simp only [Act.put, List.setIfInBounds_toArray, List.set_cons_zero, List.set_cons_succ]))
      refine SeqS.alone (by decide +kernel) (by rfl) (fun K hK => ?_)
      go_simp
      refine (CK.out _ (GG.out v3 S3)).mono ?_
      rintro e v4 ⟨rfl, c4⟩
      have S4 := S3.trans (c4.mono S3.size)
      go_simp
      refine hK _ _ S4 ?_
      clear hK K c4
      repeat (first
        | (refine SeqS.take (v := .agg (rowN 32 id).toArray) (by first | assumption | trivial) (by kernel_rfl) (by decide +kernel) (by decide +kernel) (yields_blk (by rfl) 23 (.tmp 2) rfl rfl (fun w' h => XX.out w' h) (rowId32 id)) ?_
           simp only [Act.put, List.setIfInBounds_toArray, List.set_cons_zero, List.set_cons_succ])
        | (refine SeqS.take (v := ?_) (by first | assumption | trivial) (by kernel_rfl) (by decide +kernel) (by decide +kernel) (Or.inl ⟨by rfl, ?_⟩) ?_
           rotate_left
           focus
             intro w' hb'
             go_simp
             with_reducible rfl
           simp only [Act.put, List.setIfInBounds_toArray, List.set_cons_zero, List.set_cons_succ])
        | (refine SeqS.take (v := undef) (by first | assumption | trivial) (by kernel_rfl) (by decide +kernel) (by decide +kernel) (Or.inr ⟨by rfl, rfl⟩) ?_
           simp only [Act.put, List.setIfInBounds_toArray, List.set_cons_zero, List.set_cons_succ])
        | (refine SeqS.take1 (v := .agg (rowN 32 id).toArray) (by first | assumption | trivial) (by kernel_rfl) (by decide +kernel) (by decide +kernel) (yields_blk (by rfl) 23 (.tmp 2) rfl rfl (fun w' h => XX.out w' h) (rowId32 id)) ?_
           simp only [Act.put, List.setIfInBounds_toArray, List.set_cons_zero, List.set_cons_succ])
        | (refine SeqS.take1 (v := ?_) (by first | assumption | trivial) (by kernel_rfl) (by decide +kernel) (by decide +kernel) (Or.inl ⟨by rfl, ?_⟩) ?_
           rotate_left
           focus
             intro w' hb'
             go_simp
             with_reducible rfl
           simp only [Act.put, List.setIfInBounds_toArray, List.set_cons_zero, List.set_cons_succ])
        | (refine SeqS.take1 (v := undef) (by first | assumption | trivial) (by kernel_rfl) (by decide +kernel) (by decide +kernel) (Or.inr ⟨by rfl, rfl⟩) ?_
           simp only [Act.put, List.setIfInBounds_toArray, List.set_cons_zero, List.set_cons_succ])
        | (refine SeqS.take2 (v := .agg (rowN 32 id).toArray) (by first | assumption | trivial) (by kernel_rfl) (by decide +kernel) (by decide +kernel) (yields_blk (by rfl) 23 (.tmp 2) rfl rfl (fun w' h => XX.out w' h) (rowId32 id)) ?_
           simp only [Act.put, List.setIfInBounds_toArray, List.set_cons_zero, List.set_cons_succ])
        | (refine SeqS.take2 (v := ?_) (by first | assumption | trivial) (by kernel_rfl) (by decide +kernel) (by decide +kernel) (Or.inl ⟨by rfl, ?_⟩) ?_
           rotate_left
           focus
             intro w' hb'
             go_simp
             with_reducible rfl
           simp only [Act.put, List.setIfInBounds_toArray, List.set_cons_zero, List.set_cons_succ])
        | (refine SeqS.take2 (v := undef) (by first | assumption | trivial) (by kernel_rfl) (by decide +kernel) (by decide +kernel) (Or.inr ⟨by rfl, rfl⟩) ?_
           simp only [Act.put, List.setIfInBounds_toArray, List.set_cons_zero, List.set_cons_succ])
        | (refine SeqS.take3 (v := .agg (rowN 32 id).toArray) (by first | assumption | trivial) (by kernel_rfl) (by decide +kernel) (by decide +kernel) (yields_blk (by rfl) 23 (.tmp 2) rfl rfl (fun w' h => XX.out w' h) (rowId32 id)) ?_
           simp only [Act.put, List.setIfInBounds_toArray, List.set_cons_zero, List.set_cons_succ])
        | (refine SeqS.take3 (v := ?_) (by first | assumption | trivial) (by kernel_rfl) (by decide +kernel) (by decide +kernel) (Or.inl ⟨by rfl, ?_⟩) ?_
           rotate_left
           focus
             intro w' hb'
             go_simp
             with_reducible rfl
           simp only [Act.put, List.setIfInBounds_toArray, List.set_cons_zero, List.set_cons_succ])
        | (refine SeqS.take3 (v := undef) (by first | assumption | trivial) (by kernel_rfl) (by decide +kernel) (by decide +kernel) (Or.inr ⟨by rfl, rfl⟩) ?_
           simp only [Act.put, List.setIfInBounds_toArray, List.set_cons_zero, List.set_cons_succ]))
      refine SeqS.alone (by decide +kernel) (by rfl) (fun K hK => ?_)
      go_simp
      refine (CR.out _).mono ?_
      rintro e v5 ⟨rfl, c5⟩
      have S5 := S4.trans (c5.mono S4.size)
      go_simp
      refine hK _ _ S5 ?_
      clear hK K c5
      repeat (first
        | (refine SeqS.take (v := ?_) (by first | assumption | trivial) (by kernel_rfl) (by decide +kernel) (by decide +kernel) (Or.inl ⟨by rfl, ?_⟩) ?_
           rotate_left
           focus
             intro w' hb'
             go_simp
             with_reducible rfl
           simp only [Act.put, List.setIfInBounds_toArray, List.set_cons_zero, List.set_cons_succ])
        | (refine SeqS.take (v := undef) (by first | assumption | trivial) (by kernel_rfl) (by decide +kernel) (by decide +kernel) (Or.inr ⟨by rfl, rfl⟩) ?_
           simp only [Act.put, List.setIfInBounds_toArray, List.set_cons_zero, List.set_cons_succ])
        | (refine SeqS.take1 (v := ?_) (by first | assumption | trivial) (by kernel_rfl) (by decide +kernel) (by decide +kernel) (Or.inl ⟨by rfl, ?_⟩) ?_
           rotate_left
           focus
             intro w' hb'
             go_simp
             with_reducible rfl
           simp only [Act.put, List.setIfInBounds_toArray, List.set_cons_zero, List.set_cons_succ])
        | (refine SeqS.take1 (v := undef) (by first | assumption | trivial) (by kernel_rfl) (by decide +kernel) (by decide +kernel) (Or.inr ⟨by rfl, rfl⟩) ?_
           simp only [Act.put, List.setIfInBounds_toArray, List.set_cons_zero, List.set_cons_succ])
        | (refine SeqS.take2 (v := ?_) (by first | assumption | trivial) (by kernel_rfl) (by decide +kernel) (by decide +kernel) (Or.inl ⟨by rfl, ?_⟩) ?_
           rotate_left
           focus
             intro w' hb'
             go_simp
             with_reducible rfl
           simp only [Act.put, List.setIfInBounds_toArray, List.set_cons_zero, List.set_cons_succ])
        | (refine SeqS.take2 (v := undef) (by first | assumption | trivial) (by kernel_rfl) (by decide +kernel) (by decide +kernel) (Or.inr ⟨by rfl, rfl⟩) ?_
           simp only [Act.put, List.setIfInBounds_toArray, List.set_cons_zero, List.set_cons_succ])
        | (refine SeqS.take3 (v := ?_) (by first | assumption | trivial) (by kernel_rfl) (by decide +kernel) (by decide +kernel) (Or.inl ⟨by rfl, ?_⟩) ?_
           rotate_left
           focus
             intro w' hb'
             go_simp
             with_reducible rfl
           simp only [Act.put, List.setIfInBounds_toArray, List.set_cons_zero, List.set_cons_succ])
        | (refine SeqS.take3 (v := undef) (by first | assumption | trivial) (by kernel_rfl) (by decide +kernel) (by decide +kernel) (Or.inr ⟨by rfl, rfl⟩) ?_
           simp only [Act.put, List.setIfInBounds_toArray, List.set_cons_zero, List.set_cons_succ]))
      refine SeqS.done (by decide +kernel) ?_
      clear S2 S3 S4 sameH sameK hngH hngI hS
      have hG5 := GG.out v5 S5
      have hx5 := XX.out v5 S5
      have hb5 := BI.out v5 S5
      go_wp2_with ((refine wpList_load_blk rfl 23 (.tmp 2) rfl ?_ hx5 rowId (rowN_len 32 id) ?_); rfl)
      refine (COP.out hlH.out v5 b c hG5 hb5).mono ?_
      rintro e v6 ⟨xb, xc, rfl, hX, b6⟩
      have fx := hX.string 24 9 5 Tryz.underlying24 Tryz.underlying5 Tryz.underlying9
      have hG6 := hG5.keep b6
      have S6 := S5.trans (b6.mono S5.size)
      have hnb : (n : Int) < 1000000 := by have := hn0H.out; omega
      clear hb5 hG5 b6 hX
      go_wp2_with fail
      refine (sealAlive_any SP v6 hG6).mono ?_
      rintro e v9 ⟨rfl, b9⟩
      go_wp2
      go_ret
      refine ⟨rfl, ?_⟩
      rw [hgH.out]
      exact hB2H.out.trans ((S6.trans (b9.mono S6.size)).mono hg2H.out)
    · have hl' : 568 < n := by omega
      have hln : (568 : Int) < (n : Int) := by omega
      have hl'H := Lib.hid hl'
      clear hl hl'
      go_wp2_with ((refine wpList_load_blk rfl 23 (.tmp 2) rfl ?_ hx0 rowId (rowN_len 32 id) ?_); rfl)
      clear fs
      refine (SP.long id a n cap W0 hG0 hl'H.out (by have := hn0H.out; omega)).mono ?_
      rintro e w1 ⟨b, c, rfl, b1⟩
      have hx1 := hx0.keep b1 hx0.lt
      have hG1 := hG0.keep b1
      have hI1 := hI0.keep b1
      have hB1 := hB0.trans (b1.mono (Nat.le_of_lt hx0.lt))
      clear hx0 hG0 hI0 hB0 b1
      go_wp2_with ((refine wpList_load_blk rfl 23 (.tmp 2) rfl ?_ hx1 rowId (rowN_len 32 id) ?_); rfl)
      refine (rSeal_long id a n cap w1 hl'H.out).mono ?_
      rintro e w2 ⟨rfl, b2⟩
      have hx2 := hx1.keep b2 hx1.lt
      have hG2 := hG1.keep b2
      have hI2 := hI1.keep b2
      have hB2 := hB1.trans (b2.mono (Nat.le_of_lt hx1.lt))
      have nil : ∀ (b : Option Addr) c (w' : World), Ints .u8 w' b 0 c [] := fun b c w' => ⟨rfl, Nat.zero_le _, .inl rfl⟩
      have XX := Lib.hid (fun w' (h : Below w2.heap.size w2 w') => (hx2.keep h hx2.lt : Blk w' g 23 (rowN 32 id)))
      have FB := Lib.hid (fun w' (_ : Below w2.heap.size w2 w') => (nil b c w').string 24 9 5 Tryz.underlying24 Tryz.underlying5 Tryz.underlying9)
      have FR := Lib.hid (fun w' (_ : Below w2.heap.size w2 w') => (nil none 0 w').string 24 9 5 Tryz.underlying24 Tryz.underlying5 Tryz.underlying9)
      have FP := Lib.hid (fun w' (h : Below w2.heap.size w2 w') => (hI2.keep h).string 24 9 5 Tryz.underlying24 Tryz.underlying5 Tryz.underlying9)
      have hB2H := Lib.hid hB2
      have hg2H := Lib.hid (Nat.le_of_lt hx2.lt)
      clear hx1 hG1 hI1 hB1 hx2 hI2 hB2 b2 nil
      have hngH := noGuardHint
      have hngI := noGuardId4
      have sameH := sameHint id
      have sameK := sameId KL hKl.out
      have hS : Below w2.heap.size w2 w2.drew := Below.drew (Below.refl _ _)
      have GG := Lib.hid (fun w' (h : Below w2.heap.size w2 w') => hG2.keep h)
      go_wp2_with fail
      refine region_seqS (fun w' => Below w2.heap.size w2 w') (by kernel_rfl) hS ?_
      simp only [pairs, Nat.reduceAdd]
      repeat (first
        | (refine SeqS.take (v := .agg (rowN 32 id).toArray) (by first | assumption | trivial) (by kernel_rfl) (by decide +kernel) (by decide +kernel) (yields_blk (by rfl) 23 (.tmp 2) rfl rfl (fun w' h => XX.out w' h) (rowId32 id)) ?_
           simp only [Act.put, List.setIfInBounds_toArray, List.set_cons_zero, List.set_cons_succ])
        | (refine SeqS.take (v := ?_) (by first | assumption | trivial) (by kernel_rfl) (by decide +kernel) (by decide +kernel) (Or.inl ⟨by rfl, ?_⟩) ?_
           rotate_left
           focus
             intro w' hb'
             go_simp
             with_reducible rfl
           simp only [Act.put, List.setIfInBounds_toArray, List.set_cons_zero, List.set_cons_succ])
        | (refine SeqS.take (v := ?_) (by first | assumption | trivial) (by kernel_rfl) (by decide +kernel) (by decide +kernel) (Or.inl ⟨by rfl, ?_⟩) ?_
           rotate_left
           focus
             intro w' hb'
             have d0 := FB.out w' hb'
             go_simp
             with_reducible rfl
           simp only [Act.put, List.setIfInBounds_toArray, List.set_cons_zero, List.set_cons_succ])
        | (refine SeqS.take (v := ?_) (by first | assumption | trivial) (by kernel_rfl) (by decide +kernel) (by decide +kernel) (Or.inl ⟨by rfl, ?_⟩) ?_
           rotate_left
           focus
             intro w' hb'
             have d0 := FR.out w' hb'
             go_simp
             with_reducible rfl
           simp only [Act.put, List.setIfInBounds_toArray, List.set_cons_zero, List.set_cons_succ])
        | (refine SeqS.take (v := ?_) (by first | assumption | trivial) (by kernel_rfl) (by decide +kernel) (by decide +kernel) (Or.inl ⟨by rfl, ?_⟩) ?_
           rotate_left
           focus
             intro w' hb'
             have d0 := FP.out w' hb'
             go_simp
             with_reducible rfl
           simp only [Act.put, List.setIfInBounds_toArray, List.set_cons_zero, List.set_cons_succ])
        | (refine SeqS.take (v := undef) (by first | assumption | trivial) (by kernel_rfl) (by decide +kernel) (by decide +kernel) (Or.inr ⟨by rfl, rfl⟩) ?_
           simp only [Act.put, List.setIfInBounds_toArray, List.set_cons_zero, List.set_cons_succ])
        | (refine SeqS.take1 (v := .agg (rowN 32 id).toArray) (by first | assumption | trivial) (by kernel_rfl) (by decide +kernel) (by decide +kernel) (yields_blk (by rfl) 23 (.tmp 2) rfl rfl (fun w' h => XX.out w' h) (rowId32 id)) ?_
           simp only [Act.put, List.setIfInBounds_toArray, List.set_cons_zero, List.set_cons_succ])
        | (refine SeqS.take1 (v := ?_) (by first | assumption | trivial) (by kernel_rfl) (by decide +kernel) (by decide +kernel) (Or.inl ⟨by rfl, ?_⟩) ?_
           rotate_left
           focus
             intro w' hb'
             go_simp
             with_reducible rfl
           simp only [Act.put, List.setIfInBounds_toArray, List.set_cons_zero, List.set_cons_succ])
        | (refine SeqS.take1 (v := ?_) (by first | assumption | trivial) (by kernel_rfl) (by decide +kernel) (by decide +kernel) (Or.inl ⟨by rfl, ?_⟩) ?_
           rotate_left
           focus
             intro w' hb'
             have d0 := FB.out w' hb'
             go_simp
             with_reducible rfl
           simp only [Act.put, List.setIfInBounds_toArray, List.set_cons_zero, List.set_cons_succ])
        | (refine SeqS.take1 (v := ?_) (by first | assumption | trivial) (by kernel_rfl) (by decide +kernel) (by decide +kernel) (Or.inl ⟨by rfl, ?_⟩) ?_
           rotate_left
           focus
             intro w' hb'
             have d0 := FR.out w' hb'
             go_simp
             with_reducible rfl
           simp only [Act.put, List.setIfInBounds_toArray, List.set_cons_zero, List.set_cons_succ])
        | (refine SeqS.take1 (v := ?_) (by first | assumption | trivial) (by kernel_rfl) (by decide +kernel) (by decide +kernel) (Or.inl ⟨by rfl, ?_⟩) ?_
           rotate_left
           focus
             intro w' hb'
             have d0 := FP.out w' hb'
             go_simp
             with_reducible rfl
           simp only [Act.put, List.setIfInBounds_toArray, List.set_cons_zero, List.set_cons_succ])
        | (refine SeqS.take1 (v := undef) (by first | assumption | trivial) (by kernel_rfl) (by decide +kernel) (by decide +kernel) (Or.inr ⟨by rfl, rfl⟩) ?_
           simp only [Act.put, List.setIfInBounds_toArray, List.set_cons_zero, List.set_cons_succ])
        | (refine SeqS.take2 (v := .agg (rowN 32 id).toArray) (by first | assumption | trivial) (by kernel_rfl) (by decide +kernel) (by decide +kernel) (yields_blk (by rfl) 23 (.tmp 2) rfl rfl (fun w' h => XX.out w' h) (rowId32 id)) ?_
           simp only [Act.put, List.setIfInBounds_toArray, List.set_cons_zero, List.set_cons_succ])
        | (refine SeqS.take2 (v := ?_) (by first | assumption | trivial) (by kernel_rfl) (by decide +kernel) (by decide +kernel) (Or.inl ⟨by rfl, ?_⟩) ?_
           rotate_left
           focus
             intro w' hb'
             go_simp
             with_reducible rfl
           simp only [Act.put, List.setIfInBounds_toArray, List.set_cons_zero, List.set_cons_succ])
        | (refine SeqS.take2 (v := ?_) (by first | assumption | trivial) (by kernel_rfl) (by decide +kernel) (by decide +kernel) (Or.inl ⟨by rfl, ?_⟩) ?_
           rotate_left
           focus
             intro w' hb'
             have d0 := FB.out w' hb'
             go_simp
             with_reducible rfl
           simp only [Act.put, List.setIfInBounds_toArray, List.set_cons_zero, List.set_cons_succ])
        | (refine SeqS.take2 (v := ?_) (by first | assumption | trivial) (by kernel_rfl) (by decide +kernel) (by decide +kernel) (Or.inl ⟨by rfl, ?_⟩) ?_
           rotate_left
           focus
             intro w' hb'
             have d0 := FR.out w' hb'
             go_simp
             with_reducible rfl
           simp only [Act.put, List.setIfInBounds_toArray, List.set_cons_zero, List.set_cons_succ])
        | (refine SeqS.take2 (v := ?_) (by first | assumption | trivial) (by kernel_rfl) (by decide +kernel) (by decide +kernel) (Or.inl ⟨by rfl, ?_⟩) ?_
           rotate_left
           focus
             intro w' hb'
             have d0 := FP.out w' hb'
             go_simp
             with_reducible rfl
           simp only [Act.put, List.setIfInBounds_toArray, List.set_cons_zero, List.set_cons_succ])
        | (refine SeqS.take2 (v := undef) (by first | assumption | trivial) (by kernel_rfl) (by decide +kernel) (by decide +kernel) (Or.inr ⟨by rfl, rfl⟩) ?_
           simp only [Act.put, List.setIfInBounds_toArray, List.set_cons_zero, List.set_cons_succ])
        | (refine SeqS.take3 (v := .agg (rowN 32 id).toArray) (by first | assumption | trivial) (by kernel_rfl) (by decide +kernel) (by decide +kernel) (yields_blk (by rfl) 23 (.tmp 2) rfl rfl (fun w' h => XX.out w' h) (rowId32 id)) ?_
           simp only [Act.put, List.setIfInBounds_toArray, List.set_cons_zero, List.set_cons_succ])
        | (refine SeqS.take3 (v := ?_) (by first | assumption | trivial) (by kernel_rfl) (by decide +kernel) (by decide +kernel) (Or.inl ⟨by rfl, ?_⟩) ?_
           rotate_left
           focus
             intro w' hb'
             go_simp
             with_reducible rfl
           simp only [Act.put, List.setIfInBounds_toArray, List.set_cons_zero, List.set_cons_succ])
        | (refine SeqS.take3 (v := ?_) (by first | assumption | trivial) (by kernel_rfl) (by decide +kernel) (by decide +kernel) (Or.inl ⟨by rfl, ?_⟩) ?_
           rotate_left
           focus
             intro w' hb'
             have d0 := FB.out w' hb'
             go_simp
             with_reducible rfl
           simp only [Act.put, List.setIfInBounds_toArray, List.set_cons_zero, List.set_cons_succ])
        | (refine SeqS.take3 (v := ?_) (by first | assumption | trivial) (by kernel_rfl) (by decide +kernel) (by decide +kernel) (Or.inl ⟨by rfl, ?_⟩) ?_
           rotate_left
           focus
             intro w' hb'
             have d0 := FR.out w' hb'
             go_simp
             with_reducible rfl
           simp only [Act.put, List.setIfInBounds_toArray, List.set_cons_zero, List.set_cons_succ])
        | (refine SeqS.take3 (v := ?_) (by first | assumption | trivial) (by kernel_rfl) (by decide +kernel) (by decide +kernel) (Or.inl ⟨by rfl, ?_⟩) ?_
           rotate_left
           focus
             intro w' hb'
             have d0 := FP.out w' hb'
             go_simp
             with_reducible rfl
           simp only [Act.put, List.setIfInBounds_toArray, List.set_cons_zero, List.set_cons_succ])
        | (refine SeqS.take3 (v := undef) (by first | assumption | trivial) (by kernel_rfl) (by decide +kernel) (by decide +kernel) (Or.inr ⟨by rfl, rfl⟩) ?_
           simp only [Act.put, List.setIfInBounds_toArray, List.set_cons_zero, List.set_cons_succ]))
      refine SeqS.alone (by decide +kernel) (by rfl) (fun K hK => ?_)
      go_simp
      refine (SP.hint id _ hid).mono ?_
      rintro e v2 ⟨rfl, c2⟩
      have S2 := hS.trans (c2.mono hS.size)
      go_simp
      refine hK _ _ S2 ?_
      clear hK K c2
      repeat (first
        | (refine SeqS.take (v := .agg (rowN 32 id).toArray) (by first | assumption | trivial) (by kernel_rfl) (by decide +kernel) (by decide +kernel) (yields_blk (by rfl) 23 (.tmp 2) rfl rfl (fun w' h => XX.out w' h) (rowId32 id)) ?_
           simp only [Act.put, List.setIfInBounds_toArray, List.set_cons_zero, List.set_cons_succ])
        | (refine SeqS.take (v := ?_) (by first | assumption | trivial) (by kernel_rfl) (by decide +kernel) (by decide +kernel) (Or.inl ⟨by rfl, ?_⟩) ?_
           rotate_left
           focus
             intro w' hb'
             go_simp
             with_reducible rfl
           simp only [Act.put, List.setIfInBounds_toArray, List.set_cons_zero, List.set_cons_succ])
        | (refine SeqS.take (v := undef) (by first | assumption | trivial) (by kernel_rfl) (by decide +kernel) (by decide +kernel) (Or.inr ⟨by rfl, rfl⟩) ?_
           simp only [Act.put, List.setIfInBounds_toArray, List.set_cons_zero, List.set_cons_succ])
        | (refine SeqS.take1 (v := .agg (rowN 32 id).toArray) (by first | assumption | trivial) (by kernel_rfl) (by decide +kernel) (by decide +kernel) (yields_blk (by rfl) 23 (.tmp 2) rfl rfl (fun w' h => XX.out w' h) (rowId32 id)) ?_
           simp only [Act.put, List.setIfInBounds_toArray, List.set_cons_zero, List.set_cons_succ])
        | (refine SeqS.take1 (v := ?_) (by first | assumption | trivial) (by kernel_rfl) (by decide +kernel) (by decide +kernel) (Or.inl ⟨by rfl, ?_⟩) ?_
           rotate_left
           focus
             intro w' hb'
             go_simp
             with_reducible rfl
           simp only [Act.put, List.setIfInBounds_toArray, List.set_cons_zero, List.set_cons_succ])
        | (refine SeqS.take1 (v := undef) (by first | assumption | trivial) (by kernel_rfl) (by decide +kernel) (by decide +kernel) (Or.inr ⟨by rfl, rfl⟩) ?_
           simp only [Act.put, List.setIfInBounds_toArray, List.set_cons_zero, List.set_cons_succ])
        | (refine SeqS.take2 (v := .agg (rowN 32 id).toArray) (by first | assumption | trivial) (by kernel_rfl) (by decide +kernel) (by decide +kernel) (yields_blk (by rfl) 23 (.tmp 2) rfl rfl (fun w' h => XX.out w' h) (rowId32 id)) ?_
           simp only [Act.put, List.setIfInBounds_toArray, List.set_cons_zero, List.set_cons_succ])
        | (refine SeqS.take2 (v := ?_) (by first | assumption | trivial) (by kernel_rfl) (by decide +kernel) (by decide +kernel) (Or.inl ⟨by rfl, ?_⟩) ?_
           rotate_left
           focus
             intro w' hb'
             go_simp
             with_reducible rfl
           simp only [Act.put, List.setIfInBounds_toArray, List.set_cons_zero, List.set_cons_succ])
        | (refine SeqS.take2 (v := undef) (by first | assumption | trivial) (by kernel_rfl) (by decide +kernel) (by decide +kernel) (Or.inr ⟨by rfl, rfl⟩) ?_
           simp only [Act.put, List.setIfInBounds_toArray, List.set_cons_zero, List.set_cons_succ])
        | (refine SeqS.take3 (v := .agg (rowN 32 id).toArray) (by first | assumption | trivial) (by kernel_rfl) (by decide +kernel) (by decide +kernel) (yields_blk (by rfl) 23 (.tmp 2) rfl rfl (fun w' h => XX.out w' h) (rowId32 id)) ?_
           simp only [Act.put, List.setIfInBounds_toArray, List.set_cons_zero, List.set_cons_succ])
        | (refine SeqS.take3 (v := ?_) (by first | assumption | trivial) (by kernel_rfl) (by decide +kernel) (by decide +kernel) (Or.inl ⟨by rfl, ?_⟩) ?_
           rotate_left
           focus
             intro w' hb'
             go_simp
             with_reducible rfl
           simp only [Act.put, List.setIfInBounds_toArray, List.set_cons_zero, List.set_cons_succ])
        | (refine SeqS.take3 (v := undef) (by first | assumption | trivial) (by kernel_rfl) (by decide +kernel) (by decide +kernel) (Or.inr ⟨by rfl, rfl⟩) ?_
           simp only [Act.put, List.setIfInBounds_toArray, List.set_cons_zero, List.set_cons_succ]))
      refine SeqS.alone (by decide +kernel) (by rfl) (fun K hK => ?_)
      go_simp
      refine (rHint_any id _).mono ?_
      rintro e v3 ⟨rfl, c3⟩
      have S3 := S2.trans (c3.mono S2.size)
      go_simp
      refine hK _ _ S3 ?_
      clear hK K c3
      repeat (first
        | (refine SeqS.take (v := .agg (rowN 32 id).toArray) (by first | assumption | trivial) (by kernel_rfl) (by decide +kernel) (by decide +kernel) (yields_blk (by rfl) 23 (.tmp 2) rfl rfl (fun w' h => XX.out w' h) (rowId32 id)) ?_
           simp only [Act.put, List.setIfInBounds_toArray, List.set_cons_zero, List.set_cons_succ])
        | (refine SeqS.take (v := ?_) (by first | assumption | trivial) (by kernel_rfl) (by decide +kernel) (by decide +kernel) (Or.inl ⟨by rfl, ?_⟩) ?_
           rotate_left
           focus
             intro w' hb'
             go_simp
             with_reducible rfl
           simp only [Act.put, List.setIfInBounds_toArray, List.set_cons_zero, List.set_cons_succ])
        | (refine SeqS.take (v := undef) (by first | assumption | trivial) (by kernel_rfl) (by decide +kernel) (by decide +kernel) (Or.inr ⟨by rfl, rfl⟩) ?_
           simp only [Act.put, List.setIfInBounds_toArray, List.set_cons_zero, List.set_cons_succ])
        | (refine SeqS.take1 (v := .agg (rowN 32 id).toArray) (by first | assumption | trivial) (by kernel_rfl) (by decide +kernel) (by decide +kernel) (yields_blk (by rfl) 23 (.tmp 2) rfl rfl (fun w' h => XX.out w' h) (rowId32 id)) ?_
           simp only [Act.put, List.setIfInBounds_toArray, List.set_cons_zero, List.set_cons_succ])
        | (refine SeqS.take1 (v := ?_) (by first | assumption | trivial) (by kernel_rfl) (by decide +kernel) (by decide +kernel) (Or.inl ⟨by rfl, ?_⟩) ?_
           rotate_left
           focus
             intro w' hb'
             go_simp
             with_reducible rfl
           simp only [Act.put, List.setIfInBounds_toArray, List.set_cons_zero, List.set_cons_succ])
        | (refine SeqS.take1 (v := undef) (by first | assumption | trivial) (by kernel_rfl) (by decide +kernel) (by decide +kernel) (Or.inr ⟨by rfl, rfl⟩) ?_
           simp only [Act.put, List.setIfInBounds_toArray, List.set_cons_zero, List.set_cons_succ])
        | (refine SeqS.take2 (v := .agg (rowN 32 id).toArray) (by first | assumption | trivial) (by kernel_rfl) (by decide +kernel) (by decide +kernel) (yields_blk (by rfl) 23 (.tmp 2) rfl rfl (fun w' h => XX.out w' h) (rowId32 id)) ?_
           simp only [Act.put, List.setIfInBounds_toArray, List.set_cons_zero, List.set_cons_succ])
        | (refine SeqS.take2 (v := ?_) (by first | assumption | trivial) (by kernel_rfl) (by decide +kernel) (by decide +kernel) (Or.inl ⟨by rfl, ?_⟩) ?_
           rotate_left
           focus
             intro w' hb'
             go_simp
             with_reducible rfl
           simp only [Act.put, List.setIfInBounds_toArray, List.set_cons_zero, List.set_cons_succ])
        | (refine SeqS.take2 (v := undef) (by first | assumption | trivial) (by kernel_rfl) (by decide +kernel) (by decide +kernel) (Or.inr ⟨by rfl, rfl⟩) ?_
           simp only [Act.put, List.setIfInBounds_toArray, List.set_cons_zero, List.set_cons_succ])
        | (refine SeqS.take3 (v := .agg (rowN 32 id).toArray) (by first | assumption | trivial) (by kernel_rfl) (by decide +kernel) (by decide +kernel) (yields_blk (by rfl) 23 (.tmp 2) rfl rfl (fun w' h => XX.out w' h) (rowId32 id)) ?_
           simp only [Act.put, List.setIfInBounds_toArray, List.set_cons_zero, List.set_cons_succ])
        | (refine SeqS.take3 (v := ?_) (by first | assumption | trivial) (by kernel_rfl) (by decide +kernel) (by decide +kernel) (Or.inl ⟨by rfl, ?_⟩) ?_
           rotate_left
           focus
             intro w' hb'
             go_simp
             with_reducible rfl
           simp only [Act.put, List.setIfInBounds_toArray, List.set_cons_zero, List.set_cons_succ])
        | (refine SeqS.take3 (v := undef) (by first | assumption | trivial) (by kernel_rfl) (by decide +kernel) (by decide +kernel) (Or.inr ⟨by rfl, rfl⟩) ?_
           simp only [Act.put, List.setIfInBounds_toArray, List.set_cons_zero, List.set_cons_succ]))
      refine SeqS.alone (by decide +kernel) (by rfl) (fun K hK => ?_)
      go_simp
      refine (CK.out _ (GG.out v3 S3)).mono ?_
      rintro e v4 ⟨rfl, c4⟩
      have S4 := S3.trans (c4.mono S3.size)
      go_simp
      refine hK _ _ S4 ?_
      clear hK K c4
      repeat (first
        | (refine SeqS.take (v := .agg (rowN 32 id).toArray) (by first | assumption | trivial) (by kernel_rfl) (by decide +kernel) (by decide +kernel) (yields_blk (by rfl) 23 (.tmp 2) rfl rfl (fun w' h => XX.out w' h) (rowId32 id)) ?_
           simp only [Act.put, List.setIfInBounds_toArray, List.set_cons_zero, List.set_cons_succ])
        | (refine SeqS.take (v := ?_) (by first | assumption | trivial) (by kernel_rfl) (by decide +kernel) (by decide +kernel) (Or.inl ⟨by rfl, ?_⟩) ?_
           rotate_left
           focus
             intro w' hb'
             go_simp
             with_reducible rfl
           simp only [Act.put, List.setIfInBounds_toArray, List.set_cons_zero, List.set_cons_succ])
        | (refine SeqS.take (v := undef) (by first | assumption | trivial) (by kernel_rfl) (by decide +kernel) (by decide +kernel) (Or.inr ⟨by rfl, rfl⟩) ?_
           simp only [Act.put, List.setIfInBounds_toArray, List.set_cons_zero, List.set_cons_succ])
        | (refine SeqS.take1 (v := .agg (rowN 32 id).toArray) (by first | assumption | trivial) (by kernel_rfl) (by decide +kernel) (by decide +kernel) (yields_blk (by rfl) 23 (.tmp 2) rfl rfl (fun w' h => XX.out w' h) (rowId32 id)) ?_
           simp only [Act.put, List.setIfInBounds_toArray, List.set_cons_zero, List.set_cons_succ])
        | (refine SeqS.take1 (v := ?_) (by first | assumption | trivial) (by kernel_rfl) (by decide +kernel) (by decide +kernel) (Or.inl ⟨by rfl, ?_⟩) ?_
           rotate_left
           focus
             intro w' hb'
             go_simp
             with_reducible rfl
           simp only [Act.put, List.setIfInBounds_toArray, List.set_cons_zero, List.set_cons_succ])
        | (refine SeqS.take1 (v := undef) (by first | assumption | trivial) (by kernel_rfl) (by decide +kernel) (by decide +kernel) (Or.inr ⟨by rfl, rfl⟩) ?_
           simp only [Act.put, List.setIfInBounds_toArray, List.set_cons_zero, List.set_cons_succ])
        | (refine SeqS.take2 (v := .agg (rowN 32 id).toArray) (by first | assumption | trivial) (by kernel_rfl) (by decide +kernel) (by decide +kernel) (yields_blk (by rfl) 23 (.tmp 2) rfl rfl (fun w' h => XX.out w' h) (rowId32 id)) ?_
           simp only [Act.put, List.setIfInBounds_toArray, List.set_cons_zero, List.set_cons_succ])
        | (refine SeqS.take2 (v := ?_) (by first | assumption | trivial) (by kernel_rfl) (by decide +kernel) (by decide +kernel) (Or.inl ⟨by rfl, ?_⟩) ?_
           rotate_left
           focus
             intro w' hb'
             go_simp
             with_reducible rfl
           simp only [Act.put, List.setIfInBounds_toArray, List.set_cons_zero, List.set_cons_succ])
        | (refine SeqS.take2 (v := undef) (by first | assumption | trivial) (by kernel_rfl) (by decide +kernel) (by decide +kernel) (Or.inr ⟨by rfl, rfl⟩) ?_
           simp only [Act.put, List.setIfInBounds_toArray, List.set_cons_zero, List.set_cons_succ])
        | (refine SeqS.take3 (v := .agg (rowN 32 id).toArray) (by first | assumption | trivial) (by kernel_rfl) (by decide +kernel) (by decide +kernel) (yields_blk (by rfl) 23 (.tmp 2) rfl rfl (fun w' h => XX.out w' h) (rowId32 id)) ?_
           simp only [Act.put, List.setIfInBounds_toArray, List.set_cons_zero, List.set_cons_succ])
        | (refine SeqS.take3 (v := ?_) (by first | assumption | trivial) (by kernel_rfl) (by decide +kernel) (by decide +kernel) (Or.inl ⟨by rfl, ?_⟩) ?_
           rotate_left
           focus
             intro w' hb'
             go_simp
             with_reducible rfl
           simp only [Act.put, List.setIfInBounds_toArray, List.set_cons_zero, List.set_cons_succ])
        | (refine SeqS.take3 (v := undef) (by first | assumption | trivial) (by kernel_rfl) (by decide +kernel) (by decide +kernel) (Or.inr ⟨by rfl, rfl⟩) ?_
           simp only [Act.put, List.setIfInBounds_toArray, List.set_cons_zero, List.set_cons_succ]))
      refine SeqS.alone (by decide +kernel) (by rfl) (fun K hK => ?_)
      go_simp
      refine (CR.out _).mono ?_
      rintro e v5 ⟨rfl, c5⟩
      have S5 := S4.trans (c5.mono S4.size)
      go_simp
      refine hK _ _ S5 ?_
      clear hK K c5
      repeat (first
        | (refine SeqS.take (v := ?_) (by first | assumption | trivial) (by kernel_rfl) (by decide +kernel) (by decide +kernel) (Or.inl ⟨by rfl, ?_⟩) ?_
           rotate_left
           focus
             intro w' hb'
             go_simp
             with_reducible rfl
           simp only [Act.put, List.setIfInBounds_toArray, List.set_cons_zero, List.set_cons_succ])
        | (refine SeqS.take (v := undef) (by first | assumption | trivial) (by kernel_rfl) (by decide +kernel) (by decide +kernel) (Or.inr ⟨by rfl, rfl⟩) ?_
           simp only [Act.put, List.setIfInBounds_toArray, List.set_cons_zero, List.set_cons_succ])
        | (refine SeqS.take1 (v := ?_) (by first | assumption | trivial) (by kernel_rfl) (by decide +kernel) (by decide +kernel) (Or.inl ⟨by rfl, ?_⟩) ?_
           rotate_left
           focus
             intro w' hb'
             go_simp
             with_reducible rfl
           simp only [Act.put, List.setIfInBounds_toArray, List.set_cons_zero, List.set_cons_succ])
        | (refine SeqS.take1 (v := undef) (by first | assumption | trivial) (by kernel_rfl) (by decide +kernel) (by decide +kernel) (Or.inr ⟨by rfl, rfl⟩) ?_
           simp only [Act.put, List.setIfInBounds_toArray, List.set_cons_zero, List.set_cons_succ])
        | (refine SeqS.take2 (v := ?_) (by first | assumption | trivial) (by kernel_rfl) (by decide +kernel) (by decide +kernel) (Or.inl ⟨by rfl, ?_⟩) ?_
           rotate_left
           focus
             intro w' hb'
             go_simp
             with_reducible rfl
           simp only [Act.put, List.setIfInBounds_toArray, List.set_cons_zero, List.set_cons_succ])
        | (refine SeqS.take2 (v := undef) (by first | assumption | trivial) (by kernel_rfl) (by decide +kernel) (by decide +kernel) (Or.inr ⟨by rfl, rfl⟩) ?_
           simp only [Act.put, List.setIfInBounds_toArray, List.set_cons_zero, List.set_cons_succ])
        | (refine SeqS.take3 (v := ?_) (by first | assumption | trivial) (by kernel_rfl) (by decide +kernel) (by decide +kernel) (Or.inl ⟨by rfl, ?_⟩) ?_
           rotate_left
           focus
             intro w' hb'
             go_simp
             with_reducible rfl
           simp only [Act.put, List.setIfInBounds_toArray, List.set_cons_zero, List.set_cons_succ])
        | (refine SeqS.take3 (v := undef) (by first | assumption | trivial) (by kernel_rfl) (by decide +kernel) (by decide +kernel) (Or.inr ⟨by rfl, rfl⟩) ?_
           simp only [Act.put, List.setIfInBounds_toArray, List.set_cons_zero, List.set_cons_succ]))
      refine SeqS.done (by decide +kernel) ?_
      clear S2 S3 S4 sameH sameK hngH hngI hS
      have hG5 := GG.out v5 S5
      go_wp2_with fail
      refine (SP.room v5).mono ?_
      rintro e w' ⟨rfl, rfl⟩
      go_wp2_with fail
      refine (sealAlive_any SP v5 hG5).mono ?_
      rintro e v9 ⟨rfl, b9⟩
      go_wp2
      go_ret
      refine ⟨rfl, ?_⟩
      rw [hgH.out]
      exact hB2H.out.trans ((S5.trans (b9.mono S5.size)).mono hg2H.out)

set_option maxRecDepth 100000 in
set_option maxHeartbeats 1000000 in
theorem sealOpens_big (SP : SealProg) (id : Nat → Nat) (a : Option Addr) (n cap : Nat) (PL : List Int) (w : World) (hG : GE w) (hI : Ints .u8 w a n cap PL) (hn : 1000 < n) :
    Calls Tryz.prog 4 #[.agg (rowN 32 id).toArray, .slice a n cap] w fun e w' => e = .returned (.bool true) ∧ Below w.heap.size w w' := by
  have hbi : (1000 : Int) < (n : Int) := by omega
  obtain ⟨g, hg⟩ : ∃ g, w.heap.size = g := ⟨_, rfl⟩
  have hx0 : Blk (w.alloc (.cells (rowN 32 id).toArray 23)) w.heap.size 23 (rowN 32 id) := Blk.new w _ _
  have hB0 := below1 w (.cells (rowN 32 id).toArray 23)
  obtain ⟨W0, hW0⟩ : ∃ W0, w.alloc (.cells (rowN 32 id).toArray 23) = W0 := ⟨_, rfl⟩
  rw [hW0] at hx0 hB0
  have hG0 := hG.keep hB0
  have hI0 := hI.keep hB0
  go_enter Tryz.func4, Tryz.ntmps4
  go_wp2_with ((with_reducible refine wpList_box_blk rfl 23 (.tmp 0) rfl (rowN 32 id) ?_ ?_); rfl; refine RowKit.Hid.out ?_)
  refine Lib.hid ?_
  rw [hg] at hx0 hB0
  have hgH := Lib.hid hg
  clear hW0 hg hG hI
  clear hn
  go_wp2_with fail
  refine (sealAlive_any SP W0 hG0).mono ?_
  rintro e w9 ⟨rfl, b9⟩
  go_wp2
  go_ret
  refine ⟨rfl, ?_⟩
  rw [hgH.out]
  exact hB0.trans (b9.mono (Nat.le_of_lt hx0.lt))

set_option maxRecDepth 100000 in
set_option maxHeartbeats 1000000 in
theorem sealOpens_err (SP : SealProg) (id : Nat → Nat) (a : Option Addr) (n cap : Nat) (PL : List Int) (w : World) (hG : GE w) (hI : Ints .u8 w a n cap PL) (hn : n ≤ 1000) (er : Int) (her : (er != 0) = true)
    (CP : ∀ w', GE w' → Ints .u8 w' a n cap PL → Calls Tryz.prog 13 #[.agg (rowN 32 id).toArray, .slice a n cap] w' fun e w'' => ∃ b c, e = .returned (.tuple #[.slice b 0 c, .int .i64 er]) ∧ Below w'.heap.size w' w'')
    (CQ : ∀ w', Ints .u8 w' a n cap PL → Calls Tryz.prog 14 #[.agg (rowN 32 id).toArray, .slice a n cap] w' fun e w'' => e = .returned (.tuple #[.slice none 0 0, .int .i64 er]) ∧ Below w'.heap.size w' w'') :
    Calls Tryz.prog 4 #[.agg (rowN 32 id).toArray, .slice a n cap] w fun e w' => e = .returned (.bool true) ∧ Below w.heap.size w w' := by
  have hbi : ¬ (1000 : Int) < (n : Int) := by omega
  have CPH := Lib.hid CP
  have CQH := Lib.hid CQ
  clear CP CQ
  obtain ⟨g, hg⟩ : ∃ g, w.heap.size = g := ⟨_, rfl⟩
  have hx0 : Blk (w.alloc (.cells (rowN 32 id).toArray 23)) w.heap.size 23 (rowN 32 id) := Blk.new w _ _
  have hB0 := below1 w (.cells (rowN 32 id).toArray 23)
  obtain ⟨W0, hW0⟩ : ∃ W0, w.alloc (.cells (rowN 32 id).toArray 23) = W0 := ⟨_, rfl⟩
  rw [hW0] at hx0 hB0
  have hG0 := hG.keep hB0
  have hI0 := hI.keep hB0
  go_enter Tryz.func4, Tryz.ntmps4
  go_wp2_with ((with_reducible refine wpList_box_blk rfl 23 (.tmp 0) rfl (rowN 32 id) ?_ ?_); rfl; refine RowKit.Hid.out ?_)
  refine Lib.hid ?_
  rw [hg] at hx0 hB0
  have hgH := Lib.hid hg
  clear hW0 hg hG hI
  clear hn
  go_wp2_with ((refine wpList_load_blk rfl 23 (.tmp 2) rfl ?_ hx0 rowId (rowN_len 32 id) ?_); rfl)
  refine (CPH.out W0 hG0 hI0).mono ?_
  rintro e w1 ⟨b, c, rfl, b1⟩
  have hx1 := hx0.keep b1 hx0.lt
  have hG1 := hG0.keep b1
  have hI1 := hI0.keep b1
  have hB1 := hB0.trans (b1.mono (Nat.le_of_lt hx0.lt))
  clear hx0 hG0 hI0 hB0 b1
  go_wp2_with ((refine wpList_load_blk rfl 23 (.tmp 2) rfl ?_ hx1 rowId (rowN_len 32 id) ?_); rfl)
  refine (CQH.out w1 hI1).mono ?_
  rintro e w2 ⟨rfl, b2⟩
  have hG2 := hG1.keep b2
  have hB2 := Lib.hid (hB1.trans (b2.mono (Nat.le_of_lt hx1.lt)))
  have hg2 := Lib.hid (Nat.le_trans (Nat.le_of_lt hx1.lt) b2.size)
  have f1 := (show Ints .u8 w2 b 0 c [] from ⟨rfl, Nat.zero_le _, .inl rfl⟩).string 24 9 5 Tryz.underlying24 Tryz.underlying5 Tryz.underlying9
  have f2 := (show Ints .u8 w2 none 0 0 [] from ⟨rfl, Nat.zero_le _, .inl rfl⟩).string 24 9 5 Tryz.underlying24 Tryz.underlying5 Tryz.underlying9
  clear hx1 hG1 hI1 hB1 b2
  go_wp2_with fail
  refine (sealAlive_any SP w2 hG2).mono ?_
  rintro e w9 ⟨rfl, b9⟩
  go_wp2
  go_ret
  refine ⟨rfl, ?_⟩
  rw [hgH.out]
  exact hB2.out.trans (b9.mono hg2.out)

theorem blob_back (id f : Nat → Nat) (m : Nat) (ht : sealT id m f = bytesL 32 (fun i => f (m + i))) : blobL id m (sealM id f) = bytesL (m + 32) f := by
  unfold blobL
  rw [sealM_back, ht, ← bytes_tail m 32 f, ← bytes_head m 32 f, List.take_append_drop]

set_option maxRecDepth 100000 in
set_option maxHeartbeats 1000000 in
theorem sealOpens_ok (SP : SealProg) (id : Nat → Nat) (a : Option Addr) (n m cap : Nat) (PL XL : List Int) (w : World) (hG : GE w) (hI : Ints .u8 w a n cap PL) (hnm : m + 32 = n) (hn : n ≤ 600)
    (CP : ∀ w', GE w' → Ints .u8 w' a n cap PL → Calls Tryz.prog 13 #[.agg (rowN 32 id).toArray, .slice a n cap] w' fun e w'' => ∃ b c, e = .returned (.tuple #[.slice b m c, .int .i64 0]) ∧ Ints .u8 w'' b m c XL ∧ Below w'.heap.size w' w'')
    (CQ : ∀ w', Ints .u8 w' a n cap PL → Calls Tryz.prog 14 #[.agg (rowN 32 id).toArray, .slice a n cap] w' fun e w'' => ∃ b c, e = .returned (.tuple #[.slice b m c, .int .i64 0]) ∧ Ints .u8 w'' b m c XL ∧ Below w'.heap.size w' w'')
    (CS : ∀ w' b c, GE w' → Ints .u8 w' b m c XL → Calls Tryz.prog 6 #[.agg (rowN 32 id).toArray, .slice b m c] w' fun e w'' => ∃ b' c', e = .returned (.tuple #[.slice b' n c', .int .i64 0]) ∧ Ints .u8 w'' b' n c' PL ∧ Below w'.heap.size w' w'') :
    Calls Tryz.prog 4 #[.agg (rowN 32 id).toArray, .slice a n cap] w fun e w' => e = .returned (.bool true) ∧ Below w.heap.size w w' := by
  have hbi : ¬ (1000 : Int) < (n : Int) := by omega
  have CPH := Lib.hid CP
  have CQH := Lib.hid CQ
  have CSH := Lib.hid CS
  clear CP CQ CS
  obtain ⟨g, hg⟩ : ∃ g, w.heap.size = g := ⟨_, rfl⟩
  have hx0 : Blk (w.alloc (.cells (rowN 32 id).toArray 23)) w.heap.size 23 (rowN 32 id) := Blk.new w _ _
  have hB0 := below1 w (.cells (rowN 32 id).toArray 23)
  obtain ⟨W0, hW0⟩ : ∃ W0, w.alloc (.cells (rowN 32 id).toArray 23) = W0 := ⟨_, rfl⟩
  rw [hW0] at hx0 hB0
  have hG0 := hG.keep hB0
  have hI0 := hI.keep hB0
  go_enter Tryz.func4, Tryz.ntmps4
  go_wp2_with ((with_reducible refine wpList_box_blk rfl 23 (.tmp 0) rfl (rowN 32 id) ?_ ?_); rfl; refine RowKit.Hid.out ?_)
  refine Lib.hid ?_
  rw [hg] at hx0 hB0
  have hgH := Lib.hid hg
  clear hW0 hg hG hI
  clear hn hnm
  go_wp2_with ((refine wpList_load_blk rfl 23 (.tmp 2) rfl ?_ hx0 rowId (rowN_len 32 id) ?_); rfl)
  refine (CPH.out W0 hG0 hI0).mono ?_
  rintro e w1 ⟨b, c, rfl, hX, b1⟩
  have hx1 := hx0.keep b1 hx0.lt
  have hG1 := hG0.keep b1
  have hI1 := hI0.keep b1
  have hB1 := hB0.trans (b1.mono (Nat.le_of_lt hx0.lt))
  clear hx0 hG0 hI0 hB0 b1
  go_wp2_with ((refine wpList_load_blk rfl 23 (.tmp 2) rfl ?_ hx1 rowId (rowN_len 32 id) ?_); rfl)
  refine (CQH.out w1 hI1).mono ?_
  rintro e w2 ⟨b', c', rfl, hY, b2⟩
  have hx2 := hx1.keep b2 hx1.lt
  have hG2 := hG1.keep b2
  have hI2 := hI1.keep b2
  have hX2 := hX.keep b2
  have hB2 := hB1.trans (b2.mono (Nat.le_of_lt hx1.lt))
  have f1 := hX2.string 24 9 5 Tryz.underlying24 Tryz.underlying5 Tryz.underlying9
  have f2 := hY.string 24 9 5 Tryz.underlying24 Tryz.underlying5 Tryz.underlying9
  clear hx1 hG1 hI1 hB1 hX hY b2
  go_wp2_with ((refine wpList_load_blk rfl 23 (.tmp 2) rfl ?_ hx2 rowId (rowN_len 32 id) ?_); rfl)
  refine (CSH.out w2 b c hG2 hX2).mono ?_
  rintro e w3 ⟨sb', sc, rfl, hS, b3⟩
  have hG3 := hG2.keep b3
  have hI3 := hI2.keep b3
  have hB3 := Lib.hid (hB2.trans (b3.mono (Nat.le_of_lt hx2.lt)))
  have hg3 := Lib.hid (Nat.le_trans (Nat.le_of_lt hx2.lt) b3.size)
  clear f1 f2
  have f1 := hS.string 24 9 5 Tryz.underlying24 Tryz.underlying5 Tryz.underlying9
  have f2 := hI3.string 24 9 5 Tryz.underlying24 Tryz.underlying5 Tryz.underlying9
  clear hx2 hG2 hI2 hX2 hB2 hS hI3 b3
  go_wp2_with fail
  refine (sealAlive_any SP w3 hG3).mono ?_
  rintro e w9 ⟨rfl, b9⟩
  go_wp2
  go_ret
  refine ⟨rfl, ?_⟩
  rw [hgH.out]
  exact hB3.out.trans (b9.mono hg3.out)

theorem sealOpens_any (SP : SealProg) (id f : Nat → Nat) (a : Option Addr) (n cap : Nat) (w : World) (hG : GE w) (hid : By id) (hf : By f) (hI : Ints .u8 w a n cap (bytesL n f)) :
    Calls Tryz.prog 4 #[.agg (rowN 32 id).toArray, .slice a n cap] w fun e w' => e = .returned (.bool true) ∧ Below w.heap.size w w' := by
  by_cases h1 : 1000 < n
  · exact sealOpens_big SP id a n cap _ w hG hI h1
  by_cases h2 : n < 32
  · exact sealOpens_err SP id a n cap _ w hG hI (by omega) 2 rfl (fun w' hg _ => SP.short id a n cap w' hg hid h2) (fun w' _ => rOpen_short id a n cap w' h2)
  by_cases h3 : 600 < n
  · exact sealOpens_err SP id a n cap _ w hG hI (by omega) 3 rfl (fun w' hg _ => SP.longer id a n cap w' hg hid h3 (by omega)) (fun w' _ => rOpen_long id a n cap w' h3)
  obtain ⟨m, rfl⟩ : ∃ m, n = m + 32 := ⟨n - 32, by omega⟩
  have hm : m ≤ 568 := by omega
  by_cases ht : sealT id m f = bytesL 32 (fun i => f (m + i))
  · refine sealOpens_ok SP id a (m + 32) m cap (bytesL (m + 32) f) (bytesL m (sealM id f)) w hG hI rfl (by omega) (fun w' hg hi => SP.opens id a m cap f w' hg hid hf hi hm ht) (fun w' hi => ?_) (fun w' b c hg hi => ?_)
    · refine (rOpen_any id a m cap f w' hid hf hi hm).mono ?_
      rintro e w'' ⟨_, h, hb⟩
      obtain ⟨b, c, he, ho⟩ := h ht
      exact ⟨b, c, he, own_intsL ho, hb⟩
    · rw [← blob_back id f m ht]
      exact SP.ok id b m c (sealM id f) w' hg hid (sealM_by id hf) hi hm
  · exact sealOpens_err SP id a (m + 32) cap _ w hG hI (by omega) 8 rfl (fun w' hg hi => SP.shut id a m cap f w' hg hid hf hi hm ht) (fun w' hi => (rOpen_any id a m cap f w' hid hf hi hm).mono fun _ _ h => ⟨h.1 ht, h.2.2⟩)

theorem law_SealSeals (SP : SealProg) (z0 : List Int) (a : Option Addr) (n c : Nat) (z : List Int) (w : World) (hG : Glob w ∧ ErrT w) (h0 : z0.length = 32) (w0 : ∀ x ∈ z0, (Lit.int .u8 x).wf = true) (hI : Ints .u8 w a n c z) (hw : ∀ x ∈ z, (Lit.int .u8 x).wf = true) (_ : c ≤ maxLen) :
    Calls Tryz.prog 3 #[.agg (z0.map (Value.int .u8)).toArray, .slice a n c] w fun e w' => e = .returned (.bool true) ∧ Below w.heap.size w w' := by
  obtain ⟨id, hid, rfl⟩ := bytes_fn z0 32 h0 w0
  obtain ⟨f, hf, rfl⟩ := bytes_fn z n hI.len hw
  rw [bytesL_row]
  exact sealSeals_any SP id f a n c w hG hid hf hI
theorem law_SealOpens (SP : SealProg) (z0 : List Int) (a : Option Addr) (n c : Nat) (z : List Int) (w : World) (hG : Glob w ∧ ErrT w) (h0 : z0.length = 32) (w0 : ∀ x ∈ z0, (Lit.int .u8 x).wf = true) (hI : Ints .u8 w a n c z) (hw : ∀ x ∈ z, (Lit.int .u8 x).wf = true) (_ : c ≤ maxLen) :
    Calls Tryz.prog 4 #[.agg (z0.map (Value.int .u8)).toArray, .slice a n c] w fun e w' => e = .returned (.bool true) ∧ Below w.heap.size w w' := by
  obtain ⟨id, hid, rfl⟩ := bytes_fn z0 32 h0 w0
  obtain ⟨f, hf, rfl⟩ := bytes_fn z n hI.len hw
  rw [bytesL_row]
  exact sealOpens_any SP id f a n c w hG hid hf hI
end Go.Proofs.YtagacpjeooaapaaGreatDoor
