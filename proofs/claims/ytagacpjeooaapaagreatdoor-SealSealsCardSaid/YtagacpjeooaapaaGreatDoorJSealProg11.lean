/-
  Texts of stages that were proved on their own, joined: SealRef, SealFns. Each begins with its own words.
-/
import Derived.Test.YtagacpjeooaapaaGreatDoorJSealProg4
import Derived.Test.YtagacpjeooaapaaGreatDoorJSealProg10
import Derived.Test.YtagacpjeooaapaaGreatDoorJSealProg9
import Derived.Lib.SlBytesConst
import Derived.Test.YtagacpjeooaapaaGreatDoorJSealProg2

/-
  The document's own words on blobs: the key of an id, its parts, the blob of bytes. New memory alone is written. Conditions: bytes below 256.
-/
namespace Go.Proofs.YtagacpjeooaapaaGreatDoor
open Go.RowKit

def sealDom : List Int := [109, 105, 114, 97, 100, 111, 114]
def sealLab : List Int := [115, 101, 97, 108]
/-- The key of an id; the bytes that are derived of it; the two parts. -/
def sealK (id : Nat → Nat) : List Int := shaSum (sealDom ++ bytesL 32 id)
def sealAll (id : Nat → Nat) : List Int := derived (sealK id) sealLab 64
def sealA (id : Nat → Nat) : List Int := (sealAll id).take 32
def sealB (id : Nat → Nat) : List Int := (sealAll id).drop 32
/-- The round keys of the stream; the bytes masked; their tag. -/
def sealF (id : Nat → Nat) : Nat → Nat := kb (kws (own (sealA id)) 52)
def sealM (id f : Nat → Nat) : Nat → Nat := mk (keyAt (sealF id)) 0 f
def sealT (id : Nat → Nat) (n : Nat) (f : Nat → Nat) : List Int := tagOf (sealB id) (bytesL n f)
theorem sealDom_range : ∀ x ∈ sealDom, 0 ≤ x ∧ x < 256 := by decide
theorem tags_by (key label : List Int) : ∀ n, ∀ x ∈ tags key label n, 0 ≤ x ∧ x < 256
  | 0, x, h => by simp [tags] at h
  | n + 1, x, h => by
    simp only [tags, List.mem_append] at h
    rcases h with h | h
    · exact tags_by key label n x h
    · exact shaSum_range _ x h
theorem sealAll_range (id : Nat → Nat) : ∀ x ∈ sealAll id, 0 ≤ x ∧ x < 256 := fun x hx => tags_by _ _ _ x (List.mem_of_mem_take hx)
theorem sealA_range (id : Nat → Nat) : ∀ x ∈ sealA id, 0 ≤ x ∧ x < 256 := fun x hx => sealAll_range id x (List.mem_of_mem_take hx)
theorem sealB_range (id : Nat → Nat) : ∀ x ∈ sealB id, 0 ≤ x ∧ x < 256 := fun x hx => sealAll_range id x (List.mem_of_mem_drop hx)
theorem sealAll_len (id : Nat → Nat) : (sealAll id).length = 64 := derived_length _ _ _
theorem sealK_len (id : Nat → Nat) : (sealK id).length = 32 := shaSum_length _
theorem sealK_range (id : Nat → Nat) : ∀ x ∈ sealK id, 0 ≤ x ∧ x < 256 := shaSum_range _
theorem sealF_by (id : Nat → Nat) : By (sealF id) := kb_by _
theorem sealM_by (id : Nat → Nat) {f : Nat → Nat} (hf : By f) : By (sealM id f) := mk_by (fun r => keyAt_by (sealF_by id) r) 0 hf
theorem sealT_len (id : Nat → Nat) (n : Nat) (f : Nat → Nat) : (sealT id n f).length = 32 := tagOf_length _ _
theorem sealT_range (id : Nat → Nat) (n : Nat) (f : Nat → Nat) : ∀ x ∈ sealT id n f, 0 ≤ x ∧ x < 256 := shaSum_range _
theorem sealM_back (id f : Nat → Nat) : sealM id (sealM id f) = f := by
  funext i
  unfold sealM mk
  rw [Nat.xor_assoc, Nat.xor_self, Nat.xor_zero]
theorem add_off (b o j : Nat) : (⟨b, o, none⟩ : Addr).add j = ⟨b, o + j, none⟩ := by unfold Addr.add; split <;> simp_all
theorem add_at (b j : Nat) : (⟨b, 0, none⟩ : Addr).add j = ⟨b, j, none⟩ := by unfold Addr.add; split <;> simp_all
/-- A literal row of a call's own. -/
theorem own_lit (w : World) (e : TypeId) (cs : Array Value) (n : Nat) (hn : cs.size = n) (hm : n ≤ maxLen) : (w.alloc (.cells cs e)).ownsRow w.heap.size e 1 (.slice (some ⟨w.heap.size, 0, none⟩) n n) n cs.toList :=
  ⟨by simp [hn], .inr ⟨w.heap.size, n, cs, rfl, Nat.le_refl _, heap_alloc_new w _, Nat.le_refl _, hm, by simp [hn], by rw [List.take_of_length_le]; simp [hn]⟩⟩
theorem id_ints {w : World} {g : Nat} {f : Nat → Nat} {t : TypeId} (n : Nat) (h : Blk w g t (rowN n f)) : Ints .u8 w (some ⟨g, 0, none⟩) n n (bytesL n f) := by
  have := Ints.row (o := 0) (cap := n) h n (by omega) (Nat.le_refl n)
  rw [show (fun i => f (0 + i)) = f by funext i; rw [Nat.zero_add]] at this
  exact this
def domC : Array Value := #[.int .u8 109, .int .u8 105, .int .u8 114, .int .u8 97, .int .u8 100, .int .u8 111, .int .u8 114]
theorem domC_list : domC.toList = sealDom.map (Value.int .u8) := rfl

set_option maxRecDepth 100000 in
set_option maxHeartbeats 1000000 in
theorem rKey_any (f : Nat → Nat) (w : World) (hf : By f) :
    Calls Tryz.prog 11 #[.agg (rowN 32 f).toArray] w fun e w' => e = .returned (.agg ((sealK f).map (Value.int .u8)).toArray) ∧ Below w.heap.size w w' := by
  obtain ⟨i0, hi, hz0, hz1, hz2⟩ := info_u8
  obtain ⟨g, hg⟩ : ∃ g, w.heap.size = g := ⟨_, rfl⟩
  go_enter Tryz.func11, Tryz.ntmps11
  go_wp2_with (first
    | ((with_reducible refine wpList_box_blk rfl 23 (.tmp 0) rfl (rowN 32 f) ?_ ?_); rfl)
    | (with_reducible refine wpList_alloc_blk rfl 23 rfl zeroId ?_; refine RowKit.Hid.out ?_))
  refine Lib.hid ?_
  obtain ⟨W1, hW1⟩ : ∃ W1, (w.alloc (.cells (rowN 32 f).toArray 23)).alloc (.cells (zb 32).toArray 23) = W1 := ⟨_, rfl⟩
  have hid : Blk W1 g 23 (rowN 32 f) := by rw [← hW1, ← hg]; exact (Blk.new w _ _).alloc _
  have hres : Blk W1 (g + 1) 23 (zb 32) := by rw [← hW1, ← hg]; exact Blk.new1 w _ _ _
  have hB : Below g w W1 := by rw [← hW1, ← hg]; exact below2 w _ _
  rw [hW1]
  have hgH := Lib.hid hg
  clear hW1
  have kc := Lib.run_convert_bytes_const (P := Tryz.prog) W1 24 5 domC 7 7 Tryz.underlying24 Tryz.underlying5
  unfold domC at kc
  go_wp2_with (at_builtin; refine RowKit.Hid.out ?_)
  refine Lib.hid ?_
  generalize hW2 : W1.alloc _ = W2
  have b2 : Below W1.heap.size W1 W2 := by rw [← hW2]; exact below1 W1 _
  have hid2 := hid.keep b2 hid.lt
  have hres2 := hres.keep b2 hres.lt
  have hB2 := hB.trans (b2.mono (Nat.le_of_lt hid.lt))
  have hc : ∀ j u, (sealDom.map (Value.int .u8))[j]? = some u → W2.cell? ⟨W1.heap.size, 0 + j, none⟩ = some u := by
    intro j u hj
    rw [Nat.zero_add, ← hW2, cell_of_block (heap_alloc_new W1 _)]
    simpa [sealDom] using hj
  clear hW2 b2 hid hres hB kc
  refine wpList_append_arg W2 rfl (.tmp 4) (.tmp 5) 24 rfl 5 i0 (.int .u8 0) 1 1 Tryz.underlying24 hi hz0 hz1 hz2 rfl (by decide) W1.heap.size 0 7 7 (sealDom.map (Value.int .u8)) rfl rfl hc ⟨g, 0, none⟩ 32 32 (rowN 32 f) rfl (by rw [rowN_len]) ?_ (rowN_one 32 f) (fun h => absurd h (by decide)) (by unfold maxLen; decide) (by decide) (fun h => absurd h (by decide)) ?_
  · intro j u hj
    rw [add_at, hid2.cell]
    exact hj
  intro _ v4 w4 hown4 hg4
  rw [← bytesL_row, ← List.map_append] at hown4
  obtain ⟨A, c, rfl, hI4⟩ := Ints.of_owns hown4
  have b4 : Below W2.heap.size W2 w4 := (Below.refl _ _).grown hg4 (Nat.le_refl _) (fun q hq => by cases hq)
  have hres4 := hres2.keep b4 hres2.lt
  have hB4 := hB2.trans (b4.mono (Nat.le_of_lt hid2.lt))
  have hgl4 : g ≤ w4.heap.size := Nat.le_trans (Nat.le_of_lt hid2.lt) b4.size
  clear hown4 hg4 hc hid2 hres2 hB2 b4
  go_wp2_with fail
  refine (refSum_any A 39 c (sealDom ++ bytesL 32 f) w4 hI4 (by intro x hx; rcases List.mem_append.1 hx with hx | hx; exact sealDom_range x hx; exact bytesL_range hf 32 x hx) (by decide)).mono ?_
  rintro e w5 ⟨rfl, b5⟩
  have hK : shaSum (sealDom ++ bytesL 32 f) = sealK f := rfl
  rw [hK]
  obtain ⟨X, hX⟩ : ∃ X, (sealK f).map (Value.int .u8) = X := ⟨_, rfl⟩
  have hXl : X.length = 32 := by rw [← hX, List.length_map, sealK_len]
  have HI : IsRow Tryz.prog 23 X.length := by rw [hXl]; exact rowId
  have HO1 := Lib.hid (show ∀ v ∈ X, v.oneCell' = true by rw [← hX]; exact ints_oneCell' _ _)
  have HOF := Lib.hid (show 0 + X.length ≤ (zb 32).length by rw [hXl]; decide)
  have hres5 := hres4.keep b5 hres4.lt
  have hB5 := Lib.hid (hB4.trans (b5.mono hgl4))
  have hov := Lib.hid (overV_all (zb 32) X (by rw [hXl]; rfl))
  rw [hX]
  have hXH := Lib.hid hX
  clear hX hXl hK hI4 hB4 b5 hres4 hgl4
  go_wp2_with ((with_reducible refine wpList_store_part rfl 23 (.tmp 2) (.tmp 7) rfl ?_ ?_ hres5 HI HOF.out HO1.out ?_); rfl; rfl; intro w9 hR9 hg9)
  rw [hov.out] at hR9
  (try simp only [Exit.inBlock, Exit.then])
  refine bodyPost_ret (results_blk rfl rfl hR9 HI) rfl ?_
  refine ⟨by rw [hXH.out], ?_⟩
  rw [hgH.out]
  exact hB5.out.trans (below_of_grown hg9 (Nat.le_succ g) hres5.lt)

set_option maxRecDepth 100000 in
set_option maxHeartbeats 1000000 in
theorem rParts_any (f : Nat → Nat) (w : World) (hf : By f) :
    Calls Tryz.prog 18 #[.agg (rowN 32 f).toArray] w fun e w' => ∃ a c b d, e = .returned (.tuple #[.slice a 32 c, .slice b 32 d]) ∧ Ints .u8 w' a 32 c (sealA f) ∧ Ints .u8 w' b 32 d (sealB f) ∧ Below w.heap.size w w' := by
  obtain ⟨g, hg⟩ : ∃ g, w.heap.size = g := ⟨_, rfl⟩
  have hx0 : Blk (w.alloc (.cells (rowN 32 f).toArray 23)) w.heap.size 23 (rowN 32 f) := Blk.new w _ _
  have hB0 := below1 w (.cells (rowN 32 f).toArray 23)
  obtain ⟨W0, hW0⟩ : ∃ W0, w.alloc (.cells (rowN 32 f).toArray 23) = W0 := ⟨_, rfl⟩
  rw [hW0] at hx0 hB0
  go_enter Tryz.func18, Tryz.ntmps18
  go_wp2_with ((with_reducible refine wpList_box_blk rfl 23 (.tmp 0) rfl (rowN 32 f) ?_ ?_); rfl; refine RowKit.Hid.out ?_)
  refine Lib.hid ?_
  rw [hg] at hx0 hB0
  have hgH := Lib.hid hg
  clear hW0 hg
  go_wp2_with ((refine wpList_load_blk rfl 23 (.tmp 1) rfl ?_ hx0 rowId (rowN_len 32 f) ?_); rfl)
  refine (rKey_any f W0 hf).mono ?_
  rintro e w1 ⟨rfl, b1⟩
  have hB1 := Lib.hid (hB0.trans (b1.mono (Nat.le_of_lt hx0.lt)))
  have hg1 : g ≤ w1.heap.size := Nat.le_trans (Nat.le_of_lt hx0.lt) b1.size
  obtain ⟨X, hX⟩ : ∃ X, (sealK f).map (Value.int .u8) = X := ⟨_, rfl⟩
  have hXl : X.length = 32 := by rw [← hX, List.length_map, sealK_len]
  have HI : IsRow Tryz.prog 23 X.length := by rw [hXl]; exact rowId
  have HO1 := Lib.hid (show ∀ v ∈ X, v.oneCell' = true by rw [← hX]; exact ints_oneCell' _ _)
  have HOF := Lib.hid (show 0 + X.length ≤ (zb 32).length by rw [hXl]; decide)
  have hov := Lib.hid (overV_all (zb 32) X (by rw [hXl]; rfl))
  rw [hX]
  have hXH := Lib.hid hX
  have hg1H := Lib.hid hg1
  clear hX hXl hx0 hB0 b1 hg1
  go_wp2_with (first
    | (with_reducible refine wpList_alloc_blk rfl 23 rfl zeroId ?_)
    | (refine wpList_store_part (g := w1.heap.size) (off := 0) (t := 23) (cur := zb 32) (cs := X) rfl 23 (.tmp 4) (.tmp 7) rfl ?_ ?_ (Blk.new w1 _ (zb 32)) HI ?_ HO1.out ?_
       rfl
       rfl
       exact HOF.out
       intro w2 hk2 hg2
       refine RowKit.Hid.out ?_))
  refine Lib.hid ?_
  rw [hov.out, ← hXH.out] at hk2
  have b2 : Below w1.heap.size w1 w2 := (below1 w1 _).trans (below_of_grown hg2 (Nat.le_refl _) (by rw [size1]; omega))
  have hI2 : Ints .u8 w2 (some ⟨w1.heap.size, 0, none⟩) 32 32 (sealK f) := Ints.of_blk hk2 (sealK_len f) (Nat.le_refl _) (fun i hi => by rw [Nat.zero_add]; exact getElem?_mapInt _ _ _ (by rw [sealK_len]; exact hi))
  have hB2 := hB1.out.trans (b2.mono hg1H.out)
  have hg2s : g ≤ w2.heap.size := Nat.le_trans hg1H.out b2.size
  obtain ⟨k, hk⟩ : ∃ k, w1.heap.size = k := ⟨_, rfl⟩
  rw [hk] at hI2 ⊢
  clear hk2 hg2 b2 HI HO1 HOF hov hXH hk
  go_wp2_with fail
  refine (refDerive_any (some ⟨k, 0, none⟩) 32 32 (sealK f) { data := #[115, 101, 97, 108] } 64 w2 hI2 (sealK_range f) (by decide) (by decide) (by decide)).mono ?_
  rintro e w3 ⟨lb, lc, rfl, hL, b3⟩
  have hL : Ints .u8 w3 lb 64 lc (sealAll f) := hL
  have hB3 := hB2.trans (b3.mono hg2s)
  have hc1 := hL.2.1
  obtain ⟨bb, off, rfl, _⟩ := hL.at (by decide)
  have hA : Ints .u8 w3 (some ⟨bb, off, none⟩) 32 lc (sealA f) := hL.upto 32 (by decide)
  have hc1H := Lib.hid hc1
  have hci : (32 : Int) ≤ (lc : Int) := by omega
  have hci' : 32 ≤ lc := by omega
  have hcn : ¬ lc = 32 := by omega
  clear hc1 hI2 hg2s hB2
  go_wp2_with fail
  refine region_seqS (fun _ => True) (by kernel_rfl) trivial ?_
  simp only [pairs, Nat.reduceAdd]
  repeat (first
    | (refine SeqS.take (v := ?_) (by first | assumption | trivial) (by kernel_rfl) (by decide +kernel) (by decide +kernel) (Or.inl ⟨by rfl, ?_⟩) ?_
       rotate_left
       focus
         intro w' hb'
         go_simp
         with_reducible rfl
       simp only [Act.put, List.setIfInBounds_toArray, List.set_cons_zero, List.set_cons_succ])
    | (refine SeqS.take (v := undef) (by first | assumption | trivial) (by kernel_rfl) (by decide +kernel) (by decide +kernel) (Or.inr ⟨by rfl, rfl⟩) ?_
       simp only [Act.put, List.setIfInBounds_toArray, List.set_cons_zero, List.set_cons_succ])
    | (refine SeqS.take1 (v := ?_) (by first | assumption | trivial) (by kernel_rfl) (by decide +kernel) (by decide +kernel) (Or.inl ⟨by rfl, ?_⟩) ?_
       rotate_left
       focus
         intro w' hb'
         go_simp
         with_reducible rfl
       simp only [Act.put, List.setIfInBounds_toArray, List.set_cons_zero, List.set_cons_succ])
    | (refine SeqS.take1 (v := undef) (by first | assumption | trivial) (by kernel_rfl) (by decide +kernel) (by decide +kernel) (Or.inr ⟨by rfl, rfl⟩) ?_
       simp only [Act.put, List.setIfInBounds_toArray, List.set_cons_zero, List.set_cons_succ])
    | (refine SeqS.take2 (v := ?_) (by first | assumption | trivial) (by kernel_rfl) (by decide +kernel) (by decide +kernel) (Or.inl ⟨by rfl, ?_⟩) ?_
       rotate_left
       focus
         intro w' hb'
         go_simp
         with_reducible rfl
       simp only [Act.put, List.setIfInBounds_toArray, List.set_cons_zero, List.set_cons_succ])
    | (refine SeqS.take2 (v := undef) (by first | assumption | trivial) (by kernel_rfl) (by decide +kernel) (by decide +kernel) (Or.inr ⟨by rfl, rfl⟩) ?_
       simp only [Act.put, List.setIfInBounds_toArray, List.set_cons_zero, List.set_cons_succ]))
  refine SeqS.done (by decide +kernel) ?_
  have hb32 : Ints .u8 w3 (some ⟨bb, off + 32, none⟩) 32 (lc - 32) (sealB f) := by
    have h := hL.cut2 32 64 (by decide) (by decide)
    rw [show cutAddr (some ⟨bb, off, none⟩) lc 32 = some ⟨bb, off + 32, none⟩ by unfold cutAddr; rw [if_neg hcn]; rfl, List.take_of_length_le (by rw [List.length_drop, sealAll_len]; decide)] at h
    exact h
  go_wp2
  go_ret2
  refine ⟨_, _, _, _, rfl, hA, hb32, ?_⟩
  rw [hgH.out]
  exact hB3.drew

set_option maxRecDepth 100000 in
set_option maxHeartbeats 1000000 in
theorem rSeal_long (id : Nat → Nat) (a : Option Addr) (n cap : Nat) (w : World) (hn : 568 < n) :
    Calls Tryz.prog 7 #[.agg (rowN 32 id).toArray, .slice a n cap] w fun e w' => e = .returned (.tuple #[.slice none 0 0, .int .i64 3]) ∧ Below w.heap.size w w' := by
  have hni : (568 : Int) < (n : Int) := by omega
  obtain ⟨g, hg⟩ : ∃ g, w.heap.size = g := ⟨_, rfl⟩
  have hx0 : Blk (w.alloc (.cells (rowN 32 id).toArray 23)) w.heap.size 23 (rowN 32 id) := Blk.new w _ _
  have hB0 := below1 w (.cells (rowN 32 id).toArray 23)
  obtain ⟨W0, hW0⟩ : ∃ W0, w.alloc (.cells (rowN 32 id).toArray 23) = W0 := ⟨_, rfl⟩
  rw [hW0] at hx0 hB0
  go_enter Tryz.func7, Tryz.ntmps7
  go_wp2_with ((with_reducible refine wpList_box_blk rfl 23 (.tmp 0) rfl (rowN 32 id) ?_ ?_); rfl; refine RowKit.Hid.out ?_)
  refine Lib.hid ?_
  rw [hg] at hx0 hB0
  have hgH := Lib.hid hg
  clear hW0 hg
  go_wp2
  go_ret2
  refine ⟨rfl, ?_⟩
  rw [hgH.out]
  exact hB0

set_option maxRecDepth 100000 in
set_option maxHeartbeats 1000000 in
theorem rSeal_any (id : Nat → Nat) (a : Option Addr) (n cap : Nat) (f : Nat → Nat) (w : World) (hid : By id) (hf : By f) (hI : Ints .u8 w a n cap (bytesL n f)) (hn : n ≤ 568) :
    Calls Tryz.prog 7 #[.agg (rowN 32 id).toArray, .slice a n cap] w fun e w' => ∃ b c, e = .returned (.tuple #[.slice b (n + 32) c, .int .i64 0]) ∧ w'.ownsRow w.heap.size 5 1 (.slice b (n + 32) c) (n + 32) (rowN n (sealM id f) ++ (sealT id n (sealM id f)).map (Value.int .u8)) ∧ Below w.heap.size w w' := by
  obtain ⟨i0, hi, hz0, hz1, hz2⟩ := info_u8
  have hni : ¬ (568 : Int) < (n : Int) := by omega
  obtain ⟨g, hg⟩ : ∃ g, w.heap.size = g := ⟨_, rfl⟩
  have hx0 : Blk (w.alloc (.cells (rowN 32 id).toArray 23)) w.heap.size 23 (rowN 32 id) := Blk.new w _ _
  have hB0 := below1 w (.cells (rowN 32 id).toArray 23)
  obtain ⟨W0, hW0⟩ : ∃ W0, w.alloc (.cells (rowN 32 id).toArray 23) = W0 := ⟨_, rfl⟩
  rw [hW0] at hx0 hB0
  have hI0 : Ints .u8 W0 a n cap (bytesL n f) := hI.keep hB0
  go_enter Tryz.func7, Tryz.ntmps7
  go_wp2_with ((with_reducible refine wpList_box_blk rfl 23 (.tmp 0) rfl (rowN 32 id) ?_ ?_); rfl; refine RowKit.Hid.out ?_)
  refine Lib.hid ?_
  rw [hg] at hx0 hB0
  have hgH := Lib.hid hg
  clear hW0 hg
  have hnH := Lib.hid hn
  clear hn hI
  go_wp2_with ((refine wpList_load_blk rfl 23 (.tmp 2) rfl ?_ hx0 rowId (rowN_len 32 id) ?_); rfl)
  refine (rParts_any id W0 hid).mono ?_
  rintro e w1 ⟨ka, kac, kb', kbc, rfl, hA, hBk, b1⟩
  have hI1 := hI0.keep b1
  have hB1 := hB0.trans (b1.mono (Nat.le_of_lt hx0.lt))
  have hg1 : g ≤ w1.heap.size := Nat.le_trans (Nat.le_of_lt hx0.lt) b1.size
  clear hx0 hB0 hI0 b1
  go_wp2_with fail
  refine (rMask_any ka kac (sealA id) 0 a n cap f w1 hA (sealA_range id) (by decide) hI1 hf (by have := hnH.out; omega)).mono ?_
  rintro e w2 ⟨xb, xc, rfl, ho, b2⟩
  have ho : w2.ownsRow w1.heap.size 5 1 (.slice xb n xc) n (rowN n (sealM id f)) := ho
  have hBk2 := hBk.keep b2
  have hB2 := hB1.trans (b2.mono hg1)
  have hg2 : g ≤ w2.heap.size := Nat.le_trans hg1 b2.size
  have ho : w2.ownsRow g 5 1 (.slice xb n xc) n (rowN n (sealM id f)) := own_base ho hg1
  have hXi := own_intsL ho
  clear hA hBk hI1 hB1 hg1 b2
  go_wp2_with fail
  refine (refOf_any kb' 32 kbc (sealB id) xb n xc (bytesL n (sealM id f)) w2 hBk2 (sealB_range id) hXi (bytesL_range (sealM_by id hf) n) (by decide) (by have := hnH.out; omega)).mono ?_
  rintro e w3 ⟨rfl, b3⟩
  have ho3 := own_keep ho b3
  have hB3 := Lib.hid (hB2.trans (b3.mono hg2))
  have hg3 := Lib.hid (Nat.le_trans hg2 b3.size)
  obtain ⟨TG, hTe⟩ : ∃ TG, tagOf (sealB id) (bytesL n (sealM id f)) = TG := ⟨_, rfl⟩
  have hTG : TG.length = 32 := by rw [← hTe]; exact tagOf_length _ _
  have hTeH : Hid (sealT id n (sealM id f) = TG) := Lib.hid hTe
  rw [hTe]
  clear hTe ho hXi hBk2 hB2 hg2 b3
  obtain ⟨X, hX⟩ : ∃ X, TG.map (Value.int .u8) = X := ⟨_, rfl⟩
  have hXl : X.length = 32 := by rw [← hX, List.length_map, hTG]
  have HI : IsRow Tryz.prog 23 X.length := by rw [hXl]; exact rowId
  have HO1 := Lib.hid (show ∀ v ∈ X, v.oneCell' = true by rw [← hX]; exact ints_oneCell' _ _)
  have HOF := Lib.hid (show 0 + X.length ≤ (zb 32).length by rw [hXl]; decide)
  have hov := Lib.hid (overV_all (zb 32) X (by rw [hXl]; rfl))
  rw [hX]
  have hXH := Lib.hid hX
  have hTGH := Lib.hid hTG
  clear hX hXl hTG
  go_wp2_with (first
    | (with_reducible refine wpList_alloc_blk rfl 23 rfl zeroId ?_)
    | (refine wpList_store_part (g := w3.heap.size) (off := 0) (t := 23) (cur := zb 32) (cs := X) rfl 23 (.tmp 9) (.tmp 23) rfl ?_ ?_ (Blk.new w3 _ (zb 32)) HI ?_ HO1.out ?_
       rfl
       rfl
       exact HOF.out
       intro w4 hk4 hg4
       refine RowKit.Hid.out ?_))
  refine Lib.hid ?_
  rw [hov.out, ← hXH.out] at hk4
  have b4 : Below w3.heap.size w3 w4 := (below1 w3 _).trans (below_of_grown hg4 (Nat.le_refl _) (by rw [size1]; omega))
  have hI4 : Ints .u8 w4 (some ⟨w3.heap.size, 0, none⟩) 32 32 TG := Ints.of_blk hk4 hTGH.out (Nat.le_refl _) (fun i hi => by rw [Nat.zero_add]; exact getElem?_mapInt _ _ _ (by rw [hTGH.out]; exact hi))
  have ho4 := own_keep ho3 b4
  have hB4 := Lib.hid (hB3.out.trans (b4.mono hg3.out))
  have hg4s : g ≤ w4.heap.size := Nat.le_trans hg3.out b4.size
  obtain ⟨k, hk⟩ : ∃ k, w3.heap.size = k := ⟨_, rfl⟩
  rw [hk] at hI4 ⊢
  have hg4H := Lib.hid hg4s
  clear hk4 hg4 b4 ho3 HI HO1 HOF hov hk hg4s
  go_wp2_with (at_builtin; refine wpList_append_ints rfl (.tmp 24) (.tmp 25) 24 rfl g 5 i0 (.int .u8 0) 1 Tryz.underlying24 hi hz0 hz1 hz2 rfl rfl ho4 rfl hI4 ?_ ?_ hg4H.out ?_; (have := hnH.out; unfold maxLen; omega); (have := hnH.out; omega); intro v6 w6 hown6 hg6; refine RowKit.Hid.out ?_)
  refine Lib.hid ?_
  have hB6 := hB4.out.grown hg6 hg4H.out (fun q hq => (ho4.lt q hq).1)
  obtain ⟨rb, rc, hv⟩ := own_slice hown6
  subst hv
  rw [← hTeH.out] at hown6
  clear hg6 ho4 hI4
  go_wp2
  go_ret2
  refine ⟨rb, rc, rfl, ?_, ?_⟩
  · rw [hgH.out]; exact hown6
  · rw [hgH.out]; exact hB6

set_option maxRecDepth 100000 in
set_option maxHeartbeats 1000000 in
theorem rOpen_short (id : Nat → Nat) (a : Option Addr) (n cap : Nat) (w : World) (hn : n < 32) :
    Calls Tryz.prog 14 #[.agg (rowN 32 id).toArray, .slice a n cap] w fun e w' => e = .returned (.tuple #[.slice none 0 0, .int .i64 2]) ∧ Below w.heap.size w w' := by
  have hni : (n : Int) < 32 := by omega
  obtain ⟨g, hg⟩ : ∃ g, w.heap.size = g := ⟨_, rfl⟩
  have hx0 : Blk (w.alloc (.cells (rowN 32 id).toArray 23)) w.heap.size 23 (rowN 32 id) := Blk.new w _ _
  have hB0 := below1 w (.cells (rowN 32 id).toArray 23)
  obtain ⟨W0, hW0⟩ : ∃ W0, w.alloc (.cells (rowN 32 id).toArray 23) = W0 := ⟨_, rfl⟩
  rw [hW0] at hx0 hB0
  go_enter Tryz.func14, Tryz.ntmps14
  go_wp2_with ((with_reducible refine wpList_box_blk rfl 23 (.tmp 0) rfl (rowN 32 id) ?_ ?_); rfl; refine RowKit.Hid.out ?_)
  refine Lib.hid ?_
  rw [hg] at hx0 hB0
  have hgH := Lib.hid hg
  clear hW0 hg
  go_wp2
  go_ret2
  refine ⟨rfl, ?_⟩
  rw [hgH.out]
  exact hB0

set_option maxRecDepth 100000 in
set_option maxHeartbeats 1000000 in
theorem rOpen_long (id : Nat → Nat) (a : Option Addr) (n cap : Nat) (w : World) (hn : 600 < n) :
    Calls Tryz.prog 14 #[.agg (rowN 32 id).toArray, .slice a n cap] w fun e w' => e = .returned (.tuple #[.slice none 0 0, .int .i64 3]) ∧ Below w.heap.size w w' := by
  have hni : ¬ (n : Int) < 32 := by omega
  have hnj : (600 : Int) < (n : Int) := by omega
  obtain ⟨g, hg⟩ : ∃ g, w.heap.size = g := ⟨_, rfl⟩
  have hx0 : Blk (w.alloc (.cells (rowN 32 id).toArray 23)) w.heap.size 23 (rowN 32 id) := Blk.new w _ _
  have hB0 := below1 w (.cells (rowN 32 id).toArray 23)
  obtain ⟨W0, hW0⟩ : ∃ W0, w.alloc (.cells (rowN 32 id).toArray 23) = W0 := ⟨_, rfl⟩
  rw [hW0] at hx0 hB0
  go_enter Tryz.func14, Tryz.ntmps14
  go_wp2_with ((with_reducible refine wpList_box_blk rfl 23 (.tmp 0) rfl (rowN 32 id) ?_ ?_); rfl; refine RowKit.Hid.out ?_)
  refine Lib.hid ?_
  rw [hg] at hx0 hB0
  have hgH := Lib.hid hg
  clear hW0 hg
  clear hn
  go_wp2
  go_ret2
  refine ⟨rfl, ?_⟩
  rw [hgH.out]
  exact hB0

set_option maxRecDepth 100000 in
set_option maxHeartbeats 1000000 in
theorem rOpen_any (id : Nat → Nat) (a : Option Addr) (m cap : Nat) (f : Nat → Nat) (w : World) (hid : By id) (hf : By f) (hI : Ints .u8 w a (m + 32) cap (bytesL (m + 32) f)) (hm : m ≤ 568) :
    Calls Tryz.prog 14 #[.agg (rowN 32 id).toArray, .slice a (m + 32) cap] w fun e w' =>
      (sealT id m f ≠ bytesL 32 (fun i => f (m + i)) → e = .returned (.tuple #[.slice none 0 0, .int .i64 8])) ∧
      (sealT id m f = bytesL 32 (fun i => f (m + i)) → ∃ b c, e = .returned (.tuple #[.slice b m c, .int .i64 0]) ∧ w'.ownsRow w.heap.size 5 1 (.slice b m c) m (rowN m (sealM id f))) ∧ Below w.heap.size w w' := by
  obtain ⟨n, hn⟩ : ∃ n, m + 32 = n := ⟨_, rfl⟩
  rw [hn] at hI ⊢
  have hni : ¬ (n : Int) < 32 := by omega
  have hnj : ¬ (600 : Int) < (n : Int) := by omega
  have hmi : (n : Int) - 32 = (m : Int) := by omega
  have hmn : (m : Int) ≤ (n : Int) := by omega
  have hm0 : (0 : Int) ≤ (m : Int) := by omega
  obtain ⟨g, hg⟩ : ∃ g, w.heap.size = g := ⟨_, rfl⟩
  have hx0 : Blk (w.alloc (.cells (rowN 32 id).toArray 23)) w.heap.size 23 (rowN 32 id) := Blk.new w _ _
  have hB0 := below1 w (.cells (rowN 32 id).toArray 23)
  obtain ⟨W0, hW0⟩ : ∃ W0, w.alloc (.cells (rowN 32 id).toArray 23) = W0 := ⟨_, rfl⟩
  rw [hW0] at hx0 hB0
  have hI0 : Ints .u8 W0 a n cap (bytesL n f) := hI.keep hB0
  go_enter Tryz.func14, Tryz.ntmps14
  go_wp2_with ((with_reducible refine wpList_box_blk rfl 23 (.tmp 0) rfl (rowN 32 id) ?_ ?_); rfl; refine RowKit.Hid.out ?_)
  refine Lib.hid ?_
  rw [hg] at hx0 hB0
  have hgH := Lib.hid hg
  clear hW0 hg
  have hmH := Lib.hid hm
  have hnH := Lib.hid hn
  clear hn hI hm
  go_wp2_with ((refine wpList_load_blk rfl 23 (.tmp 2) rfl ?_ hx0 rowId (rowN_len 32 id) ?_); rfl)
  refine (rParts_any id W0 hid).mono ?_
  rintro e w1 ⟨ka, kac, kb', kbc, rfl, hA, hBk, b1⟩
  have hI1 := hI0.keep b1
  have hB1 := hB0.trans (b1.mono (Nat.le_of_lt hx0.lt))
  have hg1 : g ≤ w1.heap.size := Nat.le_trans (Nat.le_of_lt hx0.lt) b1.size
  have hcap := hI1.2.1
  have hmc : (m : Int) ≤ (cap : Int) := by omega
  have hmcn : m ≤ cap := by omega
  have hH1 : Ints .u8 w1 a m cap (bytesL m f) := by
    have h := hI1.upto m (by have := hnH.out; omega)
    have h2 := bytes_cut n f 0 m (by have := hnH.out; omega)
    rw [List.drop_zero, show (fun i => f (0 + i)) = f by funext i; rw [Nat.zero_add]] at h2
    rw [h2] at h
    exact h
  clear hx0 hB0 hI0 b1 hcap
  go_wp2_with fail
  refine (refOf_any kb' 32 kbc (sealB id) a m cap (bytesL m f) w1 hBk (sealB_range id) hH1 (bytesL_range hf m) (by decide) (by have := hmH.out; omega)).mono ?_
  rintro e w3 ⟨rfl, b3⟩
  have hA3 := hA.keep b3
  have hI3 := hI1.keep b3
  have hB3 := Lib.hid (hB1.trans (b3.mono hg1))
  have hg3 := Lib.hid (Nat.le_trans hg1 b3.size)
  obtain ⟨TG, hTe⟩ : ∃ TG, tagOf (sealB id) (bytesL m f) = TG := ⟨_, rfl⟩
  have hTG : TG.length = 32 := by rw [← hTe]; exact tagOf_length _ _
  have hTr : ∀ x ∈ TG, 0 ≤ x ∧ x < 256 := by rw [← hTe]; exact shaSum_range _
  have hTeH : Hid (sealT id m f = TG) := Lib.hid hTe
  rw [hTe]
  clear hTe hA hBk hI1 hH1 hB1 hg1 b3
  obtain ⟨X, hX⟩ : ∃ X, TG.map (Value.int .u8) = X := ⟨_, rfl⟩
  have hXl : X.length = 32 := by rw [← hX, List.length_map, hTG]
  have HI : IsRow Tryz.prog 23 X.length := by rw [hXl]; exact rowId
  have HO1 := Lib.hid (show ∀ v ∈ X, v.oneCell' = true by rw [← hX]; exact ints_oneCell' _ _)
  have HOF := Lib.hid (show 0 + X.length ≤ (zb 32).length by rw [hXl]; decide)
  have hov := Lib.hid (overV_all (zb 32) X (by rw [hXl]; rfl))
  rw [hX]
  have hXH := Lib.hid hX
  have hTGH := Lib.hid hTG
  clear hX hXl hTG
  go_wp2_with (first
    | (with_reducible refine wpList_alloc_blk rfl 23 rfl zeroId ?_)
    | (refine wpList_store_part (g := w3.heap.size) (off := 0) (t := 23) (cur := zb 32) (cs := X) rfl 23 (.tmp 9) (.tmp 28) rfl ?_ ?_ (Blk.new w3 _ (zb 32)) HI ?_ HO1.out ?_
       rfl
       rfl
       exact HOF.out
       intro w4 hk4 hg4
       refine RowKit.Hid.out ?_))
  refine Lib.hid ?_
  rw [hov.out, ← hXH.out] at hk4
  have b4 : Below w3.heap.size w3 w4 := (below1 w3 _).trans (below_of_grown hg4 (Nat.le_refl _) (by rw [size1]; omega))
  have hI4 : Ints .u8 w4 (some ⟨w3.heap.size, 0, none⟩) 32 32 TG := Ints.of_blk hk4 hTGH.out (Nat.le_refl _) (fun i hi => by rw [Nat.zero_add]; exact getElem?_mapInt _ _ _ (by rw [hTGH.out]; exact hi))
  have hA4 := hA3.keep b4
  have hP4 := hI3.keep b4
  have hB4 := Lib.hid (hB3.out.trans (b4.mono hg3.out))
  have hg4H := Lib.hid (Nat.le_trans hg3.out b4.size)
  obtain ⟨k, hk⟩ : ∃ k, w3.heap.size = k := ⟨_, rfl⟩
  rw [hk] at hI4 ⊢
  obtain ⟨ab, aoff, rfl, _⟩ := hP4.at (by have := hnH.out; omega)
  obtain ⟨TL, hTL⟩ : ∃ TL, bytesL 32 (fun i => f (m + i)) = TL := ⟨_, rfl⟩
  have hTLr : ∀ x ∈ TL, 0 ≤ x ∧ x < 256 := by rw [← hTL]; exact bytesL_range (fun i => hf (m + i)) 32
  have hnm : n - m = 32 := by have := hnH.out; omega
  have hcm : ¬ cap = m := by have := hP4.2.1; have := hnH.out; omega
  have hT4 : Ints .u8 w4 (some ⟨ab, aoff + m, none⟩) 32 (cap - m) TL := by
    have h := hP4.cut2 m n (by omega) (Nat.le_refl n)
    rw [show cutAddr (some ⟨ab, aoff, none⟩) cap m = some ⟨ab, aoff + m, none⟩ by unfold cutAddr; rw [if_neg hcm, Option.map_some, add_off], hnm, bytes_cut n f m 32 (by have := hnH.out; omega), hTL] at h
    exact h
  have hH4 : Ints .u8 w4 (some ⟨ab, aoff, none⟩) m cap (bytesL m f) := by
    have h := hP4.upto m (by have := hnH.out; omega)
    have h2 := bytes_cut n f 0 m (by have := hnH.out; omega)
    rw [List.drop_zero, show (fun i => f (0 + i)) = f by funext i; rw [Nat.zero_add]] at h2
    rw [h2] at h
    exact h
  have f1 := (show Ints .u8 w4.drew _ _ _ _ from hI4).string 24 9 5 Tryz.underlying24 Tryz.underlying5 Tryz.underlying9
  have f2 := (show Ints .u8 w4.drew _ _ _ _ from hT4).string 24 9 5 Tryz.underlying24 Tryz.underlying5 Tryz.underlying9
  have hTLH := Lib.hid hTL
  have hcmH := Lib.hid hcm
  clear hk4 hg4 b4 hA3 hI3 HI HO1 HOF hov hk hP4 hT4 hI4 hTL
  go_wp2_with fail
  refine region_seqS (fun w' => w' = w4.drew) (by kernel_rfl) rfl ?_
  simp only [pairs, Nat.reduceAdd]
  repeat (first
    | (refine SeqS.take (v := ?_) (by first | assumption | trivial) (by kernel_rfl) (by decide +kernel) (by decide +kernel) (Or.inl ⟨by rfl, ?_⟩) ?_
       rotate_left
       focus
         intro w' hb'
         go_simp
         with_reducible rfl
       simp only [Act.put, List.setIfInBounds_toArray, List.set_cons_zero, List.set_cons_succ])
    | (refine SeqS.take (v := ?_) (by first | assumption | trivial) (by kernel_rfl) (by decide +kernel) (by decide +kernel) (Or.inl ⟨by rfl, ?_⟩) ?_
       rotate_left
       focus
         intro w' hb'
         (subst hb')
         go_simp
         with_reducible rfl
       simp only [Act.put, List.setIfInBounds_toArray, List.set_cons_zero, List.set_cons_succ])
    | (refine SeqS.take (v := undef) (by first | assumption | trivial) (by kernel_rfl) (by decide +kernel) (by decide +kernel) (Or.inr ⟨by rfl, rfl⟩) ?_
       simp only [Act.put, List.setIfInBounds_toArray, List.set_cons_zero, List.set_cons_succ])
    | (refine SeqS.take1 (v := ?_) (by first | assumption | trivial) (by kernel_rfl) (by decide +kernel) (by decide +kernel) (Or.inl ⟨by rfl, ?_⟩) ?_
       rotate_left
       focus
         intro w' hb'
         go_simp
         with_reducible rfl
       simp only [Act.put, List.setIfInBounds_toArray, List.set_cons_zero, List.set_cons_succ])
    | (refine SeqS.take1 (v := ?_) (by first | assumption | trivial) (by kernel_rfl) (by decide +kernel) (by decide +kernel) (Or.inl ⟨by rfl, ?_⟩) ?_
       rotate_left
       focus
         intro w' hb'
         (subst hb')
         go_simp
         with_reducible rfl
       simp only [Act.put, List.setIfInBounds_toArray, List.set_cons_zero, List.set_cons_succ])
    | (refine SeqS.take1 (v := undef) (by first | assumption | trivial) (by kernel_rfl) (by decide +kernel) (by decide +kernel) (Or.inr ⟨by rfl, rfl⟩) ?_
       simp only [Act.put, List.setIfInBounds_toArray, List.set_cons_zero, List.set_cons_succ])
    | (refine SeqS.take2 (v := ?_) (by first | assumption | trivial) (by kernel_rfl) (by decide +kernel) (by decide +kernel) (Or.inl ⟨by rfl, ?_⟩) ?_
       rotate_left
       focus
         intro w' hb'
         go_simp
         with_reducible rfl
       simp only [Act.put, List.setIfInBounds_toArray, List.set_cons_zero, List.set_cons_succ])
    | (refine SeqS.take2 (v := ?_) (by first | assumption | trivial) (by kernel_rfl) (by decide +kernel) (by decide +kernel) (Or.inl ⟨by rfl, ?_⟩) ?_
       rotate_left
       focus
         intro w' hb'
         (subst hb')
         go_simp
         with_reducible rfl
       simp only [Act.put, List.setIfInBounds_toArray, List.set_cons_zero, List.set_cons_succ])
    | (refine SeqS.take2 (v := undef) (by first | assumption | trivial) (by kernel_rfl) (by decide +kernel) (by decide +kernel) (Or.inr ⟨by rfl, rfl⟩) ?_
       simp only [Act.put, List.setIfInBounds_toArray, List.set_cons_zero, List.set_cons_succ]))
  refine SeqS.done (by decide +kernel) ?_
  clear f1 f2
  by_cases hq : TG = TL
  · have hbb : ((strOfNums TG).toList == (strOfNums TL).toList) = true := by rw [hq]; exact beq_self_eq_true _
    rw [hbb]
    have hqH := Lib.hid hq
    clear hq hbb
    go_wp2_with fail
    refine (rMask_any ka kac (sealA id) 0 (some ⟨ab, aoff, none⟩) m cap f w4.drew hA4 (sealA_range id) (by decide) hH4 hf (by have := hmH.out; omega)).mono ?_
    rintro e w6 ⟨xb, xc, rfl, ho, b6⟩
    have ho : w6.ownsRow w4.heap.size 5 1 (.slice xb m xc) m (rowN m (sealM id f)) := ho
    have b6 : Below w4.heap.size w4 w6 := (Below.drew (Below.refl _ _)).trans b6
    go_wp2
    go_ret2
    refine ⟨fun h => absurd (by rw [hTeH.out, hTLH.out]; exact hqH.out) h, fun _ => ⟨xb, xc, rfl, ?_⟩, ?_⟩
    · rw [hgH.out]; exact own_base ho hg4H.out
    · rw [hgH.out]; exact hB4.out.trans (b6.mono hg4H.out)
  · have hbb : ((strOfNums TG).toList == (strOfNums TL).toList) = false := beq_eq_false_iff_ne.2 (fun e => hq (str_inj hTr hTLr (str_toList_inj e)))
    rw [hbb]
    have hqH := Lib.hid hq
    clear hq hbb
    go_wp2
    go_ret2
    refine ⟨fun _ => rfl, fun h => absurd (by rw [← hTeH.out, ← hTLH.out]; exact h) hqH.out, ?_⟩
    rw [hgH.out]; exact hB4.out.drew

theorem sizeHint : (Tryz.prog.info? 30).map (·.size) = some 16 := by kernel_rfl
theorem rowHint : IsRow Tryz.prog 30 16 := IsRow.array Tryz.underlying30 sizeHint
theorem rowHint' (f : Nat → Nat) : IsRow Tryz.prog 30 (rowN 16 f).length := by rw [rowN_len]; exact rowHint
theorem zeroHint : Zero Tryz.prog 30 (rowN 16 zf) := by unfold Zero; kernel_rfl

set_option maxRecDepth 100000 in
set_option maxHeartbeats 1000000 in
theorem rHint_any (id : Nat → Nat) (w : World) :
    Calls Tryz.prog 9 #[.agg (rowN 32 id).toArray] w fun e w' => e = .returned (.agg (rowN 16 id).toArray) ∧ Below w.heap.size w w' := by
  obtain ⟨g, hg⟩ : ∃ g, w.heap.size = g := ⟨_, rfl⟩
  obtain ⟨W0, hW0⟩ : ∃ W0, ((w.alloc (.cells (rowN 32 id).toArray 23)).alloc (.cells (rowN 16 zf).toArray 30)).alloc (.cells (rowN 16 zf).toArray 30) = W0 := ⟨_, rfl⟩
  have hx0 : Blk W0 g 23 (rowN 32 id) := by rw [← hW0, ← hg]; exact ((Blk.new w _ _).alloc _).alloc _
  have hr0 : Blk W0 (g + 1) 30 (rowN 16 zf) := by rw [← hW0, ← hg]; exact (Blk.new1 w _ _ _).alloc _
  have hh0 : Blk W0 (g + 2) 30 (rowN 16 (upto 0 id zf)) := by
    rw [upto_zero, ← hW0, ← hg]
    have h := Blk.new ((w.alloc (.cells (rowN 32 id).toArray 23)).alloc (.cells (rowN 16 zf).toArray 30)) 30 (rowN 16 zf)
    rw [size2] at h
    exact h
  have hB0 : Below g w W0 := by rw [← hW0, ← hg]; exact below3 w _ _ _
  go_enter Tryz.func9, Tryz.ntmps9
  go_wp2_with (first
    | ((with_reducible refine wpList_box_blk rfl 23 (.tmp 0) rfl (rowN 32 id) ?_ ?_); rfl)
    | (with_reducible refine wpList_alloc_blk rfl 30 rfl zeroHint ?_))
  have hgH := Lib.hid hg
  clear hW0 hg
  go_loopw [4] (fun i wr => ∃ k : Nat, k ≤ 16 ∧ i = .int .i64 k ∧ Blk wr (g + 2) 30 (rowN 16 (upto k id zf)) ∧ Blk wr g 23 (rowN 32 id) ∧ Blk wr (g + 1) 30 (rowN 16 zf) ∧ Below g w wr) (fun i _ => 16 - (intOf i).toNat)
  case atStart => exact ⟨0, by omega, rfl, hh0, hx0, hr0, hB0⟩
  case round =>
    clear hh0 hx0 hr0 hB0
    obtain ⟨k, hk, rfl, hh, hx, hr, hB⟩ := hrel
    by_cases hlt : k < 16
    · have cx := hx.cell k
      rw [rowN_at 32 _ k (by omega)] at cx
      have ch := hh.cell k
      rw [rowN_at 16 _ k hlt, upto_at] at ch
      have fh : wr.frozen? ⟨g + 2, k, none⟩ = false := Blk.frozen hh k
      have hset := hh.set k (.int .u8 (id k : Nat))
      rw [rowN_set 16 _ _ _ hlt, upto_step _ _ _ _ rfl] at hset
      have hsetH := Lib.hid hset
      have hx2 := Lib.hid (hx.far (p := ⟨g + 2, k, none⟩) (by simp) (.int .u8 (id k : Nat)))
      have hr2 := Lib.hid (hr.far (p := ⟨g + 2, k, none⟩) (by simp) (.int .u8 (id k : Nat)))
      have hB2 := Lib.hid (hB.setCell (p := ⟨g + 2, k, none⟩) (by simp) (.int .u8 (id k : Nat)))
      have hki : (k : Int) < 16 := by omega
      have hki2 : (k : Int) < 32 := by omega
      have hltH := Lib.hid hlt
      clear hlt hk hset hh hx hr hB
      go_wp2
      go_roundw
      case rel => exact ⟨k + 1, by have := hltH.out; omega, by go_num, hsetH.out, hx2.out, hr2.out, hB2.out⟩
      case measure => have := hltH.out; simp [intOf]; omega
    · obtain rfl : k = 16 := by omega
      have hh : Blk wr (g + 2) 30 (rowN 16 id) := hh.cast (rowN_congr (upto_all 16 id zf))
      have HO1 := Lib.hid (rowN_one 16 id)
      have HOF := Lib.hid (show 0 + (rowN 16 id).length ≤ (rowN 16 zf).length by rw [rowN_len, rowN_len]; decide)
      go_wp2_with (first
        | ((refine wpList_load_blk rfl 30 (.tmp 3) rfl ?_ hh rowHint (rowN_len 16 id) ?_); rfl)
        | ((with_reducible refine wpList_store_part rfl 30 (.tmp 2) (.tmp 14) rfl ?_ ?_ hr (rowHint' id) HOF.out HO1.out ?_); rfl; rfl; intro w9 hR9 hg9))
      rw [overV_all _ _ (by rw [rowN_len, rowN_len])] at hR9
      (try simp only [Exit.inBlock, Exit.then])
      refine bodyPost_ret (results_blk rfl rfl hR9 (rowHint' id)) rfl ?_
      refine ⟨rfl, ?_⟩
      rw [hgH.out]
      exact hB.trans (below_of_grown hg9 (Nat.le_succ g) hr.lt)
end Go.Proofs.YtagacpjeooaapaaGreatDoor

/-
  What package seal's Room, HintOf, KeyOf, partsOf, masked, cut and fits come to: the document's own words. New memory alone is written. Conditions: bytes below 256, at most 2^32 of them; the package's variables of sha hold the constants and the starts.
-/
namespace Go.Proofs.YtagacpjeooaapaaGreatDoor
open Go.RowKit

theorem room_any (w : World) : Calls Tryz.prog 12 #[] w fun e w' => e = .returned (.int .i64 568) ∧ w = w' := by
  go_enter Tryz.func12, Tryz.ntmps12
  go_wp2
  go_ret
  exact ⟨rfl, rfl⟩

theorem id_head {w : World} {g : Nat} {t : TypeId} (f : Nat → Nat) (h : Blk w g t (rowN 32 f)) : w.rangeAt g 0 (rowN 16 f) := h.range 0 _ (fun j v hj => by
  rw [Nat.zero_add]
  have hl : j < 16 := by
    rcases Nat.lt_or_ge j 16 with h | h
    · exact h
    · rw [List.getElem?_eq_none (by rw [rowN_len]; exact h)] at hj; cases hj
  rw [rowN_at 16 f j hl] at hj
  rw [rowN_at 32 f j (by omega)]
  exact hj)

set_option maxRecDepth 100000 in
set_option maxHeartbeats 1000000 in
theorem hint_any (id : Nat → Nat) (w : World) :
    Calls Tryz.prog 8 #[.agg (rowN 32 id).toArray] w fun e w' => e = .returned (.agg (rowN 16 id).toArray) ∧ Below w.heap.size w w' := by
  obtain ⟨g, hg⟩ : ∃ g, w.heap.size = g := ⟨_, rfl⟩
  go_enter Tryz.func8, Tryz.ntmps8
  go_wp2_with (first
    | ((with_reducible refine wpList_box_blk rfl 23 (.tmp 0) rfl (rowN 32 id) ?_ ?_); rfl)
    | (with_reducible refine wpList_alloc_blk rfl 30 rfl zeroHint ?_; refine RowKit.Hid.out ?_))
  refine Lib.hid ?_
  obtain ⟨W1, hW1⟩ : ∃ W1, (w.alloc (.cells (rowN 32 id).toArray 23)).alloc (.cells (rowN 16 zf).toArray 30) = W1 := ⟨_, rfl⟩
  have hx : Blk W1 g 23 (rowN 32 id) := by rw [← hW1, ← hg]; exact (Blk.new w _ _).alloc _
  have hr : Blk W1 (g + 1) 30 (rowN 16 zf) := by rw [← hW1, ← hg]; exact Blk.new1 w _ _ _
  have hB : Below g w W1 := by rw [← hW1, ← hg]; exact below2 w _ _
  rw [hW1]
  have hgH := Lib.hid hg
  clear hW1 hg
  have hat := fun cap v => run_array_at (P := Tryz.prog) 30 5 16 Tryz.underlying30 (some ⟨g, 0, none⟩) 16 cap (by decide) v
  have hpart := id_head id hx
  have hIr : IsRow Tryz.prog 30 (rowN 16 id).length := rowHint' id
  have HO1 := Lib.hid (rowN_one 16 id)
  have HOF := Lib.hid (show 0 + (rowN 16 id).length ≤ (rowN 16 zf).length by rw [rowN_len, rowN_len]; decide)
  go_wp2_with (first
    | ((with_reducible refine wpList_load_part rfl 30 (.tmp 4) rfl ?_ (rowN 16 id) hpart hIr ?_); rfl)
    | ((with_reducible refine wpList_store_part rfl 30 (.tmp 2) (.tmp 5) rfl ?_ ?_ hr hIr HOF.out HO1.out ?_); rfl; rfl; intro w9 hR9 hg9))
  rw [overV_all _ _ (by rw [rowN_len, rowN_len])] at hR9
  (try simp only [Exit.inBlock, Exit.then])
  refine bodyPost_ret (results_blk rfl rfl hR9 hIr) rfl ?_
  refine ⟨rfl, ?_⟩
  rw [hgH.out]
  exact hB.trans (below_of_grown hg9 (Nat.le_succ g) hr.lt)

theorem parts2_new (w : World) (A B : Option Addr) (m n c d : Nat) (xs ys : List Int) (hx : Ints .u8 w A m c xs) (hy : Ints .u8 w B n d ys) (t : TypeId) : Parts (w.alloc (.cells #[.slice A m c, .slice B n d] t)) (some ⟨w.heap.size, 0, none⟩) 2 2 [xs, ys] :=
  Parts.of_blk (Blk.new w t [.slice A m c, .slice B n d]) rfl (fun i hi => by
    rcases i with _ | _ | i
    · exact ⟨A, m, c, rfl, hx.keep (below1 _ _)⟩
    · exact ⟨B, n, d, rfl, hy.keep (below1 _ _)⟩
    · omega)
theorem dom_new (w : World) (t : TypeId) (fr : Nat × Nat) : Ints .u8 (w.alloc (.cells #[.int .u8 109, .int .u8 105, .int .u8 114, .int .u8 97, .int .u8 100, .int .u8 111, .int .u8 114] t fr)) (some ⟨w.heap.size, 0, none⟩) 7 7 sealDom :=
  ⟨rfl, Nat.le_refl _, .inr ⟨w.heap.size, 0, rfl, fun i hi => by
    rw [Nat.zero_add, cell_of_row _ _ i _ t fr (heap_alloc_new w _)]
    have h := getElem?_mapInt .u8 sealDom i (by simpa [sealDom] using hi)
    simpa [sealDom] using h⟩⟩

set_option maxRecDepth 100000 in
set_option maxHeartbeats 1000000 in
theorem key_any (id : Nat → Nat) (w : World) (hG : Glob w) (hf : By id) :
    Calls Tryz.prog 10 #[.agg (rowN 32 id).toArray] w fun e w' => e = .returned (.agg ((sealK id).map (Value.int .u8)).toArray) ∧ Below w.heap.size w w' := by
  obtain ⟨g, hg⟩ : ∃ g, w.heap.size = g := ⟨_, rfl⟩
  go_enter Tryz.func10, Tryz.ntmps10
  go_wp2_with (first
    | ((with_reducible refine wpList_box_blk rfl 23 (.tmp 0) rfl (rowN 32 id) ?_ ?_); rfl)
    | (with_reducible refine wpList_alloc_blk rfl 23 rfl zeroId ?_; refine RowKit.Hid.out ?_))
  refine Lib.hid ?_
  obtain ⟨W1, hW1⟩ : ∃ W1, (w.alloc (.cells (rowN 32 id).toArray 23)).alloc (.cells (zb 32).toArray 23) = W1 := ⟨_, rfl⟩
  have hid : Blk W1 g 23 (rowN 32 id) := by rw [← hW1, ← hg]; exact (Blk.new w _ _).alloc _
  have hres : Blk W1 (g + 1) 23 (zb 32) := by rw [← hW1, ← hg]; exact Blk.new1 w _ _ _
  have hB : Below g w W1 := by rw [← hW1, ← hg]; exact below2 w _ _
  rw [hW1]
  have hG1 : Glob W1 := hG.keep (by rw [hg]; exact hB) (Nat.le_refl _)
  have hgH := Lib.hid hg
  have hg1 : g ≤ W1.heap.size := Nat.le_of_lt hid.lt
  clear hW1 hg hG
  have kc := Lib.run_convert_bytes_const (P := Tryz.prog) W1 24 5 domC 7 7 Tryz.underlying24 Tryz.underlying5
  unfold domC at kc
  have i1 := dom_new W1 5 (7, 8)
  have i2 := (id_ints 32 hid).keep (below1 W1 (.cells #[.int .u8 109, .int .u8 105, .int .u8 114, .int .u8 97, .int .u8 100, .int .u8 111, .int .u8 114] 5 (7, 8)))
  have hP := parts2_new _ _ _ _ _ _ _ _ _ i1 i2 24
  rw [size1] at hP
  have b2 := below2 W1 (.cells #[.int .u8 109, .int .u8 105, .int .u8 114, .int .u8 97, .int .u8 100, .int .u8 111, .int .u8 114] 5 (7, 8)) (.cells #[.slice (some ⟨W1.heap.size, 0, none⟩) 7 7, .slice (some ⟨g, 0, none⟩) 32 32] 24)
  have hG3 := hG1.keep b2 (Nat.le_refl _)
  have hres3 := hres.keep b2 hres.lt
  have hB3 := hB.trans (b2.mono hg1)
  have hg3 := Nat.le_trans hg1 b2.size
  have hPH := Lib.hid hP
  clear i1 i2 hP hid hres hB hG1 b2
  go_wp2_with fail
  refine (sumFn_any _ 2 2 [sealDom, bytesL 32 id] _ hPH.out (by intro p hp x hx; rcases List.mem_cons.1 hp with rfl | hp; exact sealDom_range x hx; obtain rfl := List.mem_singleton.1 hp; exact bytesL_range hf 32 x hx) hG3 (by simp [sealDom, bytesL_len]) (by decide)).mono ?_
  rintro e w5 ⟨rfl, b5⟩
  have hK : shaSum [sealDom, bytesL 32 id].flatten = sealK id := by simp [sealK]
  rw [hK]
  obtain ⟨X, hX⟩ : ∃ X, (sealK id).map (Value.int .u8) = X := ⟨_, rfl⟩
  have hXl : X.length = 32 := by rw [← hX, List.length_map, sealK_len]
  have HI : IsRow Tryz.prog 23 X.length := by rw [hXl]; exact rowId
  have HO1 := Lib.hid (show ∀ v ∈ X, v.oneCell' = true by rw [← hX]; exact ints_oneCell' _ _)
  have HOF := Lib.hid (show 0 + X.length ≤ (zb 32).length by rw [hXl]; decide)
  have hres5 := hres3.keep b5 hres3.lt
  have hB5 := Lib.hid (hB3.trans (b5.mono hg3))
  have hov := Lib.hid (overV_all (zb 32) X (by rw [hXl]; rfl))
  rw [hX]
  have hXH := Lib.hid hX
  clear hX hXl hK hPH hB3 b5 hres3 kc hG3 hg3
  go_wp2_with ((with_reducible refine wpList_store_part rfl 23 (.tmp 2) (.tmp 7) rfl ?_ ?_ hres5 HI HOF.out HO1.out ?_); rfl; rfl; intro w9 hR9 hg9)
  rw [hov.out] at hR9
  (try simp only [Exit.inBlock, Exit.then])
  refine bodyPost_ret (results_blk rfl rfl hR9 HI) rfl ?_
  refine ⟨by rw [hXH.out], ?_⟩
  rw [hgH.out]
  exact hB5.out.trans (below_of_grown hg9 (Nat.le_succ g) hres5.lt)
end Go.Proofs.YtagacpjeooaapaaGreatDoor
