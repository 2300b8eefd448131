/-
  The words of all round keys, as the call expanded tells them of a key of 32 bytes; new memory alone is written.
-/
import Derived.Test.YtclcnngpgbdjgaaCipherChg
import Derived.Test.YtclcnngpgbdjgaaWordWords
import Derived.Test.YtclcnngpgbdjgaaSeqS
namespace Go.Proofs.Ytclcnngpgbdjgaa
open Go.RowKit

/-- The cells of n words. -/
def rowU (n : Nat) (f : Nat → Nat) : List Value := (List.range n).map fun i => .int .u32 (f i : Int)
theorem rowU_len (n : Nat) (f : Nat → Nat) : (rowU n f).length = n := by simp [rowU]
theorem rowU_at (n : Nat) (f : Nat → Nat) (i : Nat) (hi : i < n) : (rowU n f)[i]? = some (.int .u32 (f i : Int)) := by simp [rowU, hi]
theorem rowU_set (n : Nat) (f : Nat → Nat) (i v : Nat) (hi : i < n) : (rowU n f).set i (.int .u32 (v : Int)) = rowU n (upd f i v) := by
  apply List.ext_getElem?
  intro j
  rw [List.getElem?_set]
  by_cases hj : j < n
  · rw [rowU_at n _ _ hj, rowU_at n _ _ hj]
    by_cases e : i = j
    · subst e; simp [upd, rowU_len, hi]
    · have e' : ¬ j = i := fun h => e h.symm
      simp [e, e', upd]
  · rw [List.getElem?_eq_none (by rw [rowU_len]; omega), List.getElem?_eq_none (by rw [rowU_len]; omega)]
    split
    · omega
    · rfl
theorem rowU_one (n : Nat) (f : Nat → Nat) : ∀ v ∈ rowU n f, v.oneCell' = true := by
  intro v hv
  obtain ⟨i, _, rfl⟩ := List.mem_map.1 hv
  rfl
theorem size60 : (Try.prog.info? 67).map (·.size) = some 60 := by kernel_rfl
theorem row60' : IsRow Try.prog 67 60 := IsRow.array Try.underlying67 size60
theorem row60 (f : Nat → Nat) : IsRow Try.prog 67 (rowU 60 f).length := by rw [rowU_len]; exact row60'
theorem zero60 : Zero Try.prog 67 (rowU 60 zf) := by unfold Zero; kernel_rfl
theorem over60 (a b : Nat → Nat) : overV (rowU 60 a) 0 (rowU 60 b) = rowU 60 b := overV_all _ _ (by rw [rowU_len, rowU_len])
theorem fit60 (a b : Nat → Nat) : 0 + (rowU 60 b).length ≤ (rowU 60 a).length := by rw [rowU_len, rowU_len]; omega
theorem sizeU32' : (Try.prog.info? 66).map (·.size) = some 1 := by kernel_rfl
/-- The key's own words. -/
def own (bs : List Int) (t : Nat) : Nat := ((wordsOf bs).getD t 0).toNat
theorem wordsOf_lt : ∀ (bs : List Int), (∀ x ∈ bs, 0 ≤ x ∧ x < 256) → ∀ x ∈ wordsOf bs, 0 ≤ x ∧ x < 4294967296
  | [], _ => by simp [wordsOf]
  | [_], _ => by simp [wordsOf]
  | [_, _], _ => by simp [wordsOf]
  | [_, _, _], _ => by simp [wordsOf]
  | a :: b :: c :: d :: bs, h => by
    intro x hx
    have ha := h a (by simp)
    have hb := h b (by simp)
    have hc := h c (by simp)
    have hd := h d (by simp)
    rcases List.mem_cons.1 hx with rfl | hx
    · unfold word4; omega
    · exact wordsOf_lt bs (fun y hy => h y (by simp [hy])) x hx
theorem own_cast (bs : List Int) (h : ∀ x ∈ bs, 0 ≤ x ∧ x < 256) (t : Nat) : ((own bs t : Nat) : Int) = (wordsOf bs).getD t 0 := by
  unfold own
  by_cases ht : t < (wordsOf bs).length
  · have := getD_range (p := fun x => 0 ≤ x ∧ x < 4294967296) (wordsOf_lt bs h) t ht
    omega
  · rw [List.getD_eq_getElem?_getD, List.getElem?_eq_none (by omega)]; rfl
theorem own_wd (bs : List Int) (h : ∀ x ∈ bs, 0 ≤ x ∧ x < 256) : Wd (own bs) := by
  intro t
  unfold own
  by_cases ht : t < (wordsOf bs).length
  · have := getD_range (p := fun x => 0 ≤ x ∧ x < 4294967296) (wordsOf_lt bs h) t ht
    omega
  · rw [List.getD_eq_getElem?_getD, List.getElem?_eq_none (by omega)]; decide
theorem over_own (bs : List Int) (h : ∀ x ∈ bs, 0 ≤ x ∧ x < 256) (hl : (wordsOf bs).length = 8) : overV (rowU 60 zf) 0 (((wordsOf bs).take 8).map (Value.int .u32)) = rowU 60 (own bs) := by
  have hl8 : ((wordsOf bs).take 8) = wordsOf bs := List.take_of_length_le (by omega)
  rw [hl8]
  apply List.ext_getElem?
  intro j
  unfold overV
  rw [List.take_zero, List.nil_append, List.length_map, hl, Nat.zero_add]
  by_cases h60 : j < 60
  · rw [rowU_at 60 _ j h60, own_cast bs h]
    by_cases h8 : j < 8
    · rw [List.getElem?_append_left (by rw [List.length_map]; omega), getElem?_mapInt _ _ _ (by omega)]
    · rw [List.getElem?_append_right (by rw [List.length_map]; omega), List.length_map, hl, List.getElem?_drop, show 8 + (j - 8) = j by omega, rowU_at 60 _ j h60,
        List.getD_eq_getElem?_getD, List.getElem?_eq_none (by omega)]
      rfl
  · rw [List.getElem?_eq_none (l := rowU 60 (own bs)) (by rw [rowU_len]; omega), List.getElem?_eq_none]
    rw [List.length_append, List.length_map, List.length_drop, rowU_len]
    omega

set_option maxRecDepth 100000 in
set_option maxHeartbeats 1000000 in
theorem cExp_any (q : Nat) (F : Nat → Nat) (bm m : Bool) (a : Option Addr) (cap : Nat) (bs : List Int) (w : World) (hC : CiAt w q F sb bk bm m) (hI : Ints .u8 w a 32 cap bs) (hr : ∀ x ∈ bs, 0 ≤ x ∧ x < 256) :
    Calls Try.prog 25 #[.pointer (some ⟨q, 0, none⟩), .slice a 32 cap] w fun e w' => e = .returned (.agg (rowU 60 (kws (own bs) 52)).toArray) ∧ Below w.heap.size w w' := by
  go_enter Try.func25, Try.ntmps25
  go_wp2_with (with_reducible refine wpList_alloc_blk rfl 67 rfl zero60 ?_)
  obtain ⟨W0, hW0⟩ : ∃ W0, (w.alloc (.cells (rowU 60 zf).toArray 67)).alloc (.cells (rowU 60 zf).toArray 67) = W0 := ⟨_, rfl⟩
  obtain ⟨g, hg⟩ : ∃ g, w.heap.size = g := ⟨_, rfl⟩
  have hr0 : Blk W0 g 67 (rowU 60 zf) := by rw [← hW0, ← hg]; exact (Blk.new w _ _).alloc _
  have hx0 : Blk W0 (g + 1) 67 (rowU 60 zf) := by rw [← hW0, ← hg]; exact Blk.new1 w _ _ _
  have hB0 : Below g w W0 := by rw [← hW0, ← hg]; exact below2 w _ _
  have hql : q < g := by rw [← hg]; exact Blk.lt hC
  have hC0 : CiAt W0 q F sb bk bm m := by rw [← hW0]; exact (Blk.alloc hC _).alloc _
  have hI0 : Ints .u8 W0 a 32 cap bs := hI.keep (by rw [hg]; exact hB0)
  rw [hW0, hg]
  clear hW0 hC hI
  have hg := Lib.hid hg
  have hql := Lib.hid hql
  refine (words_yes a 32 cap bs _ hI0 hr (by decide) (by decide)).mono ?_
  rintro e w1 ⟨b, n, c, rfl, hW, h1⟩
  have hlen : (wordsOf bs).length = 8 := by rw [wordsOf_length, hI0.len]
  obtain rfl : n = 8 := by rw [← hW.len, hlen]
  have hr1 := hr0.keep h1 hr0.lt
  have hx1 := hx0.keep h1 hx0.lt
  have hC1 : CiAt w1 q F sb bk bm m := Blk.keep hC0 h1 (Blk.lt hC0)
  have hB1 := hB0.trans (h1.mono (Nat.le_of_lt hr0.lt))
  clear h1 hr0 hx0 hC0 hB0 hI0
  have CF := hW.copyFits (dp := some ⟨g + 1, 0, none⟩) (dLen := 60) (g := g + 1) (off := 0) (room := (rowU 60 zf).length) (m := 8) rfl (fun _ => rfl) (by rw [rowU_len]; decide)
  have HL : (((wordsOf bs).take 8).map (Value.int .u32)).length = 8 := by rw [List.length_map, List.length_take, hlen]; rfl
  have ov := Lib.hid (over_own bs hr hlen)
  have hown := Lib.hid (own_wd bs hr)
  clear hW
  go_wp2_with (refine wpList_copy_num rfl (.tmp 14) (.tmp 15) 59 59 rfl 66 Try.underlying59 sizeU32' rfl rfl hx1 CF 8 HL ?_; intro w2 hx2 hg2; refine RowKit.Hid.out ?_)
  refine Lib.hid ?_
  rw [ov.out] at hx2
  have hr2 := hr1.grown hg2 (by intro e; injection e; omega)
  have hC2 : CiAt w2 q F sb bk bm m := Blk.grown hC1 hg2 (by intro e; injection e; have := hql.out; omega)
  have hB2 := hB1.trans (below_of_grown hg2 (Nat.le_succ g) hx1.lt)
  clear hg2 hr1 hx1 hC1 hB1 CF HL ov hlen hr
  go_wp2
  go_loopw [8] (fun i wr => ∃ t : Nat, 8 ≤ t ∧ t ≤ 60 ∧ i = .int .i64 t ∧ Blk wr (g + 1) 67 (rowU 60 (kws (own bs) (t - 8))) ∧ Blk wr g 67 (rowU 60 zf) ∧ CiAt wr q F sb bk bm m ∧ Below g w wr) (fun i _ => 60 - (intOf i).toNat)
  case atStart => exact ⟨8, by omega, by omega, rfl, hx2, hr2, hC2, hB2⟩
  case round =>
    clear hx2 hr2 hC2 hB2
    obtain ⟨t, h8, hk, rfl, hx, hr, hC, hB⟩ := hrel
    by_cases hlt : t < 60
    · obtain ⟨n, hn⟩ : ∃ n, t = n + 8 := ⟨t - 8, by omega⟩
      obtain ⟨p, hp⟩ : ∃ p, t = p + 1 := ⟨t - 1, by omega⟩
      have hpn : p = 7 + n := by omega
      have hnx : kws (own bs) (t + 1 - 8) = upd (kws (own bs) n) t (kws (own bs) n n ^^^ chg t (kws (own bs) n p)) := by
        rw [show t + 1 - 8 = n + 1 by omega, hpn, show t = 8 + n by omega]; rfl
      rw [show t - 8 = n by omega] at hx
      have hwd := kws_wd hown.out n
      have cn := hx.cell n
      have cp := hx.cell p
      rw [rowU_at 60 _ n (by omega)] at cn
      rw [rowU_at 60 _ p (by omega)] at cp
      obtain ⟨v, hv, hD⟩ := Draws.one wr
      have hx := hD.blk hx
      have hr := hD.blk hr
      have hB := hB.trans (hD.below g)
      have hC : CiAt v q F sb bk bm m := hD.blk hC
      have cn := hD.cellW cn
      have cp := hD.cellW cp
      obtain ⟨x, hxe⟩ : ∃ x, kws (own bs) n n = x := ⟨_, rfl⟩
      obtain ⟨y, hye⟩ : ∃ y, kws (own bs) n p = y := ⟨_, rfl⟩
      have hxl : x < 4294967296 := by rw [← hxe]; exact hwd n
      have hyl : y < 4294967296 := by rw [← hye]; exact hwd p
      have hset := hx.set t (.int .u32 (x ^^^ chg t y : Nat))
      rw [rowU_set 60 _ _ _ hlt, ← hxe, ← hye, ← hnx, hxe, hye] at hset
      have hset := Lib.hid hset
      rw [hxe] at cn
      rw [hye] at cp
      have hchg := fun v' (h : CiAt v' q F sb bk bm m) => cChg_any q F bm m t y v' h hlt h8 hyl
      have hxor := Lib.hid (bits_xor32 x (chg t y) hxl (chg_lt t y hyl))
      have n1 : IntKind.i64.wrap ((t : Int) - 8) = (n : Int) := by rw [IntKind.wrap_i64]; omega
      have p1 : IntKind.i64.wrap ((t : Int) - 1) = (p : Int) := by rw [IntKind.wrap_i64]; omega
      have t6 : (t : Int) < 60 := by omega
      have n6 : (n : Int) < 60 := by omega
      have p6 : (p : Int) < 60 := by omega
      have hlt' := Lib.hid hlt
      have h8' := Lib.hid h8
      have hnt : n < t := by omega
      have hpt : p < t := by omega
      have hnt := Lib.hid hnt
      have hpt := Lib.hid hpt
      clear hxe hye hxl hyl hwd hnx hn hp hpn hlt h8 hk
      go_wp2_with fail
      refine region_seqS (fun w' => w'.cell? ⟨g + 1, n, none⟩ = some (.int .u32 (x : Int)) ∧ w'.cell? ⟨g + 1, p, none⟩ = some (.int .u32 (y : Int))) (by kernel_rfl) (by rw [hv]; exact ⟨cn, cp⟩) ?_
      simp only [pairs, Nat.reduceAdd]
      change SeqS _ _ _ _ _ _ _ _ wr.drew
      rw [hv]
      clear hv hD
      have hS0 := And.intro cn cp
      repeat (first
        | (refine SeqS.take (v := ?_) (by first | assumption | trivial) (by kernel_rfl) (by decide +kernel) (by decide +kernel) (Or.inl ⟨by rfl, ?_⟩) ?_
           rotate_left
           focus
             intro w' hb'
             obtain ⟨hb1, hb2⟩ := hb'
             go_simp
             with_reducible rfl
           simp only [Act.put, List.setIfInBounds_toArray, List.set_cons_zero, List.set_cons_succ])
        | (refine SeqS.take1 (v := ?_) (by first | assumption | trivial) (by kernel_rfl) (by decide +kernel) (by decide +kernel) (Or.inl ⟨by rfl, ?_⟩) ?_
           rotate_left
           focus
             intro w' hb'
             obtain ⟨hb1, hb2⟩ := hb'
             go_simp
             with_reducible rfl
           simp only [Act.put, List.setIfInBounds_toArray, List.set_cons_zero, List.set_cons_succ]))
      refine SeqS.alone (by decide +kernel) (by rfl) (fun K hK => ?_)
      go_simp
      refine (hchg v hC).mono ?_
      rintro e v2 ⟨rfl, hD2⟩
      have hS2 := And.intro (hD2.cellW cn) (hD2.cellW cp)
      have hx2 := hD2.blk hx
      have hr2 := hD2.blk hr
      have hB2 := hB.trans (hD2.below g)
      have hC2 : CiAt v2 q F sb bk bm m := hD2.blk hC
      have hset2 : Hid (Blk (v2.setCell ⟨g + 1, t, none⟩ (.int .u32 (x ^^^ chg t y : Nat))) (g + 1) 67 (rowU 60 (kws (own bs) (t + 1 - 8)))) := Lib.hid (by obtain ⟨nn, rfl⟩ := hD2; exact hset.out)
      go_simp
      refine hK _ _ hS2 ?_
      clear hK K cn cp hx hr hB hC hset hS0 hchg hD2
      repeat (first
        | (refine SeqS.take (v := ?_) (by first | assumption | trivial) (by kernel_rfl) (by decide +kernel) (by decide +kernel) (Or.inl ⟨by rfl, ?_⟩) ?_
           rotate_left
           focus
             intro w' hb'
             obtain ⟨hb1, hb2⟩ := hb'
             go_simp
             with_reducible rfl
           simp only [Act.put, List.setIfInBounds_toArray, List.set_cons_zero, List.set_cons_succ])
        | (refine SeqS.take1 (v := ?_) (by first | assumption | trivial) (by kernel_rfl) (by decide +kernel) (by decide +kernel) (Or.inl ⟨by rfl, ?_⟩) ?_
           rotate_left
           focus
             intro w' hb'
             obtain ⟨hb1, hb2⟩ := hb'
             go_simp
             with_reducible rfl
           simp only [Act.put, List.setIfInBounds_toArray, List.set_cons_zero, List.set_cons_succ]))
      have ct := hx2.cell t
      rw [rowU_at 60 _ t hlt'.out] at ct
      have ft : v2.frozen? ⟨g + 1, t, none⟩ = false := Blk.frozen hx2 t
      refine SeqS.alone (by decide +kernel) (by rfl) (fun K hK => ?_)
      go_simp
      rw [hxor.out]
      refine hK _ _ ?_ ?_
      · have e1 : (⟨g + 1, n, none⟩ : Addr) ≠ ⟨g + 1, t, none⟩ := by intro e; injection e with _ e _; have := hnt.out; have := hpt.out; omega
        have e2 : (⟨g + 1, p, none⟩ : Addr) ≠ ⟨g + 1, t, none⟩ := by intro e; injection e with _ e _; have := hnt.out; have := hpt.out; omega
        have hb := (hx2.set t (.int .u32 (x ^^^ chg t y : Nat)))
        have h1 := hb.cell n
        have h2 := hb.cell p
        rw [List.getElem?_set_ne (by intro e; exact e1 (by rw [e])), ← hx2.cell n] at h1
        rw [List.getElem?_set_ne (by intro e; exact e2 (by rw [e])), ← hx2.cell p] at h2
        exact ⟨h1.trans hS2.1, h2.trans hS2.2⟩
      clear hK K
      refine SeqS.done (by decide +kernel) ?_
      have hr3 := hr2.far (p := ⟨g + 1, t, none⟩) (by simp) (.int .u32 (x ^^^ chg t y : Nat))
      have hC3 : CiAt (v2.setCell ⟨g + 1, t, none⟩ (.int .u32 (x ^^^ chg t y : Nat))) q F sb bk bm m := Blk.far hC2 (p := ⟨g + 1, t, none⟩) (by have := hql.out; simp; omega) _
      have hB3 := hB2.setCell (p := ⟨g + 1, t, none⟩) (Nat.le_succ g) (.int .u32 (x ^^^ chg t y : Nat))
      obtain ⟨v3, hv3⟩ : ∃ v3, v2.setCell ⟨g + 1, t, none⟩ (.int .u32 (x ^^^ chg t y : Nat)) = v3 := ⟨_, rfl⟩
      have hset3 := hset2.out
      rw [hv3] at hr3 hC3 hB3 hset3 ⊢
      clear hv3 hset2 hx2 hr2 hC2 hB2 ct ft hS2
      go_wp2
      go_roundw
      case rel => exact ⟨t + 1, by have := h8'.out; omega, by have := hlt'.out; omega, by go_num, hset3, hr3, hC3, hB3⟩
      case measure => have := hlt'.out; simp [intOf]; omega
    · obtain rfl : t = 60 := by omega
      have hx : Blk wr (g + 1) 67 (rowU 60 (kws (own bs) 52)) := hx
      have HI := row60 (kws (own bs) 52)
      have HF := Lib.hid (fit60 zf (kws (own bs) 52))
      have H1 := Lib.hid (rowU_one 60 (kws (own bs) 52))
      go_wp2_with (first
        | ((with_reducible refine wpList_load_blk rfl 67 (.tmp 5) rfl ?_ hx row60' (rowU_len 60 _) ?_); rfl)
        | ((with_reducible refine wpList_store_part rfl 67 (.tmp 4) (.tmp 35) rfl ?_ ?_ hr HI HF.out H1.out ?_); rfl; rfl; intro w9 hR9 hg9))
      rw [over60] at hR9
      (try simp only [Exit.inBlock, Exit.then])
      refine bodyPost_ret (results_blk rfl rfl hR9 HI) rfl ?_
      refine ⟨rfl, ?_⟩
      rw [hg.out]
      exact hB.trans (below_of_grown hg9 (Nat.le_refl _) hr.lt)
end Go.Proofs.Ytclcnngpgbdjgaa
