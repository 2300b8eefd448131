/-
  The document's own cipher of a key: the key's words and the table of substitutes. New memory alone is written. Conditions: the key has 32 bytes.
-/
import Derived.Test.YtclcnngpgbdjgaaCipherRefTab
import Derived.Test.YtclcnngpgbdjgaaWordRefWords
namespace Go.Proofs.Ytclcnngpgbdjgaa
open Go.RowKit

theorem rowU_words (n : Nat) (f : Nat → Nat) : (wordsL n f 0).map (Value.int .u32) = rowU n f := by simp [wordsL, rowU]
theorem rowU_snoc (n : Nat) (f : Nat → Nat) (v : Nat) : rowU (n + 1) (upd f n v) = rowU n f ++ [.int .u32 (v : Int)] := by
  unfold rowU
  rw [List.range_succ, List.map_append]
  congr 1
  · refine List.map_congr_left fun i hi => ?_
    have := List.mem_range.1 hi
    unfold upd
    rw [if_neg (by omega)]
  · simp [upd]
theorem own_words (bs : List Int) (h : ∀ x ∈ bs, 0 ≤ x ∧ x < 256) (hl : (wordsOf bs).length = 8) : (wordsOf bs).map (Value.int .u32) = rowU 8 (own bs) := by
  apply List.ext_getElem?
  intro j
  by_cases h8 : j < 8
  · rw [rowU_at 8 _ j h8, own_cast bs h, getElem?_mapInt _ _ _ (by omega)]
  · rw [List.getElem?_eq_none (by rw [List.length_map]; omega), List.getElem?_eq_none (by rw [rowU_len]; omega)]
theorem size34 : (Try.prog.info? 61).map (·.size) = some 2 := by kernel_rfl
theorem row34' : IsRow Try.prog 61 2 := IsRow.struct Try.underlying61 size34

theorem rPower2 (s : Nat) (hs : s < 7) (v : World) : Calls Try.prog 36 #[.int .u8 2, .int .i64 (s : Int)] v fun e w' => e = .returned (.int .u8 (pw 2 s : Nat)) ∧ v = w' := by
  rw [← pz_pw 2 s]; exact rPower_any 2 s v (by decide) (by omega) (by omega)
theorem ints_ne {k : IntKind} {w : World} {b off n cap : Nat} {xs : List Int} (h : Ints k w (some ⟨b, off, none⟩) n cap xs) (hn : 0 < n) {g : Nat} {t : TypeId} {a1 a2 : Option Addr} {l1 c1 l2 c2 : Nat} (hb : Blk w g t [.slice a1 l1 c1, .slice a2 l2 c2]) : b ≠ g := by
  intro e
  subst e
  have h1 := h.cell_at 0 hn
  rw [hb.cell, Nat.add_zero] at h1
  match off, h1 with
  | 0, h1 => cases h1
  | 1, h1 => cases h1
  | n + 2, h1 => cases h1
theorem ref_arith (m z : Nat) (h : m < 256) (hz : z < 4294967296) : (m : Int) * 16777216 % 4294967296 = (m : Int) * 16777216 ∧ (m : Int) < 256 ∧ bits .xor .u32 (z : Int) ((m : Int) * 16777216) = ((z ^^^ (m * 16777216) : Nat) : Int) ∧ z ^^^ (m * 16777216) < 4294967296 := by
  have e : (m : Int) * 16777216 = ((m * 16777216 : Nat) : Int) := by omega
  have hl : m * 16777216 < 4294967296 := by omega
  refine ⟨by omega, by omega, ?_, Nat.xor_lt_two_pow (n := 32) hz hl⟩
  rw [e]
  exact bits_xor32 z (m * 16777216) hz hl

set_option maxRecDepth 100000 in
set_option maxHeartbeats 1000000 in
theorem rNew_any (a : Option Addr) (cap : Nat) (bs : List Int) (w : World) (hI : Ints .u8 w a 32 cap bs) (hr : ∀ x ∈ bs, 0 ≤ x ∧ x < 256) :
    Calls Try.prog 22 #[.slice a 32 cap] w fun e w' => ∃ wa wc ta tc, e = .returned (.agg #[.slice wa 60 wc, .slice ta 256 tc]) ∧ Ints .u32 w' wa 60 wc (wordsL 60 (kws (own bs) 52) 0) ∧ Ints .u8 w' ta 256 tc (bytesL 256 sb) ∧ Below w.heap.size w w' := by
  obtain ⟨i0, hi, hz0, hz1, hz2⟩ := info_parts infoU32
  obtain ⟨g, hg⟩ : ∃ g, w.heap.size = g := ⟨_, rfl⟩
  go_enter Try.func22, Try.ntmps22
  go_wp2_with fail
  have hr1 := Blk.new w 61 [Value.slice none 0 0, Value.slice none 0 0]
  have b1 := below1 w (.cells [Value.slice none 0 0, Value.slice none 0 0].toArray 61)
  obtain ⟨w1, hw1⟩ : ∃ w1, w.alloc (.cells [Value.slice none 0 0, Value.slice none 0 0].toArray 61) = w1 := ⟨_, rfl⟩
  change Calls _ _ _ (w.alloc (.cells [Value.slice none 0 0, Value.slice none 0 0].toArray 61)) _
  have hI1 := hI.keep b1
  rw [hw1] at hr1 b1 hI1 ⊢
  rw [hg] at hr1 b1
  clear hw1 hI
  have hgl := hr1.lt
  refine (rTable_any w1).mono ?_
  rintro e w2 ⟨ta, tc, rfl, hT, b2⟩
  have hr2 := hr1.keep b2 hr1.lt
  have hB2 := b1.trans (b2.mono (Nat.le_of_lt hgl))
  have hI2 := hI1.keep b2
  have hgl2 := hr2.lt
  clear b1 b2 hr1 hI1 hgl
  go_wp2_with fail
  refine (refWords_own a 32 cap bs w2 hI2 hr (by decide) (by decide)).mono ?_
  rintro e w3 ⟨wa, n, wc, rfl, hW, hownW, b3⟩
  have hlen : (wordsOf bs).length = 8 := by rw [wordsOf_length, hI2.len]
  obtain rfl : n = 8 := by rw [← hW.len, hlen]
  rw [own_words bs hr hlen] at hownW
  have hown := Lib.hid (own_wd bs hr)
  obtain ⟨B, hB⟩ : ∃ B, w2.heap.size = B := ⟨_, rfl⟩
  obtain ⟨tb, toff, rfl, _⟩ := hT.at (by decide)
  have TT := Lib.hid (fun w' (h : Below B w2 w') => (hT.keep (by rw [hB]; exact h) : Ints .u8 w' (some ⟨tb, toff, none⟩) 256 tc (bytesL 256 sb)))
  have RR := Lib.hid (fun w' (h : Below B w2 w') => (hr2.keep h (by omega) : Blk w' g 61 [Value.slice none 0 0, Value.slice none 0 0]))
  rw [hB] at hownW b3
  have hB := Lib.hid hB
  have hgl2 := Lib.hid hgl2
  have hB2 := Lib.hid hB2
  clear hT hr2 hI2 hW hlen hr
  go_wp2
  go_loopw [4, 6] (fun o i wr => ∃ t : Nat, 8 ≤ t ∧ t ≤ 60 ∧ i = .int .i64 t ∧ wr.ownsRow B 66 1 o t (rowU t (kws (own bs) (t - 8))) ∧ Below B w2 wr) (fun _ i _ => 60 - (intOf i).toNat)
  case atStart => exact ⟨8, by omega, by omega, rfl, hownW, b3⟩
  case round =>
    clear hownW b3
    have hownd := hown
    clear hown
    obtain ⟨t, h8, hk, rfl, hown, hB'⟩ := hrel
    have hBx := hB
    clear hB
    have hB := hB'
    clear hB'
    by_cases hlt : t < 60
    · obtain ⟨n, hn⟩ : ∃ n, t = n + 8 := ⟨t - 8, by omega⟩
      obtain ⟨p, hp⟩ : ∃ p, t = p + 1 := ⟨t - 1, by omega⟩
      have hpn : p = 7 + n := by omega
      have hnx : kws (own bs) (t + 1 - 8) = upd (kws (own bs) n) t (kws (own bs) n n ^^^ chg t (kws (own bs) n p)) := by
        rw [show t + 1 - 8 = n + 1 by omega, hpn, show t = 8 + n by omega]; rfl
      rw [show t - 8 = n by omega] at hown
      have hwd := kws_wd hownd.out n
      obtain ⟨lb, lc, rfl, hL⟩ := Ints.of_owns (xs := wordsL t (kws (own bs) n) 0) (by rw [rowU_words]; exact hown)
      obtain ⟨lbk, loff, rfl, _⟩ := hL.at (by omega)
      have cn := hL.cell_at n (by omega)
      have cp := hL.cell_at p (by omega)
      rw [wordsL_at t _ 0 n (by omega), Nat.zero_add] at cn
      rw [wordsL_at t _ 0 p (by omega), Nat.zero_add] at cp
      obtain ⟨x, hxe⟩ : ∃ x, kws (own bs) n n = x := ⟨_, rfl⟩
      obtain ⟨y, hye⟩ : ∃ y, kws (own bs) n p = y := ⟨_, rfl⟩
      have hxl : x < 4294967296 := by rw [← hxe]; exact hwd n
      have hyl : y < 4294967296 := by rw [← hye]; exact hwd p
      rw [hxe, hye] at hnx
      rw [hxe] at cn
      rw [hye] at cp
      have hnx := Lib.hid hnx
      have hBs := Lib.hid (show B ≤ wr.heap.size from Nat.le_trans (by have := hBx.out; omega) hB.size)
      have hc := hB
      have hTr := Lib.hid (TT.out wr hB)
      have n1 : wrap64 ((t : Int) - 8) = (n : Int) := (w64' _ (by omega) (by omega)).trans (by omega)
      have p1 : wrap64 ((t : Int) - 1) = (p : Int) := (w64' _ (by omega) (by omega)).trans (by omega)
      have n2 : (t : Int) - 8 = (n : Int) := by omega
      have p2 : (t : Int) - 1 = (p : Int) := by omega
      have nt : (n : Int) < (t : Int) := by omega
      have pt : (p : Int) < (t : Int) := by omega
      have t6 : (t : Int) < 60 := by omega
      have hlt' := Lib.hid hlt
      have h8' := Lib.hid h8
      by_cases h0 : t % 8 = 0
      · have e0 : (t : Int) % 8 = 0 := by omega
        obtain ⟨s, hs⟩ : ∃ s, t / 8 = s + 1 := ⟨t / 8 - 1, by omega⟩
        have hch := Lib.hid (show chg t y = bwd sb (rl8 y) 4 ^^^ (pw 2 s * 16777216) by unfold chg; rw [if_pos h0, hs, Nat.add_sub_cancel])
        have hsl : s < 7 := by omega
        have e1 : (t : Int) / 8 = (s : Int) + 1 := by omega
        have et : (t : Int) / 8 - 1 = (s : Int) := by rw [e1]; omega
        clear e1
        have hor : bits .or .u32 ((y : Int) * 256 % 4294967296) ((y : Int) / 16777216) = ((rl8 y : Nat) : Int) := by
          have e1 : (y : Int) * 256 % 4294967296 = ((y * 256 % 4294967296 : Nat) : Int) := by omega
          have e2 : (y : Int) / 16777216 = ((y / 16777216 : Nat) : Int) := by omega
          rw [e1, e2]
          exact bits_or32 _ _ (Nat.mod_lt _ (by decide)) (Nat.lt_of_le_of_lt (Nat.div_le_self _ _) hyl)
        have cw := fun v (h : Ints .u8 v (some ⟨tb, toff, none⟩) 256 tc (bytesL 256 sb)) => rWord2_any tb toff tc (rl8 y) v h (rl8_lt y hyl)
        have cp2 := rPower2 s hsl
        rw [← et] at cp2
        clear et
        have hz := wd4_lt (rl8 y)
        have hpl := pw_256 (a := 2) s
        obtain ⟨z, hze⟩ : ∃ z, bwd sb (rl8 y) 4 = z := ⟨_, rfl⟩
        obtain ⟨m, hme⟩ : ∃ m, pw 2 s = m := ⟨_, rfl⟩
        rw [hze, hme] at hch
        rw [hze] at cw hz
        rw [hme] at cp2 hpl
        obtain ⟨m1, m2, hx1, hcl⟩ := ref_arith m z hpl hz
        obtain ⟨u, hue⟩ : ∃ u, z ^^^ (m * 16777216) = u := ⟨_, rfl⟩
        rw [hue] at hx1 hcl hch
        have hxor := bits_xor32 x u hxl hcl
        have e8 : ¬ (0 : Int) = 4 := by decide
        clear h0 hlt h8 hk hn hp hpn hxe hye hxl hyl hwd hze hz hL hs hpl hme hcl hue hsl
        go_wp2_with fail
        refine (cw _ hTr.out).mono ?_
        rintro e w' ⟨rfl, rfl⟩
        go_wp2_with fail
        refine (cp2 _).mono ?_
        rintro e w' ⟨rfl, rfl⟩
        go_wp2_with (at_builtin; refine wpList_append_ints rfl (.tmp 46) (.tmp 54) 59 rfl B 66 i0 (.int .u32 0) 4 Try.underlying59 hi hz0 hz1 hz2 rfl rfl (hown.alloc _) rfl (one_at _ _ _ _) ?_ ?_ (by have := hBs.out; simp; omega) ?_; (have := hlt'.out; unfold maxLen; omega); (have := hlt'.out; omega); intro v3 w3 hown3 hg3; refine RowKit.Hid.out ?_)
        refine Lib.hid ?_
        have hB3 : Below B w2 w3 := (hB.alloc hBs.out _).grown hg3 (by have := hBs.out; simp; omega) (fun j hj => (hown.lt j hj).1)
        have hown3 : w3.ownsRow B 66 1 v3 (t + 1) (rowU (t + 1) (kws (own bs) (t + 1 - 8))) := by
          rw [hnx.out, rowU_snoc, hch.out]; exact hown3
        clear hown hB hg3
        go_wp2
        go_roundw
        case rel => exact ⟨t + 1, by have := h8'.out; omega, by have := hlt'.out; omega, by go_num, hown3, hB3⟩
        case measure => have := hlt'.out; simp [intOf]; omega
      · by_cases h4 : t % 8 = 4
        · have e4 : (t : Int) % 8 = 4 := by omega
          have hch := Lib.hid (show chg t y = bwd sb y 4 by unfold chg; rw [if_neg h0, if_pos h4])
          have cw := fun v (h : Ints .u8 v (some ⟨tb, toff, none⟩) 256 tc (bytesL 256 sb)) => rWord2_any tb toff tc y v h hyl
          have hz := wd4_lt y
          obtain ⟨z, hze⟩ : ∃ z, bwd sb y 4 = z := ⟨_, rfl⟩
          rw [hze] at hch cw hz
          have hxor := bits_xor32 x z hxl hz
          clear h0 h4 hlt h8 hk hn hp hpn hxe hye hxl hyl hwd hze hz hL
          go_wp2_with fail
          refine (cw _ hTr.out).mono ?_
          rintro e w' ⟨rfl, rfl⟩
          go_wp2_with (at_builtin; refine wpList_append_ints rfl (.tmp 46) (.tmp 54) 59 rfl B 66 i0 (.int .u32 0) 4 Try.underlying59 hi hz0 hz1 hz2 rfl rfl (hown.alloc _) rfl (one_at _ _ _ _) ?_ ?_ (by have := hBs.out; simp; omega) ?_; (have := hlt'.out; unfold maxLen; omega); (have := hlt'.out; omega); intro v3 w3 hown3 hg3; refine RowKit.Hid.out ?_)
          refine Lib.hid ?_
          have hB3 : Below B w2 w3 := (hB.alloc hBs.out _).grown hg3 (by have := hBs.out; simp; omega) (fun j hj => (hown.lt j hj).1)
          have hown3 : w3.ownsRow B 66 1 v3 (t + 1) (rowU (t + 1) (kws (own bs) (t + 1 - 8))) := by
            rw [hnx.out, rowU_snoc, hch.out]; exact hown3
          clear hown hB hg3
          go_wp2
          go_roundw
          case rel => exact ⟨t + 1, by have := h8'.out; omega, by have := hlt'.out; omega, by go_num, hown3, hB3⟩
          case measure => have := hlt'.out; simp [intOf]; omega
        · obtain ⟨r, hr⟩ : ∃ r, t % 8 = r := ⟨_, rfl⟩
          have hch := Lib.hid (show chg t y = y by unfold chg; rw [if_neg h0, if_neg h4])
          have e : (t : Int) % 8 = (r : Int) := by omega
          have b0 : ((r : Int) == 0) = false := by simp; omega
          have b4 : ((r : Int) == 4) = false := by simp; omega
          have hxor := bits_xor32 x y hxl hyl
          clear h0 h4 hlt h8 hk hn hp hpn hxe hye hxl hyl hwd hL hr
          go_wp2_with (at_builtin; refine wpList_append_ints rfl (.tmp 46) (.tmp 54) 59 rfl B 66 i0 (.int .u32 0) 4 Try.underlying59 hi hz0 hz1 hz2 rfl rfl (hown.alloc _) rfl (one_at _ _ _ _) ?_ ?_ (by have := hBs.out; simp; omega) ?_; (have := hlt'.out; unfold maxLen; omega); (have := hlt'.out; omega); intro v3 w3 hown3 hg3; refine RowKit.Hid.out ?_)
          refine Lib.hid ?_
          have hB3 : Below B w2 w3 := (hB.alloc hBs.out _).grown hg3 (by have := hBs.out; simp; omega) (fun j hj => (hown.lt j hj).1)
          have hown3 : w3.ownsRow B 66 1 v3 (t + 1) (rowU (t + 1) (kws (own bs) (t + 1 - 8))) := by
            rw [hnx.out, rowU_snoc, hch.out]; exact hown3
          clear hown hB hg3
          go_wp2
          go_roundw
          case rel => exact ⟨t + 1, by have := h8'.out; omega, by have := hlt'.out; omega, by go_num, hown3, hB3⟩
          case measure => have := hlt'.out; simp [intOf]; omega
    · obtain rfl : t = 60 := by omega
      obtain ⟨lb, lc, rfl, hL⟩ := Ints.of_owns (xs := wordsL 60 (kws (own bs) 52) 0) (by rw [rowU_words]; exact hown)
      have hR := RR.out wr hB
      have hTr := TT.out wr hB
      obtain ⟨lbk, loff, rfl, _⟩ := hL.at (by decide)
      have nT : tb ≠ g := ints_ne hTr (by decide) hR
      have nL : lbk ≠ g := ints_ne hL (by decide) hR
      have HI : IsRow Try.prog 61 [Value.slice (some ⟨lbk, loff, none⟩) 60 lc, Value.slice (some ⟨tb, toff, none⟩) 256 tc].length := row34'
      go_wp2_with ((refine wpList_store_part (cs := [Value.slice (some ⟨lbk, loff, none⟩) 60 lc, Value.slice (some ⟨tb, toff, none⟩) 256 tc]) rfl 61 (.tmp 2) (.tmp 58) rfl ?_ ?_ hR HI (Nat.le_refl 2) (by intro v hv; simp at hv; rcases hv with rfl | rfl <;> rfl) ?_); rfl; rfl; intro w9 hR9 hg9)
      (try simp only [Exit.inBlock, Exit.then])
      have hR9 := hR9.cast (overV_all _ _ rfl)
      refine bodyPost_ret (results_blk rfl rfl hR9 HI) rfl ?_
      refine ⟨some ⟨lbk, loff, none⟩, lc, some ⟨tb, toff, none⟩, tc, rfl, hL.grown hg9 (fun x hx _ => by injection hx with hx; subst hx; exact nL), hTr.grown hg9 (fun x hx _ => by injection hx with hx; subst hx; exact nT), ?_⟩
      have hB9 : Below g w wr := hB2.out.trans (hB.mono (by have := hBx.out; have := hgl2.out; omega))
      rw [hg]
      exact hB9.trans (below_of_grown hg9 (Nat.le_refl g) hR.lt)
end Go.Proofs.Ytclcnngpgbdjgaa
