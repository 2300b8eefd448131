/-
  What package mac's Of, Equal and Check come to. Conditions: bytes are numbers from 0 to 255; of key and parts fewer than 2^32 - 4096; the package's variables hold the constants and the starts.
-/
import Derived.Test.YtglgkobfpjkilaaDoorMacTag
namespace Go.Proofs.YtglgkobfpjkilaaDoor
open Go.RowKit

set_option maxRecDepth 100000 in
set_option maxHeartbeats 800000 in
theorem of_any (a : Option Addr) (n ca : Nat) (key : List Int) (b : Option Addr) (m cb : Nat) (ps : List (List Int)) (w : World) (hG : Glob w) (h1 : Ints .u8 w a n ca key) (r1 : ∀ x ∈ key, 0 ≤ x ∧ x < 256) (hn : n ≤ 4294967168) (hP : Parts w b m cb ps) (hr : ∀ p ∈ ps, ∀ x ∈ p, 0 ≤ x ∧ x < 256) (ht : ps.flatten.length ≤ 4294960000) (hm : m ≤ 4294967296) :
    Calls Tryd.prog 9 #[.slice a n ca, .slice b m cb] w fun e w' => e = .returned (.agg ((tagOf key ps.flatten).map (Value.int .u8)).toArray) ∧ Below w.heap.size w w' := by
  have b0 := below1 w (.cells (zb 32).toArray 27)
  have R0 := Blk.new w 27 (zb 32)
  go_enter Tryd.func9, Tryd.ntmps9
  go_wp2_with (with_reducible refine wpList_alloc_blk rfl 27 rfl zeroId ?_)
  refine (by_any a n ca key _ (hG.keep b0 (Nat.le_refl _)) (h1.keep b0) r1 hn).mono ?_
  rintro e w1 ⟨g1, g2, rfl, l1, l2, H1, H2, hb1⟩
  rw [size1] at l1 hb1
  have R1 := R0.keep hb1 (by omega)
  have hw1 : Below w.heap.size w w1 := b0.trans (hb1.mono (by omega))
  clear R0 b0 hb1
  go_wp2_with fail
  refine (tag_any g1 g2 (pad key 54) (pad key 92) b m cb ps w1 (hG.keep hw1 (Nat.le_refl _)) H1 H2 (hP.keep hw1) hr (by rw [pad_length]; omega) hm (by rw [pad_length]; omega)).mono ?_
  rintro e w2 ⟨rfl, hb2⟩
  have R2 := R1.keep hb2 R1.lt
  have hw2 : Below w.heap.size w w2 := hw1.trans (hb2.mono hw1.size)
  obtain ⟨OUT, hOUT⟩ : ∃ X, X = (tagOf key ps.flatten).map (Value.int .u8) := ⟨_, rfl⟩
  have hOl : OUT.length = 32 := by rw [hOUT, List.length_map, tagOf_length]
  rw [show shaSum (pad key 92 ++ shaSum (pad key 54 ++ ps.flatten)) = tagOf key ps.flatten from rfl, ← hOUT]
  have HOUT := Lib.hid hOUT
  have HJ : IsRow Tryd.prog 27 OUT.length := by rw [hOl]; exact rowId
  have HP1 := Lib.hid (show ∀ v ∈ OUT, v.oneCell' = true by rw [hOUT]; exact ints_oneCell' _ _)
  have HPF := Lib.hid (show 0 + OUT.length ≤ (zb 32).length by rw [hOl]; decide)
  have HOL := Lib.hid hOl
  clear hOUT hOl H1 H2 hw1 R1 hb2
  go_wp2_with ((with_reducible refine wpList_store_part rfl 27 (.tmp 4) (.tmp 8) rfl ?_ ?_ R2 HJ HPF.out HP1.out ?_); rfl; rfl; intro w9 hR9 hg9)
  have hR9' := hR9.cast (overV_all _ _ (by rw [HOL.out]; rfl))
  (try simp only [Exit.inBlock, Exit.then])
  refine bodyPost_ret (results_blk rfl rfl hR9' HJ) rfl ?_
  exact ⟨by rw [HOUT.out], hw2.trans (below_of_grown hg9 (Nat.le_refl _) R2.lt)⟩

/-- What Equal has gathered of the first k bytes: 0 just if they are the same. -/
def gathered (xs ys : List Int) : Nat → Int
  | 0 => 0
  | k + 1 => bits .or .u8 (gathered xs ys k) (bits .xor .u8 (xs.getD k 0) (ys.getD k 0))
theorem gathered_range (xs ys : List Int) : ∀ k, 0 ≤ gathered xs ys k ∧ gathered xs ys k < 256
  | 0 => by unfold gathered; omega
  | k + 1 => by unfold gathered; exact or8_range _ _
theorem gathered_zero (xs ys : List Int) (hx : ∀ x ∈ xs, 0 ≤ x ∧ x < 256) (hy : ∀ y ∈ ys, 0 ≤ y ∧ y < 256) : ∀ k, k ≤ xs.length → k ≤ ys.length → (gathered xs ys k = 0 ↔ xs.take k = ys.take k)
  | 0, _, _ => by simp [gathered]
  | k + 1, h1, h2 => by
    have rx := getD_range (p := fun x => 0 ≤ x ∧ x < 256) hx k (by omega)
    have ry := getD_range (p := fun x => 0 ≤ x ∧ x < 256) hy k (by omega)
    rw [gathered, or8_zero (gathered_range xs ys k) (xor8_range _ _), xor8_zero rx ry, gathered_zero xs ys hx hy k (by omega) (by omega)]
    rw [List.take_succ_eq_append_getElem (by omega), List.take_succ_eq_append_getElem (by omega)]
    rw [List.getD_eq_getElem?_getD, List.getD_eq_getElem?_getD, List.getElem?_eq_getElem (by omega), List.getElem?_eq_getElem (by omega)]
    simp only [Option.getD_some]
    constructor
    · rintro ⟨e1, e2⟩; rw [e1, e2]
    · intro h
      have hl : (xs.take k).length = (ys.take k).length := by rw [List.length_take, List.length_take]; omega
      obtain ⟨e1, e2⟩ := List.append_inj h hl
      exact ⟨e1, by injection e2⟩
theorem gathered_all (xs ys : List Int) (hx : ∀ x ∈ xs, 0 ≤ x ∧ x < 256) (hy : ∀ y ∈ ys, 0 ≤ y ∧ y < 256) : (gathered xs ys (min xs.length ys.length) = 0 ∧ xs.length = ys.length) ↔ xs = ys := by
  constructor
  · rintro ⟨h1, h2⟩
    have := (gathered_zero xs ys hx hy _ (Nat.min_le_left _ _) (Nat.min_le_right _ _)).1 h1
    rw [List.take_of_length_le (by omega), List.take_of_length_le (by omega)] at this
    exact this
  · rintro rfl
    exact ⟨(gathered_zero xs xs hx hy _ (Nat.min_le_left _ _) (Nat.min_le_right _ _)).2 rfl, rfl⟩

set_option maxRecDepth 100000 in
set_option maxHeartbeats 800000 in
theorem equal_any (a : Option Addr) (n ca : Nat) (xs : List Int) (b : Option Addr) (m cb : Nat) (ys : List Int) (w : World) (h1 : Ints .u8 w a n ca xs) (r1 : ∀ x ∈ xs, 0 ≤ x ∧ x < 256) (h2 : Ints .u8 w b m cb ys) (r2 : ∀ x ∈ ys, 0 ≤ x ∧ x < 256) (hn : n ≤ maxLen) (hm : m ≤ maxLen) :
    Calls Tryd.prog 14 #[.slice a n ca, .slice b m cb] w fun e w' => e = .returned (.bool (decide (xs = ys))) ∧ ∃ k, w' = w.drewN k := by
  unfold maxLen at hn hm
  have L1 := Lib.hid h1.len; have L2 := Lib.hid h2.len
  rcases Nat.lt_or_ge m n with hle | hle
  · have hleI : (m : Int) < (n : Int) := by omega
    go_enter Tryd.func14, Tryd.ntmps14
    go_wp2_with fail
    go_loopw [5, 12] (fun t i wr => ∃ k : Nat, k ≤ m ∧ i = .int .i64 k ∧ t = .int .u8 (gathered xs ys k) ∧ Draws w wr) (fun _ i _ => m - (intOf i).toNat)
    case atStart => exact ⟨0, Nat.zero_le _, rfl, rfl, Draws.refl _⟩
    case round =>
      obtain ⟨k, hk, rfl, rfl, hD⟩ := hrel
      by_cases hlt : k < m
      · obtain ⟨b1, o1, rfl, c1⟩ := (h1.keep (hD.below _)).at (by omega)
        obtain ⟨b2, o2, rfl, c2⟩ := (h2.keep (hD.below _)).at (by omega)
        have d1 := c1 k (by omega)
        have d2 := c2 k (by omega)
        have SN := Lib.hid (show gathered xs ys (k + 1) = bits .or .u8 (gathered xs ys k) (bits .xor .u8 (xs.getD k 0) (ys.getD k 0)) from rfl)
        obtain ⟨x, hx⟩ : ∃ x, x = xs.getD k 0 := ⟨_, rfl⟩
        obtain ⟨y, hy⟩ : ∃ y, y = ys.getD k 0 := ⟨_, rfl⟩
        obtain ⟨G, hG⟩ : ∃ G, G = gathered xs ys k := ⟨_, rfl⟩
        rw [← hx] at d1
        rw [← hy] at d2
        rw [← hx, ← hy, ← hG] at SN
        rw [← hG]
        clear hx hy hG c1 c2
        have k0 : (0 : Int) ≤ (k : Int) := by omega
        have k1 : (k : Int) < (n : Int) := by omega
        have k2 : (k : Int) < (m : Int) := by omega
        go_wp2_with fail
        refine wp_region_still_lit (by kernel_rfl) (by kernel_rfl) ?_
        repeat still_step
        refine wpStill_nil ?_
        go_wp2_with fail
        go_roundw
        case rel => exact ⟨k + 1, by omega, by go_num, by rw [SN.out], hD.drew⟩
        case measure => simp [intOf]; omega
      · obtain rfl : k = m := by omega
        have hge : (k : Int) ≤ (k : Int) := Int.le_refl _
        have hall := gathered_all xs ys r1 r2
        rw [L1.out, L2.out, Nat.min_eq_right (Nat.le_of_lt hle)] at hall
        obtain ⟨T, hT⟩ : ∃ T, T = gathered xs ys k := ⟨_, rfl⟩
        rw [← hT] at hall
        rw [← hT]
        clear hT
        have RES := Lib.hid (show decide (xs = ys) = (decide (T = 0) && decide (n = k)) by
          rw [← Bool.decide_and]; exact decide_eq_decide.2 hall.symm)
        clear hall
        by_cases h0 : T = 0
        · subst h0
          by_cases hnm : n = k
          · have e1 : ((n : Int) == (k : Int)) = true := by simp [hnm]
            rw [decide_eq_true hnm] at RES
            have HNM := Lib.hid hnm
            clear hnm
            go_wp2
            go_ret
            exact ⟨by rw [RES.out]; rfl, hD⟩
          · have e1 : ((n : Int) == (k : Int)) = false := by simp; omega
            rw [decide_eq_false hnm] at RES
            clear hnm
            go_wp2
            go_ret
            exact ⟨by rw [RES.out]; rfl, hD⟩
        · have e0 : (T == 0) = false := by simp [h0]
          rw [decide_eq_false h0, Bool.false_and] at RES
          clear h0
          go_wp2
          go_ret
          exact ⟨by rw [RES.out]; rfl, hD⟩
  · have hleI : (n : Int) ≤ (m : Int) := by omega
    go_enter Tryd.func14, Tryd.ntmps14
    go_wp2_with fail
    go_loopw [5, 12] (fun t i wr => ∃ k : Nat, k ≤ n ∧ i = .int .i64 k ∧ t = .int .u8 (gathered xs ys k) ∧ Draws w wr) (fun _ i _ => n - (intOf i).toNat)
    case atStart => exact ⟨0, Nat.zero_le _, rfl, rfl, Draws.refl _⟩
    case round =>
      obtain ⟨k, hk, rfl, rfl, hD⟩ := hrel
      by_cases hlt : k < n
      · obtain ⟨b1, o1, rfl, c1⟩ := (h1.keep (hD.below _)).at (by omega)
        obtain ⟨b2, o2, rfl, c2⟩ := (h2.keep (hD.below _)).at (by omega)
        have d1 := c1 k (by omega)
        have d2 := c2 k (by omega)
        have SN := Lib.hid (show gathered xs ys (k + 1) = bits .or .u8 (gathered xs ys k) (bits .xor .u8 (xs.getD k 0) (ys.getD k 0)) from rfl)
        obtain ⟨x, hx⟩ : ∃ x, x = xs.getD k 0 := ⟨_, rfl⟩
        obtain ⟨y, hy⟩ : ∃ y, y = ys.getD k 0 := ⟨_, rfl⟩
        obtain ⟨G, hG⟩ : ∃ G, G = gathered xs ys k := ⟨_, rfl⟩
        rw [← hx] at d1
        rw [← hy] at d2
        rw [← hx, ← hy, ← hG] at SN
        rw [← hG]
        clear hx hy hG c1 c2
        have k0 : (0 : Int) ≤ (k : Int) := by omega
        have k1 : (k : Int) < (n : Int) := by omega
        have k2 : (k : Int) < (m : Int) := by omega
        go_wp2_with fail
        refine wp_region_still_lit (by kernel_rfl) (by kernel_rfl) ?_
        repeat still_step
        refine wpStill_nil ?_
        go_wp2_with fail
        go_roundw
        case rel => exact ⟨k + 1, by omega, by go_num, by rw [SN.out], hD.drew⟩
        case measure => simp [intOf]; omega
      · obtain rfl : k = n := by omega
        have hge : (k : Int) ≤ (k : Int) := Int.le_refl _
        have hall := gathered_all xs ys r1 r2
        rw [L1.out, L2.out, Nat.min_eq_left hle] at hall
        obtain ⟨T, hT⟩ : ∃ T, T = gathered xs ys k := ⟨_, rfl⟩
        rw [← hT] at hall
        rw [← hT]
        clear hT
        have RES := Lib.hid (show decide (xs = ys) = (decide (T = 0) && decide (k = m)) by
          rw [← Bool.decide_and]; exact decide_eq_decide.2 hall.symm)
        clear hall
        by_cases h0 : T = 0
        · subst h0
          by_cases hnm : k = m
          · have e1 : ((k : Int) == (m : Int)) = true := by simp [hnm]
            rw [decide_eq_true hnm] at RES
            have HNM := Lib.hid hnm
            clear hnm
            go_wp2
            go_ret
            exact ⟨by rw [RES.out]; rfl, hD⟩
          · have e1 : ((k : Int) == (m : Int)) = false := by simp; omega
            rw [decide_eq_false hnm] at RES
            clear hnm
            go_wp2
            go_ret
            exact ⟨by rw [RES.out]; rfl, hD⟩
        · have e0 : (T == 0) = false := by simp [h0]
          rw [decide_eq_false h0, Bool.false_and] at RES
          clear h0
          go_wp2
          go_ret
          exact ⟨by rw [RES.out]; rfl, hD⟩

end Go.Proofs.YtglgkobfpjkilaaDoor
