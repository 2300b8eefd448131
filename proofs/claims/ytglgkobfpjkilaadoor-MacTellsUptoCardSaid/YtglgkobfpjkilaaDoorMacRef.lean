/-
  What the document's own tags (package miradorref03) come to. Conditions: bytes are numbers from 0 to 255, at most 2^32 - 4096 of them.
-/
import Derived.Test.YtglgkobfpjkilaaDoorMacMath
import Derived.Test.YtglgkobfpjkilaaDoorSteps
import Derived.Test.YtglgkobfpjkilaaDoorBlocks2
import Derived.Test.YtglgkobfpjkilaaDoorShaRefSum
namespace Go.Proofs.YtglgkobfpjkilaaDoor
open Go.RowKit

theorem own_mono {w : World} {b B : Nat} {e : TypeId} {size : Nat} {v : Value} {n : Nat} {xs : List Value} (h : w.ownsRow B e size v n xs) (hb : b ≤ B) : w.ownsRow b e size v n xs := by
  refine ⟨h.1, ?_⟩
  rcases h.2 with h0 | ⟨g, cap, cur, h1, h2, h3⟩
  · exact .inl h0
  · exact .inr ⟨g, cap, cur, h1, Nat.le_trans hb h2, h3⟩
theorem pad_snoc (key : List Int) (y : Int) (k : Nat) (h : k < 64) : (pad key y).take (k + 1) = (pad key y).take k ++ [bits .xor .u8 ((keyOf key).getD k 0) y] := by
  rw [List.take_succ_eq_append_getElem (by rw [pad_length]; exact h)]
  have h1 := xorAll_getD (keyBlock key) y k (by rw [keyBlock_length]; exact h)
  rw [keyBlock_at key k h] at h1
  rw [← h1, List.getD_eq_getElem?_getD]
  rw [show xorAll (keyBlock key) y = pad key y from rfl, List.getElem?_eq_getElem (by rw [pad_length]; exact h)]
  rfl

set_option maxHeartbeats 800000 in
theorem refBlock_any (a : Option Addr) (n cap : Nat) (key : List Int) (y : Int) (w : World) (h : Ints .u8 w a n cap key) (hx : ∀ x ∈ key, 0 ≤ x ∧ x < 256) (hn : n ≤ 4294967296) :
    Calls Tryd.prog 20 #[.slice a n cap, .int .u8 y] w fun e w' => ∃ v, e = .returned v ∧ w'.ownsRow w.heap.size 5 1 v 64 ((pad key y).map (Value.int .u8)) ∧ Below w.heap.size w w' := by
  obtain ⟨i0, hi, hz0, hz1, hz2⟩ := info_parts infoU8
  have hl := Lib.hid h.len
  by_cases hbig : 64 < n
  · have hbI : (64 : Int) < (n : Int) := by omega
    have hko : keyOf key = shaSum key := keyOf_long (by rw [hl.out]; exact hbig)
    go_enter Tryd.func20, Tryd.ntmps20
    go_wp2_with fail
    refine (refSum_any a n cap key w h hx hn).mono ?_
    rintro e w1 ⟨rfl, hb1⟩
    rw [← hko]
    obtain ⟨X, hX⟩ : ∃ X, X = (keyOf key).map (Value.int .u8) := ⟨_, rfl⟩
    have hXl : X.length = 32 := by rw [hX, List.length_map, hko, shaSum_length]
    have hKl : (keyOf key).length = 32 := by rw [hko, shaSum_length]
    rw [← hX]
    have HX := Lib.hid hX
    have HI : IsRow Tryd.prog 27 X.length := by rw [hXl]; exact rowId
    have HO1 := Lib.hid (show ∀ v ∈ X, v.oneCell' = true by rw [hX]; exact ints_oneCell' _ _)
    have HOF := Lib.hid (show 0 + X.length ≤ (zb 32).length by rw [hXl]; decide)
    have HXL := Lib.hid hXl; have HKL := Lib.hid hKl
    clear hX hXl hKl hko
    go_wp2_with ((with_reducible refine wpList_alloc_blk rfl 27 rfl zeroId ?_)
                 refine wpList_store_part (g := w1.heap.size) (off := 0) (t := 27) (cur := zb 32) (cs := X) rfl 27 (.tmp 6) (.tmp 13) rfl ?_ ?_ (Blk.new w1 _ (zb 32)) HI ?_ HO1.out ?_
                 rfl
                 rfl
                 exact HOF.out
                 intro w2 hX' hg2)
    have hB2 := hX'.cast (overV_all _ _ (by rw [HXL.out]; rfl))
    have hb2 : Below w.heap.size w w2 := hb1.trans (((below1 w1 _).trans (below_of_grown hg2 (Nat.le_refl _) (by rw [size1]; omega))).mono hb1.size)
    have hK : Ints .u8 w2 (some ⟨w1.heap.size, 0, none⟩) 32 32 (keyOf key) := Ints.of_blk hB2 HKL.out (Nat.le_refl _) (fun i hi => by rw [HX.out, Nat.zero_add]; exact getElem?_mapInt _ _ _ (by rw [HKL.out]; exact hi))
    clear hX' hg2 hB2 hb1
    go_wp2_with fail
    go_loopw [5, 7] (fun v i wr => ∃ k : Nat, k ≤ 64 ∧ i = .int .i64 k ∧ wr.ownsRow w2.heap.size 5 1 v k (((pad key y).take k).map (Value.int .u8)) ∧ Below w2.heap.size w2 wr) (fun _ i _ => 64 - (intOf i).toNat)
    case atStart => exact ⟨0, Nat.zero_le _, rfl, World.ownsRow_nil _ _ _ _, Below.refl _ _⟩
    case round =>
      obtain ⟨k, hk, rfl, hown, hb⟩ := hrel
      by_cases hlt : k < 64
      · have SN := Lib.hid (pad_snoc key y k hlt)
        have kl : (k : Int) < 64 := by omega
        have k0 : (0 : Int) ≤ (k : Int) := by omega
        by_cases hin : k < 32
        · have hinI : (k : Int) < ((32 : Nat) : Int) := by omega
          obtain ⟨x, hx0⟩ : ∃ x, x = (keyOf key).getD k 0 := ⟨_, rfl⟩
          have hkr := hK.keep hb
          have ck := hkr.cellOf k hin
          rw [Nat.zero_add] at ck
          rw [← hx0] at ck SN
          clear hx0 hkr
          go_wp2_with (at_builtin; refine wpList_append_ints rfl (.tmp 27) (.tmp 31) 22 rfl w2.heap.size 5 i0 (.int .u8 0) 1 Tryd.underlying22 hi hz0 hz1 hz2 rfl rfl (hown.alloc _) rfl (one_at _ _ _ _) ?_ ?_ (by have := hb.size; simp; omega) ?_; (unfold maxLen; omega); omega; intro v3 w3 hown3 hg3)
          have hown4 : w3.ownsRow w2.heap.size 5 1 v3 (k + 1) (((pad key y).take (k + 1)).map (Value.int .u8)) := by
            rw [SN.out, List.map_append]; exact hown3
          have hb4 : Below w2.heap.size w2 w3 := (hb.alloc hb.size _).grown hg3 (by have := hb.size; simp; omega) (fun q hq => (hown.lt q hq).1)
          go_wp2
          go_roundw
          case rel => exact ⟨k + 1, by omega, by go_num, hown4, hb4⟩
          case measure => simp [intOf]; omega
        · have hinI : ((32 : Nat) : Int) ≤ (k : Int) := by omega
          have hx0 : (keyOf key).getD k 0 = 0 := by
            rw [List.getD_eq_getElem?_getD, List.getElem?_eq_none (by rw [hK.len]; omega)]; rfl
          rw [hx0] at SN
          clear hx0
          go_wp2_with (at_builtin; refine wpList_append_ints rfl (.tmp 27) (.tmp 31) 22 rfl w2.heap.size 5 i0 (.int .u8 0) 1 Tryd.underlying22 hi hz0 hz1 hz2 rfl rfl (hown.alloc _) rfl (one_at _ _ _ _) ?_ ?_ (by have := hb.size; simp; omega) ?_; (unfold maxLen; omega); omega; intro v3 w3 hown3 hg3)
          have hown4 : w3.ownsRow w2.heap.size 5 1 v3 (k + 1) (((pad key y).take (k + 1)).map (Value.int .u8)) := by
            rw [SN.out, List.map_append]; exact hown3
          have hb4 : Below w2.heap.size w2 w3 := (hb.alloc hb.size _).grown hg3 (by have := hb.size; simp; omega) (fun q hq => (hown.lt q hq).1)
          go_wp2
          go_roundw
          case rel => exact ⟨k + 1, by omega, by go_num, hown4, hb4⟩
          case measure => simp [intOf]; omega
      · obtain rfl : k = 64 := by omega
        rw [List.take_of_length_le (by rw [pad_length]; exact Nat.le_refl _)] at hown
        clear hlt hk
        go_wp2
        go_ret
        exact ⟨_, rfl, own_mono hown hb2.size, hb2.trans (hb.mono hb2.size)⟩
  · have hbI : (n : Int) ≤ 64 := by omega
    have hko : keyOf key = key := keyOf_short (by rw [hl.out]; exact hbig)
    obtain ⟨w2, hw2⟩ : ∃ w2, w2 = w := ⟨_, rfl⟩
    have hb2 : Below w.heap.size w w2 := by rw [hw2]; exact Below.refl _ _
    have hK : Ints .u8 w2 a n cap (keyOf key) := by rw [hko, hw2]; exact h
    rw [show Calls Tryd.prog 20 #[.slice a n cap, .int .u8 y] w = Calls Tryd.prog 20 #[.slice a n cap, .int .u8 y] w2 by rw [hw2]]
    clear hko hw2 h hl
    go_enter Tryd.func20, Tryd.ntmps20
    go_wp2_with fail
    go_loopw [5, 7] (fun v i wr => ∃ k : Nat, k ≤ 64 ∧ i = .int .i64 k ∧ wr.ownsRow w2.heap.size 5 1 v k (((pad key y).take k).map (Value.int .u8)) ∧ Below w2.heap.size w2 wr) (fun _ i _ => 64 - (intOf i).toNat)
    case atStart => exact ⟨0, Nat.zero_le _, rfl, World.ownsRow_nil _ _ _ _, Below.refl _ _⟩
    case round =>
      obtain ⟨k, hk, rfl, hown, hb⟩ := hrel
      by_cases hlt : k < 64
      · have SN := Lib.hid (pad_snoc key y k hlt)
        have kl : (k : Int) < 64 := by omega
        have k0 : (0 : Int) ≤ (k : Int) := by omega
        by_cases hin : k < n
        · have hinI : (k : Int) < ((n : Nat) : Int) := by omega
          obtain ⟨x, hx0⟩ : ∃ x, x = (keyOf key).getD k 0 := ⟨_, rfl⟩
          have hkr := hK.keep hb
          obtain ⟨b, off, rfl, hc⟩ := hkr.at (by omega)
          have ck := hc k hin
          clear hc
          rw [← hx0] at ck SN
          clear hx0 hkr
          go_wp2_with (at_builtin; refine wpList_append_ints rfl (.tmp 27) (.tmp 31) 22 rfl w2.heap.size 5 i0 (.int .u8 0) 1 Tryd.underlying22 hi hz0 hz1 hz2 rfl rfl (hown.alloc _) rfl (one_at _ _ _ _) ?_ ?_ (by have := hb.size; simp; omega) ?_; (unfold maxLen; omega); omega; intro v3 w3 hown3 hg3)
          have hown4 : w3.ownsRow w2.heap.size 5 1 v3 (k + 1) (((pad key y).take (k + 1)).map (Value.int .u8)) := by
            rw [SN.out, List.map_append]; exact hown3
          have hb4 : Below w2.heap.size w2 w3 := (hb.alloc hb.size _).grown hg3 (by have := hb.size; simp; omega) (fun q hq => (hown.lt q hq).1)
          go_wp2
          go_roundw
          case rel => exact ⟨k + 1, by omega, by go_num, hown4, hb4⟩
          case measure => simp [intOf]; omega
        · have hinI : ((n : Nat) : Int) ≤ (k : Int) := by omega
          have hx0 : (keyOf key).getD k 0 = 0 := by
            rw [List.getD_eq_getElem?_getD, List.getElem?_eq_none (by rw [hK.len]; omega)]; rfl
          rw [hx0] at SN
          clear hx0
          go_wp2_with (at_builtin; refine wpList_append_ints rfl (.tmp 27) (.tmp 31) 22 rfl w2.heap.size 5 i0 (.int .u8 0) 1 Tryd.underlying22 hi hz0 hz1 hz2 rfl rfl (hown.alloc _) rfl (one_at _ _ _ _) ?_ ?_ (by have := hb.size; simp; omega) ?_; (unfold maxLen; omega); omega; intro v3 w3 hown3 hg3)
          have hown4 : w3.ownsRow w2.heap.size 5 1 v3 (k + 1) (((pad key y).take (k + 1)).map (Value.int .u8)) := by
            rw [SN.out, List.map_append]; exact hown3
          have hb4 : Below w2.heap.size w2 w3 := (hb.alloc hb.size _).grown hg3 (by have := hb.size; simp; omega) (fun q hq => (hown.lt q hq).1)
          go_wp2
          go_roundw
          case rel => exact ⟨k + 1, by omega, by go_num, hown4, hb4⟩
          case measure => simp [intOf]; omega
      · obtain rfl : k = 64 := by omega
        rw [List.take_of_length_le (by rw [pad_length]; exact Nat.le_refl _)] at hown
        clear hlt hk
        go_wp2
        go_ret
        exact ⟨_, rfl, own_mono hown hb2.size, hb2.trans (hb.mono hb2.size)⟩
end Go.Proofs.YtglgkobfpjkilaaDoor
