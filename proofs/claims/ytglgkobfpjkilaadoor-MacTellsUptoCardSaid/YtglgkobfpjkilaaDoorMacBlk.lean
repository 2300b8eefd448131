/-
  What package mac's blockOf and told come to: a key's block; a hash that was told a block, each byte xor a number. Conditions: bytes are numbers from 0 to 255, at most 2^32 of them; the package's variables hold the constants and the starts.
-/
import Derived.Test.YtglgkobfpjkilaaDoorMacRef
import Derived.Test.YtglgkobfpjkilaaDoorShaSumFn
namespace Go.Proofs.YtglgkobfpjkilaaDoor
open Go.RowKit

theorem zeroBlk : Zero Tryd.prog 47 (zb 64) := by unfold Zero; kernel_rfl
theorem sizeBlk : (Tryd.prog.info? 47).map (·.size) = some 64 := by kernel_rfl
theorem rowBlk : IsRow Tryd.prog 47 64 := IsRow.array Tryd.underlying47 sizeBlk
theorem keyBlock_over (key : List Int) (N : Nat) (h : (keyOf key).length = N) : overV (zb 64) 0 (((keyOf key).take N).map (Value.int .u8)) = (keyBlock key).map (Value.int .u8) := by
  have hle := keyOf_le key
  unfold overV keyBlock zb
  rw [List.take_of_length_le (l := keyOf key) (by omega), List.take_zero, List.nil_append, List.length_map, Nat.zero_add, List.drop_replicate, List.map_append, List.map_replicate, h]
theorem one_part (w : World) (A : Option Addr) (m c : Nat) (xs : List Int) (hx : Ints .u8 w A m c xs) (t : TypeId) : Parts (w.alloc (.cells #[.slice A m c] t)) (some ⟨w.heap.size, 0, none⟩) 1 1 [xs] :=
  Parts.of_blk (Blk.new w t [.slice A m c]) rfl (fun i hi => by
    rcases i with _ | i
    · exact ⟨A, m, c, rfl, hx.keep (below1 _ _)⟩
    · omega)

set_option maxRecDepth 100000 in
set_option maxHeartbeats 800000 in
theorem blockOf_any (a : Option Addr) (n cap : Nat) (key : List Int) (w : World) (hG : Glob w) (h : Ints .u8 w a n cap key) (hx : ∀ x ∈ key, 0 ≤ x ∧ x < 256) (hn : n ≤ 4294967168) :
    Calls Tryd.prog 22 #[.slice a n cap] w fun e w' => e = .returned (.agg ((keyBlock key).map (Value.int .u8)).toArray) ∧ Below w.heap.size w w' := by
  have hl := Lib.hid h.len
  obtain ⟨X, hX⟩ : ∃ X, X = (keyBlock key).map (Value.int .u8) := ⟨_, rfl⟩
  have hXl : X.length = 64 := by rw [hX, List.length_map, keyBlock_length]
  rw [← hX]
  have HX := Lib.hid hX; have HXL := Lib.hid hXl
  have HI : IsRow Tryd.prog 47 X.length := by rw [hXl]; exact rowBlk
  have HO1 := Lib.hid (show ∀ v ∈ X, v.oneCell' = true by rw [hX]; exact ints_oneCell' _ _)
  have HOF := Lib.hid (show 0 + X.length ≤ (zb 64).length by rw [hXl]; decide)
  clear hX hXl
  have hb0 := below2 w (.cells (zb 64).toArray 47) (.cells (zb 64).toArray 47)
  have R0 : Blk ((w.alloc (.cells (zb 64).toArray 47)).alloc (.cells (zb 64).toArray 47)) w.heap.size 47 (zb 64) := (Blk.new w 47 (zb 64)).alloc _
  have B0 : Blk ((w.alloc (.cells (zb 64).toArray 47)).alloc (.cells (zb 64).toArray 47)) (w.heap.size + 1) 47 (zb 64) := Blk.new1 w _ _ (zb 64)
  by_cases hbig : 64 < n
  · have hbI : (64 : Int) < (n : Int) := by omega
    have hko : keyOf key = shaSum key := keyOf_long (by rw [hl.out]; exact hbig)
    have P0 := one_part _ a n cap key (h.keep hb0) 22
    rw [size2] at P0
    have hbP := hb0.alloc hb0.size (.cells #[.slice a n cap] 22)
    have hGP := hG.keep hbP (Nat.le_refl _)
    have RP := R0.alloc (.cells #[.slice a n cap] 22)
    have BP := B0.alloc (.cells #[.slice a n cap] 22)
    have hs3 := size3 w (.cells (zb 64).toArray 47) (.cells (zb 64).toArray 47) (.cells #[.slice a n cap] 22)
    go_enter Tryd.func22, Tryd.ntmps22
    go_wp2_with (with_reducible refine wpList_alloc_blk rfl 47 rfl zeroBlk ?_)
    refine (sumFn_any _ 1 1 [key] _ P0 (by simpa using hx) hGP (by simp; rw [hl.out]; omega) (by decide)).mono ?_
    rintro e w1 ⟨rfl, hb1⟩
    rw [show ([key] : List (List Int)).flatten = key by simp, ← hko]
    have R1 := RP.keep hb1 RP.lt
    have B1 := BP.keep hb1 BP.lt
    have hw1 : Below w.heap.size w w1 := hbP.trans (hb1.mono hbP.size)
    clear P0 hbP hGP RP BP hb1 R0 B0 hb0 hs3
    obtain ⟨Y, hY⟩ : ∃ Y, Y = (keyOf key).map (Value.int .u8) := ⟨_, rfl⟩
    have hYl : Y.length = 32 := by rw [hY, List.length_map, hko, shaSum_length]
    have hKl : (keyOf key).length = 32 := by rw [hko, shaSum_length]
    rw [← hY]
    have HY := Lib.hid hY
    have HJ : IsRow Tryd.prog 27 Y.length := by rw [hYl]; exact rowId
    have HP1 := Lib.hid (show ∀ v ∈ Y, v.oneCell' = true by rw [hY]; exact ints_oneCell' _ _)
    have HPF := Lib.hid (show 0 + Y.length ≤ (zb 32).length by rw [hYl]; decide)
    have HYL := Lib.hid hYl; have HKL := Lib.hid hKl
    clear hY hYl hKl hko
    go_wp2_with ((with_reducible refine wpList_alloc_blk rfl 27 rfl zeroId ?_)
                 refine wpList_store_part (g := w1.heap.size) (off := 0) (t := 27) (cur := zb 32) (cs := Y) rfl 27 (.tmp 4) (.tmp 10) rfl ?_ ?_ (Blk.new w1 _ (zb 32)) HJ ?_ HP1.out ?_
                 rfl
                 rfl
                 exact HPF.out
                 intro w2 hY' hg2)
    have hB2 := hY'.cast (overV_all _ _ (by rw [HYL.out]; rfl))
    have hb2 : Below w1.heap.size w1 w2 := (below1 w1 _).trans (below_of_grown hg2 (Nat.le_refl _) (by rw [size1]; omega))
    have hw2 : Below w.heap.size w w2 := hw1.trans (hb2.mono hw1.size)
    have R2 := R1.keep hb2 R1.lt
    have B2 := B1.keep hb2 B1.lt
    have hK : Ints .u8 w2 (some ⟨w1.heap.size, 0, none⟩) 32 32 (keyOf key) := Ints.of_blk hB2 HKL.out (Nat.le_refl _) (fun i hi => by rw [HY.out, Nat.zero_add]; exact getElem?_mapInt _ _ _ (by rw [HKL.out]; exact hi))
    have CF : CopyFits w2 (some ⟨w.heap.size + 1, 0, none⟩) (some ⟨w1.heap.size, 0, none⟩) 32 64 (w.heap.size + 1) 0 (zb 64).length (((keyOf key).take 32).map (Value.int .u8)) := hK.copyFits rfl (fun _ => rfl) (by decide)
    clear hY' hg2 hB2 hb2 hw1 R1 B1
    go_wp2_with fail
    refine upon_copy 22 22 3 5 Tryd.underlying22 sizeU8 B2 CF 32 (by simp [HKL.out]) ?_
    intro w3 B3' hg3
    have B3 := B3'.cast ((keyBlock_over key 32 HKL.out).trans HX.out.symm)
    have R3 := R2.grown hg3 (by intro e; injection e; omega)
    go_wp2_with (first
      | ((with_reducible refine wpList_load_blk rfl 47 (.tmp 3) rfl ?_ B3 HI rfl ?_); rfl)
      | ((with_reducible refine wpList_store_part rfl 47 (.tmp 2) (.tmp 15) rfl ?_ ?_ R3 HI HOF.out HO1.out ?_); rfl; rfl; intro w4 R4' hg4))
    have R4 := R4'.cast (overV_all _ _ (by rw [HXL.out]; rfl))
    (try simp only [Exit.inBlock, Exit.then])
    refine bodyPost_ret (results_blk rfl rfl R4 HI) rfl ?_
    exact ⟨rfl, (hw2.trans (below_of_grown hg3 (by omega) B2.lt)).trans (below_of_grown hg4 (Nat.le_refl _) R3.lt)⟩
  · have hbI : (n : Int) ≤ 64 := by omega
    have hko : keyOf key = key := keyOf_short (by rw [hl.out]; exact hbig)
    have hK : Ints .u8 ((w.alloc (.cells (zb 64).toArray 47)).alloc (.cells (zb 64).toArray 47)) a n cap (keyOf key) := by rw [hko]; exact h.keep hb0
    have HKL := Lib.hid (show (keyOf key).length = n by rw [hko]; exact hl.out)
    have CF : CopyFits ((w.alloc (.cells (zb 64).toArray 47)).alloc (.cells (zb 64).toArray 47)) (some ⟨w.heap.size + 1, 0, none⟩) a n 64 (w.heap.size + 1) 0 (zb 64).length (((keyOf key).take n).map (Value.int .u8)) := hK.copyFits (by show n = min n 64; omega) (fun _ => rfl) (by show 0 + n ≤ 64; omega)
    have HCL := Lib.hid (show (((keyOf key).take n).map (Value.int .u8)).length = n by rw [List.length_map, List.length_take, HKL.out]; omega)
    clear hko
    go_enter Tryd.func22, Tryd.ntmps22
    go_wp2_with (first
      | (with_reducible refine wpList_alloc_blk rfl 47 rfl zeroBlk ?_)
      | (refine wpList_arr rfl 47 5 64 (.tmp 3) rfl Tryd.underlying47 sizeU8 rfl ?_; refine wpList_mv rfl (.tmp 0) rfl rfl ?_; refine wpList_copy_num rfl (.tmp 12) (.tmp 13) 22 22 rfl 5 Tryd.underlying22 sizeU8 rfl rfl B0 CF n HCL.out ?_; intro w3 B3' hg3; have B3 := B3'.cast ((keyBlock_over key n HKL.out).trans HX.out.symm); have R3 := R0.grown hg3 (by intro e; injection e; omega))
      | ((with_reducible refine wpList_load_blk rfl 47 (.tmp 3) rfl ?_ B3 HI rfl ?_); rfl)
      | ((with_reducible refine wpList_store_part rfl 47 (.tmp 2) (.tmp 15) rfl ?_ ?_ R3 HI HOF.out HO1.out ?_); rfl; rfl; intro w4 R4' hg4))
    have R4 := R4'.cast (overV_all _ _ (by rw [HXL.out]; rfl))
    (try simp only [Exit.inBlock, Exit.then])
    refine bodyPost_ret (results_blk rfl rfl R4 HI) rfl ?_
    exact ⟨rfl, (hb0.trans (below_of_grown hg3 (by omega) B0.lt)).trans (below_of_grown hg4 (Nat.le_refl _) R3.lt)⟩

set_option maxRecDepth 100000 in
set_option maxHeartbeats 800000 in
theorem told_any (bs : List Int) (y : Int) (w : World) (hG : Glob w) (hl : bs.length = 64) :
    Calls Tryd.prog 23 #[.agg (bs.map (Value.int .u8)).toArray, .int .u8 y] w fun e w' => ∃ g, e = .returned (.pointer (some ⟨g, 0, none⟩)) ∧ w.heap.size ≤ g ∧ HashAt w' g (xorAll bs y) ∧ Below w.heap.size w w' := by
  obtain ⟨Z, hZ⟩ : ∃ Z, Z = bs.map (Value.int .u8) := ⟨_, rfl⟩
  obtain ⟨X, hX⟩ : ∃ X, X = (xorAll bs y).map (Value.int .u8) := ⟨_, rfl⟩
  have HZL := Lib.hid (show Z.length = 64 by rw [hZ, List.length_map, hl])
  have HXL := Lib.hid (show X.length = 64 by rw [hX, List.length_map, xorAll_length, hl])
  rw [← hZ]
  have HZ := Lib.hid hZ; have HX := Lib.hid hX; have HL := Lib.hid hl
  clear hZ hX hl
  have B0 := Blk.new w 47 Z
  go_enter Tryd.func23, Tryd.ntmps23
  go_wp2_with fail
  go_loopw [7] (fun i wr => ∃ k : Nat, k ≤ 64 ∧ i = .int .i64 k ∧ Blk wr w.heap.size 47 (mixed X Z k) ∧ Below w.heap.size w wr) (fun i _ => 64 - (intOf i).toNat)
  case atStart => exact ⟨0, Nat.zero_le _, rfl, by rw [mixed_zero]; exact B0, below1 _ _⟩
  case round =>
    obtain ⟨k, hk, rfl, hB, hb⟩ := hrel
    clear B0
    by_cases hlt : k < 64
    · have ck := hB.cell k
      rw [mixed_at _ _ _ 64 HXL.out HZL.out hlt, HZ.out, getElem?_mapInt _ _ _ (by rw [HL.out]; exact hlt)] at ck
      have fk := hB.frozen k
      obtain ⟨x, hx0⟩ : ∃ x, x = bs.getD k 0 := ⟨_, rfl⟩
      have SET := Lib.hid (mixed_set X Z k 64 HXL.out HZL.out hlt (.int .u8 (bits .xor .u8 x y)) (by rw [HX.out, hx0, getElem?_mapInt _ _ _ (by rw [xorAll_length, HL.out]; exact hlt), xorAll_getD _ _ _ (by rw [HL.out]; exact hlt)]))
      rw [← hx0] at ck
      clear hx0
      have k0 : (0 : Int) ≤ (k : Int) := by omega
      have k1 : (k : Int) < 64 := by omega
      go_wp2
      go_roundw
      case rel => exact ⟨k + 1, by omega, by go_num, by rw [← SET.out]; exact hB.set k _, hb.setCell (Nat.le_refl _) _⟩
      case measure => simp [intOf]; omega
    · obtain rfl : k = 64 := by omega
      rw [mixed_all _ _ _ HXL.out HZL.out] at hB
      clear hlt hk
      have hGr := hG.keep hb (Nat.le_refl _)
      go_wp2_with fail
      refine (new_any wr hGr).mono ?_
      rintro e w1 ⟨rfl, H1, hb1⟩
      have G1 := hGr.keep hb1 (Nat.le_refl _)
      have B1 := hB.keep hb1 hB.lt
      have I1 : Ints .u8 w1 (some ⟨w.heap.size, 0, none⟩) 64 64 (xorAll bs y) := Ints.of_blk B1 (by rw [xorAll_length]; exact HL.out) (Nat.le_refl _) (fun i hi => by rw [HX.out, Nat.zero_add]; exact getElem?_mapInt _ _ _ (by rw [xorAll_length, HL.out]; exact hi))
      have hgl := hB.lt
      go_wp2_with fail
      refine (write_any wr.heap.size [] _ 64 64 (xorAll bs y) w1 H1 G1 I1 (xorAll_range _ _) (fun x hx _ => by injection hx with hx; subst hx; simp; omega) (by simp)).mono ?_
      rintro e w2 ⟨rfl, H2, hg2⟩
      rw [List.nil_append] at H2
      go_wp2
      go_ret
      exact ⟨_, rfl, hb.size, H2, (hb.trans (hb1.mono hb.size)).trans (below_of_grown hg2 hb.size H1.lt)⟩
end Go.Proofs.YtglgkobfpjkilaaDoor
