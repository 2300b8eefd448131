/-
  What package sha's schedule of a piece comes to. Conditions: the piece has 64 bytes, each a number from 0 to 255.
-/
import Derived.Test.YtcfachgfgogllaaDoorShaSums
import Derived.Test.YtcfachgfgogllaaDoorBlocks
import Derived.Test.YtcfachgfgogllaaDoorWordWords
import Derived.Outline
namespace Go.Proofs.YtcfachgfgogllaaDoor
open Go.RowKit

theorem sizeU32 : (Tryd.prog.info? 39).map (·.size) = some 1 := by kernel_rfl
theorem size64u32 : (Tryd.prog.info? 123).map (·.size) = some 64 := by kernel_rfl
def wd4 (a b c d : Int) : Int := (ssig1 a + b + ssig0 c + d) % 4294967296
def zeros (n : Nat) : List Value := List.replicate n (.int .u32 0)

set_option maxRecDepth 100000 in
set_option maxHeartbeats 800000 in
theorem schedule_any (a : Option Addr) (cap : Nat) (bs : List Int) (w : World) (h : Ints .u8 w a 64 cap bs) (hx : ∀ x ∈ bs, 0 ≤ x ∧ x < 256) :
    Calls Tryd.prog 68 #[.slice a 64 cap] w fun e w' => e = .returned (.agg (((sch (wordsOf bs) 48).map (Value.int .u32)).toArray)) ∧ Below w.heap.size w w' := by
  go_enter Tryd.func68, Tryd.ntmps68
  go_wp2_with fail
  refine (words_yes _ _ _ bs _ (h.keep (below2 _ _ _)) hx (by omega) (by omega)).mono ?_
  rintro e w1 ⟨b1, m1, c1, rfl, X1, hb1⟩
  have hr : Blk w1 w.heap.size 123 (zeros 64) := Blk.keep (Blk.alloc (Blk.new w _ (zeros 64)) _) hb1 (by rw [size2]; omega)
  have hv : Blk w1 (w.heap.size + 1) 123 (zeros 64) := Blk.keep (Blk.new1 w _ _ (zeros 64)) hb1 (by rw [size2]; omega)
  have hb : Below w.heap.size w w1 := (below2 _ _ _).trans (hb1.mono (by rw [size2]; omega))
  have hs1 : w.heap.size + 2 ≤ w1.heap.size := by have := hb1.size; rw [size2] at this; exact this
  have h16 := wordsOf_len16 bs h.len
  have hm1 : m1 = 16 := by rw [← X1.len, h16]
  subst hm1
  have wrn := wordsOf_range bs hx
  clear hb1 h
  have CF : CopyFits w1 (some ⟨w.heap.size + 1, 0, none⟩) b1 16 64 (w.heap.size + 1) 0 (zeros 64).length (((wordsOf bs).take 16).map (Value.int .u32)) := X1.copyFits rfl (fun _ => rfl) (by decide)
  rw [List.take_of_length_le (by omega)] at CF
  have H16 := Lib.hid h16; clear h16
  go_wp2_with (with_reducible refine wpList_copy_fits rfl (.tmp 12) (.tmp 13) 85 85 rfl 39 Tryd.underlying85 sizeU32 rfl rfl hv CF ?_)
  intro w2 hv2 hg2
  have hv2' : Blk w2 (w.heap.size + 1) 123 ((sch (wordsOf bs) (16 - 16)).map (Value.int .u32) ++ zeros (64 - 16)) := by
    refine hv2.cast ?_
    show ([] : List Value) ++ (_ ++ List.drop (0 + _) (zeros 64)) = _
    rw [List.length_map, H16.out]; rfl
  have hr2 : Blk w2 w.heap.size 123 (zeros 64) := hr.grown hg2 (by simp)
  have hb2 : Below w.heap.size w w2 := hb.trans (below_of_grown hg2 (by omega) hv.lt)
  clear CF hv hv2 hr hg2 hb X1 hs1
  go_wp2_with fail
  go_loopw [6] (fun i wr' => ∃ j : Nat, 16 ≤ j ∧ j ≤ 64 ∧ i = .int .i64 j ∧ Blk wr' (w.heap.size + 1) 123 ((sch (wordsOf bs) (j - 16)).map (Value.int .u32) ++ zeros (64 - j)) ∧ Blk wr' w.heap.size 123 (zeros 64) ∧ Below w.heap.size w wr') (fun i _ => 64 - (intOf i).toNat)
  case atStart => exact ⟨16, by omega, by omega, rfl, hv2', hr2, hb2⟩
  case round =>
    obtain ⟨j, hj16, hj, rfl, hv, hr, hb⟩ := hrel
    clear hv2' hr2 hb2
    by_cases hlt : j < 64
    · have hlen := sch_length (wordsOf bs) H16.out (j - 16)
      have hrng := sch_range (wordsOf bs) wrn (j - 16)
      have hcell : ∀ i, i < j → wr.cell? ⟨w.heap.size + 1, i, none⟩ = some (.int .u32 ((sch (wordsOf bs) (j - 16)).getD i 0)) := fun i hi => by
        rw [hv.cell, List.getElem?_append_left (by rw [List.length_map]; omega), getElem?_mapInt _ _ _ (by omega)]
      have hc2 := hcell (j - 2) (by omega)
      have hc7 := hcell (j - 7) (by omega)
      have hc15 := hcell (j - 15) (by omega)
      have hc16 := hcell (j - 16) (by omega)
      have r2 := getD_range hrng (j - 2) (by omega)
      have r7 := getD_range hrng (j - 7) (by omega)
      have r15 := getD_range hrng (j - 15) (by omega)
      have r16 := getD_range hrng (j - 16) (by omega)
      have hcj : wr.cell? ⟨w.heap.size + 1, j, none⟩ = some (.int .u32 0) := by
        rw [hv.cell, List.getElem?_append_right (by rw [List.length_map]; omega), List.length_map, hlen]
        unfold zeros
        rw [List.getElem?_replicate, if_pos (by omega)]
      have hfj := hv.frozen j
      have SN := Lib.hid (show sch (wordsOf bs) (j + 1 - 16) = sch (wordsOf bs) (j - 16) ++ [wd (sch (wordsOf bs) (j - 16)) j] by
        rw [show j + 1 - 16 = (j - 16) + 1 from by omega]; show _ ++ [wd _ (16 + (j - 16))] = _; rw [show 16 + (j - 16) = j from by omega])
      obtain ⟨x2, e2⟩ : ∃ x, x = (sch (wordsOf bs) (j - 16)).getD (j - 2) 0 := ⟨_, rfl⟩
      obtain ⟨x7, e7⟩ : ∃ x, x = (sch (wordsOf bs) (j - 16)).getD (j - 7) 0 := ⟨_, rfl⟩
      obtain ⟨x15, e15⟩ : ∃ x, x = (sch (wordsOf bs) (j - 16)).getD (j - 15) 0 := ⟨_, rfl⟩
      obtain ⟨x16, e16⟩ : ∃ x, x = (sch (wordsOf bs) (j - 16)).getD (j - 16) 0 := ⟨_, rfl⟩
      have HL := Lib.hid hlen
      have WD := Lib.hid (show wd (sch (wordsOf bs) (j - 16)) j = wd4 x2 x7 x15 x16 by rw [e2, e7, e15, e16]; rfl)
      rw [← e2] at hc2 r2; rw [← e7] at hc7 r7; rw [← e15] at hc15 r15; rw [← e16] at hc16 r16
      clear e2 e7 e15 e16 hcell hrng hlen
      obtain ⟨p2, q2⟩ := r2
      obtain ⟨p7, q7⟩ := r7
      obtain ⟨p15, q15⟩ := r15
      obtain ⟨p16, q16⟩ := r16
      have ij : (0 : Int) ≤ (j : Int) := Int.natCast_nonneg _
      have ijl : (j : Int) < 64 := by omega
      have w2' : IntKind.i64.wrap ((j : Int) - 2) = (j : Int) - 2 := IntWalk.i64_in _ (by omega)
      have w7' : IntKind.i64.wrap ((j : Int) - 7) = (j : Int) - 7 := IntWalk.i64_in _ (by omega)
      have w15' : IntKind.i64.wrap ((j : Int) - 15) = (j : Int) - 15 := IntWalk.i64_in _ (by omega)
      have w16' : IntKind.i64.wrap ((j : Int) - 16) = (j : Int) - 16 := IntWalk.i64_in _ (by omega)
      have n2 : ((j : Int) - 2).toNat = j - 2 := by omega
      have n7 : ((j : Int) - 7).toNat = j - 7 := by omega
      have n15 : ((j : Int) - 15).toNat = j - 15 := by omega
      have n16 : ((j : Int) - 16).toNat = j - 16 := by omega
      have l2 : (0 : Int) ≤ (j : Int) - 2 ∧ (j : Int) - 2 < 64 := by omega
      have l7 : (0 : Int) ≤ (j : Int) - 7 ∧ (j : Int) - 7 < 64 := by omega
      have l15 : (0 : Int) ≤ (j : Int) - 15 ∧ (j : Int) - 15 < 64 := by omega
      have l16 : (0 : Int) ≤ (j : Int) - 16 ∧ (j : Int) - 16 < 64 := by omega
      have g2 : (2 : Int) ≤ (j : Int) := by omega
      have g7 : (7 : Int) ≤ (j : Int) := by omega
      have g15 : (15 : Int) ≤ (j : Int) := by omega
      have g16 : (16 : Int) ≤ (j : Int) := by omega
      obtain ⟨l2a, l2b⟩ := l2
      obtain ⟨l7a, l7b⟩ := l7
      obtain ⟨l15a, l15b⟩ := l15
      obtain ⟨l16a, l16b⟩ := l16
      go_wp2_with fail
      refine wp_region_still_tail 23 (by kernel_rfl) (by kernel_rfl) ?_
      simp only [List.take_succ_cons, List.take_zero, List.drop_succ_cons, List.drop_zero]
      repeat (first | still_call ((smallSum1_any x2 _ p2 q2).mono fun _ _ h => ⟨h.1, h.2.symm⟩) | still_call ((smallSum0_any x15 _ p15 q15).mono fun _ _ h => ⟨h.1, h.2.symm⟩) | still_step)
      refine wpStill_nil ?_
      change wpList _ _ _ _ _ wr.drew
      clear w2' w7' w15' w16' n2 n7 n15 n16 l2a l2b l7a l7b l15a l15b l16a l16b
      go_wp2
      go_roundw
      case rel =>
        refine ⟨j + 1, by omega, by omega, by go_num, ?_, (hr.drew).far (by simp) _, (hb.drew).setCell (by simp) _⟩
        refine ((hv.drew).set j _).cast ?_
        rw [SN.out, WD.out, List.map_append, List.set_append_right _ _ (by rw [List.length_map, HL.out]; omega), List.length_map, HL.out, show j - (16 + (j - 16)) = 0 from by omega, List.append_assoc]
        congr 1
        rw [show zeros (64 - j) = .int .u32 0 :: zeros (64 - (j + 1)) from by unfold zeros; rw [show 64 - j = (64 - (j + 1)) + 1 from by omega]; rfl]
        rfl
      case measure => simp [intOf]; omega
    · have hje : j = 64 := by omega
      rw [hje] at hv
      clear hje
      have hge : (64 : Int) ≤ (j : Int) := by omega
      have hl64 := sch_length (wordsOf bs) H16.out 48
      obtain ⟨cs, hcs⟩ : ∃ cs, cs = (sch (wordsOf bs) 48).map (Value.int .u32) := ⟨_, rfl⟩
      have hlc : cs.length = 64 := by rw [hcs, List.length_map, hl64]
      have hv' : Blk wr (w.heap.size + 1) 123 cs := hv.cast (by rw [hcs]; simp [zeros])
      have h1 := Lib.hid (show ∀ v ∈ cs, v.oneCell' = true by rw [hcs]; exact ints_oneCell' _ _)
      have hr64 : IsRow Tryd.prog 123 cs.length := by rw [hlc]; exact IsRow.array Tryd.underlying123 size64u32
      have ov := Lib.hid (overV_all (zeros 64) cs (by rw [hlc]; rfl))
      have hfit : 0 + cs.length ≤ (zeros 64).length := by rw [hlc]; decide
      have HC := Lib.hid hcs; have HF := Lib.hid hfit
      clear hcs hl64 hlc hv hfit
      go_wp2_with (first
        | (with_reducible refine wpList_load_blk rfl 123 (.tmp 3) rfl rfl hv' hr64 rfl ?_)
        | (with_reducible refine wpList_store_part rfl 123 (.tmp 2) (.tmp 42) rfl rfl rfl hr hr64 HF.out h1.out ?_; intro w9 hr9 hg9; rw [ov.out] at hr9))
      (try simp only [Exit.inBlock, Exit.then])
      refine bodyPost_ret (results_blk rfl rfl hr9 hr64) rfl ?_
      exact ⟨by rw [HC.out], hb.trans (below_of_grown hg9 (Nat.le_refl _) hr.lt)⟩
end Go.Proofs.YtcfachgfgogllaaDoor
