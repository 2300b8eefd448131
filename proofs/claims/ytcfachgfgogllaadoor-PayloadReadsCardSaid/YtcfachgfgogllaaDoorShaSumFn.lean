/-
  What the function sha.Sum of parts comes to: the hash of all parts, one behind the other; and the method Sum of a nil hash. Conditions: the package's variables hold the constants and the starts; fewer than 2^32 - 128 bytes in all.
-/
import Derived.Test.YtcfachgfgogllaaDoorShaSum
import Derived.Test.YtcfachgfgogllaaDoorParts
namespace Go.Proofs.YtcfachgfgogllaaDoor
open Go.RowKit

set_option maxRecDepth 100000 in
set_option maxHeartbeats 800000 in
theorem sumFn_any (a : Option Addr) (n cap : Nat) (ps : List (List Int)) (w : World) (hP : Parts w a n cap ps) (hr : ∀ p ∈ ps, ∀ x ∈ p, 0 ≤ x ∧ x < 256) (hG : Glob w) (ht : ps.flatten.length ≤ 4294967168) (hn : n ≤ 4294967296) :
    Calls Tryd.prog 37 #[.slice a n cap] w fun e w' => e = .returned (.agg ((shaSum ps.flatten).map (Value.int .u8)).toArray) ∧ Below w.heap.size w w' := by
  have hl := hP.len
  go_enter Tryd.func37, Tryd.ntmps37
  go_wp2_with ((with_reducible refine wpList_alloc_blk rfl 36 rfl zeroId ?_))
  refine (new_any _ (hG.keep (below1 _ _) (Nat.le_refl _))).mono ?_
  rintro e w1 ⟨rfl, hH1, hb1⟩
  rw [size1] at hH1 hb1
  have hR1 : Blk w1 w.heap.size 36 (zb 32) := Blk.keep (Blk.new w 36 (zb 32)) hb1 (by omega)
  have hb : Below w.heap.size w w1 := (below1 _ _).trans (hb1.mono (by omega))
  have hz1 := hH1.lt
  have sz : (w.alloc (.cells (zb 32).toArray 36)).heap.size = w.heap.size + 1 := size1 _ _
  clear hb1
  go_wp2_with fail
  go_loopw [9] (fun i wr => ∃ k : Nat, k ≤ n ∧ i = .int .i64 k ∧ HashAt wr (w.heap.size + 1) (ps.take k).flatten ∧ Blk wr w.heap.size 36 (zb 32) ∧ Below w.heap.size w wr) (fun i _ => n - (intOf i).toNat)
  case atStart => exact ⟨0, Nat.zero_le _, rfl, hH1, hR1, hb⟩
  case round =>
    obtain ⟨k, hk, rfl, hH, hR, hbr⟩ := hrel
    have hGr := hG.keep hbr (Nat.le_refl _)
    by_cases hlt : k < n
    · obtain ⟨b, off, rfl, hc⟩ := (hP.keep hbr).at (by omega)
      obtain ⟨A, m, c, hck, hI⟩ := hc k hlt
      obtain ⟨A', m', c', hck', hI'⟩ : ∃ A' m' c', w.cell? ⟨b, off + k, none⟩ = some (.slice A' m' c') ∧ Ints .u8 w A' m' c' (ps.getD k []) := by
        obtain ⟨b', off', e', hc'⟩ := hP.at (by omega)
        injection e' with e'
        injection e' with e1 e2
        subst e1; subst e2
        exact hc' k hlt
      have hsame : wr.cell? ⟨b, off + k, none⟩ = some (.slice A' m' c') := by rw [hbr.cell (World.block_lt_of_cell? w _ hck')]; exact hck'
      rw [hck] at hsame
      injection hsame with hsame
      injection hsame with e1 e2 e3
      subst e1; subst e2; subst e3
      have hin := hI'.isIn.2
      have SN := Lib.hid (flatten_snoc ps k (by omega))
      have hlen := Lib.hid (show (ps.take k).flatten.length + m ≤ 4294967296 by
        have h1 := flatten_take_le ps (k + 1)
        rw [SN.out, List.length_append, hI.len] at h1
        omega)
      have hrk := Lib.hid (getD_mem_range hr k)
      have HI := Lib.hid hI
      have HIN := Lib.hid hin
      clear hc hck' hI' hI hin
      go_wp2_with fail
      refine (write_any (w.heap.size + 1) _ _ m _ _ wr hH hGr HI.out hrk.out (fun x hx hm => by have := HIN.out x hx hm; omega) hlen.out).mono ?_
      rintro e w4 ⟨rfl, hH4, hg4⟩
      have hR4 := hR.grown hg4 (by intro e; injection e; omega)
      have hb4 : Below w.heap.size w w4 := hbr.trans (below_of_grown hg4 (by omega) hH.lt)
      go_wp2
      go_roundw
      case rel => exact ⟨k + 1, by omega, by go_num, by rw [SN.out]; exact hH4, hR4, hb4⟩
      case measure => simp [intOf]; omega
    · have hend := Lib.hid (show ps.take k = ps from List.take_of_length_le (by omega))
      have hge : (n : Int) ≤ (k : Int) := by omega
      rw [hend.out] at hH
      go_wp2_with fail
      refine (hsum_any (w.heap.size + 1) ps.flatten wr hH hGr ht).mono ?_
      rintro e w5 ⟨rfl, hb5⟩
      have hR5 := hR.keep hb5 hR.lt
      obtain ⟨out, hout⟩ : ∃ out, out = (shaSum ps.flatten).map (Value.int .u8) := ⟨_, rfl⟩
      have hol : out.length = 32 := by rw [hout, List.length_map, shaSum_length]
      rw [← hout]
      have HO := Lib.hid hout
      have HOL := Lib.hid hol
      have HI : IsRow Tryd.prog 36 out.length := by rw [hol]; exact rowId
      have HO1 := Lib.hid (show ∀ v ∈ out, v.oneCell' = true by rw [hout]; exact ints_oneCell' _ _)
      have HOF := Lib.hid (show 0 + out.length ≤ (zb 32).length by rw [hol]; decide)
      clear hout hol
      go_wp2_with ((with_reducible refine wpList_store_part rfl 36 (.tmp 2) (.tmp 18) rfl ?_ ?_ hR5 HI HOF.out HO1.out ?_); rfl; rfl; intro w9 hR9 hg9)
      have hR9' := hR9.cast (overV_all _ _ (by rw [HOL.out]; rfl))
      (try simp only [Exit.inBlock, Exit.then])
      refine bodyPost_ret (results_blk rfl rfl hR9' HI) rfl ?_
      exact ⟨by rw [HO.out], (hbr.trans (hb5.mono hbr.size)).trans (below_of_grown hg9 (Nat.le_refl _) hR5.lt)⟩

set_option maxRecDepth 100000 in
set_option maxHeartbeats 400000 in
theorem hsumNil_any (w : World) (hG : Glob w) : Calls Tryd.prog 57 #[.pointer none] w fun e w' => e = .returned (.agg ((shaSum []).map (Value.int .u8)).toArray) ∧ Below w.heap.size w w' := by
  go_enter Tryd.func57, Tryd.ntmps57
  go_wp2_with ((with_reducible refine wpList_alloc_blk rfl 36 rfl zeroId ?_))
  refine (sumFn_any none 0 0 [] _ (parts_nil _ _) (by simp) (hG.keep (below1 _ _) (Nat.le_refl _)) (by simp) (by decide)).mono ?_
  rintro e w5 ⟨rfl, hb5⟩
  have hR5 : Blk w5 w.heap.size 36 (zb 32) := Blk.keep (Blk.new w 36 (zb 32)) hb5 (by rw [size1]; omega)
  have hb6 : Below w.heap.size w w5 := (below1 _ _).trans (hb5.mono (by rw [size1]; omega))
  rw [show ([] : List (List Int)).flatten = [] from rfl]
  obtain ⟨out, hout⟩ : ∃ out, out = (shaSum []).map (Value.int .u8) := ⟨_, rfl⟩
  have hol : out.length = 32 := by rw [hout, List.length_map, shaSum_length]
  rw [← hout]
  have HO := Lib.hid hout
  have HOL := Lib.hid hol
  have HI : IsRow Tryd.prog 36 out.length := by rw [hol]; exact rowId
  have HO1 := Lib.hid (show ∀ v ∈ out, v.oneCell' = true by rw [hout]; exact ints_oneCell' _ _)
  have HOF := Lib.hid (show 0 + out.length ≤ (zb 32).length by rw [hol]; decide)
  clear hout hol hb5
  go_wp2_with ((with_reducible refine wpList_store_part rfl 36 (.tmp 2) (.tmp 7) rfl ?_ ?_ hR5 HI HOF.out HO1.out ?_); rfl; rfl; intro w9 hR9 hg9)
  have hR9' := hR9.cast (overV_all _ _ (by rw [HOL.out]; rfl))
  (try simp only [Exit.inBlock, Exit.then])
  refine bodyPost_ret (results_blk rfl rfl hR9' HI) rfl ?_
  exact ⟨by rw [HO.out], hb6.trans (below_of_grown hg9 (Nat.le_refl _) hR5.lt)⟩
end Go.Proofs.YtcfachgfgogllaaDoor
