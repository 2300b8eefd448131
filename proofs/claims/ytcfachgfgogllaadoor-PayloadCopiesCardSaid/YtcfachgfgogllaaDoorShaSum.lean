/-
  What Sum of package sha comes to, as a method and as a function of parts: the document's hash. Conditions: the package's variables hold the constants and the starts; fewer than 2^32 - 128 bytes in all.
-/
import Derived.Test.YtcfachgfgogllaaDoorShaPad
import Derived.Deep.RegionLaw
namespace Go.Proofs.YtcfachgfgogllaaDoor
open Go.RowKit

def zb (n : Nat) : List Value := List.replicate n (.int .u8 0)
theorem zeroId : Zero Tryd.prog 36 (zb 32) := by unfold Zero; kernel_rfl
theorem sizeId : (Tryd.prog.info? 36).map (·.size) = some 32 := by kernel_rfl
theorem rowId : IsRow Tryd.prog 36 32 := IsRow.array Tryd.underlying36 sizeId
theorem padBehind_range (n : Nat) : ∀ x ∈ padBehind n, 0 ≤ x ∧ x < 256 := by
  intro x hx
  unfold padBehind at hx
  rcases List.mem_append.1 hx with hx | hx
  · rcases List.mem_cons.1 hx with rfl | hx
    · omega
    · rw [List.mem_replicate] at hx; omega
  · exact bytesOf_range _ (by simp; omega) x hx
theorem shaSum_range (bs : List Int) : ∀ x ∈ shaSum bs, 0 ≤ x ∧ x < 256 := bytesOf_range _ (S8.ok_range (chain8_ok _ _))

set_option maxRecDepth 100000 in
set_option maxHeartbeats 1600000 in
theorem hsum_any (g : Nat) (xs : List Int) (w : World) (hh : HashAt w g xs) (hG : Glob w) (hn : xs.length ≤ 4294967168) :
    Calls Tryd.prog 57 #[.pointer (some ⟨g, 0, none⟩)] w fun e w' => e = .returned (.agg ((shaSum xs).map (Value.int .u8)).toArray) ∧ Below w.heap.size w w' := by
  have hlt := hh.lt
  have hh0 := hh
  obtain ⟨rest, h1, h2, h3, hk1, hk2⟩ := hh
  have hH0 := Lib.hid hh0; clear hh0
  obtain ⟨cs, hcs⟩ : ∃ cs, cs = hcells (chain8 xs (xs.length / 64)) rest xs.length := ⟨_, rfl⟩
  have hl : cs.length = 73 := by rw [hcs]; exact hcells_length _ _ _ h1.len
  have ho := Lib.hid (show ∀ v ∈ cs, v.oneCell' = true by rw [hcs]; exact hcells_one _ _ _)
  have h72 : cs[72]? = some (.int .u64 xs.length) := by rw [hcs]; exact hcells_len _ _ _ h1.len
  rw [← hcs] at h3
  have HC := Lib.hid hcs
  have HL := Lib.hid hl
  have HR : IsRow Tryd.prog 108 cs.length := by rw [hl]; exact rowHash
  have h3a := h3.alloc (.cells (zb 32).toArray 36)
  obtain ⟨n, hn0⟩ : ∃ n, n = xs.length := ⟨_, rfl⟩
  rw [← hn0] at h72 hn
  have HN := Lib.hid hn0
  have H72 := Lib.hid h72
  clear hcs hl hn0 h72
  go_enter Tryd.func57, Tryd.ntmps57
  go_wp2_with (first
    | ((with_reducible refine wpList_alloc_blk rfl 36 rfl zeroId ?_))
    | ((with_reducible refine wpList_load_blk rfl 108 (.tmp 9) rfl ?_ h3a HR rfl ?_); rfl)
    | ((with_reducible refine wpList_alloc_blk rfl 108 rfl zeroHash ?_)
       refine wpList_store_part (g := w.heap.size + 1) (off := 0) (t := 108) (cur := hzero) (cs := cs) rfl 108 (.tmp 3) (.tmp 10) rfl ?_ ?_ (Blk.new1 w _ _ hzero) HR ?_ ho.out ?_
       exact congrArg (fun k => Value.pointer (some ⟨k, 0, none⟩)) (size1 w _)
       rfl
       exact (by rw [HL.out, hzero_length]; decide)
       intro w2 hB hg
       have hh2 : w2.cell? ⟨g, 72, none⟩ = some (.int .u64 n) := by
         rw [((h3a.alloc (.cells hzero.toArray 108)).grown hg (by intro e; injection e; omega)).cell]
         exact H72.out))
  have hR2 : Blk w2 w.heap.size 36 (zb 32) := ((Blk.new w 36 (zb 32)).alloc (.cells hzero.toArray 108)).grown hg (by intro e; injection e; omega)
  have hb2 : Below w.heap.size w w2 := (below2 _ _ _).trans (below_of_grown hg (by omega) (by rw [size2]; omega))
  have hG2 := hG.keep hb2 (Nat.le_refl _)
  have hB' := hB.cast (overV_all _ _ (by rw [HL.out, hzero_length]))
  rw [HC.out] at hB'
  have hE2 : HashAt w2 (w.heap.size + 1) xs := ⟨rest, h1, h2, hB', by omega, by omega⟩
  have hz2 : w.heap.size + 2 ≤ w2.heap.size := by have := hg.size; rw [size2] at this; exact this
  clear hB hB' hg hh2 h3 h3a ho HR hG
  refine (padding_any n w2 (by omega)).mono ?_
  rintro e w3 ⟨b, m, c, rfl, hY, hb3, hbl⟩
  have hml : m ≤ 72 := by rw [← hY.len, padBehind_length]; unfold blanks; omega
  have hE3 := hE2.keep hb3 hE2.lt
  have hG3 := hG2.keep hb3 (Nat.le_refl _)
  have hR3 := hR2.keep hb3 hR2.lt
  have hz3 := hb3.size
  go_wp2_with fail
  refine (write_any (w.heap.size + 1) xs b m c (padBehind n) w3 hE3 hG3 hY (padBehind_range n) (fun x hx _ => by have := hbl x hx; omega) (by rw [← HN.out]; omega)).mono ?_
  rintro e w4 ⟨rfl, hE4, hg4⟩
  have hG4 := hE3.far hG3 hg4
  have hR4 := hR3.grown hg4 (by intro e; injection e; omega)
  have hb4 : Below w.heap.size w w4 := (hb2.trans (hb3.mono (by omega))).trans (below_of_grown hg4 (by omega) (by omega))
  have hz4 := hg4.size
  have hpad : xs ++ padBehind n = padded xs := by unfold padded; rw [HN.out]
  rw [hpad] at hE4
  obtain ⟨rest4, q1, q2, q3, q4⟩ := hE4
  obtain ⟨S, hS⟩ : ∃ S, S = chain8 (padded xs) ((padded xs).length / 64) := ⟨_, rfl⟩
  rw [← hS] at q3
  have okS : ∀ x ∈ S.list, 0 ≤ x ∧ x < 4294967296 := by rw [hS]; exact S8.ok_range (chain8_ok _ _)
  have FIN := Lib.hid (show bytesOf S.list = shaSum xs by rw [hS]; rfl)
  have hSI : ∀ w', Below w4.heap.size w4 w' → Ints .u32 w' (some ⟨w.heap.size + 1, 0, none⟩) 8 8 S.list := fun w' hb => by
    have q3' := q3.keep hb q3.lt
    refine Ints.of_blk q3' rfl (Nat.le_refl _) (fun i hi => ?_)
    exact hcells_state S rest4 _ i _ (getElem?_mapInt .u32 S.list i hi)
  have HSI := Lib.hid hSI
  have hz : w.heap.size + 2 ≤ w4.heap.size := by omega
  obtain ⟨out, hout⟩ : ∃ out, out = (shaSum xs).map (Value.int .u8) := ⟨_, rfl⟩
  have hol : out.length = 32 := by rw [hout, List.length_map, shaSum_length]
  have HO := Lib.hid hout
  have HOL := Lib.hid hol
  have HI : IsRow Tryd.prog 36 out.length := by rw [hol]; exact rowId
  have HO1 := Lib.hid (show ∀ v ∈ out, v.oneCell' = true by rw [hout]; exact ints_oneCell' _ _)
  have HOF := Lib.hid (show 0 + out.length ≤ (zb 32).length by rw [hol]; decide)
  clear hout hol
  clear hSI hS hpad q1 q2 hE3 hG3 hR3 hz3 hE2 hG2 hR2 hb2 hz2 hb3 hg4 hz4 hY hbl
  go_wp2_with ((with_reducible refine wpList_alloc_blk rfl 36 rfl zeroId ?_))
  go_region_law (first
    | (refine step_copy_fits rfl (.tmp 17) (.tmp 20) 27 27 rfl 5 Tryd.underlying27 sizeU8 rfl rfl hI6 CF ?_; intro w7 hI7 hg7)
    | (go_simp
       go_at_call 67
       refine (bytes_any _ 8 8 S.list _ (HSI.out _ (((Below.refl _ _).alloc (Nat.le_refl _) _).drew)) okS (by decide)).mono ?_
       rintro e w6 ⟨b6, m6, c6, rfl, hY6, hb6⟩
       have hm6 : m6 = 32 := by rw [← hY6.len, bytesOf_length]; rfl
       subst hm6
       rw [FIN.out] at hY6
       have hI6 : Blk w6 w4.heap.size 36 (zb 32) := Blk.keep ((Blk.new w4 36 (zb 32)).drew) hb6 (by show w4.heap.size < (w4.alloc _).heap.size; rw [size1]; omega)
       have CF : CopyFits w6 (some ⟨w4.heap.size, 0, none⟩) b6 32 32 w4.heap.size 0 (zb 32).length (((shaSum xs).take 32).map (Value.int .u8)) := hY6.copyFits rfl (fun _ => rfl) (by decide)))
  have hI8 : Blk w7 w4.heap.size 36 out := hI7.cast (by rw [List.take_of_length_le (by rw [shaSum_length]; omega), ← HO.out]; exact overV_all _ _ (by rw [HOL.out]; rfl))
  have hR6 : Blk w6 w.heap.size 36 (zb 32) := Blk.keep ((hR4.alloc (.cells (zb 32).toArray 36)).drew) hb6 (by show w.heap.size < (w4.alloc _).heap.size; rw [size1]; omega)
  have hR7 := hR6.grown hg7 (by intro e; injection e; omega)
  have hb6' : Below w4.heap.size w4 w6 := (((Below.refl _ _).alloc (Nat.le_refl _) _).drew).trans (hb6.mono (by show w4.heap.size ≤ (w4.alloc _).heap.size; rw [size1]; omega))
  have hb7 : Below w.heap.size w w7 := (hb4.trans (hb6'.mono hb4.size)).trans (below_of_grown hg7 hb4.size (by have := hb6.size; simp at this; omega))
  clear hI7 CF hI6 hY6 hR6 hb6 hb6' hg7
  go_wp2_with (first
    | ((with_reducible refine wpList_load_blk rfl 36 (.tmp 4) rfl ?_ hI8 HI rfl ?_); rfl)
    | ((with_reducible refine wpList_store_part rfl 36 (.tmp 2) (.tmp 22) rfl ?_ ?_ hR7 HI HOF.out HO1.out ?_); rfl; rfl; intro w9 hR9 hg9))
  have hR9' := hR9.cast (overV_all _ _ (by rw [HOL.out]; rfl))
  refine bodyPost_ret (results_blk rfl rfl hR9' HI) rfl ?_
  exact ⟨by rw [HO.out], hb7.trans (below_of_grown hg9 (Nat.le_refl _) hR7.lt)⟩
end Go.Proofs.YtcfachgfgogllaaDoor
