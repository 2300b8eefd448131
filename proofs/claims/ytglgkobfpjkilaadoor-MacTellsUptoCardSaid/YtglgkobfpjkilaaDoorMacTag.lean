/-
  What package mac's tag comes to: the tag of what two hashes were told, and of all parts behind the first. Conditions: bytes are numbers from 0 to 255, fewer than 2^32 - 4096 of them; the package's variables hold the constants and the starts.
-/
import Derived.Test.YtglgkobfpjkilaaDoorMacBy
namespace Go.Proofs.YtglgkobfpjkilaaDoor
open Go.RowKit

theorem parts_at {w wr : World} {a : Option Addr} {n cap k : Nat} {ps : List (List Int)} (hP : Parts w a n cap ps) (hb : Below w.heap.size w wr) (hk : k < n) :
    ∃ b off A m c, a = some ⟨b, off, none⟩ ∧ wr.cell? ⟨b, off + k, none⟩ = some (.slice A m c) ∧ Ints .u8 wr A m c (ps.getD k []) ∧ (∀ x, A = some x → 0 < m → x.block < w.heap.size) := by
  obtain ⟨b, off, rfl, hc⟩ := hP.at (by omega)
  obtain ⟨A, m, c, hck, hI⟩ := hc k hk
  exact ⟨b, off, A, m, c, rfl, by rw [hb.cell (World.block_lt_of_cell? w _ hck)]; exact hck, hI.keep hb, hI.isIn.2⟩

set_option maxRecDepth 100000 in
set_option maxHeartbeats 1600000 in
theorem tag_any (g1 g2 : Nat) (xs ys : List Int) (a : Option Addr) (n cap : Nat) (ps : List (List Int)) (w : World) (hG : Glob w) (h1 : HashAt w g1 xs) (h2 : HashAt w g2 ys) (hP : Parts w a n cap ps) (hr : ∀ p ∈ ps, ∀ x ∈ p, 0 ≤ x ∧ x < 256) (ht : xs.length + ps.flatten.length ≤ 4294967168) (hn : n ≤ 4294967296) (hy : ys.length ≤ 4294960000) :
    Calls Tryd.prog 18 #[.agg #[.pointer (some ⟨g1, 0, none⟩), .pointer (some ⟨g2, 0, none⟩)], .slice a n cap] w fun e w' => e = .returned (.agg ((shaSum (ys ++ shaSum (xs ++ ps.flatten))).map (Value.int .u8)).toArray) ∧ Below w.heap.size w w' := by
  have hl := Lib.hid hP.len
  have b0 := below2 w (.cells #[.pointer (some ⟨g1, 0, none⟩), .pointer (some ⟨g2, 0, none⟩)] 41) (.cells (zb 32).toArray 27)
  have K0 : Blk ((w.alloc (.cells #[.pointer (some ⟨g1, 0, none⟩), .pointer (some ⟨g2, 0, none⟩)] 41)).alloc (.cells (zb 32).toArray 27)) w.heap.size 41 [.pointer (some ⟨g1, 0, none⟩), .pointer (some ⟨g2, 0, none⟩)] := (Blk.new w 41 [.pointer (some ⟨g1, 0, none⟩), .pointer (some ⟨g2, 0, none⟩)]).alloc _
  have R0 : Blk ((w.alloc (.cells #[.pointer (some ⟨g1, 0, none⟩), .pointer (some ⟨g2, 0, none⟩)] 41)).alloc (.cells (zb 32).toArray 27)) (w.heap.size + 1) 27 (zb 32) := Blk.new1 w _ _ (zb 32)
  go_enter Tryd.func18, Tryd.ntmps18
  go_wp2_with (with_reducible refine wpList_alloc_blk rfl 27 rfl zeroId ?_)
  obtain ⟨w1, hw1⟩ : ∃ w1, w1 = ((w.alloc (.cells #[.pointer (some ⟨g1, 0, none⟩), .pointer (some ⟨g2, 0, none⟩)] 41)).alloc (.cells (zb 32).toArray 27)) := ⟨_, rfl⟩
  rw [← hw1] at b0 K0 R0
  rw [← hw1]
  clear hw1
  have hS : Below w1.heap.size w1 w1.drew := Below.drew (Below.refl _ _)
  have CK := Lib.hid (fun w' (q : Below w1.heap.size w1 w') => (show w'.cell? ⟨w.heap.size, 0, none⟩ = some (.pointer (some ⟨g1, 0, none⟩)) ∧ w'.cell? ⟨w.heap.size, 1, none⟩ = some (.pointer (some ⟨g2, 0, none⟩)) from ⟨(K0.keep q K0.lt).cell 0, (K0.keep q K0.lt).cell 1⟩))
  have C1 := Lib.hid (fun w' (q : Below w1.heap.size w1 w') => clone_any g1 xs w' (h1.keep (b0.trans (q.mono b0.size)) h1.lt))
  have C2 := Lib.hid (fun w' (q : Below w1.heap.size w1 w') => clone_any g2 ys w' (h2.keep (b0.trans (q.mono b0.size)) h2.lt))
  go_wp2_with fail
  refine region_seqS (fun w' => Below w1.heap.size w1 w') (by kernel_rfl) hS ?_
  simp only [pairs, Nat.reduceAdd]
  repeat (first
    | (refine SeqS.take (v := ?_) (by first | assumption | trivial) (by kernel_rfl) (by decide +kernel) (by decide +kernel) (Or.inl ⟨by rfl, ?_⟩) ?_
       rotate_left
       focus
         intro w' hb'
         go_simp
         with_reducible rfl
       simp only [Act.put, List.setIfInBounds_toArray, List.set_cons_zero, List.set_cons_succ])
    | (refine SeqS.take (v := ?_) (by first | assumption | trivial) (by kernel_rfl) (by decide +kernel) (by decide +kernel) (Or.inl ⟨by rfl, ?_⟩) ?_
       rotate_left
       focus
         intro w' hb'
         have ck := CK.out w' hb'; have c0 := ck.1; have c1 := ck.2; clear ck
         go_simp
         with_reducible rfl
       simp only [Act.put, List.setIfInBounds_toArray, List.set_cons_zero, List.set_cons_succ])
    | (refine SeqS.take1 (v := ?_) (by first | assumption | trivial) (by kernel_rfl) (by decide +kernel) (by decide +kernel) (Or.inl ⟨by rfl, ?_⟩) ?_
       rotate_left
       focus
         intro w' hb'
         go_simp
         with_reducible rfl
       simp only [Act.put, List.setIfInBounds_toArray, List.set_cons_zero, List.set_cons_succ])
    | (refine SeqS.take1 (v := ?_) (by first | assumption | trivial) (by kernel_rfl) (by decide +kernel) (by decide +kernel) (Or.inl ⟨by rfl, ?_⟩) ?_
       rotate_left
       focus
         intro w' hb'
         have ck := CK.out w' hb'; have c0 := ck.1; have c1 := ck.2; clear ck
         go_simp
         with_reducible rfl
       simp only [Act.put, List.setIfInBounds_toArray, List.set_cons_zero, List.set_cons_succ])
    | (refine SeqS.take2 (v := ?_) (by first | assumption | trivial) (by kernel_rfl) (by decide +kernel) (by decide +kernel) (Or.inl ⟨by rfl, ?_⟩) ?_
       rotate_left
       focus
         intro w' hb'
         go_simp
         with_reducible rfl
       simp only [Act.put, List.setIfInBounds_toArray, List.set_cons_zero, List.set_cons_succ])
    | (refine SeqS.take2 (v := ?_) (by first | assumption | trivial) (by kernel_rfl) (by decide +kernel) (by decide +kernel) (Or.inl ⟨by rfl, ?_⟩) ?_
       rotate_left
       focus
         intro w' hb'
         have ck := CK.out w' hb'; have c0 := ck.1; have c1 := ck.2; clear ck
         go_simp
         with_reducible rfl
       simp only [Act.put, List.setIfInBounds_toArray, List.set_cons_zero, List.set_cons_succ]))
  refine SeqS.alone (by decide +kernel) (by rfl) (fun K hK => ?_)
  go_simp
  go_at_call 24
  refine (C1.out _ hS).mono ?_
  rintro e w2 ⟨rfl, X2, b2⟩
  go_simp
  have S2 : Below w1.heap.size w1 w2 := hS.trans (b2.mono hS.size)
  refine hK _ _ S2 ?_
  clear hK K
  repeat (first
    | (refine SeqS.take (v := ?_) (by first | assumption | trivial) (by kernel_rfl) (by decide +kernel) (by decide +kernel) (Or.inl ⟨by rfl, ?_⟩) ?_
       rotate_left
       focus
         intro w' hb'
         go_simp
         with_reducible rfl
       simp only [Act.put, List.setIfInBounds_toArray, List.set_cons_zero, List.set_cons_succ])
    | (refine SeqS.take (v := ?_) (by first | assumption | trivial) (by kernel_rfl) (by decide +kernel) (by decide +kernel) (Or.inl ⟨by rfl, ?_⟩) ?_
       rotate_left
       focus
         intro w' hb'
         have ck := CK.out w' hb'; have c0 := ck.1; have c1 := ck.2; clear ck
         go_simp
         with_reducible rfl
       simp only [Act.put, List.setIfInBounds_toArray, List.set_cons_zero, List.set_cons_succ])
    | (refine SeqS.take1 (v := ?_) (by first | assumption | trivial) (by kernel_rfl) (by decide +kernel) (by decide +kernel) (Or.inl ⟨by rfl, ?_⟩) ?_
       rotate_left
       focus
         intro w' hb'
         go_simp
         with_reducible rfl
       simp only [Act.put, List.setIfInBounds_toArray, List.set_cons_zero, List.set_cons_succ])
    | (refine SeqS.take1 (v := ?_) (by first | assumption | trivial) (by kernel_rfl) (by decide +kernel) (by decide +kernel) (Or.inl ⟨by rfl, ?_⟩) ?_
       rotate_left
       focus
         intro w' hb'
         have ck := CK.out w' hb'; have c0 := ck.1; have c1 := ck.2; clear ck
         go_simp
         with_reducible rfl
       simp only [Act.put, List.setIfInBounds_toArray, List.set_cons_zero, List.set_cons_succ])
    | (refine SeqS.take2 (v := ?_) (by first | assumption | trivial) (by kernel_rfl) (by decide +kernel) (by decide +kernel) (Or.inl ⟨by rfl, ?_⟩) ?_
       rotate_left
       focus
         intro w' hb'
         go_simp
         with_reducible rfl
       simp only [Act.put, List.setIfInBounds_toArray, List.set_cons_zero, List.set_cons_succ])
    | (refine SeqS.take2 (v := ?_) (by first | assumption | trivial) (by kernel_rfl) (by decide +kernel) (by decide +kernel) (Or.inl ⟨by rfl, ?_⟩) ?_
       rotate_left
       focus
         intro w' hb'
         have ck := CK.out w' hb'; have c0 := ck.1; have c1 := ck.2; clear ck
         go_simp
         with_reducible rfl
       simp only [Act.put, List.setIfInBounds_toArray, List.set_cons_zero, List.set_cons_succ]))
  refine SeqS.alone (by decide +kernel) (by rfl) (fun K hK => ?_)
  go_simp
  go_at_call 24
  refine (C2.out _ S2).mono ?_
  rintro e w3 ⟨rfl, Y3, b3⟩
  go_simp
  have S3 : Below w1.heap.size w1 w3 := S2.trans (b3.mono S2.size)
  refine hK _ _ S3 ?_
  clear hK K
  repeat (first
    | (refine SeqS.take (v := ?_) (by first | assumption | trivial) (by kernel_rfl) (by decide +kernel) (by decide +kernel) (Or.inl ⟨by rfl, ?_⟩) ?_
       rotate_left
       focus
         intro w' hb'
         go_simp
         with_reducible rfl
       simp only [Act.put, List.setIfInBounds_toArray, List.set_cons_zero, List.set_cons_succ])
    | (refine SeqS.take1 (v := ?_) (by first | assumption | trivial) (by kernel_rfl) (by decide +kernel) (by decide +kernel) (Or.inl ⟨by rfl, ?_⟩) ?_
       rotate_left
       focus
         intro w' hb'
         go_simp
         with_reducible rfl
       simp only [Act.put, List.setIfInBounds_toArray, List.set_cons_zero, List.set_cons_succ])
    | (refine SeqS.take2 (v := ?_) (by first | assumption | trivial) (by kernel_rfl) (by decide +kernel) (by decide +kernel) (Or.inl ⟨by rfl, ?_⟩) ?_
       rotate_left
       focus
         intro w' hb'
         go_simp
         with_reducible rfl
       simp only [Act.put, List.setIfInBounds_toArray, List.set_cons_zero, List.set_cons_succ]))
  refine SeqS.done (by decide +kernel) ?_
  rw [show w1.drew.heap.size = w1.heap.size from rfl] at X2 b2
  have hz : w.heap.size + 1 < w1.heap.size := R0.lt
  have X3 := X2.keep b3 X2.lt
  have R3 := R0.keep S3 R0.lt
  have hxy : w1.heap.size ≠ w2.heap.size := by have := X2.lt; omega
  have hx1 : w1.heap.size ≠ w.heap.size + 1 := by omega
  have hy1 : w2.heap.size ≠ w.heap.size + 1 := by have := X2.lt; omega
  have hy0 : w.heap.size ≤ w2.heap.size := by have := X2.lt; omega
  have hw3 : Below w.heap.size w w3 := b0.trans (S3.mono b0.size)
  obtain ⟨gy, hgy⟩ : ∃ gy, gy = w2.heap.size := ⟨_, rfl⟩
  rw [← hgy] at Y3 hxy hy1 hy0
  rw [← hgy]
  obtain ⟨gx, hgx⟩ : ∃ gx, gx = w1.heap.size := ⟨_, rfl⟩
  rw [← hgx] at X3 hxy hx1 hz
  rw [← hgx]
  clear hgx hgy X2 b2 b3 S2 S3 hS CK C1 C2 b0 K0 R0 h1 h2
  go_wp2_with fail
  go_loopw [18] (fun i wr => ∃ k : Nat, k ≤ n ∧ i = .int .i64 k ∧ HashAt wr gx (xs ++ (ps.take k).flatten) ∧ HashAt wr gy ys ∧ Blk wr (w.heap.size + 1) 27 (zb 32) ∧ Below w.heap.size w wr) (fun i _ => n - (intOf i).toNat)
  case atStart => exact ⟨0, Nat.zero_le _, rfl, by simpa using X3, Y3, R3, hw3⟩
  case round =>
    obtain ⟨k, hk, rfl, hX, hY, hR, hbr⟩ := hrel
    clear X3 Y3 R3 hw3
    have hGr := hG.keep hbr (Nat.le_refl _)
    by_cases hlt : k < n
    · obtain ⟨b, off, A, m, c, rfl, hck, hI, hin⟩ := parts_at hP hbr hlt
      have SN := Lib.hid (flatten_snoc ps k (by rw [hl.out]; exact hlt))
      have hlen := Lib.hid (show (xs ++ (ps.take k).flatten).length + m ≤ 4294967296 by
        have h1 := flatten_take_le ps (k + 1)
        rw [SN.out, List.length_append, hI.len] at h1
        rw [List.length_append]
        omega)
      have hrk := Lib.hid (getD_mem_range hr k)
      have HI := Lib.hid hI; have HIN := Lib.hid hin
      clear hI hin
      go_wp2_with fail
      refine (write_any gx _ A m c _ wr hX hGr HI.out hrk.out (fun x hx hm => by have := HIN.out x hx hm; omega) hlen.out).mono ?_
      rintro e w4 ⟨rfl, hX4, hg4⟩
      have hY4 := hY.grown hg4 (fun e => hxy e.symm)
      have hR4 := hR.grown hg4 (by intro e; injection e with e; exact hx1 e.symm)
      have hb4 : Below w.heap.size w w4 := hbr.trans (below_of_grown hg4 (by omega) hX.lt)
      go_wp2
      go_roundw
      case rel => exact ⟨k + 1, by omega, by go_num, by rw [SN.out, ← List.append_assoc]; exact hX4, hY4, hR4, hb4⟩
      case measure => simp [intOf]; omega
    · obtain rfl : k = n := by omega
      rw [List.take_of_length_le (by rw [hl.out]; exact Nat.le_refl _)] at hX
      have hge : (k : Int) ≤ (k : Int) := Int.le_refl _
      go_wp2_with fail
      refine (hsum_any gx (xs ++ ps.flatten) wr hX hGr (by rw [List.length_append]; exact ht)).mono ?_
      rintro e w5 ⟨rfl, hb5⟩
      obtain ⟨IN, hIN⟩ : ∃ IN, IN = shaSum (xs ++ ps.flatten) := ⟨_, rfl⟩
      rw [← hIN]
      have hINl : IN.length = 32 := by rw [hIN, shaSum_length]
      have hINr : ∀ x ∈ IN, 0 ≤ x ∧ x < 256 := by rw [hIN]; exact shaSum_range _
      obtain ⟨Z, hZ⟩ : ∃ Z, Z = IN.map (Value.int .u8) := ⟨_, rfl⟩
      have hZl : Z.length = 32 := by rw [hZ, List.length_map, hINl]
      rw [← hZ]
      have HZ := Lib.hid hZ; have HZL := Lib.hid hZl; have HIL := Lib.hid hINl; have HIR := Lib.hid hINr; have HIN := Lib.hid hIN
      have HI : IsRow Tryd.prog 27 Z.length := by rw [hZl]; exact rowId
      have HO1 := Lib.hid (show ∀ v ∈ Z, v.oneCell' = true by rw [hZ]; exact ints_oneCell' _ _)
      have HOF := Lib.hid (show 0 + Z.length ≤ (zb 32).length by rw [hZl]; decide)
      have hY5 := hY.keep hb5 hY.lt
      have hR5 := hR.keep hb5 hR.lt
      have hw5 : Below w.heap.size w w5 := hbr.trans (hb5.mono hbr.size)
      clear hZ hZl hINl hINr hIN hX hY hR hbr hb5 hGr hlt hge hk
      go_wp2_with ((with_reducible refine wpList_alloc_blk rfl 27 rfl zeroId ?_)
                   refine wpList_store_part (g := w5.heap.size) (off := 0) (t := 27) (cur := zb 32) (cs := Z) rfl 27 (.tmp 9) (.tmp 27) rfl ?_ ?_ (Blk.new w5 _ (zb 32)) HI ?_ HO1.out ?_
                   rfl
                   rfl
                   exact HOF.out
                   intro w6 hZ' hg6)
      have B6 := hZ'.cast (overV_all _ _ (by rw [HZL.out]; rfl))
      have hb6 : Below w5.heap.size w5 w6 := (below1 w5 _).trans (below_of_grown hg6 (Nat.le_refl _) (by rw [size1]; omega))
      have hY6 := hY5.keep hb6 hY5.lt
      have hR6 := hR5.keep hb6 hR5.lt
      have hw6 : Below w.heap.size w w6 := hw5.trans (hb6.mono hw5.size)
      have I6 : Ints .u8 w6 (some ⟨w5.heap.size, 0, none⟩) 32 32 IN := Ints.of_blk B6 HIL.out (Nat.le_refl _) (fun i hi => by rw [HZ.out, Nat.zero_add]; exact getElem?_mapInt _ _ _ (by rw [HIL.out]; exact hi))
      have G6 := hG.keep hw6 (Nat.le_refl _)
      have hny : w5.heap.size ≠ gy := by have := hY5.lt; omega
      clear hZ' hg6 hb6 hY5 hR5 hw5 B6
      go_wp2_with fail
      refine (write_any gy ys _ 32 32 IN w6 hY6 G6 I6 HIR.out (fun x hx _ => by injection hx with hx; subst hx; exact hny) (by omega)).mono ?_
      rintro e w7 ⟨rfl, hY7, hg7⟩
      have hR7 := hR6.grown hg7 (by intro e; injection e with e; exact hy1 e.symm)
      have hw7 : Below w.heap.size w w7 := hw6.trans (below_of_grown hg7 hy0 hY6.lt)
      have G7 := hG.keep hw7 (Nat.le_refl _)
      clear hY6 G6 I6 hg7 hw6 hR6
      go_wp2_with fail
      refine (hsum_any gy (ys ++ IN) w7 hY7 G7 (by rw [List.length_append, HIL.out]; omega)).mono ?_
      rintro e w8 ⟨rfl, hb8⟩
      have hR8 := hR7.keep hb8 hR7.lt
      have hw8 : Below w.heap.size w w8 := hw7.trans (hb8.mono hw7.size)
      obtain ⟨OUT, hOUT⟩ : ∃ X, X = (shaSum (ys ++ IN)).map (Value.int .u8) := ⟨_, rfl⟩
      have hOl : OUT.length = 32 := by rw [hOUT, List.length_map, shaSum_length]
      rw [← hOUT]
      have HOUT := Lib.hid hOUT
      have HJ : IsRow Tryd.prog 27 OUT.length := by rw [hOl]; exact rowId
      have HP1 := Lib.hid (show ∀ v ∈ OUT, v.oneCell' = true by rw [hOUT]; exact ints_oneCell' _ _)
      have HPF := Lib.hid (show 0 + OUT.length ≤ (zb 32).length by rw [hOl]; decide)
      have HOL := Lib.hid hOl
      clear hOUT hOl hY7 G7 hb8 hR7 hw7
      go_wp2_with ((with_reducible refine wpList_store_part rfl 27 (.tmp 4) (.tmp 32) rfl ?_ ?_ hR8 HJ HPF.out HP1.out ?_); rfl; rfl; intro w9 hR9 hg9)
      have hR9' := hR9.cast (overV_all _ _ (by rw [HOL.out]; rfl))
      (try simp only [Exit.inBlock, Exit.then])
      refine bodyPost_ret (results_blk rfl rfl hR9' HJ) rfl ?_
      exact ⟨by rw [HOUT.out, HIN.out], hw8.trans (below_of_grown hg9 (by omega) hR8.lt)⟩
end Go.Proofs.YtglgkobfpjkilaaDoor
