/-
  The stream's block of a number, and its byte at a place: what the calls come to; the stream's own block and new memory are written. Conditions: numbers below 2^64, round keys' bytes below 256.
-/
import Derived.Test.YtclcnngpgbdjgaaStreamPlain
import Derived.Test.YtclcnngpgbdjgaaStreamCi
import Derived.Test.YtclcnngpgbdjgaaSeqS
import Derived.Test.YtclcnngpgbdjgaaSteps
import Derived.Test.YtclcnngpgbdjgaaCipherExp
namespace Go.Proofs.Ytclcnngpgbdjgaa
open Go.RowKit

theorem st_ci {w : World} {g : Nat} {F : Nat → Nat} {n p : Nat} (h : Blk w g 52 (stCells F n p)) : CiR w g 52 F (.int .u64 (n : Int) :: (rowN 16 (enc (keyAt F) (ctr n)) ++ [.int .u64 (p : Int), .bool true])) := h
theorem st_blk {w : World} {g : Nat} {F : Nat → Nat} {n p : Nat} (h : Blk w g 52 (stCells F n p)) : w.rangeAt g 755 (rowN 16 (enc (keyAt F) (ctr n))) := by
  refine Blk.range h 755 _ fun j v hj => ?_
  by_cases h16 : j < 16
  · rw [rowN_at 16 _ j h16] at hj
    rw [stCells_blk _ _ _ _ h16]
    exact hj
  · rw [List.getElem?_eq_none (by rw [rowN_len]; omega)] at hj
    cases hj
theorem st_next (F : Nat → Nat) (n m p : Nat) : overV ((stCells F n p).set 754 (.int .u64 (m : Int))) 755 (rowN 16 (enc (keyAt F) (ctr m))) = stCells F m p := by
  have h1 : (stCells F n p).set 754 (.int .u64 (m : Int)) = (ciCells F sb bk true true ++ [.int .u64 (m : Int)]) ++ (rowN 16 (enc (keyAt F) (ctr n)) ++ [.int .u64 (p : Int), .bool true]) := by
    unfold stCells
    rw [List.set_append_right _ _ (by rw [ciCells_len]; exact Nat.le_refl _), ciCells_len]
    simp
  rw [h1]
  have hl : (ciCells F sb bk true true ++ [Value.int .u64 (m : Int)]).length = 755 := by rw [List.length_append, ciCells_len]; rfl
  unfold overV
  rw [rowN_len, List.take_append_of_le_length (by rw [hl]; exact Nat.le_refl _), List.take_of_length_le (by rw [hl]; exact Nat.le_refl _), List.drop_append, hl, List.drop_of_length_le (by rw [hl]; decide), List.nil_append,
    show 755 + 16 - 755 = 16 from rfl, List.drop_append, rowN_len, List.drop_of_length_le (by rw [rowN_len]; exact Nat.le_refl _), List.nil_append]
  simp [stCells]

set_option maxRecDepth 100000 in
set_option maxHeartbeats 1000000 in
theorem num_any (g : Nat) (F : Nat → Nat) (p m : Nat) (w : World) (hF : By F) (h : StAt w g F p) (hm : m < 18446744073709551616) :
    Calls Try.prog 21 #[.pointer (some ⟨g, 0, none⟩), .int .u64 (m : Int)] w fun e w' => e = .returned (.agg (rowN 16 (enc (keyAt F) (ctr m))).toArray) ∧ StAt w' g F p ∧ w.grownBy w' (some g) := by
  obtain ⟨n, hn, hS⟩ := h
  have hn := Lib.hid hn
  have hm := Lib.hid hm
  have hnum : ∀ o, (w.alloc o).cell? ⟨g, 754, none⟩ = some (.int .u64 (n : Int)) := fun o => by rw [(hS.alloc o).cell, stCells_num]
  go_enter Try.func21, Try.ntmps21
  have hgl := hS.lt
  have hr := Blk.new w 42 (rowN 16 zf)
  have hS1 := hS.alloc (.cells (rowN 16 zf).toArray 42)
  have hB1 := below1 w (.cells (rowN 16 zf).toArray 42)
  by_cases e : m = n
  · subst e
    have hrg := st_blk hS1
    go_wp2_with (first
      | (with_reducible refine wpList_alloc_blk rfl 42 rfl zero16 ?_)
      | ((refine wpList_load_part rfl 42 (.tmp 26) rfl ?_ _ hrg (row16 _) ?_); rfl)
      | ((refine wpList_store16 (new := enc (keyAt F) (ctr m)) rfl (.tmp 4) (.tmp 27) rfl ?_ ?_ hr ?_); rfl; rfl; intro w9 hR9 hg9))
    (try simp only [Exit.inBlock, Exit.then])
    refine bodyPost_ret (results_blk rfl rfl hR9 (row16 _)) rfl ?_
    have hB9 : Below w.heap.size w w9 := hB1.trans (below_of_grown hg9 (Nat.le_refl _) hr.lt)
    exact ⟨rfl, ⟨m, hn.out, hS.keep hB9 hgl⟩, grown_of_below hB9 _⟩
  · have hb : ((m : Int) != (n : Int)) = true := by simp; omega
    have hb' : ¬ (m : Int) = (n : Int) := by omega
    go_wp2_with (with_reducible refine wpList_alloc_blk rfl 42 rfl zero16 ?_)
    obtain ⟨W1, hW1⟩ : ∃ W1, w.alloc (.cells (rowN 16 zf).toArray 42) = W1 := ⟨_, rfl⟩
    obtain ⟨r, hrs⟩ : ∃ r, w.heap.size = r := ⟨_, rfl⟩
    change Blk (w.alloc (.cells (rowN 16 zf).toArray 42)) _ _ _ at hr
    rw [hW1, hrs] at hr
    rw [hW1] at hS1
    rw [hrs, hW1] at hB1
    rw [hrs] at hgl
    rw [hW1, hrs]
    clear hnum hW1 e
    obtain ⟨v, hv, hD⟩ := Draws.one W1
    have hr := hD.blk hr
    have hS1 := hD.blk hS1
    have hB1 := hB1.trans (hD.below r)
    have hrs := Lib.hid hrs
    have hgl := Lib.hid hgl
    have hF := Lib.hid hF
    refine region_seqS (fun _ => True) (by kernel_rfl) trivial ?_
    simp only [pairs, Nat.reduceAdd]
    change SeqS _ _ _ _ _ _ _ _ W1.drew
    rw [hv]
    clear hv hD
    repeat (first
      | (refine SeqS.take (v := ?_) (by first | assumption | trivial) (by kernel_rfl) (by decide +kernel) (by decide +kernel) (Or.inl ⟨by rfl, ?_⟩) ?_
         rotate_left
         focus
           intro w' hb'
           go_simp
           with_reducible rfl
         simp only [Act.put, List.setIfInBounds_toArray, List.set_cons_zero, List.set_cons_succ])
      | (refine SeqS.take (v := undef) (by first | assumption | trivial) (by kernel_rfl) (by decide +kernel) (by decide +kernel) (Or.inr ⟨by rfl, rfl⟩) ?_
         simp only [Act.put, List.setIfInBounds_toArray, List.set_cons_zero, List.set_cons_succ])
      | (refine SeqS.take1 (v := ?_) (by first | assumption | trivial) (by kernel_rfl) (by decide +kernel) (by decide +kernel) (Or.inl ⟨by rfl, ?_⟩) ?_
         rotate_left
         focus
           intro w' hb'
           go_simp
           with_reducible rfl
         simp only [Act.put, List.setIfInBounds_toArray, List.set_cons_zero, List.set_cons_succ])
      | (refine SeqS.take1 (v := undef) (by first | assumption | trivial) (by kernel_rfl) (by decide +kernel) (by decide +kernel) (Or.inr ⟨by rfl, rfl⟩) ?_
         simp only [Act.put, List.setIfInBounds_toArray, List.set_cons_zero, List.set_cons_succ])
      | (refine SeqS.take2 (v := ?_) (by first | assumption | trivial) (by kernel_rfl) (by decide +kernel) (by decide +kernel) (Or.inl ⟨by rfl, ?_⟩) ?_
         rotate_left
         focus
           intro w' hb'
           go_simp
           with_reducible rfl
         simp only [Act.put, List.setIfInBounds_toArray, List.set_cons_zero, List.set_cons_succ])
      | (refine SeqS.take2 (v := undef) (by first | assumption | trivial) (by kernel_rfl) (by decide +kernel) (by decide +kernel) (Or.inr ⟨by rfl, rfl⟩) ?_
         simp only [Act.put, List.setIfInBounds_toArray, List.set_cons_zero, List.set_cons_succ])
      | (refine SeqS.take3 (v := ?_) (by first | assumption | trivial) (by kernel_rfl) (by decide +kernel) (by decide +kernel) (Or.inl ⟨by rfl, ?_⟩) ?_
         rotate_left
         focus
           intro w' hb'
           go_simp
           with_reducible rfl
         simp only [Act.put, List.setIfInBounds_toArray, List.set_cons_zero, List.set_cons_succ])
      | (refine SeqS.take3 (v := undef) (by first | assumption | trivial) (by kernel_rfl) (by decide +kernel) (by decide +kernel) (Or.inr ⟨by rfl, rfl⟩) ?_
         simp only [Act.put, List.setIfInBounds_toArray, List.set_cons_zero, List.set_cons_succ]))
    refine SeqS.alone (by decide +kernel) (by rfl) (fun K hK => ?_)
    go_simp
    refine (plain_any m v hm.out).mono ?_
    rintro e v2 ⟨rfl, b2⟩
    have hS2 := hS1.keep b2 hS1.lt
    have hB2 := hB1.trans (b2.mono (Nat.le_of_lt hr.lt))
    have hr2 := hr.keep b2 hr.lt
    clear b2 hS1 hB1 hr
    go_simp
    refine hK _ _ trivial ?_
    clear hK K
    repeat (first
      | (refine SeqS.take (v := ?_) (by first | assumption | trivial) (by kernel_rfl) (by decide +kernel) (by decide +kernel) (Or.inl ⟨by rfl, ?_⟩) ?_
         rotate_left
         focus
           intro w' hb'
           go_simp
           with_reducible rfl
         simp only [Act.put, List.setIfInBounds_toArray, List.set_cons_zero, List.set_cons_succ])
      | (refine SeqS.take (v := undef) (by first | assumption | trivial) (by kernel_rfl) (by decide +kernel) (by decide +kernel) (Or.inr ⟨by rfl, rfl⟩) ?_
         simp only [Act.put, List.setIfInBounds_toArray, List.set_cons_zero, List.set_cons_succ])
      | (refine SeqS.take1 (v := ?_) (by first | assumption | trivial) (by kernel_rfl) (by decide +kernel) (by decide +kernel) (Or.inl ⟨by rfl, ?_⟩) ?_
         rotate_left
         focus
           intro w' hb'
           go_simp
           with_reducible rfl
         simp only [Act.put, List.setIfInBounds_toArray, List.set_cons_zero, List.set_cons_succ])
      | (refine SeqS.take1 (v := undef) (by first | assumption | trivial) (by kernel_rfl) (by decide +kernel) (by decide +kernel) (Or.inr ⟨by rfl, rfl⟩) ?_
         simp only [Act.put, List.setIfInBounds_toArray, List.set_cons_zero, List.set_cons_succ])
      | (refine SeqS.take2 (v := ?_) (by first | assumption | trivial) (by kernel_rfl) (by decide +kernel) (by decide +kernel) (Or.inl ⟨by rfl, ?_⟩) ?_
         rotate_left
         focus
           intro w' hb'
           go_simp
           with_reducible rfl
         simp only [Act.put, List.setIfInBounds_toArray, List.set_cons_zero, List.set_cons_succ])
      | (refine SeqS.take2 (v := undef) (by first | assumption | trivial) (by kernel_rfl) (by decide +kernel) (by decide +kernel) (Or.inr ⟨by rfl, rfl⟩) ?_
         simp only [Act.put, List.setIfInBounds_toArray, List.set_cons_zero, List.set_cons_succ])
      | (refine SeqS.take3 (v := ?_) (by first | assumption | trivial) (by kernel_rfl) (by decide +kernel) (by decide +kernel) (Or.inl ⟨by rfl, ?_⟩) ?_
         rotate_left
         focus
           intro w' hb'
           go_simp
           with_reducible rfl
         simp only [Act.put, List.setIfInBounds_toArray, List.set_cons_zero, List.set_cons_succ])
      | (refine SeqS.take3 (v := undef) (by first | assumption | trivial) (by kernel_rfl) (by decide +kernel) (by decide +kernel) (Or.inr ⟨by rfl, rfl⟩) ?_
         simp only [Act.put, List.setIfInBounds_toArray, List.set_cons_zero, List.set_cons_succ]))
    refine SeqS.alone (by decide +kernel) (by rfl) (fun K hK => ?_)
    go_simp
    refine (tEnc_any g 52 F _ (ctr m) v2 hF.out (ctr_by m) (st_ci hS2)).mono ?_
    rintro e v3 ⟨rfl, b3⟩
    have hS3 := hS2.keep b3 hS2.lt
    have hB3 := hB2.trans (b3.mono (Nat.le_of_lt hr2.lt))
    have hr3 := hr2.keep b3 hr2.lt
    clear b3 hS2 hB2 hr2
    go_simp
    refine hK _ _ trivial ?_
    clear hK K
    repeat (first
      | (refine SeqS.take (v := ?_) (by first | assumption | trivial) (by kernel_rfl) (by decide +kernel) (by decide +kernel) (Or.inl ⟨by rfl, ?_⟩) ?_
         rotate_left
         focus
           intro w' hb'
           go_simp
           with_reducible rfl
         simp only [Act.put, List.setIfInBounds_toArray, List.set_cons_zero, List.set_cons_succ])
      | (refine SeqS.take (v := undef) (by first | assumption | trivial) (by kernel_rfl) (by decide +kernel) (by decide +kernel) (Or.inr ⟨by rfl, rfl⟩) ?_
         simp only [Act.put, List.setIfInBounds_toArray, List.set_cons_zero, List.set_cons_succ])
      | (refine SeqS.take1 (v := ?_) (by first | assumption | trivial) (by kernel_rfl) (by decide +kernel) (by decide +kernel) (Or.inl ⟨by rfl, ?_⟩) ?_
         rotate_left
         focus
           intro w' hb'
           go_simp
           with_reducible rfl
         simp only [Act.put, List.setIfInBounds_toArray, List.set_cons_zero, List.set_cons_succ])
      | (refine SeqS.take1 (v := undef) (by first | assumption | trivial) (by kernel_rfl) (by decide +kernel) (by decide +kernel) (Or.inr ⟨by rfl, rfl⟩) ?_
         simp only [Act.put, List.setIfInBounds_toArray, List.set_cons_zero, List.set_cons_succ])
      | (refine SeqS.take2 (v := ?_) (by first | assumption | trivial) (by kernel_rfl) (by decide +kernel) (by decide +kernel) (Or.inl ⟨by rfl, ?_⟩) ?_
         rotate_left
         focus
           intro w' hb'
           go_simp
           with_reducible rfl
         simp only [Act.put, List.setIfInBounds_toArray, List.set_cons_zero, List.set_cons_succ])
      | (refine SeqS.take2 (v := undef) (by first | assumption | trivial) (by kernel_rfl) (by decide +kernel) (by decide +kernel) (Or.inr ⟨by rfl, rfl⟩) ?_
         simp only [Act.put, List.setIfInBounds_toArray, List.set_cons_zero, List.set_cons_succ])
      | (refine SeqS.take3 (v := ?_) (by first | assumption | trivial) (by kernel_rfl) (by decide +kernel) (by decide +kernel) (Or.inl ⟨by rfl, ?_⟩) ?_
         rotate_left
         focus
           intro w' hb'
           go_simp
           with_reducible rfl
         simp only [Act.put, List.setIfInBounds_toArray, List.set_cons_zero, List.set_cons_succ])
      | (refine SeqS.take3 (v := undef) (by first | assumption | trivial) (by kernel_rfl) (by decide +kernel) (by decide +kernel) (Or.inr ⟨by rfl, rfl⟩) ?_
         simp only [Act.put, List.setIfInBounds_toArray, List.set_cons_zero, List.set_cons_succ]))
    have c3 := hS3.cell 754
    rw [stCells_num] at c3
    have f3 : v3.frozen? ⟨g, 754, none⟩ = false := Blk.frozen hS3 754
    have hS4 := hS3.set 754 (.int .u64 (m : Int))
    have hr4 := hr3.far (p := ⟨g, 754, none⟩) (by have := hgl.out; simp; omega) (.int .u64 (m : Int))
    have hg4 : v3.grownBy (v3.setCell ⟨g, 754, none⟩ (.int .u64 (m : Int))) (some g) := grown_setCell _ _ _ _
    refine SeqS.alone (by decide +kernel) (by rfl) (fun K hK => ?_)
    go_simp
    obtain ⟨v4, hv4⟩ : ∃ v4, v3.setCell ⟨g, 754, none⟩ (.int .u64 (m : Int)) = v4 := ⟨_, rfl⟩
    rw [hv4] at hS4 hr4 hg4 ⊢
    clear hv4 c3 f3 hS3 hr3
    refine hK _ _ trivial ?_
    clear hK K
    repeat (first
      | (refine SeqS.take (v := ?_) (by first | assumption | trivial) (by kernel_rfl) (by decide +kernel) (by decide +kernel) (Or.inl ⟨by rfl, ?_⟩) ?_
         rotate_left
         focus
           intro w' hb'
           go_simp
           with_reducible rfl
         simp only [Act.put, List.setIfInBounds_toArray, List.set_cons_zero, List.set_cons_succ])
      | (refine SeqS.take (v := undef) (by first | assumption | trivial) (by kernel_rfl) (by decide +kernel) (by decide +kernel) (Or.inr ⟨by rfl, rfl⟩) ?_
         simp only [Act.put, List.setIfInBounds_toArray, List.set_cons_zero, List.set_cons_succ])
      | (refine SeqS.take1 (v := ?_) (by first | assumption | trivial) (by kernel_rfl) (by decide +kernel) (by decide +kernel) (Or.inl ⟨by rfl, ?_⟩) ?_
         rotate_left
         focus
           intro w' hb'
           go_simp
           with_reducible rfl
         simp only [Act.put, List.setIfInBounds_toArray, List.set_cons_zero, List.set_cons_succ])
      | (refine SeqS.take1 (v := undef) (by first | assumption | trivial) (by kernel_rfl) (by decide +kernel) (by decide +kernel) (Or.inr ⟨by rfl, rfl⟩) ?_
         simp only [Act.put, List.setIfInBounds_toArray, List.set_cons_zero, List.set_cons_succ])
      | (refine SeqS.take2 (v := ?_) (by first | assumption | trivial) (by kernel_rfl) (by decide +kernel) (by decide +kernel) (Or.inl ⟨by rfl, ?_⟩) ?_
         rotate_left
         focus
           intro w' hb'
           go_simp
           with_reducible rfl
         simp only [Act.put, List.setIfInBounds_toArray, List.set_cons_zero, List.set_cons_succ])
      | (refine SeqS.take2 (v := undef) (by first | assumption | trivial) (by kernel_rfl) (by decide +kernel) (by decide +kernel) (Or.inr ⟨by rfl, rfl⟩) ?_
         simp only [Act.put, List.setIfInBounds_toArray, List.set_cons_zero, List.set_cons_succ])
      | (refine SeqS.take3 (v := ?_) (by first | assumption | trivial) (by kernel_rfl) (by decide +kernel) (by decide +kernel) (Or.inl ⟨by rfl, ?_⟩) ?_
         rotate_left
         focus
           intro w' hb'
           go_simp
           with_reducible rfl
         simp only [Act.put, List.setIfInBounds_toArray, List.set_cons_zero, List.set_cons_succ])
      | (refine SeqS.take3 (v := undef) (by first | assumption | trivial) (by kernel_rfl) (by decide +kernel) (by decide +kernel) (Or.inr ⟨by rfl, rfl⟩) ?_
         simp only [Act.put, List.setIfInBounds_toArray, List.set_cons_zero, List.set_cons_succ]))
    refine SeqS.alone (by decide +kernel) (by rfl) (fun K hK => ?_)
    refine wp_store_part 42 (.tmp 23) (.tmp 19) rfl rfl rfl hS4 (row16 _) (by rw [rowN_len, List.length_set, stCells_len]; decide) (rowN_one 16 _) ?_
    intro v5 hS5 hg5
    rw [st_next] at hS5
    have hr5 := hr4.grown hg5 (by intro e; injection e; have := hgl.out; omega)
    have hgv := grown_trans (grown_trans (grown_of_below (hB3.mono (by have := hrs.out; omega)) (some g)) hg4) hg5
    refine hK _ _ trivial ?_
    clear hK K hS4 hr4 hg4 hg5 hB3
    refine SeqS.done (by decide +kernel) ?_
    have hrg := st_blk hS5
    go_wp2_with (first
      | ((refine wpList_load_part rfl 42 (.tmp 26) rfl ?_ _ hrg (row16 _) ?_); rfl)
      | ((refine wpList_store16 (new := enc (keyAt F) (ctr m)) rfl (.tmp 4) (.tmp 27) rfl ?_ ?_ hr5 ?_); rfl; rfl; intro w9 hR9 hg9))
    (try simp only [Exit.inBlock, Exit.then])
    refine bodyPost_ret (results_blk rfl rfl hR9 (row16 _)) rfl ?_
    refine ⟨rfl, ⟨m, hm.out, hS5.grown hg9 (by intro e; injection e; have := hgl.out; omega)⟩, ?_⟩
    exact ⟨hg9.os.trans hgv.os, hg9.tape.trans hgv.tape, hg9.output.trans hgv.output, Nat.le_trans hgv.size hg9.size, fun i hi hne => (hg9.block i (Nat.lt_of_lt_of_le hi hgv.size) (by intro e; injection e with e; have := hrs.out; omega)).trans (hgv.block i hi hne)⟩
end Go.Proofs.Ytclcnngpgbdjgaa
