/-
  Texts of stages that were proved on their own, joined: StreamNum, StreamNew. Each begins with its own words.
-/
import Derived.Test.YtclcnngpgbdjgaaJLawStreamPlaces0
import Derived.Test.YtclcnngpgbdjgaaJLawStreamPlaces1
import Derived.Test.YtclcnngpgbdjgaaSeqS
import Derived.Test.YtclcnngpgbdjgaaSteps
import Derived.Test.YtclcnngpgbdjgaaCipherExp
import Derived.Test.YtclcnngpgbdjgaaCipherNew
import Derived.Test.YtclcnngpgbdjgaaCipherBuild

/-
  The stream's block of a number, and its byte at a place: what the calls come to; the stream's own block and new memory are written. Conditions: numbers below 2^64, round keys' bytes below 256.
-/
namespace Go.Proofs.Ytclcnngpgbdjgaa
open Go.RowKit

theorem st_ci {w : World} {g : Nat} {F : Nat → Nat} {n p : Nat} (h : Blk w g 52 (stCells F n p)) : CiR w g 52 F (.int .u64 (n : Int) :: (rowN 16 (enc (keyAt F) (ctr n)) ++ [.int .u64 (p : Int), .bool true])) := h
theorem st_blk {w : World} {g : Nat} {F : Nat → Nat} {n p : Nat} (h : Blk w g 52 (stCells F n p)) : w.rangeAt g 755 (rowN 16 (enc (keyAt F) (ctr n))) := by
  refine Blk.range h 755 _ fun j v hj => ?_
  by_cases h16 : j < 16
  · rw [rowN_at 16 _ j h16] at hj
    rw [stCells_blk _ _ _ _ h16]
    exact hj
  · rw [List.getElem?_eq_none (by rw [rowN_len]; omega)] at hj
    cases hj
theorem st_next (F : Nat → Nat) (n m p : Nat) : overV ((stCells F n p).set 754 (.int .u64 (m : Int))) 755 (rowN 16 (enc (keyAt F) (ctr m))) = stCells F m p := by
  have h1 : (stCells F n p).set 754 (.int .u64 (m : Int)) = (ciCells F sb bk true true ++ [.int .u64 (m : Int)]) ++ (rowN 16 (enc (keyAt F) (ctr n)) ++ [.int .u64 (p : Int), .bool true]) := by
    unfold stCells
    rw [List.set_append_right _ _ (by rw [ciCells_len]; exact Nat.le_refl _), ciCells_len]
    simp
  rw [h1]
  have hl : (ciCells F sb bk true true ++ [Value.int .u64 (m : Int)]).length = 755 := by rw [List.length_append, ciCells_len]; rfl
  unfold overV
  rw [rowN_len, List.take_append_of_le_length (by rw [hl]; exact Nat.le_refl _), List.take_of_length_le (by rw [hl]; exact Nat.le_refl _), List.drop_append, hl, List.drop_of_length_le (by rw [hl]; decide), List.nil_append,
    show 755 + 16 - 755 = 16 from rfl, List.drop_append, rowN_len, List.drop_of_length_le (by rw [rowN_len]; exact Nat.le_refl _), List.nil_append]
  simp [stCells]

set_option maxRecDepth 100000 in
set_option maxHeartbeats 1000000 in
theorem num_any (g : Nat) (F : Nat → Nat) (p m : Nat) (w : World) (hF : By F) (h : StAt w g F p) (hm : m < 18446744073709551616) :
    Calls Try.prog 21 #[.pointer (some ⟨g, 0, none⟩), .int .u64 (m : Int)] w fun e w' => e = .returned (.agg (rowN 16 (enc (keyAt F) (ctr m))).toArray) ∧ StAt w' g F p ∧ w.grownBy w' (some g) := by
  obtain ⟨n, hn, hS⟩ := h
  have hn := Lib.hid hn
  have hm := Lib.hid hm
  have hnum : ∀ o, (w.alloc o).cell? ⟨g, 754, none⟩ = some (.int .u64 (n : Int)) := fun o => by rw [(hS.alloc o).cell, stCells_num]
  go_enter Try.func21, Try.ntmps21
  have hgl := hS.lt
  have hr := Blk.new w 42 (rowN 16 zf)
  have hS1 := hS.alloc (.cells (rowN 16 zf).toArray 42)
  have hB1 := below1 w (.cells (rowN 16 zf).toArray 42)
  by_cases e : m = n
  · subst e
    have hrg := st_blk hS1
    go_wp2_with (first
      | (with_reducible refine wpList_alloc_blk rfl 42 rfl zero16 ?_)
      | ((refine wpList_load_part rfl 42 (.tmp 26) rfl ?_ _ hrg (row16 _) ?_); rfl)
      | ((refine wpList_store16 (new := enc (keyAt F) (ctr m)) rfl (.tmp 4) (.tmp 27) rfl ?_ ?_ hr ?_); rfl; rfl; intro w9 hR9 hg9))
    (try simp only [Exit.inBlock, Exit.then])
    refine bodyPost_ret (results_blk rfl rfl hR9 (row16 _)) rfl ?_
    have hB9 : Below w.heap.size w w9 := hB1.trans (below_of_grown hg9 (Nat.le_refl _) hr.lt)
    exact ⟨rfl, ⟨m, hn.out, hS.keep hB9 hgl⟩, grown_of_below hB9 _⟩
  · have hb : ((m : Int) != (n : Int)) = true := by simp; omega
    have hb' : ¬ (m : Int) = (n : Int) := by omega
    go_wp2_with (with_reducible refine wpList_alloc_blk rfl 42 rfl zero16 ?_)
    obtain ⟨W1, hW1⟩ : ∃ W1, w.alloc (.cells (rowN 16 zf).toArray 42) = W1 := ⟨_, rfl⟩
    obtain ⟨r, hrs⟩ : ∃ r, w.heap.size = r := ⟨_, rfl⟩
    change Blk (w.alloc (.cells (rowN 16 zf).toArray 42)) _ _ _ at hr
    rw [hW1, hrs] at hr
    rw [hW1] at hS1
    rw [hrs, hW1] at hB1
    rw [hrs] at hgl
    rw [hW1, hrs]
    clear hnum hW1 e
    obtain ⟨v, hv, hD⟩ := Draws.one W1
    have hr := hD.blk hr
    have hS1 := hD.blk hS1
    have hB1 := hB1.trans (hD.below r)
    have hrs := Lib.hid hrs
    have hgl := Lib.hid hgl
    have hF := Lib.hid hF
    refine region_seqS (fun _ => True) (by kernel_rfl) trivial ?_
    simp only [pairs, Nat.reduceAdd]
    change SeqS _ _ _ _ _ _ _ _ W1.drew
    rw [hv]
    clear hv hD
    repeat (first
      | (refine SeqS.take (v := ?_) (by first | assumption | trivial) (by kernel_rfl) (by decide +kernel) (by decide +kernel) (Or.inl ⟨by rfl, ?_⟩) ?_
         rotate_left
         focus
           intro w' hb'
           go_simp
           with_reducible rfl
         simp only [Act.put, List.setIfInBounds_toArray, List.set_cons_zero, List.set_cons_succ])
      | (refine SeqS.take (v := undef) (by first | assumption | trivial) (by kernel_rfl) (by decide +kernel) (by decide +kernel) (Or.inr ⟨by rfl, rfl⟩) ?_
         simp only [Act.put, List.setIfInBounds_toArray, List.set_cons_zero, List.set_cons_succ])
      | (refine SeqS.take1 (v := ?_) (by first | assumption | trivial) (by kernel_rfl) (by decide +kernel) (by decide +kernel) (Or.inl ⟨by rfl, ?_⟩) ?_
         rotate_left
         focus
           intro w' hb'
           go_simp
           with_reducible rfl
         simp only [Act.put, List.setIfInBounds_toArray, List.set_cons_zero, List.set_cons_succ])
      | (refine SeqS.take1 (v := undef) (by first | assumption | trivial) (by kernel_rfl) (by decide +kernel) (by decide +kernel) (Or.inr ⟨by rfl, rfl⟩) ?_
         simp only [Act.put, List.setIfInBounds_toArray, List.set_cons_zero, List.set_cons_succ])
      | (refine SeqS.take2 (v := ?_) (by first | assumption | trivial) (by kernel_rfl) (by decide +kernel) (by decide +kernel) (Or.inl ⟨by rfl, ?_⟩) ?_
         rotate_left
         focus
           intro w' hb'
           go_simp
           with_reducible rfl
         simp only [Act.put, List.setIfInBounds_toArray, List.set_cons_zero, List.set_cons_succ])
      | (refine SeqS.take2 (v := undef) (by first | assumption | trivial) (by kernel_rfl) (by decide +kernel) (by decide +kernel) (Or.inr ⟨by rfl, rfl⟩) ?_
         simp only [Act.put, List.setIfInBounds_toArray, List.set_cons_zero, List.set_cons_succ])
      | (refine SeqS.take3 (v := ?_) (by first | assumption | trivial) (by kernel_rfl) (by decide +kernel) (by decide +kernel) (Or.inl ⟨by rfl, ?_⟩) ?_
         rotate_left
         focus
           intro w' hb'
           go_simp
           with_reducible rfl
         simp only [Act.put, List.setIfInBounds_toArray, List.set_cons_zero, List.set_cons_succ])
      | (refine SeqS.take3 (v := undef) (by first | assumption | trivial) (by kernel_rfl) (by decide +kernel) (by decide +kernel) (Or.inr ⟨by rfl, rfl⟩) ?_
         simp only [Act.put, List.setIfInBounds_toArray, List.set_cons_zero, List.set_cons_succ]))
    refine SeqS.alone (by decide +kernel) (by rfl) (fun K hK => ?_)
    go_simp
    refine (plain_any m v hm.out).mono ?_
    rintro e v2 ⟨rfl, b2⟩
    have hS2 := hS1.keep b2 hS1.lt
    have hB2 := hB1.trans (b2.mono (Nat.le_of_lt hr.lt))
    have hr2 := hr.keep b2 hr.lt
    clear b2 hS1 hB1 hr
    go_simp
    refine hK _ _ trivial ?_
    clear hK K
    repeat (first
      | (refine SeqS.take (v := ?_) (by first | assumption | trivial) (by kernel_rfl) (by decide +kernel) (by decide +kernel) (Or.inl ⟨by rfl, ?_⟩) ?_
         rotate_left
         focus
           intro w' hb'
           go_simp
           with_reducible rfl
         simp only [Act.put, List.setIfInBounds_toArray, List.set_cons_zero, List.set_cons_succ])
      | (refine SeqS.take (v := undef) (by first | assumption | trivial) (by kernel_rfl) (by decide +kernel) (by decide +kernel) (Or.inr ⟨by rfl, rfl⟩) ?_
         simp only [Act.put, List.setIfInBounds_toArray, List.set_cons_zero, List.set_cons_succ])
      | (refine SeqS.take1 (v := ?_) (by first | assumption | trivial) (by kernel_rfl) (by decide +kernel) (by decide +kernel) (Or.inl ⟨by rfl, ?_⟩) ?_
         rotate_left
         focus
           intro w' hb'
           go_simp
           with_reducible rfl
         simp only [Act.put, List.setIfInBounds_toArray, List.set_cons_zero, List.set_cons_succ])
      | (refine SeqS.take1 (v := undef) (by first | assumption | trivial) (by kernel_rfl) (by decide +kernel) (by decide +kernel) (Or.inr ⟨by rfl, rfl⟩) ?_
         simp only [Act.put, List.setIfInBounds_toArray, List.set_cons_zero, List.set_cons_succ])
      | (refine SeqS.take2 (v := ?_) (by first | assumption | trivial) (by kernel_rfl) (by decide +kernel) (by decide +kernel) (Or.inl ⟨by rfl, ?_⟩) ?_
         rotate_left
         focus
           intro w' hb'
           go_simp
           with_reducible rfl
         simp only [Act.put, List.setIfInBounds_toArray, List.set_cons_zero, List.set_cons_succ])
      | (refine SeqS.take2 (v := undef) (by first | assumption | trivial) (by kernel_rfl) (by decide +kernel) (by decide +kernel) (Or.inr ⟨by rfl, rfl⟩) ?_
         simp only [Act.put, List.setIfInBounds_toArray, List.set_cons_zero, List.set_cons_succ])
      | (refine SeqS.take3 (v := ?_) (by first | assumption | trivial) (by kernel_rfl) (by decide +kernel) (by decide +kernel) (Or.inl ⟨by rfl, ?_⟩) ?_
         rotate_left
         focus
           intro w' hb'
           go_simp
           with_reducible rfl
         simp only [Act.put, List.setIfInBounds_toArray, List.set_cons_zero, List.set_cons_succ])
      | (refine SeqS.take3 (v := undef) (by first | assumption | trivial) (by kernel_rfl) (by decide +kernel) (by decide +kernel) (Or.inr ⟨by rfl, rfl⟩) ?_
         simp only [Act.put, List.setIfInBounds_toArray, List.set_cons_zero, List.set_cons_succ]))
    refine SeqS.alone (by decide +kernel) (by rfl) (fun K hK => ?_)
    go_simp
    refine (tEnc_any g 52 F _ (ctr m) v2 hF.out (ctr_by m) (st_ci hS2)).mono ?_
    rintro e v3 ⟨rfl, b3⟩
    have hS3 := hS2.keep b3 hS2.lt
    have hB3 := hB2.trans (b3.mono (Nat.le_of_lt hr2.lt))
    have hr3 := hr2.keep b3 hr2.lt
    clear b3 hS2 hB2 hr2
    go_simp
    refine hK _ _ trivial ?_
    clear hK K
    repeat (first
      | (refine SeqS.take (v := ?_) (by first | assumption | trivial) (by kernel_rfl) (by decide +kernel) (by decide +kernel) (Or.inl ⟨by rfl, ?_⟩) ?_
         rotate_left
         focus
           intro w' hb'
           go_simp
           with_reducible rfl
         simp only [Act.put, List.setIfInBounds_toArray, List.set_cons_zero, List.set_cons_succ])
      | (refine SeqS.take (v := undef) (by first | assumption | trivial) (by kernel_rfl) (by decide +kernel) (by decide +kernel) (Or.inr ⟨by rfl, rfl⟩) ?_
         simp only [Act.put, List.setIfInBounds_toArray, List.set_cons_zero, List.set_cons_succ])
      | (refine SeqS.take1 (v := ?_) (by first | assumption | trivial) (by kernel_rfl) (by decide +kernel) (by decide +kernel) (Or.inl ⟨by rfl, ?_⟩) ?_
         rotate_left
         focus
           intro w' hb'
           go_simp
           with_reducible rfl
         simp only [Act.put, List.setIfInBounds_toArray, List.set_cons_zero, List.set_cons_succ])
      | (refine SeqS.take1 (v := undef) (by first | assumption | trivial) (by kernel_rfl) (by decide +kernel) (by decide +kernel) (Or.inr ⟨by rfl, rfl⟩) ?_
         simp only [Act.put, List.setIfInBounds_toArray, List.set_cons_zero, List.set_cons_succ])
      | (refine SeqS.take2 (v := ?_) (by first | assumption | trivial) (by kernel_rfl) (by decide +kernel) (by decide +kernel) (Or.inl ⟨by rfl, ?_⟩) ?_
         rotate_left
         focus
           intro w' hb'
           go_simp
           with_reducible rfl
         simp only [Act.put, List.setIfInBounds_toArray, List.set_cons_zero, List.set_cons_succ])
      | (refine SeqS.take2 (v := undef) (by first | assumption | trivial) (by kernel_rfl) (by decide +kernel) (by decide +kernel) (Or.inr ⟨by rfl, rfl⟩) ?_
         simp only [Act.put, List.setIfInBounds_toArray, List.set_cons_zero, List.set_cons_succ])
      | (refine SeqS.take3 (v := ?_) (by first | assumption | trivial) (by kernel_rfl) (by decide +kernel) (by decide +kernel) (Or.inl ⟨by rfl, ?_⟩) ?_
         rotate_left
         focus
           intro w' hb'
           go_simp
           with_reducible rfl
         simp only [Act.put, List.setIfInBounds_toArray, List.set_cons_zero, List.set_cons_succ])
      | (refine SeqS.take3 (v := undef) (by first | assumption | trivial) (by kernel_rfl) (by decide +kernel) (by decide +kernel) (Or.inr ⟨by rfl, rfl⟩) ?_
         simp only [Act.put, List.setIfInBounds_toArray, List.set_cons_zero, List.set_cons_succ]))
    have c3 := hS3.cell 754
    rw [stCells_num] at c3
    have f3 : v3.frozen? ⟨g, 754, none⟩ = false := Blk.frozen hS3 754
    have hS4 := hS3.set 754 (.int .u64 (m : Int))
    have hr4 := hr3.far (p := ⟨g, 754, none⟩) (by have := hgl.out; simp; omega) (.int .u64 (m : Int))
    have hg4 : v3.grownBy (v3.setCell ⟨g, 754, none⟩ (.int .u64 (m : Int))) (some g) := grown_setCell _ _ _ _
    refine SeqS.alone (by decide +kernel) (by rfl) (fun K hK => ?_)
    go_simp
    obtain ⟨v4, hv4⟩ : ∃ v4, v3.setCell ⟨g, 754, none⟩ (.int .u64 (m : Int)) = v4 := ⟨_, rfl⟩
    rw [hv4] at hS4 hr4 hg4 ⊢
    clear hv4 c3 f3 hS3 hr3
    refine hK _ _ trivial ?_
    clear hK K
    repeat (first
      | (refine SeqS.take (v := ?_) (by first | assumption | trivial) (by kernel_rfl) (by decide +kernel) (by decide +kernel) (Or.inl ⟨by rfl, ?_⟩) ?_
         rotate_left
         focus
           intro w' hb'
           go_simp
           with_reducible rfl
         simp only [Act.put, List.setIfInBounds_toArray, List.set_cons_zero, List.set_cons_succ])
      | (refine SeqS.take (v := undef) (by first | assumption | trivial) (by kernel_rfl) (by decide +kernel) (by decide +kernel) (Or.inr ⟨by rfl, rfl⟩) ?_
         simp only [Act.put, List.setIfInBounds_toArray, List.set_cons_zero, List.set_cons_succ])
      | (refine SeqS.take1 (v := ?_) (by first | assumption | trivial) (by kernel_rfl) (by decide +kernel) (by decide +kernel) (Or.inl ⟨by rfl, ?_⟩) ?_
         rotate_left
         focus
           intro w' hb'
           go_simp
           with_reducible rfl
         simp only [Act.put, List.setIfInBounds_toArray, List.set_cons_zero, List.set_cons_succ])
      | (refine SeqS.take1 (v := undef) (by first | assumption | trivial) (by kernel_rfl) (by decide +kernel) (by decide +kernel) (Or.inr ⟨by rfl, rfl⟩) ?_
         simp only [Act.put, List.setIfInBounds_toArray, List.set_cons_zero, List.set_cons_succ])
      | (refine SeqS.take2 (v := ?_) (by first | assumption | trivial) (by kernel_rfl) (by decide +kernel) (by decide +kernel) (Or.inl ⟨by rfl, ?_⟩) ?_
         rotate_left
         focus
           intro w' hb'
           go_simp
           with_reducible rfl
         simp only [Act.put, List.setIfInBounds_toArray, List.set_cons_zero, List.set_cons_succ])
      | (refine SeqS.take2 (v := undef) (by first | assumption | trivial) (by kernel_rfl) (by decide +kernel) (by decide +kernel) (Or.inr ⟨by rfl, rfl⟩) ?_
         simp only [Act.put, List.setIfInBounds_toArray, List.set_cons_zero, List.set_cons_succ])
      | (refine SeqS.take3 (v := ?_) (by first | assumption | trivial) (by kernel_rfl) (by decide +kernel) (by decide +kernel) (Or.inl ⟨by rfl, ?_⟩) ?_
         rotate_left
         focus
           intro w' hb'
           go_simp
           with_reducible rfl
         simp only [Act.put, List.setIfInBounds_toArray, List.set_cons_zero, List.set_cons_succ])
      | (refine SeqS.take3 (v := undef) (by first | assumption | trivial) (by kernel_rfl) (by decide +kernel) (by decide +kernel) (Or.inr ⟨by rfl, rfl⟩) ?_
         simp only [Act.put, List.setIfInBounds_toArray, List.set_cons_zero, List.set_cons_succ]))
    refine SeqS.alone (by decide +kernel) (by rfl) (fun K hK => ?_)
    refine wp_store_part 42 (.tmp 23) (.tmp 19) rfl rfl rfl hS4 (row16 _) (by rw [rowN_len, List.length_set, stCells_len]; decide) (rowN_one 16 _) ?_
    intro v5 hS5 hg5
    rw [st_next] at hS5
    have hr5 := hr4.grown hg5 (by intro e; injection e; have := hgl.out; omega)
    have hgv := grown_trans (grown_trans (grown_of_below (hB3.mono (by have := hrs.out; omega)) (some g)) hg4) hg5
    refine hK _ _ trivial ?_
    clear hK K hS4 hr4 hg4 hg5 hB3
    refine SeqS.done (by decide +kernel) ?_
    have hrg := st_blk hS5
    go_wp2_with (first
      | ((refine wpList_load_part rfl 42 (.tmp 26) rfl ?_ _ hrg (row16 _) ?_); rfl)
      | ((refine wpList_store16 (new := enc (keyAt F) (ctr m)) rfl (.tmp 4) (.tmp 27) rfl ?_ ?_ hr5 ?_); rfl; rfl; intro w9 hR9 hg9))
    (try simp only [Exit.inBlock, Exit.then])
    refine bodyPost_ret (results_blk rfl rfl hR9 (row16 _)) rfl ?_
    refine ⟨rfl, ⟨m, hm.out, hS5.grown hg9 (by intro e; injection e; have := hgl.out; omega)⟩, ?_⟩
    exact ⟨hg9.os.trans hgv.os, hg9.tape.trans hgv.tape, hg9.output.trans hgv.output, Nat.le_trans hgv.size hg9.size, fun i hi hne => (hg9.block i (Nat.lt_of_lt_of_le hi hgv.size) (by intro e; injection e with e; have := hrs.out; omega)).trans (hgv.block i hi hne)⟩
end Go.Proofs.Ytclcnngpgbdjgaa

/-
  New makes a stream of a key of 32 bytes, which stands at 0; a key of another length makes none. New memory alone is written. Conditions: each byte of the key is a number from 0 to 255.
-/
namespace Go.Proofs.Ytclcnngpgbdjgaa
open Go.RowKit

/-- The cells of a cipher, a number and a block. -/
def kpCells (F f h : Nat → Nat) (bm m : Bool) (n : Int) (X : Nat → Nat) : List Value := ciCells F f h bm m ++ (.int .u64 n :: rowN 16 X)
theorem kpCells_len (F f h : Nat → Nat) (bm m : Bool) (n : Int) (X : Nat → Nat) : (kpCells F f h bm m n X).length = 771 := by simp [kpCells, ciCells_len, rowN_len]
theorem sizeCi : (Try.prog.info? 48).map (·.size) = some 754 := by kernel_rfl
theorem rowCi (F f h : Nat → Nat) (bm m : Bool) : IsRow Try.prog 48 (ciCells F f h bm m).length := by rw [ciCells_len]; exact IsRow.struct Try.underlying48 sizeCi
theorem zeroKp : Zero Try.prog 50 (kpCells zf zf zf false false 0 zf) := by unfold Zero; kernel_rfl
theorem placesKp : (match Try.prog.underlying 50 with | some (.struct fs) => fs.toList.mapM (fun f => (Try.prog.info? f.type).map fun i => (f.offset, i.size)) | _ => none) = some [(0, 754), (754, 1), (755, 16)] := by kernel_rfl
theorem zeroSt : Zero Try.prog 52 (kpCells zf zf zf false false 0 zf ++ [.int .u64 0, .bool false]) := by unfold Zero; kernel_rfl
theorem placesSt : (match Try.prog.underlying 52 with | some (.struct fs) => fs.toList.mapM (fun f => (Try.prog.info? f.type).map fun i => (f.offset, i.size)) | _ => none) = some [(0, 771), (771, 1), (772, 1)] := by kernel_rfl
theorem over_list (A B C D : List Value) (a b : Nat) (ha : A.length = a) (hb : B.length = b) (hc : C.length = b) : (A ++ (B ++ D)).take a ++ (C ++ (A ++ (B ++ D)).drop (a + C.length)) = A ++ (C ++ D) := by
  subst ha
  rw [List.take_left' rfl, hc, List.drop_append, List.drop_of_length_le (Nat.le_add_right _ _), List.nil_append, Nat.add_sub_cancel_left, List.drop_append, hb, List.drop_of_length_le (by rw [hb]; exact Nat.le_refl _), List.nil_append, Nat.sub_self, List.drop_zero]
theorem built_kp (F f h : Nat → Nat) (bm m : Bool) (X : Nat → Nat) : Try.prog.built 50 [(0, Value.agg (ciCells F f h bm m).toArray), (2, Value.agg (rowN 16 X).toArray)] = some (kpCells F f h bm m 0 X).toArray := by
  have hz := zeroKp
  have hp := placesKp
  unfold Zero at hz
  unfold Program.built
  rw [Try.underlying50] at hp ⊢
  cases hi : Try.prog.info? 50 with
  | none => rw [hi] at hz; cases hz
  | some it =>
    rw [hi] at hz
    have hz' : it.zero = some (.agg (kpCells zf zf zf false false 0 zf).toArray) := hz
    dsimp only at hp ⊢
    rw [hp, hz']
    dsimp only
    rw [show (Value.agg (kpCells zf zf zf false false 0 zf).toArray).cells = (kpCells zf zf zf false false 0 zf).toArray from rfl]
    rw [fill_one _ _ 0 0 754 _ (ciCells F f h bm m) _ rfl rfl (ciCells_len _ _ _ _ _) (by rw [kpCells_len, ciCells_len]; decide)]
    have e1 : (kpCells zf zf zf false false 0 zf).take 0 ++ (ciCells F f h bm m ++ (kpCells zf zf zf false false 0 zf).drop (0 + (ciCells F f h bm m).length)) = (ciCells F f h bm m ++ [.int .u64 0]) ++ (rowN 16 zf ++ []) := by
      have := over_list [] (ciCells zf zf zf false false) (ciCells F f h bm m) (.int .u64 0 :: rowN 16 zf) 0 754 rfl (ciCells_len _ _ _ _ _) (ciCells_len _ _ _ _ _)
      rw [List.nil_append, List.nil_append] at this
      unfold kpCells
      rw [this]
      simp
    have hl : (ciCells F f h bm m ++ [Value.int .u64 0]).length = 755 := by rw [List.length_append, ciCells_len]; rfl
    rw [e1]
    rw [fill_one _ _ 2 755 16 _ (rowN 16 X) _ rfl rfl (rowN_len _ _) (by rw [List.length_append, hl, List.append_nil, rowN_len, rowN_len]; decide)]
    rw [Instr.fill, over_list _ (rowN 16 zf) (rowN 16 X) [] 755 16 hl (rowN_len _ _) (rowN_len _ _)]
    refine congrArg (fun l : List Value => some l.toArray) ?_
    simp [kpCells]
theorem built_st (F : Nat → Nat) : Try.prog.built 52 [(0, Value.agg (kpCells F sb bk true true 0 (enc (keyAt F) (ctr 0))).toArray), (2, Value.bool true)] = some (stCells F 0 0).toArray := by
  have hz := zeroSt
  have hp := placesSt
  unfold Zero at hz
  unfold Program.built
  rw [Try.underlying52] at hp ⊢
  cases hi : Try.prog.info? 52 with
  | none => rw [hi] at hz; cases hz
  | some it =>
    rw [hi] at hz
    have hz' : it.zero = some (.agg (kpCells zf zf zf false false 0 zf ++ [Value.int .u64 0, Value.bool false]).toArray) := hz
    dsimp only at hp ⊢
    rw [hp, hz']
    dsimp only
    rw [show (Value.agg (kpCells zf zf zf false false 0 zf ++ [Value.int .u64 0, Value.bool false]).toArray).cells = (kpCells zf zf zf false false 0 zf ++ [Value.int .u64 0, Value.bool false]).toArray from rfl]
    obtain ⟨X, hX⟩ : ∃ X, kpCells F sb bk true true 0 (enc (keyAt F) (ctr 0)) = X := ⟨_, rfl⟩
    have hXl : X.length = 771 := by rw [← hX]; exact kpCells_len _ _ _ _ _ _ _
    rw [hX]
    rw [fill_one _ _ 0 0 771 _ X _ rfl rfl hXl (by rw [List.length_append, kpCells_len, hXl]; decide)]
    have e1 : (kpCells zf zf zf false false 0 zf ++ [Value.int .u64 0, .bool false]).take 0 ++ (X ++ (kpCells zf zf zf false false 0 zf ++ [Value.int .u64 0, .bool false]).drop (0 + X.length)) = (X ++ [.int .u64 0]) ++ ([.bool false] ++ []) := by
      have := over_list [] (kpCells zf zf zf false false 0 zf) X [Value.int .u64 0, .bool false] 0 771 rfl (kpCells_len _ _ _ _ _ _ _) hXl
      rw [List.nil_append, List.nil_append] at this
      rw [this]
      simp
    have hl : (X ++ [Value.int .u64 0]).length = 772 := by rw [List.length_append, hXl]; rfl
    rw [e1]
    rw [fill_one _ _ 2 772 1 _ [.bool true] _ rfl rfl rfl (by rw [List.length_append, hl]; decide)]
    rw [Instr.fill, over_list _ [.bool false] [.bool true] [] 772 1 hl rfl rfl]
    refine congrArg (fun l : List Value => some l.toArray) ?_
    rw [← hX]
    simp [kpCells, stCells]

/-- A value built of parts, in a region that draws its order. -/
theorem yields_build {P : Program} {ops : Array Oper} {S : World → Prop} {o : Oper} {a : Act} (hw : Region.wanted o (yielded ops a.tmps) = true) (t : TypeId) (parts : Array (Nat × Operand)) (ho : o.op = .build t parts) {cells : Array Value}
    (hf : P.built t (parts.map fun (i, x) => (i, a.eval x)).toList = some cells) : YieldsIf P ops S o (.agg cells) a := by
  refine .inl ⟨hw, fun w _ => ?_⟩
  unfold execOp
  simp only [ho, Sem.run_bind, run_build w t _ cells hf, Result.andThen_ok, Sem.run_pure]
theorem wp_box_blk {P : Program} {o : Oper} {a : Act} {w : World} {K : Act → World → Prop} {Q : Exit → Act → World → Prop} (ty : TypeId) (x : Operand) (ho : o.op = .box ty x)
    (cs : List Value) (hx : a.eval x = .agg cs.toArray) (h : K (a.put o.dst (.pointer (some ⟨w.heap.size, 0, none⟩))) (w.alloc (.cells cs.toArray ty))) : o.wp P a w K Q := by
  unfold Oper.wp execOp
  simp only [ho, Sem.run_bind, Instr.box, newVar, newRow, run_newObj_alloc, Sem.run_pure, Result.andThen_ok, hx]
  exact h

set_option maxHeartbeats 400000 in
theorem stNew_no (a : Option Addr) (n cap : Nat) (w : World) (hn : n ≠ 32) :
    Calls Try.prog 8 #[.slice a n cap] w fun e w' => e = .returned (.tuple #[.pointer none, .int .i64 1]) ∧ w = w' := by
  go_enter Try.func8, Try.ntmps8
  go_wp2_with fail
  refine (cNew_no a n cap _ hn).mono ?_
  rintro e w1 ⟨rfl, rfl⟩
  go_wp2
  go_ret2
  exact ⟨rfl, rfl⟩

set_option maxRecDepth 100000 in
set_option maxHeartbeats 1000000 in
theorem stNew_any (a : Option Addr) (cap : Nat) (bs : List Int) (w : World) (hI : Ints .u8 w a 32 cap bs) (hr : ∀ x ∈ bs, 0 ≤ x ∧ x < 256) :
    Calls Try.prog 8 #[.slice a 32 cap] w fun e w' => ∃ g, e = .returned (.tuple #[.pointer (some ⟨g, 0, none⟩), .int .i64 0]) ∧ w.heap.size ≤ g ∧ StAt w' g (kb (kws (own bs) 52)) 0 ∧ Below w.heap.size w w' := by
  go_enter Try.func8, Try.ntmps8
  go_wp2_with fail
  refine (cNew_any a cap bs w hI hr).mono ?_
  rintro e w1 ⟨q, rfl, hq, hC, hB⟩
  obtain ⟨F, hF⟩ : ∃ F, kb (kws (own bs) 52) = F := ⟨_, rfl⟩
  have hFb : By F := by rw [← hF]; exact kb_by _
  rw [hF] at hC
  have hF := Lib.hid hF
  obtain ⟨B, hBs⟩ : ∃ B, w1.heap.size = B := ⟨_, rfl⟩
  have hql : q < B := by rw [← hBs]; exact Blk.lt hC
  have hwB : w.heap.size ≤ B := by rw [← hBs]; exact hB.size
  have CC := Lib.hid (fun w' (h : Below B w1 w') => (Blk.keep hC h hql : CiAt w' q F sb bk true true))
  have hS : Below B w1 w1.drew := Below.drew (Below.refl _ _)
  have hBs := Lib.hid hBs
  have hql := Lib.hid hql
  have hwB := Lib.hid hwB
  have hq := Lib.hid hq
  clear hC hI hr
  go_wp2_with fail
  refine region_seqS (fun w' => Below B w1 w') (by kernel_rfl) hS ?_
  simp only [pairs, Nat.reduceAdd]
  repeat (first
    | (refine SeqS.take (v := .agg (ciCells F sb bk true true).toArray) (by first | assumption | trivial) (by kernel_rfl) (by decide +kernel) (by decide +kernel) (yields_blk (by rfl) 48 (.tmp 15) rfl rfl (fun w' h => CC.out w' h) (rowCi _ _ _ _ _)) ?_
       simp only [Act.put, List.setIfInBounds_toArray, List.set_cons_zero, List.set_cons_succ])
    | (refine SeqS.take (v := ?_) (by first | assumption | trivial) (by kernel_rfl) (by decide +kernel) (by decide +kernel) (Or.inl ⟨by rfl, ?_⟩) ?_
       rotate_left
       focus
         intro w' hb'
         go_simp
         with_reducible rfl
       simp only [Act.put, List.setIfInBounds_toArray, List.set_cons_zero, List.set_cons_succ])
    | (refine SeqS.take (v := undef) (by first | assumption | trivial) (by kernel_rfl) (by decide +kernel) (by decide +kernel) (Or.inr ⟨by rfl, rfl⟩) ?_
       simp only [Act.put, List.setIfInBounds_toArray, List.set_cons_zero, List.set_cons_succ])
    | (refine SeqS.take1 (v := .agg (ciCells F sb bk true true).toArray) (by first | assumption | trivial) (by kernel_rfl) (by decide +kernel) (by decide +kernel) (yields_blk (by rfl) 48 (.tmp 15) rfl rfl (fun w' h => CC.out w' h) (rowCi _ _ _ _ _)) ?_
       simp only [Act.put, List.setIfInBounds_toArray, List.set_cons_zero, List.set_cons_succ])
    | (refine SeqS.take1 (v := ?_) (by first | assumption | trivial) (by kernel_rfl) (by decide +kernel) (by decide +kernel) (Or.inl ⟨by rfl, ?_⟩) ?_
       rotate_left
       focus
         intro w' hb'
         go_simp
         with_reducible rfl
       simp only [Act.put, List.setIfInBounds_toArray, List.set_cons_zero, List.set_cons_succ])
    | (refine SeqS.take1 (v := undef) (by first | assumption | trivial) (by kernel_rfl) (by decide +kernel) (by decide +kernel) (Or.inr ⟨by rfl, rfl⟩) ?_
       simp only [Act.put, List.setIfInBounds_toArray, List.set_cons_zero, List.set_cons_succ])
    | (refine SeqS.take2 (v := .agg (ciCells F sb bk true true).toArray) (by first | assumption | trivial) (by kernel_rfl) (by decide +kernel) (by decide +kernel) (yields_blk (by rfl) 48 (.tmp 15) rfl rfl (fun w' h => CC.out w' h) (rowCi _ _ _ _ _)) ?_
       simp only [Act.put, List.setIfInBounds_toArray, List.set_cons_zero, List.set_cons_succ])
    | (refine SeqS.take2 (v := ?_) (by first | assumption | trivial) (by kernel_rfl) (by decide +kernel) (by decide +kernel) (Or.inl ⟨by rfl, ?_⟩) ?_
       rotate_left
       focus
         intro w' hb'
         go_simp
         with_reducible rfl
       simp only [Act.put, List.setIfInBounds_toArray, List.set_cons_zero, List.set_cons_succ])
    | (refine SeqS.take2 (v := undef) (by first | assumption | trivial) (by kernel_rfl) (by decide +kernel) (by decide +kernel) (Or.inr ⟨by rfl, rfl⟩) ?_
       simp only [Act.put, List.setIfInBounds_toArray, List.set_cons_zero, List.set_cons_succ]))
  refine SeqS.alone (by decide +kernel) (by rfl) (fun K hK => ?_)
  go_simp
  refine (plain_any 0 _ (by decide)).mono ?_
  rintro e v2 ⟨rfl, b2⟩
  have S2 : Below B w1 v2 := hS.trans (b2.mono (Nat.le_of_eq hBs.out.symm))
  go_simp
  refine hK _ _ S2 ?_
  clear hK K b2
  refine SeqS.alone (by decide +kernel) (by rfl) (fun K hK => ?_)
  go_simp
  refine (cEnc_any q F (ctr 0) v2 hFb (ctr_by 0) (CC.out v2 S2)).mono ?_
  rintro e v3 ⟨rfl, b3⟩
  have S3 : Below B w1 v3 := S2.trans (b3.mono (by have := S2.size; have := hBs.out; omega))
  go_simp
  refine hK _ _ S3 ?_
  clear hK K b3
  refine SeqS.take (v := .agg (kpCells F sb bk true true 0 (enc (keyAt F) (ctr 0))).toArray) S3 (by kernel_rfl) (by decide +kernel) (by decide +kernel) (yields_build (by rfl) 50 _ rfl (Eq.trans (congrArg (Program.built Try.prog 50) (by kernel_rfl)) (built_kp F sb bk true true _))) ?_
  simp only [Act.put, List.setIfInBounds_toArray, List.set_cons_zero, List.set_cons_succ]
  refine SeqS.take (v := .agg (stCells F 0 0).toArray) S3 (by kernel_rfl) (by decide +kernel) (by decide +kernel) (yields_build (by rfl) 52 _ rfl (Eq.trans (congrArg (Program.built Try.prog 52) (by kernel_rfl)) (built_st F))) ?_
  simp only [Act.put, List.setIfInBounds_toArray, List.set_cons_zero, List.set_cons_succ]
  refine SeqS.alone (by decide +kernel) (by rfl) (fun K hK => ?_)
  refine wp_box_blk 52 (.tmp 21) rfl (stCells F 0 0) rfl ?_
  have hN : StAt (v3.alloc (.cells (stCells F 0 0).toArray 52)) v3.heap.size F 0 := ⟨0, by decide, Blk.new v3 _ _⟩
  have S4 : Below B w1 (v3.alloc (.cells (stCells F 0 0).toArray 52)) := S3.trans ((below1 v3 _).mono (by have := S3.size; have := hBs.out; omega))
  obtain ⟨v4, hv4⟩ : ∃ v4, v3.alloc (.cells (stCells F 0 0).toArray 52) = v4 := ⟨_, rfl⟩
  have hgs : w.heap.size ≤ v3.heap.size := by have := S3.size; have := hBs.out; have := hwB.out; omega
  obtain ⟨g, hg⟩ : ∃ g, v3.heap.size = g := ⟨_, rfl⟩
  rw [hg] at hgs
  rw [hv4, hg] at hN ⊢
  rw [hv4] at S4
  refine hK _ _ S4 ?_
  clear hK K hv4 hg
  simp only [Act.put, List.setIfInBounds_toArray, List.set_cons_zero, List.set_cons_succ]
  repeat (first
    | (refine SeqS.take (v := ?_) (by first | assumption | trivial) (by kernel_rfl) (by decide +kernel) (by decide +kernel) (Or.inl ⟨by rfl, ?_⟩) ?_
       rotate_left
       focus
         intro w' hb'
         go_simp
         with_reducible rfl
       simp only [Act.put, List.setIfInBounds_toArray, List.set_cons_zero, List.set_cons_succ])
    | (refine SeqS.take (v := undef) (by first | assumption | trivial) (by kernel_rfl) (by decide +kernel) (by decide +kernel) (Or.inr ⟨by rfl, rfl⟩) ?_
       simp only [Act.put, List.setIfInBounds_toArray, List.set_cons_zero, List.set_cons_succ])
    | (refine SeqS.take1 (v := ?_) (by first | assumption | trivial) (by kernel_rfl) (by decide +kernel) (by decide +kernel) (Or.inl ⟨by rfl, ?_⟩) ?_
       rotate_left
       focus
         intro w' hb'
         go_simp
         with_reducible rfl
       simp only [Act.put, List.setIfInBounds_toArray, List.set_cons_zero, List.set_cons_succ])
    | (refine SeqS.take1 (v := undef) (by first | assumption | trivial) (by kernel_rfl) (by decide +kernel) (by decide +kernel) (Or.inr ⟨by rfl, rfl⟩) ?_
       simp only [Act.put, List.setIfInBounds_toArray, List.set_cons_zero, List.set_cons_succ])
    | (refine SeqS.take2 (v := ?_) (by first | assumption | trivial) (by kernel_rfl) (by decide +kernel) (by decide +kernel) (Or.inl ⟨by rfl, ?_⟩) ?_
       rotate_left
       focus
         intro w' hb'
         go_simp
         with_reducible rfl
       simp only [Act.put, List.setIfInBounds_toArray, List.set_cons_zero, List.set_cons_succ])
    | (refine SeqS.take2 (v := undef) (by first | assumption | trivial) (by kernel_rfl) (by decide +kernel) (by decide +kernel) (Or.inr ⟨by rfl, rfl⟩) ?_
       simp only [Act.put, List.setIfInBounds_toArray, List.set_cons_zero, List.set_cons_succ]))
  refine SeqS.done (by decide +kernel) ?_
  go_wp2
  go_ret2
  exact ⟨g, rfl, hgs, by rw [hF.out]; exact hN, hB.trans (S4.mono hwB.out)⟩
end Go.Proofs.Ytclcnngpgbdjgaa
