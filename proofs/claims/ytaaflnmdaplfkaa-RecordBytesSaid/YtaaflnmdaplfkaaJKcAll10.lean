/-
  Texts of stages that were proved on their own, joined: BkMem, BkEqual, KcMath, MsMem, MsSame, KcMem, BfRight, KfRight, KcSame. Each begins with its own words.
-/
import Derived.Test.YtaaflnmdaplfkaaJKcAll4
import Derived.Test.YtaaflnmdaplfkaaJKcAll0
import Derived.Test.YtaaflnmdaplfkaaJKcAll7
import Derived.Test.YtaaflnmdaplfkaaJKcAll6
import Derived.Test.YtaaflnmdaplfkaaSteps
import Derived.Test.YtaaflnmdaplfkaaJKcAll8
import Derived.Test.YtaaflnmdaplfkaaJKcAll5
import Derived.Test.YtaaflnmdaplfkaaJKcAll9
import Derived.Test.YtaaflnmdaplfkaaSeqS
import Derived.Test.YtaaflnmdaplfkaaJKcAll3
import Derived.RegionTactic
import Derived.ChangeAlike
import Derived.Deep.QuietTactic
import Derived.BigQuiet

/-
  Blocks in memory (layer 16): their 67 cells, a block of memory that holds one, the fields read, values built; two ids compared. No conditions but those that each row names.
-/
namespace Go.Proofs.Ytaaflnmdaplfkaa
open Go.RowKit

def bkC (H P : List Int) (a : Option Addr) (n c : Nat) : List Value := H.map (Value.int .u8) ++ (P.map (Value.int .u8) ++ [.slice a n c])
theorem bkC_len {H P : List Int} {a : Option Addr} {n c : Nat} (h : H.length = 32) (hp : P.length = 32) : (bkC H P a n c).length = 65 := by simp [bkC, h, hp]
theorem u8_one (H : List Int) : ∀ v ∈ H.map (Value.int .u8), v.oneCell' = true := by
  intro v hv
  obtain ⟨x, _, rfl⟩ := List.mem_map.1 hv
  rfl
theorem bkC_one (H P : List Int) (a : Option Addr) (n c : Nat) : ∀ v ∈ bkC H P a n c, v.oneCell' = true := by
  intro v hv
  unfold bkC at hv
  rcases List.mem_append.1 hv with h | h
  · exact u8_one H v h
  rcases List.mem_append.1 h with h | h
  · exact u8_one P v h
  · obtain rfl := List.mem_singleton.1 h
    rfl
section
variable {w : World} {g : Nat} {T : TypeId} {H P : List Int} {a : Option Addr} {n c : Nat}
theorem bk0 (h : Blk w g T (bkC H P a n c)) : w.rangeAt g 0 (H.map (Value.int .u8)) := h.range 0 _ fun j v hj => by
  have hj' := (List.getElem?_eq_some_iff.1 hj).1
  rw [bkC, Nat.zero_add, List.getElem?_append_left hj']
  exact hj
theorem bk1 (h : Blk w g T (bkC H P a n c)) (hl : H.length = 32) : w.rangeAt g 32 (P.map (Value.int .u8)) := h.range 32 _ fun j v hj => by
  have hj' := (List.getElem?_eq_some_iff.1 hj).1
  rw [bkC, List.getElem?_append_right (by rw [List.length_map]; omega), List.length_map, hl, Nat.add_sub_cancel_left, List.getElem?_append_left hj']
  exact hj
theorem bk2 (h : Blk w g T (bkC H P a n c)) (hl : H.length = 32) (hp : P.length = 32) : w.cell? ⟨g, 64, none⟩ = some (.slice a n c) := by
  rw [h.cell, bkC, List.getElem?_append_right (by rw [List.length_map]; omega), List.length_map, hl, List.getElem?_append_right (by rw [List.length_map]; omega), List.length_map, hp]
  rfl
end
theorem bkC_set {H P : List Int} {a : Option Addr} {n c : Nat} (h : H.length = 32) (hp : P.length = 32) (b : Option Addr) (m d : Nat) : (bkC H P a n c).set 64 (.slice b m d) = bkC H P b m d := by
  unfold bkC
  rw [List.set_append_right _ _ (by rw [List.length_map]; omega), List.length_map, h, List.set_append_right _ _ (by rw [List.length_map]; omega), List.length_map, hp]
  rfl
theorem sizeBk : (Try.prog.info? 31).map (·.size) = some 65 := by kernel_rfl
theorem rowBk : IsRow Try.prog 31 65 := IsRow.struct Try.underlying31 sizeBk
theorem zeroBk : Zero Try.prog 31 (bkC z32 z32 none 0 0) := by unfold Zero; kernel_rfl
theorem built_bk_fill (parts : List (Nat × Value)) : Try.prog.built 31 parts = Instr.fill (#[((0 : Nat), (32 : Nat)), (32, 32), (64, 1)][·]?) (bkC z32 z32 none 0 0).toArray parts := by kernel_rfl
theorem built_bk0 : Try.prog.built 31 [] = some (bkC z32 z32 none 0 0).toArray := by rw [built_bk_fill, Instr.fill]
theorem built_bk1 (H : List Int) (h : H.length = 32) : Try.prog.built 31 [(0, .agg (H.map (Value.int .u8)).toArray)] = some (bkC H z32 none 0 0).toArray := by
  have hl : (H.map (Value.int .u8)).length = 32 := by rw [List.length_map, h]
  rw [built_bk_fill, fill_one9 _ _ 0 0 32 _ (H.map (Value.int .u8)) [] rfl rfl hl (by rw [bkC_len rfl rfl, hl]; decide), Instr.fill, hl]
  rfl
theorem built_bk2 (H P : List Int) (h : H.length = 32) (hp : P.length = 32) : Try.prog.built 31 [(0, .agg (H.map (Value.int .u8)).toArray), (1, .agg (P.map (Value.int .u8)).toArray)] = some (bkC H P none 0 0).toArray := by
  have hl : (H.map (Value.int .u8)).length = 32 := by rw [List.length_map, h]
  have hq : (P.map (Value.int .u8)).length = 32 := by rw [List.length_map, hp]
  rw [built_bk_fill, fill_one9 _ _ 0 0 32 _ (H.map (Value.int .u8)) _ rfl rfl hl (by rw [bkC_len rfl rfl, hl]; decide), hl]
  rw [show List.take 0 (bkC z32 z32 none 0 0) ++ (H.map (Value.int .u8) ++ (bkC z32 z32 none 0 0).drop (0 + 32)) = bkC H z32 none 0 0 from rfl]
  rw [fill_one9 _ _ 1 32 32 _ (P.map (Value.int .u8)) [] rfl rfl hq (by rw [bkC_len h rfl, hq]; decide), Instr.fill, hq]
  unfold bkC
  rw [List.take_append_of_le_length (by omega), List.take_of_length_le (by omega), List.drop_append, List.drop_of_length_le (by omega), List.nil_append, hl]
  rfl
theorem built_bk3 (H P : List Int) (a : Option Addr) (n c : Nat) (h : H.length = 32) (hp : P.length = 32) : Try.prog.built 31 [(0, .agg (H.map (Value.int .u8)).toArray), (1, .agg (P.map (Value.int .u8)).toArray), (2, .slice a n c)] = some (bkC H P a n c).toArray := by
  have hl : (H.map (Value.int .u8)).length = 32 := by rw [List.length_map, h]
  have hq : (P.map (Value.int .u8)).length = 32 := by rw [List.length_map, hp]
  rw [built_bk_fill, fill_one9 _ _ 0 0 32 _ (H.map (Value.int .u8)) _ rfl rfl hl (by rw [bkC_len rfl rfl, hl]; decide), hl]
  rw [show List.take 0 (bkC z32 z32 none 0 0) ++ (H.map (Value.int .u8) ++ (bkC z32 z32 none 0 0).drop (0 + 32)) = bkC H z32 none 0 0 from rfl]
  rw [fill_one9 _ _ 1 32 32 _ (P.map (Value.int .u8)) _ rfl rfl hq (by rw [bkC_len h rfl, hq]; decide), hq]
  have e : (bkC H z32 none 0 0).take 32 ++ (P.map (Value.int .u8) ++ (bkC H z32 none 0 0).drop (32 + 32)) = bkC H P none 0 0 := by
    unfold bkC
    rw [List.take_append_of_le_length (by omega), List.take_of_length_le (by omega), List.drop_append, List.drop_of_length_le (by omega), List.nil_append, hl]
    rfl
  rw [e, fill_one9 _ _ 2 64 1 _ [.slice a n c] [] rfl rfl rfl (by rw [bkC_len h hp]; exact Nat.le_refl 65), Instr.fill]
  unfold bkC
  rw [List.take_append, List.take_of_length_le (by omega), hl, List.take_append_of_le_length (by omega), List.take_of_length_le (by omega), List.drop_append, List.drop_of_length_le (by omega), List.nil_append, hl]
  rw [List.append_assoc]
  congr 4
  rw [List.drop_of_length_le (by rw [List.length_append, hq, List.length_singleton, List.length_singleton]; decide)]
  rfl
theorem built_bkT (a : Option Addr) (n c : Nat) : Try.prog.built 31 [(2, .slice a n c)] = some (bkC z32 z32 a n c).toArray := by
  rw [built_bk_fill, fill_one9 _ _ 2 64 1 _ [.slice a n c] [] rfl rfl rfl (by rw [bkC_len rfl rfl]; exact Nat.le_refl 65), Instr.fill]
  rfl
theorem eqId16 (H H' : List Int) (h : H.length = 32) (h' : H'.length = 32) (w : World) : (Op.equalIn 10000 28 (.agg (H.map (Value.int .u8)).toArray) (.agg (H'.map (Value.int .u8)).toArray)).run Try.prog w = .ok (H == H') w :=
  run_equalIn_ints (P := Try.prog) w 9998 28 5 32 .u8 Try.underlying28 Try.underlying5 sizeU8s H H' h h'
theorem eqHint16 (H H' : List Int) (h : H.length = 16) (h' : H'.length = 16) (w : World) : (Op.equalIn 10000 25 (.agg (H.map (Value.int .u8)).toArray) (.agg (H'.map (Value.int .u8)).toArray)).run Try.prog w = .ok (H == H') w :=
  run_equalIn_ints (P := Try.prog) w 9998 25 5 16 .u8 Try.underlying25 Try.underlying5 sizeU8s H H' h h'
theorem noGuardHint16 : Try.prog.eqGuardType Try.prog.depth 25 = false := by kernel_rfl
theorem rowId_of {H : List Int} (h : H.length = 32) : IsRow Try.prog 28 (H.map (Value.int .u8)).length := by rw [List.length_map, h]; exact rowId9
theorem rowHint_of {H : List Int} (h : H.length = 16) : IsRow Try.prog 25 (H.map (Value.int .u8)).length := by rw [List.length_map, h]; exact rowHint9
/-- An id among ids in memory: where its 32 cells lie. -/
theorem IdsAt.get {w : World} {a : Option Addr} {n c : Nat} {zs : List Int} (h : IdsAt w a n c zs) {i : Nat} (hi : i < n) : ∃ b off, a = some ⟨b, off, none⟩ ∧ w.rangeAt b (off + i * 32) ((idP zs i).map (Value.int .u8)) := by
  obtain ⟨hl, _, h0 | ⟨b, off, ha, hc⟩⟩ := h
  · omega
  · refine ⟨b, off, ha, ?_⟩
    have := ids_part hl hc i hi
    rw [Nat.mul_comm i 32]
    exact this
end Go.Proofs.Ytaaflnmdaplfkaa

/-
  Whether ids, and whether blocks, are the same: the document's Same of layers 9 and 16, slices.Equal and block's Same. New memory alone is written. Conditions: at most a hundred thousand ids; an id has 32 bytes.
-/
namespace Go.Proofs.Ytaaflnmdaplfkaa
open Go.RowKit

def sameL (n : Nat) (zs : List Int) (n' : Nat) (ys : List Int) : Bool := decide (n = n') && (zs == ys)
def sameK (b d : BlkV) : Bool := (b.hash == d.hash) && ((b.parent == d.parent) && sameL b.n b.ids d.n d.ids)
theorem sameK_self (b : BlkV) : sameK b b = true := by simp [sameK, sameL]
theorem sameK_iff {b d : BlkV} : sameK b d = true ↔ b = d := by
  constructor
  · intro h
    obtain ⟨H, P, n, Z⟩ := b
    obtain ⟨H', P', n', Z'⟩ := d
    simp only [sameK, sameL, Bool.and_eq_true, beq_iff_eq, decide_eq_true_eq] at h
    obtain ⟨rfl, rfl, rfl, rfl⟩ := h
    rfl
  · rintro rfl; exact sameK_self _
set_option maxRecDepth 100000 in
set_option maxHeartbeats 2000000 in
theorem rSameB_any (a : Option Addr) (n c : Nat) (zs : List Int) (a' : Option Addr) (n' c' : Nat) (ys : List Int) (w : World) (hT : IdsAt w a n c zs) (hT' : IdsAt w a' n' c' ys) (hn : n ≤ 100000) :
    Calls Try.prog 49 #[.slice a n c, .slice a' n' c'] w fun q w' => q = .returned (.bool (sameL n zs n' ys)) ∧ Below w.heap.size w w' := by
  have hl := hT.1
  have hl' := hT'.1
  have hnm : (n : Int) ≤ 100000 := by omega
  unfold sameL
  by_cases hnn : n = n'
  · subst hnn
    rw [show decide (n = n) = true from decide_eq_true rfl, Bool.true_and]
    have heq := Lib.hid (fun j (hj : j < n) => eqId16 (idP zs j) (idP ys j) (idP_len hl hj) (idP_len hl' hj))
    have hps := Lib.hid (fun j (hj : j < n) => rowId_of (idP_len hl hj))
    have hps' := Lib.hid (fun j (hj : j < n) => rowId_of (idP_len hl' hj))
    have hTH := Lib.hid hT
    have hTH' := Lib.hid hT'
    have hext := Lib.hid (ids_ext hl hl')
    obtain ⟨R, hR⟩ : ∃ R, (zs == ys) = R := ⟨_, rfl⟩
    rw [hR]
    have hRH := Lib.hid hR
    clear hT hT' hR
    go_enter Try.func49, Try.ntmps49
    go_wp2
    go_loopw [5] (fun i wr => ∃ j : Nat, j ≤ n ∧ i = .int .i64 j ∧ (∀ i, i < j → idP zs i = idP ys i) ∧ Below w.heap.size w wr) (fun i _ => n - (intOf i).toNat)
    case atStart => exact ⟨0, Nat.zero_le _, rfl, fun i hi => absurd hi (Nat.not_lt_zero i), Below.refl _ _⟩
    case round =>
      obtain ⟨j, hj, rfl, hno, hB⟩ := hrel
      by_cases hlt : j < n
      · have hji : (j : Int) < (n : Int) := by omega
        obtain ⟨b, off, rfl, hp⟩ := (hTH.out.keep hB).get hlt
        obtain ⟨b', off', rfl, hp'⟩ := (hTH'.out.keep hB).get hlt
        have hq := heq.out j hlt
        have HY := hps.out j hlt
        have HZ := hps'.out j hlt
        obtain ⟨F, hF⟩ : ∃ F, (idP zs j == idP ys j) = F := ⟨_, rfl⟩
        rw [hF] at hq
        have hFH := Lib.hid hF
        have hnoH := Lib.hid hno
        obtain ⟨Y, hY⟩ : ∃ Y, (idP zs j).map (Value.int .u8) = Y := ⟨_, rfl⟩
        obtain ⟨Z, hZ⟩ : ∃ Y, (idP ys j).map (Value.int .u8) = Y := ⟨_, rfl⟩
        rw [hY] at hq hp HY
        rw [hZ] at hq hp' HZ
        have hltH := Lib.hid hlt
        have hng := noGuardIds
        clear hlt hj hno hF hY hZ
        go_wp2_with fail
        refine region_seqS (fun w' => w' = wr.drew) (by kernel_rfl) rfl ?_
        simp only [pairs, Nat.reduceAdd]
        repeat (first
          | (refine SeqS.take (v := .agg (Y).toArray) (by first | assumption | trivial) (by kernel_rfl) (by decide +kernel) (by decide +kernel) (yields_part (by rfl) 28 (.tmp 19) rfl rfl (fun w' h => by subst h; exact hp) (HY)) ?_
             simp only [Act.put, List.setIfInBounds_toArray, List.set_cons_zero, List.set_cons_succ])
          | (refine SeqS.take (v := .agg (Z).toArray) (by first | assumption | trivial) (by kernel_rfl) (by decide +kernel) (by decide +kernel) (yields_part (by rfl) 28 (.tmp 23) rfl rfl (fun w' h => by subst h; exact hp') (HZ)) ?_
             simp only [Act.put, List.setIfInBounds_toArray, List.set_cons_zero, List.set_cons_succ])
          | (refine SeqS.take (v := ?_) (by first | assumption | trivial) (by kernel_rfl) (by decide +kernel) (by decide +kernel) (Or.inl ⟨by rfl, ?_⟩) ?_
             rotate_left
             focus
               intro w' hb'
               go_simp
               with_reducible rfl
             simp only [Act.put, List.setIfInBounds_toArray, List.set_cons_zero, List.set_cons_succ])
          | (refine SeqS.take (v := ?_) (by first | assumption | trivial) (by kernel_rfl) (by decide +kernel) (by decide +kernel) (Or.inl ⟨by rfl, ?_⟩) ?_
             rotate_left
             focus
               intro w' hb'
               have d0 := hq w'
               go_simp
               with_reducible rfl
             simp only [Act.put, List.setIfInBounds_toArray, List.set_cons_zero, List.set_cons_succ])
          | (refine SeqS.take (v := undef) (by first | assumption | trivial) (by kernel_rfl) (by decide +kernel) (by decide +kernel) (Or.inr ⟨by rfl, rfl⟩) ?_
             simp only [Act.put, List.setIfInBounds_toArray, List.set_cons_zero, List.set_cons_succ])
          | (refine SeqS.take1 (v := .agg (Y).toArray) (by first | assumption | trivial) (by kernel_rfl) (by decide +kernel) (by decide +kernel) (yields_part (by rfl) 28 (.tmp 19) rfl rfl (fun w' h => by subst h; exact hp) (HY)) ?_
             simp only [Act.put, List.setIfInBounds_toArray, List.set_cons_zero, List.set_cons_succ])
          | (refine SeqS.take1 (v := .agg (Z).toArray) (by first | assumption | trivial) (by kernel_rfl) (by decide +kernel) (by decide +kernel) (yields_part (by rfl) 28 (.tmp 23) rfl rfl (fun w' h => by subst h; exact hp') (HZ)) ?_
             simp only [Act.put, List.setIfInBounds_toArray, List.set_cons_zero, List.set_cons_succ])
          | (refine SeqS.take1 (v := ?_) (by first | assumption | trivial) (by kernel_rfl) (by decide +kernel) (by decide +kernel) (Or.inl ⟨by rfl, ?_⟩) ?_
             rotate_left
             focus
               intro w' hb'
               go_simp
               with_reducible rfl
             simp only [Act.put, List.setIfInBounds_toArray, List.set_cons_zero, List.set_cons_succ])
          | (refine SeqS.take1 (v := ?_) (by first | assumption | trivial) (by kernel_rfl) (by decide +kernel) (by decide +kernel) (Or.inl ⟨by rfl, ?_⟩) ?_
             rotate_left
             focus
               intro w' hb'
               have d0 := hq w'
               go_simp
               with_reducible rfl
             simp only [Act.put, List.setIfInBounds_toArray, List.set_cons_zero, List.set_cons_succ])
          | (refine SeqS.take1 (v := undef) (by first | assumption | trivial) (by kernel_rfl) (by decide +kernel) (by decide +kernel) (Or.inr ⟨by rfl, rfl⟩) ?_
             simp only [Act.put, List.setIfInBounds_toArray, List.set_cons_zero, List.set_cons_succ])
          | (refine SeqS.take2 (v := .agg (Y).toArray) (by first | assumption | trivial) (by kernel_rfl) (by decide +kernel) (by decide +kernel) (yields_part (by rfl) 28 (.tmp 19) rfl rfl (fun w' h => by subst h; exact hp) (HY)) ?_
             simp only [Act.put, List.setIfInBounds_toArray, List.set_cons_zero, List.set_cons_succ])
          | (refine SeqS.take2 (v := .agg (Z).toArray) (by first | assumption | trivial) (by kernel_rfl) (by decide +kernel) (by decide +kernel) (yields_part (by rfl) 28 (.tmp 23) rfl rfl (fun w' h => by subst h; exact hp') (HZ)) ?_
             simp only [Act.put, List.setIfInBounds_toArray, List.set_cons_zero, List.set_cons_succ])
          | (refine SeqS.take2 (v := ?_) (by first | assumption | trivial) (by kernel_rfl) (by decide +kernel) (by decide +kernel) (Or.inl ⟨by rfl, ?_⟩) ?_
             rotate_left
             focus
               intro w' hb'
               go_simp
               with_reducible rfl
             simp only [Act.put, List.setIfInBounds_toArray, List.set_cons_zero, List.set_cons_succ])
          | (refine SeqS.take2 (v := ?_) (by first | assumption | trivial) (by kernel_rfl) (by decide +kernel) (by decide +kernel) (Or.inl ⟨by rfl, ?_⟩) ?_
             rotate_left
             focus
               intro w' hb'
               have d0 := hq w'
               go_simp
               with_reducible rfl
             simp only [Act.put, List.setIfInBounds_toArray, List.set_cons_zero, List.set_cons_succ])
          | (refine SeqS.take2 (v := undef) (by first | assumption | trivial) (by kernel_rfl) (by decide +kernel) (by decide +kernel) (Or.inr ⟨by rfl, rfl⟩) ?_
             simp only [Act.put, List.setIfInBounds_toArray, List.set_cons_zero, List.set_cons_succ])
          | (refine SeqS.take3 (v := .agg (Y).toArray) (by first | assumption | trivial) (by kernel_rfl) (by decide +kernel) (by decide +kernel) (yields_part (by rfl) 28 (.tmp 19) rfl rfl (fun w' h => by subst h; exact hp) (HY)) ?_
             simp only [Act.put, List.setIfInBounds_toArray, List.set_cons_zero, List.set_cons_succ])
          | (refine SeqS.take3 (v := .agg (Z).toArray) (by first | assumption | trivial) (by kernel_rfl) (by decide +kernel) (by decide +kernel) (yields_part (by rfl) 28 (.tmp 23) rfl rfl (fun w' h => by subst h; exact hp') (HZ)) ?_
             simp only [Act.put, List.setIfInBounds_toArray, List.set_cons_zero, List.set_cons_succ])
          | (refine SeqS.take3 (v := ?_) (by first | assumption | trivial) (by kernel_rfl) (by decide +kernel) (by decide +kernel) (Or.inl ⟨by rfl, ?_⟩) ?_
             rotate_left
             focus
               intro w' hb'
               go_simp
               with_reducible rfl
             simp only [Act.put, List.setIfInBounds_toArray, List.set_cons_zero, List.set_cons_succ])
          | (refine SeqS.take3 (v := ?_) (by first | assumption | trivial) (by kernel_rfl) (by decide +kernel) (by decide +kernel) (Or.inl ⟨by rfl, ?_⟩) ?_
             rotate_left
             focus
               intro w' hb'
               have d0 := hq w'
               go_simp
               with_reducible rfl
             simp only [Act.put, List.setIfInBounds_toArray, List.set_cons_zero, List.set_cons_succ])
          | (refine SeqS.take3 (v := undef) (by first | assumption | trivial) (by kernel_rfl) (by decide +kernel) (by decide +kernel) (Or.inr ⟨by rfl, rfl⟩) ?_
             simp only [Act.put, List.setIfInBounds_toArray, List.set_cons_zero, List.set_cons_succ]))
        refine SeqS.done (by decide +kernel) ?_
        cases F with
        | true =>
          have hgoH := Lib.hid (show ∀ i, i < j + 1 → idP zs i = idP ys i by
            intro i hi
            by_cases e : i = j
            · subst e; exact eq_of_beq hFH.out
            · exact hnoH.out i (by omega))
          have hB2 : Below w.heap.size w wr.drew := Below.drew hB
          clear hq hng HY HZ hp hp' hB
          go_wp2
          exact ⟨⟨j + 1, by have := hltH.out; omega, by congr 1, hgoH.out, hB2⟩, by simp only [intOf]; have := hltH.out; omega⟩
        | false =>
          have hR : R = false := by
            rw [← hRH.out]
            refine beq_false_of_ne (fun e => ?_)
            have := hFH.out
            rw [e] at this
            exact absurd (beq_self_eq_true _) (by rw [this]; decide)
          subst hR
          go_wp2
          go_ret
          exact ⟨rfl, Below.drew hB⟩
      · obtain rfl : n = j := by omega
        have hji : ¬ (n : Int) < (n : Int) := by omega
        have hR : R = true := by rw [← hRH.out, hext.out hno]; exact beq_self_eq_true _
        subst hR
        clear hlt hj hno
        go_wp2
        go_ret
        exact ⟨rfl, hB⟩
  · have hne : ¬ (n : Int) = (n' : Int) := by omega
    rw [show decide (n = n') = false from decide_eq_false hnn, Bool.false_and]
    clear hT hT'
    go_enter Try.func49, Try.ntmps49
    go_wp2
    go_ret
    exact ⟨rfl, Below.refl _ _⟩

set_option maxRecDepth 100000 in
set_option maxHeartbeats 2000000 in
theorem bkEqual_any (a : Option Addr) (n c : Nat) (zs : List Int) (a' : Option Addr) (n' c' : Nat) (ys : List Int) (w : World) (hT : IdsAt w a n c zs) (hT' : IdsAt w a' n' c' ys) (hn : n ≤ 100000) :
    Calls Try.prog 60 #[.slice a n c, .slice a' n' c'] w fun q w' => q = .returned (.bool (sameL n zs n' ys)) ∧ Below w.heap.size w w' := by
  have hl := hT.1
  have hl' := hT'.1
  have hnm : (n : Int) ≤ 100000 := by omega
  unfold sameL
  by_cases hnn : n = n'
  · subst hnn
    rw [show decide (n = n) = true from decide_eq_true rfl, Bool.true_and]
    have heq := Lib.hid (fun j (hj : j < n) => eqId16 (idP zs j) (idP ys j) (idP_len hl hj) (idP_len hl' hj))
    have hps := Lib.hid (fun j (hj : j < n) => rowId_of (idP_len hl hj))
    have hps' := Lib.hid (fun j (hj : j < n) => rowId_of (idP_len hl' hj))
    have hTH := Lib.hid hT
    have hTH' := Lib.hid hT'
    have hext := Lib.hid (ids_ext hl hl')
    obtain ⟨R, hR⟩ : ∃ R, (zs == ys) = R := ⟨_, rfl⟩
    rw [hR]
    have hRH := Lib.hid hR
    clear hT hT' hR
    go_enter Try.func60, Try.ntmps60
    go_wp2
    go_loopw [13] (fun i wr => ∃ j : Nat, j ≤ n ∧ i = .int .i64 j ∧ (∀ i, i < j → idP zs i = idP ys i) ∧ Below w.heap.size w wr) (fun i _ => n - (intOf i).toNat)
    case atStart => exact ⟨0, Nat.zero_le _, rfl, fun i hi => absurd hi (Nat.not_lt_zero i), Below.refl _ _⟩
    case round =>
      obtain ⟨j, hj, rfl, hno, hB⟩ := hrel
      by_cases hlt : j < n
      · have hji : (j : Int) < (n : Int) := by omega
        obtain ⟨b, off, rfl, hp⟩ := (hTH.out.keep hB).get hlt
        obtain ⟨b', off', rfl, hp'⟩ := (hTH'.out.keep hB).get hlt
        have hq := heq.out j hlt
        have HY := hps.out j hlt
        have HZ := hps'.out j hlt
        obtain ⟨F, hF⟩ : ∃ F, (idP zs j == idP ys j) = F := ⟨_, rfl⟩
        rw [hF] at hq
        have hFH := Lib.hid hF
        have hnoH := Lib.hid hno
        obtain ⟨Y, hY⟩ : ∃ Y, (idP zs j).map (Value.int .u8) = Y := ⟨_, rfl⟩
        obtain ⟨Z, hZ⟩ : ∃ Y, (idP ys j).map (Value.int .u8) = Y := ⟨_, rfl⟩
        rw [hY] at hq hp HY
        rw [hZ] at hq hp' HZ
        have hltH := Lib.hid hlt
        have hng := noGuardIds
        clear hlt hj hno hF hY hZ
        go_wp2_with fail
        refine region_seqS (fun w' => w' = wr.drew) (by kernel_rfl) rfl ?_
        simp only [pairs, Nat.reduceAdd]
        repeat (first
          | (refine SeqS.take (v := .agg (Y).toArray) (by first | assumption | trivial) (by kernel_rfl) (by decide +kernel) (by decide +kernel) (yields_part (by rfl) 28 (.tmp 18) rfl rfl (fun w' h => by subst h; exact hp) (HY)) ?_
             simp only [Act.put, List.setIfInBounds_toArray, List.set_cons_zero, List.set_cons_succ])
          | (refine SeqS.take (v := .agg (Z).toArray) (by first | assumption | trivial) (by kernel_rfl) (by decide +kernel) (by decide +kernel) (yields_part (by rfl) 28 (.tmp 22) rfl rfl (fun w' h => by subst h; exact hp') (HZ)) ?_
             simp only [Act.put, List.setIfInBounds_toArray, List.set_cons_zero, List.set_cons_succ])
          | (refine SeqS.take (v := ?_) (by first | assumption | trivial) (by kernel_rfl) (by decide +kernel) (by decide +kernel) (Or.inl ⟨by rfl, ?_⟩) ?_
             rotate_left
             focus
               intro w' hb'
               go_simp
               with_reducible rfl
             simp only [Act.put, List.setIfInBounds_toArray, List.set_cons_zero, List.set_cons_succ])
          | (refine SeqS.take (v := ?_) (by first | assumption | trivial) (by kernel_rfl) (by decide +kernel) (by decide +kernel) (Or.inl ⟨by rfl, ?_⟩) ?_
             rotate_left
             focus
               intro w' hb'
               have d0 := hq w'
               go_simp
               with_reducible rfl
             simp only [Act.put, List.setIfInBounds_toArray, List.set_cons_zero, List.set_cons_succ])
          | (refine SeqS.take (v := undef) (by first | assumption | trivial) (by kernel_rfl) (by decide +kernel) (by decide +kernel) (Or.inr ⟨by rfl, rfl⟩) ?_
             simp only [Act.put, List.setIfInBounds_toArray, List.set_cons_zero, List.set_cons_succ])
          | (refine SeqS.take1 (v := .agg (Y).toArray) (by first | assumption | trivial) (by kernel_rfl) (by decide +kernel) (by decide +kernel) (yields_part (by rfl) 28 (.tmp 18) rfl rfl (fun w' h => by subst h; exact hp) (HY)) ?_
             simp only [Act.put, List.setIfInBounds_toArray, List.set_cons_zero, List.set_cons_succ])
          | (refine SeqS.take1 (v := .agg (Z).toArray) (by first | assumption | trivial) (by kernel_rfl) (by decide +kernel) (by decide +kernel) (yields_part (by rfl) 28 (.tmp 22) rfl rfl (fun w' h => by subst h; exact hp') (HZ)) ?_
             simp only [Act.put, List.setIfInBounds_toArray, List.set_cons_zero, List.set_cons_succ])
          | (refine SeqS.take1 (v := ?_) (by first | assumption | trivial) (by kernel_rfl) (by decide +kernel) (by decide +kernel) (Or.inl ⟨by rfl, ?_⟩) ?_
             rotate_left
             focus
               intro w' hb'
               go_simp
               with_reducible rfl
             simp only [Act.put, List.setIfInBounds_toArray, List.set_cons_zero, List.set_cons_succ])
          | (refine SeqS.take1 (v := ?_) (by first | assumption | trivial) (by kernel_rfl) (by decide +kernel) (by decide +kernel) (Or.inl ⟨by rfl, ?_⟩) ?_
             rotate_left
             focus
               intro w' hb'
               have d0 := hq w'
               go_simp
               with_reducible rfl
             simp only [Act.put, List.setIfInBounds_toArray, List.set_cons_zero, List.set_cons_succ])
          | (refine SeqS.take1 (v := undef) (by first | assumption | trivial) (by kernel_rfl) (by decide +kernel) (by decide +kernel) (Or.inr ⟨by rfl, rfl⟩) ?_
             simp only [Act.put, List.setIfInBounds_toArray, List.set_cons_zero, List.set_cons_succ])
          | (refine SeqS.take2 (v := .agg (Y).toArray) (by first | assumption | trivial) (by kernel_rfl) (by decide +kernel) (by decide +kernel) (yields_part (by rfl) 28 (.tmp 18) rfl rfl (fun w' h => by subst h; exact hp) (HY)) ?_
             simp only [Act.put, List.setIfInBounds_toArray, List.set_cons_zero, List.set_cons_succ])
          | (refine SeqS.take2 (v := .agg (Z).toArray) (by first | assumption | trivial) (by kernel_rfl) (by decide +kernel) (by decide +kernel) (yields_part (by rfl) 28 (.tmp 22) rfl rfl (fun w' h => by subst h; exact hp') (HZ)) ?_
             simp only [Act.put, List.setIfInBounds_toArray, List.set_cons_zero, List.set_cons_succ])
          | (refine SeqS.take2 (v := ?_) (by first | assumption | trivial) (by kernel_rfl) (by decide +kernel) (by decide +kernel) (Or.inl ⟨by rfl, ?_⟩) ?_
             rotate_left
             focus
               intro w' hb'
               go_simp
               with_reducible rfl
             simp only [Act.put, List.setIfInBounds_toArray, List.set_cons_zero, List.set_cons_succ])
          | (refine SeqS.take2 (v := ?_) (by first | assumption | trivial) (by kernel_rfl) (by decide +kernel) (by decide +kernel) (Or.inl ⟨by rfl, ?_⟩) ?_
             rotate_left
             focus
               intro w' hb'
               have d0 := hq w'
               go_simp
               with_reducible rfl
             simp only [Act.put, List.setIfInBounds_toArray, List.set_cons_zero, List.set_cons_succ])
          | (refine SeqS.take2 (v := undef) (by first | assumption | trivial) (by kernel_rfl) (by decide +kernel) (by decide +kernel) (Or.inr ⟨by rfl, rfl⟩) ?_
             simp only [Act.put, List.setIfInBounds_toArray, List.set_cons_zero, List.set_cons_succ])
          | (refine SeqS.take3 (v := .agg (Y).toArray) (by first | assumption | trivial) (by kernel_rfl) (by decide +kernel) (by decide +kernel) (yields_part (by rfl) 28 (.tmp 18) rfl rfl (fun w' h => by subst h; exact hp) (HY)) ?_
             simp only [Act.put, List.setIfInBounds_toArray, List.set_cons_zero, List.set_cons_succ])
          | (refine SeqS.take3 (v := .agg (Z).toArray) (by first | assumption | trivial) (by kernel_rfl) (by decide +kernel) (by decide +kernel) (yields_part (by rfl) 28 (.tmp 22) rfl rfl (fun w' h => by subst h; exact hp') (HZ)) ?_
             simp only [Act.put, List.setIfInBounds_toArray, List.set_cons_zero, List.set_cons_succ])
          | (refine SeqS.take3 (v := ?_) (by first | assumption | trivial) (by kernel_rfl) (by decide +kernel) (by decide +kernel) (Or.inl ⟨by rfl, ?_⟩) ?_
             rotate_left
             focus
               intro w' hb'
               go_simp
               with_reducible rfl
             simp only [Act.put, List.setIfInBounds_toArray, List.set_cons_zero, List.set_cons_succ])
          | (refine SeqS.take3 (v := ?_) (by first | assumption | trivial) (by kernel_rfl) (by decide +kernel) (by decide +kernel) (Or.inl ⟨by rfl, ?_⟩) ?_
             rotate_left
             focus
               intro w' hb'
               have d0 := hq w'
               go_simp
               with_reducible rfl
             simp only [Act.put, List.setIfInBounds_toArray, List.set_cons_zero, List.set_cons_succ])
          | (refine SeqS.take3 (v := undef) (by first | assumption | trivial) (by kernel_rfl) (by decide +kernel) (by decide +kernel) (Or.inr ⟨by rfl, rfl⟩) ?_
             simp only [Act.put, List.setIfInBounds_toArray, List.set_cons_zero, List.set_cons_succ]))
        refine SeqS.done (by decide +kernel) ?_
        cases F with
        | true =>
          have hgoH := Lib.hid (show ∀ i, i < j + 1 → idP zs i = idP ys i by
            intro i hi
            by_cases e : i = j
            · subst e; exact eq_of_beq hFH.out
            · exact hnoH.out i (by omega))
          have hB2 : Below w.heap.size w wr.drew := Below.drew hB
          clear hq hng HY HZ hp hp' hB
          go_wp2
          exact ⟨⟨j + 1, by have := hltH.out; omega, by congr 1, hgoH.out, hB2⟩, by simp only [intOf]; have := hltH.out; omega⟩
        | false =>
          have hR : R = false := by
            rw [← hRH.out]
            refine beq_false_of_ne (fun e => ?_)
            have := hFH.out
            rw [e] at this
            exact absurd (beq_self_eq_true _) (by rw [this]; decide)
          subst hR
          go_wp2
          go_ret
          exact ⟨rfl, Below.drew hB⟩
      · obtain rfl : n = j := by omega
        have hji : ¬ (n : Int) < (n : Int) := by omega
        have hR : R = true := by rw [← hRH.out, hext.out hno]; exact beq_self_eq_true _
        subst hR
        clear hlt hj hno
        go_wp2
        go_ret
        exact ⟨rfl, hB⟩
  · have hne : ¬ (n : Int) = (n' : Int) := by omega
    rw [show decide (n = n') = false from decide_eq_false hnn, Bool.false_and]
    clear hT hT'
    go_enter Try.func60, Try.ntmps60
    go_wp2
    go_ret
    exact ⟨rfl, Below.refl _ _⟩

set_option maxRecDepth 100000 in
set_option maxHeartbeats 2000000 in
theorem bkSame_any (H P : List Int) (a : Option Addr) (n c : Nat) (zs : List Int) (H' P' : List Int) (a' : Option Addr) (n' c' : Nat) (ys : List Int) (w : World) (hH : H.length = 32) (hP : P.length = 32) (hH' : H'.length = 32) (hP' : P'.length = 32) (hT : IdsAt w a n c zs) (hT' : IdsAt w a' n' c' ys) (hn : n ≤ 100000) :
    Calls Try.prog 38 #[.agg (bkC H P a n c).toArray, .agg (bkC H' P' a' n' c').toArray] w fun q w' => q = .returned (.bool (sameK ⟨H, P, n, zs⟩ ⟨H', P', n', ys⟩)) ∧ Below w.heap.size w w' := by
  have hcc := fun (w' : World) (h : IdsAt w' a n c zs) (h' : IdsAt w' a' n' c' ys) => bkEqual_any a n c zs a' n' c' ys w' h h' hn
  have heq := fun w' => eqId16 H H' hH hH' w'
  have heq' := fun w' => eqId16 P P' hP hP' w'
  have hr1 := rowId_of hH
  have hr2 := rowId_of hP
  have hr3 := rowId_of hH'
  have hr4 := rowId_of hP'
  have hb := below2 w (.cells (bkC H P a n c).toArray 31) (.cells (bkC H' P' a' n' c').toArray 31)
  have hk : Blk ((w.alloc (.cells (bkC H P a n c).toArray 31)).alloc (.cells (bkC H' P' a' n' c').toArray 31)) w.heap.size 31 (bkC H P a n c) := (Blk.new w _ _).alloc _
  have hk2 : Blk ((w.alloc (.cells (bkC H P a n c).toArray 31)).alloc (.cells (bkC H' P' a' n' c').toArray 31)) (w.heap.size + 1) 31 (bkC H' P' a' n' c') := Blk.new1 w _ _ _
  have p0 := bk0 hk
  have p1 := bk1 hk hH
  have p2 := bk2 hk hH hP
  have q0 := bk0 hk2
  have q1 := bk1 hk2 hH'
  have q2 := bk2 hk2 hH' hP'
  obtain ⟨C, hC⟩ : ∃ C, bkC H P a n c = C := ⟨_, rfl⟩
  obtain ⟨D, hD⟩ : ∃ C, bkC H' P' a' n' c' = C := ⟨_, rfl⟩
  rw [hC, hD] at hb p0 p1 p2 q0 q1 q2
  rw [hC, hD]
  obtain ⟨V, hV⟩ : ∃ V, (w.alloc (.cells C.toArray 31)).alloc (.cells D.toArray 31) = V := ⟨_, rfl⟩
  rw [hV] at hb p0 p1 p2 q0 q1 q2
  have hc := Lib.hid (hcc V (hT.keep hb) (hT'.keep hb))
  obtain ⟨G, g9⟩ : ∃ G, w.heap.size = G := ⟨_, rfl⟩
  rw [g9] at p0 p1 p2 q0 q1 q2
  unfold sameK
  obtain ⟨S, hS⟩ : ∃ C, sameL n zs n' ys = C := ⟨_, rfl⟩
  rw [hS] at hc ⊢
  obtain ⟨F, hF⟩ : ∃ C, (H == H') = C := ⟨_, rfl⟩
  rw [hF] at heq ⊢
  obtain ⟨E, hE⟩ : ∃ C, (P == P') = C := ⟨_, rfl⟩
  rw [hE] at heq' ⊢
  obtain ⟨X0, hX0⟩ : ∃ C, H.map (Value.int .u8) = C := ⟨_, rfl⟩
  obtain ⟨X1, hX1⟩ : ∃ C, P.map (Value.int .u8) = C := ⟨_, rfl⟩
  obtain ⟨Y0, hY0⟩ : ∃ C, H'.map (Value.int .u8) = C := ⟨_, rfl⟩
  obtain ⟨Y1, hY1⟩ : ∃ C, P'.map (Value.int .u8) = C := ⟨_, rfl⟩
  rw [hX0] at p0 hr1 heq
  rw [hX1] at p1 hr2 heq'
  rw [hY0] at q0 hr3 heq
  rw [hY1] at q1 hr4 heq'
  have hng := noGuardIds
  have hbH := Lib.hid hb
  clear hk hk2 hC hD hF hE hX0 hX1 hY0 hY1 hb hcc hT hT' hS
  cases F with
  | false =>
    go_enter Try.func38, Try.ntmps38
    go_wp2_with (first
      | ((with_reducible refine box_row rfl 31 (.tmp 0) rfl C ?_ ?_); rfl)
      | ((with_reducible refine box_row rfl 31 (.tmp 1) rfl D ?_ ?_); rfl; refine RowKit.Hid.out ?_))
    refine Lib.hid ?_
    clear hV g9
    go_wp2_with (first
      | ((with_reducible refine load_pif rfl 28 (.tmp 5) rfl ?_ X0 p0 hr1 ?_); rfl)
      | ((with_reducible refine load_pif rfl 28 (.tmp 7) rfl ?_ Y0 q0 hr3 ?_); rfl)
      | ((with_reducible refine load_pif rfl 28 (.tmp 11) rfl ?_ X1 p1 hr2 ?_); rfl)
      | ((with_reducible refine load_pif rfl 28 (.tmp 13) rfl ?_ Y1 q1 hr4 ?_); rfl))
    go_ret
    exact ⟨by first | rfl | simp, hbH.out⟩
  | true =>
    cases E with
    | false =>
      go_enter Try.func38, Try.ntmps38
      go_wp2_with (first
        | ((with_reducible refine box_row rfl 31 (.tmp 0) rfl C ?_ ?_); rfl)
        | ((with_reducible refine box_row rfl 31 (.tmp 1) rfl D ?_ ?_); rfl; refine RowKit.Hid.out ?_))
      refine Lib.hid ?_
      clear hV g9
      go_wp2_with (first
        | ((with_reducible refine load_pif rfl 28 (.tmp 5) rfl ?_ X0 p0 hr1 ?_); rfl)
        | ((with_reducible refine load_pif rfl 28 (.tmp 7) rfl ?_ Y0 q0 hr3 ?_); rfl)
        | ((with_reducible refine load_pif rfl 28 (.tmp 11) rfl ?_ X1 p1 hr2 ?_); rfl)
        | ((with_reducible refine load_pif rfl 28 (.tmp 13) rfl ?_ Y1 q1 hr4 ?_); rfl))
      go_ret
      exact ⟨by first | rfl | simp, hbH.out⟩
    | true =>
      go_enter Try.func38, Try.ntmps38
      go_wp2_with (first
        | ((with_reducible refine box_row rfl 31 (.tmp 0) rfl C ?_ ?_); rfl)
        | ((with_reducible refine box_row rfl 31 (.tmp 1) rfl D ?_ ?_); rfl; refine RowKit.Hid.out ?_))
      refine Lib.hid ?_
      clear hV g9
      go_wp2_with (first
        | ((with_reducible refine load_pif rfl 28 (.tmp 5) rfl ?_ X0 p0 hr1 ?_); rfl)
        | ((with_reducible refine load_pif rfl 28 (.tmp 7) rfl ?_ Y0 q0 hr3 ?_); rfl)
        | ((with_reducible refine load_pif rfl 28 (.tmp 11) rfl ?_ X1 p1 hr2 ?_); rfl)
        | ((with_reducible refine load_pif rfl 28 (.tmp 13) rfl ?_ Y1 q1 hr4 ?_); rfl))
      refine hc.out.mono ?_
      rintro q w1 ⟨rfl, b1⟩
      go_wp2
      go_ret
      exact ⟨by first | rfl | simp, hbH.out.trans (b1.mono hbH.out.size)⟩

set_option maxRecDepth 100000 in
set_option maxHeartbeats 2000000 in
theorem r16Same_any (H P : List Int) (a : Option Addr) (n c : Nat) (zs : List Int) (H' P' : List Int) (a' : Option Addr) (n' c' : Nat) (ys : List Int) (w : World) (hH : H.length = 32) (hP : P.length = 32) (hH' : H'.length = 32) (hP' : P'.length = 32) (hT : IdsAt w a n c zs) (hT' : IdsAt w a' n' c' ys) (hn : n ≤ 100000) :
    Calls Try.prog 24 #[.agg (bkC H P a n c).toArray, .agg (bkC H' P' a' n' c').toArray] w fun q w' => q = .returned (.bool (sameK ⟨H, P, n, zs⟩ ⟨H', P', n', ys⟩)) ∧ Below w.heap.size w w' := by
  have hcc := fun (w' : World) (h : IdsAt w' a n c zs) (h' : IdsAt w' a' n' c' ys) => rSameB_any a n c zs a' n' c' ys w' h h' hn
  have heq := fun w' => eqId16 H H' hH hH' w'
  have heq' := fun w' => eqId16 P P' hP hP' w'
  have hr1 := rowId_of hH
  have hr2 := rowId_of hP
  have hr3 := rowId_of hH'
  have hr4 := rowId_of hP'
  have hb := below2 w (.cells (bkC H P a n c).toArray 31) (.cells (bkC H' P' a' n' c').toArray 31)
  have hk : Blk ((w.alloc (.cells (bkC H P a n c).toArray 31)).alloc (.cells (bkC H' P' a' n' c').toArray 31)) w.heap.size 31 (bkC H P a n c) := (Blk.new w _ _).alloc _
  have hk2 : Blk ((w.alloc (.cells (bkC H P a n c).toArray 31)).alloc (.cells (bkC H' P' a' n' c').toArray 31)) (w.heap.size + 1) 31 (bkC H' P' a' n' c') := Blk.new1 w _ _ _
  have p0 := bk0 hk
  have p1 := bk1 hk hH
  have p2 := bk2 hk hH hP
  have q0 := bk0 hk2
  have q1 := bk1 hk2 hH'
  have q2 := bk2 hk2 hH' hP'
  obtain ⟨C, hC⟩ : ∃ C, bkC H P a n c = C := ⟨_, rfl⟩
  obtain ⟨D, hD⟩ : ∃ C, bkC H' P' a' n' c' = C := ⟨_, rfl⟩
  rw [hC, hD] at hb p0 p1 p2 q0 q1 q2
  rw [hC, hD]
  obtain ⟨V, hV⟩ : ∃ V, (w.alloc (.cells C.toArray 31)).alloc (.cells D.toArray 31) = V := ⟨_, rfl⟩
  rw [hV] at hb p0 p1 p2 q0 q1 q2
  have hc := Lib.hid (hcc V (hT.keep hb) (hT'.keep hb))
  obtain ⟨G, g9⟩ : ∃ G, w.heap.size = G := ⟨_, rfl⟩
  rw [g9] at p0 p1 p2 q0 q1 q2
  unfold sameK
  obtain ⟨S, hS⟩ : ∃ C, sameL n zs n' ys = C := ⟨_, rfl⟩
  rw [hS] at hc ⊢
  obtain ⟨F, hF⟩ : ∃ C, (H == H') = C := ⟨_, rfl⟩
  rw [hF] at heq ⊢
  obtain ⟨E, hE⟩ : ∃ C, (P == P') = C := ⟨_, rfl⟩
  rw [hE] at heq' ⊢
  obtain ⟨X0, hX0⟩ : ∃ C, H.map (Value.int .u8) = C := ⟨_, rfl⟩
  obtain ⟨X1, hX1⟩ : ∃ C, P.map (Value.int .u8) = C := ⟨_, rfl⟩
  obtain ⟨Y0, hY0⟩ : ∃ C, H'.map (Value.int .u8) = C := ⟨_, rfl⟩
  obtain ⟨Y1, hY1⟩ : ∃ C, P'.map (Value.int .u8) = C := ⟨_, rfl⟩
  rw [hX0] at p0 hr1 heq
  rw [hX1] at p1 hr2 heq'
  rw [hY0] at q0 hr3 heq
  rw [hY1] at q1 hr4 heq'
  have hng := noGuardIds
  have hbH := Lib.hid hb
  clear hk hk2 hC hD hF hE hX0 hX1 hY0 hY1 hb hcc hT hT' hS
  cases F with
  | false =>
    go_enter Try.func24, Try.ntmps24
    go_wp2_with (first
      | ((with_reducible refine box_row rfl 31 (.tmp 0) rfl C ?_ ?_); rfl)
      | ((with_reducible refine box_row rfl 31 (.tmp 1) rfl D ?_ ?_); rfl; refine RowKit.Hid.out ?_))
    refine Lib.hid ?_
    clear hV g9
    go_wp2_with (first
      | ((with_reducible refine load_pif rfl 28 (.tmp 5) rfl ?_ X0 p0 hr1 ?_); rfl)
      | ((with_reducible refine load_pif rfl 28 (.tmp 7) rfl ?_ Y0 q0 hr3 ?_); rfl)
      | ((with_reducible refine load_pif rfl 28 (.tmp 11) rfl ?_ X1 p1 hr2 ?_); rfl)
      | ((with_reducible refine load_pif rfl 28 (.tmp 13) rfl ?_ Y1 q1 hr4 ?_); rfl))
    go_ret
    exact ⟨by first | rfl | simp, hbH.out⟩
  | true =>
    cases E with
    | false =>
      go_enter Try.func24, Try.ntmps24
      go_wp2_with (first
        | ((with_reducible refine box_row rfl 31 (.tmp 0) rfl C ?_ ?_); rfl)
        | ((with_reducible refine box_row rfl 31 (.tmp 1) rfl D ?_ ?_); rfl; refine RowKit.Hid.out ?_))
      refine Lib.hid ?_
      clear hV g9
      go_wp2_with (first
        | ((with_reducible refine load_pif rfl 28 (.tmp 5) rfl ?_ X0 p0 hr1 ?_); rfl)
        | ((with_reducible refine load_pif rfl 28 (.tmp 7) rfl ?_ Y0 q0 hr3 ?_); rfl)
        | ((with_reducible refine load_pif rfl 28 (.tmp 11) rfl ?_ X1 p1 hr2 ?_); rfl)
        | ((with_reducible refine load_pif rfl 28 (.tmp 13) rfl ?_ Y1 q1 hr4 ?_); rfl))
      go_ret
      exact ⟨by first | rfl | simp, hbH.out⟩
    | true =>
      go_enter Try.func24, Try.ntmps24
      go_wp2_with (first
        | ((with_reducible refine box_row rfl 31 (.tmp 0) rfl C ?_ ?_); rfl)
        | ((with_reducible refine box_row rfl 31 (.tmp 1) rfl D ?_ ?_); rfl; refine RowKit.Hid.out ?_))
      refine Lib.hid ?_
      clear hV g9
      go_wp2_with (first
        | ((with_reducible refine load_pif rfl 28 (.tmp 5) rfl ?_ X0 p0 hr1 ?_); rfl)
        | ((with_reducible refine load_pif rfl 28 (.tmp 7) rfl ?_ Y0 q0 hr3 ?_); rfl)
        | ((with_reducible refine load_pif rfl 28 (.tmp 11) rfl ?_ X1 p1 hr2 ?_); rfl)
        | ((with_reducible refine load_pif rfl 28 (.tmp 13) rfl ?_ Y1 q1 hr4 ?_); rfl))
      refine hc.out.mono ?_
      rintro q w1 ⟨rfl, b1⟩
      go_wp2
      go_ret
      exact ⟨by first | rfl | simp, hbH.out.trans (b1.mono hbH.out.size)⟩
end Go.Proofs.Ytaaflnmdaplfkaa

/-
  Records (layer 17) as data: which may be, their bytes, and what is read of bytes. No Go function is spoken of. No conditions but those that each row names.
-/
namespace Go.Proofs.Ytaaflnmdaplfkaa
open Go.RowKit

structure RecV where
  m : MsgV
  b : BlkV
def noRec : RecV := ⟨noMsg, noBlk⟩
/-- The fields' ranges. -/
def RecOk (r : RecV) : Prop := MsgOk r.m ∧ BlkOk r.b
theorem noMsg_okR : MsgOk noMsg := ⟨zero_ok, zero_ok, zero_ok, rfl, z16_range, fun _ h => by cases h⟩
theorem z32_ok : okB z32 := fun x h => by obtain ⟨_, rfl⟩ := List.mem_replicate.1 h; decide
theorem noBlk_ok : BlkOk noBlk := ⟨rfl, rfl, rfl, z32_ok, z32_ok, fun _ h => by cases h⟩
theorem noRec_ok : RecOk noRec := ⟨noMsg_okR, noBlk_ok⟩
def sameM (a b : MsgV) : Bool := a.kind == b.kind && (a.ses == b.ses && (a.seq == b.seq && (a.quo == b.quo && (a.hint == b.hint && a.blob == b.blob))))
def sameRec (a b : RecV) : Bool := sameM a.m b.m && sameK a.b b.b
theorem sameM_iff {a b : MsgV} : sameM a b = true ↔ a = b := by
  obtain ⟨k, s, q, o, h, x⟩ := a
  obtain ⟨k', s', q', o', h', x'⟩ := b
  simp only [sameM, Bool.and_eq_true, beq_iff_eq, MsgV.mk.injEq]
theorem sameRec_iff {a b : RecV} : sameRec a b = true ↔ a = b := by
  obtain ⟨m1, b1⟩ := a
  obtain ⟨m2, b2⟩ := b
  simp only [sameRec, Bool.and_eq_true, sameM_iff, sameK_iff, RecV.mk.injEq]
theorem sameRec_self (a : RecV) : sameRec a a = true := sameRec_iff.2 rfl
/-- The block that a Disconnect has. -/
def bareK (b : BlkV) : BlkV := ⟨b.hash, z32, 0, []⟩
def rightRec (r : RecV) : Bool :=
  if r.m.kind = 1 then r.m.seq == 0 && (r.m.hint == z16 && (r.m.blob == [] && (sameK r.b noBlk && (decide (1 ≤ r.m.quo) && decide (r.m.quo ≤ 64)))))
  else if r.m.kind = 2 then r.m.quo == 0 && (sameK r.b noBlk && decide (r.m.blob.length ≤ 600))
  else if r.m.kind = 4 then r.m.quo == 0 && (r.m.seq == 0 && (r.m.hint == z16 && (r.m.blob == [] && sameK r.b noBlk)))
  else if r.m.kind = 5 then r.m.ses == 0 && (r.m.quo == 0 && (r.m.seq == 0 && (r.m.hint == z16 && (r.m.blob == [] && rightK r.b))))
  else if r.m.kind = 6 then r.m.ses == 0 && (r.m.quo == 0 && (r.m.seq == 0 && (r.m.hint == z16 && (r.m.blob == [] && sameK r.b (bareK r.b)))))
  else false
/-- What a kind asks beside that all else is 0. -/
def mayC (r : RecV) : Bool :=
  if r.m.kind = 1 then decide (1 ≤ r.m.quo) && decide (r.m.quo ≤ 64)
  else if r.m.kind = 2 then decide (r.m.blob.length ≤ 600)
  else if r.m.kind = 4 then true
  else if r.m.kind = 5 then rightK r.b
  else if r.m.kind = 6 then true
  else false
/-- What the kind has, and nothing else. -/
def ownC (r : RecV) : RecV :=
  if r.m.kind = 1 then ⟨⟨r.m.kind, r.m.ses, 0, r.m.quo, z16, []⟩, noBlk⟩
  else if r.m.kind = 2 then ⟨⟨r.m.kind, r.m.ses, r.m.seq, 0, r.m.hint, r.m.blob⟩, noBlk⟩
  else if r.m.kind = 4 then ⟨⟨r.m.kind, r.m.ses, 0, 0, z16, []⟩, noBlk⟩
  else if r.m.kind = 5 then ⟨⟨r.m.kind, 0, 0, 0, z16, []⟩, r.b⟩
  else if r.m.kind = 6 then ⟨⟨r.m.kind, 0, 0, 0, z16, []⟩, bareK r.b⟩
  else ⟨⟨r.m.kind, 0, 0, 0, z16, []⟩, noBlk⟩
theorem rightRec_own (r : RecV) : rightRec r = (mayC r && sameRec r (ownC r)) := by
  obtain ⟨⟨k, s, q, o, h, x⟩, b⟩ := r
  rw [Bool.eq_iff_iff]
  unfold rightRec mayC ownC
  dsimp only
  by_cases h1 : k = 1
  · simp only [if_pos h1, Bool.and_eq_true, beq_iff_eq, decide_eq_true_eq, sameRec, sameM, sameK_iff]
    constructor
    · rintro ⟨a1, a2, a3, a4, a5, a6⟩
      exact ⟨⟨a5, a6⟩, ⟨trivial, trivial, a1, trivial, a2, a3⟩, a4⟩
    · rintro ⟨⟨a5, a6⟩, ⟨_, _, a1, _, a2, a3⟩, a4⟩
      exact ⟨a1, a2, a3, a4, a5, a6⟩
  rw [if_neg h1, if_neg h1, if_neg h1]
  by_cases h2 : k = 2
  · simp only [if_pos h2, Bool.and_eq_true, beq_iff_eq, decide_eq_true_eq, sameRec, sameM, sameK_iff]
    constructor
    · rintro ⟨a1, a2, a3⟩
      exact ⟨a3, ⟨trivial, trivial, trivial, a1, trivial, trivial⟩, a2⟩
    · rintro ⟨a3, ⟨_, _, _, a1, _, _⟩, a2⟩
      exact ⟨a1, a2, a3⟩
  rw [if_neg h2, if_neg h2, if_neg h2]
  by_cases h3 : k = 4
  · simp only [if_pos h3, Bool.and_eq_true, beq_iff_eq, sameRec, sameM, sameK_iff]
    constructor
    · rintro ⟨a1, a2, a3, a4, a5⟩
      exact ⟨trivial, ⟨trivial, trivial, a2, a1, a3, a4⟩, a5⟩
    · rintro ⟨_, ⟨_, _, a2, a1, a3, a4⟩, a5⟩
      exact ⟨a1, a2, a3, a4, a5⟩
  rw [if_neg h3, if_neg h3, if_neg h3]
  by_cases h4 : k = 5
  · simp only [if_pos h4, Bool.and_eq_true, beq_iff_eq, sameRec, sameM, sameK_iff]
    constructor
    · rintro ⟨a1, a2, a3, a4, a5, a6⟩
      exact ⟨a6, ⟨trivial, a1, a3, a2, a4, a5⟩, trivial⟩
    · rintro ⟨a6, ⟨_, a1, a3, a2, a4, a5⟩, _⟩
      exact ⟨a1, a2, a3, a4, a5, a6⟩
  rw [if_neg h4, if_neg h4, if_neg h4]
  by_cases h5 : k = 6
  · simp only [if_pos h5, Bool.and_eq_true, beq_iff_eq, sameRec, sameM, sameK_iff]
    constructor
    · rintro ⟨a1, a2, a3, a4, a5, a6⟩
      exact ⟨trivial, ⟨trivial, a1, a3, a2, a4, a5⟩, a6⟩
    · rintro ⟨_, ⟨_, a1, a3, a2, a4, a5⟩, a6⟩
      exact ⟨a1, a2, a3, a4, a5, a6⟩
  rw [if_neg h5, if_neg h5, if_neg h5, Bool.false_and]
/-- What a record that may be has, by its kind. -/
theorem right_cases {r : RecV} (h : rightRec r = true) :
    (∃ s o, r = ⟨⟨1, s, 0, o, z16, []⟩, noBlk⟩ ∧ 1 ≤ o ∧ o ≤ 64) ∨ (∃ s q g x, r = ⟨⟨2, s, q, 0, g, x⟩, noBlk⟩ ∧ x.length ≤ 600) ∨ (∃ s, r = ⟨⟨4, s, 0, 0, z16, []⟩, noBlk⟩) ∨
      (∃ b, r = ⟨⟨5, 0, 0, 0, z16, []⟩, b⟩ ∧ rightK b = true) ∨ (∃ g, r = ⟨⟨6, 0, 0, 0, z16, []⟩, ⟨g, z32, 0, []⟩⟩) := by
  rw [rightRec_own, Bool.and_eq_true, sameRec_iff] at h
  obtain ⟨hm, ho⟩ := h
  obtain ⟨⟨k, s, q, o, g, x⟩, b⟩ := r
  unfold mayC at hm
  unfold ownC at ho
  dsimp only at hm ho
  by_cases h1 : k = 1
  · rw [if_pos h1] at hm ho
    rw [Bool.and_eq_true, decide_eq_true_eq, decide_eq_true_eq] at hm
    subst h1
    exact .inl ⟨s, o, ho, hm⟩
  rw [if_neg h1] at hm ho
  by_cases h2 : k = 2
  · rw [if_pos h2] at hm ho
    rw [decide_eq_true_eq] at hm
    subst h2
    exact .inr (.inl ⟨s, q, g, x, ho, hm⟩)
  rw [if_neg h2] at hm ho
  by_cases h3 : k = 4
  · rw [if_pos h3] at ho
    subst h3
    exact .inr (.inr (.inl ⟨s, ho⟩))
  rw [if_neg h3] at hm ho
  by_cases h4 : k = 5
  · rw [if_pos h4] at hm ho
    subst h4
    exact .inr (.inr (.inr (.inl ⟨b, ho, hm⟩)))
  rw [if_neg h4] at hm ho
  by_cases h5 : k = 6
  · rw [if_pos h5] at ho
    subst h5
    exact .inr (.inr (.inr (.inr ⟨b.hash, ho⟩)))
  rw [if_neg h5] at hm
  cases hm
theorem right_1 (s o : Int) (h : 1 ≤ o ∧ o ≤ 64) : rightRec ⟨⟨1, s, 0, o, z16, []⟩, noBlk⟩ = true := by
  rw [rightRec_own, Bool.and_eq_true, sameRec_iff]
  exact ⟨by unfold mayC; dsimp only; rw [if_pos rfl, Bool.and_eq_true, decide_eq_true_eq, decide_eq_true_eq]; exact h, by unfold ownC; dsimp only; rw [if_pos rfl]⟩
theorem right_2 (s q : Int) (g x : List Int) (h : x.length ≤ 600) : rightRec ⟨⟨2, s, q, 0, g, x⟩, noBlk⟩ = true := by
  rw [rightRec_own, Bool.and_eq_true, sameRec_iff]
  exact ⟨by unfold mayC; dsimp only; rw [if_neg (by decide), if_pos rfl, decide_eq_true_eq]; exact h, by unfold ownC; dsimp only; rw [if_neg (by decide), if_pos rfl]⟩
theorem right_4 (s : Int) : rightRec ⟨⟨4, s, 0, 0, z16, []⟩, noBlk⟩ = true := by
  rw [rightRec_own, Bool.and_eq_true, sameRec_iff]
  exact ⟨by unfold mayC; dsimp only; rw [if_neg (by decide), if_neg (by decide), if_pos rfl], by unfold ownC; dsimp only; rw [if_neg (by decide), if_neg (by decide), if_pos rfl]⟩
theorem right_5 (b : BlkV) (h : rightK b = true) : rightRec ⟨⟨5, 0, 0, 0, z16, []⟩, b⟩ = true := by
  rw [rightRec_own, Bool.and_eq_true, sameRec_iff]
  exact ⟨by unfold mayC; dsimp only; rw [if_neg (by decide), if_neg (by decide), if_neg (by decide), if_pos rfl]; exact h, by unfold ownC; dsimp only; rw [if_neg (by decide), if_neg (by decide), if_neg (by decide), if_pos rfl]⟩
theorem right_6 (g : List Int) : rightRec ⟨⟨6, 0, 0, 0, z16, []⟩, ⟨g, z32, 0, []⟩⟩ = true := by
  rw [rightRec_own, Bool.and_eq_true, sameRec_iff]
  exact ⟨by unfold mayC; dsimp only; rw [if_neg (by decide), if_neg (by decide), if_neg (by decide), if_neg (by decide), if_pos rfl], by unfold ownC; dsimp only; rw [if_neg (by decide), if_neg (by decide), if_neg (by decide), if_neg (by decide), if_pos rfl]; rfl⟩

def recB (r : RecV) : List Int :=
  r.m.kind :: (if r.m.kind = 1 then beL r.m.ses 4 ++ [r.m.quo % 256]
    else if r.m.kind = 2 then beL r.m.ses 4 ++ (beL r.m.seq 4 ++ (r.m.hint ++ r.m.blob))
    else if r.m.kind = 4 then beL r.m.ses 4
    else if r.m.kind = 5 then blkB r.b
    else r.b.hash)
def encRec (r : RecV) : List Int × Int := if rightRec r = true then (recB r, 0) else ([], 1)
def decRec : List Int → RecV × Int
  | [] => (noRec, 2)
  | k :: r =>
    if k = 5 then (if (decK r).2 = 0 then (⟨⟨5, 0, 0, 0, z16, []⟩, (decK r).1⟩, 0) else (noRec, (decK r).2))
    else if k = 1 then (if r.length < 5 then (noRec, 2) else if 5 < r.length then (noRec, 3) else if 1 ≤ r.getD 4 0 ∧ r.getD 4 0 ≤ 64 then (⟨⟨1, be (r.take 4), 0, r.getD 4 0, z16, []⟩, noBlk⟩, 0) else (noRec, 4))
    else if k = 2 then (if r.length < 24 then (noRec, 2) else if 624 < r.length then (noRec, 3) else (⟨⟨2, be (r.take 4), be ((r.drop 4).take 4), 0, (r.drop 8).take 16, r.drop 24⟩, noBlk⟩, 0))
    else if k = 4 then (if r.length < 4 then (noRec, 2) else if 4 < r.length then (noRec, 3) else (⟨⟨4, be r, 0, 0, z16, []⟩, noBlk⟩, 0))
    else if k = 6 then (if r.length < 32 then (noRec, 2) else if 32 < r.length then (noRec, 3) else (⟨⟨6, 0, 0, 0, z16, []⟩, ⟨r, z32, 0, []⟩⟩, 0))
    else (noRec, 4)
theorem decRec_bad : ∀ {b : List Int}, (decRec b).2 ≠ 0 → (decRec b).1 = noRec
  | [], _ => rfl
  | k :: r, h => by
    rw [decRec] at h ⊢
    revert h
    repeat' split
    all_goals first
      | exact fun _ => rfl
      | exact fun h => absurd rfl h
theorem recB_1 (s o q : Int) (g x : List Int) (b : BlkV) : recB ⟨⟨1, s, q, o, g, x⟩, b⟩ = 1 :: (beL s 4 ++ [o % 256]) := by unfold recB; dsimp only; rw [if_pos rfl]
theorem recB_2 (s o q : Int) (g x : List Int) (b : BlkV) : recB ⟨⟨2, s, q, o, g, x⟩, b⟩ = 2 :: (beL s 4 ++ (beL q 4 ++ (g ++ x))) := by unfold recB; dsimp only; rw [if_neg (by decide), if_pos rfl]
theorem recB_4 (s o q : Int) (g x : List Int) (b : BlkV) : recB ⟨⟨4, s, q, o, g, x⟩, b⟩ = 4 :: beL s 4 := by unfold recB; dsimp only; rw [if_neg (by decide), if_neg (by decide), if_pos rfl]
theorem recB_5 (s o q : Int) (g x : List Int) (b : BlkV) : recB ⟨⟨5, s, q, o, g, x⟩, b⟩ = 5 :: blkB b := by unfold recB; dsimp only; rw [if_neg (by decide), if_neg (by decide), if_neg (by decide), if_pos rfl]
theorem recB_6 (s o q : Int) (g x : List Int) (b : BlkV) : recB ⟨⟨6, s, q, o, g, x⟩, b⟩ = 6 :: b.hash := by unfold recB; dsimp only; rw [if_neg (by decide), if_neg (by decide), if_neg (by decide), if_neg (by decide)]
theorem beL_be4R {s : Int} (h : 0 ≤ s ∧ s < 4294967296) : be (beL s 4) = s := be_beL 4 s h.1 (by show s < 256 ^ 4; have := h.2; simpa using this)
theorem take_len {l X : List Int} {n : Nat} (h : l.length = n) : (l ++ X).take n = l := by rw [List.take_append_of_le_length (by omega), List.take_of_length_le (by omega)]
theorem drop_len {l X : List Int} {n : Nat} (h : l.length = n) : (l ++ X).drop n = X := by rw [List.drop_append_of_le_length (by omega), List.drop_of_length_le (by omega), List.nil_append]
/-- What was encoded is decoded. -/
theorem dec_encRec {r : RecV} (hr : RecOk r) (h : rightRec r = true) : decRec (recB r) = (r, 0) := by
  rcases right_cases h with ⟨s, o, rfl, h1, h2⟩ | ⟨s, q, g, x, rfl, hx⟩ | ⟨s, rfl⟩ | ⟨b, rfl, hb⟩ | ⟨g, rfl⟩
  · have hs := hr.1.ses
    dsimp only at hs
    have hl : (beL s 4).length = 4 := beL_len _ _
    have hl2 : (beL s 4 ++ [o % 256]).length = 5 := by rw [List.length_append, hl]; rfl
    have hg : (beL s 4 ++ [o % 256]).getD 4 0 = o := by
      rw [List.getD_eq_getElem?_getD, List.getElem?_append_right (by omega), hl]
      show o % 256 = o
      omega
    rw [recB_1, decRec, if_neg (by decide), if_pos rfl, if_neg (by omega), if_neg (by omega), hg, if_pos ⟨h1, h2⟩, take_len hl, beL_be4R hs]
  · have hs := hr.1.ses
    have hq := hr.1.seq
    have hgl := hr.1.hl
    dsimp only at hs hq hgl
    have hl : (beL s 4).length = 4 := beL_len _ _
    have hl2 : (beL q 4).length = 4 := beL_len _ _
    have hlen : (beL s 4 ++ (beL q 4 ++ (g ++ x))).length = 24 + x.length := by rw [List.length_append, List.length_append, List.length_append, hl, hl2, hgl]; omega
    have d4 : (beL s 4 ++ (beL q 4 ++ (g ++ x))).drop 4 = beL q 4 ++ (g ++ x) := drop_len hl
    have d8 : (beL s 4 ++ (beL q 4 ++ (g ++ x))).drop 8 = g ++ x := by rw [show 8 = 4 + 4 from rfl, ← List.drop_drop, d4, drop_len hl2]
    have d24 : (beL s 4 ++ (beL q 4 ++ (g ++ x))).drop 24 = x := by rw [show 24 = 8 + 16 from rfl, ← List.drop_drop, d8, drop_len hgl]
    rw [recB_2, decRec, if_neg (by decide), if_neg (by decide), if_pos rfl, if_neg (by omega), if_neg (by omega), d4, d8, d24, take_len hl, take_len hl2, take_len hgl, beL_be4R hs, beL_be4R hq]
  · have hs := hr.1.ses
    dsimp only at hs
    have hl : (beL s 4).length = 4 := beL_len _ _
    rw [recB_4, decRec, if_neg (by decide), if_neg (by decide), if_neg (by decide), if_pos rfl, if_neg (by omega), if_neg (by omega), beL_be4R hs]
  · have he := dec_enc hr.2 hb
    rw [recB_5, decRec, if_pos rfl, he]
    dsimp only
    rw [if_pos rfl]
  · have hl : g.length = 32 := hr.2.1
    rw [recB_6, decRec, if_neg (by decide), if_neg (by decide), if_neg (by decide), if_neg (by decide), if_pos rfl]
    dsimp only
    rw [if_neg (by omega), if_neg (by omega)]
theorem be4_range {l : List Int} (h : okB l) (hl : l.length = 4) : 0 ≤ be l ∧ be l < 4294967296 := by
  have := be_range l 4 hl h
  exact ⟨this.1, by have := this.2; show be l < 4294967296; omega⟩
theorem ok_msg {k s q o : Int} {g x : List Int} (hs : 0 ≤ s ∧ s < 4294967296) (hq : 0 ≤ q ∧ q < 4294967296) (ho : 0 ≤ o ∧ o < 4294967296) (hl : g.length = 16) (hg : okB g) (hx : okB x) : MsgOk ⟨k, s, q, o, g, x⟩ := ⟨hs, hq, ho, hl, hg, hx⟩
theorem okB_nil : okB [] := fun _ h => by cases h
theorem okB_take {l : List Int} (h : okB l) (n : Nat) : okB (l.take n) := fun x hx => h x (List.mem_of_mem_take hx)
theorem okB_drop {l : List Int} (h : okB l) (n : Nat) : okB (l.drop n) := fun x hx => h x (List.mem_of_mem_drop hx)
/-- What is decoded may be, and its bytes are those. -/
theorem enc_decRec : ∀ {b : List Int}, okB b → (decRec b).2 = 0 → RecOk (decRec b).1 ∧ rightRec (decRec b).1 = true ∧ recB (decRec b).1 = b
  | [], _, h => absurd h (by decide)
  | k :: r, hb, h => by
    have hr : okB r := fun x hx => hb x (List.mem_cons_of_mem _ hx)
    rw [decRec] at h ⊢
    by_cases h5 : k = 5
    · rw [if_pos h5] at h ⊢
      by_cases he : (decK r).2 = 0
      · obtain ⟨h1, h2, h3⟩ := enc_dec hr he
        rw [if_pos he]
        dsimp only
        exact ⟨⟨ok_msg zero_ok zero_ok zero_ok rfl z16_range okB_nil, h1⟩, right_5 _ h2, by rw [recB_5, h3, h5]⟩
      · rw [if_neg he] at h
        exact absurd h he
    rw [if_neg h5] at h ⊢
    by_cases h1 : k = 1
    · rw [if_pos h1] at h ⊢
      by_cases a1 : r.length < 5
      · rw [if_pos a1] at h; exact absurd h (by decide)
      rw [if_neg a1] at h ⊢
      by_cases a2 : 5 < r.length
      · rw [if_pos a2] at h; exact absurd h (by decide)
      rw [if_neg a2] at h ⊢
      by_cases a3 : 1 ≤ r.getD 4 0 ∧ r.getD 4 0 ≤ 64
      · rw [if_pos a3]
        dsimp only
        have hl4 : (r.take 4).length = 4 := by rw [List.length_take]; omega
        have e4 := beL_be (r.take 4) (okB_take hr 4)
        rw [hl4] at e4
        refine ⟨⟨ok_msg (be4_range (okB_take hr 4) hl4) zero_ok ⟨by omega, by omega⟩ rfl z16_range okB_nil, noBlk_ok⟩, right_1 _ _ a3, ?_⟩
        rw [recB_1, e4, h1]
        have e5 : [r.getD 4 0 % 256] = r.drop 4 := by
          rw [show r.getD 4 0 % 256 = r.getD 4 0 by omega, List.drop_eq_getElem_cons (by omega), List.drop_of_length_le (by omega), List.getD_eq_getElem?_getD, List.getElem?_eq_getElem (by omega)]
          rfl
        rw [e5, List.take_append_drop]
      · rw [if_neg a3] at h; exact absurd h (by decide)
    rw [if_neg h1] at h ⊢
    by_cases h2 : k = 2
    · rw [if_pos h2] at h ⊢
      by_cases a1 : r.length < 24
      · rw [if_pos a1] at h; exact absurd h (by decide)
      rw [if_neg a1] at h ⊢
      by_cases a2 : 624 < r.length
      · rw [if_pos a2] at h; exact absurd h (by decide)
      rw [if_neg a2]
      dsimp only
      have l0 : (r.take 4).length = 4 := by rw [List.length_take]; omega
      have l4 : ((r.drop 4).take 4).length = 4 := by rw [List.length_take, List.length_drop]; omega
      have l8 : ((r.drop 8).take 16).length = 16 := by rw [List.length_take, List.length_drop]; omega
      have e0 := beL_be (r.take 4) (okB_take hr 4)
      have e4 := beL_be ((r.drop 4).take 4) (okB_take (okB_drop hr 4) 4)
      rw [l0] at e0
      rw [l4] at e4
      refine ⟨⟨ok_msg (be4_range (okB_take hr 4) l0) (be4_range (okB_take (okB_drop hr 4) 4) l4) zero_ok l8 (okB_take (okB_drop hr 8) 16) (okB_drop hr 24), noBlk_ok⟩, right_2 _ _ _ _ (by rw [List.length_drop]; omega), ?_⟩
      rw [recB_2, e0, e4, h2]
      have t2 : (r.drop 8).take 16 ++ r.drop 24 = r.drop 8 := by rw [show r.drop 24 = (r.drop 8).drop 16 by rw [List.drop_drop]]; exact List.take_append_drop _ _
      have t3 : (r.drop 4).take 4 ++ r.drop 8 = r.drop 4 := by rw [show r.drop 8 = (r.drop 4).drop 4 by rw [List.drop_drop]]; exact List.take_append_drop _ _
      rw [t2, t3, List.take_append_drop]
    rw [if_neg h2] at h ⊢
    by_cases h4 : k = 4
    · rw [if_pos h4] at h ⊢
      by_cases a1 : r.length < 4
      · rw [if_pos a1] at h; exact absurd h (by decide)
      rw [if_neg a1] at h ⊢
      by_cases a2 : 4 < r.length
      · rw [if_pos a2] at h; exact absurd h (by decide)
      rw [if_neg a2]
      dsimp only
      have hl : r.length = 4 := by omega
      have e := beL_be r hr
      rw [hl] at e
      exact ⟨⟨ok_msg (be4_range hr hl) zero_ok zero_ok rfl z16_range okB_nil, noBlk_ok⟩, right_4 _, by rw [recB_4, e, h4]⟩
    rw [if_neg h4] at h ⊢
    by_cases h6 : k = 6
    · rw [if_pos h6] at h ⊢
      by_cases a1 : r.length < 32
      · rw [if_pos a1] at h; exact absurd h (by decide)
      rw [if_neg a1] at h ⊢
      by_cases a2 : 32 < r.length
      · rw [if_pos a2] at h; exact absurd h (by decide)
      rw [if_neg a2]
      dsimp only
      have hl : r.length = 32 := by omega
      exact ⟨⟨ok_msg zero_ok zero_ok zero_ok rfl z16_range okB_nil, ⟨hl, rfl, rfl, hr, z32_ok, okB_nil⟩⟩, right_6 _, by rw [recB_6, h6]⟩
    · rw [if_neg h6] at h
      exact absurd h (by decide)
theorem decRec_ok {xs : List Int} (hx : okB xs) : RecOk (decRec xs).1 := by
  by_cases he : (decRec xs).2 = 0
  · exact (enc_decRec hx he).1
  · rw [decRec_bad he]; exact noRec_ok
theorem recB_ok {r : RecV} (hr : RecOk r) (h : rightRec r = true) : okB (recB r) := by
  have cons : ∀ {k : Int} {l : List Int}, 0 ≤ k ∧ k < 256 → okB l → okB (k :: l) := fun hk hl x hx => by
    rcases List.mem_cons.1 hx with rfl | hx
    · exact hk
    · exact hl x hx
  have app : ∀ {l l' : List Int}, okB l → okB l' → okB (l ++ l') := fun h1 h2 x hx => by
    rcases List.mem_append.1 hx with hx | hx
    · exact h1 x hx
    · exact h2 x hx
  rcases right_cases h with ⟨s, o, rfl, h1, h2⟩ | ⟨s, q, g, x, rfl, hx⟩ | ⟨s, rfl⟩ | ⟨b, rfl, hb⟩ | ⟨g, rfl⟩
  · rw [recB_1]
    exact cons (by decide) (app (beL_range _ _) (cons (by omega) okB_nil))
  · rw [recB_2]
    exact cons (by decide) (app (beL_range _ _) (app (beL_range _ _) (app hr.1.hr hr.1.br)))
  · rw [recB_4]
    exact cons (by decide) (beL_range _ _)
  · rw [recB_5]
    exact cons (by decide) (blkB_ok hr.2)
  · rw [recB_6]
    exact cons (by decide) hr.2.2.2.2.1
theorem recB_len {r : RecV} (hr : RecOk r) (h : rightRec r = true) : 0 < (recB r).length ∧ (recB r).length ≤ 1090 := by
  rcases right_cases h with ⟨s, o, rfl, h1, h2⟩ | ⟨s, q, g, x, rfl, hx⟩ | ⟨s, rfl⟩ | ⟨b, rfl, hb⟩ | ⟨g, rfl⟩
  · rw [recB_1, List.length_cons, List.length_append, beL_len, List.length_singleton]; omega
  · have hl : g.length = 16 := hr.1.hl
    rw [recB_2, List.length_cons, List.length_append, List.length_append, List.length_append, beL_len, beL_len, hl]; omega
  · rw [recB_4, List.length_cons, beL_len]; omega
  · have := rightK_le hb
    have hl := blkB_len hr.2
    dsimp only at hl
    rw [recB_5, List.length_cons, hl]; omega
  · have hl : g.length = 32 := hr.2.1
    rw [recB_6, List.length_cons]; dsimp only; omega
end Go.Proofs.Ytaaflnmdaplfkaa

/-
  Messages in memory (layer 14): their cells, a block that holds one, values of many cells boxed, stored and told; whether two heads are the same. No conditions but those that each row names.
-/
namespace Go.Proofs.Ytaaflnmdaplfkaa
open Go.RowKit

def hdC (K S Q O : Int) (H : List Int) : List Value := .int .i64 K :: .int .u32 S :: .int .u32 Q :: .int .u32 O :: H.map (Value.int .u8)
def msC (K S Q O : Int) (H : List Int) (a : Option Addr) (n c : Nat) : List Value := hdC K S Q O H ++ [.slice a n c]
theorem hdC_len {K S Q O : Int} {H : List Int} (h : H.length = 16) : (hdC K S Q O H).length = 20 := by simp [hdC, h]
theorem msC_len {K S Q O : Int} {H : List Int} {a : Option Addr} {n c : Nat} (h : H.length = 16) : (msC K S Q O H a n c).length = 21 := by simp [msC, hdC, h]
theorem z16_len : z16.length = 16 := rfl
theorem hdC_one (K S Q O : Int) (H : List Int) : ∀ v ∈ hdC K S Q O H, v.oneCell' = true := by
  intro v hv
  unfold hdC at hv
  simp only [List.mem_cons, List.mem_map] at hv
  rcases hv with rfl | rfl | rfl | rfl | ⟨x, _, rfl⟩ <;> rfl
theorem msC_one (K S Q O : Int) (H : List Int) (a : Option Addr) (n c : Nat) : ∀ v ∈ msC K S Q O H a n c, v.oneCell' = true := by
  intro v hv
  rcases List.mem_append.1 hv with h | h
  · exact hdC_one _ _ _ _ _ v h
  · obtain rfl := List.mem_singleton.1 h
    rfl
theorem hint_one (H : List Int) : ∀ v ∈ H.map (Value.int .u8), v.oneCell' = true := by
  intro v hv
  obtain ⟨x, _, rfl⟩ := List.mem_map.1 hv
  rfl
section
variable {w : World} {g : Nat} {T : TypeId} {K S Q O : Int} {H : List Int} {a : Option Addr} {n c : Nat}
theorem ms0 (h : Blk w g T (msC K S Q O H a n c)) : w.cell? ⟨g, 0, none⟩ = some (.int .i64 K) := h.cell 0
theorem ms1 (h : Blk w g T (msC K S Q O H a n c)) : w.cell? ⟨g, 1, none⟩ = some (.int .u32 S) := h.cell 1
theorem ms2 (h : Blk w g T (msC K S Q O H a n c)) : w.cell? ⟨g, 2, none⟩ = some (.int .u32 Q) := h.cell 2
theorem ms3 (h : Blk w g T (msC K S Q O H a n c)) : w.cell? ⟨g, 3, none⟩ = some (.int .u32 O) := h.cell 3
theorem ms5 (h : Blk w g T (msC K S Q O H a n c)) (hl : H.length = 16) : w.cell? ⟨g, 20, none⟩ = some (.slice a n c) := by
  rw [h.cell, msC, List.getElem?_append_right (by rw [hdC_len hl]; exact Nat.le_refl _), hdC_len hl]
  rfl
theorem ms4 (h : Blk w g T (msC K S Q O H a n c)) (hl : H.length = 16) : w.rangeAt g 4 (H.map (Value.int .u8)) := h.range 4 _ fun j v hj => by
  have hj' := (List.getElem?_eq_some_iff.1 hj).1
  rw [List.length_map] at hj'
  rw [msC, List.getElem?_append_left (by rw [hdC_len hl]; omega), show 4 + j = j + 4 by omega]
  exact hj
end

theorem noGuardHint : Try.prog.eqGuardType Try.prog.depth 25 = false := by kernel_rfl
theorem eq_hint (H H' : List Int) (h : H.length = 16) (h' : H'.length = 16) (d : Nat) (w : World) : (Op.equalIn (d + 2) 25 (.agg (H.map (Value.int .u8)).toArray) (.agg (H'.map (Value.int .u8)).toArray)).run Try.prog w = .ok (H == H') w :=
  run_equalIn_ints (P := Try.prog) w d 25 5 16 .u8 Try.underlying25 Try.underlying5 sizeU8s H H' h h'

end Go.Proofs.Ytaaflnmdaplfkaa

/-
  What message's headOf, bytes.Equal, Same and Copy come to. New memory alone is written. Conditions: a hint has 16 bytes, bytes are below 256.
-/
namespace Go.Proofs.Ytaaflnmdaplfkaa
open Go.RowKit

set_option maxRecDepth 100000 in
set_option maxHeartbeats 400000 in
theorem msEqual_any (a : Option Addr) (n c : Nat) (xs : List Int) (b : Option Addr) (m d : Nat) (ys : List Int) (w : World) (hI : Ints .u8 w a n c xs) (hJ : Ints .u8 w b m d ys) (hx : okB xs) (hy : okB ys) :
    Calls Try.prog 37 #[.slice a n c, .slice b m d] w fun q w' => q = .returned (.bool (xs == ys)) ∧ w = w' := by
  have v1 := hI.string (P := Try.prog) 26 9 5 Try.underlying26 Try.underlying5 Try.underlying9
  have v2 := hJ.string (P := Try.prog) 26 9 5 Try.underlying26 Try.underlying5 Try.underlying9
  have hst := str_eq hx hy
  rw [show decide (xs = ys) = (xs == ys) by rw [Bool.eq_iff_iff]; simp] at hst
  obtain ⟨SA, hSA⟩ : ∃ S, strOfNums xs = S := ⟨_, rfl⟩
  obtain ⟨SB, hSB⟩ : ∃ S, strOfNums ys = S := ⟨_, rfl⟩
  rw [hSA] at v1 hst
  rw [hSB] at v2 hst
  obtain ⟨F, hF⟩ : ∃ F, (xs == ys) = F := ⟨_, rfl⟩
  rw [hF] at hst ⊢
  clear hSA hSB hF hI hJ hx hy
  go_enter Try.func37, Try.ntmps37
  go_wp2
  go_ret
  exact ⟨by first | rfl | (rw [hst]; rfl), rfl⟩
end Go.Proofs.Ytaaflnmdaplfkaa

/-
  Records in memory (layer 17): their 86 cells, a block of memory that holds one, the fields read and written. No conditions but those that each row names.
-/
namespace Go.Proofs.Ytaaflnmdaplfkaa
open Go.RowKit

/-- A record's cells. -/
def rcC (K S Q O : Int) (H : List Int) (a : Option Addr) (n c : Nat) (h p : List Int) (b : Option Addr) (m d : Nat) : List Value := msC K S Q O H a n c ++ bkC h p b m d
def rC (r : RecV) (a : Option Addr) (c : Nat) (b : Option Addr) (d : Nat) : List Value := rcC r.m.kind r.m.ses r.m.seq r.m.quo r.m.hint a r.m.blob.length c r.b.hash r.b.parent b r.b.n d
/-- What a record's slices hold. -/
def RecAt (w : World) (r : RecV) (a : Option Addr) (c : Nat) (b : Option Addr) (d : Nat) : Prop := Ints .u8 w a r.m.blob.length c r.m.blob ∧ IdsAt w b r.b.n d r.b.ids
theorem RecAt.keep {w w' : World} {r : RecV} {a b : Option Addr} {c d : Nat} (h : RecAt w r a c b d) (k : Below w.heap.size w w') : RecAt w' r a c b d := ⟨h.1.keep k, h.2.keep k⟩
section
variable {w : World} {g : Nat} {T : TypeId} {K S Q O : Int} {H : List Int} {a : Option Addr} {n c : Nat} {h p : List Int} {b : Option Addr} {m d : Nat}
theorem rcC_len (hl : H.length = 16) (hh : h.length = 32) (hp : p.length = 32) : (rcC K S Q O H a n c h p b m d).length = 86 := by rw [rcC, List.length_append, msC_len hl, bkC_len hh hp]
theorem rcC_one : ∀ v ∈ rcC K S Q O H a n c h p b m d, v.oneCell' = true := by
  intro v hv
  rcases List.mem_append.1 hv with h | h
  · exact msC_one _ _ _ _ _ _ _ _ v h
  · exact bkC_one _ _ _ _ _ v h
theorem rc0 (k : Blk w g T (rcC K S Q O H a n c h p b m d)) : w.cell? ⟨g, 0, none⟩ = some (.int .i64 K) := k.cell 0
theorem rc1 (k : Blk w g T (rcC K S Q O H a n c h p b m d)) : w.cell? ⟨g, 1, none⟩ = some (.int .u32 S) := k.cell 1
theorem rc2 (k : Blk w g T (rcC K S Q O H a n c h p b m d)) : w.cell? ⟨g, 2, none⟩ = some (.int .u32 Q) := k.cell 2
theorem rc3 (k : Blk w g T (rcC K S Q O H a n c h p b m d)) : w.cell? ⟨g, 3, none⟩ = some (.int .u32 O) := k.cell 3
theorem rc_part (k : Blk w g T (rcC K S Q O H a n c h p b m d)) (X Y Z : List Value) (o : Nat) (e : rcC K S Q O H a n c h p b m d = X ++ (Y ++ Z)) (ho : X.length = o) : w.rangeAt g o Y := k.range o Y fun j v hj => by
  have hj' := (List.getElem?_eq_some_iff.1 hj).1
  rw [e, List.getElem?_append_right (by omega), ho, Nat.add_sub_cancel_left, List.getElem?_append_left hj']
  exact hj
theorem rc4 (k : Blk w g T (rcC K S Q O H a n c h p b m d)) : w.rangeAt g 4 (H.map (Value.int .u8)) :=
  rc_part k [.int .i64 K, .int .u32 S, .int .u32 Q, .int .u32 O] _ ([.slice a n c] ++ bkC h p b m d) 4 (by unfold rcC msC hdC; simp) rfl
theorem rc5 (k : Blk w g T (rcC K S Q O H a n c h p b m d)) (hl : H.length = 16) : w.cell? ⟨g, 20, none⟩ = some (.slice a n c) := by
  rw [k.cell, rcC, msC, List.append_assoc, List.getElem?_append_right (by rw [hdC_len hl]; exact Nat.le_refl _), hdC_len hl]
  rfl
theorem rc6 (k : Blk w g T (rcC K S Q O H a n c h p b m d)) (hl : H.length = 16) : w.rangeAt g 21 (bkC h p b m d) :=
  rc_part k (msC K S Q O H a n c) _ [] 21 (by unfold rcC; simp) (msC_len hl)
theorem rc7 (k : Blk w g T (rcC K S Q O H a n c h p b m d)) (hl : H.length = 16) : w.rangeAt g 21 (h.map (Value.int .u8)) :=
  rc_part k (msC K S Q O H a n c) _ (p.map (Value.int .u8) ++ [.slice b m d]) 21 (by unfold rcC bkC; simp) (msC_len hl)
theorem rc8 (k : Blk w g T (rcC K S Q O H a n c h p b m d)) (hl : H.length = 16) (hh : h.length = 32) (hp : p.length = 32) : w.cell? ⟨g, 85, none⟩ = some (.slice b m d) := by
  have := rc6 k hl 64 (.slice b m d) (by
    unfold bkC
    rw [List.getElem?_append_right (by rw [List.length_map]; omega), List.getElem?_append_right (by rw [List.length_map, List.length_map]; omega), List.length_map, List.length_map, hh, hp]
    rfl)
  exact this
theorem rcC_set1 (S' : Int) : (rcC K S Q O H a n c h p b m d).set 1 (.int .u32 S') = rcC K S' Q O H a n c h p b m d := rfl
theorem rcC_set2 (S' : Int) : (rcC K S Q O H a n c h p b m d).set 2 (.int .u32 S') = rcC K S S' O H a n c h p b m d := rfl
theorem rcC_set3 (S' : Int) : (rcC K S Q O H a n c h p b m d).set 3 (.int .u32 S') = rcC K S Q S' H a n c h p b m d := rfl
theorem rcC_set5 (hl : H.length = 16) (a' : Option Addr) (n' c' : Nat) : (rcC K S Q O H a n c h p b m d).set 20 (.slice a' n' c') = rcC K S Q O H a' n' c' h p b m d := by
  unfold rcC msC
  rw [List.append_assoc, List.set_append_right _ _ (by rw [hdC_len hl]; exact Nat.le_refl _), hdC_len hl, List.append_assoc]
  rfl
theorem over_part (X Y Y' Z : List Value) (o : Nat) (ho : X.length = o) (hy : Y'.length = Y.length) : overV (X ++ (Y ++ Z)) o Y' = X ++ (Y' ++ Z) := by
  subst ho
  unfold overV
  rw [List.take_append_of_le_length (Nat.le_refl _), List.take_length, ← List.drop_drop, List.drop_append_of_le_length (Nat.le_refl _), List.drop_length, List.nil_append, hy, List.drop_append_of_le_length (Nat.le_refl _), List.drop_length, List.nil_append]
theorem rcC_over4 (H' : List Int) (hl : H.length = 16) (hl' : H'.length = 16) : overV (rcC K S Q O H a n c h p b m d) 4 (H'.map (Value.int .u8)) = rcC K S Q O H' a n c h p b m d := by
  have := over_part [.int .i64 K, .int .u32 S, .int .u32 Q, .int .u32 O] (H.map (Value.int .u8)) (H'.map (Value.int .u8)) ([.slice a n c] ++ bkC h p b m d) 4 rfl (by rw [List.length_map, List.length_map, hl, hl'])
  rw [show rcC K S Q O H a n c h p b m d = [.int .i64 K, .int .u32 S, .int .u32 Q, .int .u32 O] ++ (H.map (Value.int .u8) ++ ([.slice a n c] ++ bkC h p b m d)) by unfold rcC msC hdC; simp, this]
  unfold rcC msC hdC
  simp
theorem rcC_over6 (hl : H.length = 16) (hh : h.length = 32) (hp : p.length = 32) (h' p' : List Int) (b' : Option Addr) (m' d' : Nat) (hh' : h'.length = 32) (hp' : p'.length = 32) : overV (rcC K S Q O H a n c h p b m d) 21 (bkC h' p' b' m' d') = rcC K S Q O H a n c h' p' b' m' d' := by
  have := over_part (msC K S Q O H a n c) (bkC h p b m d) (bkC h' p' b' m' d') [] 21 (msC_len hl) (by rw [bkC_len hh hp, bkC_len hh' hp'])
  rw [List.append_nil, List.append_nil] at this
  exact this
theorem rcC_over7 (hl : H.length = 16) (hh : h.length = 32) (h' : List Int) (hh' : h'.length = 32) : overV (rcC K S Q O H a n c h p b m d) 21 (h'.map (Value.int .u8)) = rcC K S Q O H a n c h' p b m d := by
  have := over_part (msC K S Q O H a n c) (h.map (Value.int .u8)) (h'.map (Value.int .u8)) (p.map (Value.int .u8) ++ [.slice b m d]) 21 (msC_len hl) (by rw [List.length_map, List.length_map, hh, hh'])
  unfold rcC bkC
  exact this
end
theorem rC_len {r : RecV} (h : RecOk r) (a : Option Addr) (c : Nat) (b : Option Addr) (d : Nat) : (rC r a c b d).length = 86 := rcC_len h.1.hl h.2.1 h.2.2.1
theorem rC_one (r : RecV) (a : Option Addr) (c : Nat) (b : Option Addr) (d : Nat) : ∀ v ∈ rC r a c b d, v.oneCell' = true := rcC_one
theorem recAt_nil (w : World) (c d : Nat) : RecAt w noRec none c none d := ⟨⟨rfl, Nat.zero_le _, .inl rfl⟩, ⟨rfl, Nat.zero_le _, .inl rfl⟩⟩

theorem sizeRc : (Try.prog.info? 33).map (·.size) = some 86 := by kernel_rfl
theorem rowRc : IsRow Try.prog 33 86 := IsRow.struct Try.underlying33 sizeRc
theorem rowRc_of {cs : List Value} (h : cs.length = 86) : IsRow Try.prog 33 cs.length := by rw [h]; exact rowRc
theorem zeroRc : Zero Try.prog 33 (rC noRec none 0 none 0) := by unfold Zero; kernel_rfl
theorem built_rc0 : Try.prog.built 33 [] = some (rC noRec none 0 none 0).toArray := by kernel_rfl
theorem built_rc1 (K : Int) : Try.prog.built 33 [(0, .int .i64 K)] = some (rcC K 0 0 0 z16 none 0 0 z32 z32 none 0 0).toArray := by kernel_rfl
theorem built_rcA : Try.prog.built 33 [(0, .int .i64 4), (1, .int .u32 3)] = some (rcC 4 3 0 0 z16 none 0 0 z32 z32 none 0 0).toArray := by kernel_rfl

theorem sizeKc : (Try.prog.info? 50).map (·.size) = some 86 := by kernel_rfl
theorem rowKc : IsRow Try.prog 50 86 := IsRow.struct Try.underlying50 sizeKc
theorem rowKc_of {cs : List Value} (h : cs.length = 86) : IsRow Try.prog 50 cs.length := by rw [h]; exact rowKc
theorem rowBk_of {cs : List Value} (h : cs.length = 65) : IsRow Try.prog 31 cs.length := by rw [h]; exact rowBk
end Go.Proofs.Ytaaflnmdaplfkaa

/-
  The document's own Right and Few of a block. New memory alone is written. Conditions: at most a hundred thousand ids; an id has 32 bytes.
-/
namespace Go.Proofs.Ytaaflnmdaplfkaa
open Go.RowKit

set_option maxRecDepth 100000 in
set_option maxHeartbeats 2000000 in
theorem r16Right_any (H P : List Int) (a : Option Addr) (n c : Nat) (zs : List Int) (w : World) (hH : H.length = 32) (hP : P.length = 32) (hT : IdsAt w a n c zs) (hn : n ≤ 100000) :
    Calls Try.prog 25 #[.agg (bkC H P a n c).toArray] w fun q w' => q = .returned (.bool (rightK ⟨H, P, n, zs⟩)) ∧ Below w.heap.size w w' := by
  have hl := hT.1
  have hnm : (n : Int) ≤ 100000 := by omega
  have heq := Lib.hid (fun k i (hk : k < n) (hi : i < n) => eqId16 (idP zs k) (idP zs i) (idP_len hl hk) (idP_len hl hi))
  have hps := Lib.hid (fun j (hj : j < n) => rowId_of (idP_len hl hj))
  have heqH := Lib.hid (fun w' => eqId16 H P hH hP w')
  have hr1 := rowId_of hH
  have hr2 := rowId_of hP
  have hb := below1 w (.cells (bkC H P a n c).toArray 31)
  have hk0 := Blk.new w 31 (bkC H P a n c)
  have e0 := Lib.hid (fun w' g (h : Blk w' g 31 (bkC H P a n c)) => bk0 h)
  have e1 := Lib.hid (fun w' g (h : Blk w' g 31 (bkC H P a n c)) => bk1 h hH)
  have e2 := Lib.hid (fun w' g (h : Blk w' g 31 (bkC H P a n c)) => bk2 h hH hP)
  obtain ⟨C, hC⟩ : ∃ C, bkC H P a n c = C := ⟨_, rfl⟩
  rw [hC] at e0 e1 e2
  rw [hC] at hb hk0 ⊢
  obtain ⟨V, hV⟩ : ∃ V, w.alloc (.cells C.toArray 31) = V := ⟨_, rfl⟩
  rw [hV] at hb hk0
  obtain ⟨G, g9⟩ : ∃ G, w.heap.size = G := ⟨_, rfl⟩
  rw [g9] at hk0
  have hTH := Lib.hid hT
  unfold rightK
  dsimp only
  obtain ⟨F, hF⟩ : ∃ C, (H == P) = C := ⟨_, rfl⟩
  rw [hF] at heqH ⊢
  obtain ⟨X0, hX0⟩ : ∃ C, H.map (Value.int .u8) = C := ⟨_, rfl⟩
  obtain ⟨X1, hX1⟩ : ∃ C, P.map (Value.int .u8) = C := ⟨_, rfl⟩
  rw [hX0] at hr1 heqH e0
  rw [hX1] at hr2 heqH e1
  have hng := noGuardIds
  obtain ⟨R, hR⟩ : ∃ R, (decide (n ≤ 32) && (!F && !twiceL zs n)) = R := ⟨_, rfl⟩
  rw [hR]
  have hRH := Lib.hid hR
  clear hT hC hF hX0 hX1 hl hR
  go_enter Try.func25, Try.ntmps25
  go_wp2_with ((with_reducible refine box_row rfl 31 (.tmp 0) rfl C ?_ ?_); rfl)
  have gH := Lib.hid g9
  clear hV g9
  go_loopw [3] (fun i wr => ∃ j : Nat, j ≤ n ∧ i = .int .i64 j ∧ (∀ k i, k < i → i < j → idP zs k ≠ idP zs i) ∧ Blk wr G 31 C ∧ Below w.heap.size w wr) (fun i _ => n - (intOf i).toNat)
  case atStart => exact ⟨0, Nat.zero_le _, rfl, fun k i h1 h2 => absurd h2 (Nat.not_lt_zero i), hk0, hb⟩
  case round =>
    clear hk0 hb
    obtain ⟨j, hj, rfl, hno, hk, hB⟩ := hrel
    have p2 := e2.out wr G hk
    by_cases hlt : j < n
    · have hji : (j : Int) < (n : Int) := by omega
      have hltH := Lib.hid hlt
      have hnoH := Lib.hid hno
      clear hlt hj hno
      go_wp2
      have hkj : ∀ i, i < 0 → idP zs i ≠ idP zs j := fun i h => absurd h (Nat.not_lt_zero i)
      clear p2
      go_loopw [4] (fun i wq => ∃ k : Nat, k ≤ j ∧ i = .int .i64 k ∧ (∀ i, i < k → idP zs i ≠ idP zs j) ∧ Blk wq G 31 C ∧ Below w.heap.size w wq) (fun i _ => j - (intOf i).toNat)
      case atStart => exact ⟨0, Nat.zero_le _, rfl, hkj, hk, hB⟩
      case round =>
        clear hkj hk hB
        obtain ⟨k, hk', rfl, hne, hk, hB⟩ := hrel
        have p2 := e2.out wr G hk
        by_cases hlt : k < j
        · have hki : (k : Int) < (j : Int) := by omega
          have hkn : (k : Int) < (n : Int) := by omega
          have hkN : k < n := by have := hltH.out; omega
          obtain ⟨b, off, rfl, hp⟩ := (hTH.out.keep hB).get hkN
          obtain ⟨b', off', hbb, hp'⟩ := (hTH.out.keep hB).get hltH.out
          injection hbb with hbb
          injection hbb with hb1 hb2
          subst hb1; subst hb2
          have hq := heq.out k j hkN hltH.out
          have HY := hps.out k hkN
          have HZ := hps.out j hltH.out
          have hbad := Lib.hid (fun h => twiceL_true (zs := zs) hlt hltH.out h)
          obtain ⟨E, hE⟩ : ∃ F, (idP zs k == idP zs j) = F := ⟨_, rfl⟩
          rw [hE] at hq
          have hEH := Lib.hid hE
          have hneH := Lib.hid hne
          obtain ⟨Y, hY⟩ : ∃ Y, (idP zs k).map (Value.int .u8) = Y := ⟨_, rfl⟩
          obtain ⟨Z, hZ⟩ : ∃ Y, (idP zs j).map (Value.int .u8) = Y := ⟨_, rfl⟩
          rw [hY] at hq hp HY
          rw [hZ] at hq hp' HZ
          have hltkH := Lib.hid hlt
          clear hlt hk' hne hE hY hZ hkN
          go_wp2_with fail
          refine region_seqS (fun w' => w' = wr.drew) (by kernel_rfl) rfl ?_
          simp only [pairs, Nat.reduceAdd]
          repeat (first
            | (refine SeqS.take (v := .agg (Y).toArray) (by first | assumption | trivial) (by kernel_rfl) (by decide +kernel) (by decide +kernel) (yields_part (by rfl) 28 (.tmp 20) rfl rfl (fun w' h => by subst h; exact hp) (HY)) ?_
               simp only [Act.put, List.setIfInBounds_toArray, List.set_cons_zero, List.set_cons_succ])
            | (refine SeqS.take (v := .agg (Z).toArray) (by first | assumption | trivial) (by kernel_rfl) (by decide +kernel) (by decide +kernel) (yields_part (by rfl) 28 (.tmp 25) rfl rfl (fun w' h => by subst h; exact hp') (HZ)) ?_
               simp only [Act.put, List.setIfInBounds_toArray, List.set_cons_zero, List.set_cons_succ])
            | (refine SeqS.take (v := ?_) (by first | assumption | trivial) (by kernel_rfl) (by decide +kernel) (by decide +kernel) (Or.inl ⟨by rfl, ?_⟩) ?_
               rotate_left
               focus
                 intro w' hb'
                 go_simp
                 with_reducible rfl
               simp only [Act.put, List.setIfInBounds_toArray, List.set_cons_zero, List.set_cons_succ])
            | (refine SeqS.take (v := ?_) (by first | assumption | trivial) (by kernel_rfl) (by decide +kernel) (by decide +kernel) (Or.inl ⟨by rfl, ?_⟩) ?_
               rotate_left
               focus
                 intro w' hb'
                 have d0 := hq w'
                 go_simp
                 with_reducible rfl
               simp only [Act.put, List.setIfInBounds_toArray, List.set_cons_zero, List.set_cons_succ])
            | (refine SeqS.take (v := ?_) (by first | assumption | trivial) (by kernel_rfl) (by decide +kernel) (by decide +kernel) (Or.inl ⟨by rfl, ?_⟩) ?_
               rotate_left
               focus
                 intro w' hb'
                 have d0 : w'.cell? ⟨G, 64, none⟩ = some (.slice (some ⟨b, off, none⟩) n c) := by subst hb'; exact p2
                 go_simp
                 with_reducible rfl
               simp only [Act.put, List.setIfInBounds_toArray, List.set_cons_zero, List.set_cons_succ])
            | (refine SeqS.take (v := undef) (by first | assumption | trivial) (by kernel_rfl) (by decide +kernel) (by decide +kernel) (Or.inr ⟨by rfl, rfl⟩) ?_
               simp only [Act.put, List.setIfInBounds_toArray, List.set_cons_zero, List.set_cons_succ])
            | (refine SeqS.take1 (v := .agg (Y).toArray) (by first | assumption | trivial) (by kernel_rfl) (by decide +kernel) (by decide +kernel) (yields_part (by rfl) 28 (.tmp 20) rfl rfl (fun w' h => by subst h; exact hp) (HY)) ?_
               simp only [Act.put, List.setIfInBounds_toArray, List.set_cons_zero, List.set_cons_succ])
            | (refine SeqS.take1 (v := .agg (Z).toArray) (by first | assumption | trivial) (by kernel_rfl) (by decide +kernel) (by decide +kernel) (yields_part (by rfl) 28 (.tmp 25) rfl rfl (fun w' h => by subst h; exact hp') (HZ)) ?_
               simp only [Act.put, List.setIfInBounds_toArray, List.set_cons_zero, List.set_cons_succ])
            | (refine SeqS.take1 (v := ?_) (by first | assumption | trivial) (by kernel_rfl) (by decide +kernel) (by decide +kernel) (Or.inl ⟨by rfl, ?_⟩) ?_
               rotate_left
               focus
                 intro w' hb'
                 go_simp
                 with_reducible rfl
               simp only [Act.put, List.setIfInBounds_toArray, List.set_cons_zero, List.set_cons_succ])
            | (refine SeqS.take1 (v := ?_) (by first | assumption | trivial) (by kernel_rfl) (by decide +kernel) (by decide +kernel) (Or.inl ⟨by rfl, ?_⟩) ?_
               rotate_left
               focus
                 intro w' hb'
                 have d0 := hq w'
                 go_simp
                 with_reducible rfl
               simp only [Act.put, List.setIfInBounds_toArray, List.set_cons_zero, List.set_cons_succ])
            | (refine SeqS.take1 (v := ?_) (by first | assumption | trivial) (by kernel_rfl) (by decide +kernel) (by decide +kernel) (Or.inl ⟨by rfl, ?_⟩) ?_
               rotate_left
               focus
                 intro w' hb'
                 have d0 : w'.cell? ⟨G, 64, none⟩ = some (.slice (some ⟨b, off, none⟩) n c) := by subst hb'; exact p2
                 go_simp
                 with_reducible rfl
               simp only [Act.put, List.setIfInBounds_toArray, List.set_cons_zero, List.set_cons_succ])
            | (refine SeqS.take1 (v := undef) (by first | assumption | trivial) (by kernel_rfl) (by decide +kernel) (by decide +kernel) (Or.inr ⟨by rfl, rfl⟩) ?_
               simp only [Act.put, List.setIfInBounds_toArray, List.set_cons_zero, List.set_cons_succ])
            | (refine SeqS.take2 (v := .agg (Y).toArray) (by first | assumption | trivial) (by kernel_rfl) (by decide +kernel) (by decide +kernel) (yields_part (by rfl) 28 (.tmp 20) rfl rfl (fun w' h => by subst h; exact hp) (HY)) ?_
               simp only [Act.put, List.setIfInBounds_toArray, List.set_cons_zero, List.set_cons_succ])
            | (refine SeqS.take2 (v := .agg (Z).toArray) (by first | assumption | trivial) (by kernel_rfl) (by decide +kernel) (by decide +kernel) (yields_part (by rfl) 28 (.tmp 25) rfl rfl (fun w' h => by subst h; exact hp') (HZ)) ?_
               simp only [Act.put, List.setIfInBounds_toArray, List.set_cons_zero, List.set_cons_succ])
            | (refine SeqS.take2 (v := ?_) (by first | assumption | trivial) (by kernel_rfl) (by decide +kernel) (by decide +kernel) (Or.inl ⟨by rfl, ?_⟩) ?_
               rotate_left
               focus
                 intro w' hb'
                 go_simp
                 with_reducible rfl
               simp only [Act.put, List.setIfInBounds_toArray, List.set_cons_zero, List.set_cons_succ])
            | (refine SeqS.take2 (v := ?_) (by first | assumption | trivial) (by kernel_rfl) (by decide +kernel) (by decide +kernel) (Or.inl ⟨by rfl, ?_⟩) ?_
               rotate_left
               focus
                 intro w' hb'
                 have d0 := hq w'
                 go_simp
                 with_reducible rfl
               simp only [Act.put, List.setIfInBounds_toArray, List.set_cons_zero, List.set_cons_succ])
            | (refine SeqS.take2 (v := ?_) (by first | assumption | trivial) (by kernel_rfl) (by decide +kernel) (by decide +kernel) (Or.inl ⟨by rfl, ?_⟩) ?_
               rotate_left
               focus
                 intro w' hb'
                 have d0 : w'.cell? ⟨G, 64, none⟩ = some (.slice (some ⟨b, off, none⟩) n c) := by subst hb'; exact p2
                 go_simp
                 with_reducible rfl
               simp only [Act.put, List.setIfInBounds_toArray, List.set_cons_zero, List.set_cons_succ])
            | (refine SeqS.take2 (v := undef) (by first | assumption | trivial) (by kernel_rfl) (by decide +kernel) (by decide +kernel) (Or.inr ⟨by rfl, rfl⟩) ?_
               simp only [Act.put, List.setIfInBounds_toArray, List.set_cons_zero, List.set_cons_succ])
            | (refine SeqS.take3 (v := .agg (Y).toArray) (by first | assumption | trivial) (by kernel_rfl) (by decide +kernel) (by decide +kernel) (yields_part (by rfl) 28 (.tmp 20) rfl rfl (fun w' h => by subst h; exact hp) (HY)) ?_
               simp only [Act.put, List.setIfInBounds_toArray, List.set_cons_zero, List.set_cons_succ])
            | (refine SeqS.take3 (v := .agg (Z).toArray) (by first | assumption | trivial) (by kernel_rfl) (by decide +kernel) (by decide +kernel) (yields_part (by rfl) 28 (.tmp 25) rfl rfl (fun w' h => by subst h; exact hp') (HZ)) ?_
               simp only [Act.put, List.setIfInBounds_toArray, List.set_cons_zero, List.set_cons_succ])
            | (refine SeqS.take3 (v := ?_) (by first | assumption | trivial) (by kernel_rfl) (by decide +kernel) (by decide +kernel) (Or.inl ⟨by rfl, ?_⟩) ?_
               rotate_left
               focus
                 intro w' hb'
                 go_simp
                 with_reducible rfl
               simp only [Act.put, List.setIfInBounds_toArray, List.set_cons_zero, List.set_cons_succ])
            | (refine SeqS.take3 (v := ?_) (by first | assumption | trivial) (by kernel_rfl) (by decide +kernel) (by decide +kernel) (Or.inl ⟨by rfl, ?_⟩) ?_
               rotate_left
               focus
                 intro w' hb'
                 have d0 := hq w'
                 go_simp
                 with_reducible rfl
               simp only [Act.put, List.setIfInBounds_toArray, List.set_cons_zero, List.set_cons_succ])
            | (refine SeqS.take3 (v := ?_) (by first | assumption | trivial) (by kernel_rfl) (by decide +kernel) (by decide +kernel) (Or.inl ⟨by rfl, ?_⟩) ?_
               rotate_left
               focus
                 intro w' hb'
                 have d0 : w'.cell? ⟨G, 64, none⟩ = some (.slice (some ⟨b, off, none⟩) n c) := by subst hb'; exact p2
                 go_simp
                 with_reducible rfl
               simp only [Act.put, List.setIfInBounds_toArray, List.set_cons_zero, List.set_cons_succ])
            | (refine SeqS.take3 (v := undef) (by first | assumption | trivial) (by kernel_rfl) (by decide +kernel) (by decide +kernel) (Or.inr ⟨by rfl, rfl⟩) ?_
               simp only [Act.put, List.setIfInBounds_toArray, List.set_cons_zero, List.set_cons_succ]))
          refine SeqS.done (by decide +kernel) ?_
          cases E with
          | true =>
            have hR : R = false := by rw [← hRH.out, hbad.out (eq_of_beq hEH.out)]; simp
            subst hR
            go_wp2
            go_ret
            exact ⟨rfl, Below.drew hB⟩
          | false =>
            have hgoH := Lib.hid (show ∀ i, i < k + 1 → idP zs i ≠ idP zs j by
              intro i hi
              by_cases e : i = k
              · subst e; exact ne_of_beq_false hEH.out
              · exact hneH.out i (by omega))
            have hk2 : Blk wr.drew G 31 C := hk
            have hB2 : Below w.heap.size w wr.drew := Below.drew hB
            clear hq HY HZ hp hp' hB hk p2
            go_wp2
            exact ⟨⟨k + 1, by have := hltkH.out; omega, by congr 1, hgoH.out, hk2, hB2⟩, by simp only [intOf]; have := hltkH.out; omega⟩
        · obtain rfl : j = k := by omega
          have hki : ¬ (j : Int) < (j : Int) := by omega
          have hgoH := Lib.hid (show ∀ k i, k < i → i < j + 1 → idP zs k ≠ idP zs i by
            intro k i h1 h2
            by_cases e : i = j
            · subst e; exact hne k h1
            · exact hnoH.out k i h1 (by omega))
          clear hlt hk' hne p2
          go_wp2
          exact ⟨⟨j + 1, by have := hltH.out; omega, by congr 1, hgoH.out, hk, hB⟩, by simp only [intOf]; have := hltH.out; omega⟩
    · obtain rfl : n = j := by omega
      have hji : ¬ (n : Int) < (n : Int) := by omega
      have p0 := e0.out wr G hk
      have p1 := e1.out wr G hk
      have hqH := heqH.out
      have hRe : R = (decide (n ≤ 32) && !F) := by rw [← hRH.out, twiceL_false hno]; simp
      clear hlt hj hno hRH
      by_cases h32 : n ≤ 32
      · have h32i : (n : Int) ≤ 32 := by omega
        rw [decide_eq_true h32, Bool.true_and] at hRe
        clear h32 hn
        cases F with
        | true =>
          subst hRe
          go_wp2_with (first
            | ((with_reducible refine load_pif rfl 28 (.tmp 33) rfl ?_ X0 p0 hr1 ?_); rfl)
            | ((with_reducible refine load_pif rfl 28 (.tmp 35) rfl ?_ X1 p1 hr2 ?_); rfl))
          go_ret
          exact ⟨by first | rfl | simp, hB⟩
        | false =>
          subst hRe
          go_wp2_with (first
            | ((with_reducible refine load_pif rfl 28 (.tmp 33) rfl ?_ X0 p0 hr1 ?_); rfl)
            | ((with_reducible refine load_pif rfl 28 (.tmp 35) rfl ?_ X1 p1 hr2 ?_); rfl))
          go_ret
          exact ⟨by first | rfl | simp, hB⟩
      · have h32i : ¬ (n : Int) ≤ 32 := by omega
        rw [decide_eq_false h32, Bool.false_and] at hRe
        subst hRe
        clear h32 hn
        go_wp2_with (first
          | ((with_reducible refine load_pif rfl 28 (.tmp 33) rfl ?_ X0 p0 hr1 ?_); rfl)
          | ((with_reducible refine load_pif rfl 28 (.tmp 35) rfl ?_ X1 p1 hr2 ?_); rfl))
        go_ret
        exact ⟨by first | rfl | simp, hB⟩

set_option maxRecDepth 100000 in
set_option maxHeartbeats 2000000 in
theorem r16Few_any (H P : List Int) (a : Option Addr) (n c : Nat) (w : World) (hH : H.length = 32) (hP : P.length = 32) :
    Calls Try.prog 17 #[.agg (bkC H P a n c).toArray] w fun q w' => q = .returned (.bool (decide (n ≤ 100))) ∧ Below w.heap.size w w' := by
  have hb := below1 w (.cells (bkC H P a n c).toArray 31)
  have p2 := bk2 (Blk.new w 31 (bkC H P a n c)) hH hP
  obtain ⟨C, hC⟩ : ∃ C, bkC H P a n c = C := ⟨_, rfl⟩
  rw [hC] at hb p2 ⊢
  obtain ⟨F, hF⟩ : ∃ F, decide (n ≤ 100) = F := ⟨_, rfl⟩
  rw [hF]
  cases F with
  | true =>
    have h : (n : Int) ≤ 100 := by have := of_decide_eq_true hF; omega
    clear hF hC
    go_enter Try.func17, Try.ntmps17
    go_wp2_with ((with_reducible refine box_row rfl 31 (.tmp 0) rfl C ?_ ?_); rfl)
    go_ret
    exact ⟨by first | rfl | simp, hb⟩
  | false =>
    have h : ¬ (n : Int) ≤ 100 := by have := of_decide_eq_false hF; omega
    clear hF hC
    go_enter Try.func17, Try.ntmps17
    go_wp2_with ((with_reducible refine box_row rfl 31 (.tmp 0) rfl C ?_ ?_); rfl)
    go_ret
    exact ⟨by first | rfl | simp, hb⟩
end Go.Proofs.Ytaaflnmdaplfkaa

/-
  The document's own Right of a record. New memory alone is written. Conditions: the fields' ranges; at most a hundred thousand ids.
-/
namespace Go.Proofs.Ytaaflnmdaplfkaa
open Go.RowKit

theorem built_h17 : Try.prog.built 25 [] = some ((z16.map (Value.int .u8)).toArray) := by kernel_rfl
theorem refR1 (S Q O : Int) (H xs : List Int) (b : BlkV) : rightRec ⟨⟨1, S, Q, O, H, xs⟩, b⟩ = (Q == 0 && (H == z16 && (xs == [] && (sameK b noBlk && (decide (1 ≤ O) && decide (O ≤ 64)))))) := rfl
theorem refR2 (S Q O : Int) (H xs : List Int) (b : BlkV) : rightRec ⟨⟨2, S, Q, O, H, xs⟩, b⟩ = (O == 0 && (sameK b noBlk && decide (xs.length ≤ 600))) := rfl
theorem refR4 (S Q O : Int) (H xs : List Int) (b : BlkV) : rightRec ⟨⟨4, S, Q, O, H, xs⟩, b⟩ = (O == 0 && (Q == 0 && (H == z16 && (xs == [] && sameK b noBlk)))) := rfl
theorem refR5 (S Q O : Int) (H xs : List Int) (b : BlkV) : rightRec ⟨⟨5, S, Q, O, H, xs⟩, b⟩ = (S == 0 && (O == 0 && (Q == 0 && (H == z16 && (xs == [] && rightK b))))) := rfl
theorem refR6 (S Q O : Int) (H xs : List Int) (b : BlkV) : rightRec ⟨⟨6, S, Q, O, H, xs⟩, b⟩ = (S == 0 && (O == 0 && (Q == 0 && (H == z16 && (xs == [] && sameK b (bareK b)))))) := rfl

set_option maxRecDepth 100000 in
set_option maxHeartbeats 4000000 in
theorem r17Right_1 (S Q O : Int) (H xs h p : List Int) (m : Nat) (zs : List Int) (a b : Option Addr) (c d : Nat) (w : World) (hr : RecOk ⟨⟨1, S, Q, O, H, xs⟩, ⟨h, p, m, zs⟩⟩) (hI : RecAt w ⟨⟨1, S, Q, O, H, xs⟩, ⟨h, p, m, zs⟩⟩ a c b d) (hn : m ≤ 100000) :
    Calls Try.prog 11 #[.agg (rC ⟨⟨1, S, Q, O, H, xs⟩, ⟨h, p, m, zs⟩⟩ a c b d).toArray] w fun q w' => q = .returned (.bool (rightRec ⟨⟨1, S, Q, O, H, xs⟩, ⟨h, p, m, zs⟩⟩)) ∧ Below w.heap.size w w' := by
  obtain ⟨K, hK⟩ : ∃ K : Int, 1 = K := ⟨_, rfl⟩
  rw [refR1]
  rw [hK] at hr hI ⊢
  obtain ⟨⟨_, _, _, hl, _, _⟩, ⟨hh, hp, hzl, _, _, _⟩⟩ := hr
  obtain ⟨hI, hT⟩ := hI
  dsimp only at hl hh hp hzl hI hT hn
  unfold rC
  dsimp only
  obtain ⟨n, hnx⟩ : ∃ n, xs.length = n := ⟨_, rfl⟩
  have hnn : ((n : Int) == 0) = (xs == []) := by
    rw [← hnx, Bool.eq_iff_iff]
    simp
  rw [hnx]
  have hCl := rcC_len (K := K) (S := S) (Q := Q) (O := O) (a := a) (n := n) (c := c) (b := b) (m := m) (d := d) hl hh hp
  have e0 := Lib.hid (fun w' g (k : Blk w' g 33 (rcC K S Q O H a n c h p b m d)) => rc0 k)
  have e1 := Lib.hid (fun w' g (k : Blk w' g 33 (rcC K S Q O H a n c h p b m d)) => rc1 k)
  have e2 := Lib.hid (fun w' g (k : Blk w' g 33 (rcC K S Q O H a n c h p b m d)) => rc2 k)
  have e3 := Lib.hid (fun w' g (k : Blk w' g 33 (rcC K S Q O H a n c h p b m d)) => rc3 k)
  have e4 := fun w' g (k : Blk w' g 33 (rcC K S Q O H a n c h p b m d)) => rc4 k
  have e5 := Lib.hid (fun w' g (k : Blk w' g 33 (rcC K S Q O H a n c h p b m d)) => rc5 k hl)
  have e6 := fun w' g (k : Blk w' g 33 (rcC K S Q O H a n c h p b m d)) => rc6 k hl
  have e7 := fun w' g (k : Blk w' g 33 (rcC K S Q O H a n c h p b m d)) => rc7 k hl
  have hsm := fun w' (k : Below w.heap.size w w') => r16Same_any h p b m d zs z32 z32 none 0 0 [] w' hh hp rfl rfl (hT.keep k) ⟨rfl, Nat.le_refl _, .inl rfl⟩ hn
  have heq := fun w' => eqHint16 H z16 hl rfl w'
  have hng := noGuardHint16
  have hbh := built_h17
  have hbb := built_bk0
  have hrX := rowHint_of hl
  have hUl := bkC_len (a := b) (n := m) (c := d) hh hp
  obtain ⟨X, hX⟩ : ∃ X, H.map (Value.int .u8) = X := ⟨_, rfl⟩
  obtain ⟨Zh, hZh⟩ : ∃ X, z16.map (Value.int .u8) = X := ⟨_, rfl⟩
  obtain ⟨Y, hY⟩ : ∃ X, bkC h p b m d = X := ⟨_, rfl⟩
  obtain ⟨Zb, hZb⟩ : ∃ X, bkC z32 z32 none 0 0 = X := ⟨_, rfl⟩
  rw [hX] at e4 heq hrX
  rw [hZh] at heq hbh
  rw [hY] at e6 hsm hUl
  rw [hZb] at hsm hbb
  have hrY : IsRow Try.prog 31 Y.length := rowBk_of hUl
  obtain ⟨T1, hT1⟩ : ∃ T, (H == z16) = T := ⟨_, rfl⟩
  obtain ⟨T2, hT2⟩ : ∃ T, (xs == []) = T := ⟨_, rfl⟩
  obtain ⟨T3, hT3⟩ : ∃ T, sameK ⟨h, p, m, zs⟩ noBlk = T := ⟨_, rfl⟩
  rw [hT1] at heq
  rw [hT2] at hnn
  rw [show sameK ⟨h, p, m, zs⟩ ⟨z32, z32, 0, []⟩ = T3 from hT3] at hsm
  obtain ⟨C, hC⟩ : ∃ C, rcC K S Q O H a n c h p b m d = C := ⟨_, rfl⟩
  rw [hC] at hCl e0 e1 e2 e3 e4 e5 e6 e7
  rw [hC]
  have e4 := Lib.hid e4
  have e6 := Lib.hid e6
  have e7 := Lib.hid e7
  have hsmH := Lib.hid hsm
  have hb := below1 w (.cells C.toArray 33)
  have hk : Blk (w.alloc (.cells C.toArray 33)) w.heap.size 33 C := Blk.new w _ C
  obtain ⟨V, hV⟩ : ∃ V, w.alloc (.cells C.toArray 33) = V := ⟨_, rfl⟩
  rw [hV] at hb hk
  obtain ⟨G, g9⟩ : ∃ G, w.heap.size = G := ⟨_, rfl⟩
  rw [g9] at hk
  have gH := Lib.hid g9
  have c4 := e4.out V G hk
  have c5 := e5.out V G hk
  have c6 := e6.out V G hk
  have hTH := Lib.hid hT
  have hYr := hY
  clear hX hZh hY hZb hC hsm hT hI
  subst hK
  rw [hT1, hT2, hT3]
  clear hT1 hT2 hT3
  by_cases q0 : Q = 0
  · subst q0
    cases T1 with
    | true =>
      cases T2 with
      | true =>
        cases T3 with
        | true =>
          by_cases o1 : 1 ≤ O
          · have o1b : decide (1 ≤ O) = true := decide_eq_true o1
            rw [o1b]
            go_enter Try.func11, Try.ntmps11
            go_wp2_with ((with_reducible refine box_row rfl 33 (.tmp 0) rfl C ?_ ?_); rfl; refine RowKit.Hid.out ?_)
            refine Lib.hid ?_
            clear hV g9
            go_wp2_with (first
              | ((with_reducible refine wpList_load_part rfl 25 (.tmp 6) rfl ?_ X c4 hrX ?_); rfl)
              | ((with_reducible refine build_row rfl 25 #[] rfl (cells := Zh.toArray) ?_ ?_); (refine Eq.trans (congrArg _ ?_) hbh; kernel_rfl))
              | ((with_reducible refine wpList_load_part rfl 31 (.tmp 14) rfl ?_ Y c6 hrY ?_); rfl)
              | ((with_reducible refine build_row rfl 31 #[] rfl (cells := Zb.toArray) ?_ ?_); (refine Eq.trans (congrArg _ ?_) hbb; kernel_rfl)))
            refine (hsmH.out V hb).mono ?_
            rintro q w2 ⟨rfl, b2⟩
            have hk2 := hk.keep b2 hk.lt
            have hS2 := hb.trans (b2.mono hb.size)
            have c0 := e0.out w2 G hk2
            have c1 := e1.out w2 G hk2
            have c2 := e2.out w2 G hk2
            have c3 := e3.out w2 G hk2
            clear c4 c5 c6 hk hb b2 heq hbh
            have c5 := e5.out w2 G hk2
            have c6 := e6.out w2 G hk2
            go_wp2
            go_ret
            exact ⟨by first | rfl | simp | (rw [hnn]; rfl), hS2⟩
          · have o1b : decide (1 ≤ O) = false := decide_eq_false o1
            rw [o1b]
            go_enter Try.func11, Try.ntmps11
            go_wp2_with ((with_reducible refine box_row rfl 33 (.tmp 0) rfl C ?_ ?_); rfl; refine RowKit.Hid.out ?_)
            refine Lib.hid ?_
            clear hV g9
            go_wp2_with (first
              | ((with_reducible refine wpList_load_part rfl 25 (.tmp 6) rfl ?_ X c4 hrX ?_); rfl)
              | ((with_reducible refine build_row rfl 25 #[] rfl (cells := Zh.toArray) ?_ ?_); (refine Eq.trans (congrArg _ ?_) hbh; kernel_rfl))
              | ((with_reducible refine wpList_load_part rfl 31 (.tmp 14) rfl ?_ Y c6 hrY ?_); rfl)
              | ((with_reducible refine build_row rfl 31 #[] rfl (cells := Zb.toArray) ?_ ?_); (refine Eq.trans (congrArg _ ?_) hbb; kernel_rfl)))
            refine (hsmH.out V hb).mono ?_
            rintro q w2 ⟨rfl, b2⟩
            have hk2 := hk.keep b2 hk.lt
            have hS2 := hb.trans (b2.mono hb.size)
            have c0 := e0.out w2 G hk2
            have c1 := e1.out w2 G hk2
            have c2 := e2.out w2 G hk2
            have c3 := e3.out w2 G hk2
            clear c4 c5 c6 hk hb b2 heq hbh
            have c5 := e5.out w2 G hk2
            have c6 := e6.out w2 G hk2
            go_wp2
            go_ret
            exact ⟨by first | rfl | simp | (rw [hnn]; rfl), hS2⟩
        | false =>
          go_enter Try.func11, Try.ntmps11
          go_wp2_with ((with_reducible refine box_row rfl 33 (.tmp 0) rfl C ?_ ?_); rfl; refine RowKit.Hid.out ?_)
          refine Lib.hid ?_
          clear hV g9
          go_wp2_with (first
            | ((with_reducible refine wpList_load_part rfl 25 (.tmp 6) rfl ?_ X c4 hrX ?_); rfl)
            | ((with_reducible refine build_row rfl 25 #[] rfl (cells := Zh.toArray) ?_ ?_); (refine Eq.trans (congrArg _ ?_) hbh; kernel_rfl))
            | ((with_reducible refine wpList_load_part rfl 31 (.tmp 14) rfl ?_ Y c6 hrY ?_); rfl)
            | ((with_reducible refine build_row rfl 31 #[] rfl (cells := Zb.toArray) ?_ ?_); (refine Eq.trans (congrArg _ ?_) hbb; kernel_rfl)))
          refine (hsmH.out V hb).mono ?_
          rintro q w2 ⟨rfl, b2⟩
          have hk2 := hk.keep b2 hk.lt
          have hS2 := hb.trans (b2.mono hb.size)
          have c0 := e0.out w2 G hk2
          have c1 := e1.out w2 G hk2
          have c2 := e2.out w2 G hk2
          have c3 := e3.out w2 G hk2
          clear c4 c5 c6 hk hb b2 heq hbh
          have c5 := e5.out w2 G hk2
          have c6 := e6.out w2 G hk2
          go_wp2
          go_ret
          exact ⟨by first | rfl | simp | (rw [hnn]; rfl), hS2⟩
      | false =>
        go_enter Try.func11, Try.ntmps11
        go_wp2_with ((with_reducible refine box_row rfl 33 (.tmp 0) rfl C ?_ ?_); rfl; refine RowKit.Hid.out ?_)
        refine Lib.hid ?_
        clear hV g9
        go_wp2_with (first
          | ((with_reducible refine wpList_load_part rfl 25 (.tmp 6) rfl ?_ X c4 hrX ?_); rfl)
          | ((with_reducible refine build_row rfl 25 #[] rfl (cells := Zh.toArray) ?_ ?_); (refine Eq.trans (congrArg _ ?_) hbh; kernel_rfl))
          | ((with_reducible refine wpList_load_part rfl 31 (.tmp 14) rfl ?_ Y c6 hrY ?_); rfl)
          | ((with_reducible refine build_row rfl 31 #[] rfl (cells := Zb.toArray) ?_ ?_); (refine Eq.trans (congrArg _ ?_) hbb; kernel_rfl)))
        refine (hsmH.out V hb).mono ?_
        rintro q w2 ⟨rfl, b2⟩
        have hk2 := hk.keep b2 hk.lt
        have hS2 := hb.trans (b2.mono hb.size)
        have c0 := e0.out w2 G hk2
        have c1 := e1.out w2 G hk2
        have c2 := e2.out w2 G hk2
        have c3 := e3.out w2 G hk2
        clear c4 c5 c6 hk hb b2 heq hbh
        have c5 := e5.out w2 G hk2
        have c6 := e6.out w2 G hk2
        go_wp2
        go_ret
        exact ⟨by first | rfl | simp | (rw [hnn]; rfl), hS2⟩
    | false =>
      go_enter Try.func11, Try.ntmps11
      go_wp2_with ((with_reducible refine box_row rfl 33 (.tmp 0) rfl C ?_ ?_); rfl; refine RowKit.Hid.out ?_)
      refine Lib.hid ?_
      clear hV g9
      go_wp2_with (first
        | ((with_reducible refine wpList_load_part rfl 25 (.tmp 6) rfl ?_ X c4 hrX ?_); rfl)
        | ((with_reducible refine build_row rfl 25 #[] rfl (cells := Zh.toArray) ?_ ?_); (refine Eq.trans (congrArg _ ?_) hbh; kernel_rfl))
        | ((with_reducible refine wpList_load_part rfl 31 (.tmp 14) rfl ?_ Y c6 hrY ?_); rfl)
        | ((with_reducible refine build_row rfl 31 #[] rfl (cells := Zb.toArray) ?_ ?_); (refine Eq.trans (congrArg _ ?_) hbb; kernel_rfl)))
      refine (hsmH.out V hb).mono ?_
      rintro q w2 ⟨rfl, b2⟩
      have hk2 := hk.keep b2 hk.lt
      have hS2 := hb.trans (b2.mono hb.size)
      have c0 := e0.out w2 G hk2
      have c1 := e1.out w2 G hk2
      have c2 := e2.out w2 G hk2
      have c3 := e3.out w2 G hk2
      clear c4 c5 c6 hk hb b2 heq hbh
      have c5 := e5.out w2 G hk2
      have c6 := e6.out w2 G hk2
      go_wp2
      go_ret
      exact ⟨by first | rfl | simp | (rw [hnn]; rfl), hS2⟩
  · have qb : (Q == 0) = false := beq_false_of_ne q0
    rw [qb]
    go_enter Try.func11, Try.ntmps11
    go_wp2_with ((with_reducible refine box_row rfl 33 (.tmp 0) rfl C ?_ ?_); rfl; refine RowKit.Hid.out ?_)
    refine Lib.hid ?_
    clear hV g9
    go_wp2_with (first
      | ((with_reducible refine wpList_load_part rfl 25 (.tmp 6) rfl ?_ X c4 hrX ?_); rfl)
      | ((with_reducible refine build_row rfl 25 #[] rfl (cells := Zh.toArray) ?_ ?_); (refine Eq.trans (congrArg _ ?_) hbh; kernel_rfl))
      | ((with_reducible refine wpList_load_part rfl 31 (.tmp 14) rfl ?_ Y c6 hrY ?_); rfl)
      | ((with_reducible refine build_row rfl 31 #[] rfl (cells := Zb.toArray) ?_ ?_); (refine Eq.trans (congrArg _ ?_) hbb; kernel_rfl)))
    refine (hsmH.out V hb).mono ?_
    rintro q w2 ⟨rfl, b2⟩
    have hk2 := hk.keep b2 hk.lt
    have hS2 := hb.trans (b2.mono hb.size)
    have c0 := e0.out w2 G hk2
    have c1 := e1.out w2 G hk2
    have c2 := e2.out w2 G hk2
    have c3 := e3.out w2 G hk2
    clear c4 c5 c6 hk hb b2 heq hbh
    have c5 := e5.out w2 G hk2
    have c6 := e6.out w2 G hk2
    go_wp2
    go_ret
    exact ⟨by first | rfl | simp | (rw [hnn]; rfl), hS2⟩

set_option maxRecDepth 100000 in
set_option maxHeartbeats 4000000 in
theorem r17Right_2 (S Q O : Int) (H xs h p : List Int) (m : Nat) (zs : List Int) (a b : Option Addr) (c d : Nat) (w : World) (hr : RecOk ⟨⟨2, S, Q, O, H, xs⟩, ⟨h, p, m, zs⟩⟩) (hI : RecAt w ⟨⟨2, S, Q, O, H, xs⟩, ⟨h, p, m, zs⟩⟩ a c b d) (hn : m ≤ 100000) :
    Calls Try.prog 11 #[.agg (rC ⟨⟨2, S, Q, O, H, xs⟩, ⟨h, p, m, zs⟩⟩ a c b d).toArray] w fun q w' => q = .returned (.bool (rightRec ⟨⟨2, S, Q, O, H, xs⟩, ⟨h, p, m, zs⟩⟩)) ∧ Below w.heap.size w w' := by
  obtain ⟨K, hK⟩ : ∃ K : Int, 2 = K := ⟨_, rfl⟩
  rw [refR2]
  rw [hK] at hr hI ⊢
  obtain ⟨⟨_, _, _, hl, _, _⟩, ⟨hh, hp, hzl, _, _, _⟩⟩ := hr
  obtain ⟨hI, hT⟩ := hI
  dsimp only at hl hh hp hzl hI hT hn
  unfold rC
  dsimp only
  obtain ⟨n, hnx⟩ : ∃ n, xs.length = n := ⟨_, rfl⟩
  have hnn : ((n : Int) == 0) = (xs == []) := by
    rw [← hnx, Bool.eq_iff_iff]
    simp
  rw [hnx]
  have hCl := rcC_len (K := K) (S := S) (Q := Q) (O := O) (a := a) (n := n) (c := c) (b := b) (m := m) (d := d) hl hh hp
  have e0 := Lib.hid (fun w' g (k : Blk w' g 33 (rcC K S Q O H a n c h p b m d)) => rc0 k)
  have e1 := Lib.hid (fun w' g (k : Blk w' g 33 (rcC K S Q O H a n c h p b m d)) => rc1 k)
  have e2 := Lib.hid (fun w' g (k : Blk w' g 33 (rcC K S Q O H a n c h p b m d)) => rc2 k)
  have e3 := Lib.hid (fun w' g (k : Blk w' g 33 (rcC K S Q O H a n c h p b m d)) => rc3 k)
  have e4 := fun w' g (k : Blk w' g 33 (rcC K S Q O H a n c h p b m d)) => rc4 k
  have e5 := Lib.hid (fun w' g (k : Blk w' g 33 (rcC K S Q O H a n c h p b m d)) => rc5 k hl)
  have e6 := fun w' g (k : Blk w' g 33 (rcC K S Q O H a n c h p b m d)) => rc6 k hl
  have e7 := fun w' g (k : Blk w' g 33 (rcC K S Q O H a n c h p b m d)) => rc7 k hl
  have hsm := fun w' (k : Below w.heap.size w w') => r16Same_any h p b m d zs z32 z32 none 0 0 [] w' hh hp rfl rfl (hT.keep k) ⟨rfl, Nat.le_refl _, .inl rfl⟩ hn
  have heq := fun w' => eqHint16 H z16 hl rfl w'
  have hng := noGuardHint16
  have hbh := built_h17
  have hbb := built_bk0
  have hrX := rowHint_of hl
  have hUl := bkC_len (a := b) (n := m) (c := d) hh hp
  obtain ⟨X, hX⟩ : ∃ X, H.map (Value.int .u8) = X := ⟨_, rfl⟩
  obtain ⟨Zh, hZh⟩ : ∃ X, z16.map (Value.int .u8) = X := ⟨_, rfl⟩
  obtain ⟨Y, hY⟩ : ∃ X, bkC h p b m d = X := ⟨_, rfl⟩
  obtain ⟨Zb, hZb⟩ : ∃ X, bkC z32 z32 none 0 0 = X := ⟨_, rfl⟩
  rw [hX] at e4 heq hrX
  rw [hZh] at heq hbh
  rw [hY] at e6 hsm hUl
  rw [hZb] at hsm hbb
  have hrY : IsRow Try.prog 31 Y.length := rowBk_of hUl
  obtain ⟨T1, hT1⟩ : ∃ T, (H == z16) = T := ⟨_, rfl⟩
  obtain ⟨T2, hT2⟩ : ∃ T, (xs == []) = T := ⟨_, rfl⟩
  obtain ⟨T3, hT3⟩ : ∃ T, sameK ⟨h, p, m, zs⟩ noBlk = T := ⟨_, rfl⟩
  rw [hT1] at heq
  rw [hT2] at hnn
  rw [show sameK ⟨h, p, m, zs⟩ ⟨z32, z32, 0, []⟩ = T3 from hT3] at hsm
  obtain ⟨C, hC⟩ : ∃ C, rcC K S Q O H a n c h p b m d = C := ⟨_, rfl⟩
  rw [hC] at hCl e0 e1 e2 e3 e4 e5 e6 e7
  rw [hC]
  have e4 := Lib.hid e4
  have e6 := Lib.hid e6
  have e7 := Lib.hid e7
  have hsmH := Lib.hid hsm
  have hb := below1 w (.cells C.toArray 33)
  have hk : Blk (w.alloc (.cells C.toArray 33)) w.heap.size 33 C := Blk.new w _ C
  obtain ⟨V, hV⟩ : ∃ V, w.alloc (.cells C.toArray 33) = V := ⟨_, rfl⟩
  rw [hV] at hb hk
  obtain ⟨G, g9⟩ : ∃ G, w.heap.size = G := ⟨_, rfl⟩
  rw [g9] at hk
  have gH := Lib.hid g9
  have c4 := e4.out V G hk
  have c5 := e5.out V G hk
  have c6 := e6.out V G hk
  have hTH := Lib.hid hT
  have hYr := hY
  clear hX hZh hY hZb hC hsm hT hI
  subst hK
  rw [hT3]
  clear hT1 hT2 hT3
  have hn6 : decide ((n : Int) ≤ 600) = decide (n ≤ 600) := decide_eq_decide.2 (by omega)
  obtain ⟨T6, hT6⟩ : ∃ T, decide (n ≤ 600) = T := ⟨_, rfl⟩
  rw [hT6] at hn6 ⊢
  clear hT6
  by_cases o0 : O = 0
  · subst o0
    cases T3 with
    | true =>
      go_enter Try.func11, Try.ntmps11
      go_wp2_with ((with_reducible refine box_row rfl 33 (.tmp 0) rfl C ?_ ?_); rfl; refine RowKit.Hid.out ?_)
      refine Lib.hid ?_
      clear hV g9
      go_wp2_with (first
        | ((with_reducible refine wpList_load_part rfl 25 (.tmp 6) rfl ?_ X c4 hrX ?_); rfl)
        | ((with_reducible refine build_row rfl 25 #[] rfl (cells := Zh.toArray) ?_ ?_); (refine Eq.trans (congrArg _ ?_) hbh; kernel_rfl))
        | ((with_reducible refine wpList_load_part rfl 31 (.tmp 14) rfl ?_ Y c6 hrY ?_); rfl)
        | ((with_reducible refine build_row rfl 31 #[] rfl (cells := Zb.toArray) ?_ ?_); (refine Eq.trans (congrArg _ ?_) hbb; kernel_rfl)))
      refine (hsmH.out V hb).mono ?_
      rintro q w2 ⟨rfl, b2⟩
      have hk2 := hk.keep b2 hk.lt
      have hS2 := hb.trans (b2.mono hb.size)
      have c0 := e0.out w2 G hk2
      have c1 := e1.out w2 G hk2
      have c2 := e2.out w2 G hk2
      have c3 := e3.out w2 G hk2
      clear c4 c5 c6 hk hb b2 heq hbh
      have c5 := e5.out w2 G hk2
      have c6 := e6.out w2 G hk2
      go_wp2
      go_ret
      exact ⟨by first | rfl | simp | (rw [hn6]; rfl) | simp [hn6], hS2⟩
    | false =>
      go_enter Try.func11, Try.ntmps11
      go_wp2_with ((with_reducible refine box_row rfl 33 (.tmp 0) rfl C ?_ ?_); rfl; refine RowKit.Hid.out ?_)
      refine Lib.hid ?_
      clear hV g9
      go_wp2_with (first
        | ((with_reducible refine wpList_load_part rfl 25 (.tmp 6) rfl ?_ X c4 hrX ?_); rfl)
        | ((with_reducible refine build_row rfl 25 #[] rfl (cells := Zh.toArray) ?_ ?_); (refine Eq.trans (congrArg _ ?_) hbh; kernel_rfl))
        | ((with_reducible refine wpList_load_part rfl 31 (.tmp 14) rfl ?_ Y c6 hrY ?_); rfl)
        | ((with_reducible refine build_row rfl 31 #[] rfl (cells := Zb.toArray) ?_ ?_); (refine Eq.trans (congrArg _ ?_) hbb; kernel_rfl)))
      refine (hsmH.out V hb).mono ?_
      rintro q w2 ⟨rfl, b2⟩
      have hk2 := hk.keep b2 hk.lt
      have hS2 := hb.trans (b2.mono hb.size)
      have c0 := e0.out w2 G hk2
      have c1 := e1.out w2 G hk2
      have c2 := e2.out w2 G hk2
      have c3 := e3.out w2 G hk2
      clear c4 c5 c6 hk hb b2 heq hbh
      have c5 := e5.out w2 G hk2
      have c6 := e6.out w2 G hk2
      go_wp2
      go_ret
      exact ⟨by first | rfl | simp | (rw [hnn]; rfl), hS2⟩
  · have ob : (O == 0) = false := beq_false_of_ne o0
    rw [ob]
    go_enter Try.func11, Try.ntmps11
    go_wp2_with ((with_reducible refine box_row rfl 33 (.tmp 0) rfl C ?_ ?_); rfl; refine RowKit.Hid.out ?_)
    refine Lib.hid ?_
    clear hV g9
    go_wp2_with (first
      | ((with_reducible refine wpList_load_part rfl 25 (.tmp 6) rfl ?_ X c4 hrX ?_); rfl)
      | ((with_reducible refine build_row rfl 25 #[] rfl (cells := Zh.toArray) ?_ ?_); (refine Eq.trans (congrArg _ ?_) hbh; kernel_rfl))
      | ((with_reducible refine wpList_load_part rfl 31 (.tmp 14) rfl ?_ Y c6 hrY ?_); rfl)
      | ((with_reducible refine build_row rfl 31 #[] rfl (cells := Zb.toArray) ?_ ?_); (refine Eq.trans (congrArg _ ?_) hbb; kernel_rfl)))
    refine (hsmH.out V hb).mono ?_
    rintro q w2 ⟨rfl, b2⟩
    have hk2 := hk.keep b2 hk.lt
    have hS2 := hb.trans (b2.mono hb.size)
    have c0 := e0.out w2 G hk2
    have c1 := e1.out w2 G hk2
    have c2 := e2.out w2 G hk2
    have c3 := e3.out w2 G hk2
    clear c4 c5 c6 hk hb b2 heq hbh
    have c5 := e5.out w2 G hk2
    have c6 := e6.out w2 G hk2
    go_wp2
    go_ret
    exact ⟨by first | rfl | simp | (rw [hnn]; rfl), hS2⟩

set_option maxRecDepth 100000 in
set_option maxHeartbeats 4000000 in
theorem r17Right_4 (S Q O : Int) (H xs h p : List Int) (m : Nat) (zs : List Int) (a b : Option Addr) (c d : Nat) (w : World) (hr : RecOk ⟨⟨4, S, Q, O, H, xs⟩, ⟨h, p, m, zs⟩⟩) (hI : RecAt w ⟨⟨4, S, Q, O, H, xs⟩, ⟨h, p, m, zs⟩⟩ a c b d) (hn : m ≤ 100000) :
    Calls Try.prog 11 #[.agg (rC ⟨⟨4, S, Q, O, H, xs⟩, ⟨h, p, m, zs⟩⟩ a c b d).toArray] w fun q w' => q = .returned (.bool (rightRec ⟨⟨4, S, Q, O, H, xs⟩, ⟨h, p, m, zs⟩⟩)) ∧ Below w.heap.size w w' := by
  obtain ⟨K, hK⟩ : ∃ K : Int, 4 = K := ⟨_, rfl⟩
  rw [refR4]
  rw [hK] at hr hI ⊢
  obtain ⟨⟨_, _, _, hl, _, _⟩, ⟨hh, hp, hzl, _, _, _⟩⟩ := hr
  obtain ⟨hI, hT⟩ := hI
  dsimp only at hl hh hp hzl hI hT hn
  unfold rC
  dsimp only
  obtain ⟨n, hnx⟩ : ∃ n, xs.length = n := ⟨_, rfl⟩
  have hnn : ((n : Int) == 0) = (xs == []) := by
    rw [← hnx, Bool.eq_iff_iff]
    simp
  rw [hnx]
  have hCl := rcC_len (K := K) (S := S) (Q := Q) (O := O) (a := a) (n := n) (c := c) (b := b) (m := m) (d := d) hl hh hp
  have e0 := Lib.hid (fun w' g (k : Blk w' g 33 (rcC K S Q O H a n c h p b m d)) => rc0 k)
  have e1 := Lib.hid (fun w' g (k : Blk w' g 33 (rcC K S Q O H a n c h p b m d)) => rc1 k)
  have e2 := Lib.hid (fun w' g (k : Blk w' g 33 (rcC K S Q O H a n c h p b m d)) => rc2 k)
  have e3 := Lib.hid (fun w' g (k : Blk w' g 33 (rcC K S Q O H a n c h p b m d)) => rc3 k)
  have e4 := fun w' g (k : Blk w' g 33 (rcC K S Q O H a n c h p b m d)) => rc4 k
  have e5 := Lib.hid (fun w' g (k : Blk w' g 33 (rcC K S Q O H a n c h p b m d)) => rc5 k hl)
  have e6 := fun w' g (k : Blk w' g 33 (rcC K S Q O H a n c h p b m d)) => rc6 k hl
  have e7 := fun w' g (k : Blk w' g 33 (rcC K S Q O H a n c h p b m d)) => rc7 k hl
  have hsm := fun w' (k : Below w.heap.size w w') => r16Same_any h p b m d zs z32 z32 none 0 0 [] w' hh hp rfl rfl (hT.keep k) ⟨rfl, Nat.le_refl _, .inl rfl⟩ hn
  have heq := fun w' => eqHint16 H z16 hl rfl w'
  have hng := noGuardHint16
  have hbh := built_h17
  have hbb := built_bk0
  have hrX := rowHint_of hl
  have hUl := bkC_len (a := b) (n := m) (c := d) hh hp
  obtain ⟨X, hX⟩ : ∃ X, H.map (Value.int .u8) = X := ⟨_, rfl⟩
  obtain ⟨Zh, hZh⟩ : ∃ X, z16.map (Value.int .u8) = X := ⟨_, rfl⟩
  obtain ⟨Y, hY⟩ : ∃ X, bkC h p b m d = X := ⟨_, rfl⟩
  obtain ⟨Zb, hZb⟩ : ∃ X, bkC z32 z32 none 0 0 = X := ⟨_, rfl⟩
  rw [hX] at e4 heq hrX
  rw [hZh] at heq hbh
  rw [hY] at e6 hsm hUl
  rw [hZb] at hsm hbb
  have hrY : IsRow Try.prog 31 Y.length := rowBk_of hUl
  obtain ⟨T1, hT1⟩ : ∃ T, (H == z16) = T := ⟨_, rfl⟩
  obtain ⟨T2, hT2⟩ : ∃ T, (xs == []) = T := ⟨_, rfl⟩
  obtain ⟨T3, hT3⟩ : ∃ T, sameK ⟨h, p, m, zs⟩ noBlk = T := ⟨_, rfl⟩
  rw [hT1] at heq
  rw [hT2] at hnn
  rw [show sameK ⟨h, p, m, zs⟩ ⟨z32, z32, 0, []⟩ = T3 from hT3] at hsm
  obtain ⟨C, hC⟩ : ∃ C, rcC K S Q O H a n c h p b m d = C := ⟨_, rfl⟩
  rw [hC] at hCl e0 e1 e2 e3 e4 e5 e6 e7
  rw [hC]
  have e4 := Lib.hid e4
  have e6 := Lib.hid e6
  have e7 := Lib.hid e7
  have hsmH := Lib.hid hsm
  have hb := below1 w (.cells C.toArray 33)
  have hk : Blk (w.alloc (.cells C.toArray 33)) w.heap.size 33 C := Blk.new w _ C
  obtain ⟨V, hV⟩ : ∃ V, w.alloc (.cells C.toArray 33) = V := ⟨_, rfl⟩
  rw [hV] at hb hk
  obtain ⟨G, g9⟩ : ∃ G, w.heap.size = G := ⟨_, rfl⟩
  rw [g9] at hk
  have gH := Lib.hid g9
  have c4 := e4.out V G hk
  have c5 := e5.out V G hk
  have c6 := e6.out V G hk
  have hTH := Lib.hid hT
  have hYr := hY
  clear hX hZh hY hZb hC hsm hT hI
  subst hK
  rw [hT1, hT2, hT3]
  clear hT1 hT2 hT3
  by_cases o0 : O = 0
  · subst o0
    by_cases q0 : Q = 0
    · subst q0
      cases T1 with
      | true =>
        cases T2 with
        | true =>
          go_enter Try.func11, Try.ntmps11
          go_wp2_with ((with_reducible refine box_row rfl 33 (.tmp 0) rfl C ?_ ?_); rfl; refine RowKit.Hid.out ?_)
          refine Lib.hid ?_
          clear hV g9
          go_wp2_with (first
            | ((with_reducible refine wpList_load_part rfl 25 (.tmp 6) rfl ?_ X c4 hrX ?_); rfl)
            | ((with_reducible refine build_row rfl 25 #[] rfl (cells := Zh.toArray) ?_ ?_); (refine Eq.trans (congrArg _ ?_) hbh; kernel_rfl))
            | ((with_reducible refine wpList_load_part rfl 31 (.tmp 14) rfl ?_ Y c6 hrY ?_); rfl)
            | ((with_reducible refine build_row rfl 31 #[] rfl (cells := Zb.toArray) ?_ ?_); (refine Eq.trans (congrArg _ ?_) hbb; kernel_rfl)))
          refine (hsmH.out V hb).mono ?_
          rintro q w2 ⟨rfl, b2⟩
          have hk2 := hk.keep b2 hk.lt
          have hS2 := hb.trans (b2.mono hb.size)
          have c0 := e0.out w2 G hk2
          have c1 := e1.out w2 G hk2
          have c2 := e2.out w2 G hk2
          have c3 := e3.out w2 G hk2
          clear c4 c5 c6 hk hb b2 heq hbh
          have c5 := e5.out w2 G hk2
          have c6 := e6.out w2 G hk2
          go_wp2
          go_ret
          exact ⟨by first | rfl | simp | (rw [hnn]; rfl), hS2⟩
        | false =>
          go_enter Try.func11, Try.ntmps11
          go_wp2_with ((with_reducible refine box_row rfl 33 (.tmp 0) rfl C ?_ ?_); rfl; refine RowKit.Hid.out ?_)
          refine Lib.hid ?_
          clear hV g9
          go_wp2_with (first
            | ((with_reducible refine wpList_load_part rfl 25 (.tmp 6) rfl ?_ X c4 hrX ?_); rfl)
            | ((with_reducible refine build_row rfl 25 #[] rfl (cells := Zh.toArray) ?_ ?_); (refine Eq.trans (congrArg _ ?_) hbh; kernel_rfl))
            | ((with_reducible refine wpList_load_part rfl 31 (.tmp 14) rfl ?_ Y c6 hrY ?_); rfl)
            | ((with_reducible refine build_row rfl 31 #[] rfl (cells := Zb.toArray) ?_ ?_); (refine Eq.trans (congrArg _ ?_) hbb; kernel_rfl)))
          refine (hsmH.out V hb).mono ?_
          rintro q w2 ⟨rfl, b2⟩
          have hk2 := hk.keep b2 hk.lt
          have hS2 := hb.trans (b2.mono hb.size)
          have c0 := e0.out w2 G hk2
          have c1 := e1.out w2 G hk2
          have c2 := e2.out w2 G hk2
          have c3 := e3.out w2 G hk2
          clear c4 c5 c6 hk hb b2 heq hbh
          have c5 := e5.out w2 G hk2
          have c6 := e6.out w2 G hk2
          go_wp2
          go_ret
          exact ⟨by first | rfl | simp | (rw [hnn]; rfl), hS2⟩
      | false =>
        go_enter Try.func11, Try.ntmps11
        go_wp2_with ((with_reducible refine box_row rfl 33 (.tmp 0) rfl C ?_ ?_); rfl; refine RowKit.Hid.out ?_)
        refine Lib.hid ?_
        clear hV g9
        go_wp2_with (first
          | ((with_reducible refine wpList_load_part rfl 25 (.tmp 6) rfl ?_ X c4 hrX ?_); rfl)
          | ((with_reducible refine build_row rfl 25 #[] rfl (cells := Zh.toArray) ?_ ?_); (refine Eq.trans (congrArg _ ?_) hbh; kernel_rfl))
          | ((with_reducible refine wpList_load_part rfl 31 (.tmp 14) rfl ?_ Y c6 hrY ?_); rfl)
          | ((with_reducible refine build_row rfl 31 #[] rfl (cells := Zb.toArray) ?_ ?_); (refine Eq.trans (congrArg _ ?_) hbb; kernel_rfl)))
        refine (hsmH.out V hb).mono ?_
        rintro q w2 ⟨rfl, b2⟩
        have hk2 := hk.keep b2 hk.lt
        have hS2 := hb.trans (b2.mono hb.size)
        have c0 := e0.out w2 G hk2
        have c1 := e1.out w2 G hk2
        have c2 := e2.out w2 G hk2
        have c3 := e3.out w2 G hk2
        clear c4 c5 c6 hk hb b2 heq hbh
        have c5 := e5.out w2 G hk2
        have c6 := e6.out w2 G hk2
        go_wp2
        go_ret
        exact ⟨by first | rfl | simp | (rw [hnn]; rfl), hS2⟩
    · have qb : (Q == 0) = false := beq_false_of_ne q0
      rw [qb]
      go_enter Try.func11, Try.ntmps11
      go_wp2_with ((with_reducible refine box_row rfl 33 (.tmp 0) rfl C ?_ ?_); rfl; refine RowKit.Hid.out ?_)
      refine Lib.hid ?_
      clear hV g9
      go_wp2_with (first
        | ((with_reducible refine wpList_load_part rfl 25 (.tmp 6) rfl ?_ X c4 hrX ?_); rfl)
        | ((with_reducible refine build_row rfl 25 #[] rfl (cells := Zh.toArray) ?_ ?_); (refine Eq.trans (congrArg _ ?_) hbh; kernel_rfl))
        | ((with_reducible refine wpList_load_part rfl 31 (.tmp 14) rfl ?_ Y c6 hrY ?_); rfl)
        | ((with_reducible refine build_row rfl 31 #[] rfl (cells := Zb.toArray) ?_ ?_); (refine Eq.trans (congrArg _ ?_) hbb; kernel_rfl)))
      refine (hsmH.out V hb).mono ?_
      rintro q w2 ⟨rfl, b2⟩
      have hk2 := hk.keep b2 hk.lt
      have hS2 := hb.trans (b2.mono hb.size)
      have c0 := e0.out w2 G hk2
      have c1 := e1.out w2 G hk2
      have c2 := e2.out w2 G hk2
      have c3 := e3.out w2 G hk2
      clear c4 c5 c6 hk hb b2 heq hbh
      have c5 := e5.out w2 G hk2
      have c6 := e6.out w2 G hk2
      go_wp2
      go_ret
      exact ⟨by first | rfl | simp | (rw [hnn]; rfl), hS2⟩
  · have ob : (O == 0) = false := beq_false_of_ne o0
    rw [ob]
    go_enter Try.func11, Try.ntmps11
    go_wp2_with ((with_reducible refine box_row rfl 33 (.tmp 0) rfl C ?_ ?_); rfl; refine RowKit.Hid.out ?_)
    refine Lib.hid ?_
    clear hV g9
    go_wp2_with (first
      | ((with_reducible refine wpList_load_part rfl 25 (.tmp 6) rfl ?_ X c4 hrX ?_); rfl)
      | ((with_reducible refine build_row rfl 25 #[] rfl (cells := Zh.toArray) ?_ ?_); (refine Eq.trans (congrArg _ ?_) hbh; kernel_rfl))
      | ((with_reducible refine wpList_load_part rfl 31 (.tmp 14) rfl ?_ Y c6 hrY ?_); rfl)
      | ((with_reducible refine build_row rfl 31 #[] rfl (cells := Zb.toArray) ?_ ?_); (refine Eq.trans (congrArg _ ?_) hbb; kernel_rfl)))
    refine (hsmH.out V hb).mono ?_
    rintro q w2 ⟨rfl, b2⟩
    have hk2 := hk.keep b2 hk.lt
    have hS2 := hb.trans (b2.mono hb.size)
    have c0 := e0.out w2 G hk2
    have c1 := e1.out w2 G hk2
    have c2 := e2.out w2 G hk2
    have c3 := e3.out w2 G hk2
    clear c4 c5 c6 hk hb b2 heq hbh
    have c5 := e5.out w2 G hk2
    have c6 := e6.out w2 G hk2
    go_wp2
    go_ret
    exact ⟨by first | rfl | simp | (rw [hnn]; rfl), hS2⟩

set_option maxRecDepth 100000 in
set_option maxHeartbeats 4000000 in
theorem r17Right_5 (S Q O : Int) (H xs h p : List Int) (m : Nat) (zs : List Int) (a b : Option Addr) (c d : Nat) (w : World) (hr : RecOk ⟨⟨5, S, Q, O, H, xs⟩, ⟨h, p, m, zs⟩⟩) (hI : RecAt w ⟨⟨5, S, Q, O, H, xs⟩, ⟨h, p, m, zs⟩⟩ a c b d) (hn : m ≤ 100000) :
    Calls Try.prog 11 #[.agg (rC ⟨⟨5, S, Q, O, H, xs⟩, ⟨h, p, m, zs⟩⟩ a c b d).toArray] w fun q w' => q = .returned (.bool (rightRec ⟨⟨5, S, Q, O, H, xs⟩, ⟨h, p, m, zs⟩⟩)) ∧ Below w.heap.size w w' := by
  obtain ⟨K, hK⟩ : ∃ K : Int, 5 = K := ⟨_, rfl⟩
  rw [refR5]
  rw [hK] at hr hI ⊢
  have hrt := fun w' (k : Below w.heap.size w w') => r16Right_any h p b m d zs w' hr.2.1 hr.2.2.1 (hI.2.keep k) hn
  obtain ⟨⟨_, _, _, hl, _, _⟩, ⟨hh, hp, hzl, _, _, _⟩⟩ := hr
  obtain ⟨hI, hT⟩ := hI
  dsimp only at hl hh hp hzl hI hT hn
  unfold rC
  dsimp only
  obtain ⟨n, hnx⟩ : ∃ n, xs.length = n := ⟨_, rfl⟩
  have hnn : ((n : Int) == 0) = (xs == []) := by
    rw [← hnx, Bool.eq_iff_iff]
    simp
  rw [hnx]
  have hCl := rcC_len (K := K) (S := S) (Q := Q) (O := O) (a := a) (n := n) (c := c) (b := b) (m := m) (d := d) hl hh hp
  have e0 := Lib.hid (fun w' g (k : Blk w' g 33 (rcC K S Q O H a n c h p b m d)) => rc0 k)
  have e1 := Lib.hid (fun w' g (k : Blk w' g 33 (rcC K S Q O H a n c h p b m d)) => rc1 k)
  have e2 := Lib.hid (fun w' g (k : Blk w' g 33 (rcC K S Q O H a n c h p b m d)) => rc2 k)
  have e3 := Lib.hid (fun w' g (k : Blk w' g 33 (rcC K S Q O H a n c h p b m d)) => rc3 k)
  have e4 := fun w' g (k : Blk w' g 33 (rcC K S Q O H a n c h p b m d)) => rc4 k
  have e5 := Lib.hid (fun w' g (k : Blk w' g 33 (rcC K S Q O H a n c h p b m d)) => rc5 k hl)
  have e6 := fun w' g (k : Blk w' g 33 (rcC K S Q O H a n c h p b m d)) => rc6 k hl
  have e7 := fun w' g (k : Blk w' g 33 (rcC K S Q O H a n c h p b m d)) => rc7 k hl
  have hsm := fun w' (k : Below w.heap.size w w') => r16Same_any h p b m d zs z32 z32 none 0 0 [] w' hh hp rfl rfl (hT.keep k) ⟨rfl, Nat.le_refl _, .inl rfl⟩ hn
  have heq := fun w' => eqHint16 H z16 hl rfl w'
  have hng := noGuardHint16
  have hbh := built_h17
  have hbb := built_bk0
  have hrX := rowHint_of hl
  have hUl := bkC_len (a := b) (n := m) (c := d) hh hp
  obtain ⟨X, hX⟩ : ∃ X, H.map (Value.int .u8) = X := ⟨_, rfl⟩
  obtain ⟨Zh, hZh⟩ : ∃ X, z16.map (Value.int .u8) = X := ⟨_, rfl⟩
  obtain ⟨Y, hY⟩ : ∃ X, bkC h p b m d = X := ⟨_, rfl⟩
  obtain ⟨Zb, hZb⟩ : ∃ X, bkC z32 z32 none 0 0 = X := ⟨_, rfl⟩
  rw [hX] at e4 heq hrX
  rw [hZh] at heq hbh
  rw [hY] at e6 hsm hUl
  rw [hZb] at hsm hbb
  have hrY : IsRow Try.prog 31 Y.length := rowBk_of hUl
  obtain ⟨T1, hT1⟩ : ∃ T, (H == z16) = T := ⟨_, rfl⟩
  obtain ⟨T2, hT2⟩ : ∃ T, (xs == []) = T := ⟨_, rfl⟩
  obtain ⟨T3, hT3⟩ : ∃ T, sameK ⟨h, p, m, zs⟩ noBlk = T := ⟨_, rfl⟩
  rw [hT1] at heq
  rw [hT2] at hnn
  rw [show sameK ⟨h, p, m, zs⟩ ⟨z32, z32, 0, []⟩ = T3 from hT3] at hsm
  obtain ⟨C, hC⟩ : ∃ C, rcC K S Q O H a n c h p b m d = C := ⟨_, rfl⟩
  rw [hC] at hCl e0 e1 e2 e3 e4 e5 e6 e7
  rw [hC]
  have e4 := Lib.hid e4
  have e6 := Lib.hid e6
  have e7 := Lib.hid e7
  have hsmH := Lib.hid hsm
  have hb := below1 w (.cells C.toArray 33)
  have hk : Blk (w.alloc (.cells C.toArray 33)) w.heap.size 33 C := Blk.new w _ C
  obtain ⟨V, hV⟩ : ∃ V, w.alloc (.cells C.toArray 33) = V := ⟨_, rfl⟩
  rw [hV] at hb hk
  obtain ⟨G, g9⟩ : ∃ G, w.heap.size = G := ⟨_, rfl⟩
  rw [g9] at hk
  have gH := Lib.hid g9
  have c4 := e4.out V G hk
  have c5 := e5.out V G hk
  have c6 := e6.out V G hk
  have hTH := Lib.hid hT
  have hYr := hY
  clear hX hZh hY hZb hC hsm hT hI
  subst hK
  rw [hYr] at hrt
  obtain ⟨T6, hT6⟩ : ∃ T, rightK ⟨h, p, m, zs⟩ = T := ⟨_, rfl⟩
  rw [hT6] at hrt
  rw [hT1, hT2, hT6]
  have hrtH := Lib.hid hrt
  clear hT1 hT2 hT3 hT6 hrt hYr
  by_cases s0 : S = 0
  · subst s0
    by_cases o0 : O = 0
    · subst o0
      by_cases q0 : Q = 0
      · subst q0
        cases T1 with
        | true =>
          cases T2 with
          | true =>
            go_enter Try.func11, Try.ntmps11
            go_wp2_with ((with_reducible refine box_row rfl 33 (.tmp 0) rfl C ?_ ?_); rfl; refine RowKit.Hid.out ?_)
            refine Lib.hid ?_
            clear hV g9
            go_wp2_with (first
              | ((with_reducible refine wpList_load_part rfl 25 (.tmp 6) rfl ?_ X c4 hrX ?_); rfl)
              | ((with_reducible refine build_row rfl 25 #[] rfl (cells := Zh.toArray) ?_ ?_); (refine Eq.trans (congrArg _ ?_) hbh; kernel_rfl))
              | ((with_reducible refine wpList_load_part rfl 31 (.tmp 14) rfl ?_ Y c6 hrY ?_); rfl)
              | ((with_reducible refine build_row rfl 31 #[] rfl (cells := Zb.toArray) ?_ ?_); (refine Eq.trans (congrArg _ ?_) hbb; kernel_rfl)))
            refine (hsmH.out V hb).mono ?_
            rintro q w2 ⟨rfl, b2⟩
            have hk2 := hk.keep b2 hk.lt
            have hS2 := hb.trans (b2.mono hb.size)
            have c0 := e0.out w2 G hk2
            have c1 := e1.out w2 G hk2
            have c2 := e2.out w2 G hk2
            have c3 := e3.out w2 G hk2
            clear c4 c5 c6 hk hb b2 heq hbh
            have c5 := e5.out w2 G hk2
            have c6 := e6.out w2 G hk2
            go_wp2_with ((with_reducible refine load_pif rfl 31 (.tmp 99) rfl ?_ Y c6 hrY ?_); rfl)
            refine (hrtH.out w2 hS2).mono ?_
            rintro q w3 ⟨rfl, b3⟩
            go_wp2
            go_ret
            exact ⟨by first | rfl | simp, hS2.trans (b3.mono hS2.size)⟩
          | false =>
            go_enter Try.func11, Try.ntmps11
            go_wp2_with ((with_reducible refine box_row rfl 33 (.tmp 0) rfl C ?_ ?_); rfl; refine RowKit.Hid.out ?_)
            refine Lib.hid ?_
            clear hV g9
            go_wp2_with (first
              | ((with_reducible refine wpList_load_part rfl 25 (.tmp 6) rfl ?_ X c4 hrX ?_); rfl)
              | ((with_reducible refine build_row rfl 25 #[] rfl (cells := Zh.toArray) ?_ ?_); (refine Eq.trans (congrArg _ ?_) hbh; kernel_rfl))
              | ((with_reducible refine wpList_load_part rfl 31 (.tmp 14) rfl ?_ Y c6 hrY ?_); rfl)
              | ((with_reducible refine build_row rfl 31 #[] rfl (cells := Zb.toArray) ?_ ?_); (refine Eq.trans (congrArg _ ?_) hbb; kernel_rfl)))
            refine (hsmH.out V hb).mono ?_
            rintro q w2 ⟨rfl, b2⟩
            have hk2 := hk.keep b2 hk.lt
            have hS2 := hb.trans (b2.mono hb.size)
            have c0 := e0.out w2 G hk2
            have c1 := e1.out w2 G hk2
            have c2 := e2.out w2 G hk2
            have c3 := e3.out w2 G hk2
            clear c4 c5 c6 hk hb b2 heq hbh
            have c5 := e5.out w2 G hk2
            have c6 := e6.out w2 G hk2
            go_wp2
            go_ret
            exact ⟨by first | rfl | simp | (rw [hnn]; rfl), hS2⟩
        | false =>
          go_enter Try.func11, Try.ntmps11
          go_wp2_with ((with_reducible refine box_row rfl 33 (.tmp 0) rfl C ?_ ?_); rfl; refine RowKit.Hid.out ?_)
          refine Lib.hid ?_
          clear hV g9
          go_wp2_with (first
            | ((with_reducible refine wpList_load_part rfl 25 (.tmp 6) rfl ?_ X c4 hrX ?_); rfl)
            | ((with_reducible refine build_row rfl 25 #[] rfl (cells := Zh.toArray) ?_ ?_); (refine Eq.trans (congrArg _ ?_) hbh; kernel_rfl))
            | ((with_reducible refine wpList_load_part rfl 31 (.tmp 14) rfl ?_ Y c6 hrY ?_); rfl)
            | ((with_reducible refine build_row rfl 31 #[] rfl (cells := Zb.toArray) ?_ ?_); (refine Eq.trans (congrArg _ ?_) hbb; kernel_rfl)))
          refine (hsmH.out V hb).mono ?_
          rintro q w2 ⟨rfl, b2⟩
          have hk2 := hk.keep b2 hk.lt
          have hS2 := hb.trans (b2.mono hb.size)
          have c0 := e0.out w2 G hk2
          have c1 := e1.out w2 G hk2
          have c2 := e2.out w2 G hk2
          have c3 := e3.out w2 G hk2
          clear c4 c5 c6 hk hb b2 heq hbh
          have c5 := e5.out w2 G hk2
          have c6 := e6.out w2 G hk2
          go_wp2
          go_ret
          exact ⟨by first | rfl | simp | (rw [hnn]; rfl), hS2⟩
      · have qb : (Q == 0) = false := beq_false_of_ne q0
        rw [qb]
        go_enter Try.func11, Try.ntmps11
        go_wp2_with ((with_reducible refine box_row rfl 33 (.tmp 0) rfl C ?_ ?_); rfl; refine RowKit.Hid.out ?_)
        refine Lib.hid ?_
        clear hV g9
        go_wp2_with (first
          | ((with_reducible refine wpList_load_part rfl 25 (.tmp 6) rfl ?_ X c4 hrX ?_); rfl)
          | ((with_reducible refine build_row rfl 25 #[] rfl (cells := Zh.toArray) ?_ ?_); (refine Eq.trans (congrArg _ ?_) hbh; kernel_rfl))
          | ((with_reducible refine wpList_load_part rfl 31 (.tmp 14) rfl ?_ Y c6 hrY ?_); rfl)
          | ((with_reducible refine build_row rfl 31 #[] rfl (cells := Zb.toArray) ?_ ?_); (refine Eq.trans (congrArg _ ?_) hbb; kernel_rfl)))
        refine (hsmH.out V hb).mono ?_
        rintro q w2 ⟨rfl, b2⟩
        have hk2 := hk.keep b2 hk.lt
        have hS2 := hb.trans (b2.mono hb.size)
        have c0 := e0.out w2 G hk2
        have c1 := e1.out w2 G hk2
        have c2 := e2.out w2 G hk2
        have c3 := e3.out w2 G hk2
        clear c4 c5 c6 hk hb b2 heq hbh
        have c5 := e5.out w2 G hk2
        have c6 := e6.out w2 G hk2
        go_wp2
        go_ret
        exact ⟨by first | rfl | simp | (rw [hnn]; rfl), hS2⟩
    · have ob : (O == 0) = false := beq_false_of_ne o0
      rw [ob]
      go_enter Try.func11, Try.ntmps11
      go_wp2_with ((with_reducible refine box_row rfl 33 (.tmp 0) rfl C ?_ ?_); rfl; refine RowKit.Hid.out ?_)
      refine Lib.hid ?_
      clear hV g9
      go_wp2_with (first
        | ((with_reducible refine wpList_load_part rfl 25 (.tmp 6) rfl ?_ X c4 hrX ?_); rfl)
        | ((with_reducible refine build_row rfl 25 #[] rfl (cells := Zh.toArray) ?_ ?_); (refine Eq.trans (congrArg _ ?_) hbh; kernel_rfl))
        | ((with_reducible refine wpList_load_part rfl 31 (.tmp 14) rfl ?_ Y c6 hrY ?_); rfl)
        | ((with_reducible refine build_row rfl 31 #[] rfl (cells := Zb.toArray) ?_ ?_); (refine Eq.trans (congrArg _ ?_) hbb; kernel_rfl)))
      refine (hsmH.out V hb).mono ?_
      rintro q w2 ⟨rfl, b2⟩
      have hk2 := hk.keep b2 hk.lt
      have hS2 := hb.trans (b2.mono hb.size)
      have c0 := e0.out w2 G hk2
      have c1 := e1.out w2 G hk2
      have c2 := e2.out w2 G hk2
      have c3 := e3.out w2 G hk2
      clear c4 c5 c6 hk hb b2 heq hbh
      have c5 := e5.out w2 G hk2
      have c6 := e6.out w2 G hk2
      go_wp2
      go_ret
      exact ⟨by first | rfl | simp | (rw [hnn]; rfl), hS2⟩
  · have sb : (S == 0) = false := beq_false_of_ne s0
    rw [sb]
    go_enter Try.func11, Try.ntmps11
    go_wp2_with ((with_reducible refine box_row rfl 33 (.tmp 0) rfl C ?_ ?_); rfl; refine RowKit.Hid.out ?_)
    refine Lib.hid ?_
    clear hV g9
    go_wp2_with (first
      | ((with_reducible refine wpList_load_part rfl 25 (.tmp 6) rfl ?_ X c4 hrX ?_); rfl)
      | ((with_reducible refine build_row rfl 25 #[] rfl (cells := Zh.toArray) ?_ ?_); (refine Eq.trans (congrArg _ ?_) hbh; kernel_rfl))
      | ((with_reducible refine wpList_load_part rfl 31 (.tmp 14) rfl ?_ Y c6 hrY ?_); rfl)
      | ((with_reducible refine build_row rfl 31 #[] rfl (cells := Zb.toArray) ?_ ?_); (refine Eq.trans (congrArg _ ?_) hbb; kernel_rfl)))
    refine (hsmH.out V hb).mono ?_
    rintro q w2 ⟨rfl, b2⟩
    have hk2 := hk.keep b2 hk.lt
    have hS2 := hb.trans (b2.mono hb.size)
    have c0 := e0.out w2 G hk2
    have c1 := e1.out w2 G hk2
    have c2 := e2.out w2 G hk2
    have c3 := e3.out w2 G hk2
    clear c4 c5 c6 hk hb b2 heq hbh
    have c5 := e5.out w2 G hk2
    have c6 := e6.out w2 G hk2
    go_wp2
    go_ret
    exact ⟨by first | rfl | simp | (rw [hnn]; rfl), hS2⟩

set_option maxRecDepth 100000 in
set_option maxHeartbeats 4000000 in
theorem r17Right_6 (S Q O : Int) (H xs h p : List Int) (m : Nat) (zs : List Int) (a b : Option Addr) (c d : Nat) (w : World) (hr : RecOk ⟨⟨6, S, Q, O, H, xs⟩, ⟨h, p, m, zs⟩⟩) (hI : RecAt w ⟨⟨6, S, Q, O, H, xs⟩, ⟨h, p, m, zs⟩⟩ a c b d) (hn : m ≤ 100000) :
    Calls Try.prog 11 #[.agg (rC ⟨⟨6, S, Q, O, H, xs⟩, ⟨h, p, m, zs⟩⟩ a c b d).toArray] w fun q w' => q = .returned (.bool (rightRec ⟨⟨6, S, Q, O, H, xs⟩, ⟨h, p, m, zs⟩⟩)) ∧ Below w.heap.size w w' := by
  obtain ⟨K, hK⟩ : ∃ K : Int, 6 = K := ⟨_, rfl⟩
  rw [refR6]
  rw [hK] at hr hI ⊢
  have hrt := fun w' (k : Below w.heap.size w w') => r16Same_any h p b m d zs h z32 none 0 0 [] w' hr.2.1 hr.2.2.1 hr.2.1 rfl (hI.2.keep k) ⟨rfl, Nat.le_refl _, .inl rfl⟩ hn
  have hbd := built_bk1 h hr.2.1
  have hrI := rowId_of hr.2.1
  obtain ⟨⟨_, _, _, hl, _, _⟩, ⟨hh, hp, hzl, _, _, _⟩⟩ := hr
  obtain ⟨hI, hT⟩ := hI
  dsimp only at hl hh hp hzl hI hT hn
  unfold rC
  dsimp only
  obtain ⟨n, hnx⟩ : ∃ n, xs.length = n := ⟨_, rfl⟩
  have hnn : ((n : Int) == 0) = (xs == []) := by
    rw [← hnx, Bool.eq_iff_iff]
    simp
  rw [hnx]
  have hCl := rcC_len (K := K) (S := S) (Q := Q) (O := O) (a := a) (n := n) (c := c) (b := b) (m := m) (d := d) hl hh hp
  have e0 := Lib.hid (fun w' g (k : Blk w' g 33 (rcC K S Q O H a n c h p b m d)) => rc0 k)
  have e1 := Lib.hid (fun w' g (k : Blk w' g 33 (rcC K S Q O H a n c h p b m d)) => rc1 k)
  have e2 := Lib.hid (fun w' g (k : Blk w' g 33 (rcC K S Q O H a n c h p b m d)) => rc2 k)
  have e3 := Lib.hid (fun w' g (k : Blk w' g 33 (rcC K S Q O H a n c h p b m d)) => rc3 k)
  have e4 := fun w' g (k : Blk w' g 33 (rcC K S Q O H a n c h p b m d)) => rc4 k
  have e5 := Lib.hid (fun w' g (k : Blk w' g 33 (rcC K S Q O H a n c h p b m d)) => rc5 k hl)
  have e6 := fun w' g (k : Blk w' g 33 (rcC K S Q O H a n c h p b m d)) => rc6 k hl
  have e7 := fun w' g (k : Blk w' g 33 (rcC K S Q O H a n c h p b m d)) => rc7 k hl
  have hsm := fun w' (k : Below w.heap.size w w') => r16Same_any h p b m d zs z32 z32 none 0 0 [] w' hh hp rfl rfl (hT.keep k) ⟨rfl, Nat.le_refl _, .inl rfl⟩ hn
  have heq := fun w' => eqHint16 H z16 hl rfl w'
  have hng := noGuardHint16
  have hbh := built_h17
  have hbb := built_bk0
  have hrX := rowHint_of hl
  have hUl := bkC_len (a := b) (n := m) (c := d) hh hp
  obtain ⟨X, hX⟩ : ∃ X, H.map (Value.int .u8) = X := ⟨_, rfl⟩
  obtain ⟨Zh, hZh⟩ : ∃ X, z16.map (Value.int .u8) = X := ⟨_, rfl⟩
  obtain ⟨Y, hY⟩ : ∃ X, bkC h p b m d = X := ⟨_, rfl⟩
  obtain ⟨Zb, hZb⟩ : ∃ X, bkC z32 z32 none 0 0 = X := ⟨_, rfl⟩
  rw [hX] at e4 heq hrX
  rw [hZh] at heq hbh
  rw [hY] at e6 hsm hUl
  rw [hZb] at hsm hbb
  have hrY : IsRow Try.prog 31 Y.length := rowBk_of hUl
  obtain ⟨T1, hT1⟩ : ∃ T, (H == z16) = T := ⟨_, rfl⟩
  obtain ⟨T2, hT2⟩ : ∃ T, (xs == []) = T := ⟨_, rfl⟩
  obtain ⟨T3, hT3⟩ : ∃ T, sameK ⟨h, p, m, zs⟩ noBlk = T := ⟨_, rfl⟩
  rw [hT1] at heq
  rw [hT2] at hnn
  rw [show sameK ⟨h, p, m, zs⟩ ⟨z32, z32, 0, []⟩ = T3 from hT3] at hsm
  obtain ⟨C, hC⟩ : ∃ C, rcC K S Q O H a n c h p b m d = C := ⟨_, rfl⟩
  rw [hC] at hCl e0 e1 e2 e3 e4 e5 e6 e7
  rw [hC]
  have e4 := Lib.hid e4
  have e6 := Lib.hid e6
  have e7 := Lib.hid e7
  have hsmH := Lib.hid hsm
  have hb := below1 w (.cells C.toArray 33)
  have hk : Blk (w.alloc (.cells C.toArray 33)) w.heap.size 33 C := Blk.new w _ C
  obtain ⟨V, hV⟩ : ∃ V, w.alloc (.cells C.toArray 33) = V := ⟨_, rfl⟩
  rw [hV] at hb hk
  obtain ⟨G, g9⟩ : ∃ G, w.heap.size = G := ⟨_, rfl⟩
  rw [g9] at hk
  have gH := Lib.hid g9
  have c4 := e4.out V G hk
  have c5 := e5.out V G hk
  have c6 := e6.out V G hk
  have hTH := Lib.hid hT
  have hYr := hY
  clear hX hZh hY hZb hC hsm hT hI
  subst hK
  rw [hYr] at hrt
  obtain ⟨Yh, hYh⟩ : ∃ T, h.map (Value.int .u8) = T := ⟨_, rfl⟩
  obtain ⟨Yb, hYb⟩ : ∃ T, bkC h z32 none 0 0 = T := ⟨_, rfl⟩
  have e7 := Lib.hid (fun w' g (k : Blk w' g 33 C) => show w'.rangeAt g 21 Yh by rw [← hYh]; exact e7.out w' g k)
  rw [hYh] at hrI hbd
  rw [hYb] at hbd hrt
  obtain ⟨T6, hT6⟩ : ∃ T, sameK ⟨h, p, m, zs⟩ (bareK ⟨h, p, m, zs⟩) = T := ⟨_, rfl⟩
  rw [show sameK ⟨h, p, m, zs⟩ ⟨h, z32, 0, []⟩ = T6 from hT6] at hrt
  rw [hT1, hT2, hT6]
  have hrtH := Lib.hid hrt
  clear hT1 hT2 hT3 hT6 hrt hYr hYh hYb
  by_cases s0 : S = 0
  · subst s0
    by_cases o0 : O = 0
    · subst o0
      by_cases q0 : Q = 0
      · subst q0
        cases T1 with
        | true =>
          cases T2 with
          | true =>
            go_enter Try.func11, Try.ntmps11
            go_wp2_with ((with_reducible refine box_row rfl 33 (.tmp 0) rfl C ?_ ?_); rfl; refine RowKit.Hid.out ?_)
            refine Lib.hid ?_
            clear hV g9
            go_wp2_with (first
              | ((with_reducible refine wpList_load_part rfl 25 (.tmp 6) rfl ?_ X c4 hrX ?_); rfl)
              | ((with_reducible refine build_row rfl 25 #[] rfl (cells := Zh.toArray) ?_ ?_); (refine Eq.trans (congrArg _ ?_) hbh; kernel_rfl))
              | ((with_reducible refine wpList_load_part rfl 31 (.tmp 14) rfl ?_ Y c6 hrY ?_); rfl)
              | ((with_reducible refine build_row rfl 31 #[] rfl (cells := Zb.toArray) ?_ ?_); (refine Eq.trans (congrArg _ ?_) hbb; kernel_rfl)))
            refine (hsmH.out V hb).mono ?_
            rintro q w2 ⟨rfl, b2⟩
            have hk2 := hk.keep b2 hk.lt
            have hS2 := hb.trans (b2.mono hb.size)
            have c0 := e0.out w2 G hk2
            have c1 := e1.out w2 G hk2
            have c2 := e2.out w2 G hk2
            have c3 := e3.out w2 G hk2
            clear c4 c5 c6 hk hb b2 heq hbh
            have c5 := e5.out w2 G hk2
            have c6 := e6.out w2 G hk2
            have c7 := e7.out w2 G hk2
            go_wp2_with (first
              | ((with_reducible refine load_pif rfl 31 (.tmp 125) rfl ?_ Y c6 hrY ?_); rfl)
              | ((with_reducible refine load_pif rfl 28 (.tmp 128) rfl ?_ Yh c7 hrI ?_); rfl)
              | ((with_reducible refine build_if rfl 31 #[(0, .tmp 129)] rfl (cells := Yb.toArray) ?_ ?_); (refine Eq.trans (congrArg _ ?_) hbd; kernel_rfl)))
            refine (hrtH.out w2 hS2).mono ?_
            rintro q w3 ⟨rfl, b3⟩
            go_wp2
            go_ret
            exact ⟨by first | rfl | simp, hS2.trans (b3.mono hS2.size)⟩
          | false =>
            go_enter Try.func11, Try.ntmps11
            go_wp2_with ((with_reducible refine box_row rfl 33 (.tmp 0) rfl C ?_ ?_); rfl; refine RowKit.Hid.out ?_)
            refine Lib.hid ?_
            clear hV g9
            go_wp2_with (first
              | ((with_reducible refine wpList_load_part rfl 25 (.tmp 6) rfl ?_ X c4 hrX ?_); rfl)
              | ((with_reducible refine build_row rfl 25 #[] rfl (cells := Zh.toArray) ?_ ?_); (refine Eq.trans (congrArg _ ?_) hbh; kernel_rfl))
              | ((with_reducible refine wpList_load_part rfl 31 (.tmp 14) rfl ?_ Y c6 hrY ?_); rfl)
              | ((with_reducible refine build_row rfl 31 #[] rfl (cells := Zb.toArray) ?_ ?_); (refine Eq.trans (congrArg _ ?_) hbb; kernel_rfl)))
            refine (hsmH.out V hb).mono ?_
            rintro q w2 ⟨rfl, b2⟩
            have hk2 := hk.keep b2 hk.lt
            have hS2 := hb.trans (b2.mono hb.size)
            have c0 := e0.out w2 G hk2
            have c1 := e1.out w2 G hk2
            have c2 := e2.out w2 G hk2
            have c3 := e3.out w2 G hk2
            clear c4 c5 c6 hk hb b2 heq hbh
            have c5 := e5.out w2 G hk2
            have c6 := e6.out w2 G hk2
            go_wp2
            go_ret
            exact ⟨by first | rfl | simp | (rw [hnn]; rfl), hS2⟩
        | false =>
          go_enter Try.func11, Try.ntmps11
          go_wp2_with ((with_reducible refine box_row rfl 33 (.tmp 0) rfl C ?_ ?_); rfl; refine RowKit.Hid.out ?_)
          refine Lib.hid ?_
          clear hV g9
          go_wp2_with (first
            | ((with_reducible refine wpList_load_part rfl 25 (.tmp 6) rfl ?_ X c4 hrX ?_); rfl)
            | ((with_reducible refine build_row rfl 25 #[] rfl (cells := Zh.toArray) ?_ ?_); (refine Eq.trans (congrArg _ ?_) hbh; kernel_rfl))
            | ((with_reducible refine wpList_load_part rfl 31 (.tmp 14) rfl ?_ Y c6 hrY ?_); rfl)
            | ((with_reducible refine build_row rfl 31 #[] rfl (cells := Zb.toArray) ?_ ?_); (refine Eq.trans (congrArg _ ?_) hbb; kernel_rfl)))
          refine (hsmH.out V hb).mono ?_
          rintro q w2 ⟨rfl, b2⟩
          have hk2 := hk.keep b2 hk.lt
          have hS2 := hb.trans (b2.mono hb.size)
          have c0 := e0.out w2 G hk2
          have c1 := e1.out w2 G hk2
          have c2 := e2.out w2 G hk2
          have c3 := e3.out w2 G hk2
          clear c4 c5 c6 hk hb b2 heq hbh
          have c5 := e5.out w2 G hk2
          have c6 := e6.out w2 G hk2
          go_wp2
          go_ret
          exact ⟨by first | rfl | simp | (rw [hnn]; rfl), hS2⟩
      · have qb : (Q == 0) = false := beq_false_of_ne q0
        rw [qb]
        go_enter Try.func11, Try.ntmps11
        go_wp2_with ((with_reducible refine box_row rfl 33 (.tmp 0) rfl C ?_ ?_); rfl; refine RowKit.Hid.out ?_)
        refine Lib.hid ?_
        clear hV g9
        go_wp2_with (first
          | ((with_reducible refine wpList_load_part rfl 25 (.tmp 6) rfl ?_ X c4 hrX ?_); rfl)
          | ((with_reducible refine build_row rfl 25 #[] rfl (cells := Zh.toArray) ?_ ?_); (refine Eq.trans (congrArg _ ?_) hbh; kernel_rfl))
          | ((with_reducible refine wpList_load_part rfl 31 (.tmp 14) rfl ?_ Y c6 hrY ?_); rfl)
          | ((with_reducible refine build_row rfl 31 #[] rfl (cells := Zb.toArray) ?_ ?_); (refine Eq.trans (congrArg _ ?_) hbb; kernel_rfl)))
        refine (hsmH.out V hb).mono ?_
        rintro q w2 ⟨rfl, b2⟩
        have hk2 := hk.keep b2 hk.lt
        have hS2 := hb.trans (b2.mono hb.size)
        have c0 := e0.out w2 G hk2
        have c1 := e1.out w2 G hk2
        have c2 := e2.out w2 G hk2
        have c3 := e3.out w2 G hk2
        clear c4 c5 c6 hk hb b2 heq hbh
        have c5 := e5.out w2 G hk2
        have c6 := e6.out w2 G hk2
        go_wp2
        go_ret
        exact ⟨by first | rfl | simp | (rw [hnn]; rfl), hS2⟩
    · have ob : (O == 0) = false := beq_false_of_ne o0
      rw [ob]
      go_enter Try.func11, Try.ntmps11
      go_wp2_with ((with_reducible refine box_row rfl 33 (.tmp 0) rfl C ?_ ?_); rfl; refine RowKit.Hid.out ?_)
      refine Lib.hid ?_
      clear hV g9
      go_wp2_with (first
        | ((with_reducible refine wpList_load_part rfl 25 (.tmp 6) rfl ?_ X c4 hrX ?_); rfl)
        | ((with_reducible refine build_row rfl 25 #[] rfl (cells := Zh.toArray) ?_ ?_); (refine Eq.trans (congrArg _ ?_) hbh; kernel_rfl))
        | ((with_reducible refine wpList_load_part rfl 31 (.tmp 14) rfl ?_ Y c6 hrY ?_); rfl)
        | ((with_reducible refine build_row rfl 31 #[] rfl (cells := Zb.toArray) ?_ ?_); (refine Eq.trans (congrArg _ ?_) hbb; kernel_rfl)))
      refine (hsmH.out V hb).mono ?_
      rintro q w2 ⟨rfl, b2⟩
      have hk2 := hk.keep b2 hk.lt
      have hS2 := hb.trans (b2.mono hb.size)
      have c0 := e0.out w2 G hk2
      have c1 := e1.out w2 G hk2
      have c2 := e2.out w2 G hk2
      have c3 := e3.out w2 G hk2
      clear c4 c5 c6 hk hb b2 heq hbh
      have c5 := e5.out w2 G hk2
      have c6 := e6.out w2 G hk2
      go_wp2
      go_ret
      exact ⟨by first | rfl | simp | (rw [hnn]; rfl), hS2⟩
  · have sb : (S == 0) = false := beq_false_of_ne s0
    rw [sb]
    go_enter Try.func11, Try.ntmps11
    go_wp2_with ((with_reducible refine box_row rfl 33 (.tmp 0) rfl C ?_ ?_); rfl; refine RowKit.Hid.out ?_)
    refine Lib.hid ?_
    clear hV g9
    go_wp2_with (first
      | ((with_reducible refine wpList_load_part rfl 25 (.tmp 6) rfl ?_ X c4 hrX ?_); rfl)
      | ((with_reducible refine build_row rfl 25 #[] rfl (cells := Zh.toArray) ?_ ?_); (refine Eq.trans (congrArg _ ?_) hbh; kernel_rfl))
      | ((with_reducible refine wpList_load_part rfl 31 (.tmp 14) rfl ?_ Y c6 hrY ?_); rfl)
      | ((with_reducible refine build_row rfl 31 #[] rfl (cells := Zb.toArray) ?_ ?_); (refine Eq.trans (congrArg _ ?_) hbb; kernel_rfl)))
    refine (hsmH.out V hb).mono ?_
    rintro q w2 ⟨rfl, b2⟩
    have hk2 := hk.keep b2 hk.lt
    have hS2 := hb.trans (b2.mono hb.size)
    have c0 := e0.out w2 G hk2
    have c1 := e1.out w2 G hk2
    have c2 := e2.out w2 G hk2
    have c3 := e3.out w2 G hk2
    clear c4 c5 c6 hk hb b2 heq hbh
    have c5 := e5.out w2 G hk2
    have c6 := e6.out w2 G hk2
    go_wp2
    go_ret
    exact ⟨by first | rfl | simp | (rw [hnn]; rfl), hS2⟩

set_option maxRecDepth 100000 in
set_option maxHeartbeats 4000000 in
theorem r17Right_0 (K S Q O : Int) (H xs h p : List Int) (m : Nat) (zs : List Int) (a b : Option Addr) (c d : Nat) (w : World) (hr : RecOk ⟨⟨K, S, Q, O, H, xs⟩, ⟨h, p, m, zs⟩⟩) (hI : RecAt w ⟨⟨K, S, Q, O, H, xs⟩, ⟨h, p, m, zs⟩⟩ a c b d) (hn : m ≤ 100000) (k1 : ¬ K = 1) (k2 : ¬ K = 2) (k4 : ¬ K = 4) (k5 : ¬ K = 5) (k6 : ¬ K = 6) :
    Calls Try.prog 11 #[.agg (rC ⟨⟨K, S, Q, O, H, xs⟩, ⟨h, p, m, zs⟩⟩ a c b d).toArray] w fun q w' => q = .returned (.bool (rightRec ⟨⟨K, S, Q, O, H, xs⟩, ⟨h, p, m, zs⟩⟩)) ∧ Below w.heap.size w w' := by
  have hmay : rightRec ⟨⟨K, S, Q, O, H, xs⟩, ⟨h, p, m, zs⟩⟩ = false := by
    unfold rightRec
    dsimp only
    rw [if_neg k1, if_neg k2, if_neg k4, if_neg k5, if_neg k6]
  rw [hmay]
  obtain ⟨⟨_, _, _, hl, _, _⟩, ⟨hh, hp, hzl, _, _, _⟩⟩ := hr
  obtain ⟨hI, hT⟩ := hI
  dsimp only at hl hh hp hzl hI hT hn
  unfold rC
  dsimp only
  obtain ⟨n, hnx⟩ : ∃ n, xs.length = n := ⟨_, rfl⟩
  have hnn : ((n : Int) == 0) = (xs == []) := by
    rw [← hnx, Bool.eq_iff_iff]
    simp
  rw [hnx]
  have hCl := rcC_len (K := K) (S := S) (Q := Q) (O := O) (a := a) (n := n) (c := c) (b := b) (m := m) (d := d) hl hh hp
  have e0 := Lib.hid (fun w' g (k : Blk w' g 33 (rcC K S Q O H a n c h p b m d)) => rc0 k)
  have e1 := Lib.hid (fun w' g (k : Blk w' g 33 (rcC K S Q O H a n c h p b m d)) => rc1 k)
  have e2 := Lib.hid (fun w' g (k : Blk w' g 33 (rcC K S Q O H a n c h p b m d)) => rc2 k)
  have e3 := Lib.hid (fun w' g (k : Blk w' g 33 (rcC K S Q O H a n c h p b m d)) => rc3 k)
  have e4 := fun w' g (k : Blk w' g 33 (rcC K S Q O H a n c h p b m d)) => rc4 k
  have e5 := Lib.hid (fun w' g (k : Blk w' g 33 (rcC K S Q O H a n c h p b m d)) => rc5 k hl)
  have e6 := fun w' g (k : Blk w' g 33 (rcC K S Q O H a n c h p b m d)) => rc6 k hl
  have e7 := fun w' g (k : Blk w' g 33 (rcC K S Q O H a n c h p b m d)) => rc7 k hl
  have hsm := fun w' (k : Below w.heap.size w w') => r16Same_any h p b m d zs z32 z32 none 0 0 [] w' hh hp rfl rfl (hT.keep k) ⟨rfl, Nat.le_refl _, .inl rfl⟩ hn
  have heq := fun w' => eqHint16 H z16 hl rfl w'
  have hng := noGuardHint16
  have hbh := built_h17
  have hbb := built_bk0
  have hrX := rowHint_of hl
  have hUl := bkC_len (a := b) (n := m) (c := d) hh hp
  obtain ⟨X, hX⟩ : ∃ X, H.map (Value.int .u8) = X := ⟨_, rfl⟩
  obtain ⟨Zh, hZh⟩ : ∃ X, z16.map (Value.int .u8) = X := ⟨_, rfl⟩
  obtain ⟨Y, hY⟩ : ∃ X, bkC h p b m d = X := ⟨_, rfl⟩
  obtain ⟨Zb, hZb⟩ : ∃ X, bkC z32 z32 none 0 0 = X := ⟨_, rfl⟩
  rw [hX] at e4 heq hrX
  rw [hZh] at heq hbh
  rw [hY] at e6 hsm hUl
  rw [hZb] at hsm hbb
  have hrY : IsRow Try.prog 31 Y.length := rowBk_of hUl
  obtain ⟨T1, hT1⟩ : ∃ T, (H == z16) = T := ⟨_, rfl⟩
  obtain ⟨T2, hT2⟩ : ∃ T, (xs == []) = T := ⟨_, rfl⟩
  obtain ⟨T3, hT3⟩ : ∃ T, sameK ⟨h, p, m, zs⟩ noBlk = T := ⟨_, rfl⟩
  rw [hT1] at heq
  rw [hT2] at hnn
  rw [show sameK ⟨h, p, m, zs⟩ ⟨z32, z32, 0, []⟩ = T3 from hT3] at hsm
  obtain ⟨C, hC⟩ : ∃ C, rcC K S Q O H a n c h p b m d = C := ⟨_, rfl⟩
  rw [hC] at hCl e0 e1 e2 e3 e4 e5 e6 e7
  rw [hC]
  have e4 := Lib.hid e4
  have e6 := Lib.hid e6
  have e7 := Lib.hid e7
  have hsmH := Lib.hid hsm
  have hb := below1 w (.cells C.toArray 33)
  have hk : Blk (w.alloc (.cells C.toArray 33)) w.heap.size 33 C := Blk.new w _ C
  obtain ⟨V, hV⟩ : ∃ V, w.alloc (.cells C.toArray 33) = V := ⟨_, rfl⟩
  rw [hV] at hb hk
  obtain ⟨G, g9⟩ : ∃ G, w.heap.size = G := ⟨_, rfl⟩
  rw [g9] at hk
  have gH := Lib.hid g9
  have c4 := e4.out V G hk
  have c5 := e5.out V G hk
  have c6 := e6.out V G hk
  have hTH := Lib.hid hT
  have hYr := hY
  clear hX hZh hY hZb hC hsm hT hI
  have n1 : (K == 1) = false := beq_false_of_ne k1
  have n2 : (K == 2) = false := beq_false_of_ne k2
  have n4 : (K == 4) = false := beq_false_of_ne k4
  have n5 : (K == 5) = false := beq_false_of_ne k5
  have n6 : (K == 6) = false := beq_false_of_ne k6
  clear hT1 hT2 hT3 k1 k2 k4 k5 k6 hYr
  go_enter Try.func11, Try.ntmps11
  go_wp2_with ((with_reducible refine box_row rfl 33 (.tmp 0) rfl C ?_ ?_); rfl; refine RowKit.Hid.out ?_)
  refine Lib.hid ?_
  clear hV g9
  go_wp2_with (first
    | ((with_reducible refine wpList_load_part rfl 25 (.tmp 6) rfl ?_ X c4 hrX ?_); rfl)
    | ((with_reducible refine build_row rfl 25 #[] rfl (cells := Zh.toArray) ?_ ?_); (refine Eq.trans (congrArg _ ?_) hbh; kernel_rfl))
    | ((with_reducible refine wpList_load_part rfl 31 (.tmp 14) rfl ?_ Y c6 hrY ?_); rfl)
    | ((with_reducible refine build_row rfl 31 #[] rfl (cells := Zb.toArray) ?_ ?_); (refine Eq.trans (congrArg _ ?_) hbb; kernel_rfl)))
  refine (hsmH.out V hb).mono ?_
  rintro q w2 ⟨rfl, b2⟩
  have hk2 := hk.keep b2 hk.lt
  have hS2 := hb.trans (b2.mono hb.size)
  have c0 := e0.out w2 G hk2
  have c1 := e1.out w2 G hk2
  have c2 := e2.out w2 G hk2
  have c3 := e3.out w2 G hk2
  clear c4 c5 c6 hk hb b2 heq hbh
  have c5 := e5.out w2 G hk2
  have c6 := e6.out w2 G hk2
  go_wp2
  go_ret
  exact ⟨by first | rfl | simp | (rw [hnn]; rfl), hS2⟩

theorem r17Right_any (r : RecV) (a b : Option Addr) (c d : Nat) (w : World) (hr : RecOk r) (hI : RecAt w r a c b d) (hn : r.b.n ≤ 100000) :
    Calls Try.prog 11 #[.agg (rC r a c b d).toArray] w fun q w' => q = .returned (.bool (rightRec r)) ∧ Below w.heap.size w w' := by
  obtain ⟨⟨K, S, Q, O, H, xs⟩, ⟨h, p, m, zs⟩⟩ := r
  by_cases k1 : K = 1
  · subst k1; exact r17Right_1 S Q O H xs h p m zs a b c d w hr hI hn
  by_cases k2 : K = 2
  · subst k2; exact r17Right_2 S Q O H xs h p m zs a b c d w hr hI hn
  by_cases k4 : K = 4
  · subst k4; exact r17Right_4 S Q O H xs h p m zs a b c d w hr hI hn
  by_cases k5 : K = 5
  · subst k5; exact r17Right_5 S Q O H xs h p m zs a b c d w hr hI hn
  by_cases k6 : K = 6
  · subst k6; exact r17Right_6 S Q O H xs h p m zs a b c d w hr hI hn
  exact r17Right_0 K S Q O H xs h p m zs a b c d w hr hI hn k1 k2 k4 k5 k6
end Go.Proofs.Ytaaflnmdaplfkaa

/-
  What record's Same and the document's come to. New memory alone is written. Conditions: the fields' ranges; at most a hundred thousand ids.
-/
namespace Go.Proofs.Ytaaflnmdaplfkaa
open Go.RowKit

set_option maxRecDepth 100000 in
set_option maxHeartbeats 4000000 in
theorem kcSame_any (r s : RecV) (a b a' b' : Option Addr) (c d c' d' : Nat) (w : World) (hr : RecOk r) (hs : RecOk s) (hI : RecAt w r a c b d) (hJ : RecAt w s a' c' b' d') (hn : r.b.n ≤ 100000) :
    Calls Try.prog 16 #[.agg (rC r a c b d).toArray, .agg (rC s a' c' b' d').toArray] w fun q w' => q = .returned (.bool (sameRec r s)) ∧ Below w.heap.size w w' := by
  obtain ⟨⟨K, S, Q, O, H, xs⟩, ⟨h, p, m, zs⟩⟩ := r
  obtain ⟨⟨K', S', Q', O', H', ys⟩, ⟨h', p', m', zs'⟩⟩ := s
  obtain ⟨⟨_, _, _, hl, _, hx⟩, ⟨hh, hp, _, _, _, _⟩⟩ := hr
  obtain ⟨⟨_, _, _, hl', _, hy⟩, ⟨hh', hp', _, _, _, _⟩⟩ := hs
  obtain ⟨hI, hT⟩ := hI
  obtain ⟨hJ, hT'⟩ := hJ
  dsimp only at hl hx hh hp hl' hy hh' hp' hI hT hJ hT' hn
  have heq := fun w' => eqHint16 H H' hl hl' w'
  have hng := noGuardHint16
  have hbk := fun w' (k : Below w.heap.size w w') => bkSame_any h p b m d zs h' p' b' m' d' zs' w' hh hp hh' hp' (hT.keep k) (hT'.keep k) hn
  unfold sameRec sameM rC
  dsimp only
  obtain ⟨n, hn1⟩ : ∃ n, xs.length = n := ⟨_, rfl⟩
  obtain ⟨n', hn2⟩ : ∃ n, ys.length = n := ⟨_, rfl⟩
  rw [hn1] at hI
  rw [hn2] at hJ
  rw [hn1, hn2]
  obtain ⟨C, hC⟩ : ∃ C, rcC K S Q O H a n c h p b m d = C := ⟨_, rfl⟩
  obtain ⟨D, hD⟩ : ∃ C, rcC K' S' Q' O' H' a' n' c' h' p' b' m' d' = C := ⟨_, rfl⟩
  rw [hC, hD]
  have hb := below2 w (.cells C.toArray 33) (.cells D.toArray 33)
  have hk : Blk ((w.alloc (.cells C.toArray 33)).alloc (.cells D.toArray 33)) w.heap.size 33 C := (Blk.new w _ C).alloc _
  have hk2 : Blk ((w.alloc (.cells C.toArray 33)).alloc (.cells D.toArray 33)) (w.heap.size + 1) 33 D := Blk.new1 w _ _ _
  obtain ⟨V, hV⟩ : ∃ V, (w.alloc (.cells C.toArray 33)).alloc (.cells D.toArray 33) = V := ⟨_, rfl⟩
  rw [hV] at hb hk hk2
  have hbH := Lib.hid hb
  obtain ⟨G, g9⟩ : ∃ G, w.heap.size = G := ⟨_, rfl⟩
  rw [g9] at hk hk2
  rw [← hC] at hk
  rw [← hD] at hk2
  have c0 := rc0 hk
  have c1 := rc1 hk
  have c2 := rc2 hk
  have c3 := rc3 hk
  have c4 := rc4 hk
  have c5 := rc5 hk hl
  have c6 := rc6 hk hl
  have d0 := rc0 hk2
  have d1 := rc1 hk2
  have d2 := rc2 hk2
  have d3 := rc3 hk2
  have d4 := rc4 hk2
  have d5 := rc5 hk2 hl'
  have d6 := rc6 hk2 hl'
  have hrX : IsRow Try.prog 25 (H.map (Value.int .u8)).length := rowHint_of hl
  have hrY : IsRow Try.prog 25 (H'.map (Value.int .u8)).length := rowHint_of hl'
  have hrU : IsRow Try.prog 31 (bkC h p b m d).length := rowBk_of (bkC_len hh hp)
  have hrW : IsRow Try.prog 31 (bkC h' p' b' m' d').length := rowBk_of (bkC_len hh' hp')
  obtain ⟨X, hX⟩ : ∃ X, H.map (Value.int .u8) = X := ⟨_, rfl⟩
  obtain ⟨Y, hY⟩ : ∃ X, H'.map (Value.int .u8) = X := ⟨_, rfl⟩
  obtain ⟨U, hU⟩ : ∃ X, bkC h p b m d = X := ⟨_, rfl⟩
  obtain ⟨W, hW⟩ : ∃ X, bkC h' p' b' m' d' = X := ⟨_, rfl⟩
  rw [hX] at c4 heq hrX
  rw [hY] at d4 heq hrY
  rw [hU] at c6 hrU hbk
  rw [hW] at d6 hrW hbk
  have hbk := Lib.hid hbk
  obtain ⟨T1, hT1⟩ : ∃ T, (K == K') = T := ⟨_, rfl⟩
  obtain ⟨T2, hT2⟩ : ∃ T, (S == S') = T := ⟨_, rfl⟩
  obtain ⟨T3, hT3⟩ : ∃ T, (Q == Q') = T := ⟨_, rfl⟩
  obtain ⟨T4, hT4⟩ : ∃ T, (O == O') = T := ⟨_, rfl⟩
  obtain ⟨T5, hT5⟩ : ∃ T, (H == H') = T := ⟨_, rfl⟩
  obtain ⟨T7, hT7⟩ : ∃ T, sameK ⟨h, p, m, zs⟩ ⟨h', p', m', zs'⟩ = T := ⟨_, rfl⟩
  rw [hT5] at heq
  rw [hT7] at hbk
  have ee := msEqual_any a n c xs a' n' c' ys V (hI.keep hb) (hJ.keep hb) hx hy
  have ee := Lib.hid (fun (w' : World) => (msEqual_any a n c xs a' n' c' ys V (hI.keep hb) (hJ.keep hb) hx hy))
  have kk := Lib.hid (hbk.out V hb)
  obtain ⟨T6, hT6⟩ : ∃ T, (xs == ys) = T := ⟨_, rfl⟩
  rw [hT6] at ee
  rw [hT1, hT2, hT3, hT4, hT5, hT6, hT7]
  clear hC hD hk hk2 hb hI hJ hT hT' hx hy hX hY hU hW hT5 hT6 hT7 hbk hn1 hn2 hn hl hl' hh hh' hp hp'
  cases T1 with
  | false =>
    go_enter Try.func16, Try.ntmps16
    go_wp2_with (first
      | ((with_reducible refine box_row rfl 33 (.tmp 0) rfl C ?_ ?_); rfl)
      | ((with_reducible refine box_row rfl 33 (.tmp 1) rfl D ?_ ?_); rfl; refine RowKit.Hid.out ?_))
    refine Lib.hid ?_
    clear hV g9
    go_wp2_with (first
      | ((with_reducible refine load_pif rfl 25 (.tmp 32) rfl ?_ X c4 hrX ?_); rfl)
      | ((with_reducible refine load_pif rfl 25 (.tmp 34) rfl ?_ Y d4 hrY ?_); rfl)
      | ((with_reducible refine load_pif rfl 31 (.tmp 46) rfl ?_ U c6 hrU ?_); rfl)
      | ((with_reducible refine load_pif rfl 31 (.tmp 48) rfl ?_ W d6 hrW ?_); rfl))
    go_ret
    exact ⟨by first | rfl | simp, hbH.out⟩
  | true =>
    cases T2 with
    | false =>
      go_enter Try.func16, Try.ntmps16
      go_wp2_with (first
        | ((with_reducible refine box_row rfl 33 (.tmp 0) rfl C ?_ ?_); rfl)
        | ((with_reducible refine box_row rfl 33 (.tmp 1) rfl D ?_ ?_); rfl; refine RowKit.Hid.out ?_))
      refine Lib.hid ?_
      clear hV g9
      go_wp2_with (first
        | ((with_reducible refine load_pif rfl 25 (.tmp 32) rfl ?_ X c4 hrX ?_); rfl)
        | ((with_reducible refine load_pif rfl 25 (.tmp 34) rfl ?_ Y d4 hrY ?_); rfl)
        | ((with_reducible refine load_pif rfl 31 (.tmp 46) rfl ?_ U c6 hrU ?_); rfl)
        | ((with_reducible refine load_pif rfl 31 (.tmp 48) rfl ?_ W d6 hrW ?_); rfl))
      go_ret
      exact ⟨by first | rfl | simp, hbH.out⟩
    | true =>
      cases T3 with
      | false =>
        go_enter Try.func16, Try.ntmps16
        go_wp2_with (first
          | ((with_reducible refine box_row rfl 33 (.tmp 0) rfl C ?_ ?_); rfl)
          | ((with_reducible refine box_row rfl 33 (.tmp 1) rfl D ?_ ?_); rfl; refine RowKit.Hid.out ?_))
        refine Lib.hid ?_
        clear hV g9
        go_wp2_with (first
          | ((with_reducible refine load_pif rfl 25 (.tmp 32) rfl ?_ X c4 hrX ?_); rfl)
          | ((with_reducible refine load_pif rfl 25 (.tmp 34) rfl ?_ Y d4 hrY ?_); rfl)
          | ((with_reducible refine load_pif rfl 31 (.tmp 46) rfl ?_ U c6 hrU ?_); rfl)
          | ((with_reducible refine load_pif rfl 31 (.tmp 48) rfl ?_ W d6 hrW ?_); rfl))
        go_ret
        exact ⟨by first | rfl | simp, hbH.out⟩
      | true =>
        cases T4 with
        | false =>
          go_enter Try.func16, Try.ntmps16
          go_wp2_with (first
            | ((with_reducible refine box_row rfl 33 (.tmp 0) rfl C ?_ ?_); rfl)
            | ((with_reducible refine box_row rfl 33 (.tmp 1) rfl D ?_ ?_); rfl; refine RowKit.Hid.out ?_))
          refine Lib.hid ?_
          clear hV g9
          go_wp2_with (first
            | ((with_reducible refine load_pif rfl 25 (.tmp 32) rfl ?_ X c4 hrX ?_); rfl)
            | ((with_reducible refine load_pif rfl 25 (.tmp 34) rfl ?_ Y d4 hrY ?_); rfl)
            | ((with_reducible refine load_pif rfl 31 (.tmp 46) rfl ?_ U c6 hrU ?_); rfl)
            | ((with_reducible refine load_pif rfl 31 (.tmp 48) rfl ?_ W d6 hrW ?_); rfl))
          go_ret
          exact ⟨by first | rfl | simp, hbH.out⟩
        | true =>
          cases T5 with
          | false =>
            go_enter Try.func16, Try.ntmps16
            go_wp2_with (first
              | ((with_reducible refine box_row rfl 33 (.tmp 0) rfl C ?_ ?_); rfl)
              | ((with_reducible refine box_row rfl 33 (.tmp 1) rfl D ?_ ?_); rfl; refine RowKit.Hid.out ?_))
            refine Lib.hid ?_
            clear hV g9
            go_wp2_with (first
              | ((with_reducible refine load_pif rfl 25 (.tmp 32) rfl ?_ X c4 hrX ?_); rfl)
              | ((with_reducible refine load_pif rfl 25 (.tmp 34) rfl ?_ Y d4 hrY ?_); rfl)
              | ((with_reducible refine load_pif rfl 31 (.tmp 46) rfl ?_ U c6 hrU ?_); rfl)
              | ((with_reducible refine load_pif rfl 31 (.tmp 48) rfl ?_ W d6 hrW ?_); rfl))
            go_ret
            exact ⟨by first | rfl | simp, hbH.out⟩
          | true =>
            cases T6 with
            | false =>
              go_enter Try.func16, Try.ntmps16
              go_wp2_with (first
                | ((with_reducible refine box_row rfl 33 (.tmp 0) rfl C ?_ ?_); rfl)
                | ((with_reducible refine box_row rfl 33 (.tmp 1) rfl D ?_ ?_); rfl; refine RowKit.Hid.out ?_))
              refine Lib.hid ?_
              clear hV g9
              go_wp2_with (first
                | ((with_reducible refine load_pif rfl 25 (.tmp 32) rfl ?_ X c4 hrX ?_); rfl)
                | ((with_reducible refine load_pif rfl 25 (.tmp 34) rfl ?_ Y d4 hrY ?_); rfl)
                | ((with_reducible refine load_pif rfl 31 (.tmp 46) rfl ?_ U c6 hrU ?_); rfl)
                | ((with_reducible refine load_pif rfl 31 (.tmp 48) rfl ?_ W d6 hrW ?_); rfl))
              refine (ee.out V).mono ?_
              rintro q w1 ⟨rfl, rfl⟩
              go_wp2_with (first
                | ((with_reducible refine load_pif rfl 31 (.tmp 46) rfl ?_ U c6 hrU ?_); rfl)
                | ((with_reducible refine load_pif rfl 31 (.tmp 48) rfl ?_ W d6 hrW ?_); rfl))
              go_ret
              exact ⟨by first | rfl | simp, hbH.out⟩
            | true =>
              go_enter Try.func16, Try.ntmps16
              go_wp2_with (first
                | ((with_reducible refine box_row rfl 33 (.tmp 0) rfl C ?_ ?_); rfl)
                | ((with_reducible refine box_row rfl 33 (.tmp 1) rfl D ?_ ?_); rfl; refine RowKit.Hid.out ?_))
              refine Lib.hid ?_
              clear hV g9
              go_wp2_with (first
                | ((with_reducible refine load_pif rfl 25 (.tmp 32) rfl ?_ X c4 hrX ?_); rfl)
                | ((with_reducible refine load_pif rfl 25 (.tmp 34) rfl ?_ Y d4 hrY ?_); rfl)
                | ((with_reducible refine load_pif rfl 31 (.tmp 46) rfl ?_ U c6 hrU ?_); rfl)
                | ((with_reducible refine load_pif rfl 31 (.tmp 48) rfl ?_ W d6 hrW ?_); rfl))
              refine (ee.out V).mono ?_
              rintro q w1 ⟨rfl, rfl⟩
              go_wp2_with (first
                | ((with_reducible refine load_pif rfl 31 (.tmp 46) rfl ?_ U c6 hrU ?_); rfl)
                | ((with_reducible refine load_pif rfl 31 (.tmp 48) rfl ?_ W d6 hrW ?_); rfl))
              refine kk.out.mono ?_
              rintro q w2 ⟨rfl, b2⟩
              go_wp2
              go_ret
              exact ⟨by first | rfl | simp, hbH.out.trans (b2.mono hbH.out.size)⟩

set_option maxRecDepth 100000 in
set_option maxHeartbeats 4000000 in
theorem r17Same_any (r s : RecV) (a b a' b' : Option Addr) (c d c' d' : Nat) (w : World) (hr : RecOk r) (hs : RecOk s) (hI : RecAt w r a c b d) (hJ : RecAt w s a' c' b' d') (hn : r.b.n ≤ 100000) :
    Calls Try.prog 13 #[.agg (rC r a c b d).toArray, .agg (rC s a' c' b' d').toArray] w fun q w' => q = .returned (.bool (sameRec r s)) ∧ Below w.heap.size w w' := by
  obtain ⟨⟨K, S, Q, O, H, xs⟩, ⟨h, p, m, zs⟩⟩ := r
  obtain ⟨⟨K', S', Q', O', H', ys⟩, ⟨h', p', m', zs'⟩⟩ := s
  obtain ⟨⟨_, _, _, hl, _, hx⟩, ⟨hh, hp, _, _, _, _⟩⟩ := hr
  obtain ⟨⟨_, _, _, hl', _, hy⟩, ⟨hh', hp', _, _, _, _⟩⟩ := hs
  obtain ⟨hI, hT⟩ := hI
  obtain ⟨hJ, hT'⟩ := hJ
  dsimp only at hl hx hh hp hl' hy hh' hp' hI hT hJ hT' hn
  have heq := fun w' => eqHint16 H H' hl hl' w'
  have hng := noGuardHint16
  have hbk := fun w' (k : Below w.heap.size w w') => r16Same_any h p b m d zs h' p' b' m' d' zs' w' hh hp hh' hp' (hT.keep k) (hT'.keep k) hn
  unfold sameRec sameM rC
  dsimp only
  obtain ⟨n, hn1⟩ : ∃ n, xs.length = n := ⟨_, rfl⟩
  obtain ⟨n', hn2⟩ : ∃ n, ys.length = n := ⟨_, rfl⟩
  rw [hn1] at hI
  rw [hn2] at hJ
  rw [hn1, hn2]
  obtain ⟨C, hC⟩ : ∃ C, rcC K S Q O H a n c h p b m d = C := ⟨_, rfl⟩
  obtain ⟨D, hD⟩ : ∃ C, rcC K' S' Q' O' H' a' n' c' h' p' b' m' d' = C := ⟨_, rfl⟩
  rw [hC, hD]
  have hb := below2 w (.cells C.toArray 33) (.cells D.toArray 33)
  have hk : Blk ((w.alloc (.cells C.toArray 33)).alloc (.cells D.toArray 33)) w.heap.size 33 C := (Blk.new w _ C).alloc _
  have hk2 : Blk ((w.alloc (.cells C.toArray 33)).alloc (.cells D.toArray 33)) (w.heap.size + 1) 33 D := Blk.new1 w _ _ _
  obtain ⟨V, hV⟩ : ∃ V, (w.alloc (.cells C.toArray 33)).alloc (.cells D.toArray 33) = V := ⟨_, rfl⟩
  rw [hV] at hb hk hk2
  have hbH := Lib.hid hb
  obtain ⟨G, g9⟩ : ∃ G, w.heap.size = G := ⟨_, rfl⟩
  rw [g9] at hk hk2
  rw [← hC] at hk
  rw [← hD] at hk2
  have c0 := rc0 hk
  have c1 := rc1 hk
  have c2 := rc2 hk
  have c3 := rc3 hk
  have c4 := rc4 hk
  have c5 := rc5 hk hl
  have c6 := rc6 hk hl
  have d0 := rc0 hk2
  have d1 := rc1 hk2
  have d2 := rc2 hk2
  have d3 := rc3 hk2
  have d4 := rc4 hk2
  have d5 := rc5 hk2 hl'
  have d6 := rc6 hk2 hl'
  have hrX : IsRow Try.prog 25 (H.map (Value.int .u8)).length := rowHint_of hl
  have hrY : IsRow Try.prog 25 (H'.map (Value.int .u8)).length := rowHint_of hl'
  have hrU : IsRow Try.prog 31 (bkC h p b m d).length := rowBk_of (bkC_len hh hp)
  have hrW : IsRow Try.prog 31 (bkC h' p' b' m' d').length := rowBk_of (bkC_len hh' hp')
  obtain ⟨X, hX⟩ : ∃ X, H.map (Value.int .u8) = X := ⟨_, rfl⟩
  obtain ⟨Y, hY⟩ : ∃ X, H'.map (Value.int .u8) = X := ⟨_, rfl⟩
  obtain ⟨U, hU⟩ : ∃ X, bkC h p b m d = X := ⟨_, rfl⟩
  obtain ⟨W, hW⟩ : ∃ X, bkC h' p' b' m' d' = X := ⟨_, rfl⟩
  rw [hX] at c4 heq hrX
  rw [hY] at d4 heq hrY
  rw [hU] at c6 hrU hbk
  rw [hW] at d6 hrW hbk
  have hbk := Lib.hid hbk
  obtain ⟨T1, hT1⟩ : ∃ T, (K == K') = T := ⟨_, rfl⟩
  obtain ⟨T2, hT2⟩ : ∃ T, (S == S') = T := ⟨_, rfl⟩
  obtain ⟨T3, hT3⟩ : ∃ T, (Q == Q') = T := ⟨_, rfl⟩
  obtain ⟨T4, hT4⟩ : ∃ T, (O == O') = T := ⟨_, rfl⟩
  obtain ⟨T5, hT5⟩ : ∃ T, (H == H') = T := ⟨_, rfl⟩
  obtain ⟨T7, hT7⟩ : ∃ T, sameK ⟨h, p, m, zs⟩ ⟨h', p', m', zs'⟩ = T := ⟨_, rfl⟩
  rw [hT5] at heq
  rw [hT7] at hbk
  have kk := Lib.hid (hbk.out V hb)
  have v1 := (hI.keep hb).string (P := Try.prog) 26 9 5 Try.underlying26 Try.underlying5 Try.underlying9
  have v2 := (hJ.keep hb).string (P := Try.prog) 26 9 5 Try.underlying26 Try.underlying5 Try.underlying9
  have hst := str_eq hx hy
  rw [show decide (xs = ys) = (xs == ys) by rw [Bool.eq_iff_iff]; simp] at hst
  obtain ⟨SA, hSA⟩ : ∃ S, strOfNums xs = S := ⟨_, rfl⟩
  obtain ⟨SB, hSB⟩ : ∃ S, strOfNums ys = S := ⟨_, rfl⟩
  rw [hSA] at v1 hst
  rw [hSB] at v2 hst
  obtain ⟨T6, hT6⟩ : ∃ T, (xs == ys) = T := ⟨_, rfl⟩
  rw [hT6] at hst
  rw [hT1, hT2, hT3, hT4, hT5, hT6, hT7]
  clear hC hD hk hk2 hb hI hJ hT hT' hx hy hX hY hU hW hT5 hT6 hT7 hbk hn1 hn2 hn hl hl' hh hh' hp hp' hSA hSB
  cases T1 with
  | false =>
    go_enter Try.func13, Try.ntmps13
    go_wp2_with (first
      | ((with_reducible refine box_row rfl 33 (.tmp 0) rfl C ?_ ?_); rfl)
      | ((with_reducible refine box_row rfl 33 (.tmp 1) rfl D ?_ ?_); rfl; refine RowKit.Hid.out ?_))
    refine Lib.hid ?_
    clear hV g9
    go_wp2_with (first
      | ((with_reducible refine load_pif rfl 25 (.tmp 32) rfl ?_ X c4 hrX ?_); rfl)
      | ((with_reducible refine load_pif rfl 25 (.tmp 34) rfl ?_ Y d4 hrY ?_); rfl)
      | ((with_reducible refine load_pif rfl 31 (.tmp 48) rfl ?_ U c6 hrU ?_); rfl)
      | ((with_reducible refine load_pif rfl 31 (.tmp 50) rfl ?_ W d6 hrW ?_); rfl))
    go_ret
    exact ⟨by first | rfl | simp, hbH.out⟩
  | true =>
    cases T2 with
    | false =>
      go_enter Try.func13, Try.ntmps13
      go_wp2_with (first
        | ((with_reducible refine box_row rfl 33 (.tmp 0) rfl C ?_ ?_); rfl)
        | ((with_reducible refine box_row rfl 33 (.tmp 1) rfl D ?_ ?_); rfl; refine RowKit.Hid.out ?_))
      refine Lib.hid ?_
      clear hV g9
      go_wp2_with (first
        | ((with_reducible refine load_pif rfl 25 (.tmp 32) rfl ?_ X c4 hrX ?_); rfl)
        | ((with_reducible refine load_pif rfl 25 (.tmp 34) rfl ?_ Y d4 hrY ?_); rfl)
        | ((with_reducible refine load_pif rfl 31 (.tmp 48) rfl ?_ U c6 hrU ?_); rfl)
        | ((with_reducible refine load_pif rfl 31 (.tmp 50) rfl ?_ W d6 hrW ?_); rfl))
      go_ret
      exact ⟨by first | rfl | simp, hbH.out⟩
    | true =>
      cases T3 with
      | false =>
        go_enter Try.func13, Try.ntmps13
        go_wp2_with (first
          | ((with_reducible refine box_row rfl 33 (.tmp 0) rfl C ?_ ?_); rfl)
          | ((with_reducible refine box_row rfl 33 (.tmp 1) rfl D ?_ ?_); rfl; refine RowKit.Hid.out ?_))
        refine Lib.hid ?_
        clear hV g9
        go_wp2_with (first
          | ((with_reducible refine load_pif rfl 25 (.tmp 32) rfl ?_ X c4 hrX ?_); rfl)
          | ((with_reducible refine load_pif rfl 25 (.tmp 34) rfl ?_ Y d4 hrY ?_); rfl)
          | ((with_reducible refine load_pif rfl 31 (.tmp 48) rfl ?_ U c6 hrU ?_); rfl)
          | ((with_reducible refine load_pif rfl 31 (.tmp 50) rfl ?_ W d6 hrW ?_); rfl))
        go_ret
        exact ⟨by first | rfl | simp, hbH.out⟩
      | true =>
        cases T4 with
        | false =>
          go_enter Try.func13, Try.ntmps13
          go_wp2_with (first
            | ((with_reducible refine box_row rfl 33 (.tmp 0) rfl C ?_ ?_); rfl)
            | ((with_reducible refine box_row rfl 33 (.tmp 1) rfl D ?_ ?_); rfl; refine RowKit.Hid.out ?_))
          refine Lib.hid ?_
          clear hV g9
          go_wp2_with (first
            | ((with_reducible refine load_pif rfl 25 (.tmp 32) rfl ?_ X c4 hrX ?_); rfl)
            | ((with_reducible refine load_pif rfl 25 (.tmp 34) rfl ?_ Y d4 hrY ?_); rfl)
            | ((with_reducible refine load_pif rfl 31 (.tmp 48) rfl ?_ U c6 hrU ?_); rfl)
            | ((with_reducible refine load_pif rfl 31 (.tmp 50) rfl ?_ W d6 hrW ?_); rfl))
          go_ret
          exact ⟨by first | rfl | simp, hbH.out⟩
        | true =>
          cases T5 with
          | false =>
            go_enter Try.func13, Try.ntmps13
            go_wp2_with (first
              | ((with_reducible refine box_row rfl 33 (.tmp 0) rfl C ?_ ?_); rfl)
              | ((with_reducible refine box_row rfl 33 (.tmp 1) rfl D ?_ ?_); rfl; refine RowKit.Hid.out ?_))
            refine Lib.hid ?_
            clear hV g9
            go_wp2_with (first
              | ((with_reducible refine load_pif rfl 25 (.tmp 32) rfl ?_ X c4 hrX ?_); rfl)
              | ((with_reducible refine load_pif rfl 25 (.tmp 34) rfl ?_ Y d4 hrY ?_); rfl)
              | ((with_reducible refine load_pif rfl 31 (.tmp 48) rfl ?_ U c6 hrU ?_); rfl)
              | ((with_reducible refine load_pif rfl 31 (.tmp 50) rfl ?_ W d6 hrW ?_); rfl))
            go_ret
            exact ⟨by first | rfl | simp, hbH.out⟩
          | true =>
            cases T6 with
            | false =>
              go_enter Try.func13, Try.ntmps13
              go_wp2_with (first
                | ((with_reducible refine box_row rfl 33 (.tmp 0) rfl C ?_ ?_); rfl)
                | ((with_reducible refine box_row rfl 33 (.tmp 1) rfl D ?_ ?_); rfl; refine RowKit.Hid.out ?_))
              refine Lib.hid ?_
              clear hV g9
              go_wp2_with (first
                | ((with_reducible refine load_pif rfl 25 (.tmp 32) rfl ?_ X c4 hrX ?_); rfl)
                | ((with_reducible refine load_pif rfl 25 (.tmp 34) rfl ?_ Y d4 hrY ?_); rfl)
                | ((with_reducible refine load_pif rfl 31 (.tmp 48) rfl ?_ U c6 hrU ?_); rfl)
                | ((with_reducible refine load_pif rfl 31 (.tmp 50) rfl ?_ W d6 hrW ?_); rfl))
              go_ret
              exact ⟨by first | rfl | simp, hbH.out⟩
            | true =>
              go_enter Try.func13, Try.ntmps13
              go_wp2_with (first
                | ((with_reducible refine box_row rfl 33 (.tmp 0) rfl C ?_ ?_); rfl)
                | ((with_reducible refine box_row rfl 33 (.tmp 1) rfl D ?_ ?_); rfl; refine RowKit.Hid.out ?_))
              refine Lib.hid ?_
              clear hV g9
              go_wp2_with (first
                | ((with_reducible refine load_pif rfl 25 (.tmp 32) rfl ?_ X c4 hrX ?_); rfl)
                | ((with_reducible refine load_pif rfl 25 (.tmp 34) rfl ?_ Y d4 hrY ?_); rfl)
                | ((with_reducible refine load_pif rfl 31 (.tmp 48) rfl ?_ U c6 hrU ?_); rfl)
                | ((with_reducible refine load_pif rfl 31 (.tmp 50) rfl ?_ W d6 hrW ?_); rfl))
              refine kk.out.mono ?_
              rintro q w2 ⟨rfl, b2⟩
              go_wp2
              go_ret
              exact ⟨by first | rfl | simp, hbH.out.trans (b2.mono hbH.out.size)⟩
end Go.Proofs.Ytaaflnmdaplfkaa
