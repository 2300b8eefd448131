/-
  Texts of stages that were proved on their own, joined: BkMem, BfRight, BkEqual. Each begins with its own words.
-/
import Derived.Test.YtndodckcncejiaaJBkAll4
import Derived.Test.YtndodckcncejiaaJBkAll0
import Derived.Test.YtndodckcncejiaaJBkAll7
import Derived.Test.YtndodckcncejiaaJBkAll6
import Derived.Test.YtndodckcncejiaaSteps
import Derived.Test.YtndodckcncejiaaJBkAll8
import Derived.Test.YtndodckcncejiaaJBkAll5
import Derived.Test.YtndodckcncejiaaJBkAll9
import Derived.Test.YtndodckcncejiaaSeqS

/-
  Blocks in memory (layer 16): their 67 cells, a block of memory that holds one, the fields read, values built; two ids compared. No conditions but those that each row names.
-/
namespace Go.Proofs.Ytndodckcncejiaa
open Go.RowKit

def bkC (H P : List Int) (a : Option Addr) (n c : Nat) : List Value := H.map (Value.int .u8) ++ (P.map (Value.int .u8) ++ [.slice a n c])
theorem bkC_len {H P : List Int} {a : Option Addr} {n c : Nat} (h : H.length = 32) (hp : P.length = 32) : (bkC H P a n c).length = 65 := by simp [bkC, h, hp]
theorem u8_one (H : List Int) : ∀ v ∈ H.map (Value.int .u8), v.oneCell' = true := by
  intro v hv
  obtain ⟨x, _, rfl⟩ := List.mem_map.1 hv
  rfl
theorem bkC_one (H P : List Int) (a : Option Addr) (n c : Nat) : ∀ v ∈ bkC H P a n c, v.oneCell' = true := by
  intro v hv
  unfold bkC at hv
  rcases List.mem_append.1 hv with h | h
  · exact u8_one H v h
  rcases List.mem_append.1 h with h | h
  · exact u8_one P v h
  · obtain rfl := List.mem_singleton.1 h
    rfl
section
variable {w : World} {g : Nat} {T : TypeId} {H P : List Int} {a : Option Addr} {n c : Nat}
theorem bk0 (h : Blk w g T (bkC H P a n c)) : w.rangeAt g 0 (H.map (Value.int .u8)) := h.range 0 _ fun j v hj => by
  have hj' := (List.getElem?_eq_some_iff.1 hj).1
  rw [bkC, Nat.zero_add, List.getElem?_append_left hj']
  exact hj
theorem bk1 (h : Blk w g T (bkC H P a n c)) (hl : H.length = 32) : w.rangeAt g 32 (P.map (Value.int .u8)) := h.range 32 _ fun j v hj => by
  have hj' := (List.getElem?_eq_some_iff.1 hj).1
  rw [bkC, List.getElem?_append_right (by rw [List.length_map]; omega), List.length_map, hl, Nat.add_sub_cancel_left, List.getElem?_append_left hj']
  exact hj
theorem bk2 (h : Blk w g T (bkC H P a n c)) (hl : H.length = 32) (hp : P.length = 32) : w.cell? ⟨g, 64, none⟩ = some (.slice a n c) := by
  rw [h.cell, bkC, List.getElem?_append_right (by rw [List.length_map]; omega), List.length_map, hl, List.getElem?_append_right (by rw [List.length_map]; omega), List.length_map, hp]
  rfl
end
theorem bkC_set {H P : List Int} {a : Option Addr} {n c : Nat} (h : H.length = 32) (hp : P.length = 32) (b : Option Addr) (m d : Nat) : (bkC H P a n c).set 64 (.slice b m d) = bkC H P b m d := by
  unfold bkC
  rw [List.set_append_right _ _ (by rw [List.length_map]; omega), List.length_map, h, List.set_append_right _ _ (by rw [List.length_map]; omega), List.length_map, hp]
  rfl
theorem sizeBk : (Try.prog.info? 26).map (·.size) = some 65 := by kernel_rfl
theorem rowBk : IsRow Try.prog 26 65 := IsRow.struct Try.underlying26 sizeBk
theorem zeroBk : Zero Try.prog 26 (bkC z32 z32 none 0 0) := by unfold Zero; kernel_rfl
theorem built_bk_fill (parts : List (Nat × Value)) : Try.prog.built 26 parts = Instr.fill (#[((0 : Nat), (32 : Nat)), (32, 32), (64, 1)][·]?) (bkC z32 z32 none 0 0).toArray parts := by kernel_rfl
theorem built_bk0 : Try.prog.built 26 [] = some (bkC z32 z32 none 0 0).toArray := by rw [built_bk_fill, Instr.fill]
theorem built_bk1 (H : List Int) (h : H.length = 32) : Try.prog.built 26 [(0, .agg (H.map (Value.int .u8)).toArray)] = some (bkC H z32 none 0 0).toArray := by
  have hl : (H.map (Value.int .u8)).length = 32 := by rw [List.length_map, h]
  rw [built_bk_fill, fill_one9 _ _ 0 0 32 _ (H.map (Value.int .u8)) [] rfl rfl hl (by rw [bkC_len rfl rfl, hl]; decide), Instr.fill, hl]
  rfl
theorem built_bk2 (H P : List Int) (h : H.length = 32) (hp : P.length = 32) : Try.prog.built 26 [(0, .agg (H.map (Value.int .u8)).toArray), (1, .agg (P.map (Value.int .u8)).toArray)] = some (bkC H P none 0 0).toArray := by
  have hl : (H.map (Value.int .u8)).length = 32 := by rw [List.length_map, h]
  have hq : (P.map (Value.int .u8)).length = 32 := by rw [List.length_map, hp]
  rw [built_bk_fill, fill_one9 _ _ 0 0 32 _ (H.map (Value.int .u8)) _ rfl rfl hl (by rw [bkC_len rfl rfl, hl]; decide), hl]
  rw [show List.take 0 (bkC z32 z32 none 0 0) ++ (H.map (Value.int .u8) ++ (bkC z32 z32 none 0 0).drop (0 + 32)) = bkC H z32 none 0 0 from rfl]
  rw [fill_one9 _ _ 1 32 32 _ (P.map (Value.int .u8)) [] rfl rfl hq (by rw [bkC_len h rfl, hq]; decide), Instr.fill, hq]
  unfold bkC
  rw [List.take_append_of_le_length (by omega), List.take_of_length_le (by omega), List.drop_append, List.drop_of_length_le (by omega), List.nil_append, hl]
  rfl
theorem built_bk3 (H P : List Int) (a : Option Addr) (n c : Nat) (h : H.length = 32) (hp : P.length = 32) : Try.prog.built 26 [(0, .agg (H.map (Value.int .u8)).toArray), (1, .agg (P.map (Value.int .u8)).toArray), (2, .slice a n c)] = some (bkC H P a n c).toArray := by
  have hl : (H.map (Value.int .u8)).length = 32 := by rw [List.length_map, h]
  have hq : (P.map (Value.int .u8)).length = 32 := by rw [List.length_map, hp]
  rw [built_bk_fill, fill_one9 _ _ 0 0 32 _ (H.map (Value.int .u8)) _ rfl rfl hl (by rw [bkC_len rfl rfl, hl]; decide), hl]
  rw [show List.take 0 (bkC z32 z32 none 0 0) ++ (H.map (Value.int .u8) ++ (bkC z32 z32 none 0 0).drop (0 + 32)) = bkC H z32 none 0 0 from rfl]
  rw [fill_one9 _ _ 1 32 32 _ (P.map (Value.int .u8)) _ rfl rfl hq (by rw [bkC_len h rfl, hq]; decide), hq]
  have e : (bkC H z32 none 0 0).take 32 ++ (P.map (Value.int .u8) ++ (bkC H z32 none 0 0).drop (32 + 32)) = bkC H P none 0 0 := by
    unfold bkC
    rw [List.take_append_of_le_length (by omega), List.take_of_length_le (by omega), List.drop_append, List.drop_of_length_le (by omega), List.nil_append, hl]
    rfl
  rw [e, fill_one9 _ _ 2 64 1 _ [.slice a n c] [] rfl rfl rfl (by rw [bkC_len h hp]; exact Nat.le_refl 65), Instr.fill]
  unfold bkC
  rw [List.take_append, List.take_of_length_le (by omega), hl, List.take_append_of_le_length (by omega), List.take_of_length_le (by omega), List.drop_append, List.drop_of_length_le (by omega), List.nil_append, hl]
  rw [List.append_assoc]
  congr 4
  rw [List.drop_of_length_le (by rw [List.length_append, hq, List.length_singleton, List.length_singleton]; decide)]
  rfl
theorem built_bkT (a : Option Addr) (n c : Nat) : Try.prog.built 26 [(2, .slice a n c)] = some (bkC z32 z32 a n c).toArray := by
  rw [built_bk_fill, fill_one9 _ _ 2 64 1 _ [.slice a n c] [] rfl rfl rfl (by rw [bkC_len rfl rfl]; exact Nat.le_refl 65), Instr.fill]
  rfl
theorem eqId16 (H H' : List Int) (h : H.length = 32) (h' : H'.length = 32) (w : World) : (Op.equalIn 10000 23 (.agg (H.map (Value.int .u8)).toArray) (.agg (H'.map (Value.int .u8)).toArray)).run Try.prog w = .ok (H == H') w :=
  run_equalIn_ints (P := Try.prog) w 9998 23 5 32 .u8 Try.underlying23 Try.underlying5 sizeU8s H H' h h'
theorem eqHint16 (H H' : List Int) (h : H.length = 16) (h' : H'.length = 16) (w : World) : (Op.equalIn 10000 38 (.agg (H.map (Value.int .u8)).toArray) (.agg (H'.map (Value.int .u8)).toArray)).run Try.prog w = .ok (H == H') w :=
  run_equalIn_ints (P := Try.prog) w 9998 38 5 16 .u8 Try.underlying38 Try.underlying5 sizeU8s H H' h h'
theorem noGuardHint16 : Try.prog.eqGuardType Try.prog.depth 38 = false := by kernel_rfl
theorem rowId_of {H : List Int} (h : H.length = 32) : IsRow Try.prog 23 (H.map (Value.int .u8)).length := by rw [List.length_map, h]; exact rowId9
theorem rowHint_of {H : List Int} (h : H.length = 16) : IsRow Try.prog 38 (H.map (Value.int .u8)).length := by rw [List.length_map, h]; exact rowHint9
/-- An id among ids in memory: where its 32 cells lie. -/
theorem IdsAt.get {w : World} {a : Option Addr} {n c : Nat} {zs : List Int} (h : IdsAt w a n c zs) {i : Nat} (hi : i < n) : ∃ b off, a = some ⟨b, off, none⟩ ∧ w.rangeAt b (off + i * 32) ((idP zs i).map (Value.int .u8)) := by
  obtain ⟨hl, _, h0 | ⟨b, off, ha, hc⟩⟩ := h
  · omega
  · refine ⟨b, off, ha, ?_⟩
    have := ids_part hl hc i hi
    rw [Nat.mul_comm i 32]
    exact this
end Go.Proofs.Ytndodckcncejiaa

/-
  The document's own Right and Few of a block. New memory alone is written. Conditions: at most a hundred thousand ids; an id has 32 bytes.
-/
namespace Go.Proofs.Ytndodckcncejiaa
open Go.RowKit

set_option maxRecDepth 100000 in
set_option maxHeartbeats 2000000 in
theorem r16Right_any (H P : List Int) (a : Option Addr) (n c : Nat) (zs : List Int) (w : World) (hH : H.length = 32) (hP : P.length = 32) (hT : IdsAt w a n c zs) (hn : n ≤ 100000) :
    Calls Try.prog 11 #[.agg (bkC H P a n c).toArray] w fun q w' => q = .returned (.bool (rightK ⟨H, P, n, zs⟩)) ∧ Below w.heap.size w w' := by
  have hl := hT.1
  have hnm : (n : Int) ≤ 100000 := by omega
  have heq := Lib.hid (fun k i (hk : k < n) (hi : i < n) => eqId16 (idP zs k) (idP zs i) (idP_len hl hk) (idP_len hl hi))
  have hps := Lib.hid (fun j (hj : j < n) => rowId_of (idP_len hl hj))
  have heqH := Lib.hid (fun w' => eqId16 H P hH hP w')
  have hr1 := rowId_of hH
  have hr2 := rowId_of hP
  have hb := below1 w (.cells (bkC H P a n c).toArray 26)
  have hk0 := Blk.new w 26 (bkC H P a n c)
  have e0 := Lib.hid (fun w' g (h : Blk w' g 26 (bkC H P a n c)) => bk0 h)
  have e1 := Lib.hid (fun w' g (h : Blk w' g 26 (bkC H P a n c)) => bk1 h hH)
  have e2 := Lib.hid (fun w' g (h : Blk w' g 26 (bkC H P a n c)) => bk2 h hH hP)
  obtain ⟨C, hC⟩ : ∃ C, bkC H P a n c = C := ⟨_, rfl⟩
  rw [hC] at e0 e1 e2
  rw [hC] at hb hk0 ⊢
  obtain ⟨V, hV⟩ : ∃ V, w.alloc (.cells C.toArray 26) = V := ⟨_, rfl⟩
  rw [hV] at hb hk0
  obtain ⟨G, g9⟩ : ∃ G, w.heap.size = G := ⟨_, rfl⟩
  rw [g9] at hk0
  have hTH := Lib.hid hT
  unfold rightK
  dsimp only
  obtain ⟨F, hF⟩ : ∃ C, (H == P) = C := ⟨_, rfl⟩
  rw [hF] at heqH ⊢
  obtain ⟨X0, hX0⟩ : ∃ C, H.map (Value.int .u8) = C := ⟨_, rfl⟩
  obtain ⟨X1, hX1⟩ : ∃ C, P.map (Value.int .u8) = C := ⟨_, rfl⟩
  rw [hX0] at hr1 heqH e0
  rw [hX1] at hr2 heqH e1
  have hng := noGuardIds
  obtain ⟨R, hR⟩ : ∃ R, (decide (n ≤ 32) && (!F && !twiceL zs n)) = R := ⟨_, rfl⟩
  rw [hR]
  have hRH := Lib.hid hR
  clear hT hC hF hX0 hX1 hl hR
  go_enter Try.func11, Try.ntmps11
  go_wp2_with ((with_reducible refine box_row rfl 26 (.tmp 0) rfl C ?_ ?_); rfl)
  have gH := Lib.hid g9
  clear hV g9
  go_loopw [3] (fun i wr => ∃ j : Nat, j ≤ n ∧ i = .int .i64 j ∧ (∀ k i, k < i → i < j → idP zs k ≠ idP zs i) ∧ Blk wr G 26 C ∧ Below w.heap.size w wr) (fun i _ => n - (intOf i).toNat)
  case atStart => exact ⟨0, Nat.zero_le _, rfl, fun k i h1 h2 => absurd h2 (Nat.not_lt_zero i), hk0, hb⟩
  case round =>
    clear hk0 hb
    obtain ⟨j, hj, rfl, hno, hk, hB⟩ := hrel
    have p2 := e2.out wr G hk
    by_cases hlt : j < n
    · have hji : (j : Int) < (n : Int) := by omega
      have hltH := Lib.hid hlt
      have hnoH := Lib.hid hno
      clear hlt hj hno
      go_wp2
      have hkj : ∀ i, i < 0 → idP zs i ≠ idP zs j := fun i h => absurd h (Nat.not_lt_zero i)
      clear p2
      go_loopw [4] (fun i wq => ∃ k : Nat, k ≤ j ∧ i = .int .i64 k ∧ (∀ i, i < k → idP zs i ≠ idP zs j) ∧ Blk wq G 26 C ∧ Below w.heap.size w wq) (fun i _ => j - (intOf i).toNat)
      case atStart => exact ⟨0, Nat.zero_le _, rfl, hkj, hk, hB⟩
      case round =>
        clear hkj hk hB
        obtain ⟨k, hk', rfl, hne, hk, hB⟩ := hrel
        have p2 := e2.out wr G hk
        by_cases hlt : k < j
        · have hki : (k : Int) < (j : Int) := by omega
          have hkn : (k : Int) < (n : Int) := by omega
          have hkN : k < n := by have := hltH.out; omega
          obtain ⟨b, off, rfl, hp⟩ := (hTH.out.keep hB).get hkN
          obtain ⟨b', off', hbb, hp'⟩ := (hTH.out.keep hB).get hltH.out
          injection hbb with hbb
          injection hbb with hb1 hb2
          subst hb1; subst hb2
          have hq := heq.out k j hkN hltH.out
          have HY := hps.out k hkN
          have HZ := hps.out j hltH.out
          have hbad := Lib.hid (fun h => twiceL_true (zs := zs) hlt hltH.out h)
          obtain ⟨E, hE⟩ : ∃ F, (idP zs k == idP zs j) = F := ⟨_, rfl⟩
          rw [hE] at hq
          have hEH := Lib.hid hE
          have hneH := Lib.hid hne
          obtain ⟨Y, hY⟩ : ∃ Y, (idP zs k).map (Value.int .u8) = Y := ⟨_, rfl⟩
          obtain ⟨Z, hZ⟩ : ∃ Y, (idP zs j).map (Value.int .u8) = Y := ⟨_, rfl⟩
          rw [hY] at hq hp HY
          rw [hZ] at hq hp' HZ
          have hltkH := Lib.hid hlt
          clear hlt hk' hne hE hY hZ hkN
          go_wp2_with fail
          refine region_seqS (fun w' => w' = wr.drew) (by kernel_rfl) rfl ?_
          simp only [pairs, Nat.reduceAdd]
          repeat (first
            | (refine SeqS.take (v := .agg (Y).toArray) (by first | assumption | trivial) (by kernel_rfl) (by decide +kernel) (by decide +kernel) (yields_part (by rfl) 23 (.tmp 20) rfl rfl (fun w' h => by subst h; exact hp) (HY)) ?_
               simp only [Act.put, List.setIfInBounds_toArray, List.set_cons_zero, List.set_cons_succ])
            | (refine SeqS.take (v := .agg (Z).toArray) (by first | assumption | trivial) (by kernel_rfl) (by decide +kernel) (by decide +kernel) (yields_part (by rfl) 23 (.tmp 25) rfl rfl (fun w' h => by subst h; exact hp') (HZ)) ?_
               simp only [Act.put, List.setIfInBounds_toArray, List.set_cons_zero, List.set_cons_succ])
            | (refine SeqS.take (v := ?_) (by first | assumption | trivial) (by kernel_rfl) (by decide +kernel) (by decide +kernel) (Or.inl ⟨by rfl, ?_⟩) ?_
               rotate_left
               focus
                 intro w' hb'
                 go_simp
                 with_reducible rfl
               simp only [Act.put, List.setIfInBounds_toArray, List.set_cons_zero, List.set_cons_succ])
            | (refine SeqS.take (v := ?_) (by first | assumption | trivial) (by kernel_rfl) (by decide +kernel) (by decide +kernel) (Or.inl ⟨by rfl, ?_⟩) ?_
               rotate_left
               focus
                 intro w' hb'
                 have d0 := hq w'
                 go_simp
                 with_reducible rfl
               simp only [Act.put, List.setIfInBounds_toArray, List.set_cons_zero, List.set_cons_succ])
            | (refine SeqS.take (v := ?_) (by first | assumption | trivial) (by kernel_rfl) (by decide +kernel) (by decide +kernel) (Or.inl ⟨by rfl, ?_⟩) ?_
               rotate_left
               focus
                 intro w' hb'
                 have d0 : w'.cell? ⟨G, 64, none⟩ = some (.slice (some ⟨b, off, none⟩) n c) := by subst hb'; exact p2
                 go_simp
                 with_reducible rfl
               simp only [Act.put, List.setIfInBounds_toArray, List.set_cons_zero, List.set_cons_succ])
            | (refine SeqS.take (v := undef) (by first | assumption | trivial) (by kernel_rfl) (by decide +kernel) (by decide +kernel) (Or.inr ⟨by rfl, rfl⟩) ?_
               simp only [Act.put, List.setIfInBounds_toArray, List.set_cons_zero, List.set_cons_succ])
            | (refine SeqS.take1 (v := .agg (Y).toArray) (by first | assumption | trivial) (by kernel_rfl) (by decide +kernel) (by decide +kernel) (yields_part (by rfl) 23 (.tmp 20) rfl rfl (fun w' h => by subst h; exact hp) (HY)) ?_
               simp only [Act.put, List.setIfInBounds_toArray, List.set_cons_zero, List.set_cons_succ])
            | (refine SeqS.take1 (v := .agg (Z).toArray) (by first | assumption | trivial) (by kernel_rfl) (by decide +kernel) (by decide +kernel) (yields_part (by rfl) 23 (.tmp 25) rfl rfl (fun w' h => by subst h; exact hp') (HZ)) ?_
               simp only [Act.put, List.setIfInBounds_toArray, List.set_cons_zero, List.set_cons_succ])
            | (refine SeqS.take1 (v := ?_) (by first | assumption | trivial) (by kernel_rfl) (by decide +kernel) (by decide +kernel) (Or.inl ⟨by rfl, ?_⟩) ?_
               rotate_left
               focus
                 intro w' hb'
                 go_simp
                 with_reducible rfl
               simp only [Act.put, List.setIfInBounds_toArray, List.set_cons_zero, List.set_cons_succ])
            | (refine SeqS.take1 (v := ?_) (by first | assumption | trivial) (by kernel_rfl) (by decide +kernel) (by decide +kernel) (Or.inl ⟨by rfl, ?_⟩) ?_
               rotate_left
               focus
                 intro w' hb'
                 have d0 := hq w'
                 go_simp
                 with_reducible rfl
               simp only [Act.put, List.setIfInBounds_toArray, List.set_cons_zero, List.set_cons_succ])
            | (refine SeqS.take1 (v := ?_) (by first | assumption | trivial) (by kernel_rfl) (by decide +kernel) (by decide +kernel) (Or.inl ⟨by rfl, ?_⟩) ?_
               rotate_left
               focus
                 intro w' hb'
                 have d0 : w'.cell? ⟨G, 64, none⟩ = some (.slice (some ⟨b, off, none⟩) n c) := by subst hb'; exact p2
                 go_simp
                 with_reducible rfl
               simp only [Act.put, List.setIfInBounds_toArray, List.set_cons_zero, List.set_cons_succ])
            | (refine SeqS.take1 (v := undef) (by first | assumption | trivial) (by kernel_rfl) (by decide +kernel) (by decide +kernel) (Or.inr ⟨by rfl, rfl⟩) ?_
               simp only [Act.put, List.setIfInBounds_toArray, List.set_cons_zero, List.set_cons_succ])
            | (refine SeqS.take2 (v := .agg (Y).toArray) (by first | assumption | trivial) (by kernel_rfl) (by decide +kernel) (by decide +kernel) (yields_part (by rfl) 23 (.tmp 20) rfl rfl (fun w' h => by subst h; exact hp) (HY)) ?_
               simp only [Act.put, List.setIfInBounds_toArray, List.set_cons_zero, List.set_cons_succ])
            | (refine SeqS.take2 (v := .agg (Z).toArray) (by first | assumption | trivial) (by kernel_rfl) (by decide +kernel) (by decide +kernel) (yields_part (by rfl) 23 (.tmp 25) rfl rfl (fun w' h => by subst h; exact hp') (HZ)) ?_
               simp only [Act.put, List.setIfInBounds_toArray, List.set_cons_zero, List.set_cons_succ])
            | (refine SeqS.take2 (v := ?_) (by first | assumption | trivial) (by kernel_rfl) (by decide +kernel) (by decide +kernel) (Or.inl ⟨by rfl, ?_⟩) ?_
               rotate_left
               focus
                 intro w' hb'
                 go_simp
                 with_reducible rfl
               simp only [Act.put, List.setIfInBounds_toArray, List.set_cons_zero, List.set_cons_succ])
            | (refine SeqS.take2 (v := ?_) (by first | assumption | trivial) (by kernel_rfl) (by decide +kernel) (by decide +kernel) (Or.inl ⟨by rfl, ?_⟩) ?_
               rotate_left
               focus
                 intro w' hb'
                 have d0 := hq w'
                 go_simp
                 with_reducible rfl
               simp only [Act.put, List.setIfInBounds_toArray, List.set_cons_zero, List.set_cons_succ])
            | (refine SeqS.take2 (v := ?_) (by first | assumption | trivial) (by kernel_rfl) (by decide +kernel) (by decide +kernel) (Or.inl ⟨by rfl, ?_⟩) ?_
               rotate_left
               focus
                 intro w' hb'
                 have d0 : w'.cell? ⟨G, 64, none⟩ = some (.slice (some ⟨b, off, none⟩) n c) := by subst hb'; exact p2
                 go_simp
                 with_reducible rfl
               simp only [Act.put, List.setIfInBounds_toArray, List.set_cons_zero, List.set_cons_succ])
            | (refine SeqS.take2 (v := undef) (by first | assumption | trivial) (by kernel_rfl) (by decide +kernel) (by decide +kernel) (Or.inr ⟨by rfl, rfl⟩) ?_
               simp only [Act.put, List.setIfInBounds_toArray, List.set_cons_zero, List.set_cons_succ])
            | (refine SeqS.take3 (v := .agg (Y).toArray) (by first | assumption | trivial) (by kernel_rfl) (by decide +kernel) (by decide +kernel) (yields_part (by rfl) 23 (.tmp 20) rfl rfl (fun w' h => by subst h; exact hp) (HY)) ?_
               simp only [Act.put, List.setIfInBounds_toArray, List.set_cons_zero, List.set_cons_succ])
            | (refine SeqS.take3 (v := .agg (Z).toArray) (by first | assumption | trivial) (by kernel_rfl) (by decide +kernel) (by decide +kernel) (yields_part (by rfl) 23 (.tmp 25) rfl rfl (fun w' h => by subst h; exact hp') (HZ)) ?_
               simp only [Act.put, List.setIfInBounds_toArray, List.set_cons_zero, List.set_cons_succ])
            | (refine SeqS.take3 (v := ?_) (by first | assumption | trivial) (by kernel_rfl) (by decide +kernel) (by decide +kernel) (Or.inl ⟨by rfl, ?_⟩) ?_
               rotate_left
               focus
                 intro w' hb'
                 go_simp
                 with_reducible rfl
               simp only [Act.put, List.setIfInBounds_toArray, List.set_cons_zero, List.set_cons_succ])
            | (refine SeqS.take3 (v := ?_) (by first | assumption | trivial) (by kernel_rfl) (by decide +kernel) (by decide +kernel) (Or.inl ⟨by rfl, ?_⟩) ?_
               rotate_left
               focus
                 intro w' hb'
                 have d0 := hq w'
                 go_simp
                 with_reducible rfl
               simp only [Act.put, List.setIfInBounds_toArray, List.set_cons_zero, List.set_cons_succ])
            | (refine SeqS.take3 (v := ?_) (by first | assumption | trivial) (by kernel_rfl) (by decide +kernel) (by decide +kernel) (Or.inl ⟨by rfl, ?_⟩) ?_
               rotate_left
               focus
                 intro w' hb'
                 have d0 : w'.cell? ⟨G, 64, none⟩ = some (.slice (some ⟨b, off, none⟩) n c) := by subst hb'; exact p2
                 go_simp
                 with_reducible rfl
               simp only [Act.put, List.setIfInBounds_toArray, List.set_cons_zero, List.set_cons_succ])
            | (refine SeqS.take3 (v := undef) (by first | assumption | trivial) (by kernel_rfl) (by decide +kernel) (by decide +kernel) (Or.inr ⟨by rfl, rfl⟩) ?_
               simp only [Act.put, List.setIfInBounds_toArray, List.set_cons_zero, List.set_cons_succ]))
          refine SeqS.done (by decide +kernel) ?_
          cases E with
          | true =>
            have hR : R = false := by rw [← hRH.out, hbad.out (eq_of_beq hEH.out)]; simp
            subst hR
            go_wp2
            go_ret
            exact ⟨rfl, Below.drew hB⟩
          | false =>
            have hgoH := Lib.hid (show ∀ i, i < k + 1 → idP zs i ≠ idP zs j by
              intro i hi
              by_cases e : i = k
              · subst e; exact ne_of_beq_false hEH.out
              · exact hneH.out i (by omega))
            have hk2 : Blk wr.drew G 26 C := hk
            have hB2 : Below w.heap.size w wr.drew := Below.drew hB
            clear hq HY HZ hp hp' hB hk p2
            go_wp2
            exact ⟨⟨k + 1, by have := hltkH.out; omega, by congr 1, hgoH.out, hk2, hB2⟩, by simp only [intOf]; have := hltkH.out; omega⟩
        · obtain rfl : j = k := by omega
          have hki : ¬ (j : Int) < (j : Int) := by omega
          have hgoH := Lib.hid (show ∀ k i, k < i → i < j + 1 → idP zs k ≠ idP zs i by
            intro k i h1 h2
            by_cases e : i = j
            · subst e; exact hne k h1
            · exact hnoH.out k i h1 (by omega))
          clear hlt hk' hne p2
          go_wp2
          exact ⟨⟨j + 1, by have := hltH.out; omega, by congr 1, hgoH.out, hk, hB⟩, by simp only [intOf]; have := hltH.out; omega⟩
    · obtain rfl : n = j := by omega
      have hji : ¬ (n : Int) < (n : Int) := by omega
      have p0 := e0.out wr G hk
      have p1 := e1.out wr G hk
      have hqH := heqH.out
      have hRe : R = (decide (n ≤ 32) && !F) := by rw [← hRH.out, twiceL_false hno]; simp
      clear hlt hj hno hRH
      by_cases h32 : n ≤ 32
      · have h32i : (n : Int) ≤ 32 := by omega
        rw [decide_eq_true h32, Bool.true_and] at hRe
        clear h32 hn
        cases F with
        | true =>
          subst hRe
          go_wp2_with (first
            | ((with_reducible refine load_pif rfl 23 (.tmp 33) rfl ?_ X0 p0 hr1 ?_); rfl)
            | ((with_reducible refine load_pif rfl 23 (.tmp 35) rfl ?_ X1 p1 hr2 ?_); rfl))
          go_ret
          exact ⟨by first | rfl | simp, hB⟩
        | false =>
          subst hRe
          go_wp2_with (first
            | ((with_reducible refine load_pif rfl 23 (.tmp 33) rfl ?_ X0 p0 hr1 ?_); rfl)
            | ((with_reducible refine load_pif rfl 23 (.tmp 35) rfl ?_ X1 p1 hr2 ?_); rfl))
          go_ret
          exact ⟨by first | rfl | simp, hB⟩
      · have h32i : ¬ (n : Int) ≤ 32 := by omega
        rw [decide_eq_false h32, Bool.false_and] at hRe
        subst hRe
        clear h32 hn
        go_wp2_with (first
          | ((with_reducible refine load_pif rfl 23 (.tmp 33) rfl ?_ X0 p0 hr1 ?_); rfl)
          | ((with_reducible refine load_pif rfl 23 (.tmp 35) rfl ?_ X1 p1 hr2 ?_); rfl))
        go_ret
        exact ⟨by first | rfl | simp, hB⟩

set_option maxRecDepth 100000 in
set_option maxHeartbeats 2000000 in
theorem r16Few_any (H P : List Int) (a : Option Addr) (n c : Nat) (w : World) (hH : H.length = 32) (hP : P.length = 32) :
    Calls Try.prog 6 #[.agg (bkC H P a n c).toArray] w fun q w' => q = .returned (.bool (decide (n ≤ 100))) ∧ Below w.heap.size w w' := by
  have hb := below1 w (.cells (bkC H P a n c).toArray 26)
  have p2 := bk2 (Blk.new w 26 (bkC H P a n c)) hH hP
  obtain ⟨C, hC⟩ : ∃ C, bkC H P a n c = C := ⟨_, rfl⟩
  rw [hC] at hb p2 ⊢
  obtain ⟨F, hF⟩ : ∃ F, decide (n ≤ 100) = F := ⟨_, rfl⟩
  rw [hF]
  cases F with
  | true =>
    have h : (n : Int) ≤ 100 := by have := of_decide_eq_true hF; omega
    clear hF hC
    go_enter Try.func6, Try.ntmps6
    go_wp2_with ((with_reducible refine box_row rfl 26 (.tmp 0) rfl C ?_ ?_); rfl)
    go_ret
    exact ⟨by first | rfl | simp, hb⟩
  | false =>
    have h : ¬ (n : Int) ≤ 100 := by have := of_decide_eq_false hF; omega
    clear hF hC
    go_enter Try.func6, Try.ntmps6
    go_wp2_with ((with_reducible refine box_row rfl 26 (.tmp 0) rfl C ?_ ?_); rfl)
    go_ret
    exact ⟨by first | rfl | simp, hb⟩
end Go.Proofs.Ytndodckcncejiaa

/-
  Whether ids, and whether blocks, are the same: the document's Same of layers 9 and 16, slices.Equal and block's Same. New memory alone is written. Conditions: at most a hundred thousand ids; an id has 32 bytes.
-/
namespace Go.Proofs.Ytndodckcncejiaa
open Go.RowKit

def sameL (n : Nat) (zs : List Int) (n' : Nat) (ys : List Int) : Bool := decide (n = n') && (zs == ys)
def sameK (b d : BlkV) : Bool := (b.hash == d.hash) && ((b.parent == d.parent) && sameL b.n b.ids d.n d.ids)
theorem sameK_self (b : BlkV) : sameK b b = true := by simp [sameK, sameL]
theorem sameK_iff {b d : BlkV} : sameK b d = true ↔ b = d := by
  constructor
  · intro h
    obtain ⟨H, P, n, Z⟩ := b
    obtain ⟨H', P', n', Z'⟩ := d
    simp only [sameK, sameL, Bool.and_eq_true, beq_iff_eq, decide_eq_true_eq] at h
    obtain ⟨rfl, rfl, rfl, rfl⟩ := h
    rfl
  · rintro rfl; exact sameK_self _
set_option maxRecDepth 100000 in
set_option maxHeartbeats 2000000 in
theorem rSameB_any (a : Option Addr) (n c : Nat) (zs : List Int) (a' : Option Addr) (n' c' : Nat) (ys : List Int) (w : World) (hT : IdsAt w a n c zs) (hT' : IdsAt w a' n' c' ys) (hn : n ≤ 100000) :
    Calls Try.prog 17 #[.slice a n c, .slice a' n' c'] w fun q w' => q = .returned (.bool (sameL n zs n' ys)) ∧ Below w.heap.size w w' := by
  have hl := hT.1
  have hl' := hT'.1
  have hnm : (n : Int) ≤ 100000 := by omega
  unfold sameL
  by_cases hnn : n = n'
  · subst hnn
    rw [show decide (n = n) = true from decide_eq_true rfl, Bool.true_and]
    have heq := Lib.hid (fun j (hj : j < n) => eqId16 (idP zs j) (idP ys j) (idP_len hl hj) (idP_len hl' hj))
    have hps := Lib.hid (fun j (hj : j < n) => rowId_of (idP_len hl hj))
    have hps' := Lib.hid (fun j (hj : j < n) => rowId_of (idP_len hl' hj))
    have hTH := Lib.hid hT
    have hTH' := Lib.hid hT'
    have hext := Lib.hid (ids_ext hl hl')
    obtain ⟨R, hR⟩ : ∃ R, (zs == ys) = R := ⟨_, rfl⟩
    rw [hR]
    have hRH := Lib.hid hR
    clear hT hT' hR
    go_enter Try.func17, Try.ntmps17
    go_wp2
    go_loopw [5] (fun i wr => ∃ j : Nat, j ≤ n ∧ i = .int .i64 j ∧ (∀ i, i < j → idP zs i = idP ys i) ∧ Below w.heap.size w wr) (fun i _ => n - (intOf i).toNat)
    case atStart => exact ⟨0, Nat.zero_le _, rfl, fun i hi => absurd hi (Nat.not_lt_zero i), Below.refl _ _⟩
    case round =>
      obtain ⟨j, hj, rfl, hno, hB⟩ := hrel
      by_cases hlt : j < n
      · have hji : (j : Int) < (n : Int) := by omega
        obtain ⟨b, off, rfl, hp⟩ := (hTH.out.keep hB).get hlt
        obtain ⟨b', off', rfl, hp'⟩ := (hTH'.out.keep hB).get hlt
        have hq := heq.out j hlt
        have HY := hps.out j hlt
        have HZ := hps'.out j hlt
        obtain ⟨F, hF⟩ : ∃ F, (idP zs j == idP ys j) = F := ⟨_, rfl⟩
        rw [hF] at hq
        have hFH := Lib.hid hF
        have hnoH := Lib.hid hno
        obtain ⟨Y, hY⟩ : ∃ Y, (idP zs j).map (Value.int .u8) = Y := ⟨_, rfl⟩
        obtain ⟨Z, hZ⟩ : ∃ Y, (idP ys j).map (Value.int .u8) = Y := ⟨_, rfl⟩
        rw [hY] at hq hp HY
        rw [hZ] at hq hp' HZ
        have hltH := Lib.hid hlt
        have hng := noGuardIds
        clear hlt hj hno hF hY hZ
        go_wp2_with fail
        refine region_seqS (fun w' => w' = wr.drew) (by kernel_rfl) rfl ?_
        simp only [pairs, Nat.reduceAdd]
        repeat (first
          | (refine SeqS.take (v := .agg (Y).toArray) (by first | assumption | trivial) (by kernel_rfl) (by decide +kernel) (by decide +kernel) (yields_part (by rfl) 23 (.tmp 19) rfl rfl (fun w' h => by subst h; exact hp) (HY)) ?_
             simp only [Act.put, List.setIfInBounds_toArray, List.set_cons_zero, List.set_cons_succ])
          | (refine SeqS.take (v := .agg (Z).toArray) (by first | assumption | trivial) (by kernel_rfl) (by decide +kernel) (by decide +kernel) (yields_part (by rfl) 23 (.tmp 23) rfl rfl (fun w' h => by subst h; exact hp') (HZ)) ?_
             simp only [Act.put, List.setIfInBounds_toArray, List.set_cons_zero, List.set_cons_succ])
          | (refine SeqS.take (v := ?_) (by first | assumption | trivial) (by kernel_rfl) (by decide +kernel) (by decide +kernel) (Or.inl ⟨by rfl, ?_⟩) ?_
             rotate_left
             focus
               intro w' hb'
               go_simp
               with_reducible rfl
             simp only [Act.put, List.setIfInBounds_toArray, List.set_cons_zero, List.set_cons_succ])
          | (refine SeqS.take (v := ?_) (by first | assumption | trivial) (by kernel_rfl) (by decide +kernel) (by decide +kernel) (Or.inl ⟨by rfl, ?_⟩) ?_
             rotate_left
             focus
               intro w' hb'
               have d0 := hq w'
               go_simp
               with_reducible rfl
             simp only [Act.put, List.setIfInBounds_toArray, List.set_cons_zero, List.set_cons_succ])
          | (refine SeqS.take (v := undef) (by first | assumption | trivial) (by kernel_rfl) (by decide +kernel) (by decide +kernel) (Or.inr ⟨by rfl, rfl⟩) ?_
             simp only [Act.put, List.setIfInBounds_toArray, List.set_cons_zero, List.set_cons_succ])
          | (refine SeqS.take1 (v := .agg (Y).toArray) (by first | assumption | trivial) (by kernel_rfl) (by decide +kernel) (by decide +kernel) (yields_part (by rfl) 23 (.tmp 19) rfl rfl (fun w' h => by subst h; exact hp) (HY)) ?_
             simp only [Act.put, List.setIfInBounds_toArray, List.set_cons_zero, List.set_cons_succ])
          | (refine SeqS.take1 (v := .agg (Z).toArray) (by first | assumption | trivial) (by kernel_rfl) (by decide +kernel) (by decide +kernel) (yields_part (by rfl) 23 (.tmp 23) rfl rfl (fun w' h => by subst h; exact hp') (HZ)) ?_
             simp only [Act.put, List.setIfInBounds_toArray, List.set_cons_zero, List.set_cons_succ])
          | (refine SeqS.take1 (v := ?_) (by first | assumption | trivial) (by kernel_rfl) (by decide +kernel) (by decide +kernel) (Or.inl ⟨by rfl, ?_⟩) ?_
             rotate_left
             focus
               intro w' hb'
               go_simp
               with_reducible rfl
             simp only [Act.put, List.setIfInBounds_toArray, List.set_cons_zero, List.set_cons_succ])
          | (refine SeqS.take1 (v := ?_) (by first | assumption | trivial) (by kernel_rfl) (by decide +kernel) (by decide +kernel) (Or.inl ⟨by rfl, ?_⟩) ?_
             rotate_left
             focus
               intro w' hb'
               have d0 := hq w'
               go_simp
               with_reducible rfl
             simp only [Act.put, List.setIfInBounds_toArray, List.set_cons_zero, List.set_cons_succ])
          | (refine SeqS.take1 (v := undef) (by first | assumption | trivial) (by kernel_rfl) (by decide +kernel) (by decide +kernel) (Or.inr ⟨by rfl, rfl⟩) ?_
             simp only [Act.put, List.setIfInBounds_toArray, List.set_cons_zero, List.set_cons_succ])
          | (refine SeqS.take2 (v := .agg (Y).toArray) (by first | assumption | trivial) (by kernel_rfl) (by decide +kernel) (by decide +kernel) (yields_part (by rfl) 23 (.tmp 19) rfl rfl (fun w' h => by subst h; exact hp) (HY)) ?_
             simp only [Act.put, List.setIfInBounds_toArray, List.set_cons_zero, List.set_cons_succ])
          | (refine SeqS.take2 (v := .agg (Z).toArray) (by first | assumption | trivial) (by kernel_rfl) (by decide +kernel) (by decide +kernel) (yields_part (by rfl) 23 (.tmp 23) rfl rfl (fun w' h => by subst h; exact hp') (HZ)) ?_
             simp only [Act.put, List.setIfInBounds_toArray, List.set_cons_zero, List.set_cons_succ])
          | (refine SeqS.take2 (v := ?_) (by first | assumption | trivial) (by kernel_rfl) (by decide +kernel) (by decide +kernel) (Or.inl ⟨by rfl, ?_⟩) ?_
             rotate_left
             focus
               intro w' hb'
               go_simp
               with_reducible rfl
             simp only [Act.put, List.setIfInBounds_toArray, List.set_cons_zero, List.set_cons_succ])
          | (refine SeqS.take2 (v := ?_) (by first | assumption | trivial) (by kernel_rfl) (by decide +kernel) (by decide +kernel) (Or.inl ⟨by rfl, ?_⟩) ?_
             rotate_left
             focus
               intro w' hb'
               have d0 := hq w'
               go_simp
               with_reducible rfl
             simp only [Act.put, List.setIfInBounds_toArray, List.set_cons_zero, List.set_cons_succ])
          | (refine SeqS.take2 (v := undef) (by first | assumption | trivial) (by kernel_rfl) (by decide +kernel) (by decide +kernel) (Or.inr ⟨by rfl, rfl⟩) ?_
             simp only [Act.put, List.setIfInBounds_toArray, List.set_cons_zero, List.set_cons_succ])
          | (refine SeqS.take3 (v := .agg (Y).toArray) (by first | assumption | trivial) (by kernel_rfl) (by decide +kernel) (by decide +kernel) (yields_part (by rfl) 23 (.tmp 19) rfl rfl (fun w' h => by subst h; exact hp) (HY)) ?_
             simp only [Act.put, List.setIfInBounds_toArray, List.set_cons_zero, List.set_cons_succ])
          | (refine SeqS.take3 (v := .agg (Z).toArray) (by first | assumption | trivial) (by kernel_rfl) (by decide +kernel) (by decide +kernel) (yields_part (by rfl) 23 (.tmp 23) rfl rfl (fun w' h => by subst h; exact hp') (HZ)) ?_
             simp only [Act.put, List.setIfInBounds_toArray, List.set_cons_zero, List.set_cons_succ])
          | (refine SeqS.take3 (v := ?_) (by first | assumption | trivial) (by kernel_rfl) (by decide +kernel) (by decide +kernel) (Or.inl ⟨by rfl, ?_⟩) ?_
             rotate_left
             focus
               intro w' hb'
               go_simp
               with_reducible rfl
             simp only [Act.put, List.setIfInBounds_toArray, List.set_cons_zero, List.set_cons_succ])
          | (refine SeqS.take3 (v := ?_) (by first | assumption | trivial) (by kernel_rfl) (by decide +kernel) (by decide +kernel) (Or.inl ⟨by rfl, ?_⟩) ?_
             rotate_left
             focus
               intro w' hb'
               have d0 := hq w'
               go_simp
               with_reducible rfl
             simp only [Act.put, List.setIfInBounds_toArray, List.set_cons_zero, List.set_cons_succ])
          | (refine SeqS.take3 (v := undef) (by first | assumption | trivial) (by kernel_rfl) (by decide +kernel) (by decide +kernel) (Or.inr ⟨by rfl, rfl⟩) ?_
             simp only [Act.put, List.setIfInBounds_toArray, List.set_cons_zero, List.set_cons_succ]))
        refine SeqS.done (by decide +kernel) ?_
        cases F with
        | true =>
          have hgoH := Lib.hid (show ∀ i, i < j + 1 → idP zs i = idP ys i by
            intro i hi
            by_cases e : i = j
            · subst e; exact eq_of_beq hFH.out
            · exact hnoH.out i (by omega))
          have hB2 : Below w.heap.size w wr.drew := Below.drew hB
          clear hq hng HY HZ hp hp' hB
          go_wp2
          exact ⟨⟨j + 1, by have := hltH.out; omega, by congr 1, hgoH.out, hB2⟩, by simp only [intOf]; have := hltH.out; omega⟩
        | false =>
          have hR : R = false := by
            rw [← hRH.out]
            refine beq_false_of_ne (fun e => ?_)
            have := hFH.out
            rw [e] at this
            exact absurd (beq_self_eq_true _) (by rw [this]; decide)
          subst hR
          go_wp2
          go_ret
          exact ⟨rfl, Below.drew hB⟩
      · obtain rfl : n = j := by omega
        have hji : ¬ (n : Int) < (n : Int) := by omega
        have hR : R = true := by rw [← hRH.out, hext.out hno]; exact beq_self_eq_true _
        subst hR
        clear hlt hj hno
        go_wp2
        go_ret
        exact ⟨rfl, hB⟩
  · have hne : ¬ (n : Int) = (n' : Int) := by omega
    rw [show decide (n = n') = false from decide_eq_false hnn, Bool.false_and]
    clear hT hT'
    go_enter Try.func17, Try.ntmps17
    go_wp2
    go_ret
    exact ⟨rfl, Below.refl _ _⟩

set_option maxRecDepth 100000 in
set_option maxHeartbeats 2000000 in
theorem bkEqual_any (a : Option Addr) (n c : Nat) (zs : List Int) (a' : Option Addr) (n' c' : Nat) (ys : List Int) (w : World) (hT : IdsAt w a n c zs) (hT' : IdsAt w a' n' c' ys) (hn : n ≤ 100000) :
    Calls Try.prog 40 #[.slice a n c, .slice a' n' c'] w fun q w' => q = .returned (.bool (sameL n zs n' ys)) ∧ Below w.heap.size w w' := by
  have hl := hT.1
  have hl' := hT'.1
  have hnm : (n : Int) ≤ 100000 := by omega
  unfold sameL
  by_cases hnn : n = n'
  · subst hnn
    rw [show decide (n = n) = true from decide_eq_true rfl, Bool.true_and]
    have heq := Lib.hid (fun j (hj : j < n) => eqId16 (idP zs j) (idP ys j) (idP_len hl hj) (idP_len hl' hj))
    have hps := Lib.hid (fun j (hj : j < n) => rowId_of (idP_len hl hj))
    have hps' := Lib.hid (fun j (hj : j < n) => rowId_of (idP_len hl' hj))
    have hTH := Lib.hid hT
    have hTH' := Lib.hid hT'
    have hext := Lib.hid (ids_ext hl hl')
    obtain ⟨R, hR⟩ : ∃ R, (zs == ys) = R := ⟨_, rfl⟩
    rw [hR]
    have hRH := Lib.hid hR
    clear hT hT' hR
    go_enter Try.func40, Try.ntmps40
    go_wp2
    go_loopw [13] (fun i wr => ∃ j : Nat, j ≤ n ∧ i = .int .i64 j ∧ (∀ i, i < j → idP zs i = idP ys i) ∧ Below w.heap.size w wr) (fun i _ => n - (intOf i).toNat)
    case atStart => exact ⟨0, Nat.zero_le _, rfl, fun i hi => absurd hi (Nat.not_lt_zero i), Below.refl _ _⟩
    case round =>
      obtain ⟨j, hj, rfl, hno, hB⟩ := hrel
      by_cases hlt : j < n
      · have hji : (j : Int) < (n : Int) := by omega
        obtain ⟨b, off, rfl, hp⟩ := (hTH.out.keep hB).get hlt
        obtain ⟨b', off', rfl, hp'⟩ := (hTH'.out.keep hB).get hlt
        have hq := heq.out j hlt
        have HY := hps.out j hlt
        have HZ := hps'.out j hlt
        obtain ⟨F, hF⟩ : ∃ F, (idP zs j == idP ys j) = F := ⟨_, rfl⟩
        rw [hF] at hq
        have hFH := Lib.hid hF
        have hnoH := Lib.hid hno
        obtain ⟨Y, hY⟩ : ∃ Y, (idP zs j).map (Value.int .u8) = Y := ⟨_, rfl⟩
        obtain ⟨Z, hZ⟩ : ∃ Y, (idP ys j).map (Value.int .u8) = Y := ⟨_, rfl⟩
        rw [hY] at hq hp HY
        rw [hZ] at hq hp' HZ
        have hltH := Lib.hid hlt
        have hng := noGuardIds
        clear hlt hj hno hF hY hZ
        go_wp2_with fail
        refine region_seqS (fun w' => w' = wr.drew) (by kernel_rfl) rfl ?_
        simp only [pairs, Nat.reduceAdd]
        repeat (first
          | (refine SeqS.take (v := .agg (Y).toArray) (by first | assumption | trivial) (by kernel_rfl) (by decide +kernel) (by decide +kernel) (yields_part (by rfl) 23 (.tmp 18) rfl rfl (fun w' h => by subst h; exact hp) (HY)) ?_
             simp only [Act.put, List.setIfInBounds_toArray, List.set_cons_zero, List.set_cons_succ])
          | (refine SeqS.take (v := .agg (Z).toArray) (by first | assumption | trivial) (by kernel_rfl) (by decide +kernel) (by decide +kernel) (yields_part (by rfl) 23 (.tmp 22) rfl rfl (fun w' h => by subst h; exact hp') (HZ)) ?_
             simp only [Act.put, List.setIfInBounds_toArray, List.set_cons_zero, List.set_cons_succ])
          | (refine SeqS.take (v := ?_) (by first | assumption | trivial) (by kernel_rfl) (by decide +kernel) (by decide +kernel) (Or.inl ⟨by rfl, ?_⟩) ?_
             rotate_left
             focus
               intro w' hb'
               go_simp
               with_reducible rfl
             simp only [Act.put, List.setIfInBounds_toArray, List.set_cons_zero, List.set_cons_succ])
          | (refine SeqS.take (v := ?_) (by first | assumption | trivial) (by kernel_rfl) (by decide +kernel) (by decide +kernel) (Or.inl ⟨by rfl, ?_⟩) ?_
             rotate_left
             focus
               intro w' hb'
               have d0 := hq w'
               go_simp
               with_reducible rfl
             simp only [Act.put, List.setIfInBounds_toArray, List.set_cons_zero, List.set_cons_succ])
          | (refine SeqS.take (v := undef) (by first | assumption | trivial) (by kernel_rfl) (by decide +kernel) (by decide +kernel) (Or.inr ⟨by rfl, rfl⟩) ?_
             simp only [Act.put, List.setIfInBounds_toArray, List.set_cons_zero, List.set_cons_succ])
          | (refine SeqS.take1 (v := .agg (Y).toArray) (by first | assumption | trivial) (by kernel_rfl) (by decide +kernel) (by decide +kernel) (yields_part (by rfl) 23 (.tmp 18) rfl rfl (fun w' h => by subst h; exact hp) (HY)) ?_
             simp only [Act.put, List.setIfInBounds_toArray, List.set_cons_zero, List.set_cons_succ])
          | (refine SeqS.take1 (v := .agg (Z).toArray) (by first | assumption | trivial) (by kernel_rfl) (by decide +kernel) (by decide +kernel) (yields_part (by rfl) 23 (.tmp 22) rfl rfl (fun w' h => by subst h; exact hp') (HZ)) ?_
             simp only [Act.put, List.setIfInBounds_toArray, List.set_cons_zero, List.set_cons_succ])
          | (refine SeqS.take1 (v := ?_) (by first | assumption | trivial) (by kernel_rfl) (by decide +kernel) (by decide +kernel) (Or.inl ⟨by rfl, ?_⟩) ?_
             rotate_left
             focus
               intro w' hb'
               go_simp
               with_reducible rfl
             simp only [Act.put, List.setIfInBounds_toArray, List.set_cons_zero, List.set_cons_succ])
          | (refine SeqS.take1 (v := ?_) (by first | assumption | trivial) (by kernel_rfl) (by decide +kernel) (by decide +kernel) (Or.inl ⟨by rfl, ?_⟩) ?_
             rotate_left
             focus
               intro w' hb'
               have d0 := hq w'
               go_simp
               with_reducible rfl
             simp only [Act.put, List.setIfInBounds_toArray, List.set_cons_zero, List.set_cons_succ])
          | (refine SeqS.take1 (v := undef) (by first | assumption | trivial) (by kernel_rfl) (by decide +kernel) (by decide +kernel) (Or.inr ⟨by rfl, rfl⟩) ?_
             simp only [Act.put, List.setIfInBounds_toArray, List.set_cons_zero, List.set_cons_succ])
          | (refine SeqS.take2 (v := .agg (Y).toArray) (by first | assumption | trivial) (by kernel_rfl) (by decide +kernel) (by decide +kernel) (yields_part (by rfl) 23 (.tmp 18) rfl rfl (fun w' h => by subst h; exact hp) (HY)) ?_
             simp only [Act.put, List.setIfInBounds_toArray, List.set_cons_zero, List.set_cons_succ])
          | (refine SeqS.take2 (v := .agg (Z).toArray) (by first | assumption | trivial) (by kernel_rfl) (by decide +kernel) (by decide +kernel) (yields_part (by rfl) 23 (.tmp 22) rfl rfl (fun w' h => by subst h; exact hp') (HZ)) ?_
             simp only [Act.put, List.setIfInBounds_toArray, List.set_cons_zero, List.set_cons_succ])
          | (refine SeqS.take2 (v := ?_) (by first | assumption | trivial) (by kernel_rfl) (by decide +kernel) (by decide +kernel) (Or.inl ⟨by rfl, ?_⟩) ?_
             rotate_left
             focus
               intro w' hb'
               go_simp
               with_reducible rfl
             simp only [Act.put, List.setIfInBounds_toArray, List.set_cons_zero, List.set_cons_succ])
          | (refine SeqS.take2 (v := ?_) (by first | assumption | trivial) (by kernel_rfl) (by decide +kernel) (by decide +kernel) (Or.inl ⟨by rfl, ?_⟩) ?_
             rotate_left
             focus
               intro w' hb'
               have d0 := hq w'
               go_simp
               with_reducible rfl
             simp only [Act.put, List.setIfInBounds_toArray, List.set_cons_zero, List.set_cons_succ])
          | (refine SeqS.take2 (v := undef) (by first | assumption | trivial) (by kernel_rfl) (by decide +kernel) (by decide +kernel) (Or.inr ⟨by rfl, rfl⟩) ?_
             simp only [Act.put, List.setIfInBounds_toArray, List.set_cons_zero, List.set_cons_succ])
          | (refine SeqS.take3 (v := .agg (Y).toArray) (by first | assumption | trivial) (by kernel_rfl) (by decide +kernel) (by decide +kernel) (yields_part (by rfl) 23 (.tmp 18) rfl rfl (fun w' h => by subst h; exact hp) (HY)) ?_
             simp only [Act.put, List.setIfInBounds_toArray, List.set_cons_zero, List.set_cons_succ])
          | (refine SeqS.take3 (v := .agg (Z).toArray) (by first | assumption | trivial) (by kernel_rfl) (by decide +kernel) (by decide +kernel) (yields_part (by rfl) 23 (.tmp 22) rfl rfl (fun w' h => by subst h; exact hp') (HZ)) ?_
             simp only [Act.put, List.setIfInBounds_toArray, List.set_cons_zero, List.set_cons_succ])
          | (refine SeqS.take3 (v := ?_) (by first | assumption | trivial) (by kernel_rfl) (by decide +kernel) (by decide +kernel) (Or.inl ⟨by rfl, ?_⟩) ?_
             rotate_left
             focus
               intro w' hb'
               go_simp
               with_reducible rfl
             simp only [Act.put, List.setIfInBounds_toArray, List.set_cons_zero, List.set_cons_succ])
          | (refine SeqS.take3 (v := ?_) (by first | assumption | trivial) (by kernel_rfl) (by decide +kernel) (by decide +kernel) (Or.inl ⟨by rfl, ?_⟩) ?_
             rotate_left
             focus
               intro w' hb'
               have d0 := hq w'
               go_simp
               with_reducible rfl
             simp only [Act.put, List.setIfInBounds_toArray, List.set_cons_zero, List.set_cons_succ])
          | (refine SeqS.take3 (v := undef) (by first | assumption | trivial) (by kernel_rfl) (by decide +kernel) (by decide +kernel) (Or.inr ⟨by rfl, rfl⟩) ?_
             simp only [Act.put, List.setIfInBounds_toArray, List.set_cons_zero, List.set_cons_succ]))
        refine SeqS.done (by decide +kernel) ?_
        cases F with
        | true =>
          have hgoH := Lib.hid (show ∀ i, i < j + 1 → idP zs i = idP ys i by
            intro i hi
            by_cases e : i = j
            · subst e; exact eq_of_beq hFH.out
            · exact hnoH.out i (by omega))
          have hB2 : Below w.heap.size w wr.drew := Below.drew hB
          clear hq hng HY HZ hp hp' hB
          go_wp2
          exact ⟨⟨j + 1, by have := hltH.out; omega, by congr 1, hgoH.out, hB2⟩, by simp only [intOf]; have := hltH.out; omega⟩
        | false =>
          have hR : R = false := by
            rw [← hRH.out]
            refine beq_false_of_ne (fun e => ?_)
            have := hFH.out
            rw [e] at this
            exact absurd (beq_self_eq_true _) (by rw [this]; decide)
          subst hR
          go_wp2
          go_ret
          exact ⟨rfl, Below.drew hB⟩
      · obtain rfl : n = j := by omega
        have hji : ¬ (n : Int) < (n : Int) := by omega
        have hR : R = true := by rw [← hRH.out, hext.out hno]; exact beq_self_eq_true _
        subst hR
        clear hlt hj hno
        go_wp2
        go_ret
        exact ⟨rfl, hB⟩
  · have hne : ¬ (n : Int) = (n' : Int) := by omega
    rw [show decide (n = n') = false from decide_eq_false hnn, Bool.false_and]
    clear hT hT'
    go_enter Try.func40, Try.ntmps40
    go_wp2
    go_ret
    exact ⟨rfl, Below.refl _ _⟩

set_option maxRecDepth 100000 in
set_option maxHeartbeats 2000000 in
theorem bkSame_any (H P : List Int) (a : Option Addr) (n c : Nat) (zs : List Int) (H' P' : List Int) (a' : Option Addr) (n' c' : Nat) (ys : List Int) (w : World) (hH : H.length = 32) (hP : P.length = 32) (hH' : H'.length = 32) (hP' : P'.length = 32) (hT : IdsAt w a n c zs) (hT' : IdsAt w a' n' c' ys) (hn : n ≤ 100000) :
    Calls Try.prog 22 #[.agg (bkC H P a n c).toArray, .agg (bkC H' P' a' n' c').toArray] w fun q w' => q = .returned (.bool (sameK ⟨H, P, n, zs⟩ ⟨H', P', n', ys⟩)) ∧ Below w.heap.size w w' := by
  have hcc := fun (w' : World) (h : IdsAt w' a n c zs) (h' : IdsAt w' a' n' c' ys) => bkEqual_any a n c zs a' n' c' ys w' h h' hn
  have heq := fun w' => eqId16 H H' hH hH' w'
  have heq' := fun w' => eqId16 P P' hP hP' w'
  have hr1 := rowId_of hH
  have hr2 := rowId_of hP
  have hr3 := rowId_of hH'
  have hr4 := rowId_of hP'
  have hb := below2 w (.cells (bkC H P a n c).toArray 26) (.cells (bkC H' P' a' n' c').toArray 26)
  have hk : Blk ((w.alloc (.cells (bkC H P a n c).toArray 26)).alloc (.cells (bkC H' P' a' n' c').toArray 26)) w.heap.size 26 (bkC H P a n c) := (Blk.new w _ _).alloc _
  have hk2 : Blk ((w.alloc (.cells (bkC H P a n c).toArray 26)).alloc (.cells (bkC H' P' a' n' c').toArray 26)) (w.heap.size + 1) 26 (bkC H' P' a' n' c') := Blk.new1 w _ _ _
  have p0 := bk0 hk
  have p1 := bk1 hk hH
  have p2 := bk2 hk hH hP
  have q0 := bk0 hk2
  have q1 := bk1 hk2 hH'
  have q2 := bk2 hk2 hH' hP'
  obtain ⟨C, hC⟩ : ∃ C, bkC H P a n c = C := ⟨_, rfl⟩
  obtain ⟨D, hD⟩ : ∃ C, bkC H' P' a' n' c' = C := ⟨_, rfl⟩
  rw [hC, hD] at hb p0 p1 p2 q0 q1 q2
  rw [hC, hD]
  obtain ⟨V, hV⟩ : ∃ V, (w.alloc (.cells C.toArray 26)).alloc (.cells D.toArray 26) = V := ⟨_, rfl⟩
  rw [hV] at hb p0 p1 p2 q0 q1 q2
  have hc := Lib.hid (hcc V (hT.keep hb) (hT'.keep hb))
  obtain ⟨G, g9⟩ : ∃ G, w.heap.size = G := ⟨_, rfl⟩
  rw [g9] at p0 p1 p2 q0 q1 q2
  unfold sameK
  obtain ⟨S, hS⟩ : ∃ C, sameL n zs n' ys = C := ⟨_, rfl⟩
  rw [hS] at hc ⊢
  obtain ⟨F, hF⟩ : ∃ C, (H == H') = C := ⟨_, rfl⟩
  rw [hF] at heq ⊢
  obtain ⟨E, hE⟩ : ∃ C, (P == P') = C := ⟨_, rfl⟩
  rw [hE] at heq' ⊢
  obtain ⟨X0, hX0⟩ : ∃ C, H.map (Value.int .u8) = C := ⟨_, rfl⟩
  obtain ⟨X1, hX1⟩ : ∃ C, P.map (Value.int .u8) = C := ⟨_, rfl⟩
  obtain ⟨Y0, hY0⟩ : ∃ C, H'.map (Value.int .u8) = C := ⟨_, rfl⟩
  obtain ⟨Y1, hY1⟩ : ∃ C, P'.map (Value.int .u8) = C := ⟨_, rfl⟩
  rw [hX0] at p0 hr1 heq
  rw [hX1] at p1 hr2 heq'
  rw [hY0] at q0 hr3 heq
  rw [hY1] at q1 hr4 heq'
  have hng := noGuardIds
  have hbH := Lib.hid hb
  clear hk hk2 hC hD hF hE hX0 hX1 hY0 hY1 hb hcc hT hT' hS
  cases F with
  | false =>
    go_enter Try.func22, Try.ntmps22
    go_wp2_with (first
      | ((with_reducible refine box_row rfl 26 (.tmp 0) rfl C ?_ ?_); rfl)
      | ((with_reducible refine box_row rfl 26 (.tmp 1) rfl D ?_ ?_); rfl; refine RowKit.Hid.out ?_))
    refine Lib.hid ?_
    clear hV g9
    go_wp2_with (first
      | ((with_reducible refine load_pif rfl 23 (.tmp 5) rfl ?_ X0 p0 hr1 ?_); rfl)
      | ((with_reducible refine load_pif rfl 23 (.tmp 7) rfl ?_ Y0 q0 hr3 ?_); rfl)
      | ((with_reducible refine load_pif rfl 23 (.tmp 11) rfl ?_ X1 p1 hr2 ?_); rfl)
      | ((with_reducible refine load_pif rfl 23 (.tmp 13) rfl ?_ Y1 q1 hr4 ?_); rfl))
    go_ret
    exact ⟨by first | rfl | simp, hbH.out⟩
  | true =>
    cases E with
    | false =>
      go_enter Try.func22, Try.ntmps22
      go_wp2_with (first
        | ((with_reducible refine box_row rfl 26 (.tmp 0) rfl C ?_ ?_); rfl)
        | ((with_reducible refine box_row rfl 26 (.tmp 1) rfl D ?_ ?_); rfl; refine RowKit.Hid.out ?_))
      refine Lib.hid ?_
      clear hV g9
      go_wp2_with (first
        | ((with_reducible refine load_pif rfl 23 (.tmp 5) rfl ?_ X0 p0 hr1 ?_); rfl)
        | ((with_reducible refine load_pif rfl 23 (.tmp 7) rfl ?_ Y0 q0 hr3 ?_); rfl)
        | ((with_reducible refine load_pif rfl 23 (.tmp 11) rfl ?_ X1 p1 hr2 ?_); rfl)
        | ((with_reducible refine load_pif rfl 23 (.tmp 13) rfl ?_ Y1 q1 hr4 ?_); rfl))
      go_ret
      exact ⟨by first | rfl | simp, hbH.out⟩
    | true =>
      go_enter Try.func22, Try.ntmps22
      go_wp2_with (first
        | ((with_reducible refine box_row rfl 26 (.tmp 0) rfl C ?_ ?_); rfl)
        | ((with_reducible refine box_row rfl 26 (.tmp 1) rfl D ?_ ?_); rfl; refine RowKit.Hid.out ?_))
      refine Lib.hid ?_
      clear hV g9
      go_wp2_with (first
        | ((with_reducible refine load_pif rfl 23 (.tmp 5) rfl ?_ X0 p0 hr1 ?_); rfl)
        | ((with_reducible refine load_pif rfl 23 (.tmp 7) rfl ?_ Y0 q0 hr3 ?_); rfl)
        | ((with_reducible refine load_pif rfl 23 (.tmp 11) rfl ?_ X1 p1 hr2 ?_); rfl)
        | ((with_reducible refine load_pif rfl 23 (.tmp 13) rfl ?_ Y1 q1 hr4 ?_); rfl))
      refine hc.out.mono ?_
      rintro q w1 ⟨rfl, b1⟩
      go_wp2
      go_ret
      exact ⟨by first | rfl | simp, hbH.out.trans (b1.mono hbH.out.size)⟩

set_option maxRecDepth 100000 in
set_option maxHeartbeats 2000000 in
theorem r16Same_any (H P : List Int) (a : Option Addr) (n c : Nat) (zs : List Int) (H' P' : List Int) (a' : Option Addr) (n' c' : Nat) (ys : List Int) (w : World) (hH : H.length = 32) (hP : P.length = 32) (hH' : H'.length = 32) (hP' : P'.length = 32) (hT : IdsAt w a n c zs) (hT' : IdsAt w a' n' c' ys) (hn : n ≤ 100000) :
    Calls Try.prog 13 #[.agg (bkC H P a n c).toArray, .agg (bkC H' P' a' n' c').toArray] w fun q w' => q = .returned (.bool (sameK ⟨H, P, n, zs⟩ ⟨H', P', n', ys⟩)) ∧ Below w.heap.size w w' := by
  have hcc := fun (w' : World) (h : IdsAt w' a n c zs) (h' : IdsAt w' a' n' c' ys) => rSameB_any a n c zs a' n' c' ys w' h h' hn
  have heq := fun w' => eqId16 H H' hH hH' w'
  have heq' := fun w' => eqId16 P P' hP hP' w'
  have hr1 := rowId_of hH
  have hr2 := rowId_of hP
  have hr3 := rowId_of hH'
  have hr4 := rowId_of hP'
  have hb := below2 w (.cells (bkC H P a n c).toArray 26) (.cells (bkC H' P' a' n' c').toArray 26)
  have hk : Blk ((w.alloc (.cells (bkC H P a n c).toArray 26)).alloc (.cells (bkC H' P' a' n' c').toArray 26)) w.heap.size 26 (bkC H P a n c) := (Blk.new w _ _).alloc _
  have hk2 : Blk ((w.alloc (.cells (bkC H P a n c).toArray 26)).alloc (.cells (bkC H' P' a' n' c').toArray 26)) (w.heap.size + 1) 26 (bkC H' P' a' n' c') := Blk.new1 w _ _ _
  have p0 := bk0 hk
  have p1 := bk1 hk hH
  have p2 := bk2 hk hH hP
  have q0 := bk0 hk2
  have q1 := bk1 hk2 hH'
  have q2 := bk2 hk2 hH' hP'
  obtain ⟨C, hC⟩ : ∃ C, bkC H P a n c = C := ⟨_, rfl⟩
  obtain ⟨D, hD⟩ : ∃ C, bkC H' P' a' n' c' = C := ⟨_, rfl⟩
  rw [hC, hD] at hb p0 p1 p2 q0 q1 q2
  rw [hC, hD]
  obtain ⟨V, hV⟩ : ∃ V, (w.alloc (.cells C.toArray 26)).alloc (.cells D.toArray 26) = V := ⟨_, rfl⟩
  rw [hV] at hb p0 p1 p2 q0 q1 q2
  have hc := Lib.hid (hcc V (hT.keep hb) (hT'.keep hb))
  obtain ⟨G, g9⟩ : ∃ G, w.heap.size = G := ⟨_, rfl⟩
  rw [g9] at p0 p1 p2 q0 q1 q2
  unfold sameK
  obtain ⟨S, hS⟩ : ∃ C, sameL n zs n' ys = C := ⟨_, rfl⟩
  rw [hS] at hc ⊢
  obtain ⟨F, hF⟩ : ∃ C, (H == H') = C := ⟨_, rfl⟩
  rw [hF] at heq ⊢
  obtain ⟨E, hE⟩ : ∃ C, (P == P') = C := ⟨_, rfl⟩
  rw [hE] at heq' ⊢
  obtain ⟨X0, hX0⟩ : ∃ C, H.map (Value.int .u8) = C := ⟨_, rfl⟩
  obtain ⟨X1, hX1⟩ : ∃ C, P.map (Value.int .u8) = C := ⟨_, rfl⟩
  obtain ⟨Y0, hY0⟩ : ∃ C, H'.map (Value.int .u8) = C := ⟨_, rfl⟩
  obtain ⟨Y1, hY1⟩ : ∃ C, P'.map (Value.int .u8) = C := ⟨_, rfl⟩
  rw [hX0] at p0 hr1 heq
  rw [hX1] at p1 hr2 heq'
  rw [hY0] at q0 hr3 heq
  rw [hY1] at q1 hr4 heq'
  have hng := noGuardIds
  have hbH := Lib.hid hb
  clear hk hk2 hC hD hF hE hX0 hX1 hY0 hY1 hb hcc hT hT' hS
  cases F with
  | false =>
    go_enter Try.func13, Try.ntmps13
    go_wp2_with (first
      | ((with_reducible refine box_row rfl 26 (.tmp 0) rfl C ?_ ?_); rfl)
      | ((with_reducible refine box_row rfl 26 (.tmp 1) rfl D ?_ ?_); rfl; refine RowKit.Hid.out ?_))
    refine Lib.hid ?_
    clear hV g9
    go_wp2_with (first
      | ((with_reducible refine load_pif rfl 23 (.tmp 5) rfl ?_ X0 p0 hr1 ?_); rfl)
      | ((with_reducible refine load_pif rfl 23 (.tmp 7) rfl ?_ Y0 q0 hr3 ?_); rfl)
      | ((with_reducible refine load_pif rfl 23 (.tmp 11) rfl ?_ X1 p1 hr2 ?_); rfl)
      | ((with_reducible refine load_pif rfl 23 (.tmp 13) rfl ?_ Y1 q1 hr4 ?_); rfl))
    go_ret
    exact ⟨by first | rfl | simp, hbH.out⟩
  | true =>
    cases E with
    | false =>
      go_enter Try.func13, Try.ntmps13
      go_wp2_with (first
        | ((with_reducible refine box_row rfl 26 (.tmp 0) rfl C ?_ ?_); rfl)
        | ((with_reducible refine box_row rfl 26 (.tmp 1) rfl D ?_ ?_); rfl; refine RowKit.Hid.out ?_))
      refine Lib.hid ?_
      clear hV g9
      go_wp2_with (first
        | ((with_reducible refine load_pif rfl 23 (.tmp 5) rfl ?_ X0 p0 hr1 ?_); rfl)
        | ((with_reducible refine load_pif rfl 23 (.tmp 7) rfl ?_ Y0 q0 hr3 ?_); rfl)
        | ((with_reducible refine load_pif rfl 23 (.tmp 11) rfl ?_ X1 p1 hr2 ?_); rfl)
        | ((with_reducible refine load_pif rfl 23 (.tmp 13) rfl ?_ Y1 q1 hr4 ?_); rfl))
      go_ret
      exact ⟨by first | rfl | simp, hbH.out⟩
    | true =>
      go_enter Try.func13, Try.ntmps13
      go_wp2_with (first
        | ((with_reducible refine box_row rfl 26 (.tmp 0) rfl C ?_ ?_); rfl)
        | ((with_reducible refine box_row rfl 26 (.tmp 1) rfl D ?_ ?_); rfl; refine RowKit.Hid.out ?_))
      refine Lib.hid ?_
      clear hV g9
      go_wp2_with (first
        | ((with_reducible refine load_pif rfl 23 (.tmp 5) rfl ?_ X0 p0 hr1 ?_); rfl)
        | ((with_reducible refine load_pif rfl 23 (.tmp 7) rfl ?_ Y0 q0 hr3 ?_); rfl)
        | ((with_reducible refine load_pif rfl 23 (.tmp 11) rfl ?_ X1 p1 hr2 ?_); rfl)
        | ((with_reducible refine load_pif rfl 23 (.tmp 13) rfl ?_ Y1 q1 hr4 ?_); rfl))
      refine hc.out.mono ?_
      rintro q w1 ⟨rfl, b1⟩
      go_wp2
      go_ret
      exact ⟨by first | rfl | simp, hbH.out.trans (b1.mono hbH.out.size)⟩
end Go.Proofs.Ytndodckcncejiaa
