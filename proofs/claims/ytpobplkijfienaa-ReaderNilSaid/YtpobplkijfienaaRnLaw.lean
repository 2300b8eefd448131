/-
  The law ReaderNil of the landed reader: a reader that is nil, and one that no call made, answers nothing. New memory alone is written. Conditions: the numbers are such as come in.
-/
import Derived.Test.YtpobplkijfienaaRnIds
import Derived.Test.YtpobplkijfienaaSeqTake
namespace Go.Proofs.Ytpobplkijfienaa
open Go.RowKit

theorem n0 (w : World) : Unmade w none := .inl rfl
theorem zero_ids (w : World) : (Op.equalIn 10000 55 (.agg #[.int .u8 0, .int .u8 0, .int .u8 0, .int .u8 0, .int .u8 0, .int .u8 0, .int .u8 0, .int .u8 0, .int .u8 0, .int .u8 0, .int .u8 0, .int .u8 0, .int .u8 0, .int .u8 0, .int .u8 0, .int .u8 0, .int .u8 0, .int .u8 0, .int .u8 0, .int .u8 0, .int .u8 0, .int .u8 0, .int .u8 0, .int .u8 0, .int .u8 0, .int .u8 0, .int .u8 0, .int .u8 0, .int .u8 0, .int .u8 0, .int .u8 0, .int .u8 0]) (.agg #[.int .u8 0, .int .u8 0, .int .u8 0, .int .u8 0, .int .u8 0, .int .u8 0, .int .u8 0, .int .u8 0, .int .u8 0, .int .u8 0, .int .u8 0, .int .u8 0, .int .u8 0, .int .u8 0, .int .u8 0, .int .u8 0, .int .u8 0, .int .u8 0, .int .u8 0, .int .u8 0, .int .u8 0, .int .u8 0, .int .u8 0, .int .u8 0, .int .u8 0, .int .u8 0, .int .u8 0, .int .u8 0, .int .u8 0, .int .u8 0, .int .u8 0, .int .u8 0])).run Try.prog w = .ok true w := same_ids (List.replicate 32 0) (by simp) w
theorem zero_hints (w : World) : (Op.equalIn 10000 58 (.agg #[.int .u8 0, .int .u8 0, .int .u8 0, .int .u8 0, .int .u8 0, .int .u8 0, .int .u8 0, .int .u8 0, .int .u8 0, .int .u8 0, .int .u8 0, .int .u8 0, .int .u8 0, .int .u8 0, .int .u8 0, .int .u8 0]) (.agg #[.int .u8 0, .int .u8 0, .int .u8 0, .int .u8 0, .int .u8 0, .int .u8 0, .int .u8 0, .int .u8 0, .int .u8 0, .int .u8 0, .int .u8 0, .int .u8 0, .int .u8 0, .int .u8 0, .int .u8 0, .int .u8 0])).run Try.prog w = .ok true w := same_hints (List.replicate 16 0) (by simp) w

set_option maxRecDepth 100000 in
set_option maxHeartbeats 4000000 in
theorem law_nil (k A B : Int) (w : World) (_wk : (Lit.int .i64 k).wf = true) (_wA : (Lit.int .i64 A).wf = true) (wB : (Lit.int .i64 B).wf = true) :
    Calls Try.prog 6 #[.agg #[.int .i64 k, .int .i64 A, .int .i64 B]] w fun r w' => r = .returned (.bool true) ∧ Below w.heap.size w w' := by
  have hB9 : B < 9223372036854775808 := by have := bounds_i64 wB; omega
  clear _wk _wA wB
  have z1 := zero_ids
  have z2 := zero_hints
  have g1 := noGuardIds
  have g2 := noGuardHints
  go_enter Try.func6, Try.ntmps6
  go_wp2_with fail
  refine (nFail_any B (n0 _)).mono ?_
  rintro r w9 ⟨rfl, rfl⟩
  obtain ⟨V0, hV0⟩ : ∃ V0, (w.alloc (.cells #[.int .i64 k, .int .i64 A, .int .i64 B] 33)).alloc (.cells #[.bool false, .slice none 0 0, .int .i64 0, .nilIface, .int .i64 0] 49) = V0 := ⟨_, rfl⟩
  obtain ⟨O, hO⟩ : ∃ O, w.heap.size = O := ⟨_, rfl⟩
  have hOH := Lib.hid hO
  have SV0 : Blk V0 O 33 [.int .i64 k, .int .i64 A, .int .i64 B] ∧ Blk V0 (O + 1) 49 unC := by
    rw [← hV0, ← hO]
    exact ⟨(Blk.new w _ _).alloc _, Blk.new1 w _ _ _⟩
  have hBV0 : Below O w V0 := by rw [← hV0, ← hO]; exact below2 w _ _
  have uV0 : Unmade V0 (some ⟨O + 1, 0, none⟩) := .inr ⟨_, rfl, SV0.2⟩
  have e2 : V0.cell? ⟨O, 2, none⟩ = some (.int .i64 B) := SV0.1.cell 2
  rw [hV0, hO]
  clear hV0 hO
  go_wp2_with fail
  refine (nFail_any B uV0).mono ?_
  rintro r w9 ⟨rfl, rfl⟩
  go_wp2_with fail
  refine region_seqS (fun V => Blk V O 33 [.int .i64 k, .int .i64 A, .int .i64 B] ∧ Blk V (O + 1) 49 unC) (by kernel_rfl) SV0 ?_
  simp only [pairs, Nat.reduceAdd]
  have SV1 : Blk V0.drew O 33 [.int .i64 k, .int .i64 A, .int .i64 B] ∧ Blk V0.drew (O + 1) 49 unC := SV0
  have hBV1 : Below O w V0.drew := Below.drew hBV0
  obtain ⟨V, hV⟩ : ∃ V, V0.drew = V := ⟨_, rfl⟩
  rw [hV] at SV1 hBV1 ⊢
  have SV := SV1
  have hBV := hBV1
  have uV : Unmade V (some ⟨O + 1, 0, none⟩) := .inr ⟨_, rfl, SV.2⟩
  clear hV SV0 hBV0 uV0 e2 SV1 hBV1
  refine SeqS.take (v := ?_) (by first | assumption | trivial) (by kernel_rfl) (by decide +kernel) (by decide +kernel) (Or.inl ⟨by rfl, ?_⟩) ?_
  rotate_left
  focus
    intro w' hb'
    go_simp
    with_reducible rfl
  simp only [Act.put, List.setIfInBounds_toArray, List.set_cons_zero, List.set_cons_succ]
  refine SeqS.take (v := ?_) (by first | assumption | trivial) (by kernel_rfl) (by decide +kernel) (by decide +kernel) (Or.inl ⟨by rfl, ?_⟩) ?_
  rotate_left
  focus
    intro w' hb'
    go_simp
    with_reducible rfl
  simp only [Act.put, List.setIfInBounds_toArray, List.set_cons_zero, List.set_cons_succ]
  refine SeqS.take (v := ?_) (by first | assumption | trivial) (by kernel_rfl) (by decide +kernel) (by decide +kernel) (Or.inl ⟨by rfl, ?_⟩) ?_
  rotate_left
  focus
    intro w' hb'
    have e1 : w'.cell? ⟨O, 1, none⟩ = some (.int .i64 A) := hb'.1.cell 1
    go_simp
    with_reducible rfl
  simp only [Act.put, List.setIfInBounds_toArray, List.set_cons_zero, List.set_cons_succ]
  refine SeqS.take1 (v := ?_) (by first | assumption | trivial) (by kernel_rfl) (by decide +kernel) (by decide +kernel) (Or.inl ⟨by rfl, ?_⟩) ?_
  rotate_left
  focus
    intro w' hb'
    go_simp
    with_reducible rfl
  simp only [Act.put, List.setIfInBounds_toArray, List.set_cons_zero, List.set_cons_succ]
  refine SeqS.take1 (v := ?_) (by first | assumption | trivial) (by kernel_rfl) (by decide +kernel) (by decide +kernel) (Or.inl ⟨by rfl, ?_⟩) ?_
  rotate_left
  focus
    intro w' hb'
    have e1 : w'.cell? ⟨O, 1, none⟩ = some (.int .i64 A) := hb'.1.cell 1
    go_simp
    with_reducible rfl
  simp only [Act.put, List.setIfInBounds_toArray, List.set_cons_zero, List.set_cons_succ]
  refine SeqS.take3 (v := ?_) (by first | assumption | trivial) (by kernel_rfl) (by decide +kernel) (by decide +kernel) (Or.inl ⟨by rfl, ?_⟩) ?_
  rotate_left
  focus
    intro w' hb'
    go_simp
    with_reducible rfl
  simp only [Act.put, List.setIfInBounds_toArray, List.set_cons_zero, List.set_cons_succ]
  refine SeqS.take3 (v := ?_) (by first | assumption | trivial) (by kernel_rfl) (by decide +kernel) (by decide +kernel) (Or.inl ⟨by rfl, ?_⟩) ?_
  rotate_left
  focus
    intro w' hb'
    go_simp
    with_reducible rfl
  simp only [Act.put, List.setIfInBounds_toArray, List.set_cons_zero, List.set_cons_succ]
  refine SeqS.take3 (v := ?_) (by first | assumption | trivial) (by kernel_rfl) (by decide +kernel) (by decide +kernel) (Or.inl ⟨by rfl, ?_⟩) ?_
  rotate_left
  focus
    intro w' hb'
    have e1 : w'.cell? ⟨O, 1, none⟩ = some (.int .i64 A) := hb'.1.cell 1
    go_simp
    with_reducible rfl
  simp only [Act.put, List.setIfInBounds_toArray, List.set_cons_zero, List.set_cons_succ]
  refine SeqS.take5 (v := ?_) (by first | assumption | trivial) (by kernel_rfl) (by decide +kernel) (by decide +kernel) (Or.inl ⟨by rfl, ?_⟩) ?_
  rotate_left
  focus
    intro w' hb'
    go_simp
    with_reducible rfl
  simp only [Act.put, List.setIfInBounds_toArray, List.set_cons_zero, List.set_cons_succ]
  refine SeqS.take5 (v := ?_) (by first | assumption | trivial) (by kernel_rfl) (by decide +kernel) (by decide +kernel) (Or.inl ⟨by rfl, ?_⟩) ?_
  rotate_left
  focus
    intro w' hb'
    have e1 : w'.cell? ⟨O, 1, none⟩ = some (.int .i64 A) := hb'.1.cell 1
    go_simp
    with_reducible rfl
  simp only [Act.put, List.setIfInBounds_toArray, List.set_cons_zero, List.set_cons_succ]
  refine SeqS.take8 (v := ?_) (by first | assumption | trivial) (by kernel_rfl) (by decide +kernel) (by decide +kernel) (Or.inl ⟨by rfl, ?_⟩) ?_
  rotate_left
  focus
    intro w' hb'
    go_simp
    with_reducible rfl
  simp only [Act.put, List.setIfInBounds_toArray, List.set_cons_zero, List.set_cons_succ]
  refine SeqS.take8 (v := ?_) (by first | assumption | trivial) (by kernel_rfl) (by decide +kernel) (by decide +kernel) (Or.inl ⟨by rfl, ?_⟩) ?_
  rotate_left
  focus
    intro w' hb'
    go_simp
    with_reducible rfl
  simp only [Act.put, List.setIfInBounds_toArray, List.set_cons_zero, List.set_cons_succ]
  refine SeqS.take8 (v := ?_) (by first | assumption | trivial) (by kernel_rfl) (by decide +kernel) (by decide +kernel) (Or.inl ⟨by rfl, ?_⟩) ?_
  rotate_left
  focus
    intro w' hb'
    have e1 : w'.cell? ⟨O, 1, none⟩ = some (.int .i64 A) := hb'.1.cell 1
    go_simp
    with_reducible rfl
  simp only [Act.put, List.setIfInBounds_toArray, List.set_cons_zero, List.set_cons_succ]
  refine SeqS.take11 (v := ?_) (by first | assumption | trivial) (by kernel_rfl) (by decide +kernel) (by decide +kernel) (Or.inl ⟨by rfl, ?_⟩) ?_
  rotate_left
  focus
    intro w' hb'
    go_simp
    with_reducible rfl
  simp only [Act.put, List.setIfInBounds_toArray, List.set_cons_zero, List.set_cons_succ]
  refine SeqS.take11 (v := ?_) (by first | assumption | trivial) (by kernel_rfl) (by decide +kernel) (by decide +kernel) (Or.inl ⟨by rfl, ?_⟩) ?_
  rotate_left
  focus
    intro w' hb'
    have e1 : w'.cell? ⟨O, 1, none⟩ = some (.int .i64 A) := hb'.1.cell 1
    go_simp
    with_reducible rfl
  simp only [Act.put, List.setIfInBounds_toArray, List.set_cons_zero, List.set_cons_succ]
  refine SeqS.alone (by decide +kernel) (by rfl) (fun K5 hK5 => ?_)
  go_simp
  refine (nNum_any A (n0 _)).mono ?_
  rintro r w9 ⟨rfl, rfl⟩
  go_simp
  refine hK5 _ _ SV ?_
  clear hK5 K5
  (try simp only [Act.put, List.setIfInBounds_toArray, List.set_cons_zero, List.set_cons_succ])
  refine SeqS.alone (by decide +kernel) (by rfl) (fun K5 hK5 => ?_)
  go_simp
  refine (nNum_any A uV).mono ?_
  rintro r w9 ⟨rfl, rfl⟩
  go_simp
  refine hK5 _ _ SV ?_
  clear hK5 K5
  (try simp only [Act.put, List.setIfInBounds_toArray, List.set_cons_zero, List.set_cons_succ])
  refine SeqS.take (v := ?_) (by first | assumption | trivial) (by kernel_rfl) (by decide +kernel) (by decide +kernel) (Or.inl ⟨by rfl, ?_⟩) ?_
  rotate_left
  focus
    intro w' hb'
    go_simp
    with_reducible rfl
  simp only [Act.put, List.setIfInBounds_toArray, List.set_cons_zero, List.set_cons_succ]
  refine SeqS.alone (by decide +kernel) (by rfl) (fun K5 hK5 => ?_)
  go_simp
  refine (nBytes_any A (n0 _)).mono ?_
  rintro r w9 ⟨rfl, rfl⟩
  go_simp
  refine hK5 _ _ SV ?_
  clear hK5 K5
  (try simp only [Act.put, List.setIfInBounds_toArray, List.set_cons_zero, List.set_cons_succ])
  refine SeqS.take (v := ?_) (by first | assumption | trivial) (by kernel_rfl) (by decide +kernel) (by decide +kernel) (Or.inl ⟨by rfl, ?_⟩) ?_
  rotate_left
  focus
    intro w' hb'
    go_simp
    with_reducible rfl
  simp only [Act.put, List.setIfInBounds_toArray, List.set_cons_zero, List.set_cons_succ]
  refine SeqS.alone (by decide +kernel) (by rfl) (fun K5 hK5 => ?_)
  go_simp
  refine (nBytes_any A uV).mono ?_
  rintro r w9 ⟨rfl, rfl⟩
  go_simp
  refine hK5 _ _ SV ?_
  clear hK5 K5
  (try simp only [Act.put, List.setIfInBounds_toArray, List.set_cons_zero, List.set_cons_succ])
  refine SeqS.take (v := ?_) (by first | assumption | trivial) (by kernel_rfl) (by decide +kernel) (by decide +kernel) (Or.inl ⟨by rfl, ?_⟩) ?_
  rotate_left
  focus
    intro w' hb'
    go_simp
    with_reducible rfl
  simp only [Act.put, List.setIfInBounds_toArray, List.set_cons_zero, List.set_cons_succ]
  refine SeqS.take (v := ?_) (by first | assumption | trivial) (by kernel_rfl) (by decide +kernel) (by decide +kernel) (Or.inl ⟨by rfl, ?_⟩) ?_
  rotate_left
  focus
    intro w' hb'
    go_simp
    with_reducible rfl
  simp only [Act.put, List.setIfInBounds_toArray, List.set_cons_zero, List.set_cons_succ]
  refine SeqS.alone (by decide +kernel) (by rfl) (fun K5 hK5 => ?_)
  go_simp
  refine (nIds_any A (n0 _)).mono ?_
  rintro r W1 ⟨rfl, dW1⟩
  have hBW1 := hBV.trans (dW1.mono (by have h1 := hBV.size; have h2 := hOH.out; omega))
  have SW1 : Blk W1 O 33 [.int .i64 k, .int .i64 A, .int .i64 B] ∧ Blk W1 (O + 1) 49 unC := ⟨SV.1.keep dW1 SV.1.lt, SV.2.keep dW1 SV.2.lt⟩
  have uW1 : Unmade W1 (some ⟨O + 1, 0, none⟩) := .inr ⟨_, rfl, SW1.2⟩
  go_simp
  refine hK5 _ _ SW1 ?_
  clear hK5 K5
  (try simp only [Act.put, List.setIfInBounds_toArray, List.set_cons_zero, List.set_cons_succ])
  refine SeqS.take (v := ?_) (by first | assumption | trivial) (by kernel_rfl) (by decide +kernel) (by decide +kernel) (Or.inl ⟨by rfl, ?_⟩) ?_
  rotate_left
  focus
    intro w' hb'
    go_simp
    with_reducible rfl
  simp only [Act.put, List.setIfInBounds_toArray, List.set_cons_zero, List.set_cons_succ]
  refine SeqS.take (v := ?_) (by first | assumption | trivial) (by kernel_rfl) (by decide +kernel) (by decide +kernel) (Or.inl ⟨by rfl, ?_⟩) ?_
  rotate_left
  focus
    intro w' hb'
    go_simp
    with_reducible rfl
  simp only [Act.put, List.setIfInBounds_toArray, List.set_cons_zero, List.set_cons_succ]
  refine SeqS.alone (by decide +kernel) (by rfl) (fun K5 hK5 => ?_)
  go_simp
  refine (nIds_any A uW1).mono ?_
  rintro r W2 ⟨rfl, dW2⟩
  have hBW2 := hBW1.trans (dW2.mono (by have h1 := hBW1.size; have h2 := hOH.out; omega))
  have SW2 : Blk W2 O 33 [.int .i64 k, .int .i64 A, .int .i64 B] ∧ Blk W2 (O + 1) 49 unC := ⟨SW1.1.keep dW2 SW1.1.lt, SW1.2.keep dW2 SW1.2.lt⟩
  have uW2 : Unmade W2 (some ⟨O + 1, 0, none⟩) := .inr ⟨_, rfl, SW2.2⟩
  go_simp
  refine hK5 _ _ SW2 ?_
  clear hK5 K5
  (try simp only [Act.put, List.setIfInBounds_toArray, List.set_cons_zero, List.set_cons_succ])
  refine SeqS.take (v := ?_) (by first | assumption | trivial) (by kernel_rfl) (by decide +kernel) (by decide +kernel) (Or.inl ⟨by rfl, ?_⟩) ?_
  rotate_left
  focus
    intro w' hb'
    go_simp
    with_reducible rfl
  simp only [Act.put, List.setIfInBounds_toArray, List.set_cons_zero, List.set_cons_succ]
  refine SeqS.take (v := ?_) (by first | assumption | trivial) (by kernel_rfl) (by decide +kernel) (by decide +kernel) (Or.inl ⟨by rfl, ?_⟩) ?_
  rotate_left
  focus
    intro w' hb'
    go_simp
    with_reducible rfl
  simp only [Act.put, List.setIfInBounds_toArray, List.set_cons_zero, List.set_cons_succ]
  refine SeqS.take (v := ?_) (by first | assumption | trivial) (by kernel_rfl) (by decide +kernel) (by decide +kernel) (Or.inl ⟨by rfl, ?_⟩) ?_
  rotate_left
  focus
    intro w' hb'
    go_simp
    with_reducible rfl
  simp only [Act.put, List.setIfInBounds_toArray, List.set_cons_zero, List.set_cons_succ]
  refine SeqS.take (v := ?_) (by first | assumption | trivial) (by kernel_rfl) (by decide +kernel) (by decide +kernel) (Or.inl ⟨by rfl, ?_⟩) ?_
  rotate_left
  focus
    intro w' hb'
    go_simp
    with_reducible rfl
  simp only [Act.put, List.setIfInBounds_toArray, List.set_cons_zero, List.set_cons_succ]
  refine SeqS.take (v := ?_) (by first | assumption | trivial) (by kernel_rfl) (by decide +kernel) (by decide +kernel) (Or.inl ⟨by rfl, ?_⟩) ?_
  rotate_left
  focus
    intro w' hb'
    go_simp
    with_reducible rfl
  simp only [Act.put, List.setIfInBounds_toArray, List.set_cons_zero, List.set_cons_succ]
  refine SeqS.done (by decide +kernel) ?_
  have e1 : W2.cell? ⟨O, 1, none⟩ = some (.int .i64 A) := SW2.1.cell 1
  have e2 : W2.cell? ⟨O, 2, none⟩ = some (.int .i64 B) := SW2.1.cell 2
  go_wp2_with fail
  refine (nCount_any A B hB9 (n0 _)).mono ?_
  rintro r w9 ⟨rfl, rfl⟩
  go_wp2_with fail
  refine (nCount_any A B hB9 uW2).mono ?_
  rintro r w9 ⟨rfl, rfl⟩
  go_wp2_with fail
  refine (nId_any (n0 _)).mono ?_
  rintro r W3 ⟨rfl, dW3⟩
  have hBW3 := hBW2.trans (dW3.mono (by have h1 := hBW2.size; have h2 := hOH.out; omega))
  have SW3 : Blk W3 O 33 [.int .i64 k, .int .i64 A, .int .i64 B] ∧ Blk W3 (O + 1) 49 unC := ⟨SW2.1.keep dW3 SW2.1.lt, SW2.2.keep dW3 SW2.2.lt⟩
  have uW3 : Unmade W3 (some ⟨O + 1, 0, none⟩) := .inr ⟨_, rfl, SW3.2⟩
  have e1 : W3.cell? ⟨O, 1, none⟩ = some (.int .i64 A) := SW3.1.cell 1
  have e2 : W3.cell? ⟨O, 2, none⟩ = some (.int .i64 B) := SW3.1.cell 2
  go_wp2_with fail
  refine (nHint_any uW3).mono ?_
  rintro r W4 ⟨rfl, dW4⟩
  have hBW4 := hBW3.trans (dW4.mono (by have h1 := hBW3.size; have h2 := hOH.out; omega))
  have SW4 : Blk W4 O 33 [.int .i64 k, .int .i64 A, .int .i64 B] ∧ Blk W4 (O + 1) 49 unC := ⟨SW3.1.keep dW4 SW3.1.lt, SW3.2.keep dW4 SW3.2.lt⟩
  have uW4 : Unmade W4 (some ⟨O + 1, 0, none⟩) := .inr ⟨_, rfl, SW4.2⟩
  have e1 : W4.cell? ⟨O, 1, none⟩ = some (.int .i64 A) := SW4.1.cell 1
  have e2 : W4.cell? ⟨O, 2, none⟩ = some (.int .i64 B) := SW4.1.cell 2
  go_wp2_with fail
  refine (nAt_any (n0 _)).mono ?_
  rintro r w9 ⟨rfl, rfl⟩
  go_wp2_with fail
  refine (nAt_any uW4).mono ?_
  rintro r w9 ⟨rfl, rfl⟩
  go_wp2_with fail
  refine (nLeft_any (n0 _)).mono ?_
  rintro r W5 ⟨rfl, dW5⟩
  have hBW5 := hBW4.trans (dW5.mono (by have h1 := hBW4.size; have h2 := hOH.out; omega))
  have SW5 : Blk W5 O 33 [.int .i64 k, .int .i64 A, .int .i64 B] ∧ Blk W5 (O + 1) 49 unC := ⟨SW4.1.keep dW5 SW4.1.lt, SW4.2.keep dW5 SW4.2.lt⟩
  have uW5 : Unmade W5 (some ⟨O + 1, 0, none⟩) := .inr ⟨_, rfl, SW5.2⟩
  have e1 : W5.cell? ⟨O, 1, none⟩ = some (.int .i64 A) := SW5.1.cell 1
  have e2 : W5.cell? ⟨O, 2, none⟩ = some (.int .i64 B) := SW5.1.cell 2
  go_wp2_with fail
  refine (nLeft_any uW5).mono ?_
  rintro r W6 ⟨rfl, dW6⟩
  have hBW6 := hBW5.trans (dW6.mono (by have h1 := hBW5.size; have h2 := hOH.out; omega))
  have SW6 : Blk W6 O 33 [.int .i64 k, .int .i64 A, .int .i64 B] ∧ Blk W6 (O + 1) 49 unC := ⟨SW5.1.keep dW6 SW5.1.lt, SW5.2.keep dW6 SW5.2.lt⟩
  have uW6 : Unmade W6 (some ⟨O + 1, 0, none⟩) := .inr ⟨_, rfl, SW6.2⟩
  have e1 : W6.cell? ⟨O, 1, none⟩ = some (.int .i64 A) := SW6.1.cell 1
  have e2 : W6.cell? ⟨O, 2, none⟩ = some (.int .i64 B) := SW6.1.cell 2
  go_wp2_with fail
  refine (nErr_any (n0 _)).mono ?_
  rintro r w9 ⟨rfl, rfl⟩
  go_wp2_with fail
  refine (nErr_any uW6).mono ?_
  rintro r w9 ⟨rfl, rfl⟩
  go_wp2_with fail
  refine (nDone_any (n0 _)).mono ?_
  rintro r W7 ⟨rfl, dW7⟩
  have hBW7 := hBW6.trans (dW7.mono (by have h1 := hBW6.size; have h2 := hOH.out; omega))
  have SW7 : Blk W7 O 33 [.int .i64 k, .int .i64 A, .int .i64 B] ∧ Blk W7 (O + 1) 49 unC := ⟨SW6.1.keep dW7 SW6.1.lt, SW6.2.keep dW7 SW6.2.lt⟩
  have uW7 : Unmade W7 (some ⟨O + 1, 0, none⟩) := .inr ⟨_, rfl, SW7.2⟩
  have e1 : W7.cell? ⟨O, 1, none⟩ = some (.int .i64 A) := SW7.1.cell 1
  have e2 : W7.cell? ⟨O, 2, none⟩ = some (.int .i64 B) := SW7.1.cell 2
  go_wp2_with fail
  refine (nDone_any uW7).mono ?_
  rintro r W8 ⟨rfl, dW8⟩
  have hBW8 := hBW7.trans (dW8.mono (by have h1 := hBW7.size; have h2 := hOH.out; omega))
  have SW8 : Blk W8 O 33 [.int .i64 k, .int .i64 A, .int .i64 B] ∧ Blk W8 (O + 1) 49 unC := ⟨SW7.1.keep dW8 SW7.1.lt, SW7.2.keep dW8 SW7.2.lt⟩
  have uW8 : Unmade W8 (some ⟨O + 1, 0, none⟩) := .inr ⟨_, rfl, SW8.2⟩
  have e1 : W8.cell? ⟨O, 1, none⟩ = some (.int .i64 A) := SW8.1.cell 1
  have e2 : W8.cell? ⟨O, 2, none⟩ = some (.int .i64 B) := SW8.1.cell 2
  go_wp2_with fail
  refine (alive9_any readerProg W8 trivial).mono ?_
  rintro r W9 ⟨rfl, d9⟩
  go_wp2
  go_ret
  refine ⟨rfl, ?_⟩
  rw [hOH.out]
  exact hBW8.trans (d9.mono (by have h1 := hBW8.size; have h2 := hOH.out; omega))
end Go.Proofs.Ytpobplkijfienaa
