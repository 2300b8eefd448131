/-
  The law ReaderReads, out of what the program's reader comes to ('ReaderProg'). New memory alone is written. Conditions: bytes below 256, numbers of 64 bits.
-/
import Derived.Test.YtpobplkijfienaaRdSteps
import Derived.Test.YtpobplkijfienaaOpenOps
import Derived.OpenShut
namespace Go.Proofs.Ytpobplkijfienaa
open Go.RowKit Go.ChangeShapes Go.WideShapes

set_option maxRecDepth 100000 in
set_option maxHeartbeats 1000000 in
theorem reads_any (RP : ReaderProg) (a : Option Addr) (n c : Nat) (xs : List Int) (b : Option Addr) (m k : Nat) (ops : List (Int × Int × Int)) (w : World) (hG : RP.Gl w) (hI : Ints .u8 w a n c xs) (hy : ∀ x ∈ xs, 0 ≤ x ∧ x < 256) (hO : Ops3 w b m k ops) (hw : ∀ o ∈ ops, o.2.2 < 9223372036854775808) :
    Calls Try.prog 3 #[.agg #[.slice a n c, .slice b m k]] w fun r w' => r = .returned (.bool true) ∧ Below w.heap.size w w' := by
  go_enter Try.func3, Try.ntmps3
  have b0 := below1 w (.cells #[.slice a n c, .slice b m k] 25)
  by_cases hn : 2000 < n
  · have hni : (2000 : Int) < (n : Int) := by omega
    go_wp2_with fail
    have hG0 := RP.gl_keep hG (b0.mono (RP.gl_le hG))
    refine (alive9_any RP _ hG0).mono ?_
    rintro r w9 ⟨rfl, b9⟩
    go_wp2
    go_ret
    exact ⟨rfl, b0.trans (b9.mono b0.size)⟩
  by_cases hm : 200 < m
  · have hni : ¬ (2000 : Int) < (n : Int) := by omega
    have hmi : (200 : Int) < (m : Int) := by omega
    go_wp2_with fail
    have hG0 := RP.gl_keep hG (b0.mono (RP.gl_le hG))
    refine (alive9_any RP _ hG0).mono ?_
    rintro r w9 ⟨rfl, b9⟩
    go_wp2
    go_ret
    exact ⟨rfl, b0.trans (b9.mono b0.size)⟩
  have hni : ¬ (2000 : Int) < (n : Int) := by omega
  have hmi : ¬ (200 : Int) < (m : Int) := by omega
  have hnH := Lib.hid hn
  have hmH := Lib.hid hm
  clear hn hm
  go_wp2_with fail
  obtain ⟨W0, hW0⟩ : ∃ W0, w.alloc (.cells #[.slice a n c, .slice b m k] 25) = W0 := ⟨_, rfl⟩
  have hx0 : Blk W0 w.heap.size 25 [.slice a n c, .slice b m k] := by rw [← hW0]; exact Blk.new w _ _
  rw [hW0]
  rw [hW0] at b0
  have hA := hI.isIn.2
  have hG0 := RP.gl_keep hG (b0.mono (RP.gl_le hG))
  have hI0 := hI.keep b0
  have hO0 := hO.keep b0
  clear hW0
  refine (RP.new a n c xs W0 hG0 hI0 hy (by have := hnH.out; omega)).mono ?_
  rintro r w1 ⟨g, F, rfl, R1, hF, b1⟩
  have hx1 := hx0.keep b1 hx0.lt
  have hI1 := hI0.keep b1
  have hO1 := hO0.keep b1
  have hG1 := RP.gl_keep hG0 (b1.mono (RP.gl_le hG0))
  have hF1 : ∀ b, F b → w.heap.size + 1 ≤ b := fun b hb => Nat.le_trans hx0.lt (hF b hb)
  have hB1 := b0.trans (b1.mono b0.size)
  have s1 : w.heap.size + 1 ≤ w1.heap.size := Nat.le_trans hx0.lt b1.size
  have n0 : (0 : Int) < 1 := by decide
  have c0 : w1.cell? ⟨w.heap.size, 0, none⟩ = some (.slice a n c) := hx1.cell 0
  have c1 : w1.cell? ⟨w.heap.size, 1, none⟩ = some (.slice b m k) := hx1.cell 1
  clear hx0 hI0 hO0 hG0 b0 b1 hF
  have d1 : (w1.alloc (.cells #[.slice a n c, .int .i64 0, .int .i64 0] 31)).cell? ⟨w.heap.size, 1, none⟩ = some (.slice b m k) := (hx1.alloc _).cell 1
  go_wp2_with fail
  obtain ⟨W2, hW2⟩ : ∃ W2, w1.alloc (.cells #[.slice a n c, .int .i64 0, .int .i64 0] 31) = W2 := ⟨_, rfl⟩
  obtain ⟨Y, hY⟩ : ∃ Y, w1.heap.size = Y := ⟨_, rfl⟩
  have b2 : Below w1.heap.size w1 W2 := by rw [← hW2]; exact below1 w1 _
  have hz2 : Blk W2 Y 31 (rdC a n c 0 0) := by rw [← hW2, ← hY]; exact Blk.new w1 _ (rdC a n c 0 0)
  have hx2 := hx1.keep b2 hx1.lt
  have R2 := RP.stay R1 b2
  have hI2 := hI1.keep b2
  have hO2 := hO1.keep b2
  have nfY : ¬ F Y := fun h => by have := RP.lt R1 _ h; omega
  have hB2 := hB1.trans (b2.mono hB1.size)
  have hYw : w.heap.size < Y := by omega
  rw [hW2, hY]
  clear hx1 hI1 hO1 hG1 hB1 b2 R1 s1 c0 c1 d1 hW2 hY
  go_loopw [29] (fun i wr => ∃ (j p : Nat) (e : Int) (F : Nat → Prop), j ≤ m ∧ i = .int .i64 j ∧ RP.Rd F wr g xs p e ∧ p ≤ n ∧ (∀ b, F b → w.heap.size + 1 ≤ b) ∧ ¬ F Y ∧ Blk wr Y 31 (rdC a n c p e) ∧ Below w.heap.size w wr ∧ Blk wr w.heap.size 25 [.slice a n c, .slice b m k]) (fun i _ => m - (intOf i).toNat)
  case atStart => exact ⟨0, 0, 0, F, Nat.zero_le _, rfl, R2, Nat.zero_le _, hF1, nfY, hz2, hB2, hx2⟩
  case round =>
    clear hz2 hx2 R2 hI2 hO2 nfY hB2 hF1
    obtain ⟨j, p, e, F, hj, rfl, hR, hp, hF, nfY, hz, hB, hx⟩ := hrel
    by_cases hlt : j < m
    · obtain ⟨hol, _, h0 | ⟨ob, oo, rfl, hc⟩⟩ := hO.keep hB
      · omega
      obtain ⟨q0, q1, q2⟩ := hc j hlt
      rw [Nat.mul_comm] at q0 q1 q2
      obtain ⟨op, hop⟩ : ∃ op, ops.getD j (0, 0, 0) = op := ⟨_, rfl⟩
      have hBB : op.2.2 < 9223372036854775808 := hw op (by rw [← hop, List.getD_eq_getElem?_getD, List.getElem?_eq_getElem (by omega)]; exact List.getElem_mem _)
      rw [hop] at q0 q1 q2
      obtain ⟨K, A, B⟩ := op
      have hji : (j : Int) < (m : Int) := by omega
      have hjH := Lib.hid hlt
      clear hc hop hlt hj
      have y0 : (wr.alloc (.cells #[.int .i64 K, .int .i64 A, .int .i64 B] 33)).cell? ⟨Y, 0, none⟩ = some (.slice a n c) := (hz.alloc _).cell 0
      have y1 : (wr.alloc (.cells #[.int .i64 K, .int .i64 A, .int .i64 B] 33)).cell? ⟨Y, 1, none⟩ = some (.int .i64 p) := (hz.alloc _).cell 1
      have y2 : (wr.alloc (.cells #[.int .i64 K, .int .i64 A, .int .i64 B] 33)).cell? ⟨Y, 2, none⟩ = some (.int .i64 e) := (hz.alloc _).cell 2
      go_wp2_with fail
      obtain ⟨W3, hW3⟩ : ∃ W3, wr.alloc (.cells #[.int .i64 K, .int .i64 A, .int .i64 B] 33) = W3 := ⟨_, rfl⟩
      have b3 : Below wr.heap.size wr W3 := by rw [← hW3]; exact below1 wr _
      have hz3 := hz.keep b3 hz.lt
      have hx3 := hx.keep b3 hx.lt
      have R3 := RP.stay hR b3
      have hB3 := hB.trans (b3.mono hB.size)
      have hI3 := hI.keep hB3
      have hG3 := RP.gl_keep hG (hB3.mono (RP.gl_le hG))
      have C := step_any RP F g xs a n c p e K A B W3 hG3 R3 hI3 (fun x hx h0 hf => by have h1 := hA x hx h0; have h2 := hF _ hf; omega) hy hp (by have := hnH.out; omega) hBB
      unfold StepTells at C
      rw [hW3]
      clear hz hx hR hB hI3 hG3 b3 hW3 y0 y1 y2 q0 q1 q2
      refine C.mono ?_
      rintro r w4 ⟨F4, p4, e4, rfl, R4, hp4, g4, m4⟩
      have hYn : Y < W3.heap.size := hz3.lt
      have hz4 : Blk w4 Y 31 (rdC a n c p e) := (m4.2 Y hYn nfY).trans hz3
      have nfc : ¬ F w.heap.size := fun h => by have := hF _ h; omega
      have hx4 : Blk w4 w.heap.size 25 [.slice a n c, .slice (some ⟨ob, oo, none⟩) m k] := (m4.2 _ hx3.lt nfc).trans hx3
      have hB4 := hB3.trans (m4.below (fun b hb => Nat.le_of_succ_le (hF b hb)) hB3.size)
      have hF4 := g4.low hF (show w.heap.size + 1 ≤ W3.heap.size by omega)
      have nfY4 : ¬ F4 Y := fun h => by
        rcases g4 _ h with h | h
        · exact nfY h
        · omega
      clear C hz3 hx3 R3 hB3 g4 m4
      have hz5 : Blk (w4.alloc (.cells #[.slice a n c, .int .i64 (p4 : Int), .int .i64 e4] 31)) Y 31 (rdC a n c p e) := hz4.alloc _
      go_wp2_with (refine wpList_store_part (cur := rdC a n c p e) (cs := rdC a n c p4 e4) rfl 31 (.tmp 4) (.tmp 40) rfl rfl rfl hz5 rowRd (by simp [rdC]) (by simp [rdC, Value.oneCell']) ?_; intro w6 hz6' gr6)
      have hz6 : Blk w6 Y 31 (rdC a n c p4 e4) := hz6'.cast (overV_all _ _ (by rfl))
      have b5 := below1 w4 (.cells #[.slice a n c, .int .i64 (p4 : Int), .int .i64 e4] 31)
      have hx6 := (hx4.alloc (.cells #[.slice a n c, .int .i64 (p4 : Int), .int .i64 e4] 31)).grown gr6 (by intro e; injection e with e; omega)
      have R5 := RP.stay R4 b5
      have R6 := RP.keep R5 (fun b hb => gr6.block b (RP.lt R5 b hb) (by intro e; injection e with e; subst e; exact nfY4 hb)) gr6.size
      have hB5 := hB4.trans (b5.mono hB4.size)
      have hB6 : Below w.heap.size w w6 := hB5.trans (below_of_grown gr6 (by omega) hz5.lt)
      clear hz4 hx4 hB4 hz5 hz6' b5 R4 R5 hB5 gr6 nfY nfc
      have hwr : IntKind.i64.wrap ((n : Int) - (p4 : Int)) = (n : Int) - (p4 : Int) := by have := hnH.out; rw [IntKind.wrap_i64]; omega
      have S6 : Blk w6.drew Y 31 (rdC a n c p4 e4) ∧ Blk w6.drew w.heap.size 25 [.slice a n c, .slice (some ⟨ob, oo, none⟩) m k] := ⟨hz6, hx6⟩
      have R6d : RP.Rd F4 w6.drew g xs p4 e4 := RP.stay R6 (Below.drew (Below.refl _ _))
      have hB6d := Below.drew hB6
      clear hz6 hx6 R6 hB6
      refine region_seqS (fun w' => Blk w' Y 31 (rdC a n c p4 e4) ∧ Blk w' w.heap.size 25 [.slice a n c, .slice (some ⟨ob, oo, none⟩) m k]) (by kernel_rfl) S6 ?_
      simp only [pairs, Nat.reduceAdd]
      repeat (first
        | (refine SeqS.take (v := .agg (rdC a n c p4 e4).toArray) (by first | assumption | trivial) (by kernel_rfl) (by decide +kernel) (by decide +kernel) (yields_blk (by rfl) 31 (.tmp 4) rfl rfl (fun w' h => h.1) (rowRd)) ?_
           simp only [Act.put, List.setIfInBounds_toArray, List.set_cons_zero, List.set_cons_succ])
        | (refine SeqS.take (v := ?_) (by first | assumption | trivial) (by kernel_rfl) (by decide +kernel) (by decide +kernel) (Or.inl ⟨by rfl, ?_⟩) ?_
           rotate_left
           focus
             intro w' hb'
             go_simp
             with_reducible rfl
           simp only [Act.put, List.setIfInBounds_toArray, List.set_cons_zero, List.set_cons_succ])
        | (refine SeqS.take (v := ?_) (by first | assumption | trivial) (by kernel_rfl) (by decide +kernel) (by decide +kernel) (Or.inl ⟨by rfl, ?_⟩) ?_
           rotate_left
           focus
             intro w' hb'
             have d0 : w'.cell? ⟨Y, 1, none⟩ = some (.int .i64 p4) := hb'.1.cell 1
             go_simp
             with_reducible rfl
           simp only [Act.put, List.setIfInBounds_toArray, List.set_cons_zero, List.set_cons_succ])
        | (refine SeqS.take (v := ?_) (by first | assumption | trivial) (by kernel_rfl) (by decide +kernel) (by decide +kernel) (Or.inl ⟨by rfl, ?_⟩) ?_
           rotate_left
           focus
             intro w' hb'
             have d0 : w'.cell? ⟨Y, 2, none⟩ = some (.int .i64 e4) := hb'.1.cell 2
             go_simp
             with_reducible rfl
           simp only [Act.put, List.setIfInBounds_toArray, List.set_cons_zero, List.set_cons_succ])
        | (refine SeqS.take (v := ?_) (by first | assumption | trivial) (by kernel_rfl) (by decide +kernel) (by decide +kernel) (Or.inl ⟨by rfl, ?_⟩) ?_
           rotate_left
           focus
             intro w' hb'
             have d0 : w'.cell? ⟨w.heap.size, 0, none⟩ = some (.slice a n c) := hb'.2.cell 0
             go_simp
             with_reducible rfl
           simp only [Act.put, List.setIfInBounds_toArray, List.set_cons_zero, List.set_cons_succ])
        | (refine SeqS.take (v := undef) (by first | assumption | trivial) (by kernel_rfl) (by decide +kernel) (by decide +kernel) (Or.inr ⟨by rfl, rfl⟩) ?_
           simp only [Act.put, List.setIfInBounds_toArray, List.set_cons_zero, List.set_cons_succ])
        | (refine SeqS.take1 (v := .agg (rdC a n c p4 e4).toArray) (by first | assumption | trivial) (by kernel_rfl) (by decide +kernel) (by decide +kernel) (yields_blk (by rfl) 31 (.tmp 4) rfl rfl (fun w' h => h.1) (rowRd)) ?_
           simp only [Act.put, List.setIfInBounds_toArray, List.set_cons_zero, List.set_cons_succ])
        | (refine SeqS.take1 (v := ?_) (by first | assumption | trivial) (by kernel_rfl) (by decide +kernel) (by decide +kernel) (Or.inl ⟨by rfl, ?_⟩) ?_
           rotate_left
           focus
             intro w' hb'
             go_simp
             with_reducible rfl
           simp only [Act.put, List.setIfInBounds_toArray, List.set_cons_zero, List.set_cons_succ])
        | (refine SeqS.take1 (v := ?_) (by first | assumption | trivial) (by kernel_rfl) (by decide +kernel) (by decide +kernel) (Or.inl ⟨by rfl, ?_⟩) ?_
           rotate_left
           focus
             intro w' hb'
             have d0 : w'.cell? ⟨Y, 1, none⟩ = some (.int .i64 p4) := hb'.1.cell 1
             go_simp
             with_reducible rfl
           simp only [Act.put, List.setIfInBounds_toArray, List.set_cons_zero, List.set_cons_succ])
        | (refine SeqS.take1 (v := ?_) (by first | assumption | trivial) (by kernel_rfl) (by decide +kernel) (by decide +kernel) (Or.inl ⟨by rfl, ?_⟩) ?_
           rotate_left
           focus
             intro w' hb'
             have d0 : w'.cell? ⟨Y, 2, none⟩ = some (.int .i64 e4) := hb'.1.cell 2
             go_simp
             with_reducible rfl
           simp only [Act.put, List.setIfInBounds_toArray, List.set_cons_zero, List.set_cons_succ])
        | (refine SeqS.take1 (v := ?_) (by first | assumption | trivial) (by kernel_rfl) (by decide +kernel) (by decide +kernel) (Or.inl ⟨by rfl, ?_⟩) ?_
           rotate_left
           focus
             intro w' hb'
             have d0 : w'.cell? ⟨w.heap.size, 0, none⟩ = some (.slice a n c) := hb'.2.cell 0
             go_simp
             with_reducible rfl
           simp only [Act.put, List.setIfInBounds_toArray, List.set_cons_zero, List.set_cons_succ])
        | (refine SeqS.take1 (v := undef) (by first | assumption | trivial) (by kernel_rfl) (by decide +kernel) (by decide +kernel) (Or.inr ⟨by rfl, rfl⟩) ?_
           simp only [Act.put, List.setIfInBounds_toArray, List.set_cons_zero, List.set_cons_succ])
        | (refine SeqS.take2 (v := .agg (rdC a n c p4 e4).toArray) (by first | assumption | trivial) (by kernel_rfl) (by decide +kernel) (by decide +kernel) (yields_blk (by rfl) 31 (.tmp 4) rfl rfl (fun w' h => h.1) (rowRd)) ?_
           simp only [Act.put, List.setIfInBounds_toArray, List.set_cons_zero, List.set_cons_succ])
        | (refine SeqS.take2 (v := ?_) (by first | assumption | trivial) (by kernel_rfl) (by decide +kernel) (by decide +kernel) (Or.inl ⟨by rfl, ?_⟩) ?_
           rotate_left
           focus
             intro w' hb'
             go_simp
             with_reducible rfl
           simp only [Act.put, List.setIfInBounds_toArray, List.set_cons_zero, List.set_cons_succ])
        | (refine SeqS.take2 (v := ?_) (by first | assumption | trivial) (by kernel_rfl) (by decide +kernel) (by decide +kernel) (Or.inl ⟨by rfl, ?_⟩) ?_
           rotate_left
           focus
             intro w' hb'
             have d0 : w'.cell? ⟨Y, 1, none⟩ = some (.int .i64 p4) := hb'.1.cell 1
             go_simp
             with_reducible rfl
           simp only [Act.put, List.setIfInBounds_toArray, List.set_cons_zero, List.set_cons_succ])
        | (refine SeqS.take2 (v := ?_) (by first | assumption | trivial) (by kernel_rfl) (by decide +kernel) (by decide +kernel) (Or.inl ⟨by rfl, ?_⟩) ?_
           rotate_left
           focus
             intro w' hb'
             have d0 : w'.cell? ⟨Y, 2, none⟩ = some (.int .i64 e4) := hb'.1.cell 2
             go_simp
             with_reducible rfl
           simp only [Act.put, List.setIfInBounds_toArray, List.set_cons_zero, List.set_cons_succ])
        | (refine SeqS.take2 (v := ?_) (by first | assumption | trivial) (by kernel_rfl) (by decide +kernel) (by decide +kernel) (Or.inl ⟨by rfl, ?_⟩) ?_
           rotate_left
           focus
             intro w' hb'
             have d0 : w'.cell? ⟨w.heap.size, 0, none⟩ = some (.slice a n c) := hb'.2.cell 0
             go_simp
             with_reducible rfl
           simp only [Act.put, List.setIfInBounds_toArray, List.set_cons_zero, List.set_cons_succ])
        | (refine SeqS.take2 (v := undef) (by first | assumption | trivial) (by kernel_rfl) (by decide +kernel) (by decide +kernel) (Or.inr ⟨by rfl, rfl⟩) ?_
           simp only [Act.put, List.setIfInBounds_toArray, List.set_cons_zero, List.set_cons_succ])
        | (refine SeqS.take3 (v := .agg (rdC a n c p4 e4).toArray) (by first | assumption | trivial) (by kernel_rfl) (by decide +kernel) (by decide +kernel) (yields_blk (by rfl) 31 (.tmp 4) rfl rfl (fun w' h => h.1) (rowRd)) ?_
           simp only [Act.put, List.setIfInBounds_toArray, List.set_cons_zero, List.set_cons_succ])
        | (refine SeqS.take3 (v := ?_) (by first | assumption | trivial) (by kernel_rfl) (by decide +kernel) (by decide +kernel) (Or.inl ⟨by rfl, ?_⟩) ?_
           rotate_left
           focus
             intro w' hb'
             go_simp
             with_reducible rfl
           simp only [Act.put, List.setIfInBounds_toArray, List.set_cons_zero, List.set_cons_succ])
        | (refine SeqS.take3 (v := ?_) (by first | assumption | trivial) (by kernel_rfl) (by decide +kernel) (by decide +kernel) (Or.inl ⟨by rfl, ?_⟩) ?_
           rotate_left
           focus
             intro w' hb'
             have d0 : w'.cell? ⟨Y, 1, none⟩ = some (.int .i64 p4) := hb'.1.cell 1
             go_simp
             with_reducible rfl
           simp only [Act.put, List.setIfInBounds_toArray, List.set_cons_zero, List.set_cons_succ])
        | (refine SeqS.take3 (v := ?_) (by first | assumption | trivial) (by kernel_rfl) (by decide +kernel) (by decide +kernel) (Or.inl ⟨by rfl, ?_⟩) ?_
           rotate_left
           focus
             intro w' hb'
             have d0 : w'.cell? ⟨Y, 2, none⟩ = some (.int .i64 e4) := hb'.1.cell 2
             go_simp
             with_reducible rfl
           simp only [Act.put, List.setIfInBounds_toArray, List.set_cons_zero, List.set_cons_succ])
        | (refine SeqS.take3 (v := ?_) (by first | assumption | trivial) (by kernel_rfl) (by decide +kernel) (by decide +kernel) (Or.inl ⟨by rfl, ?_⟩) ?_
           rotate_left
           focus
             intro w' hb'
             have d0 : w'.cell? ⟨w.heap.size, 0, none⟩ = some (.slice a n c) := hb'.2.cell 0
             go_simp
             with_reducible rfl
           simp only [Act.put, List.setIfInBounds_toArray, List.set_cons_zero, List.set_cons_succ])
        | (refine SeqS.take3 (v := undef) (by first | assumption | trivial) (by kernel_rfl) (by decide +kernel) (by decide +kernel) (Or.inr ⟨by rfl, rfl⟩) ?_
           simp only [Act.put, List.setIfInBounds_toArray, List.set_cons_zero, List.set_cons_succ]))
      refine SeqS.alone (by decide +kernel) (by rfl) (fun K hK => ?_)
      go_simp
      refine (RP.place F4 g xs p4 e4 w6.drew (RP.gl_keep hG (hB6d.mono (RP.gl_le hG))) R6d).mono ?_
      rintro r w7 ⟨rfl, b7⟩
      have S7 : Blk w7 Y 31 (rdC a n c p4 e4) ∧ Blk w7 w.heap.size 25 [.slice a n c, .slice (some ⟨ob, oo, none⟩) m k] := ⟨S6.1.keep b7 S6.1.lt, S6.2.keep b7 S6.2.lt⟩
      have R7 := RP.stay R6d b7
      have hB7 := hB6d.trans (b7.mono hB6d.size)
      clear S6 R6d hB6d b7
      go_simp
      refine hK _ _ S7 ?_
      clear hK K
      repeat (first
        | (refine SeqS.take (v := .agg (rdC a n c p4 e4).toArray) (by first | assumption | trivial) (by kernel_rfl) (by decide +kernel) (by decide +kernel) (yields_blk (by rfl) 31 (.tmp 4) rfl rfl (fun w' h => h.1) (rowRd)) ?_
           simp only [Act.put, List.setIfInBounds_toArray, List.set_cons_zero, List.set_cons_succ])
        | (refine SeqS.take (v := ?_) (by first | assumption | trivial) (by kernel_rfl) (by decide +kernel) (by decide +kernel) (Or.inl ⟨by rfl, ?_⟩) ?_
           rotate_left
           focus
             intro w' hb'
             go_simp
             with_reducible rfl
           simp only [Act.put, List.setIfInBounds_toArray, List.set_cons_zero, List.set_cons_succ])
        | (refine SeqS.take (v := ?_) (by first | assumption | trivial) (by kernel_rfl) (by decide +kernel) (by decide +kernel) (Or.inl ⟨by rfl, ?_⟩) ?_
           rotate_left
           focus
             intro w' hb'
             have d0 : w'.cell? ⟨Y, 1, none⟩ = some (.int .i64 p4) := hb'.1.cell 1
             go_simp
             with_reducible rfl
           simp only [Act.put, List.setIfInBounds_toArray, List.set_cons_zero, List.set_cons_succ])
        | (refine SeqS.take (v := ?_) (by first | assumption | trivial) (by kernel_rfl) (by decide +kernel) (by decide +kernel) (Or.inl ⟨by rfl, ?_⟩) ?_
           rotate_left
           focus
             intro w' hb'
             have d0 : w'.cell? ⟨Y, 2, none⟩ = some (.int .i64 e4) := hb'.1.cell 2
             go_simp
             with_reducible rfl
           simp only [Act.put, List.setIfInBounds_toArray, List.set_cons_zero, List.set_cons_succ])
        | (refine SeqS.take (v := ?_) (by first | assumption | trivial) (by kernel_rfl) (by decide +kernel) (by decide +kernel) (Or.inl ⟨by rfl, ?_⟩) ?_
           rotate_left
           focus
             intro w' hb'
             have d0 : w'.cell? ⟨w.heap.size, 0, none⟩ = some (.slice a n c) := hb'.2.cell 0
             go_simp
             with_reducible rfl
           simp only [Act.put, List.setIfInBounds_toArray, List.set_cons_zero, List.set_cons_succ])
        | (refine SeqS.take (v := undef) (by first | assumption | trivial) (by kernel_rfl) (by decide +kernel) (by decide +kernel) (Or.inr ⟨by rfl, rfl⟩) ?_
           simp only [Act.put, List.setIfInBounds_toArray, List.set_cons_zero, List.set_cons_succ])
        | (refine SeqS.take1 (v := .agg (rdC a n c p4 e4).toArray) (by first | assumption | trivial) (by kernel_rfl) (by decide +kernel) (by decide +kernel) (yields_blk (by rfl) 31 (.tmp 4) rfl rfl (fun w' h => h.1) (rowRd)) ?_
           simp only [Act.put, List.setIfInBounds_toArray, List.set_cons_zero, List.set_cons_succ])
        | (refine SeqS.take1 (v := ?_) (by first | assumption | trivial) (by kernel_rfl) (by decide +kernel) (by decide +kernel) (Or.inl ⟨by rfl, ?_⟩) ?_
           rotate_left
           focus
             intro w' hb'
             go_simp
             with_reducible rfl
           simp only [Act.put, List.setIfInBounds_toArray, List.set_cons_zero, List.set_cons_succ])
        | (refine SeqS.take1 (v := ?_) (by first | assumption | trivial) (by kernel_rfl) (by decide +kernel) (by decide +kernel) (Or.inl ⟨by rfl, ?_⟩) ?_
           rotate_left
           focus
             intro w' hb'
             have d0 : w'.cell? ⟨Y, 1, none⟩ = some (.int .i64 p4) := hb'.1.cell 1
             go_simp
             with_reducible rfl
           simp only [Act.put, List.setIfInBounds_toArray, List.set_cons_zero, List.set_cons_succ])
        | (refine SeqS.take1 (v := ?_) (by first | assumption | trivial) (by kernel_rfl) (by decide +kernel) (by decide +kernel) (Or.inl ⟨by rfl, ?_⟩) ?_
           rotate_left
           focus
             intro w' hb'
             have d0 : w'.cell? ⟨Y, 2, none⟩ = some (.int .i64 e4) := hb'.1.cell 2
             go_simp
             with_reducible rfl
           simp only [Act.put, List.setIfInBounds_toArray, List.set_cons_zero, List.set_cons_succ])
        | (refine SeqS.take1 (v := ?_) (by first | assumption | trivial) (by kernel_rfl) (by decide +kernel) (by decide +kernel) (Or.inl ⟨by rfl, ?_⟩) ?_
           rotate_left
           focus
             intro w' hb'
             have d0 : w'.cell? ⟨w.heap.size, 0, none⟩ = some (.slice a n c) := hb'.2.cell 0
             go_simp
             with_reducible rfl
           simp only [Act.put, List.setIfInBounds_toArray, List.set_cons_zero, List.set_cons_succ])
        | (refine SeqS.take1 (v := undef) (by first | assumption | trivial) (by kernel_rfl) (by decide +kernel) (by decide +kernel) (Or.inr ⟨by rfl, rfl⟩) ?_
           simp only [Act.put, List.setIfInBounds_toArray, List.set_cons_zero, List.set_cons_succ])
        | (refine SeqS.take2 (v := .agg (rdC a n c p4 e4).toArray) (by first | assumption | trivial) (by kernel_rfl) (by decide +kernel) (by decide +kernel) (yields_blk (by rfl) 31 (.tmp 4) rfl rfl (fun w' h => h.1) (rowRd)) ?_
           simp only [Act.put, List.setIfInBounds_toArray, List.set_cons_zero, List.set_cons_succ])
        | (refine SeqS.take2 (v := ?_) (by first | assumption | trivial) (by kernel_rfl) (by decide +kernel) (by decide +kernel) (Or.inl ⟨by rfl, ?_⟩) ?_
           rotate_left
           focus
             intro w' hb'
             go_simp
             with_reducible rfl
           simp only [Act.put, List.setIfInBounds_toArray, List.set_cons_zero, List.set_cons_succ])
        | (refine SeqS.take2 (v := ?_) (by first | assumption | trivial) (by kernel_rfl) (by decide +kernel) (by decide +kernel) (Or.inl ⟨by rfl, ?_⟩) ?_
           rotate_left
           focus
             intro w' hb'
             have d0 : w'.cell? ⟨Y, 1, none⟩ = some (.int .i64 p4) := hb'.1.cell 1
             go_simp
             with_reducible rfl
           simp only [Act.put, List.setIfInBounds_toArray, List.set_cons_zero, List.set_cons_succ])
        | (refine SeqS.take2 (v := ?_) (by first | assumption | trivial) (by kernel_rfl) (by decide +kernel) (by decide +kernel) (Or.inl ⟨by rfl, ?_⟩) ?_
           rotate_left
           focus
             intro w' hb'
             have d0 : w'.cell? ⟨Y, 2, none⟩ = some (.int .i64 e4) := hb'.1.cell 2
             go_simp
             with_reducible rfl
           simp only [Act.put, List.setIfInBounds_toArray, List.set_cons_zero, List.set_cons_succ])
        | (refine SeqS.take2 (v := ?_) (by first | assumption | trivial) (by kernel_rfl) (by decide +kernel) (by decide +kernel) (Or.inl ⟨by rfl, ?_⟩) ?_
           rotate_left
           focus
             intro w' hb'
             have d0 : w'.cell? ⟨w.heap.size, 0, none⟩ = some (.slice a n c) := hb'.2.cell 0
             go_simp
             with_reducible rfl
           simp only [Act.put, List.setIfInBounds_toArray, List.set_cons_zero, List.set_cons_succ])
        | (refine SeqS.take2 (v := undef) (by first | assumption | trivial) (by kernel_rfl) (by decide +kernel) (by decide +kernel) (Or.inr ⟨by rfl, rfl⟩) ?_
           simp only [Act.put, List.setIfInBounds_toArray, List.set_cons_zero, List.set_cons_succ])
        | (refine SeqS.take3 (v := .agg (rdC a n c p4 e4).toArray) (by first | assumption | trivial) (by kernel_rfl) (by decide +kernel) (by decide +kernel) (yields_blk (by rfl) 31 (.tmp 4) rfl rfl (fun w' h => h.1) (rowRd)) ?_
           simp only [Act.put, List.setIfInBounds_toArray, List.set_cons_zero, List.set_cons_succ])
        | (refine SeqS.take3 (v := ?_) (by first | assumption | trivial) (by kernel_rfl) (by decide +kernel) (by decide +kernel) (Or.inl ⟨by rfl, ?_⟩) ?_
           rotate_left
           focus
             intro w' hb'
             go_simp
             with_reducible rfl
           simp only [Act.put, List.setIfInBounds_toArray, List.set_cons_zero, List.set_cons_succ])
        | (refine SeqS.take3 (v := ?_) (by first | assumption | trivial) (by kernel_rfl) (by decide +kernel) (by decide +kernel) (Or.inl ⟨by rfl, ?_⟩) ?_
           rotate_left
           focus
             intro w' hb'
             have d0 : w'.cell? ⟨Y, 1, none⟩ = some (.int .i64 p4) := hb'.1.cell 1
             go_simp
             with_reducible rfl
           simp only [Act.put, List.setIfInBounds_toArray, List.set_cons_zero, List.set_cons_succ])
        | (refine SeqS.take3 (v := ?_) (by first | assumption | trivial) (by kernel_rfl) (by decide +kernel) (by decide +kernel) (Or.inl ⟨by rfl, ?_⟩) ?_
           rotate_left
           focus
             intro w' hb'
             have d0 : w'.cell? ⟨Y, 2, none⟩ = some (.int .i64 e4) := hb'.1.cell 2
             go_simp
             with_reducible rfl
           simp only [Act.put, List.setIfInBounds_toArray, List.set_cons_zero, List.set_cons_succ])
        | (refine SeqS.take3 (v := ?_) (by first | assumption | trivial) (by kernel_rfl) (by decide +kernel) (by decide +kernel) (Or.inl ⟨by rfl, ?_⟩) ?_
           rotate_left
           focus
             intro w' hb'
             have d0 : w'.cell? ⟨w.heap.size, 0, none⟩ = some (.slice a n c) := hb'.2.cell 0
             go_simp
             with_reducible rfl
           simp only [Act.put, List.setIfInBounds_toArray, List.set_cons_zero, List.set_cons_succ])
        | (refine SeqS.take3 (v := undef) (by first | assumption | trivial) (by kernel_rfl) (by decide +kernel) (by decide +kernel) (Or.inr ⟨by rfl, rfl⟩) ?_
           simp only [Act.put, List.setIfInBounds_toArray, List.set_cons_zero, List.set_cons_succ]))
      refine SeqS.alone (by decide +kernel) (by rfl) (fun K hK => ?_)
      go_simp
      refine (show Calls Try.prog 11 #[.pointer (some ⟨g, 0, none⟩)] w7 (fun r w' => r = .returned (.int .i64 ((n : Int) - p4)) ∧ Below w7.heap.size w7 w') from by rw [← hI.len]; exact RP.left F4 g xs p4 e4 w7 (RP.gl_keep hG (hB7.mono (RP.gl_le hG))) R7).mono ?_
      rintro r w8 ⟨rfl, b8⟩
      have S8 : Blk w8 Y 31 (rdC a n c p4 e4) ∧ Blk w8 w.heap.size 25 [.slice a n c, .slice (some ⟨ob, oo, none⟩) m k] := ⟨S7.1.keep b8 S7.1.lt, S7.2.keep b8 S7.2.lt⟩
      have R8 := RP.stay R7 b8
      have hB8 := hB7.trans (b8.mono hB7.size)
      clear S7 R7 hB7 b8
      go_simp
      refine hK _ _ S8 ?_
      clear hK K
      repeat (first
        | (refine SeqS.take (v := .agg (rdC a n c p4 e4).toArray) (by first | assumption | trivial) (by kernel_rfl) (by decide +kernel) (by decide +kernel) (yields_blk (by rfl) 31 (.tmp 4) rfl rfl (fun w' h => h.1) (rowRd)) ?_
           simp only [Act.put, List.setIfInBounds_toArray, List.set_cons_zero, List.set_cons_succ])
        | (refine SeqS.take (v := ?_) (by first | assumption | trivial) (by kernel_rfl) (by decide +kernel) (by decide +kernel) (Or.inl ⟨by rfl, ?_⟩) ?_
           rotate_left
           focus
             intro w' hb'
             go_simp
             with_reducible rfl
           simp only [Act.put, List.setIfInBounds_toArray, List.set_cons_zero, List.set_cons_succ])
        | (refine SeqS.take (v := ?_) (by first | assumption | trivial) (by kernel_rfl) (by decide +kernel) (by decide +kernel) (Or.inl ⟨by rfl, ?_⟩) ?_
           rotate_left
           focus
             intro w' hb'
             have d0 : w'.cell? ⟨Y, 1, none⟩ = some (.int .i64 p4) := hb'.1.cell 1
             go_simp
             with_reducible rfl
           simp only [Act.put, List.setIfInBounds_toArray, List.set_cons_zero, List.set_cons_succ])
        | (refine SeqS.take (v := ?_) (by first | assumption | trivial) (by kernel_rfl) (by decide +kernel) (by decide +kernel) (Or.inl ⟨by rfl, ?_⟩) ?_
           rotate_left
           focus
             intro w' hb'
             have d0 : w'.cell? ⟨Y, 2, none⟩ = some (.int .i64 e4) := hb'.1.cell 2
             go_simp
             with_reducible rfl
           simp only [Act.put, List.setIfInBounds_toArray, List.set_cons_zero, List.set_cons_succ])
        | (refine SeqS.take (v := ?_) (by first | assumption | trivial) (by kernel_rfl) (by decide +kernel) (by decide +kernel) (Or.inl ⟨by rfl, ?_⟩) ?_
           rotate_left
           focus
             intro w' hb'
             have d0 : w'.cell? ⟨w.heap.size, 0, none⟩ = some (.slice a n c) := hb'.2.cell 0
             go_simp
             with_reducible rfl
           simp only [Act.put, List.setIfInBounds_toArray, List.set_cons_zero, List.set_cons_succ])
        | (refine SeqS.take (v := undef) (by first | assumption | trivial) (by kernel_rfl) (by decide +kernel) (by decide +kernel) (Or.inr ⟨by rfl, rfl⟩) ?_
           simp only [Act.put, List.setIfInBounds_toArray, List.set_cons_zero, List.set_cons_succ])
        | (refine SeqS.take1 (v := .agg (rdC a n c p4 e4).toArray) (by first | assumption | trivial) (by kernel_rfl) (by decide +kernel) (by decide +kernel) (yields_blk (by rfl) 31 (.tmp 4) rfl rfl (fun w' h => h.1) (rowRd)) ?_
           simp only [Act.put, List.setIfInBounds_toArray, List.set_cons_zero, List.set_cons_succ])
        | (refine SeqS.take1 (v := ?_) (by first | assumption | trivial) (by kernel_rfl) (by decide +kernel) (by decide +kernel) (Or.inl ⟨by rfl, ?_⟩) ?_
           rotate_left
           focus
             intro w' hb'
             go_simp
             with_reducible rfl
           simp only [Act.put, List.setIfInBounds_toArray, List.set_cons_zero, List.set_cons_succ])
        | (refine SeqS.take1 (v := ?_) (by first | assumption | trivial) (by kernel_rfl) (by decide +kernel) (by decide +kernel) (Or.inl ⟨by rfl, ?_⟩) ?_
           rotate_left
           focus
             intro w' hb'
             have d0 : w'.cell? ⟨Y, 1, none⟩ = some (.int .i64 p4) := hb'.1.cell 1
             go_simp
             with_reducible rfl
           simp only [Act.put, List.setIfInBounds_toArray, List.set_cons_zero, List.set_cons_succ])
        | (refine SeqS.take1 (v := ?_) (by first | assumption | trivial) (by kernel_rfl) (by decide +kernel) (by decide +kernel) (Or.inl ⟨by rfl, ?_⟩) ?_
           rotate_left
           focus
             intro w' hb'
             have d0 : w'.cell? ⟨Y, 2, none⟩ = some (.int .i64 e4) := hb'.1.cell 2
             go_simp
             with_reducible rfl
           simp only [Act.put, List.setIfInBounds_toArray, List.set_cons_zero, List.set_cons_succ])
        | (refine SeqS.take1 (v := ?_) (by first | assumption | trivial) (by kernel_rfl) (by decide +kernel) (by decide +kernel) (Or.inl ⟨by rfl, ?_⟩) ?_
           rotate_left
           focus
             intro w' hb'
             have d0 : w'.cell? ⟨w.heap.size, 0, none⟩ = some (.slice a n c) := hb'.2.cell 0
             go_simp
             with_reducible rfl
           simp only [Act.put, List.setIfInBounds_toArray, List.set_cons_zero, List.set_cons_succ])
        | (refine SeqS.take1 (v := undef) (by first | assumption | trivial) (by kernel_rfl) (by decide +kernel) (by decide +kernel) (Or.inr ⟨by rfl, rfl⟩) ?_
           simp only [Act.put, List.setIfInBounds_toArray, List.set_cons_zero, List.set_cons_succ])
        | (refine SeqS.take2 (v := .agg (rdC a n c p4 e4).toArray) (by first | assumption | trivial) (by kernel_rfl) (by decide +kernel) (by decide +kernel) (yields_blk (by rfl) 31 (.tmp 4) rfl rfl (fun w' h => h.1) (rowRd)) ?_
           simp only [Act.put, List.setIfInBounds_toArray, List.set_cons_zero, List.set_cons_succ])
        | (refine SeqS.take2 (v := ?_) (by first | assumption | trivial) (by kernel_rfl) (by decide +kernel) (by decide +kernel) (Or.inl ⟨by rfl, ?_⟩) ?_
           rotate_left
           focus
             intro w' hb'
             go_simp
             with_reducible rfl
           simp only [Act.put, List.setIfInBounds_toArray, List.set_cons_zero, List.set_cons_succ])
        | (refine SeqS.take2 (v := ?_) (by first | assumption | trivial) (by kernel_rfl) (by decide +kernel) (by decide +kernel) (Or.inl ⟨by rfl, ?_⟩) ?_
           rotate_left
           focus
             intro w' hb'
             have d0 : w'.cell? ⟨Y, 1, none⟩ = some (.int .i64 p4) := hb'.1.cell 1
             go_simp
             with_reducible rfl
           simp only [Act.put, List.setIfInBounds_toArray, List.set_cons_zero, List.set_cons_succ])
        | (refine SeqS.take2 (v := ?_) (by first | assumption | trivial) (by kernel_rfl) (by decide +kernel) (by decide +kernel) (Or.inl ⟨by rfl, ?_⟩) ?_
           rotate_left
           focus
             intro w' hb'
             have d0 : w'.cell? ⟨Y, 2, none⟩ = some (.int .i64 e4) := hb'.1.cell 2
             go_simp
             with_reducible rfl
           simp only [Act.put, List.setIfInBounds_toArray, List.set_cons_zero, List.set_cons_succ])
        | (refine SeqS.take2 (v := ?_) (by first | assumption | trivial) (by kernel_rfl) (by decide +kernel) (by decide +kernel) (Or.inl ⟨by rfl, ?_⟩) ?_
           rotate_left
           focus
             intro w' hb'
             have d0 : w'.cell? ⟨w.heap.size, 0, none⟩ = some (.slice a n c) := hb'.2.cell 0
             go_simp
             with_reducible rfl
           simp only [Act.put, List.setIfInBounds_toArray, List.set_cons_zero, List.set_cons_succ])
        | (refine SeqS.take2 (v := undef) (by first | assumption | trivial) (by kernel_rfl) (by decide +kernel) (by decide +kernel) (Or.inr ⟨by rfl, rfl⟩) ?_
           simp only [Act.put, List.setIfInBounds_toArray, List.set_cons_zero, List.set_cons_succ])
        | (refine SeqS.take3 (v := .agg (rdC a n c p4 e4).toArray) (by first | assumption | trivial) (by kernel_rfl) (by decide +kernel) (by decide +kernel) (yields_blk (by rfl) 31 (.tmp 4) rfl rfl (fun w' h => h.1) (rowRd)) ?_
           simp only [Act.put, List.setIfInBounds_toArray, List.set_cons_zero, List.set_cons_succ])
        | (refine SeqS.take3 (v := ?_) (by first | assumption | trivial) (by kernel_rfl) (by decide +kernel) (by decide +kernel) (Or.inl ⟨by rfl, ?_⟩) ?_
           rotate_left
           focus
             intro w' hb'
             go_simp
             with_reducible rfl
           simp only [Act.put, List.setIfInBounds_toArray, List.set_cons_zero, List.set_cons_succ])
        | (refine SeqS.take3 (v := ?_) (by first | assumption | trivial) (by kernel_rfl) (by decide +kernel) (by decide +kernel) (Or.inl ⟨by rfl, ?_⟩) ?_
           rotate_left
           focus
             intro w' hb'
             have d0 : w'.cell? ⟨Y, 1, none⟩ = some (.int .i64 p4) := hb'.1.cell 1
             go_simp
             with_reducible rfl
           simp only [Act.put, List.setIfInBounds_toArray, List.set_cons_zero, List.set_cons_succ])
        | (refine SeqS.take3 (v := ?_) (by first | assumption | trivial) (by kernel_rfl) (by decide +kernel) (by decide +kernel) (Or.inl ⟨by rfl, ?_⟩) ?_
           rotate_left
           focus
             intro w' hb'
             have d0 : w'.cell? ⟨Y, 2, none⟩ = some (.int .i64 e4) := hb'.1.cell 2
             go_simp
             with_reducible rfl
           simp only [Act.put, List.setIfInBounds_toArray, List.set_cons_zero, List.set_cons_succ])
        | (refine SeqS.take3 (v := ?_) (by first | assumption | trivial) (by kernel_rfl) (by decide +kernel) (by decide +kernel) (Or.inl ⟨by rfl, ?_⟩) ?_
           rotate_left
           focus
             intro w' hb'
             have d0 : w'.cell? ⟨w.heap.size, 0, none⟩ = some (.slice a n c) := hb'.2.cell 0
             go_simp
             with_reducible rfl
           simp only [Act.put, List.setIfInBounds_toArray, List.set_cons_zero, List.set_cons_succ])
        | (refine SeqS.take3 (v := undef) (by first | assumption | trivial) (by kernel_rfl) (by decide +kernel) (by decide +kernel) (Or.inr ⟨by rfl, rfl⟩) ?_
           simp only [Act.put, List.setIfInBounds_toArray, List.set_cons_zero, List.set_cons_succ]))
      refine SeqS.alone (by decide +kernel) (by rfl) (fun K hK => ?_)
      go_simp
      refine (RP.err F4 g xs p4 e4 w8 (RP.gl_keep hG (hB8.mono (RP.gl_le hG))) R8).mono ?_
      rintro r w9 ⟨rfl, b9⟩
      have S9 : Blk w9 Y 31 (rdC a n c p4 e4) ∧ Blk w9 w.heap.size 25 [.slice a n c, .slice (some ⟨ob, oo, none⟩) m k] := ⟨S8.1.keep b9 S8.1.lt, S8.2.keep b9 S8.2.lt⟩
      have R9 := RP.stay R8 b9
      have hB9 := hB8.trans (b9.mono hB8.size)
      clear S8 R8 hB8 b9
      go_simp
      refine hK _ _ S9 ?_
      clear hK K
      repeat (first
        | (refine SeqS.take (v := .agg (rdC a n c p4 e4).toArray) (by first | assumption | trivial) (by kernel_rfl) (by decide +kernel) (by decide +kernel) (yields_blk (by rfl) 31 (.tmp 4) rfl rfl (fun w' h => h.1) (rowRd)) ?_
           simp only [Act.put, List.setIfInBounds_toArray, List.set_cons_zero, List.set_cons_succ])
        | (refine SeqS.take (v := ?_) (by first | assumption | trivial) (by kernel_rfl) (by decide +kernel) (by decide +kernel) (Or.inl ⟨by rfl, ?_⟩) ?_
           rotate_left
           focus
             intro w' hb'
             go_simp
             with_reducible rfl
           simp only [Act.put, List.setIfInBounds_toArray, List.set_cons_zero, List.set_cons_succ])
        | (refine SeqS.take (v := ?_) (by first | assumption | trivial) (by kernel_rfl) (by decide +kernel) (by decide +kernel) (Or.inl ⟨by rfl, ?_⟩) ?_
           rotate_left
           focus
             intro w' hb'
             have d0 : w'.cell? ⟨Y, 1, none⟩ = some (.int .i64 p4) := hb'.1.cell 1
             go_simp
             with_reducible rfl
           simp only [Act.put, List.setIfInBounds_toArray, List.set_cons_zero, List.set_cons_succ])
        | (refine SeqS.take (v := ?_) (by first | assumption | trivial) (by kernel_rfl) (by decide +kernel) (by decide +kernel) (Or.inl ⟨by rfl, ?_⟩) ?_
           rotate_left
           focus
             intro w' hb'
             have d0 : w'.cell? ⟨Y, 2, none⟩ = some (.int .i64 e4) := hb'.1.cell 2
             go_simp
             with_reducible rfl
           simp only [Act.put, List.setIfInBounds_toArray, List.set_cons_zero, List.set_cons_succ])
        | (refine SeqS.take (v := ?_) (by first | assumption | trivial) (by kernel_rfl) (by decide +kernel) (by decide +kernel) (Or.inl ⟨by rfl, ?_⟩) ?_
           rotate_left
           focus
             intro w' hb'
             have d0 : w'.cell? ⟨w.heap.size, 0, none⟩ = some (.slice a n c) := hb'.2.cell 0
             go_simp
             with_reducible rfl
           simp only [Act.put, List.setIfInBounds_toArray, List.set_cons_zero, List.set_cons_succ])
        | (refine SeqS.take (v := undef) (by first | assumption | trivial) (by kernel_rfl) (by decide +kernel) (by decide +kernel) (Or.inr ⟨by rfl, rfl⟩) ?_
           simp only [Act.put, List.setIfInBounds_toArray, List.set_cons_zero, List.set_cons_succ])
        | (refine SeqS.take1 (v := .agg (rdC a n c p4 e4).toArray) (by first | assumption | trivial) (by kernel_rfl) (by decide +kernel) (by decide +kernel) (yields_blk (by rfl) 31 (.tmp 4) rfl rfl (fun w' h => h.1) (rowRd)) ?_
           simp only [Act.put, List.setIfInBounds_toArray, List.set_cons_zero, List.set_cons_succ])
        | (refine SeqS.take1 (v := ?_) (by first | assumption | trivial) (by kernel_rfl) (by decide +kernel) (by decide +kernel) (Or.inl ⟨by rfl, ?_⟩) ?_
           rotate_left
           focus
             intro w' hb'
             go_simp
             with_reducible rfl
           simp only [Act.put, List.setIfInBounds_toArray, List.set_cons_zero, List.set_cons_succ])
        | (refine SeqS.take1 (v := ?_) (by first | assumption | trivial) (by kernel_rfl) (by decide +kernel) (by decide +kernel) (Or.inl ⟨by rfl, ?_⟩) ?_
           rotate_left
           focus
             intro w' hb'
             have d0 : w'.cell? ⟨Y, 1, none⟩ = some (.int .i64 p4) := hb'.1.cell 1
             go_simp
             with_reducible rfl
           simp only [Act.put, List.setIfInBounds_toArray, List.set_cons_zero, List.set_cons_succ])
        | (refine SeqS.take1 (v := ?_) (by first | assumption | trivial) (by kernel_rfl) (by decide +kernel) (by decide +kernel) (Or.inl ⟨by rfl, ?_⟩) ?_
           rotate_left
           focus
             intro w' hb'
             have d0 : w'.cell? ⟨Y, 2, none⟩ = some (.int .i64 e4) := hb'.1.cell 2
             go_simp
             with_reducible rfl
           simp only [Act.put, List.setIfInBounds_toArray, List.set_cons_zero, List.set_cons_succ])
        | (refine SeqS.take1 (v := ?_) (by first | assumption | trivial) (by kernel_rfl) (by decide +kernel) (by decide +kernel) (Or.inl ⟨by rfl, ?_⟩) ?_
           rotate_left
           focus
             intro w' hb'
             have d0 : w'.cell? ⟨w.heap.size, 0, none⟩ = some (.slice a n c) := hb'.2.cell 0
             go_simp
             with_reducible rfl
           simp only [Act.put, List.setIfInBounds_toArray, List.set_cons_zero, List.set_cons_succ])
        | (refine SeqS.take1 (v := undef) (by first | assumption | trivial) (by kernel_rfl) (by decide +kernel) (by decide +kernel) (Or.inr ⟨by rfl, rfl⟩) ?_
           simp only [Act.put, List.setIfInBounds_toArray, List.set_cons_zero, List.set_cons_succ])
        | (refine SeqS.take2 (v := .agg (rdC a n c p4 e4).toArray) (by first | assumption | trivial) (by kernel_rfl) (by decide +kernel) (by decide +kernel) (yields_blk (by rfl) 31 (.tmp 4) rfl rfl (fun w' h => h.1) (rowRd)) ?_
           simp only [Act.put, List.setIfInBounds_toArray, List.set_cons_zero, List.set_cons_succ])
        | (refine SeqS.take2 (v := ?_) (by first | assumption | trivial) (by kernel_rfl) (by decide +kernel) (by decide +kernel) (Or.inl ⟨by rfl, ?_⟩) ?_
           rotate_left
           focus
             intro w' hb'
             go_simp
             with_reducible rfl
           simp only [Act.put, List.setIfInBounds_toArray, List.set_cons_zero, List.set_cons_succ])
        | (refine SeqS.take2 (v := ?_) (by first | assumption | trivial) (by kernel_rfl) (by decide +kernel) (by decide +kernel) (Or.inl ⟨by rfl, ?_⟩) ?_
           rotate_left
           focus
             intro w' hb'
             have d0 : w'.cell? ⟨Y, 1, none⟩ = some (.int .i64 p4) := hb'.1.cell 1
             go_simp
             with_reducible rfl
           simp only [Act.put, List.setIfInBounds_toArray, List.set_cons_zero, List.set_cons_succ])
        | (refine SeqS.take2 (v := ?_) (by first | assumption | trivial) (by kernel_rfl) (by decide +kernel) (by decide +kernel) (Or.inl ⟨by rfl, ?_⟩) ?_
           rotate_left
           focus
             intro w' hb'
             have d0 : w'.cell? ⟨Y, 2, none⟩ = some (.int .i64 e4) := hb'.1.cell 2
             go_simp
             with_reducible rfl
           simp only [Act.put, List.setIfInBounds_toArray, List.set_cons_zero, List.set_cons_succ])
        | (refine SeqS.take2 (v := ?_) (by first | assumption | trivial) (by kernel_rfl) (by decide +kernel) (by decide +kernel) (Or.inl ⟨by rfl, ?_⟩) ?_
           rotate_left
           focus
             intro w' hb'
             have d0 : w'.cell? ⟨w.heap.size, 0, none⟩ = some (.slice a n c) := hb'.2.cell 0
             go_simp
             with_reducible rfl
           simp only [Act.put, List.setIfInBounds_toArray, List.set_cons_zero, List.set_cons_succ])
        | (refine SeqS.take2 (v := undef) (by first | assumption | trivial) (by kernel_rfl) (by decide +kernel) (by decide +kernel) (Or.inr ⟨by rfl, rfl⟩) ?_
           simp only [Act.put, List.setIfInBounds_toArray, List.set_cons_zero, List.set_cons_succ])
        | (refine SeqS.take3 (v := .agg (rdC a n c p4 e4).toArray) (by first | assumption | trivial) (by kernel_rfl) (by decide +kernel) (by decide +kernel) (yields_blk (by rfl) 31 (.tmp 4) rfl rfl (fun w' h => h.1) (rowRd)) ?_
           simp only [Act.put, List.setIfInBounds_toArray, List.set_cons_zero, List.set_cons_succ])
        | (refine SeqS.take3 (v := ?_) (by first | assumption | trivial) (by kernel_rfl) (by decide +kernel) (by decide +kernel) (Or.inl ⟨by rfl, ?_⟩) ?_
           rotate_left
           focus
             intro w' hb'
             go_simp
             with_reducible rfl
           simp only [Act.put, List.setIfInBounds_toArray, List.set_cons_zero, List.set_cons_succ])
        | (refine SeqS.take3 (v := ?_) (by first | assumption | trivial) (by kernel_rfl) (by decide +kernel) (by decide +kernel) (Or.inl ⟨by rfl, ?_⟩) ?_
           rotate_left
           focus
             intro w' hb'
             have d0 : w'.cell? ⟨Y, 1, none⟩ = some (.int .i64 p4) := hb'.1.cell 1
             go_simp
             with_reducible rfl
           simp only [Act.put, List.setIfInBounds_toArray, List.set_cons_zero, List.set_cons_succ])
        | (refine SeqS.take3 (v := ?_) (by first | assumption | trivial) (by kernel_rfl) (by decide +kernel) (by decide +kernel) (Or.inl ⟨by rfl, ?_⟩) ?_
           rotate_left
           focus
             intro w' hb'
             have d0 : w'.cell? ⟨Y, 2, none⟩ = some (.int .i64 e4) := hb'.1.cell 2
             go_simp
             with_reducible rfl
           simp only [Act.put, List.setIfInBounds_toArray, List.set_cons_zero, List.set_cons_succ])
        | (refine SeqS.take3 (v := ?_) (by first | assumption | trivial) (by kernel_rfl) (by decide +kernel) (by decide +kernel) (Or.inl ⟨by rfl, ?_⟩) ?_
           rotate_left
           focus
             intro w' hb'
             have d0 : w'.cell? ⟨w.heap.size, 0, none⟩ = some (.slice a n c) := hb'.2.cell 0
             go_simp
             with_reducible rfl
           simp only [Act.put, List.setIfInBounds_toArray, List.set_cons_zero, List.set_cons_succ])
        | (refine SeqS.take3 (v := undef) (by first | assumption | trivial) (by kernel_rfl) (by decide +kernel) (by decide +kernel) (Or.inr ⟨by rfl, rfl⟩) ?_
           simp only [Act.put, List.setIfInBounds_toArray, List.set_cons_zero, List.set_cons_succ]))
      obtain ⟨D, hD⟩ : ∃ D, doneOf n p4 e4 = D := ⟨_, rfl⟩
      have DD := rDone_any a n c p4 e4
      rw [hD] at DD
      have DDH := Lib.hid DD
      have hDH := Lib.hid hD
      clear DD hD
      refine SeqS.alone (by decide +kernel) (by rfl) (fun K hK => ?_)
      go_simp
      refine (show Calls Try.prog 13 #[.pointer (some ⟨g, 0, none⟩)] w9 (fun r w' => r = .returned (.int .i64 D) ∧ Below w9.heap.size w9 w') from by rw [← hDH.out, ← hI.len]; exact RP.done F4 g xs p4 e4 w9 (RP.gl_keep hG (hB9.mono (RP.gl_le hG))) R9).mono ?_
      rintro r w10 ⟨rfl, b10⟩
      have S10 : Blk w10 Y 31 (rdC a n c p4 e4) ∧ Blk w10 w.heap.size 25 [.slice a n c, .slice (some ⟨ob, oo, none⟩) m k] := ⟨S9.1.keep b10 S9.1.lt, S9.2.keep b10 S9.2.lt⟩
      have R10 := RP.stay R9 b10
      have hB10 := hB9.trans (b10.mono hB9.size)
      clear S9 R9 hB9 b10
      go_simp
      refine hK _ _ S10 ?_
      clear hK K
      repeat (first
        | (refine SeqS.take (v := .agg (rdC a n c p4 e4).toArray) (by first | assumption | trivial) (by kernel_rfl) (by decide +kernel) (by decide +kernel) (yields_blk (by rfl) 31 (.tmp 4) rfl rfl (fun w' h => h.1) (rowRd)) ?_
           simp only [Act.put, List.setIfInBounds_toArray, List.set_cons_zero, List.set_cons_succ])
        | (refine SeqS.take (v := ?_) (by first | assumption | trivial) (by kernel_rfl) (by decide +kernel) (by decide +kernel) (Or.inl ⟨by rfl, ?_⟩) ?_
           rotate_left
           focus
             intro w' hb'
             go_simp
             with_reducible rfl
           simp only [Act.put, List.setIfInBounds_toArray, List.set_cons_zero, List.set_cons_succ])
        | (refine SeqS.take (v := ?_) (by first | assumption | trivial) (by kernel_rfl) (by decide +kernel) (by decide +kernel) (Or.inl ⟨by rfl, ?_⟩) ?_
           rotate_left
           focus
             intro w' hb'
             have d0 : w'.cell? ⟨Y, 1, none⟩ = some (.int .i64 p4) := hb'.1.cell 1
             go_simp
             with_reducible rfl
           simp only [Act.put, List.setIfInBounds_toArray, List.set_cons_zero, List.set_cons_succ])
        | (refine SeqS.take (v := ?_) (by first | assumption | trivial) (by kernel_rfl) (by decide +kernel) (by decide +kernel) (Or.inl ⟨by rfl, ?_⟩) ?_
           rotate_left
           focus
             intro w' hb'
             have d0 : w'.cell? ⟨Y, 2, none⟩ = some (.int .i64 e4) := hb'.1.cell 2
             go_simp
             with_reducible rfl
           simp only [Act.put, List.setIfInBounds_toArray, List.set_cons_zero, List.set_cons_succ])
        | (refine SeqS.take (v := ?_) (by first | assumption | trivial) (by kernel_rfl) (by decide +kernel) (by decide +kernel) (Or.inl ⟨by rfl, ?_⟩) ?_
           rotate_left
           focus
             intro w' hb'
             have d0 : w'.cell? ⟨w.heap.size, 0, none⟩ = some (.slice a n c) := hb'.2.cell 0
             go_simp
             with_reducible rfl
           simp only [Act.put, List.setIfInBounds_toArray, List.set_cons_zero, List.set_cons_succ])
        | (refine SeqS.take (v := undef) (by first | assumption | trivial) (by kernel_rfl) (by decide +kernel) (by decide +kernel) (Or.inr ⟨by rfl, rfl⟩) ?_
           simp only [Act.put, List.setIfInBounds_toArray, List.set_cons_zero, List.set_cons_succ])
        | (refine SeqS.take1 (v := .agg (rdC a n c p4 e4).toArray) (by first | assumption | trivial) (by kernel_rfl) (by decide +kernel) (by decide +kernel) (yields_blk (by rfl) 31 (.tmp 4) rfl rfl (fun w' h => h.1) (rowRd)) ?_
           simp only [Act.put, List.setIfInBounds_toArray, List.set_cons_zero, List.set_cons_succ])
        | (refine SeqS.take1 (v := ?_) (by first | assumption | trivial) (by kernel_rfl) (by decide +kernel) (by decide +kernel) (Or.inl ⟨by rfl, ?_⟩) ?_
           rotate_left
           focus
             intro w' hb'
             go_simp
             with_reducible rfl
           simp only [Act.put, List.setIfInBounds_toArray, List.set_cons_zero, List.set_cons_succ])
        | (refine SeqS.take1 (v := ?_) (by first | assumption | trivial) (by kernel_rfl) (by decide +kernel) (by decide +kernel) (Or.inl ⟨by rfl, ?_⟩) ?_
           rotate_left
           focus
             intro w' hb'
             have d0 : w'.cell? ⟨Y, 1, none⟩ = some (.int .i64 p4) := hb'.1.cell 1
             go_simp
             with_reducible rfl
           simp only [Act.put, List.setIfInBounds_toArray, List.set_cons_zero, List.set_cons_succ])
        | (refine SeqS.take1 (v := ?_) (by first | assumption | trivial) (by kernel_rfl) (by decide +kernel) (by decide +kernel) (Or.inl ⟨by rfl, ?_⟩) ?_
           rotate_left
           focus
             intro w' hb'
             have d0 : w'.cell? ⟨Y, 2, none⟩ = some (.int .i64 e4) := hb'.1.cell 2
             go_simp
             with_reducible rfl
           simp only [Act.put, List.setIfInBounds_toArray, List.set_cons_zero, List.set_cons_succ])
        | (refine SeqS.take1 (v := ?_) (by first | assumption | trivial) (by kernel_rfl) (by decide +kernel) (by decide +kernel) (Or.inl ⟨by rfl, ?_⟩) ?_
           rotate_left
           focus
             intro w' hb'
             have d0 : w'.cell? ⟨w.heap.size, 0, none⟩ = some (.slice a n c) := hb'.2.cell 0
             go_simp
             with_reducible rfl
           simp only [Act.put, List.setIfInBounds_toArray, List.set_cons_zero, List.set_cons_succ])
        | (refine SeqS.take1 (v := undef) (by first | assumption | trivial) (by kernel_rfl) (by decide +kernel) (by decide +kernel) (Or.inr ⟨by rfl, rfl⟩) ?_
           simp only [Act.put, List.setIfInBounds_toArray, List.set_cons_zero, List.set_cons_succ])
        | (refine SeqS.take2 (v := .agg (rdC a n c p4 e4).toArray) (by first | assumption | trivial) (by kernel_rfl) (by decide +kernel) (by decide +kernel) (yields_blk (by rfl) 31 (.tmp 4) rfl rfl (fun w' h => h.1) (rowRd)) ?_
           simp only [Act.put, List.setIfInBounds_toArray, List.set_cons_zero, List.set_cons_succ])
        | (refine SeqS.take2 (v := ?_) (by first | assumption | trivial) (by kernel_rfl) (by decide +kernel) (by decide +kernel) (Or.inl ⟨by rfl, ?_⟩) ?_
           rotate_left
           focus
             intro w' hb'
             go_simp
             with_reducible rfl
           simp only [Act.put, List.setIfInBounds_toArray, List.set_cons_zero, List.set_cons_succ])
        | (refine SeqS.take2 (v := ?_) (by first | assumption | trivial) (by kernel_rfl) (by decide +kernel) (by decide +kernel) (Or.inl ⟨by rfl, ?_⟩) ?_
           rotate_left
           focus
             intro w' hb'
             have d0 : w'.cell? ⟨Y, 1, none⟩ = some (.int .i64 p4) := hb'.1.cell 1
             go_simp
             with_reducible rfl
           simp only [Act.put, List.setIfInBounds_toArray, List.set_cons_zero, List.set_cons_succ])
        | (refine SeqS.take2 (v := ?_) (by first | assumption | trivial) (by kernel_rfl) (by decide +kernel) (by decide +kernel) (Or.inl ⟨by rfl, ?_⟩) ?_
           rotate_left
           focus
             intro w' hb'
             have d0 : w'.cell? ⟨Y, 2, none⟩ = some (.int .i64 e4) := hb'.1.cell 2
             go_simp
             with_reducible rfl
           simp only [Act.put, List.setIfInBounds_toArray, List.set_cons_zero, List.set_cons_succ])
        | (refine SeqS.take2 (v := ?_) (by first | assumption | trivial) (by kernel_rfl) (by decide +kernel) (by decide +kernel) (Or.inl ⟨by rfl, ?_⟩) ?_
           rotate_left
           focus
             intro w' hb'
             have d0 : w'.cell? ⟨w.heap.size, 0, none⟩ = some (.slice a n c) := hb'.2.cell 0
             go_simp
             with_reducible rfl
           simp only [Act.put, List.setIfInBounds_toArray, List.set_cons_zero, List.set_cons_succ])
        | (refine SeqS.take2 (v := undef) (by first | assumption | trivial) (by kernel_rfl) (by decide +kernel) (by decide +kernel) (Or.inr ⟨by rfl, rfl⟩) ?_
           simp only [Act.put, List.setIfInBounds_toArray, List.set_cons_zero, List.set_cons_succ])
        | (refine SeqS.take3 (v := .agg (rdC a n c p4 e4).toArray) (by first | assumption | trivial) (by kernel_rfl) (by decide +kernel) (by decide +kernel) (yields_blk (by rfl) 31 (.tmp 4) rfl rfl (fun w' h => h.1) (rowRd)) ?_
           simp only [Act.put, List.setIfInBounds_toArray, List.set_cons_zero, List.set_cons_succ])
        | (refine SeqS.take3 (v := ?_) (by first | assumption | trivial) (by kernel_rfl) (by decide +kernel) (by decide +kernel) (Or.inl ⟨by rfl, ?_⟩) ?_
           rotate_left
           focus
             intro w' hb'
             go_simp
             with_reducible rfl
           simp only [Act.put, List.setIfInBounds_toArray, List.set_cons_zero, List.set_cons_succ])
        | (refine SeqS.take3 (v := ?_) (by first | assumption | trivial) (by kernel_rfl) (by decide +kernel) (by decide +kernel) (Or.inl ⟨by rfl, ?_⟩) ?_
           rotate_left
           focus
             intro w' hb'
             have d0 : w'.cell? ⟨Y, 1, none⟩ = some (.int .i64 p4) := hb'.1.cell 1
             go_simp
             with_reducible rfl
           simp only [Act.put, List.setIfInBounds_toArray, List.set_cons_zero, List.set_cons_succ])
        | (refine SeqS.take3 (v := ?_) (by first | assumption | trivial) (by kernel_rfl) (by decide +kernel) (by decide +kernel) (Or.inl ⟨by rfl, ?_⟩) ?_
           rotate_left
           focus
             intro w' hb'
             have d0 : w'.cell? ⟨Y, 2, none⟩ = some (.int .i64 e4) := hb'.1.cell 2
             go_simp
             with_reducible rfl
           simp only [Act.put, List.setIfInBounds_toArray, List.set_cons_zero, List.set_cons_succ])
        | (refine SeqS.take3 (v := ?_) (by first | assumption | trivial) (by kernel_rfl) (by decide +kernel) (by decide +kernel) (Or.inl ⟨by rfl, ?_⟩) ?_
           rotate_left
           focus
             intro w' hb'
             have d0 : w'.cell? ⟨w.heap.size, 0, none⟩ = some (.slice a n c) := hb'.2.cell 0
             go_simp
             with_reducible rfl
           simp only [Act.put, List.setIfInBounds_toArray, List.set_cons_zero, List.set_cons_succ])
        | (refine SeqS.take3 (v := undef) (by first | assumption | trivial) (by kernel_rfl) (by decide +kernel) (by decide +kernel) (Or.inr ⟨by rfl, rfl⟩) ?_
           simp only [Act.put, List.setIfInBounds_toArray, List.set_cons_zero, List.set_cons_succ]))
      refine SeqS.alone (by decide +kernel) (by rfl) (fun K hK => ?_)
      go_simp
      refine (DDH.out w10).mono ?_
      rintro r w11 ⟨rfl, b11⟩
      have S11 : Blk w11 Y 31 (rdC a n c p4 e4) ∧ Blk w11 w.heap.size 25 [.slice a n c, .slice (some ⟨ob, oo, none⟩) m k] := ⟨S10.1.keep b11 S10.1.lt, S10.2.keep b11 S10.2.lt⟩
      have R11 := RP.stay R10 b11
      have hB11 := hB10.trans (b11.mono hB10.size)
      clear S10 R10 hB10 b11
      go_simp
      refine hK _ _ S11 ?_
      clear hK K
      repeat (first
        | (refine SeqS.take (v := .agg (rdC a n c p4 e4).toArray) (by first | assumption | trivial) (by kernel_rfl) (by decide +kernel) (by decide +kernel) (yields_blk (by rfl) 31 (.tmp 4) rfl rfl (fun w' h => h.1) (rowRd)) ?_
           simp only [Act.put, List.setIfInBounds_toArray, List.set_cons_zero, List.set_cons_succ])
        | (refine SeqS.take (v := ?_) (by first | assumption | trivial) (by kernel_rfl) (by decide +kernel) (by decide +kernel) (Or.inl ⟨by rfl, ?_⟩) ?_
           rotate_left
           focus
             intro w' hb'
             go_simp
             with_reducible rfl
           simp only [Act.put, List.setIfInBounds_toArray, List.set_cons_zero, List.set_cons_succ])
        | (refine SeqS.take (v := ?_) (by first | assumption | trivial) (by kernel_rfl) (by decide +kernel) (by decide +kernel) (Or.inl ⟨by rfl, ?_⟩) ?_
           rotate_left
           focus
             intro w' hb'
             have d0 : w'.cell? ⟨Y, 1, none⟩ = some (.int .i64 p4) := hb'.1.cell 1
             go_simp
             with_reducible rfl
           simp only [Act.put, List.setIfInBounds_toArray, List.set_cons_zero, List.set_cons_succ])
        | (refine SeqS.take (v := ?_) (by first | assumption | trivial) (by kernel_rfl) (by decide +kernel) (by decide +kernel) (Or.inl ⟨by rfl, ?_⟩) ?_
           rotate_left
           focus
             intro w' hb'
             have d0 : w'.cell? ⟨Y, 2, none⟩ = some (.int .i64 e4) := hb'.1.cell 2
             go_simp
             with_reducible rfl
           simp only [Act.put, List.setIfInBounds_toArray, List.set_cons_zero, List.set_cons_succ])
        | (refine SeqS.take (v := ?_) (by first | assumption | trivial) (by kernel_rfl) (by decide +kernel) (by decide +kernel) (Or.inl ⟨by rfl, ?_⟩) ?_
           rotate_left
           focus
             intro w' hb'
             have d0 : w'.cell? ⟨w.heap.size, 0, none⟩ = some (.slice a n c) := hb'.2.cell 0
             go_simp
             with_reducible rfl
           simp only [Act.put, List.setIfInBounds_toArray, List.set_cons_zero, List.set_cons_succ])
        | (refine SeqS.take (v := undef) (by first | assumption | trivial) (by kernel_rfl) (by decide +kernel) (by decide +kernel) (Or.inr ⟨by rfl, rfl⟩) ?_
           simp only [Act.put, List.setIfInBounds_toArray, List.set_cons_zero, List.set_cons_succ])
        | (refine SeqS.take1 (v := .agg (rdC a n c p4 e4).toArray) (by first | assumption | trivial) (by kernel_rfl) (by decide +kernel) (by decide +kernel) (yields_blk (by rfl) 31 (.tmp 4) rfl rfl (fun w' h => h.1) (rowRd)) ?_
           simp only [Act.put, List.setIfInBounds_toArray, List.set_cons_zero, List.set_cons_succ])
        | (refine SeqS.take1 (v := ?_) (by first | assumption | trivial) (by kernel_rfl) (by decide +kernel) (by decide +kernel) (Or.inl ⟨by rfl, ?_⟩) ?_
           rotate_left
           focus
             intro w' hb'
             go_simp
             with_reducible rfl
           simp only [Act.put, List.setIfInBounds_toArray, List.set_cons_zero, List.set_cons_succ])
        | (refine SeqS.take1 (v := ?_) (by first | assumption | trivial) (by kernel_rfl) (by decide +kernel) (by decide +kernel) (Or.inl ⟨by rfl, ?_⟩) ?_
           rotate_left
           focus
             intro w' hb'
             have d0 : w'.cell? ⟨Y, 1, none⟩ = some (.int .i64 p4) := hb'.1.cell 1
             go_simp
             with_reducible rfl
           simp only [Act.put, List.setIfInBounds_toArray, List.set_cons_zero, List.set_cons_succ])
        | (refine SeqS.take1 (v := ?_) (by first | assumption | trivial) (by kernel_rfl) (by decide +kernel) (by decide +kernel) (Or.inl ⟨by rfl, ?_⟩) ?_
           rotate_left
           focus
             intro w' hb'
             have d0 : w'.cell? ⟨Y, 2, none⟩ = some (.int .i64 e4) := hb'.1.cell 2
             go_simp
             with_reducible rfl
           simp only [Act.put, List.setIfInBounds_toArray, List.set_cons_zero, List.set_cons_succ])
        | (refine SeqS.take1 (v := ?_) (by first | assumption | trivial) (by kernel_rfl) (by decide +kernel) (by decide +kernel) (Or.inl ⟨by rfl, ?_⟩) ?_
           rotate_left
           focus
             intro w' hb'
             have d0 : w'.cell? ⟨w.heap.size, 0, none⟩ = some (.slice a n c) := hb'.2.cell 0
             go_simp
             with_reducible rfl
           simp only [Act.put, List.setIfInBounds_toArray, List.set_cons_zero, List.set_cons_succ])
        | (refine SeqS.take1 (v := undef) (by first | assumption | trivial) (by kernel_rfl) (by decide +kernel) (by decide +kernel) (Or.inr ⟨by rfl, rfl⟩) ?_
           simp only [Act.put, List.setIfInBounds_toArray, List.set_cons_zero, List.set_cons_succ])
        | (refine SeqS.take2 (v := .agg (rdC a n c p4 e4).toArray) (by first | assumption | trivial) (by kernel_rfl) (by decide +kernel) (by decide +kernel) (yields_blk (by rfl) 31 (.tmp 4) rfl rfl (fun w' h => h.1) (rowRd)) ?_
           simp only [Act.put, List.setIfInBounds_toArray, List.set_cons_zero, List.set_cons_succ])
        | (refine SeqS.take2 (v := ?_) (by first | assumption | trivial) (by kernel_rfl) (by decide +kernel) (by decide +kernel) (Or.inl ⟨by rfl, ?_⟩) ?_
           rotate_left
           focus
             intro w' hb'
             go_simp
             with_reducible rfl
           simp only [Act.put, List.setIfInBounds_toArray, List.set_cons_zero, List.set_cons_succ])
        | (refine SeqS.take2 (v := ?_) (by first | assumption | trivial) (by kernel_rfl) (by decide +kernel) (by decide +kernel) (Or.inl ⟨by rfl, ?_⟩) ?_
           rotate_left
           focus
             intro w' hb'
             have d0 : w'.cell? ⟨Y, 1, none⟩ = some (.int .i64 p4) := hb'.1.cell 1
             go_simp
             with_reducible rfl
           simp only [Act.put, List.setIfInBounds_toArray, List.set_cons_zero, List.set_cons_succ])
        | (refine SeqS.take2 (v := ?_) (by first | assumption | trivial) (by kernel_rfl) (by decide +kernel) (by decide +kernel) (Or.inl ⟨by rfl, ?_⟩) ?_
           rotate_left
           focus
             intro w' hb'
             have d0 : w'.cell? ⟨Y, 2, none⟩ = some (.int .i64 e4) := hb'.1.cell 2
             go_simp
             with_reducible rfl
           simp only [Act.put, List.setIfInBounds_toArray, List.set_cons_zero, List.set_cons_succ])
        | (refine SeqS.take2 (v := ?_) (by first | assumption | trivial) (by kernel_rfl) (by decide +kernel) (by decide +kernel) (Or.inl ⟨by rfl, ?_⟩) ?_
           rotate_left
           focus
             intro w' hb'
             have d0 : w'.cell? ⟨w.heap.size, 0, none⟩ = some (.slice a n c) := hb'.2.cell 0
             go_simp
             with_reducible rfl
           simp only [Act.put, List.setIfInBounds_toArray, List.set_cons_zero, List.set_cons_succ])
        | (refine SeqS.take2 (v := undef) (by first | assumption | trivial) (by kernel_rfl) (by decide +kernel) (by decide +kernel) (Or.inr ⟨by rfl, rfl⟩) ?_
           simp only [Act.put, List.setIfInBounds_toArray, List.set_cons_zero, List.set_cons_succ])
        | (refine SeqS.take3 (v := .agg (rdC a n c p4 e4).toArray) (by first | assumption | trivial) (by kernel_rfl) (by decide +kernel) (by decide +kernel) (yields_blk (by rfl) 31 (.tmp 4) rfl rfl (fun w' h => h.1) (rowRd)) ?_
           simp only [Act.put, List.setIfInBounds_toArray, List.set_cons_zero, List.set_cons_succ])
        | (refine SeqS.take3 (v := ?_) (by first | assumption | trivial) (by kernel_rfl) (by decide +kernel) (by decide +kernel) (Or.inl ⟨by rfl, ?_⟩) ?_
           rotate_left
           focus
             intro w' hb'
             go_simp
             with_reducible rfl
           simp only [Act.put, List.setIfInBounds_toArray, List.set_cons_zero, List.set_cons_succ])
        | (refine SeqS.take3 (v := ?_) (by first | assumption | trivial) (by kernel_rfl) (by decide +kernel) (by decide +kernel) (Or.inl ⟨by rfl, ?_⟩) ?_
           rotate_left
           focus
             intro w' hb'
             have d0 : w'.cell? ⟨Y, 1, none⟩ = some (.int .i64 p4) := hb'.1.cell 1
             go_simp
             with_reducible rfl
           simp only [Act.put, List.setIfInBounds_toArray, List.set_cons_zero, List.set_cons_succ])
        | (refine SeqS.take3 (v := ?_) (by first | assumption | trivial) (by kernel_rfl) (by decide +kernel) (by decide +kernel) (Or.inl ⟨by rfl, ?_⟩) ?_
           rotate_left
           focus
             intro w' hb'
             have d0 : w'.cell? ⟨Y, 2, none⟩ = some (.int .i64 e4) := hb'.1.cell 2
             go_simp
             with_reducible rfl
           simp only [Act.put, List.setIfInBounds_toArray, List.set_cons_zero, List.set_cons_succ])
        | (refine SeqS.take3 (v := ?_) (by first | assumption | trivial) (by kernel_rfl) (by decide +kernel) (by decide +kernel) (Or.inl ⟨by rfl, ?_⟩) ?_
           rotate_left
           focus
             intro w' hb'
             have d0 : w'.cell? ⟨w.heap.size, 0, none⟩ = some (.slice a n c) := hb'.2.cell 0
             go_simp
             with_reducible rfl
           simp only [Act.put, List.setIfInBounds_toArray, List.set_cons_zero, List.set_cons_succ])
        | (refine SeqS.take3 (v := undef) (by first | assumption | trivial) (by kernel_rfl) (by decide +kernel) (by decide +kernel) (Or.inr ⟨by rfl, rfl⟩) ?_
           simp only [Act.put, List.setIfInBounds_toArray, List.set_cons_zero, List.set_cons_succ]))
      refine SeqS.done (by decide +kernel) ?_
      go_wp2_with fail
      refine ⟨⟨j + 1, p4, e4, F4, hjH.out, by rw [Int.natCast_add]; rfl, R11, hp4, hF4, nfY4, S11.1, hB11, S11.2⟩, ?_⟩
      show m - ((j : Int) + 1).toNat < m - ((j : Int)).toNat
      have := hjH.out
      omega
    · have hji : ¬ (j : Int) < (m : Int) := by omega
      obtain rfl : j = m := by omega
      go_wp2_with fail
      refine (alive9_any RP wr (RP.gl_keep hG (hB.mono (RP.gl_le hG)))).mono ?_
      rintro r w9 ⟨rfl, b9⟩
      go_wp2
      go_ret
      exact ⟨rfl, hB.trans (b9.mono hB.size)⟩
end Go.Proofs.Ytpobplkijfienaa
