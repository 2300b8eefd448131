/-
  Bytes taken both ways, as the law ReaderReads makes it ('step'), out of what the program's reader comes to: they tell the same. New memory and the reader's own alone are written. Conditions: bytes below 256, at most a million; the place is within them; the bytes read do not lie in the reader's own memory.
-/
import Derived.Test.YtpobplkijfienaaRdStep
namespace Go.Proofs.Ytpobplkijfienaa
open Go.RowKit

theorem ints_moved {F : Nat → Prop} {w w' : World} {a : Option Addr} {n cap : Nat} {zs : List Int} (h : Ints .u8 w a n cap zs) (hm : Moved F w.drew w') (hb : ∀ x, a = some x → 0 < n → ¬ F x.block) : Ints .u8 w' a n cap zs := by
  refine ⟨h.1, h.2.1, ?_⟩
  rcases h.2.2 with h0 | ⟨b, off, ha, hc⟩
  · exact .inl h0
  · refine .inr ⟨b, off, ha, fun i hi => ?_⟩
    have hlt := World.block_lt_of_cell? w _ (hc i hi)
    have he : w'.heap[b]? = w.heap[b]? := hm.2 b hlt (hb _ ha (by omega))
    have h1 := hc i hi
    unfold World.cell? at h1 ⊢
    rw [he]
    exact h1
theorem cutAddr_in9 {a : Option Addr} {c p : Nat} {B : Nat → Prop} (h : ∀ x, a = some x → B x.block) : ∀ x, cutAddr a c p = some x → B x.block := by
  intro x hx
  cases a with
  | none => simp [cutAddr] at hx
  | some y =>
    have hy := h y rfl
    unfold cutAddr at hx
    revert hx
    simp only [Option.map_some]
    split
    all_goals (intro hx; injection hx with hx; subst hx)
    all_goals (try exact hy)
    all_goals (unfold Addr.add; split <;> exact hy)
theorem rdSlice_block {a : Option Addr} {n c p : Nat} {e A : Int} {B : Nat → Prop} (h : ∀ x, a = some x → B x.block) : ∀ x, (rdSlice a n c p e A).1 = some x → B x.block := by
  intro x hx
  unfold rdSlice at hx
  split at hx
  · cases hx
  · exact cutAddr_in9 h x hx

set_option maxRecDepth 100000 in
set_option maxHeartbeats 1000000 in
theorem step_bytes (RP : ReaderProg) (F : Nat → Prop) (g : Nat) (xs : List Int) (a : Option Addr) (n c p : Nat) (e A B : Int) (w : World) (hG : RP.Gl w) (hR : RP.Rd F w g xs p e) (hI : Ints .u8 w a n c xs) (hA : ∀ x, a = some x → 0 < n → ¬ F x.block) (hp : p ≤ n) (hm : n ≤ 1000000) :
    StepTells RP F g xs a n c p e 1 A B w := by
  unfold StepTells
  go_enter Try.func9, Try.ntmps9
  go_wp2_with fail
  obtain ⟨V, hV⟩ : ∃ V, (((w.alloc (.cells #[.slice a n c, .int .i64 (p : Int), .int .i64 e] 31)).alloc (.cells #[.int .i64 1, .int .i64 A, .int .i64 B] 33)).alloc (.cells #[.slice none 0 0, .int .i64 0, .int .i64 0] 31)) = V := ⟨_, rfl⟩
  have ho : Blk V (w.heap.size + 1) 33 [.int .i64 1, .int .i64 A, .int .i64 B] := by rw [← hV]; exact (Blk.new1 w _ _ _).alloc _
  have hr : Blk V (w.heap.size + 2) 31 (rdC none 0 0 0 0) := by
    rw [← hV]
    have h := Blk.new ((w.alloc (.cells #[.slice a n c, .int .i64 (p : Int), .int .i64 e] 31)).alloc (.cells #[.int .i64 1, .int .i64 A, .int .i64 B] 33)) 31 (rdC none 0 0 0 0)
    rw [size2] at h
    exact h
  have hB : Below w.heap.size w V := by rw [← hV]; exact below3 w _ _ _
  rw [hV]
  clear hV
  have hVs : w.heap.size ≤ V.heap.size := hB.size
  refine (rBytes_at a c p e A n hp hI.2.1 hm V).mono ?_
  rintro r w2 ⟨rfl, b2⟩
  have ho2 := ho.keep b2 ho.lt
  have hr2 := hr.keep b2 hr.lt
  have hB2 := hB.trans (b2.mono hB.size)
  have R2 := RP.stay hR hB2
  have hG2 := RP.gl_keep hG (hB2.mono (RP.gl_le hG))
  have hl := hI.len
  have hvn := (rdStep_le e A (show p ≤ xs.length by rw [hl]; exact hp)).1
  have hqn := (rdStep_le e A (show p ≤ xs.length by rw [hl]; exact hp)).2
  rw [hl] at hqn
  have sI := rdSlice_ints e A (hI.keep hB2) hp
  have sBl := (rdSlice_ints e A hI hp).isIn.2
  have sA := rdSlice_block (B := fun b => 0 < n → ¬ F b) (n := n) (c := c) (p := p) (e := e) (A := A) hA
  rw [hl] at hvn
  obtain ⟨p', hp'⟩ : ∃ p', (rdStep n p e A).1 = p' := ⟨_, rfl⟩
  obtain ⟨e', he'⟩ : ∃ e', (rdStep n p e A).2.1 = e' := ⟨_, rfl⟩
  obtain ⟨q, hq⟩ : ∃ q, (rdStep n p e A).2.2 = q := ⟨_, rfl⟩
  obtain ⟨sb, hsb⟩ : ∃ sb, (rdSlice a n c p e A).1 = sb := ⟨_, rfl⟩
  obtain ⟨sc, hsc⟩ : ∃ sc, (rdSlice a n c p e A).2 = sc := ⟨_, rfl⟩
  obtain ⟨zs, hzs⟩ : ∃ zs, rdBytes xs p e A = zs := ⟨_, rfl⟩
  have CN := RP.bytes F g xs p e A
  rw [hl, hp', he', hq, hzs] at CN
  rw [hp', he', hq, hsb, hsc]
  rw [hp'] at hvn
  rw [hsb, hsc, hq, hzs] at sI
  rw [hsb] at sA
  rw [hsb, hq] at sBl
  rw [hq] at hqn
  have CNH := Lib.hid CN
  clear ho hr hB b2 hp' he' hq hzs hsb hsc CN
  obtain ⟨W3, hW3⟩ : ∃ W3, w2.alloc (.cells #[.slice a n c, .int .i64 (p' : Int), .int .i64 e'] 31) = W3 := ⟨_, rfl⟩
  obtain ⟨X, hX⟩ : ∃ X, w2.heap.size = X := ⟨_, rfl⟩
  have b3 : Below w2.heap.size w2 W3 := by rw [← hW3]; exact below1 w2 _
  have hx3 : Blk W3 X 31 (rdC a n c p' e') := by rw [← hW3, ← hX]; exact Blk.new w2 _ (rdC a n c p' e')
  have ho3 := ho2.keep b3 ho2.lt
  have hr3 := hr2.keep b3 hr2.lt
  have hB3 := hB2.trans (b3.mono hB2.size)
  have R3 := RP.stay R2 b3
  have sI3 := sI.keep b3
  have hXr : w.heap.size + 2 < X := by rw [← hX]; exact hr2.lt
  have nfX : ¬ F X := fun h => by have h1 := RP.lt hR _ h; have h2 := hB2.size; omega
  have hs3 : w.heap.size + 3 ≤ W3.heap.size := by have := hr2.lt; have := hx3.lt; have h9 := hB3.size; omega
  clear ho2 hr2 b3 R2 hG2 hB2 sI
  go_wp2_with fail
  clear hW3 hX
  have hFl := RP.lt hR
  have nf1 : ¬ F (w.heap.size + 1) := fun h => by have := hFl _ h; omega
  have nf2 : ¬ F (w.heap.size + 2) := fun h => by have := hFl _ h; omega
  have R3d : RP.Rd F W3.drew g xs p e := RP.stay R3 (Below.drew (Below.refl _ _))
  have G3d : RP.Gl W3.drew := RP.gl_keep hG ((Below.drew hB3).mono (RP.gl_le hG))
  have hXs : X < W3.heap.size := hx3.lt
  have S3 : Blk W3.drew X 31 (rdC a n c p' e') ∧ W3.drew.cell? ⟨w.heap.size + 1, 1, none⟩ = some (.int .i64 A) ∧ Ints .u8 W3.drew sb q sc zs := ⟨hx3, ho3.cell 1, sI3⟩
  refine region_seqS (fun w' => Blk w' X 31 (rdC a n c p' e') ∧ w'.cell? ⟨w.heap.size + 1, 1, none⟩ = some (.int .i64 A) ∧ Ints .u8 w' sb q sc zs) (by kernel_rfl) S3 ?_
  simp only [pairs, Nat.reduceAdd]
  repeat (first
    | (refine SeqS.take (v := .agg (rdC a n c p' e').toArray) (by first | assumption | trivial) (by kernel_rfl) (by decide +kernel) (by decide +kernel) (yields_blk (by rfl) 31 (.tmp 10) rfl rfl (fun w' h => h.1) (rowRd)) ?_
       simp only [Act.put, List.setIfInBounds_toArray, List.set_cons_zero, List.set_cons_succ])
    | (refine SeqS.take (v := ?_) (by first | assumption | trivial) (by kernel_rfl) (by decide +kernel) (by decide +kernel) (Or.inl ⟨by rfl, ?_⟩) ?_
       rotate_left
       focus
         intro w' hb'
         go_simp
         with_reducible rfl
       simp only [Act.put, List.setIfInBounds_toArray, List.set_cons_zero, List.set_cons_succ])
    | (refine SeqS.take (v := ?_) (by first | assumption | trivial) (by kernel_rfl) (by decide +kernel) (by decide +kernel) (Or.inl ⟨by rfl, ?_⟩) ?_
       rotate_left
       focus
         intro w' hb'
         have d0 := hb'.2.1
         go_simp
         with_reducible rfl
       simp only [Act.put, List.setIfInBounds_toArray, List.set_cons_zero, List.set_cons_succ])
    | (refine SeqS.take (v := ?_) (by first | assumption | trivial) (by kernel_rfl) (by decide +kernel) (by decide +kernel) (Or.inl ⟨by rfl, ?_⟩) ?_
       rotate_left
       focus
         intro w' hb'
         have f0 := hb'.2.2.string 22 9 5 Try.underlying22 Try.underlying5 Try.underlying9
         go_simp
         with_reducible rfl
       simp only [Act.put, List.setIfInBounds_toArray, List.set_cons_zero, List.set_cons_succ])
    | (refine SeqS.take (v := undef) (by first | assumption | trivial) (by kernel_rfl) (by decide +kernel) (by decide +kernel) (Or.inr ⟨by rfl, rfl⟩) ?_
       simp only [Act.put, List.setIfInBounds_toArray, List.set_cons_zero, List.set_cons_succ])
    | (refine SeqS.take1 (v := .agg (rdC a n c p' e').toArray) (by first | assumption | trivial) (by kernel_rfl) (by decide +kernel) (by decide +kernel) (yields_blk (by rfl) 31 (.tmp 10) rfl rfl (fun w' h => h.1) (rowRd)) ?_
       simp only [Act.put, List.setIfInBounds_toArray, List.set_cons_zero, List.set_cons_succ])
    | (refine SeqS.take1 (v := ?_) (by first | assumption | trivial) (by kernel_rfl) (by decide +kernel) (by decide +kernel) (Or.inl ⟨by rfl, ?_⟩) ?_
       rotate_left
       focus
         intro w' hb'
         go_simp
         with_reducible rfl
       simp only [Act.put, List.setIfInBounds_toArray, List.set_cons_zero, List.set_cons_succ])
    | (refine SeqS.take1 (v := ?_) (by first | assumption | trivial) (by kernel_rfl) (by decide +kernel) (by decide +kernel) (Or.inl ⟨by rfl, ?_⟩) ?_
       rotate_left
       focus
         intro w' hb'
         have d0 := hb'.2.1
         go_simp
         with_reducible rfl
       simp only [Act.put, List.setIfInBounds_toArray, List.set_cons_zero, List.set_cons_succ])
    | (refine SeqS.take1 (v := ?_) (by first | assumption | trivial) (by kernel_rfl) (by decide +kernel) (by decide +kernel) (Or.inl ⟨by rfl, ?_⟩) ?_
       rotate_left
       focus
         intro w' hb'
         have f0 := hb'.2.2.string 22 9 5 Try.underlying22 Try.underlying5 Try.underlying9
         go_simp
         with_reducible rfl
       simp only [Act.put, List.setIfInBounds_toArray, List.set_cons_zero, List.set_cons_succ])
    | (refine SeqS.take1 (v := undef) (by first | assumption | trivial) (by kernel_rfl) (by decide +kernel) (by decide +kernel) (Or.inr ⟨by rfl, rfl⟩) ?_
       simp only [Act.put, List.setIfInBounds_toArray, List.set_cons_zero, List.set_cons_succ])
    | (refine SeqS.take2 (v := .agg (rdC a n c p' e').toArray) (by first | assumption | trivial) (by kernel_rfl) (by decide +kernel) (by decide +kernel) (yields_blk (by rfl) 31 (.tmp 10) rfl rfl (fun w' h => h.1) (rowRd)) ?_
       simp only [Act.put, List.setIfInBounds_toArray, List.set_cons_zero, List.set_cons_succ])
    | (refine SeqS.take2 (v := ?_) (by first | assumption | trivial) (by kernel_rfl) (by decide +kernel) (by decide +kernel) (Or.inl ⟨by rfl, ?_⟩) ?_
       rotate_left
       focus
         intro w' hb'
         go_simp
         with_reducible rfl
       simp only [Act.put, List.setIfInBounds_toArray, List.set_cons_zero, List.set_cons_succ])
    | (refine SeqS.take2 (v := ?_) (by first | assumption | trivial) (by kernel_rfl) (by decide +kernel) (by decide +kernel) (Or.inl ⟨by rfl, ?_⟩) ?_
       rotate_left
       focus
         intro w' hb'
         have d0 := hb'.2.1
         go_simp
         with_reducible rfl
       simp only [Act.put, List.setIfInBounds_toArray, List.set_cons_zero, List.set_cons_succ])
    | (refine SeqS.take2 (v := ?_) (by first | assumption | trivial) (by kernel_rfl) (by decide +kernel) (by decide +kernel) (Or.inl ⟨by rfl, ?_⟩) ?_
       rotate_left
       focus
         intro w' hb'
         have f0 := hb'.2.2.string 22 9 5 Try.underlying22 Try.underlying5 Try.underlying9
         go_simp
         with_reducible rfl
       simp only [Act.put, List.setIfInBounds_toArray, List.set_cons_zero, List.set_cons_succ])
    | (refine SeqS.take2 (v := undef) (by first | assumption | trivial) (by kernel_rfl) (by decide +kernel) (by decide +kernel) (Or.inr ⟨by rfl, rfl⟩) ?_
       simp only [Act.put, List.setIfInBounds_toArray, List.set_cons_zero, List.set_cons_succ])
    | (refine SeqS.take3 (v := .agg (rdC a n c p' e').toArray) (by first | assumption | trivial) (by kernel_rfl) (by decide +kernel) (by decide +kernel) (yields_blk (by rfl) 31 (.tmp 10) rfl rfl (fun w' h => h.1) (rowRd)) ?_
       simp only [Act.put, List.setIfInBounds_toArray, List.set_cons_zero, List.set_cons_succ])
    | (refine SeqS.take3 (v := ?_) (by first | assumption | trivial) (by kernel_rfl) (by decide +kernel) (by decide +kernel) (Or.inl ⟨by rfl, ?_⟩) ?_
       rotate_left
       focus
         intro w' hb'
         go_simp
         with_reducible rfl
       simp only [Act.put, List.setIfInBounds_toArray, List.set_cons_zero, List.set_cons_succ])
    | (refine SeqS.take3 (v := ?_) (by first | assumption | trivial) (by kernel_rfl) (by decide +kernel) (by decide +kernel) (Or.inl ⟨by rfl, ?_⟩) ?_
       rotate_left
       focus
         intro w' hb'
         have d0 := hb'.2.1
         go_simp
         with_reducible rfl
       simp only [Act.put, List.setIfInBounds_toArray, List.set_cons_zero, List.set_cons_succ])
    | (refine SeqS.take3 (v := ?_) (by first | assumption | trivial) (by kernel_rfl) (by decide +kernel) (by decide +kernel) (Or.inl ⟨by rfl, ?_⟩) ?_
       rotate_left
       focus
         intro w' hb'
         have f0 := hb'.2.2.string 22 9 5 Try.underlying22 Try.underlying5 Try.underlying9
         go_simp
         with_reducible rfl
       simp only [Act.put, List.setIfInBounds_toArray, List.set_cons_zero, List.set_cons_succ])
    | (refine SeqS.take3 (v := undef) (by first | assumption | trivial) (by kernel_rfl) (by decide +kernel) (by decide +kernel) (Or.inr ⟨by rfl, rfl⟩) ?_
       simp only [Act.put, List.setIfInBounds_toArray, List.set_cons_zero, List.set_cons_succ]))
  refine SeqS.alone (by decide +kernel) (by rfl) (fun K hK => ?_)
  go_simp
  refine (CNH.out W3.drew G3d R3d hp).mono ?_
  rintro r w4 ⟨F4, pb, pc, rfl, pO, pF, R4, g4, m4⟩
  obtain ⟨pb2, pc2, epb, pI⟩ := Ints.of_owns pO
  have pBl : ∀ x, pb = some x → W3.heap.size ≤ x.block := fun x hx => (pO.lt x.block (by rw [hx]; rfl)).1
  injection epb with epb _ epc
  subst epb; subst epc
  have sI4 := ints_moved sI3 m4 (fun x hx h0 => sA x hx (by omega))
  have hx4 : Blk w4 X 31 (rdC a n c p' e') := (m4.2 X hXs nfX).trans hx3
  have ho4 : Blk w4 (w.heap.size + 1) 33 [.int .i64 1, .int .i64 A, .int .i64 B] := (m4.2 (w.heap.size + 1) (by show _ < W3.heap.size; omega) nf1).trans ho3
  have hr4 : Blk w4 (w.heap.size + 2) 31 (rdC none 0 0 0 0) := (m4.2 (w.heap.size + 2) (by show _ < W3.heap.size; omega) nf2).trans hr3
  have S4 : Blk w4 X 31 (rdC a n c p' e') ∧ w4.cell? ⟨w.heap.size + 1, 1, none⟩ = some (.int .i64 A) ∧ Ints .u8 w4 sb q sc zs := ⟨hx4, ho4.cell 1, sI4⟩
  have hM4 : Moved F w w4 := ⟨((Below.drew hB3).mono (Nat.zero_le _)).trans m4.1, fun b hb hf => (m4.2 b (Nat.lt_of_lt_of_le hb hB3.size) hf).trans (hB3.block b hb)⟩
  have hG4 : Grows F F4 w := fun b hb => (g4 b hb).imp id (fun h => Nat.le_trans hB3.size h)
  have hF4r : ¬ F4 (w.heap.size + 2) := fun h => by
    rcases g4 _ h with h | h
    · exact nf2 h
    · have h' : W3.heap.size ≤ w.heap.size + 2 := h
      omega
  have f2 := pI.string 22 9 5 Try.underlying22 Try.underlying5 Try.underlying9
  go_simp
  refine hK _ _ S4 ?_
  clear hK K
  refine SeqS.either (rs := [5, 9]) (by decide +kernel) ?_
  intro j hj
  simp only [List.mem_cons, List.not_mem_nil, or_false] at hj
  rcases hj with rfl | rfl
  · refine ⟨[], _, [_, _, _], rfl, by rfl, fun K hK => ?_⟩
    go_simp
    refine hK _ _ S4 ?_
    clear hK K
    refine SeqS.either (rs := [8, 9]) (by decide +kernel) ?_
    intro j hj
    simp only [List.mem_cons, List.not_mem_nil, or_false] at hj
    rcases hj with rfl | rfl
    · refine ⟨[], _, [_, _], rfl, by rfl, fun K hK => ?_⟩
      go_simp
      refine hK _ _ S4 ?_
      clear hK K
      refine SeqS.alone (by decide +kernel) (by rfl) (fun K hK => ?_)
      refine wp_store_part (cs := rdC a n c p' e') 31 (.tmp 6) (.tmp 49) rfl rfl rfl hr4 rowRd (by simp [rdC]) (by simp [rdC, Value.oneCell']) (fun w5 hr5' gr5 => ?_)
      have hr5 := hr5'.cast (overV_all _ _ (by rfl))
      have hx5 := hx4.grown gr5 (by intro e; injection e with e; omega)
      have ho5 := ho4.grown gr5 (by intro e; injection e with e; omega)
      have sI5 := sI4.grown gr5 (fun x hx hn => by have := sBl x hx hn; omega)
      have pI5 := pI.grown gr5 (fun x hx hn => by have := pBl x hx; omega)
      have S5 : Blk w5 X 31 (rdC a n c p' e') ∧ w5.cell? ⟨w.heap.size + 1, 1, none⟩ = some (.int .i64 A) ∧ Ints .u8 w5 sb q sc zs := ⟨hx5, ho5.cell 1, sI5⟩
      have f5 := pI5.string 22 9 5 Try.underlying22 Try.underlying5 Try.underlying9
      have R5 := RP.keep R4 (fun b hb => gr5.block b (RP.lt R4 b hb) (by intro e; injection e with e; subst e; exact hF4r hb)) gr5.size
      have hM5 : Moved F w w5 := ⟨hM4.1.trans ⟨gr5.os, gr5.tape, gr5.output, gr5.size, fun i hi => absurd hi (Nat.not_lt_zero i)⟩, fun b hb hf => (gr5.block b (Nat.lt_of_lt_of_le hb hM4.size) (by intro e; injection e with e; omega)).trans (hM4.2 b hb hf)⟩
      refine hK _ _ S5 ?_
      clear hK K
      refine SeqS.alone (by decide +kernel) (by rfl) (fun K hK => ?_)
      go_simp
      refine hK _ _ S5 ?_
      clear hK K
      refine SeqS.done (by decide +kernel) ?_
      go_wp2_with fail
      (try simp only [Exit.inBlock, Exit.then])
      refine bodyPost_ret (results_blk_tmp rfl rfl hr5 rowRd) rfl ?_
      exact ⟨F4, p', e', rfl, R5, hvn, hG4, hM5⟩
    · refine ⟨[_], _, [_], rfl, by rfl, fun K hK => ?_⟩
      refine wp_store_part (cs := rdC a n c p' e') 31 (.tmp 6) (.tmp 49) rfl rfl rfl hr4 rowRd (by simp [rdC]) (by simp [rdC, Value.oneCell']) (fun w5 hr5' gr5 => ?_)
      have hr5 := hr5'.cast (overV_all _ _ (by rfl))
      have hx5 := hx4.grown gr5 (by intro e; injection e with e; omega)
      have ho5 := ho4.grown gr5 (by intro e; injection e with e; omega)
      have sI5 := sI4.grown gr5 (fun x hx hn => by have := sBl x hx hn; omega)
      have pI5 := pI.grown gr5 (fun x hx hn => by have := pBl x hx; omega)
      have S5 : Blk w5 X 31 (rdC a n c p' e') ∧ w5.cell? ⟨w.heap.size + 1, 1, none⟩ = some (.int .i64 A) ∧ Ints .u8 w5 sb q sc zs := ⟨hx5, ho5.cell 1, sI5⟩
      have f5 := pI5.string 22 9 5 Try.underlying22 Try.underlying5 Try.underlying9
      have R5 := RP.keep R4 (fun b hb => gr5.block b (RP.lt R4 b hb) (by intro e; injection e with e; subst e; exact hF4r hb)) gr5.size
      have hM5 : Moved F w w5 := ⟨hM4.1.trans ⟨gr5.os, gr5.tape, gr5.output, gr5.size, fun i hi => absurd hi (Nat.not_lt_zero i)⟩, fun b hb hf => (gr5.block b (Nat.lt_of_lt_of_le hb hM4.size) (by intro e; injection e with e; omega)).trans (hM4.2 b hb hf)⟩
      refine hK _ _ S5 ?_
      clear hK K
      refine SeqS.alone (by decide +kernel) (by rfl) (fun K hK => ?_)
      go_simp
      refine hK _ _ S5 ?_
      clear hK K
      refine SeqS.alone (by decide +kernel) (by rfl) (fun K hK => ?_)
      go_simp
      refine hK _ _ S5 ?_
      clear hK K
      refine SeqS.done (by decide +kernel) ?_
      go_wp2_with fail
      (try simp only [Exit.inBlock, Exit.then])
      refine bodyPost_ret (results_blk_tmp rfl rfl hr5 rowRd) rfl ?_
      exact ⟨F4, p', e', rfl, R5, hvn, hG4, hM5⟩
  · refine ⟨[_, _], _, [_], rfl, by rfl, fun K hK => ?_⟩
    refine wp_store_part (cs := rdC a n c p' e') 31 (.tmp 6) (.tmp 49) rfl rfl rfl hr4 rowRd (by simp [rdC]) (by simp [rdC, Value.oneCell']) (fun w5 hr5' gr5 => ?_)
    have hr5 := hr5'.cast (overV_all _ _ (by rfl))
    have hx5 := hx4.grown gr5 (by intro e; injection e with e; omega)
    have ho5 := ho4.grown gr5 (by intro e; injection e with e; omega)
    have sI5 := sI4.grown gr5 (fun x hx hn => by have := sBl x hx hn; omega)
    have pI5 := pI.grown gr5 (fun x hx hn => by have := pBl x hx; omega)
    have S5 : Blk w5 X 31 (rdC a n c p' e') ∧ w5.cell? ⟨w.heap.size + 1, 1, none⟩ = some (.int .i64 A) ∧ Ints .u8 w5 sb q sc zs := ⟨hx5, ho5.cell 1, sI5⟩
    have f5 := pI5.string 22 9 5 Try.underlying22 Try.underlying5 Try.underlying9
    have R5 := RP.keep R4 (fun b hb => gr5.block b (RP.lt R4 b hb) (by intro e; injection e with e; subst e; exact hF4r hb)) gr5.size
    have hM5 : Moved F w w5 := ⟨hM4.1.trans ⟨gr5.os, gr5.tape, gr5.output, gr5.size, fun i hi => absurd hi (Nat.not_lt_zero i)⟩, fun b hb hf => (gr5.block b (Nat.lt_of_lt_of_le hb hM4.size) (by intro e; injection e with e; omega)).trans (hM4.2 b hb hf)⟩
    refine hK _ _ S5 ?_
    clear hK K
    refine SeqS.alone (by decide +kernel) (by rfl) (fun K hK => ?_)
    go_simp
    refine hK _ _ S5 ?_
    clear hK K
    refine SeqS.alone (by decide +kernel) (by rfl) (fun K hK => ?_)
    go_simp
    refine hK _ _ S5 ?_
    clear hK K
    refine SeqS.alone (by decide +kernel) (by rfl) (fun K hK => ?_)
    go_simp
    refine hK _ _ S5 ?_
    clear hK K
    refine SeqS.done (by decide +kernel) ?_
    go_wp2_with fail
    (try simp only [Exit.inBlock, Exit.then])
    refine bodyPost_ret (results_blk_tmp rfl rfl hr5 rowRd) rfl ?_
    exact ⟨F4, p', e', rfl, R5, hvn, hG4, hM5⟩
end Go.Proofs.Ytpobplkijfienaa
