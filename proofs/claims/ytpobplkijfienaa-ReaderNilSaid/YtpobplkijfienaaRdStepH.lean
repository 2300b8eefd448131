/-
  A hint taken both ways, as the law ReaderReads makes it ('step'), out of what the program's reader comes to: they tell the same. New memory and the reader's own alone are written. Conditions: bytes below 256, at most a million; the place is within them.
-/
import Derived.Test.YtpobplkijfienaaRdStepD
namespace Go.Proofs.Ytpobplkijfienaa
open Go.RowKit

theorem zeroHint9 : Zero Try.prog 58 (List.replicate 16 (Value.int .u8 0)) := by unfold Zero; kernel_rfl
theorem sizeHint9 : (Try.prog.info? 58).map (·.size) = some 16 := by kernel_rfl
theorem rowHint9 : IsRow Try.prog 58 16 := IsRow.array Try.underlying58 sizeHint9
theorem noGuardHints : Try.prog.eqGuardType Try.prog.depth 58 = false := by kernel_rfl
theorem same_hints (xs : List Int) (h : xs.length = 16) (w : World) : (Op.equalIn 10000 58 (.agg (xs.map (Value.int .u8)).toArray) (.agg (xs.map (Value.int .u8)).toArray)).run Try.prog w = .ok true w := by
  have h := run_equalIn_ints (P := Try.prog) w 9998 58 5 16 .u8 Try.underlying58 Try.underlying5 sizeU8s xs xs h h
  rw [h]; simp

set_option maxRecDepth 100000 in
set_option maxHeartbeats 1000000 in
theorem step_hint (RP : ReaderProg) (F : Nat → Prop) (g : Nat) (xs : List Int) (a : Option Addr) (n c p : Nat) (e A B : Int) (w : World) (hG : RP.Gl w) (hR : RP.Rd F w g xs p e) (hI : Ints .u8 w a n c xs) (hp : p ≤ n) (hm : n ≤ 1000000) :
    StepTells RP F g xs a n c p e 4 A B w := by
  unfold StepTells
  go_enter Try.func9, Try.ntmps9
  go_wp2_with fail
  obtain ⟨V, hV⟩ : ∃ V, (((w.alloc (.cells #[.slice a n c, .int .i64 (p : Int), .int .i64 e] 31)).alloc (.cells #[.int .i64 4, .int .i64 A, .int .i64 B] 33)).alloc (.cells #[.slice none 0 0, .int .i64 0, .int .i64 0] 31)) = V := ⟨_, rfl⟩
  have ho : Blk V (w.heap.size + 1) 33 [.int .i64 4, .int .i64 A, .int .i64 B] := by rw [← hV]; exact (Blk.new1 w _ _ _).alloc _
  have hr : Blk V (w.heap.size + 2) 31 (rdC none 0 0 0 0) := by
    rw [← hV]
    have h := Blk.new ((w.alloc (.cells #[.slice a n c, .int .i64 (p : Int), .int .i64 e] 31)).alloc (.cells #[.int .i64 4, .int .i64 A, .int .i64 B] 33)) 31 (rdC none 0 0 0 0)
    rw [size2] at h
    exact h
  have hB : Below w.heap.size w V := by rw [← hV]; exact below3 w _ _ _
  rw [hV]
  clear hV
  have hVs : w.heap.size ≤ V.heap.size := hB.size
  refine (rBytes_at a c p e 16 n hp hI.2.1 hm V).mono ?_
  rintro r w2 ⟨rfl, b2⟩
  have ho2 := ho.keep b2 ho.lt
  have hr2 := hr.keep b2 hr.lt
  have hB2 := hB.trans (b2.mono hB.size)
  have R2 := RP.stay hR hB2
  have hG2 := RP.gl_keep hG (hB2.mono (RP.gl_le hG))
  have hl := hI.len
  have hvn := (rdStep_le e 16 (show p ≤ xs.length by rw [hl]; exact hp)).1
  have sI := rdSlice_ints e 16 (hI.keep hB2) hp
  have hq32 := rdStep_cap n p e 16
  have sBl := (rdSlice_ints e 16 hI hp).isIn.2
  rw [hl] at hvn
  obtain ⟨p', hp'⟩ : ∃ p', (rdStep n p e 16).1 = p' := ⟨_, rfl⟩
  obtain ⟨e', he'⟩ : ∃ e', (rdStep n p e 16).2.1 = e' := ⟨_, rfl⟩
  obtain ⟨q, hq⟩ : ∃ q, (rdStep n p e 16).2.2 = q := ⟨_, rfl⟩
  obtain ⟨sb, hsb⟩ : ∃ sb, (rdSlice a n c p e 16).1 = sb := ⟨_, rfl⟩
  obtain ⟨sc, hsc⟩ : ∃ sc, (rdSlice a n c p e 16).2 = sc := ⟨_, rfl⟩
  obtain ⟨zs, hzs⟩ : ∃ zs, rdBytes xs p e 16 = zs := ⟨_, rfl⟩
  have CN := RP.hint F g xs p e
  rw [hl, hp', he', hzs] at CN
  rw [hp', he', hq, hsb, hsc]
  rw [hp'] at hvn
  rw [hsb, hsc, hq, hzs] at sI
  rw [hsb, hq] at sBl
  rw [hq] at hq32
  rw [show (16 : Int).toNat = 16 from rfl] at hq32
  have CNH := Lib.hid CN
  clear ho hr hB b2 hp' he' hq hzs hsb hsc CN
  obtain ⟨W3, hW3⟩ : ∃ W3, w2.alloc (.cells #[.slice a n c, .int .i64 (p' : Int), .int .i64 e'] 31) = W3 := ⟨_, rfl⟩
  obtain ⟨X, hX⟩ : ∃ X, w2.heap.size = X := ⟨_, rfl⟩
  have b3 : Below w2.heap.size w2 W3 := by rw [← hW3]; exact below1 w2 _
  have hx3 : Blk W3 X 31 (rdC a n c p' e') := by rw [← hW3, ← hX]; exact Blk.new w2 _ (rdC a n c p' e')
  have ho3 := ho2.keep b3 ho2.lt
  have hr3 := hr2.keep b3 hr2.lt
  have hB3 := hB2.trans (b3.mono hB2.size)
  have R3 := RP.stay R2 b3
  have sI3 := sI.keep b3
  have hXr : w.heap.size + 2 < X := by rw [← hX]; exact hr2.lt
  have nfX : ¬ F X := fun h => by have h1 := RP.lt hR _ h; have h2 := hB2.size; omega
  have hs3 : w.heap.size + 3 ≤ W3.heap.size := by have := hr2.lt; have := hx3.lt; have h9 := hB3.size; omega
  clear ho2 hr2 b3 R2 hG2 hB2 sI
  obtain ⟨Zs, hZs⟩ : ∃ Zs, List.replicate 16 (Value.int .u8 0) = Zs := ⟨_, rfl⟩
  have hZZ : Zero Try.prog 58 Zs := hZs ▸ zeroHint9
  have hZl : Zs.length = 16 := by rw [← hZs, List.length_replicate]
  have hZH := Lib.hid hZs
  clear hZs
  go_wp2_with (with_reducible refine wpList_alloc_blk rfl 58 rfl hZZ ?_; refine RowKit.Hid.out ?_)
  refine Lib.hid ?_
  clear hW3 hX
  obtain ⟨W4, hW4⟩ : ∃ W4, W3.alloc (.cells Zs.toArray 58) = W4 := ⟨_, rfl⟩
  obtain ⟨Y, hY⟩ : ∃ Y, W3.heap.size = Y := ⟨_, rfl⟩
  have b4 : Below W3.heap.size W3 W4 := by rw [← hW4]; exact below1 W3 _
  have hy4 : Blk W4 Y 58 Zs := by rw [← hW4, ← hY]; exact Blk.new W3 _ _
  have hx4 := hx3.keep b4 hx3.lt
  have ho4 := ho3.keep b4 ho3.lt
  have hr4 := hr3.keep b4 hr3.lt
  have sI4 := sI3.keep b4
  have R4 := RP.stay R3 b4
  have hB4 := hB3.trans (b4.mono hB3.size)
  have hXY : X < Y := by rw [← hY]; exact hx3.lt
  have hY4 : Y < W4.heap.size := hy4.lt
  have hFl := RP.lt hR
  have nfY : ¬ F Y := fun h => by have := hFl _ h; omega
  have CF : CopyFits W4 (some ⟨Y, 0, none⟩) sb q 16 Y 0 Zs.length ((zs.take q).map (Value.int .u8)) := sI4.copyFits (by show q = min q 16; omega) (fun _ => rfl) (by rw [hZl]; omega)
  have hzq : ((zs.take q).map (Value.int .u8)).length = q := by rw [List.length_map, List.length_take, sI4.len]; omega
  have ov := pad_over 16 zs q sI4.len hq32
  rw [hZH.out] at ov
  rw [hW4, hY]
  clear hx3 ho3 hr3 sI3 R3 hB3 b4 hW4 hY
  go_wp2_with fail
  refine upon_copy 22 22 3 5 Try.underlying22 sizeU8s hy4 CF q hzq ?_
  intro W5 hy5' gr5
  have hy5 : Blk W5 Y 58 ((padTo 16 zs).map (Value.int .u8)) := hy5'.cast ov
  have hx5 := hx4.grown gr5 (by intro e; injection e with e; omega)
  have ho5 := ho4.grown gr5 (by intro e; injection e with e; omega)
  have hr5 := hr4.grown gr5 (by intro e; injection e with e; omega)
  have R5 := RP.keep R4 (fun b hb => gr5.block b (RP.lt R4 b hb) (by intro e; injection e with e; subst e; exact nfY hb)) gr5.size
  have hB5 : Below w.heap.size w W5 := hB4.trans (below_of_grown gr5 (by omega) hy4.lt)
  have hwl : (padTo 16 zs).length = 16 := padTo_len (by rw [sI4.len]; exact hq32)
  obtain ⟨ws, hws⟩ : ∃ ws, padTo 16 zs = ws := ⟨_, rfl⟩
  rw [hws] at hy5 hwl CNH
  have same := same_hints ws hwl
  have ng := noGuardHints
  obtain ⟨YV, hYV⟩ : ∃ YV, ws.map (Value.int .u8) = YV := ⟨_, rfl⟩
  rw [hYV] at hy5 same CNH
  have hYl : YV.length = 16 := by rw [← hYV, List.length_map, hwl]
  have hIr : IsRow Try.prog 58 YV.length := by rw [hYl]; exact rowHint9
  have sz5 := gr5.size
  clear hx4 ho4 hr4 sI4 R4 hB4 CF hzq ov hy4 hy5' gr5 hws hYV hZZ hZl hZH hq32 sBl
  go_wp2_with fail
  simp only [Act.put, List.setIfInBounds_toArray, List.set_cons_zero, List.set_cons_succ]
  have nf1 : ¬ F (w.heap.size + 1) := fun h => by have := hFl _ h; omega
  have nf2 : ¬ F (w.heap.size + 2) := fun h => by have := hFl _ h; omega
  have R5d : RP.Rd F W5.drew g xs p e := RP.stay R5 (Below.drew (Below.refl _ _))
  have G5d : RP.Gl W5.drew := RP.gl_keep hG ((Below.drew hB5).mono (RP.gl_le hG))
  have S5 : Blk W5.drew X 31 (rdC a n c p' e') ∧ Blk W5.drew Y 58 YV := ⟨hx5, hy5⟩
  refine region_seqS (fun w' => Blk w' X 31 (rdC a n c p' e') ∧ Blk w' Y 58 YV) (by kernel_rfl) S5 ?_
  simp only [pairs, Nat.reduceAdd]
  repeat (first
    | (refine SeqS.take (v := .agg (rdC a n c p' e').toArray) (by first | assumption | trivial) (by kernel_rfl) (by decide +kernel) (by decide +kernel) (yields_blk (by rfl) 31 (.tmp 17) rfl rfl (fun w' h => h.1) (rowRd)) ?_
       simp only [Act.put, List.setIfInBounds_toArray, List.set_cons_zero, List.set_cons_succ])
    | (refine SeqS.take (v := .agg (YV).toArray) (by first | assumption | trivial) (by kernel_rfl) (by decide +kernel) (by decide +kernel) (yields_blk (by rfl) 58 (.tmp 19) rfl rfl (fun w' h => h.2) (hIr)) ?_
       simp only [Act.put, List.setIfInBounds_toArray, List.set_cons_zero, List.set_cons_succ])
    | (refine SeqS.take (v := ?_) (by first | assumption | trivial) (by kernel_rfl) (by decide +kernel) (by decide +kernel) (Or.inl ⟨by rfl, ?_⟩) ?_
       rotate_left
       focus
         intro w' hb'
         go_simp
         with_reducible rfl
       simp only [Act.put, List.setIfInBounds_toArray, List.set_cons_zero, List.set_cons_succ])
    | (refine SeqS.take (v := undef) (by first | assumption | trivial) (by kernel_rfl) (by decide +kernel) (by decide +kernel) (Or.inr ⟨by rfl, rfl⟩) ?_
       simp only [Act.put, List.setIfInBounds_toArray, List.set_cons_zero, List.set_cons_succ])
    | (refine SeqS.take1 (v := .agg (rdC a n c p' e').toArray) (by first | assumption | trivial) (by kernel_rfl) (by decide +kernel) (by decide +kernel) (yields_blk (by rfl) 31 (.tmp 17) rfl rfl (fun w' h => h.1) (rowRd)) ?_
       simp only [Act.put, List.setIfInBounds_toArray, List.set_cons_zero, List.set_cons_succ])
    | (refine SeqS.take1 (v := .agg (YV).toArray) (by first | assumption | trivial) (by kernel_rfl) (by decide +kernel) (by decide +kernel) (yields_blk (by rfl) 58 (.tmp 19) rfl rfl (fun w' h => h.2) (hIr)) ?_
       simp only [Act.put, List.setIfInBounds_toArray, List.set_cons_zero, List.set_cons_succ])
    | (refine SeqS.take1 (v := ?_) (by first | assumption | trivial) (by kernel_rfl) (by decide +kernel) (by decide +kernel) (Or.inl ⟨by rfl, ?_⟩) ?_
       rotate_left
       focus
         intro w' hb'
         go_simp
         with_reducible rfl
       simp only [Act.put, List.setIfInBounds_toArray, List.set_cons_zero, List.set_cons_succ])
    | (refine SeqS.take1 (v := undef) (by first | assumption | trivial) (by kernel_rfl) (by decide +kernel) (by decide +kernel) (Or.inr ⟨by rfl, rfl⟩) ?_
       simp only [Act.put, List.setIfInBounds_toArray, List.set_cons_zero, List.set_cons_succ])
    | (refine SeqS.take2 (v := .agg (rdC a n c p' e').toArray) (by first | assumption | trivial) (by kernel_rfl) (by decide +kernel) (by decide +kernel) (yields_blk (by rfl) 31 (.tmp 17) rfl rfl (fun w' h => h.1) (rowRd)) ?_
       simp only [Act.put, List.setIfInBounds_toArray, List.set_cons_zero, List.set_cons_succ])
    | (refine SeqS.take2 (v := .agg (YV).toArray) (by first | assumption | trivial) (by kernel_rfl) (by decide +kernel) (by decide +kernel) (yields_blk (by rfl) 58 (.tmp 19) rfl rfl (fun w' h => h.2) (hIr)) ?_
       simp only [Act.put, List.setIfInBounds_toArray, List.set_cons_zero, List.set_cons_succ])
    | (refine SeqS.take2 (v := ?_) (by first | assumption | trivial) (by kernel_rfl) (by decide +kernel) (by decide +kernel) (Or.inl ⟨by rfl, ?_⟩) ?_
       rotate_left
       focus
         intro w' hb'
         go_simp
         with_reducible rfl
       simp only [Act.put, List.setIfInBounds_toArray, List.set_cons_zero, List.set_cons_succ])
    | (refine SeqS.take2 (v := undef) (by first | assumption | trivial) (by kernel_rfl) (by decide +kernel) (by decide +kernel) (Or.inr ⟨by rfl, rfl⟩) ?_
       simp only [Act.put, List.setIfInBounds_toArray, List.set_cons_zero, List.set_cons_succ])
    | (refine SeqS.take3 (v := .agg (rdC a n c p' e').toArray) (by first | assumption | trivial) (by kernel_rfl) (by decide +kernel) (by decide +kernel) (yields_blk (by rfl) 31 (.tmp 17) rfl rfl (fun w' h => h.1) (rowRd)) ?_
       simp only [Act.put, List.setIfInBounds_toArray, List.set_cons_zero, List.set_cons_succ])
    | (refine SeqS.take3 (v := .agg (YV).toArray) (by first | assumption | trivial) (by kernel_rfl) (by decide +kernel) (by decide +kernel) (yields_blk (by rfl) 58 (.tmp 19) rfl rfl (fun w' h => h.2) (hIr)) ?_
       simp only [Act.put, List.setIfInBounds_toArray, List.set_cons_zero, List.set_cons_succ])
    | (refine SeqS.take3 (v := ?_) (by first | assumption | trivial) (by kernel_rfl) (by decide +kernel) (by decide +kernel) (Or.inl ⟨by rfl, ?_⟩) ?_
       rotate_left
       focus
         intro w' hb'
         go_simp
         with_reducible rfl
       simp only [Act.put, List.setIfInBounds_toArray, List.set_cons_zero, List.set_cons_succ])
    | (refine SeqS.take3 (v := undef) (by first | assumption | trivial) (by kernel_rfl) (by decide +kernel) (by decide +kernel) (Or.inr ⟨by rfl, rfl⟩) ?_
       simp only [Act.put, List.setIfInBounds_toArray, List.set_cons_zero, List.set_cons_succ]))
  refine SeqS.alone (by decide +kernel) (by rfl) (fun K hK => ?_)
  go_simp
  refine (CNH.out W5.drew G5d R5d hp).mono ?_
  rintro r w6 ⟨F4, rfl, R6, g6, m6⟩
  have hx6 : Blk w6 X 31 (rdC a n c p' e') := (m6.2 X hx5.lt nfX).trans hx5
  have hy6 : Blk w6 Y 58 YV := (m6.2 Y hy5.lt nfY).trans hy5
  have hr6 : Blk w6 (w.heap.size + 2) 31 (rdC none 0 0 0 0) := (m6.2 (w.heap.size + 2) hr5.lt nf2).trans hr5
  have S6 : Blk w6 X 31 (rdC a n c p' e') ∧ Blk w6 Y 58 YV := ⟨hx6, hy6⟩
  have hM6 : Moved F w w6 := ⟨((Below.drew hB5).mono (Nat.zero_le _)).trans m6.1, fun b hb hf => (m6.2 b (Nat.lt_of_lt_of_le hb hB5.size) hf).trans (hB5.block b hb)⟩
  have hG6 : Grows F F4 w := fun b hb => (g6 b hb).imp id (fun h => Nat.le_trans hB5.size h)
  have hF4r : ¬ F4 (w.heap.size + 2) := fun h => by
    rcases g6 _ h with h | h
    · exact nf2 h
    · have h' : W5.heap.size ≤ w.heap.size + 2 := h
      have := hr5.lt
      omega
  go_simp
  refine hK _ _ S6 ?_
  clear hK K
  refine SeqS.either (rs := [4, 5]) (by decide +kernel) ?_
  intro j hj
  simp only [List.mem_cons, List.not_mem_nil, or_false] at hj
  rcases hj with rfl | rfl
  · refine ⟨[], _, [_, _], rfl, by rfl, fun K hK => ?_⟩
    go_simp
    refine hK _ _ S6 ?_
    clear hK K
    refine SeqS.alone (by decide +kernel) (by rfl) (fun K hK => ?_)
    refine wp_store_part (cs := rdC a n c p' e') 31 (.tmp 6) (.tmp 103) rfl rfl rfl hr6 rowRd (by simp [rdC]) (by simp [rdC, Value.oneCell']) (fun w7 hr7' gr7 => ?_)
    have hr7 := hr7'.cast (overV_all _ _ (by rfl))
    have hx7 := hx6.grown gr7 (by intro e; injection e with e; omega)
    have hy7 := hy6.grown gr7 (by intro e; injection e with e; omega)
    have S7 : Blk w7 X 31 (rdC a n c p' e') ∧ Blk w7 Y 58 YV := ⟨hx7, hy7⟩
    have R7 := RP.keep R6 (fun b hb => gr7.block b (RP.lt R6 b hb) (by intro e; injection e with e; subst e; exact hF4r hb)) gr7.size
    have hM7 : Moved F w w7 := ⟨hM6.1.trans ⟨gr7.os, gr7.tape, gr7.output, gr7.size, fun i hi => absurd hi (Nat.not_lt_zero i)⟩, fun b hb hf => (gr7.block b (Nat.lt_of_lt_of_le hb hM6.size) (by intro e; injection e with e; omega)).trans (hM6.2 b hb hf)⟩
    refine hK _ _ S7 ?_
    clear hK K
    refine SeqS.alone (by decide +kernel) (by rfl) (fun K hK => ?_)
    go_simp
    refine hK _ _ S7 ?_
    clear hK K
    refine SeqS.done (by decide +kernel) ?_
    go_wp2_with fail
    (try simp only [Exit.inBlock, Exit.then])
    refine bodyPost_ret (results_blk_tmp rfl rfl hr7 rowRd) rfl ?_
    exact ⟨F4, p', e', rfl, R7, hvn, hG6, hM7⟩
  · refine ⟨[_], _, [_], rfl, by rfl, fun K hK => ?_⟩
    refine wp_store_part (cs := rdC a n c p' e') 31 (.tmp 6) (.tmp 103) rfl rfl rfl hr6 rowRd (by simp [rdC]) (by simp [rdC, Value.oneCell']) (fun w7 hr7' gr7 => ?_)
    have hr7 := hr7'.cast (overV_all _ _ (by rfl))
    have hx7 := hx6.grown gr7 (by intro e; injection e with e; omega)
    have hy7 := hy6.grown gr7 (by intro e; injection e with e; omega)
    have S7 : Blk w7 X 31 (rdC a n c p' e') ∧ Blk w7 Y 58 YV := ⟨hx7, hy7⟩
    have R7 := RP.keep R6 (fun b hb => gr7.block b (RP.lt R6 b hb) (by intro e; injection e with e; subst e; exact hF4r hb)) gr7.size
    have hM7 : Moved F w w7 := ⟨hM6.1.trans ⟨gr7.os, gr7.tape, gr7.output, gr7.size, fun i hi => absurd hi (Nat.not_lt_zero i)⟩, fun b hb hf => (gr7.block b (Nat.lt_of_lt_of_le hb hM6.size) (by intro e; injection e with e; omega)).trans (hM6.2 b hb hf)⟩
    refine hK _ _ S7 ?_
    clear hK K
    refine SeqS.alone (by decide +kernel) (by rfl) (fun K hK => ?_)
    go_simp
    refine hK _ _ S7 ?_
    clear hK K
    refine SeqS.alone (by decide +kernel) (by rfl) (fun K hK => ?_)
    go_simp
    refine hK _ _ S7 ?_
    clear hK K
    refine SeqS.done (by decide +kernel) ?_
    go_wp2_with fail
    (try simp only [Exit.inBlock, Exit.then])
    refine bodyPost_ret (results_blk_tmp rfl rfl hr7 rowRd) rfl ?_
    exact ⟨F4, p', e', rfl, R7, hvn, hG6, hM7⟩
end Go.Proofs.Ytpobplkijfienaa
