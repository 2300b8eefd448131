/-
  New makes a stream of a key of 32 bytes, which stands at 0; a key of another length makes none. New memory alone is written. Conditions: each byte of the key is a number from 0 to 255.
-/
import Derived.Test.YtclcnngpgbdjgaaStreamNum
import Derived.Test.YtclcnngpgbdjgaaCipherNew
import Derived.Test.YtclcnngpgbdjgaaCipherBuild
namespace Go.Proofs.Ytclcnngpgbdjgaa
open Go.RowKit

/-- The cells of a cipher, a number and a block. -/
def kpCells (F f h : Nat → Nat) (bm m : Bool) (n : Int) (X : Nat → Nat) : List Value := ciCells F f h bm m ++ (.int .u64 n :: rowN 16 X)
theorem kpCells_len (F f h : Nat → Nat) (bm m : Bool) (n : Int) (X : Nat → Nat) : (kpCells F f h bm m n X).length = 771 := by simp [kpCells, ciCells_len, rowN_len]
theorem sizeCi : (Try.prog.info? 48).map (·.size) = some 754 := by kernel_rfl
theorem rowCi (F f h : Nat → Nat) (bm m : Bool) : IsRow Try.prog 48 (ciCells F f h bm m).length := by rw [ciCells_len]; exact IsRow.struct Try.underlying48 sizeCi
theorem zeroKp : Zero Try.prog 50 (kpCells zf zf zf false false 0 zf) := by unfold Zero; kernel_rfl
theorem placesKp : (match Try.prog.underlying 50 with | some (.struct fs) => fs.toList.mapM (fun f => (Try.prog.info? f.type).map fun i => (f.offset, i.size)) | _ => none) = some [(0, 754), (754, 1), (755, 16)] := by kernel_rfl
theorem zeroSt : Zero Try.prog 52 (kpCells zf zf zf false false 0 zf ++ [.int .u64 0, .bool false]) := by unfold Zero; kernel_rfl
theorem placesSt : (match Try.prog.underlying 52 with | some (.struct fs) => fs.toList.mapM (fun f => (Try.prog.info? f.type).map fun i => (f.offset, i.size)) | _ => none) = some [(0, 771), (771, 1), (772, 1)] := by kernel_rfl
theorem over_list (A B C D : List Value) (a b : Nat) (ha : A.length = a) (hb : B.length = b) (hc : C.length = b) : (A ++ (B ++ D)).take a ++ (C ++ (A ++ (B ++ D)).drop (a + C.length)) = A ++ (C ++ D) := by
  subst ha
  rw [List.take_left' rfl, hc, List.drop_append, List.drop_of_length_le (Nat.le_add_right _ _), List.nil_append, Nat.add_sub_cancel_left, List.drop_append, hb, List.drop_of_length_le (by rw [hb]; exact Nat.le_refl _), List.nil_append, Nat.sub_self, List.drop_zero]
theorem built_kp (F f h : Nat → Nat) (bm m : Bool) (X : Nat → Nat) : Try.prog.built 50 [(0, Value.agg (ciCells F f h bm m).toArray), (2, Value.agg (rowN 16 X).toArray)] = some (kpCells F f h bm m 0 X).toArray := by
  have hz := zeroKp
  have hp := placesKp
  unfold Zero at hz
  unfold Program.built
  rw [Try.underlying50] at hp ⊢
  cases hi : Try.prog.info? 50 with
  | none => rw [hi] at hz; cases hz
  | some it =>
    rw [hi] at hz
    have hz' : it.zero = some (.agg (kpCells zf zf zf false false 0 zf).toArray) := hz
    dsimp only at hp ⊢
    rw [hp, hz']
    dsimp only
    rw [show (Value.agg (kpCells zf zf zf false false 0 zf).toArray).cells = (kpCells zf zf zf false false 0 zf).toArray from rfl]
    rw [fill_one _ _ 0 0 754 _ (ciCells F f h bm m) _ rfl rfl (ciCells_len _ _ _ _ _) (by rw [kpCells_len, ciCells_len]; decide)]
    have e1 : (kpCells zf zf zf false false 0 zf).take 0 ++ (ciCells F f h bm m ++ (kpCells zf zf zf false false 0 zf).drop (0 + (ciCells F f h bm m).length)) = (ciCells F f h bm m ++ [.int .u64 0]) ++ (rowN 16 zf ++ []) := by
      have := over_list [] (ciCells zf zf zf false false) (ciCells F f h bm m) (.int .u64 0 :: rowN 16 zf) 0 754 rfl (ciCells_len _ _ _ _ _) (ciCells_len _ _ _ _ _)
      rw [List.nil_append, List.nil_append] at this
      unfold kpCells
      rw [this]
      simp
    have hl : (ciCells F f h bm m ++ [Value.int .u64 0]).length = 755 := by rw [List.length_append, ciCells_len]; rfl
    rw [e1]
    rw [fill_one _ _ 2 755 16 _ (rowN 16 X) _ rfl rfl (rowN_len _ _) (by rw [List.length_append, hl, List.append_nil, rowN_len, rowN_len]; decide)]
    rw [Instr.fill, over_list _ (rowN 16 zf) (rowN 16 X) [] 755 16 hl (rowN_len _ _) (rowN_len _ _)]
    refine congrArg (fun l : List Value => some l.toArray) ?_
    simp [kpCells]
theorem built_st (F : Nat → Nat) : Try.prog.built 52 [(0, Value.agg (kpCells F sb bk true true 0 (enc (keyAt F) (ctr 0))).toArray), (2, Value.bool true)] = some (stCells F 0 0).toArray := by
  have hz := zeroSt
  have hp := placesSt
  unfold Zero at hz
  unfold Program.built
  rw [Try.underlying52] at hp ⊢
  cases hi : Try.prog.info? 52 with
  | none => rw [hi] at hz; cases hz
  | some it =>
    rw [hi] at hz
    have hz' : it.zero = some (.agg (kpCells zf zf zf false false 0 zf ++ [Value.int .u64 0, Value.bool false]).toArray) := hz
    dsimp only at hp ⊢
    rw [hp, hz']
    dsimp only
    rw [show (Value.agg (kpCells zf zf zf false false 0 zf ++ [Value.int .u64 0, Value.bool false]).toArray).cells = (kpCells zf zf zf false false 0 zf ++ [Value.int .u64 0, Value.bool false]).toArray from rfl]
    obtain ⟨X, hX⟩ : ∃ X, kpCells F sb bk true true 0 (enc (keyAt F) (ctr 0)) = X := ⟨_, rfl⟩
    have hXl : X.length = 771 := by rw [← hX]; exact kpCells_len _ _ _ _ _ _ _
    rw [hX]
    rw [fill_one _ _ 0 0 771 _ X _ rfl rfl hXl (by rw [List.length_append, kpCells_len, hXl]; decide)]
    have e1 : (kpCells zf zf zf false false 0 zf ++ [Value.int .u64 0, .bool false]).take 0 ++ (X ++ (kpCells zf zf zf false false 0 zf ++ [Value.int .u64 0, .bool false]).drop (0 + X.length)) = (X ++ [.int .u64 0]) ++ ([.bool false] ++ []) := by
      have := over_list [] (kpCells zf zf zf false false 0 zf) X [Value.int .u64 0, .bool false] 0 771 rfl (kpCells_len _ _ _ _ _ _ _) hXl
      rw [List.nil_append, List.nil_append] at this
      rw [this]
      simp
    have hl : (X ++ [Value.int .u64 0]).length = 772 := by rw [List.length_append, hXl]; rfl
    rw [e1]
    rw [fill_one _ _ 2 772 1 _ [.bool true] _ rfl rfl rfl (by rw [List.length_append, hl]; decide)]
    rw [Instr.fill, over_list _ [.bool false] [.bool true] [] 772 1 hl rfl rfl]
    refine congrArg (fun l : List Value => some l.toArray) ?_
    rw [← hX]
    simp [kpCells, stCells]

/-- A value built of parts, in a region that draws its order. -/
theorem yields_build {P : Program} {ops : Array Oper} {S : World → Prop} {o : Oper} {a : Act} (hw : Region.wanted o (yielded ops a.tmps) = true) (t : TypeId) (parts : Array (Nat × Operand)) (ho : o.op = .build t parts) {cells : Array Value}
    (hf : P.built t (parts.map fun (i, x) => (i, a.eval x)).toList = some cells) : YieldsIf P ops S o (.agg cells) a := by
  refine .inl ⟨hw, fun w _ => ?_⟩
  unfold execOp
  simp only [ho, Sem.run_bind, run_build w t _ cells hf, Result.andThen_ok, Sem.run_pure]
theorem wp_box_blk {P : Program} {o : Oper} {a : Act} {w : World} {K : Act → World → Prop} {Q : Exit → Act → World → Prop} (ty : TypeId) (x : Operand) (ho : o.op = .box ty x)
    (cs : List Value) (hx : a.eval x = .agg cs.toArray) (h : K (a.put o.dst (.pointer (some ⟨w.heap.size, 0, none⟩))) (w.alloc (.cells cs.toArray ty))) : o.wp P a w K Q := by
  unfold Oper.wp execOp
  simp only [ho, Sem.run_bind, Instr.box, newVar, newRow, run_newObj_alloc, Sem.run_pure, Result.andThen_ok, hx]
  exact h

set_option maxHeartbeats 400000 in
theorem stNew_no (a : Option Addr) (n cap : Nat) (w : World) (hn : n ≠ 32) :
    Calls Try.prog 8 #[.slice a n cap] w fun e w' => e = .returned (.tuple #[.pointer none, .int .i64 1]) ∧ w = w' := by
  go_enter Try.func8, Try.ntmps8
  go_wp2_with fail
  refine (cNew_no a n cap _ hn).mono ?_
  rintro e w1 ⟨rfl, rfl⟩
  go_wp2
  go_ret2
  exact ⟨rfl, rfl⟩

set_option maxRecDepth 100000 in
set_option maxHeartbeats 1000000 in
theorem stNew_any (a : Option Addr) (cap : Nat) (bs : List Int) (w : World) (hI : Ints .u8 w a 32 cap bs) (hr : ∀ x ∈ bs, 0 ≤ x ∧ x < 256) :
    Calls Try.prog 8 #[.slice a 32 cap] w fun e w' => ∃ g, e = .returned (.tuple #[.pointer (some ⟨g, 0, none⟩), .int .i64 0]) ∧ w.heap.size ≤ g ∧ StAt w' g (kb (kws (own bs) 52)) 0 ∧ Below w.heap.size w w' := by
  go_enter Try.func8, Try.ntmps8
  go_wp2_with fail
  refine (cNew_any a cap bs w hI hr).mono ?_
  rintro e w1 ⟨q, rfl, hq, hC, hB⟩
  obtain ⟨F, hF⟩ : ∃ F, kb (kws (own bs) 52) = F := ⟨_, rfl⟩
  have hFb : By F := by rw [← hF]; exact kb_by _
  rw [hF] at hC
  have hF := Lib.hid hF
  obtain ⟨B, hBs⟩ : ∃ B, w1.heap.size = B := ⟨_, rfl⟩
  have hql : q < B := by rw [← hBs]; exact Blk.lt hC
  have hwB : w.heap.size ≤ B := by rw [← hBs]; exact hB.size
  have CC := Lib.hid (fun w' (h : Below B w1 w') => (Blk.keep hC h hql : CiAt w' q F sb bk true true))
  have hS : Below B w1 w1.drew := Below.drew (Below.refl _ _)
  have hBs := Lib.hid hBs
  have hql := Lib.hid hql
  have hwB := Lib.hid hwB
  have hq := Lib.hid hq
  clear hC hI hr
  go_wp2_with fail
  refine region_seqS (fun w' => Below B w1 w') (by kernel_rfl) hS ?_
  simp only [pairs, Nat.reduceAdd]
  repeat (first
    | (refine SeqS.take (v := .agg (ciCells F sb bk true true).toArray) (by first | assumption | trivial) (by kernel_rfl) (by decide +kernel) (by decide +kernel) (yields_blk (by rfl) 48 (.tmp 15) rfl rfl (fun w' h => CC.out w' h) (rowCi _ _ _ _ _)) ?_
       simp only [Act.put, List.setIfInBounds_toArray, List.set_cons_zero, List.set_cons_succ])
    | (refine SeqS.take (v := ?_) (by first | assumption | trivial) (by kernel_rfl) (by decide +kernel) (by decide +kernel) (Or.inl ⟨by rfl, ?_⟩) ?_
       rotate_left
       focus
         intro w' hb'
         go_simp
         with_reducible rfl
       simp only [Act.put, List.setIfInBounds_toArray, List.set_cons_zero, List.set_cons_succ])
    | (refine SeqS.take (v := undef) (by first | assumption | trivial) (by kernel_rfl) (by decide +kernel) (by decide +kernel) (Or.inr ⟨by rfl, rfl⟩) ?_
       simp only [Act.put, List.setIfInBounds_toArray, List.set_cons_zero, List.set_cons_succ])
    | (refine SeqS.take1 (v := .agg (ciCells F sb bk true true).toArray) (by first | assumption | trivial) (by kernel_rfl) (by decide +kernel) (by decide +kernel) (yields_blk (by rfl) 48 (.tmp 15) rfl rfl (fun w' h => CC.out w' h) (rowCi _ _ _ _ _)) ?_
       simp only [Act.put, List.setIfInBounds_toArray, List.set_cons_zero, List.set_cons_succ])
    | (refine SeqS.take1 (v := ?_) (by first | assumption | trivial) (by kernel_rfl) (by decide +kernel) (by decide +kernel) (Or.inl ⟨by rfl, ?_⟩) ?_
       rotate_left
       focus
         intro w' hb'
         go_simp
         with_reducible rfl
       simp only [Act.put, List.setIfInBounds_toArray, List.set_cons_zero, List.set_cons_succ])
    | (refine SeqS.take1 (v := undef) (by first | assumption | trivial) (by kernel_rfl) (by decide +kernel) (by decide +kernel) (Or.inr ⟨by rfl, rfl⟩) ?_
       simp only [Act.put, List.setIfInBounds_toArray, List.set_cons_zero, List.set_cons_succ])
    | (refine SeqS.take2 (v := .agg (ciCells F sb bk true true).toArray) (by first | assumption | trivial) (by kernel_rfl) (by decide +kernel) (by decide +kernel) (yields_blk (by rfl) 48 (.tmp 15) rfl rfl (fun w' h => CC.out w' h) (rowCi _ _ _ _ _)) ?_
       simp only [Act.put, List.setIfInBounds_toArray, List.set_cons_zero, List.set_cons_succ])
    | (refine SeqS.take2 (v := ?_) (by first | assumption | trivial) (by kernel_rfl) (by decide +kernel) (by decide +kernel) (Or.inl ⟨by rfl, ?_⟩) ?_
       rotate_left
       focus
         intro w' hb'
         go_simp
         with_reducible rfl
       simp only [Act.put, List.setIfInBounds_toArray, List.set_cons_zero, List.set_cons_succ])
    | (refine SeqS.take2 (v := undef) (by first | assumption | trivial) (by kernel_rfl) (by decide +kernel) (by decide +kernel) (Or.inr ⟨by rfl, rfl⟩) ?_
       simp only [Act.put, List.setIfInBounds_toArray, List.set_cons_zero, List.set_cons_succ]))
  refine SeqS.alone (by decide +kernel) (by rfl) (fun K hK => ?_)
  go_simp
  refine (plain_any 0 _ (by decide)).mono ?_
  rintro e v2 ⟨rfl, b2⟩
  have S2 : Below B w1 v2 := hS.trans (b2.mono (Nat.le_of_eq hBs.out.symm))
  go_simp
  refine hK _ _ S2 ?_
  clear hK K b2
  refine SeqS.alone (by decide +kernel) (by rfl) (fun K hK => ?_)
  go_simp
  refine (cEnc_any q F (ctr 0) v2 hFb (ctr_by 0) (CC.out v2 S2)).mono ?_
  rintro e v3 ⟨rfl, b3⟩
  have S3 : Below B w1 v3 := S2.trans (b3.mono (by have := S2.size; have := hBs.out; omega))
  go_simp
  refine hK _ _ S3 ?_
  clear hK K b3
  refine SeqS.take (v := .agg (kpCells F sb bk true true 0 (enc (keyAt F) (ctr 0))).toArray) S3 (by kernel_rfl) (by decide +kernel) (by decide +kernel) (yields_build (by rfl) 50 _ rfl (Eq.trans (congrArg (Program.built Try.prog 50) (by kernel_rfl)) (built_kp F sb bk true true _))) ?_
  simp only [Act.put, List.setIfInBounds_toArray, List.set_cons_zero, List.set_cons_succ]
  refine SeqS.take (v := .agg (stCells F 0 0).toArray) S3 (by kernel_rfl) (by decide +kernel) (by decide +kernel) (yields_build (by rfl) 52 _ rfl (Eq.trans (congrArg (Program.built Try.prog 52) (by kernel_rfl)) (built_st F))) ?_
  simp only [Act.put, List.setIfInBounds_toArray, List.set_cons_zero, List.set_cons_succ]
  refine SeqS.alone (by decide +kernel) (by rfl) (fun K hK => ?_)
  refine wp_box_blk 52 (.tmp 21) rfl (stCells F 0 0) rfl ?_
  have hN : StAt (v3.alloc (.cells (stCells F 0 0).toArray 52)) v3.heap.size F 0 := ⟨0, by decide, Blk.new v3 _ _⟩
  have S4 : Below B w1 (v3.alloc (.cells (stCells F 0 0).toArray 52)) := S3.trans ((below1 v3 _).mono (by have := S3.size; have := hBs.out; omega))
  obtain ⟨v4, hv4⟩ : ∃ v4, v3.alloc (.cells (stCells F 0 0).toArray 52) = v4 := ⟨_, rfl⟩
  have hgs : w.heap.size ≤ v3.heap.size := by have := S3.size; have := hBs.out; have := hwB.out; omega
  obtain ⟨g, hg⟩ : ∃ g, v3.heap.size = g := ⟨_, rfl⟩
  rw [hg] at hgs
  rw [hv4, hg] at hN ⊢
  rw [hv4] at S4
  refine hK _ _ S4 ?_
  clear hK K hv4 hg
  simp only [Act.put, List.setIfInBounds_toArray, List.set_cons_zero, List.set_cons_succ]
  repeat (first
    | (refine SeqS.take (v := ?_) (by first | assumption | trivial) (by kernel_rfl) (by decide +kernel) (by decide +kernel) (Or.inl ⟨by rfl, ?_⟩) ?_
       rotate_left
       focus
         intro w' hb'
         go_simp
         with_reducible rfl
       simp only [Act.put, List.setIfInBounds_toArray, List.set_cons_zero, List.set_cons_succ])
    | (refine SeqS.take (v := undef) (by first | assumption | trivial) (by kernel_rfl) (by decide +kernel) (by decide +kernel) (Or.inr ⟨by rfl, rfl⟩) ?_
       simp only [Act.put, List.setIfInBounds_toArray, List.set_cons_zero, List.set_cons_succ])
    | (refine SeqS.take1 (v := ?_) (by first | assumption | trivial) (by kernel_rfl) (by decide +kernel) (by decide +kernel) (Or.inl ⟨by rfl, ?_⟩) ?_
       rotate_left
       focus
         intro w' hb'
         go_simp
         with_reducible rfl
       simp only [Act.put, List.setIfInBounds_toArray, List.set_cons_zero, List.set_cons_succ])
    | (refine SeqS.take1 (v := undef) (by first | assumption | trivial) (by kernel_rfl) (by decide +kernel) (by decide +kernel) (Or.inr ⟨by rfl, rfl⟩) ?_
       simp only [Act.put, List.setIfInBounds_toArray, List.set_cons_zero, List.set_cons_succ])
    | (refine SeqS.take2 (v := ?_) (by first | assumption | trivial) (by kernel_rfl) (by decide +kernel) (by decide +kernel) (Or.inl ⟨by rfl, ?_⟩) ?_
       rotate_left
       focus
         intro w' hb'
         go_simp
         with_reducible rfl
       simp only [Act.put, List.setIfInBounds_toArray, List.set_cons_zero, List.set_cons_succ])
    | (refine SeqS.take2 (v := undef) (by first | assumption | trivial) (by kernel_rfl) (by decide +kernel) (by decide +kernel) (Or.inr ⟨by rfl, rfl⟩) ?_
       simp only [Act.put, List.setIfInBounds_toArray, List.set_cons_zero, List.set_cons_succ]))
  refine SeqS.done (by decide +kernel) ?_
  go_wp2
  go_ret2
  exact ⟨g, rfl, hgs, by rw [hF.out]; exact hN, hB.trans (S4.mono hwB.out)⟩
end Go.Proofs.Ytclcnngpgbdjgaa
