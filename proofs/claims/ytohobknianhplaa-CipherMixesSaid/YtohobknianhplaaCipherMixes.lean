/-
  The law CipherMixes comes to true, whatever columns; new memory alone is written. Conditions: bytes are numbers below 256.
-/
import Derived.Test.YtohobknianhplaaCipherAlive
import Derived.Test.YtohobknianhplaaOpenArr
namespace Go.Proofs.Ytohobknianhplaa
open Go.RowKit

section
variable {P : Program} {ops : Array Oper} {Q : Exit → Act → World → Prop} {md : Region.Mode} {S : World → Prop}
/-- Where more than one operation may come next: whichever comes. -/
theorem SeqS.branch {todo : List (Nat × Oper)} {listed : Array Bool} {a : Act} {w : World} {rs : List Nat} (hr : Region.ready md ops listed = rs)
    (h : ∀ k ∈ rs, ∃ pre o post, todo = pre ++ (k, o) :: post ∧ Region.wanted o (yielded ops a.tmps) = true ∧
      ∀ K : Act → World → Prop, (∀ a' w', S w' → SeqS P md ops Q S (pre ++ post) (listed.setIfInBounds k true) a' w' → K a' w') → o.wp P a w K (NoPanic Q)) (hp : 0 < rs.length := by decide) : SeqS P md ops Q S todo listed a w := by
  intro hd
  obtain ⟨n, hn⟩ : ∃ n, todo.length = n + 1 := by
    cases rs with
    | nil => simp at hp
    | cons k rs =>
      obtain ⟨pre, o, post, he, _⟩ := h k (by simp)
      exact ⟨(pre ++ post).length, by rw [he]; simp; omega⟩
  rw [hn]
  refine wpAnyH_all hr (by intro e; rw [e] at hp; simp at hp) fun i hi => ?_
  obtain ⟨pre, o, post, he, hw, hk⟩ := h i hi
  have h1 : ops[i]? = some o := hd (i, o) (by rw [he]; simp)
  have hl : (pre ++ post).length = n := by
    have := hn
    rw [he] at this
    simp at this ⊢
    omega
  unfold wpOp
  simp only [h1, hw, if_true]
  refine .inl (hk _ fun a' w' hs hq => ⟨hs, ?_⟩)
  have := hq (fun p hp' => hd p (by rw [he]; rcases List.mem_append.1 hp' with h | h <;> simp [h]))
  rw [hl] at this
  exact this
end
/-- A new variable of many cells, as one operation. -/
theorem wp_alloc_blk {P : Program} {w : World} {o : Oper} {a : Act} {K : Act → World → Prop} {Q : Exit → Act → World → Prop} (ty : TypeId) (ho : o.op = .alloc ty) {zs : List Value} (hz : Zero P ty zs)
    (h : K (a.put o.dst (.pointer (some ⟨w.heap.size, 0, none⟩))) (w.alloc (.cells zs.toArray ty))) : o.wp P a w K Q := by
  unfold Zero at hz
  cases hq : P.info? ty with
  | none => simp [hq] at hz
  | some i =>
    have hz' : i.zero = some (.agg zs.toArray) := by simpa [hq] using hz
    unfold Oper.wp
    simp only [execOp, ho]
    simp [Instr.alloc, zeroValue, typeInfo, hq, hz', newVar, newRow, Value.cells, newObj]
    exact h

theorem noGuard4 : Try.prog.eqGuardType Try.prog.depth 45 = false := by kernel_rfl
theorem same4 (f : Nat → Nat) (w : World) : (Op.equalIn 10000 45 (.agg (rowN 4 f).toArray) (.agg (rowN 4 f).toArray)).run Try.prog w = .ok true w := by
  rw [← bytesL_row]
  have := run_equalIn_ints (P := Try.prog) w 9998 45 5 4 .u8 Try.underlying45 Try.underlying5 sizeU8' (bytesL 4 f) (bytesL 4 f) (bytesL_len 4 f) (bytesL_len 4 f)
  rw [this]
  simp
theorem Ints.row4' {w : World} {g : Nat} {f : Nat → Nat} (h : Blk w g 45 (rowN 4 f)) : Ints .u8 w (some ⟨g, 0, none⟩) 4 4 (bytesL 4 f) := by
  have := Ints.row (o := 0) (cap := 4) h 4 (by decide) (by decide)
  rw [show (fun i => f (0 + i)) = f by funext i; rw [Nat.zero_add]] at this
  exact this
set_option maxRecDepth 100000 in
set_option maxHeartbeats 4000000 in
theorem cipherMixes_any (a b : Nat → Nat) (w : World) (ha : By a) (hb : By b) :
    Calls Try.prog 5 #[.agg (rowN 4 a).toArray, .agg (rowN 4 b).toArray] w fun e w' => e = .returned (.bool true) ∧ Below w.heap.size w w' := by
  go_enter Try.func5, Try.ntmps5
  go_wp2_with (first
    | ((with_reducible refine wpList_box_blk rfl 45 (.tmp 0) rfl (rowN 4 a) ?_ ?_); rfl)
    | ((with_reducible refine wpList_box_blk rfl 45 (.tmp 1) rfl (rowN 4 b) ?_ ?_); rfl))
  rename_i K0 hK0
  obtain ⟨W0, hW0⟩ : ∃ W0, (w.alloc (.cells (rowN 4 a).toArray 45)).alloc (.cells (rowN 4 b).toArray 45) = W0 := ⟨_, rfl⟩
  obtain ⟨g, hg⟩ : ∃ g, w.heap.size = g := ⟨_, rfl⟩
  have hx0 : Blk W0 g 45 (rowN 4 a) := by rw [← hW0, ← hg]; exact (Blk.new w _ _).alloc _
  have hy0 : Blk W0 (g + 1) 45 (rowN 4 b) := by rw [← hW0, ← hg]; exact Blk.new1 w _ _ _
  have hB0 : Below g w W0 := by rw [← hW0, ← hg]; exact below2 w _ _
  rw [hW0, hg]
  clear hW0
  have hg := Lib.hid hg
  have ha := Lib.hid ha
  have hb := Lib.hid hb
  have XX := Lib.hid (fun w' (h : Below W0.heap.size W0 w') => (hx0.keep h hx0.lt : Blk w' g 45 (rowN 4 a)))
  have YY := Lib.hid (fun w' (h : Below W0.heap.size W0 w') => (hy0.keep h hy0.lt : Blk w' (g + 1) 45 (rowN 4 b)))
  have hgl : g + 1 < W0.heap.size := hy0.lt
  have hgl := Lib.hid hgl
  have hB0 := Lib.hid hB0
  clear hx0 hy0
  have hfin : ∀ (p q : Nat) (v : World), p ≠ q → Blk v p 45 (rowN 4 (mixc a)) → Blk v q 45 (rowN 4 (mixc b)) → Below W0.heap.size W0 v →
      K0 { tmps := #[.agg (rowN 4 a).toArray, .agg (rowN 4 b).toArray, .pointer (some ⟨g, 0, none⟩), .pointer (some ⟨g + 1, 0, none⟩), .bool false, .pointer (some ⟨p, 0, none⟩), .pointer (some ⟨q, 0, none⟩), undef, undef, undef, .agg (rowN 4 a).toArray, .agg (rowN 4 (mixc a)).toArray, .agg (rowN 4 b).toArray, .agg (rowN 4 (mixc b)).toArray, undef, undef, undef, undef, undef, undef, undef, undef, undef, undef, undef, undef, undef, undef, undef, undef, undef, undef, undef, undef, undef, undef, undef, undef, undef, undef, undef, undef, undef, undef, undef, undef, undef, undef, undef, undef, undef, undef, undef, undef, undef, undef, undef, undef, undef, undef, undef, undef, undef, undef], defers := [] } v := by
    intro p q V hpq hp hq hV
    refine hK0 _ _ ?_
    clear hK0 K0
    go_wp2_with (with_reducible refine wpList_alloc_blk rfl 45 rfl zero4 ?_)
    have hV2 := below2 V (.cells (rowN 4 zf).toArray 45) (.cells (rowN 4 zf).toArray 45)
    have hs0 : Blk ((V.alloc (.cells (rowN 4 zf).toArray 45)).alloc (.cells (rowN 4 zf).toArray 45)) V.heap.size 45 (rowN 4 (upto 0 (bAdd a b) zf)) := by rw [upto_zero]; exact (Blk.new V _ _).alloc _
    have ht0 : Blk ((V.alloc (.cells (rowN 4 zf).toArray 45)).alloc (.cells (rowN 4 zf).toArray 45)) (V.heap.size + 1) 45 (rowN 4 (upto 0 (bAdd (mixc a) (mixc b)) zf)) := by rw [upto_zero]; exact Blk.new1 V _ _ _
    have A1 := Lib.hid (fun w' (h : Below V.heap.size V w') => XX.out w' (hV.trans (h.mono hV.size)))
    have B1 := Lib.hid (fun w' (h : Below V.heap.size V w') => YY.out w' (hV.trans (h.mono hV.size)))
    have X1 := Lib.hid (fun w' (h : Below V.heap.size V w') => (hp.keep h hp.lt : Blk w' p 45 (rowN 4 (mixc a))))
    have Y1 := Lib.hid (fun w' (h : Below V.heap.size V w') => (hq.keep h hq.lt : Blk w' q 45 (rowN 4 (mixc b))))
    obtain ⟨V1, hV1⟩ : ∃ V1, (V.alloc (.cells (rowN 4 zf).toArray 45)).alloc (.cells (rowN 4 zf).toArray 45) = V1 := ⟨_, rfl⟩
    rw [hV1] at hV2 hs0 ht0 ⊢
    obtain ⟨s, hs⟩ : ∃ s, V.heap.size = s := ⟨_, rfl⟩
    rw [hs] at hs0 ht0 hV2 ⊢
    have hs := Lib.hid hs
    have hV := Lib.hid hV
    clear hV1 hp hq hpq
    go_loopw [14] (fun i wr => ∃ k : Nat, k ≤ 4 ∧ i = .int .i64 k ∧ Blk wr s 45 (rowN 4 (upto k (bAdd a b) zf)) ∧ Blk wr (s + 1) 45 (rowN 4 (upto k (bAdd (mixc a) (mixc b)) zf)) ∧ Below s V wr) (fun i _ => 4 - (intOf i).toNat)
    case atStart => exact ⟨0, by omega, rfl, hs0, ht0, hV2⟩
    case round =>
      clear hs0 ht0 hV2
      obtain ⟨k, hk, rfl, hx, hy, hB⟩ := hrel
      by_cases hlt : k < 4
      · obtain ⟨v, hv, hD⟩ := Draws.one wr
        have hx := hD.blk hx
        have hy := hD.blk hy
        have hB := hB.trans (hD.below s)
        have hBs : Below V.heap.size V v := by rw [hs.out]; exact hB
        have ca := (A1.out v hBs).cell k
        have cb := (B1.out v hBs).cell k
        rw [rowN_at 4 _ k hlt] at ca cb
        have cs := hx.cell k
        rw [rowN_at 4 _ k hlt, upto_at] at cs
        have fs : v.frozen? ⟨s, k, none⟩ = false := Blk.frozen hx k
        have hset := hx.set k (.int .u8 (bAdd a b k : Nat))
        rw [rowN_set 4 _ _ _ hlt, upto_step _ _ _ _ rfl] at hset
        have hset := Lib.hid hset
        have hxor : bits .xor .u8 (a k : Int) (b k : Int) = ((bAdd a b k : Nat) : Int) := bits_xor8 (a k) (b k) (ha.out k) (hb.out k)
        have hki : (k : Int) < 4 := by omega
        have hle := Lib.hid hlt
        clear hlt hk
        go_wp2_with fail
        refine wp_region_still_tail 9 (by kernel_rfl) (by decide +kernel) ?_
        simp only [List.take_succ_cons, List.take_zero, List.drop_succ_cons, List.drop_zero]
        change wpStill _ _ wr.drew _ _ _
        rw [hv]
        repeat still_step
        refine wpStill_nil ?_
        change wpList _ _ _ _ _ wr.drew
        rw [hv]
        clear hv hD hBs ca cb
        go_wp2_with fail
        have hy := hy.far (p := ⟨s, k, none⟩) (by simp) (.int .u8 (bAdd a b k : Nat))
        have hB := hB.setCell (p := ⟨s, k, none⟩) (Nat.le_refl _) (.int .u8 (bAdd a b k : Nat))
        obtain ⟨u, hu⟩ : ∃ u, v.setCell ⟨s, k, none⟩ (.int .u8 (bAdd a b k : Nat)) = u := ⟨_, rfl⟩
        have hx := hset.out
        rw [hu] at hx hy hB ⊢
        clear hu hset cs fs hxor
        obtain ⟨v, hv, hD⟩ := Draws.one u
        have hx := hD.blk hx
        have hy := hD.blk hy
        have hB := hB.trans (hD.below s)
        have hBs : Below V.heap.size V v := by rw [hs.out]; exact hB
        have cx := (X1.out v hBs).cell k
        have cy := (Y1.out v hBs).cell k
        rw [rowN_at 4 _ k hle.out] at cx cy
        have ct := hy.cell k
        rw [rowN_at 4 _ k hle.out, upto_at] at ct
        have ft : v.frozen? ⟨s + 1, k, none⟩ = false := Blk.frozen hy k
        have hset := hy.set k (.int .u8 (bAdd (mixc a) (mixc b) k : Nat))
        rw [rowN_set 4 _ _ _ hle.out, upto_step _ _ _ _ rfl] at hset
        have hset := Lib.hid hset
        have hxor : bits .xor .u8 (mixc a k : Int) (mixc b k : Int) = ((bAdd (mixc a) (mixc b) k : Nat) : Int) := bits_xor8 _ _ (mixc_by ha.out k) (mixc_by hb.out k)
        refine wp_region_still_tail 9 (by kernel_rfl) (by decide +kernel) ?_
        simp only [List.take_succ_cons, List.take_zero, List.drop_succ_cons, List.drop_zero]
        change wpStill _ _ u.drew _ _ _
        rw [hv]
        repeat still_step
        refine wpStill_nil ?_
        change wpList _ _ _ _ _ u.drew
        rw [hv]
        clear hv hD hBs cx cy
        go_wp2
        go_roundw
        case rel => exact ⟨k + 1, by have := hle.out; omega, by go_num, hx.far (p := ⟨s + 1, k, none⟩) (by simp) _, hset.out, hB.setCell (p := ⟨s + 1, k, none⟩) (by simp) _⟩
        case measure => have := hle.out; simp [intOf]; omega
      · obtain rfl : k = 4 := by omega
        have hx : Blk wr s 45 (rowN 4 (bAdd a b)) := hx.cast (rowN_congr (upto_all 4 _ zf))
        have hy : Blk wr (s + 1) 45 (rowN 4 (bAdd (mixc a) (mixc b))) := hy.cast (rowN_congr (upto_all 4 _ zf))
        have hB2 := Lib.hid hB
        have hng := noGuard4
        have same1 := same4 a
        have same2 := same4 b
        have same3 := same4 (bAdd (mixc a) (mixc b))
        obtain ⟨V2, hV2⟩ : ∃ V2, wr = V2 := ⟨_, rfl⟩
        subst hV2
        have hVV : Below V.heap.size V wr := by rw [hs.out]; exact hB
        have A9 := Lib.hid (fun w' (h : Below wr.heap.size wr w') => A1.out w' (hVV.trans (h.mono hVV.size)))
        have B9 := Lib.hid (fun w' (h : Below wr.heap.size wr w') => B1.out w' (hVV.trans (h.mono hVV.size)))
        have X9 := Lib.hid (fun w' (h : Below wr.heap.size wr w') => X1.out w' (hVV.trans (h.mono hVV.size)))
        have S9 := Lib.hid (fun w' (h : Below wr.heap.size wr w') => (hx.keep h hx.lt : Blk w' s 45 (rowN 4 (bAdd a b))))
        have T9 := Lib.hid (fun w' (h : Below wr.heap.size wr w') => (hy.keep h hy.lt : Blk w' (s + 1) 45 (rowN 4 (bAdd (mixc a) (mixc b)))))
        have FX := Lib.hid (fun w' (h : Below wr.heap.size wr w') => (Ints.row4' (X9.out w' h)).string 29 9 5 Try.underlying29 Try.underlying5 Try.underlying9)
        have e1 : rowN 4 (unmixc (mixc a)) = rowN 4 a := rowN_congr (unmix_mix a ha.out)
        have e2 : rowN 4 (mixc (unmixc b)) = rowN 4 b := rowN_congr (mix_unmix b hb.out)
        have e3 : rowN 4 (mixc (bAdd a b)) = rowN 4 (bAdd (mixc a) (mixc b)) := rowN_congr (fun i _ => mix_add a b i)
        have e1 := Lib.hid e1
        have e2 := Lib.hid e2
        have e3 := Lib.hid e3
        have hS : Below wr.heap.size wr wr.drew := Below.drew (Below.refl _ _)
        clear hx hy A1 B1 X1 Y1
        go_wp2_with fail
        refine region_seqS (fun w' => Below wr.heap.size wr w') (by kernel_rfl) hS ?_
        simp only [pairs, Nat.reduceAdd]
        repeat (first
          | (refine SeqS.take (v := .agg (rowN 4 (mixc a)).toArray) (by first | assumption | trivial) (by kernel_rfl) (by decide +kernel) (by decide +kernel) (yields_blk (by rfl) 45 (.tmp 5) rfl rfl (fun w' h => X9.out w' h) (row4 _)) ?_; simp only [Act.put, List.setIfInBounds_toArray, List.set_cons_zero, List.set_cons_succ])
          | (refine SeqS.take (v := .agg (rowN 4 a).toArray) (by first | assumption | trivial) (by kernel_rfl) (by decide +kernel) (by decide +kernel) (yields_blk (by rfl) 45 (.tmp 2) rfl rfl (fun w' h => A9.out w' h) (row4 _)) ?_; simp only [Act.put, List.setIfInBounds_toArray, List.set_cons_zero, List.set_cons_succ])
          | (refine SeqS.take (v := .agg (rowN 4 b).toArray) (by first | assumption | trivial) (by kernel_rfl) (by decide +kernel) (by decide +kernel) (yields_blk (by rfl) 45 (.tmp 3) rfl rfl (fun w' h => B9.out w' h) (row4 _)) ?_; simp only [Act.put, List.setIfInBounds_toArray, List.set_cons_zero, List.set_cons_succ])
          | (refine SeqS.take (v := .agg (rowN 4 (bAdd a b)).toArray) (by first | assumption | trivial) (by kernel_rfl) (by decide +kernel) (by decide +kernel) (yields_blk (by rfl) 45 (.tmp 7) rfl rfl (fun w' h => S9.out w' h) (row4 _)) ?_; simp only [Act.put, List.setIfInBounds_toArray, List.set_cons_zero, List.set_cons_succ])
          | (refine SeqS.take (v := .agg (rowN 4 (bAdd (mixc a) (mixc b))).toArray) (by first | assumption | trivial) (by kernel_rfl) (by decide +kernel) (by decide +kernel) (yields_blk (by rfl) 45 (.tmp 8) rfl rfl (fun w' h => T9.out w' h) (row4 _)) ?_; simp only [Act.put, List.setIfInBounds_toArray, List.set_cons_zero, List.set_cons_succ])
          | (refine SeqS.take (v := ?_) (by first | assumption | trivial) (by kernel_rfl) (by decide +kernel) (by decide +kernel) (Or.inl ⟨by rfl, ?_⟩) ?_
             rotate_left
             focus
               intro w' hb'
               have f1 := FX.out w' hb'
               go_simp
               with_reducible rfl
             simp only [Act.put, List.setIfInBounds_toArray, List.set_cons_zero, List.set_cons_succ])
          | (refine SeqS.take (v := undef) (by first | assumption | trivial) (by kernel_rfl) (by decide +kernel) (by decide +kernel) (Or.inr ⟨by rfl, rfl⟩) ?_
             simp only [Act.put, List.setIfInBounds_toArray, List.set_cons_zero, List.set_cons_succ])
          | (refine SeqS.take1 (v := .agg (rowN 4 (mixc a)).toArray) (by first | assumption | trivial) (by kernel_rfl) (by decide +kernel) (by decide +kernel) (yields_blk (by rfl) 45 (.tmp 5) rfl rfl (fun w' h => X9.out w' h) (row4 _)) ?_; simp only [Act.put, List.setIfInBounds_toArray, List.set_cons_zero, List.set_cons_succ])
          | (refine SeqS.take1 (v := .agg (rowN 4 a).toArray) (by first | assumption | trivial) (by kernel_rfl) (by decide +kernel) (by decide +kernel) (yields_blk (by rfl) 45 (.tmp 2) rfl rfl (fun w' h => A9.out w' h) (row4 _)) ?_; simp only [Act.put, List.setIfInBounds_toArray, List.set_cons_zero, List.set_cons_succ])
          | (refine SeqS.take1 (v := .agg (rowN 4 b).toArray) (by first | assumption | trivial) (by kernel_rfl) (by decide +kernel) (by decide +kernel) (yields_blk (by rfl) 45 (.tmp 3) rfl rfl (fun w' h => B9.out w' h) (row4 _)) ?_; simp only [Act.put, List.setIfInBounds_toArray, List.set_cons_zero, List.set_cons_succ])
          | (refine SeqS.take1 (v := .agg (rowN 4 (bAdd a b)).toArray) (by first | assumption | trivial) (by kernel_rfl) (by decide +kernel) (by decide +kernel) (yields_blk (by rfl) 45 (.tmp 7) rfl rfl (fun w' h => S9.out w' h) (row4 _)) ?_; simp only [Act.put, List.setIfInBounds_toArray, List.set_cons_zero, List.set_cons_succ])
          | (refine SeqS.take1 (v := .agg (rowN 4 (bAdd (mixc a) (mixc b))).toArray) (by first | assumption | trivial) (by kernel_rfl) (by decide +kernel) (by decide +kernel) (yields_blk (by rfl) 45 (.tmp 8) rfl rfl (fun w' h => T9.out w' h) (row4 _)) ?_; simp only [Act.put, List.setIfInBounds_toArray, List.set_cons_zero, List.set_cons_succ])
          | (refine SeqS.take1 (v := ?_) (by first | assumption | trivial) (by kernel_rfl) (by decide +kernel) (by decide +kernel) (Or.inl ⟨by rfl, ?_⟩) ?_
             rotate_left
             focus
               intro w' hb'
               have f1 := FX.out w' hb'
               go_simp
               with_reducible rfl
             simp only [Act.put, List.setIfInBounds_toArray, List.set_cons_zero, List.set_cons_succ])
          | (refine SeqS.take1 (v := undef) (by first | assumption | trivial) (by kernel_rfl) (by decide +kernel) (by decide +kernel) (Or.inr ⟨by rfl, rfl⟩) ?_
             simp only [Act.put, List.setIfInBounds_toArray, List.set_cons_zero, List.set_cons_succ])
          | (refine SeqS.take2 (v := .agg (rowN 4 (mixc a)).toArray) (by first | assumption | trivial) (by kernel_rfl) (by decide +kernel) (by decide +kernel) (yields_blk (by rfl) 45 (.tmp 5) rfl rfl (fun w' h => X9.out w' h) (row4 _)) ?_; simp only [Act.put, List.setIfInBounds_toArray, List.set_cons_zero, List.set_cons_succ])
          | (refine SeqS.take2 (v := .agg (rowN 4 a).toArray) (by first | assumption | trivial) (by kernel_rfl) (by decide +kernel) (by decide +kernel) (yields_blk (by rfl) 45 (.tmp 2) rfl rfl (fun w' h => A9.out w' h) (row4 _)) ?_; simp only [Act.put, List.setIfInBounds_toArray, List.set_cons_zero, List.set_cons_succ])
          | (refine SeqS.take2 (v := .agg (rowN 4 b).toArray) (by first | assumption | trivial) (by kernel_rfl) (by decide +kernel) (by decide +kernel) (yields_blk (by rfl) 45 (.tmp 3) rfl rfl (fun w' h => B9.out w' h) (row4 _)) ?_; simp only [Act.put, List.setIfInBounds_toArray, List.set_cons_zero, List.set_cons_succ])
          | (refine SeqS.take2 (v := .agg (rowN 4 (bAdd a b)).toArray) (by first | assumption | trivial) (by kernel_rfl) (by decide +kernel) (by decide +kernel) (yields_blk (by rfl) 45 (.tmp 7) rfl rfl (fun w' h => S9.out w' h) (row4 _)) ?_; simp only [Act.put, List.setIfInBounds_toArray, List.set_cons_zero, List.set_cons_succ])
          | (refine SeqS.take2 (v := .agg (rowN 4 (bAdd (mixc a) (mixc b))).toArray) (by first | assumption | trivial) (by kernel_rfl) (by decide +kernel) (by decide +kernel) (yields_blk (by rfl) 45 (.tmp 8) rfl rfl (fun w' h => T9.out w' h) (row4 _)) ?_; simp only [Act.put, List.setIfInBounds_toArray, List.set_cons_zero, List.set_cons_succ])
          | (refine SeqS.take2 (v := ?_) (by first | assumption | trivial) (by kernel_rfl) (by decide +kernel) (by decide +kernel) (Or.inl ⟨by rfl, ?_⟩) ?_
             rotate_left
             focus
               intro w' hb'
               have f1 := FX.out w' hb'
               go_simp
               with_reducible rfl
             simp only [Act.put, List.setIfInBounds_toArray, List.set_cons_zero, List.set_cons_succ])
          | (refine SeqS.take2 (v := undef) (by first | assumption | trivial) (by kernel_rfl) (by decide +kernel) (by decide +kernel) (Or.inr ⟨by rfl, rfl⟩) ?_
             simp only [Act.put, List.setIfInBounds_toArray, List.set_cons_zero, List.set_cons_succ]))
        refine SeqS.alone (by decide +kernel) (by rfl) (fun K hK => ?_)
        go_simp
        refine (rMix_any (some ⟨g, 0, none⟩) 4 a _ (Ints.row4' (A9.out _ hS)) ha.out).mono ?_
        rintro e w2 ⟨b', c', rfl, hI, b2⟩
        go_simp
        have Z2 : Below wr.heap.size wr w2 := hS.trans (b2.mono hS.size)
        refine hK _ _ Z2 ?_
        clear hK K
        have f2 := hI.string 29 9 5 Try.underlying29 Try.underlying5 Try.underlying9
        refine SeqS.alone (by decide +kernel) (by rfl) (fun K hK => ?_)
        go_simp
        refine hK _ _ Z2 ?_
        clear hK K f2 hI
        try simp only [Act.put, List.setIfInBounds_toArray, List.set_cons_zero, List.set_cons_succ]
        repeat (first
          | (refine SeqS.take (v := .agg (rowN 4 (mixc a)).toArray) (by first | assumption | trivial) (by kernel_rfl) (by decide +kernel) (by decide +kernel) (yields_blk (by rfl) 45 (.tmp 5) rfl rfl (fun w' h => X9.out w' h) (row4 _)) ?_; simp only [Act.put, List.setIfInBounds_toArray, List.set_cons_zero, List.set_cons_succ])
          | (refine SeqS.take (v := .agg (rowN 4 a).toArray) (by first | assumption | trivial) (by kernel_rfl) (by decide +kernel) (by decide +kernel) (yields_blk (by rfl) 45 (.tmp 2) rfl rfl (fun w' h => A9.out w' h) (row4 _)) ?_; simp only [Act.put, List.setIfInBounds_toArray, List.set_cons_zero, List.set_cons_succ])
          | (refine SeqS.take (v := .agg (rowN 4 b).toArray) (by first | assumption | trivial) (by kernel_rfl) (by decide +kernel) (by decide +kernel) (yields_blk (by rfl) 45 (.tmp 3) rfl rfl (fun w' h => B9.out w' h) (row4 _)) ?_; simp only [Act.put, List.setIfInBounds_toArray, List.set_cons_zero, List.set_cons_succ])
          | (refine SeqS.take (v := .agg (rowN 4 (bAdd a b)).toArray) (by first | assumption | trivial) (by kernel_rfl) (by decide +kernel) (by decide +kernel) (yields_blk (by rfl) 45 (.tmp 7) rfl rfl (fun w' h => S9.out w' h) (row4 _)) ?_; simp only [Act.put, List.setIfInBounds_toArray, List.set_cons_zero, List.set_cons_succ])
          | (refine SeqS.take (v := .agg (rowN 4 (bAdd (mixc a) (mixc b))).toArray) (by first | assumption | trivial) (by kernel_rfl) (by decide +kernel) (by decide +kernel) (yields_blk (by rfl) 45 (.tmp 8) rfl rfl (fun w' h => T9.out w' h) (row4 _)) ?_; simp only [Act.put, List.setIfInBounds_toArray, List.set_cons_zero, List.set_cons_succ])
          | (refine SeqS.take (v := ?_) (by first | assumption | trivial) (by kernel_rfl) (by decide +kernel) (by decide +kernel) (Or.inl ⟨by rfl, ?_⟩) ?_
             rotate_left
             focus
               intro w' hb'
               have f1 := FX.out w' hb'
               go_simp
               with_reducible rfl
             simp only [Act.put, List.setIfInBounds_toArray, List.set_cons_zero, List.set_cons_succ])
          | (refine SeqS.take (v := undef) (by first | assumption | trivial) (by kernel_rfl) (by decide +kernel) (by decide +kernel) (Or.inr ⟨by rfl, rfl⟩) ?_
             simp only [Act.put, List.setIfInBounds_toArray, List.set_cons_zero, List.set_cons_succ])
          | (refine SeqS.take1 (v := .agg (rowN 4 (mixc a)).toArray) (by first | assumption | trivial) (by kernel_rfl) (by decide +kernel) (by decide +kernel) (yields_blk (by rfl) 45 (.tmp 5) rfl rfl (fun w' h => X9.out w' h) (row4 _)) ?_; simp only [Act.put, List.setIfInBounds_toArray, List.set_cons_zero, List.set_cons_succ])
          | (refine SeqS.take1 (v := .agg (rowN 4 a).toArray) (by first | assumption | trivial) (by kernel_rfl) (by decide +kernel) (by decide +kernel) (yields_blk (by rfl) 45 (.tmp 2) rfl rfl (fun w' h => A9.out w' h) (row4 _)) ?_; simp only [Act.put, List.setIfInBounds_toArray, List.set_cons_zero, List.set_cons_succ])
          | (refine SeqS.take1 (v := .agg (rowN 4 b).toArray) (by first | assumption | trivial) (by kernel_rfl) (by decide +kernel) (by decide +kernel) (yields_blk (by rfl) 45 (.tmp 3) rfl rfl (fun w' h => B9.out w' h) (row4 _)) ?_; simp only [Act.put, List.setIfInBounds_toArray, List.set_cons_zero, List.set_cons_succ])
          | (refine SeqS.take1 (v := .agg (rowN 4 (bAdd a b)).toArray) (by first | assumption | trivial) (by kernel_rfl) (by decide +kernel) (by decide +kernel) (yields_blk (by rfl) 45 (.tmp 7) rfl rfl (fun w' h => S9.out w' h) (row4 _)) ?_; simp only [Act.put, List.setIfInBounds_toArray, List.set_cons_zero, List.set_cons_succ])
          | (refine SeqS.take1 (v := .agg (rowN 4 (bAdd (mixc a) (mixc b))).toArray) (by first | assumption | trivial) (by kernel_rfl) (by decide +kernel) (by decide +kernel) (yields_blk (by rfl) 45 (.tmp 8) rfl rfl (fun w' h => T9.out w' h) (row4 _)) ?_; simp only [Act.put, List.setIfInBounds_toArray, List.set_cons_zero, List.set_cons_succ])
          | (refine SeqS.take1 (v := ?_) (by first | assumption | trivial) (by kernel_rfl) (by decide +kernel) (by decide +kernel) (Or.inl ⟨by rfl, ?_⟩) ?_
             rotate_left
             focus
               intro w' hb'
               have f1 := FX.out w' hb'
               go_simp
               with_reducible rfl
             simp only [Act.put, List.setIfInBounds_toArray, List.set_cons_zero, List.set_cons_succ])
          | (refine SeqS.take1 (v := undef) (by first | assumption | trivial) (by kernel_rfl) (by decide +kernel) (by decide +kernel) (Or.inr ⟨by rfl, rfl⟩) ?_
             simp only [Act.put, List.setIfInBounds_toArray, List.set_cons_zero, List.set_cons_succ])
          | (refine SeqS.take2 (v := .agg (rowN 4 (mixc a)).toArray) (by first | assumption | trivial) (by kernel_rfl) (by decide +kernel) (by decide +kernel) (yields_blk (by rfl) 45 (.tmp 5) rfl rfl (fun w' h => X9.out w' h) (row4 _)) ?_; simp only [Act.put, List.setIfInBounds_toArray, List.set_cons_zero, List.set_cons_succ])
          | (refine SeqS.take2 (v := .agg (rowN 4 a).toArray) (by first | assumption | trivial) (by kernel_rfl) (by decide +kernel) (by decide +kernel) (yields_blk (by rfl) 45 (.tmp 2) rfl rfl (fun w' h => A9.out w' h) (row4 _)) ?_; simp only [Act.put, List.setIfInBounds_toArray, List.set_cons_zero, List.set_cons_succ])
          | (refine SeqS.take2 (v := .agg (rowN 4 b).toArray) (by first | assumption | trivial) (by kernel_rfl) (by decide +kernel) (by decide +kernel) (yields_blk (by rfl) 45 (.tmp 3) rfl rfl (fun w' h => B9.out w' h) (row4 _)) ?_; simp only [Act.put, List.setIfInBounds_toArray, List.set_cons_zero, List.set_cons_succ])
          | (refine SeqS.take2 (v := .agg (rowN 4 (bAdd a b)).toArray) (by first | assumption | trivial) (by kernel_rfl) (by decide +kernel) (by decide +kernel) (yields_blk (by rfl) 45 (.tmp 7) rfl rfl (fun w' h => S9.out w' h) (row4 _)) ?_; simp only [Act.put, List.setIfInBounds_toArray, List.set_cons_zero, List.set_cons_succ])
          | (refine SeqS.take2 (v := .agg (rowN 4 (bAdd (mixc a) (mixc b))).toArray) (by first | assumption | trivial) (by kernel_rfl) (by decide +kernel) (by decide +kernel) (yields_blk (by rfl) 45 (.tmp 8) rfl rfl (fun w' h => T9.out w' h) (row4 _)) ?_; simp only [Act.put, List.setIfInBounds_toArray, List.set_cons_zero, List.set_cons_succ])
          | (refine SeqS.take2 (v := ?_) (by first | assumption | trivial) (by kernel_rfl) (by decide +kernel) (by decide +kernel) (Or.inl ⟨by rfl, ?_⟩) ?_
             rotate_left
             focus
               intro w' hb'
               have f1 := FX.out w' hb'
               go_simp
               with_reducible rfl
             simp only [Act.put, List.setIfInBounds_toArray, List.set_cons_zero, List.set_cons_succ])
          | (refine SeqS.take2 (v := undef) (by first | assumption | trivial) (by kernel_rfl) (by decide +kernel) (by decide +kernel) (Or.inr ⟨by rfl, rfl⟩) ?_
             simp only [Act.put, List.setIfInBounds_toArray, List.set_cons_zero, List.set_cons_succ]))
        refine SeqS.alone (by decide +kernel) (by rfl) (fun K hK => ?_)
        go_simp
        refine (cUnmix_any (mixc a) _ (mixc_by ha.out)).mono ?_
        rintro e w3 ⟨rfl, b3⟩
        rw [e1.out]
        go_simp
        have Z3 : Below wr.heap.size wr w3 := Z2.trans (b3.mono Z2.size)
        refine hK _ _ Z3 ?_
        clear hK K
        repeat (first
          | (refine SeqS.take (v := .agg (rowN 4 (mixc a)).toArray) (by first | assumption | trivial) (by kernel_rfl) (by decide +kernel) (by decide +kernel) (yields_blk (by rfl) 45 (.tmp 5) rfl rfl (fun w' h => X9.out w' h) (row4 _)) ?_; simp only [Act.put, List.setIfInBounds_toArray, List.set_cons_zero, List.set_cons_succ])
          | (refine SeqS.take (v := .agg (rowN 4 a).toArray) (by first | assumption | trivial) (by kernel_rfl) (by decide +kernel) (by decide +kernel) (yields_blk (by rfl) 45 (.tmp 2) rfl rfl (fun w' h => A9.out w' h) (row4 _)) ?_; simp only [Act.put, List.setIfInBounds_toArray, List.set_cons_zero, List.set_cons_succ])
          | (refine SeqS.take (v := .agg (rowN 4 b).toArray) (by first | assumption | trivial) (by kernel_rfl) (by decide +kernel) (by decide +kernel) (yields_blk (by rfl) 45 (.tmp 3) rfl rfl (fun w' h => B9.out w' h) (row4 _)) ?_; simp only [Act.put, List.setIfInBounds_toArray, List.set_cons_zero, List.set_cons_succ])
          | (refine SeqS.take (v := .agg (rowN 4 (bAdd a b)).toArray) (by first | assumption | trivial) (by kernel_rfl) (by decide +kernel) (by decide +kernel) (yields_blk (by rfl) 45 (.tmp 7) rfl rfl (fun w' h => S9.out w' h) (row4 _)) ?_; simp only [Act.put, List.setIfInBounds_toArray, List.set_cons_zero, List.set_cons_succ])
          | (refine SeqS.take (v := .agg (rowN 4 (bAdd (mixc a) (mixc b))).toArray) (by first | assumption | trivial) (by kernel_rfl) (by decide +kernel) (by decide +kernel) (yields_blk (by rfl) 45 (.tmp 8) rfl rfl (fun w' h => T9.out w' h) (row4 _)) ?_; simp only [Act.put, List.setIfInBounds_toArray, List.set_cons_zero, List.set_cons_succ])
          | (refine SeqS.take (v := ?_) (by first | assumption | trivial) (by kernel_rfl) (by decide +kernel) (by decide +kernel) (Or.inl ⟨by rfl, ?_⟩) ?_
             rotate_left
             focus
               intro w' hb'
               have f1 := FX.out w' hb'
               go_simp
               with_reducible rfl
             simp only [Act.put, List.setIfInBounds_toArray, List.set_cons_zero, List.set_cons_succ])
          | (refine SeqS.take (v := undef) (by first | assumption | trivial) (by kernel_rfl) (by decide +kernel) (by decide +kernel) (Or.inr ⟨by rfl, rfl⟩) ?_
             simp only [Act.put, List.setIfInBounds_toArray, List.set_cons_zero, List.set_cons_succ])
          | (refine SeqS.take1 (v := .agg (rowN 4 (mixc a)).toArray) (by first | assumption | trivial) (by kernel_rfl) (by decide +kernel) (by decide +kernel) (yields_blk (by rfl) 45 (.tmp 5) rfl rfl (fun w' h => X9.out w' h) (row4 _)) ?_; simp only [Act.put, List.setIfInBounds_toArray, List.set_cons_zero, List.set_cons_succ])
          | (refine SeqS.take1 (v := .agg (rowN 4 a).toArray) (by first | assumption | trivial) (by kernel_rfl) (by decide +kernel) (by decide +kernel) (yields_blk (by rfl) 45 (.tmp 2) rfl rfl (fun w' h => A9.out w' h) (row4 _)) ?_; simp only [Act.put, List.setIfInBounds_toArray, List.set_cons_zero, List.set_cons_succ])
          | (refine SeqS.take1 (v := .agg (rowN 4 b).toArray) (by first | assumption | trivial) (by kernel_rfl) (by decide +kernel) (by decide +kernel) (yields_blk (by rfl) 45 (.tmp 3) rfl rfl (fun w' h => B9.out w' h) (row4 _)) ?_; simp only [Act.put, List.setIfInBounds_toArray, List.set_cons_zero, List.set_cons_succ])
          | (refine SeqS.take1 (v := .agg (rowN 4 (bAdd a b)).toArray) (by first | assumption | trivial) (by kernel_rfl) (by decide +kernel) (by decide +kernel) (yields_blk (by rfl) 45 (.tmp 7) rfl rfl (fun w' h => S9.out w' h) (row4 _)) ?_; simp only [Act.put, List.setIfInBounds_toArray, List.set_cons_zero, List.set_cons_succ])
          | (refine SeqS.take1 (v := .agg (rowN 4 (bAdd (mixc a) (mixc b))).toArray) (by first | assumption | trivial) (by kernel_rfl) (by decide +kernel) (by decide +kernel) (yields_blk (by rfl) 45 (.tmp 8) rfl rfl (fun w' h => T9.out w' h) (row4 _)) ?_; simp only [Act.put, List.setIfInBounds_toArray, List.set_cons_zero, List.set_cons_succ])
          | (refine SeqS.take1 (v := ?_) (by first | assumption | trivial) (by kernel_rfl) (by decide +kernel) (by decide +kernel) (Or.inl ⟨by rfl, ?_⟩) ?_
             rotate_left
             focus
               intro w' hb'
               have f1 := FX.out w' hb'
               go_simp
               with_reducible rfl
             simp only [Act.put, List.setIfInBounds_toArray, List.set_cons_zero, List.set_cons_succ])
          | (refine SeqS.take1 (v := undef) (by first | assumption | trivial) (by kernel_rfl) (by decide +kernel) (by decide +kernel) (Or.inr ⟨by rfl, rfl⟩) ?_
             simp only [Act.put, List.setIfInBounds_toArray, List.set_cons_zero, List.set_cons_succ])
          | (refine SeqS.take2 (v := .agg (rowN 4 (mixc a)).toArray) (by first | assumption | trivial) (by kernel_rfl) (by decide +kernel) (by decide +kernel) (yields_blk (by rfl) 45 (.tmp 5) rfl rfl (fun w' h => X9.out w' h) (row4 _)) ?_; simp only [Act.put, List.setIfInBounds_toArray, List.set_cons_zero, List.set_cons_succ])
          | (refine SeqS.take2 (v := .agg (rowN 4 a).toArray) (by first | assumption | trivial) (by kernel_rfl) (by decide +kernel) (by decide +kernel) (yields_blk (by rfl) 45 (.tmp 2) rfl rfl (fun w' h => A9.out w' h) (row4 _)) ?_; simp only [Act.put, List.setIfInBounds_toArray, List.set_cons_zero, List.set_cons_succ])
          | (refine SeqS.take2 (v := .agg (rowN 4 b).toArray) (by first | assumption | trivial) (by kernel_rfl) (by decide +kernel) (by decide +kernel) (yields_blk (by rfl) 45 (.tmp 3) rfl rfl (fun w' h => B9.out w' h) (row4 _)) ?_; simp only [Act.put, List.setIfInBounds_toArray, List.set_cons_zero, List.set_cons_succ])
          | (refine SeqS.take2 (v := .agg (rowN 4 (bAdd a b)).toArray) (by first | assumption | trivial) (by kernel_rfl) (by decide +kernel) (by decide +kernel) (yields_blk (by rfl) 45 (.tmp 7) rfl rfl (fun w' h => S9.out w' h) (row4 _)) ?_; simp only [Act.put, List.setIfInBounds_toArray, List.set_cons_zero, List.set_cons_succ])
          | (refine SeqS.take2 (v := .agg (rowN 4 (bAdd (mixc a) (mixc b))).toArray) (by first | assumption | trivial) (by kernel_rfl) (by decide +kernel) (by decide +kernel) (yields_blk (by rfl) 45 (.tmp 8) rfl rfl (fun w' h => T9.out w' h) (row4 _)) ?_; simp only [Act.put, List.setIfInBounds_toArray, List.set_cons_zero, List.set_cons_succ])
          | (refine SeqS.take2 (v := ?_) (by first | assumption | trivial) (by kernel_rfl) (by decide +kernel) (by decide +kernel) (Or.inl ⟨by rfl, ?_⟩) ?_
             rotate_left
             focus
               intro w' hb'
               have f1 := FX.out w' hb'
               go_simp
               with_reducible rfl
             simp only [Act.put, List.setIfInBounds_toArray, List.set_cons_zero, List.set_cons_succ])
          | (refine SeqS.take2 (v := undef) (by first | assumption | trivial) (by kernel_rfl) (by decide +kernel) (by decide +kernel) (Or.inr ⟨by rfl, rfl⟩) ?_
             simp only [Act.put, List.setIfInBounds_toArray, List.set_cons_zero, List.set_cons_succ]))
        refine SeqS.alone (by decide +kernel) (by rfl) (fun K hK => ?_)
        go_simp
        refine (cUnmix_any b _ hb.out).mono ?_
        rintro e w4 ⟨rfl, b4⟩
        go_simp
        have Z4 : Below wr.heap.size wr w4 := Z3.trans (b4.mono Z3.size)
        refine hK _ _ Z4 ?_
        clear hK K
        refine SeqS.alone (by decide +kernel) (by rfl) (fun K hK => ?_)
        go_simp
        refine (cMix_any (unmixc b) _ (unmixc_by hb.out)).mono ?_
        rintro e w5 ⟨rfl, b5⟩
        rw [e2.out]
        go_simp
        have Z5 : Below wr.heap.size wr w5 := Z4.trans (b5.mono Z4.size)
        refine hK _ _ Z5 ?_
        clear hK K
        repeat (first
          | (refine SeqS.take (v := .agg (rowN 4 (mixc a)).toArray) (by first | assumption | trivial) (by kernel_rfl) (by decide +kernel) (by decide +kernel) (yields_blk (by rfl) 45 (.tmp 5) rfl rfl (fun w' h => X9.out w' h) (row4 _)) ?_; simp only [Act.put, List.setIfInBounds_toArray, List.set_cons_zero, List.set_cons_succ])
          | (refine SeqS.take (v := .agg (rowN 4 a).toArray) (by first | assumption | trivial) (by kernel_rfl) (by decide +kernel) (by decide +kernel) (yields_blk (by rfl) 45 (.tmp 2) rfl rfl (fun w' h => A9.out w' h) (row4 _)) ?_; simp only [Act.put, List.setIfInBounds_toArray, List.set_cons_zero, List.set_cons_succ])
          | (refine SeqS.take (v := .agg (rowN 4 b).toArray) (by first | assumption | trivial) (by kernel_rfl) (by decide +kernel) (by decide +kernel) (yields_blk (by rfl) 45 (.tmp 3) rfl rfl (fun w' h => B9.out w' h) (row4 _)) ?_; simp only [Act.put, List.setIfInBounds_toArray, List.set_cons_zero, List.set_cons_succ])
          | (refine SeqS.take (v := .agg (rowN 4 (bAdd a b)).toArray) (by first | assumption | trivial) (by kernel_rfl) (by decide +kernel) (by decide +kernel) (yields_blk (by rfl) 45 (.tmp 7) rfl rfl (fun w' h => S9.out w' h) (row4 _)) ?_; simp only [Act.put, List.setIfInBounds_toArray, List.set_cons_zero, List.set_cons_succ])
          | (refine SeqS.take (v := .agg (rowN 4 (bAdd (mixc a) (mixc b))).toArray) (by first | assumption | trivial) (by kernel_rfl) (by decide +kernel) (by decide +kernel) (yields_blk (by rfl) 45 (.tmp 8) rfl rfl (fun w' h => T9.out w' h) (row4 _)) ?_; simp only [Act.put, List.setIfInBounds_toArray, List.set_cons_zero, List.set_cons_succ])
          | (refine SeqS.take (v := ?_) (by first | assumption | trivial) (by kernel_rfl) (by decide +kernel) (by decide +kernel) (Or.inl ⟨by rfl, ?_⟩) ?_
             rotate_left
             focus
               intro w' hb'
               have f1 := FX.out w' hb'
               go_simp
               with_reducible rfl
             simp only [Act.put, List.setIfInBounds_toArray, List.set_cons_zero, List.set_cons_succ])
          | (refine SeqS.take (v := undef) (by first | assumption | trivial) (by kernel_rfl) (by decide +kernel) (by decide +kernel) (Or.inr ⟨by rfl, rfl⟩) ?_
             simp only [Act.put, List.setIfInBounds_toArray, List.set_cons_zero, List.set_cons_succ])
          | (refine SeqS.take1 (v := .agg (rowN 4 (mixc a)).toArray) (by first | assumption | trivial) (by kernel_rfl) (by decide +kernel) (by decide +kernel) (yields_blk (by rfl) 45 (.tmp 5) rfl rfl (fun w' h => X9.out w' h) (row4 _)) ?_; simp only [Act.put, List.setIfInBounds_toArray, List.set_cons_zero, List.set_cons_succ])
          | (refine SeqS.take1 (v := .agg (rowN 4 a).toArray) (by first | assumption | trivial) (by kernel_rfl) (by decide +kernel) (by decide +kernel) (yields_blk (by rfl) 45 (.tmp 2) rfl rfl (fun w' h => A9.out w' h) (row4 _)) ?_; simp only [Act.put, List.setIfInBounds_toArray, List.set_cons_zero, List.set_cons_succ])
          | (refine SeqS.take1 (v := .agg (rowN 4 b).toArray) (by first | assumption | trivial) (by kernel_rfl) (by decide +kernel) (by decide +kernel) (yields_blk (by rfl) 45 (.tmp 3) rfl rfl (fun w' h => B9.out w' h) (row4 _)) ?_; simp only [Act.put, List.setIfInBounds_toArray, List.set_cons_zero, List.set_cons_succ])
          | (refine SeqS.take1 (v := .agg (rowN 4 (bAdd a b)).toArray) (by first | assumption | trivial) (by kernel_rfl) (by decide +kernel) (by decide +kernel) (yields_blk (by rfl) 45 (.tmp 7) rfl rfl (fun w' h => S9.out w' h) (row4 _)) ?_; simp only [Act.put, List.setIfInBounds_toArray, List.set_cons_zero, List.set_cons_succ])
          | (refine SeqS.take1 (v := .agg (rowN 4 (bAdd (mixc a) (mixc b))).toArray) (by first | assumption | trivial) (by kernel_rfl) (by decide +kernel) (by decide +kernel) (yields_blk (by rfl) 45 (.tmp 8) rfl rfl (fun w' h => T9.out w' h) (row4 _)) ?_; simp only [Act.put, List.setIfInBounds_toArray, List.set_cons_zero, List.set_cons_succ])
          | (refine SeqS.take1 (v := ?_) (by first | assumption | trivial) (by kernel_rfl) (by decide +kernel) (by decide +kernel) (Or.inl ⟨by rfl, ?_⟩) ?_
             rotate_left
             focus
               intro w' hb'
               have f1 := FX.out w' hb'
               go_simp
               with_reducible rfl
             simp only [Act.put, List.setIfInBounds_toArray, List.set_cons_zero, List.set_cons_succ])
          | (refine SeqS.take1 (v := undef) (by first | assumption | trivial) (by kernel_rfl) (by decide +kernel) (by decide +kernel) (Or.inr ⟨by rfl, rfl⟩) ?_
             simp only [Act.put, List.setIfInBounds_toArray, List.set_cons_zero, List.set_cons_succ])
          | (refine SeqS.take2 (v := .agg (rowN 4 (mixc a)).toArray) (by first | assumption | trivial) (by kernel_rfl) (by decide +kernel) (by decide +kernel) (yields_blk (by rfl) 45 (.tmp 5) rfl rfl (fun w' h => X9.out w' h) (row4 _)) ?_; simp only [Act.put, List.setIfInBounds_toArray, List.set_cons_zero, List.set_cons_succ])
          | (refine SeqS.take2 (v := .agg (rowN 4 a).toArray) (by first | assumption | trivial) (by kernel_rfl) (by decide +kernel) (by decide +kernel) (yields_blk (by rfl) 45 (.tmp 2) rfl rfl (fun w' h => A9.out w' h) (row4 _)) ?_; simp only [Act.put, List.setIfInBounds_toArray, List.set_cons_zero, List.set_cons_succ])
          | (refine SeqS.take2 (v := .agg (rowN 4 b).toArray) (by first | assumption | trivial) (by kernel_rfl) (by decide +kernel) (by decide +kernel) (yields_blk (by rfl) 45 (.tmp 3) rfl rfl (fun w' h => B9.out w' h) (row4 _)) ?_; simp only [Act.put, List.setIfInBounds_toArray, List.set_cons_zero, List.set_cons_succ])
          | (refine SeqS.take2 (v := .agg (rowN 4 (bAdd a b)).toArray) (by first | assumption | trivial) (by kernel_rfl) (by decide +kernel) (by decide +kernel) (yields_blk (by rfl) 45 (.tmp 7) rfl rfl (fun w' h => S9.out w' h) (row4 _)) ?_; simp only [Act.put, List.setIfInBounds_toArray, List.set_cons_zero, List.set_cons_succ])
          | (refine SeqS.take2 (v := .agg (rowN 4 (bAdd (mixc a) (mixc b))).toArray) (by first | assumption | trivial) (by kernel_rfl) (by decide +kernel) (by decide +kernel) (yields_blk (by rfl) 45 (.tmp 8) rfl rfl (fun w' h => T9.out w' h) (row4 _)) ?_; simp only [Act.put, List.setIfInBounds_toArray, List.set_cons_zero, List.set_cons_succ])
          | (refine SeqS.take2 (v := ?_) (by first | assumption | trivial) (by kernel_rfl) (by decide +kernel) (by decide +kernel) (Or.inl ⟨by rfl, ?_⟩) ?_
             rotate_left
             focus
               intro w' hb'
               have f1 := FX.out w' hb'
               go_simp
               with_reducible rfl
             simp only [Act.put, List.setIfInBounds_toArray, List.set_cons_zero, List.set_cons_succ])
          | (refine SeqS.take2 (v := undef) (by first | assumption | trivial) (by kernel_rfl) (by decide +kernel) (by decide +kernel) (Or.inr ⟨by rfl, rfl⟩) ?_
             simp only [Act.put, List.setIfInBounds_toArray, List.set_cons_zero, List.set_cons_succ]))
        refine SeqS.alone (by decide +kernel) (by rfl) (fun K hK => ?_)
        go_simp
        refine (cMix_any (bAdd a b) _ (bAdd_by ha.out hb.out)).mono ?_
        rintro e w6 ⟨rfl, b6⟩
        rw [e3.out]
        go_simp
        have Z6 : Below wr.heap.size wr w6 := Z5.trans (b6.mono Z5.size)
        refine hK _ _ Z6 ?_
        clear hK K
        repeat (first
          | (refine SeqS.take (v := .agg (rowN 4 (mixc a)).toArray) (by first | assumption | trivial) (by kernel_rfl) (by decide +kernel) (by decide +kernel) (yields_blk (by rfl) 45 (.tmp 5) rfl rfl (fun w' h => X9.out w' h) (row4 _)) ?_; simp only [Act.put, List.setIfInBounds_toArray, List.set_cons_zero, List.set_cons_succ])
          | (refine SeqS.take (v := .agg (rowN 4 a).toArray) (by first | assumption | trivial) (by kernel_rfl) (by decide +kernel) (by decide +kernel) (yields_blk (by rfl) 45 (.tmp 2) rfl rfl (fun w' h => A9.out w' h) (row4 _)) ?_; simp only [Act.put, List.setIfInBounds_toArray, List.set_cons_zero, List.set_cons_succ])
          | (refine SeqS.take (v := .agg (rowN 4 b).toArray) (by first | assumption | trivial) (by kernel_rfl) (by decide +kernel) (by decide +kernel) (yields_blk (by rfl) 45 (.tmp 3) rfl rfl (fun w' h => B9.out w' h) (row4 _)) ?_; simp only [Act.put, List.setIfInBounds_toArray, List.set_cons_zero, List.set_cons_succ])
          | (refine SeqS.take (v := .agg (rowN 4 (bAdd a b)).toArray) (by first | assumption | trivial) (by kernel_rfl) (by decide +kernel) (by decide +kernel) (yields_blk (by rfl) 45 (.tmp 7) rfl rfl (fun w' h => S9.out w' h) (row4 _)) ?_; simp only [Act.put, List.setIfInBounds_toArray, List.set_cons_zero, List.set_cons_succ])
          | (refine SeqS.take (v := .agg (rowN 4 (bAdd (mixc a) (mixc b))).toArray) (by first | assumption | trivial) (by kernel_rfl) (by decide +kernel) (by decide +kernel) (yields_blk (by rfl) 45 (.tmp 8) rfl rfl (fun w' h => T9.out w' h) (row4 _)) ?_; simp only [Act.put, List.setIfInBounds_toArray, List.set_cons_zero, List.set_cons_succ])
          | (refine SeqS.take (v := ?_) (by first | assumption | trivial) (by kernel_rfl) (by decide +kernel) (by decide +kernel) (Or.inl ⟨by rfl, ?_⟩) ?_
             rotate_left
             focus
               intro w' hb'
               have f1 := FX.out w' hb'
               go_simp
               with_reducible rfl
             simp only [Act.put, List.setIfInBounds_toArray, List.set_cons_zero, List.set_cons_succ])
          | (refine SeqS.take (v := undef) (by first | assumption | trivial) (by kernel_rfl) (by decide +kernel) (by decide +kernel) (Or.inr ⟨by rfl, rfl⟩) ?_
             simp only [Act.put, List.setIfInBounds_toArray, List.set_cons_zero, List.set_cons_succ])
          | (refine SeqS.take1 (v := .agg (rowN 4 (mixc a)).toArray) (by first | assumption | trivial) (by kernel_rfl) (by decide +kernel) (by decide +kernel) (yields_blk (by rfl) 45 (.tmp 5) rfl rfl (fun w' h => X9.out w' h) (row4 _)) ?_; simp only [Act.put, List.setIfInBounds_toArray, List.set_cons_zero, List.set_cons_succ])
          | (refine SeqS.take1 (v := .agg (rowN 4 a).toArray) (by first | assumption | trivial) (by kernel_rfl) (by decide +kernel) (by decide +kernel) (yields_blk (by rfl) 45 (.tmp 2) rfl rfl (fun w' h => A9.out w' h) (row4 _)) ?_; simp only [Act.put, List.setIfInBounds_toArray, List.set_cons_zero, List.set_cons_succ])
          | (refine SeqS.take1 (v := .agg (rowN 4 b).toArray) (by first | assumption | trivial) (by kernel_rfl) (by decide +kernel) (by decide +kernel) (yields_blk (by rfl) 45 (.tmp 3) rfl rfl (fun w' h => B9.out w' h) (row4 _)) ?_; simp only [Act.put, List.setIfInBounds_toArray, List.set_cons_zero, List.set_cons_succ])
          | (refine SeqS.take1 (v := .agg (rowN 4 (bAdd a b)).toArray) (by first | assumption | trivial) (by kernel_rfl) (by decide +kernel) (by decide +kernel) (yields_blk (by rfl) 45 (.tmp 7) rfl rfl (fun w' h => S9.out w' h) (row4 _)) ?_; simp only [Act.put, List.setIfInBounds_toArray, List.set_cons_zero, List.set_cons_succ])
          | (refine SeqS.take1 (v := .agg (rowN 4 (bAdd (mixc a) (mixc b))).toArray) (by first | assumption | trivial) (by kernel_rfl) (by decide +kernel) (by decide +kernel) (yields_blk (by rfl) 45 (.tmp 8) rfl rfl (fun w' h => T9.out w' h) (row4 _)) ?_; simp only [Act.put, List.setIfInBounds_toArray, List.set_cons_zero, List.set_cons_succ])
          | (refine SeqS.take1 (v := ?_) (by first | assumption | trivial) (by kernel_rfl) (by decide +kernel) (by decide +kernel) (Or.inl ⟨by rfl, ?_⟩) ?_
             rotate_left
             focus
               intro w' hb'
               have f1 := FX.out w' hb'
               go_simp
               with_reducible rfl
             simp only [Act.put, List.setIfInBounds_toArray, List.set_cons_zero, List.set_cons_succ])
          | (refine SeqS.take1 (v := undef) (by first | assumption | trivial) (by kernel_rfl) (by decide +kernel) (by decide +kernel) (Or.inr ⟨by rfl, rfl⟩) ?_
             simp only [Act.put, List.setIfInBounds_toArray, List.set_cons_zero, List.set_cons_succ])
          | (refine SeqS.take2 (v := .agg (rowN 4 (mixc a)).toArray) (by first | assumption | trivial) (by kernel_rfl) (by decide +kernel) (by decide +kernel) (yields_blk (by rfl) 45 (.tmp 5) rfl rfl (fun w' h => X9.out w' h) (row4 _)) ?_; simp only [Act.put, List.setIfInBounds_toArray, List.set_cons_zero, List.set_cons_succ])
          | (refine SeqS.take2 (v := .agg (rowN 4 a).toArray) (by first | assumption | trivial) (by kernel_rfl) (by decide +kernel) (by decide +kernel) (yields_blk (by rfl) 45 (.tmp 2) rfl rfl (fun w' h => A9.out w' h) (row4 _)) ?_; simp only [Act.put, List.setIfInBounds_toArray, List.set_cons_zero, List.set_cons_succ])
          | (refine SeqS.take2 (v := .agg (rowN 4 b).toArray) (by first | assumption | trivial) (by kernel_rfl) (by decide +kernel) (by decide +kernel) (yields_blk (by rfl) 45 (.tmp 3) rfl rfl (fun w' h => B9.out w' h) (row4 _)) ?_; simp only [Act.put, List.setIfInBounds_toArray, List.set_cons_zero, List.set_cons_succ])
          | (refine SeqS.take2 (v := .agg (rowN 4 (bAdd a b)).toArray) (by first | assumption | trivial) (by kernel_rfl) (by decide +kernel) (by decide +kernel) (yields_blk (by rfl) 45 (.tmp 7) rfl rfl (fun w' h => S9.out w' h) (row4 _)) ?_; simp only [Act.put, List.setIfInBounds_toArray, List.set_cons_zero, List.set_cons_succ])
          | (refine SeqS.take2 (v := .agg (rowN 4 (bAdd (mixc a) (mixc b))).toArray) (by first | assumption | trivial) (by kernel_rfl) (by decide +kernel) (by decide +kernel) (yields_blk (by rfl) 45 (.tmp 8) rfl rfl (fun w' h => T9.out w' h) (row4 _)) ?_; simp only [Act.put, List.setIfInBounds_toArray, List.set_cons_zero, List.set_cons_succ])
          | (refine SeqS.take2 (v := ?_) (by first | assumption | trivial) (by kernel_rfl) (by decide +kernel) (by decide +kernel) (Or.inl ⟨by rfl, ?_⟩) ?_
             rotate_left
             focus
               intro w' hb'
               have f1 := FX.out w' hb'
               go_simp
               with_reducible rfl
             simp only [Act.put, List.setIfInBounds_toArray, List.set_cons_zero, List.set_cons_succ])
          | (refine SeqS.take2 (v := undef) (by first | assumption | trivial) (by kernel_rfl) (by decide +kernel) (by decide +kernel) (Or.inr ⟨by rfl, rfl⟩) ?_
             simp only [Act.put, List.setIfInBounds_toArray, List.set_cons_zero, List.set_cons_succ]))
        refine SeqS.alone (by decide +kernel) (by rfl) (fun K hK => ?_)
        go_simp
        refine (cAlive_any _).mono ?_
        rintro e w7 ⟨rfl, b7⟩
        go_simp
        have Z7 : Below wr.heap.size wr w7 := Z6.trans (b7.mono Z6.size)
        refine hK _ _ Z7 ?_
        clear hK K
        repeat (first
          | (refine SeqS.take (v := .agg (rowN 4 (mixc a)).toArray) (by first | assumption | trivial) (by kernel_rfl) (by decide +kernel) (by decide +kernel) (yields_blk (by rfl) 45 (.tmp 5) rfl rfl (fun w' h => X9.out w' h) (row4 _)) ?_; simp only [Act.put, List.setIfInBounds_toArray, List.set_cons_zero, List.set_cons_succ])
          | (refine SeqS.take (v := .agg (rowN 4 a).toArray) (by first | assumption | trivial) (by kernel_rfl) (by decide +kernel) (by decide +kernel) (yields_blk (by rfl) 45 (.tmp 2) rfl rfl (fun w' h => A9.out w' h) (row4 _)) ?_; simp only [Act.put, List.setIfInBounds_toArray, List.set_cons_zero, List.set_cons_succ])
          | (refine SeqS.take (v := .agg (rowN 4 b).toArray) (by first | assumption | trivial) (by kernel_rfl) (by decide +kernel) (by decide +kernel) (yields_blk (by rfl) 45 (.tmp 3) rfl rfl (fun w' h => B9.out w' h) (row4 _)) ?_; simp only [Act.put, List.setIfInBounds_toArray, List.set_cons_zero, List.set_cons_succ])
          | (refine SeqS.take (v := .agg (rowN 4 (bAdd a b)).toArray) (by first | assumption | trivial) (by kernel_rfl) (by decide +kernel) (by decide +kernel) (yields_blk (by rfl) 45 (.tmp 7) rfl rfl (fun w' h => S9.out w' h) (row4 _)) ?_; simp only [Act.put, List.setIfInBounds_toArray, List.set_cons_zero, List.set_cons_succ])
          | (refine SeqS.take (v := .agg (rowN 4 (bAdd (mixc a) (mixc b))).toArray) (by first | assumption | trivial) (by kernel_rfl) (by decide +kernel) (by decide +kernel) (yields_blk (by rfl) 45 (.tmp 8) rfl rfl (fun w' h => T9.out w' h) (row4 _)) ?_; simp only [Act.put, List.setIfInBounds_toArray, List.set_cons_zero, List.set_cons_succ])
          | (refine SeqS.take (v := ?_) (by first | assumption | trivial) (by kernel_rfl) (by decide +kernel) (by decide +kernel) (Or.inl ⟨by rfl, ?_⟩) ?_
             rotate_left
             focus
               intro w' hb'
               have f1 := FX.out w' hb'
               go_simp
               with_reducible rfl
             simp only [Act.put, List.setIfInBounds_toArray, List.set_cons_zero, List.set_cons_succ])
          | (refine SeqS.take (v := undef) (by first | assumption | trivial) (by kernel_rfl) (by decide +kernel) (by decide +kernel) (Or.inr ⟨by rfl, rfl⟩) ?_
             simp only [Act.put, List.setIfInBounds_toArray, List.set_cons_zero, List.set_cons_succ])
          | (refine SeqS.take1 (v := .agg (rowN 4 (mixc a)).toArray) (by first | assumption | trivial) (by kernel_rfl) (by decide +kernel) (by decide +kernel) (yields_blk (by rfl) 45 (.tmp 5) rfl rfl (fun w' h => X9.out w' h) (row4 _)) ?_; simp only [Act.put, List.setIfInBounds_toArray, List.set_cons_zero, List.set_cons_succ])
          | (refine SeqS.take1 (v := .agg (rowN 4 a).toArray) (by first | assumption | trivial) (by kernel_rfl) (by decide +kernel) (by decide +kernel) (yields_blk (by rfl) 45 (.tmp 2) rfl rfl (fun w' h => A9.out w' h) (row4 _)) ?_; simp only [Act.put, List.setIfInBounds_toArray, List.set_cons_zero, List.set_cons_succ])
          | (refine SeqS.take1 (v := .agg (rowN 4 b).toArray) (by first | assumption | trivial) (by kernel_rfl) (by decide +kernel) (by decide +kernel) (yields_blk (by rfl) 45 (.tmp 3) rfl rfl (fun w' h => B9.out w' h) (row4 _)) ?_; simp only [Act.put, List.setIfInBounds_toArray, List.set_cons_zero, List.set_cons_succ])
          | (refine SeqS.take1 (v := .agg (rowN 4 (bAdd a b)).toArray) (by first | assumption | trivial) (by kernel_rfl) (by decide +kernel) (by decide +kernel) (yields_blk (by rfl) 45 (.tmp 7) rfl rfl (fun w' h => S9.out w' h) (row4 _)) ?_; simp only [Act.put, List.setIfInBounds_toArray, List.set_cons_zero, List.set_cons_succ])
          | (refine SeqS.take1 (v := .agg (rowN 4 (bAdd (mixc a) (mixc b))).toArray) (by first | assumption | trivial) (by kernel_rfl) (by decide +kernel) (by decide +kernel) (yields_blk (by rfl) 45 (.tmp 8) rfl rfl (fun w' h => T9.out w' h) (row4 _)) ?_; simp only [Act.put, List.setIfInBounds_toArray, List.set_cons_zero, List.set_cons_succ])
          | (refine SeqS.take1 (v := ?_) (by first | assumption | trivial) (by kernel_rfl) (by decide +kernel) (by decide +kernel) (Or.inl ⟨by rfl, ?_⟩) ?_
             rotate_left
             focus
               intro w' hb'
               have f1 := FX.out w' hb'
               go_simp
               with_reducible rfl
             simp only [Act.put, List.setIfInBounds_toArray, List.set_cons_zero, List.set_cons_succ])
          | (refine SeqS.take1 (v := undef) (by first | assumption | trivial) (by kernel_rfl) (by decide +kernel) (by decide +kernel) (Or.inr ⟨by rfl, rfl⟩) ?_
             simp only [Act.put, List.setIfInBounds_toArray, List.set_cons_zero, List.set_cons_succ])
          | (refine SeqS.take2 (v := .agg (rowN 4 (mixc a)).toArray) (by first | assumption | trivial) (by kernel_rfl) (by decide +kernel) (by decide +kernel) (yields_blk (by rfl) 45 (.tmp 5) rfl rfl (fun w' h => X9.out w' h) (row4 _)) ?_; simp only [Act.put, List.setIfInBounds_toArray, List.set_cons_zero, List.set_cons_succ])
          | (refine SeqS.take2 (v := .agg (rowN 4 a).toArray) (by first | assumption | trivial) (by kernel_rfl) (by decide +kernel) (by decide +kernel) (yields_blk (by rfl) 45 (.tmp 2) rfl rfl (fun w' h => A9.out w' h) (row4 _)) ?_; simp only [Act.put, List.setIfInBounds_toArray, List.set_cons_zero, List.set_cons_succ])
          | (refine SeqS.take2 (v := .agg (rowN 4 b).toArray) (by first | assumption | trivial) (by kernel_rfl) (by decide +kernel) (by decide +kernel) (yields_blk (by rfl) 45 (.tmp 3) rfl rfl (fun w' h => B9.out w' h) (row4 _)) ?_; simp only [Act.put, List.setIfInBounds_toArray, List.set_cons_zero, List.set_cons_succ])
          | (refine SeqS.take2 (v := .agg (rowN 4 (bAdd a b)).toArray) (by first | assumption | trivial) (by kernel_rfl) (by decide +kernel) (by decide +kernel) (yields_blk (by rfl) 45 (.tmp 7) rfl rfl (fun w' h => S9.out w' h) (row4 _)) ?_; simp only [Act.put, List.setIfInBounds_toArray, List.set_cons_zero, List.set_cons_succ])
          | (refine SeqS.take2 (v := .agg (rowN 4 (bAdd (mixc a) (mixc b))).toArray) (by first | assumption | trivial) (by kernel_rfl) (by decide +kernel) (by decide +kernel) (yields_blk (by rfl) 45 (.tmp 8) rfl rfl (fun w' h => T9.out w' h) (row4 _)) ?_; simp only [Act.put, List.setIfInBounds_toArray, List.set_cons_zero, List.set_cons_succ])
          | (refine SeqS.take2 (v := ?_) (by first | assumption | trivial) (by kernel_rfl) (by decide +kernel) (by decide +kernel) (Or.inl ⟨by rfl, ?_⟩) ?_
             rotate_left
             focus
               intro w' hb'
               have f1 := FX.out w' hb'
               go_simp
               with_reducible rfl
             simp only [Act.put, List.setIfInBounds_toArray, List.set_cons_zero, List.set_cons_succ])
          | (refine SeqS.take2 (v := undef) (by first | assumption | trivial) (by kernel_rfl) (by decide +kernel) (by decide +kernel) (Or.inr ⟨by rfl, rfl⟩) ?_
             simp only [Act.put, List.setIfInBounds_toArray, List.set_cons_zero, List.set_cons_succ]))
        refine SeqS.done (by decide +kernel) ?_
        go_wp2
        go_ret
        refine ⟨rfl, ?_⟩
        have hW : Below g w wr := hB0.out.trans (hV.out.trans (hVV.mono hV.out.size) |>.mono (Nat.le_of_lt (Nat.lt_trans (Nat.lt_succ_self g) hgl.out)))
        rw [hg.out]
        exact hW.trans (Z7.mono (Nat.le_trans (Nat.le_of_lt (Nat.lt_trans (Nat.lt_succ_self g) hgl.out)) (Nat.le_trans hV.out.size hVV.size)))
  have hS : Below W0.heap.size W0 W0.drew := Below.drew (Below.refl _ _)
  refine region_seqS (fun w' => Below W0.heap.size W0 w') (by kernel_rfl) hS ?_
  simp only [pairs, Nat.reduceAdd]
  repeat (first
    | (refine SeqS.take (v := .agg (rowN 4 a).toArray) (by first | assumption | trivial) (by kernel_rfl) (by decide +kernel) (by decide +kernel) (yields_blk (by rfl) 45 (.tmp 2) rfl rfl (fun w' h => XX.out w' h) (row4 _)) ?_; simp only [Act.put, List.setIfInBounds_toArray, List.set_cons_zero, List.set_cons_succ])
    | (refine SeqS.take (v := .agg (rowN 4 b).toArray) (by first | assumption | trivial) (by kernel_rfl) (by decide +kernel) (by decide +kernel) (yields_blk (by rfl) 45 (.tmp 3) rfl rfl (fun w' h => YY.out w' h) (row4 _)) ?_; simp only [Act.put, List.setIfInBounds_toArray, List.set_cons_zero, List.set_cons_succ])
    | (refine SeqS.take1 (v := .agg (rowN 4 a).toArray) (by first | assumption | trivial) (by kernel_rfl) (by decide +kernel) (by decide +kernel) (yields_blk (by rfl) 45 (.tmp 2) rfl rfl (fun w' h => XX.out w' h) (row4 _)) ?_; simp only [Act.put, List.setIfInBounds_toArray, List.set_cons_zero, List.set_cons_succ])
    | (refine SeqS.take1 (v := .agg (rowN 4 b).toArray) (by first | assumption | trivial) (by kernel_rfl) (by decide +kernel) (by decide +kernel) (yields_blk (by rfl) 45 (.tmp 3) rfl rfl (fun w' h => YY.out w' h) (row4 _)) ?_; simp only [Act.put, List.setIfInBounds_toArray, List.set_cons_zero, List.set_cons_succ]))
  obtain ⟨v0, hv⟩ : ∃ v0, W0.drew = v0 := ⟨_, rfl⟩
  rw [hv] at hS ⊢
  have S0 := hS
  clear hv hS
  refine SeqS.branch (rs := [1, 4, 5]) (by decide +kernel) ?_
  intro k hk
  simp only [List.mem_cons, List.not_mem_nil, or_false] at hk
  rcases hk with rfl | rfl | rfl
  · refine ⟨[], _, [_, _, _, _, _], rfl, by rfl, fun K hK => ?_⟩
    go_simp
    refine (cMix_any a v0 ha.out).mono ?_
    rintro e v1 ⟨rfl, h1⟩
    have S1 : Below W0.heap.size W0 v1 := S0.trans (h1.mono S0.size)
    go_simp
    refine hK _ _ S1 ?_
    clear hK K h1
    refine SeqS.branch (rs := [3, 4, 5]) (by decide +kernel) ?_
    intro k hk
    simp only [List.mem_cons, List.not_mem_nil, or_false] at hk
    rcases hk with rfl | rfl | rfl
    · refine ⟨[], _, [_, _, _, _], rfl, by rfl, fun K hK => ?_⟩
      go_simp
      refine (cMix_any b v1 hb.out).mono ?_
      rintro e v2 ⟨rfl, h1⟩
      have S2 : Below W0.heap.size W0 v2 := S1.trans (h1.mono S1.size)
      go_simp
      refine hK _ _ S2 ?_
      clear hK K h1
      refine SeqS.branch (rs := [4, 5]) (by decide +kernel) ?_
      intro k hk
      simp only [List.mem_cons, List.not_mem_nil, or_false] at hk
      rcases hk with rfl | rfl
      · refine ⟨[], _, [_, _, _], rfl, by rfl, fun K hK => ?_⟩
        refine wp_alloc_blk 45 rfl zero4 ?_
        have hp := Blk.new v2 45 (rowN 4 zf)
        have b1 := below1 v2 (.cells (rowN 4 zf).toArray 45)
        have S3 := S2.trans (b1.mono S2.size)
        have pge : W0.heap.size ≤ v2.heap.size := S2.size
        obtain ⟨v3, hv⟩ : ∃ v3, v2.alloc (.cells (rowN 4 zf).toArray 45) = v3 := ⟨_, rfl⟩
        obtain ⟨p, hpe⟩ : ∃ p, v2.heap.size = p := ⟨_, rfl⟩
        rw [hv] at hp S3 ⊢
        rw [hpe] at hp pge ⊢
        clear hv hpe b1
        refine hK _ _ S3 ?_
        clear hK K
        simp only [Act.put, List.setIfInBounds_toArray, List.set_cons_zero, List.set_cons_succ]
        refine SeqS.branch (rs := [5]) (by decide +kernel) ?_
        intro k hk
        simp only [List.mem_cons, List.not_mem_nil, or_false] at hk
        subst hk
        · refine ⟨[], _, [_, _], rfl, by rfl, fun K hK => ?_⟩
          refine wp_alloc_blk 45 rfl zero4 ?_
          have hq := Blk.new v3 45 (rowN 4 zf)
          have b1 := below1 v3 (.cells (rowN 4 zf).toArray 45)
          have S4 := S3.trans (b1.mono S3.size)
          have qge : W0.heap.size ≤ v3.heap.size := S3.size
          have hpq : p ≠ v3.heap.size := Nat.ne_of_lt hp.lt
          have hp := hp.keep b1 hp.lt
          obtain ⟨v4, hv⟩ : ∃ v4, v3.alloc (.cells (rowN 4 zf).toArray 45) = v4 := ⟨_, rfl⟩
          obtain ⟨q, hpe⟩ : ∃ q, v3.heap.size = q := ⟨_, rfl⟩
          rw [hv] at hq S4 ⊢
          rw [hpe] at hq qge ⊢
          rw [hv] at hp
          rw [hpe] at hpq
          clear hv hpe b1
          refine hK _ _ S4 ?_
          clear hK K
          simp only [Act.put, List.setIfInBounds_toArray, List.set_cons_zero, List.set_cons_succ]
          refine SeqS.alone (by decide +kernel) (by rfl) (fun K hK => ?_)
          refine wp_store_part 45 (.tmp 5) (.tmp 11) rfl (cs := rowN 4 (mixc a)) rfl rfl hp (row4 _) (fit4 _ _) (rowN_one 4 _) ?_
          intro u1 hp1 hg1
          rw [over4] at hp1
          have hq1 := hq.grown hg1 (by intro e; injection e with e; first | exact hpq e | exact hpq e.symm)
          have T1 : Below W0.heap.size W0 u1 := S4.trans (below_of_grown hg1 pge hp.lt)
          refine hK _ _ T1 ?_
          clear hK K
          refine SeqS.alone (by decide +kernel) (by rfl) (fun K hK => ?_)
          refine wp_store_part 45 (.tmp 6) (.tmp 13) rfl (cs := rowN 4 (mixc b)) rfl rfl hq1 (row4 _) (fit4 _ _) (rowN_one 4 _) ?_
          intro u2 hq2 hg2
          rw [over4] at hq2
          have hp2 := hp1.grown hg2 (by intro e; injection e with e; first | exact hpq e | exact hpq e.symm)
          have T2 : Below W0.heap.size W0 u2 := T1.trans (below_of_grown hg2 qge hq1.lt)
          refine hK _ _ T2 ?_
          clear hK K
          refine SeqS.done (by decide +kernel) ?_
          exact hfin p q u2 (by first | exact hpq | exact hpq.symm) hp2 hq2 T2
      · refine ⟨[_], _, [_, _], rfl, by rfl, fun K hK => ?_⟩
        refine wp_alloc_blk 45 rfl zero4 ?_
        have hq := Blk.new v2 45 (rowN 4 zf)
        have b1 := below1 v2 (.cells (rowN 4 zf).toArray 45)
        have S3 := S2.trans (b1.mono S2.size)
        have qge : W0.heap.size ≤ v2.heap.size := S2.size
        obtain ⟨v3, hv⟩ : ∃ v3, v2.alloc (.cells (rowN 4 zf).toArray 45) = v3 := ⟨_, rfl⟩
        obtain ⟨q, hpe⟩ : ∃ q, v2.heap.size = q := ⟨_, rfl⟩
        rw [hv] at hq S3 ⊢
        rw [hpe] at hq qge ⊢
        clear hv hpe b1
        refine hK _ _ S3 ?_
        clear hK K
        simp only [Act.put, List.setIfInBounds_toArray, List.set_cons_zero, List.set_cons_succ]
        refine SeqS.branch (rs := [4]) (by decide +kernel) ?_
        intro k hk
        simp only [List.mem_cons, List.not_mem_nil, or_false] at hk
        subst hk
        · refine ⟨[], _, [_, _], rfl, by rfl, fun K hK => ?_⟩
          refine wp_alloc_blk 45 rfl zero4 ?_
          have hp := Blk.new v3 45 (rowN 4 zf)
          have b1 := below1 v3 (.cells (rowN 4 zf).toArray 45)
          have S4 := S3.trans (b1.mono S3.size)
          have pge : W0.heap.size ≤ v3.heap.size := S3.size
          have hpq : q ≠ v3.heap.size := Nat.ne_of_lt hq.lt
          have hq := hq.keep b1 hq.lt
          obtain ⟨v4, hv⟩ : ∃ v4, v3.alloc (.cells (rowN 4 zf).toArray 45) = v4 := ⟨_, rfl⟩
          obtain ⟨p, hpe⟩ : ∃ p, v3.heap.size = p := ⟨_, rfl⟩
          rw [hv] at hp S4 ⊢
          rw [hpe] at hp pge ⊢
          rw [hv] at hq
          rw [hpe] at hpq
          clear hv hpe b1
          refine hK _ _ S4 ?_
          clear hK K
          simp only [Act.put, List.setIfInBounds_toArray, List.set_cons_zero, List.set_cons_succ]
          refine SeqS.alone (by decide +kernel) (by rfl) (fun K hK => ?_)
          refine wp_store_part 45 (.tmp 5) (.tmp 11) rfl (cs := rowN 4 (mixc a)) rfl rfl hp (row4 _) (fit4 _ _) (rowN_one 4 _) ?_
          intro u1 hp1 hg1
          rw [over4] at hp1
          have hq1 := hq.grown hg1 (by intro e; injection e with e; first | exact hpq e | exact hpq e.symm)
          have T1 : Below W0.heap.size W0 u1 := S4.trans (below_of_grown hg1 pge hp.lt)
          refine hK _ _ T1 ?_
          clear hK K
          refine SeqS.alone (by decide +kernel) (by rfl) (fun K hK => ?_)
          refine wp_store_part 45 (.tmp 6) (.tmp 13) rfl (cs := rowN 4 (mixc b)) rfl rfl hq1 (row4 _) (fit4 _ _) (rowN_one 4 _) ?_
          intro u2 hq2 hg2
          rw [over4] at hq2
          have hp2 := hp1.grown hg2 (by intro e; injection e with e; first | exact hpq e | exact hpq e.symm)
          have T2 : Below W0.heap.size W0 u2 := T1.trans (below_of_grown hg2 qge hq1.lt)
          refine hK _ _ T2 ?_
          clear hK K
          refine SeqS.done (by decide +kernel) ?_
          exact hfin p q u2 (by first | exact hpq | exact hpq.symm) hp2 hq2 T2
    · refine ⟨[_], _, [_, _, _], rfl, by rfl, fun K hK => ?_⟩
      refine wp_alloc_blk 45 rfl zero4 ?_
      have hp := Blk.new v1 45 (rowN 4 zf)
      have b1 := below1 v1 (.cells (rowN 4 zf).toArray 45)
      have S2 := S1.trans (b1.mono S1.size)
      have pge : W0.heap.size ≤ v1.heap.size := S1.size
      obtain ⟨v2, hv⟩ : ∃ v2, v1.alloc (.cells (rowN 4 zf).toArray 45) = v2 := ⟨_, rfl⟩
      obtain ⟨p, hpe⟩ : ∃ p, v1.heap.size = p := ⟨_, rfl⟩
      rw [hv] at hp S2 ⊢
      rw [hpe] at hp pge ⊢
      clear hv hpe b1
      refine hK _ _ S2 ?_
      clear hK K
      simp only [Act.put, List.setIfInBounds_toArray, List.set_cons_zero, List.set_cons_succ]
      refine SeqS.branch (rs := [3, 5]) (by decide +kernel) ?_
      intro k hk
      simp only [List.mem_cons, List.not_mem_nil, or_false] at hk
      rcases hk with rfl | rfl
      · refine ⟨[], _, [_, _, _], rfl, by rfl, fun K hK => ?_⟩
        go_simp
        refine (cMix_any b v2 hb.out).mono ?_
        rintro e v3 ⟨rfl, h1⟩
        have S3 : Below W0.heap.size W0 v3 := S2.trans (h1.mono S2.size)
        have hp := hp.keep h1 hp.lt
        go_simp
        refine hK _ _ S3 ?_
        clear hK K h1
        refine SeqS.branch (rs := [5]) (by decide +kernel) ?_
        intro k hk
        simp only [List.mem_cons, List.not_mem_nil, or_false] at hk
        subst hk
        · refine ⟨[], _, [_, _], rfl, by rfl, fun K hK => ?_⟩
          refine wp_alloc_blk 45 rfl zero4 ?_
          have hq := Blk.new v3 45 (rowN 4 zf)
          have b1 := below1 v3 (.cells (rowN 4 zf).toArray 45)
          have S4 := S3.trans (b1.mono S3.size)
          have qge : W0.heap.size ≤ v3.heap.size := S3.size
          have hpq : p ≠ v3.heap.size := Nat.ne_of_lt hp.lt
          have hp := hp.keep b1 hp.lt
          obtain ⟨v4, hv⟩ : ∃ v4, v3.alloc (.cells (rowN 4 zf).toArray 45) = v4 := ⟨_, rfl⟩
          obtain ⟨q, hpe⟩ : ∃ q, v3.heap.size = q := ⟨_, rfl⟩
          rw [hv] at hq S4 ⊢
          rw [hpe] at hq qge ⊢
          rw [hv] at hp
          rw [hpe] at hpq
          clear hv hpe b1
          refine hK _ _ S4 ?_
          clear hK K
          simp only [Act.put, List.setIfInBounds_toArray, List.set_cons_zero, List.set_cons_succ]
          refine SeqS.alone (by decide +kernel) (by rfl) (fun K hK => ?_)
          refine wp_store_part 45 (.tmp 5) (.tmp 11) rfl (cs := rowN 4 (mixc a)) rfl rfl hp (row4 _) (fit4 _ _) (rowN_one 4 _) ?_
          intro u1 hp1 hg1
          rw [over4] at hp1
          have hq1 := hq.grown hg1 (by intro e; injection e with e; first | exact hpq e | exact hpq e.symm)
          have T1 : Below W0.heap.size W0 u1 := S4.trans (below_of_grown hg1 pge hp.lt)
          refine hK _ _ T1 ?_
          clear hK K
          refine SeqS.alone (by decide +kernel) (by rfl) (fun K hK => ?_)
          refine wp_store_part 45 (.tmp 6) (.tmp 13) rfl (cs := rowN 4 (mixc b)) rfl rfl hq1 (row4 _) (fit4 _ _) (rowN_one 4 _) ?_
          intro u2 hq2 hg2
          rw [over4] at hq2
          have hp2 := hp1.grown hg2 (by intro e; injection e with e; first | exact hpq e | exact hpq e.symm)
          have T2 : Below W0.heap.size W0 u2 := T1.trans (below_of_grown hg2 qge hq1.lt)
          refine hK _ _ T2 ?_
          clear hK K
          refine SeqS.done (by decide +kernel) ?_
          exact hfin p q u2 (by first | exact hpq | exact hpq.symm) hp2 hq2 T2
      · refine ⟨[_], _, [_, _], rfl, by rfl, fun K hK => ?_⟩
        refine wp_alloc_blk 45 rfl zero4 ?_
        have hq := Blk.new v2 45 (rowN 4 zf)
        have b1 := below1 v2 (.cells (rowN 4 zf).toArray 45)
        have S3 := S2.trans (b1.mono S2.size)
        have qge : W0.heap.size ≤ v2.heap.size := S2.size
        have hpq : p ≠ v2.heap.size := Nat.ne_of_lt hp.lt
        have hp := hp.keep b1 hp.lt
        obtain ⟨v3, hv⟩ : ∃ v3, v2.alloc (.cells (rowN 4 zf).toArray 45) = v3 := ⟨_, rfl⟩
        obtain ⟨q, hpe⟩ : ∃ q, v2.heap.size = q := ⟨_, rfl⟩
        rw [hv] at hq S3 ⊢
        rw [hpe] at hq qge ⊢
        rw [hv] at hp
        rw [hpe] at hpq
        clear hv hpe b1
        refine hK _ _ S3 ?_
        clear hK K
        simp only [Act.put, List.setIfInBounds_toArray, List.set_cons_zero, List.set_cons_succ]
        refine SeqS.branch (rs := [3]) (by decide +kernel) ?_
        intro k hk
        simp only [List.mem_cons, List.not_mem_nil, or_false] at hk
        subst hk
        · refine ⟨[], _, [_, _], rfl, by rfl, fun K hK => ?_⟩
          go_simp
          refine (cMix_any b v3 hb.out).mono ?_
          rintro e v4 ⟨rfl, h1⟩
          have S4 : Below W0.heap.size W0 v4 := S3.trans (h1.mono S3.size)
          have hp := hp.keep h1 hp.lt
          have hq := hq.keep h1 hq.lt
          go_simp
          refine hK _ _ S4 ?_
          clear hK K h1
          refine SeqS.alone (by decide +kernel) (by rfl) (fun K hK => ?_)
          refine wp_store_part 45 (.tmp 5) (.tmp 11) rfl (cs := rowN 4 (mixc a)) rfl rfl hp (row4 _) (fit4 _ _) (rowN_one 4 _) ?_
          intro u1 hp1 hg1
          rw [over4] at hp1
          have hq1 := hq.grown hg1 (by intro e; injection e with e; first | exact hpq e | exact hpq e.symm)
          have T1 : Below W0.heap.size W0 u1 := S4.trans (below_of_grown hg1 pge hp.lt)
          refine hK _ _ T1 ?_
          clear hK K
          refine SeqS.alone (by decide +kernel) (by rfl) (fun K hK => ?_)
          refine wp_store_part 45 (.tmp 6) (.tmp 13) rfl (cs := rowN 4 (mixc b)) rfl rfl hq1 (row4 _) (fit4 _ _) (rowN_one 4 _) ?_
          intro u2 hq2 hg2
          rw [over4] at hq2
          have hp2 := hp1.grown hg2 (by intro e; injection e with e; first | exact hpq e | exact hpq e.symm)
          have T2 : Below W0.heap.size W0 u2 := T1.trans (below_of_grown hg2 qge hq1.lt)
          refine hK _ _ T2 ?_
          clear hK K
          refine SeqS.done (by decide +kernel) ?_
          exact hfin p q u2 (by first | exact hpq | exact hpq.symm) hp2 hq2 T2
    · refine ⟨[_, _], _, [_, _], rfl, by rfl, fun K hK => ?_⟩
      refine wp_alloc_blk 45 rfl zero4 ?_
      have hq := Blk.new v1 45 (rowN 4 zf)
      have b1 := below1 v1 (.cells (rowN 4 zf).toArray 45)
      have S2 := S1.trans (b1.mono S1.size)
      have qge : W0.heap.size ≤ v1.heap.size := S1.size
      obtain ⟨v2, hv⟩ : ∃ v2, v1.alloc (.cells (rowN 4 zf).toArray 45) = v2 := ⟨_, rfl⟩
      obtain ⟨q, hpe⟩ : ∃ q, v1.heap.size = q := ⟨_, rfl⟩
      rw [hv] at hq S2 ⊢
      rw [hpe] at hq qge ⊢
      clear hv hpe b1
      refine hK _ _ S2 ?_
      clear hK K
      simp only [Act.put, List.setIfInBounds_toArray, List.set_cons_zero, List.set_cons_succ]
      refine SeqS.branch (rs := [3, 4]) (by decide +kernel) ?_
      intro k hk
      simp only [List.mem_cons, List.not_mem_nil, or_false] at hk
      rcases hk with rfl | rfl
      · refine ⟨[], _, [_, _, _], rfl, by rfl, fun K hK => ?_⟩
        go_simp
        refine (cMix_any b v2 hb.out).mono ?_
        rintro e v3 ⟨rfl, h1⟩
        have S3 : Below W0.heap.size W0 v3 := S2.trans (h1.mono S2.size)
        have hq := hq.keep h1 hq.lt
        go_simp
        refine hK _ _ S3 ?_
        clear hK K h1
        refine SeqS.branch (rs := [4]) (by decide +kernel) ?_
        intro k hk
        simp only [List.mem_cons, List.not_mem_nil, or_false] at hk
        subst hk
        · refine ⟨[], _, [_, _], rfl, by rfl, fun K hK => ?_⟩
          refine wp_alloc_blk 45 rfl zero4 ?_
          have hp := Blk.new v3 45 (rowN 4 zf)
          have b1 := below1 v3 (.cells (rowN 4 zf).toArray 45)
          have S4 := S3.trans (b1.mono S3.size)
          have pge : W0.heap.size ≤ v3.heap.size := S3.size
          have hpq : q ≠ v3.heap.size := Nat.ne_of_lt hq.lt
          have hq := hq.keep b1 hq.lt
          obtain ⟨v4, hv⟩ : ∃ v4, v3.alloc (.cells (rowN 4 zf).toArray 45) = v4 := ⟨_, rfl⟩
          obtain ⟨p, hpe⟩ : ∃ p, v3.heap.size = p := ⟨_, rfl⟩
          rw [hv] at hp S4 ⊢
          rw [hpe] at hp pge ⊢
          rw [hv] at hq
          rw [hpe] at hpq
          clear hv hpe b1
          refine hK _ _ S4 ?_
          clear hK K
          simp only [Act.put, List.setIfInBounds_toArray, List.set_cons_zero, List.set_cons_succ]
          refine SeqS.alone (by decide +kernel) (by rfl) (fun K hK => ?_)
          refine wp_store_part 45 (.tmp 5) (.tmp 11) rfl (cs := rowN 4 (mixc a)) rfl rfl hp (row4 _) (fit4 _ _) (rowN_one 4 _) ?_
          intro u1 hp1 hg1
          rw [over4] at hp1
          have hq1 := hq.grown hg1 (by intro e; injection e with e; first | exact hpq e | exact hpq e.symm)
          have T1 : Below W0.heap.size W0 u1 := S4.trans (below_of_grown hg1 pge hp.lt)
          refine hK _ _ T1 ?_
          clear hK K
          refine SeqS.alone (by decide +kernel) (by rfl) (fun K hK => ?_)
          refine wp_store_part 45 (.tmp 6) (.tmp 13) rfl (cs := rowN 4 (mixc b)) rfl rfl hq1 (row4 _) (fit4 _ _) (rowN_one 4 _) ?_
          intro u2 hq2 hg2
          rw [over4] at hq2
          have hp2 := hp1.grown hg2 (by intro e; injection e with e; first | exact hpq e | exact hpq e.symm)
          have T2 : Below W0.heap.size W0 u2 := T1.trans (below_of_grown hg2 qge hq1.lt)
          refine hK _ _ T2 ?_
          clear hK K
          refine SeqS.done (by decide +kernel) ?_
          exact hfin p q u2 (by first | exact hpq | exact hpq.symm) hp2 hq2 T2
      · refine ⟨[_], _, [_, _], rfl, by rfl, fun K hK => ?_⟩
        refine wp_alloc_blk 45 rfl zero4 ?_
        have hp := Blk.new v2 45 (rowN 4 zf)
        have b1 := below1 v2 (.cells (rowN 4 zf).toArray 45)
        have S3 := S2.trans (b1.mono S2.size)
        have pge : W0.heap.size ≤ v2.heap.size := S2.size
        have hpq : q ≠ v2.heap.size := Nat.ne_of_lt hq.lt
        have hq := hq.keep b1 hq.lt
        obtain ⟨v3, hv⟩ : ∃ v3, v2.alloc (.cells (rowN 4 zf).toArray 45) = v3 := ⟨_, rfl⟩
        obtain ⟨p, hpe⟩ : ∃ p, v2.heap.size = p := ⟨_, rfl⟩
        rw [hv] at hp S3 ⊢
        rw [hpe] at hp pge ⊢
        rw [hv] at hq
        rw [hpe] at hpq
        clear hv hpe b1
        refine hK _ _ S3 ?_
        clear hK K
        simp only [Act.put, List.setIfInBounds_toArray, List.set_cons_zero, List.set_cons_succ]
        refine SeqS.branch (rs := [3]) (by decide +kernel) ?_
        intro k hk
        simp only [List.mem_cons, List.not_mem_nil, or_false] at hk
        subst hk
        · refine ⟨[], _, [_, _], rfl, by rfl, fun K hK => ?_⟩
          go_simp
          refine (cMix_any b v3 hb.out).mono ?_
          rintro e v4 ⟨rfl, h1⟩
          have S4 : Below W0.heap.size W0 v4 := S3.trans (h1.mono S3.size)
          have hp := hp.keep h1 hp.lt
          have hq := hq.keep h1 hq.lt
          go_simp
          refine hK _ _ S4 ?_
          clear hK K h1
          refine SeqS.alone (by decide +kernel) (by rfl) (fun K hK => ?_)
          refine wp_store_part 45 (.tmp 5) (.tmp 11) rfl (cs := rowN 4 (mixc a)) rfl rfl hp (row4 _) (fit4 _ _) (rowN_one 4 _) ?_
          intro u1 hp1 hg1
          rw [over4] at hp1
          have hq1 := hq.grown hg1 (by intro e; injection e with e; first | exact hpq e | exact hpq e.symm)
          have T1 : Below W0.heap.size W0 u1 := S4.trans (below_of_grown hg1 pge hp.lt)
          refine hK _ _ T1 ?_
          clear hK K
          refine SeqS.alone (by decide +kernel) (by rfl) (fun K hK => ?_)
          refine wp_store_part 45 (.tmp 6) (.tmp 13) rfl (cs := rowN 4 (mixc b)) rfl rfl hq1 (row4 _) (fit4 _ _) (rowN_one 4 _) ?_
          intro u2 hq2 hg2
          rw [over4] at hq2
          have hp2 := hp1.grown hg2 (by intro e; injection e with e; first | exact hpq e | exact hpq e.symm)
          have T2 : Below W0.heap.size W0 u2 := T1.trans (below_of_grown hg2 qge hq1.lt)
          refine hK _ _ T2 ?_
          clear hK K
          refine SeqS.done (by decide +kernel) ?_
          exact hfin p q u2 (by first | exact hpq | exact hpq.symm) hp2 hq2 T2
  · refine ⟨[_, _], _, [_, _, _], rfl, by rfl, fun K hK => ?_⟩
    refine wp_alloc_blk 45 rfl zero4 ?_
    have hp := Blk.new v0 45 (rowN 4 zf)
    have b1 := below1 v0 (.cells (rowN 4 zf).toArray 45)
    have S1 := S0.trans (b1.mono S0.size)
    have pge : W0.heap.size ≤ v0.heap.size := S0.size
    obtain ⟨v1, hv⟩ : ∃ v1, v0.alloc (.cells (rowN 4 zf).toArray 45) = v1 := ⟨_, rfl⟩
    obtain ⟨p, hpe⟩ : ∃ p, v0.heap.size = p := ⟨_, rfl⟩
    rw [hv] at hp S1 ⊢
    rw [hpe] at hp pge ⊢
    clear hv hpe b1
    refine hK _ _ S1 ?_
    clear hK K
    simp only [Act.put, List.setIfInBounds_toArray, List.set_cons_zero, List.set_cons_succ]
    refine SeqS.branch (rs := [1, 5]) (by decide +kernel) ?_
    intro k hk
    simp only [List.mem_cons, List.not_mem_nil, or_false] at hk
    rcases hk with rfl | rfl
    · refine ⟨[], _, [_, _, _, _], rfl, by rfl, fun K hK => ?_⟩
      go_simp
      refine (cMix_any a v1 ha.out).mono ?_
      rintro e v2 ⟨rfl, h1⟩
      have S2 : Below W0.heap.size W0 v2 := S1.trans (h1.mono S1.size)
      have hp := hp.keep h1 hp.lt
      go_simp
      refine hK _ _ S2 ?_
      clear hK K h1
      refine SeqS.branch (rs := [3, 5]) (by decide +kernel) ?_
      intro k hk
      simp only [List.mem_cons, List.not_mem_nil, or_false] at hk
      rcases hk with rfl | rfl
      · refine ⟨[], _, [_, _, _], rfl, by rfl, fun K hK => ?_⟩
        go_simp
        refine (cMix_any b v2 hb.out).mono ?_
        rintro e v3 ⟨rfl, h1⟩
        have S3 : Below W0.heap.size W0 v3 := S2.trans (h1.mono S2.size)
        have hp := hp.keep h1 hp.lt
        go_simp
        refine hK _ _ S3 ?_
        clear hK K h1
        refine SeqS.branch (rs := [5]) (by decide +kernel) ?_
        intro k hk
        simp only [List.mem_cons, List.not_mem_nil, or_false] at hk
        subst hk
        · refine ⟨[], _, [_, _], rfl, by rfl, fun K hK => ?_⟩
          refine wp_alloc_blk 45 rfl zero4 ?_
          have hq := Blk.new v3 45 (rowN 4 zf)
          have b1 := below1 v3 (.cells (rowN 4 zf).toArray 45)
          have S4 := S3.trans (b1.mono S3.size)
          have qge : W0.heap.size ≤ v3.heap.size := S3.size
          have hpq : p ≠ v3.heap.size := Nat.ne_of_lt hp.lt
          have hp := hp.keep b1 hp.lt
          obtain ⟨v4, hv⟩ : ∃ v4, v3.alloc (.cells (rowN 4 zf).toArray 45) = v4 := ⟨_, rfl⟩
          obtain ⟨q, hpe⟩ : ∃ q, v3.heap.size = q := ⟨_, rfl⟩
          rw [hv] at hq S4 ⊢
          rw [hpe] at hq qge ⊢
          rw [hv] at hp
          rw [hpe] at hpq
          clear hv hpe b1
          refine hK _ _ S4 ?_
          clear hK K
          simp only [Act.put, List.setIfInBounds_toArray, List.set_cons_zero, List.set_cons_succ]
          refine SeqS.alone (by decide +kernel) (by rfl) (fun K hK => ?_)
          refine wp_store_part 45 (.tmp 5) (.tmp 11) rfl (cs := rowN 4 (mixc a)) rfl rfl hp (row4 _) (fit4 _ _) (rowN_one 4 _) ?_
          intro u1 hp1 hg1
          rw [over4] at hp1
          have hq1 := hq.grown hg1 (by intro e; injection e with e; first | exact hpq e | exact hpq e.symm)
          have T1 : Below W0.heap.size W0 u1 := S4.trans (below_of_grown hg1 pge hp.lt)
          refine hK _ _ T1 ?_
          clear hK K
          refine SeqS.alone (by decide +kernel) (by rfl) (fun K hK => ?_)
          refine wp_store_part 45 (.tmp 6) (.tmp 13) rfl (cs := rowN 4 (mixc b)) rfl rfl hq1 (row4 _) (fit4 _ _) (rowN_one 4 _) ?_
          intro u2 hq2 hg2
          rw [over4] at hq2
          have hp2 := hp1.grown hg2 (by intro e; injection e with e; first | exact hpq e | exact hpq e.symm)
          have T2 : Below W0.heap.size W0 u2 := T1.trans (below_of_grown hg2 qge hq1.lt)
          refine hK _ _ T2 ?_
          clear hK K
          refine SeqS.done (by decide +kernel) ?_
          exact hfin p q u2 (by first | exact hpq | exact hpq.symm) hp2 hq2 T2
      · refine ⟨[_], _, [_, _], rfl, by rfl, fun K hK => ?_⟩
        refine wp_alloc_blk 45 rfl zero4 ?_
        have hq := Blk.new v2 45 (rowN 4 zf)
        have b1 := below1 v2 (.cells (rowN 4 zf).toArray 45)
        have S3 := S2.trans (b1.mono S2.size)
        have qge : W0.heap.size ≤ v2.heap.size := S2.size
        have hpq : p ≠ v2.heap.size := Nat.ne_of_lt hp.lt
        have hp := hp.keep b1 hp.lt
        obtain ⟨v3, hv⟩ : ∃ v3, v2.alloc (.cells (rowN 4 zf).toArray 45) = v3 := ⟨_, rfl⟩
        obtain ⟨q, hpe⟩ : ∃ q, v2.heap.size = q := ⟨_, rfl⟩
        rw [hv] at hq S3 ⊢
        rw [hpe] at hq qge ⊢
        rw [hv] at hp
        rw [hpe] at hpq
        clear hv hpe b1
        refine hK _ _ S3 ?_
        clear hK K
        simp only [Act.put, List.setIfInBounds_toArray, List.set_cons_zero, List.set_cons_succ]
        refine SeqS.branch (rs := [3]) (by decide +kernel) ?_
        intro k hk
        simp only [List.mem_cons, List.not_mem_nil, or_false] at hk
        subst hk
        · refine ⟨[], _, [_, _], rfl, by rfl, fun K hK => ?_⟩
          go_simp
          refine (cMix_any b v3 hb.out).mono ?_
          rintro e v4 ⟨rfl, h1⟩
          have S4 : Below W0.heap.size W0 v4 := S3.trans (h1.mono S3.size)
          have hp := hp.keep h1 hp.lt
          have hq := hq.keep h1 hq.lt
          go_simp
          refine hK _ _ S4 ?_
          clear hK K h1
          refine SeqS.alone (by decide +kernel) (by rfl) (fun K hK => ?_)
          refine wp_store_part 45 (.tmp 5) (.tmp 11) rfl (cs := rowN 4 (mixc a)) rfl rfl hp (row4 _) (fit4 _ _) (rowN_one 4 _) ?_
          intro u1 hp1 hg1
          rw [over4] at hp1
          have hq1 := hq.grown hg1 (by intro e; injection e with e; first | exact hpq e | exact hpq e.symm)
          have T1 : Below W0.heap.size W0 u1 := S4.trans (below_of_grown hg1 pge hp.lt)
          refine hK _ _ T1 ?_
          clear hK K
          refine SeqS.alone (by decide +kernel) (by rfl) (fun K hK => ?_)
          refine wp_store_part 45 (.tmp 6) (.tmp 13) rfl (cs := rowN 4 (mixc b)) rfl rfl hq1 (row4 _) (fit4 _ _) (rowN_one 4 _) ?_
          intro u2 hq2 hg2
          rw [over4] at hq2
          have hp2 := hp1.grown hg2 (by intro e; injection e with e; first | exact hpq e | exact hpq e.symm)
          have T2 : Below W0.heap.size W0 u2 := T1.trans (below_of_grown hg2 qge hq1.lt)
          refine hK _ _ T2 ?_
          clear hK K
          refine SeqS.done (by decide +kernel) ?_
          exact hfin p q u2 (by first | exact hpq | exact hpq.symm) hp2 hq2 T2
    · refine ⟨[_, _], _, [_, _], rfl, by rfl, fun K hK => ?_⟩
      refine wp_alloc_blk 45 rfl zero4 ?_
      have hq := Blk.new v1 45 (rowN 4 zf)
      have b1 := below1 v1 (.cells (rowN 4 zf).toArray 45)
      have S2 := S1.trans (b1.mono S1.size)
      have qge : W0.heap.size ≤ v1.heap.size := S1.size
      have hpq : p ≠ v1.heap.size := Nat.ne_of_lt hp.lt
      have hp := hp.keep b1 hp.lt
      obtain ⟨v2, hv⟩ : ∃ v2, v1.alloc (.cells (rowN 4 zf).toArray 45) = v2 := ⟨_, rfl⟩
      obtain ⟨q, hpe⟩ : ∃ q, v1.heap.size = q := ⟨_, rfl⟩
      rw [hv] at hq S2 ⊢
      rw [hpe] at hq qge ⊢
      rw [hv] at hp
      rw [hpe] at hpq
      clear hv hpe b1
      refine hK _ _ S2 ?_
      clear hK K
      simp only [Act.put, List.setIfInBounds_toArray, List.set_cons_zero, List.set_cons_succ]
      refine SeqS.branch (rs := [1]) (by decide +kernel) ?_
      intro k hk
      simp only [List.mem_cons, List.not_mem_nil, or_false] at hk
      subst hk
      · refine ⟨[], _, [_, _, _], rfl, by rfl, fun K hK => ?_⟩
        go_simp
        refine (cMix_any a v2 ha.out).mono ?_
        rintro e v3 ⟨rfl, h1⟩
        have S3 : Below W0.heap.size W0 v3 := S2.trans (h1.mono S2.size)
        have hp := hp.keep h1 hp.lt
        have hq := hq.keep h1 hq.lt
        go_simp
        refine hK _ _ S3 ?_
        clear hK K h1
        refine SeqS.branch (rs := [3]) (by decide +kernel) ?_
        intro k hk
        simp only [List.mem_cons, List.not_mem_nil, or_false] at hk
        subst hk
        · refine ⟨[], _, [_, _], rfl, by rfl, fun K hK => ?_⟩
          go_simp
          refine (cMix_any b v3 hb.out).mono ?_
          rintro e v4 ⟨rfl, h1⟩
          have S4 : Below W0.heap.size W0 v4 := S3.trans (h1.mono S3.size)
          have hp := hp.keep h1 hp.lt
          have hq := hq.keep h1 hq.lt
          go_simp
          refine hK _ _ S4 ?_
          clear hK K h1
          refine SeqS.alone (by decide +kernel) (by rfl) (fun K hK => ?_)
          refine wp_store_part 45 (.tmp 5) (.tmp 11) rfl (cs := rowN 4 (mixc a)) rfl rfl hp (row4 _) (fit4 _ _) (rowN_one 4 _) ?_
          intro u1 hp1 hg1
          rw [over4] at hp1
          have hq1 := hq.grown hg1 (by intro e; injection e with e; first | exact hpq e | exact hpq e.symm)
          have T1 : Below W0.heap.size W0 u1 := S4.trans (below_of_grown hg1 pge hp.lt)
          refine hK _ _ T1 ?_
          clear hK K
          refine SeqS.alone (by decide +kernel) (by rfl) (fun K hK => ?_)
          refine wp_store_part 45 (.tmp 6) (.tmp 13) rfl (cs := rowN 4 (mixc b)) rfl rfl hq1 (row4 _) (fit4 _ _) (rowN_one 4 _) ?_
          intro u2 hq2 hg2
          rw [over4] at hq2
          have hp2 := hp1.grown hg2 (by intro e; injection e with e; first | exact hpq e | exact hpq e.symm)
          have T2 : Below W0.heap.size W0 u2 := T1.trans (below_of_grown hg2 qge hq1.lt)
          refine hK _ _ T2 ?_
          clear hK K
          refine SeqS.done (by decide +kernel) ?_
          exact hfin p q u2 (by first | exact hpq | exact hpq.symm) hp2 hq2 T2
  · refine ⟨[_, _, _], _, [_, _], rfl, by rfl, fun K hK => ?_⟩
    refine wp_alloc_blk 45 rfl zero4 ?_
    have hq := Blk.new v0 45 (rowN 4 zf)
    have b1 := below1 v0 (.cells (rowN 4 zf).toArray 45)
    have S1 := S0.trans (b1.mono S0.size)
    have qge : W0.heap.size ≤ v0.heap.size := S0.size
    obtain ⟨v1, hv⟩ : ∃ v1, v0.alloc (.cells (rowN 4 zf).toArray 45) = v1 := ⟨_, rfl⟩
    obtain ⟨q, hpe⟩ : ∃ q, v0.heap.size = q := ⟨_, rfl⟩
    rw [hv] at hq S1 ⊢
    rw [hpe] at hq qge ⊢
    clear hv hpe b1
    refine hK _ _ S1 ?_
    clear hK K
    simp only [Act.put, List.setIfInBounds_toArray, List.set_cons_zero, List.set_cons_succ]
    refine SeqS.branch (rs := [1, 4]) (by decide +kernel) ?_
    intro k hk
    simp only [List.mem_cons, List.not_mem_nil, or_false] at hk
    rcases hk with rfl | rfl
    · refine ⟨[], _, [_, _, _, _], rfl, by rfl, fun K hK => ?_⟩
      go_simp
      refine (cMix_any a v1 ha.out).mono ?_
      rintro e v2 ⟨rfl, h1⟩
      have S2 : Below W0.heap.size W0 v2 := S1.trans (h1.mono S1.size)
      have hq := hq.keep h1 hq.lt
      go_simp
      refine hK _ _ S2 ?_
      clear hK K h1
      refine SeqS.branch (rs := [3, 4]) (by decide +kernel) ?_
      intro k hk
      simp only [List.mem_cons, List.not_mem_nil, or_false] at hk
      rcases hk with rfl | rfl
      · refine ⟨[], _, [_, _, _], rfl, by rfl, fun K hK => ?_⟩
        go_simp
        refine (cMix_any b v2 hb.out).mono ?_
        rintro e v3 ⟨rfl, h1⟩
        have S3 : Below W0.heap.size W0 v3 := S2.trans (h1.mono S2.size)
        have hq := hq.keep h1 hq.lt
        go_simp
        refine hK _ _ S3 ?_
        clear hK K h1
        refine SeqS.branch (rs := [4]) (by decide +kernel) ?_
        intro k hk
        simp only [List.mem_cons, List.not_mem_nil, or_false] at hk
        subst hk
        · refine ⟨[], _, [_, _], rfl, by rfl, fun K hK => ?_⟩
          refine wp_alloc_blk 45 rfl zero4 ?_
          have hp := Blk.new v3 45 (rowN 4 zf)
          have b1 := below1 v3 (.cells (rowN 4 zf).toArray 45)
          have S4 := S3.trans (b1.mono S3.size)
          have pge : W0.heap.size ≤ v3.heap.size := S3.size
          have hpq : q ≠ v3.heap.size := Nat.ne_of_lt hq.lt
          have hq := hq.keep b1 hq.lt
          obtain ⟨v4, hv⟩ : ∃ v4, v3.alloc (.cells (rowN 4 zf).toArray 45) = v4 := ⟨_, rfl⟩
          obtain ⟨p, hpe⟩ : ∃ p, v3.heap.size = p := ⟨_, rfl⟩
          rw [hv] at hp S4 ⊢
          rw [hpe] at hp pge ⊢
          rw [hv] at hq
          rw [hpe] at hpq
          clear hv hpe b1
          refine hK _ _ S4 ?_
          clear hK K
          simp only [Act.put, List.setIfInBounds_toArray, List.set_cons_zero, List.set_cons_succ]
          refine SeqS.alone (by decide +kernel) (by rfl) (fun K hK => ?_)
          refine wp_store_part 45 (.tmp 5) (.tmp 11) rfl (cs := rowN 4 (mixc a)) rfl rfl hp (row4 _) (fit4 _ _) (rowN_one 4 _) ?_
          intro u1 hp1 hg1
          rw [over4] at hp1
          have hq1 := hq.grown hg1 (by intro e; injection e with e; first | exact hpq e | exact hpq e.symm)
          have T1 : Below W0.heap.size W0 u1 := S4.trans (below_of_grown hg1 pge hp.lt)
          refine hK _ _ T1 ?_
          clear hK K
          refine SeqS.alone (by decide +kernel) (by rfl) (fun K hK => ?_)
          refine wp_store_part 45 (.tmp 6) (.tmp 13) rfl (cs := rowN 4 (mixc b)) rfl rfl hq1 (row4 _) (fit4 _ _) (rowN_one 4 _) ?_
          intro u2 hq2 hg2
          rw [over4] at hq2
          have hp2 := hp1.grown hg2 (by intro e; injection e with e; first | exact hpq e | exact hpq e.symm)
          have T2 : Below W0.heap.size W0 u2 := T1.trans (below_of_grown hg2 qge hq1.lt)
          refine hK _ _ T2 ?_
          clear hK K
          refine SeqS.done (by decide +kernel) ?_
          exact hfin p q u2 (by first | exact hpq | exact hpq.symm) hp2 hq2 T2
      · refine ⟨[_], _, [_, _], rfl, by rfl, fun K hK => ?_⟩
        refine wp_alloc_blk 45 rfl zero4 ?_
        have hp := Blk.new v2 45 (rowN 4 zf)
        have b1 := below1 v2 (.cells (rowN 4 zf).toArray 45)
        have S3 := S2.trans (b1.mono S2.size)
        have pge : W0.heap.size ≤ v2.heap.size := S2.size
        have hpq : q ≠ v2.heap.size := Nat.ne_of_lt hq.lt
        have hq := hq.keep b1 hq.lt
        obtain ⟨v3, hv⟩ : ∃ v3, v2.alloc (.cells (rowN 4 zf).toArray 45) = v3 := ⟨_, rfl⟩
        obtain ⟨p, hpe⟩ : ∃ p, v2.heap.size = p := ⟨_, rfl⟩
        rw [hv] at hp S3 ⊢
        rw [hpe] at hp pge ⊢
        rw [hv] at hq
        rw [hpe] at hpq
        clear hv hpe b1
        refine hK _ _ S3 ?_
        clear hK K
        simp only [Act.put, List.setIfInBounds_toArray, List.set_cons_zero, List.set_cons_succ]
        refine SeqS.branch (rs := [3]) (by decide +kernel) ?_
        intro k hk
        simp only [List.mem_cons, List.not_mem_nil, or_false] at hk
        subst hk
        · refine ⟨[], _, [_, _], rfl, by rfl, fun K hK => ?_⟩
          go_simp
          refine (cMix_any b v3 hb.out).mono ?_
          rintro e v4 ⟨rfl, h1⟩
          have S4 : Below W0.heap.size W0 v4 := S3.trans (h1.mono S3.size)
          have hp := hp.keep h1 hp.lt
          have hq := hq.keep h1 hq.lt
          go_simp
          refine hK _ _ S4 ?_
          clear hK K h1
          refine SeqS.alone (by decide +kernel) (by rfl) (fun K hK => ?_)
          refine wp_store_part 45 (.tmp 5) (.tmp 11) rfl (cs := rowN 4 (mixc a)) rfl rfl hp (row4 _) (fit4 _ _) (rowN_one 4 _) ?_
          intro u1 hp1 hg1
          rw [over4] at hp1
          have hq1 := hq.grown hg1 (by intro e; injection e with e; first | exact hpq e | exact hpq e.symm)
          have T1 : Below W0.heap.size W0 u1 := S4.trans (below_of_grown hg1 pge hp.lt)
          refine hK _ _ T1 ?_
          clear hK K
          refine SeqS.alone (by decide +kernel) (by rfl) (fun K hK => ?_)
          refine wp_store_part 45 (.tmp 6) (.tmp 13) rfl (cs := rowN 4 (mixc b)) rfl rfl hq1 (row4 _) (fit4 _ _) (rowN_one 4 _) ?_
          intro u2 hq2 hg2
          rw [over4] at hq2
          have hp2 := hp1.grown hg2 (by intro e; injection e with e; first | exact hpq e | exact hpq e.symm)
          have T2 : Below W0.heap.size W0 u2 := T1.trans (below_of_grown hg2 qge hq1.lt)
          refine hK _ _ T2 ?_
          clear hK K
          refine SeqS.done (by decide +kernel) ?_
          exact hfin p q u2 (by first | exact hpq | exact hpq.symm) hp2 hq2 T2
    · refine ⟨[_, _], _, [_, _], rfl, by rfl, fun K hK => ?_⟩
      refine wp_alloc_blk 45 rfl zero4 ?_
      have hp := Blk.new v1 45 (rowN 4 zf)
      have b1 := below1 v1 (.cells (rowN 4 zf).toArray 45)
      have S2 := S1.trans (b1.mono S1.size)
      have pge : W0.heap.size ≤ v1.heap.size := S1.size
      have hpq : q ≠ v1.heap.size := Nat.ne_of_lt hq.lt
      have hq := hq.keep b1 hq.lt
      obtain ⟨v2, hv⟩ : ∃ v2, v1.alloc (.cells (rowN 4 zf).toArray 45) = v2 := ⟨_, rfl⟩
      obtain ⟨p, hpe⟩ : ∃ p, v1.heap.size = p := ⟨_, rfl⟩
      rw [hv] at hp S2 ⊢
      rw [hpe] at hp pge ⊢
      rw [hv] at hq
      rw [hpe] at hpq
      clear hv hpe b1
      refine hK _ _ S2 ?_
      clear hK K
      simp only [Act.put, List.setIfInBounds_toArray, List.set_cons_zero, List.set_cons_succ]
      refine SeqS.branch (rs := [1]) (by decide +kernel) ?_
      intro k hk
      simp only [List.mem_cons, List.not_mem_nil, or_false] at hk
      subst hk
      · refine ⟨[], _, [_, _, _], rfl, by rfl, fun K hK => ?_⟩
        go_simp
        refine (cMix_any a v2 ha.out).mono ?_
        rintro e v3 ⟨rfl, h1⟩
        have S3 : Below W0.heap.size W0 v3 := S2.trans (h1.mono S2.size)
        have hp := hp.keep h1 hp.lt
        have hq := hq.keep h1 hq.lt
        go_simp
        refine hK _ _ S3 ?_
        clear hK K h1
        refine SeqS.branch (rs := [3]) (by decide +kernel) ?_
        intro k hk
        simp only [List.mem_cons, List.not_mem_nil, or_false] at hk
        subst hk
        · refine ⟨[], _, [_, _], rfl, by rfl, fun K hK => ?_⟩
          go_simp
          refine (cMix_any b v3 hb.out).mono ?_
          rintro e v4 ⟨rfl, h1⟩
          have S4 : Below W0.heap.size W0 v4 := S3.trans (h1.mono S3.size)
          have hp := hp.keep h1 hp.lt
          have hq := hq.keep h1 hq.lt
          go_simp
          refine hK _ _ S4 ?_
          clear hK K h1
          refine SeqS.alone (by decide +kernel) (by rfl) (fun K hK => ?_)
          refine wp_store_part 45 (.tmp 5) (.tmp 11) rfl (cs := rowN 4 (mixc a)) rfl rfl hp (row4 _) (fit4 _ _) (rowN_one 4 _) ?_
          intro u1 hp1 hg1
          rw [over4] at hp1
          have hq1 := hq.grown hg1 (by intro e; injection e with e; first | exact hpq e | exact hpq e.symm)
          have T1 : Below W0.heap.size W0 u1 := S4.trans (below_of_grown hg1 pge hp.lt)
          refine hK _ _ T1 ?_
          clear hK K
          refine SeqS.alone (by decide +kernel) (by rfl) (fun K hK => ?_)
          refine wp_store_part 45 (.tmp 6) (.tmp 13) rfl (cs := rowN 4 (mixc b)) rfl rfl hq1 (row4 _) (fit4 _ _) (rowN_one 4 _) ?_
          intro u2 hq2 hg2
          rw [over4] at hq2
          have hp2 := hp1.grown hg2 (by intro e; injection e with e; first | exact hpq e | exact hpq e.symm)
          have T2 : Below W0.heap.size W0 u2 := T1.trans (below_of_grown hg2 qge hq1.lt)
          refine hK _ _ T2 ?_
          clear hK K
          refine SeqS.done (by decide +kernel) ?_
          exact hfin p q u2 (by first | exact hpq | exact hpq.symm) hp2 hq2 T2
end Go.Proofs.Ytohobknianhplaa
