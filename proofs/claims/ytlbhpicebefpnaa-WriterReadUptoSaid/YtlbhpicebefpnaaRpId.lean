/-
  What the program's Id and Hint come to. New memory and the reader alone are written. Conditions: those of a reader in memory.
-/
import Derived.Test.YtlbhpicebefpnaaRpCount
import Derived.Test.YtlbhpicebefpnaaRdPad
namespace Go.Proofs.Ytlbhpicebefpnaa
open Go.RowKit

set_option maxRecDepth 100000 in
set_option maxHeartbeats 1000000 in
theorem pId_any {F : Nat → Prop} {w : World} {g : Nat} {xs : List Int} {p : Nat} {e : Int} (h : RdAt F w g xs p e) :
    Calls Try.prog 21 #[.pointer (some ⟨g, 0, none⟩)] w fun r w' => r = .returned (.agg ((padTo 32 (rdBytes xs p e 32)).map (Value.int .u8)).toArray) ∧ RdAt F w' g xs (rdStep xs.length p e 32).1 (rdStep xs.length p e 32).2.1 ∧ Moved F w w' := by
  have hw := h.within
  have hc := fun W (hW : RdAt F W g xs p e) => pNext_any { data := #[97, 110, 32, 105, 100] } true 1 32 hW (by decide) (fun _ => by decide)
  rw [nx_one _ _ _ 32 hw (by decide)] at hc
  rw [show ((32 : Nat) : Int) = 32 from rfl] at hc
  have hcap := rdStep_cap xs.length p e 32
  rw [show (32 : Int).toNat = 32 from rfl] at hcap
  unfold rdBytes
  obtain ⟨K, hK0⟩ : ∃ K, (rdStep xs.length p e 32).2.2 = K := ⟨_, rfl⟩
  obtain ⟨P, hP⟩ : ∃ P, (rdStep xs.length p e 32).1 = P := ⟨_, rfl⟩
  obtain ⟨E, hE⟩ : ∃ E, (rdStep xs.length p e 32).2.1 = E := ⟨_, rfl⟩
  rw [hK0, hP, hE] at hc
  rw [hK0, hP, hE]
  rw [hK0] at hcap
  obtain ⟨Y, hY⟩ : ∃ Y, (xs.drop p).take K = Y := ⟨_, rfl⟩
  rw [hY] at hc ⊢
  have hlt := Lib.hid h.lt
  have hcH := Lib.hid hc
  clear hK0 hP hE hY hw hc
  obtain ⟨Zs, hZs⟩ : ∃ Zs, List.replicate 32 (Value.int .u8 0) = Zs := ⟨_, rfl⟩
  have hZZ : Zero Try.prog 34 Zs := hZs ▸ zeroId9
  have hZl : Zs.length = 32 := by rw [← hZs, List.length_replicate]
  have hZH := Lib.hid hZs
  clear hZs
  go_enter Try.func21, Try.ntmps21
  go_wp2_with (with_reducible refine wpList_alloc_blk rfl 34 rfl hZZ ?_)
  obtain ⟨V, hV⟩ : ∃ V, (w.alloc (.cells Zs.toArray 34)).alloc (.cells Zs.toArray 34) = V := ⟨_, rfl⟩
  have hr : Blk V w.heap.size 34 Zs := by rw [← hV]; exact (Blk.new w _ _).alloc _
  have hi : Blk V (w.heap.size + 1) 34 Zs := by rw [← hV]; exact Blk.new1 w _ _ _
  have hB : Below w.heap.size w V := by rw [← hV]; exact below2 w _ _
  rw [hV]
  simp only [size1, Act.put, List.setIfInBounds_toArray, List.set_cons_zero, List.set_cons_succ]
  have hRV := h.keep (fun b hb => hB.block b (h.lt b hb)) hB.size
  clear hV
  obtain ⟨G, hG⟩ : ∃ G, w.heap.size + 1 = G := ⟨_, rfl⟩
  have hGH := Lib.hid hG
  rw [hG] at hi ⊢
  clear hG
  refine region_seqS (fun _ => True) (by kernel_rfl) trivial ?_
  simp only [pairs, Nat.reduceAdd]
  have hr1 : Blk V.drew w.heap.size 34 Zs := hr
  have hi1 : Blk V.drew G 34 Zs := hi
  have hR1 : RdAt F V.drew g xs p e := hRV.keep (fun _ _ => rfl) (Nat.le_refl _)
  have hB1 : Below w.heap.size w V.drew := Below.drew hB
  obtain ⟨U, hU⟩ : ∃ U, V.drew = U := ⟨_, rfl⟩
  rw [hU] at hr1 hi1 hR1 hB1 ⊢
  clear hU hr hi hRV hB
  repeat (first
    | (refine SeqS.take (v := ?_) (by first | assumption | trivial) (by kernel_rfl) (by decide +kernel) (by decide +kernel) (Or.inl ⟨by rfl, ?_⟩) ?_
       rotate_left
       focus
         intro w' hb'
         go_simp
         with_reducible rfl
       simp only [Act.put, List.setIfInBounds_toArray, List.set_cons_zero, List.set_cons_succ])
    | (refine SeqS.take (v := undef) (by first | assumption | trivial) (by kernel_rfl) (by decide +kernel) (by decide +kernel) (Or.inr ⟨by rfl, rfl⟩) ?_
       simp only [Act.put, List.setIfInBounds_toArray, List.set_cons_zero, List.set_cons_succ])
    | (refine SeqS.take1 (v := ?_) (by first | assumption | trivial) (by kernel_rfl) (by decide +kernel) (by decide +kernel) (Or.inl ⟨by rfl, ?_⟩) ?_
       rotate_left
       focus
         intro w' hb'
         go_simp
         with_reducible rfl
       simp only [Act.put, List.setIfInBounds_toArray, List.set_cons_zero, List.set_cons_succ])
    | (refine SeqS.take1 (v := undef) (by first | assumption | trivial) (by kernel_rfl) (by decide +kernel) (by decide +kernel) (Or.inr ⟨by rfl, rfl⟩) ?_
       simp only [Act.put, List.setIfInBounds_toArray, List.set_cons_zero, List.set_cons_succ])
    | (refine SeqS.take2 (v := ?_) (by first | assumption | trivial) (by kernel_rfl) (by decide +kernel) (by decide +kernel) (Or.inl ⟨by rfl, ?_⟩) ?_
       rotate_left
       focus
         intro w' hb'
         go_simp
         with_reducible rfl
       simp only [Act.put, List.setIfInBounds_toArray, List.set_cons_zero, List.set_cons_succ])
    | (refine SeqS.take2 (v := undef) (by first | assumption | trivial) (by kernel_rfl) (by decide +kernel) (by decide +kernel) (Or.inr ⟨by rfl, rfl⟩) ?_
       simp only [Act.put, List.setIfInBounds_toArray, List.set_cons_zero, List.set_cons_succ])
    | (refine SeqS.take3 (v := ?_) (by first | assumption | trivial) (by kernel_rfl) (by decide +kernel) (by decide +kernel) (Or.inl ⟨by rfl, ?_⟩) ?_
       rotate_left
       focus
         intro w' hb'
         go_simp
         with_reducible rfl
       simp only [Act.put, List.setIfInBounds_toArray, List.set_cons_zero, List.set_cons_succ])
    | (refine SeqS.take3 (v := undef) (by first | assumption | trivial) (by kernel_rfl) (by decide +kernel) (by decide +kernel) (Or.inr ⟨by rfl, rfl⟩) ?_
       simp only [Act.put, List.setIfInBounds_toArray, List.set_cons_zero, List.set_cons_succ]))
  refine SeqS.alone (by decide +kernel) (by rfl) (fun K1 hK1 => ?_)
  go_simp
  refine (hcH.out U hR1).mono ?_
  rintro r w2 ⟨a, c, rfl, hI, hx, hR2, hM2⟩
  have nfr : ¬ F w.heap.size := fun hf => Nat.lt_irrefl _ (hlt.out _ hf)
  have nfi : ¬ F G := fun hf => by have := hlt.out _ hf; have := hGH.out; omega
  have hr2 : Blk w2 w.heap.size 34 Zs := (hM2.2 _ hr1.lt nfr).trans hr1
  have hi2 : Blk w2 G 34 Zs := (hM2.2 _ hi1.lt nfi).trans hi1
  have hM : Moved F w w2 := hM2.after hB1
  clear hcH hx hr1 hi1 hR1 hB1 hM2
  go_simp
  refine hK1 _ _ trivial ?_
  clear hK1 K1
  try simp only [Act.put, List.setIfInBounds_toArray, List.set_cons_zero, List.set_cons_succ]
  refine SeqS.alone (by decide +kernel) (by rfl) (fun K1 hK1 => ?_)
  have CF : CopyFits w2 (some ⟨G, 0, none⟩) a K 32 G 0 Zs.length ((Y.take K).map (Value.int .u8)) := hI.copyFits (by show K = min K 32; omega) (fun _ => rfl) (by rw [hZl]; omega)
  have hKl : ((Y.take K).map (Value.int .u8)).length = K := by rw [List.length_map, List.length_take, hI.len]; omega
  have ov := pad_over 32 Y K hI.len hcap
  rw [hZH.out] at ov
  go_simp
  refine upon_copy 27 27 3 5 Try.underlying27 sizeU8s hi2 CF K hKl ?_
  intro W5 hi5' gr5
  have hi5 : Blk W5 G 34 ((padTo 32 Y).map (Value.int .u8)) := hi5'.cast ov
  have hr5 := hr2.grown gr5 (by intro e; injection e with e; have := hGH.out; omega)
  have hR5 := hR2.keep (fun b hb => gr5.block b (hR2.lt b hb) (by intro e; injection e with e; subst e; exact nfi hb)) gr5.size
  have hM5 : Moved F w W5 := ⟨hM.1.trans ⟨gr5.os, gr5.tape, gr5.output, gr5.size, fun i hi => absurd hi (Nat.not_lt_zero i)⟩, fun b hb hf => (gr5.block b (Nat.lt_of_lt_of_le hb hM.size) (by intro e; injection e with e; have := hGH.out; omega)).trans (hM.2 b hb hf)⟩
  have hPl : (padTo 32 Y).length = 32 := padTo_len (by rw [hI.len]; exact hcap)
  refine hK1 _ _ trivial ?_
  clear hK1 K1 hi5' gr5 hi2 hr2 hR2 hM CF hKl ov hI
  refine SeqS.done (by decide +kernel) ?_
  obtain ⟨X, hX⟩ : ∃ X, (padTo 32 Y).map (Value.int .u8) = X := ⟨_, rfl⟩
  have hXl : X.length = 32 := by rw [← hX, List.length_map, hPl]
  have HI : IsRow Try.prog 34 X.length := by rw [hXl]; exact rowId9
  have HO1 := Lib.hid (show ∀ v ∈ X, v.oneCell' = true by rw [← hX]; exact ints_oneCell' _ _)
  have HOF := Lib.hid (show 0 + X.length ≤ Zs.length by rw [hXl, hZl]; decide)
  have HOV := Lib.hid (overV_all Zs X (by rw [hXl, hZl]))
  rw [hX] at hi5
  have hXH := Lib.hid hX
  clear hX hXl hZH hZl hPl
  go_wp2_with (first
    | ((refine wpList_load_blk rfl 34 (.tmp 3) rfl ?_ hi5 HI rfl ?_); rfl)
    | ((with_reducible refine wpList_store_part rfl 34 (.tmp 2) (.tmp 8) rfl ?_ ?_ hr5 HI HOF.out HO1.out ?_); rfl; rfl; intro w9 hR9 hg9))
  rw [HOV.out] at hR9
  (try simp only [Exit.inBlock, Exit.then])
  refine bodyPost_ret (results_blk rfl rfl hR9 HI) rfl ?_
  refine ⟨by rw [hXH.out], hR5.keep (fun b hb => hg9.block b (hR5.lt b hb) (by intro e; injection e with e; subst e; exact nfr hb)) hg9.size, ?_⟩
  exact ⟨hM5.1.trans ⟨hg9.os, hg9.tape, hg9.output, hg9.size, fun i hi => absurd hi (Nat.not_lt_zero i)⟩, fun b hb hf => (hg9.block b (Nat.lt_of_lt_of_le hb hM5.size) (by intro e; injection e with e; omega)).trans (hM5.2 b hb hf)⟩
end Go.Proofs.Ytlbhpicebefpnaa
