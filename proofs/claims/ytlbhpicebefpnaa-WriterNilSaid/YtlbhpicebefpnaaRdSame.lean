/-
  The document's own comparison of ids (layer 9): of the same bytes it tells that they are the same. Nothing is written. Conditions: at most 40000 ids.
-/
import Derived.Test.YtlbhpicebefpnaaRdIds
import Derived.Test.YtlbhpicebefpnaaEqArr
namespace Go.Proofs.Ytlbhpicebefpnaa
open Go.RowKit

theorem sizeU8s : (Try.prog.info? 5).map (·.size) = some 1 := by kernel_rfl
theorem noGuardIds : Try.prog.eqGuardType Try.prog.depth 34 = false := by kernel_rfl
theorem same_ids (xs : List Int) (h : xs.length = 32) (w : World) : (Op.equalIn 10000 34 (.agg (xs.map (Value.int .u8)).toArray) (.agg (xs.map (Value.int .u8)).toArray)).run Try.prog w = .ok true w := by
  have h := run_equalIn_ints (P := Try.prog) w 9998 34 5 32 .u8 Try.underlying34 Try.underlying5 sizeU8s xs xs h h
  rw [h]; simp
theorem ids_part {w : World} {b off n : Nat} {zs : List Int} (hl : zs.length = 32 * n) (hc : ∀ i, i < 32 * n → w.cell? ⟨b, off + i, none⟩ = some (.int .u8 (zs.getD i 0))) (i : Nat) (hi : i < n) :
    w.rangeAt b (off + 32 * i) (((zs.drop (32 * i)).take 32).map (Value.int .u8)) := fun j v hj => by
  have hlt : j < 32 := by
    rcases Nat.lt_or_ge j 32 with h | h
    · exact h
    · rw [List.getElem?_eq_none (by rw [List.length_map, List.length_take]; omega)] at hj; cases hj
  rw [Nat.add_assoc, hc (32 * i + j) (by omega)]
  rw [List.getElem?_map, List.getElem?_take_of_lt hlt, List.getElem?_drop, List.getElem?_eq_getElem (by omega)] at hj
  rw [← hj, List.getD_eq_getElem?_getD, List.getElem?_eq_getElem (by omega)]
  rfl

set_option maxRecDepth 100000 in
set_option maxHeartbeats 1000000 in
theorem rSame_any (a b : Option Addr) (n c d : Nat) (zs : List Int) (w : World) (h1 : IdsAt w a n c zs) (h2 : IdsAt w b n d zs) (hn : n ≤ 40000) :
    Calls Try.prog 24 #[.slice a n c, .slice b n d] w fun r w' => r = .returned (.bool true) ∧ Below w.heap.size w w' := by
  have hl := Lib.hid h1.1
  have H1 := Lib.hid h1
  have H2 := Lib.hid h2
  have hnH := Lib.hid hn
  clear h1 h2 hn
  go_enter Try.func24, Try.ntmps24
  go_wp2
  go_loopw [5] (fun i wr => ∃ k : Nat, k ≤ n ∧ i = .int .i64 k ∧ Below w.heap.size w wr) (fun i _ => n - (intOf i).toNat)
  case atStart => exact ⟨0, Nat.zero_le _, rfl, Below.refl _ _⟩
  case round =>
    obtain ⟨k, hk, rfl, hb⟩ := hrel
    by_cases hlt : k < n
    · obtain ⟨_, _, h1 | ⟨b1, o1, rfl, c1⟩⟩ := H1.out.keep hb
      · omega
      obtain ⟨_, _, h2 | ⟨b2, o2, rfl, c2⟩⟩ := H2.out.keep hb
      · omega
      have p1 := ids_part hl.out c1 k hlt
      have p2 := ids_part hl.out c2 k hlt
      obtain ⟨ys, hys⟩ : ∃ ys, (zs.drop (32 * k)).take 32 = ys := ⟨_, rfl⟩
      have hyl : ys.length = 32 := by rw [← hys, List.length_take, List.length_drop, hl.out]; omega
      rw [hys] at p1 p2
      have same := same_ids ys hyl
      have ng := noGuardIds
      obtain ⟨YV, hYV⟩ : ∃ YV, ys.map (Value.int .u8) = YV := ⟨_, rfl⟩
      rw [hYV] at p1 p2 same
      have hYl : YV.length = 32 := by rw [← hYV, List.length_map, hyl]
      have hYl9 := Lib.hid hYl
      have hIr : IsRow Try.prog 34 YV.length := by rw [hYl]; exact rowId9
      have hki : (k : Int) < (n : Int) := by omega
      have hltH := Lib.hid hlt
      clear c1 c2 hys hyl hYV hYl hlt hk
      go_wp2_with fail
      refine region_seqS (fun w' => w' = wr.drew) (by kernel_rfl) rfl ?_
      simp only [pairs, Nat.reduceAdd]
      repeat (first
        | (refine SeqS.take (v := ?_) (by first | assumption | trivial) (by kernel_rfl) (by decide +kernel) (by decide +kernel) (Or.inl ⟨by rfl, ?_⟩) ?_
           rotate_left
           focus
             intro w' hb'
             go_simp
             with_reducible rfl
           simp only [Act.put, List.setIfInBounds_toArray, List.set_cons_zero, List.set_cons_succ])
        | (refine SeqS.take (v := undef) (by first | assumption | trivial) (by kernel_rfl) (by decide +kernel) (by decide +kernel) (Or.inr ⟨by rfl, rfl⟩) ?_
           simp only [Act.put, List.setIfInBounds_toArray, List.set_cons_zero, List.set_cons_succ])
        | (refine SeqS.take1 (v := ?_) (by first | assumption | trivial) (by kernel_rfl) (by decide +kernel) (by decide +kernel) (Or.inl ⟨by rfl, ?_⟩) ?_
           rotate_left
           focus
             intro w' hb'
             go_simp
             with_reducible rfl
           simp only [Act.put, List.setIfInBounds_toArray, List.set_cons_zero, List.set_cons_succ])
        | (refine SeqS.take1 (v := undef) (by first | assumption | trivial) (by kernel_rfl) (by decide +kernel) (by decide +kernel) (Or.inr ⟨by rfl, rfl⟩) ?_
           simp only [Act.put, List.setIfInBounds_toArray, List.set_cons_zero, List.set_cons_succ])
        | (refine SeqS.take2 (v := ?_) (by first | assumption | trivial) (by kernel_rfl) (by decide +kernel) (by decide +kernel) (Or.inl ⟨by rfl, ?_⟩) ?_
           rotate_left
           focus
             intro w' hb'
             go_simp
             with_reducible rfl
           simp only [Act.put, List.setIfInBounds_toArray, List.set_cons_zero, List.set_cons_succ])
        | (refine SeqS.take2 (v := undef) (by first | assumption | trivial) (by kernel_rfl) (by decide +kernel) (by decide +kernel) (Or.inr ⟨by rfl, rfl⟩) ?_
           simp only [Act.put, List.setIfInBounds_toArray, List.set_cons_zero, List.set_cons_succ])
        | (refine SeqS.take3 (v := ?_) (by first | assumption | trivial) (by kernel_rfl) (by decide +kernel) (by decide +kernel) (Or.inl ⟨by rfl, ?_⟩) ?_
           rotate_left
           focus
             intro w' hb'
             go_simp
             with_reducible rfl
           simp only [Act.put, List.setIfInBounds_toArray, List.set_cons_zero, List.set_cons_succ])
        | (refine SeqS.take3 (v := undef) (by first | assumption | trivial) (by kernel_rfl) (by decide +kernel) (by decide +kernel) (Or.inr ⟨by rfl, rfl⟩) ?_
           simp only [Act.put, List.setIfInBounds_toArray, List.set_cons_zero, List.set_cons_succ]))
      rw [Nat.mul_comm] at p1 p2
      refine SeqS.take (v := .agg YV.toArray) rfl (by kernel_rfl) (by decide +kernel) (by decide +kernel) (yieldsIf_load_mid (by rfl) 34 (.tmp 19) rfl b1 (o1 + k * 32) rfl YV _ (fun w' h => by subst h; exact p1) Try.underlying34 rfl (by rw [hYl9.out]; exact sizeId9)) ?_
      simp only [Act.put, List.setIfInBounds_toArray, List.set_cons_zero, List.set_cons_succ]
      refine SeqS.take (v := .agg YV.toArray) rfl (by kernel_rfl) (by decide +kernel) (by decide +kernel) (yieldsIf_load_mid (by rfl) 34 (.tmp 23) rfl b2 (o2 + k * 32) rfl YV _ (fun w' h => by subst h; exact p2) Try.underlying34 rfl (by rw [hYl9.out]; exact sizeId9)) ?_
      simp only [Act.put, List.setIfInBounds_toArray, List.set_cons_zero, List.set_cons_succ]
      repeat (first
        | (refine SeqS.take (v := ?_) (by first | assumption | trivial) (by kernel_rfl) (by decide +kernel) (by decide +kernel) (Or.inl ⟨by rfl, ?_⟩) ?_
           rotate_left
           focus
             intro w' hb'
             go_simp
             with_reducible rfl
           simp only [Act.put, List.setIfInBounds_toArray, List.set_cons_zero, List.set_cons_succ])
        | (refine SeqS.take (v := undef) (by first | assumption | trivial) (by kernel_rfl) (by decide +kernel) (by decide +kernel) (Or.inr ⟨by rfl, rfl⟩) ?_
           simp only [Act.put, List.setIfInBounds_toArray, List.set_cons_zero, List.set_cons_succ]))
      refine SeqS.done (by decide +kernel) ?_
      go_wp2
      have e2 : wrap64 ((k : Int) + 1) = ((k + 1 : Nat) : Int) := by have := hnH.out; have := hltH.out; unfold wrap64; omega
      rw [e2]
      exact ⟨⟨k + 1, hltH.out, rfl, Below.drew hb⟩, by simp only [intOf]; have := hltH.out; omega⟩
    · have hki : ¬ (k : Int) < (n : Int) := by omega
      go_wp2
      go_ret
      exact ⟨rfl, hb⟩
end Go.Proofs.Ytlbhpicebefpnaa
