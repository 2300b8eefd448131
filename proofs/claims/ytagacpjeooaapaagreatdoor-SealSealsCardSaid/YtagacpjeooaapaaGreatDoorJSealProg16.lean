/-
  Texts of stages that were proved on their own, joined: SealCut, SealErr. Each begins with its own words.
-/
import Derived.Test.YtagacpjeooaapaaGreatDoorBlocks2
import Derived.Test.YtagacpjeooaapaaGreatDoorSteps
import Derived.Test.YtagacpjeooaapaaGreatDoorSeqS
import Derived.Test.YtagacpjeooaapaaGreatDoorProg

/-
  What package seal's cut comes to, and cmp.Or of two numbers. Only new memory is written. Conditions: there are 32 bytes at least.
-/
namespace Go.Proofs.YtagacpjeooaapaaGreatDoor
open Go.RowKit

set_option maxRecDepth 100000 in
set_option maxHeartbeats 1000000 in
theorem cut_any (b o : Nat) (m n cap : Nat) (w : World) (hn : m + 32 = n) (hc : n ≤ cap) (hl : n ≤ 4294967296) :
    Calls Tryz.prog 25 #[.slice (some ⟨b, o, none⟩) n cap] w fun e w' => e = .returned (.tuple #[.slice (some ⟨b, o, none⟩) m cap, .slice (some ⟨b, o + m, none⟩) 32 (cap - m)]) ∧ Below w.heap.size w w' := by
  have hmi : (n : Int) - 32 = (m : Int) := by omega
  have hmn : (m : Int) ≤ (n : Int) := by omega
  have hm0 : (0 : Int) ≤ (m : Int) := by omega
  have hmc : (m : Int) ≤ (cap : Int) := by omega
  have hmcn : m ≤ cap := by omega
  have hcm : ¬ cap = m := by omega
  have hnm : n - m = 32 := by omega
  have hw : wrap64 (m : Int) = (m : Int) := by unfold wrap64; omega
  clear hn hc hl
  go_enter Tryz.func25, Tryz.ntmps25
  go_wp2_with fail
  refine region_seqS (fun _ => True) (by kernel_rfl) trivial ?_
  simp only [pairs, Nat.reduceAdd]
  repeat (first
    | (refine SeqS.take (v := ?_) (by first | assumption | trivial) (by kernel_rfl) (by decide +kernel) (by decide +kernel) (Or.inl ⟨by rfl, ?_⟩) ?_
       rotate_left
       focus
         intro w' hb'
         go_simp
         with_reducible rfl
       simp only [Act.put, List.setIfInBounds_toArray, List.set_cons_zero, List.set_cons_succ])
    | (refine SeqS.take (v := undef) (by first | assumption | trivial) (by kernel_rfl) (by decide +kernel) (by decide +kernel) (Or.inr ⟨by rfl, rfl⟩) ?_
       simp only [Act.put, List.setIfInBounds_toArray, List.set_cons_zero, List.set_cons_succ])
    | (refine SeqS.take1 (v := ?_) (by first | assumption | trivial) (by kernel_rfl) (by decide +kernel) (by decide +kernel) (Or.inl ⟨by rfl, ?_⟩) ?_
       rotate_left
       focus
         intro w' hb'
         go_simp
         with_reducible rfl
       simp only [Act.put, List.setIfInBounds_toArray, List.set_cons_zero, List.set_cons_succ])
    | (refine SeqS.take1 (v := undef) (by first | assumption | trivial) (by kernel_rfl) (by decide +kernel) (by decide +kernel) (Or.inr ⟨by rfl, rfl⟩) ?_
       simp only [Act.put, List.setIfInBounds_toArray, List.set_cons_zero, List.set_cons_succ])
    | (refine SeqS.take2 (v := ?_) (by first | assumption | trivial) (by kernel_rfl) (by decide +kernel) (by decide +kernel) (Or.inl ⟨by rfl, ?_⟩) ?_
       rotate_left
       focus
         intro w' hb'
         go_simp
         with_reducible rfl
       simp only [Act.put, List.setIfInBounds_toArray, List.set_cons_zero, List.set_cons_succ])
    | (refine SeqS.take2 (v := undef) (by first | assumption | trivial) (by kernel_rfl) (by decide +kernel) (by decide +kernel) (Or.inr ⟨by rfl, rfl⟩) ?_
       simp only [Act.put, List.setIfInBounds_toArray, List.set_cons_zero, List.set_cons_succ]))
  refine SeqS.done (by decide +kernel) ?_
  go_wp2
  go_ret2
  exact ⟨rfl, Below.drew (Below.refl _ _)⟩

set_option maxRecDepth 100000 in
set_option maxHeartbeats 1000000 in
theorem or_first (k : Int) (b : Nat) (w : World) (h : (k == 0) = false) (h0 : w.cell? ⟨b, 0, none⟩ = some (.int .i64 k)) :
    Calls Tryz.prog 45 #[.slice (some ⟨b, 0, none⟩) 2 2] w fun e w' => e = .returned (.int .i64 k) ∧ w = w' := by
  go_enter Tryz.func45, Tryz.ntmps45
  go_wp2_with fail
  refine wp_loop_rounds 1 ?_
  rw [rounds_succ]
  go_wp2
  go_ret
  exact ⟨rfl, rfl⟩

set_option maxRecDepth 100000 in
set_option maxHeartbeats 1000000 in
theorem or_second (l : Int) (b : Nat) (w : World) (h : (l == 0) = false) (h0 : w.cell? ⟨b, 0, none⟩ = some (.int .i64 0)) (h1 : w.cell? ⟨b, 1, none⟩ = some (.int .i64 l)) :
    Calls Tryz.prog 45 #[.slice (some ⟨b, 0, none⟩) 2 2] w fun e w' => e = .returned (.int .i64 l) ∧ w = w' := by
  go_enter Tryz.func45, Tryz.ntmps45
  go_wp2_with fail
  refine wp_loop_rounds 2 ?_
  rw [rounds_succ]
  go_wp2
  rw [rounds_succ]
  go_wp2
  go_ret
  exact ⟨rfl, rfl⟩
end Go.Proofs.YtagacpjeooaapaaGreatDoor

/-
  What package seal's refusal comes to of a blob that is too short or too long: the error that wraps that number. Only new memory is written. Conditions: fewer than 32 bytes, or more than 600.
-/
namespace Go.Proofs.YtagacpjeooaapaaGreatDoor
open Go.RowKit

set_option maxRecDepth 100000 in
set_option maxHeartbeats 1000000 in
theorem refuse_short (a b x : Option Addr) (c d n cap : Nat) (w : World) (hn : n < 32) :
    Calls Tryz.prog 24 #[.agg #[.slice a 32 c, .slice b 32 d], .slice x n cap] w fun e w' => e = .returned (.iface 86 (.agg #[.int .i64 2])) ∧ Below w.heap.size w w' := by
  have hni : (n : Int) < 32 := by omega
  clear hn
  go_enter Tryz.func24, Tryz.ntmps24
  go_wp2_with fail
  refine (or_first 2 _ _ rfl (by rw [World.cell?_alloc_at _ _ _ _ (by simp)]; rfl)).mono ?_
  rintro e w' ⟨rfl, rfl⟩
  go_wp2_with fail
  refine (or_first 2 _ _ rfl (by rw [World.cell?_alloc_at _ _ _ _ (by simp)]; rfl)).mono ?_
  rintro e w' ⟨rfl, rfl⟩
  go_wp2_with fail
  go_ret
  exact ⟨rfl, below3 w _ _ _⟩

set_option maxRecDepth 100000 in
set_option maxHeartbeats 1000000 in
theorem refuse_long (a b x : Option Addr) (c d n cap : Nat) (w : World) (hn : 600 < n) :
    Calls Tryz.prog 24 #[.agg #[.slice a 32 c, .slice b 32 d], .slice x n cap] w fun e w' => e = .returned (.iface 86 (.agg #[.int .i64 3])) ∧ Below w.heap.size w w' := by
  have hni : (600 : Int) < (n : Int) := by omega
  have hnj : ¬ (n : Int) < 32 := by omega
  clear hn
  go_enter Tryz.func24, Tryz.ntmps24
  go_wp2_with fail
  refine (or_second 3 _ _ rfl (by rw [World.cell?_alloc_at _ _ _ _ (by simp)]; rfl) (by rw [World.cell?_alloc_at _ _ _ _ (by simp)]; rfl)).mono ?_
  rintro e w' ⟨rfl, rfl⟩
  go_wp2_with fail
  refine (or_first 3 _ _ rfl (by rw [World.cell?_alloc_at _ _ _ _ (by simp)]; rfl)).mono ?_
  rintro e w' ⟨rfl, rfl⟩
  go_wp2_with fail
  go_ret
  exact ⟨rfl, below3 w _ _ _⟩

set_option maxRecDepth 100000 in
set_option maxHeartbeats 1000000 in
theorem refuse_tag (a b x : Option Addr) (c d n cap : Nat) (w : World) (hn : n ≤ 600) (h32 : 32 ≤ n) (ok : Bool)
    (F : Calls Tryz.prog 46 #[.agg #[.slice a 32 c, .slice b 32 d], .slice x n cap] (w.alloc (.cells #[.slice a 32 c, .slice b 32 d] 36)) fun e w' => e = .returned (.bool ok) ∧ Below (w.heap.size + 1) (w.alloc (.cells #[.slice a 32 c, .slice b 32 d] 36)) w') :
    Calls Tryz.prog 24 #[.agg #[.slice a 32 c, .slice b 32 d], .slice x n cap] w fun e w' => e = .returned (if ok then .nilIface else .iface 86 (.agg #[.int .i64 8])) ∧ Below w.heap.size w w' := by
  have hni : ¬ (600 : Int) < (n : Int) := by omega
  have hnj : ¬ (n : Int) < 32 := by omega
  clear hn h32
  have B1 := below1 w (.cells #[.slice a 32 c, .slice b 32 d] 36)
  have FH := Lib.hid F
  clear F
  go_enter Tryz.func24, Tryz.ntmps24
  go_wp2_with fail
  refine FH.out.mono ?_
  rintro e w2 ⟨rfl, b2⟩
  have B2 := Lib.hid (B1.trans (b2.mono (Nat.le_succ _)))
  clear FH B1 b2
  cases ok with
  | true =>
    go_wp2
    go_ret
    exact ⟨rfl, B2.out⟩
  | false =>
    go_wp2_with fail
    refine (or_second 8 _ _ rfl (by rw [World.cell?_alloc_at _ _ _ _ (by simp)]; rfl) (by rw [World.cell?_alloc_at _ _ _ _ (by simp)]; rfl)).mono ?_
    rintro e w' ⟨rfl, rfl⟩
    go_wp2_with fail
    go_ret
    exact ⟨rfl, B2.out.trans ((below1 w2 _).mono B2.out.size)⟩
end Go.Proofs.YtagacpjeooaapaaGreatDoor
