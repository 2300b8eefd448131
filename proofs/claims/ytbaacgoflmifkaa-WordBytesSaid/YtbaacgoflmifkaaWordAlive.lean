/-
  The document's examples (alive) come to true, in whatever world; only new memory is written. No conditions.
-/
import Derived.Test.YtbaacgoflmifkaaWordBytes
namespace Go.Proofs.Ytbaacgoflmifkaa
open Go.RowKit

theorem rotl_example : rotl 1 33 = 2 := by decide +kernel
theorem choose_example : choose 1 1 0 = 1 := by decide +kernel
theorem one_cell (w : World) (k : IntKind) (t : TypeId) (x : Int) : Ints k (w.alloc (.cells #[.int k x] t)) (some ⟨w.heap.size, 0, none⟩) 1 1 [x] := by
  refine ⟨rfl, by omega, .inr ⟨_, _, rfl, fun i hi => ?_⟩⟩
  obtain rfl : i = 0 := by omega
  show _ = some (Value.int k x)
  exact World.cell?_alloc_at (w := w) #[Value.int k x] t w.heap.size 0 rfl
theorem str_example : strOfNums (bytesOf [258]) = ⟨#[0, 0, 1, 2]⟩ := by decide +kernel

set_option maxHeartbeats 400000 in
theorem alive_any (w : World) : Calls Try.prog 10 #[] w fun e w' => e = .returned (.bool true) ∧ Below w.heap.size w w' := by
  have r1 := rotl_example
  have c1 := choose_example
  go_enter Try.func10, Try.ntmps10
  go_wp2_with fail
  refine (left_any _ _ _ (by decide) (by decide)).mono ?_; rintro e w' ⟨rfl, rfl⟩
  go_wp2_with fail
  refine (bytes_any _ _ _ [258] _ (one_cell _ _ _ _) (by simp) (by decide)).mono ?_; rintro e w1 ⟨b, m, c, rfl, hs, hb⟩
  have st := hs.string (P := Try.prog) 27 9 5 Try.underlying27 Try.underlying5 Try.underlying9
  rw [str_example] at st
  go_wp2_with fail
  refine (choose_any _ _ _ _).mono ?_; rintro e w' ⟨rfl, rfl⟩
  go_wp2
  go_ret
  exact ⟨rfl, ((Below.refl _ _).alloc (Nat.le_refl _) _).trans (hb.mono (by simp))⟩

set_option maxHeartbeats 400000 in
theorem wordTurns_any (a b : Int) (w : World) (h0 : 0 ≤ a) (h1 : a < 4294967296) :
    Calls Try.prog 3 #[.int .u32 a, .int .i64 b] w fun e w' => e = .returned (.bool true) ∧ Below w.heap.size w w' := by
  have R := rotr_rotl a b h0 h1
  have L := rotl_rotr a b h0 h1
  have l0 := rotl_lo a b
  have l1 := rotl_hi a b
  have r0 := rotr_lo a b
  have r1 := rotr_hi a b
  go_enter Try.func3, Try.ntmps3
  go_wp2_with fail
  refine (left_any _ _ _ h0 h1).mono ?_; rintro e w' ⟨rfl, rfl⟩
  go_wp2_with fail
  refine (right_any _ _ _ h0 h1).mono ?_; rintro e w' ⟨rfl, rfl⟩
  go_wp2_with fail
  refine (refLeft_any _ _ _ h0 h1).mono ?_; rintro e w' ⟨rfl, rfl⟩
  go_wp2_with fail
  refine (refRight_any _ _ _ h0 h1).mono ?_; rintro e w' ⟨rfl, rfl⟩
  go_wp2_with fail
  refine (right_any _ _ _ l0 l1).mono ?_; rintro e w' ⟨rfl, rfl⟩
  go_wp2_with fail
  refine (left_any _ _ _ r0 r1).mono ?_; rintro e w' ⟨rfl, rfl⟩
  go_wp2_with fail
  refine (alive_any _).mono ?_; rintro e w' ⟨rfl, hb⟩
  go_wp2
  go_ret
  exact ⟨rfl, hb⟩

set_option maxHeartbeats 800000 in
theorem wordPicks_any (a b c : Int) (w : World) (ha0 : 0 ≤ a) (ha1 : a < 4294967296) (hb0 : 0 ≤ b) (hb1 : b < 4294967296) (hc0 : 0 ≤ c) (hc1 : c < 4294967296) :
    Calls Try.prog 5 #[.int .u32 a, .int .u32 b, .int .u32 c] w fun e w' => e = .returned (.bool true) ∧ Below w.heap.size w w' := by
  have M := major_turn a b c
  have S := choose_same a b hb0 hb1
  have T := choose_rotl a b c 7
  have k0 := choose_lo a b c
  have k1 := choose_hi a b c
  go_enter Try.func5, Try.ntmps5
  go_wp2_with fail
  refine (choose_any _ _ _ _).mono ?_; rintro e w' ⟨rfl, rfl⟩
  go_wp2_with fail
  refine (major_any _ _ _ _).mono ?_; rintro e w' ⟨rfl, rfl⟩
  go_wp2_with fail
  refine (refChoose_any _ _ _ _ ha0 ha1 hb0 hb1 hc0 hc1).mono ?_; rintro e w' ⟨rfl, rfl⟩
  go_wp2_with fail
  refine (refMajor_any _ _ _ _ ha0 ha1 hb0 hb1 hc0 hc1).mono ?_; rintro e w' ⟨rfl, rfl⟩
  go_wp2_with fail
  refine (major_any _ _ _ _).mono ?_; rintro e w' ⟨rfl, rfl⟩
  go_wp2_with fail
  refine (left_any _ _ _ ha0 ha1).mono ?_; rintro e w' ⟨rfl, rfl⟩
  go_wp2_with fail
  refine (left_any _ _ _ hb0 hb1).mono ?_; rintro e w' ⟨rfl, rfl⟩
  go_wp2_with fail
  refine (left_any _ _ _ hc0 hc1).mono ?_; rintro e w' ⟨rfl, rfl⟩
  go_wp2_with fail
  refine (choose_any _ _ _ _).mono ?_; rintro e w' ⟨rfl, rfl⟩
  go_wp2_with fail
  refine (left_any _ _ _ k0 k1).mono ?_; rintro e w' ⟨rfl, rfl⟩
  go_wp2_with fail
  refine (choose_any _ _ _ _).mono ?_; rintro e w' ⟨rfl, rfl⟩
  go_wp2_with fail
  refine (alive_any _).mono ?_; rintro e w' ⟨rfl, hb⟩
  go_wp2
  go_ret
  exact ⟨rfl, hb⟩

theorem wf_u32 {a : Int} (h : (Lit.int .u32 a).wf = true) : 0 ≤ a ∧ a < 4294967296 := by
  simp only [Lit.wf, Bool.and_eq_true, decide_eq_true_eq] at h
  have h1 : IntKind.u32.min = 0 := rfl
  have h2 : IntKind.u32.max = 4294967295 := rfl
  omega
theorem wf_u8 {a : Int} (h : (Lit.int .u8 a).wf = true) : 0 ≤ a ∧ a < 256 := by
  simp only [Lit.wf, Bool.and_eq_true, decide_eq_true_eq] at h
  have h1 : IntKind.u8.min = 0 := rfl
  have h2 : IntKind.u8.max = 255 := rfl
  omega
theorem law_WordTurns (a b : Int) (w : World) (wa : (Lit.int .u32 a).wf = true) (_ : (Lit.int .i64 b).wf = true) :
    Calls Try.prog 3 #[.int .u32 a, .int .i64 b] w fun e w' => e = .returned (.bool true) ∧ Below w.heap.size w w' :=
  wordTurns_any a b w (wf_u32 wa).1 (wf_u32 wa).2
theorem law_WordPicks (a b c : Int) (w : World) (wa : (Lit.int .u32 a).wf = true) (wb : (Lit.int .u32 b).wf = true) (wc : (Lit.int .u32 c).wf = true) :
    Calls Try.prog 5 #[.int .u32 a, .int .u32 b, .int .u32 c] w fun e w' => e = .returned (.bool true) ∧ Below w.heap.size w w' :=
  wordPicks_any a b c w (wf_u32 wa).1 (wf_u32 wa).2 (wf_u32 wb).1 (wf_u32 wb).2 (wf_u32 wc).1 (wf_u32 wc).2
end Go.Proofs.Ytbaacgoflmifkaa
