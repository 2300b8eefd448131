/-
  What the landed disk's Arm and Crash come to. The disk's own blocks are written, and new memory. Conditions: a disk that New made; at most 2^42 steps; the numbers that are handed in lie in none of the disk's own blocks.
-/
import Derived.Test.YtmnfagpbcllbgaaDkAppend
namespace Go.Proofs.Ytmnfagpbcllbgaa
open Go.RowKit

theorem dArmD {L : Nat → Nat} {P : Nat → Prop} {w : World} {g : Nat} {D : DkV} {T : Nat} (h : DkIs L P w g D) (hO : D.Ok T) (n : Int) :
    Calls Try.prog 22 #[.pointer (some ⟨g, 0, none⟩), .int .i64 n] w fun q w' => q = .returned (.tuple #[]) ∧ DkTo L P w g w' (armD D n) := by
  obtain ⟨x0, x1, x2, h⟩ := h
  have hr := hO.room
  refine (dArm_any (n := n) h.b (r := D.room) rfl ⟨D.fuse, rfl⟩ (by omega)).mono ?_
  rintro q w' ⟨rfl, hb, hg⟩
  obtain ⟨k1, k2⟩ := h.head (D' := armD D n) hg hb rfl rfl rfl
  exact ⟨rfl, L, P, ⟨x0, x1, x2, k1⟩, k2⟩

/-- A disk of which the first j files have crashed. -/
def crP (D : DkV) (us : List Int) (j : Nat) : DkV := { D with f0 := if 0 < j then D.f0.settle (leftU D.f0 us 0) else D.f0, f1 := if 1 < j then D.f1.settle (leftU D.f1 us 1) else D.f1, f2 := if 2 < j then D.f2.settle (leftU D.f2 us 2) else D.f2 }
theorem crP_zero (D : DkV) (us : List Int) : crP D us 0 = D := rfl
theorem crP_three (D : DkV) (us : List Int) : { crP D us 3 with fuse := 0, down := false } = crD D us := rfl
theorem crP_f (D : DkV) (us : List Int) (j : Nat) (hj : j < 3) : (crP D us j).f j = D.f j := by
  match j, hj with
  | 0, _ => rfl
  | 1, _ => rfl
  | 2, _ => rfl
theorem crP_succ (D : DkV) (us : List Int) (j : Nat) (hj : j < 3) : (crP D us j).set j ((D.f j).settle (leftU (D.f j) us j)) = crP D us (j + 1) := by
  match j, hj with
  | 0, _ => rfl
  | 1, _ => rfl
  | 2, _ => rfl
theorem crP_ok {D : DkV} {T : Nat} (h : D.Ok T) (us : List Int) (j : Nat) : (crP D us j).Ok T := by
  have h0 := h.used
  have h1 := FlV.settle_need (v := D.f0) (leftU D.f0 us 0)
  have h2 := FlV.settle_need (v := D.f1) (leftU D.f1 us 1)
  have h3 := FlV.settle_need (v := D.f2) (leftU D.f2 us 2)
  have k0 : (if 0 < j then D.f0.settle (leftU D.f0 us 0) else D.f0).Ok T ∧ (if 0 < j then D.f0.settle (leftU D.f0 us 0) else D.f0).need ≤ D.f0.need := by
    split
    · exact ⟨FlV.settle_ok h.o0 _, h1⟩
    · exact ⟨h.o0, Nat.le_refl _⟩
  have k1 : (if 1 < j then D.f1.settle (leftU D.f1 us 1) else D.f1).Ok T ∧ (if 1 < j then D.f1.settle (leftU D.f1 us 1) else D.f1).need ≤ D.f1.need := by
    split
    · exact ⟨FlV.settle_ok h.o1 _, h2⟩
    · exact ⟨h.o1, Nat.le_refl _⟩
  have k2 : (if 2 < j then D.f2.settle (leftU D.f2 us 2) else D.f2).Ok T ∧ (if 2 < j then D.f2.settle (leftU D.f2 us 2) else D.f2).need ≤ D.f2.need := by
    split
    · exact ⟨FlV.settle_ok h.o2 _, h3⟩
    · exact ⟨h.o2, Nat.le_refl _⟩
  refine ⟨h.room, h.fuse, ?_, k0.1, k1.1, k2.1⟩
  unfold DkV.used at h0 ⊢
  show (((if 0 < j then D.f0.settle (leftU D.f0 us 0) else D.f0).need + (if 1 < j then D.f1.settle (leftU D.f1 us 1) else D.f1).need + (if 2 < j then D.f2.settle (leftU D.f2 us 2) else D.f2).need : Nat) : Int) ≤ D.room
  have := k0.2
  have := k1.2
  have := k2.2
  omega
theorem DkIs.units {L : Nat → Nat} {P : Nat → Prop} {w : World} {g : Nat} {D : DkV} (h : DkIs L P w g D) (i : Nat) (hi : i < 3) : w.cell? ⟨g, 3 + 5 * i + 4, none⟩ = some (.int .i64 ((D.f i).units : Nat)) := by
  obtain ⟨x0, x1, x2, h9⟩ := h
  obtain ⟨x, hx, hc⟩ := h9.fl i hi
  exact (fcells h9.b hc).2.2.2.2
/-- Numbers in none of the disk's own blocks. -/
def OutOf (L : Nat → Nat) (a : Option Addr) (n : Nat) : Prop := ∀ x, a = some x → 0 < n → L x.block = 0
theorem Went.ints {L L' : Nat → Nat} {P P' : Nat → Prop} {w w' : World} (h : Went L P w L' P' w') {k : IntKind} {a : Option Addr} {n c : Nat} {xs : List Int} (hI : Ints k w a n c xs) (ho : OutOf L a n) : Ints k w' a n c xs := by
  refine ⟨hI.1, hI.2.1, ?_⟩
  rcases hI.2.2 with h0 | ⟨b, off, ha, hc⟩
  · exact .inl h0
  · by_cases hn : n = 0
    · exact .inl hn
    · refine .inr ⟨b, off, ha, fun i hi => ?_⟩
      have h1 := hc i hi
      have h2 := h.m.2 b (World.block_lt_of_cell? w _ h1) (fun e => e (ho _ ha (by omega)))
      unfold World.cell? at h1 ⊢
      rw [h2]
      exact h1

set_option maxRecDepth 100000 in
set_option maxHeartbeats 1000000 in
theorem dCrash_any {L : Nat → Nat} {P : Nat → Prop} {w : World} {g : Nat} {D : DkV} {T : Nat} {a : Option Addr} {n c : Nat} {us : List Int} (h : DkIs L P w g D) (hO : D.Ok T) (hT : T ≤ 4398046511104) (hI : Ints .i64 w a n c us) (ho : OutOf L a n) :
    Calls Try.prog 12 #[.pointer (some ⟨g, 0, none⟩), .slice a n c] w fun q w' => q = .returned (.tuple #[]) ∧ DkTo L P w g w' (crD D us) := by
  have hr := hO.room
  obtain ⟨c0, c1, c2⟩ := h.cells
  have hM := dMade_any c0 (by omega)
  have hlen := hI.len
  go_enter Try.func12, Try.ntmps12
  go_wp2_with fail
  refine hM.mono ?_
  rintro q w1 ⟨rfl, rfl⟩
  go_wp2_with fail
  go_loopw [10] (fun i wr => ∃ j : Nat, j ≤ 3 ∧ i = .int .i64 j ∧ DkTo L P w g wr (crP D us j)) (fun i _ => 3 - (intOf i).toNat)
  case atStart => exact ⟨0, Nat.zero_le _, rfl, DkTo.stay h (Below.refl _ _)⟩
  case round =>
    clear c0 c1 c2
    obtain ⟨j, hj, rfl, L2, P2, h2, hW⟩ := hrel
    by_cases hlt : j < 3
    · have hji : (j : Int) < 3 := by omega
      have hfj := crP_f D us j hlt
      have hsu := crP_succ D us j hlt
      have hSt := fun (w2 : World) (h3 : DkIs L2 P2 w2 g (crP D us j)) => dSettleD h3 (crP_ok hO us j) hT j hlt (leftU (D.f j) us j) (by rw [hfj]; exact leftU_le _ _ _)
      rw [hfj, hsu] at hSt
      have hun := h2.units j hlt
      rw [hfj] at hun
      have huB := (hO.f j).un
      rw [Nat.mul_comm] at hun
      rw [Nat.mul_comm 5 j] at hSt
      have hIr := hW.ints hI ho
      obtain ⟨U, hU⟩ : ∃ U, (D.f j).units = U := ⟨_, rfl⟩
      rw [hU] at hun huB
      have hlv : leftU (D.f j) us j = if j < us.length then (us.getD j 0 % ((U : Int) + 1)).toNat else 0 := by unfold leftU; rw [hU]
      have h2H := Lib.hid h2
      have hWH := Lib.hid hW
      have hltH := Lib.hid hlt
      have hOH := Lib.hid hO
      by_cases hjn : j < n
      · have hjn2 : (j : Int) < (n : Int) := by omega
        obtain ⟨b, off, rfl, hc⟩ := hIr.at (by omega)
        have hcj := hc j hjn
        rw [if_pos (by omega)] at hlv
        obtain ⟨z, hz⟩ : ∃ z, us.getD j 0 = z := ⟨_, rfl⟩
        rw [hz] at hcj hlv
        have hMd := fun k => dModulo_any (w := wr.drewN k) z (U + 1) (by omega) (by omega)
        have hnn := Int.emod_nonneg z (show ((U : Int) + 1) ≠ 0 by omega)
        rw [show ((U + 1 : Nat) : Int) = (U : Int) + 1 by omega] at hMd
        obtain ⟨M, hMM⟩ : ∃ M : Nat, leftU (D.f j) us j = M := ⟨_, rfl⟩
        rw [hMM] at hlv hSt
        have hME : z % ((U : Int) + 1) = (M : Int) := by omega
        rw [hME] at hMd
        have hwU : IntKind.i64.wrap ((U : Int) + 1) = (U : Int) + 1 := by rw [IntKind.wrap_i64]; omega
        clear hj hlt hIr hc hlv hnn hMM hME hfj hsu hU h2 hW hI ho hO h huB hT hlen hz
        go_wp2
        go_quiet (refine Calls.quiet_of_same (hMd _))
        have h3 : DkIs L2 P2 (wr.drewN nq) g (crP D us j) := h2H.out.keep (below_drewN (Below.refl _ _) nq)
        have hS3 := hSt _ h3
        have hB3 : Below wr.heap.size wr (wr.drewN nq) := below_drewN (Below.refl _ _) nq
        obtain ⟨W3, hW3⟩ : ∃ W3, wr.drewN nq = W3 := ⟨_, rfl⟩
        rw [hW3] at hS3 hB3 ⊢
        clear hW3 h3 hSt hun hcj
        go_wp2_with fail
        refine hS3.mono ?_
        rintro q w4 ⟨rfl, L4, P4, h4, hW4⟩
        go_wp2
        exact ⟨⟨j + 1, by have := hltH.out; omega, by congr 1, L4, P4, h4, (hWH.out.trans (Went.of_below hB3)).trans hW4⟩, by simp only [intOf]; have := hltH.out; omega⟩
      · have hjn2 : ¬ (j : Int) < (n : Int) := by omega
        rw [if_neg (by omega)] at hlv
        rw [hlv] at hSt
        have hS3 := hSt wr h2
        clear hj hlt hIr hlv hfj hsu hU h2 hW hI ho hO h huB hT hlen hSt hun hjn
        go_wp2_with fail
        refine hS3.mono ?_
        rintro q w4 ⟨rfl, L4, P4, h4, hW4⟩
        go_wp2
        exact ⟨⟨j + 1, by have := hltH.out; omega, by congr 1, L4, P4, h4, hWH.out.trans hW4⟩, by simp only [intOf]; have := hltH.out; omega⟩
    · obtain rfl : j = 3 := by omega
      have hji : ¬ ((3 : Nat) : Int) < 3 := by omega
      obtain ⟨x0, x1, x2, h9⟩ := h2
      have e1 := h9.b.cell 1
      have f1 := h9.b.frozen 1
      have B1 := h9.b.set 1 (.int .i64 0)
      have e2 := B1.cell 2
      have f2 := B1.frozen 2
      have B2 := B1.set 2 (.bool false)
      have g12 := grown_trans (grown_setCell wr g 1 (.int .i64 0)) (grown_setCell _ g 2 (.bool false))
      obtain ⟨k1, k2⟩ := h9.head (D' := crD D us) g12 B2 rfl rfl rfl
      have hk : DkTo L P w g ((wr.setCell ⟨g, 1, none⟩ (.int .i64 0)).setCell ⟨g, 2, none⟩ (.bool false)) (crD D us) := ⟨L2, P2, ⟨x0, x1, x2, k1⟩, hW.trans k2⟩
      clear B1 B2 g12 k1 k2 h9 hW hO h hlt hj
      go_wp2
      (try simp only [Exit.inBlock, Exit.then])
      first
        | go_end0
        | refine bodyPost_ret (results_none rfl _ _ _) rfl ?_
      exact ⟨rfl, hk⟩
end Go.Proofs.Ytmnfagpbcllbgaa
