/-
  What reply's Right, numbersOf and replyOf (layer 15) come to. New memory alone is written. No conditions.
-/
import Derived.Test.YtbiabjehdmddbaaDoorRlMem
namespace Go.Proofs.YtbiabjehdmddbaaDoor
open Go.RowKit

theorem right_kind {r : RplV} (h : ¬ (0 ≤ r.kind ∧ r.kind < 7)) : rightR r = false := decide_eq_false fun k => h k.1
theorem right_err {r : RplV} (h : ¬ (0 ≤ r.err ∧ r.err < 21)) : rightR r = false := decide_eq_false fun k => h k.2.1
theorem right_ok {r : RplV} (h1 : 0 ≤ r.kind ∧ r.kind < 7) (h2 : 0 ≤ r.err ∧ r.err < 21) (h : r.err = 0) : rightR r = true := decide_eq_true ⟨h1, h2, .inl h⟩
theorem right_bare {r : RplV} (h1 : 0 ≤ r.kind ∧ r.kind < 7) (h2 : 0 ≤ r.err ∧ r.err < 21) (h : r.err ≠ 0) : rightR r = rpSame r ⟨r.kind, r.err, 0, 0, 0, 0, 0⟩ := by
  rw [Bool.eq_iff_iff, rightR_iff, rpSame_iff]
  obtain ⟨K, E, S, Q, O, U, X⟩ := r
  dsimp only at h h1 h2 ⊢
  constructor
  · rintro ⟨_, _, k⟩
    obtain ⟨k1, k2, k3, k4, k5⟩ := k.resolve_left h
    dsimp only at k1 k2 k3 k4 k5
    rw [k1, k2, k3, k4, k5]
  · intro e
    injection e with _ _ k1 k2 k3 k4 k5
    exact ⟨h1, h2, .inr ⟨k1, k2, k3, k4, k5⟩⟩

set_option maxRecDepth 100000 in
set_option maxHeartbeats 2000000 in
theorem rlRight_any (r : RplV) (w : World) : Calls Tryd.prog 22 #[.agg (rpV r).toArray] w fun q w' => q = .returned (.bool (rightR r)) ∧ Below w.heap.size w w' := by
  have hkn := fun w' => rlKindName_any r.kind w'
  have hen := fun w' => rlErrName_any r.err w'
  have hkq := kindQ r.kind
  have heq := errQ r.err
  have hsm := eq_rp r ⟨r.kind, r.err, 0, 0, 0, 0, 0⟩
  have hbt := built_rp2 r.kind r.err
  have hng := noGuardRp
  have r1 := right_kind (r := r)
  have r2 := right_err (r := r)
  have r3 := right_ok (r := r)
  have r4 := right_bare (r := r)
  obtain ⟨D, hD⟩ : ∃ D, rpV ⟨r.kind, r.err, 0, 0, 0, 0, 0⟩ = D := ⟨_, rfl⟩
  rw [hD] at hsm
  rw [show rpC r.kind r.err 0 0 0 0 0 = D from hD] at hbt
  obtain ⟨B, hB⟩ : ∃ B, rpSame r ⟨r.kind, r.err, 0, 0, 0, 0, 0⟩ = B := ⟨_, rfl⟩
  rw [hB] at hsm r4
  obtain ⟨R, hR⟩ : ∃ R, rightR r = R := ⟨_, rfl⟩
  rw [hR] at r1 r2 r3 r4 ⊢
  obtain ⟨K, E, S, Q, O, U, X⟩ := r
  unfold rpV at hsm ⊢
  dsimp only at *
  obtain ⟨C, hC⟩ : ∃ C, rpC K E S Q O U X = C := ⟨_, rfl⟩
  rw [hC] at hsm ⊢
  have hCl : C.length = 7 := by rw [← hC]; rfl
  have hCH := Lib.hid hC
  have hb := below1 w (.cells C.toArray 27)
  have hk : Blk (w.alloc (.cells C.toArray 27)) w.heap.size 27 C := Blk.new w _ C
  obtain ⟨W, hW⟩ : ∃ V, w.alloc (.cells C.toArray 27) = V := ⟨_, rfl⟩
  rw [hW] at hb hk
  obtain ⟨G, g9⟩ : ∃ G, w.heap.size = G := ⟨_, rfl⟩
  rw [g9] at hk
  have gH := Lib.hid g9
  obtain ⟨S1, hS1⟩ : ∃ S, strOfNums (nameL kindsL K) = S := ⟨_, rfl⟩
  obtain ⟨S2, hS2⟩ : ∃ S, strOfNums (nameL errsL E) = S := ⟨_, rfl⟩
  rw [hS1] at hkn hkq
  rw [hS2] at hen heq
  have hkn := Lib.hid hkn
  have hen := Lib.hid hen
  clear hC hD hB hR hS1 hS2
  by_cases k1 : 0 ≤ K ∧ K < 7
  · have hk' : ¬ S1.toList = [63] := fun e => hkq.1 e k1
    have hkb : (S1.toList == [63]) = false := beq_false_of_ne hk'
    clear hkq
    by_cases k2 : 0 ≤ E ∧ E < 21
    · have he' : ¬ S2.toList = [63] := fun e => heq.1 e k2
      have heb : (S2.toList == [63]) = false := beq_false_of_ne he'
      clear heq
      by_cases k3 : E = 0
      · obtain rfl := r3 k1 k2 k3
        subst k3
        clear r1 r2 r3 r4 k1 k2 hsm hbt
        go_enter Tryd.func22, Tryd.ntmps22
        go_wp2_with ((with_reducible refine box_row rfl 27 (.tmp 0) rfl C ?_ ?_); rfl; refine RowKit.Hid.out ?_)
        refine Lib.hid ?_
        clear hW
        have c0 := rp0 (hCH.out ▸ hk)
        go_wp2_with fail
        refine (hkn.out W).mono ?_
        rintro q w1 ⟨rfl, b1⟩
        have hk1 := hk.keep b1 hk.lt
        have hS1 := hb.trans (b1.mono hb.size)
        have c1 := rp1 (hCH.out ▸ hk1)
        clear hk hb b1 c0
        go_wp2_with fail
        refine (hen.out w1).mono ?_
        rintro q w2 ⟨rfl, b2⟩
        have hk2 := hk1.keep b2 hk1.lt
        have hS2 := hS1.trans (b2.mono hS1.size)
        have c0 := rp0 (hCH.out ▸ hk2)
        have c1' := rp1 (hCH.out ▸ hk2)
        clear hk1 hS1 b2 c1
        go_wp2
        go_ret
        exact ⟨rfl, hS2⟩
      · obtain rfl := r4 k1 k2 k3
        have k3b : (E == 0) = false := beq_false_of_ne k3
        clear r1 r2 r3 r4 k1 k2 k3
        go_enter Tryd.func22, Tryd.ntmps22
        go_wp2_with ((with_reducible refine box_row rfl 27 (.tmp 0) rfl C ?_ ?_); rfl; refine RowKit.Hid.out ?_)
        refine Lib.hid ?_
        clear hW
        have c0 := rp0 (hCH.out ▸ hk)
        go_wp2_with fail
        refine (hkn.out W).mono ?_
        rintro q w1 ⟨rfl, b1⟩
        have hk1 := hk.keep b1 hk.lt
        have hS1 := hb.trans (b1.mono hb.size)
        have c1 := rp1 (hCH.out ▸ hk1)
        clear hk hb b1 c0
        go_wp2_with fail
        refine (hen.out w1).mono ?_
        rintro q w2 ⟨rfl, b2⟩
        have hk2 := hk1.keep b2 hk1.lt
        have hS2 := hS1.trans (b2.mono hS1.size)
        have c0 := rp0 (hCH.out ▸ hk2)
        have c1' := rp1 (hCH.out ▸ hk2)
        clear hk1 hS1 b2 c1
        go_wp2_with (first
          | ((with_reducible refine load_if rfl 27 (.tmp 1) rfl ?_ hk2 rowRp hCl ?_); rfl)
          | ((with_reducible refine build_if rfl 27 #[(0, .tmp 19), (1, .tmp 21)] rfl (cells := D.toArray) ?_ ?_); (refine Eq.trans (congrArg _ ?_) hbt; kernel_rfl)))
        go_ret
        exact ⟨by first | rfl | simp, hS2⟩
    · have he' : S2.toList = [63] := heq.2 k2
      have heb : (S2.toList == [63]) = true := beq_iff_eq.2 he'
      clear heq
      obtain rfl := r2 k2
      clear r1 r2 r3 r4 k1 k2 hsm hbt
      go_enter Tryd.func22, Tryd.ntmps22
      go_wp2_with ((with_reducible refine box_row rfl 27 (.tmp 0) rfl C ?_ ?_); rfl; refine RowKit.Hid.out ?_)
      refine Lib.hid ?_
      clear hW
      have c0 := rp0 (hCH.out ▸ hk)
      go_wp2_with fail
      refine (hkn.out W).mono ?_
      rintro q w1 ⟨rfl, b1⟩
      have hk1 := hk.keep b1 hk.lt
      have hS1 := hb.trans (b1.mono hb.size)
      have c1 := rp1 (hCH.out ▸ hk1)
      clear hk hb b1 c0
      go_wp2_with fail
      refine (hen.out w1).mono ?_
      rintro q w2 ⟨rfl, b2⟩
      have hk2 := hk1.keep b2 hk1.lt
      have hS2 := hS1.trans (b2.mono hS1.size)
      have c0 := rp0 (hCH.out ▸ hk2)
      have c1' := rp1 (hCH.out ▸ hk2)
      clear hk1 hS1 b2 c1
      go_wp2
      go_ret
      exact ⟨rfl, hS2⟩
  · have hk' : S1.toList = [63] := hkq.2 k1
    have hkb : (S1.toList == [63]) = true := beq_iff_eq.2 hk'
    clear hkq heq
    obtain rfl := r1 k1
    clear r1 r2 r3 r4 k1 hsm hbt
    go_enter Tryd.func22, Tryd.ntmps22
    go_wp2_with ((with_reducible refine box_row rfl 27 (.tmp 0) rfl C ?_ ?_); rfl; refine RowKit.Hid.out ?_)
    refine Lib.hid ?_
    clear hW
    have c0 := rp0 (hCH.out ▸ hk)
    go_wp2_with fail
    refine (hkn.out W).mono ?_
    rintro q w1 ⟨rfl, b1⟩
    have hk1 := hk.keep b1 hk.lt
    have hS1 := hb.trans (b1.mono hb.size)
    have c1 := rp1 (hCH.out ▸ hk1)
    clear hk hb b1 c0
    go_wp2
    go_ret
    exact ⟨rfl, hS1⟩
end Go.Proofs.YtbiabjehdmddbaaDoor
