/-
  What the program's Done and Fail, and cmp.Or of two numbers, come to. New memory, and a fault that is noted, alone are written. Conditions: those of a reader in memory.
-/
import Derived.Test.YtlbhpicebefpnaaRpErr
namespace Go.Proofs.Ytlbhpicebefpnaa
open Go.RowKit

set_option maxRecDepth 100000 in
set_option maxHeartbeats 400000 in
theorem pOr_fst (k l : Int) (b : Nat) (w : World) (hk : k ≠ 0) (c0 : w.cell? ⟨b, 0, none⟩ = some (.int .i64 k)) (_c1 : w.cell? ⟨b, 1, none⟩ = some (.int .i64 l)) :
    Calls Try.prog 39 #[.slice (some ⟨b, 0, none⟩) 2 2] w fun e w' => e = .returned (.int .i64 k) ∧ w = w' := by
  go_enter Try.func39, Try.ntmps39
  go_wp2
  refine wp_loop_rounds 1 ?_
  rw [rounds_succ]
  go_wp2
  go_ret
  exact ⟨rfl, rfl⟩

set_option maxRecDepth 100000 in
set_option maxHeartbeats 400000 in
theorem pOr_snd (l : Int) (b : Nat) (w : World) (hl : l ≠ 0) (c0 : w.cell? ⟨b, 0, none⟩ = some (.int .i64 0)) (c1 : w.cell? ⟨b, 1, none⟩ = some (.int .i64 l)) :
    Calls Try.prog 39 #[.slice (some ⟨b, 0, none⟩) 2 2] w fun e w' => e = .returned (.int .i64 l) ∧ w = w' := by
  go_enter Try.func39, Try.ntmps39
  go_wp2
  refine wp_loop_rounds 2 ?_
  rw [rounds_succ]
  go_wp2
  rw [rounds_succ]
  go_wp2
  go_ret
  exact ⟨rfl, rfl⟩

/-- The first that is not 0, of two of which the second is not. -/
def orOf (k l : Int) : Int := if k = 0 then l else k
theorem pOr_any (k l : Int) (b : Nat) (w : World) (hl : l ≠ 0) (c0 : w.cell? ⟨b, 0, none⟩ = some (.int .i64 k)) (c1 : w.cell? ⟨b, 1, none⟩ = some (.int .i64 l)) :
    Calls Try.prog 39 #[.slice (some ⟨b, 0, none⟩) 2 2] w fun e w' => e = .returned (.int .i64 (orOf k l)) ∧ w = w' := by
  unfold orOf
  by_cases h : k = 0
  · subst h
    rw [if_pos rfl]
    exact pOr_snd l b w hl c0 c1
  · rw [if_neg h]
    exact pOr_fst k l b w h c0 c1

set_option maxRecDepth 100000 in
set_option maxHeartbeats 800000 in
theorem pDone_any {F : Nat → Prop} {w : World} {g : Nat} {xs : List Int} {p : Nat} {e : Int} (h : RdAt F w g xs p e) :
    Calls Try.prog 26 #[.pointer (some ⟨g, 0, none⟩)] w fun r w' => r = .returned (.int .i64 (doneOf xs.length p e)) ∧ Below w.heap.size w w' := by
  have hl := h.within
  unfold doneOf
  by_cases hp : ((p : Int) < (xs.length : Int))
  · have hd : (if e = 0 then (if (p : Int) < (xs.length : Int) then (3 : Int) else 0) else e) = orOf e 3 := by unfold orOf; rw [if_pos hp]
    rw [hd]
    obtain ⟨L, hL⟩ : ∃ L : Int, (xs.length : Int) - p = L := ⟨_, rfl⟩
    have hc := pLeft_any h
    rw [hL] at hc
    have hL0 : 0 < L := by omega
    clear hL hd hp hl
    go_enter Try.func26, Try.ntmps26
    go_wp2_with fail
    refine hc.mono ?_
    rintro r w1 ⟨rfl, q, hq⟩
    have b1 : Below w.heap.size w w1 := by rw [hq]; exact below_drewN (Below.refl _ _) q
    have h1 := h.keep (fun b hb => b1.block b (h.lt b hb)) b1.size
    clear hq hc
    go_wp2_with fail
    refine (pErr_any h1).mono ?_
    rintro r w2 ⟨rfl, b2⟩
    have b3 : Below w.heap.size w w2 := b1.trans (b2.mono b1.size)
    clear b2 h1 h
    have hk := Blk.new w2 28 [.int .i64 e, .int .i64 3]
    go_wp2_with fail
    refine (pOr_any e 3 w2.heap.size _ (by decide) (hk.cell 0) (hk.cell 1)).mono ?_
    rintro r w4 ⟨rfl, rfl⟩
    go_wp2
    go_ret
    exact ⟨rfl, b3.trans ((below1 w2 _).mono b3.size)⟩
  · have hd : (if e = 0 then (if (p : Int) < (xs.length : Int) then (3 : Int) else 0) else e) = e := by
      rw [if_neg hp]
      split
      · omega
      · rfl
    rw [hd]
    obtain ⟨L, hL⟩ : ∃ L : Int, (xs.length : Int) - p = L := ⟨_, rfl⟩
    have hc := pLeft_any h
    rw [hL] at hc
    have hL0 : ¬ 0 < L := by omega
    clear hL hd hp hl
    go_enter Try.func26, Try.ntmps26
    go_wp2_with fail
    refine hc.mono ?_
    rintro r w1 ⟨rfl, q, hq⟩
    have b1 : Below w.heap.size w w1 := by rw [hq]; exact below_drewN (Below.refl _ _) q
    have h1 := h.keep (fun b hb => b1.block b (h.lt b hb)) b1.size
    clear hq hc
    go_wp2_with fail
    refine (pErr_any h1).mono ?_
    rintro r w2 ⟨rfl, b2⟩
    have b3 : Below w.heap.size w w2 := b1.trans (b2.mono b1.size)
    go_wp2
    go_ret
    exact ⟨rfl, b3⟩

/-- A reader whose block was written: its bytes stand where they stood. -/
theorem RdAt.write {F : Nat → Prop} {w w' : World} {g : Nat} {xs : List Int} {p p' : Nat} {e e' t : Int} {a : Option Addr} {n c : Nat} {fv : Value} (h : RdAt F w g xs p e)
    (hi : Ints .u8 w a n c xs) (hx : ∀ x, a = some x → 0 < n → F x.block ∧ x.block ≠ g) (hg : w.grownBy w' (some g))
    (hb : Blk w' g 75 [.bool true, .slice a n c, .int .i64 (p' : Int), fv, .int .i64 t]) (hf : FaultIs fv t e') (hp : p' ≤ xs.length) : RdAt F w' g xs p' e' :=
  ⟨⟨a, n, c, fv, t, hb, hi.grown hg (fun x ha h0 => (hx x ha h0).2), hf, hx⟩, h.range, h.most, hp, h.own, fun b hb => Nat.lt_of_lt_of_le (h.lt b hb) hg.size⟩
end Go.Proofs.Ytlbhpicebefpnaa
