/-
  What the program's Done and Fail, and cmp.Or of two numbers, come to. New memory, and a fault that is noted, alone are written. Conditions: those of a reader in memory.
-/
import Derived.Test.YtpobplkijfienaaRpErr
namespace Go.Proofs.Ytpobplkijfienaa
open Go.RowKit

set_option maxRecDepth 100000 in
set_option maxHeartbeats 400000 in
theorem pOr_fst (k l : Int) (b : Nat) (w : World) (hk : k ≠ 0) (c0 : w.cell? ⟨b, 0, none⟩ = some (.int .i64 k)) (_c1 : w.cell? ⟨b, 1, none⟩ = some (.int .i64 l)) :
    Calls Try.prog 31 #[.slice (some ⟨b, 0, none⟩) 2 2] w fun e w' => e = .returned (.int .i64 k) ∧ w = w' := by
  go_enter Try.func31, Try.ntmps31
  go_wp2
  refine wp_loop_rounds 1 ?_
  rw [rounds_succ]
  go_wp2
  go_ret
  exact ⟨rfl, rfl⟩

set_option maxRecDepth 100000 in
set_option maxHeartbeats 400000 in
theorem pOr_snd (l : Int) (b : Nat) (w : World) (hl : l ≠ 0) (c0 : w.cell? ⟨b, 0, none⟩ = some (.int .i64 0)) (c1 : w.cell? ⟨b, 1, none⟩ = some (.int .i64 l)) :
    Calls Try.prog 31 #[.slice (some ⟨b, 0, none⟩) 2 2] w fun e w' => e = .returned (.int .i64 l) ∧ w = w' := by
  go_enter Try.func31, Try.ntmps31
  go_wp2
  refine wp_loop_rounds 2 ?_
  rw [rounds_succ]
  go_wp2
  rw [rounds_succ]
  go_wp2
  go_ret
  exact ⟨rfl, rfl⟩

/-- The first that is not 0, of two of which the second is not. -/
def orOf (k l : Int) : Int := if k = 0 then l else k
theorem pOr_any (k l : Int) (b : Nat) (w : World) (hl : l ≠ 0) (c0 : w.cell? ⟨b, 0, none⟩ = some (.int .i64 k)) (c1 : w.cell? ⟨b, 1, none⟩ = some (.int .i64 l)) :
    Calls Try.prog 31 #[.slice (some ⟨b, 0, none⟩) 2 2] w fun e w' => e = .returned (.int .i64 (orOf k l)) ∧ w = w' := by
  unfold orOf
  by_cases h : k = 0
  · subst h
    rw [if_pos rfl]
    exact pOr_snd l b w hl c0 c1
  · rw [if_neg h]
    exact pOr_fst k l b w h c0 c1

set_option maxRecDepth 100000 in
set_option maxHeartbeats 800000 in
theorem pDone_any {F : Nat → Prop} {w : World} {g : Nat} {xs : List Int} {p : Nat} {e : Int} (h : RdAt F w g xs p e) :
    Calls Try.prog 13 #[.pointer (some ⟨g, 0, none⟩)] w fun r w' => r = .returned (.int .i64 (doneOf xs.length p e)) ∧ Below w.heap.size w w' := by
  have hl := h.within
  unfold doneOf
  by_cases hp : ((p : Int) < (xs.length : Int))
  · have hd : (if e = 0 then (if (p : Int) < (xs.length : Int) then (3 : Int) else 0) else e) = orOf e 3 := by unfold orOf; rw [if_pos hp]
    rw [hd]
    obtain ⟨L, hL⟩ : ∃ L : Int, (xs.length : Int) - p = L := ⟨_, rfl⟩
    have hc := pLeft_any h
    rw [hL] at hc
    have hL0 : 0 < L := by omega
    clear hL hd hp hl
    go_enter Try.func13, Try.ntmps13
    go_wp2_with fail
    refine hc.mono ?_
    rintro r w1 ⟨rfl, q, hq⟩
    have b1 : Below w.heap.size w w1 := by rw [hq]; exact below_drewN (Below.refl _ _) q
    have h1 := h.keep (fun b hb => b1.block b (h.lt b hb)) b1.size
    clear hq hc
    go_wp2_with fail
    refine (pErr_any h1).mono ?_
    rintro r w2 ⟨rfl, b2⟩
    have b3 : Below w.heap.size w w2 := b1.trans (b2.mono b1.size)
    clear b2 h1 h
    have hk := Blk.new w2 29 [.int .i64 e, .int .i64 3]
    go_wp2_with fail
    refine (pOr_any e 3 w2.heap.size _ (by decide) (hk.cell 0) (hk.cell 1)).mono ?_
    rintro r w4 ⟨rfl, rfl⟩
    go_wp2
    go_ret
    exact ⟨rfl, b3.trans ((below1 w2 _).mono b3.size)⟩
  · have hd : (if e = 0 then (if (p : Int) < (xs.length : Int) then (3 : Int) else 0) else e) = e := by
      rw [if_neg hp]
      split
      · omega
      · rfl
    rw [hd]
    obtain ⟨L, hL⟩ : ∃ L : Int, (xs.length : Int) - p = L := ⟨_, rfl⟩
    have hc := pLeft_any h
    rw [hL] at hc
    have hL0 : ¬ 0 < L := by omega
    clear hL hd hp hl
    go_enter Try.func13, Try.ntmps13
    go_wp2_with fail
    refine hc.mono ?_
    rintro r w1 ⟨rfl, q, hq⟩
    have b1 : Below w.heap.size w w1 := by rw [hq]; exact below_drewN (Below.refl _ _) q
    have h1 := h.keep (fun b hb => b1.block b (h.lt b hb)) b1.size
    clear hq hc
    go_wp2_with fail
    refine (pErr_any h1).mono ?_
    rintro r w2 ⟨rfl, b2⟩
    have b3 : Below w.heap.size w w2 := b1.trans (b2.mono b1.size)
    go_wp2
    go_ret
    exact ⟨rfl, b3⟩

/-- A block of the reader's own was written. -/
theorem moved_set {F : Nat → Prop} {w w' : World} {g : Nat} (hF : F g) (hg : w.grownBy w' (some g)) : Moved F w w' :=
  ⟨⟨hg.os, hg.tape, hg.output, hg.size, fun _ h => absurd h (Nat.not_lt_zero _)⟩, fun b hb hf => hg.block b hb (fun e => by injection e with e; exact hf (e ▸ hF))⟩
theorem grows_self {F : Nat → Prop} {w : World} : Grows F F w := fun _ h => .inl h

/-- A reader whose block was written: its bytes stand where they stood. -/
theorem RdAt.write {F : Nat → Prop} {w w' : World} {g : Nat} {xs : List Int} {p p' : Nat} {e e' t : Int} {a : Option Addr} {n c : Nat} {fv : Value} (h : RdAt F w g xs p e)
    (hi : Ints .u8 w a n c xs) (hx : ∀ x, a = some x → 0 < n → F x.block ∧ x.block ≠ g) (hg : w.grownBy w' (some g))
    (hb : Blk w' g 49 [.bool true, .slice a n c, .int .i64 (p' : Int), fv, .int .i64 t]) (hf : FaultIs fv t e') (hp : p' ≤ xs.length) : RdAt F w' g xs p' e' :=
  ⟨⟨a, n, c, fv, t, hb, hi.grown hg (fun x ha h0 => (hx x ha h0).2), hf, hx⟩, h.range, h.most, hp, h.own, fun b hb => Nat.lt_of_lt_of_le (h.lt b hb) hg.size⟩

set_option maxRecDepth 100000 in
set_option maxHeartbeats 800000 in
theorem pFail_any {F : Nat → Prop} {w : World} {g : Nat} {xs : List Int} {p : Nat} {e : Int} (x : Int) (h : RdAt F w g xs p e) :
    Calls Try.prog 18 #[.pointer (some ⟨g, 0, none⟩), .int .i64 x] w fun r w' => r = .returned (.tuple #[]) ∧ RdAt F w' g xs p (badOf e x) ∧ Moved F w w' := by
  unfold badOf
  by_cases hx0 : x = 0
  · subst hx0
    rw [show (if e = 0 then 0 else e) = e by split <;> omega]
    go_enter Try.func18, Try.ntmps18
    go_wp2
    refine bodyPost_ret (results_none rfl _ _ _) rfl ?_
    exact ⟨rfl, h, Moved.of_below (Below.refl _ _)⟩
  · have hc := pReads_any h
    by_cases he : e = 0
    · subst he
      rw [if_pos rfl]
      obtain ⟨a, n, c, fv, t, hb, hi, hf, hx⟩ := h.is
      obtain ⟨c0, c1, c2, c3, c4⟩ := rdCells hb
      have z3 := hb.frozen 3
      have z4 := hb.frozen 4
      rw [show decide ((0 : Int) = 0) = true from rfl] at hc
      have hbH := Lib.hid hb
      clear hb
      go_enter Try.func18, Try.ntmps18
      go_wp2_with fail
      refine hc.mono ?_
      rintro r w1 ⟨rfl, rfl⟩
      go_wp2
      go_end0
      have k1 := (hbH.out.set 3 (.iface 78 (.agg #[.string { data := #[119, 104, 97, 116, 32, 119, 97, 115, 32, 114, 101, 97, 100] }, .int .i64 x]))).set 4 (.int .i64 x)
      have g1 := grown_trans (grown_setCell w g 3 (.iface 78 (.agg #[.string { data := #[119, 104, 97, 116, 32, 119, 97, 115, 32, 114, 101, 97, 100] }, .int .i64 x]))) (grown_setCell _ g 4 (.int .i64 x))
      exact ⟨rfl, h.write hi hx g1 k1 (.inr ⟨hx0, _, rfl, .inr (.inr (.inr rfl))⟩) h.within, moved_set h.own g1⟩
    · rw [if_neg he]
      rw [show decide (e = 0) = false from decide_eq_false he] at hc
      go_enter Try.func18, Try.ntmps18
      go_wp2_with fail
      refine hc.mono ?_
      rintro r w1 ⟨rfl, rfl⟩
      go_wp2
      refine bodyPost_ret (results_none rfl _ _ _) rfl ?_
      exact ⟨rfl, h, Moved.of_below (Below.refl _ _)⟩
end Go.Proofs.Ytpobplkijfienaa
