/-
  Texts of stages that were proved on their own, joined: RyMem, RyCall, RyOpen, RyNew, RyOwn. Each begins with its own words.
-/
import Derived.Test.YtinmmhbiomcdoaaGreatDoorJVaLawN31
import Derived.Test.YtinmmhbiomcdoaaGreatDoorJVaLawN15
import Derived.Test.YtinmmhbiomcdoaaGreatDoorJVaLawN16
import Derived.Test.YtinmmhbiomcdoaaGreatDoorJVaLawN8

/-
  A roll in memory, over the landed disk: what unmade, Bodies, Len, Size, keep and mend come to. The disk's own blocks are written, and new memory. Conditions: a roll that Open made, of a disk that New made; fewer than 2^41 steps; the files hold bytes.
-/
namespace Go.Proofs.YtinmmhbiomcdoaaGreatDoor
open Go.RowKit

def roC (g : Nat) (z : Int) : List Value := [.pointer (some ⟨g, 0, none⟩), .int .i64 z, .bool true]
/-- A roll that Open made. -/
def RollAt (w : World) (ro g : Nat) (z : Int) : Prop := Blk w ro 157 (roC g z)
theorem RollAt.keep {w w' : World} {ro g : Nat} {z : Int} (h : RollAt w ro g z) (hb : Below w.heap.size w w') : RollAt w' ro g z := Blk.keep h hb (Blk.lt h)
theorem RollAt.c0 {w : World} {ro g : Nat} {z : Int} (h : RollAt w ro g z) : w.cell? ⟨ro, 0, none⟩ = some (.pointer (some ⟨g, 0, none⟩)) := Blk.cell h 0
theorem RollAt.c1 {w : World} {ro g : Nat} {z : Int} (h : RollAt w ro g z) : w.cell? ⟨ro, 1, none⟩ = some (.int .i64 z) := Blk.cell h 1
theorem RollAt.c2 {w : World} {ro g : Nat} {z : Int} (h : RollAt w ro g z) : w.cell? ⟨ro, 2, none⟩ = some (.bool true) := Blk.cell h 2
theorem RollAt.lt {w : World} {ro g : Nat} {z : Int} (h : RollAt w ro g z) : ro < w.heap.size := Blk.lt h
theorem Went.roll {L L' : Nat → Nat} {P P' : Nat → Prop} {w w' : World} (h : Went L P w L' P' w') {ro g : Nat} {z : Int} (hr : RollAt w ro g z) (h0 : L ro = 0) : RollAt w' ro g z := (h.at hr.lt h0).trans hr
theorem Went.lab {L L' : Nat → Nat} {P P' : Nat → Prop} {w w' : World} (h : Went L P w L' P' w') {ro g : Nat} {z : Int} (hr : RollAt w ro g z) (h0 : L ro = 0) : L' ro = 0 := (h.l ro hr.lt).trans h0
set_option maxRecDepth 100000 in
set_option maxHeartbeats 800000 in
theorem yUnmade_any {w : World} {ro g : Nat} {z : Int} (hr : RollAt w ro g z) :
    Calls Tryz.prog 83 #[.pointer (some ⟨ro, 0, none⟩)] w fun q w' => q = .returned (.bool false) ∧ w = w' := by
  have c2 := hr.c2
  clear hr
  go_enter Tryz.func83, Tryz.ntmps83
  go_wp2
  go_ret
  exact ⟨rfl, rfl⟩

theorem y_scan {w : World} {a : Option Addr} {n c : Nat} {xs : List Int} (hG : Glob11 w) (hI : Ints .u8 w a n c xs) (hr : ∀ x ∈ xs, isByte x) (hn : n ≤ 1000000000) {B : Nat} (hB : B ≤ w.heap.size) {ps : List (List Int)} (hp : allF xs = ps) {G : Nat} (hg : goodF xs = G) :
    Calls Tryz.prog 114 #[.slice a n c] w fun q w' => ∃ v, q = .returned (.tuple #[v, .int .i64 (G : Int)]) ∧ RowsO w' B 0 v ps ∧ Below w.heap.size w w' := by
  subst hp; subst hg
  exact (fScan_any a n c xs (numF xs) (numF_fr xs) w hG hI hr hn).mono fun q w' ⟨v, e, h, hb⟩ => ⟨v, e, h.low hB, hb⟩

set_option maxRecDepth 100000 in
set_option maxHeartbeats 2000000 in
theorem yBodies_any {L : Nat → Nat} {P : Nat → Prop} {w : World} {ro g : Nat} {D : DkV} {T : Nat} {z : Int} (hr : RollAt w ro g z) (h : DkIs L P w g D) (hO : D.Ok T) (hD : D.By) (hz : 0 ≤ z ∧ z < 3) (hG : Glob11 w) {ps : List (List Int)} (hp : allF (heldR D z) = ps) :
    Calls Tryz.prog 71 #[.pointer (some ⟨ro, 0, none⟩)] w fun q w' => ∃ v, q = .returned v ∧ RowsO w' w.heap.size 0 v ps ∧ Below w.heap.size w w' := by
  have hu := yUnmade_any hr
  have hby : ∀ x ∈ heldR D z, isByte x := (hD.f _).held
  have hle := held_len hO z
  obtain ⟨X, hX⟩ : ∃ X, heldR D z = X := ⟨_, rfl⟩
  obtain ⟨N, hN⟩ : ∃ N, X.length = N := ⟨_, rfl⟩
  obtain ⟨G, hg⟩ : ∃ G, goodF X = G := ⟨_, rfl⟩
  rw [hX] at hp hby hle
  rw [hN] at hle
  have b4 : Below w.heap.size w w.drew := (Below.refl _ _).drew
  have CR := Lib.hid (fun w' (q : Below w.heap.size w w') => y_read (h.keep q) hO hz hX hN)
  have CS := Lib.hid (fun w' (q : Below w.heap.size w w') (a : Option Addr) (c : Nat) (I : Ints .u8 w' a N c X) => y_scan (hG.keep q (Nat.le_refl _)) I hby (by omega) q.size hp hg)
  have R0 := Lib.hid (fun w' (q : Below w.heap.size w w') => (hr.keep q).c0)
  have R1 := Lib.hid (fun w' (q : Below w.heap.size w w') => (hr.keep q).c1)
  clear hr h hO hD hG hX hN hg hp hby hle hz
  go_enter Tryz.func71, Tryz.ntmps71
  go_wp2_with fail
  refine hu.mono ?_
  rintro q w1 ⟨rfl, rfl⟩
  clear hu
  go_wp2_with fail
  refine region_seqS (fun w' => Below w.heap.size w w') (by kernel_rfl) b4 ?_
  simp only [pairs, Nat.reduceAdd]
  repeat (first
    | (refine SeqS.take (v := ?_) (by first | assumption | trivial) (by kernel_rfl) (by decide +kernel) (by decide +kernel) (Or.inl ⟨by rfl, ?_⟩) ?_
       rotate_left
       focus
         intro w' hb'
         go_simp
         with_reducible rfl
       simp only [Act.put, List.setIfInBounds_toArray, List.set_cons_zero, List.set_cons_succ])
    | (refine SeqS.take (v := ?_) (by first | assumption | trivial) (by kernel_rfl) (by decide +kernel) (by decide +kernel) (Or.inl ⟨by rfl, ?_⟩) ?_
       rotate_left
       focus
         intro w' hb'
         have d0 := R0.out w' hb'
         go_simp
         with_reducible rfl
       simp only [Act.put, List.setIfInBounds_toArray, List.set_cons_zero, List.set_cons_succ])
    | (refine SeqS.take (v := ?_) (by first | assumption | trivial) (by kernel_rfl) (by decide +kernel) (by decide +kernel) (Or.inl ⟨by rfl, ?_⟩) ?_
       rotate_left
       focus
         intro w' hb'
         have d0 := R1.out w' hb'
         go_simp
         with_reducible rfl
       simp only [Act.put, List.setIfInBounds_toArray, List.set_cons_zero, List.set_cons_succ])
    | (refine SeqS.take (v := undef) (by first | assumption | trivial) (by kernel_rfl) (by decide +kernel) (by decide +kernel) (Or.inr ⟨by rfl, rfl⟩) ?_
       simp only [Act.put, List.setIfInBounds_toArray, List.set_cons_zero, List.set_cons_succ])
    | (refine SeqS.take1 (v := ?_) (by first | assumption | trivial) (by kernel_rfl) (by decide +kernel) (by decide +kernel) (Or.inl ⟨by rfl, ?_⟩) ?_
       rotate_left
       focus
         intro w' hb'
         go_simp
         with_reducible rfl
       simp only [Act.put, List.setIfInBounds_toArray, List.set_cons_zero, List.set_cons_succ])
    | (refine SeqS.take1 (v := ?_) (by first | assumption | trivial) (by kernel_rfl) (by decide +kernel) (by decide +kernel) (Or.inl ⟨by rfl, ?_⟩) ?_
       rotate_left
       focus
         intro w' hb'
         have d0 := R0.out w' hb'
         go_simp
         with_reducible rfl
       simp only [Act.put, List.setIfInBounds_toArray, List.set_cons_zero, List.set_cons_succ])
    | (refine SeqS.take1 (v := ?_) (by first | assumption | trivial) (by kernel_rfl) (by decide +kernel) (by decide +kernel) (Or.inl ⟨by rfl, ?_⟩) ?_
       rotate_left
       focus
         intro w' hb'
         have d0 := R1.out w' hb'
         go_simp
         with_reducible rfl
       simp only [Act.put, List.setIfInBounds_toArray, List.set_cons_zero, List.set_cons_succ])
    | (refine SeqS.take1 (v := undef) (by first | assumption | trivial) (by kernel_rfl) (by decide +kernel) (by decide +kernel) (Or.inr ⟨by rfl, rfl⟩) ?_
       simp only [Act.put, List.setIfInBounds_toArray, List.set_cons_zero, List.set_cons_succ])
    | (refine SeqS.take2 (v := ?_) (by first | assumption | trivial) (by kernel_rfl) (by decide +kernel) (by decide +kernel) (Or.inl ⟨by rfl, ?_⟩) ?_
       rotate_left
       focus
         intro w' hb'
         go_simp
         with_reducible rfl
       simp only [Act.put, List.setIfInBounds_toArray, List.set_cons_zero, List.set_cons_succ])
    | (refine SeqS.take2 (v := ?_) (by first | assumption | trivial) (by kernel_rfl) (by decide +kernel) (by decide +kernel) (Or.inl ⟨by rfl, ?_⟩) ?_
       rotate_left
       focus
         intro w' hb'
         have d0 := R0.out w' hb'
         go_simp
         with_reducible rfl
       simp only [Act.put, List.setIfInBounds_toArray, List.set_cons_zero, List.set_cons_succ])
    | (refine SeqS.take2 (v := ?_) (by first | assumption | trivial) (by kernel_rfl) (by decide +kernel) (by decide +kernel) (Or.inl ⟨by rfl, ?_⟩) ?_
       rotate_left
       focus
         intro w' hb'
         have d0 := R1.out w' hb'
         go_simp
         with_reducible rfl
       simp only [Act.put, List.setIfInBounds_toArray, List.set_cons_zero, List.set_cons_succ])
    | (refine SeqS.take2 (v := undef) (by first | assumption | trivial) (by kernel_rfl) (by decide +kernel) (by decide +kernel) (Or.inr ⟨by rfl, rfl⟩) ?_
       simp only [Act.put, List.setIfInBounds_toArray, List.set_cons_zero, List.set_cons_succ]))
  refine SeqS.alone (by decide +kernel) (by rfl) (fun K hK => ?_)
  go_simp
  go_at_call 54
  refine (CR.out _ b4).mono ?_
  rintro e w1 ⟨a1, c1, rfl, I1, b1⟩
  go_simp
  have S1 : Below w.heap.size w w1 := b4.trans (b1.mono b4.size)
  refine hK _ _ S1 ?_
  clear hK K
  refine SeqS.alone (by decide +kernel) (by rfl) (fun K hK => ?_)
  go_simp
  go_at_call 114
  refine (CS.out _ S1 _ _ I1).mono ?_
  rintro e w2 ⟨v2, rfl, R2, b2⟩
  go_simp
  have S2 : Below w.heap.size w w2 := S1.trans (b2.mono S1.size)
  refine hK _ _ S2 ?_
  clear hK K
  have R2 := Lib.hid R2
  repeat (first
    | (refine SeqS.take (v := ?_) (by first | assumption | trivial) (by kernel_rfl) (by decide +kernel) (by decide +kernel) (Or.inl ⟨by rfl, ?_⟩) ?_
       rotate_left
       focus
         intro w' hb'
         go_simp
         with_reducible rfl
       simp only [Act.put, List.setIfInBounds_toArray, List.set_cons_zero, List.set_cons_succ])
    | (refine SeqS.take (v := undef) (by first | assumption | trivial) (by kernel_rfl) (by decide +kernel) (by decide +kernel) (Or.inr ⟨by rfl, rfl⟩) ?_
       simp only [Act.put, List.setIfInBounds_toArray, List.set_cons_zero, List.set_cons_succ])
    | (refine SeqS.take1 (v := ?_) (by first | assumption | trivial) (by kernel_rfl) (by decide +kernel) (by decide +kernel) (Or.inl ⟨by rfl, ?_⟩) ?_
       rotate_left
       focus
         intro w' hb'
         go_simp
         with_reducible rfl
       simp only [Act.put, List.setIfInBounds_toArray, List.set_cons_zero, List.set_cons_succ])
    | (refine SeqS.take1 (v := undef) (by first | assumption | trivial) (by kernel_rfl) (by decide +kernel) (by decide +kernel) (Or.inr ⟨by rfl, rfl⟩) ?_
       simp only [Act.put, List.setIfInBounds_toArray, List.set_cons_zero, List.set_cons_succ])
    | (refine SeqS.take2 (v := ?_) (by first | assumption | trivial) (by kernel_rfl) (by decide +kernel) (by decide +kernel) (Or.inl ⟨by rfl, ?_⟩) ?_
       rotate_left
       focus
         intro w' hb'
         go_simp
         with_reducible rfl
       simp only [Act.put, List.setIfInBounds_toArray, List.set_cons_zero, List.set_cons_succ])
    | (refine SeqS.take2 (v := undef) (by first | assumption | trivial) (by kernel_rfl) (by decide +kernel) (by decide +kernel) (Or.inr ⟨by rfl, rfl⟩) ?_
       simp only [Act.put, List.setIfInBounds_toArray, List.set_cons_zero, List.set_cons_succ]))
  refine SeqS.done (by decide +kernel) ?_
  go_wp2
  go_ret
  exact ⟨_, rfl, R2.out, S2⟩
end Go.Proofs.YtinmmhbiomcdoaaGreatDoor

/-
  What a roll's keep, mend, Append, Clear, Len, Size and Open come to. The disk's own blocks are written, and new memory. Conditions: a roll that Open made (of Open: none), of a disk that New made; fewer than 2^42 steps; the files hold bytes.
-/
namespace Go.Proofs.YtinmmhbiomcdoaaGreatDoor
open Go.RowKit

set_option maxRecDepth 100000 in
set_option maxHeartbeats 2000000 in
theorem yKeep_any {L : Nat → Nat} {P : Nat → Prop} {w : World} {ro g : Nat} {D : DkV} {T : Nat} {z n : Int} (hr : RollAt w ro g z) (h0 : L ro = 0) (h : DkIs L P w g D) (hO : D.Ok T) (hT : T < 4398046511103) :
    Calls Tryz.prog 95 #[.pointer (some ⟨ro, 0, none⟩), .int .i64 n] w fun q w' => q = .returned (.int .i64 (keD D z n).2) ∧ DkTo L P w g w' (keD D z n).1 := by
  have b4 : Below w.heap.size w w.drew := (Below.refl _ _).drew
  have rS : RollAt w.drew ro g z := hr.keep b4
  have hC := dCut_any (file := z) (k := n) (h.keep b4) hO (by omega)
  have hok := ctD_ok hO z n
  unfold keD
  obtain ⟨D1, e1, he⟩ : ∃ D1 e1, ctD D z n = (D1, e1) := ⟨_, _, rfl⟩
  rw [he] at hC hok ⊢
  dsimp only at hC hok ⊢
  have hrH := Lib.hid hr
  have h0H := Lib.hid h0
  have hS := Lib.hid (fun (L1 : Nat → Nat) (P1 : Nat → Prop) (w1 : World) (k : DkIs L1 P1 w1 g D1) => dSync_any (file := z) k hok (by omega))
  clear hr h hO hT he hok h0
  by_cases h1 : e1 = 0
  · subst h1
    rw [if_pos rfl]
    obtain ⟨D2, e2, he2⟩ : ∃ D2 e2, syD D1 z = (D2, e2) := ⟨_, _, rfl⟩
    rw [he2] at hS ⊢
    dsimp only at hS ⊢
    clear he2
    go_enter Tryz.func95, Tryz.ntmps95
    go_wp2_with fail
    refine region_seqS (fun w' => RollAt w' ro g z) (by kernel_rfl) rS ?_
    simp only [pairs, Nat.reduceAdd]
    repeat (first
      | (refine SeqS.take (v := ?_) (by first | assumption | trivial) (by kernel_rfl) (by decide +kernel) (by decide +kernel) (Or.inl ⟨by rfl, ?_⟩) ?_
         rotate_left
         focus
           intro w' hb'
           go_simp
           with_reducible rfl
         simp only [Act.put, List.setIfInBounds_toArray, List.set_cons_zero, List.set_cons_succ])
      | (refine SeqS.take (v := ?_) (by first | assumption | trivial) (by kernel_rfl) (by decide +kernel) (by decide +kernel) (Or.inl ⟨by rfl, ?_⟩) ?_
         rotate_left
         focus
           intro w' hb'
           have d0 := RollAt.c0 hb'
           go_simp
           with_reducible rfl
         simp only [Act.put, List.setIfInBounds_toArray, List.set_cons_zero, List.set_cons_succ])
      | (refine SeqS.take (v := ?_) (by first | assumption | trivial) (by kernel_rfl) (by decide +kernel) (by decide +kernel) (Or.inl ⟨by rfl, ?_⟩) ?_
         rotate_left
         focus
           intro w' hb'
           have d0 := RollAt.c1 hb'
           go_simp
           with_reducible rfl
         simp only [Act.put, List.setIfInBounds_toArray, List.set_cons_zero, List.set_cons_succ])
      | (refine SeqS.take (v := undef) (by first | assumption | trivial) (by kernel_rfl) (by decide +kernel) (by decide +kernel) (Or.inr ⟨by rfl, rfl⟩) ?_
         simp only [Act.put, List.setIfInBounds_toArray, List.set_cons_zero, List.set_cons_succ])
      | (refine SeqS.take1 (v := ?_) (by first | assumption | trivial) (by kernel_rfl) (by decide +kernel) (by decide +kernel) (Or.inl ⟨by rfl, ?_⟩) ?_
         rotate_left
         focus
           intro w' hb'
           go_simp
           with_reducible rfl
         simp only [Act.put, List.setIfInBounds_toArray, List.set_cons_zero, List.set_cons_succ])
      | (refine SeqS.take1 (v := ?_) (by first | assumption | trivial) (by kernel_rfl) (by decide +kernel) (by decide +kernel) (Or.inl ⟨by rfl, ?_⟩) ?_
         rotate_left
         focus
           intro w' hb'
           have d0 := RollAt.c0 hb'
           go_simp
           with_reducible rfl
         simp only [Act.put, List.setIfInBounds_toArray, List.set_cons_zero, List.set_cons_succ])
      | (refine SeqS.take1 (v := ?_) (by first | assumption | trivial) (by kernel_rfl) (by decide +kernel) (by decide +kernel) (Or.inl ⟨by rfl, ?_⟩) ?_
         rotate_left
         focus
           intro w' hb'
           have d0 := RollAt.c1 hb'
           go_simp
           with_reducible rfl
         simp only [Act.put, List.setIfInBounds_toArray, List.set_cons_zero, List.set_cons_succ])
      | (refine SeqS.take1 (v := undef) (by first | assumption | trivial) (by kernel_rfl) (by decide +kernel) (by decide +kernel) (Or.inr ⟨by rfl, rfl⟩) ?_
         simp only [Act.put, List.setIfInBounds_toArray, List.set_cons_zero, List.set_cons_succ])
      | (refine SeqS.take2 (v := ?_) (by first | assumption | trivial) (by kernel_rfl) (by decide +kernel) (by decide +kernel) (Or.inl ⟨by rfl, ?_⟩) ?_
         rotate_left
         focus
           intro w' hb'
           go_simp
           with_reducible rfl
         simp only [Act.put, List.setIfInBounds_toArray, List.set_cons_zero, List.set_cons_succ])
      | (refine SeqS.take2 (v := ?_) (by first | assumption | trivial) (by kernel_rfl) (by decide +kernel) (by decide +kernel) (Or.inl ⟨by rfl, ?_⟩) ?_
         rotate_left
         focus
           intro w' hb'
           have d0 := RollAt.c0 hb'
           go_simp
           with_reducible rfl
         simp only [Act.put, List.setIfInBounds_toArray, List.set_cons_zero, List.set_cons_succ])
      | (refine SeqS.take2 (v := ?_) (by first | assumption | trivial) (by kernel_rfl) (by decide +kernel) (by decide +kernel) (Or.inl ⟨by rfl, ?_⟩) ?_
         rotate_left
         focus
           intro w' hb'
           have d0 := RollAt.c1 hb'
           go_simp
           with_reducible rfl
         simp only [Act.put, List.setIfInBounds_toArray, List.set_cons_zero, List.set_cons_succ])
      | (refine SeqS.take2 (v := undef) (by first | assumption | trivial) (by kernel_rfl) (by decide +kernel) (by decide +kernel) (Or.inr ⟨by rfl, rfl⟩) ?_
         simp only [Act.put, List.setIfInBounds_toArray, List.set_cons_zero, List.set_cons_succ]))
    refine SeqS.alone (by decide +kernel) (by rfl) (fun K hK => ?_)
    go_simp
    go_at_call 127
    refine hC.mono ?_
    rintro q w1 ⟨rfl, t1⟩
    obtain ⟨L1, P1, k1, v1⟩ := t1.drewn
    have r1 := v1.roll hrH.out h0H.out
    have l1 := v1.lab hrH.out h0H.out
    go_simp
    refine hK _ _ r1 ?_
    clear hK K hC rS t1
    repeat (first
      | (refine SeqS.take (v := ?_) (by first | assumption | trivial) (by kernel_rfl) (by decide +kernel) (by decide +kernel) (Or.inl ⟨by rfl, ?_⟩) ?_
         rotate_left
         focus
           intro w' hb'
           go_simp
           with_reducible rfl
         simp only [Act.put, List.setIfInBounds_toArray, List.set_cons_zero, List.set_cons_succ])
      | (refine SeqS.take (v := undef) (by first | assumption | trivial) (by kernel_rfl) (by decide +kernel) (by decide +kernel) (Or.inr ⟨by rfl, rfl⟩) ?_
         simp only [Act.put, List.setIfInBounds_toArray, List.set_cons_zero, List.set_cons_succ])
      | (refine SeqS.take1 (v := ?_) (by first | assumption | trivial) (by kernel_rfl) (by decide +kernel) (by decide +kernel) (Or.inl ⟨by rfl, ?_⟩) ?_
         rotate_left
         focus
           intro w' hb'
           go_simp
           with_reducible rfl
         simp only [Act.put, List.setIfInBounds_toArray, List.set_cons_zero, List.set_cons_succ])
      | (refine SeqS.take1 (v := undef) (by first | assumption | trivial) (by kernel_rfl) (by decide +kernel) (by decide +kernel) (Or.inr ⟨by rfl, rfl⟩) ?_
         simp only [Act.put, List.setIfInBounds_toArray, List.set_cons_zero, List.set_cons_succ])
      | (refine SeqS.take2 (v := ?_) (by first | assumption | trivial) (by kernel_rfl) (by decide +kernel) (by decide +kernel) (Or.inl ⟨by rfl, ?_⟩) ?_
         rotate_left
         focus
           intro w' hb'
           go_simp
           with_reducible rfl
         simp only [Act.put, List.setIfInBounds_toArray, List.set_cons_zero, List.set_cons_succ])
      | (refine SeqS.take2 (v := undef) (by first | assumption | trivial) (by kernel_rfl) (by decide +kernel) (by decide +kernel) (Or.inr ⟨by rfl, rfl⟩) ?_
         simp only [Act.put, List.setIfInBounds_toArray, List.set_cons_zero, List.set_cons_succ]))
    refine SeqS.done (by decide +kernel) ?_
    have b5 : Below w1.heap.size w1 w1.drew := (Below.refl _ _).drew
    have rS : RollAt w1.drew ro g z := r1.keep b5
    have hS1 := hS.out L1 P1 w1.drew (k1.keep b5)
    clear b4 b5
    go_wp2_with fail
    refine region_seqS (fun w' => RollAt w' ro g z) (by kernel_rfl) rS ?_
    simp only [pairs, Nat.reduceAdd]
    repeat (first
      | (refine SeqS.take (v := ?_) (by first | assumption | trivial) (by kernel_rfl) (by decide +kernel) (by decide +kernel) (Or.inl ⟨by rfl, ?_⟩) ?_
         rotate_left
         focus
           intro w' hb'
           go_simp
           with_reducible rfl
         simp only [Act.put, List.setIfInBounds_toArray, List.set_cons_zero, List.set_cons_succ])
      | (refine SeqS.take (v := ?_) (by first | assumption | trivial) (by kernel_rfl) (by decide +kernel) (by decide +kernel) (Or.inl ⟨by rfl, ?_⟩) ?_
         rotate_left
         focus
           intro w' hb'
           have d0 := RollAt.c0 hb'
           go_simp
           with_reducible rfl
         simp only [Act.put, List.setIfInBounds_toArray, List.set_cons_zero, List.set_cons_succ])
      | (refine SeqS.take (v := ?_) (by first | assumption | trivial) (by kernel_rfl) (by decide +kernel) (by decide +kernel) (Or.inl ⟨by rfl, ?_⟩) ?_
         rotate_left
         focus
           intro w' hb'
           have d0 := RollAt.c1 hb'
           go_simp
           with_reducible rfl
         simp only [Act.put, List.setIfInBounds_toArray, List.set_cons_zero, List.set_cons_succ])
      | (refine SeqS.take (v := undef) (by first | assumption | trivial) (by kernel_rfl) (by decide +kernel) (by decide +kernel) (Or.inr ⟨by rfl, rfl⟩) ?_
         simp only [Act.put, List.setIfInBounds_toArray, List.set_cons_zero, List.set_cons_succ])
      | (refine SeqS.take1 (v := ?_) (by first | assumption | trivial) (by kernel_rfl) (by decide +kernel) (by decide +kernel) (Or.inl ⟨by rfl, ?_⟩) ?_
         rotate_left
         focus
           intro w' hb'
           go_simp
           with_reducible rfl
         simp only [Act.put, List.setIfInBounds_toArray, List.set_cons_zero, List.set_cons_succ])
      | (refine SeqS.take1 (v := ?_) (by first | assumption | trivial) (by kernel_rfl) (by decide +kernel) (by decide +kernel) (Or.inl ⟨by rfl, ?_⟩) ?_
         rotate_left
         focus
           intro w' hb'
           have d0 := RollAt.c0 hb'
           go_simp
           with_reducible rfl
         simp only [Act.put, List.setIfInBounds_toArray, List.set_cons_zero, List.set_cons_succ])
      | (refine SeqS.take1 (v := ?_) (by first | assumption | trivial) (by kernel_rfl) (by decide +kernel) (by decide +kernel) (Or.inl ⟨by rfl, ?_⟩) ?_
         rotate_left
         focus
           intro w' hb'
           have d0 := RollAt.c1 hb'
           go_simp
           with_reducible rfl
         simp only [Act.put, List.setIfInBounds_toArray, List.set_cons_zero, List.set_cons_succ])
      | (refine SeqS.take1 (v := undef) (by first | assumption | trivial) (by kernel_rfl) (by decide +kernel) (by decide +kernel) (Or.inr ⟨by rfl, rfl⟩) ?_
         simp only [Act.put, List.setIfInBounds_toArray, List.set_cons_zero, List.set_cons_succ])
      | (refine SeqS.take2 (v := ?_) (by first | assumption | trivial) (by kernel_rfl) (by decide +kernel) (by decide +kernel) (Or.inl ⟨by rfl, ?_⟩) ?_
         rotate_left
         focus
           intro w' hb'
           go_simp
           with_reducible rfl
         simp only [Act.put, List.setIfInBounds_toArray, List.set_cons_zero, List.set_cons_succ])
      | (refine SeqS.take2 (v := ?_) (by first | assumption | trivial) (by kernel_rfl) (by decide +kernel) (by decide +kernel) (Or.inl ⟨by rfl, ?_⟩) ?_
         rotate_left
         focus
           intro w' hb'
           have d0 := RollAt.c0 hb'
           go_simp
           with_reducible rfl
         simp only [Act.put, List.setIfInBounds_toArray, List.set_cons_zero, List.set_cons_succ])
      | (refine SeqS.take2 (v := ?_) (by first | assumption | trivial) (by kernel_rfl) (by decide +kernel) (by decide +kernel) (Or.inl ⟨by rfl, ?_⟩) ?_
         rotate_left
         focus
           intro w' hb'
           have d0 := RollAt.c1 hb'
           go_simp
           with_reducible rfl
         simp only [Act.put, List.setIfInBounds_toArray, List.set_cons_zero, List.set_cons_succ])
      | (refine SeqS.take2 (v := undef) (by first | assumption | trivial) (by kernel_rfl) (by decide +kernel) (by decide +kernel) (Or.inr ⟨by rfl, rfl⟩) ?_
         simp only [Act.put, List.setIfInBounds_toArray, List.set_cons_zero, List.set_cons_succ]))
    refine SeqS.alone (by decide +kernel) (by rfl) (fun K hK => ?_)
    go_simp
    go_at_call 85
    refine hS1.mono ?_
    rintro q w2 ⟨rfl, t2⟩
    obtain ⟨L2, P2, k2, v2⟩ := t2.drewn
    have r2 := v2.roll r1 l1
    go_simp
    refine hK _ _ r2 ?_
    clear hK K hS1 rS t2
    repeat (first
      | (refine SeqS.take (v := ?_) (by first | assumption | trivial) (by kernel_rfl) (by decide +kernel) (by decide +kernel) (Or.inl ⟨by rfl, ?_⟩) ?_
         rotate_left
         focus
           intro w' hb'
           go_simp
           with_reducible rfl
         simp only [Act.put, List.setIfInBounds_toArray, List.set_cons_zero, List.set_cons_succ])
      | (refine SeqS.take (v := undef) (by first | assumption | trivial) (by kernel_rfl) (by decide +kernel) (by decide +kernel) (Or.inr ⟨by rfl, rfl⟩) ?_
         simp only [Act.put, List.setIfInBounds_toArray, List.set_cons_zero, List.set_cons_succ])
      | (refine SeqS.take1 (v := ?_) (by first | assumption | trivial) (by kernel_rfl) (by decide +kernel) (by decide +kernel) (Or.inl ⟨by rfl, ?_⟩) ?_
         rotate_left
         focus
           intro w' hb'
           go_simp
           with_reducible rfl
         simp only [Act.put, List.setIfInBounds_toArray, List.set_cons_zero, List.set_cons_succ])
      | (refine SeqS.take1 (v := undef) (by first | assumption | trivial) (by kernel_rfl) (by decide +kernel) (by decide +kernel) (Or.inr ⟨by rfl, rfl⟩) ?_
         simp only [Act.put, List.setIfInBounds_toArray, List.set_cons_zero, List.set_cons_succ])
      | (refine SeqS.take2 (v := ?_) (by first | assumption | trivial) (by kernel_rfl) (by decide +kernel) (by decide +kernel) (Or.inl ⟨by rfl, ?_⟩) ?_
         rotate_left
         focus
           intro w' hb'
           go_simp
           with_reducible rfl
         simp only [Act.put, List.setIfInBounds_toArray, List.set_cons_zero, List.set_cons_succ])
      | (refine SeqS.take2 (v := undef) (by first | assumption | trivial) (by kernel_rfl) (by decide +kernel) (by decide +kernel) (Or.inr ⟨by rfl, rfl⟩) ?_
         simp only [Act.put, List.setIfInBounds_toArray, List.set_cons_zero, List.set_cons_succ]))
    refine SeqS.done (by decide +kernel) ?_
    go_wp2
    go_ret
    exact ⟨rfl, L2, P2, k2, v1.trans v2⟩
  · rw [if_neg h1]
    dsimp only
    clear hS
    go_enter Tryz.func95, Tryz.ntmps95
    go_wp2_with fail
    refine region_seqS (fun w' => RollAt w' ro g z) (by kernel_rfl) rS ?_
    simp only [pairs, Nat.reduceAdd]
    repeat (first
      | (refine SeqS.take (v := ?_) (by first | assumption | trivial) (by kernel_rfl) (by decide +kernel) (by decide +kernel) (Or.inl ⟨by rfl, ?_⟩) ?_
         rotate_left
         focus
           intro w' hb'
           go_simp
           with_reducible rfl
         simp only [Act.put, List.setIfInBounds_toArray, List.set_cons_zero, List.set_cons_succ])
      | (refine SeqS.take (v := ?_) (by first | assumption | trivial) (by kernel_rfl) (by decide +kernel) (by decide +kernel) (Or.inl ⟨by rfl, ?_⟩) ?_
         rotate_left
         focus
           intro w' hb'
           have d0 := RollAt.c0 hb'
           go_simp
           with_reducible rfl
         simp only [Act.put, List.setIfInBounds_toArray, List.set_cons_zero, List.set_cons_succ])
      | (refine SeqS.take (v := ?_) (by first | assumption | trivial) (by kernel_rfl) (by decide +kernel) (by decide +kernel) (Or.inl ⟨by rfl, ?_⟩) ?_
         rotate_left
         focus
           intro w' hb'
           have d0 := RollAt.c1 hb'
           go_simp
           with_reducible rfl
         simp only [Act.put, List.setIfInBounds_toArray, List.set_cons_zero, List.set_cons_succ])
      | (refine SeqS.take (v := undef) (by first | assumption | trivial) (by kernel_rfl) (by decide +kernel) (by decide +kernel) (Or.inr ⟨by rfl, rfl⟩) ?_
         simp only [Act.put, List.setIfInBounds_toArray, List.set_cons_zero, List.set_cons_succ])
      | (refine SeqS.take1 (v := ?_) (by first | assumption | trivial) (by kernel_rfl) (by decide +kernel) (by decide +kernel) (Or.inl ⟨by rfl, ?_⟩) ?_
         rotate_left
         focus
           intro w' hb'
           go_simp
           with_reducible rfl
         simp only [Act.put, List.setIfInBounds_toArray, List.set_cons_zero, List.set_cons_succ])
      | (refine SeqS.take1 (v := ?_) (by first | assumption | trivial) (by kernel_rfl) (by decide +kernel) (by decide +kernel) (Or.inl ⟨by rfl, ?_⟩) ?_
         rotate_left
         focus
           intro w' hb'
           have d0 := RollAt.c0 hb'
           go_simp
           with_reducible rfl
         simp only [Act.put, List.setIfInBounds_toArray, List.set_cons_zero, List.set_cons_succ])
      | (refine SeqS.take1 (v := ?_) (by first | assumption | trivial) (by kernel_rfl) (by decide +kernel) (by decide +kernel) (Or.inl ⟨by rfl, ?_⟩) ?_
         rotate_left
         focus
           intro w' hb'
           have d0 := RollAt.c1 hb'
           go_simp
           with_reducible rfl
         simp only [Act.put, List.setIfInBounds_toArray, List.set_cons_zero, List.set_cons_succ])
      | (refine SeqS.take1 (v := undef) (by first | assumption | trivial) (by kernel_rfl) (by decide +kernel) (by decide +kernel) (Or.inr ⟨by rfl, rfl⟩) ?_
         simp only [Act.put, List.setIfInBounds_toArray, List.set_cons_zero, List.set_cons_succ])
      | (refine SeqS.take2 (v := ?_) (by first | assumption | trivial) (by kernel_rfl) (by decide +kernel) (by decide +kernel) (Or.inl ⟨by rfl, ?_⟩) ?_
         rotate_left
         focus
           intro w' hb'
           go_simp
           with_reducible rfl
         simp only [Act.put, List.setIfInBounds_toArray, List.set_cons_zero, List.set_cons_succ])
      | (refine SeqS.take2 (v := ?_) (by first | assumption | trivial) (by kernel_rfl) (by decide +kernel) (by decide +kernel) (Or.inl ⟨by rfl, ?_⟩) ?_
         rotate_left
         focus
           intro w' hb'
           have d0 := RollAt.c0 hb'
           go_simp
           with_reducible rfl
         simp only [Act.put, List.setIfInBounds_toArray, List.set_cons_zero, List.set_cons_succ])
      | (refine SeqS.take2 (v := ?_) (by first | assumption | trivial) (by kernel_rfl) (by decide +kernel) (by decide +kernel) (Or.inl ⟨by rfl, ?_⟩) ?_
         rotate_left
         focus
           intro w' hb'
           have d0 := RollAt.c1 hb'
           go_simp
           with_reducible rfl
         simp only [Act.put, List.setIfInBounds_toArray, List.set_cons_zero, List.set_cons_succ])
      | (refine SeqS.take2 (v := undef) (by first | assumption | trivial) (by kernel_rfl) (by decide +kernel) (by decide +kernel) (Or.inr ⟨by rfl, rfl⟩) ?_
         simp only [Act.put, List.setIfInBounds_toArray, List.set_cons_zero, List.set_cons_succ]))
    refine SeqS.alone (by decide +kernel) (by rfl) (fun K hK => ?_)
    go_simp
    go_at_call 127
    refine hC.mono ?_
    rintro q w1 ⟨rfl, t1⟩
    obtain ⟨L1, P1, k1, v1⟩ := t1.drewn
    have r1 := v1.roll hrH.out h0H.out
    go_simp
    refine hK _ _ r1 ?_
    clear hK K hC rS t1 b4
    repeat (first
      | (refine SeqS.take (v := ?_) (by first | assumption | trivial) (by kernel_rfl) (by decide +kernel) (by decide +kernel) (Or.inl ⟨by rfl, ?_⟩) ?_
         rotate_left
         focus
           intro w' hb'
           go_simp
           with_reducible rfl
         simp only [Act.put, List.setIfInBounds_toArray, List.set_cons_zero, List.set_cons_succ])
      | (refine SeqS.take (v := undef) (by first | assumption | trivial) (by kernel_rfl) (by decide +kernel) (by decide +kernel) (Or.inr ⟨by rfl, rfl⟩) ?_
         simp only [Act.put, List.setIfInBounds_toArray, List.set_cons_zero, List.set_cons_succ])
      | (refine SeqS.take1 (v := ?_) (by first | assumption | trivial) (by kernel_rfl) (by decide +kernel) (by decide +kernel) (Or.inl ⟨by rfl, ?_⟩) ?_
         rotate_left
         focus
           intro w' hb'
           go_simp
           with_reducible rfl
         simp only [Act.put, List.setIfInBounds_toArray, List.set_cons_zero, List.set_cons_succ])
      | (refine SeqS.take1 (v := undef) (by first | assumption | trivial) (by kernel_rfl) (by decide +kernel) (by decide +kernel) (Or.inr ⟨by rfl, rfl⟩) ?_
         simp only [Act.put, List.setIfInBounds_toArray, List.set_cons_zero, List.set_cons_succ])
      | (refine SeqS.take2 (v := ?_) (by first | assumption | trivial) (by kernel_rfl) (by decide +kernel) (by decide +kernel) (Or.inl ⟨by rfl, ?_⟩) ?_
         rotate_left
         focus
           intro w' hb'
           go_simp
           with_reducible rfl
         simp only [Act.put, List.setIfInBounds_toArray, List.set_cons_zero, List.set_cons_succ])
      | (refine SeqS.take2 (v := undef) (by first | assumption | trivial) (by kernel_rfl) (by decide +kernel) (by decide +kernel) (Or.inr ⟨by rfl, rfl⟩) ?_
         simp only [Act.put, List.setIfInBounds_toArray, List.set_cons_zero, List.set_cons_succ]))
    refine SeqS.done (by decide +kernel) ?_
    go_wp2
    go_ret
    exact ⟨rfl, L1, P1, k1, v1⟩

set_option maxRecDepth 100000 in
set_option maxHeartbeats 800000 in
theorem ySize_any {L : Nat → Nat} {P : Nat → Prop} {w : World} {ro g : Nat} {D : DkV} {T : Nat} {z : Int} (hr : RollAt w ro g z) (h : DkIs L P w g D) (hO : D.Ok T) (hz : 0 ≤ z ∧ z < 3) {n : Nat} (hn : (heldR D z).length = n) :
    Calls Tryz.prog 67 #[.pointer (some ⟨ro, 0, none⟩)] w fun q w' => q = .returned (.int .i64 (n : Int)) ∧ Below w.heap.size w w' := by
  have hu := yUnmade_any hr
  have b4 : Below w.heap.size w w.drew := (Below.refl _ _).drew
  have C1 := Lib.hid (fun w' (q : Below w.heap.size w w') => y_size (h.keep q) hO hz hn)
  have R0 := Lib.hid (fun w' (q : Below w.heap.size w w') => (hr.keep q).c0)
  have R1 := Lib.hid (fun w' (q : Below w.heap.size w w') => (hr.keep q).c1)
  clear hr h hO hn hz
  go_enter Tryz.func67, Tryz.ntmps67
  go_wp2_with fail
  refine hu.mono ?_
  rintro q w1 ⟨rfl, rfl⟩
  clear hu
  go_wp2_with fail
  refine region_seqS (fun w' => Below w.heap.size w w') (by kernel_rfl) b4 ?_
  simp only [pairs, Nat.reduceAdd]
  repeat (first
    | (refine SeqS.take (v := ?_) (by first | assumption | trivial) (by kernel_rfl) (by decide +kernel) (by decide +kernel) (Or.inl ⟨by rfl, ?_⟩) ?_
       rotate_left
       focus
         intro w' hb'
         go_simp
         with_reducible rfl
       simp only [Act.put, List.setIfInBounds_toArray, List.set_cons_zero, List.set_cons_succ])
    | (refine SeqS.take (v := ?_) (by first | assumption | trivial) (by kernel_rfl) (by decide +kernel) (by decide +kernel) (Or.inl ⟨by rfl, ?_⟩) ?_
       rotate_left
       focus
         intro w' hb'
         have d0 := R0.out w' hb'
         go_simp
         with_reducible rfl
       simp only [Act.put, List.setIfInBounds_toArray, List.set_cons_zero, List.set_cons_succ])
    | (refine SeqS.take (v := ?_) (by first | assumption | trivial) (by kernel_rfl) (by decide +kernel) (by decide +kernel) (Or.inl ⟨by rfl, ?_⟩) ?_
       rotate_left
       focus
         intro w' hb'
         have d0 := R1.out w' hb'
         go_simp
         with_reducible rfl
       simp only [Act.put, List.setIfInBounds_toArray, List.set_cons_zero, List.set_cons_succ])
    | (refine SeqS.take (v := undef) (by first | assumption | trivial) (by kernel_rfl) (by decide +kernel) (by decide +kernel) (Or.inr ⟨by rfl, rfl⟩) ?_
       simp only [Act.put, List.setIfInBounds_toArray, List.set_cons_zero, List.set_cons_succ])
    | (refine SeqS.take1 (v := ?_) (by first | assumption | trivial) (by kernel_rfl) (by decide +kernel) (by decide +kernel) (Or.inl ⟨by rfl, ?_⟩) ?_
       rotate_left
       focus
         intro w' hb'
         go_simp
         with_reducible rfl
       simp only [Act.put, List.setIfInBounds_toArray, List.set_cons_zero, List.set_cons_succ])
    | (refine SeqS.take1 (v := ?_) (by first | assumption | trivial) (by kernel_rfl) (by decide +kernel) (by decide +kernel) (Or.inl ⟨by rfl, ?_⟩) ?_
       rotate_left
       focus
         intro w' hb'
         have d0 := R0.out w' hb'
         go_simp
         with_reducible rfl
       simp only [Act.put, List.setIfInBounds_toArray, List.set_cons_zero, List.set_cons_succ])
    | (refine SeqS.take1 (v := ?_) (by first | assumption | trivial) (by kernel_rfl) (by decide +kernel) (by decide +kernel) (Or.inl ⟨by rfl, ?_⟩) ?_
       rotate_left
       focus
         intro w' hb'
         have d0 := R1.out w' hb'
         go_simp
         with_reducible rfl
       simp only [Act.put, List.setIfInBounds_toArray, List.set_cons_zero, List.set_cons_succ])
    | (refine SeqS.take1 (v := undef) (by first | assumption | trivial) (by kernel_rfl) (by decide +kernel) (by decide +kernel) (Or.inr ⟨by rfl, rfl⟩) ?_
       simp only [Act.put, List.setIfInBounds_toArray, List.set_cons_zero, List.set_cons_succ])
    | (refine SeqS.take2 (v := ?_) (by first | assumption | trivial) (by kernel_rfl) (by decide +kernel) (by decide +kernel) (Or.inl ⟨by rfl, ?_⟩) ?_
       rotate_left
       focus
         intro w' hb'
         go_simp
         with_reducible rfl
       simp only [Act.put, List.setIfInBounds_toArray, List.set_cons_zero, List.set_cons_succ])
    | (refine SeqS.take2 (v := ?_) (by first | assumption | trivial) (by kernel_rfl) (by decide +kernel) (by decide +kernel) (Or.inl ⟨by rfl, ?_⟩) ?_
       rotate_left
       focus
         intro w' hb'
         have d0 := R0.out w' hb'
         go_simp
         with_reducible rfl
       simp only [Act.put, List.setIfInBounds_toArray, List.set_cons_zero, List.set_cons_succ])
    | (refine SeqS.take2 (v := ?_) (by first | assumption | trivial) (by kernel_rfl) (by decide +kernel) (by decide +kernel) (Or.inl ⟨by rfl, ?_⟩) ?_
       rotate_left
       focus
         intro w' hb'
         have d0 := R1.out w' hb'
         go_simp
         with_reducible rfl
       simp only [Act.put, List.setIfInBounds_toArray, List.set_cons_zero, List.set_cons_succ])
    | (refine SeqS.take2 (v := undef) (by first | assumption | trivial) (by kernel_rfl) (by decide +kernel) (by decide +kernel) (Or.inr ⟨by rfl, rfl⟩) ?_
       simp only [Act.put, List.setIfInBounds_toArray, List.set_cons_zero, List.set_cons_succ]))
  refine SeqS.alone (by decide +kernel) (by rfl) (fun K hK => ?_)
  go_simp
  go_at_call 58
  refine (C1.out _ b4).mono ?_
  rintro e w1 ⟨rfl, b1⟩
  go_simp
  have S1 : Below w.heap.size w w1 := b4.trans (b1.mono b4.size)
  refine hK _ _ S1 ?_
  clear hK K
  repeat (first
    | (refine SeqS.take (v := ?_) (by first | assumption | trivial) (by kernel_rfl) (by decide +kernel) (by decide +kernel) (Or.inl ⟨by rfl, ?_⟩) ?_
       rotate_left
       focus
         intro w' hb'
         go_simp
         with_reducible rfl
       simp only [Act.put, List.setIfInBounds_toArray, List.set_cons_zero, List.set_cons_succ])
    | (refine SeqS.take (v := undef) (by first | assumption | trivial) (by kernel_rfl) (by decide +kernel) (by decide +kernel) (Or.inr ⟨by rfl, rfl⟩) ?_
       simp only [Act.put, List.setIfInBounds_toArray, List.set_cons_zero, List.set_cons_succ])
    | (refine SeqS.take1 (v := ?_) (by first | assumption | trivial) (by kernel_rfl) (by decide +kernel) (by decide +kernel) (Or.inl ⟨by rfl, ?_⟩) ?_
       rotate_left
       focus
         intro w' hb'
         go_simp
         with_reducible rfl
       simp only [Act.put, List.setIfInBounds_toArray, List.set_cons_zero, List.set_cons_succ])
    | (refine SeqS.take1 (v := undef) (by first | assumption | trivial) (by kernel_rfl) (by decide +kernel) (by decide +kernel) (Or.inr ⟨by rfl, rfl⟩) ?_
       simp only [Act.put, List.setIfInBounds_toArray, List.set_cons_zero, List.set_cons_succ])
    | (refine SeqS.take2 (v := ?_) (by first | assumption | trivial) (by kernel_rfl) (by decide +kernel) (by decide +kernel) (Or.inl ⟨by rfl, ?_⟩) ?_
       rotate_left
       focus
         intro w' hb'
         go_simp
         with_reducible rfl
       simp only [Act.put, List.setIfInBounds_toArray, List.set_cons_zero, List.set_cons_succ])
    | (refine SeqS.take2 (v := undef) (by first | assumption | trivial) (by kernel_rfl) (by decide +kernel) (by decide +kernel) (Or.inr ⟨by rfl, rfl⟩) ?_
       simp only [Act.put, List.setIfInBounds_toArray, List.set_cons_zero, List.set_cons_succ]))
  refine SeqS.done (by decide +kernel) ?_
  go_wp2
  go_ret
  exact ⟨rfl, S1⟩
end Go.Proofs.YtinmmhbiomcdoaaGreatDoor

/-
  What a roll's mend, Append, Clear and Open come to. The disk's own blocks are written, and new memory. Conditions: of Append and Clear a roll that Open made, of a disk that New made; fewer than 2^42 steps; the files hold bytes.
-/
namespace Go.Proofs.YtinmmhbiomcdoaaGreatDoor
open Go.RowKit

set_option maxRecDepth 100000 in
set_option maxHeartbeats 4000000 in
theorem yMend_any {L : Nat → Nat} {P : Nat → Prop} {w : World} {ro g : Nat} {D : DkV} {T : Nat} {z : Int} (hr : RollAt w ro g z) (h0 : L ro = 0) (h : DkIs L P w g D) (hO : D.Ok T) (hT : T < 4398046511103) (hD : D.By) (hz : 0 ≤ z ∧ z < 3) (hG : Glob11 w) :
    Calls Tryz.prog 113 #[.pointer (some ⟨ro, 0, none⟩)] w fun q w' => q = .returned (.int .i64 (mdD D z).2) ∧ DkTo L P w g w' (mdD D z).1 := by
  have hby : ∀ x ∈ heldR D z, isByte x := (hD.f _).held
  have hle := held_len hO z
  unfold mdD
  obtain ⟨X, hX⟩ : ∃ X, heldR D z = X := ⟨_, rfl⟩
  obtain ⟨N, hN⟩ : ∃ N, X.length = N := ⟨_, rfl⟩
  obtain ⟨G, hg⟩ : ∃ G, goodF X = G := ⟨_, rfl⟩
  obtain ⟨U, hU⟩ : ∃ U, (D.f z.toNat).units = U := ⟨_, rfl⟩
  have hun := (hO.f z.toNat).un
  rw [hU] at hun
  rw [hX] at hby hle ⊢
  rw [hN] at hle ⊢
  rw [hg, hU]
  obtain ⟨RD, RE, hRR⟩ : ∃ RD RE, (if G < N then keD D z (G : Nat) else if 0 < U then syD D z else (D, 0)) = (RD, RE) := ⟨_, _, rfl⟩
  rw [hRR]
  dsimp only
  have hRH := Lib.hid hRR
  clear hRR
  have b4 : Below w.heap.size w w.drew := (Below.refl _ _).drew
  have CR := Lib.hid (fun w' (q : Below w.heap.size w w') => y_read (h.keep q) hO hz hX hN)
  have CS := Lib.hid (fun w' (q : Below w.heap.size w w') (a : Option Addr) (c : Nat) (I : Ints .u8 w' a N c X) => y_scan (hG.keep q (Nat.le_refl _)) I hby (by omega) q.size rfl hg)
  have CZ := Lib.hid (fun w' (q : Below w.heap.size w w') => ySize_any (hr.keep q) (h.keep q) hO hz (show (heldR D z).length = N by rw [hX, hN]))
  have CK := Lib.hid (fun w' (q : Below w.heap.size w w') => yKeep_any (n := (G : Int)) (hr.keep q) h0 (h.keep q) hO hT)
  have CU := Lib.hid (fun w' (q : Below w.heap.size w w') => y_units (h.keep q) hO hz hU)
  have CY := Lib.hid (fun w' (q : Below w.heap.size w w') => dSync_any (file := z) (h.keep q) hO (by omega))
  have kS := Lib.hid (fun w' (q : Below w.heap.size w w') => DkTo.stay h q)
  have R0 := Lib.hid (fun w' (q : Below w.heap.size w w') => (hr.keep q).c0)
  have R1 := Lib.hid (fun w' (q : Below w.heap.size w w') => (hr.keep q).c1)
  have vH := Lib.hid (fun w' (q : Below w.heap.size w w') => (Went.of_below q : Went L P w L P w'))
  have rH := Lib.hid (fun w' (q : Below w.heap.size w w') => hr.keep q)
  have h0H := Lib.hid h0
  have hgn : ((G : Nat) : Int) ≤ 65536 := by have := goodF_le X; omega
  have hnn : ((N : Nat) : Int) ≤ 65536 := by omega
  clear hr h hO hD hG hX hN hg hby hle hz hT h0 hU hun
  go_enter Tryz.func113, Tryz.ntmps113
  go_wp2_with fail
  refine region_seqS (fun w' => Below w.heap.size w w') (by kernel_rfl) b4 ?_
  simp only [pairs, Nat.reduceAdd]
  repeat (first
    | (refine SeqS.take (v := ?_) (by first | assumption | trivial) (by kernel_rfl) (by decide +kernel) (by decide +kernel) (Or.inl ⟨by rfl, ?_⟩) ?_
       rotate_left
       focus
         intro w' hb'
         go_simp
         with_reducible rfl
       simp only [Act.put, List.setIfInBounds_toArray, List.set_cons_zero, List.set_cons_succ])
    | (refine SeqS.take (v := ?_) (by first | assumption | trivial) (by kernel_rfl) (by decide +kernel) (by decide +kernel) (Or.inl ⟨by rfl, ?_⟩) ?_
       rotate_left
       focus
         intro w' hb'
         have d0 := R0.out w' hb'
         go_simp
         with_reducible rfl
       simp only [Act.put, List.setIfInBounds_toArray, List.set_cons_zero, List.set_cons_succ])
    | (refine SeqS.take (v := ?_) (by first | assumption | trivial) (by kernel_rfl) (by decide +kernel) (by decide +kernel) (Or.inl ⟨by rfl, ?_⟩) ?_
       rotate_left
       focus
         intro w' hb'
         have d0 := R1.out w' hb'
         go_simp
         with_reducible rfl
       simp only [Act.put, List.setIfInBounds_toArray, List.set_cons_zero, List.set_cons_succ])
    | (refine SeqS.take (v := undef) (by first | assumption | trivial) (by kernel_rfl) (by decide +kernel) (by decide +kernel) (Or.inr ⟨by rfl, rfl⟩) ?_
       simp only [Act.put, List.setIfInBounds_toArray, List.set_cons_zero, List.set_cons_succ])
    | (refine SeqS.take1 (v := ?_) (by first | assumption | trivial) (by kernel_rfl) (by decide +kernel) (by decide +kernel) (Or.inl ⟨by rfl, ?_⟩) ?_
       rotate_left
       focus
         intro w' hb'
         go_simp
         with_reducible rfl
       simp only [Act.put, List.setIfInBounds_toArray, List.set_cons_zero, List.set_cons_succ])
    | (refine SeqS.take1 (v := ?_) (by first | assumption | trivial) (by kernel_rfl) (by decide +kernel) (by decide +kernel) (Or.inl ⟨by rfl, ?_⟩) ?_
       rotate_left
       focus
         intro w' hb'
         have d0 := R0.out w' hb'
         go_simp
         with_reducible rfl
       simp only [Act.put, List.setIfInBounds_toArray, List.set_cons_zero, List.set_cons_succ])
    | (refine SeqS.take1 (v := ?_) (by first | assumption | trivial) (by kernel_rfl) (by decide +kernel) (by decide +kernel) (Or.inl ⟨by rfl, ?_⟩) ?_
       rotate_left
       focus
         intro w' hb'
         have d0 := R1.out w' hb'
         go_simp
         with_reducible rfl
       simp only [Act.put, List.setIfInBounds_toArray, List.set_cons_zero, List.set_cons_succ])
    | (refine SeqS.take1 (v := undef) (by first | assumption | trivial) (by kernel_rfl) (by decide +kernel) (by decide +kernel) (Or.inr ⟨by rfl, rfl⟩) ?_
       simp only [Act.put, List.setIfInBounds_toArray, List.set_cons_zero, List.set_cons_succ])
    | (refine SeqS.take2 (v := ?_) (by first | assumption | trivial) (by kernel_rfl) (by decide +kernel) (by decide +kernel) (Or.inl ⟨by rfl, ?_⟩) ?_
       rotate_left
       focus
         intro w' hb'
         go_simp
         with_reducible rfl
       simp only [Act.put, List.setIfInBounds_toArray, List.set_cons_zero, List.set_cons_succ])
    | (refine SeqS.take2 (v := ?_) (by first | assumption | trivial) (by kernel_rfl) (by decide +kernel) (by decide +kernel) (Or.inl ⟨by rfl, ?_⟩) ?_
       rotate_left
       focus
         intro w' hb'
         have d0 := R0.out w' hb'
         go_simp
         with_reducible rfl
       simp only [Act.put, List.setIfInBounds_toArray, List.set_cons_zero, List.set_cons_succ])
    | (refine SeqS.take2 (v := ?_) (by first | assumption | trivial) (by kernel_rfl) (by decide +kernel) (by decide +kernel) (Or.inl ⟨by rfl, ?_⟩) ?_
       rotate_left
       focus
         intro w' hb'
         have d0 := R1.out w' hb'
         go_simp
         with_reducible rfl
       simp only [Act.put, List.setIfInBounds_toArray, List.set_cons_zero, List.set_cons_succ])
    | (refine SeqS.take2 (v := undef) (by first | assumption | trivial) (by kernel_rfl) (by decide +kernel) (by decide +kernel) (Or.inr ⟨by rfl, rfl⟩) ?_
       simp only [Act.put, List.setIfInBounds_toArray, List.set_cons_zero, List.set_cons_succ]))
  refine SeqS.alone (by decide +kernel) (by rfl) (fun K hK => ?_)
  go_simp
  go_at_call 54
  refine (CR.out _ b4).mono ?_
  rintro e w1 ⟨a1, c1, rfl, I1, b1⟩
  go_simp
  have S1 : Below w.heap.size w w1 := b4.trans (b1.mono b4.size)
  refine hK _ _ S1 ?_
  clear hK K
  refine SeqS.alone (by decide +kernel) (by rfl) (fun K hK => ?_)
  go_simp
  go_at_call 114
  refine (CS.out _ S1 _ _ I1).mono ?_
  rintro e w2 ⟨v2, rfl, R2, b2⟩
  go_simp
  have S2 : Below w.heap.size w w2 := S1.trans (b2.mono S1.size)
  refine hK _ _ S2 ?_
  clear hK K
  repeat (first
    | (refine SeqS.take (v := ?_) (by first | assumption | trivial) (by kernel_rfl) (by decide +kernel) (by decide +kernel) (Or.inl ⟨by rfl, ?_⟩) ?_
       rotate_left
       focus
         intro w' hb'
         go_simp
         with_reducible rfl
       simp only [Act.put, List.setIfInBounds_toArray, List.set_cons_zero, List.set_cons_succ])
    | (refine SeqS.take (v := undef) (by first | assumption | trivial) (by kernel_rfl) (by decide +kernel) (by decide +kernel) (Or.inr ⟨by rfl, rfl⟩) ?_
       simp only [Act.put, List.setIfInBounds_toArray, List.set_cons_zero, List.set_cons_succ])
    | (refine SeqS.take1 (v := ?_) (by first | assumption | trivial) (by kernel_rfl) (by decide +kernel) (by decide +kernel) (Or.inl ⟨by rfl, ?_⟩) ?_
       rotate_left
       focus
         intro w' hb'
         go_simp
         with_reducible rfl
       simp only [Act.put, List.setIfInBounds_toArray, List.set_cons_zero, List.set_cons_succ])
    | (refine SeqS.take1 (v := undef) (by first | assumption | trivial) (by kernel_rfl) (by decide +kernel) (by decide +kernel) (Or.inr ⟨by rfl, rfl⟩) ?_
       simp only [Act.put, List.setIfInBounds_toArray, List.set_cons_zero, List.set_cons_succ])
    | (refine SeqS.take2 (v := ?_) (by first | assumption | trivial) (by kernel_rfl) (by decide +kernel) (by decide +kernel) (Or.inl ⟨by rfl, ?_⟩) ?_
       rotate_left
       focus
         intro w' hb'
         go_simp
         with_reducible rfl
       simp only [Act.put, List.setIfInBounds_toArray, List.set_cons_zero, List.set_cons_succ])
    | (refine SeqS.take2 (v := undef) (by first | assumption | trivial) (by kernel_rfl) (by decide +kernel) (by decide +kernel) (Or.inr ⟨by rfl, rfl⟩) ?_
       simp only [Act.put, List.setIfInBounds_toArray, List.set_cons_zero, List.set_cons_succ]))
  refine SeqS.done (by decide +kernel) ?_
  have CZ2 := CZ.out _ S2
  clear CR CS CZ I1 S1 b1 b2 R2
  go_wp2_with fail
  refine CZ2.mono ?_
  rintro q w3 ⟨rfl, b3⟩
  have S3 : Below w.heap.size w w3 := chain S2 b3
  clear CZ2 S2 b3
  by_cases hlt : G < N
  · have hlt' : ((G : Nat) : Int) < ((N : Nat) : Int) := by omega
    have hR := hRH.out
    rw [if_pos hlt] at hR
    have CK3 := CK.out _ S3
    rw [hR] at CK3
    dsimp only at CK3
    have vw := vH.out _ S3
    clear CK CU CY R0 R1 kS hlt hR hRH hgn hnn vH rH h0H
    go_wp2_with fail
    refine CK3.mono ?_
    rintro q w4 ⟨rfl, t4⟩
    have tt := DkTo.trans vw t4
    clear CK3 t4 vw
    go_wp2
    go_ret
    exact ⟨rfl, tt⟩
  · have hlt' : ¬ ((G : Nat) : Int) < ((N : Nat) : Int) := by omega
    have S4 : Below w.heap.size w w3.drew := S3.drew
    have hltH := Lib.hid hlt
    clear CK hlt hgn hnn
    go_wp2_with fail
    refine region_seqS (fun w' => Below w.heap.size w w') (by kernel_rfl) S4 ?_
    simp only [pairs, Nat.reduceAdd]
    repeat (first
      | (refine SeqS.take (v := ?_) (by first | assumption | trivial) (by kernel_rfl) (by decide +kernel) (by decide +kernel) (Or.inl ⟨by rfl, ?_⟩) ?_
         rotate_left
         focus
           intro w' hb'
           go_simp
           with_reducible rfl
         simp only [Act.put, List.setIfInBounds_toArray, List.set_cons_zero, List.set_cons_succ])
      | (refine SeqS.take (v := ?_) (by first | assumption | trivial) (by kernel_rfl) (by decide +kernel) (by decide +kernel) (Or.inl ⟨by rfl, ?_⟩) ?_
         rotate_left
         focus
           intro w' hb'
           have d0 := R0.out w' hb'
           go_simp
           with_reducible rfl
         simp only [Act.put, List.setIfInBounds_toArray, List.set_cons_zero, List.set_cons_succ])
      | (refine SeqS.take (v := ?_) (by first | assumption | trivial) (by kernel_rfl) (by decide +kernel) (by decide +kernel) (Or.inl ⟨by rfl, ?_⟩) ?_
         rotate_left
         focus
           intro w' hb'
           have d0 := R1.out w' hb'
           go_simp
           with_reducible rfl
         simp only [Act.put, List.setIfInBounds_toArray, List.set_cons_zero, List.set_cons_succ])
      | (refine SeqS.take (v := undef) (by first | assumption | trivial) (by kernel_rfl) (by decide +kernel) (by decide +kernel) (Or.inr ⟨by rfl, rfl⟩) ?_
         simp only [Act.put, List.setIfInBounds_toArray, List.set_cons_zero, List.set_cons_succ])
      | (refine SeqS.take1 (v := ?_) (by first | assumption | trivial) (by kernel_rfl) (by decide +kernel) (by decide +kernel) (Or.inl ⟨by rfl, ?_⟩) ?_
         rotate_left
         focus
           intro w' hb'
           go_simp
           with_reducible rfl
         simp only [Act.put, List.setIfInBounds_toArray, List.set_cons_zero, List.set_cons_succ])
      | (refine SeqS.take1 (v := ?_) (by first | assumption | trivial) (by kernel_rfl) (by decide +kernel) (by decide +kernel) (Or.inl ⟨by rfl, ?_⟩) ?_
         rotate_left
         focus
           intro w' hb'
           have d0 := R0.out w' hb'
           go_simp
           with_reducible rfl
         simp only [Act.put, List.setIfInBounds_toArray, List.set_cons_zero, List.set_cons_succ])
      | (refine SeqS.take1 (v := ?_) (by first | assumption | trivial) (by kernel_rfl) (by decide +kernel) (by decide +kernel) (Or.inl ⟨by rfl, ?_⟩) ?_
         rotate_left
         focus
           intro w' hb'
           have d0 := R1.out w' hb'
           go_simp
           with_reducible rfl
         simp only [Act.put, List.setIfInBounds_toArray, List.set_cons_zero, List.set_cons_succ])
      | (refine SeqS.take1 (v := undef) (by first | assumption | trivial) (by kernel_rfl) (by decide +kernel) (by decide +kernel) (Or.inr ⟨by rfl, rfl⟩) ?_
         simp only [Act.put, List.setIfInBounds_toArray, List.set_cons_zero, List.set_cons_succ])
      | (refine SeqS.take2 (v := ?_) (by first | assumption | trivial) (by kernel_rfl) (by decide +kernel) (by decide +kernel) (Or.inl ⟨by rfl, ?_⟩) ?_
         rotate_left
         focus
           intro w' hb'
           go_simp
           with_reducible rfl
         simp only [Act.put, List.setIfInBounds_toArray, List.set_cons_zero, List.set_cons_succ])
      | (refine SeqS.take2 (v := ?_) (by first | assumption | trivial) (by kernel_rfl) (by decide +kernel) (by decide +kernel) (Or.inl ⟨by rfl, ?_⟩) ?_
         rotate_left
         focus
           intro w' hb'
           have d0 := R0.out w' hb'
           go_simp
           with_reducible rfl
         simp only [Act.put, List.setIfInBounds_toArray, List.set_cons_zero, List.set_cons_succ])
      | (refine SeqS.take2 (v := ?_) (by first | assumption | trivial) (by kernel_rfl) (by decide +kernel) (by decide +kernel) (Or.inl ⟨by rfl, ?_⟩) ?_
         rotate_left
         focus
           intro w' hb'
           have d0 := R1.out w' hb'
           go_simp
           with_reducible rfl
         simp only [Act.put, List.setIfInBounds_toArray, List.set_cons_zero, List.set_cons_succ])
      | (refine SeqS.take2 (v := undef) (by first | assumption | trivial) (by kernel_rfl) (by decide +kernel) (by decide +kernel) (Or.inr ⟨by rfl, rfl⟩) ?_
         simp only [Act.put, List.setIfInBounds_toArray, List.set_cons_zero, List.set_cons_succ]))
    refine SeqS.alone (by decide +kernel) (by rfl) (fun K hK => ?_)
    go_simp
    go_at_call 126
    refine (CU.out _ S4).mono ?_
    rintro q w5 ⟨rfl, b5⟩
    go_simp
    have S5 : Below w.heap.size w w5 := chain S4 b5
    refine hK _ _ S5 ?_
    clear hK K b5 CU S4
    repeat (first
      | (refine SeqS.take (v := ?_) (by first | assumption | trivial) (by kernel_rfl) (by decide +kernel) (by decide +kernel) (Or.inl ⟨by rfl, ?_⟩) ?_
         rotate_left
         focus
           intro w' hb'
           go_simp
           with_reducible rfl
         simp only [Act.put, List.setIfInBounds_toArray, List.set_cons_zero, List.set_cons_succ])
      | (refine SeqS.take (v := undef) (by first | assumption | trivial) (by kernel_rfl) (by decide +kernel) (by decide +kernel) (Or.inr ⟨by rfl, rfl⟩) ?_
         simp only [Act.put, List.setIfInBounds_toArray, List.set_cons_zero, List.set_cons_succ])
      | (refine SeqS.take1 (v := ?_) (by first | assumption | trivial) (by kernel_rfl) (by decide +kernel) (by decide +kernel) (Or.inl ⟨by rfl, ?_⟩) ?_
         rotate_left
         focus
           intro w' hb'
           go_simp
           with_reducible rfl
         simp only [Act.put, List.setIfInBounds_toArray, List.set_cons_zero, List.set_cons_succ])
      | (refine SeqS.take1 (v := undef) (by first | assumption | trivial) (by kernel_rfl) (by decide +kernel) (by decide +kernel) (Or.inr ⟨by rfl, rfl⟩) ?_
         simp only [Act.put, List.setIfInBounds_toArray, List.set_cons_zero, List.set_cons_succ])
      | (refine SeqS.take2 (v := ?_) (by first | assumption | trivial) (by kernel_rfl) (by decide +kernel) (by decide +kernel) (Or.inl ⟨by rfl, ?_⟩) ?_
         rotate_left
         focus
           intro w' hb'
           go_simp
           with_reducible rfl
         simp only [Act.put, List.setIfInBounds_toArray, List.set_cons_zero, List.set_cons_succ])
      | (refine SeqS.take2 (v := undef) (by first | assumption | trivial) (by kernel_rfl) (by decide +kernel) (by decide +kernel) (Or.inr ⟨by rfl, rfl⟩) ?_
         simp only [Act.put, List.setIfInBounds_toArray, List.set_cons_zero, List.set_cons_succ]))
    refine SeqS.done (by decide +kernel) ?_
    by_cases hu : 0 < U
    · have hu' : (0 : Int) < (U : Int) := by omega
      have hR := hRH.out
      rw [if_neg hltH.out, if_pos hu] at hR
      have CY5 := CY.out w5.drew S5.drew
      rw [hR] at CY5
      dsimp only at CY5
      have r5 := rH.out w5.drew S5.drew
      have vw := vH.out w5.drew S5.drew
      clear CY hR hRH hltH R0 R1 kS vH rH hu
      go_wp2_with fail
      refine region_seqS (fun w' => RollAt w' ro g z) (by kernel_rfl) r5 ?_
      simp only [pairs, Nat.reduceAdd]
      repeat (first
        | (refine SeqS.take (v := ?_) (by first | assumption | trivial) (by kernel_rfl) (by decide +kernel) (by decide +kernel) (Or.inl ⟨by rfl, ?_⟩) ?_
           rotate_left
           focus
             intro w' hb'
             go_simp
             with_reducible rfl
           simp only [Act.put, List.setIfInBounds_toArray, List.set_cons_zero, List.set_cons_succ])
        | (refine SeqS.take (v := ?_) (by first | assumption | trivial) (by kernel_rfl) (by decide +kernel) (by decide +kernel) (Or.inl ⟨by rfl, ?_⟩) ?_
           rotate_left
           focus
             intro w' hb'
             have d0 := RollAt.c0 hb'
             go_simp
             with_reducible rfl
           simp only [Act.put, List.setIfInBounds_toArray, List.set_cons_zero, List.set_cons_succ])
        | (refine SeqS.take (v := ?_) (by first | assumption | trivial) (by kernel_rfl) (by decide +kernel) (by decide +kernel) (Or.inl ⟨by rfl, ?_⟩) ?_
           rotate_left
           focus
             intro w' hb'
             have d0 := RollAt.c1 hb'
             go_simp
             with_reducible rfl
           simp only [Act.put, List.setIfInBounds_toArray, List.set_cons_zero, List.set_cons_succ])
        | (refine SeqS.take (v := undef) (by first | assumption | trivial) (by kernel_rfl) (by decide +kernel) (by decide +kernel) (Or.inr ⟨by rfl, rfl⟩) ?_
           simp only [Act.put, List.setIfInBounds_toArray, List.set_cons_zero, List.set_cons_succ])
        | (refine SeqS.take1 (v := ?_) (by first | assumption | trivial) (by kernel_rfl) (by decide +kernel) (by decide +kernel) (Or.inl ⟨by rfl, ?_⟩) ?_
           rotate_left
           focus
             intro w' hb'
             go_simp
             with_reducible rfl
           simp only [Act.put, List.setIfInBounds_toArray, List.set_cons_zero, List.set_cons_succ])
        | (refine SeqS.take1 (v := ?_) (by first | assumption | trivial) (by kernel_rfl) (by decide +kernel) (by decide +kernel) (Or.inl ⟨by rfl, ?_⟩) ?_
           rotate_left
           focus
             intro w' hb'
             have d0 := RollAt.c0 hb'
             go_simp
             with_reducible rfl
           simp only [Act.put, List.setIfInBounds_toArray, List.set_cons_zero, List.set_cons_succ])
        | (refine SeqS.take1 (v := ?_) (by first | assumption | trivial) (by kernel_rfl) (by decide +kernel) (by decide +kernel) (Or.inl ⟨by rfl, ?_⟩) ?_
           rotate_left
           focus
             intro w' hb'
             have d0 := RollAt.c1 hb'
             go_simp
             with_reducible rfl
           simp only [Act.put, List.setIfInBounds_toArray, List.set_cons_zero, List.set_cons_succ])
        | (refine SeqS.take1 (v := undef) (by first | assumption | trivial) (by kernel_rfl) (by decide +kernel) (by decide +kernel) (Or.inr ⟨by rfl, rfl⟩) ?_
           simp only [Act.put, List.setIfInBounds_toArray, List.set_cons_zero, List.set_cons_succ])
        | (refine SeqS.take2 (v := ?_) (by first | assumption | trivial) (by kernel_rfl) (by decide +kernel) (by decide +kernel) (Or.inl ⟨by rfl, ?_⟩) ?_
           rotate_left
           focus
             intro w' hb'
             go_simp
             with_reducible rfl
           simp only [Act.put, List.setIfInBounds_toArray, List.set_cons_zero, List.set_cons_succ])
        | (refine SeqS.take2 (v := ?_) (by first | assumption | trivial) (by kernel_rfl) (by decide +kernel) (by decide +kernel) (Or.inl ⟨by rfl, ?_⟩) ?_
           rotate_left
           focus
             intro w' hb'
             have d0 := RollAt.c0 hb'
             go_simp
             with_reducible rfl
           simp only [Act.put, List.setIfInBounds_toArray, List.set_cons_zero, List.set_cons_succ])
        | (refine SeqS.take2 (v := ?_) (by first | assumption | trivial) (by kernel_rfl) (by decide +kernel) (by decide +kernel) (Or.inl ⟨by rfl, ?_⟩) ?_
           rotate_left
           focus
             intro w' hb'
             have d0 := RollAt.c1 hb'
             go_simp
             with_reducible rfl
           simp only [Act.put, List.setIfInBounds_toArray, List.set_cons_zero, List.set_cons_succ])
        | (refine SeqS.take2 (v := undef) (by first | assumption | trivial) (by kernel_rfl) (by decide +kernel) (by decide +kernel) (Or.inr ⟨by rfl, rfl⟩) ?_
           simp only [Act.put, List.setIfInBounds_toArray, List.set_cons_zero, List.set_cons_succ]))
      refine SeqS.alone (by decide +kernel) (by rfl) (fun K hK => ?_)
      go_simp
      go_at_call 85
      refine CY5.mono ?_
      rintro q w6 ⟨rfl, L2, P2, k2, v2⟩
      have r6 := v2.roll r5 h0H.out
      go_simp
      refine hK _ _ r6 ?_
      clear hK K CY5 r5
      repeat (first
        | (refine SeqS.take (v := ?_) (by first | assumption | trivial) (by kernel_rfl) (by decide +kernel) (by decide +kernel) (Or.inl ⟨by rfl, ?_⟩) ?_
           rotate_left
           focus
             intro w' hb'
             go_simp
             with_reducible rfl
           simp only [Act.put, List.setIfInBounds_toArray, List.set_cons_zero, List.set_cons_succ])
        | (refine SeqS.take (v := undef) (by first | assumption | trivial) (by kernel_rfl) (by decide +kernel) (by decide +kernel) (Or.inr ⟨by rfl, rfl⟩) ?_
           simp only [Act.put, List.setIfInBounds_toArray, List.set_cons_zero, List.set_cons_succ])
        | (refine SeqS.take1 (v := ?_) (by first | assumption | trivial) (by kernel_rfl) (by decide +kernel) (by decide +kernel) (Or.inl ⟨by rfl, ?_⟩) ?_
           rotate_left
           focus
             intro w' hb'
             go_simp
             with_reducible rfl
           simp only [Act.put, List.setIfInBounds_toArray, List.set_cons_zero, List.set_cons_succ])
        | (refine SeqS.take1 (v := undef) (by first | assumption | trivial) (by kernel_rfl) (by decide +kernel) (by decide +kernel) (Or.inr ⟨by rfl, rfl⟩) ?_
           simp only [Act.put, List.setIfInBounds_toArray, List.set_cons_zero, List.set_cons_succ])
        | (refine SeqS.take2 (v := ?_) (by first | assumption | trivial) (by kernel_rfl) (by decide +kernel) (by decide +kernel) (Or.inl ⟨by rfl, ?_⟩) ?_
           rotate_left
           focus
             intro w' hb'
             go_simp
             with_reducible rfl
           simp only [Act.put, List.setIfInBounds_toArray, List.set_cons_zero, List.set_cons_succ])
        | (refine SeqS.take2 (v := undef) (by first | assumption | trivial) (by kernel_rfl) (by decide +kernel) (by decide +kernel) (Or.inr ⟨by rfl, rfl⟩) ?_
           simp only [Act.put, List.setIfInBounds_toArray, List.set_cons_zero, List.set_cons_succ]))
      refine SeqS.done (by decide +kernel) ?_
      go_wp2
      go_ret
      exact ⟨rfl, L2, P2, k2, vw.trans v2⟩
    · have hu' : ¬ (0 : Int) < (U : Int) := by omega
      have hR := hRH.out
      rw [if_neg hltH.out, if_neg hu] at hR
      injection hR with hR1 hR2
      subst hR1; subst hR2
      have k5 := kS.out w5 S5
      clear CY R0 R1 kS vH rH hu hRH
      go_wp2
      go_ret
      exact ⟨rfl, k5⟩

set_option maxRecDepth 100000 in
set_option maxHeartbeats 800000 in
theorem yClear_any {L : Nat → Nat} {P : Nat → Prop} {w : World} {ro g : Nat} {D : DkV} {T : Nat} {z : Int} (hr : RollAt w ro g z) (h0 : L ro = 0) (h : DkIs L P w g D) (hO : D.Ok T) (hT : T < 4398046511103) :
    Calls Tryz.prog 46 #[.pointer (some ⟨ro, 0, none⟩)] w fun q w' => q = .returned (.int .i64 (keD D z 0).2) ∧ DkTo L P w g w' (keD D z 0).1 := by
  have hu := yUnmade_any hr
  have hK := yKeep_any (n := 0) hr h0 h hO hT
  clear hr h0 h hO hT
  go_enter Tryz.func46, Tryz.ntmps46
  go_wp2_with fail
  refine hu.mono ?_
  rintro q w1 ⟨rfl, rfl⟩
  clear hu
  go_wp2_with fail
  refine hK.mono ?_
  rintro q w2 ⟨rfl, t2⟩
  clear hK
  go_wp2
  go_ret
  exact ⟨rfl, t2⟩

set_option maxRecDepth 100000 in
set_option maxHeartbeats 4000000 in
theorem yAppend_any {L : Nat → Nat} {P : Nat → Prop} {w : World} {ro g : Nat} {D : DkV} {T : Nat} {z : Int} {a : Option Addr} {n c : Nat} {bs : List Int} (hr : RollAt w ro g z) (h0 : L ro = 0) (h : DkIs L P w g D) (hO : D.Ok T) (hT : T < 4398046511103) (hG : Glob11 w) (hI : Ints .u8 w a n c bs) (hb : ∀ x ∈ bs, isByte x) (hn : n ≤ 140737488355328) :
    Calls Tryz.prog 40 #[.pointer (some ⟨ro, 0, none⟩), .slice a n c] w fun q w' => q = .returned (.int .i64 (prD D z bs).2) ∧ DkTo L P w g w' (prD D z bs).1 := by
  have hu := yUnmade_any hr
  have hE := fEncode_any a n c bs w hG hI hb hn
  unfold prD
  have hs := Lib.hid (fun w' (q : Below w.heap.size w w') => DkTo.stay h q)
  by_cases hno : bs.length < 1 ∨ 65536 < bs.length
  · rw [if_pos hno]
    have he : encF bs = ([], 1) := by unfold encF; rw [if_pos hno]
    rw [he] at hE
    dsimp only at hE ⊢
    clear he hno hr h0 h hO hT hG hI hb hn
    go_enter Tryz.func40, Tryz.ntmps40
    go_wp2_with fail
    refine hu.mono ?_
    rintro q w1 ⟨rfl, rfl⟩
    clear hu
    go_wp2_with fail
    refine hE.mono ?_
    rintro q w2 ⟨b2, d2, rfl, _, b2'⟩
    have t2 := hs.out _ b2'
    clear hE b2'
    go_wp2
    go_ret
    exact ⟨rfl, t2⟩
  rw [if_neg hno]
  have he : encF bs = (frB bs, 0) := by unfold encF; rw [if_neg hno]
  rw [he] at hE
  have hok := apD_ok hO z (frB bs)
  obtain ⟨M, hM⟩ : ∃ M, frB bs = M := ⟨_, rfl⟩
  rw [hM] at hE hok ⊢
  obtain ⟨N, hN⟩ : ∃ N, M.length = N := ⟨_, rfl⟩
  dsimp only at hE
  rw [hN] at hE
  have cA := Lib.hid (fun w' (q : Below w.heap.size w w') (a : Option Addr) (c : Nat) (I : Ints .u8 w' a N c M) => dAppend_any (file := z) (h.keep q) hO (by omega) I)
  obtain ⟨D1, e1, he1⟩ : ∃ D1 e1, apD D z M = (D1, e1) := ⟨_, _, rfl⟩
  rw [he1] at cA hok ⊢
  dsimp only at cA hok ⊢
  have cS := Lib.hid (fun (L1 : Nat → Nat) (P1 : Nat → Prop) (w1 : World) (k : DkIs L1 P1 w1 g D1) => dSync_any (file := z) k hok (by omega))
  have rH := Lib.hid (fun w' (q : Below w.heap.size w w') => hr.keep q)
  have vH := Lib.hid (fun w' (q : Below w.heap.size w w') => (Went.of_below q : Went L P w L P w'))
  have h0H := Lib.hid h0
  clear he hno hr h0 h hO hT hG hI hb hn hM hN hok he1
  by_cases h1 : e1 = 0
  · subst h1
    rw [if_pos rfl]
    obtain ⟨D2, e2, he2⟩ : ∃ D2 e2, syD D1 z = (D2, e2) := ⟨_, _, rfl⟩
    rw [he2] at cS ⊢
    dsimp only at cS ⊢
    clear he2
    go_enter Tryz.func40, Tryz.ntmps40
    go_wp2_with fail
    refine hu.mono ?_
    rintro q w1 ⟨rfl, rfl⟩
    clear hu
    go_wp2_with fail
    refine hE.mono ?_
    rintro q w2 ⟨b2, d2, rfl, o2, q2⟩
    have I2 := own_ints' o2
    have q3 : Below w.heap.size w w2.drew := q2.drew
    have cA2 := cA.out w2.drew q3 b2 d2 I2
    have r2 := rH.out w2.drew q3
    have v0 := vH.out w2.drew q3
    clear hE cA o2 I2 q2 q3
    go_wp2_with fail
    refine region_seqS (fun w' => RollAt w' ro g z) (by kernel_rfl) r2 ?_
    simp only [pairs, Nat.reduceAdd]
    repeat (first
      | (refine SeqS.take (v := ?_) (by first | assumption | trivial) (by kernel_rfl) (by decide +kernel) (by decide +kernel) (Or.inl ⟨by rfl, ?_⟩) ?_
         rotate_left
         focus
           intro w' hb'
           go_simp
           with_reducible rfl
         simp only [Act.put, List.setIfInBounds_toArray, List.set_cons_zero, List.set_cons_succ])
      | (refine SeqS.take (v := ?_) (by first | assumption | trivial) (by kernel_rfl) (by decide +kernel) (by decide +kernel) (Or.inl ⟨by rfl, ?_⟩) ?_
         rotate_left
         focus
           intro w' hb'
           have d0 := RollAt.c0 hb'
           go_simp
           with_reducible rfl
         simp only [Act.put, List.setIfInBounds_toArray, List.set_cons_zero, List.set_cons_succ])
      | (refine SeqS.take (v := ?_) (by first | assumption | trivial) (by kernel_rfl) (by decide +kernel) (by decide +kernel) (Or.inl ⟨by rfl, ?_⟩) ?_
         rotate_left
         focus
           intro w' hb'
           have d0 := RollAt.c1 hb'
           go_simp
           with_reducible rfl
         simp only [Act.put, List.setIfInBounds_toArray, List.set_cons_zero, List.set_cons_succ])
      | (refine SeqS.take (v := undef) (by first | assumption | trivial) (by kernel_rfl) (by decide +kernel) (by decide +kernel) (Or.inr ⟨by rfl, rfl⟩) ?_
         simp only [Act.put, List.setIfInBounds_toArray, List.set_cons_zero, List.set_cons_succ])
      | (refine SeqS.take1 (v := ?_) (by first | assumption | trivial) (by kernel_rfl) (by decide +kernel) (by decide +kernel) (Or.inl ⟨by rfl, ?_⟩) ?_
         rotate_left
         focus
           intro w' hb'
           go_simp
           with_reducible rfl
         simp only [Act.put, List.setIfInBounds_toArray, List.set_cons_zero, List.set_cons_succ])
      | (refine SeqS.take1 (v := ?_) (by first | assumption | trivial) (by kernel_rfl) (by decide +kernel) (by decide +kernel) (Or.inl ⟨by rfl, ?_⟩) ?_
         rotate_left
         focus
           intro w' hb'
           have d0 := RollAt.c0 hb'
           go_simp
           with_reducible rfl
         simp only [Act.put, List.setIfInBounds_toArray, List.set_cons_zero, List.set_cons_succ])
      | (refine SeqS.take1 (v := ?_) (by first | assumption | trivial) (by kernel_rfl) (by decide +kernel) (by decide +kernel) (Or.inl ⟨by rfl, ?_⟩) ?_
         rotate_left
         focus
           intro w' hb'
           have d0 := RollAt.c1 hb'
           go_simp
           with_reducible rfl
         simp only [Act.put, List.setIfInBounds_toArray, List.set_cons_zero, List.set_cons_succ])
      | (refine SeqS.take1 (v := undef) (by first | assumption | trivial) (by kernel_rfl) (by decide +kernel) (by decide +kernel) (Or.inr ⟨by rfl, rfl⟩) ?_
         simp only [Act.put, List.setIfInBounds_toArray, List.set_cons_zero, List.set_cons_succ])
      | (refine SeqS.take2 (v := ?_) (by first | assumption | trivial) (by kernel_rfl) (by decide +kernel) (by decide +kernel) (Or.inl ⟨by rfl, ?_⟩) ?_
         rotate_left
         focus
           intro w' hb'
           go_simp
           with_reducible rfl
         simp only [Act.put, List.setIfInBounds_toArray, List.set_cons_zero, List.set_cons_succ])
      | (refine SeqS.take2 (v := ?_) (by first | assumption | trivial) (by kernel_rfl) (by decide +kernel) (by decide +kernel) (Or.inl ⟨by rfl, ?_⟩) ?_
         rotate_left
         focus
           intro w' hb'
           have d0 := RollAt.c0 hb'
           go_simp
           with_reducible rfl
         simp only [Act.put, List.setIfInBounds_toArray, List.set_cons_zero, List.set_cons_succ])
      | (refine SeqS.take2 (v := ?_) (by first | assumption | trivial) (by kernel_rfl) (by decide +kernel) (by decide +kernel) (Or.inl ⟨by rfl, ?_⟩) ?_
         rotate_left
         focus
           intro w' hb'
           have d0 := RollAt.c1 hb'
           go_simp
           with_reducible rfl
         simp only [Act.put, List.setIfInBounds_toArray, List.set_cons_zero, List.set_cons_succ])
      | (refine SeqS.take2 (v := undef) (by first | assumption | trivial) (by kernel_rfl) (by decide +kernel) (by decide +kernel) (Or.inr ⟨by rfl, rfl⟩) ?_
         simp only [Act.put, List.setIfInBounds_toArray, List.set_cons_zero, List.set_cons_succ]))
    refine SeqS.alone (by decide +kernel) (by rfl) (fun K hK => ?_)
    go_simp
    go_at_call 26
    refine cA2.mono ?_
    rintro q w3 ⟨rfl, L1, P1, k1, v1⟩
    have r3 := v1.roll r2 h0H.out
    have l3 := v1.lab r2 h0H.out
    go_simp
    refine hK _ _ r3 ?_
    clear hK K cA2 r2
    repeat (first
      | (refine SeqS.take (v := ?_) (by first | assumption | trivial) (by kernel_rfl) (by decide +kernel) (by decide +kernel) (Or.inl ⟨by rfl, ?_⟩) ?_
         rotate_left
         focus
           intro w' hb'
           go_simp
           with_reducible rfl
         simp only [Act.put, List.setIfInBounds_toArray, List.set_cons_zero, List.set_cons_succ])
      | (refine SeqS.take (v := undef) (by first | assumption | trivial) (by kernel_rfl) (by decide +kernel) (by decide +kernel) (Or.inr ⟨by rfl, rfl⟩) ?_
         simp only [Act.put, List.setIfInBounds_toArray, List.set_cons_zero, List.set_cons_succ])
      | (refine SeqS.take1 (v := ?_) (by first | assumption | trivial) (by kernel_rfl) (by decide +kernel) (by decide +kernel) (Or.inl ⟨by rfl, ?_⟩) ?_
         rotate_left
         focus
           intro w' hb'
           go_simp
           with_reducible rfl
         simp only [Act.put, List.setIfInBounds_toArray, List.set_cons_zero, List.set_cons_succ])
      | (refine SeqS.take1 (v := undef) (by first | assumption | trivial) (by kernel_rfl) (by decide +kernel) (by decide +kernel) (Or.inr ⟨by rfl, rfl⟩) ?_
         simp only [Act.put, List.setIfInBounds_toArray, List.set_cons_zero, List.set_cons_succ])
      | (refine SeqS.take2 (v := ?_) (by first | assumption | trivial) (by kernel_rfl) (by decide +kernel) (by decide +kernel) (Or.inl ⟨by rfl, ?_⟩) ?_
         rotate_left
         focus
           intro w' hb'
           go_simp
           with_reducible rfl
         simp only [Act.put, List.setIfInBounds_toArray, List.set_cons_zero, List.set_cons_succ])
      | (refine SeqS.take2 (v := undef) (by first | assumption | trivial) (by kernel_rfl) (by decide +kernel) (by decide +kernel) (Or.inr ⟨by rfl, rfl⟩) ?_
         simp only [Act.put, List.setIfInBounds_toArray, List.set_cons_zero, List.set_cons_succ]))
    refine SeqS.done (by decide +kernel) ?_
    have b5 : Below w3.heap.size w3 w3.drew := (Below.refl _ _).drew
    have r4 : RollAt w3.drew ro g z := r3.keep b5
    have cS3 := cS.out L1 P1 w3.drew (k1.keep b5)
    clear b5 cS
    go_wp2_with fail
    refine region_seqS (fun w' => RollAt w' ro g z) (by kernel_rfl) r4 ?_
    simp only [pairs, Nat.reduceAdd]
    repeat (first
      | (refine SeqS.take (v := ?_) (by first | assumption | trivial) (by kernel_rfl) (by decide +kernel) (by decide +kernel) (Or.inl ⟨by rfl, ?_⟩) ?_
         rotate_left
         focus
           intro w' hb'
           go_simp
           with_reducible rfl
         simp only [Act.put, List.setIfInBounds_toArray, List.set_cons_zero, List.set_cons_succ])
      | (refine SeqS.take (v := ?_) (by first | assumption | trivial) (by kernel_rfl) (by decide +kernel) (by decide +kernel) (Or.inl ⟨by rfl, ?_⟩) ?_
         rotate_left
         focus
           intro w' hb'
           have d0 := RollAt.c0 hb'
           go_simp
           with_reducible rfl
         simp only [Act.put, List.setIfInBounds_toArray, List.set_cons_zero, List.set_cons_succ])
      | (refine SeqS.take (v := ?_) (by first | assumption | trivial) (by kernel_rfl) (by decide +kernel) (by decide +kernel) (Or.inl ⟨by rfl, ?_⟩) ?_
         rotate_left
         focus
           intro w' hb'
           have d0 := RollAt.c1 hb'
           go_simp
           with_reducible rfl
         simp only [Act.put, List.setIfInBounds_toArray, List.set_cons_zero, List.set_cons_succ])
      | (refine SeqS.take (v := undef) (by first | assumption | trivial) (by kernel_rfl) (by decide +kernel) (by decide +kernel) (Or.inr ⟨by rfl, rfl⟩) ?_
         simp only [Act.put, List.setIfInBounds_toArray, List.set_cons_zero, List.set_cons_succ])
      | (refine SeqS.take1 (v := ?_) (by first | assumption | trivial) (by kernel_rfl) (by decide +kernel) (by decide +kernel) (Or.inl ⟨by rfl, ?_⟩) ?_
         rotate_left
         focus
           intro w' hb'
           go_simp
           with_reducible rfl
         simp only [Act.put, List.setIfInBounds_toArray, List.set_cons_zero, List.set_cons_succ])
      | (refine SeqS.take1 (v := ?_) (by first | assumption | trivial) (by kernel_rfl) (by decide +kernel) (by decide +kernel) (Or.inl ⟨by rfl, ?_⟩) ?_
         rotate_left
         focus
           intro w' hb'
           have d0 := RollAt.c0 hb'
           go_simp
           with_reducible rfl
         simp only [Act.put, List.setIfInBounds_toArray, List.set_cons_zero, List.set_cons_succ])
      | (refine SeqS.take1 (v := ?_) (by first | assumption | trivial) (by kernel_rfl) (by decide +kernel) (by decide +kernel) (Or.inl ⟨by rfl, ?_⟩) ?_
         rotate_left
         focus
           intro w' hb'
           have d0 := RollAt.c1 hb'
           go_simp
           with_reducible rfl
         simp only [Act.put, List.setIfInBounds_toArray, List.set_cons_zero, List.set_cons_succ])
      | (refine SeqS.take1 (v := undef) (by first | assumption | trivial) (by kernel_rfl) (by decide +kernel) (by decide +kernel) (Or.inr ⟨by rfl, rfl⟩) ?_
         simp only [Act.put, List.setIfInBounds_toArray, List.set_cons_zero, List.set_cons_succ])
      | (refine SeqS.take2 (v := ?_) (by first | assumption | trivial) (by kernel_rfl) (by decide +kernel) (by decide +kernel) (Or.inl ⟨by rfl, ?_⟩) ?_
         rotate_left
         focus
           intro w' hb'
           go_simp
           with_reducible rfl
         simp only [Act.put, List.setIfInBounds_toArray, List.set_cons_zero, List.set_cons_succ])
      | (refine SeqS.take2 (v := ?_) (by first | assumption | trivial) (by kernel_rfl) (by decide +kernel) (by decide +kernel) (Or.inl ⟨by rfl, ?_⟩) ?_
         rotate_left
         focus
           intro w' hb'
           have d0 := RollAt.c0 hb'
           go_simp
           with_reducible rfl
         simp only [Act.put, List.setIfInBounds_toArray, List.set_cons_zero, List.set_cons_succ])
      | (refine SeqS.take2 (v := ?_) (by first | assumption | trivial) (by kernel_rfl) (by decide +kernel) (by decide +kernel) (Or.inl ⟨by rfl, ?_⟩) ?_
         rotate_left
         focus
           intro w' hb'
           have d0 := RollAt.c1 hb'
           go_simp
           with_reducible rfl
         simp only [Act.put, List.setIfInBounds_toArray, List.set_cons_zero, List.set_cons_succ])
      | (refine SeqS.take2 (v := undef) (by first | assumption | trivial) (by kernel_rfl) (by decide +kernel) (by decide +kernel) (Or.inr ⟨by rfl, rfl⟩) ?_
         simp only [Act.put, List.setIfInBounds_toArray, List.set_cons_zero, List.set_cons_succ]))
    refine SeqS.alone (by decide +kernel) (by rfl) (fun K hK => ?_)
    go_simp
    go_at_call 85
    refine cS3.mono ?_
    rintro q w5 ⟨rfl, t5⟩
    obtain ⟨L2, P2, k2, v2⟩ := t5.drewn
    have r5 := v2.roll r3 l3
    go_simp
    refine hK _ _ r5 ?_
    clear hK K cS3 r4 t5
    repeat (first
      | (refine SeqS.take (v := ?_) (by first | assumption | trivial) (by kernel_rfl) (by decide +kernel) (by decide +kernel) (Or.inl ⟨by rfl, ?_⟩) ?_
         rotate_left
         focus
           intro w' hb'
           go_simp
           with_reducible rfl
         simp only [Act.put, List.setIfInBounds_toArray, List.set_cons_zero, List.set_cons_succ])
      | (refine SeqS.take (v := undef) (by first | assumption | trivial) (by kernel_rfl) (by decide +kernel) (by decide +kernel) (Or.inr ⟨by rfl, rfl⟩) ?_
         simp only [Act.put, List.setIfInBounds_toArray, List.set_cons_zero, List.set_cons_succ])
      | (refine SeqS.take1 (v := ?_) (by first | assumption | trivial) (by kernel_rfl) (by decide +kernel) (by decide +kernel) (Or.inl ⟨by rfl, ?_⟩) ?_
         rotate_left
         focus
           intro w' hb'
           go_simp
           with_reducible rfl
         simp only [Act.put, List.setIfInBounds_toArray, List.set_cons_zero, List.set_cons_succ])
      | (refine SeqS.take1 (v := undef) (by first | assumption | trivial) (by kernel_rfl) (by decide +kernel) (by decide +kernel) (Or.inr ⟨by rfl, rfl⟩) ?_
         simp only [Act.put, List.setIfInBounds_toArray, List.set_cons_zero, List.set_cons_succ])
      | (refine SeqS.take2 (v := ?_) (by first | assumption | trivial) (by kernel_rfl) (by decide +kernel) (by decide +kernel) (Or.inl ⟨by rfl, ?_⟩) ?_
         rotate_left
         focus
           intro w' hb'
           go_simp
           with_reducible rfl
         simp only [Act.put, List.setIfInBounds_toArray, List.set_cons_zero, List.set_cons_succ])
      | (refine SeqS.take2 (v := undef) (by first | assumption | trivial) (by kernel_rfl) (by decide +kernel) (by decide +kernel) (Or.inr ⟨by rfl, rfl⟩) ?_
         simp only [Act.put, List.setIfInBounds_toArray, List.set_cons_zero, List.set_cons_succ]))
    refine SeqS.done (by decide +kernel) ?_
    go_wp2
    go_ret
    exact ⟨rfl, L2, P2, k2, (v0.trans v1).trans v2⟩
  · rw [if_neg h1]
    dsimp only
    clear cS
    go_enter Tryz.func40, Tryz.ntmps40
    go_wp2_with fail
    refine hu.mono ?_
    rintro q w1 ⟨rfl, rfl⟩
    clear hu
    go_wp2_with fail
    refine hE.mono ?_
    rintro q w2 ⟨b2, d2, rfl, o2, q2⟩
    have I2 := own_ints' o2
    have q3 : Below w.heap.size w w2.drew := q2.drew
    have cA2 := cA.out w2.drew q3 b2 d2 I2
    have r2 := rH.out w2.drew q3
    have v0 := vH.out w2.drew q3
    clear hE cA o2 I2 q2 q3
    go_wp2_with fail
    refine region_seqS (fun w' => RollAt w' ro g z) (by kernel_rfl) r2 ?_
    simp only [pairs, Nat.reduceAdd]
    repeat (first
      | (refine SeqS.take (v := ?_) (by first | assumption | trivial) (by kernel_rfl) (by decide +kernel) (by decide +kernel) (Or.inl ⟨by rfl, ?_⟩) ?_
         rotate_left
         focus
           intro w' hb'
           go_simp
           with_reducible rfl
         simp only [Act.put, List.setIfInBounds_toArray, List.set_cons_zero, List.set_cons_succ])
      | (refine SeqS.take (v := ?_) (by first | assumption | trivial) (by kernel_rfl) (by decide +kernel) (by decide +kernel) (Or.inl ⟨by rfl, ?_⟩) ?_
         rotate_left
         focus
           intro w' hb'
           have d0 := RollAt.c0 hb'
           go_simp
           with_reducible rfl
         simp only [Act.put, List.setIfInBounds_toArray, List.set_cons_zero, List.set_cons_succ])
      | (refine SeqS.take (v := ?_) (by first | assumption | trivial) (by kernel_rfl) (by decide +kernel) (by decide +kernel) (Or.inl ⟨by rfl, ?_⟩) ?_
         rotate_left
         focus
           intro w' hb'
           have d0 := RollAt.c1 hb'
           go_simp
           with_reducible rfl
         simp only [Act.put, List.setIfInBounds_toArray, List.set_cons_zero, List.set_cons_succ])
      | (refine SeqS.take (v := undef) (by first | assumption | trivial) (by kernel_rfl) (by decide +kernel) (by decide +kernel) (Or.inr ⟨by rfl, rfl⟩) ?_
         simp only [Act.put, List.setIfInBounds_toArray, List.set_cons_zero, List.set_cons_succ])
      | (refine SeqS.take1 (v := ?_) (by first | assumption | trivial) (by kernel_rfl) (by decide +kernel) (by decide +kernel) (Or.inl ⟨by rfl, ?_⟩) ?_
         rotate_left
         focus
           intro w' hb'
           go_simp
           with_reducible rfl
         simp only [Act.put, List.setIfInBounds_toArray, List.set_cons_zero, List.set_cons_succ])
      | (refine SeqS.take1 (v := ?_) (by first | assumption | trivial) (by kernel_rfl) (by decide +kernel) (by decide +kernel) (Or.inl ⟨by rfl, ?_⟩) ?_
         rotate_left
         focus
           intro w' hb'
           have d0 := RollAt.c0 hb'
           go_simp
           with_reducible rfl
         simp only [Act.put, List.setIfInBounds_toArray, List.set_cons_zero, List.set_cons_succ])
      | (refine SeqS.take1 (v := ?_) (by first | assumption | trivial) (by kernel_rfl) (by decide +kernel) (by decide +kernel) (Or.inl ⟨by rfl, ?_⟩) ?_
         rotate_left
         focus
           intro w' hb'
           have d0 := RollAt.c1 hb'
           go_simp
           with_reducible rfl
         simp only [Act.put, List.setIfInBounds_toArray, List.set_cons_zero, List.set_cons_succ])
      | (refine SeqS.take1 (v := undef) (by first | assumption | trivial) (by kernel_rfl) (by decide +kernel) (by decide +kernel) (Or.inr ⟨by rfl, rfl⟩) ?_
         simp only [Act.put, List.setIfInBounds_toArray, List.set_cons_zero, List.set_cons_succ])
      | (refine SeqS.take2 (v := ?_) (by first | assumption | trivial) (by kernel_rfl) (by decide +kernel) (by decide +kernel) (Or.inl ⟨by rfl, ?_⟩) ?_
         rotate_left
         focus
           intro w' hb'
           go_simp
           with_reducible rfl
         simp only [Act.put, List.setIfInBounds_toArray, List.set_cons_zero, List.set_cons_succ])
      | (refine SeqS.take2 (v := ?_) (by first | assumption | trivial) (by kernel_rfl) (by decide +kernel) (by decide +kernel) (Or.inl ⟨by rfl, ?_⟩) ?_
         rotate_left
         focus
           intro w' hb'
           have d0 := RollAt.c0 hb'
           go_simp
           with_reducible rfl
         simp only [Act.put, List.setIfInBounds_toArray, List.set_cons_zero, List.set_cons_succ])
      | (refine SeqS.take2 (v := ?_) (by first | assumption | trivial) (by kernel_rfl) (by decide +kernel) (by decide +kernel) (Or.inl ⟨by rfl, ?_⟩) ?_
         rotate_left
         focus
           intro w' hb'
           have d0 := RollAt.c1 hb'
           go_simp
           with_reducible rfl
         simp only [Act.put, List.setIfInBounds_toArray, List.set_cons_zero, List.set_cons_succ])
      | (refine SeqS.take2 (v := undef) (by first | assumption | trivial) (by kernel_rfl) (by decide +kernel) (by decide +kernel) (Or.inr ⟨by rfl, rfl⟩) ?_
         simp only [Act.put, List.setIfInBounds_toArray, List.set_cons_zero, List.set_cons_succ]))
    refine SeqS.alone (by decide +kernel) (by rfl) (fun K hK => ?_)
    go_simp
    go_at_call 26
    refine cA2.mono ?_
    rintro q w3 ⟨rfl, L1, P1, k1, v1⟩
    have r3 := v1.roll r2 h0H.out
    go_simp
    refine hK _ _ r3 ?_
    clear hK K cA2 r2
    repeat (first
      | (refine SeqS.take (v := ?_) (by first | assumption | trivial) (by kernel_rfl) (by decide +kernel) (by decide +kernel) (Or.inl ⟨by rfl, ?_⟩) ?_
         rotate_left
         focus
           intro w' hb'
           go_simp
           with_reducible rfl
         simp only [Act.put, List.setIfInBounds_toArray, List.set_cons_zero, List.set_cons_succ])
      | (refine SeqS.take (v := undef) (by first | assumption | trivial) (by kernel_rfl) (by decide +kernel) (by decide +kernel) (Or.inr ⟨by rfl, rfl⟩) ?_
         simp only [Act.put, List.setIfInBounds_toArray, List.set_cons_zero, List.set_cons_succ])
      | (refine SeqS.take1 (v := ?_) (by first | assumption | trivial) (by kernel_rfl) (by decide +kernel) (by decide +kernel) (Or.inl ⟨by rfl, ?_⟩) ?_
         rotate_left
         focus
           intro w' hb'
           go_simp
           with_reducible rfl
         simp only [Act.put, List.setIfInBounds_toArray, List.set_cons_zero, List.set_cons_succ])
      | (refine SeqS.take1 (v := undef) (by first | assumption | trivial) (by kernel_rfl) (by decide +kernel) (by decide +kernel) (Or.inr ⟨by rfl, rfl⟩) ?_
         simp only [Act.put, List.setIfInBounds_toArray, List.set_cons_zero, List.set_cons_succ])
      | (refine SeqS.take2 (v := ?_) (by first | assumption | trivial) (by kernel_rfl) (by decide +kernel) (by decide +kernel) (Or.inl ⟨by rfl, ?_⟩) ?_
         rotate_left
         focus
           intro w' hb'
           go_simp
           with_reducible rfl
         simp only [Act.put, List.setIfInBounds_toArray, List.set_cons_zero, List.set_cons_succ])
      | (refine SeqS.take2 (v := undef) (by first | assumption | trivial) (by kernel_rfl) (by decide +kernel) (by decide +kernel) (Or.inr ⟨by rfl, rfl⟩) ?_
         simp only [Act.put, List.setIfInBounds_toArray, List.set_cons_zero, List.set_cons_succ]))
    refine SeqS.done (by decide +kernel) ?_
    go_wp2
    go_ret
    exact ⟨rfl, L1, P1, k1, v0.trans v1⟩
end Go.Proofs.YtinmmhbiomcdoaaGreatDoor

/-
  What Open of a roll comes to; rolls that no call made. The disk's own blocks are written, and new memory. Conditions: of a roll that is opened: a disk that New made; fewer than 2^42 steps; the files hold bytes.
-/
namespace Go.Proofs.YtinmmhbiomcdoaaGreatDoor
open Go.RowKit

theorem built_ro (g : Nat) (z : Int) : Tryz.prog.built 157 [(0, .pointer (some ⟨g, 0, none⟩)), (1, .int .i64 z), (2, .bool true)] = some (roC g z).toArray := by kernel_rfl

set_option maxRecDepth 100000 in
set_option maxHeartbeats 4000000 in
theorem yOpen_any {L : Nat → Nat} {P : Nat → Prop} {w : World} {g : Nat} {D : DkV} {T : Nat} {z : Int} (h : DkIs L P w g D) (hO : D.Ok T) (hT : T < 4398046511103) (hD : D.By) (hz : 0 ≤ z ∧ z < 3) (hG : Glob11 w) (hd : D.down = false) :
    Calls Tryz.prog 69 #[.pointer (some ⟨g, 0, none⟩), .int .i64 z] w fun q w' => ∃ p, q = .returned (.tuple #[.pointer p, .int .i64 (mdD D z).2]) ∧ ∃ L' P', DkIs L' P' w' g (mdD D z).1 ∧ Went L P w L' P' w' ∧
      ((mdD D z).2 ≠ 0 → p = none) ∧ ((mdD D z).2 = 0 → ∃ ro, p = some ⟨ro, 0, none⟩ ∧ RollAt w' ro g z ∧ w.heap.size ≤ ro ∧ L' ro = 0 ∧ ¬ P' ro) := by
  have hr0 := hO.room
  obtain ⟨c0, _, c2⟩ := h.cells
  rw [hd] at c2
  have hC0 := dRoom_any c0 (by omega)
  have hC1 := dDown_any c0 (by omega) c2
  have hb1 := below1 w (.cells (roC g z).toArray 157)
  have hR1 : RollAt (w.alloc (.cells (roC g z).toArray 157)) w.heap.size g z := Blk.new w 157 (roC g z)
  obtain ⟨l1, l2⟩ := dk_lt h
  have hL0 : L w.heap.size = 0 := by
    by_cases h0 : L w.heap.size = 0
    · exact h0
    · exact absurd (l1 _ h0) (Nat.lt_irrefl _)
  have hs1 := size1 w (.cells (roC g z).toArray 157)
  have hP0 : ¬ P w.heap.size := fun hp => absurd (l2 _ hp) (Nat.lt_irrefl _)
  obtain ⟨V, hV⟩ : ∃ V, w.alloc (.cells (roC g z).toArray 157) = V := ⟨_, rfl⟩
  rw [hV] at hb1 hR1 hs1
  have hM := yMend_any hR1 hL0 (h.keep hb1) hO hT hD hz (hG.keep hb1 (Nat.le_refl _))
  have v1 : Went L P w L P V := Went.of_below hb1
  obtain ⟨RD, RE, hRR⟩ : ∃ RD RE, mdD D z = (RD, RE) := ⟨_, _, rfl⟩
  rw [hRR] at hM ⊢
  dsimp only at hM ⊢
  obtain ⟨R, hRo⟩ : ∃ R, w.heap.size = R := ⟨_, rfl⟩
  rw [hRo] at hM hR1 hL0 hP0 hs1
  have hRoH := Lib.hid hRo
  have hVH := Lib.hid hV
  have hz1 : ¬ z < 0 := by omega
  have hz2 : ¬ 3 ≤ z := by omega
  have hr1 : ¬ D.room = 0 := by omega
  obtain ⟨r, hrr⟩ : ∃ r, D.room = r := ⟨_, rfl⟩
  rw [hrr] at hr1 hC0
  have hbt := built_ro g z
  obtain ⟨C, hCC⟩ : ∃ C, roC g z = C := ⟨_, rfl⟩
  rw [hCC] at hbt hVH
  have hs1H := Lib.hid hs1
  have hroLe : w.heap.size ≤ R := by rw [hRo]; exact Nat.le_refl _
  have hroH := Lib.hid hroLe
  clear h hO hT hD hz hG hd c0 c2 hb1 l1 l2 hV hRR hRo hrr hCC hr0 hs1 hroLe
  go_enter Tryz.func69, Tryz.ntmps69
  go_wp2_with fail
  refine hC0.mono ?_
  rintro q w1 ⟨rfl, rfl⟩
  clear hC0
  go_wp2_with fail
  refine hC1.mono ?_
  rintro q w1 ⟨rfl, rfl⟩
  clear hC1
  go_wp2_with (first
    | ((with_reducible refine build_row rfl 157 #[(0, .tmp 19), (1, .tmp 20), (2, .const (.bool true))] rfl (cells := C.toArray) ?_ ?_); (refine Eq.trans (congrArg _ ?_) hbt; kernel_rfl))
    | ((with_reducible refine box_row rfl 157 (.tmp 21) rfl C rfl ?_); refine RowKit.Hid.out ?_))
  refine Lib.hid ?_
  rw [hVH.out, hRoH.out]
  clear hbt hVH hRoH
  by_cases hE : RE = 0
  · subst hE
    go_wp2_with fail
    refine hM.mono ?_
    rintro q w2 ⟨rfl, L2, P2, k2, v2⟩
    clear hM
    have r2 := v2.roll hR1 hL0
    have l2 := v2.lab hR1 hL0
    have p2 : ¬ P2 R := fun hp => by
      rcases v2.q R hp with h | h
      · exact hP0 h
      · have h1 := hR1.lt
        omega
    go_wp2
    go_ret2
    exact ⟨_, rfl, L2, P2, k2, v1.trans v2, R, rfl, r2, hroH.out, l2, p2⟩
  · go_wp2_with fail
    refine hM.mono ?_
    rintro q w2 ⟨rfl, L2, P2, k2, v2⟩
    clear hM
    go_wp2
    go_ret2
    exact ⟨_, rfl, L2, P2, k2, v1.trans v2, fun _ => rfl, fun h => absurd h hE⟩

set_option maxRecDepth 100000 in
set_option maxHeartbeats 2000000 in
theorem yOpen_down {L : Nat → Nat} {P : Nat → Prop} {w : World} {g : Nat} {D : DkV} {T : Nat} {z : Int} (h : DkIs L P w g D) (hO : D.Ok T) (hz : 0 ≤ z ∧ z < 3) (hd : D.down = true) :
    Calls Tryz.prog 69 #[.pointer (some ⟨g, 0, none⟩), .int .i64 z] w fun q w' => q = .returned (.tuple #[.pointer none, .int .i64 18]) ∧ w = w' := by
  have hr0 := hO.room
  obtain ⟨c0, _, c2⟩ := h.cells
  rw [hd] at c2
  have hC0 := dRoom_any c0 (by omega)
  have hC1 := dDown_any c0 (by omega) c2
  have hz1 : ¬ z < 0 := by omega
  have hz2 : ¬ 3 ≤ z := by omega
  have hr1 : ¬ D.room = 0 := by omega
  clear h hO hz hd c0 c2 hr0
  go_enter Tryz.func69, Tryz.ntmps69
  go_wp2_with fail
  refine hC0.mono ?_
  rintro q w1 ⟨rfl, rfl⟩
  clear hC0
  go_wp2_with fail
  refine hC1.mono ?_
  rintro q w1 ⟨rfl, rfl⟩
  clear hC1
  go_wp2
  go_ret2
  exact ⟨rfl, rfl⟩

set_option maxRecDepth 100000 in
set_option maxHeartbeats 2000000 in
theorem yOpen_arg {L : Nat → Nat} {P : Nat → Prop} {w : World} {g : Nat} {D : DkV} {T : Nat} {z : Int} (h : DkIs L P w g D) (hO : D.Ok T) (hz : z < 0 ∨ 3 ≤ z) :
    Calls Tryz.prog 69 #[.pointer (some ⟨g, 0, none⟩), .int .i64 z] w fun q w' => q = .returned (.tuple #[.pointer none, .int .i64 1]) ∧ w = w' := by
  have hr0 := hO.room
  obtain ⟨c0, _, c2⟩ := h.cells
  have hC0 := dRoom_any c0 (by omega)
  have hr1 : ¬ D.room = 0 := by omega
  clear h hO c0 c2 hr0
  by_cases h1 : z < 0
  · clear hz
    go_enter Tryz.func69, Tryz.ntmps69
    go_wp2_with fail
    refine hC0.mono ?_
    rintro q w1 ⟨rfl, rfl⟩
    clear hC0
    go_wp2
    go_ret2
    exact ⟨rfl, rfl⟩
  · have h2 : 3 ≤ z := hz.resolve_left h1
    clear hz
    go_enter Tryz.func69, Tryz.ntmps69
    go_wp2_with fail
    refine hC0.mono ?_
    rintro q w1 ⟨rfl, rfl⟩
    clear hC0
    go_wp2
    go_ret2
    exact ⟨rfl, rfl⟩

set_option maxRecDepth 100000 in
set_option maxHeartbeats 2000000 in
theorem yOpen_dead {w : World} {p : Option Addr} (z : Int) (h : Dead w p) :
    Calls Tryz.prog 69 #[.pointer p, .int .i64 z] w fun q w' => q = .returned (.tuple #[.pointer none, .int .i64 7]) ∧ w = w' := by
  have hC0 := nRoom h
  clear h
  go_enter Tryz.func69, Tryz.ntmps69
  go_wp2_with fail
  refine hC0.mono ?_
  rintro q w1 ⟨rfl, rfl⟩
  clear hC0
  go_wp2
  go_ret2
  exact ⟨rfl, rfl⟩

/-! ### A roll that no call made -/
def DeadR (w : World) (p : Option Addr) : Prop := p = none ∨ ∃ r, p = some ⟨r, 0, none⟩ ∧ w.cell? ⟨r, 2, none⟩ = some (.bool false)

set_option maxRecDepth 100000 in
set_option maxHeartbeats 1000000 in
theorem zUnmade {w : World} {p : Option Addr} (h : DeadR w p) :
    Calls Tryz.prog 83 #[.pointer p] w fun q w' => q = .returned (.bool true) ∧ w = w' := by
  rcases h with rfl | ⟨r, rfl, hc⟩
  · go_enter Tryz.func83, Tryz.ntmps83
    go_wp2
    go_ret
    exact ⟨rfl, rfl⟩
  · go_enter Tryz.func83, Tryz.ntmps83
    go_wp2
    go_ret
    exact ⟨rfl, rfl⟩

set_option maxRecDepth 100000 in
set_option maxHeartbeats 1000000 in
theorem zAppend {w : World} {p : Option Addr} (h : DeadR w p) (a : Option Addr) (n c : Nat) :
    Calls Tryz.prog 40 #[.pointer p, .slice a n c] w fun q w' => q = .returned (.int .i64 7) ∧ w = w' := by
  have hM := zUnmade h
  clear h
  go_enter Tryz.func40, Tryz.ntmps40
  go_wp2_with fail
  refine hM.mono ?_
  rintro q w1 ⟨rfl, rfl⟩
  go_wp2
  go_ret
  exact ⟨rfl, rfl⟩

set_option maxRecDepth 100000 in
set_option maxHeartbeats 1000000 in
theorem zClear {w : World} {p : Option Addr} (h : DeadR w p) :
    Calls Tryz.prog 46 #[.pointer p] w fun q w' => q = .returned (.int .i64 7) ∧ w = w' := by
  have hM := zUnmade h
  clear h
  go_enter Tryz.func46, Tryz.ntmps46
  go_wp2_with fail
  refine hM.mono ?_
  rintro q w1 ⟨rfl, rfl⟩
  go_wp2
  go_ret
  exact ⟨rfl, rfl⟩

set_option maxRecDepth 100000 in
set_option maxHeartbeats 1000000 in
theorem zBodies {w : World} {p : Option Addr} (h : DeadR w p) :
    Calls Tryz.prog 71 #[.pointer p] w fun q w' => q = .returned (.slice none 0 0) ∧ w = w' := by
  have hM := zUnmade h
  clear h
  go_enter Tryz.func71, Tryz.ntmps71
  go_wp2_with fail
  refine hM.mono ?_
  rintro q w1 ⟨rfl, rfl⟩
  go_wp2
  go_ret
  exact ⟨rfl, rfl⟩

set_option maxRecDepth 100000 in
set_option maxHeartbeats 1000000 in
theorem zSize {w : World} {p : Option Addr} (h : DeadR w p) :
    Calls Tryz.prog 67 #[.pointer p] w fun q w' => q = .returned (.int .i64 0) ∧ w = w' := by
  have hM := zUnmade h
  clear h
  go_enter Tryz.func67, Tryz.ntmps67
  go_wp2_with fail
  refine hM.mono ?_
  rintro q w1 ⟨rfl, rfl⟩
  go_wp2
  go_ret
  exact ⟨rfl, rfl⟩
end Go.Proofs.YtinmmhbiomcdoaaGreatDoor

/-
  A landed disk of the call's own, with rolls beside it: what a law's calls leave. New memory is written, and the disk's own. Conditions: a disk that New made; fewer than 2^42 steps; the files hold bytes.
-/
namespace Go.Proofs.YtinmmhbiomcdoaaGreatDoor
open Go.RowKit

section
variable {E : Nat → Prop} {B : Nat} {w0 w : World} {g : Nat} {D D' : DkV} {T : Nat} {e : Int}

theorem o_open {z : Int} (h : RyOwn E B w0 w g D) (hO : D.Ok T) (hT : T < 4398046511103) (hD : D.By) (hz : 0 ≤ z ∧ z < 3) (hG : Glob11 w0) (hB : w0.heap.size ≤ B) (hd : D.down = false) (he : mdD D z = (D', 0)) :
    Calls Tryz.prog 69 #[.pointer (some ⟨g, 0, none⟩), .int .i64 z] w fun q w' => ∃ ro, q = .returned (.tuple #[.pointer (some ⟨ro, 0, none⟩), .int .i64 0]) ∧ RollAt w' ro g z ∧ RyOwn (fun b => E b ∨ b = ro) B w0 w' g D' ∧ SameE E w w' := by
  obtain ⟨L, P, h1, h2, h3⟩ := h.is
  have hc := yOpen_any h1 hO hT hD hz (hG.keep h.b hB) hd
  rw [he] at hc
  refine hc.mono ?_
  rintro q w' ⟨p, eq, L', P', k1, k2, _, k4⟩
  obtain ⟨ro, rfl, hr, hl, m1, m2⟩ := k4 rfl
  obtain ⟨j1, j2⟩ := ry_prog h.b h.s h2 h3 k1 k2
  refine ⟨ro, eq, hr, ⟨⟨L', P', k1, k2.low h2 h.s, fun b hb => ?_⟩, j1.b, j1.s⟩, j2⟩
  rcases hb with hb | hb
  · exact ⟨Nat.lt_of_lt_of_le (h3 b hb).1 k2.m.size, (k2.l b (h3 b hb).1).trans (h3 b hb).2.1, fun hp => (k2.q b hp).elim (h3 b hb).2.2 (fun h => absurd (h3 b hb).1 (Nat.not_lt.2 h))⟩
  · subst hb; exact ⟨hr.lt, m1, m2⟩

theorem o_open_err {z : Int} (h : RyOwn E B w0 w g D) (hO : D.Ok T) (hT : T < 4398046511103) (hD : D.By) (hz : 0 ≤ z ∧ z < 3) (hG : Glob11 w0) (hB : w0.heap.size ≤ B) (hd : D.down = false) (he : mdD D z = (D', e)) (hne : e ≠ 0) :
    Calls Tryz.prog 69 #[.pointer (some ⟨g, 0, none⟩), .int .i64 z] w fun q w' => q = .returned (.tuple #[.pointer none, .int .i64 e]) ∧ RyOwn E B w0 w' g D' ∧ SameE E w w' := by
  obtain ⟨L, P, h1, h2, h3⟩ := h.is
  have hc := yOpen_any h1 hO hT hD hz (hG.keep h.b hB) hd
  rw [he] at hc
  refine hc.mono ?_
  rintro q w' ⟨p, eq, L', P', k1, k2, k3, _⟩
  have := k3 hne
  subst this
  exact ⟨eq, ry_prog h.b h.s h2 h3 k1 k2⟩

theorem o_open_arg {z : Int} (h : RyOwn E B w0 w g D) (hO : D.Ok T) (hz : z < 0 ∨ 3 ≤ z) :
    Calls Tryz.prog 69 #[.pointer (some ⟨g, 0, none⟩), .int .i64 z] w fun q w' => q = .returned (.tuple #[.pointer none, .int .i64 1]) ∧ w = w' := by
  obtain ⟨L, P, h1, h2, h3⟩ := h.is
  exact yOpen_arg h1 hO hz

theorem o_put {z : Int} {ro : Nat} {a : Option Addr} {n c : Nat} {bs : List Int} (h : RyOwn E B w0 w g D) (hr : RollAt w ro g z) (hro : E ro) (hO : D.Ok T) (hT : T < 4398046511103) (hG : Glob11 w0) (hB : w0.heap.size ≤ B) (hI : Ints .u8 w a n c bs) (hb : ∀ x ∈ bs, isByte x) (hn : n ≤ 140737488355328) (he : prD D z bs = (D', e)) :
    Calls Tryz.prog 40 #[.pointer (some ⟨ro, 0, none⟩), .slice a n c] w fun q w' => q = .returned (.int .i64 e) ∧ RyOwn E B w0 w' g D' ∧ SameE E w w' := by
  obtain ⟨L, P, h1, h2, h3⟩ := h.is
  have hc := yAppend_any hr (h3 ro hro).2.1 h1 hO hT (hG.keep h.b hB) hI hb hn
  rw [he] at hc
  exact hc.mono fun q w' ⟨eq, L', P', k1, k2⟩ => ⟨eq, ry_prog h.b h.s h2 h3 k1 k2⟩

theorem o_bodies {z : Int} {ro : Nat} (h : RyOwn E B w0 w g D) (hr : RollAt w ro g z) (hO : D.Ok T) (hD : D.By) (hz : 0 ≤ z ∧ z < 3) (hG : Glob11 w0) (hB : w0.heap.size ≤ B) {ps : List (List Int)} (hp : allF (heldR D z) = ps) :
    Calls Tryz.prog 71 #[.pointer (some ⟨ro, 0, none⟩)] w fun q w' => ∃ v, q = .returned v ∧ RowsO w' w.heap.size 0 v ps ∧ Below w.heap.size w w' := by
  obtain ⟨L, P, h1, h2, h3⟩ := h.is
  exact yBodies_any hr h1 hO hD hz (hG.keep h.b hB) hp

end
theorem whole_by {L : List (List Int)} (h : ∀ b ∈ L, ∀ x ∈ b, isByte x) : (whole L).By := ⟨flat_by h, fun _ h => absurd h (List.not_mem_nil)⟩
end Go.Proofs.YtinmmhbiomcdoaaGreatDoor
