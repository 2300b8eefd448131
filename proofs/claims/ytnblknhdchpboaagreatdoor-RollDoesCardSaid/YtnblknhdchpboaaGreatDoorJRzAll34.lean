/-
  Texts of stages that were proved on their own, joined: RyMem, RyCall, RyOpen, RyNew, RyOwn, RyAlive. Each begins with its own words.
-/
import Derived.Test.YtnblknhdchpboaaGreatDoorJRzAll20
import Derived.Test.YtnblknhdchpboaaGreatDoorJRzAll33
import Derived.Test.YtnblknhdchpboaaGreatDoorJRzAll9
import Derived.Test.YtnblknhdchpboaaGreatDoorJRzAll8
import Derived.Test.YtnblknhdchpboaaGreatDoorJRzAll6
import Derived.Test.YtnblknhdchpboaaGreatDoorJRzAll5

/-
  A roll in memory, over the landed disk: what unmade, Bodies, Len, Size, keep and mend come to. The disk's own blocks are written, and new memory. Conditions: a roll that Open made, of a disk that New made; fewer than 2^41 steps; the files hold bytes.
-/
namespace Go.Proofs.YtnblknhdchpboaaGreatDoor
open Go.RowKit

def roC (g : Nat) (z : Int) : List Value := [.pointer (some ⟨g, 0, none⟩), .int .i64 z, .bool true]
/-- A roll that Open made. -/
def RollAt (w : World) (ro g : Nat) (z : Int) : Prop := Blk w ro 69 (roC g z)
theorem RollAt.keep {w w' : World} {ro g : Nat} {z : Int} (h : RollAt w ro g z) (hb : Below w.heap.size w w') : RollAt w' ro g z := Blk.keep h hb (Blk.lt h)
theorem RollAt.c0 {w : World} {ro g : Nat} {z : Int} (h : RollAt w ro g z) : w.cell? ⟨ro, 0, none⟩ = some (.pointer (some ⟨g, 0, none⟩)) := Blk.cell h 0
theorem RollAt.c1 {w : World} {ro g : Nat} {z : Int} (h : RollAt w ro g z) : w.cell? ⟨ro, 1, none⟩ = some (.int .i64 z) := Blk.cell h 1
theorem RollAt.c2 {w : World} {ro g : Nat} {z : Int} (h : RollAt w ro g z) : w.cell? ⟨ro, 2, none⟩ = some (.bool true) := Blk.cell h 2
theorem RollAt.lt {w : World} {ro g : Nat} {z : Int} (h : RollAt w ro g z) : ro < w.heap.size := Blk.lt h
theorem dk_lt {L : Nat → Nat} {P : Nat → Prop} {w : World} {g : Nat} {D : DkV} (h : DkIs L P w g D) : (∀ b, L b ≠ 0 → b < w.heap.size) ∧ ∀ b, P b → b < w.heap.size := by
  obtain ⟨_, _, _, h⟩ := h
  exact ⟨h.lab.l, fun b hb => (h.lab.p b hb).1⟩
theorem Went.at {L L' : Nat → Nat} {P P' : Nat → Prop} {w w' : World} (h : Went L P w L' P' w') {b : Nat} (hb : b < w.heap.size) (h0 : L b = 0) : w'.heap[b]? = w.heap[b]? := h.m.2 b hb (fun hn => hn h0)
theorem Went.roll {L L' : Nat → Nat} {P P' : Nat → Prop} {w w' : World} (h : Went L P w L' P' w') {ro g : Nat} {z : Int} (hr : RollAt w ro g z) (h0 : L ro = 0) : RollAt w' ro g z := (h.at hr.lt h0).trans hr
theorem Went.lab {L L' : Nat → Nat} {P P' : Nat → Prop} {w w' : World} (h : Went L P w L' P' w') {ro g : Nat} {z : Int} (hr : RollAt w ro g z) (h0 : L ro = 0) : L' ro = 0 := (h.l ro hr.lt).trans h0
/-- Numbers were drawn ahead. -/
theorem DkTo.drewn {L : Nat → Nat} {P : Nat → Prop} {w w' : World} {g : Nat} {D : DkV} (h : DkTo L P w.drew g w' D) : DkTo L P w g w' D := by
  obtain ⟨L', P', h1, h2⟩ := h
  exact ⟨L', P', h1, (Went.of_below (Below.refl _ _).drew).trans h2⟩
theorem DkTo.trans {L : Nat → Nat} {P : Nat → Prop} {w w1 w2 : World} {g : Nat} {D : DkV} {L1 : Nat → Nat} {P1 : Nat → Prop} (a : Went L P w L1 P1 w1) (h : DkTo L1 P1 w1 g w2 D) : DkTo L P w g w2 D := by
  obtain ⟨L', P', h1, h2⟩ := h
  exact ⟨L', P', h1, a.trans h2⟩
theorem file_nat {z : Int} (hz : 0 ≤ z ∧ z < 3) : z = ((z.toNat : Nat) : Int) := by omega

set_option maxRecDepth 100000 in
set_option maxHeartbeats 800000 in
theorem yUnmade_any {w : World} {ro g : Nat} {z : Int} (hr : RollAt w ro g z) :
    Calls Tryz.prog 34 #[.pointer (some ⟨ro, 0, none⟩)] w fun q w' => q = .returned (.bool false) ∧ w = w' := by
  have c2 := hr.c2
  clear hr
  go_enter Tryz.func34, Tryz.ntmps34
  go_wp2
  go_ret
  exact ⟨rfl, rfl⟩

theorem y_read {L : Nat → Nat} {P : Nat → Prop} {w : World} {g : Nat} {D : DkV} {T : Nat} (h : DkIs L P w g D) (hO : D.Ok T) {z : Int} (hz : 0 ≤ z ∧ z < 3) {X : List Int} (hX : heldR D z = X) {N : Nat} (hN : X.length = N) :
    Calls Tryz.prog 49 #[.pointer (some ⟨g, 0, none⟩), .int .i64 z] w fun q w' => ∃ b c, q = .returned (.slice b N c) ∧ Ints .u8 w' b N c X ∧ Below w.heap.size w w' := by
  obtain ⟨x0, x1, x2, hk⟩ := h
  subst hN; subst hX
  have hd := dRead_any hk hO z.toNat (toNat_lt3 hz)
  rw [← file_nat hz] at hd
  exact hd.mono fun q w' ⟨b, c, e, ho, hb⟩ => ⟨b, c, e, own_ints' ho, hb⟩

theorem y_size {L : Nat → Nat} {P : Nat → Prop} {w : World} {g : Nat} {D : DkV} {T : Nat} (h : DkIs L P w g D) (hO : D.Ok T) {z : Int} (hz : 0 ≤ z ∧ z < 3) {N : Nat} (hN : (heldR D z).length = N) :
    Calls Tryz.prog 25 #[.pointer (some ⟨g, 0, none⟩), .int .i64 z] w fun q w' => q = .returned (.int .i64 (N : Int)) ∧ Below w.heap.size w w' := by
  obtain ⟨x0, x1, x2, hk⟩ := h
  subst hN
  have hd := dSize_any hk hO z.toNat (toNat_lt3 hz)
  rw [← file_nat hz] at hd
  exact hd

theorem y_units {L : Nat → Nat} {P : Nat → Prop} {w : World} {g : Nat} {D : DkV} {T : Nat} (h : DkIs L P w g D) (hO : D.Ok T) {z : Int} (hz : 0 ≤ z ∧ z < 3) {N : Nat} (hN : (D.f z.toNat).units = N) :
    Calls Tryz.prog 56 #[.pointer (some ⟨g, 0, none⟩), .int .i64 z] w fun q w' => q = .returned (.int .i64 (N : Int)) ∧ Below w.heap.size w w' := by
  obtain ⟨x0, x1, x2, hk⟩ := h
  subst hN
  have hd := dUnits_any hk hO z.toNat (toNat_lt3 hz)
  rw [← file_nat hz] at hd
  exact hd

theorem y_scan {w : World} {a : Option Addr} {n c : Nat} {xs : List Int} (hG : Glob11 w) (hI : Ints .u8 w a n c xs) (hr : ∀ x ∈ xs, isByte x) (hn : n ≤ 1000000000) {B : Nat} (hB : B ≤ w.heap.size) {ps : List (List Int)} (hp : allF xs = ps) {G : Nat} (hg : goodF xs = G) :
    Calls Tryz.prog 54 #[.slice a n c] w fun q w' => ∃ v, q = .returned (.tuple #[v, .int .i64 (G : Int)]) ∧ RowsO w' B 0 v ps ∧ Below w.heap.size w w' := by
  subst hp; subst hg
  exact (fScan_any a n c xs (numF xs) (numF_fr xs) w hG hI hr hn).mono fun q w' ⟨v, e, h, hb⟩ => ⟨v, e, h.low hB, hb⟩
theorem held_len {D : DkV} {T : Nat} (hO : D.Ok T) (z : Int) : (heldR D z).length ≤ 65536 := Nat.le_trans (FlV.held_le _) (hO.f _).need

set_option maxRecDepth 100000 in
set_option maxHeartbeats 2000000 in
theorem yBodies_any {L : Nat → Nat} {P : Nat → Prop} {w : World} {ro g : Nat} {D : DkV} {T : Nat} {z : Int} (hr : RollAt w ro g z) (h : DkIs L P w g D) (hO : D.Ok T) (hD : D.By) (hz : 0 ≤ z ∧ z < 3) (hG : Glob11 w) {ps : List (List Int)} (hp : allF (heldR D z) = ps) :
    Calls Tryz.prog 21 #[.pointer (some ⟨ro, 0, none⟩)] w fun q w' => ∃ v, q = .returned v ∧ RowsO w' w.heap.size 0 v ps ∧ Below w.heap.size w w' := by
  have hu := yUnmade_any hr
  have hby : ∀ x ∈ heldR D z, isByte x := (hD.f _).held
  have hle := held_len hO z
  obtain ⟨X, hX⟩ : ∃ X, heldR D z = X := ⟨_, rfl⟩
  obtain ⟨N, hN⟩ : ∃ N, X.length = N := ⟨_, rfl⟩
  obtain ⟨G, hg⟩ : ∃ G, goodF X = G := ⟨_, rfl⟩
  rw [hX] at hp hby hle
  rw [hN] at hle
  have b4 : Below w.heap.size w w.drew := (Below.refl _ _).drew
  have CR := Lib.hid (fun w' (q : Below w.heap.size w w') => y_read (h.keep q) hO hz hX hN)
  have CS := Lib.hid (fun w' (q : Below w.heap.size w w') (a : Option Addr) (c : Nat) (I : Ints .u8 w' a N c X) => y_scan (hG.keep q (Nat.le_refl _)) I hby (by omega) q.size hp hg)
  have R0 := Lib.hid (fun w' (q : Below w.heap.size w w') => (hr.keep q).c0)
  have R1 := Lib.hid (fun w' (q : Below w.heap.size w w') => (hr.keep q).c1)
  clear hr h hO hD hG hX hN hg hp hby hle hz
  go_enter Tryz.func21, Tryz.ntmps21
  go_wp2_with fail
  refine hu.mono ?_
  rintro q w1 ⟨rfl, rfl⟩
  clear hu
  go_wp2_with fail
  refine region_seqS (fun w' => Below w.heap.size w w') (by kernel_rfl) b4 ?_
  simp only [pairs, Nat.reduceAdd]
  repeat ((first
    | (refine SeqS.take (v := ?_) (by first | assumption | trivial) (by kernel_rfl) (by decide +kernel) (by decide +kernel) (Or.inl ⟨by rfl, ?_⟩) ?_
       rotate_left
       focus
         intro w' hb'
         go_simp
         with_reducible rfl)
    | (refine SeqS.take (v := ?_) (by first | assumption | trivial) (by kernel_rfl) (by decide +kernel) (by decide +kernel) (Or.inl ⟨by rfl, ?_⟩) ?_
       rotate_left
       focus
         intro w' hb'
         have d0 := R0.out w' hb'
         go_simp
         with_reducible rfl)
    | (refine SeqS.take (v := ?_) (by first | assumption | trivial) (by kernel_rfl) (by decide +kernel) (by decide +kernel) (Or.inl ⟨by rfl, ?_⟩) ?_
       rotate_left
       focus
         intro w' hb'
         have d0 := R1.out w' hb'
         go_simp
         with_reducible rfl)
    | (refine SeqS.take (v := undef) (by first | assumption | trivial) (by kernel_rfl) (by decide +kernel) (by decide +kernel) (Or.inr ⟨by rfl, rfl⟩) ?_)
    | (refine SeqS.take1 (v := ?_) (by first | assumption | trivial) (by kernel_rfl) (by decide +kernel) (by decide +kernel) (Or.inl ⟨by rfl, ?_⟩) ?_
       rotate_left
       focus
         intro w' hb'
         go_simp
         with_reducible rfl)
    | (refine SeqS.take1 (v := ?_) (by first | assumption | trivial) (by kernel_rfl) (by decide +kernel) (by decide +kernel) (Or.inl ⟨by rfl, ?_⟩) ?_
       rotate_left
       focus
         intro w' hb'
         have d0 := R0.out w' hb'
         go_simp
         with_reducible rfl)
    | (refine SeqS.take1 (v := ?_) (by first | assumption | trivial) (by kernel_rfl) (by decide +kernel) (by decide +kernel) (Or.inl ⟨by rfl, ?_⟩) ?_
       rotate_left
       focus
         intro w' hb'
         have d0 := R1.out w' hb'
         go_simp
         with_reducible rfl)
    | (refine SeqS.take1 (v := undef) (by first | assumption | trivial) (by kernel_rfl) (by decide +kernel) (by decide +kernel) (Or.inr ⟨by rfl, rfl⟩) ?_)
    | (refine SeqS.take2 (v := ?_) (by first | assumption | trivial) (by kernel_rfl) (by decide +kernel) (by decide +kernel) (Or.inl ⟨by rfl, ?_⟩) ?_
       rotate_left
       focus
         intro w' hb'
         go_simp
         with_reducible rfl)
    | (refine SeqS.take2 (v := ?_) (by first | assumption | trivial) (by kernel_rfl) (by decide +kernel) (by decide +kernel) (Or.inl ⟨by rfl, ?_⟩) ?_
       rotate_left
       focus
         intro w' hb'
         have d0 := R0.out w' hb'
         go_simp
         with_reducible rfl)
    | (refine SeqS.take2 (v := ?_) (by first | assumption | trivial) (by kernel_rfl) (by decide +kernel) (by decide +kernel) (Or.inl ⟨by rfl, ?_⟩) ?_
       rotate_left
       focus
         intro w' hb'
         have d0 := R1.out w' hb'
         go_simp
         with_reducible rfl)
    | (refine SeqS.take2 (v := undef) (by first | assumption | trivial) (by kernel_rfl) (by decide +kernel) (by decide +kernel) (Or.inr ⟨by rfl, rfl⟩) ?_)); simp only [Act.put, List.setIfInBounds_toArray, List.set_cons_zero, List.set_cons_succ])
  refine SeqS.alone (by decide +kernel) (by rfl) (fun K hK => ?_)
  go_simp
  go_at_call 49
  refine (CR.out _ b4).mono ?_
  rintro e w1 ⟨a1, c1, rfl, I1, b1⟩
  go_simp
  have S1 : Below w.heap.size w w1 := b4.trans (b1.mono b4.size)
  refine hK _ _ S1 ?_
  clear hK K
  refine SeqS.alone (by decide +kernel) (by rfl) (fun K hK => ?_)
  go_simp
  go_at_call 54
  refine (CS.out _ S1 _ _ I1).mono ?_
  rintro e w2 ⟨v2, rfl, R2, b2⟩
  go_simp
  have S2 : Below w.heap.size w w2 := S1.trans (b2.mono S1.size)
  refine hK _ _ S2 ?_
  clear hK K
  have R2 := Lib.hid R2
  repeat ((first
    | (refine SeqS.take (v := ?_) (by first | assumption | trivial) (by kernel_rfl) (by decide +kernel) (by decide +kernel) (Or.inl ⟨by rfl, ?_⟩) ?_
       rotate_left
       focus
         intro w' hb'
         go_simp
         with_reducible rfl)
    | (refine SeqS.take (v := undef) (by first | assumption | trivial) (by kernel_rfl) (by decide +kernel) (by decide +kernel) (Or.inr ⟨by rfl, rfl⟩) ?_)
    | (refine SeqS.take1 (v := ?_) (by first | assumption | trivial) (by kernel_rfl) (by decide +kernel) (by decide +kernel) (Or.inl ⟨by rfl, ?_⟩) ?_
       rotate_left
       focus
         intro w' hb'
         go_simp
         with_reducible rfl)
    | (refine SeqS.take1 (v := undef) (by first | assumption | trivial) (by kernel_rfl) (by decide +kernel) (by decide +kernel) (Or.inr ⟨by rfl, rfl⟩) ?_)
    | (refine SeqS.take2 (v := ?_) (by first | assumption | trivial) (by kernel_rfl) (by decide +kernel) (by decide +kernel) (Or.inl ⟨by rfl, ?_⟩) ?_
       rotate_left
       focus
         intro w' hb'
         go_simp
         with_reducible rfl)
    | (refine SeqS.take2 (v := undef) (by first | assumption | trivial) (by kernel_rfl) (by decide +kernel) (by decide +kernel) (Or.inr ⟨by rfl, rfl⟩) ?_)); simp only [Act.put, List.setIfInBounds_toArray, List.set_cons_zero, List.set_cons_succ])
  refine SeqS.done (by decide +kernel) ?_
  go_wp2
  go_ret
  exact ⟨_, rfl, R2.out, S2⟩
end Go.Proofs.YtnblknhdchpboaaGreatDoor

/-
  What a roll's keep, mend, Append, Clear, Len, Size and Open come to. The disk's own blocks are written, and new memory. Conditions: a roll that Open made (of Open: none), of a disk that New made; fewer than 2^42 steps; the files hold bytes.
-/
namespace Go.Proofs.YtnblknhdchpboaaGreatDoor
open Go.RowKit

set_option maxRecDepth 100000 in
set_option maxHeartbeats 2000000 in
theorem yKeep_any {L : Nat → Nat} {P : Nat → Prop} {w : World} {ro g : Nat} {D : DkV} {T : Nat} {z n : Int} (hr : RollAt w ro g z) (h0 : L ro = 0) (h : DkIs L P w g D) (hO : D.Ok T) (hT : T < 4398046511103) :
    Calls Tryz.prog 38 #[.pointer (some ⟨ro, 0, none⟩), .int .i64 n] w fun q w' => q = .returned (.int .i64 (keD D z n).2) ∧ DkTo L P w g w' (keD D z n).1 := by
  have b4 : Below w.heap.size w w.drew := (Below.refl _ _).drew
  have rS : RollAt w.drew ro g z := hr.keep b4
  have hC := dCut_any (file := z) (k := n) (h.keep b4) hO (by omega)
  have hok := ctD_ok hO z n
  unfold keD
  obtain ⟨D1, e1, he⟩ : ∃ D1 e1, ctD D z n = (D1, e1) := ⟨_, _, rfl⟩
  rw [he] at hC hok ⊢
  dsimp only at hC hok ⊢
  have hrH := Lib.hid hr
  have h0H := Lib.hid h0
  have hS := Lib.hid (fun (L1 : Nat → Nat) (P1 : Nat → Prop) (w1 : World) (k : DkIs L1 P1 w1 g D1) => dSync_any (file := z) k hok (by omega))
  clear hr h hO hT he hok h0
  by_cases h1 : e1 = 0
  · subst h1
    rw [if_pos rfl]
    obtain ⟨D2, e2, he2⟩ : ∃ D2 e2, syD D1 z = (D2, e2) := ⟨_, _, rfl⟩
    rw [he2] at hS ⊢
    dsimp only at hS ⊢
    clear he2
    go_enter Tryz.func38, Tryz.ntmps38
    go_wp2_with fail
    refine region_seqS (fun w' => RollAt w' ro g z) (by kernel_rfl) rS ?_
    simp only [pairs, Nat.reduceAdd]
    repeat ((first
      | (refine SeqS.take (v := ?_) (by first | assumption | trivial) (by kernel_rfl) (by decide +kernel) (by decide +kernel) (Or.inl ⟨by rfl, ?_⟩) ?_
         rotate_left
         focus
           intro w' hb'
           go_simp
           with_reducible rfl)
      | (refine SeqS.take (v := ?_) (by first | assumption | trivial) (by kernel_rfl) (by decide +kernel) (by decide +kernel) (Or.inl ⟨by rfl, ?_⟩) ?_
         rotate_left
         focus
           intro w' hb'
           have d0 := RollAt.c0 hb'
           go_simp
           with_reducible rfl)
      | (refine SeqS.take (v := ?_) (by first | assumption | trivial) (by kernel_rfl) (by decide +kernel) (by decide +kernel) (Or.inl ⟨by rfl, ?_⟩) ?_
         rotate_left
         focus
           intro w' hb'
           have d0 := RollAt.c1 hb'
           go_simp
           with_reducible rfl)
      | (refine SeqS.take (v := undef) (by first | assumption | trivial) (by kernel_rfl) (by decide +kernel) (by decide +kernel) (Or.inr ⟨by rfl, rfl⟩) ?_)
      | (refine SeqS.take1 (v := ?_) (by first | assumption | trivial) (by kernel_rfl) (by decide +kernel) (by decide +kernel) (Or.inl ⟨by rfl, ?_⟩) ?_
         rotate_left
         focus
           intro w' hb'
           go_simp
           with_reducible rfl)
      | (refine SeqS.take1 (v := ?_) (by first | assumption | trivial) (by kernel_rfl) (by decide +kernel) (by decide +kernel) (Or.inl ⟨by rfl, ?_⟩) ?_
         rotate_left
         focus
           intro w' hb'
           have d0 := RollAt.c0 hb'
           go_simp
           with_reducible rfl)
      | (refine SeqS.take1 (v := ?_) (by first | assumption | trivial) (by kernel_rfl) (by decide +kernel) (by decide +kernel) (Or.inl ⟨by rfl, ?_⟩) ?_
         rotate_left
         focus
           intro w' hb'
           have d0 := RollAt.c1 hb'
           go_simp
           with_reducible rfl)
      | (refine SeqS.take1 (v := undef) (by first | assumption | trivial) (by kernel_rfl) (by decide +kernel) (by decide +kernel) (Or.inr ⟨by rfl, rfl⟩) ?_)
      | (refine SeqS.take2 (v := ?_) (by first | assumption | trivial) (by kernel_rfl) (by decide +kernel) (by decide +kernel) (Or.inl ⟨by rfl, ?_⟩) ?_
         rotate_left
         focus
           intro w' hb'
           go_simp
           with_reducible rfl)
      | (refine SeqS.take2 (v := ?_) (by first | assumption | trivial) (by kernel_rfl) (by decide +kernel) (by decide +kernel) (Or.inl ⟨by rfl, ?_⟩) ?_
         rotate_left
         focus
           intro w' hb'
           have d0 := RollAt.c0 hb'
           go_simp
           with_reducible rfl)
      | (refine SeqS.take2 (v := ?_) (by first | assumption | trivial) (by kernel_rfl) (by decide +kernel) (by decide +kernel) (Or.inl ⟨by rfl, ?_⟩) ?_
         rotate_left
         focus
           intro w' hb'
           have d0 := RollAt.c1 hb'
           go_simp
           with_reducible rfl)
      | (refine SeqS.take2 (v := undef) (by first | assumption | trivial) (by kernel_rfl) (by decide +kernel) (by decide +kernel) (Or.inr ⟨by rfl, rfl⟩) ?_)); simp only [Act.put, List.setIfInBounds_toArray, List.set_cons_zero, List.set_cons_succ])
    refine SeqS.alone (by decide +kernel) (by rfl) (fun K hK => ?_)
    go_simp
    go_at_call 67
    refine hC.mono ?_
    rintro q w1 ⟨rfl, t1⟩
    obtain ⟨L1, P1, k1, v1⟩ := t1.drewn
    have r1 := v1.roll hrH.out h0H.out
    have l1 := v1.lab hrH.out h0H.out
    go_simp
    refine hK _ _ r1 ?_
    clear hK K hC rS t1
    repeat ((first
      | (refine SeqS.take (v := ?_) (by first | assumption | trivial) (by kernel_rfl) (by decide +kernel) (by decide +kernel) (Or.inl ⟨by rfl, ?_⟩) ?_
         rotate_left
         focus
           intro w' hb'
           go_simp
           with_reducible rfl)
      | (refine SeqS.take (v := undef) (by first | assumption | trivial) (by kernel_rfl) (by decide +kernel) (by decide +kernel) (Or.inr ⟨by rfl, rfl⟩) ?_)
      | (refine SeqS.take1 (v := ?_) (by first | assumption | trivial) (by kernel_rfl) (by decide +kernel) (by decide +kernel) (Or.inl ⟨by rfl, ?_⟩) ?_
         rotate_left
         focus
           intro w' hb'
           go_simp
           with_reducible rfl)
      | (refine SeqS.take1 (v := undef) (by first | assumption | trivial) (by kernel_rfl) (by decide +kernel) (by decide +kernel) (Or.inr ⟨by rfl, rfl⟩) ?_)
      | (refine SeqS.take2 (v := ?_) (by first | assumption | trivial) (by kernel_rfl) (by decide +kernel) (by decide +kernel) (Or.inl ⟨by rfl, ?_⟩) ?_
         rotate_left
         focus
           intro w' hb'
           go_simp
           with_reducible rfl)
      | (refine SeqS.take2 (v := undef) (by first | assumption | trivial) (by kernel_rfl) (by decide +kernel) (by decide +kernel) (Or.inr ⟨by rfl, rfl⟩) ?_)); simp only [Act.put, List.setIfInBounds_toArray, List.set_cons_zero, List.set_cons_succ])
    refine SeqS.done (by decide +kernel) ?_
    have b5 : Below w1.heap.size w1 w1.drew := (Below.refl _ _).drew
    have rS : RollAt w1.drew ro g z := r1.keep b5
    have hS1 := hS.out L1 P1 w1.drew (k1.keep b5)
    clear b4 b5
    go_wp2_with fail
    refine region_seqS (fun w' => RollAt w' ro g z) (by kernel_rfl) rS ?_
    simp only [pairs, Nat.reduceAdd]
    repeat ((first
      | (refine SeqS.take (v := ?_) (by first | assumption | trivial) (by kernel_rfl) (by decide +kernel) (by decide +kernel) (Or.inl ⟨by rfl, ?_⟩) ?_
         rotate_left
         focus
           intro w' hb'
           go_simp
           with_reducible rfl)
      | (refine SeqS.take (v := ?_) (by first | assumption | trivial) (by kernel_rfl) (by decide +kernel) (by decide +kernel) (Or.inl ⟨by rfl, ?_⟩) ?_
         rotate_left
         focus
           intro w' hb'
           have d0 := RollAt.c0 hb'
           go_simp
           with_reducible rfl)
      | (refine SeqS.take (v := ?_) (by first | assumption | trivial) (by kernel_rfl) (by decide +kernel) (by decide +kernel) (Or.inl ⟨by rfl, ?_⟩) ?_
         rotate_left
         focus
           intro w' hb'
           have d0 := RollAt.c1 hb'
           go_simp
           with_reducible rfl)
      | (refine SeqS.take (v := undef) (by first | assumption | trivial) (by kernel_rfl) (by decide +kernel) (by decide +kernel) (Or.inr ⟨by rfl, rfl⟩) ?_)
      | (refine SeqS.take1 (v := ?_) (by first | assumption | trivial) (by kernel_rfl) (by decide +kernel) (by decide +kernel) (Or.inl ⟨by rfl, ?_⟩) ?_
         rotate_left
         focus
           intro w' hb'
           go_simp
           with_reducible rfl)
      | (refine SeqS.take1 (v := ?_) (by first | assumption | trivial) (by kernel_rfl) (by decide +kernel) (by decide +kernel) (Or.inl ⟨by rfl, ?_⟩) ?_
         rotate_left
         focus
           intro w' hb'
           have d0 := RollAt.c0 hb'
           go_simp
           with_reducible rfl)
      | (refine SeqS.take1 (v := ?_) (by first | assumption | trivial) (by kernel_rfl) (by decide +kernel) (by decide +kernel) (Or.inl ⟨by rfl, ?_⟩) ?_
         rotate_left
         focus
           intro w' hb'
           have d0 := RollAt.c1 hb'
           go_simp
           with_reducible rfl)
      | (refine SeqS.take1 (v := undef) (by first | assumption | trivial) (by kernel_rfl) (by decide +kernel) (by decide +kernel) (Or.inr ⟨by rfl, rfl⟩) ?_)
      | (refine SeqS.take2 (v := ?_) (by first | assumption | trivial) (by kernel_rfl) (by decide +kernel) (by decide +kernel) (Or.inl ⟨by rfl, ?_⟩) ?_
         rotate_left
         focus
           intro w' hb'
           go_simp
           with_reducible rfl)
      | (refine SeqS.take2 (v := ?_) (by first | assumption | trivial) (by kernel_rfl) (by decide +kernel) (by decide +kernel) (Or.inl ⟨by rfl, ?_⟩) ?_
         rotate_left
         focus
           intro w' hb'
           have d0 := RollAt.c0 hb'
           go_simp
           with_reducible rfl)
      | (refine SeqS.take2 (v := ?_) (by first | assumption | trivial) (by kernel_rfl) (by decide +kernel) (by decide +kernel) (Or.inl ⟨by rfl, ?_⟩) ?_
         rotate_left
         focus
           intro w' hb'
           have d0 := RollAt.c1 hb'
           go_simp
           with_reducible rfl)
      | (refine SeqS.take2 (v := undef) (by first | assumption | trivial) (by kernel_rfl) (by decide +kernel) (by decide +kernel) (Or.inr ⟨by rfl, rfl⟩) ?_)); simp only [Act.put, List.setIfInBounds_toArray, List.set_cons_zero, List.set_cons_succ])
    refine SeqS.alone (by decide +kernel) (by rfl) (fun K hK => ?_)
    go_simp
    go_at_call 36
    refine hS1.mono ?_
    rintro q w2 ⟨rfl, t2⟩
    obtain ⟨L2, P2, k2, v2⟩ := t2.drewn
    have r2 := v2.roll r1 l1
    go_simp
    refine hK _ _ r2 ?_
    clear hK K hS1 rS t2
    repeat ((first
      | (refine SeqS.take (v := ?_) (by first | assumption | trivial) (by kernel_rfl) (by decide +kernel) (by decide +kernel) (Or.inl ⟨by rfl, ?_⟩) ?_
         rotate_left
         focus
           intro w' hb'
           go_simp
           with_reducible rfl)
      | (refine SeqS.take (v := undef) (by first | assumption | trivial) (by kernel_rfl) (by decide +kernel) (by decide +kernel) (Or.inr ⟨by rfl, rfl⟩) ?_)
      | (refine SeqS.take1 (v := ?_) (by first | assumption | trivial) (by kernel_rfl) (by decide +kernel) (by decide +kernel) (Or.inl ⟨by rfl, ?_⟩) ?_
         rotate_left
         focus
           intro w' hb'
           go_simp
           with_reducible rfl)
      | (refine SeqS.take1 (v := undef) (by first | assumption | trivial) (by kernel_rfl) (by decide +kernel) (by decide +kernel) (Or.inr ⟨by rfl, rfl⟩) ?_)
      | (refine SeqS.take2 (v := ?_) (by first | assumption | trivial) (by kernel_rfl) (by decide +kernel) (by decide +kernel) (Or.inl ⟨by rfl, ?_⟩) ?_
         rotate_left
         focus
           intro w' hb'
           go_simp
           with_reducible rfl)
      | (refine SeqS.take2 (v := undef) (by first | assumption | trivial) (by kernel_rfl) (by decide +kernel) (by decide +kernel) (Or.inr ⟨by rfl, rfl⟩) ?_)); simp only [Act.put, List.setIfInBounds_toArray, List.set_cons_zero, List.set_cons_succ])
    refine SeqS.done (by decide +kernel) ?_
    go_wp2
    go_ret
    exact ⟨rfl, L2, P2, k2, v1.trans v2⟩
  · rw [if_neg h1]
    dsimp only
    clear hS
    go_enter Tryz.func38, Tryz.ntmps38
    go_wp2_with fail
    refine region_seqS (fun w' => RollAt w' ro g z) (by kernel_rfl) rS ?_
    simp only [pairs, Nat.reduceAdd]
    repeat ((first
      | (refine SeqS.take (v := ?_) (by first | assumption | trivial) (by kernel_rfl) (by decide +kernel) (by decide +kernel) (Or.inl ⟨by rfl, ?_⟩) ?_
         rotate_left
         focus
           intro w' hb'
           go_simp
           with_reducible rfl)
      | (refine SeqS.take (v := ?_) (by first | assumption | trivial) (by kernel_rfl) (by decide +kernel) (by decide +kernel) (Or.inl ⟨by rfl, ?_⟩) ?_
         rotate_left
         focus
           intro w' hb'
           have d0 := RollAt.c0 hb'
           go_simp
           with_reducible rfl)
      | (refine SeqS.take (v := ?_) (by first | assumption | trivial) (by kernel_rfl) (by decide +kernel) (by decide +kernel) (Or.inl ⟨by rfl, ?_⟩) ?_
         rotate_left
         focus
           intro w' hb'
           have d0 := RollAt.c1 hb'
           go_simp
           with_reducible rfl)
      | (refine SeqS.take (v := undef) (by first | assumption | trivial) (by kernel_rfl) (by decide +kernel) (by decide +kernel) (Or.inr ⟨by rfl, rfl⟩) ?_)
      | (refine SeqS.take1 (v := ?_) (by first | assumption | trivial) (by kernel_rfl) (by decide +kernel) (by decide +kernel) (Or.inl ⟨by rfl, ?_⟩) ?_
         rotate_left
         focus
           intro w' hb'
           go_simp
           with_reducible rfl)
      | (refine SeqS.take1 (v := ?_) (by first | assumption | trivial) (by kernel_rfl) (by decide +kernel) (by decide +kernel) (Or.inl ⟨by rfl, ?_⟩) ?_
         rotate_left
         focus
           intro w' hb'
           have d0 := RollAt.c0 hb'
           go_simp
           with_reducible rfl)
      | (refine SeqS.take1 (v := ?_) (by first | assumption | trivial) (by kernel_rfl) (by decide +kernel) (by decide +kernel) (Or.inl ⟨by rfl, ?_⟩) ?_
         rotate_left
         focus
           intro w' hb'
           have d0 := RollAt.c1 hb'
           go_simp
           with_reducible rfl)
      | (refine SeqS.take1 (v := undef) (by first | assumption | trivial) (by kernel_rfl) (by decide +kernel) (by decide +kernel) (Or.inr ⟨by rfl, rfl⟩) ?_)
      | (refine SeqS.take2 (v := ?_) (by first | assumption | trivial) (by kernel_rfl) (by decide +kernel) (by decide +kernel) (Or.inl ⟨by rfl, ?_⟩) ?_
         rotate_left
         focus
           intro w' hb'
           go_simp
           with_reducible rfl)
      | (refine SeqS.take2 (v := ?_) (by first | assumption | trivial) (by kernel_rfl) (by decide +kernel) (by decide +kernel) (Or.inl ⟨by rfl, ?_⟩) ?_
         rotate_left
         focus
           intro w' hb'
           have d0 := RollAt.c0 hb'
           go_simp
           with_reducible rfl)
      | (refine SeqS.take2 (v := ?_) (by first | assumption | trivial) (by kernel_rfl) (by decide +kernel) (by decide +kernel) (Or.inl ⟨by rfl, ?_⟩) ?_
         rotate_left
         focus
           intro w' hb'
           have d0 := RollAt.c1 hb'
           go_simp
           with_reducible rfl)
      | (refine SeqS.take2 (v := undef) (by first | assumption | trivial) (by kernel_rfl) (by decide +kernel) (by decide +kernel) (Or.inr ⟨by rfl, rfl⟩) ?_)); simp only [Act.put, List.setIfInBounds_toArray, List.set_cons_zero, List.set_cons_succ])
    refine SeqS.alone (by decide +kernel) (by rfl) (fun K hK => ?_)
    go_simp
    go_at_call 67
    refine hC.mono ?_
    rintro q w1 ⟨rfl, t1⟩
    obtain ⟨L1, P1, k1, v1⟩ := t1.drewn
    have r1 := v1.roll hrH.out h0H.out
    go_simp
    refine hK _ _ r1 ?_
    clear hK K hC rS t1 b4
    repeat ((first
      | (refine SeqS.take (v := ?_) (by first | assumption | trivial) (by kernel_rfl) (by decide +kernel) (by decide +kernel) (Or.inl ⟨by rfl, ?_⟩) ?_
         rotate_left
         focus
           intro w' hb'
           go_simp
           with_reducible rfl)
      | (refine SeqS.take (v := undef) (by first | assumption | trivial) (by kernel_rfl) (by decide +kernel) (by decide +kernel) (Or.inr ⟨by rfl, rfl⟩) ?_)
      | (refine SeqS.take1 (v := ?_) (by first | assumption | trivial) (by kernel_rfl) (by decide +kernel) (by decide +kernel) (Or.inl ⟨by rfl, ?_⟩) ?_
         rotate_left
         focus
           intro w' hb'
           go_simp
           with_reducible rfl)
      | (refine SeqS.take1 (v := undef) (by first | assumption | trivial) (by kernel_rfl) (by decide +kernel) (by decide +kernel) (Or.inr ⟨by rfl, rfl⟩) ?_)
      | (refine SeqS.take2 (v := ?_) (by first | assumption | trivial) (by kernel_rfl) (by decide +kernel) (by decide +kernel) (Or.inl ⟨by rfl, ?_⟩) ?_
         rotate_left
         focus
           intro w' hb'
           go_simp
           with_reducible rfl)
      | (refine SeqS.take2 (v := undef) (by first | assumption | trivial) (by kernel_rfl) (by decide +kernel) (by decide +kernel) (Or.inr ⟨by rfl, rfl⟩) ?_)); simp only [Act.put, List.setIfInBounds_toArray, List.set_cons_zero, List.set_cons_succ])
    refine SeqS.done (by decide +kernel) ?_
    go_wp2
    go_ret
    exact ⟨rfl, L1, P1, k1, v1⟩

set_option maxRecDepth 100000 in
set_option maxHeartbeats 800000 in
theorem yLen_any {L : Nat → Nat} {P : Nat → Prop} {w : World} {ro g : Nat} {D : DkV} {T : Nat} {z : Int} (hr : RollAt w ro g z) (h : DkIs L P w g D) (hO : D.Ok T) (hD : D.By) (hz : 0 ≤ z ∧ z < 3) (hG : Glob11 w) {n : Nat} (hn : numF (heldR D z) = n) :
    Calls Tryz.prog 23 #[.pointer (some ⟨ro, 0, none⟩)] w fun q w' => q = .returned (.int .i64 (n : Int)) ∧ Below w.heap.size w w' := by
  have hB := yBodies_any hr h hO hD hz hG rfl
  have hl := allF_len (heldR D z)
  rw [hn] at hl
  obtain ⟨ps, hps⟩ : ∃ ps, allF (heldR D z) = ps := ⟨_, rfl⟩
  rw [hps] at hB hl
  clear hr h hO hD hz hG hn hps
  go_enter Tryz.func23, Tryz.ntmps23
  go_wp2_with fail
  refine hB.mono ?_
  rintro q w1 ⟨v, rfl, R1, b1⟩
  obtain ⟨a, c, rfl, _⟩ := R1.parts
  rw [hl]
  clear hB hl
  go_wp2
  go_ret
  exact ⟨rfl, b1⟩

set_option maxRecDepth 100000 in
set_option maxHeartbeats 800000 in
theorem ySize_any {L : Nat → Nat} {P : Nat → Prop} {w : World} {ro g : Nat} {D : DkV} {T : Nat} {z : Int} (hr : RollAt w ro g z) (h : DkIs L P w g D) (hO : D.Ok T) (hz : 0 ≤ z ∧ z < 3) {n : Nat} (hn : (heldR D z).length = n) :
    Calls Tryz.prog 24 #[.pointer (some ⟨ro, 0, none⟩)] w fun q w' => q = .returned (.int .i64 (n : Int)) ∧ Below w.heap.size w w' := by
  have hu := yUnmade_any hr
  have b4 : Below w.heap.size w w.drew := (Below.refl _ _).drew
  have C1 := Lib.hid (fun w' (q : Below w.heap.size w w') => y_size (h.keep q) hO hz hn)
  have R0 := Lib.hid (fun w' (q : Below w.heap.size w w') => (hr.keep q).c0)
  have R1 := Lib.hid (fun w' (q : Below w.heap.size w w') => (hr.keep q).c1)
  clear hr h hO hn hz
  go_enter Tryz.func24, Tryz.ntmps24
  go_wp2_with fail
  refine hu.mono ?_
  rintro q w1 ⟨rfl, rfl⟩
  clear hu
  go_wp2_with fail
  refine region_seqS (fun w' => Below w.heap.size w w') (by kernel_rfl) b4 ?_
  simp only [pairs, Nat.reduceAdd]
  repeat ((first
    | (refine SeqS.take (v := ?_) (by first | assumption | trivial) (by kernel_rfl) (by decide +kernel) (by decide +kernel) (Or.inl ⟨by rfl, ?_⟩) ?_
       rotate_left
       focus
         intro w' hb'
         go_simp
         with_reducible rfl)
    | (refine SeqS.take (v := ?_) (by first | assumption | trivial) (by kernel_rfl) (by decide +kernel) (by decide +kernel) (Or.inl ⟨by rfl, ?_⟩) ?_
       rotate_left
       focus
         intro w' hb'
         have d0 := R0.out w' hb'
         go_simp
         with_reducible rfl)
    | (refine SeqS.take (v := ?_) (by first | assumption | trivial) (by kernel_rfl) (by decide +kernel) (by decide +kernel) (Or.inl ⟨by rfl, ?_⟩) ?_
       rotate_left
       focus
         intro w' hb'
         have d0 := R1.out w' hb'
         go_simp
         with_reducible rfl)
    | (refine SeqS.take (v := undef) (by first | assumption | trivial) (by kernel_rfl) (by decide +kernel) (by decide +kernel) (Or.inr ⟨by rfl, rfl⟩) ?_)
    | (refine SeqS.take1 (v := ?_) (by first | assumption | trivial) (by kernel_rfl) (by decide +kernel) (by decide +kernel) (Or.inl ⟨by rfl, ?_⟩) ?_
       rotate_left
       focus
         intro w' hb'
         go_simp
         with_reducible rfl)
    | (refine SeqS.take1 (v := ?_) (by first | assumption | trivial) (by kernel_rfl) (by decide +kernel) (by decide +kernel) (Or.inl ⟨by rfl, ?_⟩) ?_
       rotate_left
       focus
         intro w' hb'
         have d0 := R0.out w' hb'
         go_simp
         with_reducible rfl)
    | (refine SeqS.take1 (v := ?_) (by first | assumption | trivial) (by kernel_rfl) (by decide +kernel) (by decide +kernel) (Or.inl ⟨by rfl, ?_⟩) ?_
       rotate_left
       focus
         intro w' hb'
         have d0 := R1.out w' hb'
         go_simp
         with_reducible rfl)
    | (refine SeqS.take1 (v := undef) (by first | assumption | trivial) (by kernel_rfl) (by decide +kernel) (by decide +kernel) (Or.inr ⟨by rfl, rfl⟩) ?_)
    | (refine SeqS.take2 (v := ?_) (by first | assumption | trivial) (by kernel_rfl) (by decide +kernel) (by decide +kernel) (Or.inl ⟨by rfl, ?_⟩) ?_
       rotate_left
       focus
         intro w' hb'
         go_simp
         with_reducible rfl)
    | (refine SeqS.take2 (v := ?_) (by first | assumption | trivial) (by kernel_rfl) (by decide +kernel) (by decide +kernel) (Or.inl ⟨by rfl, ?_⟩) ?_
       rotate_left
       focus
         intro w' hb'
         have d0 := R0.out w' hb'
         go_simp
         with_reducible rfl)
    | (refine SeqS.take2 (v := ?_) (by first | assumption | trivial) (by kernel_rfl) (by decide +kernel) (by decide +kernel) (Or.inl ⟨by rfl, ?_⟩) ?_
       rotate_left
       focus
         intro w' hb'
         have d0 := R1.out w' hb'
         go_simp
         with_reducible rfl)
    | (refine SeqS.take2 (v := undef) (by first | assumption | trivial) (by kernel_rfl) (by decide +kernel) (by decide +kernel) (Or.inr ⟨by rfl, rfl⟩) ?_)); simp only [Act.put, List.setIfInBounds_toArray, List.set_cons_zero, List.set_cons_succ])
  refine SeqS.alone (by decide +kernel) (by rfl) (fun K hK => ?_)
  go_simp
  go_at_call 25
  refine (C1.out _ b4).mono ?_
  rintro e w1 ⟨rfl, b1⟩
  go_simp
  have S1 : Below w.heap.size w w1 := b4.trans (b1.mono b4.size)
  refine hK _ _ S1 ?_
  clear hK K
  repeat ((first
    | (refine SeqS.take (v := ?_) (by first | assumption | trivial) (by kernel_rfl) (by decide +kernel) (by decide +kernel) (Or.inl ⟨by rfl, ?_⟩) ?_
       rotate_left
       focus
         intro w' hb'
         go_simp
         with_reducible rfl)
    | (refine SeqS.take (v := undef) (by first | assumption | trivial) (by kernel_rfl) (by decide +kernel) (by decide +kernel) (Or.inr ⟨by rfl, rfl⟩) ?_)
    | (refine SeqS.take1 (v := ?_) (by first | assumption | trivial) (by kernel_rfl) (by decide +kernel) (by decide +kernel) (Or.inl ⟨by rfl, ?_⟩) ?_
       rotate_left
       focus
         intro w' hb'
         go_simp
         with_reducible rfl)
    | (refine SeqS.take1 (v := undef) (by first | assumption | trivial) (by kernel_rfl) (by decide +kernel) (by decide +kernel) (Or.inr ⟨by rfl, rfl⟩) ?_)
    | (refine SeqS.take2 (v := ?_) (by first | assumption | trivial) (by kernel_rfl) (by decide +kernel) (by decide +kernel) (Or.inl ⟨by rfl, ?_⟩) ?_
       rotate_left
       focus
         intro w' hb'
         go_simp
         with_reducible rfl)
    | (refine SeqS.take2 (v := undef) (by first | assumption | trivial) (by kernel_rfl) (by decide +kernel) (by decide +kernel) (Or.inr ⟨by rfl, rfl⟩) ?_)); simp only [Act.put, List.setIfInBounds_toArray, List.set_cons_zero, List.set_cons_succ])
  refine SeqS.done (by decide +kernel) ?_
  go_wp2
  go_ret
  exact ⟨rfl, S1⟩
end Go.Proofs.YtnblknhdchpboaaGreatDoor

/-
  What a roll's mend, Append, Clear and Open come to. The disk's own blocks are written, and new memory. Conditions: of Append and Clear a roll that Open made, of a disk that New made; fewer than 2^42 steps; the files hold bytes.
-/
namespace Go.Proofs.YtnblknhdchpboaaGreatDoor
open Go.RowKit

set_option maxRecDepth 100000 in
set_option maxHeartbeats 4000000 in
theorem yMend_any {L : Nat → Nat} {P : Nat → Prop} {w : World} {ro g : Nat} {D : DkV} {T : Nat} {z : Int} (hr : RollAt w ro g z) (h0 : L ro = 0) (h : DkIs L P w g D) (hO : D.Ok T) (hT : T < 4398046511103) (hD : D.By) (hz : 0 ≤ z ∧ z < 3) (hG : Glob11 w) :
    Calls Tryz.prog 28 #[.pointer (some ⟨ro, 0, none⟩)] w fun q w' => q = .returned (.int .i64 (mdD D z).2) ∧ DkTo L P w g w' (mdD D z).1 := by
  have hby : ∀ x ∈ heldR D z, isByte x := (hD.f _).held
  have hle := held_len hO z
  unfold mdD
  obtain ⟨X, hX⟩ : ∃ X, heldR D z = X := ⟨_, rfl⟩
  obtain ⟨N, hN⟩ : ∃ N, X.length = N := ⟨_, rfl⟩
  obtain ⟨G, hg⟩ : ∃ G, goodF X = G := ⟨_, rfl⟩
  obtain ⟨U, hU⟩ : ∃ U, (D.f z.toNat).units = U := ⟨_, rfl⟩
  have hun := (hO.f z.toNat).un
  rw [hU] at hun
  rw [hX] at hby hle ⊢
  rw [hN] at hle ⊢
  rw [hg, hU]
  obtain ⟨RD, RE, hRR⟩ : ∃ RD RE, (if G < N then keD D z (G : Nat) else if 0 < U then syD D z else (D, 0)) = (RD, RE) := ⟨_, _, rfl⟩
  rw [hRR]
  dsimp only
  have hRH := Lib.hid hRR
  clear hRR
  have b4 : Below w.heap.size w w.drew := (Below.refl _ _).drew
  have CR := Lib.hid (fun w' (q : Below w.heap.size w w') => y_read (h.keep q) hO hz hX hN)
  have CS := Lib.hid (fun w' (q : Below w.heap.size w w') (a : Option Addr) (c : Nat) (I : Ints .u8 w' a N c X) => y_scan (hG.keep q (Nat.le_refl _)) I hby (by omega) q.size rfl hg)
  have CZ := Lib.hid (fun w' (q : Below w.heap.size w w') => ySize_any (hr.keep q) (h.keep q) hO hz (show (heldR D z).length = N by rw [hX, hN]))
  have CK := Lib.hid (fun w' (q : Below w.heap.size w w') => yKeep_any (n := (G : Int)) (hr.keep q) h0 (h.keep q) hO hT)
  have CU := Lib.hid (fun w' (q : Below w.heap.size w w') => y_units (h.keep q) hO hz hU)
  have CY := Lib.hid (fun w' (q : Below w.heap.size w w') => dSync_any (file := z) (h.keep q) hO (by omega))
  have kS := Lib.hid (fun w' (q : Below w.heap.size w w') => DkTo.stay h q)
  have R0 := Lib.hid (fun w' (q : Below w.heap.size w w') => (hr.keep q).c0)
  have R1 := Lib.hid (fun w' (q : Below w.heap.size w w') => (hr.keep q).c1)
  have vH := Lib.hid (fun w' (q : Below w.heap.size w w') => (Went.of_below q : Went L P w L P w'))
  have rH := Lib.hid (fun w' (q : Below w.heap.size w w') => hr.keep q)
  have h0H := Lib.hid h0
  have hgn : ((G : Nat) : Int) ≤ 65536 := by have := goodF_le X; omega
  have hnn : ((N : Nat) : Int) ≤ 65536 := by omega
  clear hr h hO hD hG hX hN hg hby hle hz hT h0 hU hun
  go_enter Tryz.func28, Tryz.ntmps28
  go_wp2_with fail
  refine region_seqS (fun w' => Below w.heap.size w w') (by kernel_rfl) b4 ?_
  simp only [pairs, Nat.reduceAdd]
  repeat ((first
    | (refine SeqS.take (v := ?_) (by first | assumption | trivial) (by kernel_rfl) (by decide +kernel) (by decide +kernel) (Or.inl ⟨by rfl, ?_⟩) ?_
       rotate_left
       focus
         intro w' hb'
         go_simp
         with_reducible rfl)
    | (refine SeqS.take (v := ?_) (by first | assumption | trivial) (by kernel_rfl) (by decide +kernel) (by decide +kernel) (Or.inl ⟨by rfl, ?_⟩) ?_
       rotate_left
       focus
         intro w' hb'
         have d0 := R0.out w' hb'
         go_simp
         with_reducible rfl)
    | (refine SeqS.take (v := ?_) (by first | assumption | trivial) (by kernel_rfl) (by decide +kernel) (by decide +kernel) (Or.inl ⟨by rfl, ?_⟩) ?_
       rotate_left
       focus
         intro w' hb'
         have d0 := R1.out w' hb'
         go_simp
         with_reducible rfl)
    | (refine SeqS.take (v := undef) (by first | assumption | trivial) (by kernel_rfl) (by decide +kernel) (by decide +kernel) (Or.inr ⟨by rfl, rfl⟩) ?_)
    | (refine SeqS.take1 (v := ?_) (by first | assumption | trivial) (by kernel_rfl) (by decide +kernel) (by decide +kernel) (Or.inl ⟨by rfl, ?_⟩) ?_
       rotate_left
       focus
         intro w' hb'
         go_simp
         with_reducible rfl)
    | (refine SeqS.take1 (v := ?_) (by first | assumption | trivial) (by kernel_rfl) (by decide +kernel) (by decide +kernel) (Or.inl ⟨by rfl, ?_⟩) ?_
       rotate_left
       focus
         intro w' hb'
         have d0 := R0.out w' hb'
         go_simp
         with_reducible rfl)
    | (refine SeqS.take1 (v := ?_) (by first | assumption | trivial) (by kernel_rfl) (by decide +kernel) (by decide +kernel) (Or.inl ⟨by rfl, ?_⟩) ?_
       rotate_left
       focus
         intro w' hb'
         have d0 := R1.out w' hb'
         go_simp
         with_reducible rfl)
    | (refine SeqS.take1 (v := undef) (by first | assumption | trivial) (by kernel_rfl) (by decide +kernel) (by decide +kernel) (Or.inr ⟨by rfl, rfl⟩) ?_)
    | (refine SeqS.take2 (v := ?_) (by first | assumption | trivial) (by kernel_rfl) (by decide +kernel) (by decide +kernel) (Or.inl ⟨by rfl, ?_⟩) ?_
       rotate_left
       focus
         intro w' hb'
         go_simp
         with_reducible rfl)
    | (refine SeqS.take2 (v := ?_) (by first | assumption | trivial) (by kernel_rfl) (by decide +kernel) (by decide +kernel) (Or.inl ⟨by rfl, ?_⟩) ?_
       rotate_left
       focus
         intro w' hb'
         have d0 := R0.out w' hb'
         go_simp
         with_reducible rfl)
    | (refine SeqS.take2 (v := ?_) (by first | assumption | trivial) (by kernel_rfl) (by decide +kernel) (by decide +kernel) (Or.inl ⟨by rfl, ?_⟩) ?_
       rotate_left
       focus
         intro w' hb'
         have d0 := R1.out w' hb'
         go_simp
         with_reducible rfl)
    | (refine SeqS.take2 (v := undef) (by first | assumption | trivial) (by kernel_rfl) (by decide +kernel) (by decide +kernel) (Or.inr ⟨by rfl, rfl⟩) ?_)); simp only [Act.put, List.setIfInBounds_toArray, List.set_cons_zero, List.set_cons_succ])
  refine SeqS.alone (by decide +kernel) (by rfl) (fun K hK => ?_)
  go_simp
  go_at_call 49
  refine (CR.out _ b4).mono ?_
  rintro e w1 ⟨a1, c1, rfl, I1, b1⟩
  go_simp
  have S1 : Below w.heap.size w w1 := b4.trans (b1.mono b4.size)
  refine hK _ _ S1 ?_
  clear hK K
  refine SeqS.alone (by decide +kernel) (by rfl) (fun K hK => ?_)
  go_simp
  go_at_call 54
  refine (CS.out _ S1 _ _ I1).mono ?_
  rintro e w2 ⟨v2, rfl, R2, b2⟩
  go_simp
  have S2 : Below w.heap.size w w2 := S1.trans (b2.mono S1.size)
  refine hK _ _ S2 ?_
  clear hK K
  repeat ((first
    | (refine SeqS.take (v := ?_) (by first | assumption | trivial) (by kernel_rfl) (by decide +kernel) (by decide +kernel) (Or.inl ⟨by rfl, ?_⟩) ?_
       rotate_left
       focus
         intro w' hb'
         go_simp
         with_reducible rfl)
    | (refine SeqS.take (v := undef) (by first | assumption | trivial) (by kernel_rfl) (by decide +kernel) (by decide +kernel) (Or.inr ⟨by rfl, rfl⟩) ?_)
    | (refine SeqS.take1 (v := ?_) (by first | assumption | trivial) (by kernel_rfl) (by decide +kernel) (by decide +kernel) (Or.inl ⟨by rfl, ?_⟩) ?_
       rotate_left
       focus
         intro w' hb'
         go_simp
         with_reducible rfl)
    | (refine SeqS.take1 (v := undef) (by first | assumption | trivial) (by kernel_rfl) (by decide +kernel) (by decide +kernel) (Or.inr ⟨by rfl, rfl⟩) ?_)
    | (refine SeqS.take2 (v := ?_) (by first | assumption | trivial) (by kernel_rfl) (by decide +kernel) (by decide +kernel) (Or.inl ⟨by rfl, ?_⟩) ?_
       rotate_left
       focus
         intro w' hb'
         go_simp
         with_reducible rfl)
    | (refine SeqS.take2 (v := undef) (by first | assumption | trivial) (by kernel_rfl) (by decide +kernel) (by decide +kernel) (Or.inr ⟨by rfl, rfl⟩) ?_)); simp only [Act.put, List.setIfInBounds_toArray, List.set_cons_zero, List.set_cons_succ])
  refine SeqS.done (by decide +kernel) ?_
  have CZ2 := CZ.out _ S2
  clear CR CS CZ I1 S1 b1 b2 R2
  go_wp2_with fail
  refine CZ2.mono ?_
  rintro q w3 ⟨rfl, b3⟩
  have S3 : Below w.heap.size w w3 := chain S2 b3
  clear CZ2 S2 b3
  by_cases hlt : G < N
  · have hlt' : ((G : Nat) : Int) < ((N : Nat) : Int) := by omega
    have hR := hRH.out
    rw [if_pos hlt] at hR
    have CK3 := CK.out _ S3
    rw [hR] at CK3
    dsimp only at CK3
    have vw := vH.out _ S3
    clear CK CU CY R0 R1 kS hlt hR hRH hgn hnn vH rH h0H
    go_wp2_with fail
    refine CK3.mono ?_
    rintro q w4 ⟨rfl, t4⟩
    have tt := DkTo.trans vw t4
    clear CK3 t4 vw
    go_wp2
    go_ret
    exact ⟨rfl, tt⟩
  · have hlt' : ¬ ((G : Nat) : Int) < ((N : Nat) : Int) := by omega
    have S4 : Below w.heap.size w w3.drew := S3.drew
    have hltH := Lib.hid hlt
    clear CK hlt hgn hnn
    go_wp2_with fail
    refine region_seqS (fun w' => Below w.heap.size w w') (by kernel_rfl) S4 ?_
    simp only [pairs, Nat.reduceAdd]
    repeat ((first
      | (refine SeqS.take (v := ?_) (by first | assumption | trivial) (by kernel_rfl) (by decide +kernel) (by decide +kernel) (Or.inl ⟨by rfl, ?_⟩) ?_
         rotate_left
         focus
           intro w' hb'
           go_simp
           with_reducible rfl)
      | (refine SeqS.take (v := ?_) (by first | assumption | trivial) (by kernel_rfl) (by decide +kernel) (by decide +kernel) (Or.inl ⟨by rfl, ?_⟩) ?_
         rotate_left
         focus
           intro w' hb'
           have d0 := R0.out w' hb'
           go_simp
           with_reducible rfl)
      | (refine SeqS.take (v := ?_) (by first | assumption | trivial) (by kernel_rfl) (by decide +kernel) (by decide +kernel) (Or.inl ⟨by rfl, ?_⟩) ?_
         rotate_left
         focus
           intro w' hb'
           have d0 := R1.out w' hb'
           go_simp
           with_reducible rfl)
      | (refine SeqS.take (v := undef) (by first | assumption | trivial) (by kernel_rfl) (by decide +kernel) (by decide +kernel) (Or.inr ⟨by rfl, rfl⟩) ?_)
      | (refine SeqS.take1 (v := ?_) (by first | assumption | trivial) (by kernel_rfl) (by decide +kernel) (by decide +kernel) (Or.inl ⟨by rfl, ?_⟩) ?_
         rotate_left
         focus
           intro w' hb'
           go_simp
           with_reducible rfl)
      | (refine SeqS.take1 (v := ?_) (by first | assumption | trivial) (by kernel_rfl) (by decide +kernel) (by decide +kernel) (Or.inl ⟨by rfl, ?_⟩) ?_
         rotate_left
         focus
           intro w' hb'
           have d0 := R0.out w' hb'
           go_simp
           with_reducible rfl)
      | (refine SeqS.take1 (v := ?_) (by first | assumption | trivial) (by kernel_rfl) (by decide +kernel) (by decide +kernel) (Or.inl ⟨by rfl, ?_⟩) ?_
         rotate_left
         focus
           intro w' hb'
           have d0 := R1.out w' hb'
           go_simp
           with_reducible rfl)
      | (refine SeqS.take1 (v := undef) (by first | assumption | trivial) (by kernel_rfl) (by decide +kernel) (by decide +kernel) (Or.inr ⟨by rfl, rfl⟩) ?_)
      | (refine SeqS.take2 (v := ?_) (by first | assumption | trivial) (by kernel_rfl) (by decide +kernel) (by decide +kernel) (Or.inl ⟨by rfl, ?_⟩) ?_
         rotate_left
         focus
           intro w' hb'
           go_simp
           with_reducible rfl)
      | (refine SeqS.take2 (v := ?_) (by first | assumption | trivial) (by kernel_rfl) (by decide +kernel) (by decide +kernel) (Or.inl ⟨by rfl, ?_⟩) ?_
         rotate_left
         focus
           intro w' hb'
           have d0 := R0.out w' hb'
           go_simp
           with_reducible rfl)
      | (refine SeqS.take2 (v := ?_) (by first | assumption | trivial) (by kernel_rfl) (by decide +kernel) (by decide +kernel) (Or.inl ⟨by rfl, ?_⟩) ?_
         rotate_left
         focus
           intro w' hb'
           have d0 := R1.out w' hb'
           go_simp
           with_reducible rfl)
      | (refine SeqS.take2 (v := undef) (by first | assumption | trivial) (by kernel_rfl) (by decide +kernel) (by decide +kernel) (Or.inr ⟨by rfl, rfl⟩) ?_)); simp only [Act.put, List.setIfInBounds_toArray, List.set_cons_zero, List.set_cons_succ])
    refine SeqS.alone (by decide +kernel) (by rfl) (fun K hK => ?_)
    go_simp
    go_at_call 56
    refine (CU.out _ S4).mono ?_
    rintro q w5 ⟨rfl, b5⟩
    go_simp
    have S5 : Below w.heap.size w w5 := chain S4 b5
    refine hK _ _ S5 ?_
    clear hK K b5 CU S4
    repeat ((first
      | (refine SeqS.take (v := ?_) (by first | assumption | trivial) (by kernel_rfl) (by decide +kernel) (by decide +kernel) (Or.inl ⟨by rfl, ?_⟩) ?_
         rotate_left
         focus
           intro w' hb'
           go_simp
           with_reducible rfl)
      | (refine SeqS.take (v := undef) (by first | assumption | trivial) (by kernel_rfl) (by decide +kernel) (by decide +kernel) (Or.inr ⟨by rfl, rfl⟩) ?_)
      | (refine SeqS.take1 (v := ?_) (by first | assumption | trivial) (by kernel_rfl) (by decide +kernel) (by decide +kernel) (Or.inl ⟨by rfl, ?_⟩) ?_
         rotate_left
         focus
           intro w' hb'
           go_simp
           with_reducible rfl)
      | (refine SeqS.take1 (v := undef) (by first | assumption | trivial) (by kernel_rfl) (by decide +kernel) (by decide +kernel) (Or.inr ⟨by rfl, rfl⟩) ?_)
      | (refine SeqS.take2 (v := ?_) (by first | assumption | trivial) (by kernel_rfl) (by decide +kernel) (by decide +kernel) (Or.inl ⟨by rfl, ?_⟩) ?_
         rotate_left
         focus
           intro w' hb'
           go_simp
           with_reducible rfl)
      | (refine SeqS.take2 (v := undef) (by first | assumption | trivial) (by kernel_rfl) (by decide +kernel) (by decide +kernel) (Or.inr ⟨by rfl, rfl⟩) ?_)); simp only [Act.put, List.setIfInBounds_toArray, List.set_cons_zero, List.set_cons_succ])
    refine SeqS.done (by decide +kernel) ?_
    by_cases hu : 0 < U
    · have hu' : (0 : Int) < (U : Int) := by omega
      have hR := hRH.out
      rw [if_neg hltH.out, if_pos hu] at hR
      have CY5 := CY.out w5.drew S5.drew
      rw [hR] at CY5
      dsimp only at CY5
      have r5 := rH.out w5.drew S5.drew
      have vw := vH.out w5.drew S5.drew
      clear CY hR hRH hltH R0 R1 kS vH rH hu
      go_wp2_with fail
      refine region_seqS (fun w' => RollAt w' ro g z) (by kernel_rfl) r5 ?_
      simp only [pairs, Nat.reduceAdd]
      repeat ((first
        | (refine SeqS.take (v := ?_) (by first | assumption | trivial) (by kernel_rfl) (by decide +kernel) (by decide +kernel) (Or.inl ⟨by rfl, ?_⟩) ?_
           rotate_left
           focus
             intro w' hb'
             go_simp
             with_reducible rfl)
        | (refine SeqS.take (v := ?_) (by first | assumption | trivial) (by kernel_rfl) (by decide +kernel) (by decide +kernel) (Or.inl ⟨by rfl, ?_⟩) ?_
           rotate_left
           focus
             intro w' hb'
             have d0 := RollAt.c0 hb'
             go_simp
             with_reducible rfl)
        | (refine SeqS.take (v := ?_) (by first | assumption | trivial) (by kernel_rfl) (by decide +kernel) (by decide +kernel) (Or.inl ⟨by rfl, ?_⟩) ?_
           rotate_left
           focus
             intro w' hb'
             have d0 := RollAt.c1 hb'
             go_simp
             with_reducible rfl)
        | (refine SeqS.take (v := undef) (by first | assumption | trivial) (by kernel_rfl) (by decide +kernel) (by decide +kernel) (Or.inr ⟨by rfl, rfl⟩) ?_)
        | (refine SeqS.take1 (v := ?_) (by first | assumption | trivial) (by kernel_rfl) (by decide +kernel) (by decide +kernel) (Or.inl ⟨by rfl, ?_⟩) ?_
           rotate_left
           focus
             intro w' hb'
             go_simp
             with_reducible rfl)
        | (refine SeqS.take1 (v := ?_) (by first | assumption | trivial) (by kernel_rfl) (by decide +kernel) (by decide +kernel) (Or.inl ⟨by rfl, ?_⟩) ?_
           rotate_left
           focus
             intro w' hb'
             have d0 := RollAt.c0 hb'
             go_simp
             with_reducible rfl)
        | (refine SeqS.take1 (v := ?_) (by first | assumption | trivial) (by kernel_rfl) (by decide +kernel) (by decide +kernel) (Or.inl ⟨by rfl, ?_⟩) ?_
           rotate_left
           focus
             intro w' hb'
             have d0 := RollAt.c1 hb'
             go_simp
             with_reducible rfl)
        | (refine SeqS.take1 (v := undef) (by first | assumption | trivial) (by kernel_rfl) (by decide +kernel) (by decide +kernel) (Or.inr ⟨by rfl, rfl⟩) ?_)
        | (refine SeqS.take2 (v := ?_) (by first | assumption | trivial) (by kernel_rfl) (by decide +kernel) (by decide +kernel) (Or.inl ⟨by rfl, ?_⟩) ?_
           rotate_left
           focus
             intro w' hb'
             go_simp
             with_reducible rfl)
        | (refine SeqS.take2 (v := ?_) (by first | assumption | trivial) (by kernel_rfl) (by decide +kernel) (by decide +kernel) (Or.inl ⟨by rfl, ?_⟩) ?_
           rotate_left
           focus
             intro w' hb'
             have d0 := RollAt.c0 hb'
             go_simp
             with_reducible rfl)
        | (refine SeqS.take2 (v := ?_) (by first | assumption | trivial) (by kernel_rfl) (by decide +kernel) (by decide +kernel) (Or.inl ⟨by rfl, ?_⟩) ?_
           rotate_left
           focus
             intro w' hb'
             have d0 := RollAt.c1 hb'
             go_simp
             with_reducible rfl)
        | (refine SeqS.take2 (v := undef) (by first | assumption | trivial) (by kernel_rfl) (by decide +kernel) (by decide +kernel) (Or.inr ⟨by rfl, rfl⟩) ?_)); simp only [Act.put, List.setIfInBounds_toArray, List.set_cons_zero, List.set_cons_succ])
      refine SeqS.alone (by decide +kernel) (by rfl) (fun K hK => ?_)
      go_simp
      go_at_call 36
      refine CY5.mono ?_
      rintro q w6 ⟨rfl, L2, P2, k2, v2⟩
      have r6 := v2.roll r5 h0H.out
      go_simp
      refine hK _ _ r6 ?_
      clear hK K CY5 r5
      repeat ((first
        | (refine SeqS.take (v := ?_) (by first | assumption | trivial) (by kernel_rfl) (by decide +kernel) (by decide +kernel) (Or.inl ⟨by rfl, ?_⟩) ?_
           rotate_left
           focus
             intro w' hb'
             go_simp
             with_reducible rfl)
        | (refine SeqS.take (v := undef) (by first | assumption | trivial) (by kernel_rfl) (by decide +kernel) (by decide +kernel) (Or.inr ⟨by rfl, rfl⟩) ?_)
        | (refine SeqS.take1 (v := ?_) (by first | assumption | trivial) (by kernel_rfl) (by decide +kernel) (by decide +kernel) (Or.inl ⟨by rfl, ?_⟩) ?_
           rotate_left
           focus
             intro w' hb'
             go_simp
             with_reducible rfl)
        | (refine SeqS.take1 (v := undef) (by first | assumption | trivial) (by kernel_rfl) (by decide +kernel) (by decide +kernel) (Or.inr ⟨by rfl, rfl⟩) ?_)
        | (refine SeqS.take2 (v := ?_) (by first | assumption | trivial) (by kernel_rfl) (by decide +kernel) (by decide +kernel) (Or.inl ⟨by rfl, ?_⟩) ?_
           rotate_left
           focus
             intro w' hb'
             go_simp
             with_reducible rfl)
        | (refine SeqS.take2 (v := undef) (by first | assumption | trivial) (by kernel_rfl) (by decide +kernel) (by decide +kernel) (Or.inr ⟨by rfl, rfl⟩) ?_)); simp only [Act.put, List.setIfInBounds_toArray, List.set_cons_zero, List.set_cons_succ])
      refine SeqS.done (by decide +kernel) ?_
      go_wp2
      go_ret
      exact ⟨rfl, L2, P2, k2, vw.trans v2⟩
    · have hu' : ¬ (0 : Int) < (U : Int) := by omega
      have hR := hRH.out
      rw [if_neg hltH.out, if_neg hu] at hR
      injection hR with hR1 hR2
      subst hR1; subst hR2
      have k5 := kS.out w5 S5
      clear CY R0 R1 kS vH rH hu hRH
      go_wp2
      go_ret
      exact ⟨rfl, k5⟩

set_option maxRecDepth 100000 in
set_option maxHeartbeats 800000 in
theorem yClear_any {L : Nat → Nat} {P : Nat → Prop} {w : World} {ro g : Nat} {D : DkV} {T : Nat} {z : Int} (hr : RollAt w ro g z) (h0 : L ro = 0) (h : DkIs L P w g D) (hO : D.Ok T) (hT : T < 4398046511103) :
    Calls Tryz.prog 11 #[.pointer (some ⟨ro, 0, none⟩)] w fun q w' => q = .returned (.int .i64 (keD D z 0).2) ∧ DkTo L P w g w' (keD D z 0).1 := by
  have hu := yUnmade_any hr
  have hK := yKeep_any (n := 0) hr h0 h hO hT
  clear hr h0 h hO hT
  go_enter Tryz.func11, Tryz.ntmps11
  go_wp2_with fail
  refine hu.mono ?_
  rintro q w1 ⟨rfl, rfl⟩
  clear hu
  go_wp2_with fail
  refine hK.mono ?_
  rintro q w2 ⟨rfl, t2⟩
  clear hK
  go_wp2
  go_ret
  exact ⟨rfl, t2⟩

set_option maxRecDepth 100000 in
set_option maxHeartbeats 4000000 in
theorem yAppend_any {L : Nat → Nat} {P : Nat → Prop} {w : World} {ro g : Nat} {D : DkV} {T : Nat} {z : Int} {a : Option Addr} {n c : Nat} {bs : List Int} (hr : RollAt w ro g z) (h0 : L ro = 0) (h : DkIs L P w g D) (hO : D.Ok T) (hT : T < 4398046511103) (hG : Glob11 w) (hI : Ints .u8 w a n c bs) (hb : ∀ x ∈ bs, isByte x) (hn : n ≤ 140737488355328) :
    Calls Tryz.prog 9 #[.pointer (some ⟨ro, 0, none⟩), .slice a n c] w fun q w' => q = .returned (.int .i64 (prD D z bs).2) ∧ DkTo L P w g w' (prD D z bs).1 := by
  have hu := yUnmade_any hr
  have hE := fEncode_any a n c bs w hG hI hb hn
  unfold prD
  have hs := Lib.hid (fun w' (q : Below w.heap.size w w') => DkTo.stay h q)
  by_cases hno : bs.length < 1 ∨ 65536 < bs.length
  · rw [if_pos hno]
    have he : encF bs = ([], 1) := by unfold encF; rw [if_pos hno]
    rw [he] at hE
    dsimp only at hE ⊢
    clear he hno hr h0 h hO hT hG hI hb hn
    go_enter Tryz.func9, Tryz.ntmps9
    go_wp2_with fail
    refine hu.mono ?_
    rintro q w1 ⟨rfl, rfl⟩
    clear hu
    go_wp2_with fail
    refine hE.mono ?_
    rintro q w2 ⟨b2, d2, rfl, _, b2'⟩
    have t2 := hs.out _ b2'
    clear hE b2'
    go_wp2
    go_ret
    exact ⟨rfl, t2⟩
  rw [if_neg hno]
  have he : encF bs = (frB bs, 0) := by unfold encF; rw [if_neg hno]
  rw [he] at hE
  have hok := apD_ok hO z (frB bs)
  obtain ⟨M, hM⟩ : ∃ M, frB bs = M := ⟨_, rfl⟩
  rw [hM] at hE hok ⊢
  obtain ⟨N, hN⟩ : ∃ N, M.length = N := ⟨_, rfl⟩
  dsimp only at hE
  rw [hN] at hE
  have cA := Lib.hid (fun w' (q : Below w.heap.size w w') (a : Option Addr) (c : Nat) (I : Ints .u8 w' a N c M) => dAppend_any (file := z) (h.keep q) hO (by omega) I)
  obtain ⟨D1, e1, he1⟩ : ∃ D1 e1, apD D z M = (D1, e1) := ⟨_, _, rfl⟩
  rw [he1] at cA hok ⊢
  dsimp only at cA hok ⊢
  have cS := Lib.hid (fun (L1 : Nat → Nat) (P1 : Nat → Prop) (w1 : World) (k : DkIs L1 P1 w1 g D1) => dSync_any (file := z) k hok (by omega))
  have rH := Lib.hid (fun w' (q : Below w.heap.size w w') => hr.keep q)
  have vH := Lib.hid (fun w' (q : Below w.heap.size w w') => (Went.of_below q : Went L P w L P w'))
  have h0H := Lib.hid h0
  clear he hno hr h0 h hO hT hG hI hb hn hM hN hok he1
  by_cases h1 : e1 = 0
  · subst h1
    rw [if_pos rfl]
    obtain ⟨D2, e2, he2⟩ : ∃ D2 e2, syD D1 z = (D2, e2) := ⟨_, _, rfl⟩
    rw [he2] at cS ⊢
    dsimp only at cS ⊢
    clear he2
    go_enter Tryz.func9, Tryz.ntmps9
    go_wp2_with fail
    refine hu.mono ?_
    rintro q w1 ⟨rfl, rfl⟩
    clear hu
    go_wp2_with fail
    refine hE.mono ?_
    rintro q w2 ⟨b2, d2, rfl, o2, q2⟩
    have I2 := own_ints' o2
    have q3 : Below w.heap.size w w2.drew := q2.drew
    have cA2 := cA.out w2.drew q3 b2 d2 I2
    have r2 := rH.out w2.drew q3
    have v0 := vH.out w2.drew q3
    clear hE cA o2 I2 q2 q3
    go_wp2_with fail
    refine region_seqS (fun w' => RollAt w' ro g z) (by kernel_rfl) r2 ?_
    simp only [pairs, Nat.reduceAdd]
    repeat ((first
      | (refine SeqS.take (v := ?_) (by first | assumption | trivial) (by kernel_rfl) (by decide +kernel) (by decide +kernel) (Or.inl ⟨by rfl, ?_⟩) ?_
         rotate_left
         focus
           intro w' hb'
           go_simp
           with_reducible rfl)
      | (refine SeqS.take (v := ?_) (by first | assumption | trivial) (by kernel_rfl) (by decide +kernel) (by decide +kernel) (Or.inl ⟨by rfl, ?_⟩) ?_
         rotate_left
         focus
           intro w' hb'
           have d0 := RollAt.c0 hb'
           go_simp
           with_reducible rfl)
      | (refine SeqS.take (v := ?_) (by first | assumption | trivial) (by kernel_rfl) (by decide +kernel) (by decide +kernel) (Or.inl ⟨by rfl, ?_⟩) ?_
         rotate_left
         focus
           intro w' hb'
           have d0 := RollAt.c1 hb'
           go_simp
           with_reducible rfl)
      | (refine SeqS.take (v := undef) (by first | assumption | trivial) (by kernel_rfl) (by decide +kernel) (by decide +kernel) (Or.inr ⟨by rfl, rfl⟩) ?_)
      | (refine SeqS.take1 (v := ?_) (by first | assumption | trivial) (by kernel_rfl) (by decide +kernel) (by decide +kernel) (Or.inl ⟨by rfl, ?_⟩) ?_
         rotate_left
         focus
           intro w' hb'
           go_simp
           with_reducible rfl)
      | (refine SeqS.take1 (v := ?_) (by first | assumption | trivial) (by kernel_rfl) (by decide +kernel) (by decide +kernel) (Or.inl ⟨by rfl, ?_⟩) ?_
         rotate_left
         focus
           intro w' hb'
           have d0 := RollAt.c0 hb'
           go_simp
           with_reducible rfl)
      | (refine SeqS.take1 (v := ?_) (by first | assumption | trivial) (by kernel_rfl) (by decide +kernel) (by decide +kernel) (Or.inl ⟨by rfl, ?_⟩) ?_
         rotate_left
         focus
           intro w' hb'
           have d0 := RollAt.c1 hb'
           go_simp
           with_reducible rfl)
      | (refine SeqS.take1 (v := undef) (by first | assumption | trivial) (by kernel_rfl) (by decide +kernel) (by decide +kernel) (Or.inr ⟨by rfl, rfl⟩) ?_)
      | (refine SeqS.take2 (v := ?_) (by first | assumption | trivial) (by kernel_rfl) (by decide +kernel) (by decide +kernel) (Or.inl ⟨by rfl, ?_⟩) ?_
         rotate_left
         focus
           intro w' hb'
           go_simp
           with_reducible rfl)
      | (refine SeqS.take2 (v := ?_) (by first | assumption | trivial) (by kernel_rfl) (by decide +kernel) (by decide +kernel) (Or.inl ⟨by rfl, ?_⟩) ?_
         rotate_left
         focus
           intro w' hb'
           have d0 := RollAt.c0 hb'
           go_simp
           with_reducible rfl)
      | (refine SeqS.take2 (v := ?_) (by first | assumption | trivial) (by kernel_rfl) (by decide +kernel) (by decide +kernel) (Or.inl ⟨by rfl, ?_⟩) ?_
         rotate_left
         focus
           intro w' hb'
           have d0 := RollAt.c1 hb'
           go_simp
           with_reducible rfl)
      | (refine SeqS.take2 (v := undef) (by first | assumption | trivial) (by kernel_rfl) (by decide +kernel) (by decide +kernel) (Or.inr ⟨by rfl, rfl⟩) ?_)); simp only [Act.put, List.setIfInBounds_toArray, List.set_cons_zero, List.set_cons_succ])
    refine SeqS.alone (by decide +kernel) (by rfl) (fun K hK => ?_)
    go_simp
    go_at_call 13
    refine cA2.mono ?_
    rintro q w3 ⟨rfl, L1, P1, k1, v1⟩
    have r3 := v1.roll r2 h0H.out
    have l3 := v1.lab r2 h0H.out
    go_simp
    refine hK _ _ r3 ?_
    clear hK K cA2 r2
    repeat ((first
      | (refine SeqS.take (v := ?_) (by first | assumption | trivial) (by kernel_rfl) (by decide +kernel) (by decide +kernel) (Or.inl ⟨by rfl, ?_⟩) ?_
         rotate_left
         focus
           intro w' hb'
           go_simp
           with_reducible rfl)
      | (refine SeqS.take (v := undef) (by first | assumption | trivial) (by kernel_rfl) (by decide +kernel) (by decide +kernel) (Or.inr ⟨by rfl, rfl⟩) ?_)
      | (refine SeqS.take1 (v := ?_) (by first | assumption | trivial) (by kernel_rfl) (by decide +kernel) (by decide +kernel) (Or.inl ⟨by rfl, ?_⟩) ?_
         rotate_left
         focus
           intro w' hb'
           go_simp
           with_reducible rfl)
      | (refine SeqS.take1 (v := undef) (by first | assumption | trivial) (by kernel_rfl) (by decide +kernel) (by decide +kernel) (Or.inr ⟨by rfl, rfl⟩) ?_)
      | (refine SeqS.take2 (v := ?_) (by first | assumption | trivial) (by kernel_rfl) (by decide +kernel) (by decide +kernel) (Or.inl ⟨by rfl, ?_⟩) ?_
         rotate_left
         focus
           intro w' hb'
           go_simp
           with_reducible rfl)
      | (refine SeqS.take2 (v := undef) (by first | assumption | trivial) (by kernel_rfl) (by decide +kernel) (by decide +kernel) (Or.inr ⟨by rfl, rfl⟩) ?_)); simp only [Act.put, List.setIfInBounds_toArray, List.set_cons_zero, List.set_cons_succ])
    refine SeqS.done (by decide +kernel) ?_
    have b5 : Below w3.heap.size w3 w3.drew := (Below.refl _ _).drew
    have r4 : RollAt w3.drew ro g z := r3.keep b5
    have cS3 := cS.out L1 P1 w3.drew (k1.keep b5)
    clear b5 cS
    go_wp2_with fail
    refine region_seqS (fun w' => RollAt w' ro g z) (by kernel_rfl) r4 ?_
    simp only [pairs, Nat.reduceAdd]
    repeat ((first
      | (refine SeqS.take (v := ?_) (by first | assumption | trivial) (by kernel_rfl) (by decide +kernel) (by decide +kernel) (Or.inl ⟨by rfl, ?_⟩) ?_
         rotate_left
         focus
           intro w' hb'
           go_simp
           with_reducible rfl)
      | (refine SeqS.take (v := ?_) (by first | assumption | trivial) (by kernel_rfl) (by decide +kernel) (by decide +kernel) (Or.inl ⟨by rfl, ?_⟩) ?_
         rotate_left
         focus
           intro w' hb'
           have d0 := RollAt.c0 hb'
           go_simp
           with_reducible rfl)
      | (refine SeqS.take (v := ?_) (by first | assumption | trivial) (by kernel_rfl) (by decide +kernel) (by decide +kernel) (Or.inl ⟨by rfl, ?_⟩) ?_
         rotate_left
         focus
           intro w' hb'
           have d0 := RollAt.c1 hb'
           go_simp
           with_reducible rfl)
      | (refine SeqS.take (v := undef) (by first | assumption | trivial) (by kernel_rfl) (by decide +kernel) (by decide +kernel) (Or.inr ⟨by rfl, rfl⟩) ?_)
      | (refine SeqS.take1 (v := ?_) (by first | assumption | trivial) (by kernel_rfl) (by decide +kernel) (by decide +kernel) (Or.inl ⟨by rfl, ?_⟩) ?_
         rotate_left
         focus
           intro w' hb'
           go_simp
           with_reducible rfl)
      | (refine SeqS.take1 (v := ?_) (by first | assumption | trivial) (by kernel_rfl) (by decide +kernel) (by decide +kernel) (Or.inl ⟨by rfl, ?_⟩) ?_
         rotate_left
         focus
           intro w' hb'
           have d0 := RollAt.c0 hb'
           go_simp
           with_reducible rfl)
      | (refine SeqS.take1 (v := ?_) (by first | assumption | trivial) (by kernel_rfl) (by decide +kernel) (by decide +kernel) (Or.inl ⟨by rfl, ?_⟩) ?_
         rotate_left
         focus
           intro w' hb'
           have d0 := RollAt.c1 hb'
           go_simp
           with_reducible rfl)
      | (refine SeqS.take1 (v := undef) (by first | assumption | trivial) (by kernel_rfl) (by decide +kernel) (by decide +kernel) (Or.inr ⟨by rfl, rfl⟩) ?_)
      | (refine SeqS.take2 (v := ?_) (by first | assumption | trivial) (by kernel_rfl) (by decide +kernel) (by decide +kernel) (Or.inl ⟨by rfl, ?_⟩) ?_
         rotate_left
         focus
           intro w' hb'
           go_simp
           with_reducible rfl)
      | (refine SeqS.take2 (v := ?_) (by first | assumption | trivial) (by kernel_rfl) (by decide +kernel) (by decide +kernel) (Or.inl ⟨by rfl, ?_⟩) ?_
         rotate_left
         focus
           intro w' hb'
           have d0 := RollAt.c0 hb'
           go_simp
           with_reducible rfl)
      | (refine SeqS.take2 (v := ?_) (by first | assumption | trivial) (by kernel_rfl) (by decide +kernel) (by decide +kernel) (Or.inl ⟨by rfl, ?_⟩) ?_
         rotate_left
         focus
           intro w' hb'
           have d0 := RollAt.c1 hb'
           go_simp
           with_reducible rfl)
      | (refine SeqS.take2 (v := undef) (by first | assumption | trivial) (by kernel_rfl) (by decide +kernel) (by decide +kernel) (Or.inr ⟨by rfl, rfl⟩) ?_)); simp only [Act.put, List.setIfInBounds_toArray, List.set_cons_zero, List.set_cons_succ])
    refine SeqS.alone (by decide +kernel) (by rfl) (fun K hK => ?_)
    go_simp
    go_at_call 36
    refine cS3.mono ?_
    rintro q w5 ⟨rfl, t5⟩
    obtain ⟨L2, P2, k2, v2⟩ := t5.drewn
    have r5 := v2.roll r3 l3
    go_simp
    refine hK _ _ r5 ?_
    clear hK K cS3 r4 t5
    repeat ((first
      | (refine SeqS.take (v := ?_) (by first | assumption | trivial) (by kernel_rfl) (by decide +kernel) (by decide +kernel) (Or.inl ⟨by rfl, ?_⟩) ?_
         rotate_left
         focus
           intro w' hb'
           go_simp
           with_reducible rfl)
      | (refine SeqS.take (v := undef) (by first | assumption | trivial) (by kernel_rfl) (by decide +kernel) (by decide +kernel) (Or.inr ⟨by rfl, rfl⟩) ?_)
      | (refine SeqS.take1 (v := ?_) (by first | assumption | trivial) (by kernel_rfl) (by decide +kernel) (by decide +kernel) (Or.inl ⟨by rfl, ?_⟩) ?_
         rotate_left
         focus
           intro w' hb'
           go_simp
           with_reducible rfl)
      | (refine SeqS.take1 (v := undef) (by first | assumption | trivial) (by kernel_rfl) (by decide +kernel) (by decide +kernel) (Or.inr ⟨by rfl, rfl⟩) ?_)
      | (refine SeqS.take2 (v := ?_) (by first | assumption | trivial) (by kernel_rfl) (by decide +kernel) (by decide +kernel) (Or.inl ⟨by rfl, ?_⟩) ?_
         rotate_left
         focus
           intro w' hb'
           go_simp
           with_reducible rfl)
      | (refine SeqS.take2 (v := undef) (by first | assumption | trivial) (by kernel_rfl) (by decide +kernel) (by decide +kernel) (Or.inr ⟨by rfl, rfl⟩) ?_)); simp only [Act.put, List.setIfInBounds_toArray, List.set_cons_zero, List.set_cons_succ])
    refine SeqS.done (by decide +kernel) ?_
    go_wp2
    go_ret
    exact ⟨rfl, L2, P2, k2, (v0.trans v1).trans v2⟩
  · rw [if_neg h1]
    dsimp only
    clear cS
    go_enter Tryz.func9, Tryz.ntmps9
    go_wp2_with fail
    refine hu.mono ?_
    rintro q w1 ⟨rfl, rfl⟩
    clear hu
    go_wp2_with fail
    refine hE.mono ?_
    rintro q w2 ⟨b2, d2, rfl, o2, q2⟩
    have I2 := own_ints' o2
    have q3 : Below w.heap.size w w2.drew := q2.drew
    have cA2 := cA.out w2.drew q3 b2 d2 I2
    have r2 := rH.out w2.drew q3
    have v0 := vH.out w2.drew q3
    clear hE cA o2 I2 q2 q3
    go_wp2_with fail
    refine region_seqS (fun w' => RollAt w' ro g z) (by kernel_rfl) r2 ?_
    simp only [pairs, Nat.reduceAdd]
    repeat ((first
      | (refine SeqS.take (v := ?_) (by first | assumption | trivial) (by kernel_rfl) (by decide +kernel) (by decide +kernel) (Or.inl ⟨by rfl, ?_⟩) ?_
         rotate_left
         focus
           intro w' hb'
           go_simp
           with_reducible rfl)
      | (refine SeqS.take (v := ?_) (by first | assumption | trivial) (by kernel_rfl) (by decide +kernel) (by decide +kernel) (Or.inl ⟨by rfl, ?_⟩) ?_
         rotate_left
         focus
           intro w' hb'
           have d0 := RollAt.c0 hb'
           go_simp
           with_reducible rfl)
      | (refine SeqS.take (v := ?_) (by first | assumption | trivial) (by kernel_rfl) (by decide +kernel) (by decide +kernel) (Or.inl ⟨by rfl, ?_⟩) ?_
         rotate_left
         focus
           intro w' hb'
           have d0 := RollAt.c1 hb'
           go_simp
           with_reducible rfl)
      | (refine SeqS.take (v := undef) (by first | assumption | trivial) (by kernel_rfl) (by decide +kernel) (by decide +kernel) (Or.inr ⟨by rfl, rfl⟩) ?_)
      | (refine SeqS.take1 (v := ?_) (by first | assumption | trivial) (by kernel_rfl) (by decide +kernel) (by decide +kernel) (Or.inl ⟨by rfl, ?_⟩) ?_
         rotate_left
         focus
           intro w' hb'
           go_simp
           with_reducible rfl)
      | (refine SeqS.take1 (v := ?_) (by first | assumption | trivial) (by kernel_rfl) (by decide +kernel) (by decide +kernel) (Or.inl ⟨by rfl, ?_⟩) ?_
         rotate_left
         focus
           intro w' hb'
           have d0 := RollAt.c0 hb'
           go_simp
           with_reducible rfl)
      | (refine SeqS.take1 (v := ?_) (by first | assumption | trivial) (by kernel_rfl) (by decide +kernel) (by decide +kernel) (Or.inl ⟨by rfl, ?_⟩) ?_
         rotate_left
         focus
           intro w' hb'
           have d0 := RollAt.c1 hb'
           go_simp
           with_reducible rfl)
      | (refine SeqS.take1 (v := undef) (by first | assumption | trivial) (by kernel_rfl) (by decide +kernel) (by decide +kernel) (Or.inr ⟨by rfl, rfl⟩) ?_)
      | (refine SeqS.take2 (v := ?_) (by first | assumption | trivial) (by kernel_rfl) (by decide +kernel) (by decide +kernel) (Or.inl ⟨by rfl, ?_⟩) ?_
         rotate_left
         focus
           intro w' hb'
           go_simp
           with_reducible rfl)
      | (refine SeqS.take2 (v := ?_) (by first | assumption | trivial) (by kernel_rfl) (by decide +kernel) (by decide +kernel) (Or.inl ⟨by rfl, ?_⟩) ?_
         rotate_left
         focus
           intro w' hb'
           have d0 := RollAt.c0 hb'
           go_simp
           with_reducible rfl)
      | (refine SeqS.take2 (v := ?_) (by first | assumption | trivial) (by kernel_rfl) (by decide +kernel) (by decide +kernel) (Or.inl ⟨by rfl, ?_⟩) ?_
         rotate_left
         focus
           intro w' hb'
           have d0 := RollAt.c1 hb'
           go_simp
           with_reducible rfl)
      | (refine SeqS.take2 (v := undef) (by first | assumption | trivial) (by kernel_rfl) (by decide +kernel) (by decide +kernel) (Or.inr ⟨by rfl, rfl⟩) ?_)); simp only [Act.put, List.setIfInBounds_toArray, List.set_cons_zero, List.set_cons_succ])
    refine SeqS.alone (by decide +kernel) (by rfl) (fun K hK => ?_)
    go_simp
    go_at_call 13
    refine cA2.mono ?_
    rintro q w3 ⟨rfl, L1, P1, k1, v1⟩
    have r3 := v1.roll r2 h0H.out
    go_simp
    refine hK _ _ r3 ?_
    clear hK K cA2 r2
    repeat ((first
      | (refine SeqS.take (v := ?_) (by first | assumption | trivial) (by kernel_rfl) (by decide +kernel) (by decide +kernel) (Or.inl ⟨by rfl, ?_⟩) ?_
         rotate_left
         focus
           intro w' hb'
           go_simp
           with_reducible rfl)
      | (refine SeqS.take (v := undef) (by first | assumption | trivial) (by kernel_rfl) (by decide +kernel) (by decide +kernel) (Or.inr ⟨by rfl, rfl⟩) ?_)
      | (refine SeqS.take1 (v := ?_) (by first | assumption | trivial) (by kernel_rfl) (by decide +kernel) (by decide +kernel) (Or.inl ⟨by rfl, ?_⟩) ?_
         rotate_left
         focus
           intro w' hb'
           go_simp
           with_reducible rfl)
      | (refine SeqS.take1 (v := undef) (by first | assumption | trivial) (by kernel_rfl) (by decide +kernel) (by decide +kernel) (Or.inr ⟨by rfl, rfl⟩) ?_)
      | (refine SeqS.take2 (v := ?_) (by first | assumption | trivial) (by kernel_rfl) (by decide +kernel) (by decide +kernel) (Or.inl ⟨by rfl, ?_⟩) ?_
         rotate_left
         focus
           intro w' hb'
           go_simp
           with_reducible rfl)
      | (refine SeqS.take2 (v := undef) (by first | assumption | trivial) (by kernel_rfl) (by decide +kernel) (by decide +kernel) (Or.inr ⟨by rfl, rfl⟩) ?_)); simp only [Act.put, List.setIfInBounds_toArray, List.set_cons_zero, List.set_cons_succ])
    refine SeqS.done (by decide +kernel) ?_
    go_wp2
    go_ret
    exact ⟨rfl, L1, P1, k1, v0.trans v1⟩
end Go.Proofs.YtnblknhdchpboaaGreatDoor

/-
  What Open of a roll comes to; rolls that no call made. The disk's own blocks are written, and new memory. Conditions: of a roll that is opened: a disk that New made; fewer than 2^42 steps; the files hold bytes.
-/
namespace Go.Proofs.YtnblknhdchpboaaGreatDoor
open Go.RowKit

theorem built_ro (g : Nat) (z : Int) : Tryz.prog.built 69 [(0, .pointer (some ⟨g, 0, none⟩)), (1, .int .i64 z), (2, .bool true)] = some (roC g z).toArray := by kernel_rfl

set_option maxRecDepth 100000 in
set_option maxHeartbeats 4000000 in
theorem yOpen_any {L : Nat → Nat} {P : Nat → Prop} {w : World} {g : Nat} {D : DkV} {T : Nat} {z : Int} (h : DkIs L P w g D) (hO : D.Ok T) (hT : T < 4398046511103) (hD : D.By) (hz : 0 ≤ z ∧ z < 3) (hG : Glob11 w) (hd : D.down = false) :
    Calls Tryz.prog 7 #[.pointer (some ⟨g, 0, none⟩), .int .i64 z] w fun q w' => ∃ p, q = .returned (.tuple #[.pointer p, .int .i64 (mdD D z).2]) ∧ ∃ L' P', DkIs L' P' w' g (mdD D z).1 ∧ Went L P w L' P' w' ∧
      ((mdD D z).2 ≠ 0 → p = none) ∧ ((mdD D z).2 = 0 → ∃ ro, p = some ⟨ro, 0, none⟩ ∧ RollAt w' ro g z ∧ w.heap.size ≤ ro ∧ L' ro = 0 ∧ ¬ P' ro) := by
  have hr0 := hO.room
  obtain ⟨c0, _, c2⟩ := h.cells
  rw [hd] at c2
  have hC0 := dRoom_any c0 (by omega)
  have hC1 := dDown_any c0 (by omega) c2
  have hb1 := below1 w (.cells (roC g z).toArray 69)
  have hR1 : RollAt (w.alloc (.cells (roC g z).toArray 69)) w.heap.size g z := Blk.new w 69 (roC g z)
  obtain ⟨l1, l2⟩ := dk_lt h
  have hL0 : L w.heap.size = 0 := by
    by_cases h0 : L w.heap.size = 0
    · exact h0
    · exact absurd (l1 _ h0) (Nat.lt_irrefl _)
  have hs1 := size1 w (.cells (roC g z).toArray 69)
  have hP0 : ¬ P w.heap.size := fun hp => absurd (l2 _ hp) (Nat.lt_irrefl _)
  obtain ⟨V, hV⟩ : ∃ V, w.alloc (.cells (roC g z).toArray 69) = V := ⟨_, rfl⟩
  rw [hV] at hb1 hR1 hs1
  have hM := yMend_any hR1 hL0 (h.keep hb1) hO hT hD hz (hG.keep hb1 (Nat.le_refl _))
  have v1 : Went L P w L P V := Went.of_below hb1
  obtain ⟨RD, RE, hRR⟩ : ∃ RD RE, mdD D z = (RD, RE) := ⟨_, _, rfl⟩
  rw [hRR] at hM ⊢
  dsimp only at hM ⊢
  obtain ⟨R, hRo⟩ : ∃ R, w.heap.size = R := ⟨_, rfl⟩
  rw [hRo] at hM hR1 hL0 hP0 hs1
  have hRoH := Lib.hid hRo
  have hVH := Lib.hid hV
  have hz1 : ¬ z < 0 := by omega
  have hz2 : ¬ 3 ≤ z := by omega
  have hr1 : ¬ D.room = 0 := by omega
  obtain ⟨r, hrr⟩ : ∃ r, D.room = r := ⟨_, rfl⟩
  rw [hrr] at hr1 hC0
  have hbt := built_ro g z
  obtain ⟨C, hCC⟩ : ∃ C, roC g z = C := ⟨_, rfl⟩
  rw [hCC] at hbt hVH
  have hs1H := Lib.hid hs1
  have hroLe : w.heap.size ≤ R := by rw [hRo]; exact Nat.le_refl _
  have hroH := Lib.hid hroLe
  clear h hO hT hD hz hG hd c0 c2 hb1 l1 l2 hV hRR hRo hrr hCC hr0 hs1 hroLe
  go_enter Tryz.func7, Tryz.ntmps7
  go_wp2_with fail
  refine hC0.mono ?_
  rintro q w1 ⟨rfl, rfl⟩
  clear hC0
  go_wp2_with fail
  refine hC1.mono ?_
  rintro q w1 ⟨rfl, rfl⟩
  clear hC1
  go_wp2_with (first
    | ((with_reducible refine build_row rfl 69 #[(0, .tmp 19), (1, .tmp 20), (2, .const (.bool true))] rfl (cells := C.toArray) ?_ ?_); (refine Eq.trans (congrArg _ ?_) hbt; kernel_rfl))
    | ((with_reducible refine box_row rfl 69 (.tmp 21) rfl C rfl ?_); refine RowKit.Hid.out ?_))
  refine Lib.hid ?_
  rw [hVH.out, hRoH.out]
  clear hbt hVH hRoH
  by_cases hE : RE = 0
  · subst hE
    go_wp2_with fail
    refine hM.mono ?_
    rintro q w2 ⟨rfl, L2, P2, k2, v2⟩
    clear hM
    have r2 := v2.roll hR1 hL0
    have l2 := v2.lab hR1 hL0
    have p2 : ¬ P2 R := fun hp => by
      rcases v2.q R hp with h | h
      · exact hP0 h
      · have h1 := hR1.lt
        omega
    go_wp2
    go_ret2
    exact ⟨_, rfl, L2, P2, k2, v1.trans v2, R, rfl, r2, hroH.out, l2, p2⟩
  · go_wp2_with fail
    refine hM.mono ?_
    rintro q w2 ⟨rfl, L2, P2, k2, v2⟩
    clear hM
    go_wp2
    go_ret2
    exact ⟨_, rfl, L2, P2, k2, v1.trans v2, fun _ => rfl, fun h => absurd h hE⟩

/-! ### A roll that no call made -/
def DeadR (w : World) (p : Option Addr) : Prop := p = none ∨ ∃ r, p = some ⟨r, 0, none⟩ ∧ w.cell? ⟨r, 2, none⟩ = some (.bool false)

end Go.Proofs.YtnblknhdchpboaaGreatDoor

/-
  A landed disk of the call's own, with rolls beside it: what a law's calls leave. New memory is written, and the disk's own. Conditions: a disk that New made; fewer than 2^42 steps; the files hold bytes.
-/
namespace Go.Proofs.YtnblknhdchpboaaGreatDoor
open Go.RowKit

/-- The landed disk at g is D; its blocks are no lower than B; those of E are nobody's. -/
structure RyOwn (E : Nat → Prop) (B : Nat) (w0 w : World) (g : Nat) (D : DkV) : Prop where
  is : ∃ L P, DkIs L P w g D ∧ (∀ b, L b ≠ 0 → B ≤ b) ∧ ∀ b, E b → b < w.heap.size ∧ L b = 0 ∧ ¬ P b
  b : Below B w0 w
  s : B ≤ w.heap.size
def SameE (E : Nat → Prop) (w w' : World) : Prop := ∀ b, E b → w'.heap[b]? = w.heap[b]?
theorem RyOwn.of_own {B : Nat} {w0 w : World} {g : Nat} {D : DkV} (h : DkOwn B w0 w g D) : RyOwn (fun _ => False) B w0 w g D := by
  obtain ⟨L, P, h1, h2⟩ := h.is
  exact ⟨⟨L, P, h1, h2, fun _ h => h.elim⟩, h.b, h.s⟩
theorem RyOwn.keepE {E E' : Nat → Prop} {B : Nat} {w0 w w' : World} {g : Nat} {D : DkV} (h : RyOwn E B w0 w g D) (hb : Below w.heap.size w w') (hE : ∀ b, E' b → E b ∨ (w.heap.size ≤ b ∧ b < w'.heap.size)) : RyOwn E' B w0 w' g D := by
  obtain ⟨L, P, h1, h2, h3⟩ := h.is
  obtain ⟨l1, l2⟩ := dk_lt h1
  have hs := hb.size
  refine ⟨⟨L, P, h1.keep hb, h2, fun b he => ?_⟩, h.b.trans (hb.mono h.s), Nat.le_trans h.s hs⟩
  rcases hE b he with he | he
  · exact ⟨Nat.lt_of_lt_of_le (h3 b he).1 hs, (h3 b he).2⟩
  · refine ⟨he.2, ?_, fun hp => absurd (l2 b hp) (Nat.not_lt.2 he.1)⟩
    by_cases h0 : L b = 0
    · exact h0
    · exact absurd (l1 b h0) (Nat.not_lt.2 he.1)
theorem RyOwn.keep {E : Nat → Prop} {B : Nat} {w0 w w' : World} {g : Nat} {D : DkV} (h : RyOwn E B w0 w g D) (hb : Below w.heap.size w w') : RyOwn E B w0 w' g D := h.keepE hb (fun _ h => .inl h)
/-- Behind a call of the disk. -/
theorem ry_prog {E : Nat → Prop} {B : Nat} {w0 w w' : World} {g : Nat} {D' : DkV} {L L' : Nat → Nat} {P P' : Nat → Prop} (hb : Below B w0 w) (hs : B ≤ w.heap.size) (h2 : ∀ b, L b ≠ 0 → B ≤ b) (h3 : ∀ b, E b → b < w.heap.size ∧ L b = 0 ∧ ¬ P b) (hk : DkIs L' P' w' g D') (hv : Went L P w L' P' w') :
    RyOwn E B w0 w' g D' ∧ SameE E w w' :=
  ⟨⟨⟨L', P', hk, hv.low h2 hs, fun b he => ⟨Nat.lt_of_lt_of_le (h3 b he).1 hv.m.size, (hv.l b (h3 b he).1).trans (h3 b he).2.1, fun hp => (hv.q b hp).elim (h3 b he).2.2 (fun h => absurd (h3 b he).1 (Nat.not_lt.2 h))⟩⟩, below_new hv hb hs h2, Nat.le_trans hs hv.m.size⟩, fun b he => hv.at (h3 b he).1 (h3 b he).2.1⟩

section
variable {E : Nat → Prop} {B : Nat} {w0 w : World} {g : Nat} {D D' : DkV} {T : Nat} {e : Int}

theorem o_append {z : Int} {a : Option Addr} {n c : Nat} {bs : List Int} (h : RyOwn E B w0 w g D) (hO : D.Ok T) (hT : T < 4398046511103) (hI : Ints .u8 w a n c bs) (he : apD D z bs = (D', e)) :
    Calls Tryz.prog 13 #[.pointer (some ⟨g, 0, none⟩), .int .i64 z, .slice a n c] w fun q w' => q = .returned (.int .i64 e) ∧ RyOwn E B w0 w' g D' ∧ SameE E w w' := by
  obtain ⟨L, P, h1, h2, h3⟩ := h.is
  have hc := dAppend_any (file := z) h1 hO (by omega) hI
  rw [he] at hc
  exact hc.mono fun q w' ⟨eq, L', P', k1, k2⟩ => ⟨eq, ry_prog h.b h.s h2 h3 k1 k2⟩

theorem o_sync {z : Int} (h : RyOwn E B w0 w g D) (hO : D.Ok T) (hT : T < 4398046511103) (he : syD D z = (D', e)) :
    Calls Tryz.prog 36 #[.pointer (some ⟨g, 0, none⟩), .int .i64 z] w fun q w' => q = .returned (.int .i64 e) ∧ RyOwn E B w0 w' g D' ∧ SameE E w w' := by
  obtain ⟨L, P, h1, h2, h3⟩ := h.is
  have hc := dSync_any (file := z) h1 hO (by omega)
  rw [he] at hc
  exact hc.mono fun q w' ⟨eq, L', P', k1, k2⟩ => ⟨eq, ry_prog h.b h.s h2 h3 k1 k2⟩

theorem o_arm (n : Int) (h : RyOwn E B w0 w g D) (hO : D.Ok T) (he : armD D n = D') :
    Calls Tryz.prog 15 #[.pointer (some ⟨g, 0, none⟩), .int .i64 n] w fun q w' => q = .returned (.tuple #[]) ∧ RyOwn E B w0 w' g D' ∧ SameE E w w' := by
  obtain ⟨L, P, h1, h2, h3⟩ := h.is
  have hc := dArmD h1 hO n
  rw [he] at hc
  exact hc.mono fun q w' ⟨eq, L', P', k1, k2⟩ => ⟨eq, ry_prog h.b h.s h2 h3 k1 k2⟩

theorem o_crash {a : Option Addr} {n c : Nat} {us : List Int} (h : RyOwn E B w0 w g D) (hO : D.Ok T) (hT : T < 4398046511103) (hI : Ints .i64 w a n c us) (ho : ∀ x, a = some x → 0 < n → E x.block) (he : crD D us = D') :
    Calls Tryz.prog 17 #[.pointer (some ⟨g, 0, none⟩), .slice a n c] w fun q w' => q = .returned (.tuple #[]) ∧ RyOwn E B w0 w' g D' ∧ SameE E w w' := by
  obtain ⟨L, P, h1, h2, h3⟩ := h.is
  have hc := dCrash_any h1 hO (by omega) hI (fun x hx hn => (h3 _ (ho x hx hn)).2.1)
  rw [he] at hc
  exact hc.mono fun q w' ⟨eq, L', P', k1, k2⟩ => ⟨eq, ry_prog h.b h.s h2 h3 k1 k2⟩

theorem o_open {z : Int} (h : RyOwn E B w0 w g D) (hO : D.Ok T) (hT : T < 4398046511103) (hD : D.By) (hz : 0 ≤ z ∧ z < 3) (hG : Glob11 w0) (hB : w0.heap.size ≤ B) (hd : D.down = false) (he : mdD D z = (D', 0)) :
    Calls Tryz.prog 7 #[.pointer (some ⟨g, 0, none⟩), .int .i64 z] w fun q w' => ∃ ro, q = .returned (.tuple #[.pointer (some ⟨ro, 0, none⟩), .int .i64 0]) ∧ RollAt w' ro g z ∧ RyOwn (fun b => E b ∨ b = ro) B w0 w' g D' ∧ SameE E w w' := by
  obtain ⟨L, P, h1, h2, h3⟩ := h.is
  have hc := yOpen_any h1 hO hT hD hz (hG.keep h.b hB) hd
  rw [he] at hc
  refine hc.mono ?_
  rintro q w' ⟨p, eq, L', P', k1, k2, _, k4⟩
  obtain ⟨ro, rfl, hr, hl, m1, m2⟩ := k4 rfl
  obtain ⟨j1, j2⟩ := ry_prog h.b h.s h2 h3 k1 k2
  refine ⟨ro, eq, hr, ⟨⟨L', P', k1, k2.low h2 h.s, fun b hb => ?_⟩, j1.b, j1.s⟩, j2⟩
  rcases hb with hb | hb
  · exact ⟨Nat.lt_of_lt_of_le (h3 b hb).1 k2.m.size, (k2.l b (h3 b hb).1).trans (h3 b hb).2.1, fun hp => (k2.q b hp).elim (h3 b hb).2.2 (fun h => absurd (h3 b hb).1 (Nat.not_lt.2 h))⟩
  · subst hb; exact ⟨hr.lt, m1, m2⟩

theorem o_put {z : Int} {ro : Nat} {a : Option Addr} {n c : Nat} {bs : List Int} (h : RyOwn E B w0 w g D) (hr : RollAt w ro g z) (hro : E ro) (hO : D.Ok T) (hT : T < 4398046511103) (hG : Glob11 w0) (hB : w0.heap.size ≤ B) (hI : Ints .u8 w a n c bs) (hb : ∀ x ∈ bs, isByte x) (hn : n ≤ 140737488355328) (he : prD D z bs = (D', e)) :
    Calls Tryz.prog 9 #[.pointer (some ⟨ro, 0, none⟩), .slice a n c] w fun q w' => q = .returned (.int .i64 e) ∧ RyOwn E B w0 w' g D' ∧ SameE E w w' := by
  obtain ⟨L, P, h1, h2, h3⟩ := h.is
  have hc := yAppend_any hr (h3 ro hro).2.1 h1 hO hT (hG.keep h.b hB) hI hb hn
  rw [he] at hc
  exact hc.mono fun q w' ⟨eq, L', P', k1, k2⟩ => ⟨eq, ry_prog h.b h.s h2 h3 k1 k2⟩

theorem o_len {z : Int} {ro : Nat} (h : RyOwn E B w0 w g D) (hr : RollAt w ro g z) (hO : D.Ok T) (hD : D.By) (hz : 0 ≤ z ∧ z < 3) (hG : Glob11 w0) (hB : w0.heap.size ≤ B) {n : Nat} (hn : numF (heldR D z) = n) :
    Calls Tryz.prog 23 #[.pointer (some ⟨ro, 0, none⟩)] w fun q w' => q = .returned (.int .i64 (n : Int)) ∧ Below w.heap.size w w' := by
  obtain ⟨L, P, h1, h2, h3⟩ := h.is
  exact yLen_any hr h1 hO hD hz (hG.keep h.b hB) hn

end
theorem o_new {w : World} (r : Int) (h : 1 ≤ r ∧ r ≤ 65536) (z : Nat) :
    Calls Tryz.prog 4 #[.int .i64 r] w fun q w' => ∃ g, q = .returned (.tuple #[.pointer (some ⟨g, 0, none⟩), .int .i64 0]) ∧ RyOwn (fun _ => False) w.heap.size w w' g (kpD r 0 false z ⟨[], []⟩) :=
  (new_own r h).mono fun q w' ⟨g, e, k⟩ => ⟨g, e, by rw [← kp0]; exact RyOwn.of_own k⟩
theorem flv_ok {K : List Int} {T : Nat} (h : K.length ≤ 65536) : (⟨K, []⟩ : FlV).Ok T := ⟨trivial, Nat.zero_le _, Nat.zero_le _, h⟩
theorem flat_by {L : List (List Int)} (h : ∀ b ∈ L, ∀ x ∈ b, isByte x) : ∀ x ∈ flat L, isByte x := by
  intro x hx
  obtain ⟨m, hm, hx⟩ := List.mem_flatten.1 hx
  obtain ⟨b, hb, rfl⟩ := List.mem_map.1 hm
  exact frB_range (h b hb) x hx
theorem whole_by {L : List (List Int)} (h : ∀ b ∈ L, ∀ x ∈ b, isByte x) : (whole L).By := ⟨flat_by h, fun _ h => absurd h (List.not_mem_nil)⟩
end Go.Proofs.YtnblknhdchpboaaGreatDoor

/-
  The laws' own 'alive' (layer 20): the chapter's example. New memory alone is written. Conditions: none but that crc's table holds what it is laid with.
-/
namespace Go.Proofs.YtnblknhdchpboaaGreatDoor
open Go.RowKit

theorem ok_whole {r f : Int} {d : Bool} {z : Nat} {T : Nat} (hz : z < 3) (hr : 1 ≤ r ∧ r ≤ 65536) (hf : 0 ≤ f ∧ f < 9223372036854775808) (L : List (List Int)) (hn : ((flat L).length : Int) ≤ r) : (kpD r f d z (whole L)).Ok T :=
  kp_ok hz hr hf (flv_ok (by omega)) hn
theorem by_whole {r f : Int} {d : Bool} {z : Nat} {L : List (List Int)} (h : ∀ b ∈ L, ∀ x ∈ b, isByte x) : (kpD r f d z (whole L)).By := kp_by (whole_by h)
def aD (L : List (List Int)) : DkV := kpD 100 0 false 0 (whole L)
theorem bod0 : Bodied [] := fun _ h => absurd h (List.not_mem_nil)
theorem bod7 : Bodied [[7]] := fun b h => by rw [List.mem_singleton.1 h]; decide
theorem flat7 : (flat [[7]]).length = 9 := by
  show (frB [7] ++ []).length = 9
  rw [List.append_nil, frB_len]
  rfl
theorem a_open0 : mdD (aD []) 0 = (aD [], 0) := md_whole (z := 0) (by decide) [] bod0
theorem a_open7 : mdD (aD [[7]]) 0 = (aD [[7]], 0) := md_whole (z := 0) (by decide) [[7]] bod7
theorem a_put : prD (aD []) 0 [7] = (aD [[7]], 0) := by
  have h := pr_kp (r := 100) (f := 0) (z := 0) (by decide) [] [7] (by decide) (by decide) (by rw [frB_len]; decide) (by decide)
  rw [if_neg (by decide)] at h
  exact h
theorem a_crash : crD (aD [[7]]) [] = aD [[7]] := whole_cr (by decide) _ _
theorem a_len : numF (heldR (aD [[7]]) 0) = 1 := (body_of (r := 100) (f := 0) (d := false) (z := 0) (by decide) [[7]] bod7).2
theorem a_ok0 : (aD []).Ok 0 := ok_whole (by decide) (by decide) (by decide) _ (by decide)
theorem a_ok7 : (aD [[7]]).Ok 0 := ok_whole (by decide) (by decide) (by decide) _ (by rw [flat7]; decide)
theorem a_by0 : (aD []).By := by_whole (fun _ h => absurd h (List.not_mem_nil))
theorem a_by7 : (aD [[7]]).By := by_whole (fun b h x hx => by
  rw [List.mem_singleton.1 h] at hx
  rw [List.mem_singleton.1 hx]
  exact ⟨by decide, by decide⟩)

set_option maxRecDepth 100000 in
set_option maxHeartbeats 2000000 in
theorem alive20_any (w : World) (hG : Glob11 w) : Calls Tryz.prog 6 #[] w fun e w' => e = .returned (.bool true) ∧ Below w.heap.size w w' := by
  have hN := o_new (w := w) 100 (by decide) 0
  have hN : Calls Tryz.prog 4 #[.int .i64 100] w fun q w' => ∃ g, q = .returned (.tuple #[.pointer (some ⟨g, 0, none⟩), .int .i64 0]) ∧ RyOwn (fun _ => False) w.heap.size w w' g (aD []) := hN
  obtain ⟨B, hB⟩ : ∃ B, w.heap.size = B := ⟨_, rfl⟩
  rw [hB] at hN
  have hBle : w.heap.size ≤ B := by omega
  have hGH := Lib.hid hG
  have hBH := Lib.hid hBle
  have hBe := Lib.hid hB
  clear hG hBle hB
  go_enter Tryz.func6, Tryz.ntmps6
  go_wp2_with fail
  refine hN.mono ?_
  rintro q w1 ⟨g, rfl, h1⟩
  have c1 := o_open (z := 0) h1 a_ok0 (by decide) a_by0 (by decide) hGH.out hBH.out rfl a_open0
  clear hN h1
  go_wp2_with fail
  refine c1.mono ?_
  rintro q w2 ⟨ro, rfl, r2, h2, _⟩
  have b2 := below1 w2 (.cells #[.int .u8 7] 5)
  have I2 : Ints .u8 (w2.alloc (.cells #[.int .u8 7] 5)) (some ⟨w2.heap.size, 0, none⟩) 1 1 [7] := ints_new11 w2 .u8 5 (0, 0) [7] 1 rfl
  have c2 := o_put (z := 0) (h2.keep b2) (r2.keep b2) (.inr rfl) a_ok0 (by decide) hGH.out hBH.out I2 (by intro x hx; rw [List.mem_singleton.1 hx]; exact ⟨by decide, by decide⟩) (by decide) a_put
  clear c1 b2 I2 h2 r2
  go_wp2_with fail
  refine c2.mono ?_
  rintro q w3 ⟨rfl, h3, _⟩
  have c3 := o_crash (us := []) h3 a_ok7 (by decide) (a := none) (n := 0) (c := 0) ⟨rfl, Nat.le_refl _, .inl rfl⟩ (fun x hx => by cases hx) a_crash
  clear c2 h3
  go_wp2_with fail
  refine c3.mono ?_
  rintro q w4 ⟨rfl, h4, _⟩
  have c4 := o_open (z := 0) h4 a_ok7 (by decide) a_by7 (by decide) hGH.out hBH.out rfl a_open7
  clear c3 h4
  go_wp2_with fail
  refine c4.mono ?_
  rintro q w5 ⟨ro5, rfl, r5, h5, _⟩
  have c5 := o_len (z := 0) h5 r5 a_ok7 a_by7 (by decide) hGH.out hBH.out a_len
  have hb5 := h5.b
  have hs5 := h5.s
  clear c4 h5 r5
  go_wp2_with fail
  refine c5.mono ?_
  rintro q w6 ⟨rfl, b6⟩
  have hBE := hb5.trans (b6.mono hs5)
  clear c5 hb5 hs5 b6
  rw [← hBe.out] at hBE
  go_wp2
  go_ret
  exact ⟨rfl, hBE⟩
end Go.Proofs.YtnblknhdchpboaaGreatDoor
