/-
  Texts of stages that were proved on their own, joined: RyMem, RyCall, RyOpen, RyNew, RyOwn, RyAlive, RyLawO, RyLawP, RyLawN. Each begins with its own words.
-/
import Derived.Test.YtnblknhdchpboaaDoorJRyAll9
import Derived.Test.YtnblknhdchpboaaDoorJRyAll23
import Derived.Test.YtnblknhdchpboaaDoorJRyAll26
import Derived.Test.YtnblknhdchpboaaDoorJRyAll19
import Derived.Test.YtnblknhdchpboaaDoorJRyAll8
import Derived.Test.YtnblknhdchpboaaDoorJRyAll22

/-
  A roll in memory, over the landed disk: what unmade, Bodies, Len, Size, keep and mend come to. The disk's own blocks are written, and new memory. Conditions: a roll that Open made, of a disk that New made; fewer than 2^41 steps; the files hold bytes.
-/
namespace Go.Proofs.YtnblknhdchpboaaDoor
open Go.RowKit

def roC (g : Nat) (z : Int) : List Value := [.pointer (some ⟨g, 0, none⟩), .int .i64 z, .bool true]
/-- A roll that Open made. -/
def RollAt (w : World) (ro g : Nat) (z : Int) : Prop := Blk w ro 51 (roC g z)
theorem RollAt.keep {w w' : World} {ro g : Nat} {z : Int} (h : RollAt w ro g z) (hb : Below w.heap.size w w') : RollAt w' ro g z := Blk.keep h hb (Blk.lt h)
theorem RollAt.c0 {w : World} {ro g : Nat} {z : Int} (h : RollAt w ro g z) : w.cell? ⟨ro, 0, none⟩ = some (.pointer (some ⟨g, 0, none⟩)) := Blk.cell h 0
theorem RollAt.c1 {w : World} {ro g : Nat} {z : Int} (h : RollAt w ro g z) : w.cell? ⟨ro, 1, none⟩ = some (.int .i64 z) := Blk.cell h 1
theorem RollAt.c2 {w : World} {ro g : Nat} {z : Int} (h : RollAt w ro g z) : w.cell? ⟨ro, 2, none⟩ = some (.bool true) := Blk.cell h 2
theorem RollAt.lt {w : World} {ro g : Nat} {z : Int} (h : RollAt w ro g z) : ro < w.heap.size := Blk.lt h
theorem dk_lt {L : Nat → Nat} {P : Nat → Prop} {w : World} {g : Nat} {D : DkV} (h : DkIs L P w g D) : (∀ b, L b ≠ 0 → b < w.heap.size) ∧ ∀ b, P b → b < w.heap.size := by
  obtain ⟨_, _, _, h⟩ := h
  exact ⟨h.lab.l, fun b hb => (h.lab.p b hb).1⟩
theorem Went.at {L L' : Nat → Nat} {P P' : Nat → Prop} {w w' : World} (h : Went L P w L' P' w') {b : Nat} (hb : b < w.heap.size) (h0 : L b = 0) : w'.heap[b]? = w.heap[b]? := h.m.2 b hb (fun hn => hn h0)
theorem Went.roll {L L' : Nat → Nat} {P P' : Nat → Prop} {w w' : World} (h : Went L P w L' P' w') {ro g : Nat} {z : Int} (hr : RollAt w ro g z) (h0 : L ro = 0) : RollAt w' ro g z := (h.at hr.lt h0).trans hr
theorem Went.lab {L L' : Nat → Nat} {P P' : Nat → Prop} {w w' : World} (h : Went L P w L' P' w') {ro g : Nat} {z : Int} (hr : RollAt w ro g z) (h0 : L ro = 0) : L' ro = 0 := (h.l ro hr.lt).trans h0
/-- Numbers were drawn ahead. -/
theorem DkTo.drewn {L : Nat → Nat} {P : Nat → Prop} {w w' : World} {g : Nat} {D : DkV} (h : DkTo L P w.drew g w' D) : DkTo L P w g w' D := by
  obtain ⟨L', P', h1, h2⟩ := h
  exact ⟨L', P', h1, (Went.of_below (Below.refl _ _).drew).trans h2⟩
theorem DkTo.trans {L : Nat → Nat} {P : Nat → Prop} {w w1 w2 : World} {g : Nat} {D : DkV} {L1 : Nat → Nat} {P1 : Nat → Prop} (a : Went L P w L1 P1 w1) (h : DkTo L1 P1 w1 g w2 D) : DkTo L P w g w2 D := by
  obtain ⟨L', P', h1, h2⟩ := h
  exact ⟨L', P', h1, a.trans h2⟩
theorem file_nat {z : Int} (hz : 0 ≤ z ∧ z < 3) : z = ((z.toNat : Nat) : Int) := by omega

set_option maxRecDepth 100000 in
set_option maxHeartbeats 800000 in
theorem yUnmade_any {w : World} {ro g : Nat} {z : Int} (hr : RollAt w ro g z) :
    Calls Tryd.prog 25 #[.pointer (some ⟨ro, 0, none⟩)] w fun q w' => q = .returned (.bool false) ∧ w = w' := by
  have c2 := hr.c2
  clear hr
  go_enter Tryd.func25, Tryd.ntmps25
  go_wp2
  go_ret
  exact ⟨rfl, rfl⟩

theorem y_read {L : Nat → Nat} {P : Nat → Prop} {w : World} {g : Nat} {D : DkV} {T : Nat} (h : DkIs L P w g D) (hO : D.Ok T) {z : Int} (hz : 0 ≤ z ∧ z < 3) {X : List Int} (hX : heldR D z = X) {N : Nat} (hN : X.length = N) :
    Calls Tryd.prog 30 #[.pointer (some ⟨g, 0, none⟩), .int .i64 z] w fun q w' => ∃ b c, q = .returned (.slice b N c) ∧ Ints .u8 w' b N c X ∧ Below w.heap.size w w' := by
  obtain ⟨x0, x1, x2, hk⟩ := h
  subst hN; subst hX
  have hd := dRead_any hk hO z.toNat (toNat_lt3 hz)
  rw [← file_nat hz] at hd
  exact hd.mono fun q w' ⟨b, c, e, ho, hb⟩ => ⟨b, c, e, own_ints' ho, hb⟩

theorem y_size {L : Nat → Nat} {P : Nat → Prop} {w : World} {g : Nat} {D : DkV} {T : Nat} (h : DkIs L P w g D) (hO : D.Ok T) {z : Int} (hz : 0 ≤ z ∧ z < 3) {N : Nat} (hN : (heldR D z).length = N) :
    Calls Tryd.prog 38 #[.pointer (some ⟨g, 0, none⟩), .int .i64 z] w fun q w' => q = .returned (.int .i64 (N : Int)) ∧ Below w.heap.size w w' := by
  obtain ⟨x0, x1, x2, hk⟩ := h
  subst hN
  have hd := dSize_any hk hO z.toNat (toNat_lt3 hz)
  rw [← file_nat hz] at hd
  exact hd

theorem y_units {L : Nat → Nat} {P : Nat → Prop} {w : World} {g : Nat} {D : DkV} {T : Nat} (h : DkIs L P w g D) (hO : D.Ok T) {z : Int} (hz : 0 ≤ z ∧ z < 3) {N : Nat} (hN : (D.f z.toNat).units = N) :
    Calls Tryd.prog 39 #[.pointer (some ⟨g, 0, none⟩), .int .i64 z] w fun q w' => q = .returned (.int .i64 (N : Int)) ∧ Below w.heap.size w w' := by
  obtain ⟨x0, x1, x2, hk⟩ := h
  subst hN
  have hd := dUnits_any hk hO z.toNat (toNat_lt3 hz)
  rw [← file_nat hz] at hd
  exact hd

theorem y_scan {w : World} {a : Option Addr} {n c : Nat} {xs : List Int} (hG : Glob11 w) (hI : Ints .u8 w a n c xs) (hr : ∀ x ∈ xs, isByte x) (hn : n ≤ 1000000000) {B : Nat} (hB : B ≤ w.heap.size) {ps : List (List Int)} (hp : allF xs = ps) {G : Nat} (hg : goodF xs = G) :
    Calls Tryd.prog 29 #[.slice a n c] w fun q w' => ∃ v, q = .returned (.tuple #[v, .int .i64 (G : Int)]) ∧ RowsO w' B 0 v ps ∧ Below w.heap.size w w' := by
  subst hp; subst hg
  exact (fScan_any a n c xs (numF xs) (numF_fr xs) w hG hI hr hn).mono fun q w' ⟨v, e, h, hb⟩ => ⟨v, e, h.low hB, hb⟩
theorem held_len {D : DkV} {T : Nat} (hO : D.Ok T) (z : Int) : (heldR D z).length ≤ 65536 := Nat.le_trans (FlV.held_le _) (hO.f _).need

set_option maxRecDepth 100000 in
set_option maxHeartbeats 2000000 in
theorem yBodies_any {L : Nat → Nat} {P : Nat → Prop} {w : World} {ro g : Nat} {D : DkV} {T : Nat} {z : Int} (hr : RollAt w ro g z) (h : DkIs L P w g D) (hO : D.Ok T) (hD : D.By) (hz : 0 ≤ z ∧ z < 3) (hG : Glob11 w) {ps : List (List Int)} (hp : allF (heldR D z) = ps) :
    Calls Tryd.prog 13 #[.pointer (some ⟨ro, 0, none⟩)] w fun q w' => ∃ v, q = .returned v ∧ RowsO w' w.heap.size 0 v ps ∧ Below w.heap.size w w' := by
  have hu := yUnmade_any hr
  have hby : ∀ x ∈ heldR D z, isByte x := (hD.f _).held
  have hle := held_len hO z
  obtain ⟨X, hX⟩ : ∃ X, heldR D z = X := ⟨_, rfl⟩
  obtain ⟨N, hN⟩ : ∃ N, X.length = N := ⟨_, rfl⟩
  obtain ⟨G, hg⟩ : ∃ G, goodF X = G := ⟨_, rfl⟩
  rw [hX] at hp hby hle
  rw [hN] at hle
  have b4 : Below w.heap.size w w.drew := (Below.refl _ _).drew
  have CR := Lib.hid (fun w' (q : Below w.heap.size w w') => y_read (h.keep q) hO hz hX hN)
  have CS := Lib.hid (fun w' (q : Below w.heap.size w w') (a : Option Addr) (c : Nat) (I : Ints .u8 w' a N c X) => y_scan (hG.keep q (Nat.le_refl _)) I hby (by omega) q.size hp hg)
  have R0 := Lib.hid (fun w' (q : Below w.heap.size w w') => (hr.keep q).c0)
  have R1 := Lib.hid (fun w' (q : Below w.heap.size w w') => (hr.keep q).c1)
  clear hr h hO hD hG hX hN hg hp hby hle hz
  go_enter Tryd.func13, Tryd.ntmps13
  go_wp2_with fail
  refine hu.mono ?_
  rintro q w1 ⟨rfl, rfl⟩
  clear hu
  go_wp2_with fail
  refine region_seqS (fun w' => Below w.heap.size w w') (by kernel_rfl) b4 ?_
  simp only [pairs, Nat.reduceAdd]
  repeat (first
    | (refine SeqS.take (v := ?_) (by first | assumption | trivial) (by kernel_rfl) (by decide +kernel) (by decide +kernel) (Or.inl ⟨by rfl, ?_⟩) ?_
       rotate_left
       focus
         intro w' hb'
         go_simp
         with_reducible rfl
       simp only [Act.put, List.setIfInBounds_toArray, List.set_cons_zero, List.set_cons_succ])
    | (refine SeqS.take (v := ?_) (by first | assumption | trivial) (by kernel_rfl) (by decide +kernel) (by decide +kernel) (Or.inl ⟨by rfl, ?_⟩) ?_
       rotate_left
       focus
         intro w' hb'
         have d0 := R0.out w' hb'
         go_simp
         with_reducible rfl
       simp only [Act.put, List.setIfInBounds_toArray, List.set_cons_zero, List.set_cons_succ])
    | (refine SeqS.take (v := ?_) (by first | assumption | trivial) (by kernel_rfl) (by decide +kernel) (by decide +kernel) (Or.inl ⟨by rfl, ?_⟩) ?_
       rotate_left
       focus
         intro w' hb'
         have d0 := R1.out w' hb'
         go_simp
         with_reducible rfl
       simp only [Act.put, List.setIfInBounds_toArray, List.set_cons_zero, List.set_cons_succ])
    | (refine SeqS.take (v := undef) (by first | assumption | trivial) (by kernel_rfl) (by decide +kernel) (by decide +kernel) (Or.inr ⟨by rfl, rfl⟩) ?_
       simp only [Act.put, List.setIfInBounds_toArray, List.set_cons_zero, List.set_cons_succ])
    | (refine SeqS.take1 (v := ?_) (by first | assumption | trivial) (by kernel_rfl) (by decide +kernel) (by decide +kernel) (Or.inl ⟨by rfl, ?_⟩) ?_
       rotate_left
       focus
         intro w' hb'
         go_simp
         with_reducible rfl
       simp only [Act.put, List.setIfInBounds_toArray, List.set_cons_zero, List.set_cons_succ])
    | (refine SeqS.take1 (v := ?_) (by first | assumption | trivial) (by kernel_rfl) (by decide +kernel) (by decide +kernel) (Or.inl ⟨by rfl, ?_⟩) ?_
       rotate_left
       focus
         intro w' hb'
         have d0 := R0.out w' hb'
         go_simp
         with_reducible rfl
       simp only [Act.put, List.setIfInBounds_toArray, List.set_cons_zero, List.set_cons_succ])
    | (refine SeqS.take1 (v := ?_) (by first | assumption | trivial) (by kernel_rfl) (by decide +kernel) (by decide +kernel) (Or.inl ⟨by rfl, ?_⟩) ?_
       rotate_left
       focus
         intro w' hb'
         have d0 := R1.out w' hb'
         go_simp
         with_reducible rfl
       simp only [Act.put, List.setIfInBounds_toArray, List.set_cons_zero, List.set_cons_succ])
    | (refine SeqS.take1 (v := undef) (by first | assumption | trivial) (by kernel_rfl) (by decide +kernel) (by decide +kernel) (Or.inr ⟨by rfl, rfl⟩) ?_
       simp only [Act.put, List.setIfInBounds_toArray, List.set_cons_zero, List.set_cons_succ])
    | (refine SeqS.take2 (v := ?_) (by first | assumption | trivial) (by kernel_rfl) (by decide +kernel) (by decide +kernel) (Or.inl ⟨by rfl, ?_⟩) ?_
       rotate_left
       focus
         intro w' hb'
         go_simp
         with_reducible rfl
       simp only [Act.put, List.setIfInBounds_toArray, List.set_cons_zero, List.set_cons_succ])
    | (refine SeqS.take2 (v := ?_) (by first | assumption | trivial) (by kernel_rfl) (by decide +kernel) (by decide +kernel) (Or.inl ⟨by rfl, ?_⟩) ?_
       rotate_left
       focus
         intro w' hb'
         have d0 := R0.out w' hb'
         go_simp
         with_reducible rfl
       simp only [Act.put, List.setIfInBounds_toArray, List.set_cons_zero, List.set_cons_succ])
    | (refine SeqS.take2 (v := ?_) (by first | assumption | trivial) (by kernel_rfl) (by decide +kernel) (by decide +kernel) (Or.inl ⟨by rfl, ?_⟩) ?_
       rotate_left
       focus
         intro w' hb'
         have d0 := R1.out w' hb'
         go_simp
         with_reducible rfl
       simp only [Act.put, List.setIfInBounds_toArray, List.set_cons_zero, List.set_cons_succ])
    | (refine SeqS.take2 (v := undef) (by first | assumption | trivial) (by kernel_rfl) (by decide +kernel) (by decide +kernel) (Or.inr ⟨by rfl, rfl⟩) ?_
       simp only [Act.put, List.setIfInBounds_toArray, List.set_cons_zero, List.set_cons_succ]))
  refine SeqS.alone (by decide +kernel) (by rfl) (fun K hK => ?_)
  go_simp
  go_at_call 30
  refine (CR.out _ b4).mono ?_
  rintro e w1 ⟨a1, c1, rfl, I1, b1⟩
  go_simp
  have S1 : Below w.heap.size w w1 := b4.trans (b1.mono b4.size)
  refine hK _ _ S1 ?_
  clear hK K
  refine SeqS.alone (by decide +kernel) (by rfl) (fun K hK => ?_)
  go_simp
  go_at_call 29
  refine (CS.out _ S1 _ _ I1).mono ?_
  rintro e w2 ⟨v2, rfl, R2, b2⟩
  go_simp
  have S2 : Below w.heap.size w w2 := S1.trans (b2.mono S1.size)
  refine hK _ _ S2 ?_
  clear hK K
  have R2 := Lib.hid R2
  repeat (first
    | (refine SeqS.take (v := ?_) (by first | assumption | trivial) (by kernel_rfl) (by decide +kernel) (by decide +kernel) (Or.inl ⟨by rfl, ?_⟩) ?_
       rotate_left
       focus
         intro w' hb'
         go_simp
         with_reducible rfl
       simp only [Act.put, List.setIfInBounds_toArray, List.set_cons_zero, List.set_cons_succ])
    | (refine SeqS.take (v := undef) (by first | assumption | trivial) (by kernel_rfl) (by decide +kernel) (by decide +kernel) (Or.inr ⟨by rfl, rfl⟩) ?_
       simp only [Act.put, List.setIfInBounds_toArray, List.set_cons_zero, List.set_cons_succ])
    | (refine SeqS.take1 (v := ?_) (by first | assumption | trivial) (by kernel_rfl) (by decide +kernel) (by decide +kernel) (Or.inl ⟨by rfl, ?_⟩) ?_
       rotate_left
       focus
         intro w' hb'
         go_simp
         with_reducible rfl
       simp only [Act.put, List.setIfInBounds_toArray, List.set_cons_zero, List.set_cons_succ])
    | (refine SeqS.take1 (v := undef) (by first | assumption | trivial) (by kernel_rfl) (by decide +kernel) (by decide +kernel) (Or.inr ⟨by rfl, rfl⟩) ?_
       simp only [Act.put, List.setIfInBounds_toArray, List.set_cons_zero, List.set_cons_succ])
    | (refine SeqS.take2 (v := ?_) (by first | assumption | trivial) (by kernel_rfl) (by decide +kernel) (by decide +kernel) (Or.inl ⟨by rfl, ?_⟩) ?_
       rotate_left
       focus
         intro w' hb'
         go_simp
         with_reducible rfl
       simp only [Act.put, List.setIfInBounds_toArray, List.set_cons_zero, List.set_cons_succ])
    | (refine SeqS.take2 (v := undef) (by first | assumption | trivial) (by kernel_rfl) (by decide +kernel) (by decide +kernel) (Or.inr ⟨by rfl, rfl⟩) ?_
       simp only [Act.put, List.setIfInBounds_toArray, List.set_cons_zero, List.set_cons_succ]))
  refine SeqS.done (by decide +kernel) ?_
  go_wp2
  go_ret
  exact ⟨_, rfl, R2.out, S2⟩
end Go.Proofs.YtnblknhdchpboaaDoor

/-
  What a roll's keep, mend, Append, Clear, Len, Size and Open come to. The disk's own blocks are written, and new memory. Conditions: a roll that Open made (of Open: none), of a disk that New made; fewer than 2^42 steps; the files hold bytes.
-/
namespace Go.Proofs.YtnblknhdchpboaaDoor
open Go.RowKit

set_option maxRecDepth 100000 in
set_option maxHeartbeats 2000000 in
theorem yKeep_any {L : Nat → Nat} {P : Nat → Prop} {w : World} {ro g : Nat} {D : DkV} {T : Nat} {z n : Int} (hr : RollAt w ro g z) (h0 : L ro = 0) (h : DkIs L P w g D) (hO : D.Ok T) (hT : T < 4398046511103) :
    Calls Tryd.prog 37 #[.pointer (some ⟨ro, 0, none⟩), .int .i64 n] w fun q w' => q = .returned (.int .i64 (keD D z n).2) ∧ DkTo L P w g w' (keD D z n).1 := by
  have b4 : Below w.heap.size w w.drew := (Below.refl _ _).drew
  have rS : RollAt w.drew ro g z := hr.keep b4
  have hC := dCut_any (file := z) (k := n) (h.keep b4) hO (by omega)
  have hok := ctD_ok hO z n
  unfold keD
  obtain ⟨D1, e1, he⟩ : ∃ D1 e1, ctD D z n = (D1, e1) := ⟨_, _, rfl⟩
  rw [he] at hC hok ⊢
  dsimp only at hC hok ⊢
  have hrH := Lib.hid hr
  have h0H := Lib.hid h0
  have hS := Lib.hid (fun (L1 : Nat → Nat) (P1 : Nat → Prop) (w1 : World) (k : DkIs L1 P1 w1 g D1) => dSync_any (file := z) k hok (by omega))
  clear hr h hO hT he hok h0
  by_cases h1 : e1 = 0
  · subst h1
    rw [if_pos rfl]
    obtain ⟨D2, e2, he2⟩ : ∃ D2 e2, syD D1 z = (D2, e2) := ⟨_, _, rfl⟩
    rw [he2] at hS ⊢
    dsimp only at hS ⊢
    clear he2
    go_enter Tryd.func37, Tryd.ntmps37
    go_wp2_with fail
    refine region_seqS (fun w' => RollAt w' ro g z) (by kernel_rfl) rS ?_
    simp only [pairs, Nat.reduceAdd]
    repeat (first
      | (refine SeqS.take (v := ?_) (by first | assumption | trivial) (by kernel_rfl) (by decide +kernel) (by decide +kernel) (Or.inl ⟨by rfl, ?_⟩) ?_
         rotate_left
         focus
           intro w' hb'
           go_simp
           with_reducible rfl
         simp only [Act.put, List.setIfInBounds_toArray, List.set_cons_zero, List.set_cons_succ])
      | (refine SeqS.take (v := ?_) (by first | assumption | trivial) (by kernel_rfl) (by decide +kernel) (by decide +kernel) (Or.inl ⟨by rfl, ?_⟩) ?_
         rotate_left
         focus
           intro w' hb'
           have d0 := RollAt.c0 hb'
           go_simp
           with_reducible rfl
         simp only [Act.put, List.setIfInBounds_toArray, List.set_cons_zero, List.set_cons_succ])
      | (refine SeqS.take (v := ?_) (by first | assumption | trivial) (by kernel_rfl) (by decide +kernel) (by decide +kernel) (Or.inl ⟨by rfl, ?_⟩) ?_
         rotate_left
         focus
           intro w' hb'
           have d0 := RollAt.c1 hb'
           go_simp
           with_reducible rfl
         simp only [Act.put, List.setIfInBounds_toArray, List.set_cons_zero, List.set_cons_succ])
      | (refine SeqS.take (v := undef) (by first | assumption | trivial) (by kernel_rfl) (by decide +kernel) (by decide +kernel) (Or.inr ⟨by rfl, rfl⟩) ?_
         simp only [Act.put, List.setIfInBounds_toArray, List.set_cons_zero, List.set_cons_succ])
      | (refine SeqS.take1 (v := ?_) (by first | assumption | trivial) (by kernel_rfl) (by decide +kernel) (by decide +kernel) (Or.inl ⟨by rfl, ?_⟩) ?_
         rotate_left
         focus
           intro w' hb'
           go_simp
           with_reducible rfl
         simp only [Act.put, List.setIfInBounds_toArray, List.set_cons_zero, List.set_cons_succ])
      | (refine SeqS.take1 (v := ?_) (by first | assumption | trivial) (by kernel_rfl) (by decide +kernel) (by decide +kernel) (Or.inl ⟨by rfl, ?_⟩) ?_
         rotate_left
         focus
           intro w' hb'
           have d0 := RollAt.c0 hb'
           go_simp
           with_reducible rfl
         simp only [Act.put, List.setIfInBounds_toArray, List.set_cons_zero, List.set_cons_succ])
      | (refine SeqS.take1 (v := ?_) (by first | assumption | trivial) (by kernel_rfl) (by decide +kernel) (by decide +kernel) (Or.inl ⟨by rfl, ?_⟩) ?_
         rotate_left
         focus
           intro w' hb'
           have d0 := RollAt.c1 hb'
           go_simp
           with_reducible rfl
         simp only [Act.put, List.setIfInBounds_toArray, List.set_cons_zero, List.set_cons_succ])
      | (refine SeqS.take1 (v := undef) (by first | assumption | trivial) (by kernel_rfl) (by decide +kernel) (by decide +kernel) (Or.inr ⟨by rfl, rfl⟩) ?_
         simp only [Act.put, List.setIfInBounds_toArray, List.set_cons_zero, List.set_cons_succ])
      | (refine SeqS.take2 (v := ?_) (by first | assumption | trivial) (by kernel_rfl) (by decide +kernel) (by decide +kernel) (Or.inl ⟨by rfl, ?_⟩) ?_
         rotate_left
         focus
           intro w' hb'
           go_simp
           with_reducible rfl
         simp only [Act.put, List.setIfInBounds_toArray, List.set_cons_zero, List.set_cons_succ])
      | (refine SeqS.take2 (v := ?_) (by first | assumption | trivial) (by kernel_rfl) (by decide +kernel) (by decide +kernel) (Or.inl ⟨by rfl, ?_⟩) ?_
         rotate_left
         focus
           intro w' hb'
           have d0 := RollAt.c0 hb'
           go_simp
           with_reducible rfl
         simp only [Act.put, List.setIfInBounds_toArray, List.set_cons_zero, List.set_cons_succ])
      | (refine SeqS.take2 (v := ?_) (by first | assumption | trivial) (by kernel_rfl) (by decide +kernel) (by decide +kernel) (Or.inl ⟨by rfl, ?_⟩) ?_
         rotate_left
         focus
           intro w' hb'
           have d0 := RollAt.c1 hb'
           go_simp
           with_reducible rfl
         simp only [Act.put, List.setIfInBounds_toArray, List.set_cons_zero, List.set_cons_succ])
      | (refine SeqS.take2 (v := undef) (by first | assumption | trivial) (by kernel_rfl) (by decide +kernel) (by decide +kernel) (Or.inr ⟨by rfl, rfl⟩) ?_
         simp only [Act.put, List.setIfInBounds_toArray, List.set_cons_zero, List.set_cons_succ]))
    refine SeqS.alone (by decide +kernel) (by rfl) (fun K hK => ?_)
    go_simp
    go_at_call 53
    refine hC.mono ?_
    rintro q w1 ⟨rfl, t1⟩
    obtain ⟨L1, P1, k1, v1⟩ := t1.drewn
    have r1 := v1.roll hrH.out h0H.out
    have l1 := v1.lab hrH.out h0H.out
    go_simp
    refine hK _ _ r1 ?_
    clear hK K hC rS t1
    repeat (first
      | (refine SeqS.take (v := ?_) (by first | assumption | trivial) (by kernel_rfl) (by decide +kernel) (by decide +kernel) (Or.inl ⟨by rfl, ?_⟩) ?_
         rotate_left
         focus
           intro w' hb'
           go_simp
           with_reducible rfl
         simp only [Act.put, List.setIfInBounds_toArray, List.set_cons_zero, List.set_cons_succ])
      | (refine SeqS.take (v := undef) (by first | assumption | trivial) (by kernel_rfl) (by decide +kernel) (by decide +kernel) (Or.inr ⟨by rfl, rfl⟩) ?_
         simp only [Act.put, List.setIfInBounds_toArray, List.set_cons_zero, List.set_cons_succ])
      | (refine SeqS.take1 (v := ?_) (by first | assumption | trivial) (by kernel_rfl) (by decide +kernel) (by decide +kernel) (Or.inl ⟨by rfl, ?_⟩) ?_
         rotate_left
         focus
           intro w' hb'
           go_simp
           with_reducible rfl
         simp only [Act.put, List.setIfInBounds_toArray, List.set_cons_zero, List.set_cons_succ])
      | (refine SeqS.take1 (v := undef) (by first | assumption | trivial) (by kernel_rfl) (by decide +kernel) (by decide +kernel) (Or.inr ⟨by rfl, rfl⟩) ?_
         simp only [Act.put, List.setIfInBounds_toArray, List.set_cons_zero, List.set_cons_succ])
      | (refine SeqS.take2 (v := ?_) (by first | assumption | trivial) (by kernel_rfl) (by decide +kernel) (by decide +kernel) (Or.inl ⟨by rfl, ?_⟩) ?_
         rotate_left
         focus
           intro w' hb'
           go_simp
           with_reducible rfl
         simp only [Act.put, List.setIfInBounds_toArray, List.set_cons_zero, List.set_cons_succ])
      | (refine SeqS.take2 (v := undef) (by first | assumption | trivial) (by kernel_rfl) (by decide +kernel) (by decide +kernel) (Or.inr ⟨by rfl, rfl⟩) ?_
         simp only [Act.put, List.setIfInBounds_toArray, List.set_cons_zero, List.set_cons_succ]))
    refine SeqS.done (by decide +kernel) ?_
    have b5 : Below w1.heap.size w1 w1.drew := (Below.refl _ _).drew
    have rS : RollAt w1.drew ro g z := r1.keep b5
    have hS1 := hS.out L1 P1 w1.drew (k1.keep b5)
    clear b4 b5
    go_wp2_with fail
    refine region_seqS (fun w' => RollAt w' ro g z) (by kernel_rfl) rS ?_
    simp only [pairs, Nat.reduceAdd]
    repeat (first
      | (refine SeqS.take (v := ?_) (by first | assumption | trivial) (by kernel_rfl) (by decide +kernel) (by decide +kernel) (Or.inl ⟨by rfl, ?_⟩) ?_
         rotate_left
         focus
           intro w' hb'
           go_simp
           with_reducible rfl
         simp only [Act.put, List.setIfInBounds_toArray, List.set_cons_zero, List.set_cons_succ])
      | (refine SeqS.take (v := ?_) (by first | assumption | trivial) (by kernel_rfl) (by decide +kernel) (by decide +kernel) (Or.inl ⟨by rfl, ?_⟩) ?_
         rotate_left
         focus
           intro w' hb'
           have d0 := RollAt.c0 hb'
           go_simp
           with_reducible rfl
         simp only [Act.put, List.setIfInBounds_toArray, List.set_cons_zero, List.set_cons_succ])
      | (refine SeqS.take (v := ?_) (by first | assumption | trivial) (by kernel_rfl) (by decide +kernel) (by decide +kernel) (Or.inl ⟨by rfl, ?_⟩) ?_
         rotate_left
         focus
           intro w' hb'
           have d0 := RollAt.c1 hb'
           go_simp
           with_reducible rfl
         simp only [Act.put, List.setIfInBounds_toArray, List.set_cons_zero, List.set_cons_succ])
      | (refine SeqS.take (v := undef) (by first | assumption | trivial) (by kernel_rfl) (by decide +kernel) (by decide +kernel) (Or.inr ⟨by rfl, rfl⟩) ?_
         simp only [Act.put, List.setIfInBounds_toArray, List.set_cons_zero, List.set_cons_succ])
      | (refine SeqS.take1 (v := ?_) (by first | assumption | trivial) (by kernel_rfl) (by decide +kernel) (by decide +kernel) (Or.inl ⟨by rfl, ?_⟩) ?_
         rotate_left
         focus
           intro w' hb'
           go_simp
           with_reducible rfl
         simp only [Act.put, List.setIfInBounds_toArray, List.set_cons_zero, List.set_cons_succ])
      | (refine SeqS.take1 (v := ?_) (by first | assumption | trivial) (by kernel_rfl) (by decide +kernel) (by decide +kernel) (Or.inl ⟨by rfl, ?_⟩) ?_
         rotate_left
         focus
           intro w' hb'
           have d0 := RollAt.c0 hb'
           go_simp
           with_reducible rfl
         simp only [Act.put, List.setIfInBounds_toArray, List.set_cons_zero, List.set_cons_succ])
      | (refine SeqS.take1 (v := ?_) (by first | assumption | trivial) (by kernel_rfl) (by decide +kernel) (by decide +kernel) (Or.inl ⟨by rfl, ?_⟩) ?_
         rotate_left
         focus
           intro w' hb'
           have d0 := RollAt.c1 hb'
           go_simp
           with_reducible rfl
         simp only [Act.put, List.setIfInBounds_toArray, List.set_cons_zero, List.set_cons_succ])
      | (refine SeqS.take1 (v := undef) (by first | assumption | trivial) (by kernel_rfl) (by decide +kernel) (by decide +kernel) (Or.inr ⟨by rfl, rfl⟩) ?_
         simp only [Act.put, List.setIfInBounds_toArray, List.set_cons_zero, List.set_cons_succ])
      | (refine SeqS.take2 (v := ?_) (by first | assumption | trivial) (by kernel_rfl) (by decide +kernel) (by decide +kernel) (Or.inl ⟨by rfl, ?_⟩) ?_
         rotate_left
         focus
           intro w' hb'
           go_simp
           with_reducible rfl
         simp only [Act.put, List.setIfInBounds_toArray, List.set_cons_zero, List.set_cons_succ])
      | (refine SeqS.take2 (v := ?_) (by first | assumption | trivial) (by kernel_rfl) (by decide +kernel) (by decide +kernel) (Or.inl ⟨by rfl, ?_⟩) ?_
         rotate_left
         focus
           intro w' hb'
           have d0 := RollAt.c0 hb'
           go_simp
           with_reducible rfl
         simp only [Act.put, List.setIfInBounds_toArray, List.set_cons_zero, List.set_cons_succ])
      | (refine SeqS.take2 (v := ?_) (by first | assumption | trivial) (by kernel_rfl) (by decide +kernel) (by decide +kernel) (Or.inl ⟨by rfl, ?_⟩) ?_
         rotate_left
         focus
           intro w' hb'
           have d0 := RollAt.c1 hb'
           go_simp
           with_reducible rfl
         simp only [Act.put, List.setIfInBounds_toArray, List.set_cons_zero, List.set_cons_succ])
      | (refine SeqS.take2 (v := undef) (by first | assumption | trivial) (by kernel_rfl) (by decide +kernel) (by decide +kernel) (Or.inr ⟨by rfl, rfl⟩) ?_
         simp only [Act.put, List.setIfInBounds_toArray, List.set_cons_zero, List.set_cons_succ]))
    refine SeqS.alone (by decide +kernel) (by rfl) (fun K hK => ?_)
    go_simp
    go_at_call 16
    refine hS1.mono ?_
    rintro q w2 ⟨rfl, t2⟩
    obtain ⟨L2, P2, k2, v2⟩ := t2.drewn
    have r2 := v2.roll r1 l1
    go_simp
    refine hK _ _ r2 ?_
    clear hK K hS1 rS t2
    repeat (first
      | (refine SeqS.take (v := ?_) (by first | assumption | trivial) (by kernel_rfl) (by decide +kernel) (by decide +kernel) (Or.inl ⟨by rfl, ?_⟩) ?_
         rotate_left
         focus
           intro w' hb'
           go_simp
           with_reducible rfl
         simp only [Act.put, List.setIfInBounds_toArray, List.set_cons_zero, List.set_cons_succ])
      | (refine SeqS.take (v := undef) (by first | assumption | trivial) (by kernel_rfl) (by decide +kernel) (by decide +kernel) (Or.inr ⟨by rfl, rfl⟩) ?_
         simp only [Act.put, List.setIfInBounds_toArray, List.set_cons_zero, List.set_cons_succ])
      | (refine SeqS.take1 (v := ?_) (by first | assumption | trivial) (by kernel_rfl) (by decide +kernel) (by decide +kernel) (Or.inl ⟨by rfl, ?_⟩) ?_
         rotate_left
         focus
           intro w' hb'
           go_simp
           with_reducible rfl
         simp only [Act.put, List.setIfInBounds_toArray, List.set_cons_zero, List.set_cons_succ])
      | (refine SeqS.take1 (v := undef) (by first | assumption | trivial) (by kernel_rfl) (by decide +kernel) (by decide +kernel) (Or.inr ⟨by rfl, rfl⟩) ?_
         simp only [Act.put, List.setIfInBounds_toArray, List.set_cons_zero, List.set_cons_succ])
      | (refine SeqS.take2 (v := ?_) (by first | assumption | trivial) (by kernel_rfl) (by decide +kernel) (by decide +kernel) (Or.inl ⟨by rfl, ?_⟩) ?_
         rotate_left
         focus
           intro w' hb'
           go_simp
           with_reducible rfl
         simp only [Act.put, List.setIfInBounds_toArray, List.set_cons_zero, List.set_cons_succ])
      | (refine SeqS.take2 (v := undef) (by first | assumption | trivial) (by kernel_rfl) (by decide +kernel) (by decide +kernel) (Or.inr ⟨by rfl, rfl⟩) ?_
         simp only [Act.put, List.setIfInBounds_toArray, List.set_cons_zero, List.set_cons_succ]))
    refine SeqS.done (by decide +kernel) ?_
    go_wp2
    go_ret
    exact ⟨rfl, L2, P2, k2, v1.trans v2⟩
  · rw [if_neg h1]
    dsimp only
    clear hS
    go_enter Tryd.func37, Tryd.ntmps37
    go_wp2_with fail
    refine region_seqS (fun w' => RollAt w' ro g z) (by kernel_rfl) rS ?_
    simp only [pairs, Nat.reduceAdd]
    repeat (first
      | (refine SeqS.take (v := ?_) (by first | assumption | trivial) (by kernel_rfl) (by decide +kernel) (by decide +kernel) (Or.inl ⟨by rfl, ?_⟩) ?_
         rotate_left
         focus
           intro w' hb'
           go_simp
           with_reducible rfl
         simp only [Act.put, List.setIfInBounds_toArray, List.set_cons_zero, List.set_cons_succ])
      | (refine SeqS.take (v := ?_) (by first | assumption | trivial) (by kernel_rfl) (by decide +kernel) (by decide +kernel) (Or.inl ⟨by rfl, ?_⟩) ?_
         rotate_left
         focus
           intro w' hb'
           have d0 := RollAt.c0 hb'
           go_simp
           with_reducible rfl
         simp only [Act.put, List.setIfInBounds_toArray, List.set_cons_zero, List.set_cons_succ])
      | (refine SeqS.take (v := ?_) (by first | assumption | trivial) (by kernel_rfl) (by decide +kernel) (by decide +kernel) (Or.inl ⟨by rfl, ?_⟩) ?_
         rotate_left
         focus
           intro w' hb'
           have d0 := RollAt.c1 hb'
           go_simp
           with_reducible rfl
         simp only [Act.put, List.setIfInBounds_toArray, List.set_cons_zero, List.set_cons_succ])
      | (refine SeqS.take (v := undef) (by first | assumption | trivial) (by kernel_rfl) (by decide +kernel) (by decide +kernel) (Or.inr ⟨by rfl, rfl⟩) ?_
         simp only [Act.put, List.setIfInBounds_toArray, List.set_cons_zero, List.set_cons_succ])
      | (refine SeqS.take1 (v := ?_) (by first | assumption | trivial) (by kernel_rfl) (by decide +kernel) (by decide +kernel) (Or.inl ⟨by rfl, ?_⟩) ?_
         rotate_left
         focus
           intro w' hb'
           go_simp
           with_reducible rfl
         simp only [Act.put, List.setIfInBounds_toArray, List.set_cons_zero, List.set_cons_succ])
      | (refine SeqS.take1 (v := ?_) (by first | assumption | trivial) (by kernel_rfl) (by decide +kernel) (by decide +kernel) (Or.inl ⟨by rfl, ?_⟩) ?_
         rotate_left
         focus
           intro w' hb'
           have d0 := RollAt.c0 hb'
           go_simp
           with_reducible rfl
         simp only [Act.put, List.setIfInBounds_toArray, List.set_cons_zero, List.set_cons_succ])
      | (refine SeqS.take1 (v := ?_) (by first | assumption | trivial) (by kernel_rfl) (by decide +kernel) (by decide +kernel) (Or.inl ⟨by rfl, ?_⟩) ?_
         rotate_left
         focus
           intro w' hb'
           have d0 := RollAt.c1 hb'
           go_simp
           with_reducible rfl
         simp only [Act.put, List.setIfInBounds_toArray, List.set_cons_zero, List.set_cons_succ])
      | (refine SeqS.take1 (v := undef) (by first | assumption | trivial) (by kernel_rfl) (by decide +kernel) (by decide +kernel) (Or.inr ⟨by rfl, rfl⟩) ?_
         simp only [Act.put, List.setIfInBounds_toArray, List.set_cons_zero, List.set_cons_succ])
      | (refine SeqS.take2 (v := ?_) (by first | assumption | trivial) (by kernel_rfl) (by decide +kernel) (by decide +kernel) (Or.inl ⟨by rfl, ?_⟩) ?_
         rotate_left
         focus
           intro w' hb'
           go_simp
           with_reducible rfl
         simp only [Act.put, List.setIfInBounds_toArray, List.set_cons_zero, List.set_cons_succ])
      | (refine SeqS.take2 (v := ?_) (by first | assumption | trivial) (by kernel_rfl) (by decide +kernel) (by decide +kernel) (Or.inl ⟨by rfl, ?_⟩) ?_
         rotate_left
         focus
           intro w' hb'
           have d0 := RollAt.c0 hb'
           go_simp
           with_reducible rfl
         simp only [Act.put, List.setIfInBounds_toArray, List.set_cons_zero, List.set_cons_succ])
      | (refine SeqS.take2 (v := ?_) (by first | assumption | trivial) (by kernel_rfl) (by decide +kernel) (by decide +kernel) (Or.inl ⟨by rfl, ?_⟩) ?_
         rotate_left
         focus
           intro w' hb'
           have d0 := RollAt.c1 hb'
           go_simp
           with_reducible rfl
         simp only [Act.put, List.setIfInBounds_toArray, List.set_cons_zero, List.set_cons_succ])
      | (refine SeqS.take2 (v := undef) (by first | assumption | trivial) (by kernel_rfl) (by decide +kernel) (by decide +kernel) (Or.inr ⟨by rfl, rfl⟩) ?_
         simp only [Act.put, List.setIfInBounds_toArray, List.set_cons_zero, List.set_cons_succ]))
    refine SeqS.alone (by decide +kernel) (by rfl) (fun K hK => ?_)
    go_simp
    go_at_call 53
    refine hC.mono ?_
    rintro q w1 ⟨rfl, t1⟩
    obtain ⟨L1, P1, k1, v1⟩ := t1.drewn
    have r1 := v1.roll hrH.out h0H.out
    go_simp
    refine hK _ _ r1 ?_
    clear hK K hC rS t1 b4
    repeat (first
      | (refine SeqS.take (v := ?_) (by first | assumption | trivial) (by kernel_rfl) (by decide +kernel) (by decide +kernel) (Or.inl ⟨by rfl, ?_⟩) ?_
         rotate_left
         focus
           intro w' hb'
           go_simp
           with_reducible rfl
         simp only [Act.put, List.setIfInBounds_toArray, List.set_cons_zero, List.set_cons_succ])
      | (refine SeqS.take (v := undef) (by first | assumption | trivial) (by kernel_rfl) (by decide +kernel) (by decide +kernel) (Or.inr ⟨by rfl, rfl⟩) ?_
         simp only [Act.put, List.setIfInBounds_toArray, List.set_cons_zero, List.set_cons_succ])
      | (refine SeqS.take1 (v := ?_) (by first | assumption | trivial) (by kernel_rfl) (by decide +kernel) (by decide +kernel) (Or.inl ⟨by rfl, ?_⟩) ?_
         rotate_left
         focus
           intro w' hb'
           go_simp
           with_reducible rfl
         simp only [Act.put, List.setIfInBounds_toArray, List.set_cons_zero, List.set_cons_succ])
      | (refine SeqS.take1 (v := undef) (by first | assumption | trivial) (by kernel_rfl) (by decide +kernel) (by decide +kernel) (Or.inr ⟨by rfl, rfl⟩) ?_
         simp only [Act.put, List.setIfInBounds_toArray, List.set_cons_zero, List.set_cons_succ])
      | (refine SeqS.take2 (v := ?_) (by first | assumption | trivial) (by kernel_rfl) (by decide +kernel) (by decide +kernel) (Or.inl ⟨by rfl, ?_⟩) ?_
         rotate_left
         focus
           intro w' hb'
           go_simp
           with_reducible rfl
         simp only [Act.put, List.setIfInBounds_toArray, List.set_cons_zero, List.set_cons_succ])
      | (refine SeqS.take2 (v := undef) (by first | assumption | trivial) (by kernel_rfl) (by decide +kernel) (by decide +kernel) (Or.inr ⟨by rfl, rfl⟩) ?_
         simp only [Act.put, List.setIfInBounds_toArray, List.set_cons_zero, List.set_cons_succ]))
    refine SeqS.done (by decide +kernel) ?_
    go_wp2
    go_ret
    exact ⟨rfl, L1, P1, k1, v1⟩

set_option maxRecDepth 100000 in
set_option maxHeartbeats 800000 in
theorem yLen_any {L : Nat → Nat} {P : Nat → Prop} {w : World} {ro g : Nat} {D : DkV} {T : Nat} {z : Int} (hr : RollAt w ro g z) (h : DkIs L P w g D) (hO : D.Ok T) (hD : D.By) (hz : 0 ≤ z ∧ z < 3) (hG : Glob11 w) {n : Nat} (hn : numF (heldR D z) = n) :
    Calls Tryd.prog 19 #[.pointer (some ⟨ro, 0, none⟩)] w fun q w' => q = .returned (.int .i64 (n : Int)) ∧ Below w.heap.size w w' := by
  have hB := yBodies_any hr h hO hD hz hG rfl
  have hl := allF_len (heldR D z)
  rw [hn] at hl
  obtain ⟨ps, hps⟩ : ∃ ps, allF (heldR D z) = ps := ⟨_, rfl⟩
  rw [hps] at hB hl
  clear hr h hO hD hz hG hn hps
  go_enter Tryd.func19, Tryd.ntmps19
  go_wp2_with fail
  refine hB.mono ?_
  rintro q w1 ⟨v, rfl, R1, b1⟩
  obtain ⟨a, c, rfl, _⟩ := R1.parts
  rw [hl]
  clear hB hl
  go_wp2
  go_ret
  exact ⟨rfl, b1⟩

set_option maxRecDepth 100000 in
set_option maxHeartbeats 800000 in
theorem ySize_any {L : Nat → Nat} {P : Nat → Prop} {w : World} {ro g : Nat} {D : DkV} {T : Nat} {z : Int} (hr : RollAt w ro g z) (h : DkIs L P w g D) (hO : D.Ok T) (hz : 0 ≤ z ∧ z < 3) {n : Nat} (hn : (heldR D z).length = n) :
    Calls Tryd.prog 20 #[.pointer (some ⟨ro, 0, none⟩)] w fun q w' => q = .returned (.int .i64 (n : Int)) ∧ Below w.heap.size w w' := by
  have hu := yUnmade_any hr
  have b4 : Below w.heap.size w w.drew := (Below.refl _ _).drew
  have C1 := Lib.hid (fun w' (q : Below w.heap.size w w') => y_size (h.keep q) hO hz hn)
  have R0 := Lib.hid (fun w' (q : Below w.heap.size w w') => (hr.keep q).c0)
  have R1 := Lib.hid (fun w' (q : Below w.heap.size w w') => (hr.keep q).c1)
  clear hr h hO hn hz
  go_enter Tryd.func20, Tryd.ntmps20
  go_wp2_with fail
  refine hu.mono ?_
  rintro q w1 ⟨rfl, rfl⟩
  clear hu
  go_wp2_with fail
  refine region_seqS (fun w' => Below w.heap.size w w') (by kernel_rfl) b4 ?_
  simp only [pairs, Nat.reduceAdd]
  repeat (first
    | (refine SeqS.take (v := ?_) (by first | assumption | trivial) (by kernel_rfl) (by decide +kernel) (by decide +kernel) (Or.inl ⟨by rfl, ?_⟩) ?_
       rotate_left
       focus
         intro w' hb'
         go_simp
         with_reducible rfl
       simp only [Act.put, List.setIfInBounds_toArray, List.set_cons_zero, List.set_cons_succ])
    | (refine SeqS.take (v := ?_) (by first | assumption | trivial) (by kernel_rfl) (by decide +kernel) (by decide +kernel) (Or.inl ⟨by rfl, ?_⟩) ?_
       rotate_left
       focus
         intro w' hb'
         have d0 := R0.out w' hb'
         go_simp
         with_reducible rfl
       simp only [Act.put, List.setIfInBounds_toArray, List.set_cons_zero, List.set_cons_succ])
    | (refine SeqS.take (v := ?_) (by first | assumption | trivial) (by kernel_rfl) (by decide +kernel) (by decide +kernel) (Or.inl ⟨by rfl, ?_⟩) ?_
       rotate_left
       focus
         intro w' hb'
         have d0 := R1.out w' hb'
         go_simp
         with_reducible rfl
       simp only [Act.put, List.setIfInBounds_toArray, List.set_cons_zero, List.set_cons_succ])
    | (refine SeqS.take (v := undef) (by first | assumption | trivial) (by kernel_rfl) (by decide +kernel) (by decide +kernel) (Or.inr ⟨by rfl, rfl⟩) ?_
       simp only [Act.put, List.setIfInBounds_toArray, List.set_cons_zero, List.set_cons_succ])
    | (refine SeqS.take1 (v := ?_) (by first | assumption | trivial) (by kernel_rfl) (by decide +kernel) (by decide +kernel) (Or.inl ⟨by rfl, ?_⟩) ?_
       rotate_left
       focus
         intro w' hb'
         go_simp
         with_reducible rfl
       simp only [Act.put, List.setIfInBounds_toArray, List.set_cons_zero, List.set_cons_succ])
    | (refine SeqS.take1 (v := ?_) (by first | assumption | trivial) (by kernel_rfl) (by decide +kernel) (by decide +kernel) (Or.inl ⟨by rfl, ?_⟩) ?_
       rotate_left
       focus
         intro w' hb'
         have d0 := R0.out w' hb'
         go_simp
         with_reducible rfl
       simp only [Act.put, List.setIfInBounds_toArray, List.set_cons_zero, List.set_cons_succ])
    | (refine SeqS.take1 (v := ?_) (by first | assumption | trivial) (by kernel_rfl) (by decide +kernel) (by decide +kernel) (Or.inl ⟨by rfl, ?_⟩) ?_
       rotate_left
       focus
         intro w' hb'
         have d0 := R1.out w' hb'
         go_simp
         with_reducible rfl
       simp only [Act.put, List.setIfInBounds_toArray, List.set_cons_zero, List.set_cons_succ])
    | (refine SeqS.take1 (v := undef) (by first | assumption | trivial) (by kernel_rfl) (by decide +kernel) (by decide +kernel) (Or.inr ⟨by rfl, rfl⟩) ?_
       simp only [Act.put, List.setIfInBounds_toArray, List.set_cons_zero, List.set_cons_succ])
    | (refine SeqS.take2 (v := ?_) (by first | assumption | trivial) (by kernel_rfl) (by decide +kernel) (by decide +kernel) (Or.inl ⟨by rfl, ?_⟩) ?_
       rotate_left
       focus
         intro w' hb'
         go_simp
         with_reducible rfl
       simp only [Act.put, List.setIfInBounds_toArray, List.set_cons_zero, List.set_cons_succ])
    | (refine SeqS.take2 (v := ?_) (by first | assumption | trivial) (by kernel_rfl) (by decide +kernel) (by decide +kernel) (Or.inl ⟨by rfl, ?_⟩) ?_
       rotate_left
       focus
         intro w' hb'
         have d0 := R0.out w' hb'
         go_simp
         with_reducible rfl
       simp only [Act.put, List.setIfInBounds_toArray, List.set_cons_zero, List.set_cons_succ])
    | (refine SeqS.take2 (v := ?_) (by first | assumption | trivial) (by kernel_rfl) (by decide +kernel) (by decide +kernel) (Or.inl ⟨by rfl, ?_⟩) ?_
       rotate_left
       focus
         intro w' hb'
         have d0 := R1.out w' hb'
         go_simp
         with_reducible rfl
       simp only [Act.put, List.setIfInBounds_toArray, List.set_cons_zero, List.set_cons_succ])
    | (refine SeqS.take2 (v := undef) (by first | assumption | trivial) (by kernel_rfl) (by decide +kernel) (by decide +kernel) (Or.inr ⟨by rfl, rfl⟩) ?_
       simp only [Act.put, List.setIfInBounds_toArray, List.set_cons_zero, List.set_cons_succ]))
  refine SeqS.alone (by decide +kernel) (by rfl) (fun K hK => ?_)
  go_simp
  go_at_call 38
  refine (C1.out _ b4).mono ?_
  rintro e w1 ⟨rfl, b1⟩
  go_simp
  have S1 : Below w.heap.size w w1 := b4.trans (b1.mono b4.size)
  refine hK _ _ S1 ?_
  clear hK K
  repeat (first
    | (refine SeqS.take (v := ?_) (by first | assumption | trivial) (by kernel_rfl) (by decide +kernel) (by decide +kernel) (Or.inl ⟨by rfl, ?_⟩) ?_
       rotate_left
       focus
         intro w' hb'
         go_simp
         with_reducible rfl
       simp only [Act.put, List.setIfInBounds_toArray, List.set_cons_zero, List.set_cons_succ])
    | (refine SeqS.take (v := undef) (by first | assumption | trivial) (by kernel_rfl) (by decide +kernel) (by decide +kernel) (Or.inr ⟨by rfl, rfl⟩) ?_
       simp only [Act.put, List.setIfInBounds_toArray, List.set_cons_zero, List.set_cons_succ])
    | (refine SeqS.take1 (v := ?_) (by first | assumption | trivial) (by kernel_rfl) (by decide +kernel) (by decide +kernel) (Or.inl ⟨by rfl, ?_⟩) ?_
       rotate_left
       focus
         intro w' hb'
         go_simp
         with_reducible rfl
       simp only [Act.put, List.setIfInBounds_toArray, List.set_cons_zero, List.set_cons_succ])
    | (refine SeqS.take1 (v := undef) (by first | assumption | trivial) (by kernel_rfl) (by decide +kernel) (by decide +kernel) (Or.inr ⟨by rfl, rfl⟩) ?_
       simp only [Act.put, List.setIfInBounds_toArray, List.set_cons_zero, List.set_cons_succ])
    | (refine SeqS.take2 (v := ?_) (by first | assumption | trivial) (by kernel_rfl) (by decide +kernel) (by decide +kernel) (Or.inl ⟨by rfl, ?_⟩) ?_
       rotate_left
       focus
         intro w' hb'
         go_simp
         with_reducible rfl
       simp only [Act.put, List.setIfInBounds_toArray, List.set_cons_zero, List.set_cons_succ])
    | (refine SeqS.take2 (v := undef) (by first | assumption | trivial) (by kernel_rfl) (by decide +kernel) (by decide +kernel) (Or.inr ⟨by rfl, rfl⟩) ?_
       simp only [Act.put, List.setIfInBounds_toArray, List.set_cons_zero, List.set_cons_succ]))
  refine SeqS.done (by decide +kernel) ?_
  go_wp2
  go_ret
  exact ⟨rfl, S1⟩
end Go.Proofs.YtnblknhdchpboaaDoor

/-
  What a roll's mend, Append, Clear and Open come to. The disk's own blocks are written, and new memory. Conditions: of Append and Clear a roll that Open made, of a disk that New made; fewer than 2^42 steps; the files hold bytes.
-/
namespace Go.Proofs.YtnblknhdchpboaaDoor
open Go.RowKit

set_option maxRecDepth 100000 in
set_option maxHeartbeats 4000000 in
theorem yMend_any {L : Nat → Nat} {P : Nat → Prop} {w : World} {ro g : Nat} {D : DkV} {T : Nat} {z : Int} (hr : RollAt w ro g z) (h0 : L ro = 0) (h : DkIs L P w g D) (hO : D.Ok T) (hT : T < 4398046511103) (hD : D.By) (hz : 0 ≤ z ∧ z < 3) (hG : Glob11 w) :
    Calls Tryd.prog 23 #[.pointer (some ⟨ro, 0, none⟩)] w fun q w' => q = .returned (.int .i64 (mdD D z).2) ∧ DkTo L P w g w' (mdD D z).1 := by
  have hby : ∀ x ∈ heldR D z, isByte x := (hD.f _).held
  have hle := held_len hO z
  unfold mdD
  obtain ⟨X, hX⟩ : ∃ X, heldR D z = X := ⟨_, rfl⟩
  obtain ⟨N, hN⟩ : ∃ N, X.length = N := ⟨_, rfl⟩
  obtain ⟨G, hg⟩ : ∃ G, goodF X = G := ⟨_, rfl⟩
  obtain ⟨U, hU⟩ : ∃ U, (D.f z.toNat).units = U := ⟨_, rfl⟩
  have hun := (hO.f z.toNat).un
  rw [hU] at hun
  rw [hX] at hby hle ⊢
  rw [hN] at hle ⊢
  rw [hg, hU]
  obtain ⟨RD, RE, hRR⟩ : ∃ RD RE, (if G < N then keD D z (G : Nat) else if 0 < U then syD D z else (D, 0)) = (RD, RE) := ⟨_, _, rfl⟩
  rw [hRR]
  dsimp only
  have hRH := Lib.hid hRR
  clear hRR
  have b4 : Below w.heap.size w w.drew := (Below.refl _ _).drew
  have CR := Lib.hid (fun w' (q : Below w.heap.size w w') => y_read (h.keep q) hO hz hX hN)
  have CS := Lib.hid (fun w' (q : Below w.heap.size w w') (a : Option Addr) (c : Nat) (I : Ints .u8 w' a N c X) => y_scan (hG.keep q (Nat.le_refl _)) I hby (by omega) q.size rfl hg)
  have CZ := Lib.hid (fun w' (q : Below w.heap.size w w') => ySize_any (hr.keep q) (h.keep q) hO hz (show (heldR D z).length = N by rw [hX, hN]))
  have CK := Lib.hid (fun w' (q : Below w.heap.size w w') => yKeep_any (n := (G : Int)) (hr.keep q) h0 (h.keep q) hO hT)
  have CU := Lib.hid (fun w' (q : Below w.heap.size w w') => y_units (h.keep q) hO hz hU)
  have CY := Lib.hid (fun w' (q : Below w.heap.size w w') => dSync_any (file := z) (h.keep q) hO (by omega))
  have kS := Lib.hid (fun w' (q : Below w.heap.size w w') => DkTo.stay h q)
  have R0 := Lib.hid (fun w' (q : Below w.heap.size w w') => (hr.keep q).c0)
  have R1 := Lib.hid (fun w' (q : Below w.heap.size w w') => (hr.keep q).c1)
  have vH := Lib.hid (fun w' (q : Below w.heap.size w w') => (Went.of_below q : Went L P w L P w'))
  have rH := Lib.hid (fun w' (q : Below w.heap.size w w') => hr.keep q)
  have h0H := Lib.hid h0
  have hgn : ((G : Nat) : Int) ≤ 65536 := by have := goodF_le X; omega
  have hnn : ((N : Nat) : Int) ≤ 65536 := by omega
  clear hr h hO hD hG hX hN hg hby hle hz hT h0 hU hun
  go_enter Tryd.func23, Tryd.ntmps23
  go_wp2_with fail
  refine region_seqS (fun w' => Below w.heap.size w w') (by kernel_rfl) b4 ?_
  simp only [pairs, Nat.reduceAdd]
  repeat (first
    | (refine SeqS.take (v := ?_) (by first | assumption | trivial) (by kernel_rfl) (by decide +kernel) (by decide +kernel) (Or.inl ⟨by rfl, ?_⟩) ?_
       rotate_left
       focus
         intro w' hb'
         go_simp
         with_reducible rfl
       simp only [Act.put, List.setIfInBounds_toArray, List.set_cons_zero, List.set_cons_succ])
    | (refine SeqS.take (v := ?_) (by first | assumption | trivial) (by kernel_rfl) (by decide +kernel) (by decide +kernel) (Or.inl ⟨by rfl, ?_⟩) ?_
       rotate_left
       focus
         intro w' hb'
         have d0 := R0.out w' hb'
         go_simp
         with_reducible rfl
       simp only [Act.put, List.setIfInBounds_toArray, List.set_cons_zero, List.set_cons_succ])
    | (refine SeqS.take (v := ?_) (by first | assumption | trivial) (by kernel_rfl) (by decide +kernel) (by decide +kernel) (Or.inl ⟨by rfl, ?_⟩) ?_
       rotate_left
       focus
         intro w' hb'
         have d0 := R1.out w' hb'
         go_simp
         with_reducible rfl
       simp only [Act.put, List.setIfInBounds_toArray, List.set_cons_zero, List.set_cons_succ])
    | (refine SeqS.take (v := undef) (by first | assumption | trivial) (by kernel_rfl) (by decide +kernel) (by decide +kernel) (Or.inr ⟨by rfl, rfl⟩) ?_
       simp only [Act.put, List.setIfInBounds_toArray, List.set_cons_zero, List.set_cons_succ])
    | (refine SeqS.take1 (v := ?_) (by first | assumption | trivial) (by kernel_rfl) (by decide +kernel) (by decide +kernel) (Or.inl ⟨by rfl, ?_⟩) ?_
       rotate_left
       focus
         intro w' hb'
         go_simp
         with_reducible rfl
       simp only [Act.put, List.setIfInBounds_toArray, List.set_cons_zero, List.set_cons_succ])
    | (refine SeqS.take1 (v := ?_) (by first | assumption | trivial) (by kernel_rfl) (by decide +kernel) (by decide +kernel) (Or.inl ⟨by rfl, ?_⟩) ?_
       rotate_left
       focus
         intro w' hb'
         have d0 := R0.out w' hb'
         go_simp
         with_reducible rfl
       simp only [Act.put, List.setIfInBounds_toArray, List.set_cons_zero, List.set_cons_succ])
    | (refine SeqS.take1 (v := ?_) (by first | assumption | trivial) (by kernel_rfl) (by decide +kernel) (by decide +kernel) (Or.inl ⟨by rfl, ?_⟩) ?_
       rotate_left
       focus
         intro w' hb'
         have d0 := R1.out w' hb'
         go_simp
         with_reducible rfl
       simp only [Act.put, List.setIfInBounds_toArray, List.set_cons_zero, List.set_cons_succ])
    | (refine SeqS.take1 (v := undef) (by first | assumption | trivial) (by kernel_rfl) (by decide +kernel) (by decide +kernel) (Or.inr ⟨by rfl, rfl⟩) ?_
       simp only [Act.put, List.setIfInBounds_toArray, List.set_cons_zero, List.set_cons_succ])
    | (refine SeqS.take2 (v := ?_) (by first | assumption | trivial) (by kernel_rfl) (by decide +kernel) (by decide +kernel) (Or.inl ⟨by rfl, ?_⟩) ?_
       rotate_left
       focus
         intro w' hb'
         go_simp
         with_reducible rfl
       simp only [Act.put, List.setIfInBounds_toArray, List.set_cons_zero, List.set_cons_succ])
    | (refine SeqS.take2 (v := ?_) (by first | assumption | trivial) (by kernel_rfl) (by decide +kernel) (by decide +kernel) (Or.inl ⟨by rfl, ?_⟩) ?_
       rotate_left
       focus
         intro w' hb'
         have d0 := R0.out w' hb'
         go_simp
         with_reducible rfl
       simp only [Act.put, List.setIfInBounds_toArray, List.set_cons_zero, List.set_cons_succ])
    | (refine SeqS.take2 (v := ?_) (by first | assumption | trivial) (by kernel_rfl) (by decide +kernel) (by decide +kernel) (Or.inl ⟨by rfl, ?_⟩) ?_
       rotate_left
       focus
         intro w' hb'
         have d0 := R1.out w' hb'
         go_simp
         with_reducible rfl
       simp only [Act.put, List.setIfInBounds_toArray, List.set_cons_zero, List.set_cons_succ])
    | (refine SeqS.take2 (v := undef) (by first | assumption | trivial) (by kernel_rfl) (by decide +kernel) (by decide +kernel) (Or.inr ⟨by rfl, rfl⟩) ?_
       simp only [Act.put, List.setIfInBounds_toArray, List.set_cons_zero, List.set_cons_succ]))
  refine SeqS.alone (by decide +kernel) (by rfl) (fun K hK => ?_)
  go_simp
  go_at_call 30
  refine (CR.out _ b4).mono ?_
  rintro e w1 ⟨a1, c1, rfl, I1, b1⟩
  go_simp
  have S1 : Below w.heap.size w w1 := b4.trans (b1.mono b4.size)
  refine hK _ _ S1 ?_
  clear hK K
  refine SeqS.alone (by decide +kernel) (by rfl) (fun K hK => ?_)
  go_simp
  go_at_call 29
  refine (CS.out _ S1 _ _ I1).mono ?_
  rintro e w2 ⟨v2, rfl, R2, b2⟩
  go_simp
  have S2 : Below w.heap.size w w2 := S1.trans (b2.mono S1.size)
  refine hK _ _ S2 ?_
  clear hK K
  repeat (first
    | (refine SeqS.take (v := ?_) (by first | assumption | trivial) (by kernel_rfl) (by decide +kernel) (by decide +kernel) (Or.inl ⟨by rfl, ?_⟩) ?_
       rotate_left
       focus
         intro w' hb'
         go_simp
         with_reducible rfl
       simp only [Act.put, List.setIfInBounds_toArray, List.set_cons_zero, List.set_cons_succ])
    | (refine SeqS.take (v := undef) (by first | assumption | trivial) (by kernel_rfl) (by decide +kernel) (by decide +kernel) (Or.inr ⟨by rfl, rfl⟩) ?_
       simp only [Act.put, List.setIfInBounds_toArray, List.set_cons_zero, List.set_cons_succ])
    | (refine SeqS.take1 (v := ?_) (by first | assumption | trivial) (by kernel_rfl) (by decide +kernel) (by decide +kernel) (Or.inl ⟨by rfl, ?_⟩) ?_
       rotate_left
       focus
         intro w' hb'
         go_simp
         with_reducible rfl
       simp only [Act.put, List.setIfInBounds_toArray, List.set_cons_zero, List.set_cons_succ])
    | (refine SeqS.take1 (v := undef) (by first | assumption | trivial) (by kernel_rfl) (by decide +kernel) (by decide +kernel) (Or.inr ⟨by rfl, rfl⟩) ?_
       simp only [Act.put, List.setIfInBounds_toArray, List.set_cons_zero, List.set_cons_succ])
    | (refine SeqS.take2 (v := ?_) (by first | assumption | trivial) (by kernel_rfl) (by decide +kernel) (by decide +kernel) (Or.inl ⟨by rfl, ?_⟩) ?_
       rotate_left
       focus
         intro w' hb'
         go_simp
         with_reducible rfl
       simp only [Act.put, List.setIfInBounds_toArray, List.set_cons_zero, List.set_cons_succ])
    | (refine SeqS.take2 (v := undef) (by first | assumption | trivial) (by kernel_rfl) (by decide +kernel) (by decide +kernel) (Or.inr ⟨by rfl, rfl⟩) ?_
       simp only [Act.put, List.setIfInBounds_toArray, List.set_cons_zero, List.set_cons_succ]))
  refine SeqS.done (by decide +kernel) ?_
  have CZ2 := CZ.out _ S2
  clear CR CS CZ I1 S1 b1 b2 R2
  go_wp2_with fail
  refine CZ2.mono ?_
  rintro q w3 ⟨rfl, b3⟩
  have S3 : Below w.heap.size w w3 := chain S2 b3
  clear CZ2 S2 b3
  by_cases hlt : G < N
  · have hlt' : ((G : Nat) : Int) < ((N : Nat) : Int) := by omega
    have hR := hRH.out
    rw [if_pos hlt] at hR
    have CK3 := CK.out _ S3
    rw [hR] at CK3
    dsimp only at CK3
    have vw := vH.out _ S3
    clear CK CU CY R0 R1 kS hlt hR hRH hgn hnn vH rH h0H
    go_wp2_with fail
    refine CK3.mono ?_
    rintro q w4 ⟨rfl, t4⟩
    have tt := DkTo.trans vw t4
    clear CK3 t4 vw
    go_wp2
    go_ret
    exact ⟨rfl, tt⟩
  · have hlt' : ¬ ((G : Nat) : Int) < ((N : Nat) : Int) := by omega
    have S4 : Below w.heap.size w w3.drew := S3.drew
    have hltH := Lib.hid hlt
    clear CK hlt hgn hnn
    go_wp2_with fail
    refine region_seqS (fun w' => Below w.heap.size w w') (by kernel_rfl) S4 ?_
    simp only [pairs, Nat.reduceAdd]
    repeat (first
      | (refine SeqS.take (v := ?_) (by first | assumption | trivial) (by kernel_rfl) (by decide +kernel) (by decide +kernel) (Or.inl ⟨by rfl, ?_⟩) ?_
         rotate_left
         focus
           intro w' hb'
           go_simp
           with_reducible rfl
         simp only [Act.put, List.setIfInBounds_toArray, List.set_cons_zero, List.set_cons_succ])
      | (refine SeqS.take (v := ?_) (by first | assumption | trivial) (by kernel_rfl) (by decide +kernel) (by decide +kernel) (Or.inl ⟨by rfl, ?_⟩) ?_
         rotate_left
         focus
           intro w' hb'
           have d0 := R0.out w' hb'
           go_simp
           with_reducible rfl
         simp only [Act.put, List.setIfInBounds_toArray, List.set_cons_zero, List.set_cons_succ])
      | (refine SeqS.take (v := ?_) (by first | assumption | trivial) (by kernel_rfl) (by decide +kernel) (by decide +kernel) (Or.inl ⟨by rfl, ?_⟩) ?_
         rotate_left
         focus
           intro w' hb'
           have d0 := R1.out w' hb'
           go_simp
           with_reducible rfl
         simp only [Act.put, List.setIfInBounds_toArray, List.set_cons_zero, List.set_cons_succ])
      | (refine SeqS.take (v := undef) (by first | assumption | trivial) (by kernel_rfl) (by decide +kernel) (by decide +kernel) (Or.inr ⟨by rfl, rfl⟩) ?_
         simp only [Act.put, List.setIfInBounds_toArray, List.set_cons_zero, List.set_cons_succ])
      | (refine SeqS.take1 (v := ?_) (by first | assumption | trivial) (by kernel_rfl) (by decide +kernel) (by decide +kernel) (Or.inl ⟨by rfl, ?_⟩) ?_
         rotate_left
         focus
           intro w' hb'
           go_simp
           with_reducible rfl
         simp only [Act.put, List.setIfInBounds_toArray, List.set_cons_zero, List.set_cons_succ])
      | (refine SeqS.take1 (v := ?_) (by first | assumption | trivial) (by kernel_rfl) (by decide +kernel) (by decide +kernel) (Or.inl ⟨by rfl, ?_⟩) ?_
         rotate_left
         focus
           intro w' hb'
           have d0 := R0.out w' hb'
           go_simp
           with_reducible rfl
         simp only [Act.put, List.setIfInBounds_toArray, List.set_cons_zero, List.set_cons_succ])
      | (refine SeqS.take1 (v := ?_) (by first | assumption | trivial) (by kernel_rfl) (by decide +kernel) (by decide +kernel) (Or.inl ⟨by rfl, ?_⟩) ?_
         rotate_left
         focus
           intro w' hb'
           have d0 := R1.out w' hb'
           go_simp
           with_reducible rfl
         simp only [Act.put, List.setIfInBounds_toArray, List.set_cons_zero, List.set_cons_succ])
      | (refine SeqS.take1 (v := undef) (by first | assumption | trivial) (by kernel_rfl) (by decide +kernel) (by decide +kernel) (Or.inr ⟨by rfl, rfl⟩) ?_
         simp only [Act.put, List.setIfInBounds_toArray, List.set_cons_zero, List.set_cons_succ])
      | (refine SeqS.take2 (v := ?_) (by first | assumption | trivial) (by kernel_rfl) (by decide +kernel) (by decide +kernel) (Or.inl ⟨by rfl, ?_⟩) ?_
         rotate_left
         focus
           intro w' hb'
           go_simp
           with_reducible rfl
         simp only [Act.put, List.setIfInBounds_toArray, List.set_cons_zero, List.set_cons_succ])
      | (refine SeqS.take2 (v := ?_) (by first | assumption | trivial) (by kernel_rfl) (by decide +kernel) (by decide +kernel) (Or.inl ⟨by rfl, ?_⟩) ?_
         rotate_left
         focus
           intro w' hb'
           have d0 := R0.out w' hb'
           go_simp
           with_reducible rfl
         simp only [Act.put, List.setIfInBounds_toArray, List.set_cons_zero, List.set_cons_succ])
      | (refine SeqS.take2 (v := ?_) (by first | assumption | trivial) (by kernel_rfl) (by decide +kernel) (by decide +kernel) (Or.inl ⟨by rfl, ?_⟩) ?_
         rotate_left
         focus
           intro w' hb'
           have d0 := R1.out w' hb'
           go_simp
           with_reducible rfl
         simp only [Act.put, List.setIfInBounds_toArray, List.set_cons_zero, List.set_cons_succ])
      | (refine SeqS.take2 (v := undef) (by first | assumption | trivial) (by kernel_rfl) (by decide +kernel) (by decide +kernel) (Or.inr ⟨by rfl, rfl⟩) ?_
         simp only [Act.put, List.setIfInBounds_toArray, List.set_cons_zero, List.set_cons_succ]))
    refine SeqS.alone (by decide +kernel) (by rfl) (fun K hK => ?_)
    go_simp
    go_at_call 39
    refine (CU.out _ S4).mono ?_
    rintro q w5 ⟨rfl, b5⟩
    go_simp
    have S5 : Below w.heap.size w w5 := chain S4 b5
    refine hK _ _ S5 ?_
    clear hK K b5 CU S4
    repeat (first
      | (refine SeqS.take (v := ?_) (by first | assumption | trivial) (by kernel_rfl) (by decide +kernel) (by decide +kernel) (Or.inl ⟨by rfl, ?_⟩) ?_
         rotate_left
         focus
           intro w' hb'
           go_simp
           with_reducible rfl
         simp only [Act.put, List.setIfInBounds_toArray, List.set_cons_zero, List.set_cons_succ])
      | (refine SeqS.take (v := undef) (by first | assumption | trivial) (by kernel_rfl) (by decide +kernel) (by decide +kernel) (Or.inr ⟨by rfl, rfl⟩) ?_
         simp only [Act.put, List.setIfInBounds_toArray, List.set_cons_zero, List.set_cons_succ])
      | (refine SeqS.take1 (v := ?_) (by first | assumption | trivial) (by kernel_rfl) (by decide +kernel) (by decide +kernel) (Or.inl ⟨by rfl, ?_⟩) ?_
         rotate_left
         focus
           intro w' hb'
           go_simp
           with_reducible rfl
         simp only [Act.put, List.setIfInBounds_toArray, List.set_cons_zero, List.set_cons_succ])
      | (refine SeqS.take1 (v := undef) (by first | assumption | trivial) (by kernel_rfl) (by decide +kernel) (by decide +kernel) (Or.inr ⟨by rfl, rfl⟩) ?_
         simp only [Act.put, List.setIfInBounds_toArray, List.set_cons_zero, List.set_cons_succ])
      | (refine SeqS.take2 (v := ?_) (by first | assumption | trivial) (by kernel_rfl) (by decide +kernel) (by decide +kernel) (Or.inl ⟨by rfl, ?_⟩) ?_
         rotate_left
         focus
           intro w' hb'
           go_simp
           with_reducible rfl
         simp only [Act.put, List.setIfInBounds_toArray, List.set_cons_zero, List.set_cons_succ])
      | (refine SeqS.take2 (v := undef) (by first | assumption | trivial) (by kernel_rfl) (by decide +kernel) (by decide +kernel) (Or.inr ⟨by rfl, rfl⟩) ?_
         simp only [Act.put, List.setIfInBounds_toArray, List.set_cons_zero, List.set_cons_succ]))
    refine SeqS.done (by decide +kernel) ?_
    by_cases hu : 0 < U
    · have hu' : (0 : Int) < (U : Int) := by omega
      have hR := hRH.out
      rw [if_neg hltH.out, if_pos hu] at hR
      have CY5 := CY.out w5.drew S5.drew
      rw [hR] at CY5
      dsimp only at CY5
      have r5 := rH.out w5.drew S5.drew
      have vw := vH.out w5.drew S5.drew
      clear CY hR hRH hltH R0 R1 kS vH rH hu
      go_wp2_with fail
      refine region_seqS (fun w' => RollAt w' ro g z) (by kernel_rfl) r5 ?_
      simp only [pairs, Nat.reduceAdd]
      repeat (first
        | (refine SeqS.take (v := ?_) (by first | assumption | trivial) (by kernel_rfl) (by decide +kernel) (by decide +kernel) (Or.inl ⟨by rfl, ?_⟩) ?_
           rotate_left
           focus
             intro w' hb'
             go_simp
             with_reducible rfl
           simp only [Act.put, List.setIfInBounds_toArray, List.set_cons_zero, List.set_cons_succ])
        | (refine SeqS.take (v := ?_) (by first | assumption | trivial) (by kernel_rfl) (by decide +kernel) (by decide +kernel) (Or.inl ⟨by rfl, ?_⟩) ?_
           rotate_left
           focus
             intro w' hb'
             have d0 := RollAt.c0 hb'
             go_simp
             with_reducible rfl
           simp only [Act.put, List.setIfInBounds_toArray, List.set_cons_zero, List.set_cons_succ])
        | (refine SeqS.take (v := ?_) (by first | assumption | trivial) (by kernel_rfl) (by decide +kernel) (by decide +kernel) (Or.inl ⟨by rfl, ?_⟩) ?_
           rotate_left
           focus
             intro w' hb'
             have d0 := RollAt.c1 hb'
             go_simp
             with_reducible rfl
           simp only [Act.put, List.setIfInBounds_toArray, List.set_cons_zero, List.set_cons_succ])
        | (refine SeqS.take (v := undef) (by first | assumption | trivial) (by kernel_rfl) (by decide +kernel) (by decide +kernel) (Or.inr ⟨by rfl, rfl⟩) ?_
           simp only [Act.put, List.setIfInBounds_toArray, List.set_cons_zero, List.set_cons_succ])
        | (refine SeqS.take1 (v := ?_) (by first | assumption | trivial) (by kernel_rfl) (by decide +kernel) (by decide +kernel) (Or.inl ⟨by rfl, ?_⟩) ?_
           rotate_left
           focus
             intro w' hb'
             go_simp
             with_reducible rfl
           simp only [Act.put, List.setIfInBounds_toArray, List.set_cons_zero, List.set_cons_succ])
        | (refine SeqS.take1 (v := ?_) (by first | assumption | trivial) (by kernel_rfl) (by decide +kernel) (by decide +kernel) (Or.inl ⟨by rfl, ?_⟩) ?_
           rotate_left
           focus
             intro w' hb'
             have d0 := RollAt.c0 hb'
             go_simp
             with_reducible rfl
           simp only [Act.put, List.setIfInBounds_toArray, List.set_cons_zero, List.set_cons_succ])
        | (refine SeqS.take1 (v := ?_) (by first | assumption | trivial) (by kernel_rfl) (by decide +kernel) (by decide +kernel) (Or.inl ⟨by rfl, ?_⟩) ?_
           rotate_left
           focus
             intro w' hb'
             have d0 := RollAt.c1 hb'
             go_simp
             with_reducible rfl
           simp only [Act.put, List.setIfInBounds_toArray, List.set_cons_zero, List.set_cons_succ])
        | (refine SeqS.take1 (v := undef) (by first | assumption | trivial) (by kernel_rfl) (by decide +kernel) (by decide +kernel) (Or.inr ⟨by rfl, rfl⟩) ?_
           simp only [Act.put, List.setIfInBounds_toArray, List.set_cons_zero, List.set_cons_succ])
        | (refine SeqS.take2 (v := ?_) (by first | assumption | trivial) (by kernel_rfl) (by decide +kernel) (by decide +kernel) (Or.inl ⟨by rfl, ?_⟩) ?_
           rotate_left
           focus
             intro w' hb'
             go_simp
             with_reducible rfl
           simp only [Act.put, List.setIfInBounds_toArray, List.set_cons_zero, List.set_cons_succ])
        | (refine SeqS.take2 (v := ?_) (by first | assumption | trivial) (by kernel_rfl) (by decide +kernel) (by decide +kernel) (Or.inl ⟨by rfl, ?_⟩) ?_
           rotate_left
           focus
             intro w' hb'
             have d0 := RollAt.c0 hb'
             go_simp
             with_reducible rfl
           simp only [Act.put, List.setIfInBounds_toArray, List.set_cons_zero, List.set_cons_succ])
        | (refine SeqS.take2 (v := ?_) (by first | assumption | trivial) (by kernel_rfl) (by decide +kernel) (by decide +kernel) (Or.inl ⟨by rfl, ?_⟩) ?_
           rotate_left
           focus
             intro w' hb'
             have d0 := RollAt.c1 hb'
             go_simp
             with_reducible rfl
           simp only [Act.put, List.setIfInBounds_toArray, List.set_cons_zero, List.set_cons_succ])
        | (refine SeqS.take2 (v := undef) (by first | assumption | trivial) (by kernel_rfl) (by decide +kernel) (by decide +kernel) (Or.inr ⟨by rfl, rfl⟩) ?_
           simp only [Act.put, List.setIfInBounds_toArray, List.set_cons_zero, List.set_cons_succ]))
      refine SeqS.alone (by decide +kernel) (by rfl) (fun K hK => ?_)
      go_simp
      go_at_call 16
      refine CY5.mono ?_
      rintro q w6 ⟨rfl, L2, P2, k2, v2⟩
      have r6 := v2.roll r5 h0H.out
      go_simp
      refine hK _ _ r6 ?_
      clear hK K CY5 r5
      repeat (first
        | (refine SeqS.take (v := ?_) (by first | assumption | trivial) (by kernel_rfl) (by decide +kernel) (by decide +kernel) (Or.inl ⟨by rfl, ?_⟩) ?_
           rotate_left
           focus
             intro w' hb'
             go_simp
             with_reducible rfl
           simp only [Act.put, List.setIfInBounds_toArray, List.set_cons_zero, List.set_cons_succ])
        | (refine SeqS.take (v := undef) (by first | assumption | trivial) (by kernel_rfl) (by decide +kernel) (by decide +kernel) (Or.inr ⟨by rfl, rfl⟩) ?_
           simp only [Act.put, List.setIfInBounds_toArray, List.set_cons_zero, List.set_cons_succ])
        | (refine SeqS.take1 (v := ?_) (by first | assumption | trivial) (by kernel_rfl) (by decide +kernel) (by decide +kernel) (Or.inl ⟨by rfl, ?_⟩) ?_
           rotate_left
           focus
             intro w' hb'
             go_simp
             with_reducible rfl
           simp only [Act.put, List.setIfInBounds_toArray, List.set_cons_zero, List.set_cons_succ])
        | (refine SeqS.take1 (v := undef) (by first | assumption | trivial) (by kernel_rfl) (by decide +kernel) (by decide +kernel) (Or.inr ⟨by rfl, rfl⟩) ?_
           simp only [Act.put, List.setIfInBounds_toArray, List.set_cons_zero, List.set_cons_succ])
        | (refine SeqS.take2 (v := ?_) (by first | assumption | trivial) (by kernel_rfl) (by decide +kernel) (by decide +kernel) (Or.inl ⟨by rfl, ?_⟩) ?_
           rotate_left
           focus
             intro w' hb'
             go_simp
             with_reducible rfl
           simp only [Act.put, List.setIfInBounds_toArray, List.set_cons_zero, List.set_cons_succ])
        | (refine SeqS.take2 (v := undef) (by first | assumption | trivial) (by kernel_rfl) (by decide +kernel) (by decide +kernel) (Or.inr ⟨by rfl, rfl⟩) ?_
           simp only [Act.put, List.setIfInBounds_toArray, List.set_cons_zero, List.set_cons_succ]))
      refine SeqS.done (by decide +kernel) ?_
      go_wp2
      go_ret
      exact ⟨rfl, L2, P2, k2, vw.trans v2⟩
    · have hu' : ¬ (0 : Int) < (U : Int) := by omega
      have hR := hRH.out
      rw [if_neg hltH.out, if_neg hu] at hR
      injection hR with hR1 hR2
      subst hR1; subst hR2
      have k5 := kS.out w5 S5
      clear CY R0 R1 kS vH rH hu hRH
      go_wp2
      go_ret
      exact ⟨rfl, k5⟩

set_option maxRecDepth 100000 in
set_option maxHeartbeats 800000 in
theorem yClear_any {L : Nat → Nat} {P : Nat → Prop} {w : World} {ro g : Nat} {D : DkV} {T : Nat} {z : Int} (hr : RollAt w ro g z) (h0 : L ro = 0) (h : DkIs L P w g D) (hO : D.Ok T) (hT : T < 4398046511103) :
    Calls Tryd.prog 18 #[.pointer (some ⟨ro, 0, none⟩)] w fun q w' => q = .returned (.int .i64 (keD D z 0).2) ∧ DkTo L P w g w' (keD D z 0).1 := by
  have hu := yUnmade_any hr
  have hK := yKeep_any (n := 0) hr h0 h hO hT
  clear hr h0 h hO hT
  go_enter Tryd.func18, Tryd.ntmps18
  go_wp2_with fail
  refine hu.mono ?_
  rintro q w1 ⟨rfl, rfl⟩
  clear hu
  go_wp2_with fail
  refine hK.mono ?_
  rintro q w2 ⟨rfl, t2⟩
  clear hK
  go_wp2
  go_ret
  exact ⟨rfl, t2⟩

set_option maxRecDepth 100000 in
set_option maxHeartbeats 4000000 in
theorem yAppend_any {L : Nat → Nat} {P : Nat → Prop} {w : World} {ro g : Nat} {D : DkV} {T : Nat} {z : Int} {a : Option Addr} {n c : Nat} {bs : List Int} (hr : RollAt w ro g z) (h0 : L ro = 0) (h : DkIs L P w g D) (hO : D.Ok T) (hT : T < 4398046511103) (hG : Glob11 w) (hI : Ints .u8 w a n c bs) (hb : ∀ x ∈ bs, isByte x) (hn : n ≤ 140737488355328) :
    Calls Tryd.prog 11 #[.pointer (some ⟨ro, 0, none⟩), .slice a n c] w fun q w' => q = .returned (.int .i64 (prD D z bs).2) ∧ DkTo L P w g w' (prD D z bs).1 := by
  have hu := yUnmade_any hr
  have hE := fEncode_any a n c bs w hG hI hb hn
  unfold prD
  have hs := Lib.hid (fun w' (q : Below w.heap.size w w') => DkTo.stay h q)
  by_cases hno : bs.length < 1 ∨ 65536 < bs.length
  · rw [if_pos hno]
    have he : encF bs = ([], 1) := by unfold encF; rw [if_pos hno]
    rw [he] at hE
    dsimp only at hE ⊢
    clear he hno hr h0 h hO hT hG hI hb hn
    go_enter Tryd.func11, Tryd.ntmps11
    go_wp2_with fail
    refine hu.mono ?_
    rintro q w1 ⟨rfl, rfl⟩
    clear hu
    go_wp2_with fail
    refine hE.mono ?_
    rintro q w2 ⟨b2, d2, rfl, _, b2'⟩
    have t2 := hs.out _ b2'
    clear hE b2'
    go_wp2
    go_ret
    exact ⟨rfl, t2⟩
  rw [if_neg hno]
  have he : encF bs = (frB bs, 0) := by unfold encF; rw [if_neg hno]
  rw [he] at hE
  have hok := apD_ok hO z (frB bs)
  obtain ⟨M, hM⟩ : ∃ M, frB bs = M := ⟨_, rfl⟩
  rw [hM] at hE hok ⊢
  obtain ⟨N, hN⟩ : ∃ N, M.length = N := ⟨_, rfl⟩
  dsimp only at hE
  rw [hN] at hE
  have cA := Lib.hid (fun w' (q : Below w.heap.size w w') (a : Option Addr) (c : Nat) (I : Ints .u8 w' a N c M) => dAppend_any (file := z) (h.keep q) hO (by omega) I)
  obtain ⟨D1, e1, he1⟩ : ∃ D1 e1, apD D z M = (D1, e1) := ⟨_, _, rfl⟩
  rw [he1] at cA hok ⊢
  dsimp only at cA hok ⊢
  have cS := Lib.hid (fun (L1 : Nat → Nat) (P1 : Nat → Prop) (w1 : World) (k : DkIs L1 P1 w1 g D1) => dSync_any (file := z) k hok (by omega))
  have rH := Lib.hid (fun w' (q : Below w.heap.size w w') => hr.keep q)
  have vH := Lib.hid (fun w' (q : Below w.heap.size w w') => (Went.of_below q : Went L P w L P w'))
  have h0H := Lib.hid h0
  clear he hno hr h0 h hO hT hG hI hb hn hM hN hok he1
  by_cases h1 : e1 = 0
  · subst h1
    rw [if_pos rfl]
    obtain ⟨D2, e2, he2⟩ : ∃ D2 e2, syD D1 z = (D2, e2) := ⟨_, _, rfl⟩
    rw [he2] at cS ⊢
    dsimp only at cS ⊢
    clear he2
    go_enter Tryd.func11, Tryd.ntmps11
    go_wp2_with fail
    refine hu.mono ?_
    rintro q w1 ⟨rfl, rfl⟩
    clear hu
    go_wp2_with fail
    refine hE.mono ?_
    rintro q w2 ⟨b2, d2, rfl, o2, q2⟩
    have I2 := own_ints' o2
    have q3 : Below w.heap.size w w2.drew := q2.drew
    have cA2 := cA.out w2.drew q3 b2 d2 I2
    have r2 := rH.out w2.drew q3
    have v0 := vH.out w2.drew q3
    clear hE cA o2 I2 q2 q3
    go_wp2_with fail
    refine region_seqS (fun w' => RollAt w' ro g z) (by kernel_rfl) r2 ?_
    simp only [pairs, Nat.reduceAdd]
    repeat (first
      | (refine SeqS.take (v := ?_) (by first | assumption | trivial) (by kernel_rfl) (by decide +kernel) (by decide +kernel) (Or.inl ⟨by rfl, ?_⟩) ?_
         rotate_left
         focus
           intro w' hb'
           go_simp
           with_reducible rfl
         simp only [Act.put, List.setIfInBounds_toArray, List.set_cons_zero, List.set_cons_succ])
      | (refine SeqS.take (v := ?_) (by first | assumption | trivial) (by kernel_rfl) (by decide +kernel) (by decide +kernel) (Or.inl ⟨by rfl, ?_⟩) ?_
         rotate_left
         focus
           intro w' hb'
           have d0 := RollAt.c0 hb'
           go_simp
           with_reducible rfl
         simp only [Act.put, List.setIfInBounds_toArray, List.set_cons_zero, List.set_cons_succ])
      | (refine SeqS.take (v := ?_) (by first | assumption | trivial) (by kernel_rfl) (by decide +kernel) (by decide +kernel) (Or.inl ⟨by rfl, ?_⟩) ?_
         rotate_left
         focus
           intro w' hb'
           have d0 := RollAt.c1 hb'
           go_simp
           with_reducible rfl
         simp only [Act.put, List.setIfInBounds_toArray, List.set_cons_zero, List.set_cons_succ])
      | (refine SeqS.take (v := undef) (by first | assumption | trivial) (by kernel_rfl) (by decide +kernel) (by decide +kernel) (Or.inr ⟨by rfl, rfl⟩) ?_
         simp only [Act.put, List.setIfInBounds_toArray, List.set_cons_zero, List.set_cons_succ])
      | (refine SeqS.take1 (v := ?_) (by first | assumption | trivial) (by kernel_rfl) (by decide +kernel) (by decide +kernel) (Or.inl ⟨by rfl, ?_⟩) ?_
         rotate_left
         focus
           intro w' hb'
           go_simp
           with_reducible rfl
         simp only [Act.put, List.setIfInBounds_toArray, List.set_cons_zero, List.set_cons_succ])
      | (refine SeqS.take1 (v := ?_) (by first | assumption | trivial) (by kernel_rfl) (by decide +kernel) (by decide +kernel) (Or.inl ⟨by rfl, ?_⟩) ?_
         rotate_left
         focus
           intro w' hb'
           have d0 := RollAt.c0 hb'
           go_simp
           with_reducible rfl
         simp only [Act.put, List.setIfInBounds_toArray, List.set_cons_zero, List.set_cons_succ])
      | (refine SeqS.take1 (v := ?_) (by first | assumption | trivial) (by kernel_rfl) (by decide +kernel) (by decide +kernel) (Or.inl ⟨by rfl, ?_⟩) ?_
         rotate_left
         focus
           intro w' hb'
           have d0 := RollAt.c1 hb'
           go_simp
           with_reducible rfl
         simp only [Act.put, List.setIfInBounds_toArray, List.set_cons_zero, List.set_cons_succ])
      | (refine SeqS.take1 (v := undef) (by first | assumption | trivial) (by kernel_rfl) (by decide +kernel) (by decide +kernel) (Or.inr ⟨by rfl, rfl⟩) ?_
         simp only [Act.put, List.setIfInBounds_toArray, List.set_cons_zero, List.set_cons_succ])
      | (refine SeqS.take2 (v := ?_) (by first | assumption | trivial) (by kernel_rfl) (by decide +kernel) (by decide +kernel) (Or.inl ⟨by rfl, ?_⟩) ?_
         rotate_left
         focus
           intro w' hb'
           go_simp
           with_reducible rfl
         simp only [Act.put, List.setIfInBounds_toArray, List.set_cons_zero, List.set_cons_succ])
      | (refine SeqS.take2 (v := ?_) (by first | assumption | trivial) (by kernel_rfl) (by decide +kernel) (by decide +kernel) (Or.inl ⟨by rfl, ?_⟩) ?_
         rotate_left
         focus
           intro w' hb'
           have d0 := RollAt.c0 hb'
           go_simp
           with_reducible rfl
         simp only [Act.put, List.setIfInBounds_toArray, List.set_cons_zero, List.set_cons_succ])
      | (refine SeqS.take2 (v := ?_) (by first | assumption | trivial) (by kernel_rfl) (by decide +kernel) (by decide +kernel) (Or.inl ⟨by rfl, ?_⟩) ?_
         rotate_left
         focus
           intro w' hb'
           have d0 := RollAt.c1 hb'
           go_simp
           with_reducible rfl
         simp only [Act.put, List.setIfInBounds_toArray, List.set_cons_zero, List.set_cons_succ])
      | (refine SeqS.take2 (v := undef) (by first | assumption | trivial) (by kernel_rfl) (by decide +kernel) (by decide +kernel) (Or.inr ⟨by rfl, rfl⟩) ?_
         simp only [Act.put, List.setIfInBounds_toArray, List.set_cons_zero, List.set_cons_succ]))
    refine SeqS.alone (by decide +kernel) (by rfl) (fun K hK => ?_)
    go_simp
    go_at_call 15
    refine cA2.mono ?_
    rintro q w3 ⟨rfl, L1, P1, k1, v1⟩
    have r3 := v1.roll r2 h0H.out
    have l3 := v1.lab r2 h0H.out
    go_simp
    refine hK _ _ r3 ?_
    clear hK K cA2 r2
    repeat (first
      | (refine SeqS.take (v := ?_) (by first | assumption | trivial) (by kernel_rfl) (by decide +kernel) (by decide +kernel) (Or.inl ⟨by rfl, ?_⟩) ?_
         rotate_left
         focus
           intro w' hb'
           go_simp
           with_reducible rfl
         simp only [Act.put, List.setIfInBounds_toArray, List.set_cons_zero, List.set_cons_succ])
      | (refine SeqS.take (v := undef) (by first | assumption | trivial) (by kernel_rfl) (by decide +kernel) (by decide +kernel) (Or.inr ⟨by rfl, rfl⟩) ?_
         simp only [Act.put, List.setIfInBounds_toArray, List.set_cons_zero, List.set_cons_succ])
      | (refine SeqS.take1 (v := ?_) (by first | assumption | trivial) (by kernel_rfl) (by decide +kernel) (by decide +kernel) (Or.inl ⟨by rfl, ?_⟩) ?_
         rotate_left
         focus
           intro w' hb'
           go_simp
           with_reducible rfl
         simp only [Act.put, List.setIfInBounds_toArray, List.set_cons_zero, List.set_cons_succ])
      | (refine SeqS.take1 (v := undef) (by first | assumption | trivial) (by kernel_rfl) (by decide +kernel) (by decide +kernel) (Or.inr ⟨by rfl, rfl⟩) ?_
         simp only [Act.put, List.setIfInBounds_toArray, List.set_cons_zero, List.set_cons_succ])
      | (refine SeqS.take2 (v := ?_) (by first | assumption | trivial) (by kernel_rfl) (by decide +kernel) (by decide +kernel) (Or.inl ⟨by rfl, ?_⟩) ?_
         rotate_left
         focus
           intro w' hb'
           go_simp
           with_reducible rfl
         simp only [Act.put, List.setIfInBounds_toArray, List.set_cons_zero, List.set_cons_succ])
      | (refine SeqS.take2 (v := undef) (by first | assumption | trivial) (by kernel_rfl) (by decide +kernel) (by decide +kernel) (Or.inr ⟨by rfl, rfl⟩) ?_
         simp only [Act.put, List.setIfInBounds_toArray, List.set_cons_zero, List.set_cons_succ]))
    refine SeqS.done (by decide +kernel) ?_
    have b5 : Below w3.heap.size w3 w3.drew := (Below.refl _ _).drew
    have r4 : RollAt w3.drew ro g z := r3.keep b5
    have cS3 := cS.out L1 P1 w3.drew (k1.keep b5)
    clear b5 cS
    go_wp2_with fail
    refine region_seqS (fun w' => RollAt w' ro g z) (by kernel_rfl) r4 ?_
    simp only [pairs, Nat.reduceAdd]
    repeat (first
      | (refine SeqS.take (v := ?_) (by first | assumption | trivial) (by kernel_rfl) (by decide +kernel) (by decide +kernel) (Or.inl ⟨by rfl, ?_⟩) ?_
         rotate_left
         focus
           intro w' hb'
           go_simp
           with_reducible rfl
         simp only [Act.put, List.setIfInBounds_toArray, List.set_cons_zero, List.set_cons_succ])
      | (refine SeqS.take (v := ?_) (by first | assumption | trivial) (by kernel_rfl) (by decide +kernel) (by decide +kernel) (Or.inl ⟨by rfl, ?_⟩) ?_
         rotate_left
         focus
           intro w' hb'
           have d0 := RollAt.c0 hb'
           go_simp
           with_reducible rfl
         simp only [Act.put, List.setIfInBounds_toArray, List.set_cons_zero, List.set_cons_succ])
      | (refine SeqS.take (v := ?_) (by first | assumption | trivial) (by kernel_rfl) (by decide +kernel) (by decide +kernel) (Or.inl ⟨by rfl, ?_⟩) ?_
         rotate_left
         focus
           intro w' hb'
           have d0 := RollAt.c1 hb'
           go_simp
           with_reducible rfl
         simp only [Act.put, List.setIfInBounds_toArray, List.set_cons_zero, List.set_cons_succ])
      | (refine SeqS.take (v := undef) (by first | assumption | trivial) (by kernel_rfl) (by decide +kernel) (by decide +kernel) (Or.inr ⟨by rfl, rfl⟩) ?_
         simp only [Act.put, List.setIfInBounds_toArray, List.set_cons_zero, List.set_cons_succ])
      | (refine SeqS.take1 (v := ?_) (by first | assumption | trivial) (by kernel_rfl) (by decide +kernel) (by decide +kernel) (Or.inl ⟨by rfl, ?_⟩) ?_
         rotate_left
         focus
           intro w' hb'
           go_simp
           with_reducible rfl
         simp only [Act.put, List.setIfInBounds_toArray, List.set_cons_zero, List.set_cons_succ])
      | (refine SeqS.take1 (v := ?_) (by first | assumption | trivial) (by kernel_rfl) (by decide +kernel) (by decide +kernel) (Or.inl ⟨by rfl, ?_⟩) ?_
         rotate_left
         focus
           intro w' hb'
           have d0 := RollAt.c0 hb'
           go_simp
           with_reducible rfl
         simp only [Act.put, List.setIfInBounds_toArray, List.set_cons_zero, List.set_cons_succ])
      | (refine SeqS.take1 (v := ?_) (by first | assumption | trivial) (by kernel_rfl) (by decide +kernel) (by decide +kernel) (Or.inl ⟨by rfl, ?_⟩) ?_
         rotate_left
         focus
           intro w' hb'
           have d0 := RollAt.c1 hb'
           go_simp
           with_reducible rfl
         simp only [Act.put, List.setIfInBounds_toArray, List.set_cons_zero, List.set_cons_succ])
      | (refine SeqS.take1 (v := undef) (by first | assumption | trivial) (by kernel_rfl) (by decide +kernel) (by decide +kernel) (Or.inr ⟨by rfl, rfl⟩) ?_
         simp only [Act.put, List.setIfInBounds_toArray, List.set_cons_zero, List.set_cons_succ])
      | (refine SeqS.take2 (v := ?_) (by first | assumption | trivial) (by kernel_rfl) (by decide +kernel) (by decide +kernel) (Or.inl ⟨by rfl, ?_⟩) ?_
         rotate_left
         focus
           intro w' hb'
           go_simp
           with_reducible rfl
         simp only [Act.put, List.setIfInBounds_toArray, List.set_cons_zero, List.set_cons_succ])
      | (refine SeqS.take2 (v := ?_) (by first | assumption | trivial) (by kernel_rfl) (by decide +kernel) (by decide +kernel) (Or.inl ⟨by rfl, ?_⟩) ?_
         rotate_left
         focus
           intro w' hb'
           have d0 := RollAt.c0 hb'
           go_simp
           with_reducible rfl
         simp only [Act.put, List.setIfInBounds_toArray, List.set_cons_zero, List.set_cons_succ])
      | (refine SeqS.take2 (v := ?_) (by first | assumption | trivial) (by kernel_rfl) (by decide +kernel) (by decide +kernel) (Or.inl ⟨by rfl, ?_⟩) ?_
         rotate_left
         focus
           intro w' hb'
           have d0 := RollAt.c1 hb'
           go_simp
           with_reducible rfl
         simp only [Act.put, List.setIfInBounds_toArray, List.set_cons_zero, List.set_cons_succ])
      | (refine SeqS.take2 (v := undef) (by first | assumption | trivial) (by kernel_rfl) (by decide +kernel) (by decide +kernel) (Or.inr ⟨by rfl, rfl⟩) ?_
         simp only [Act.put, List.setIfInBounds_toArray, List.set_cons_zero, List.set_cons_succ]))
    refine SeqS.alone (by decide +kernel) (by rfl) (fun K hK => ?_)
    go_simp
    go_at_call 16
    refine cS3.mono ?_
    rintro q w5 ⟨rfl, t5⟩
    obtain ⟨L2, P2, k2, v2⟩ := t5.drewn
    have r5 := v2.roll r3 l3
    go_simp
    refine hK _ _ r5 ?_
    clear hK K cS3 r4 t5
    repeat (first
      | (refine SeqS.take (v := ?_) (by first | assumption | trivial) (by kernel_rfl) (by decide +kernel) (by decide +kernel) (Or.inl ⟨by rfl, ?_⟩) ?_
         rotate_left
         focus
           intro w' hb'
           go_simp
           with_reducible rfl
         simp only [Act.put, List.setIfInBounds_toArray, List.set_cons_zero, List.set_cons_succ])
      | (refine SeqS.take (v := undef) (by first | assumption | trivial) (by kernel_rfl) (by decide +kernel) (by decide +kernel) (Or.inr ⟨by rfl, rfl⟩) ?_
         simp only [Act.put, List.setIfInBounds_toArray, List.set_cons_zero, List.set_cons_succ])
      | (refine SeqS.take1 (v := ?_) (by first | assumption | trivial) (by kernel_rfl) (by decide +kernel) (by decide +kernel) (Or.inl ⟨by rfl, ?_⟩) ?_
         rotate_left
         focus
           intro w' hb'
           go_simp
           with_reducible rfl
         simp only [Act.put, List.setIfInBounds_toArray, List.set_cons_zero, List.set_cons_succ])
      | (refine SeqS.take1 (v := undef) (by first | assumption | trivial) (by kernel_rfl) (by decide +kernel) (by decide +kernel) (Or.inr ⟨by rfl, rfl⟩) ?_
         simp only [Act.put, List.setIfInBounds_toArray, List.set_cons_zero, List.set_cons_succ])
      | (refine SeqS.take2 (v := ?_) (by first | assumption | trivial) (by kernel_rfl) (by decide +kernel) (by decide +kernel) (Or.inl ⟨by rfl, ?_⟩) ?_
         rotate_left
         focus
           intro w' hb'
           go_simp
           with_reducible rfl
         simp only [Act.put, List.setIfInBounds_toArray, List.set_cons_zero, List.set_cons_succ])
      | (refine SeqS.take2 (v := undef) (by first | assumption | trivial) (by kernel_rfl) (by decide +kernel) (by decide +kernel) (Or.inr ⟨by rfl, rfl⟩) ?_
         simp only [Act.put, List.setIfInBounds_toArray, List.set_cons_zero, List.set_cons_succ]))
    refine SeqS.done (by decide +kernel) ?_
    go_wp2
    go_ret
    exact ⟨rfl, L2, P2, k2, (v0.trans v1).trans v2⟩
  · rw [if_neg h1]
    dsimp only
    clear cS
    go_enter Tryd.func11, Tryd.ntmps11
    go_wp2_with fail
    refine hu.mono ?_
    rintro q w1 ⟨rfl, rfl⟩
    clear hu
    go_wp2_with fail
    refine hE.mono ?_
    rintro q w2 ⟨b2, d2, rfl, o2, q2⟩
    have I2 := own_ints' o2
    have q3 : Below w.heap.size w w2.drew := q2.drew
    have cA2 := cA.out w2.drew q3 b2 d2 I2
    have r2 := rH.out w2.drew q3
    have v0 := vH.out w2.drew q3
    clear hE cA o2 I2 q2 q3
    go_wp2_with fail
    refine region_seqS (fun w' => RollAt w' ro g z) (by kernel_rfl) r2 ?_
    simp only [pairs, Nat.reduceAdd]
    repeat (first
      | (refine SeqS.take (v := ?_) (by first | assumption | trivial) (by kernel_rfl) (by decide +kernel) (by decide +kernel) (Or.inl ⟨by rfl, ?_⟩) ?_
         rotate_left
         focus
           intro w' hb'
           go_simp
           with_reducible rfl
         simp only [Act.put, List.setIfInBounds_toArray, List.set_cons_zero, List.set_cons_succ])
      | (refine SeqS.take (v := ?_) (by first | assumption | trivial) (by kernel_rfl) (by decide +kernel) (by decide +kernel) (Or.inl ⟨by rfl, ?_⟩) ?_
         rotate_left
         focus
           intro w' hb'
           have d0 := RollAt.c0 hb'
           go_simp
           with_reducible rfl
         simp only [Act.put, List.setIfInBounds_toArray, List.set_cons_zero, List.set_cons_succ])
      | (refine SeqS.take (v := ?_) (by first | assumption | trivial) (by kernel_rfl) (by decide +kernel) (by decide +kernel) (Or.inl ⟨by rfl, ?_⟩) ?_
         rotate_left
         focus
           intro w' hb'
           have d0 := RollAt.c1 hb'
           go_simp
           with_reducible rfl
         simp only [Act.put, List.setIfInBounds_toArray, List.set_cons_zero, List.set_cons_succ])
      | (refine SeqS.take (v := undef) (by first | assumption | trivial) (by kernel_rfl) (by decide +kernel) (by decide +kernel) (Or.inr ⟨by rfl, rfl⟩) ?_
         simp only [Act.put, List.setIfInBounds_toArray, List.set_cons_zero, List.set_cons_succ])
      | (refine SeqS.take1 (v := ?_) (by first | assumption | trivial) (by kernel_rfl) (by decide +kernel) (by decide +kernel) (Or.inl ⟨by rfl, ?_⟩) ?_
         rotate_left
         focus
           intro w' hb'
           go_simp
           with_reducible rfl
         simp only [Act.put, List.setIfInBounds_toArray, List.set_cons_zero, List.set_cons_succ])
      | (refine SeqS.take1 (v := ?_) (by first | assumption | trivial) (by kernel_rfl) (by decide +kernel) (by decide +kernel) (Or.inl ⟨by rfl, ?_⟩) ?_
         rotate_left
         focus
           intro w' hb'
           have d0 := RollAt.c0 hb'
           go_simp
           with_reducible rfl
         simp only [Act.put, List.setIfInBounds_toArray, List.set_cons_zero, List.set_cons_succ])
      | (refine SeqS.take1 (v := ?_) (by first | assumption | trivial) (by kernel_rfl) (by decide +kernel) (by decide +kernel) (Or.inl ⟨by rfl, ?_⟩) ?_
         rotate_left
         focus
           intro w' hb'
           have d0 := RollAt.c1 hb'
           go_simp
           with_reducible rfl
         simp only [Act.put, List.setIfInBounds_toArray, List.set_cons_zero, List.set_cons_succ])
      | (refine SeqS.take1 (v := undef) (by first | assumption | trivial) (by kernel_rfl) (by decide +kernel) (by decide +kernel) (Or.inr ⟨by rfl, rfl⟩) ?_
         simp only [Act.put, List.setIfInBounds_toArray, List.set_cons_zero, List.set_cons_succ])
      | (refine SeqS.take2 (v := ?_) (by first | assumption | trivial) (by kernel_rfl) (by decide +kernel) (by decide +kernel) (Or.inl ⟨by rfl, ?_⟩) ?_
         rotate_left
         focus
           intro w' hb'
           go_simp
           with_reducible rfl
         simp only [Act.put, List.setIfInBounds_toArray, List.set_cons_zero, List.set_cons_succ])
      | (refine SeqS.take2 (v := ?_) (by first | assumption | trivial) (by kernel_rfl) (by decide +kernel) (by decide +kernel) (Or.inl ⟨by rfl, ?_⟩) ?_
         rotate_left
         focus
           intro w' hb'
           have d0 := RollAt.c0 hb'
           go_simp
           with_reducible rfl
         simp only [Act.put, List.setIfInBounds_toArray, List.set_cons_zero, List.set_cons_succ])
      | (refine SeqS.take2 (v := ?_) (by first | assumption | trivial) (by kernel_rfl) (by decide +kernel) (by decide +kernel) (Or.inl ⟨by rfl, ?_⟩) ?_
         rotate_left
         focus
           intro w' hb'
           have d0 := RollAt.c1 hb'
           go_simp
           with_reducible rfl
         simp only [Act.put, List.setIfInBounds_toArray, List.set_cons_zero, List.set_cons_succ])
      | (refine SeqS.take2 (v := undef) (by first | assumption | trivial) (by kernel_rfl) (by decide +kernel) (by decide +kernel) (Or.inr ⟨by rfl, rfl⟩) ?_
         simp only [Act.put, List.setIfInBounds_toArray, List.set_cons_zero, List.set_cons_succ]))
    refine SeqS.alone (by decide +kernel) (by rfl) (fun K hK => ?_)
    go_simp
    go_at_call 15
    refine cA2.mono ?_
    rintro q w3 ⟨rfl, L1, P1, k1, v1⟩
    have r3 := v1.roll r2 h0H.out
    go_simp
    refine hK _ _ r3 ?_
    clear hK K cA2 r2
    repeat (first
      | (refine SeqS.take (v := ?_) (by first | assumption | trivial) (by kernel_rfl) (by decide +kernel) (by decide +kernel) (Or.inl ⟨by rfl, ?_⟩) ?_
         rotate_left
         focus
           intro w' hb'
           go_simp
           with_reducible rfl
         simp only [Act.put, List.setIfInBounds_toArray, List.set_cons_zero, List.set_cons_succ])
      | (refine SeqS.take (v := undef) (by first | assumption | trivial) (by kernel_rfl) (by decide +kernel) (by decide +kernel) (Or.inr ⟨by rfl, rfl⟩) ?_
         simp only [Act.put, List.setIfInBounds_toArray, List.set_cons_zero, List.set_cons_succ])
      | (refine SeqS.take1 (v := ?_) (by first | assumption | trivial) (by kernel_rfl) (by decide +kernel) (by decide +kernel) (Or.inl ⟨by rfl, ?_⟩) ?_
         rotate_left
         focus
           intro w' hb'
           go_simp
           with_reducible rfl
         simp only [Act.put, List.setIfInBounds_toArray, List.set_cons_zero, List.set_cons_succ])
      | (refine SeqS.take1 (v := undef) (by first | assumption | trivial) (by kernel_rfl) (by decide +kernel) (by decide +kernel) (Or.inr ⟨by rfl, rfl⟩) ?_
         simp only [Act.put, List.setIfInBounds_toArray, List.set_cons_zero, List.set_cons_succ])
      | (refine SeqS.take2 (v := ?_) (by first | assumption | trivial) (by kernel_rfl) (by decide +kernel) (by decide +kernel) (Or.inl ⟨by rfl, ?_⟩) ?_
         rotate_left
         focus
           intro w' hb'
           go_simp
           with_reducible rfl
         simp only [Act.put, List.setIfInBounds_toArray, List.set_cons_zero, List.set_cons_succ])
      | (refine SeqS.take2 (v := undef) (by first | assumption | trivial) (by kernel_rfl) (by decide +kernel) (by decide +kernel) (Or.inr ⟨by rfl, rfl⟩) ?_
         simp only [Act.put, List.setIfInBounds_toArray, List.set_cons_zero, List.set_cons_succ]))
    refine SeqS.done (by decide +kernel) ?_
    go_wp2
    go_ret
    exact ⟨rfl, L1, P1, k1, v0.trans v1⟩
end Go.Proofs.YtnblknhdchpboaaDoor

/-
  What Open of a roll comes to; rolls that no call made. The disk's own blocks are written, and new memory. Conditions: of a roll that is opened: a disk that New made; fewer than 2^42 steps; the files hold bytes.
-/
namespace Go.Proofs.YtnblknhdchpboaaDoor
open Go.RowKit

theorem built_ro (g : Nat) (z : Int) : Tryd.prog.built 51 [(0, .pointer (some ⟨g, 0, none⟩)), (1, .int .i64 z), (2, .bool true)] = some (roC g z).toArray := by kernel_rfl

set_option maxRecDepth 100000 in
set_option maxHeartbeats 4000000 in
theorem yOpen_any {L : Nat → Nat} {P : Nat → Prop} {w : World} {g : Nat} {D : DkV} {T : Nat} {z : Int} (h : DkIs L P w g D) (hO : D.Ok T) (hT : T < 4398046511103) (hD : D.By) (hz : 0 ≤ z ∧ z < 3) (hG : Glob11 w) (hd : D.down = false) :
    Calls Tryd.prog 9 #[.pointer (some ⟨g, 0, none⟩), .int .i64 z] w fun q w' => ∃ p, q = .returned (.tuple #[.pointer p, .int .i64 (mdD D z).2]) ∧ ∃ L' P', DkIs L' P' w' g (mdD D z).1 ∧ Went L P w L' P' w' ∧
      ((mdD D z).2 ≠ 0 → p = none) ∧ ((mdD D z).2 = 0 → ∃ ro, p = some ⟨ro, 0, none⟩ ∧ RollAt w' ro g z ∧ w.heap.size ≤ ro ∧ L' ro = 0 ∧ ¬ P' ro) := by
  have hr0 := hO.room
  obtain ⟨c0, _, c2⟩ := h.cells
  rw [hd] at c2
  have hC0 := dRoom_any c0 (by omega)
  have hC1 := dDown_any c0 (by omega) c2
  have hb1 := below1 w (.cells (roC g z).toArray 51)
  have hR1 : RollAt (w.alloc (.cells (roC g z).toArray 51)) w.heap.size g z := Blk.new w 51 (roC g z)
  obtain ⟨l1, l2⟩ := dk_lt h
  have hL0 : L w.heap.size = 0 := by
    by_cases h0 : L w.heap.size = 0
    · exact h0
    · exact absurd (l1 _ h0) (Nat.lt_irrefl _)
  have hs1 := size1 w (.cells (roC g z).toArray 51)
  have hP0 : ¬ P w.heap.size := fun hp => absurd (l2 _ hp) (Nat.lt_irrefl _)
  obtain ⟨V, hV⟩ : ∃ V, w.alloc (.cells (roC g z).toArray 51) = V := ⟨_, rfl⟩
  rw [hV] at hb1 hR1 hs1
  have hM := yMend_any hR1 hL0 (h.keep hb1) hO hT hD hz (hG.keep hb1 (Nat.le_refl _))
  have v1 : Went L P w L P V := Went.of_below hb1
  obtain ⟨RD, RE, hRR⟩ : ∃ RD RE, mdD D z = (RD, RE) := ⟨_, _, rfl⟩
  rw [hRR] at hM ⊢
  dsimp only at hM ⊢
  obtain ⟨R, hRo⟩ : ∃ R, w.heap.size = R := ⟨_, rfl⟩
  rw [hRo] at hM hR1 hL0 hP0 hs1
  have hRoH := Lib.hid hRo
  have hVH := Lib.hid hV
  have hz1 : ¬ z < 0 := by omega
  have hz2 : ¬ 3 ≤ z := by omega
  have hr1 : ¬ D.room = 0 := by omega
  obtain ⟨r, hrr⟩ : ∃ r, D.room = r := ⟨_, rfl⟩
  rw [hrr] at hr1 hC0
  have hbt := built_ro g z
  obtain ⟨C, hCC⟩ : ∃ C, roC g z = C := ⟨_, rfl⟩
  rw [hCC] at hbt hVH
  have hs1H := Lib.hid hs1
  have hroLe : w.heap.size ≤ R := by rw [hRo]; exact Nat.le_refl _
  have hroH := Lib.hid hroLe
  clear h hO hT hD hz hG hd c0 c2 hb1 l1 l2 hV hRR hRo hrr hCC hr0 hs1 hroLe
  go_enter Tryd.func9, Tryd.ntmps9
  go_wp2_with fail
  refine hC0.mono ?_
  rintro q w1 ⟨rfl, rfl⟩
  clear hC0
  go_wp2_with fail
  refine hC1.mono ?_
  rintro q w1 ⟨rfl, rfl⟩
  clear hC1
  go_wp2_with (first
    | ((with_reducible refine build_row rfl 51 #[(0, .tmp 19), (1, .tmp 20), (2, .const (.bool true))] rfl (cells := C.toArray) ?_ ?_); (refine Eq.trans (congrArg _ ?_) hbt; kernel_rfl))
    | ((with_reducible refine box_row rfl 51 (.tmp 21) rfl C rfl ?_); refine RowKit.Hid.out ?_))
  refine Lib.hid ?_
  rw [hVH.out, hRoH.out]
  clear hbt hVH hRoH
  by_cases hE : RE = 0
  · subst hE
    go_wp2_with fail
    refine hM.mono ?_
    rintro q w2 ⟨rfl, L2, P2, k2, v2⟩
    clear hM
    have r2 := v2.roll hR1 hL0
    have l2 := v2.lab hR1 hL0
    have p2 : ¬ P2 R := fun hp => by
      rcases v2.q R hp with h | h
      · exact hP0 h
      · have h1 := hR1.lt
        omega
    go_wp2
    go_ret2
    exact ⟨_, rfl, L2, P2, k2, v1.trans v2, R, rfl, r2, hroH.out, l2, p2⟩
  · go_wp2_with fail
    refine hM.mono ?_
    rintro q w2 ⟨rfl, L2, P2, k2, v2⟩
    clear hM
    go_wp2
    go_ret2
    exact ⟨_, rfl, L2, P2, k2, v1.trans v2, fun _ => rfl, fun h => absurd h hE⟩

set_option maxRecDepth 100000 in
set_option maxHeartbeats 2000000 in
theorem yOpen_down {L : Nat → Nat} {P : Nat → Prop} {w : World} {g : Nat} {D : DkV} {T : Nat} {z : Int} (h : DkIs L P w g D) (hO : D.Ok T) (hz : 0 ≤ z ∧ z < 3) (hd : D.down = true) :
    Calls Tryd.prog 9 #[.pointer (some ⟨g, 0, none⟩), .int .i64 z] w fun q w' => q = .returned (.tuple #[.pointer none, .int .i64 18]) ∧ w = w' := by
  have hr0 := hO.room
  obtain ⟨c0, _, c2⟩ := h.cells
  rw [hd] at c2
  have hC0 := dRoom_any c0 (by omega)
  have hC1 := dDown_any c0 (by omega) c2
  have hz1 : ¬ z < 0 := by omega
  have hz2 : ¬ 3 ≤ z := by omega
  have hr1 : ¬ D.room = 0 := by omega
  clear h hO hz hd c0 c2 hr0
  go_enter Tryd.func9, Tryd.ntmps9
  go_wp2_with fail
  refine hC0.mono ?_
  rintro q w1 ⟨rfl, rfl⟩
  clear hC0
  go_wp2_with fail
  refine hC1.mono ?_
  rintro q w1 ⟨rfl, rfl⟩
  clear hC1
  go_wp2
  go_ret2
  exact ⟨rfl, rfl⟩

set_option maxRecDepth 100000 in
set_option maxHeartbeats 2000000 in
theorem yOpen_arg {L : Nat → Nat} {P : Nat → Prop} {w : World} {g : Nat} {D : DkV} {T : Nat} {z : Int} (h : DkIs L P w g D) (hO : D.Ok T) (hz : z < 0 ∨ 3 ≤ z) :
    Calls Tryd.prog 9 #[.pointer (some ⟨g, 0, none⟩), .int .i64 z] w fun q w' => q = .returned (.tuple #[.pointer none, .int .i64 1]) ∧ w = w' := by
  have hr0 := hO.room
  obtain ⟨c0, _, c2⟩ := h.cells
  have hC0 := dRoom_any c0 (by omega)
  have hr1 : ¬ D.room = 0 := by omega
  clear h hO c0 c2 hr0
  by_cases h1 : z < 0
  · clear hz
    go_enter Tryd.func9, Tryd.ntmps9
    go_wp2_with fail
    refine hC0.mono ?_
    rintro q w1 ⟨rfl, rfl⟩
    clear hC0
    go_wp2
    go_ret2
    exact ⟨rfl, rfl⟩
  · have h2 : 3 ≤ z := hz.resolve_left h1
    clear hz
    go_enter Tryd.func9, Tryd.ntmps9
    go_wp2_with fail
    refine hC0.mono ?_
    rintro q w1 ⟨rfl, rfl⟩
    clear hC0
    go_wp2
    go_ret2
    exact ⟨rfl, rfl⟩

set_option maxRecDepth 100000 in
set_option maxHeartbeats 2000000 in
theorem yOpen_dead {w : World} {p : Option Addr} (z : Int) (h : Dead w p) :
    Calls Tryd.prog 9 #[.pointer p, .int .i64 z] w fun q w' => q = .returned (.tuple #[.pointer none, .int .i64 7]) ∧ w = w' := by
  have hC0 := nRoom h
  clear h
  go_enter Tryd.func9, Tryd.ntmps9
  go_wp2_with fail
  refine hC0.mono ?_
  rintro q w1 ⟨rfl, rfl⟩
  clear hC0
  go_wp2
  go_ret2
  exact ⟨rfl, rfl⟩

/-! ### A roll that no call made -/
def DeadR (w : World) (p : Option Addr) : Prop := p = none ∨ ∃ r, p = some ⟨r, 0, none⟩ ∧ w.cell? ⟨r, 2, none⟩ = some (.bool false)

set_option maxRecDepth 100000 in
set_option maxHeartbeats 1000000 in
theorem zUnmade {w : World} {p : Option Addr} (h : DeadR w p) :
    Calls Tryd.prog 25 #[.pointer p] w fun q w' => q = .returned (.bool true) ∧ w = w' := by
  rcases h with rfl | ⟨r, rfl, hc⟩
  · go_enter Tryd.func25, Tryd.ntmps25
    go_wp2
    go_ret
    exact ⟨rfl, rfl⟩
  · go_enter Tryd.func25, Tryd.ntmps25
    go_wp2
    go_ret
    exact ⟨rfl, rfl⟩

set_option maxRecDepth 100000 in
set_option maxHeartbeats 1000000 in
theorem zAppend {w : World} {p : Option Addr} (h : DeadR w p) (a : Option Addr) (n c : Nat) :
    Calls Tryd.prog 11 #[.pointer p, .slice a n c] w fun q w' => q = .returned (.int .i64 7) ∧ w = w' := by
  have hM := zUnmade h
  clear h
  go_enter Tryd.func11, Tryd.ntmps11
  go_wp2_with fail
  refine hM.mono ?_
  rintro q w1 ⟨rfl, rfl⟩
  go_wp2
  go_ret
  exact ⟨rfl, rfl⟩

set_option maxRecDepth 100000 in
set_option maxHeartbeats 1000000 in
theorem zClear {w : World} {p : Option Addr} (h : DeadR w p) :
    Calls Tryd.prog 18 #[.pointer p] w fun q w' => q = .returned (.int .i64 7) ∧ w = w' := by
  have hM := zUnmade h
  clear h
  go_enter Tryd.func18, Tryd.ntmps18
  go_wp2_with fail
  refine hM.mono ?_
  rintro q w1 ⟨rfl, rfl⟩
  go_wp2
  go_ret
  exact ⟨rfl, rfl⟩

set_option maxRecDepth 100000 in
set_option maxHeartbeats 1000000 in
theorem zBodies {w : World} {p : Option Addr} (h : DeadR w p) :
    Calls Tryd.prog 13 #[.pointer p] w fun q w' => q = .returned (.slice none 0 0) ∧ w = w' := by
  have hM := zUnmade h
  clear h
  go_enter Tryd.func13, Tryd.ntmps13
  go_wp2_with fail
  refine hM.mono ?_
  rintro q w1 ⟨rfl, rfl⟩
  go_wp2
  go_ret
  exact ⟨rfl, rfl⟩

set_option maxRecDepth 100000 in
set_option maxHeartbeats 1000000 in
theorem zSize {w : World} {p : Option Addr} (h : DeadR w p) :
    Calls Tryd.prog 20 #[.pointer p] w fun q w' => q = .returned (.int .i64 0) ∧ w = w' := by
  have hM := zUnmade h
  clear h
  go_enter Tryd.func20, Tryd.ntmps20
  go_wp2_with fail
  refine hM.mono ?_
  rintro q w1 ⟨rfl, rfl⟩
  go_wp2
  go_ret
  exact ⟨rfl, rfl⟩

set_option maxRecDepth 100000 in
set_option maxHeartbeats 1000000 in
theorem zLen {w : World} {p : Option Addr} (h : DeadR w p) :
    Calls Tryd.prog 19 #[.pointer p] w fun q w' => q = .returned (.int .i64 0) ∧ w = w' := by
  have hM := zBodies h
  clear h
  go_enter Tryd.func19, Tryd.ntmps19
  go_wp2_with fail
  refine hM.mono ?_
  rintro q w1 ⟨rfl, rfl⟩
  go_wp2
  go_ret
  exact ⟨rfl, rfl⟩
end Go.Proofs.YtnblknhdchpboaaDoor

/-
  A landed disk of the call's own, with rolls beside it: what a law's calls leave. New memory is written, and the disk's own. Conditions: a disk that New made; fewer than 2^42 steps; the files hold bytes.
-/
namespace Go.Proofs.YtnblknhdchpboaaDoor
open Go.RowKit

/-- The landed disk at g is D; its blocks are no lower than B; those of E are nobody's. -/
structure RyOwn (E : Nat → Prop) (B : Nat) (w0 w : World) (g : Nat) (D : DkV) : Prop where
  is : ∃ L P, DkIs L P w g D ∧ (∀ b, L b ≠ 0 → B ≤ b) ∧ ∀ b, E b → b < w.heap.size ∧ L b = 0 ∧ ¬ P b
  b : Below B w0 w
  s : B ≤ w.heap.size
def SameE (E : Nat → Prop) (w w' : World) : Prop := ∀ b, E b → w'.heap[b]? = w.heap[b]?
theorem SameE.blk {E : Nat → Prop} {w w' : World} (h : SameE E w w') {g : Nat} {t : TypeId} {cs : List Value} (hb : Blk w g t cs) (hg : E g) : Blk w' g t cs := (h g hg).trans hb
theorem RyOwn.of_own {B : Nat} {w0 w : World} {g : Nat} {D : DkV} (h : DkOwn B w0 w g D) : RyOwn (fun _ => False) B w0 w g D := by
  obtain ⟨L, P, h1, h2⟩ := h.is
  exact ⟨⟨L, P, h1, h2, fun _ h => h.elim⟩, h.b, h.s⟩
theorem RyOwn.own {E : Nat → Prop} {B : Nat} {w0 w : World} {g : Nat} {D : DkV} (h : RyOwn E B w0 w g D) : DkOwn B w0 w g D := by
  obtain ⟨L, P, h1, h2, _⟩ := h.is
  exact ⟨⟨L, P, h1, h2⟩, h.b, h.s⟩
theorem RyOwn.keepE {E E' : Nat → Prop} {B : Nat} {w0 w w' : World} {g : Nat} {D : DkV} (h : RyOwn E B w0 w g D) (hb : Below w.heap.size w w') (hE : ∀ b, E' b → E b ∨ (w.heap.size ≤ b ∧ b < w'.heap.size)) : RyOwn E' B w0 w' g D := by
  obtain ⟨L, P, h1, h2, h3⟩ := h.is
  obtain ⟨l1, l2⟩ := dk_lt h1
  have hs := hb.size
  refine ⟨⟨L, P, h1.keep hb, h2, fun b he => ?_⟩, h.b.trans (hb.mono h.s), Nat.le_trans h.s hs⟩
  rcases hE b he with he | he
  · exact ⟨Nat.lt_of_lt_of_le (h3 b he).1 hs, (h3 b he).2⟩
  · refine ⟨he.2, ?_, fun hp => absurd (l2 b hp) (Nat.not_lt.2 he.1)⟩
    by_cases h0 : L b = 0
    · exact h0
    · exact absurd (l1 b h0) (Nat.not_lt.2 he.1)
theorem RyOwn.keep {E : Nat → Prop} {B : Nat} {w0 w w' : World} {g : Nat} {D : DkV} (h : RyOwn E B w0 w g D) (hb : Below w.heap.size w w') : RyOwn E B w0 w' g D := h.keepE hb (fun _ h => .inl h)
theorem RyOwn.less {E E' : Nat → Prop} {B : Nat} {w0 w : World} {g : Nat} {D : DkV} (h : RyOwn E B w0 w g D) (hE : ∀ b, E' b → E b) : RyOwn E' B w0 w g D := by
  obtain ⟨L, P, h1, h2, h3⟩ := h.is
  exact ⟨⟨L, P, h1, h2, fun b he => h3 b (hE b he)⟩, h.b, h.s⟩
theorem RyOwn.lt {E : Nat → Prop} {B : Nat} {w0 w : World} {g : Nat} {D : DkV} (h : RyOwn E B w0 w g D) : ∀ b, E b → b < w.heap.size := by
  obtain ⟨L, P, h1, h2, h3⟩ := h.is
  exact fun b hb => (h3 b hb).1
theorem RyOwn.same {E : Nat → Prop} {B : Nat} {w0 w w' : World} {g : Nat} {D : DkV} (h : RyOwn E B w0 w g D) (hb : Below w.heap.size w w') : SameE E w w' := fun b he => hb.block b (h.lt b he)
/-- A block of E was written. -/
theorem RyOwn.grown {E : Nat → Prop} {B : Nat} {w0 w w' : World} {g : Nat} {D : DkV} (h : RyOwn E B w0 w g D) {G : Nat} (hg : w.grownBy w' (some G)) (hG : E G) (hB : B ≤ G) : RyOwn E B w0 w' g D := by
  obtain ⟨L, P, h1, h2, h3⟩ := h.is
  have hs := hg.size
  have hm : Moved (fun b => b = G) w w' := moved_set rfl hg
  obtain ⟨e1, e2, e3⟩ := h3 G hG
  obtain ⟨x0, x1, x2, h1⟩ := h1
  exact ⟨⟨L, P, ⟨x0, x1, x2, h1.far hm (fun b hb e => by subst e; exact hb.elim (fun h => h e2) e3)⟩, h2, fun b he => ⟨Nat.lt_of_lt_of_le (h3 b he).1 hs, (h3 b he).2⟩⟩, h.b.grown hg h.s (fun q hq => by injection hq with hq; rw [← hq]; exact hB), Nat.le_trans h.s hs⟩
/-- Behind a call of the disk. -/
theorem ry_prog {E : Nat → Prop} {B : Nat} {w0 w w' : World} {g : Nat} {D' : DkV} {L L' : Nat → Nat} {P P' : Nat → Prop} (hb : Below B w0 w) (hs : B ≤ w.heap.size) (h2 : ∀ b, L b ≠ 0 → B ≤ b) (h3 : ∀ b, E b → b < w.heap.size ∧ L b = 0 ∧ ¬ P b) (hk : DkIs L' P' w' g D') (hv : Went L P w L' P' w') :
    RyOwn E B w0 w' g D' ∧ SameE E w w' :=
  ⟨⟨⟨L', P', hk, hv.low h2 hs, fun b he => ⟨Nat.lt_of_lt_of_le (h3 b he).1 hv.m.size, (hv.l b (h3 b he).1).trans (h3 b he).2.1, fun hp => (hv.q b hp).elim (h3 b he).2.2 (fun h => absurd (h3 b he).1 (Nat.not_lt.2 h))⟩⟩, below_new hv hb hs h2, Nat.le_trans hs hv.m.size⟩, fun b he => hv.at (h3 b he).1 (h3 b he).2.1⟩

section
variable {E : Nat → Prop} {B : Nat} {w0 w : World} {g : Nat} {D D' : DkV} {T : Nat} {e : Int}

theorem o_append {z : Int} {a : Option Addr} {n c : Nat} {bs : List Int} (h : RyOwn E B w0 w g D) (hO : D.Ok T) (hT : T < 4398046511103) (hI : Ints .u8 w a n c bs) (he : apD D z bs = (D', e)) :
    Calls Tryd.prog 15 #[.pointer (some ⟨g, 0, none⟩), .int .i64 z, .slice a n c] w fun q w' => q = .returned (.int .i64 e) ∧ RyOwn E B w0 w' g D' ∧ SameE E w w' := by
  obtain ⟨L, P, h1, h2, h3⟩ := h.is
  have hc := dAppend_any (file := z) h1 hO (by omega) hI
  rw [he] at hc
  exact hc.mono fun q w' ⟨eq, L', P', k1, k2⟩ => ⟨eq, ry_prog h.b h.s h2 h3 k1 k2⟩

theorem o_sync {z : Int} (h : RyOwn E B w0 w g D) (hO : D.Ok T) (hT : T < 4398046511103) (he : syD D z = (D', e)) :
    Calls Tryd.prog 16 #[.pointer (some ⟨g, 0, none⟩), .int .i64 z] w fun q w' => q = .returned (.int .i64 e) ∧ RyOwn E B w0 w' g D' ∧ SameE E w w' := by
  obtain ⟨L, P, h1, h2, h3⟩ := h.is
  have hc := dSync_any (file := z) h1 hO (by omega)
  rw [he] at hc
  exact hc.mono fun q w' ⟨eq, L', P', k1, k2⟩ => ⟨eq, ry_prog h.b h.s h2 h3 k1 k2⟩

theorem o_arm (n : Int) (h : RyOwn E B w0 w g D) (hO : D.Ok T) (he : armD D n = D') :
    Calls Tryd.prog 10 #[.pointer (some ⟨g, 0, none⟩), .int .i64 n] w fun q w' => q = .returned (.tuple #[]) ∧ RyOwn E B w0 w' g D' ∧ SameE E w w' := by
  obtain ⟨L, P, h1, h2, h3⟩ := h.is
  have hc := dArmD h1 hO n
  rw [he] at hc
  exact hc.mono fun q w' ⟨eq, L', P', k1, k2⟩ => ⟨eq, ry_prog h.b h.s h2 h3 k1 k2⟩

theorem o_crash {a : Option Addr} {n c : Nat} {us : List Int} (h : RyOwn E B w0 w g D) (hO : D.Ok T) (hT : T < 4398046511103) (hI : Ints .i64 w a n c us) (ho : ∀ x, a = some x → 0 < n → E x.block) (he : crD D us = D') :
    Calls Tryd.prog 12 #[.pointer (some ⟨g, 0, none⟩), .slice a n c] w fun q w' => q = .returned (.tuple #[]) ∧ RyOwn E B w0 w' g D' ∧ SameE E w w' := by
  obtain ⟨L, P, h1, h2, h3⟩ := h.is
  have hc := dCrash_any h1 hO (by omega) hI (fun x hx hn => (h3 _ (ho x hx hn)).2.1)
  rw [he] at hc
  exact hc.mono fun q w' ⟨eq, L', P', k1, k2⟩ => ⟨eq, ry_prog h.b h.s h2 h3 k1 k2⟩

theorem o_open {z : Int} (h : RyOwn E B w0 w g D) (hO : D.Ok T) (hT : T < 4398046511103) (hD : D.By) (hz : 0 ≤ z ∧ z < 3) (hG : Glob11 w0) (hB : w0.heap.size ≤ B) (hd : D.down = false) (he : mdD D z = (D', 0)) :
    Calls Tryd.prog 9 #[.pointer (some ⟨g, 0, none⟩), .int .i64 z] w fun q w' => ∃ ro, q = .returned (.tuple #[.pointer (some ⟨ro, 0, none⟩), .int .i64 0]) ∧ RollAt w' ro g z ∧ RyOwn (fun b => E b ∨ b = ro) B w0 w' g D' ∧ SameE E w w' := by
  obtain ⟨L, P, h1, h2, h3⟩ := h.is
  have hc := yOpen_any h1 hO hT hD hz (hG.keep h.b hB) hd
  rw [he] at hc
  refine hc.mono ?_
  rintro q w' ⟨p, eq, L', P', k1, k2, _, k4⟩
  obtain ⟨ro, rfl, hr, hl, m1, m2⟩ := k4 rfl
  obtain ⟨j1, j2⟩ := ry_prog h.b h.s h2 h3 k1 k2
  refine ⟨ro, eq, hr, ⟨⟨L', P', k1, k2.low h2 h.s, fun b hb => ?_⟩, j1.b, j1.s⟩, j2⟩
  rcases hb with hb | hb
  · exact ⟨Nat.lt_of_lt_of_le (h3 b hb).1 k2.m.size, (k2.l b (h3 b hb).1).trans (h3 b hb).2.1, fun hp => (k2.q b hp).elim (h3 b hb).2.2 (fun h => absurd (h3 b hb).1 (Nat.not_lt.2 h))⟩
  · subst hb; exact ⟨hr.lt, m1, m2⟩

theorem o_open_err {z : Int} (h : RyOwn E B w0 w g D) (hO : D.Ok T) (hT : T < 4398046511103) (hD : D.By) (hz : 0 ≤ z ∧ z < 3) (hG : Glob11 w0) (hB : w0.heap.size ≤ B) (hd : D.down = false) (he : mdD D z = (D', e)) (hne : e ≠ 0) :
    Calls Tryd.prog 9 #[.pointer (some ⟨g, 0, none⟩), .int .i64 z] w fun q w' => q = .returned (.tuple #[.pointer none, .int .i64 e]) ∧ RyOwn E B w0 w' g D' ∧ SameE E w w' := by
  obtain ⟨L, P, h1, h2, h3⟩ := h.is
  have hc := yOpen_any h1 hO hT hD hz (hG.keep h.b hB) hd
  rw [he] at hc
  refine hc.mono ?_
  rintro q w' ⟨p, eq, L', P', k1, k2, k3, _⟩
  have := k3 hne
  subst this
  exact ⟨eq, ry_prog h.b h.s h2 h3 k1 k2⟩

theorem o_open_arg {z : Int} (h : RyOwn E B w0 w g D) (hO : D.Ok T) (hz : z < 0 ∨ 3 ≤ z) :
    Calls Tryd.prog 9 #[.pointer (some ⟨g, 0, none⟩), .int .i64 z] w fun q w' => q = .returned (.tuple #[.pointer none, .int .i64 1]) ∧ w = w' := by
  obtain ⟨L, P, h1, h2, h3⟩ := h.is
  exact yOpen_arg h1 hO hz

theorem o_put {z : Int} {ro : Nat} {a : Option Addr} {n c : Nat} {bs : List Int} (h : RyOwn E B w0 w g D) (hr : RollAt w ro g z) (hro : E ro) (hO : D.Ok T) (hT : T < 4398046511103) (hG : Glob11 w0) (hB : w0.heap.size ≤ B) (hI : Ints .u8 w a n c bs) (hb : ∀ x ∈ bs, isByte x) (hn : n ≤ 140737488355328) (he : prD D z bs = (D', e)) :
    Calls Tryd.prog 11 #[.pointer (some ⟨ro, 0, none⟩), .slice a n c] w fun q w' => q = .returned (.int .i64 e) ∧ RyOwn E B w0 w' g D' ∧ SameE E w w' := by
  obtain ⟨L, P, h1, h2, h3⟩ := h.is
  have hc := yAppend_any hr (h3 ro hro).2.1 h1 hO hT (hG.keep h.b hB) hI hb hn
  rw [he] at hc
  exact hc.mono fun q w' ⟨eq, L', P', k1, k2⟩ => ⟨eq, ry_prog h.b h.s h2 h3 k1 k2⟩

theorem o_bodies {z : Int} {ro : Nat} (h : RyOwn E B w0 w g D) (hr : RollAt w ro g z) (hO : D.Ok T) (hD : D.By) (hz : 0 ≤ z ∧ z < 3) (hG : Glob11 w0) (hB : w0.heap.size ≤ B) {ps : List (List Int)} (hp : allF (heldR D z) = ps) :
    Calls Tryd.prog 13 #[.pointer (some ⟨ro, 0, none⟩)] w fun q w' => ∃ v, q = .returned v ∧ RowsO w' w.heap.size 0 v ps ∧ Below w.heap.size w w' := by
  obtain ⟨L, P, h1, h2, h3⟩ := h.is
  exact yBodies_any hr h1 hO hD hz (hG.keep h.b hB) hp

theorem o_len {z : Int} {ro : Nat} (h : RyOwn E B w0 w g D) (hr : RollAt w ro g z) (hO : D.Ok T) (hD : D.By) (hz : 0 ≤ z ∧ z < 3) (hG : Glob11 w0) (hB : w0.heap.size ≤ B) {n : Nat} (hn : numF (heldR D z) = n) :
    Calls Tryd.prog 19 #[.pointer (some ⟨ro, 0, none⟩)] w fun q w' => q = .returned (.int .i64 (n : Int)) ∧ Below w.heap.size w w' := by
  obtain ⟨L, P, h1, h2, h3⟩ := h.is
  exact yLen_any hr h1 hO hD hz (hG.keep h.b hB) hn

end
theorem o_new {w : World} (r : Int) (h : 1 ≤ r ∧ r ≤ 65536) (z : Nat) :
    Calls Tryd.prog 8 #[.int .i64 r] w fun q w' => ∃ g, q = .returned (.tuple #[.pointer (some ⟨g, 0, none⟩), .int .i64 0]) ∧ RyOwn (fun _ => False) w.heap.size w w' g (kpD r 0 false z ⟨[], []⟩) :=
  (new_own r h).mono fun q w' ⟨g, e, k⟩ => ⟨g, e, by rw [← kp0]; exact RyOwn.of_own k⟩
theorem flv_ok {K : List Int} {T : Nat} (h : K.length ≤ 65536) : (⟨K, []⟩ : FlV).Ok T := ⟨trivial, Nat.zero_le _, Nat.zero_le _, h⟩
theorem flat_by {L : List (List Int)} (h : ∀ b ∈ L, ∀ x ∈ b, isByte x) : ∀ x ∈ flat L, isByte x := by
  intro x hx
  obtain ⟨m, hm, hx⟩ := List.mem_flatten.1 hx
  obtain ⟨b, hb, rfl⟩ := List.mem_map.1 hm
  exact frB_range (h b hb) x hx
theorem whole_by {L : List (List Int)} (h : ∀ b ∈ L, ∀ x ∈ b, isByte x) : (whole L).By := ⟨flat_by h, fun _ h => absurd h (List.not_mem_nil)⟩
end Go.Proofs.YtnblknhdchpboaaDoor

/-
  The laws' own 'alive' (layer 20): the chapter's example. New memory alone is written. Conditions: none but that crc's table holds what it is laid with.
-/
namespace Go.Proofs.YtnblknhdchpboaaDoor
open Go.RowKit

theorem ok_whole {r f : Int} {d : Bool} {z : Nat} {T : Nat} (hz : z < 3) (hr : 1 ≤ r ∧ r ≤ 65536) (hf : 0 ≤ f ∧ f < 9223372036854775808) (L : List (List Int)) (hn : ((flat L).length : Int) ≤ r) : (kpD r f d z (whole L)).Ok T :=
  kp_ok hz hr hf (flv_ok (by omega)) hn
theorem by_whole {r f : Int} {d : Bool} {z : Nat} {L : List (List Int)} (h : ∀ b ∈ L, ∀ x ∈ b, isByte x) : (kpD r f d z (whole L)).By := kp_by (whole_by h)
def aD (L : List (List Int)) : DkV := kpD 100 0 false 0 (whole L)
theorem bod0 : Bodied [] := fun _ h => absurd h (List.not_mem_nil)
theorem bod7 : Bodied [[7]] := fun b h => by rw [List.mem_singleton.1 h]; decide
theorem flat7 : (flat [[7]]).length = 9 := by
  show (frB [7] ++ []).length = 9
  rw [List.append_nil, frB_len]
  rfl
theorem a_open0 : mdD (aD []) 0 = (aD [], 0) := md_whole (z := 0) (by decide) [] bod0
theorem a_open7 : mdD (aD [[7]]) 0 = (aD [[7]], 0) := md_whole (z := 0) (by decide) [[7]] bod7
theorem a_put : prD (aD []) 0 [7] = (aD [[7]], 0) := by
  have h := pr_kp (r := 100) (f := 0) (z := 0) (by decide) [] [7] (by decide) (by decide) (by rw [frB_len]; decide) (by decide)
  rw [if_neg (by decide)] at h
  exact h
theorem a_crash : crD (aD [[7]]) [] = aD [[7]] := whole_cr (by decide) _ _
theorem a_len : numF (heldR (aD [[7]]) 0) = 1 := (body_of (r := 100) (f := 0) (d := false) (z := 0) (by decide) [[7]] bod7).2
theorem a_ok0 : (aD []).Ok 0 := ok_whole (by decide) (by decide) (by decide) _ (by decide)
theorem a_ok7 : (aD [[7]]).Ok 0 := ok_whole (by decide) (by decide) (by decide) _ (by rw [flat7]; decide)
theorem a_by0 : (aD []).By := by_whole (fun _ h => absurd h (List.not_mem_nil))
theorem a_by7 : (aD [[7]]).By := by_whole (fun b h x hx => by
  rw [List.mem_singleton.1 h] at hx
  rw [List.mem_singleton.1 hx]
  exact ⟨by decide, by decide⟩)

set_option maxRecDepth 100000 in
set_option maxHeartbeats 2000000 in
theorem alive20_any (w : World) (hG : Glob11 w) : Calls Tryd.prog 7 #[] w fun e w' => e = .returned (.bool true) ∧ Below w.heap.size w w' := by
  have hN := o_new (w := w) 100 (by decide) 0
  have hN : Calls Tryd.prog 8 #[.int .i64 100] w fun q w' => ∃ g, q = .returned (.tuple #[.pointer (some ⟨g, 0, none⟩), .int .i64 0]) ∧ RyOwn (fun _ => False) w.heap.size w w' g (aD []) := hN
  obtain ⟨B, hB⟩ : ∃ B, w.heap.size = B := ⟨_, rfl⟩
  rw [hB] at hN
  have hBle : w.heap.size ≤ B := by omega
  have hGH := Lib.hid hG
  have hBH := Lib.hid hBle
  have hBe := Lib.hid hB
  clear hG hBle hB
  go_enter Tryd.func7, Tryd.ntmps7
  go_wp2_with fail
  refine hN.mono ?_
  rintro q w1 ⟨g, rfl, h1⟩
  have c1 := o_open (z := 0) h1 a_ok0 (by decide) a_by0 (by decide) hGH.out hBH.out rfl a_open0
  clear hN h1
  go_wp2_with fail
  refine c1.mono ?_
  rintro q w2 ⟨ro, rfl, r2, h2, _⟩
  have b2 := below1 w2 (.cells #[.int .u8 7] 5)
  have I2 : Ints .u8 (w2.alloc (.cells #[.int .u8 7] 5)) (some ⟨w2.heap.size, 0, none⟩) 1 1 [7] := ints_new11 w2 .u8 5 (0, 0) [7] 1 rfl
  have c2 := o_put (z := 0) (h2.keep b2) (r2.keep b2) (.inr rfl) a_ok0 (by decide) hGH.out hBH.out I2 (by intro x hx; rw [List.mem_singleton.1 hx]; exact ⟨by decide, by decide⟩) (by decide) a_put
  clear c1 b2 I2 h2 r2
  go_wp2_with fail
  refine c2.mono ?_
  rintro q w3 ⟨rfl, h3, _⟩
  have c3 := o_crash (us := []) h3 a_ok7 (by decide) (a := none) (n := 0) (c := 0) ⟨rfl, Nat.le_refl _, .inl rfl⟩ (fun x hx => by cases hx) a_crash
  clear c2 h3
  go_wp2_with fail
  refine c3.mono ?_
  rintro q w4 ⟨rfl, h4, _⟩
  have c4 := o_open (z := 0) h4 a_ok7 (by decide) a_by7 (by decide) hGH.out hBH.out rfl a_open7
  clear c3 h4
  go_wp2_with fail
  refine c4.mono ?_
  rintro q w5 ⟨ro5, rfl, r5, h5, _⟩
  have c5 := o_len (z := 0) h5 r5 a_ok7 a_by7 (by decide) hGH.out hBH.out a_len
  have hb5 := h5.b
  have hs5 := h5.s
  clear c4 h5 r5
  go_wp2_with fail
  refine c5.mono ?_
  rintro q w6 ⟨rfl, b6⟩
  have hBE := hb5.trans (b6.mono hs5)
  clear c5 hb5 hs5 b6
  rw [← hBe.out] at hBE
  go_wp2
  go_ret
  exact ⟨rfl, hBE⟩
end Go.Proofs.YtnblknhdchpboaaDoor

/-
  The law RollOpens: a roll is opened in any state of a disk that is up; where the disk goes down while it is opened, nothing of what was whole is lost. New memory alone is written. No conditions beyond the row's own.
-/
namespace Go.Proofs.YtnblknhdchpboaaDoor
open Go.RowKit

/-- The bytes, or what is whole of them. -/
def Half (b b' : List Int) : Prop := b' = b ∨ b' = b.take (goodF b)
theorem Half.all {b b' : List Int} (h : Half b b') : allF b' = allF b := by
  rcases h with h | h
  · rw [h]
  · rw [h]; exact (good_take b).2.1
theorem Half.trans {b b' b2 : List Int} (h : Half b b') (h' : Half b' b2) : Half b b2 := by
  rcases h with h | h
  · subst h; exact h'
  · rcases h' with h' | h'
    · rw [h']; exact .inr h
    · refine .inr ?_
      rw [h', h, (good_take b).1, List.take_take, Nat.min_self]
theorem md_one {r f : Int} {z : Nat} (hz : z < 3) (b : List Int) (hf : 0 ≤ f) :
    ∃ f' v' d' e', mdD (kpD r f false z ⟨b, []⟩) (z : Int) = (kpD r f' d' z v', e') ∧ 0 ≤ f' ∧ f' ≤ f ∧ (f = 0 → e' = 0) ∧ ((e' = 0 ∧ d' = false ∧ ∃ b', v' = ⟨b', []⟩ ∧ Half b b') ∨ (e' = 18 ∧ d' = true ∧ v' = ⟨b, [.cut (goodF b)]⟩)) := by
  have hh : (⟨b, []⟩ : FlV).held = b := rfl
  have hu : ¬ 0 < (⟨b, []⟩ : FlV).units := by show ¬ 0 < 0; omega
  have hle := goodF_le b
  obtain ⟨G, hG⟩ : ∃ G, goodF b = G := ⟨_, rfl⟩
  rw [hG] at hle
  unfold mdD
  rw [kp_held hz, Int.toNat_natCast, kp_f hz, hh, hG]
  by_cases hlt : G < b.length
  · rw [if_pos hlt]
    have hc := kp_ct (r := r) (f := f) hz (v := ⟨b, []⟩) G hle
    have hst : ((⟨b, []⟩ : FlV).step (.cut G)) = ⟨b, [.cut G]⟩ := rfl
    have hhl : (⟨b, [.cut G]⟩ : FlV).held = b.take G := by
      show (StV.cut G).all b = _
      rw [StV.all_cut]
    rw [hst] at hc
    unfold keD
    rw [hc]
    by_cases h0 : f = 0
    · subst h0
      rw [if_pos rfl, if_pos rfl, kp_sy hz, if_pos rfl, hhl]
      exact ⟨0, _, false, 0, rfl, by omega, by omega, fun _ => rfl, .inl ⟨rfl, rfl, _, rfl, .inr (by rw [hG])⟩⟩
    · rw [if_neg h0]
      by_cases h1 : f = 1
      · rw [if_pos h1, if_neg (show ¬ (18 : Int) = 0 by decide)]
        exact ⟨0, _, true, 18, rfl, by omega, by omega, fun h => absurd h h0, .inr ⟨rfl, rfl, rfl⟩⟩
      · rw [if_neg h1, if_pos rfl, kp_sy hz, if_neg (by omega)]
        by_cases h2 : f - 1 = 1
        · rw [if_pos h2]
          exact ⟨0, _, true, 18, rfl, by omega, by omega, fun h => absurd h h0, .inr ⟨rfl, rfl, rfl⟩⟩
        · rw [if_neg h2, hhl]
          exact ⟨f - 1 - 1, _, false, 0, rfl, by omega, by omega, fun _ => rfl, .inl ⟨rfl, rfl, _, rfl, .inr (by rw [hG])⟩⟩
  · rw [if_neg hlt, if_neg hu]
    exact ⟨f, _, false, 0, rfl, hf, Int.le_refl _, fun _ => rfl, .inl ⟨rfl, rfl, _, rfl, .inl rfl⟩⟩
theorem opens_math (xs : List Int) (F U : Int) (hF : 0 ≤ F) :
    ∃ D1 e1 D2 D3, mdD (kpD 65536 F false 2 ⟨xs, []⟩) 2 = (D1, e1) ∧ crD D1 [0, 0, U] = D2 ∧ mdD D2 2 = (D3, 0) ∧ D2.down = false ∧ ((e1 = 0 ∧ allF (heldR D1 2) = allF xs) ∨ e1 = 18) ∧ allF (heldR D3 2) = allF xs := by
  obtain ⟨f', v', d', e', h1, h2, h3, _, h5⟩ := md_one (r := 65536) (z := 2) (by decide) xs hF
  have hcr : ∃ b2, crD (kpD 65536 f' d' 2 v') [0, 0, U] = kpD 65536 0 false 2 ⟨b2, []⟩ ∧ Half xs b2 := by
    rcases h5 with ⟨_, _, b', rfl, hb⟩ | ⟨_, _, rfl⟩
    · exact ⟨b', by rw [kp_cr (by decide)]; rfl, hb⟩
    · rw [kp_cr (by decide)]
      refine ⟨(StV.cut (goodF xs)).act xs (min (leftU ⟨xs, [.cut (goodF xs)]⟩ [0, 0, U] 2) 1), rfl, ?_⟩
      unfold StV.act
      dsimp only
      split
      · exact .inl rfl
      · exact .inr rfl
  obtain ⟨b2, hc, hb2⟩ := hcr
  obtain ⟨f3, v3, d3, e3, k1, k2, k3, k4, k5⟩ := md_one (r := 65536) (f := 0) (z := 2) (by decide) b2 (by decide)
  have he3 := k4 rfl
  rcases k5 with ⟨_, hd3, b3, hv3, hb3⟩ | ⟨h18, _⟩
  · rw [he3] at k1
    refine ⟨_, e', _, _, h1, hc, k1, kp_head.2.2, ?_, ?_⟩
    · rcases h5 with ⟨h0, _, b', hv', hb'⟩ | ⟨h18, _⟩
      · refine .inl ⟨h0, ?_⟩
        have hh : heldR (kpD 65536 f' d' 2 v') 2 = v'.held := kp_held (z := 2) (by decide)
        rw [hh, hv']
        exact hb'.all
      · exact .inr h18
    · have hh : heldR (kpD 65536 f3 d3 2 v3) 2 = v3.held := kp_held (z := 2) (by decide)
      rw [hh, hv3]
      exact (hb2.trans hb3).all
  · omega
theorem SameE.trans {E E' : Nat → Prop} {w w1 w2 : World} (h1 : SameE E w w1) (h2 : SameE E' w1 w2) (hE : ∀ b, E b → E' b) : SameE E w w2 := fun b hb => (h2 b (hE b hb)).trans (h1 b hb)
theorem o_ap (xs : List Int) (h : xs.length ≤ 1000) : apD (kpD 65536 0 false 2 ⟨[], []⟩) 2 xs = (kpD 65536 0 false 2 ⟨[], [.put xs]⟩, 0) := by
  have hs : ((⟨[], []⟩ : FlV).step (.put xs)) = ⟨[], [.put xs]⟩ := rfl
  have hn : (⟨[], [.put xs]⟩ : FlV).need = 0 + xs.length := flight_need [] xs
  have := kp_ap (r := 65536) (f := 0) (z := 2) (v := ⟨[], []⟩) (by decide) xs (by rw [hs, hn]; omega)
  rw [if_pos rfl, hs] at this
  exact this
theorem o_sy (xs : List Int) : syD (kpD 65536 0 false 2 ⟨[], [.put xs]⟩) 2 = (kpD 65536 0 false 2 ⟨xs, []⟩, 0) := by
  have := kp_sy (r := 65536) (f := 0) (z := 2) (v := ⟨[], [.put xs]⟩) (by decide)
  rw [if_pos rfl, flight_held, List.nil_append] at this
  exact this
theorem put_ok (xs : List Int) (h : xs.length ≤ 1000) : (⟨[], [.put xs]⟩ : FlV).Ok 1 :=
  ⟨⟨trivial, trivial⟩, Nat.le_refl _, by rw [flight_units]; omega, by rw [flight_need]; show 0 + xs.length ≤ 65536; omega⟩
end Go.Proofs.YtnblknhdchpboaaDoor

/-
  The law RollOpens: its walk. New memory alone is written. No conditions beyond the row's own.
-/
namespace Go.Proofs.YtnblknhdchpboaaDoor
open Go.RowKit

theorem rem4 {t : Int} (ht : 0 ≤ t ∧ t < 256) : ∃ F : Int, t.tmod 4 = F ∧ 0 ≤ F ∧ F < 4 ∧ IntKind.u8.wrap F = F ∧ wrap64 F = F := by
  refine ⟨t % 4, Int.tmod_eq_emod_of_nonneg ht.1, by omega, by omega, ?_, by unfold wrap64; omega⟩
  simp [IntKind.wrap, IntKind.signed, IntKind.bits]
  omega
theorem quo4 {t : Int} (ht : 0 ≤ t ∧ t < 256) : ∃ F : Int, t.tdiv 4 = F ∧ 0 ≤ F ∧ F < 64 ∧ IntKind.u8.wrap F = F ∧ wrap64 F = F := by
  refine ⟨t / 4, Int.tdiv_eq_ediv_of_nonneg ht.1, by omega, by omega, ?_, by unfold wrap64; omega⟩
  simp [IntKind.wrap, IntKind.signed, IntKind.bits]
  omega

set_option maxRecDepth 100000 in
set_option maxHeartbeats 4000000 in
theorem opens_any (a : Option Addr) (n c : Nat) (xs : List Int) (i t : Int) (w : World) (hG : Glob11 w) (hI : Ints .u8 w a n c xs) (hr : ∀ x ∈ xs, isByte x) (ht : 0 ≤ t ∧ t < 256) :
    Calls Tryd.prog 4 #[.slice a n c, .int .i64 i, .int .u8 t] w fun q w' => q = .returned (.bool true) ∧ Below w.heap.size w w' := by
  by_cases hl : (1000 : Int) < (n : Int)
  · have hal := alive20_any w hG
    clear hG hI hr ht
    go_enter Tryd.func4, Tryd.ntmps4
    go_wp2_with fail
    refine hal.mono ?_
    rintro q wz ⟨rfl, bz⟩
    clear hal
    go_wp2
    go_ret
    exact ⟨rfl, bz⟩
  have hx : xs.length = n := hI.len
  have hn : xs.length ≤ 1000 := by omega
  obtain ⟨F, hF, f0, f4, fu, fw⟩ := rem4 ht
  obtain ⟨U, hU, u0, u4, uu, uw⟩ := quo4 ht
  obtain ⟨D1, e1, D2, D3, m1, m2, m3, m4, m5, m6⟩ := opens_math xs F U f0
  have z0 : (kpD 65536 0 false 2 ⟨[], []⟩).Ok 0 := ok_whole (z := 2) (by decide) (by decide) (by decide) [] (by decide)
  have zP : (kpD 65536 0 false 2 ⟨[], [.put xs]⟩).Ok 1 := kp_ok (by decide) (by decide) (by decide) (put_ok xs hn) (by rw [flight_need]; show ((0 + xs.length : Nat) : Int) ≤ 65536; omega)
  have zS : (kpD 65536 0 false 2 ⟨xs, []⟩).Ok 1 := kp_ok (by decide) (by decide) (by decide) (flv_ok (by omega)) (by show ((xs.length : Nat) : Int) ≤ 65536; omega)
  have zF : (kpD 65536 F false 2 ⟨xs, []⟩).Ok 1 := kp_ok (by decide) (by decide) (by omega) (flv_ok (by omega)) (by show ((xs.length : Nat) : Int) ≤ 65536; omega)
  have bF : (kpD 65536 F false 2 ⟨xs, []⟩).By := kp_by ⟨hr, fun _ h => absurd h (List.not_mem_nil)⟩
  have dF : (kpD 65536 F false 2 ⟨xs, []⟩).down = false := kp_head.2.2
  have z1 := mdD_ok zF 2
  have b1 := mdD_by bF 2
  rw [m1] at z1 b1
  have z2 := crD_ok z1 [0, 0, U]
  have b2 := crD_by b1 [0, 0, U]
  rw [m2] at z2 b2
  have z3 := mdD_ok z2 2
  have b3 := mdD_by b2 2
  rw [m3] at z3 b3
  have hap := o_ap xs hn
  have hsy := o_sy xs
  have harm : armD (kpD 65536 0 false 2 ⟨xs, []⟩) F = kpD 65536 F false 2 ⟨xs, []⟩ := by rw [kp_arm, show max F 0 = F by omega]
  have hrr : ∀ p ∈ allF xs, ∀ y ∈ p, 0 ≤ y ∧ y < 256 := allF_range hr
  have hpl : (allF xs).length ≤ 1000 := by
    have h1 := numF_le xs
    rw [allF_len]
    omega
  have hN := o_new (w := w) 65536 (by decide) 2
  obtain ⟨DA, hA⟩ : ∃ D, kpD 65536 0 false 2 ⟨[], []⟩ = D := ⟨_, rfl⟩
  obtain ⟨DB, hB⟩ : ∃ D, kpD 65536 0 false 2 ⟨[], [.put xs]⟩ = D := ⟨_, rfl⟩
  obtain ⟨DC, hC⟩ : ∃ D, kpD 65536 0 false 2 ⟨xs, []⟩ = D := ⟨_, rfl⟩
  obtain ⟨DE, hE⟩ : ∃ D, kpD 65536 F false 2 ⟨xs, []⟩ = D := ⟨_, rfl⟩
  rw [hA] at z0 hap hN
  rw [hB] at zP hap hsy
  rw [hC] at zS hsy harm
  rw [hE] at zF bF dF m1 harm
  have hsc : ∀ w', Ints .u8 w' a n c xs → Calls Tryd.prog 17 #[.slice a n c] w' fun q w2 => ∃ v, q = .returned (.tuple #[v, .int .i64 ((goodF xs : Nat) : Int)]) ∧ RowsN w2 w'.heap.size v (allF xs) ∧ Below w'.heap.size w' w2 := fun w' h => r19ScanN_any a n c xs (numF xs) (numF_fr xs) w' h hr (by omega)
  obtain ⟨GD, hGD⟩ : ∃ G, goodF xs = G := ⟨_, rfl⟩
  obtain ⟨ps, hps⟩ : ∃ ps, allF xs = ps := ⟨_, rfl⟩
  rw [hGD, hps] at hsc
  rw [hps] at m5 m6 hrr hpl
  obtain ⟨M, hM⟩ : ∃ M, ps.length = M := ⟨_, rfl⟩
  have HM := Lib.hid hM
  rw [hM] at hpl
  obtain ⟨B, hBe⟩ : ∃ B, w.heap.size = B := ⟨_, rfl⟩
  have hBle : w.heap.size ≤ B := by omega
  rw [hBe] at hN
  have ilt : ∀ x, a = some x → 0 < n → x.block < B := by rw [← hBe]; exact hI.isIn.2
  have HI := Lib.hid (fun w' (q : Below B w w') => hI.keep (by rw [hBe]; exact q))
  have Hsc := Lib.hid hsc
  have HG := Lib.hid hG
  have HBe := Lib.hid hBe
  have HB := Lib.hid hBle
  have Hrr := Lib.hid hrr
  have Hpl := Lib.hid hpl
  have H0 := Lib.hid z0
  have HP := Lib.hid zP
  have HS := Lib.hid zS
  have HF := Lib.hid zF
  have HbF := Lib.hid bF
  have HdF := Lib.hid dF
  have H1 := Lib.hid z1
  have Hb1 := Lib.hid b1
  have H2 := Lib.hid z2
  have Hb2 := Lib.hid b2
  have H3 := Lib.hid z3
  have Hb3 := Lib.hid b3
  have Hap := Lib.hid hap
  have Hsy := Lib.hid hsy
  have Harm := Lib.hid harm
  have Hm1 := Lib.hid m1
  have Hm2 := Lib.hid m2
  have Hm3 := Lib.hid m3
  have Hm4 := Lib.hid m4
  have Hm6 := Lib.hid m6
  have Hm5 := Lib.hid m5
  clear hM hI hr ht hx hn hA hB hC hE hGD hps hBe hBle hG hsc ilt z0 zP zS zF bF dF z1 b1 z2 b2 z3 b3 hap hsy harm hrr hpl m1 m2 m3 m4 m5 m6 f0 f4 u0 u4
  go_enter Tryd.func4, Tryd.ntmps4
  go_wp2_with fail
  refine hN.mono ?_
  rintro q w1 ⟨g, rfl, h1⟩
  clear hN
  have c1 := o_append (z := 2) h1 H0.out (by decide) (HI.out _ h1.b) Hap.out
  go_wp2_with fail
  refine c1.mono ?_
  rintro q w2 ⟨rfl, h2, _⟩
  have c2 := o_sync (z := 2) h2 HP.out (by decide) Hsy.out
  clear c1 h1
  go_wp2_with fail
  refine c2.mono ?_
  rintro q w3 ⟨rfl, h3, _⟩
  have c3 := Hsc.out w3 (HI.out _ h3.b)
  clear c2 h2
  go_wp2_with fail
  refine c3.mono ?_
  rintro q w4 ⟨v, rfl, hv, b4⟩
  have h4 : RyOwn (fun b => w3.heap.size ≤ b ∧ b < w4.heap.size) B w w4 g DC := h3.keepE b4 (fun b hb => .inr hb)
  obtain ⟨av, cv, ev, _⟩ := hv.rows.parts
  rw [HM.out] at ev
  subst ev
  have HV := Lib.hid hv
  obtain ⟨S3, hS3⟩ : ∃ S, w3.heap.size = S := ⟨_, rfl⟩
  obtain ⟨S4, hS4⟩ : ∃ S, w4.heap.size = S := ⟨_, rfl⟩
  rw [hS3, hS4] at h4
  have HS3 := Lib.hid hS3
  have HS4 := Lib.hid hS4
  have c4 := o_arm F h4 HS.out Harm.out
  clear c3 h3 hv b4 hS3 hS4
  go_wp2_with fail
  refine c4.mono ?_
  rintro q w5 ⟨rfl, h5, s5⟩
  clear c4 h4
  have Hs5 := Lib.hid s5
  clear s5
  rcases Hm5.out with ⟨he, hall⟩ | he
  · subst he
    have c5 := o_open (z := 2) h5 HF.out (by decide) HbF.out (by decide) HG.out HB.out HdF.out Hm1.out
    clear h5
    go_wp2_with fail
    refine c5.mono ?_
    rintro q w6 ⟨ro, rfl, r6, h6, s6⟩
    have c6 := o_bodies (z := 2) h6 r6 H1.out Hb1.out (by decide) HG.out HB.out hall
    have H6 := Lib.hid h6
    have HX := Lib.hid (Hs5.out.trans s6 (fun _ h => h))
    clear c5 h6 s6 r6 hall
    go_wp2_with fail
    refine c6.mono ?_
    rintro q w6b ⟨v6, rfl, R6, b6⟩
    have HX := Lib.hid (HX.out.trans ((H6.out.same b6 : SameE _ w6 w6b)) (fun _ h => .inl h))
    have hN6 : RowsN w6b w3.heap.size (.slice av M cv) ps := HV.out.moved (fun b k1 k2 => HX.out b ⟨by rw [← HS3.out]; exact k1, by rw [← HS4.out]; exact k2⟩)
    obtain ⟨a1, c1, e1', P1⟩ := R6.parts
    rw [HM.out] at e1' P1
    subst e1'
    have h6b := H6.out.keep b6
    have hSm := r19Same_any a1 av M c1 cv ps w6b P1 hN6.at Hrr.out (by have := Hpl.out; omega)
    clear c6 R6 hN6 P1 b6
    go_wp2_with fail
    refine hSm.mono ?_
    rintro q w7 ⟨rfl, b7⟩
    have h7 := (h6b.keep b7).less (E' := fun b => S3 ≤ b ∧ b < S4) (fun _ h => .inl h)
    have s7 := Lib.hid (HX.out.trans (h6b.same b7) (fun _ h => .inl h))
    clear hSm h6b HX H6 b7
    have bc := below1 w7 (.cells #[.int .i64 0, .int .i64 0, .int .i64 U] 3)
    have Ic := row_ints w7 3 .i64 [0, 0, U]
    have hc : RyOwn (fun b => (S3 ≤ b ∧ b < S4) ∨ b = w7.heap.size) B w _ g D1 := h7.keepE bc (fun b hb => hb.imp id (fun hb => by rw [hb, size1]; omega))
    have sc := s7.out.trans (h7.same bc) (fun _ h => h)
    have c8 := o_crash hc H1.out (by decide) Ic (fun x hx _ => by injection hx with hx; rw [← hx]; exact .inr rfl) Hm2.out
    have HX := Lib.hid sc
    clear h7 s7 bc Ic hc sc
    go_wp2_with fail
    refine c8.mono ?_
    rintro q w8 ⟨rfl, h8, s8⟩
    have HX := Lib.hid (HX.out.trans s8 (fun _ h => .inl h))
    have c9 := o_open (z := 2) h8 H2.out (by decide) Hb2.out (by decide) HG.out HB.out Hm4.out Hm3.out
    clear c8 h8 s8
    go_wp2_with fail
    refine c9.mono ?_
    rintro q w9 ⟨ro9, rfl, r9, h9, s9⟩
    have HX := Lib.hid (HX.out.trans s9 (fun _ h => .inl h))
    have c10 := o_bodies (z := 2) h9 r9 H3.out Hb3.out (by decide) HG.out HB.out Hm6.out
    have H9 := Lib.hid h9
    clear c9 h9 s9 r9
    go_wp2_with fail
    refine c10.mono ?_
    rintro q w10 ⟨v10, rfl, R10, b10⟩
    have HX := Lib.hid (HX.out.trans ((H9.out.same b10 : SameE _ w9 w10)) (fun _ h => .inl (.inl h)))
    have hN10 : RowsN w10 w3.heap.size (.slice av M cv) ps := HV.out.moved (fun b k1 k2 => HX.out b ⟨by rw [← HS3.out]; exact k1, by rw [← HS4.out]; exact k2⟩)
    obtain ⟨a1, c1, e1', P1⟩ := R10.parts
    rw [HM.out] at e1' P1
    subst e1'
    have h10 := H9.out.keep b10
    have hSm := r19Same_any a1 av M c1 cv ps w10 P1 hN10.at Hrr.out (by have := Hpl.out; omega)
    clear c10 R10 hN10 P1 b10
    go_wp2_with fail
    refine hSm.mono ?_
    rintro q w11 ⟨rfl, b11⟩
    have h11 := h10.keep b11
    have hBL := h11.b
    rw [← HBe.out] at hBL
    have hal := alive20_any w11 (HG.out.keep hBL (Nat.le_refl _))
    clear hSm h10 b11
    by_cases hi1 : i < 0
    · have c12 := o_open_arg (z := i) h11 H3.out (.inl hi1)
      clear h11
      go_wp2_with fail
      refine c12.mono ?_
      rintro q w12 ⟨rfl, rfl⟩
      clear c12
      go_wp2_with fail
      refine hal.mono ?_
      rintro q wz ⟨rfl, bz⟩
      have hBz := hBL.trans (bz.mono hBL.size)
      clear hal bz hBL
      go_wp2
      go_ret
      exact ⟨rfl, hBz⟩
    by_cases hi2 : 3 ≤ i
    · have c12 := o_open_arg (z := i) h11 H3.out (.inr hi2)
      clear h11
      go_wp2_with fail
      refine c12.mono ?_
      rintro q w12 ⟨rfl, rfl⟩
      clear c12
      go_wp2_with fail
      refine hal.mono ?_
      rintro q wz ⟨rfl, bz⟩
      have hBz := hBL.trans (bz.mono hBL.size)
      clear hal bz hBL
      go_wp2
      go_ret
      exact ⟨rfl, hBz⟩
    clear h11
    go_wp2_with fail
    refine hal.mono ?_
    rintro q wz ⟨rfl, bz⟩
    have hBz := hBL.trans (bz.mono hBL.size)
    clear hal bz hBL
    go_wp2
    go_ret
    exact ⟨rfl, hBz⟩
  · subst he
    have c5 := o_open_err (z := 2) h5 HF.out (by decide) HbF.out (by decide) HG.out HB.out HdF.out Hm1.out (by decide)
    clear h5
    go_wp2_with fail
    refine c5.mono ?_
    rintro q w7 ⟨rfl, h7, s6⟩
    have s7 := Lib.hid (Hs5.out.trans s6 (fun _ h => h))
    clear c5 s6
    have bc := below1 w7 (.cells #[.int .i64 0, .int .i64 0, .int .i64 U] 3)
    have Ic := row_ints w7 3 .i64 [0, 0, U]
    have hc : RyOwn (fun b => (S3 ≤ b ∧ b < S4) ∨ b = w7.heap.size) B w _ g D1 := h7.keepE bc (fun b hb => hb.imp id (fun hb => by rw [hb, size1]; omega))
    have sc := s7.out.trans (h7.same bc) (fun _ h => h)
    have c8 := o_crash hc H1.out (by decide) Ic (fun x hx _ => by injection hx with hx; rw [← hx]; exact .inr rfl) Hm2.out
    have HX := Lib.hid sc
    clear h7 s7 bc Ic hc sc
    go_wp2_with fail
    refine c8.mono ?_
    rintro q w8 ⟨rfl, h8, s8⟩
    have HX := Lib.hid (HX.out.trans s8 (fun _ h => .inl h))
    have c9 := o_open (z := 2) h8 H2.out (by decide) Hb2.out (by decide) HG.out HB.out Hm4.out Hm3.out
    clear c8 h8 s8
    go_wp2_with fail
    refine c9.mono ?_
    rintro q w9 ⟨ro9, rfl, r9, h9, s9⟩
    have HX := Lib.hid (HX.out.trans s9 (fun _ h => .inl h))
    have c10 := o_bodies (z := 2) h9 r9 H3.out Hb3.out (by decide) HG.out HB.out Hm6.out
    have H9 := Lib.hid h9
    clear c9 h9 s9 r9
    go_wp2_with fail
    refine c10.mono ?_
    rintro q w10 ⟨v10, rfl, R10, b10⟩
    have HX := Lib.hid (HX.out.trans ((H9.out.same b10 : SameE _ w9 w10)) (fun _ h => .inl (.inl h)))
    have hN10 : RowsN w10 w3.heap.size (.slice av M cv) ps := HV.out.moved (fun b k1 k2 => HX.out b ⟨by rw [← HS3.out]; exact k1, by rw [← HS4.out]; exact k2⟩)
    obtain ⟨a1, c1, e1', P1⟩ := R10.parts
    rw [HM.out] at e1' P1
    subst e1'
    have h10 := H9.out.keep b10
    have hSm := r19Same_any a1 av M c1 cv ps w10 P1 hN10.at Hrr.out (by have := Hpl.out; omega)
    clear c10 R10 hN10 P1 b10
    go_wp2_with fail
    refine hSm.mono ?_
    rintro q w11 ⟨rfl, b11⟩
    have h11 := h10.keep b11
    have hBL := h11.b
    rw [← HBe.out] at hBL
    have hal := alive20_any w11 (HG.out.keep hBL (Nat.le_refl _))
    clear hSm h10 b11
    by_cases hi1 : i < 0
    · have c12 := o_open_arg (z := i) h11 H3.out (.inl hi1)
      clear h11
      go_wp2_with fail
      refine c12.mono ?_
      rintro q w12 ⟨rfl, rfl⟩
      clear c12
      go_wp2_with fail
      refine hal.mono ?_
      rintro q wz ⟨rfl, bz⟩
      have hBz := hBL.trans (bz.mono hBL.size)
      clear hal bz hBL
      go_wp2
      go_ret
      exact ⟨rfl, hBz⟩
    by_cases hi2 : 3 ≤ i
    · have c12 := o_open_arg (z := i) h11 H3.out (.inr hi2)
      clear h11
      go_wp2_with fail
      refine c12.mono ?_
      rintro q w12 ⟨rfl, rfl⟩
      clear c12
      go_wp2_with fail
      refine hal.mono ?_
      rintro q wz ⟨rfl, bz⟩
      have hBz := hBL.trans (bz.mono hBL.size)
      clear hal bz hBL
      go_wp2
      go_ret
      exact ⟨rfl, hBz⟩
    clear h11
    go_wp2_with fail
    refine hal.mono ?_
    rintro q wz ⟨rfl, bz⟩
    have hBz := hBL.trans (bz.mono hBL.size)
    clear hal bz hBL
    go_wp2
    go_ret
    exact ⟨rfl, hBz⟩
end Go.Proofs.YtnblknhdchpboaaDoor

/-
  The law RollNil: of a disk that is nil, or that no call made, there is no roll; a nil roll, and one that no call made, does nothing. New memory alone is written. No conditions beyond the row's own.
-/
namespace Go.Proofs.YtnblknhdchpboaaDoor
open Go.RowKit

def roZ : List Value := [.pointer none, .int .i64 0, .bool false]
set_option maxRecDepth 100000 in
theorem zeroRo : Zero Tryd.prog 51 roZ := by unfold Zero; kernel_rfl
theorem DeadR.keep {w w' : World} {p : Option Addr} (h : DeadR w p) (hb : Below w.heap.size w w') : DeadR w' p := by
  rcases h with h | ⟨g, h, hc⟩
  · exact .inl h
  · exact .inr ⟨g, h, by rw [hb.cell (World.block_lt_of_cell? w _ hc)]; exact hc⟩

set_option maxRecDepth 100000 in
set_option maxHeartbeats 2000000 in
theorem law_rynil (i : Int) (a : Option Addr) (n c : Nat) (z : List Int) (w : World) (hG : Glob11 w) (_ : (Lit.int .i64 i).wf = true) (_ : Ints .u8 w a n c z) (_ : ∀ x ∈ z, (Lit.int .u8 x).wf = true) (_ : c ≤ maxLen) :
    Calls Tryd.prog 5 #[.int .i64 i, .slice a n c] w fun q w' => q = .returned (.bool true) ∧ Below w.heap.size w w' := by
  have hz := zeroDk
  have hz0 : (dC (dk0 0) fa0 fa0 fa0)[0]? = some (.int .i64 0) := by rfl
  obtain ⟨zs, hzs⟩ : ∃ zs, dC (dk0 0) fa0 fa0 fa0 = zs := ⟨_, rfl⟩
  rw [hzs] at hz hz0
  clear hzs
  have hB := below1 w (.cells zs.toArray 49)
  have hD : Dead (w.alloc (.cells zs.toArray 49)) (some ⟨w.heap.size, 0, none⟩) := .inr ⟨_, rfl, ((Blk.new w 49 zs).cell 0).trans hz0⟩
  obtain ⟨W, hW⟩ : ∃ W, w.alloc (.cells zs.toArray 49) = W := ⟨_, rfl⟩
  rw [hW] at hB hD
  have hWH := Lib.hid hW
  obtain ⟨p, hp⟩ : ∃ p : Option Addr, some ⟨w.heap.size, 0, none⟩ = p := ⟨_, rfl⟩
  rw [hp] at hD
  have hpH := Lib.hid hp
  have hN : ∀ w : World, Dead w none := fun _ => .inl rfl
  have hR : ∀ w : World, DeadR w none := fun _ => .inl rfl
  have ry := zeroRo
  have ry2 : roZ[2]? = some (.bool false) := by rfl
  obtain ⟨rs, hrs⟩ : ∃ rs, roZ = rs := ⟨_, rfl⟩
  rw [hrs] at ry ry2
  have hB2 := hB.trans ((below1 W (.cells rs.toArray 51)).mono hB.size)
  have hE : DeadR (W.alloc (.cells rs.toArray 51)) (some ⟨W.heap.size, 0, none⟩) := .inr ⟨_, rfl, ((Blk.new W 51 rs).cell 2).trans ry2⟩
  obtain ⟨V, hV⟩ : ∃ V, W.alloc (.cells rs.toArray 51) = V := ⟨_, rfl⟩
  rw [hV] at hB2 hE
  have hVH := Lib.hid hV
  obtain ⟨p2, hp2⟩ : ∃ p : Option Addr, some ⟨W.heap.size, 0, none⟩ = p := ⟨_, rfl⟩
  rw [hp2] at hE
  have hp2H := Lib.hid hp2
  have hal := alive20_any V (hG.keep hB2 (Nat.le_refl _))
  have hBH := Lib.hid hB2
  clear hp hW hp2 hV hrs hB hB2 hG
  go_enter Tryd.func5, Tryd.ntmps5
  go_wp2_with (with_reducible refine wpList_alloc_blk rfl 49 rfl hz ?_
               refine RowKit.Hid.out ?_)
  refine Lib.hid ?_
  rw [hWH.out, hpH.out]
  go_wp2_with fail
  refine (yOpen_dead i (hN _)).mono ?_
  rintro q w1 ⟨rfl, rfl⟩
  go_wp2_with fail
  refine (yOpen_dead i hD).mono ?_
  rintro q w1 ⟨rfl, rfl⟩
  go_wp2_with (with_reducible refine wpList_alloc_blk rfl 51 rfl ry ?_
               refine RowKit.Hid.out ?_)
  refine Lib.hid ?_
  rw [hVH.out, hp2H.out]
  clear hz hz0 hD hN ry ry2 hWH hpH hVH hp2H
  go_wp2_with fail
  refine (zAppend (hR _) a n c).mono ?_
  rintro q w1 ⟨rfl, rfl⟩
  go_wp2_with fail
  refine (zAppend hE a n c).mono ?_
  rintro q w1 ⟨rfl, rfl⟩
  go_wp2_with fail
  refine (zClear (hR _)).mono ?_
  rintro q w1 ⟨rfl, rfl⟩
  go_wp2_with fail
  refine (zClear hE).mono ?_
  rintro q w1 ⟨rfl, rfl⟩
  go_wp2_with fail
  refine (zBodies (hR _)).mono ?_
  rintro q w1 ⟨rfl, rfl⟩
  go_wp2_with fail
  refine (zBodies hE).mono ?_
  rintro q w1 ⟨rfl, rfl⟩
  go_wp2_with fail
  refine (zLen (hR _)).mono ?_
  rintro q w1 ⟨rfl, rfl⟩
  go_wp2_with fail
  refine (zLen hE).mono ?_
  rintro q w1 ⟨rfl, rfl⟩
  go_wp2_with fail
  refine (zSize (hR _)).mono ?_
  rintro q w1 ⟨rfl, rfl⟩
  go_wp2_with fail
  refine (zSize hE).mono ?_
  rintro q w1 ⟨rfl, rfl⟩
  go_wp2_with fail
  refine hal.mono ?_
  rintro q w1 ⟨rfl, bz⟩
  have hBz := hBH.out.trans (bz.mono hBH.out.size)
  clear hal bz hBH
  go_wp2
  go_ret
  exact ⟨rfl, hBz⟩
end Go.Proofs.YtnblknhdchpboaaDoor
