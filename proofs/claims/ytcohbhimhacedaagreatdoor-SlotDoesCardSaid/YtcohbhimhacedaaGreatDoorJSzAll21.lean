/-
  Texts of stages that were proved on their own, joined: DkCall, SlRead, DkE. Each begins with its own words.
-/
import Derived.Test.YtcohbhimhacedaaGreatDoorJSzAll20
import Derived.Test.YtcohbhimhacedaaGreatDoorJSzAll6
import Derived.Test.YtcohbhimhacedaaGreatDoorJSzAll3
import Derived.Test.YtcohbhimhacedaaGreatDoorJSzAll15
import Derived.Test.YtcohbhimhacedaaGreatDoorJSzAll8
import Derived.Test.YtcohbhimhacedaaGreatDoorJSzAll4

/-
  The landed disk's Read, Size and Units, of a disk that stands so; what a call of a disk leaves of other blocks. (Cut out of layer 20's text of a roll in memory.) New memory alone is written. Conditions: a disk that New made; fewer than 2^42 steps.
-/
namespace Go.Proofs.YtcohbhimhacedaaGreatDoor
open Go.RowKit

theorem dk_lt {L : Nat → Nat} {P : Nat → Prop} {w : World} {g : Nat} {D : DkV} (h : DkIs L P w g D) : (∀ b, L b ≠ 0 → b < w.heap.size) ∧ ∀ b, P b → b < w.heap.size := by
  obtain ⟨_, _, _, h⟩ := h
  exact ⟨h.lab.l, fun b hb => (h.lab.p b hb).1⟩
theorem Went.at {L L' : Nat → Nat} {P P' : Nat → Prop} {w w' : World} (h : Went L P w L' P' w') {b : Nat} (hb : b < w.heap.size) (h0 : L b = 0) : w'.heap[b]? = w.heap[b]? := h.m.2 b hb (fun hn => hn h0)
theorem file_nat {z : Int} (hz : 0 ≤ z ∧ z < 3) : z = ((z.toNat : Nat) : Int) := by omega

theorem y_read {L : Nat → Nat} {P : Nat → Prop} {w : World} {g : Nat} {D : DkV} {T : Nat} (h : DkIs L P w g D) (hO : D.Ok T) {z : Int} (hz : 0 ≤ z ∧ z < 3) {X : List Int} (hX : heldR D z = X) {N : Nat} (hN : X.length = N) :
    Calls Tryz.prog 29 #[.pointer (some ⟨g, 0, none⟩), .int .i64 z] w fun q w' => ∃ b c, q = .returned (.slice b N c) ∧ Ints .u8 w' b N c X ∧ Below w.heap.size w w' := by
  obtain ⟨x0, x1, x2, hk⟩ := h
  subst hN; subst hX
  have hd := dRead_any hk hO z.toNat (toNat_lt3 hz)
  rw [← file_nat hz] at hd
  exact hd.mono fun q w' ⟨b, c, e, ho, hb⟩ => ⟨b, c, e, own_ints' ho, hb⟩

theorem y_size {L : Nat → Nat} {P : Nat → Prop} {w : World} {g : Nat} {D : DkV} {T : Nat} (h : DkIs L P w g D) (hO : D.Ok T) {z : Int} (hz : 0 ≤ z ∧ z < 3) {N : Nat} (hN : (heldR D z).length = N) :
    Calls Tryz.prog 65 #[.pointer (some ⟨g, 0, none⟩), .int .i64 z] w fun q w' => q = .returned (.int .i64 (N : Int)) ∧ Below w.heap.size w w' := by
  obtain ⟨x0, x1, x2, hk⟩ := h
  subst hN
  have hd := dSize_any hk hO z.toNat (toNat_lt3 hz)
  rw [← file_nat hz] at hd
  exact hd

theorem y_units {L : Nat → Nat} {P : Nat → Prop} {w : World} {g : Nat} {D : DkV} {T : Nat} (h : DkIs L P w g D) (hO : D.Ok T) {z : Int} (hz : 0 ≤ z ∧ z < 3) {N : Nat} (hN : (D.f z.toNat).units = N) :
    Calls Tryz.prog 66 #[.pointer (some ⟨g, 0, none⟩), .int .i64 z] w fun q w' => q = .returned (.int .i64 (N : Int)) ∧ Below w.heap.size w w' := by
  obtain ⟨x0, x1, x2, hk⟩ := h
  subst hN
  have hd := dUnits_any hk hO z.toNat (toNat_lt3 hz)
  rw [← file_nat hz] at hd
  exact hd

end Go.Proofs.YtcohbhimhacedaaGreatDoor

/-
  The landed disk's Read of a file that there is not. New memory alone is written. Conditions: a disk that New made.
-/
namespace Go.Proofs.YtcohbhimhacedaaGreatDoor
open Go.RowKit

set_option maxRecDepth 100000 in
set_option maxHeartbeats 1000000 in
theorem dLook_no {w : World} {g : Nat} {r : Int} (c0 : w.cell? ⟨g, 0, none⟩ = some (.int .i64 r)) (hr : 0 < r) (i : Int) (h : noFile i) :
    Calls Tryz.prog 57 #[.pointer (some ⟨g, 0, none⟩), .int .i64 i] w fun q w' => q = .returned (.agg flZ.toArray) ∧ Below w.heap.size w w' := by
  obtain ⟨zs, hzs⟩ : ∃ zs, flZ = zs := ⟨_, rfl⟩
  have hz := zeroFl
  have hbt := built_fl0
  have h1 := flZ_one
  have hl : flZ.length = 5 := rfl
  rw [hzs] at hz hbt h1 hl ⊢
  have hZ := Blk.new w 56 zs
  have hB := below1 w (.cells zs.toArray 56)
  have hF := dFind_no (w := w.alloc (.cells zs.toArray 56)) (g := g) (by rw [hB.cell (World.block_lt_of_cell? w _ c0)]; exact c0) hr i h
  obtain ⟨W, hW⟩ : ∃ W, w.alloc (.cells zs.toArray 56) = W := ⟨_, rfl⟩
  rw [hW] at hZ hB hF
  have hWH := Lib.hid hW
  have hrow : IsRow Tryz.prog 56 zs.length := by rw [hl]; exact rowFl
  clear hzs h hW c0 hr
  go_enter Tryz.func57, Tryz.ntmps57
  go_wp2_with (with_reducible refine wpList_alloc_blk rfl 56 rfl hz ?_
               refine RowKit.Hid.out ?_)
  refine Lib.hid ?_
  rw [hWH.out]
  go_wp2_with fail
  refine hF.mono ?_
  rintro q w1 ⟨rfl, rfl⟩
  go_wp2_with (with_reducible refine build_row rfl 56 #[] rfl (cells := zs.toArray) ?_ ?_
               (refine Eq.trans (congrArg _ ?_) hbt; kernel_rfl)
               refine RowKit.Hid.out ?_)
  refine Lib.hid ?_
  refine store_row rfl 56 (.tmp 4) _ rfl rfl rfl hZ rowFl hl hl h1 ?_
  intro w2 hb2 hg2
  have hB2 := hB.grown hg2 hB.size (fun q hq => by injection hq with hq; rw [← hq]; exact Nat.le_refl _)
  clear hZ hg2
  go_wp2
  refine bodyPost_ret (results_blk rfl rfl hb2 hrow) rfl ?_
  exact ⟨rfl, hB2⟩

set_option maxRecDepth 100000 in
set_option maxHeartbeats 1000000 in
theorem dRead_no {L : Nat → Nat} {P : Nat → Prop} {w : World} {g : Nat} {D : DkV} {T : Nat} (hD : DkIs L P w g D) (hO : D.Ok T) (i : Int) (h : noFile i) :
    Calls Tryz.prog 29 #[.pointer (some ⟨g, 0, none⟩), .int .i64 i] w fun q w' => q = .returned (.slice none 0 0) ∧ Below w.heap.size w w' := by
  have hr0 := hO.room
  obtain ⟨c0, _, _⟩ := hD.cells
  have hL := dLook_no c0 (by omega) i h
  have hf : ∀ wx, (Instr.field 56 (.agg flZ.toArray) 2).run Tryz.prog wx = .ok (.slice none 0 0) wx := fun wx => by kernel_rfl
  obtain ⟨Cs, hCs⟩ : ∃ Cs, flZ.toArray = Cs := ⟨_, rfl⟩
  rw [hCs] at hf hL
  clear h hCs hD hO hr0 c0
  have hC := fun w' => pClone_none w'
  go_enter Tryz.func29, Tryz.ntmps29
  go_wp2_with fail
  refine hL.mono ?_
  rintro q w1 ⟨rfl, hB⟩
  go_wp2_with fail
  refine (hC w1).mono ?_
  rintro q w2 ⟨rfl, rfl⟩
  go_wp2
  go_ret
  exact ⟨rfl, hB⟩

theorem y_readn {L : Nat → Nat} {P : Nat → Prop} {w : World} {g : Nat} {D : DkV} {T : Nat} (h : DkIs L P w g D) (hO : D.Ok T) {z : Int} (hz : z = -1 ∨ (0 ≤ z ∧ z < 3)) {X : List Int} (hX : readR D z = X) {N : Nat} (hN : X.length = N) :
    Calls Tryz.prog 29 #[.pointer (some ⟨g, 0, none⟩), .int .i64 z] w fun q w' => ∃ b c, q = .returned (.slice b N c) ∧ Ints .u8 w' b N c X ∧ Below w.heap.size w w' := by
  subst hN; subst hX
  unfold readR
  by_cases h0 : 0 ≤ z
  · rw [if_pos h0]
    exact y_read h hO (by omega) rfl rfl
  · rw [if_neg h0]
    exact (dRead_no h hO z (.inl (by omega))).mono fun q w' ⟨e, hb⟩ => ⟨none, 0, e, ⟨rfl, Nat.le_refl _, .inl rfl⟩, hb⟩
end Go.Proofs.YtcohbhimhacedaaGreatDoor

/-
  A landed disk of the call's own, with other blocks beside it: what a law's calls leave. (Cut out of layer 20's text.) New memory is written, and the disk's own. Conditions: a disk that New made; fewer than 2^42 steps.
-/
namespace Go.Proofs.YtcohbhimhacedaaGreatDoor
open Go.RowKit

/-- The landed disk at g is D; its blocks are no lower than B; those of E are nobody's. -/
structure RyOwn (E : Nat → Prop) (B : Nat) (w0 w : World) (g : Nat) (D : DkV) : Prop where
  is : ∃ L P, DkIs L P w g D ∧ (∀ b, L b ≠ 0 → B ≤ b) ∧ ∀ b, E b → b < w.heap.size ∧ L b = 0 ∧ ¬ P b
  b : Below B w0 w
  s : B ≤ w.heap.size
def SameE (E : Nat → Prop) (w w' : World) : Prop := ∀ b, E b → w'.heap[b]? = w.heap[b]?
theorem RyOwn.of_own {B : Nat} {w0 w : World} {g : Nat} {D : DkV} (h : DkOwn B w0 w g D) : RyOwn (fun _ => False) B w0 w g D := by
  obtain ⟨L, P, h1, h2⟩ := h.is
  exact ⟨⟨L, P, h1, h2, fun _ h => h.elim⟩, h.b, h.s⟩
theorem RyOwn.keepE {E E' : Nat → Prop} {B : Nat} {w0 w w' : World} {g : Nat} {D : DkV} (h : RyOwn E B w0 w g D) (hb : Below w.heap.size w w') (hE : ∀ b, E' b → E b ∨ (w.heap.size ≤ b ∧ b < w'.heap.size)) : RyOwn E' B w0 w' g D := by
  obtain ⟨L, P, h1, h2, h3⟩ := h.is
  obtain ⟨l1, l2⟩ := dk_lt h1
  have hs := hb.size
  refine ⟨⟨L, P, h1.keep hb, h2, fun b he => ?_⟩, h.b.trans (hb.mono h.s), Nat.le_trans h.s hs⟩
  rcases hE b he with he | he
  · exact ⟨Nat.lt_of_lt_of_le (h3 b he).1 hs, (h3 b he).2⟩
  · refine ⟨he.2, ?_, fun hp => absurd (l2 b hp) (Nat.not_lt.2 he.1)⟩
    by_cases h0 : L b = 0
    · exact h0
    · exact absurd (l1 b h0) (Nat.not_lt.2 he.1)
theorem RyOwn.keep {E : Nat → Prop} {B : Nat} {w0 w w' : World} {g : Nat} {D : DkV} (h : RyOwn E B w0 w g D) (hb : Below w.heap.size w w') : RyOwn E B w0 w' g D := h.keepE hb (fun _ h => .inl h)
theorem RyOwn.less {E E' : Nat → Prop} {B : Nat} {w0 w : World} {g : Nat} {D : DkV} (h : RyOwn E B w0 w g D) (hE : ∀ b, E' b → E b) : RyOwn E' B w0 w g D := by
  obtain ⟨L, P, h1, h2, h3⟩ := h.is
  exact ⟨⟨L, P, h1, h2, fun b he => h3 b (hE b he)⟩, h.b, h.s⟩
theorem RyOwn.lt {E : Nat → Prop} {B : Nat} {w0 w : World} {g : Nat} {D : DkV} (h : RyOwn E B w0 w g D) : ∀ b, E b → b < w.heap.size := by
  obtain ⟨L, P, h1, h2, h3⟩ := h.is
  exact fun b hb => (h3 b hb).1
/-- A block of E was written. -/
theorem RyOwn.grown {E : Nat → Prop} {B : Nat} {w0 w w' : World} {g : Nat} {D : DkV} (h : RyOwn E B w0 w g D) {G : Nat} (hg : w.grownBy w' (some G)) (hG : E G) (hB : B ≤ G) : RyOwn E B w0 w' g D := by
  obtain ⟨L, P, h1, h2, h3⟩ := h.is
  have hs := hg.size
  have hm : Moved (fun b => b = G) w w' := moved_set rfl hg
  obtain ⟨e1, e2, e3⟩ := h3 G hG
  obtain ⟨x0, x1, x2, h1⟩ := h1
  exact ⟨⟨L, P, ⟨x0, x1, x2, h1.far hm (fun b hb e => by subst e; exact hb.elim (fun h => h e2) e3)⟩, h2, fun b he => ⟨Nat.lt_of_lt_of_le (h3 b he).1 hs, (h3 b he).2⟩⟩, h.b.grown hg h.s (fun q hq => by injection hq with hq; rw [← hq]; exact hB), Nat.le_trans h.s hs⟩
/-- Behind a call of the disk. -/
theorem ry_prog {E : Nat → Prop} {B : Nat} {w0 w w' : World} {g : Nat} {D' : DkV} {L L' : Nat → Nat} {P P' : Nat → Prop} (hb : Below B w0 w) (hs : B ≤ w.heap.size) (h2 : ∀ b, L b ≠ 0 → B ≤ b) (h3 : ∀ b, E b → b < w.heap.size ∧ L b = 0 ∧ ¬ P b) (hk : DkIs L' P' w' g D') (hv : Went L P w L' P' w') :
    RyOwn E B w0 w' g D' ∧ SameE E w w' :=
  ⟨⟨⟨L', P', hk, hv.low h2 hs, fun b he => ⟨Nat.lt_of_lt_of_le (h3 b he).1 hv.m.size, (hv.l b (h3 b he).1).trans (h3 b he).2.1, fun hp => (hv.q b hp).elim (h3 b he).2.2 (fun h => absurd (h3 b he).1 (Nat.not_lt.2 h))⟩⟩, below_new hv hb hs h2, Nat.le_trans hs hv.m.size⟩, fun b he => hv.at (h3 b he).1 (h3 b he).2.1⟩

section
variable {E : Nat → Prop} {B : Nat} {w0 w : World} {g : Nat} {D D' : DkV} {T : Nat} {e : Int}

end

theorem o_new {w : World} (r : Int) (h : 1 ≤ r ∧ r ≤ 65536) (z : Nat) :
    Calls Tryz.prog 4 #[.int .i64 r] w fun q w' => ∃ g, q = .returned (.tuple #[.pointer (some ⟨g, 0, none⟩), .int .i64 0]) ∧ RyOwn (fun _ => False) w.heap.size w w' g (kpD r 0 false z ⟨[], []⟩) :=
  (new_own r h).mono fun q w' ⟨g, e, k⟩ => ⟨g, e, by rw [← kp0]; exact RyOwn.of_own k⟩
end Go.Proofs.YtcohbhimhacedaaGreatDoor
