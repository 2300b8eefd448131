/-
  Texts of stages that were proved on their own, joined: DkRoom, DkCall, DkE. Each begins with its own words.
-/
import Derived.Test.YtinmmhbiomcdoaaGreatDoorJVaLawN13
import Derived.Test.YtinmmhbiomcdoaaGreatDoorJVaLawN8
import Derived.Test.YtinmmhbiomcdoaaGreatDoorJVaLawN14
import Derived.Test.YtinmmhbiomcdoaaGreatDoorJVaLawN9

/-
  What the law DiskRoom asks of a disk of the call's own: a clone, what is used, sizes; one call out of a slice of them. New memory alone is written.
-/
namespace Go.Proofs.YtinmmhbiomcdoaaGreatDoor
open Go.RowKit

/-- One call out of a slice of calls. -/
theorem OpsD.sub {w : World} {b off n c : Nat} {ops : List OpD} (h : OpsD w (some ⟨b, off, none⟩) n c ops) (i : Nat) (hi : i < n) : ∃ o, OpsD w (some ⟨b, off + i * 5, none⟩) 1 (c - i) [o] := by
  have hl := h.len
  have hc := h.cap
  have ho : ops[i]? = some ops[i] := List.getElem?_eq_getElem (by omega)
  refine ⟨ops[i], rfl, by omega, .inr ⟨b, off + i * 5, rfl, fun j o hj k v hk => ?_⟩, fun o hm => ?_⟩
  · obtain ⟨rfl, rfl⟩ : j = 0 ∧ ops[i] = o := by
      cases j with
      | zero => exact ⟨rfl, by simpa using hj⟩
      | succ j => simp at hj
    rcases h.at' with h0 | ⟨b', off', ha, hcc⟩
    · omega
    · injection ha with ha
      injection ha with e1 e2 _
      subst e1; subst e2
      have h1 := hcc i _ ho k v hk
      rw [show off + i * 5 + 0 * 5 + k = off + i * 5 + k by omega]
      exact h1
  · rw [List.mem_singleton] at hm
    subst hm
    exact h.ok _ (List.getElem_mem _)

theorem own_used {B : Nat} {w0 w : World} {g : Nat} {D : DkV} {T : Nat} (h : DkOwn B w0 w g D) (hO : D.Ok T) :
    Calls Tryz.prog 98 #[.pointer (some ⟨g, 0, none⟩)] w fun q w' => q = .returned (.int .i64 (D.used : Nat)) ∧ w' = w := by
  obtain ⟨L, P, ⟨x0, x1, x2, h1⟩, _⟩ := h.is
  have hr := hO.room
  obtain ⟨y0, _, k0⟩ := h1.fl 0 (by decide)
  obtain ⟨y1, _, k1⟩ := h1.fl 1 (by decide)
  obtain ⟨y2, _, k2⟩ := h1.fl 2 (by decide)
  exact dUsed_any (dcells h1.b).1 (by omega) (fcells h1.b k0).2.2.2.1 (fcells h1.b k1).2.2.2.1 (fcells h1.b k2).2.2.2.1 hO.o0.need hO.o1.need hO.o2.need

theorem own_usedB {B : Nat} {w0 w : World} {g : Nat} {D : DkV} {T : Nat} (h : DkOwn B w0 w g D) (hO : D.Ok T) :
    Calls Tryz.prog 98 #[.pointer (some ⟨g, 0, none⟩)] w fun q w' => q = .returned (.int .i64 (D.used : Nat)) ∧ Below w.heap.size w w' :=
  (own_used h hO).mono fun _ _ ⟨e, k⟩ => ⟨e, by rw [k]; exact Below.refl _ _⟩

theorem own_size {B : Nat} {w0 w : World} {g : Nat} {D : DkV} {T : Nat} (h : DkOwn B w0 w g D) (hO : D.Ok T) (i : Nat) (hi : i < 3) :
    Calls Tryz.prog 58 #[.pointer (some ⟨g, 0, none⟩), .int .i64 (i : Int)] w fun q w' => q = .returned (.int .i64 ((D.f i).held.length : Nat)) ∧ Below w.heap.size w w' := by
  obtain ⟨L, P, ⟨x0, x1, x2, h1⟩, _⟩ := h.is
  exact dSize_any h1 hO i hi

theorem own_sizeL {B : Nat} {w0 w : World} {g : Nat} {D : DkV} {T : Nat} (h : DkOwn B w0 w g D) (hO : D.Ok T) (i : Nat) (hi : i < 3) (z : Int) (hz : z = (i : Int)) (n : Nat) (hn : (D.f i).held.length = n) :
    Calls Tryz.prog 58 #[.pointer (some ⟨g, 0, none⟩), .int .i64 z] w fun q w' => q = .returned (.int .i64 (n : Int)) ∧ Below w.heap.size w w' := by
  subst hz; subst hn
  exact own_size h hO i hi

theorem own_usedL {B : Nat} {w0 w : World} {g : Nat} {D : DkV} {T : Nat} (h : DkOwn B w0 w g D) (hO : D.Ok T) (n : Nat) (hn : D.used = n) :
    Calls Tryz.prog 98 #[.pointer (some ⟨g, 0, none⟩)] w fun q w' => q = .returned (.int .i64 (n : Int)) ∧ Below w.heap.size w w' := by
  subst hn
  exact own_usedB h hO

theorem wrap_sum18 (a b : Nat) (h : a + b ≤ 200000) : wrap64 ((a : Int) + (b : Int)) = (a : Int) + (b : Int) := by unfold wrap64; omega

theorem wrap_sum318 (a b c : Nat) (h : a + b + c ≤ 200000) : wrap64 ((a : Int) + (b : Int) + (c : Int)) = (a : Int) + (b : Int) + (c : Int) := by unfold wrap64; omega

/-- What is held is at most what is used, and that is at most the room; a crash makes nothing greater, and leaves just what is held. -/
theorem room_math {D : DkV} {T : Nat} (hO : D.Ok T) (us : List Int) :
    (D.used : Int) ≤ D.room ∧ (D.f 0).held.length + (D.f 1).held.length + (D.f 2).held.length ≤ D.used ∧ (crD D us).used ≤ D.used ∧
      ((crD D us).f 0).held.length + ((crD D us).f 1).held.length + ((crD D us).f 2).held.length = (crD D us).used := by
  refine ⟨hO.used, ?_, ?_, rfl⟩
  · have h0 := FlV.held_le D.f0
    have h1 := FlV.held_le D.f1
    have h2 := FlV.held_le D.f2
    show D.f0.held.length + D.f1.held.length + D.f2.held.length ≤ D.f0.need + D.f1.need + D.f2.need
    omega
  · have h0 := FlV.settle_need (v := D.f0) (leftU D.f0 us 0)
    have h1 := FlV.settle_need (v := D.f1) (leftU D.f1 us 1)
    have h2 := FlV.settle_need (v := D.f2) (leftU D.f2 us 2)
    show (D.f0.settle (leftU D.f0 us 0)).need + (D.f1.settle (leftU D.f1 us 1)).need + (D.f2.settle (leftU D.f2 us 2)).need ≤ D.f0.need + D.f1.need + D.f2.need
    omega

/-- The sums and guards of the law, reckoned. -/
theorem room_nums (R : Int) (NU NV s0 s1 s2 r0 r1 r2 : Nat) (hR : R ≤ 65536) (m1 : (NU : Int) ≤ R) (m2 : s0 + s1 + s2 ≤ NU) (m3 : NV ≤ NU) (m4 : r0 + r1 + r2 = NV) :
    decide (R < (NU : Int)) = false ∧ IntKind.i64.wrap ((s0 : Int) + (s1 : Int)) = (s0 : Int) + (s1 : Int) ∧ IntKind.i64.wrap ((s0 : Int) + (s1 : Int) + (s2 : Int)) = (s0 : Int) + (s1 : Int) + (s2 : Int) ∧
      decide ((NU : Int) < (s0 : Int) + (s1 : Int) + (s2 : Int)) = false ∧ decide ((NU : Int) < (NV : Int)) = false ∧
      IntKind.i64.wrap ((r0 : Int) + (r1 : Int)) = (r0 : Int) + (r1 : Int) ∧ IntKind.i64.wrap ((r0 : Int) + (r1 : Int) + (r2 : Int)) = (r0 : Int) + (r1 : Int) + (r2 : Int) ∧ ((r0 : Int) + (r1 : Int) + (r2 : Int) != (NV : Int)) = false := by
  refine ⟨decide_eq_false (by omega), by rw [IntKind.wrap_i64]; omega, by rw [IntKind.wrap_i64]; omega, decide_eq_false (by omega), decide_eq_false (by omega), by rw [IntKind.wrap_i64]; omega, by rw [IntKind.wrap_i64]; omega, ?_⟩
  rw [bne_eq_false_iff_eq]
  omega
end Go.Proofs.YtinmmhbiomcdoaaGreatDoor

/-
  The landed disk's Read, Size and Units, of a disk that stands so; what a call of a disk leaves of other blocks. (Cut out of layer 20's text of a roll in memory.) New memory alone is written. Conditions: a disk that New made; fewer than 2^42 steps.
-/
namespace Go.Proofs.YtinmmhbiomcdoaaGreatDoor
open Go.RowKit

theorem dk_lt {L : Nat → Nat} {P : Nat → Prop} {w : World} {g : Nat} {D : DkV} (h : DkIs L P w g D) : (∀ b, L b ≠ 0 → b < w.heap.size) ∧ ∀ b, P b → b < w.heap.size := by
  obtain ⟨_, _, _, h⟩ := h
  exact ⟨h.lab.l, fun b hb => (h.lab.p b hb).1⟩
theorem Went.at {L L' : Nat → Nat} {P P' : Nat → Prop} {w w' : World} (h : Went L P w L' P' w') {b : Nat} (hb : b < w.heap.size) (h0 : L b = 0) : w'.heap[b]? = w.heap[b]? := h.m.2 b hb (fun hn => hn h0)
/-- Numbers were drawn ahead. -/
theorem DkTo.drewn {L : Nat → Nat} {P : Nat → Prop} {w w' : World} {g : Nat} {D : DkV} (h : DkTo L P w.drew g w' D) : DkTo L P w g w' D := by
  obtain ⟨L', P', h1, h2⟩ := h
  exact ⟨L', P', h1, (Went.of_below (Below.refl _ _).drew).trans h2⟩
theorem DkTo.trans {L : Nat → Nat} {P : Nat → Prop} {w w1 w2 : World} {g : Nat} {D : DkV} {L1 : Nat → Nat} {P1 : Nat → Prop} (a : Went L P w L1 P1 w1) (h : DkTo L1 P1 w1 g w2 D) : DkTo L P w g w2 D := by
  obtain ⟨L', P', h1, h2⟩ := h
  exact ⟨L', P', h1, a.trans h2⟩
theorem file_nat {z : Int} (hz : 0 ≤ z ∧ z < 3) : z = ((z.toNat : Nat) : Int) := by omega

theorem y_read {L : Nat → Nat} {P : Nat → Prop} {w : World} {g : Nat} {D : DkV} {T : Nat} (h : DkIs L P w g D) (hO : D.Ok T) {z : Int} (hz : 0 ≤ z ∧ z < 3) {X : List Int} (hX : heldR D z = X) {N : Nat} (hN : X.length = N) :
    Calls Tryz.prog 54 #[.pointer (some ⟨g, 0, none⟩), .int .i64 z] w fun q w' => ∃ b c, q = .returned (.slice b N c) ∧ Ints .u8 w' b N c X ∧ Below w.heap.size w w' := by
  obtain ⟨x0, x1, x2, hk⟩ := h
  subst hN; subst hX
  have hd := dRead_any hk hO z.toNat (toNat_lt3 hz)
  rw [← file_nat hz] at hd
  exact hd.mono fun q w' ⟨b, c, e, ho, hb⟩ => ⟨b, c, e, own_ints' ho, hb⟩

theorem y_size {L : Nat → Nat} {P : Nat → Prop} {w : World} {g : Nat} {D : DkV} {T : Nat} (h : DkIs L P w g D) (hO : D.Ok T) {z : Int} (hz : 0 ≤ z ∧ z < 3) {N : Nat} (hN : (heldR D z).length = N) :
    Calls Tryz.prog 58 #[.pointer (some ⟨g, 0, none⟩), .int .i64 z] w fun q w' => q = .returned (.int .i64 (N : Int)) ∧ Below w.heap.size w w' := by
  obtain ⟨x0, x1, x2, hk⟩ := h
  subst hN
  have hd := dSize_any hk hO z.toNat (toNat_lt3 hz)
  rw [← file_nat hz] at hd
  exact hd

theorem y_units {L : Nat → Nat} {P : Nat → Prop} {w : World} {g : Nat} {D : DkV} {T : Nat} (h : DkIs L P w g D) (hO : D.Ok T) {z : Int} (hz : 0 ≤ z ∧ z < 3) {N : Nat} (hN : (D.f z.toNat).units = N) :
    Calls Tryz.prog 126 #[.pointer (some ⟨g, 0, none⟩), .int .i64 z] w fun q w' => q = .returned (.int .i64 (N : Int)) ∧ Below w.heap.size w w' := by
  obtain ⟨x0, x1, x2, hk⟩ := h
  subst hN
  have hd := dUnits_any hk hO z.toNat (toNat_lt3 hz)
  rw [← file_nat hz] at hd
  exact hd

theorem held_len {D : DkV} {T : Nat} (hO : D.Ok T) (z : Int) : (heldR D z).length ≤ 65536 := Nat.le_trans (FlV.held_le _) (hO.f _).need
end Go.Proofs.YtinmmhbiomcdoaaGreatDoor

/-
  A landed disk of the call's own, with other blocks beside it: what a law's calls leave. (Cut out of layer 20's text.) New memory is written, and the disk's own. Conditions: a disk that New made; fewer than 2^42 steps.
-/
namespace Go.Proofs.YtinmmhbiomcdoaaGreatDoor
open Go.RowKit

/-- The landed disk at g is D; its blocks are no lower than B; those of E are nobody's. -/
structure RyOwn (E : Nat → Prop) (B : Nat) (w0 w : World) (g : Nat) (D : DkV) : Prop where
  is : ∃ L P, DkIs L P w g D ∧ (∀ b, L b ≠ 0 → B ≤ b) ∧ ∀ b, E b → b < w.heap.size ∧ L b = 0 ∧ ¬ P b
  b : Below B w0 w
  s : B ≤ w.heap.size
def SameE (E : Nat → Prop) (w w' : World) : Prop := ∀ b, E b → w'.heap[b]? = w.heap[b]?
theorem SameE.blk {E : Nat → Prop} {w w' : World} (h : SameE E w w') {g : Nat} {t : TypeId} {cs : List Value} (hb : Blk w g t cs) (hg : E g) : Blk w' g t cs := (h g hg).trans hb
theorem RyOwn.of_own {B : Nat} {w0 w : World} {g : Nat} {D : DkV} (h : DkOwn B w0 w g D) : RyOwn (fun _ => False) B w0 w g D := by
  obtain ⟨L, P, h1, h2⟩ := h.is
  exact ⟨⟨L, P, h1, h2, fun _ h => h.elim⟩, h.b, h.s⟩
theorem RyOwn.own {E : Nat → Prop} {B : Nat} {w0 w : World} {g : Nat} {D : DkV} (h : RyOwn E B w0 w g D) : DkOwn B w0 w g D := by
  obtain ⟨L, P, h1, h2, _⟩ := h.is
  exact ⟨⟨L, P, h1, h2⟩, h.b, h.s⟩
theorem RyOwn.keepE {E E' : Nat → Prop} {B : Nat} {w0 w w' : World} {g : Nat} {D : DkV} (h : RyOwn E B w0 w g D) (hb : Below w.heap.size w w') (hE : ∀ b, E' b → E b ∨ (w.heap.size ≤ b ∧ b < w'.heap.size)) : RyOwn E' B w0 w' g D := by
  obtain ⟨L, P, h1, h2, h3⟩ := h.is
  obtain ⟨l1, l2⟩ := dk_lt h1
  have hs := hb.size
  refine ⟨⟨L, P, h1.keep hb, h2, fun b he => ?_⟩, h.b.trans (hb.mono h.s), Nat.le_trans h.s hs⟩
  rcases hE b he with he | he
  · exact ⟨Nat.lt_of_lt_of_le (h3 b he).1 hs, (h3 b he).2⟩
  · refine ⟨he.2, ?_, fun hp => absurd (l2 b hp) (Nat.not_lt.2 he.1)⟩
    by_cases h0 : L b = 0
    · exact h0
    · exact absurd (l1 b h0) (Nat.not_lt.2 he.1)
theorem RyOwn.keep {E : Nat → Prop} {B : Nat} {w0 w w' : World} {g : Nat} {D : DkV} (h : RyOwn E B w0 w g D) (hb : Below w.heap.size w w') : RyOwn E B w0 w' g D := h.keepE hb (fun _ h => .inl h)
theorem RyOwn.less {E E' : Nat → Prop} {B : Nat} {w0 w : World} {g : Nat} {D : DkV} (h : RyOwn E B w0 w g D) (hE : ∀ b, E' b → E b) : RyOwn E' B w0 w g D := by
  obtain ⟨L, P, h1, h2, h3⟩ := h.is
  exact ⟨⟨L, P, h1, h2, fun b he => h3 b (hE b he)⟩, h.b, h.s⟩
theorem RyOwn.lt {E : Nat → Prop} {B : Nat} {w0 w : World} {g : Nat} {D : DkV} (h : RyOwn E B w0 w g D) : ∀ b, E b → b < w.heap.size := by
  obtain ⟨L, P, h1, h2, h3⟩ := h.is
  exact fun b hb => (h3 b hb).1
theorem RyOwn.same {E : Nat → Prop} {B : Nat} {w0 w w' : World} {g : Nat} {D : DkV} (h : RyOwn E B w0 w g D) (hb : Below w.heap.size w w') : SameE E w w' := fun b he => hb.block b (h.lt b he)
/-- A block of E was written. -/
theorem RyOwn.grown {E : Nat → Prop} {B : Nat} {w0 w w' : World} {g : Nat} {D : DkV} (h : RyOwn E B w0 w g D) {G : Nat} (hg : w.grownBy w' (some G)) (hG : E G) (hB : B ≤ G) : RyOwn E B w0 w' g D := by
  obtain ⟨L, P, h1, h2, h3⟩ := h.is
  have hs := hg.size
  have hm : Moved (fun b => b = G) w w' := moved_set rfl hg
  obtain ⟨e1, e2, e3⟩ := h3 G hG
  obtain ⟨x0, x1, x2, h1⟩ := h1
  exact ⟨⟨L, P, ⟨x0, x1, x2, h1.far hm (fun b hb e => by subst e; exact hb.elim (fun h => h e2) e3)⟩, h2, fun b he => ⟨Nat.lt_of_lt_of_le (h3 b he).1 hs, (h3 b he).2⟩⟩, h.b.grown hg h.s (fun q hq => by injection hq with hq; rw [← hq]; exact hB), Nat.le_trans h.s hs⟩
/-- Behind a call of the disk. -/
theorem ry_prog {E : Nat → Prop} {B : Nat} {w0 w w' : World} {g : Nat} {D' : DkV} {L L' : Nat → Nat} {P P' : Nat → Prop} (hb : Below B w0 w) (hs : B ≤ w.heap.size) (h2 : ∀ b, L b ≠ 0 → B ≤ b) (h3 : ∀ b, E b → b < w.heap.size ∧ L b = 0 ∧ ¬ P b) (hk : DkIs L' P' w' g D') (hv : Went L P w L' P' w') :
    RyOwn E B w0 w' g D' ∧ SameE E w w' :=
  ⟨⟨⟨L', P', hk, hv.low h2 hs, fun b he => ⟨Nat.lt_of_lt_of_le (h3 b he).1 hv.m.size, (hv.l b (h3 b he).1).trans (h3 b he).2.1, fun hp => (hv.q b hp).elim (h3 b he).2.2 (fun h => absurd (h3 b he).1 (Nat.not_lt.2 h))⟩⟩, below_new hv hb hs h2, Nat.le_trans hs hv.m.size⟩, fun b he => hv.at (h3 b he).1 (h3 b he).2.1⟩

section
variable {E : Nat → Prop} {B : Nat} {w0 w : World} {g : Nat} {D D' : DkV} {T : Nat} {e : Int}

theorem o_append {z : Int} {a : Option Addr} {n c : Nat} {bs : List Int} (h : RyOwn E B w0 w g D) (hO : D.Ok T) (hT : T < 4398046511103) (hI : Ints .u8 w a n c bs) (he : apD D z bs = (D', e)) :
    Calls Tryz.prog 26 #[.pointer (some ⟨g, 0, none⟩), .int .i64 z, .slice a n c] w fun q w' => q = .returned (.int .i64 e) ∧ RyOwn E B w0 w' g D' ∧ SameE E w w' := by
  obtain ⟨L, P, h1, h2, h3⟩ := h.is
  have hc := dAppend_any (file := z) h1 hO (by omega) hI
  rw [he] at hc
  exact hc.mono fun q w' ⟨eq, L', P', k1, k2⟩ => ⟨eq, ry_prog h.b h.s h2 h3 k1 k2⟩

theorem o_sync {z : Int} (h : RyOwn E B w0 w g D) (hO : D.Ok T) (hT : T < 4398046511103) (he : syD D z = (D', e)) :
    Calls Tryz.prog 85 #[.pointer (some ⟨g, 0, none⟩), .int .i64 z] w fun q w' => q = .returned (.int .i64 e) ∧ RyOwn E B w0 w' g D' ∧ SameE E w w' := by
  obtain ⟨L, P, h1, h2, h3⟩ := h.is
  have hc := dSync_any (file := z) h1 hO (by omega)
  rw [he] at hc
  exact hc.mono fun q w' ⟨eq, L', P', k1, k2⟩ => ⟨eq, ry_prog h.b h.s h2 h3 k1 k2⟩

theorem o_arm (n : Int) (h : RyOwn E B w0 w g D) (hO : D.Ok T) (he : armD D n = D') :
    Calls Tryz.prog 16 #[.pointer (some ⟨g, 0, none⟩), .int .i64 n] w fun q w' => q = .returned (.tuple #[]) ∧ RyOwn E B w0 w' g D' ∧ SameE E w w' := by
  obtain ⟨L, P, h1, h2, h3⟩ := h.is
  have hc := dArmD h1 hO n
  rw [he] at hc
  exact hc.mono fun q w' ⟨eq, L', P', k1, k2⟩ => ⟨eq, ry_prog h.b h.s h2 h3 k1 k2⟩

theorem o_crash {a : Option Addr} {n c : Nat} {us : List Int} (h : RyOwn E B w0 w g D) (hO : D.Ok T) (hT : T < 4398046511103) (hI : Ints .i64 w a n c us) (ho : ∀ x, a = some x → 0 < n → E x.block) (he : crD D us = D') :
    Calls Tryz.prog 18 #[.pointer (some ⟨g, 0, none⟩), .slice a n c] w fun q w' => q = .returned (.tuple #[]) ∧ RyOwn E B w0 w' g D' ∧ SameE E w w' := by
  obtain ⟨L, P, h1, h2, h3⟩ := h.is
  have hc := dCrash_any h1 hO (by omega) hI (fun x hx hn => (h3 _ (ho x hx hn)).2.1)
  rw [he] at hc
  exact hc.mono fun q w' ⟨eq, L', P', k1, k2⟩ => ⟨eq, ry_prog h.b h.s h2 h3 k1 k2⟩

end

theorem o_new {w : World} (r : Int) (h : 1 ≤ r ∧ r ≤ 65536) (z : Nat) :
    Calls Tryz.prog 7 #[.int .i64 r] w fun q w' => ∃ g, q = .returned (.tuple #[.pointer (some ⟨g, 0, none⟩), .int .i64 0]) ∧ RyOwn (fun _ => False) w.heap.size w w' g (kpD r 0 false z ⟨[], []⟩) :=
  (new_own r h).mono fun q w' ⟨g, e, k⟩ => ⟨g, e, by rw [← kp0]; exact RyOwn.of_own k⟩
theorem flv_ok {K : List Int} {T : Nat} (h : K.length ≤ 65536) : (⟨K, []⟩ : FlV).Ok T := ⟨trivial, Nat.zero_le _, Nat.zero_le _, h⟩
end Go.Proofs.YtinmmhbiomcdoaaGreatDoor
