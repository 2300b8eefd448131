/-
  Texts of stages that were proved on their own, joined: DkTwo, DkPair, DkLike, RzLike. Each begins with its own words.
-/
import Derived.Test.YtnblknhdchpboaaGreatDoorJRzAll9
import Derived.Test.YtnblknhdchpboaaGreatDoorJRzAll14

/-
  The law DiskDoes: a landed disk and the document's, side by side in memory, and what each call leaves of both. New memory is written, and the landed disk's own. Conditions: the document's disk has at most 2^41 steps.
-/
namespace Go.Proofs.YtnblknhdchpboaaGreatDoor
open Go.RowKit

/-! ### The document's disk lies in memory -/
theorem RStep.lt {R : Nat → Prop} {w : World} {vals : List Value} {s : StV} (h : RStep R w vals s) : RStep (fun b => R b ∧ b < w.heap.size) w vals s := by
  obtain ⟨a, c, hv, hs⟩ := h
  refine ⟨a, c, hv, ?_⟩
  cases s with
  | put xs => exact ⟨hs.1, fun x hx hn => ⟨hs.2 x hx hn, hs.1.isIn.2 x hx hn⟩⟩
  | cut n => trivial

theorem RSteps.lt {R : Nat → Prop} {w : World} {a : Option Addr} {c : Nat} {S : List StV} (h : RSteps R w a c S) : RSteps (fun b => R b ∧ b < w.heap.size) w a c S := by
  refine ⟨h.1, ?_⟩
  by_cases h0 : S.length = 0
  · exact .inl h0
  obtain ⟨b', off', s, A, C, ha', _, hr, _⟩ := h.get 0 (by omega)
  have hl : b' < w.heap.size := by
    have h1 : ∃ v, (stC s A C)[0]? = some v := by cases s <;> exact ⟨_, rfl⟩
    obtain ⟨v, h1⟩ := h1
    exact World.block_lt_of_cell? w _ (hr 0 v h1)
  rcases h.2 with h1 | ⟨b, off, ha, hb, hc⟩
  · exact absurd h1 h0
  · rw [ha] at ha'
    injection ha' with ha'
    injection ha' with e1 _ _
    subst e1
    exact .inr ⟨b, off, ha, ⟨hb, hl⟩, fun i s hs => by
      obtain ⟨vals, k1, k2⟩ := hc i s hs
      exact ⟨vals, k1, k2.lt⟩⟩

theorem RFile.lt {R : Nat → Prop} {w : World} {cs : List Value} {v : FlV} (h : RFile R w cs v) : RFile (fun b => R b ∧ b < w.heap.size) w cs v := by
  obtain ⟨ka, kc, sa, sc, hc, h1, h2, h3⟩ := h
  exact ⟨ka, kc, sa, sc, hc, h1, fun x hx hn => ⟨h2 x hx hn, h1.isIn.2 x hx hn⟩, h3.lt⟩

theorem RDisk.lt {R : Nat → Prop} {w : World} {cs : List Value} {D : DkV} (h : RDisk R w cs D) : RDisk (fun b => R b ∧ b < w.heap.size) w cs D := by
  obtain ⟨c0, c1, c2, hc, h0, h1, h2⟩ := h
  exact ⟨c0, c1, c2, hc, h0.lt, h1.lt, h2.lt⟩

/-! ### Both disks -/
structure TwoAt (L : Nat → Nat) (P R E : Nat → Prop) (B : Nat) (w0 w : World) (g : Nat) (cs : List Value) (D D' : DkV) : Prop where
  k : DkIs L P w g D
  r : RDisk R w cs D'
  rl : ∀ b, R b → b < w.heap.size ∧ L b = 0
  lb : ∀ b, L b ≠ 0 → B ≤ b
  e : ∀ b, E b → b < w.heap.size ∧ L b = 0 ∧ ¬ R b ∧ ¬ P b
  b : Below B w0 w
  s : B ≤ w.heap.size

/-- The landed disk at g is D, the document's in the cells cs is D'; what both hold came behind B; the blocks of E are nobody's. -/
def Two (E : Nat → Prop) (B : Nat) (w0 w : World) (g : Nat) (cs : List Value) (D D' : DkV) : Prop := ∃ L P R, TwoAt L P R E B w0 w g cs D D'

theorem Two.b {E : Nat → Prop} {B : Nat} {w0 w : World} {g : Nat} {cs : List Value} {D D' : DkV} (h : Two E B w0 w g cs D D') : Below B w0 w := by
  obtain ⟨_, _, _, h⟩ := h
  exact h.b

theorem Two.s {E : Nat → Prop} {B : Nat} {w0 w : World} {g : Nat} {cs : List Value} {D D' : DkV} (h : Two E B w0 w g cs D D') : B ≤ w.heap.size := by
  obtain ⟨_, _, _, h⟩ := h
  exact h.s

theorem Two.ddc {E : Nat → Prop} {B : Nat} {w0 w : World} {g : Nat} {cs : List Value} {D D' : DkV} (h : Two E B w0 w g cs D D') : DdC cs D'.room D'.fuse D'.down := by
  obtain ⟨_, _, _, h⟩ := h
  exact h.r.ddc

theorem DkIs.lt {L : Nat → Nat} {P : Nat → Prop} {w : World} {g : Nat} {D : DkV} (h : DkIs L P w g D) : ∀ b, L b ≠ 0 → b < w.heap.size := by
  obtain ⟨_, _, _, h⟩ := h
  exact h.lab.l

theorem DkIs.plt {L : Nat → Nat} {P : Nat → Prop} {w : World} {g : Nat} {D : DkV} (h : DkIs L P w g D) : ∀ b, P b → b < w.heap.size := by
  obtain ⟨_, _, _, h⟩ := h
  exact fun b hb => (h.lab.p b hb).1

/-- New memory alone was written: what is new is nobody's. -/
theorem Two.keepE {E E' : Nat → Prop} {B : Nat} {w0 w w' : World} {g : Nat} {cs : List Value} {D D' : DkV} (h : Two E B w0 w g cs D D') (hb : Below w.heap.size w w') (hE : ∀ b, E' b → E b ∨ (w.heap.size ≤ b ∧ b < w'.heap.size)) : Two E' B w0 w' g cs D D' := by
  obtain ⟨L, P, R, h⟩ := h
  have hs := hb.size
  refine ⟨L, P, R, h.k.keep hb, h.r.keep hb, fun b hb => ⟨Nat.lt_of_lt_of_le (h.rl b hb).1 hs, (h.rl b hb).2⟩, h.lb, fun b he => ?_, h.b.trans (hb.mono h.s), Nat.le_trans h.s hs⟩
  rcases hE b he with he | he
  · exact ⟨Nat.lt_of_lt_of_le (h.e b he).1 hs, (h.e b he).2⟩
  · refine ⟨he.2, ?_, fun hr => absurd (h.rl b hr).1 (Nat.not_lt.2 he.1), fun hp => absurd (h.k.plt b hp) (Nat.not_lt.2 he.1)⟩
    by_cases h0 : L b = 0
    · exact h0
    · have := h.k.lt b h0
      omega

theorem Two.keep {E : Nat → Prop} {B : Nat} {w0 w w' : World} {g : Nat} {cs : List Value} {D D' : DkV} (h : Two E B w0 w g cs D D') (hb : Below w.heap.size w w') : Two E B w0 w' g cs D D' := h.keepE hb (fun _ h => .inl h)

theorem DkIs.far {L : Nat → Nat} {P : Nat → Prop} {w w' : World} {g : Nat} {D : DkV} (h : DkIs L P w g D) {F : Nat → Prop} (hm : Moved F w w') (hF : ∀ b, L b ≠ 0 ∨ P b → ¬ F b) : DkIs L P w' g D := by
  obtain ⟨x0, x1, x2, h⟩ := h
  exact ⟨x0, x1, x2, h.far hm hF⟩

/-- A block that is nobody's was written. -/
theorem Two.grown {E : Nat → Prop} {B : Nat} {w0 w w' : World} {g : Nat} {cs : List Value} {D D' : DkV} (h : Two E B w0 w g cs D D') {G : Nat} (hg : w.grownBy w' (some G)) (hG : E G) (hB : B ≤ G) : Two E B w0 w' g cs D D' := by
  obtain ⟨L, P, R, h⟩ := h
  have hs := hg.size
  obtain ⟨e1, e2, e3, e4⟩ := h.e G hG
  have hm : Moved (fun b => b = G) w w' := moved_set rfl hg
  refine ⟨L, P, R, h.k.far hm (fun b hb e => ?_), h.r.same (fun b hb hl => hm.2 b hl (fun e => e3 (e ▸ hb))) (fun _ h => h), fun b hb => ⟨Nat.lt_of_lt_of_le (h.rl b hb).1 hs, (h.rl b hb).2⟩, h.lb, fun b he => ⟨Nat.lt_of_lt_of_le (h.e b he).1 hs, (h.e b he).2⟩, h.b.grown hg h.s (fun q hq => by injection hq with hq; rw [← hq]; exact hB), Nat.le_trans h.s hs⟩
  subst e
  exact hb.elim (fun h => h e2) e4

theorem Two.less {E E' : Nat → Prop} {B : Nat} {w0 w : World} {g : Nat} {cs : List Value} {D D' : DkV} (h : Two E B w0 w g cs D D') (hE : ∀ b, E' b → E b) : Two E' B w0 w g cs D D' := by
  obtain ⟨L, P, R, h⟩ := h
  exact ⟨L, P, R, h.k, h.r, h.rl, h.lb, fun b he => h.e b (hE b he), h.b, h.s⟩

/-- Behind a call of the document's disk. -/
theorem TwoAt.doc {L : Nat → Nat} {P R E : Nat → Prop} {B : Nat} {w0 w w' : World} {g : Nat} {cs cs' : List Value} {D D' D2 : DkV} (h : TwoAt L P R E B w0 w g cs D D') (hr : RDisk (fun b => R b ∨ w.heap.size ≤ b) w' cs' D2) (hb : Below w.heap.size w w') : Two E B w0 w' g cs' D D2 := by
  have hs := hb.size
  refine ⟨L, P, _, h.k.keep hb, hr.lt, fun b hb => ⟨hb.2, ?_⟩, h.lb, fun b he => ?_, h.b.trans (hb.mono h.s), Nat.le_trans h.s hs⟩
  · rcases hb.1 with h1 | h1
    · exact (h.rl b h1).2
    · by_cases h0 : L b = 0
      · exact h0
      · have := h.k.lt b h0
        omega
  · obtain ⟨e1, e2, e3, e4⟩ := h.e b he
    exact ⟨Nat.lt_of_lt_of_le e1 hs, e2, fun hn => hn.1.elim e3 (fun h => by omega), e4⟩

/-- Behind a call of the landed disk. -/
theorem TwoAt.prog {L : Nat → Nat} {P R E : Nat → Prop} {B : Nat} {w0 w w' : World} {g : Nat} {cs : List Value} {D D' D2 : DkV} (h : TwoAt L P R E B w0 w g cs D D') (hk : DkTo L P w g w' D2) : Two E B w0 w' g cs D2 D' ∧ (∀ b, E b → w'.heap[b]? = w.heap[b]?) := by
  obtain ⟨L', P', h1, h2⟩ := hk
  have hs : w.heap.size ≤ w'.heap.size := h2.m.size
  have hmv : ∀ b, b < w.heap.size → L b = 0 → w'.heap[b]? = w.heap[b]? := fun b hb h0 => h2.m.2 b hb (fun hn => hn h0)
  refine ⟨⟨L', P', R, h1, h.r.same (fun b hb _ => hmv b (h.rl b hb).1 (h.rl b hb).2) (fun _ h => h), fun b hb => ⟨Nat.lt_of_lt_of_le (h.rl b hb).1 hs, (h2.l b (h.rl b hb).1).trans (h.rl b hb).2⟩, h2.low h.lb h.s, fun b he => ?_, below_new h2 h.b h.s h.lb, Nat.le_trans h.s hs⟩, fun b he => hmv b (h.e b he).1 (h.e b he).2.1⟩
  obtain ⟨e1, e2, e3, e4⟩ := h.e b he
  exact ⟨Nat.lt_of_lt_of_le e1 hs, (h2.l b e1).trans e2, e3, fun hp => (h2.q b hp).elim e4 (fun h => by omega)⟩

def Same (E : Nat → Prop) (w w' : World) : Prop := ∀ b, E b → w'.heap[b]? = w.heap[b]?

theorem Same.blk {E : Nat → Prop} {w w' : World} (h : Same E w w') {g : Nat} {t : TypeId} {cs : List Value} (hb : Blk w g t cs) (hg : E g) : Blk w' g t cs := by
  unfold Blk at hb ⊢
  rw [h g hg]
  exact hb

/-! ### The calls -/
section
variable {E : Nat → Prop} {B : Nat} {w0 w : World} {g : Nat} {cs : List Value} {D D' : DkV} {T : Nat}

theorem r_append {a : Option Addr} {n c : Nat} {bs : List Int} (file : Int) (h : Two E B w0 w g cs D D') (hO : D'.Ok T) (hT : T ≤ 3518437208882) (hI : Ints .u8 w a n c bs) (hn : n ≤ 140737488355328) :
    Calls Tryz.prog 14 #[.agg cs.toArray, .int .i64 file, .slice a n c] w fun q w' => ∃ cs', q = .returned (.tuple #[.agg cs'.toArray, .int .i64 (apD D' file bs).2]) ∧ Two E B w0 w' g cs' D (apD D' file bs).1 ∧ Below w.heap.size w w' := by
  obtain ⟨L, P, R, h⟩ := h
  exact (fAppend_any file h.r (fun b hb => (h.rl b hb).1) hO hT hI hn).mono fun q w' ⟨cs', e, k, hb⟩ => ⟨cs', e, h.doc k hb, hb⟩

theorem r_arm (n : Int) (h : Two E B w0 w g cs D D') :
    Calls Tryz.prog 16 #[.agg cs.toArray, .int .i64 n] w fun q w' => ∃ cs', q = .returned (.agg cs'.toArray) ∧ Two E B w0 w' g cs' D (armD D' n) ∧ Below w.heap.size w w' := by
  obtain ⟨L, P, R, h⟩ := h
  exact (fArm_any n h.r (fun b hb => (h.rl b hb).1)).mono fun q w' ⟨cs', e, k, hb⟩ => ⟨cs', e, h.doc k hb, hb⟩

theorem r_crash {a : Option Addr} {n c : Nat} {us : List Int} (h : Two E B w0 w g cs D D') (hO : D'.Ok T) (hT : T ≤ 4398046511104) (hI : Ints .i64 w a n c us) :
    Calls Tryz.prog 18 #[.agg cs.toArray, .slice a n c] w fun q w' => ∃ cs', q = .returned (.agg cs'.toArray) ∧ Two E B w0 w' g cs' D (crD D' us) ∧ Below w.heap.size w w' := by
  obtain ⟨L, P, R, h⟩ := h
  exact (fCrash_any h.r (fun b hb => (h.rl b hb).1) hO hT hI).mono fun q w' ⟨cs', e, k, hb⟩ => ⟨cs', e, h.doc k hb, hb⟩

theorem c_append {a : Option Addr} {n c : Nat} {bs : List Int} (file : Int) (h : Two E B w0 w g cs D D') (hO : D.Ok T) (hT : T < 4398046511104) (hI : Ints .u8 w a n c bs) :
    Calls Tryz.prog 13 #[.pointer (some ⟨g, 0, none⟩), .int .i64 file, .slice a n c] w fun q w' => q = .returned (.int .i64 (apD D file bs).2) ∧ Two E B w0 w' g cs (apD D file bs).1 D' ∧ Same E w w' := by
  obtain ⟨L, P, R, h⟩ := h
  exact (dAppend_any h.k hO hT hI).mono fun q w' ⟨e, k⟩ => ⟨e, h.prog k⟩

theorem c_arm (n : Int) (h : Two E B w0 w g cs D D') (hO : D.Ok T) :
    Calls Tryz.prog 15 #[.pointer (some ⟨g, 0, none⟩), .int .i64 n] w fun q w' => q = .returned (.tuple #[]) ∧ Two E B w0 w' g cs (armD D n) D' ∧ Same E w w' := by
  obtain ⟨L, P, R, h⟩ := h
  exact (dArmD h.k hO n).mono fun q w' ⟨e, k⟩ => ⟨e, h.prog k⟩

/-- A clone beside the first disk: the first may be written to, and the clone stays. -/
def Three (E : Nat → Prop) (B : Nat) (w0 w : World) (g gc : Nat) (cs : List Value) (D Dc D' : DkV) : Prop :=
  ∃ L P R Lc Pc, TwoAt L P R E B w0 w g cs D D' ∧ DkIs Lc Pc w gc Dc ∧ (∀ b, Lc b ≠ 0 → B ≤ b ∧ L b = 0 ∧ ¬ R b ∧ ¬ E b) ∧ ∀ b, Pc b → L b = 0 ∧ ¬ E b

end
end Go.Proofs.YtnblknhdchpboaaGreatDoor

/-
  The law DiskDoes: what its step leaves of both disks. New memory is written, and the landed disk's own. Conditions: the disks have fewer than 2^41 steps; at most 2^47 bytes are handed in.
-/
namespace Go.Proofs.YtnblknhdchpboaaGreatDoor
open Go.RowKit

def And3 (E : Nat → Prop) (a b : Nat) : Nat → Prop := fun x => E x ∨ (a ≤ x ∧ x < b)
end Go.Proofs.YtnblknhdchpboaaGreatDoor

/-
  The law DiskDoes: its like tells that both disks hold the same. New memory alone is written. Conditions: a disk with fewer than 2^42 steps.
-/
namespace Go.Proofs.YtnblknhdchpboaaGreatDoor
open Go.RowKit

/-- A slice that a conversion turns to this string, now and later. -/
def Conv (w : World) (v : Value) (s : ByteArray) : Prop := ∀ w', Below w.heap.size w w' → (convert 31 9 v).run Tryz.prog w' = .ok (.string s) w'

theorem Conv.keep {w w' : World} {v : Value} {s : ByteArray} (h : Conv w v s) (hb : Below w.heap.size w w') : Conv w' v s := fun w2 h2 => h w2 (chain hb h2)

theorem conv_of {w : World} {a : Option Addr} {n c : Nat} {xs : List Int} (h : Ints .u8 w a n c xs) : Conv w (.slice a n c) (strOfNums xs) := fun _ hb => h.string' 31 9 5 Tryz.underlying31 Tryz.underlying5 Tryz.underlying9 hb

theorem Tells.conv {w w' : World} {q : Ending} {xs : List Int} {s : ByteArray} {n : Nat} (h : Tells w q w' xs) (hs : strOfNums xs = s) (hn : xs.length = n) : ∃ b c, q = .returned (.slice b n c) ∧ Conv w' (.slice b n c) s ∧ Below w.heap.size w w' := by
  obtain ⟨b, c, e, ho, hb⟩ := h
  subst hs; subst hn
  exact ⟨b, c, e, conv_of (own_ints' ho), hb⟩

section
variable {E : Nat → Prop} {B : Nat} {w0 w : World} {g : Nat} {cs : List Value} {D D' : DkV} {T : Nat}

theorem l_read (h : Two E B w0 w g cs D D') (hO : D.Ok T) (i : Nat) (hi : i < 3) (z : Int) (hz : z = (i : Int)) (s : ByteArray) (hs : strOfNums (D.f i).held = s) (n : Nat) (hn : (D.f i).held.length = n) :
    Calls Tryz.prog 49 #[.pointer (some ⟨g, 0, none⟩), .int .i64 z] w fun q w' => ∃ b c, q = .returned (.slice b n c) ∧ Conv w' (.slice b n c) s ∧ Below w.heap.size w w' := by
  obtain ⟨L, P, R, h⟩ := h
  obtain ⟨x0, x1, x2, hk⟩ := h.k
  subst hz
  exact (dRead_any hk hO i hi).mono fun _ _ h => h.conv hs hn

theorem l_kept (h : Two E B w0 w g cs D D') (hO : D.Ok T) (i : Nat) (hi : i < 3) (z : Int) (hz : z = (i : Int)) (s : ByteArray) (hs : strOfNums (D.f i).K = s) (n : Nat) (hn : (D.f i).K.length = n) :
    Calls Tryz.prog 50 #[.pointer (some ⟨g, 0, none⟩), .int .i64 z] w fun q w' => ∃ b c, q = .returned (.slice b n c) ∧ Conv w' (.slice b n c) s ∧ Below w.heap.size w w' := by
  obtain ⟨L, P, R, h⟩ := h
  obtain ⟨x0, x1, x2, hk⟩ := h.k
  subst hz
  exact (dKept_any hk hO i hi).mono fun _ _ h => h.conv hs hn

theorem Two.own (h : Two E B w0 w g cs D D') : DkOwn B w0 w g D := by
  obtain ⟨L, P, R, h⟩ := h
  exact ⟨⟨L, P, h.k, h.lb⟩, h.b, h.s⟩

theorem l_room (h : Two E B w0 w g cs D D') (hO : D.Ok T) (r : Int) (hr : D.room = r) :
    Calls Tryz.prog 26 #[.pointer (some ⟨g, 0, none⟩)] w fun q w' => q = .returned (.int .i64 r) ∧ Below w.heap.size w w' := by
  obtain ⟨L, P, R, h⟩ := h
  have := hO.room
  subst hr
  exact (dRoom_any h.k.cells.1 (by omega)).mono fun _ _ ⟨e, k⟩ => ⟨e, by rw [← k]; exact Below.refl _ _⟩

theorem l_fuse (h : Two E B w0 w g cs D D') (hO : D.Ok T) (r : Int) (hr : D.fuse = r) :
    Calls Tryz.prog 53 #[.pointer (some ⟨g, 0, none⟩)] w fun q w' => q = .returned (.int .i64 r) ∧ Below w.heap.size w w' := by
  obtain ⟨L, P, R, h⟩ := h
  have := hO.room
  subst hr
  exact (dFuse_any h.k.cells.1 (by omega) h.k.cells.2.1).mono fun _ _ ⟨e, k⟩ => ⟨e, by rw [← k]; exact Below.refl _ _⟩

theorem l_down (h : Two E B w0 w g cs D D') (hO : D.Ok T) (r : Bool) (hr : D.down = r) :
    Calls Tryz.prog 27 #[.pointer (some ⟨g, 0, none⟩)] w fun q w' => q = .returned (.bool r) ∧ Below w.heap.size w w' := by
  obtain ⟨L, P, R, h⟩ := h
  have := hO.room
  subst hr
  exact (dDown_any h.k.cells.1 (by omega) h.k.cells.2.2).mono fun _ _ ⟨e, k⟩ => ⟨e, by rw [← k]; exact Below.refl _ _⟩

theorem l_used (h : Two E B w0 w g cs D D') (hO : D'.Ok T) (hT : T ≤ 4398046511104) (n : Nat) (hn : D'.used = n) :
    Calls Tryz.prog 52 #[.agg cs.toArray] w fun q w' => q = .returned (.int .i64 (n : Int)) ∧ Below w.heap.size w w' := by
  obtain ⟨L, P, R, h⟩ := h
  subst hn
  exact fUsed_any h.r (hO.o0.fok hT) (hO.o1.fok hT) (hO.o2.fok hT)

/-- File i of the document's disk: its two cells, what they hold, and what its calls tell. -/
structure FileIs (w : World) (cs c : List Value) (i : Nat) (v : FlV) (ka : Option Addr) (kc : Nat) : Prop where
  at' : ∀ j u, c[j]? = some u → cs[i * 2 + j]? = some u
  l : c.length = 2
  k : cs[i * 2]? = some (.slice ka v.K.length kc)
  cv : Conv w (.slice ka v.K.length kc) (strOfNums v.K)
  r : ∃ R, RFile R w c v

theorem FileIs.keep {w w' : World} {cs c : List Value} {i : Nat} {v : FlV} {ka : Option Addr} {kc : Nat} (h : FileIs w cs c i v ka kc) (hb : Below w.heap.size w w') : FileIs w' cs c i v ka kc := by
  obtain ⟨R, hr⟩ := h.r
  exact ⟨h.at', h.l, h.k, h.cv.keep hb, R, hr.keep hb⟩

theorem Two.file (h : Two E B w0 w g cs D D') (i : Nat) (hi : i < 3) : ∃ c ka kc, FileIs w cs c i (D'.f i) ka kc := by
  obtain ⟨L, P, R, h⟩ := h
  obtain ⟨h1, h2⟩ := h.r.co i hi
  have h3 := h2
  have hl := h2.len
  obtain ⟨ka, kc, sa, sc, hc, hI, _, _⟩ := h2
  refine ⟨fileC cs i, ka, kc, h1, hl, ?_, conv_of hI, R, h3⟩
  have := h1 0 (.slice ka (D'.f i).K.length kc) (by rw [hc]; rfl)
  simpa using this

theorem l_holds {w : World} {cs c : List Value} {i : Nat} {v : FlV} {ka : Option Addr} {kc : Nat} (h : FileIs w cs c i v ka kc) (ho : FOk v) (s : ByteArray) (hs : strOfNums v.held = s) (n : Nat) (hn : v.held.length = n) :
    Calls Tryz.prog 29 #[.agg c.toArray] w fun q w' => ∃ b c, q = .returned (.slice b n c) ∧ Conv w' (.slice b n c) s ∧ Below w.heap.size w w' := by
  obtain ⟨R, hr⟩ := h.r
  exact (fHolds_any hr ho).mono fun _ _ h => h.conv hs hn

end

/-- The condition moves along with memory. -/
theorem SeqS.mono {P : Program} {md : Region.Mode} {ops : Array Oper} {Q : Exit → Act → World → Prop} {S S' : World → Prop} {todo : List (Nat × Oper)} {listed : Array Bool} {a : Act} {w : World} (hS : ∀ w, S' w → S w) (h : SeqS P md ops Q S' todo listed a w) : SeqS P md ops Q S todo listed a w := fun hd => held_mono hS _ _ _ _ (h hd)
end Go.Proofs.YtnblknhdchpboaaGreatDoor

/-
  Layer 20's like: it tells that both disks hold the same. New memory alone is written. Conditions: a disk with fewer than 2^42 steps.
-/
namespace Go.Proofs.YtnblknhdchpboaaGreatDoor
open Go.RowKit

set_option maxRecDepth 100000 in
set_option maxHeartbeats 4000000 in
theorem like20_any {E : Nat → Prop} {B : Nat} {w0 w : World} {g : Nat} {cs : List Value} {D : DkV} {T : Nat} (h : Two E B w0 w g cs D D) (hO : D.Ok T) (hT : T ≤ 4398046511104) :
    Calls Tryz.prog 19 #[.pointer (some ⟨g, 0, none⟩), .agg cs.toArray] w fun q w' => q = .returned (.bool true) ∧ Below w.heap.size w w' := by
  have hdc := h.ddc
  have hl := hdc.l
  have hrow : IsRow Tryz.prog 37 cs.length := by rw [hl]; exact rowDd
  have b3 := Blk.new w 37 cs
  have q1 := below1 w (.cells cs.toArray 37)
  have h1 := h.keep q1
  obtain ⟨W, hW⟩ : ∃ W, w.alloc (.cells cs.toArray 37) = W := ⟨_, rfl⟩
  rw [hW] at b3 q1 h1
  have qH := Lib.hid q1
  have WH := Lib.hid hW
  have okH := Lib.hid hO
  have hTH := Lib.hid hT
  obtain ⟨G, hG⟩ : ∃ G, w.heap.size = G := ⟨_, rfl⟩
  rw [hG] at b3
  have GH := Lib.hid hG
  have lt3 := Lib.hid b3.lt
  have dcH := Lib.hid hdc
  clear h hW hG q1 hO hT hdc
  go_enter Tryz.func19, Tryz.ntmps19
  go_wp2_with ((with_reducible refine box_row rfl 37 (.tmp 1) rfl cs rfl ?_); refine RowKit.Hid.out ?_)
  refine Lib.hid ?_
  rw [WH.out, GH.out]
  have hB0 : Below W.heap.size W W := Below.refl _ _
  have h1H := Lib.hid h1
  have b3H := Lib.hid b3
  clear h1 b3
  go_wp2_with fail
  go_loopw [5] (fun i wr => ∃ z : Int, i = .int .i64 z ∧ (z = 0 ∨ z = 1 ∨ z = 2 ∨ z = 3) ∧ Below W.heap.size W wr) (fun i _ => 3 - (intOf i).toNat)
  case atStart => exact ⟨0, rfl, .inl rfl, hB0⟩
  case round =>
    clear hB0
    obtain ⟨z, rfl, hz, hB⟩ := hrel
    rcases hz with rfl | rfl | rfl | rfl
    · have hT0 := h1H.out.keep hB
      obtain ⟨c, ka, kc, hF⟩ := hT0.file 0 (by decide)
      have hfo := (okH.out.f 0).fok hTH.out
      have cl := hF.l
      have crow : IsRow Tryz.prog 34 c.length := by rw [cl]; exact rowRf
      have bk := b3H.out.keep hB lt3.out
      obtain ⟨s, hs⟩ : ∃ s, strOfNums (D.f 0).held = s := ⟨_, rfl⟩
      obtain ⟨n, hn⟩ : ∃ n, (D.f 0).held.length = n := ⟨_, rfl⟩
      obtain ⟨t, ht⟩ : ∃ s, strOfNums (D.f 0).K = s := ⟨_, rfl⟩
      obtain ⟨m, hm⟩ : ∃ n, (D.f 0).K.length = n := ⟨_, rfl⟩
      have b4 : Below wr.heap.size wr wr.drew := (Below.refl _ _).drew
      have C1 := Lib.hid (fun w' (h : Below wr.heap.size wr w') => l_read (hT0.keep h) okH.out 0 (by decide) 0 rfl s hs n hn)
      have C2 := Lib.hid (fun w' (h : Below wr.heap.size wr w') => l_holds (hF.keep h) hfo s hs n hn)
      have C3 := Lib.hid (fun w' (h : Below wr.heap.size wr w') => l_kept (hT0.keep h) okH.out 0 (by decide) 0 rfl t ht m hm)
      have hk0 := hF.k
      have hcv := hF.cv
      rw [hm] at hk0 hcv
      rw [ht] at hcv
      have FK := Lib.hid (fun w' (h : Below wr.heap.size wr w') => show w'.cell? ⟨G, 0, none⟩ = some (.slice ka m kc) from ((bk.keep h bk.lt).cell 0).trans hk0)
      have FC := Lib.hid (fun w' (h : Below wr.heap.size wr w') => hcv w' h)
      have FR := Lib.hid (fun w' (h : Below wr.heap.size wr w') => show w'.rangeAt G 0 c from (bk.keep h bk.lt).range 0 c (fun j v hj => hF.at' j v hj))
      have hss : (s.toList == s.toList) = true := beq_self_eq_true _
      have htt : (t.toList == t.toList) = true := beq_self_eq_true _
      have hB5 := hB.trans (b4.mono hB.size)
      have hBH := Lib.hid hB
      clear hT0 hF hfo bk hs hn ht hm hk0 hcv hB cl
      go_wp2_with fail
      refine region_seqS (fun w' => Below wr.heap.size wr w') (by kernel_rfl) b4 ?_
      simp only [pairs, Nat.reduceAdd]
      repeat ((first
        | (refine SeqS.take (v := .agg (c).toArray) (by first | assumption | trivial) (by kernel_rfl) (by decide +kernel) (by decide +kernel) (yields_part (by rfl) 34 (.tmp 16) rfl rfl (fun w' h => FR.out w' h) (crow)) ?_)
        | (refine SeqS.take (v := ?_) (by first | assumption | trivial) (by kernel_rfl) (by decide +kernel) (by decide +kernel) (Or.inl ⟨by rfl, ?_⟩) ?_
           rotate_left
           focus
             intro w' hb'
             go_simp
             with_reducible rfl)
        | (refine SeqS.take (v := undef) (by first | assumption | trivial) (by kernel_rfl) (by decide +kernel) (by decide +kernel) (Or.inr ⟨by rfl, rfl⟩) ?_)
        | (refine SeqS.take1 (v := .agg (c).toArray) (by first | assumption | trivial) (by kernel_rfl) (by decide +kernel) (by decide +kernel) (yields_part (by rfl) 34 (.tmp 16) rfl rfl (fun w' h => FR.out w' h) (crow)) ?_)
        | (refine SeqS.take1 (v := ?_) (by first | assumption | trivial) (by kernel_rfl) (by decide +kernel) (by decide +kernel) (Or.inl ⟨by rfl, ?_⟩) ?_
           rotate_left
           focus
             intro w' hb'
             go_simp
             with_reducible rfl)
        | (refine SeqS.take1 (v := undef) (by first | assumption | trivial) (by kernel_rfl) (by decide +kernel) (by decide +kernel) (Or.inr ⟨by rfl, rfl⟩) ?_)
        | (refine SeqS.take2 (v := .agg (c).toArray) (by first | assumption | trivial) (by kernel_rfl) (by decide +kernel) (by decide +kernel) (yields_part (by rfl) 34 (.tmp 16) rfl rfl (fun w' h => FR.out w' h) (crow)) ?_)
        | (refine SeqS.take2 (v := ?_) (by first | assumption | trivial) (by kernel_rfl) (by decide +kernel) (by decide +kernel) (Or.inl ⟨by rfl, ?_⟩) ?_
           rotate_left
           focus
             intro w' hb'
             go_simp
             with_reducible rfl)
        | (refine SeqS.take2 (v := undef) (by first | assumption | trivial) (by kernel_rfl) (by decide +kernel) (by decide +kernel) (Or.inr ⟨by rfl, rfl⟩) ?_)); simp only [Act.put, List.setIfInBounds_toArray, List.set_cons_zero, List.set_cons_succ])
      refine SeqS.alone (by decide +kernel) (by rfl) (fun K hK => ?_)
      go_simp
      go_at_call 49
      refine (C1.out _ b4).mono ?_
      rintro q w1 ⟨a1, c1, rfl, v1, b1⟩
      go_simp
      have up1 : Below wr.heap.size wr w1 := chain b4 b1
      refine hK _ _ up1 ?_
      refine SeqS.mono (S' := fun w' => Below w1.heap.size w1 w') (fun w' h => chain up1 h) ?_
      have r1 : Below w1.heap.size w1 w1 := Below.refl _ _
      clear hK K b1
      repeat ((first
        | (refine SeqS.take (v := ?_) (by first | assumption | trivial) (by kernel_rfl) (by decide +kernel) (by decide +kernel) (Or.inl ⟨by rfl, ?_⟩) ?_
           rotate_left
           focus
             intro w' hb'
             go_simp
             with_reducible rfl)
        | (refine SeqS.take (v := ?_) (by first | assumption | trivial) (by kernel_rfl) (by decide +kernel) (by decide +kernel) (Or.inl ⟨by rfl, ?_⟩) ?_
           rotate_left
           focus
             intro w' hb'
             have d0 := v1 w' hb'
             go_simp
             with_reducible rfl)
        | (refine SeqS.take (v := undef) (by first | assumption | trivial) (by kernel_rfl) (by decide +kernel) (by decide +kernel) (Or.inr ⟨by rfl, rfl⟩) ?_)
        | (refine SeqS.take1 (v := ?_) (by first | assumption | trivial) (by kernel_rfl) (by decide +kernel) (by decide +kernel) (Or.inl ⟨by rfl, ?_⟩) ?_
           rotate_left
           focus
             intro w' hb'
             go_simp
             with_reducible rfl)
        | (refine SeqS.take1 (v := ?_) (by first | assumption | trivial) (by kernel_rfl) (by decide +kernel) (by decide +kernel) (Or.inl ⟨by rfl, ?_⟩) ?_
           rotate_left
           focus
             intro w' hb'
             have d0 := v1 w' hb'
             go_simp
             with_reducible rfl)
        | (refine SeqS.take1 (v := undef) (by first | assumption | trivial) (by kernel_rfl) (by decide +kernel) (by decide +kernel) (Or.inr ⟨by rfl, rfl⟩) ?_)
        | (refine SeqS.take2 (v := ?_) (by first | assumption | trivial) (by kernel_rfl) (by decide +kernel) (by decide +kernel) (Or.inl ⟨by rfl, ?_⟩) ?_
           rotate_left
           focus
             intro w' hb'
             go_simp
             with_reducible rfl)
        | (refine SeqS.take2 (v := ?_) (by first | assumption | trivial) (by kernel_rfl) (by decide +kernel) (by decide +kernel) (Or.inl ⟨by rfl, ?_⟩) ?_
           rotate_left
           focus
             intro w' hb'
             have d0 := v1 w' hb'
             go_simp
             with_reducible rfl)
        | (refine SeqS.take2 (v := undef) (by first | assumption | trivial) (by kernel_rfl) (by decide +kernel) (by decide +kernel) (Or.inr ⟨by rfl, rfl⟩) ?_)); simp only [Act.put, List.setIfInBounds_toArray, List.set_cons_zero, List.set_cons_succ])
      refine SeqS.alone (by decide +kernel) (by rfl) (fun K hK => ?_)
      go_simp
      go_at_call 29
      refine (C2.out _ up1).mono ?_
      rintro q w2 ⟨a2, c2, rfl, v2, b2⟩
      go_simp
      have up2 : Below wr.heap.size wr w2 := chain up1 b2
      refine hK _ _ b2 ?_
      refine SeqS.mono (S' := fun w' => Below w2.heap.size w2 w') (fun w' h => chain b2 h) ?_
      have r2 : Below w2.heap.size w2 w2 := Below.refl _ _
      clear hK K r1 v1 up1
      repeat ((first
        | (refine SeqS.take (v := ?_) (by first | assumption | trivial) (by kernel_rfl) (by decide +kernel) (by decide +kernel) (Or.inl ⟨by rfl, ?_⟩) ?_
           rotate_left
           focus
             intro w' hb'
             go_simp
             with_reducible rfl)
        | (refine SeqS.take (v := ?_) (by first | assumption | trivial) (by kernel_rfl) (by decide +kernel) (by decide +kernel) (Or.inl ⟨by rfl, ?_⟩) ?_
           rotate_left
           focus
             intro w' hb'
             have d0 := v2 w' hb'
             go_simp
             with_reducible rfl)
        | (refine SeqS.take (v := ?_) (by first | assumption | trivial) (by kernel_rfl) (by decide +kernel) (by decide +kernel) (Or.inl ⟨by rfl, ?_⟩) ?_
           rotate_left
           focus
             intro w' hb'
             have d0 := FK.out w' (chain up2 hb')
             go_simp
             with_reducible rfl)
        | (refine SeqS.take (v := ?_) (by first | assumption | trivial) (by kernel_rfl) (by decide +kernel) (by decide +kernel) (Or.inl ⟨by rfl, ?_⟩) ?_
           rotate_left
           focus
             intro w' hb'
             have d0 := FC.out w' (chain up2 hb')
             go_simp
             with_reducible rfl)
        | (refine SeqS.take (v := undef) (by first | assumption | trivial) (by kernel_rfl) (by decide +kernel) (by decide +kernel) (Or.inr ⟨by rfl, rfl⟩) ?_)
        | (refine SeqS.take1 (v := ?_) (by first | assumption | trivial) (by kernel_rfl) (by decide +kernel) (by decide +kernel) (Or.inl ⟨by rfl, ?_⟩) ?_
           rotate_left
           focus
             intro w' hb'
             go_simp
             with_reducible rfl)
        | (refine SeqS.take1 (v := ?_) (by first | assumption | trivial) (by kernel_rfl) (by decide +kernel) (by decide +kernel) (Or.inl ⟨by rfl, ?_⟩) ?_
           rotate_left
           focus
             intro w' hb'
             have d0 := v2 w' hb'
             go_simp
             with_reducible rfl)
        | (refine SeqS.take1 (v := ?_) (by first | assumption | trivial) (by kernel_rfl) (by decide +kernel) (by decide +kernel) (Or.inl ⟨by rfl, ?_⟩) ?_
           rotate_left
           focus
             intro w' hb'
             have d0 := FK.out w' (chain up2 hb')
             go_simp
             with_reducible rfl)
        | (refine SeqS.take1 (v := ?_) (by first | assumption | trivial) (by kernel_rfl) (by decide +kernel) (by decide +kernel) (Or.inl ⟨by rfl, ?_⟩) ?_
           rotate_left
           focus
             intro w' hb'
             have d0 := FC.out w' (chain up2 hb')
             go_simp
             with_reducible rfl)
        | (refine SeqS.take1 (v := undef) (by first | assumption | trivial) (by kernel_rfl) (by decide +kernel) (by decide +kernel) (Or.inr ⟨by rfl, rfl⟩) ?_)
        | (refine SeqS.take2 (v := ?_) (by first | assumption | trivial) (by kernel_rfl) (by decide +kernel) (by decide +kernel) (Or.inl ⟨by rfl, ?_⟩) ?_
           rotate_left
           focus
             intro w' hb'
             go_simp
             with_reducible rfl)
        | (refine SeqS.take2 (v := ?_) (by first | assumption | trivial) (by kernel_rfl) (by decide +kernel) (by decide +kernel) (Or.inl ⟨by rfl, ?_⟩) ?_
           rotate_left
           focus
             intro w' hb'
             have d0 := v2 w' hb'
             go_simp
             with_reducible rfl)
        | (refine SeqS.take2 (v := ?_) (by first | assumption | trivial) (by kernel_rfl) (by decide +kernel) (by decide +kernel) (Or.inl ⟨by rfl, ?_⟩) ?_
           rotate_left
           focus
             intro w' hb'
             have d0 := FK.out w' (chain up2 hb')
             go_simp
             with_reducible rfl)
        | (refine SeqS.take2 (v := ?_) (by first | assumption | trivial) (by kernel_rfl) (by decide +kernel) (by decide +kernel) (Or.inl ⟨by rfl, ?_⟩) ?_
           rotate_left
           focus
             intro w' hb'
             have d0 := FC.out w' (chain up2 hb')
             go_simp
             with_reducible rfl)
        | (refine SeqS.take2 (v := undef) (by first | assumption | trivial) (by kernel_rfl) (by decide +kernel) (by decide +kernel) (Or.inr ⟨by rfl, rfl⟩) ?_)); simp only [Act.put, List.setIfInBounds_toArray, List.set_cons_zero, List.set_cons_succ])
      refine SeqS.alone (by decide +kernel) (by rfl) (fun K hK => ?_)
      go_simp
      go_at_call 50
      refine (C3.out _ up2).mono ?_
      rintro q w3 ⟨a3, c3, rfl, v3, b3⟩
      go_simp
      have up3 : Below wr.heap.size wr w3 := chain up2 b3
      refine hK _ _ b3 ?_
      refine SeqS.mono (S' := fun w' => Below w3.heap.size w3 w') (fun w' h => chain b3 h) ?_
      have r3 : Below w3.heap.size w3 w3 := Below.refl _ _
      clear hK K r2 v2 up2 b2
      repeat ((first
        | (refine SeqS.take (v := ?_) (by first | assumption | trivial) (by kernel_rfl) (by decide +kernel) (by decide +kernel) (Or.inl ⟨by rfl, ?_⟩) ?_
           rotate_left
           focus
             intro w' hb'
             go_simp
             with_reducible rfl)
        | (refine SeqS.take (v := ?_) (by first | assumption | trivial) (by kernel_rfl) (by decide +kernel) (by decide +kernel) (Or.inl ⟨by rfl, ?_⟩) ?_
           rotate_left
           focus
             intro w' hb'
             have d0 := v3 w' hb'
             go_simp
             with_reducible rfl)
        | (refine SeqS.take (v := undef) (by first | assumption | trivial) (by kernel_rfl) (by decide +kernel) (by decide +kernel) (Or.inr ⟨by rfl, rfl⟩) ?_)
        | (refine SeqS.take1 (v := ?_) (by first | assumption | trivial) (by kernel_rfl) (by decide +kernel) (by decide +kernel) (Or.inl ⟨by rfl, ?_⟩) ?_
           rotate_left
           focus
             intro w' hb'
             go_simp
             with_reducible rfl)
        | (refine SeqS.take1 (v := ?_) (by first | assumption | trivial) (by kernel_rfl) (by decide +kernel) (by decide +kernel) (Or.inl ⟨by rfl, ?_⟩) ?_
           rotate_left
           focus
             intro w' hb'
             have d0 := v3 w' hb'
             go_simp
             with_reducible rfl)
        | (refine SeqS.take1 (v := undef) (by first | assumption | trivial) (by kernel_rfl) (by decide +kernel) (by decide +kernel) (Or.inr ⟨by rfl, rfl⟩) ?_)
        | (refine SeqS.take2 (v := ?_) (by first | assumption | trivial) (by kernel_rfl) (by decide +kernel) (by decide +kernel) (Or.inl ⟨by rfl, ?_⟩) ?_
           rotate_left
           focus
             intro w' hb'
             go_simp
             with_reducible rfl)
        | (refine SeqS.take2 (v := ?_) (by first | assumption | trivial) (by kernel_rfl) (by decide +kernel) (by decide +kernel) (Or.inl ⟨by rfl, ?_⟩) ?_
           rotate_left
           focus
             intro w' hb'
             have d0 := v3 w' hb'
             go_simp
             with_reducible rfl)
        | (refine SeqS.take2 (v := undef) (by first | assumption | trivial) (by kernel_rfl) (by decide +kernel) (by decide +kernel) (Or.inr ⟨by rfl, rfl⟩) ?_)); simp only [Act.put, List.setIfInBounds_toArray, List.set_cons_zero, List.set_cons_succ])
      refine SeqS.done (by decide +kernel) ?_
      have hBz := hBH.out.trans (up3.mono hBH.out.size)
      clear b4 r3 up3 v3 C1 C2 C3 FK FC FR
      go_wp2_with fail
      exact ⟨⟨0 + 1, rfl, by decide, hBz⟩, by decide⟩
    · have hT0 := h1H.out.keep hB
      obtain ⟨c, ka, kc, hF⟩ := hT0.file 1 (by decide)
      have hfo := (okH.out.f 1).fok hTH.out
      have cl := hF.l
      have crow : IsRow Tryz.prog 34 c.length := by rw [cl]; exact rowRf
      have bk := b3H.out.keep hB lt3.out
      obtain ⟨s, hs⟩ : ∃ s, strOfNums (D.f 1).held = s := ⟨_, rfl⟩
      obtain ⟨n, hn⟩ : ∃ n, (D.f 1).held.length = n := ⟨_, rfl⟩
      obtain ⟨t, ht⟩ : ∃ s, strOfNums (D.f 1).K = s := ⟨_, rfl⟩
      obtain ⟨m, hm⟩ : ∃ n, (D.f 1).K.length = n := ⟨_, rfl⟩
      have b4 : Below wr.heap.size wr wr.drew := (Below.refl _ _).drew
      have C1 := Lib.hid (fun w' (h : Below wr.heap.size wr w') => l_read (hT0.keep h) okH.out 1 (by decide) 1 rfl s hs n hn)
      have C2 := Lib.hid (fun w' (h : Below wr.heap.size wr w') => l_holds (hF.keep h) hfo s hs n hn)
      have C3 := Lib.hid (fun w' (h : Below wr.heap.size wr w') => l_kept (hT0.keep h) okH.out 1 (by decide) 1 rfl t ht m hm)
      have hk0 := hF.k
      have hcv := hF.cv
      rw [hm] at hk0 hcv
      rw [ht] at hcv
      have FK := Lib.hid (fun w' (h : Below wr.heap.size wr w') => show w'.cell? ⟨G, 2, none⟩ = some (.slice ka m kc) from ((bk.keep h bk.lt).cell 2).trans hk0)
      have FC := Lib.hid (fun w' (h : Below wr.heap.size wr w') => hcv w' h)
      have FR := Lib.hid (fun w' (h : Below wr.heap.size wr w') => show w'.rangeAt G 2 c from (bk.keep h bk.lt).range 2 c (fun j v hj => hF.at' j v hj))
      have hss : (s.toList == s.toList) = true := beq_self_eq_true _
      have htt : (t.toList == t.toList) = true := beq_self_eq_true _
      have hB5 := hB.trans (b4.mono hB.size)
      have hBH := Lib.hid hB
      clear hT0 hF hfo bk hs hn ht hm hk0 hcv hB cl
      go_wp2_with fail
      refine region_seqS (fun w' => Below wr.heap.size wr w') (by kernel_rfl) b4 ?_
      simp only [pairs, Nat.reduceAdd]
      repeat ((first
        | (refine SeqS.take (v := .agg (c).toArray) (by first | assumption | trivial) (by kernel_rfl) (by decide +kernel) (by decide +kernel) (yields_part (by rfl) 34 (.tmp 16) rfl rfl (fun w' h => FR.out w' h) (crow)) ?_)
        | (refine SeqS.take (v := ?_) (by first | assumption | trivial) (by kernel_rfl) (by decide +kernel) (by decide +kernel) (Or.inl ⟨by rfl, ?_⟩) ?_
           rotate_left
           focus
             intro w' hb'
             go_simp
             with_reducible rfl)
        | (refine SeqS.take (v := undef) (by first | assumption | trivial) (by kernel_rfl) (by decide +kernel) (by decide +kernel) (Or.inr ⟨by rfl, rfl⟩) ?_)
        | (refine SeqS.take1 (v := .agg (c).toArray) (by first | assumption | trivial) (by kernel_rfl) (by decide +kernel) (by decide +kernel) (yields_part (by rfl) 34 (.tmp 16) rfl rfl (fun w' h => FR.out w' h) (crow)) ?_)
        | (refine SeqS.take1 (v := ?_) (by first | assumption | trivial) (by kernel_rfl) (by decide +kernel) (by decide +kernel) (Or.inl ⟨by rfl, ?_⟩) ?_
           rotate_left
           focus
             intro w' hb'
             go_simp
             with_reducible rfl)
        | (refine SeqS.take1 (v := undef) (by first | assumption | trivial) (by kernel_rfl) (by decide +kernel) (by decide +kernel) (Or.inr ⟨by rfl, rfl⟩) ?_)
        | (refine SeqS.take2 (v := .agg (c).toArray) (by first | assumption | trivial) (by kernel_rfl) (by decide +kernel) (by decide +kernel) (yields_part (by rfl) 34 (.tmp 16) rfl rfl (fun w' h => FR.out w' h) (crow)) ?_)
        | (refine SeqS.take2 (v := ?_) (by first | assumption | trivial) (by kernel_rfl) (by decide +kernel) (by decide +kernel) (Or.inl ⟨by rfl, ?_⟩) ?_
           rotate_left
           focus
             intro w' hb'
             go_simp
             with_reducible rfl)
        | (refine SeqS.take2 (v := undef) (by first | assumption | trivial) (by kernel_rfl) (by decide +kernel) (by decide +kernel) (Or.inr ⟨by rfl, rfl⟩) ?_)); simp only [Act.put, List.setIfInBounds_toArray, List.set_cons_zero, List.set_cons_succ])
      refine SeqS.alone (by decide +kernel) (by rfl) (fun K hK => ?_)
      go_simp
      go_at_call 49
      refine (C1.out _ b4).mono ?_
      rintro q w1 ⟨a1, c1, rfl, v1, b1⟩
      go_simp
      have up1 : Below wr.heap.size wr w1 := chain b4 b1
      refine hK _ _ up1 ?_
      refine SeqS.mono (S' := fun w' => Below w1.heap.size w1 w') (fun w' h => chain up1 h) ?_
      have r1 : Below w1.heap.size w1 w1 := Below.refl _ _
      clear hK K b1
      repeat ((first
        | (refine SeqS.take (v := ?_) (by first | assumption | trivial) (by kernel_rfl) (by decide +kernel) (by decide +kernel) (Or.inl ⟨by rfl, ?_⟩) ?_
           rotate_left
           focus
             intro w' hb'
             go_simp
             with_reducible rfl)
        | (refine SeqS.take (v := ?_) (by first | assumption | trivial) (by kernel_rfl) (by decide +kernel) (by decide +kernel) (Or.inl ⟨by rfl, ?_⟩) ?_
           rotate_left
           focus
             intro w' hb'
             have d0 := v1 w' hb'
             go_simp
             with_reducible rfl)
        | (refine SeqS.take (v := undef) (by first | assumption | trivial) (by kernel_rfl) (by decide +kernel) (by decide +kernel) (Or.inr ⟨by rfl, rfl⟩) ?_)
        | (refine SeqS.take1 (v := ?_) (by first | assumption | trivial) (by kernel_rfl) (by decide +kernel) (by decide +kernel) (Or.inl ⟨by rfl, ?_⟩) ?_
           rotate_left
           focus
             intro w' hb'
             go_simp
             with_reducible rfl)
        | (refine SeqS.take1 (v := ?_) (by first | assumption | trivial) (by kernel_rfl) (by decide +kernel) (by decide +kernel) (Or.inl ⟨by rfl, ?_⟩) ?_
           rotate_left
           focus
             intro w' hb'
             have d0 := v1 w' hb'
             go_simp
             with_reducible rfl)
        | (refine SeqS.take1 (v := undef) (by first | assumption | trivial) (by kernel_rfl) (by decide +kernel) (by decide +kernel) (Or.inr ⟨by rfl, rfl⟩) ?_)
        | (refine SeqS.take2 (v := ?_) (by first | assumption | trivial) (by kernel_rfl) (by decide +kernel) (by decide +kernel) (Or.inl ⟨by rfl, ?_⟩) ?_
           rotate_left
           focus
             intro w' hb'
             go_simp
             with_reducible rfl)
        | (refine SeqS.take2 (v := ?_) (by first | assumption | trivial) (by kernel_rfl) (by decide +kernel) (by decide +kernel) (Or.inl ⟨by rfl, ?_⟩) ?_
           rotate_left
           focus
             intro w' hb'
             have d0 := v1 w' hb'
             go_simp
             with_reducible rfl)
        | (refine SeqS.take2 (v := undef) (by first | assumption | trivial) (by kernel_rfl) (by decide +kernel) (by decide +kernel) (Or.inr ⟨by rfl, rfl⟩) ?_)); simp only [Act.put, List.setIfInBounds_toArray, List.set_cons_zero, List.set_cons_succ])
      refine SeqS.alone (by decide +kernel) (by rfl) (fun K hK => ?_)
      go_simp
      go_at_call 29
      refine (C2.out _ up1).mono ?_
      rintro q w2 ⟨a2, c2, rfl, v2, b2⟩
      go_simp
      have up2 : Below wr.heap.size wr w2 := chain up1 b2
      refine hK _ _ b2 ?_
      refine SeqS.mono (S' := fun w' => Below w2.heap.size w2 w') (fun w' h => chain b2 h) ?_
      have r2 : Below w2.heap.size w2 w2 := Below.refl _ _
      clear hK K r1 v1 up1
      repeat ((first
        | (refine SeqS.take (v := ?_) (by first | assumption | trivial) (by kernel_rfl) (by decide +kernel) (by decide +kernel) (Or.inl ⟨by rfl, ?_⟩) ?_
           rotate_left
           focus
             intro w' hb'
             go_simp
             with_reducible rfl)
        | (refine SeqS.take (v := ?_) (by first | assumption | trivial) (by kernel_rfl) (by decide +kernel) (by decide +kernel) (Or.inl ⟨by rfl, ?_⟩) ?_
           rotate_left
           focus
             intro w' hb'
             have d0 := v2 w' hb'
             go_simp
             with_reducible rfl)
        | (refine SeqS.take (v := ?_) (by first | assumption | trivial) (by kernel_rfl) (by decide +kernel) (by decide +kernel) (Or.inl ⟨by rfl, ?_⟩) ?_
           rotate_left
           focus
             intro w' hb'
             have d0 := FK.out w' (chain up2 hb')
             go_simp
             with_reducible rfl)
        | (refine SeqS.take (v := ?_) (by first | assumption | trivial) (by kernel_rfl) (by decide +kernel) (by decide +kernel) (Or.inl ⟨by rfl, ?_⟩) ?_
           rotate_left
           focus
             intro w' hb'
             have d0 := FC.out w' (chain up2 hb')
             go_simp
             with_reducible rfl)
        | (refine SeqS.take (v := undef) (by first | assumption | trivial) (by kernel_rfl) (by decide +kernel) (by decide +kernel) (Or.inr ⟨by rfl, rfl⟩) ?_)
        | (refine SeqS.take1 (v := ?_) (by first | assumption | trivial) (by kernel_rfl) (by decide +kernel) (by decide +kernel) (Or.inl ⟨by rfl, ?_⟩) ?_
           rotate_left
           focus
             intro w' hb'
             go_simp
             with_reducible rfl)
        | (refine SeqS.take1 (v := ?_) (by first | assumption | trivial) (by kernel_rfl) (by decide +kernel) (by decide +kernel) (Or.inl ⟨by rfl, ?_⟩) ?_
           rotate_left
           focus
             intro w' hb'
             have d0 := v2 w' hb'
             go_simp
             with_reducible rfl)
        | (refine SeqS.take1 (v := ?_) (by first | assumption | trivial) (by kernel_rfl) (by decide +kernel) (by decide +kernel) (Or.inl ⟨by rfl, ?_⟩) ?_
           rotate_left
           focus
             intro w' hb'
             have d0 := FK.out w' (chain up2 hb')
             go_simp
             with_reducible rfl)
        | (refine SeqS.take1 (v := ?_) (by first | assumption | trivial) (by kernel_rfl) (by decide +kernel) (by decide +kernel) (Or.inl ⟨by rfl, ?_⟩) ?_
           rotate_left
           focus
             intro w' hb'
             have d0 := FC.out w' (chain up2 hb')
             go_simp
             with_reducible rfl)
        | (refine SeqS.take1 (v := undef) (by first | assumption | trivial) (by kernel_rfl) (by decide +kernel) (by decide +kernel) (Or.inr ⟨by rfl, rfl⟩) ?_)
        | (refine SeqS.take2 (v := ?_) (by first | assumption | trivial) (by kernel_rfl) (by decide +kernel) (by decide +kernel) (Or.inl ⟨by rfl, ?_⟩) ?_
           rotate_left
           focus
             intro w' hb'
             go_simp
             with_reducible rfl)
        | (refine SeqS.take2 (v := ?_) (by first | assumption | trivial) (by kernel_rfl) (by decide +kernel) (by decide +kernel) (Or.inl ⟨by rfl, ?_⟩) ?_
           rotate_left
           focus
             intro w' hb'
             have d0 := v2 w' hb'
             go_simp
             with_reducible rfl)
        | (refine SeqS.take2 (v := ?_) (by first | assumption | trivial) (by kernel_rfl) (by decide +kernel) (by decide +kernel) (Or.inl ⟨by rfl, ?_⟩) ?_
           rotate_left
           focus
             intro w' hb'
             have d0 := FK.out w' (chain up2 hb')
             go_simp
             with_reducible rfl)
        | (refine SeqS.take2 (v := ?_) (by first | assumption | trivial) (by kernel_rfl) (by decide +kernel) (by decide +kernel) (Or.inl ⟨by rfl, ?_⟩) ?_
           rotate_left
           focus
             intro w' hb'
             have d0 := FC.out w' (chain up2 hb')
             go_simp
             with_reducible rfl)
        | (refine SeqS.take2 (v := undef) (by first | assumption | trivial) (by kernel_rfl) (by decide +kernel) (by decide +kernel) (Or.inr ⟨by rfl, rfl⟩) ?_)); simp only [Act.put, List.setIfInBounds_toArray, List.set_cons_zero, List.set_cons_succ])
      refine SeqS.alone (by decide +kernel) (by rfl) (fun K hK => ?_)
      go_simp
      go_at_call 50
      refine (C3.out _ up2).mono ?_
      rintro q w3 ⟨a3, c3, rfl, v3, b3⟩
      go_simp
      have up3 : Below wr.heap.size wr w3 := chain up2 b3
      refine hK _ _ b3 ?_
      refine SeqS.mono (S' := fun w' => Below w3.heap.size w3 w') (fun w' h => chain b3 h) ?_
      have r3 : Below w3.heap.size w3 w3 := Below.refl _ _
      clear hK K r2 v2 up2 b2
      repeat ((first
        | (refine SeqS.take (v := ?_) (by first | assumption | trivial) (by kernel_rfl) (by decide +kernel) (by decide +kernel) (Or.inl ⟨by rfl, ?_⟩) ?_
           rotate_left
           focus
             intro w' hb'
             go_simp
             with_reducible rfl)
        | (refine SeqS.take (v := ?_) (by first | assumption | trivial) (by kernel_rfl) (by decide +kernel) (by decide +kernel) (Or.inl ⟨by rfl, ?_⟩) ?_
           rotate_left
           focus
             intro w' hb'
             have d0 := v3 w' hb'
             go_simp
             with_reducible rfl)
        | (refine SeqS.take (v := undef) (by first | assumption | trivial) (by kernel_rfl) (by decide +kernel) (by decide +kernel) (Or.inr ⟨by rfl, rfl⟩) ?_)
        | (refine SeqS.take1 (v := ?_) (by first | assumption | trivial) (by kernel_rfl) (by decide +kernel) (by decide +kernel) (Or.inl ⟨by rfl, ?_⟩) ?_
           rotate_left
           focus
             intro w' hb'
             go_simp
             with_reducible rfl)
        | (refine SeqS.take1 (v := ?_) (by first | assumption | trivial) (by kernel_rfl) (by decide +kernel) (by decide +kernel) (Or.inl ⟨by rfl, ?_⟩) ?_
           rotate_left
           focus
             intro w' hb'
             have d0 := v3 w' hb'
             go_simp
             with_reducible rfl)
        | (refine SeqS.take1 (v := undef) (by first | assumption | trivial) (by kernel_rfl) (by decide +kernel) (by decide +kernel) (Or.inr ⟨by rfl, rfl⟩) ?_)
        | (refine SeqS.take2 (v := ?_) (by first | assumption | trivial) (by kernel_rfl) (by decide +kernel) (by decide +kernel) (Or.inl ⟨by rfl, ?_⟩) ?_
           rotate_left
           focus
             intro w' hb'
             go_simp
             with_reducible rfl)
        | (refine SeqS.take2 (v := ?_) (by first | assumption | trivial) (by kernel_rfl) (by decide +kernel) (by decide +kernel) (Or.inl ⟨by rfl, ?_⟩) ?_
           rotate_left
           focus
             intro w' hb'
             have d0 := v3 w' hb'
             go_simp
             with_reducible rfl)
        | (refine SeqS.take2 (v := undef) (by first | assumption | trivial) (by kernel_rfl) (by decide +kernel) (by decide +kernel) (Or.inr ⟨by rfl, rfl⟩) ?_)); simp only [Act.put, List.setIfInBounds_toArray, List.set_cons_zero, List.set_cons_succ])
      refine SeqS.done (by decide +kernel) ?_
      have hBz := hBH.out.trans (up3.mono hBH.out.size)
      clear b4 r3 up3 v3 C1 C2 C3 FK FC FR
      go_wp2_with fail
      exact ⟨⟨1 + 1, rfl, by decide, hBz⟩, by decide⟩
    · have hT0 := h1H.out.keep hB
      obtain ⟨c, ka, kc, hF⟩ := hT0.file 2 (by decide)
      have hfo := (okH.out.f 2).fok hTH.out
      have cl := hF.l
      have crow : IsRow Tryz.prog 34 c.length := by rw [cl]; exact rowRf
      have bk := b3H.out.keep hB lt3.out
      obtain ⟨s, hs⟩ : ∃ s, strOfNums (D.f 2).held = s := ⟨_, rfl⟩
      obtain ⟨n, hn⟩ : ∃ n, (D.f 2).held.length = n := ⟨_, rfl⟩
      obtain ⟨t, ht⟩ : ∃ s, strOfNums (D.f 2).K = s := ⟨_, rfl⟩
      obtain ⟨m, hm⟩ : ∃ n, (D.f 2).K.length = n := ⟨_, rfl⟩
      have b4 : Below wr.heap.size wr wr.drew := (Below.refl _ _).drew
      have C1 := Lib.hid (fun w' (h : Below wr.heap.size wr w') => l_read (hT0.keep h) okH.out 2 (by decide) 2 rfl s hs n hn)
      have C2 := Lib.hid (fun w' (h : Below wr.heap.size wr w') => l_holds (hF.keep h) hfo s hs n hn)
      have C3 := Lib.hid (fun w' (h : Below wr.heap.size wr w') => l_kept (hT0.keep h) okH.out 2 (by decide) 2 rfl t ht m hm)
      have hk0 := hF.k
      have hcv := hF.cv
      rw [hm] at hk0 hcv
      rw [ht] at hcv
      have FK := Lib.hid (fun w' (h : Below wr.heap.size wr w') => show w'.cell? ⟨G, 4, none⟩ = some (.slice ka m kc) from ((bk.keep h bk.lt).cell 4).trans hk0)
      have FC := Lib.hid (fun w' (h : Below wr.heap.size wr w') => hcv w' h)
      have FR := Lib.hid (fun w' (h : Below wr.heap.size wr w') => show w'.rangeAt G 4 c from (bk.keep h bk.lt).range 4 c (fun j v hj => hF.at' j v hj))
      have hss : (s.toList == s.toList) = true := beq_self_eq_true _
      have htt : (t.toList == t.toList) = true := beq_self_eq_true _
      have hB5 := hB.trans (b4.mono hB.size)
      have hBH := Lib.hid hB
      clear hT0 hF hfo bk hs hn ht hm hk0 hcv hB cl
      go_wp2_with fail
      refine region_seqS (fun w' => Below wr.heap.size wr w') (by kernel_rfl) b4 ?_
      simp only [pairs, Nat.reduceAdd]
      repeat ((first
        | (refine SeqS.take (v := .agg (c).toArray) (by first | assumption | trivial) (by kernel_rfl) (by decide +kernel) (by decide +kernel) (yields_part (by rfl) 34 (.tmp 16) rfl rfl (fun w' h => FR.out w' h) (crow)) ?_)
        | (refine SeqS.take (v := ?_) (by first | assumption | trivial) (by kernel_rfl) (by decide +kernel) (by decide +kernel) (Or.inl ⟨by rfl, ?_⟩) ?_
           rotate_left
           focus
             intro w' hb'
             go_simp
             with_reducible rfl)
        | (refine SeqS.take (v := undef) (by first | assumption | trivial) (by kernel_rfl) (by decide +kernel) (by decide +kernel) (Or.inr ⟨by rfl, rfl⟩) ?_)
        | (refine SeqS.take1 (v := .agg (c).toArray) (by first | assumption | trivial) (by kernel_rfl) (by decide +kernel) (by decide +kernel) (yields_part (by rfl) 34 (.tmp 16) rfl rfl (fun w' h => FR.out w' h) (crow)) ?_)
        | (refine SeqS.take1 (v := ?_) (by first | assumption | trivial) (by kernel_rfl) (by decide +kernel) (by decide +kernel) (Or.inl ⟨by rfl, ?_⟩) ?_
           rotate_left
           focus
             intro w' hb'
             go_simp
             with_reducible rfl)
        | (refine SeqS.take1 (v := undef) (by first | assumption | trivial) (by kernel_rfl) (by decide +kernel) (by decide +kernel) (Or.inr ⟨by rfl, rfl⟩) ?_)
        | (refine SeqS.take2 (v := .agg (c).toArray) (by first | assumption | trivial) (by kernel_rfl) (by decide +kernel) (by decide +kernel) (yields_part (by rfl) 34 (.tmp 16) rfl rfl (fun w' h => FR.out w' h) (crow)) ?_)
        | (refine SeqS.take2 (v := ?_) (by first | assumption | trivial) (by kernel_rfl) (by decide +kernel) (by decide +kernel) (Or.inl ⟨by rfl, ?_⟩) ?_
           rotate_left
           focus
             intro w' hb'
             go_simp
             with_reducible rfl)
        | (refine SeqS.take2 (v := undef) (by first | assumption | trivial) (by kernel_rfl) (by decide +kernel) (by decide +kernel) (Or.inr ⟨by rfl, rfl⟩) ?_)); simp only [Act.put, List.setIfInBounds_toArray, List.set_cons_zero, List.set_cons_succ])
      refine SeqS.alone (by decide +kernel) (by rfl) (fun K hK => ?_)
      go_simp
      go_at_call 49
      refine (C1.out _ b4).mono ?_
      rintro q w1 ⟨a1, c1, rfl, v1, b1⟩
      go_simp
      have up1 : Below wr.heap.size wr w1 := chain b4 b1
      refine hK _ _ up1 ?_
      refine SeqS.mono (S' := fun w' => Below w1.heap.size w1 w') (fun w' h => chain up1 h) ?_
      have r1 : Below w1.heap.size w1 w1 := Below.refl _ _
      clear hK K b1
      repeat ((first
        | (refine SeqS.take (v := ?_) (by first | assumption | trivial) (by kernel_rfl) (by decide +kernel) (by decide +kernel) (Or.inl ⟨by rfl, ?_⟩) ?_
           rotate_left
           focus
             intro w' hb'
             go_simp
             with_reducible rfl)
        | (refine SeqS.take (v := ?_) (by first | assumption | trivial) (by kernel_rfl) (by decide +kernel) (by decide +kernel) (Or.inl ⟨by rfl, ?_⟩) ?_
           rotate_left
           focus
             intro w' hb'
             have d0 := v1 w' hb'
             go_simp
             with_reducible rfl)
        | (refine SeqS.take (v := undef) (by first | assumption | trivial) (by kernel_rfl) (by decide +kernel) (by decide +kernel) (Or.inr ⟨by rfl, rfl⟩) ?_)
        | (refine SeqS.take1 (v := ?_) (by first | assumption | trivial) (by kernel_rfl) (by decide +kernel) (by decide +kernel) (Or.inl ⟨by rfl, ?_⟩) ?_
           rotate_left
           focus
             intro w' hb'
             go_simp
             with_reducible rfl)
        | (refine SeqS.take1 (v := ?_) (by first | assumption | trivial) (by kernel_rfl) (by decide +kernel) (by decide +kernel) (Or.inl ⟨by rfl, ?_⟩) ?_
           rotate_left
           focus
             intro w' hb'
             have d0 := v1 w' hb'
             go_simp
             with_reducible rfl)
        | (refine SeqS.take1 (v := undef) (by first | assumption | trivial) (by kernel_rfl) (by decide +kernel) (by decide +kernel) (Or.inr ⟨by rfl, rfl⟩) ?_)
        | (refine SeqS.take2 (v := ?_) (by first | assumption | trivial) (by kernel_rfl) (by decide +kernel) (by decide +kernel) (Or.inl ⟨by rfl, ?_⟩) ?_
           rotate_left
           focus
             intro w' hb'
             go_simp
             with_reducible rfl)
        | (refine SeqS.take2 (v := ?_) (by first | assumption | trivial) (by kernel_rfl) (by decide +kernel) (by decide +kernel) (Or.inl ⟨by rfl, ?_⟩) ?_
           rotate_left
           focus
             intro w' hb'
             have d0 := v1 w' hb'
             go_simp
             with_reducible rfl)
        | (refine SeqS.take2 (v := undef) (by first | assumption | trivial) (by kernel_rfl) (by decide +kernel) (by decide +kernel) (Or.inr ⟨by rfl, rfl⟩) ?_)); simp only [Act.put, List.setIfInBounds_toArray, List.set_cons_zero, List.set_cons_succ])
      refine SeqS.alone (by decide +kernel) (by rfl) (fun K hK => ?_)
      go_simp
      go_at_call 29
      refine (C2.out _ up1).mono ?_
      rintro q w2 ⟨a2, c2, rfl, v2, b2⟩
      go_simp
      have up2 : Below wr.heap.size wr w2 := chain up1 b2
      refine hK _ _ b2 ?_
      refine SeqS.mono (S' := fun w' => Below w2.heap.size w2 w') (fun w' h => chain b2 h) ?_
      have r2 : Below w2.heap.size w2 w2 := Below.refl _ _
      clear hK K r1 v1 up1
      repeat ((first
        | (refine SeqS.take (v := ?_) (by first | assumption | trivial) (by kernel_rfl) (by decide +kernel) (by decide +kernel) (Or.inl ⟨by rfl, ?_⟩) ?_
           rotate_left
           focus
             intro w' hb'
             go_simp
             with_reducible rfl)
        | (refine SeqS.take (v := ?_) (by first | assumption | trivial) (by kernel_rfl) (by decide +kernel) (by decide +kernel) (Or.inl ⟨by rfl, ?_⟩) ?_
           rotate_left
           focus
             intro w' hb'
             have d0 := v2 w' hb'
             go_simp
             with_reducible rfl)
        | (refine SeqS.take (v := ?_) (by first | assumption | trivial) (by kernel_rfl) (by decide +kernel) (by decide +kernel) (Or.inl ⟨by rfl, ?_⟩) ?_
           rotate_left
           focus
             intro w' hb'
             have d0 := FK.out w' (chain up2 hb')
             go_simp
             with_reducible rfl)
        | (refine SeqS.take (v := ?_) (by first | assumption | trivial) (by kernel_rfl) (by decide +kernel) (by decide +kernel) (Or.inl ⟨by rfl, ?_⟩) ?_
           rotate_left
           focus
             intro w' hb'
             have d0 := FC.out w' (chain up2 hb')
             go_simp
             with_reducible rfl)
        | (refine SeqS.take (v := undef) (by first | assumption | trivial) (by kernel_rfl) (by decide +kernel) (by decide +kernel) (Or.inr ⟨by rfl, rfl⟩) ?_)
        | (refine SeqS.take1 (v := ?_) (by first | assumption | trivial) (by kernel_rfl) (by decide +kernel) (by decide +kernel) (Or.inl ⟨by rfl, ?_⟩) ?_
           rotate_left
           focus
             intro w' hb'
             go_simp
             with_reducible rfl)
        | (refine SeqS.take1 (v := ?_) (by first | assumption | trivial) (by kernel_rfl) (by decide +kernel) (by decide +kernel) (Or.inl ⟨by rfl, ?_⟩) ?_
           rotate_left
           focus
             intro w' hb'
             have d0 := v2 w' hb'
             go_simp
             with_reducible rfl)
        | (refine SeqS.take1 (v := ?_) (by first | assumption | trivial) (by kernel_rfl) (by decide +kernel) (by decide +kernel) (Or.inl ⟨by rfl, ?_⟩) ?_
           rotate_left
           focus
             intro w' hb'
             have d0 := FK.out w' (chain up2 hb')
             go_simp
             with_reducible rfl)
        | (refine SeqS.take1 (v := ?_) (by first | assumption | trivial) (by kernel_rfl) (by decide +kernel) (by decide +kernel) (Or.inl ⟨by rfl, ?_⟩) ?_
           rotate_left
           focus
             intro w' hb'
             have d0 := FC.out w' (chain up2 hb')
             go_simp
             with_reducible rfl)
        | (refine SeqS.take1 (v := undef) (by first | assumption | trivial) (by kernel_rfl) (by decide +kernel) (by decide +kernel) (Or.inr ⟨by rfl, rfl⟩) ?_)
        | (refine SeqS.take2 (v := ?_) (by first | assumption | trivial) (by kernel_rfl) (by decide +kernel) (by decide +kernel) (Or.inl ⟨by rfl, ?_⟩) ?_
           rotate_left
           focus
             intro w' hb'
             go_simp
             with_reducible rfl)
        | (refine SeqS.take2 (v := ?_) (by first | assumption | trivial) (by kernel_rfl) (by decide +kernel) (by decide +kernel) (Or.inl ⟨by rfl, ?_⟩) ?_
           rotate_left
           focus
             intro w' hb'
             have d0 := v2 w' hb'
             go_simp
             with_reducible rfl)
        | (refine SeqS.take2 (v := ?_) (by first | assumption | trivial) (by kernel_rfl) (by decide +kernel) (by decide +kernel) (Or.inl ⟨by rfl, ?_⟩) ?_
           rotate_left
           focus
             intro w' hb'
             have d0 := FK.out w' (chain up2 hb')
             go_simp
             with_reducible rfl)
        | (refine SeqS.take2 (v := ?_) (by first | assumption | trivial) (by kernel_rfl) (by decide +kernel) (by decide +kernel) (Or.inl ⟨by rfl, ?_⟩) ?_
           rotate_left
           focus
             intro w' hb'
             have d0 := FC.out w' (chain up2 hb')
             go_simp
             with_reducible rfl)
        | (refine SeqS.take2 (v := undef) (by first | assumption | trivial) (by kernel_rfl) (by decide +kernel) (by decide +kernel) (Or.inr ⟨by rfl, rfl⟩) ?_)); simp only [Act.put, List.setIfInBounds_toArray, List.set_cons_zero, List.set_cons_succ])
      refine SeqS.alone (by decide +kernel) (by rfl) (fun K hK => ?_)
      go_simp
      go_at_call 50
      refine (C3.out _ up2).mono ?_
      rintro q w3 ⟨a3, c3, rfl, v3, b3⟩
      go_simp
      have up3 : Below wr.heap.size wr w3 := chain up2 b3
      refine hK _ _ b3 ?_
      refine SeqS.mono (S' := fun w' => Below w3.heap.size w3 w') (fun w' h => chain b3 h) ?_
      have r3 : Below w3.heap.size w3 w3 := Below.refl _ _
      clear hK K r2 v2 up2 b2
      repeat ((first
        | (refine SeqS.take (v := ?_) (by first | assumption | trivial) (by kernel_rfl) (by decide +kernel) (by decide +kernel) (Or.inl ⟨by rfl, ?_⟩) ?_
           rotate_left
           focus
             intro w' hb'
             go_simp
             with_reducible rfl)
        | (refine SeqS.take (v := ?_) (by first | assumption | trivial) (by kernel_rfl) (by decide +kernel) (by decide +kernel) (Or.inl ⟨by rfl, ?_⟩) ?_
           rotate_left
           focus
             intro w' hb'
             have d0 := v3 w' hb'
             go_simp
             with_reducible rfl)
        | (refine SeqS.take (v := undef) (by first | assumption | trivial) (by kernel_rfl) (by decide +kernel) (by decide +kernel) (Or.inr ⟨by rfl, rfl⟩) ?_)
        | (refine SeqS.take1 (v := ?_) (by first | assumption | trivial) (by kernel_rfl) (by decide +kernel) (by decide +kernel) (Or.inl ⟨by rfl, ?_⟩) ?_
           rotate_left
           focus
             intro w' hb'
             go_simp
             with_reducible rfl)
        | (refine SeqS.take1 (v := ?_) (by first | assumption | trivial) (by kernel_rfl) (by decide +kernel) (by decide +kernel) (Or.inl ⟨by rfl, ?_⟩) ?_
           rotate_left
           focus
             intro w' hb'
             have d0 := v3 w' hb'
             go_simp
             with_reducible rfl)
        | (refine SeqS.take1 (v := undef) (by first | assumption | trivial) (by kernel_rfl) (by decide +kernel) (by decide +kernel) (Or.inr ⟨by rfl, rfl⟩) ?_)
        | (refine SeqS.take2 (v := ?_) (by first | assumption | trivial) (by kernel_rfl) (by decide +kernel) (by decide +kernel) (Or.inl ⟨by rfl, ?_⟩) ?_
           rotate_left
           focus
             intro w' hb'
             go_simp
             with_reducible rfl)
        | (refine SeqS.take2 (v := ?_) (by first | assumption | trivial) (by kernel_rfl) (by decide +kernel) (by decide +kernel) (Or.inl ⟨by rfl, ?_⟩) ?_
           rotate_left
           focus
             intro w' hb'
             have d0 := v3 w' hb'
             go_simp
             with_reducible rfl)
        | (refine SeqS.take2 (v := undef) (by first | assumption | trivial) (by kernel_rfl) (by decide +kernel) (by decide +kernel) (Or.inr ⟨by rfl, rfl⟩) ?_)); simp only [Act.put, List.setIfInBounds_toArray, List.set_cons_zero, List.set_cons_succ])
      refine SeqS.done (by decide +kernel) ?_
      have hBz := hBH.out.trans (up3.mono hBH.out.size)
      clear b4 r3 up3 v3 C1 C2 C3 FK FC FR
      go_wp2_with fail
      exact ⟨⟨2 + 1, rfl, by decide, hBz⟩, by decide⟩
    · have hT0 := h1H.out.keep hB
      have bk := b3H.out.keep hB lt3.out
      obtain ⟨n, hn⟩ : ∃ n, D.used = n := ⟨_, rfl⟩
      obtain ⟨f, hf⟩ : ∃ r, D.fuse = r := ⟨_, rfl⟩
      obtain ⟨d, hd⟩ : ∃ r, D.down = r := ⟨_, rfl⟩
      have b4 : Below wr.heap.size wr wr.drew := (Below.refl _ _).drew
      have U := Lib.hid (fun w' (h : Below wr.heap.size wr w') => own_usedL (hT0.keep h).own okH.out n hn)
      have V := Lib.hid (fun w' (h : Below wr.heap.size wr w') => l_used (hT0.keep h) okH.out hTH.out n hn)
      have CF := Lib.hid (fun w' (h : Below wr.heap.size wr w') => l_fuse (hT0.keep h) okH.out f hf)
      have CD := Lib.hid (fun w' (h : Below wr.heap.size wr w') => l_down (hT0.keep h) okH.out d hd)
      have e7 := dcH.out.f
      have e8 := dcH.out.d
      rw [hf] at e7
      rw [hd] at e8
      have X7 := Lib.hid (fun w' (h : Below wr.heap.size wr w') => ((bk.keep h bk.lt).cell 7).trans e7)
      have X8 := Lib.hid (fun w' (h : Below wr.heap.size wr w') => ((bk.keep h bk.lt).cell 8).trans e8)
      have XB := Lib.hid (fun w' (h : Below wr.heap.size wr w') => bk.keep h bk.lt)
      have hBH := Lib.hid hB
      clear hT0 bk hn hf hd e7 e8 hB
      go_wp2_with fail
      refine region_seqS (fun w' => Below wr.heap.size wr w') (by kernel_rfl) b4 ?_
      simp only [pairs, Nat.reduceAdd]
      repeat ((first
        | (refine SeqS.take (v := .agg (cs).toArray) (by first | assumption | trivial) (by kernel_rfl) (by decide +kernel) (by decide +kernel) (yields_blk (by rfl) 37 (.tmp 3) rfl rfl (fun w' h => XB.out w' h) (hrow)) ?_)
        | (refine SeqS.take (v := ?_) (by first | assumption | trivial) (by kernel_rfl) (by decide +kernel) (by decide +kernel) (Or.inl ⟨by rfl, ?_⟩) ?_
           rotate_left
           focus
             intro w' hb'
             go_simp
             with_reducible rfl)
        | (refine SeqS.take (v := undef) (by first | assumption | trivial) (by kernel_rfl) (by decide +kernel) (by decide +kernel) (Or.inr ⟨by rfl, rfl⟩) ?_)
        | (refine SeqS.take1 (v := .agg (cs).toArray) (by first | assumption | trivial) (by kernel_rfl) (by decide +kernel) (by decide +kernel) (yields_blk (by rfl) 37 (.tmp 3) rfl rfl (fun w' h => XB.out w' h) (hrow)) ?_)
        | (refine SeqS.take1 (v := ?_) (by first | assumption | trivial) (by kernel_rfl) (by decide +kernel) (by decide +kernel) (Or.inl ⟨by rfl, ?_⟩) ?_
           rotate_left
           focus
             intro w' hb'
             go_simp
             with_reducible rfl)
        | (refine SeqS.take1 (v := undef) (by first | assumption | trivial) (by kernel_rfl) (by decide +kernel) (by decide +kernel) (Or.inr ⟨by rfl, rfl⟩) ?_)
        | (refine SeqS.take2 (v := .agg (cs).toArray) (by first | assumption | trivial) (by kernel_rfl) (by decide +kernel) (by decide +kernel) (yields_blk (by rfl) 37 (.tmp 3) rfl rfl (fun w' h => XB.out w' h) (hrow)) ?_)
        | (refine SeqS.take2 (v := ?_) (by first | assumption | trivial) (by kernel_rfl) (by decide +kernel) (by decide +kernel) (Or.inl ⟨by rfl, ?_⟩) ?_
           rotate_left
           focus
             intro w' hb'
             go_simp
             with_reducible rfl)
        | (refine SeqS.take2 (v := undef) (by first | assumption | trivial) (by kernel_rfl) (by decide +kernel) (by decide +kernel) (Or.inr ⟨by rfl, rfl⟩) ?_)); simp only [Act.put, List.setIfInBounds_toArray, List.set_cons_zero, List.set_cons_succ])
      refine SeqS.alone (by decide +kernel) (by rfl) (fun K hK => ?_)
      go_simp
      go_at_call 51
      refine (U.out _ b4).mono ?_
      rintro e w1 ⟨rfl, b1⟩
      go_simp
      have S1 : Below wr.heap.size wr w1 := b4.trans (b1.mono b4.size)
      refine hK _ _ S1 ?_
      clear hK K
      repeat ((first
        | (refine SeqS.take (v := .agg (cs).toArray) (by first | assumption | trivial) (by kernel_rfl) (by decide +kernel) (by decide +kernel) (yields_blk (by rfl) 37 (.tmp 3) rfl rfl (fun w' h => XB.out w' h) (hrow)) ?_)
        | (refine SeqS.take (v := ?_) (by first | assumption | trivial) (by kernel_rfl) (by decide +kernel) (by decide +kernel) (Or.inl ⟨by rfl, ?_⟩) ?_
           rotate_left
           focus
             intro w' hb'
             go_simp
             with_reducible rfl)
        | (refine SeqS.take (v := undef) (by first | assumption | trivial) (by kernel_rfl) (by decide +kernel) (by decide +kernel) (Or.inr ⟨by rfl, rfl⟩) ?_)
        | (refine SeqS.take1 (v := .agg (cs).toArray) (by first | assumption | trivial) (by kernel_rfl) (by decide +kernel) (by decide +kernel) (yields_blk (by rfl) 37 (.tmp 3) rfl rfl (fun w' h => XB.out w' h) (hrow)) ?_)
        | (refine SeqS.take1 (v := ?_) (by first | assumption | trivial) (by kernel_rfl) (by decide +kernel) (by decide +kernel) (Or.inl ⟨by rfl, ?_⟩) ?_
           rotate_left
           focus
             intro w' hb'
             go_simp
             with_reducible rfl)
        | (refine SeqS.take1 (v := undef) (by first | assumption | trivial) (by kernel_rfl) (by decide +kernel) (by decide +kernel) (Or.inr ⟨by rfl, rfl⟩) ?_)
        | (refine SeqS.take2 (v := .agg (cs).toArray) (by first | assumption | trivial) (by kernel_rfl) (by decide +kernel) (by decide +kernel) (yields_blk (by rfl) 37 (.tmp 3) rfl rfl (fun w' h => XB.out w' h) (hrow)) ?_)
        | (refine SeqS.take2 (v := ?_) (by first | assumption | trivial) (by kernel_rfl) (by decide +kernel) (by decide +kernel) (Or.inl ⟨by rfl, ?_⟩) ?_
           rotate_left
           focus
             intro w' hb'
             go_simp
             with_reducible rfl)
        | (refine SeqS.take2 (v := undef) (by first | assumption | trivial) (by kernel_rfl) (by decide +kernel) (by decide +kernel) (Or.inr ⟨by rfl, rfl⟩) ?_)); simp only [Act.put, List.setIfInBounds_toArray, List.set_cons_zero, List.set_cons_succ])
      refine SeqS.alone (by decide +kernel) (by rfl) (fun K hK => ?_)
      go_simp
      go_at_call 52
      refine (V.out _ S1).mono ?_
      rintro e w2 ⟨rfl, b2⟩
      go_simp
      have S2 : Below wr.heap.size wr w2 := S1.trans (b2.mono S1.size)
      refine hK _ _ S2 ?_
      clear hK K
      repeat ((first
        | (refine SeqS.take (v := ?_) (by first | assumption | trivial) (by kernel_rfl) (by decide +kernel) (by decide +kernel) (Or.inl ⟨by rfl, ?_⟩) ?_
           rotate_left
           focus
             intro w' hb'
             go_simp
             with_reducible rfl)
        | (refine SeqS.take (v := ?_) (by first | assumption | trivial) (by kernel_rfl) (by decide +kernel) (by decide +kernel) (Or.inl ⟨by rfl, ?_⟩) ?_
           rotate_left
           focus
             intro w' hb'
             have d0 := X7.out w' hb'
             go_simp
             with_reducible rfl)
        | (refine SeqS.take (v := undef) (by first | assumption | trivial) (by kernel_rfl) (by decide +kernel) (by decide +kernel) (Or.inr ⟨by rfl, rfl⟩) ?_)
        | (refine SeqS.take1 (v := ?_) (by first | assumption | trivial) (by kernel_rfl) (by decide +kernel) (by decide +kernel) (Or.inl ⟨by rfl, ?_⟩) ?_
           rotate_left
           focus
             intro w' hb'
             go_simp
             with_reducible rfl)
        | (refine SeqS.take1 (v := ?_) (by first | assumption | trivial) (by kernel_rfl) (by decide +kernel) (by decide +kernel) (Or.inl ⟨by rfl, ?_⟩) ?_
           rotate_left
           focus
             intro w' hb'
             have d0 := X7.out w' hb'
             go_simp
             with_reducible rfl)
        | (refine SeqS.take1 (v := undef) (by first | assumption | trivial) (by kernel_rfl) (by decide +kernel) (by decide +kernel) (Or.inr ⟨by rfl, rfl⟩) ?_)
        | (refine SeqS.take2 (v := ?_) (by first | assumption | trivial) (by kernel_rfl) (by decide +kernel) (by decide +kernel) (Or.inl ⟨by rfl, ?_⟩) ?_
           rotate_left
           focus
             intro w' hb'
             go_simp
             with_reducible rfl)
        | (refine SeqS.take2 (v := ?_) (by first | assumption | trivial) (by kernel_rfl) (by decide +kernel) (by decide +kernel) (Or.inl ⟨by rfl, ?_⟩) ?_
           rotate_left
           focus
             intro w' hb'
             have d0 := X7.out w' hb'
             go_simp
             with_reducible rfl)
        | (refine SeqS.take2 (v := undef) (by first | assumption | trivial) (by kernel_rfl) (by decide +kernel) (by decide +kernel) (Or.inr ⟨by rfl, rfl⟩) ?_)); simp only [Act.put, List.setIfInBounds_toArray, List.set_cons_zero, List.set_cons_succ])
      refine SeqS.alone (by decide +kernel) (by rfl) (fun K hK => ?_)
      go_simp
      go_at_call 53
      refine (CF.out _ S2).mono ?_
      rintro e w4 ⟨rfl, b4⟩
      go_simp
      have S4 : Below wr.heap.size wr w4 := S2.trans (b4.mono S2.size)
      refine hK _ _ S4 ?_
      clear hK K
      repeat ((first
        | (refine SeqS.take (v := ?_) (by first | assumption | trivial) (by kernel_rfl) (by decide +kernel) (by decide +kernel) (Or.inl ⟨by rfl, ?_⟩) ?_
           rotate_left
           focus
             intro w' hb'
             go_simp
             with_reducible rfl)
        | (refine SeqS.take (v := ?_) (by first | assumption | trivial) (by kernel_rfl) (by decide +kernel) (by decide +kernel) (Or.inl ⟨by rfl, ?_⟩) ?_
           rotate_left
           focus
             intro w' hb'
             have d0 := X7.out w' hb'
             go_simp
             with_reducible rfl)
        | (refine SeqS.take (v := ?_) (by first | assumption | trivial) (by kernel_rfl) (by decide +kernel) (by decide +kernel) (Or.inl ⟨by rfl, ?_⟩) ?_
           rotate_left
           focus
             intro w' hb'
             have d0 := X8.out w' hb'
             go_simp
             with_reducible rfl)
        | (refine SeqS.take (v := undef) (by first | assumption | trivial) (by kernel_rfl) (by decide +kernel) (by decide +kernel) (Or.inr ⟨by rfl, rfl⟩) ?_)
        | (refine SeqS.take1 (v := ?_) (by first | assumption | trivial) (by kernel_rfl) (by decide +kernel) (by decide +kernel) (Or.inl ⟨by rfl, ?_⟩) ?_
           rotate_left
           focus
             intro w' hb'
             go_simp
             with_reducible rfl)
        | (refine SeqS.take1 (v := ?_) (by first | assumption | trivial) (by kernel_rfl) (by decide +kernel) (by decide +kernel) (Or.inl ⟨by rfl, ?_⟩) ?_
           rotate_left
           focus
             intro w' hb'
             have d0 := X7.out w' hb'
             go_simp
             with_reducible rfl)
        | (refine SeqS.take1 (v := ?_) (by first | assumption | trivial) (by kernel_rfl) (by decide +kernel) (by decide +kernel) (Or.inl ⟨by rfl, ?_⟩) ?_
           rotate_left
           focus
             intro w' hb'
             have d0 := X8.out w' hb'
             go_simp
             with_reducible rfl)
        | (refine SeqS.take1 (v := undef) (by first | assumption | trivial) (by kernel_rfl) (by decide +kernel) (by decide +kernel) (Or.inr ⟨by rfl, rfl⟩) ?_)
        | (refine SeqS.take2 (v := ?_) (by first | assumption | trivial) (by kernel_rfl) (by decide +kernel) (by decide +kernel) (Or.inl ⟨by rfl, ?_⟩) ?_
           rotate_left
           focus
             intro w' hb'
             go_simp
             with_reducible rfl)
        | (refine SeqS.take2 (v := ?_) (by first | assumption | trivial) (by kernel_rfl) (by decide +kernel) (by decide +kernel) (Or.inl ⟨by rfl, ?_⟩) ?_
           rotate_left
           focus
             intro w' hb'
             have d0 := X7.out w' hb'
             go_simp
             with_reducible rfl)
        | (refine SeqS.take2 (v := ?_) (by first | assumption | trivial) (by kernel_rfl) (by decide +kernel) (by decide +kernel) (Or.inl ⟨by rfl, ?_⟩) ?_
           rotate_left
           focus
             intro w' hb'
             have d0 := X8.out w' hb'
             go_simp
             with_reducible rfl)
        | (refine SeqS.take2 (v := undef) (by first | assumption | trivial) (by kernel_rfl) (by decide +kernel) (by decide +kernel) (Or.inr ⟨by rfl, rfl⟩) ?_)); simp only [Act.put, List.setIfInBounds_toArray, List.set_cons_zero, List.set_cons_succ])
      refine SeqS.alone (by decide +kernel) (by rfl) (fun K hK => ?_)
      go_simp
      go_at_call 27
      refine (CD.out _ S4).mono ?_
      rintro e w5 ⟨rfl, b5⟩
      go_simp
      have S5 : Below wr.heap.size wr w5 := S4.trans (b5.mono S4.size)
      refine hK _ _ S5 ?_
      clear hK K
      repeat ((first
        | (refine SeqS.take (v := ?_) (by first | assumption | trivial) (by kernel_rfl) (by decide +kernel) (by decide +kernel) (Or.inl ⟨by rfl, ?_⟩) ?_
           rotate_left
           focus
             intro w' hb'
             go_simp
             with_reducible rfl)
        | (refine SeqS.take (v := ?_) (by first | assumption | trivial) (by kernel_rfl) (by decide +kernel) (by decide +kernel) (Or.inl ⟨by rfl, ?_⟩) ?_
           rotate_left
           focus
             intro w' hb'
             have d0 := X8.out w' hb'
             go_simp
             with_reducible rfl)
        | (refine SeqS.take (v := undef) (by first | assumption | trivial) (by kernel_rfl) (by decide +kernel) (by decide +kernel) (Or.inr ⟨by rfl, rfl⟩) ?_)
        | (refine SeqS.take1 (v := ?_) (by first | assumption | trivial) (by kernel_rfl) (by decide +kernel) (by decide +kernel) (Or.inl ⟨by rfl, ?_⟩) ?_
           rotate_left
           focus
             intro w' hb'
             go_simp
             with_reducible rfl)
        | (refine SeqS.take1 (v := ?_) (by first | assumption | trivial) (by kernel_rfl) (by decide +kernel) (by decide +kernel) (Or.inl ⟨by rfl, ?_⟩) ?_
           rotate_left
           focus
             intro w' hb'
             have d0 := X8.out w' hb'
             go_simp
             with_reducible rfl)
        | (refine SeqS.take1 (v := undef) (by first | assumption | trivial) (by kernel_rfl) (by decide +kernel) (by decide +kernel) (Or.inr ⟨by rfl, rfl⟩) ?_)
        | (refine SeqS.take2 (v := ?_) (by first | assumption | trivial) (by kernel_rfl) (by decide +kernel) (by decide +kernel) (Or.inl ⟨by rfl, ?_⟩) ?_
           rotate_left
           focus
             intro w' hb'
             go_simp
             with_reducible rfl)
        | (refine SeqS.take2 (v := ?_) (by first | assumption | trivial) (by kernel_rfl) (by decide +kernel) (by decide +kernel) (Or.inl ⟨by rfl, ?_⟩) ?_
           rotate_left
           focus
             intro w' hb'
             have d0 := X8.out w' hb'
             go_simp
             with_reducible rfl)
        | (refine SeqS.take2 (v := undef) (by first | assumption | trivial) (by kernel_rfl) (by decide +kernel) (by decide +kernel) (Or.inr ⟨by rfl, rfl⟩) ?_)); simp only [Act.put, List.setIfInBounds_toArray, List.set_cons_zero, List.set_cons_succ])
      refine SeqS.done (by decide +kernel) ?_
      have hBz := qH.out.trans ((hBH.out.trans (S5.mono hBH.out.size)).mono qH.out.size)
      clear b1 b2 b4 b5 S1 S2 S4 S5 U V CF CD X7 X8 XB
      go_wp2
      go_ret
      exact ⟨rfl, hBz⟩
end Go.Proofs.YtnblknhdchpboaaGreatDoor
