/-
  Texts of stages that were proved on their own, joined: DkTwo, DkPair. Each begins with its own words.
-/
import Derived.Test.YtmnfagpbcllbgaaDkRoom
import Derived.Test.YtmnfagpbcllbgaaJDkLawD3

/-
  The law DiskDoes: a landed disk and the document's, side by side in memory, and what each call leaves of both. New memory is written, and the landed disk's own. Conditions: the document's disk has at most 2^41 steps.
-/
namespace Go.Proofs.Ytmnfagpbcllbgaa
open Go.RowKit

/-! ### The document's disk lies in memory -/
theorem RStep.lt {R : Nat → Prop} {w : World} {vals : List Value} {s : StV} (h : RStep R w vals s) : RStep (fun b => R b ∧ b < w.heap.size) w vals s := by
  obtain ⟨a, c, hv, hs⟩ := h
  refine ⟨a, c, hv, ?_⟩
  cases s with
  | put xs => exact ⟨hs.1, fun x hx hn => ⟨hs.2 x hx hn, hs.1.isIn.2 x hx hn⟩⟩
  | cut n => trivial
theorem RSteps.lt {R : Nat → Prop} {w : World} {a : Option Addr} {c : Nat} {S : List StV} (h : RSteps R w a c S) : RSteps (fun b => R b ∧ b < w.heap.size) w a c S := by
  refine ⟨h.1, ?_⟩
  by_cases h0 : S.length = 0
  · exact .inl h0
  obtain ⟨b', off', s, A, C, ha', _, hr, _⟩ := h.get 0 (by omega)
  have hl : b' < w.heap.size := by
    have h1 : ∃ v, (stC s A C)[0]? = some v := by cases s <;> exact ⟨_, rfl⟩
    obtain ⟨v, h1⟩ := h1
    exact World.block_lt_of_cell? w _ (hr 0 v h1)
  rcases h.2 with h1 | ⟨b, off, ha, hb, hc⟩
  · exact absurd h1 h0
  · rw [ha] at ha'
    injection ha' with ha'
    injection ha' with e1 _ _
    subst e1
    exact .inr ⟨b, off, ha, ⟨hb, hl⟩, fun i s hs => by
      obtain ⟨vals, k1, k2⟩ := hc i s hs
      exact ⟨vals, k1, k2.lt⟩⟩
theorem RFile.lt {R : Nat → Prop} {w : World} {cs : List Value} {v : FlV} (h : RFile R w cs v) : RFile (fun b => R b ∧ b < w.heap.size) w cs v := by
  obtain ⟨ka, kc, sa, sc, hc, h1, h2, h3⟩ := h
  exact ⟨ka, kc, sa, sc, hc, h1, fun x hx hn => ⟨h2 x hx hn, h1.isIn.2 x hx hn⟩, h3.lt⟩
theorem RDisk.lt {R : Nat → Prop} {w : World} {cs : List Value} {D : DkV} (h : RDisk R w cs D) : RDisk (fun b => R b ∧ b < w.heap.size) w cs D := by
  obtain ⟨c0, c1, c2, hc, h0, h1, h2⟩ := h
  exact ⟨c0, c1, c2, hc, h0.lt, h1.lt, h2.lt⟩

/-! ### Both disks -/
structure TwoAt (L : Nat → Nat) (P R E : Nat → Prop) (B : Nat) (w0 w : World) (g : Nat) (cs : List Value) (D D' : DkV) : Prop where
  k : DkIs L P w g D
  r : RDisk R w cs D'
  rl : ∀ b, R b → b < w.heap.size ∧ L b = 0
  lb : ∀ b, L b ≠ 0 → B ≤ b
  e : ∀ b, E b → b < w.heap.size ∧ L b = 0 ∧ ¬ R b ∧ ¬ P b
  b : Below B w0 w
  s : B ≤ w.heap.size
/-- The landed disk at g is D, the document's in the cells cs is D'; what both hold came behind B; the blocks of E are nobody's. -/
def Two (E : Nat → Prop) (B : Nat) (w0 w : World) (g : Nat) (cs : List Value) (D D' : DkV) : Prop := ∃ L P R, TwoAt L P R E B w0 w g cs D D'
theorem Two.b {E : Nat → Prop} {B : Nat} {w0 w : World} {g : Nat} {cs : List Value} {D D' : DkV} (h : Two E B w0 w g cs D D') : Below B w0 w := by
  obtain ⟨_, _, _, h⟩ := h
  exact h.b
theorem Two.s {E : Nat → Prop} {B : Nat} {w0 w : World} {g : Nat} {cs : List Value} {D D' : DkV} (h : Two E B w0 w g cs D D') : B ≤ w.heap.size := by
  obtain ⟨_, _, _, h⟩ := h
  exact h.s
theorem Two.ddc {E : Nat → Prop} {B : Nat} {w0 w : World} {g : Nat} {cs : List Value} {D D' : DkV} (h : Two E B w0 w g cs D D') : DdC cs D'.room D'.fuse D'.down := by
  obtain ⟨_, _, _, h⟩ := h
  exact h.r.ddc
theorem DkIs.lt {L : Nat → Nat} {P : Nat → Prop} {w : World} {g : Nat} {D : DkV} (h : DkIs L P w g D) : ∀ b, L b ≠ 0 → b < w.heap.size := by
  obtain ⟨_, _, _, h⟩ := h
  exact h.lab.l
theorem DkIs.plt {L : Nat → Nat} {P : Nat → Prop} {w : World} {g : Nat} {D : DkV} (h : DkIs L P w g D) : ∀ b, P b → b < w.heap.size := by
  obtain ⟨_, _, _, h⟩ := h
  exact fun b hb => (h.lab.p b hb).1
/-- New memory alone was written: what is new is nobody's. -/
theorem Two.keepE {E E' : Nat → Prop} {B : Nat} {w0 w w' : World} {g : Nat} {cs : List Value} {D D' : DkV} (h : Two E B w0 w g cs D D') (hb : Below w.heap.size w w') (hE : ∀ b, E' b → E b ∨ (w.heap.size ≤ b ∧ b < w'.heap.size)) : Two E' B w0 w' g cs D D' := by
  obtain ⟨L, P, R, h⟩ := h
  have hs := hb.size
  refine ⟨L, P, R, h.k.keep hb, h.r.keep hb, fun b hb => ⟨Nat.lt_of_lt_of_le (h.rl b hb).1 hs, (h.rl b hb).2⟩, h.lb, fun b he => ?_, h.b.trans (hb.mono h.s), Nat.le_trans h.s hs⟩
  rcases hE b he with he | he
  · exact ⟨Nat.lt_of_lt_of_le (h.e b he).1 hs, (h.e b he).2⟩
  · refine ⟨he.2, ?_, fun hr => absurd (h.rl b hr).1 (Nat.not_lt.2 he.1), fun hp => absurd (h.k.plt b hp) (Nat.not_lt.2 he.1)⟩
    by_cases h0 : L b = 0
    · exact h0
    · have := h.k.lt b h0
      omega
theorem Two.keep {E : Nat → Prop} {B : Nat} {w0 w w' : World} {g : Nat} {cs : List Value} {D D' : DkV} (h : Two E B w0 w g cs D D') (hb : Below w.heap.size w w') : Two E B w0 w' g cs D D' := h.keepE hb (fun _ h => .inl h)
theorem DkIs.far {L : Nat → Nat} {P : Nat → Prop} {w w' : World} {g : Nat} {D : DkV} (h : DkIs L P w g D) {F : Nat → Prop} (hm : Moved F w w') (hF : ∀ b, L b ≠ 0 ∨ P b → ¬ F b) : DkIs L P w' g D := by
  obtain ⟨x0, x1, x2, h⟩ := h
  exact ⟨x0, x1, x2, h.far hm hF⟩
/-- A block that is nobody's was written. -/
theorem Two.grown {E : Nat → Prop} {B : Nat} {w0 w w' : World} {g : Nat} {cs : List Value} {D D' : DkV} (h : Two E B w0 w g cs D D') {G : Nat} (hg : w.grownBy w' (some G)) (hG : E G) (hB : B ≤ G) : Two E B w0 w' g cs D D' := by
  obtain ⟨L, P, R, h⟩ := h
  have hs := hg.size
  obtain ⟨e1, e2, e3, e4⟩ := h.e G hG
  have hm : Moved (fun b => b = G) w w' := moved_set rfl hg
  refine ⟨L, P, R, h.k.far hm (fun b hb e => ?_), h.r.same (fun b hb hl => hm.2 b hl (fun e => e3 (e ▸ hb))) (fun _ h => h), fun b hb => ⟨Nat.lt_of_lt_of_le (h.rl b hb).1 hs, (h.rl b hb).2⟩, h.lb, fun b he => ⟨Nat.lt_of_lt_of_le (h.e b he).1 hs, (h.e b he).2⟩, h.b.grown hg h.s (fun q hq => by injection hq with hq; rw [← hq]; exact hB), Nat.le_trans h.s hs⟩
  subst e
  exact hb.elim (fun h => h e2) e4
theorem Two.less {E E' : Nat → Prop} {B : Nat} {w0 w : World} {g : Nat} {cs : List Value} {D D' : DkV} (h : Two E B w0 w g cs D D') (hE : ∀ b, E' b → E b) : Two E' B w0 w g cs D D' := by
  obtain ⟨L, P, R, h⟩ := h
  exact ⟨L, P, R, h.k, h.r, h.rl, h.lb, fun b he => h.e b (hE b he), h.b, h.s⟩
/-- Behind a call of the document's disk. -/
theorem TwoAt.doc {L : Nat → Nat} {P R E : Nat → Prop} {B : Nat} {w0 w w' : World} {g : Nat} {cs cs' : List Value} {D D' D2 : DkV} (h : TwoAt L P R E B w0 w g cs D D') (hr : RDisk (fun b => R b ∨ w.heap.size ≤ b) w' cs' D2) (hb : Below w.heap.size w w') : Two E B w0 w' g cs' D D2 := by
  have hs := hb.size
  refine ⟨L, P, _, h.k.keep hb, hr.lt, fun b hb => ⟨hb.2, ?_⟩, h.lb, fun b he => ?_, h.b.trans (hb.mono h.s), Nat.le_trans h.s hs⟩
  · rcases hb.1 with h1 | h1
    · exact (h.rl b h1).2
    · by_cases h0 : L b = 0
      · exact h0
      · have := h.k.lt b h0
        omega
  · obtain ⟨e1, e2, e3, e4⟩ := h.e b he
    exact ⟨Nat.lt_of_lt_of_le e1 hs, e2, fun hn => hn.1.elim e3 (fun h => by omega), e4⟩
/-- Behind a call of the landed disk. -/
theorem TwoAt.prog {L : Nat → Nat} {P R E : Nat → Prop} {B : Nat} {w0 w w' : World} {g : Nat} {cs : List Value} {D D' D2 : DkV} (h : TwoAt L P R E B w0 w g cs D D') (hk : DkTo L P w g w' D2) : Two E B w0 w' g cs D2 D' ∧ (∀ b, E b → w'.heap[b]? = w.heap[b]?) := by
  obtain ⟨L', P', h1, h2⟩ := hk
  have hs : w.heap.size ≤ w'.heap.size := h2.m.size
  have hmv : ∀ b, b < w.heap.size → L b = 0 → w'.heap[b]? = w.heap[b]? := fun b hb h0 => h2.m.2 b hb (fun hn => hn h0)
  refine ⟨⟨L', P', R, h1, h.r.same (fun b hb _ => hmv b (h.rl b hb).1 (h.rl b hb).2) (fun _ h => h), fun b hb => ⟨Nat.lt_of_lt_of_le (h.rl b hb).1 hs, (h2.l b (h.rl b hb).1).trans (h.rl b hb).2⟩, h2.low h.lb h.s, fun b he => ?_, below_new h2 h.b h.s h.lb, Nat.le_trans h.s hs⟩, fun b he => hmv b (h.e b he).1 (h.e b he).2.1⟩
  obtain ⟨e1, e2, e3, e4⟩ := h.e b he
  exact ⟨Nat.lt_of_lt_of_le e1 hs, (h2.l b e1).trans e2, e3, fun hp => (h2.q b hp).elim e4 (fun h => by omega)⟩
def Same (E : Nat → Prop) (w w' : World) : Prop := ∀ b, E b → w'.heap[b]? = w.heap[b]?
theorem Same.blk {E : Nat → Prop} {w w' : World} (h : Same E w w') {g : Nat} {t : TypeId} {cs : List Value} (hb : Blk w g t cs) (hg : E g) : Blk w' g t cs := by
  unfold Blk at hb ⊢
  rw [h g hg]
  exact hb

/-! ### The calls -/
section
variable {E : Nat → Prop} {B : Nat} {w0 w : World} {g : Nat} {cs : List Value} {D D' : DkV} {T : Nat}
theorem r_append {a : Option Addr} {n c : Nat} {bs : List Int} (file : Int) (h : Two E B w0 w g cs D D') (hO : D'.Ok T) (hT : T ≤ 2199023255552) (hI : Ints .u8 w a n c bs) (hn : n ≤ 140737488355328) :
    Calls Try.prog 18 #[.agg cs.toArray, .int .i64 file, .slice a n c] w fun q w' => ∃ cs', q = .returned (.tuple #[.agg cs'.toArray, .int .i64 (apD D' file bs).2]) ∧ Two E B w0 w' g cs' D (apD D' file bs).1 ∧ Below w.heap.size w w' := by
  obtain ⟨L, P, R, h⟩ := h
  exact (fAppend_any file h.r (fun b hb => (h.rl b hb).1) hO hT hI hn).mono fun q w' ⟨cs', e, k, hb⟩ => ⟨cs', e, h.doc k hb, hb⟩
theorem r_cut (file n : Int) (h : Two E B w0 w g cs D D') (hO : D'.Ok T) (hT : T ≤ 2199023255552) :
    Calls Try.prog 19 #[.agg cs.toArray, .int .i64 file, .int .i64 n] w fun q w' => ∃ cs', q = .returned (.tuple #[.agg cs'.toArray, .int .i64 (ctD D' file n).2]) ∧ Two E B w0 w' g cs' D (ctD D' file n).1 ∧ Below w.heap.size w w' := by
  obtain ⟨L, P, R, h⟩ := h
  exact (fCut_any file n h.r (fun b hb => (h.rl b hb).1) hO hT).mono fun q w' ⟨cs', e, k, hb⟩ => ⟨cs', e, h.doc k hb, hb⟩
theorem r_sync (file : Int) (h : Two E B w0 w g cs D D') (hO : D'.Ok T) (hT : T ≤ 2199023255552) :
    Calls Try.prog 21 #[.agg cs.toArray, .int .i64 file] w fun q w' => ∃ cs', q = .returned (.tuple #[.agg cs'.toArray, .int .i64 (syD D' file).2]) ∧ Two E B w0 w' g cs' D (syD D' file).1 ∧ Below w.heap.size w w' := by
  obtain ⟨L, P, R, h⟩ := h
  exact (fSync_any file h.r (fun b hb => (h.rl b hb).1) hO hT).mono fun q w' ⟨cs', e, k, hb⟩ => ⟨cs', e, h.doc k hb, hb⟩
theorem r_arm (n : Int) (h : Two E B w0 w g cs D D') :
    Calls Try.prog 23 #[.agg cs.toArray, .int .i64 n] w fun q w' => ∃ cs', q = .returned (.agg cs'.toArray) ∧ Two E B w0 w' g cs' D (armD D' n) ∧ Below w.heap.size w w' := by
  obtain ⟨L, P, R, h⟩ := h
  exact (fArm_any n h.r (fun b hb => (h.rl b hb).1)).mono fun q w' ⟨cs', e, k, hb⟩ => ⟨cs', e, h.doc k hb, hb⟩
theorem r_crash {a : Option Addr} {n c : Nat} {us : List Int} (h : Two E B w0 w g cs D D') (hO : D'.Ok T) (hT : T ≤ 2199023255552) (hI : Ints .i64 w a n c us) :
    Calls Try.prog 24 #[.agg cs.toArray, .slice a n c] w fun q w' => ∃ cs', q = .returned (.agg cs'.toArray) ∧ Two E B w0 w' g cs' D (crD D' us) ∧ Below w.heap.size w w' := by
  obtain ⟨L, P, R, h⟩ := h
  exact (fCrash_any h.r (fun b hb => (h.rl b hb).1) hO hT hI).mono fun q w' ⟨cs', e, k, hb⟩ => ⟨cs', e, h.doc k hb, hb⟩
theorem c_append {a : Option Addr} {n c : Nat} {bs : List Int} (file : Int) (h : Two E B w0 w g cs D D') (hO : D.Ok T) (hT : T < 4398046511104) (hI : Ints .u8 w a n c bs) :
    Calls Try.prog 15 #[.pointer (some ⟨g, 0, none⟩), .int .i64 file, .slice a n c] w fun q w' => q = .returned (.int .i64 (apD D file bs).2) ∧ Two E B w0 w' g cs (apD D file bs).1 D' ∧ Same E w w' := by
  obtain ⟨L, P, R, h⟩ := h
  exact (dAppend_any h.k hO hT hI).mono fun q w' ⟨e, k⟩ => ⟨e, h.prog k⟩
theorem c_cut (file n : Int) (h : Two E B w0 w g cs D D') (hO : D.Ok T) (hT : T < 4398046511104) :
    Calls Try.prog 20 #[.pointer (some ⟨g, 0, none⟩), .int .i64 file, .int .i64 n] w fun q w' => q = .returned (.int .i64 (ctD D file n).2) ∧ Two E B w0 w' g cs (ctD D file n).1 D' ∧ Same E w w' := by
  obtain ⟨L, P, R, h⟩ := h
  exact (dCut_any h.k hO hT).mono fun q w' ⟨e, k⟩ => ⟨e, h.prog k⟩
theorem c_sync (file : Int) (h : Two E B w0 w g cs D D') (hO : D.Ok T) (hT : T < 4398046511104) :
    Calls Try.prog 16 #[.pointer (some ⟨g, 0, none⟩), .int .i64 file] w fun q w' => q = .returned (.int .i64 (syD D file).2) ∧ Two E B w0 w' g cs (syD D file).1 D' ∧ Same E w w' := by
  obtain ⟨L, P, R, h⟩ := h
  exact (dSync_any h.k hO (by omega)).mono fun q w' ⟨e, k⟩ => ⟨e, h.prog k⟩
theorem c_arm (n : Int) (h : Two E B w0 w g cs D D') (hO : D.Ok T) :
    Calls Try.prog 22 #[.pointer (some ⟨g, 0, none⟩), .int .i64 n] w fun q w' => q = .returned (.tuple #[]) ∧ Two E B w0 w' g cs (armD D n) D' ∧ Same E w w' := by
  obtain ⟨L, P, R, h⟩ := h
  exact (dArmD h.k hO n).mono fun q w' ⟨e, k⟩ => ⟨e, h.prog k⟩
theorem c_crash {a : Option Addr} {n c : Nat} {us : List Int} (h : Two E B w0 w g cs D D') (hO : D.Ok T) (hT : T < 4398046511104) (hI : Ints .i64 w a n c us) (ho : ∀ x, a = some x → 0 < n → x.block < B) :
    Calls Try.prog 12 #[.pointer (some ⟨g, 0, none⟩), .slice a n c] w fun q w' => q = .returned (.tuple #[]) ∧ Two E B w0 w' g cs (crD D us) D' ∧ Same E w w' := by
  obtain ⟨L, P, R, h⟩ := h
  have hO2 : OutOf L a n := fun x hx hn => by
    by_cases h0 : L x.block = 0
    · exact h0
    · have k1 := h.lb _ h0
      have k2 := ho x hx hn
      omega
  exact (dCrash_any h.k hO (by omega) hI hO2).mono fun q w' ⟨e, k⟩ => ⟨e, h.prog k⟩
/-- A clone beside the first disk: the first may be written to, and the clone stays. -/
def Three (E : Nat → Prop) (B : Nat) (w0 w : World) (g gc : Nat) (cs : List Value) (D Dc D' : DkV) : Prop :=
  ∃ L P R Lc Pc, TwoAt L P R E B w0 w g cs D D' ∧ DkIs Lc Pc w gc Dc ∧ (∀ b, Lc b ≠ 0 → B ≤ b ∧ L b = 0 ∧ ¬ R b ∧ ¬ E b) ∧ ∀ b, Pc b → L b = 0 ∧ ¬ E b
theorem Three.two {gc : Nat} {Dc : DkV} (h : Three E B w0 w g gc cs D Dc D') : Two E B w0 w g cs D D' := by
  obtain ⟨L, P, R, _, _, h, _⟩ := h
  exact ⟨L, P, R, h⟩
theorem Three.keep {w' : World} {gc : Nat} {Dc : DkV} (h : Three E B w0 w g gc cs D Dc D') (hb : Below w.heap.size w w') : Three E B w0 w' g gc cs D Dc D' := by
  obtain ⟨L, P, R, Lc, Pc, h, k, hl, hp⟩ := h
  have hs := hb.size
  exact ⟨L, P, R, Lc, Pc, ⟨h.k.keep hb, h.r.keep hb, fun b hb => ⟨Nat.lt_of_lt_of_le (h.rl b hb).1 hs, (h.rl b hb).2⟩, h.lb, fun b he => ⟨Nat.lt_of_lt_of_le (h.e b he).1 hs, (h.e b he).2⟩, h.b.trans (hb.mono h.s), Nat.le_trans h.s hs⟩, k.keep hb, hl, hp⟩
/-- The clone alone goes on. -/
theorem Three.clone {gc : Nat} {Dc : DkV} (h : Three E B w0 w g gc cs D Dc D') : Two E B w0 w gc cs Dc D' := by
  obtain ⟨L, P, R, Lc, Pc, h, k, hl, hp⟩ := h
  refine ⟨Lc, Pc, R, k, h.r, fun b hb => ⟨(h.rl b hb).1, ?_⟩, fun b hb => (hl b hb).1, fun b he => ⟨(h.e b he).1, ?_, (h.e b he).2.2.1, fun hn => (hp b hn).2 he⟩, h.b, h.s⟩
  · by_cases h0 : Lc b = 0
    · exact h0
    · exact absurd hb (hl b h0).2.2.1
  · by_cases h0 : Lc b = 0
    · exact h0
    · exact absurd he (hl b h0).2.2.2
theorem Three.prog {w' : World} {gc : Nat} {Dc D2 : DkV} {L : Nat → Nat} {P R : Nat → Prop} {Lc : Nat → Nat} {Pc : Nat → Prop} (h : TwoAt L P R E B w0 w g cs D D') (k : DkIs Lc Pc w gc Dc) (hl : ∀ b, Lc b ≠ 0 → B ≤ b ∧ L b = 0 ∧ ¬ R b ∧ ¬ E b) (hp : ∀ b, Pc b → L b = 0 ∧ ¬ E b) (hk : DkTo L P w g w' D2) : Three E B w0 w' g gc cs D2 Dc D' ∧ Same E w w' := by
  obtain ⟨L', P', h1, h2⟩ := hk
  have hs : w.heap.size ≤ w'.heap.size := h2.m.size
  have hmv : ∀ b, b < w.heap.size → L b = 0 → w'.heap[b]? = w.heap[b]? := fun b hb h0 => h2.m.2 b hb (fun hn => hn h0)
  refine ⟨⟨L', P', R, Lc, Pc, ⟨h1, h.r.same (fun b hb _ => hmv b (h.rl b hb).1 (h.rl b hb).2) (fun _ h => h), fun b hb => ⟨Nat.lt_of_lt_of_le (h.rl b hb).1 hs, (h2.l b (h.rl b hb).1).trans (h.rl b hb).2⟩, h2.low h.lb h.s, fun b he => ?_, below_new h2 h.b h.s h.lb, Nat.le_trans h.s hs⟩, k.far h2.m (fun b hb hn => ?_), fun b hb => ?_, fun b hb => ?_⟩, fun b he => hmv b (h.e b he).1 (h.e b he).2.1⟩
  · obtain ⟨e1, e2, e3, e4⟩ := h.e b he
    exact ⟨Nat.lt_of_lt_of_le e1 hs, (h2.l b e1).trans e2, e3, fun hp => (h2.q b hp).elim e4 (fun h => by omega)⟩
  · rcases hb with hb | hb
    · exact hn (hl b hb).2.1
    · exact hn (hp b hb).1
  · have := hl b hb
    exact ⟨this.1, (h2.l b (k.lt b hb)).trans this.2.1, this.2.2⟩
  · have := hp b hb
    exact ⟨(h2.l b (k.plt b hb)).trans this.1, this.2⟩
theorem c_clone (h : Two E B w0 w g cs D D') (hO : D.Ok T) (hT : T ≤ 4398046511104) :
    Calls Try.prog 11 #[.pointer (some ⟨g, 0, none⟩)] w fun q w' => ∃ gc, q = .returned (.pointer (some ⟨gc, 0, none⟩)) ∧ Three E B w0 w' g gc cs D D D' ∧ Below w.heap.size w w' := by
  obtain ⟨L, P, R, h⟩ := h
  refine (dClone_any h.k hO hT).mono ?_
  rintro q w' ⟨gc, Lc, Pc, e, k, hb, hl, hp⟩
  have hs := hb.size
  have hnew : ∀ b, w.heap.size ≤ b → L b = 0 := fun b hn => by
    by_cases h0 : L b = 0
    · exact h0
    · have := h.k.lt b h0
      omega
  refine ⟨gc, e, ⟨L, P, R, Lc, Pc, ⟨h.k.keep hb, h.r.keep hb, fun b hb => ⟨Nat.lt_of_lt_of_le (h.rl b hb).1 hs, (h.rl b hb).2⟩, h.lb, fun b he => ⟨Nat.lt_of_lt_of_le (h.e b he).1 hs, (h.e b he).2⟩, h.b.trans (hb.mono h.s), Nat.le_trans h.s hs⟩, k, fun b hb => ?_, fun b hb => ?_⟩, hb⟩
  · have h1 := hl b hb
    exact ⟨Nat.le_trans h.s h1, hnew b h1, fun hr => absurd (h.rl b hr).1 (Nat.not_lt.2 h1), fun he => absurd (h.e b he).1 (Nat.not_lt.2 h1)⟩
  · rcases hp b hb with h1 | h1
    · obtain ⟨x0, x1, x2, k0⟩ := h.k
      exact ⟨(k0.lab.p b h1).2, fun he => (h.e b he).2.2.2 h1⟩
    · exact ⟨hnew b h1, fun he => absurd (h.e b he).1 (Nat.not_lt.2 h1)⟩
theorem t_append {gc : Nat} {Dc : DkV} {a : Option Addr} {n c : Nat} {bs : List Int} (file : Int) (h : Three E B w0 w g gc cs D Dc D') (hO : D.Ok T) (hT : T < 4398046511104) (hI : Ints .u8 w a n c bs) :
    Calls Try.prog 15 #[.pointer (some ⟨g, 0, none⟩), .int .i64 file, .slice a n c] w fun q w' => q = .returned (.int .i64 (apD D file bs).2) ∧ Three E B w0 w' g gc cs (apD D file bs).1 Dc D' ∧ Same E w w' := by
  obtain ⟨L, P, R, Lc, Pc, h, k, hl, hp⟩ := h
  exact (dAppend_any h.k hO hT hI).mono fun q w' ⟨e, kk⟩ => ⟨e, Three.prog h k hl hp kk⟩
theorem t_sync {gc : Nat} {Dc : DkV} (file : Int) (h : Three E B w0 w g gc cs D Dc D') (hO : D.Ok T) (hT : T < 4398046511104) :
    Calls Try.prog 16 #[.pointer (some ⟨g, 0, none⟩), .int .i64 file] w fun q w' => q = .returned (.int .i64 (syD D file).2) ∧ Three E B w0 w' g gc cs (syD D file).1 Dc D' ∧ Same E w w' := by
  obtain ⟨L, P, R, Lc, Pc, h, k, hl, hp⟩ := h
  exact (dSync_any h.k hO (by omega)).mono fun q w' ⟨e, kk⟩ => ⟨e, Three.prog h k hl hp kk⟩
end
end Go.Proofs.Ytmnfagpbcllbgaa

/-
  The law DiskDoes: what its step leaves of both disks. New memory is written, and the landed disk's own. Conditions: the disks have fewer than 2^41 steps; at most 2^47 bytes are handed in.
-/
namespace Go.Proofs.Ytmnfagpbcllbgaa
open Go.RowKit

theorem Two.same {E : Nat → Prop} {B : Nat} {w0 w w' : World} {g : Nat} {cs : List Value} {D D' : DkV} (h : Two E B w0 w g cs D D') (hb : Below w.heap.size w w') : Same E w w' := by
  obtain ⟨_, _, _, h⟩ := h
  exact fun b he => hb.block b (h.e b he).1
theorem Two.elt {E : Nat → Prop} {B : Nat} {w0 w : World} {g : Nat} {cs : List Value} {D D' : DkV} (h : Two E B w0 w g cs D D') : ∀ b, E b → b < w.heap.size := by
  obtain ⟨_, _, _, h⟩ := h
  exact fun b he => (h.e b he).1
theorem Same.trans {E E' : Nat → Prop} {w w1 w2 : World} (h1 : Same E w w1) (h2 : Same E' w1 w2) (hE : ∀ b, E b → E' b) : Same E w w2 := fun b hb => (h2 b (hE b hb)).trans (h1 b hb)
theorem Same.grown {E : Nat → Prop} {w w1 w2 : World} {G : Nat} (h1 : Same E w w1) (hg : w1.grownBy w2 (some G)) (hE : ∀ b, E b → b < w1.heap.size ∧ b ≠ G) : Same E w w2 := fun b hb => (hg.block b (hE b hb).1 (fun e => by injection e with e; exact (hE b hb).2 e)).trans (h1 b hb)
theorem ints_below {k : IntKind} {B : Nat} {w0 w w' : World} {a : Option Addr} {n c : Nat} {xs : List Int} (h : Below B w0 w) (h' : Below B w0 w') (hI : Ints k w a n c xs) (hu : ∀ x, a = some x → 0 < n → x.block < B) : Ints k w' a n c xs :=
  ints_inR (R := fun b => b < B) hI hu (fun b hb _ => (h'.block b hb).trans (h.block b hb).symm)
def And3 (E : Nat → Prop) (a b : Nat) : Nat → Prop := fun x => E x ∨ (a ≤ x ∧ x < b)

set_option maxRecDepth 100000 in
set_option maxHeartbeats 4000000 in
theorem step18_any {E : Nat → Prop} {B : Nat} {w0 w : World} {g : Nat} {cs : List Value} {D : DkV} {T : Nat} {o : OpD} (h : Two E B w0 w g cs D D) (hO : D.Ok T) (hT : T < 2199023255552) (hk : o.Ok w) (hu : ∀ x, o.ua = some x → 0 < o.un → x.block < B) (hbn : o.bn ≤ 140737488355328) :
    Calls Try.prog 8 #[.pointer (some ⟨g, 0, none⟩), .agg cs.toArray, .agg o.cells.toArray] w fun q w' => ∃ g' cs' D2, q = .returned (.tuple #[.pointer (some ⟨g', 0, none⟩), .agg cs'.toArray, .bool true]) ∧ D2.Ok (T + 1) ∧ Two E B w0 w' g' cs' D2 D2 ∧ Same E w w' := by
  have hl := h.ddc.l
  have ho1 := h.ddc.o
  have hBs := h.s
  have hEl := h.elt
  have hrow : IsRow Try.prog 37 cs.length := by rw [hl]; exact rowDd
  obtain ⟨zs, hzs⟩ : ∃ zs, ddZ = zs := ⟨_, rfl⟩
  have hz := zeroDd
  have hzl := ddZ_len
  rw [hzs] at hz hzl
  obtain ⟨k, hk0⟩ : ∃ k, o.k = k := ⟨_, rfl⟩
  obtain ⟨f, hf0⟩ : ∃ f, o.f = f := ⟨_, rfl⟩
  obtain ⟨N, hN0⟩ : ∃ N, o.n = N := ⟨_, rfl⟩
  have hol : o.cells.length = 5 := rfl
  have z0 : o.cells[0]? = some (.int .i64 k) := by rw [← hk0]; rfl
  have z1 : o.cells[1]? = some (.int .i64 f) := by rw [← hf0]; rfl
  have z2 : o.cells[2]? = some (.int .i64 N) := by rw [← hN0]; rfl
  have z3 : o.cells[3]? = some (.slice o.ba o.bn o.bc) := rfl
  have z4 : o.cells[4]? = some (.slice o.ua o.un o.uc) := rfl
  have hNr := hk.n
  rw [hN0] at hNr
  obtain ⟨C, hC⟩ : ∃ C, o.cells = C := ⟨_, rfl⟩
  rw [hC] at hol z0 z1 z2 z3 z4 ⊢
  have b4 := Blk.new w 37 cs
  have s1 := size1 w (.cells cs.toArray 37)
  have q1 := below1 w (.cells cs.toArray 37)
  obtain ⟨W1, hW1⟩ : ∃ W, w.alloc (.cells cs.toArray 37) = W := ⟨_, rfl⟩
  rw [hW1] at b4 s1 q1
  have b5 := Blk.new W1 40 C
  have b4 := b4.alloc (.cells C.toArray 40)
  have s2 := size1 W1 (.cells C.toArray 40)
  have q2 := q1.trans ((below1 W1 (.cells C.toArray 40)).mono (by omega))
  obtain ⟨W2, hW2⟩ : ∃ W, W1.alloc (.cells C.toArray 40) = W := ⟨_, rfl⟩
  rw [hW2] at b4 b5 s2 q2
  have b7 := Blk.new W2 37 zs
  have b4 := b4.alloc (.cells zs.toArray 37)
  have b5 := b5.alloc (.cells zs.toArray 37)
  have s3 := size1 W2 (.cells zs.toArray 37)
  have q3 := q2.trans ((below1 W2 (.cells zs.toArray 37)).mono (by omega))
  obtain ⟨W3, hW3⟩ : ∃ W, W2.alloc (.cells zs.toArray 37) = W := ⟨_, rfl⟩
  rw [hW3] at b4 b5 b7 s3 q3
  rw [s2, s1] at b7
  have b7 : Blk W3 (w.heap.size + 2) 37 zs := b7
  rw [s1] at b5
  have h3 : Two (And3 E w.heap.size (w.heap.size + 3)) B w0 W3 g cs D D := h.keepE q3 (fun b hb => hb.imp id (fun hb => by omega))
  have hk3 := hk.keep q3
  have hs1 := Lib.hid s1
  have hs2 := Lib.hid s2
  have hs3 := Lib.hid s3
  have e1H := Lib.hid hW1
  have e2H := Lib.hid hW2
  have e3H := Lib.hid hW3
  have qH := Lib.hid q3
  have sameE := Lib.hid (fun (w' : World) (q : Below w.heap.size w w') => h.same q)
  obtain ⟨G, hG⟩ : ∃ G, w.heap.size = G := ⟨_, rfl⟩
  rw [hG] at b4 b5 b7 h3 hBs hEl
  have hGH := Lib.hid hG
  have c0 := (b5.cell 0).trans z0
  have c1 := (b5.cell 1).trans z1
  have c2 := (b5.cell 2).trans z2
  have c3 := (b5.cell 3).trans z3
  have c4 := (b5.cell 4).trans z4
  have okH := Lib.hid hO
  have hkb := Lib.hid (fun (w' : World) (q : Below w.heap.size w w') => (hk.keep q).b)
  have hku := Lib.hid (fun (w' : World) (q : Below w.heap.size w w') => (hk.keep q).u)
  have z1H := Lib.hid z1
  have z2H := Lib.hid z2
  have z3H := Lib.hid z3
  have z4H := Lib.hid z4
  have lt4 := Lib.hid b4.lt
  have lt7 := Lib.hid b7.lt
  have bnH := Lib.hid hbn
  have uH := Lib.hid hu
  have nrH := Lib.hid hNr
  clear hzs hk0 hf0 hN0 hC hW1 hW2 hW3 s1 s2 s3 q1 q2 q3 h hk z0 z1 z2 z3 z4 hG hbn hu hNr
  go_enter Try.func8, Try.ntmps8
  go_wp2_with (first
    | ((with_reducible refine box_row rfl 37 (.tmp 1) rfl cs rfl ?_))
    | ((with_reducible refine box_row rfl 40 (.tmp 2) rfl C rfl ?_))
    | (with_reducible refine wpList_alloc_blk rfl 37 rfl hz ?_; refine RowKit.Hid.out ?_))
  refine Lib.hid ?_
  rw [e1H.out, e2H.out, e3H.out, hGH.out, show G + 1 + 1 = G + 2 from rfl]
  by_cases hkk : k = 0
  · subst hkk
    have r1 := r_append (bs := o.bs) f h3 hO (by omega) hk3.b bnH.out
    obtain ⟨D2, e, he⟩ : ∃ D2 e, apD D f o.bs = (D2, e) := ⟨_, _, rfl⟩
    rw [he] at r1
    have ok2 := apD_ok hO f o.bs
    rw [he] at ok2
    have ok2H := Lib.hid ok2
    have heH := Lib.hid he
    clear h3 ok2 he
    go_wp2_with ((with_reducible refine wpList_load_blk rfl 37 (.tmp 4) rfl ?_ b4 rowDd hl ?_); rfl)
    refine r1.mono ?_
    rintro q w4 ⟨cs4, rfl, h4, q4⟩
    have l4 := h4.ddc.l
    have o4 := h4.ddc.o
    have row4 : IsRow Try.prog 37 cs4.length := by rw [l4]; exact rowDd
    have b5 := b5.keep q4 b5.lt
    have b7 := b7.keep q4 b7.lt
    have Q4 := qH.out.trans (q4.mono qH.out.size)
    have l34 := q4.size
    have n9 := Blk.new w4 37 zs
    have q5 := below1 w4 (.cells zs.toArray 37)
    have b5 := b5.keep q5 b5.lt
    have b7 := b7.keep q5 b7.lt
    have s5H := Lib.hid (size1 w4 (.cells zs.toArray 37))
    have l4H := Lib.hid l34
    clear r1 q4 c0 c1 c2 c3 c4 b4 l34 hk3
    go_wp2_with (first
      | (with_reducible refine wpList_alloc_blk rfl 37 rfl hz ?_)
      | (refine store_row rfl 37 (.tmp 9) _ rfl rfl rfl n9 rowDd l4 hzl o4 ?_
         intro w6 b9 g9
         refine RowKit.Hid.out ?_))
    refine Lib.hid ?_
    have q6 : Below w4.heap.size w4 w6 := q5.trans (below_of_grown g9 (Nat.le_refl _) (by rw [s5H.out]; omega))
    have lt7o := lt7.out
    have lt34 := l4H.out
    have b5 := b5.grown g9 (fun e => by injection e; omega)
    have b7 := b7.grown g9 (fun e => by injection e; omega)
    have l9 : w4.heap.size < w6.heap.size := b9.lt
    have h6 : Two (And3 (And3 E G (G + 3)) w4.heap.size w6.heap.size) B w0 w6 g cs4 D D2 := h4.keepE q6 (fun b hb => hb)
    have Q6 := Q4.trans (q6.mono Q4.size)
    obtain ⟨M, hM⟩ : ∃ M, w4.heap.size = M := ⟨_, rfl⟩
    rw [hM] at b9 l9 h6 lt34
    have hMH := Lib.hid hM
    rw [hM]
    have gm3 : G + 2 < M := Nat.lt_of_lt_of_le lt7o lt34
    have GMH := Lib.hid gm3
    clear h4 q5 q6 Q4 n9 g9 hM lt7o lt34 gm3
    go_wp2_with fail
    obtain ⟨V, hV⟩ : ∃ V, w6.drew = V := ⟨_, rfl⟩
    have b5 : Blk V (G + 1) 40 C := by rw [← hV]; exact b5
    have b7 : Blk V (G + 2) 37 zs := by rw [← hV]; exact b7
    have b9 : Blk V M 37 cs4 := by rw [← hV]; exact b9
    have QV : Below w.heap.size w V := by rw [← hV]; exact Q6.drew
    obtain ⟨F, hF⟩ : ∃ F, And3 (And3 E G (G + 3)) M w6.heap.size = F := ⟨_, rfl⟩
    have inM : F M := by rw [← hF]; exact .inr ⟨Nat.le_refl _, l9⟩
    have in1 : F (G + 1) := by rw [← hF]; exact .inl (.inr ⟨by omega, by omega⟩)
    have in2 : F (G + 2) := by rw [← hF]; exact .inl (.inr ⟨by omega, by omega⟩)
    have inE : ∀ b, E b → F b := by rw [← hF]; exact fun b hb => .inl (.inl hb)
    rw [hF] at h6
    have hVt : Two F B w0 V g cs4 D D2 := by rw [← hV]; exact h6.keep (Below.refl _ _).drew
    have hkV := (sameE.out V QV)
    have c2 := c_append (bs := o.bs) f hVt okH.out (by omega) (hkb.out V QV)
    rw [heH.out] at c2
    have dd := Lib.hid (fun (w' : World) (hb' : Blk w' M 37 cs4 ∧ Blk w' (G + 1) 40 C) => And.intro ((hb'.2.cell 1).trans z1H.out) ((hb'.2.cell 3).trans z3H.out))
    have inH := Lib.hid (And.intro inM (And.intro in1 (And.intro in2 inE)))
    have tbH := Lib.hid (And.intro b5 (And.intro b7 b9))
    have kVH := Lib.hid hkV
    have sv : Blk V M 37 cs4 ∧ Blk V (G + 1) 40 C := ⟨b9, b5⟩
    refine region_seqS (fun w' => Blk w' M 37 cs4 ∧ Blk w' (G + 1) 40 C) (by kernel_rfl) (by rw [hV]; exact sv) ?_
    simp only [pairs, Nat.reduceAdd]
    rw [hV]
    clear hV h6 hVt inM in1 in2 inE hF b5 b9 hkV Q6 QV l9 b7
    repeat (first
      | (refine SeqS.take (v := .agg (cs4).toArray) (by first | assumption | trivial) (by kernel_rfl) (by decide +kernel) (by decide +kernel) (yields_blk (by rfl) 37 (.tmp 9) rfl rfl (fun w' h => h.1) (row4)) ?_
         simp only [Act.put, List.setIfInBounds_toArray, List.set_cons_zero, List.set_cons_succ])
      | (refine SeqS.take (v := ?_) (by first | assumption | trivial) (by kernel_rfl) (by decide +kernel) (by decide +kernel) (Or.inl ⟨by rfl, ?_⟩) ?_
         rotate_left
         focus
           intro w' hb'
           go_simp
           with_reducible rfl
         simp only [Act.put, List.setIfInBounds_toArray, List.set_cons_zero, List.set_cons_succ])
      | (refine SeqS.take (v := ?_) (by first | assumption | trivial) (by kernel_rfl) (by decide +kernel) (by decide +kernel) (Or.inl ⟨by rfl, ?_⟩) ?_
         rotate_left
         focus
           intro w' hb'
           have d1 := (dd.out w' hb').1
           go_simp
           with_reducible rfl
         simp only [Act.put, List.setIfInBounds_toArray, List.set_cons_zero, List.set_cons_succ])
      | (refine SeqS.take (v := ?_) (by first | assumption | trivial) (by kernel_rfl) (by decide +kernel) (by decide +kernel) (Or.inl ⟨by rfl, ?_⟩) ?_
         rotate_left
         focus
           intro w' hb'
           have d3 := (dd.out w' hb').2
           go_simp
           with_reducible rfl
         simp only [Act.put, List.setIfInBounds_toArray, List.set_cons_zero, List.set_cons_succ])
      | (refine SeqS.take (v := undef) (by first | assumption | trivial) (by kernel_rfl) (by decide +kernel) (by decide +kernel) (Or.inr ⟨by rfl, rfl⟩) ?_
         simp only [Act.put, List.setIfInBounds_toArray, List.set_cons_zero, List.set_cons_succ])
      | (refine SeqS.take1 (v := .agg (cs4).toArray) (by first | assumption | trivial) (by kernel_rfl) (by decide +kernel) (by decide +kernel) (yields_blk (by rfl) 37 (.tmp 9) rfl rfl (fun w' h => h.1) (row4)) ?_
         simp only [Act.put, List.setIfInBounds_toArray, List.set_cons_zero, List.set_cons_succ])
      | (refine SeqS.take1 (v := ?_) (by first | assumption | trivial) (by kernel_rfl) (by decide +kernel) (by decide +kernel) (Or.inl ⟨by rfl, ?_⟩) ?_
         rotate_left
         focus
           intro w' hb'
           go_simp
           with_reducible rfl
         simp only [Act.put, List.setIfInBounds_toArray, List.set_cons_zero, List.set_cons_succ])
      | (refine SeqS.take1 (v := ?_) (by first | assumption | trivial) (by kernel_rfl) (by decide +kernel) (by decide +kernel) (Or.inl ⟨by rfl, ?_⟩) ?_
         rotate_left
         focus
           intro w' hb'
           have d1 := (dd.out w' hb').1
           go_simp
           with_reducible rfl
         simp only [Act.put, List.setIfInBounds_toArray, List.set_cons_zero, List.set_cons_succ])
      | (refine SeqS.take1 (v := ?_) (by first | assumption | trivial) (by kernel_rfl) (by decide +kernel) (by decide +kernel) (Or.inl ⟨by rfl, ?_⟩) ?_
         rotate_left
         focus
           intro w' hb'
           have d3 := (dd.out w' hb').2
           go_simp
           with_reducible rfl
         simp only [Act.put, List.setIfInBounds_toArray, List.set_cons_zero, List.set_cons_succ])
      | (refine SeqS.take1 (v := undef) (by first | assumption | trivial) (by kernel_rfl) (by decide +kernel) (by decide +kernel) (Or.inr ⟨by rfl, rfl⟩) ?_
         simp only [Act.put, List.setIfInBounds_toArray, List.set_cons_zero, List.set_cons_succ])
      | (refine SeqS.take2 (v := .agg (cs4).toArray) (by first | assumption | trivial) (by kernel_rfl) (by decide +kernel) (by decide +kernel) (yields_blk (by rfl) 37 (.tmp 9) rfl rfl (fun w' h => h.1) (row4)) ?_
         simp only [Act.put, List.setIfInBounds_toArray, List.set_cons_zero, List.set_cons_succ])
      | (refine SeqS.take2 (v := ?_) (by first | assumption | trivial) (by kernel_rfl) (by decide +kernel) (by decide +kernel) (Or.inl ⟨by rfl, ?_⟩) ?_
         rotate_left
         focus
           intro w' hb'
           go_simp
           with_reducible rfl
         simp only [Act.put, List.setIfInBounds_toArray, List.set_cons_zero, List.set_cons_succ])
      | (refine SeqS.take2 (v := ?_) (by first | assumption | trivial) (by kernel_rfl) (by decide +kernel) (by decide +kernel) (Or.inl ⟨by rfl, ?_⟩) ?_
         rotate_left
         focus
           intro w' hb'
           have d1 := (dd.out w' hb').1
           go_simp
           with_reducible rfl
         simp only [Act.put, List.setIfInBounds_toArray, List.set_cons_zero, List.set_cons_succ])
      | (refine SeqS.take2 (v := ?_) (by first | assumption | trivial) (by kernel_rfl) (by decide +kernel) (by decide +kernel) (Or.inl ⟨by rfl, ?_⟩) ?_
         rotate_left
         focus
           intro w' hb'
           have d3 := (dd.out w' hb').2
           go_simp
           with_reducible rfl
         simp only [Act.put, List.setIfInBounds_toArray, List.set_cons_zero, List.set_cons_succ])
      | (refine SeqS.take2 (v := undef) (by first | assumption | trivial) (by kernel_rfl) (by decide +kernel) (by decide +kernel) (Or.inr ⟨by rfl, rfl⟩) ?_
         simp only [Act.put, List.setIfInBounds_toArray, List.set_cons_zero, List.set_cons_succ])
      | (refine SeqS.take3 (v := .agg (cs4).toArray) (by first | assumption | trivial) (by kernel_rfl) (by decide +kernel) (by decide +kernel) (yields_blk (by rfl) 37 (.tmp 9) rfl rfl (fun w' h => h.1) (row4)) ?_
         simp only [Act.put, List.setIfInBounds_toArray, List.set_cons_zero, List.set_cons_succ])
      | (refine SeqS.take3 (v := ?_) (by first | assumption | trivial) (by kernel_rfl) (by decide +kernel) (by decide +kernel) (Or.inl ⟨by rfl, ?_⟩) ?_
         rotate_left
         focus
           intro w' hb'
           go_simp
           with_reducible rfl
         simp only [Act.put, List.setIfInBounds_toArray, List.set_cons_zero, List.set_cons_succ])
      | (refine SeqS.take3 (v := ?_) (by first | assumption | trivial) (by kernel_rfl) (by decide +kernel) (by decide +kernel) (Or.inl ⟨by rfl, ?_⟩) ?_
         rotate_left
         focus
           intro w' hb'
           have d1 := (dd.out w' hb').1
           go_simp
           with_reducible rfl
         simp only [Act.put, List.setIfInBounds_toArray, List.set_cons_zero, List.set_cons_succ])
      | (refine SeqS.take3 (v := ?_) (by first | assumption | trivial) (by kernel_rfl) (by decide +kernel) (by decide +kernel) (Or.inl ⟨by rfl, ?_⟩) ?_
         rotate_left
         focus
           intro w' hb'
           have d3 := (dd.out w' hb').2
           go_simp
           with_reducible rfl
         simp only [Act.put, List.setIfInBounds_toArray, List.set_cons_zero, List.set_cons_succ])
      | (refine SeqS.take3 (v := undef) (by first | assumption | trivial) (by kernel_rfl) (by decide +kernel) (by decide +kernel) (Or.inr ⟨by rfl, rfl⟩) ?_
         simp only [Act.put, List.setIfInBounds_toArray, List.set_cons_zero, List.set_cons_succ]))
    refine SeqS.alone (by decide +kernel) (by rfl) (fun K1 hK => ?_)
    go_simp
    go_at_call 15
    refine c2.mono ?_
    rintro q w7 ⟨rfl, h7, s7⟩
    go_simp
    have b9 := s7.blk tbH.out.2.2 inH.out.1
    have b5 := s7.blk tbH.out.1 inH.out.2.1
    have b7 := s7.blk tbH.out.2.1 inH.out.2.2.1
    have sE := kVH.out.trans s7 inH.out.2.2.2
    have sv7 : Blk w7 M 37 cs4 ∧ Blk w7 (G + 1) 40 C := ⟨b9, b5⟩
    refine hK _ _ sv7 ?_
    clear hK K1 c2 s7 sv
    (try simp only [Act.put, List.setIfInBounds_toArray, List.set_cons_zero, List.set_cons_succ])
    repeat (first
      | (refine SeqS.take (v := ?_) (by first | assumption | trivial) (by kernel_rfl) (by decide +kernel) (by decide +kernel) (Or.inl ⟨by rfl, ?_⟩) ?_
         rotate_left
         focus
           intro w' hb'
           go_simp
           with_reducible rfl
         simp only [Act.put, List.setIfInBounds_toArray, List.set_cons_zero, List.set_cons_succ])
      | (refine SeqS.take (v := undef) (by first | assumption | trivial) (by kernel_rfl) (by decide +kernel) (by decide +kernel) (Or.inr ⟨by rfl, rfl⟩) ?_
         simp only [Act.put, List.setIfInBounds_toArray, List.set_cons_zero, List.set_cons_succ])
      | (refine SeqS.take1 (v := ?_) (by first | assumption | trivial) (by kernel_rfl) (by decide +kernel) (by decide +kernel) (Or.inl ⟨by rfl, ?_⟩) ?_
         rotate_left
         focus
           intro w' hb'
           go_simp
           with_reducible rfl
         simp only [Act.put, List.setIfInBounds_toArray, List.set_cons_zero, List.set_cons_succ])
      | (refine SeqS.take1 (v := undef) (by first | assumption | trivial) (by kernel_rfl) (by decide +kernel) (by decide +kernel) (Or.inr ⟨by rfl, rfl⟩) ?_
         simp only [Act.put, List.setIfInBounds_toArray, List.set_cons_zero, List.set_cons_succ])
      | (refine SeqS.take2 (v := ?_) (by first | assumption | trivial) (by kernel_rfl) (by decide +kernel) (by decide +kernel) (Or.inl ⟨by rfl, ?_⟩) ?_
         rotate_left
         focus
           intro w' hb'
           go_simp
           with_reducible rfl
         simp only [Act.put, List.setIfInBounds_toArray, List.set_cons_zero, List.set_cons_succ])
      | (refine SeqS.take2 (v := undef) (by first | assumption | trivial) (by kernel_rfl) (by decide +kernel) (by decide +kernel) (Or.inr ⟨by rfl, rfl⟩) ?_
         simp only [Act.put, List.setIfInBounds_toArray, List.set_cons_zero, List.set_cons_succ]))
    refine SeqS.alone (by decide +kernel) (by rfl) (fun K1 hK => ?_)
    refine wp_store_part 37 (.tmp 7) (.tmp 30) rfl rfl rfl b7 row4 (by rw [l4, hzl]; decide) o4 (fun w8 hb8 hg8 => ?_)
    rw [overV_all _ _ (by rw [l4, hzl])] at hb8
    have gm := GMH.out
    have b9 := b9.grown hg8 (fun e => by injection e; omega)
    have b5 := b5.grown hg8 (fun e => by injection e; omega)
    have h8 := h7.grown hg8 inH.out.2.2.1 (by omega)
    have sE := sE.grown hg8 (fun b hb => ⟨h7.elt b (inH.out.2.2.2 b hb), by have := hEl b hb; omega⟩)
    have sv8 : Blk w8 M 37 cs4 ∧ Blk w8 (G + 1) 40 C := ⟨b9, b5⟩
    refine hK _ _ sv8 ?_
    clear hK K1 hg8 b7 h7 b9 b5 sv7
    repeat (first
      | (refine SeqS.take (v := ?_) (by first | assumption | trivial) (by kernel_rfl) (by decide +kernel) (by decide +kernel) (Or.inl ⟨by rfl, ?_⟩) ?_
         rotate_left
         focus
           intro w' hb'
           go_simp
           with_reducible rfl
         simp only [Act.put, List.setIfInBounds_toArray, List.set_cons_zero, List.set_cons_succ])
      | (refine SeqS.take (v := undef) (by first | assumption | trivial) (by kernel_rfl) (by decide +kernel) (by decide +kernel) (Or.inr ⟨by rfl, rfl⟩) ?_
         simp only [Act.put, List.setIfInBounds_toArray, List.set_cons_zero, List.set_cons_succ])
      | (refine SeqS.take1 (v := ?_) (by first | assumption | trivial) (by kernel_rfl) (by decide +kernel) (by decide +kernel) (Or.inl ⟨by rfl, ?_⟩) ?_
         rotate_left
         focus
           intro w' hb'
           go_simp
           with_reducible rfl
         simp only [Act.put, List.setIfInBounds_toArray, List.set_cons_zero, List.set_cons_succ])
      | (refine SeqS.take1 (v := undef) (by first | assumption | trivial) (by kernel_rfl) (by decide +kernel) (by decide +kernel) (Or.inr ⟨by rfl, rfl⟩) ?_
         simp only [Act.put, List.setIfInBounds_toArray, List.set_cons_zero, List.set_cons_succ])
      | (refine SeqS.take2 (v := ?_) (by first | assumption | trivial) (by kernel_rfl) (by decide +kernel) (by decide +kernel) (Or.inl ⟨by rfl, ?_⟩) ?_
         rotate_left
         focus
           intro w' hb'
           go_simp
           with_reducible rfl
         simp only [Act.put, List.setIfInBounds_toArray, List.set_cons_zero, List.set_cons_succ])
      | (refine SeqS.take2 (v := undef) (by first | assumption | trivial) (by kernel_rfl) (by decide +kernel) (by decide +kernel) (Or.inr ⟨by rfl, rfl⟩) ?_
         simp only [Act.put, List.setIfInBounds_toArray, List.set_cons_zero, List.set_cons_succ]))
    refine SeqS.done (by decide +kernel) ?_
    go_wp2
    refine bodyPost_ret (results_tbt18 rfl rfl hb8 row4) rfl ?_
    exact ⟨g, cs4, rfl, D2, ok2H.out, h8.less inH.out.2.2.2, sE⟩
  · skip
    by_cases hkk : k = 1
    · subst hkk
      have r1 := r_cut f N h3 hO (by omega)
      obtain ⟨D2, e, he⟩ : ∃ D2 e, ctD D f N = (D2, e) := ⟨_, _, rfl⟩
      rw [he] at r1
      have ok2 := ctD_ok hO f N
      rw [he] at ok2
      have ok2H := Lib.hid ok2
      have heH := Lib.hid he
      clear h3 ok2 he
      go_wp2_with ((with_reducible refine wpList_load_blk rfl 37 (.tmp 4) rfl ?_ b4 rowDd hl ?_); rfl)
      refine r1.mono ?_
      rintro q w4 ⟨cs4, rfl, h4, q4⟩
      have l4 := h4.ddc.l
      have o4 := h4.ddc.o
      have row4 : IsRow Try.prog 37 cs4.length := by rw [l4]; exact rowDd
      have b5 := b5.keep q4 b5.lt
      have b7 := b7.keep q4 b7.lt
      have Q4 := qH.out.trans (q4.mono qH.out.size)
      have l34 := q4.size
      have n9 := Blk.new w4 37 zs
      have q5 := below1 w4 (.cells zs.toArray 37)
      have b5 := b5.keep q5 b5.lt
      have b7 := b7.keep q5 b7.lt
      have s5H := Lib.hid (size1 w4 (.cells zs.toArray 37))
      have l4H := Lib.hid l34
      clear r1 q4 c0 c1 c2 c3 c4 b4 l34 hk3
      go_wp2_with (first
        | (with_reducible refine wpList_alloc_blk rfl 37 rfl hz ?_)
        | (refine store_row rfl 37 (.tmp 11) _ rfl rfl rfl n9 rowDd l4 hzl o4 ?_
           intro w6 b9 g9
           refine RowKit.Hid.out ?_))
      refine Lib.hid ?_
      have q6 : Below w4.heap.size w4 w6 := q5.trans (below_of_grown g9 (Nat.le_refl _) (by rw [s5H.out]; omega))
      have lt7o := lt7.out
      have lt34 := l4H.out
      have b5 := b5.grown g9 (fun e => by injection e; omega)
      have b7 := b7.grown g9 (fun e => by injection e; omega)
      have l9 : w4.heap.size < w6.heap.size := b9.lt
      have h6 : Two (And3 (And3 E G (G + 3)) w4.heap.size w6.heap.size) B w0 w6 g cs4 D D2 := h4.keepE q6 (fun b hb => hb)
      have Q6 := Q4.trans (q6.mono Q4.size)
      obtain ⟨M, hM⟩ : ∃ M, w4.heap.size = M := ⟨_, rfl⟩
      rw [hM] at b9 l9 h6 lt34
      have hMH := Lib.hid hM
      rw [hM]
      have gm3 : G + 2 < M := Nat.lt_of_lt_of_le lt7o lt34
      have GMH := Lib.hid gm3
      clear h4 q5 q6 Q4 n9 g9 hM lt7o lt34 gm3
      go_wp2_with fail
      obtain ⟨V, hV⟩ : ∃ V, w6.drew = V := ⟨_, rfl⟩
      have b5 : Blk V (G + 1) 40 C := by rw [← hV]; exact b5
      have b7 : Blk V (G + 2) 37 zs := by rw [← hV]; exact b7
      have b9 : Blk V M 37 cs4 := by rw [← hV]; exact b9
      have QV : Below w.heap.size w V := by rw [← hV]; exact Q6.drew
      obtain ⟨F, hF⟩ : ∃ F, And3 (And3 E G (G + 3)) M w6.heap.size = F := ⟨_, rfl⟩
      have inM : F M := by rw [← hF]; exact .inr ⟨Nat.le_refl _, l9⟩
      have in1 : F (G + 1) := by rw [← hF]; exact .inl (.inr ⟨by omega, by omega⟩)
      have in2 : F (G + 2) := by rw [← hF]; exact .inl (.inr ⟨by omega, by omega⟩)
      have inE : ∀ b, E b → F b := by rw [← hF]; exact fun b hb => .inl (.inl hb)
      rw [hF] at h6
      have hVt : Two F B w0 V g cs4 D D2 := by rw [← hV]; exact h6.keep (Below.refl _ _).drew
      have hkV := (sameE.out V QV)
      have c2 := c_cut f N hVt okH.out (by omega)
      rw [heH.out] at c2
      have dd := Lib.hid (fun (w' : World) (hb' : Blk w' M 37 cs4 ∧ Blk w' (G + 1) 40 C) => And.intro ((hb'.2.cell 1).trans z1H.out) ((hb'.2.cell 2).trans z2H.out))
      have inH := Lib.hid (And.intro inM (And.intro in1 (And.intro in2 inE)))
      have tbH := Lib.hid (And.intro b5 (And.intro b7 b9))
      have kVH := Lib.hid hkV
      have sv : Blk V M 37 cs4 ∧ Blk V (G + 1) 40 C := ⟨b9, b5⟩
      refine region_seqS (fun w' => Blk w' M 37 cs4 ∧ Blk w' (G + 1) 40 C) (by kernel_rfl) (by rw [hV]; exact sv) ?_
      simp only [pairs, Nat.reduceAdd]
      rw [hV]
      clear hV h6 hVt inM in1 in2 inE hF b5 b9 hkV Q6 QV l9 b7
      repeat (first
        | (refine SeqS.take (v := .agg (cs4).toArray) (by first | assumption | trivial) (by kernel_rfl) (by decide +kernel) (by decide +kernel) (yields_blk (by rfl) 37 (.tmp 11) rfl rfl (fun w' h => h.1) (row4)) ?_
           simp only [Act.put, List.setIfInBounds_toArray, List.set_cons_zero, List.set_cons_succ])
        | (refine SeqS.take (v := ?_) (by first | assumption | trivial) (by kernel_rfl) (by decide +kernel) (by decide +kernel) (Or.inl ⟨by rfl, ?_⟩) ?_
           rotate_left
           focus
             intro w' hb'
             go_simp
             with_reducible rfl
           simp only [Act.put, List.setIfInBounds_toArray, List.set_cons_zero, List.set_cons_succ])
        | (refine SeqS.take (v := ?_) (by first | assumption | trivial) (by kernel_rfl) (by decide +kernel) (by decide +kernel) (Or.inl ⟨by rfl, ?_⟩) ?_
           rotate_left
           focus
             intro w' hb'
             have d1 := (dd.out w' hb').1
             go_simp
             with_reducible rfl
           simp only [Act.put, List.setIfInBounds_toArray, List.set_cons_zero, List.set_cons_succ])
        | (refine SeqS.take (v := ?_) (by first | assumption | trivial) (by kernel_rfl) (by decide +kernel) (by decide +kernel) (Or.inl ⟨by rfl, ?_⟩) ?_
           rotate_left
           focus
             intro w' hb'
             have d2 := (dd.out w' hb').2
             go_simp
             with_reducible rfl
           simp only [Act.put, List.setIfInBounds_toArray, List.set_cons_zero, List.set_cons_succ])
        | (refine SeqS.take (v := undef) (by first | assumption | trivial) (by kernel_rfl) (by decide +kernel) (by decide +kernel) (Or.inr ⟨by rfl, rfl⟩) ?_
           simp only [Act.put, List.setIfInBounds_toArray, List.set_cons_zero, List.set_cons_succ])
        | (refine SeqS.take1 (v := .agg (cs4).toArray) (by first | assumption | trivial) (by kernel_rfl) (by decide +kernel) (by decide +kernel) (yields_blk (by rfl) 37 (.tmp 11) rfl rfl (fun w' h => h.1) (row4)) ?_
           simp only [Act.put, List.setIfInBounds_toArray, List.set_cons_zero, List.set_cons_succ])
        | (refine SeqS.take1 (v := ?_) (by first | assumption | trivial) (by kernel_rfl) (by decide +kernel) (by decide +kernel) (Or.inl ⟨by rfl, ?_⟩) ?_
           rotate_left
           focus
             intro w' hb'
             go_simp
             with_reducible rfl
           simp only [Act.put, List.setIfInBounds_toArray, List.set_cons_zero, List.set_cons_succ])
        | (refine SeqS.take1 (v := ?_) (by first | assumption | trivial) (by kernel_rfl) (by decide +kernel) (by decide +kernel) (Or.inl ⟨by rfl, ?_⟩) ?_
           rotate_left
           focus
             intro w' hb'
             have d1 := (dd.out w' hb').1
             go_simp
             with_reducible rfl
           simp only [Act.put, List.setIfInBounds_toArray, List.set_cons_zero, List.set_cons_succ])
        | (refine SeqS.take1 (v := ?_) (by first | assumption | trivial) (by kernel_rfl) (by decide +kernel) (by decide +kernel) (Or.inl ⟨by rfl, ?_⟩) ?_
           rotate_left
           focus
             intro w' hb'
             have d2 := (dd.out w' hb').2
             go_simp
             with_reducible rfl
           simp only [Act.put, List.setIfInBounds_toArray, List.set_cons_zero, List.set_cons_succ])
        | (refine SeqS.take1 (v := undef) (by first | assumption | trivial) (by kernel_rfl) (by decide +kernel) (by decide +kernel) (Or.inr ⟨by rfl, rfl⟩) ?_
           simp only [Act.put, List.setIfInBounds_toArray, List.set_cons_zero, List.set_cons_succ])
        | (refine SeqS.take2 (v := .agg (cs4).toArray) (by first | assumption | trivial) (by kernel_rfl) (by decide +kernel) (by decide +kernel) (yields_blk (by rfl) 37 (.tmp 11) rfl rfl (fun w' h => h.1) (row4)) ?_
           simp only [Act.put, List.setIfInBounds_toArray, List.set_cons_zero, List.set_cons_succ])
        | (refine SeqS.take2 (v := ?_) (by first | assumption | trivial) (by kernel_rfl) (by decide +kernel) (by decide +kernel) (Or.inl ⟨by rfl, ?_⟩) ?_
           rotate_left
           focus
             intro w' hb'
             go_simp
             with_reducible rfl
           simp only [Act.put, List.setIfInBounds_toArray, List.set_cons_zero, List.set_cons_succ])
        | (refine SeqS.take2 (v := ?_) (by first | assumption | trivial) (by kernel_rfl) (by decide +kernel) (by decide +kernel) (Or.inl ⟨by rfl, ?_⟩) ?_
           rotate_left
           focus
             intro w' hb'
             have d1 := (dd.out w' hb').1
             go_simp
             with_reducible rfl
           simp only [Act.put, List.setIfInBounds_toArray, List.set_cons_zero, List.set_cons_succ])
        | (refine SeqS.take2 (v := ?_) (by first | assumption | trivial) (by kernel_rfl) (by decide +kernel) (by decide +kernel) (Or.inl ⟨by rfl, ?_⟩) ?_
           rotate_left
           focus
             intro w' hb'
             have d2 := (dd.out w' hb').2
             go_simp
             with_reducible rfl
           simp only [Act.put, List.setIfInBounds_toArray, List.set_cons_zero, List.set_cons_succ])
        | (refine SeqS.take2 (v := undef) (by first | assumption | trivial) (by kernel_rfl) (by decide +kernel) (by decide +kernel) (Or.inr ⟨by rfl, rfl⟩) ?_
           simp only [Act.put, List.setIfInBounds_toArray, List.set_cons_zero, List.set_cons_succ])
        | (refine SeqS.take3 (v := .agg (cs4).toArray) (by first | assumption | trivial) (by kernel_rfl) (by decide +kernel) (by decide +kernel) (yields_blk (by rfl) 37 (.tmp 11) rfl rfl (fun w' h => h.1) (row4)) ?_
           simp only [Act.put, List.setIfInBounds_toArray, List.set_cons_zero, List.set_cons_succ])
        | (refine SeqS.take3 (v := ?_) (by first | assumption | trivial) (by kernel_rfl) (by decide +kernel) (by decide +kernel) (Or.inl ⟨by rfl, ?_⟩) ?_
           rotate_left
           focus
             intro w' hb'
             go_simp
             with_reducible rfl
           simp only [Act.put, List.setIfInBounds_toArray, List.set_cons_zero, List.set_cons_succ])
        | (refine SeqS.take3 (v := ?_) (by first | assumption | trivial) (by kernel_rfl) (by decide +kernel) (by decide +kernel) (Or.inl ⟨by rfl, ?_⟩) ?_
           rotate_left
           focus
             intro w' hb'
             have d1 := (dd.out w' hb').1
             go_simp
             with_reducible rfl
           simp only [Act.put, List.setIfInBounds_toArray, List.set_cons_zero, List.set_cons_succ])
        | (refine SeqS.take3 (v := ?_) (by first | assumption | trivial) (by kernel_rfl) (by decide +kernel) (by decide +kernel) (Or.inl ⟨by rfl, ?_⟩) ?_
           rotate_left
           focus
             intro w' hb'
             have d2 := (dd.out w' hb').2
             go_simp
             with_reducible rfl
           simp only [Act.put, List.setIfInBounds_toArray, List.set_cons_zero, List.set_cons_succ])
        | (refine SeqS.take3 (v := undef) (by first | assumption | trivial) (by kernel_rfl) (by decide +kernel) (by decide +kernel) (Or.inr ⟨by rfl, rfl⟩) ?_
           simp only [Act.put, List.setIfInBounds_toArray, List.set_cons_zero, List.set_cons_succ]))
      refine SeqS.alone (by decide +kernel) (by rfl) (fun K1 hK => ?_)
      go_simp
      go_at_call 20
      refine c2.mono ?_
      rintro q w7 ⟨rfl, h7, s7⟩
      go_simp
      have b9 := s7.blk tbH.out.2.2 inH.out.1
      have b5 := s7.blk tbH.out.1 inH.out.2.1
      have b7 := s7.blk tbH.out.2.1 inH.out.2.2.1
      have sE := kVH.out.trans s7 inH.out.2.2.2
      have sv7 : Blk w7 M 37 cs4 ∧ Blk w7 (G + 1) 40 C := ⟨b9, b5⟩
      refine hK _ _ sv7 ?_
      clear hK K1 c2 s7 sv
      (try simp only [Act.put, List.setIfInBounds_toArray, List.set_cons_zero, List.set_cons_succ])
      repeat (first
        | (refine SeqS.take (v := ?_) (by first | assumption | trivial) (by kernel_rfl) (by decide +kernel) (by decide +kernel) (Or.inl ⟨by rfl, ?_⟩) ?_
           rotate_left
           focus
             intro w' hb'
             go_simp
             with_reducible rfl
           simp only [Act.put, List.setIfInBounds_toArray, List.set_cons_zero, List.set_cons_succ])
        | (refine SeqS.take (v := undef) (by first | assumption | trivial) (by kernel_rfl) (by decide +kernel) (by decide +kernel) (Or.inr ⟨by rfl, rfl⟩) ?_
           simp only [Act.put, List.setIfInBounds_toArray, List.set_cons_zero, List.set_cons_succ])
        | (refine SeqS.take1 (v := ?_) (by first | assumption | trivial) (by kernel_rfl) (by decide +kernel) (by decide +kernel) (Or.inl ⟨by rfl, ?_⟩) ?_
           rotate_left
           focus
             intro w' hb'
             go_simp
             with_reducible rfl
           simp only [Act.put, List.setIfInBounds_toArray, List.set_cons_zero, List.set_cons_succ])
        | (refine SeqS.take1 (v := undef) (by first | assumption | trivial) (by kernel_rfl) (by decide +kernel) (by decide +kernel) (Or.inr ⟨by rfl, rfl⟩) ?_
           simp only [Act.put, List.setIfInBounds_toArray, List.set_cons_zero, List.set_cons_succ])
        | (refine SeqS.take2 (v := ?_) (by first | assumption | trivial) (by kernel_rfl) (by decide +kernel) (by decide +kernel) (Or.inl ⟨by rfl, ?_⟩) ?_
           rotate_left
           focus
             intro w' hb'
             go_simp
             with_reducible rfl
           simp only [Act.put, List.setIfInBounds_toArray, List.set_cons_zero, List.set_cons_succ])
        | (refine SeqS.take2 (v := undef) (by first | assumption | trivial) (by kernel_rfl) (by decide +kernel) (by decide +kernel) (Or.inr ⟨by rfl, rfl⟩) ?_
           simp only [Act.put, List.setIfInBounds_toArray, List.set_cons_zero, List.set_cons_succ]))
      refine SeqS.alone (by decide +kernel) (by rfl) (fun K1 hK => ?_)
      refine wp_store_part 37 (.tmp 7) (.tmp 51) rfl rfl rfl b7 row4 (by rw [l4, hzl]; decide) o4 (fun w8 hb8 hg8 => ?_)
      rw [overV_all _ _ (by rw [l4, hzl])] at hb8
      have gm := GMH.out
      have b9 := b9.grown hg8 (fun e => by injection e; omega)
      have b5 := b5.grown hg8 (fun e => by injection e; omega)
      have h8 := h7.grown hg8 inH.out.2.2.1 (by omega)
      have sE := sE.grown hg8 (fun b hb => ⟨h7.elt b (inH.out.2.2.2 b hb), by have := hEl b hb; omega⟩)
      have sv8 : Blk w8 M 37 cs4 ∧ Blk w8 (G + 1) 40 C := ⟨b9, b5⟩
      refine hK _ _ sv8 ?_
      clear hK K1 hg8 b7 h7 b9 b5 sv7
      repeat (first
        | (refine SeqS.take (v := ?_) (by first | assumption | trivial) (by kernel_rfl) (by decide +kernel) (by decide +kernel) (Or.inl ⟨by rfl, ?_⟩) ?_
           rotate_left
           focus
             intro w' hb'
             go_simp
             with_reducible rfl
           simp only [Act.put, List.setIfInBounds_toArray, List.set_cons_zero, List.set_cons_succ])
        | (refine SeqS.take (v := undef) (by first | assumption | trivial) (by kernel_rfl) (by decide +kernel) (by decide +kernel) (Or.inr ⟨by rfl, rfl⟩) ?_
           simp only [Act.put, List.setIfInBounds_toArray, List.set_cons_zero, List.set_cons_succ])
        | (refine SeqS.take1 (v := ?_) (by first | assumption | trivial) (by kernel_rfl) (by decide +kernel) (by decide +kernel) (Or.inl ⟨by rfl, ?_⟩) ?_
           rotate_left
           focus
             intro w' hb'
             go_simp
             with_reducible rfl
           simp only [Act.put, List.setIfInBounds_toArray, List.set_cons_zero, List.set_cons_succ])
        | (refine SeqS.take1 (v := undef) (by first | assumption | trivial) (by kernel_rfl) (by decide +kernel) (by decide +kernel) (Or.inr ⟨by rfl, rfl⟩) ?_
           simp only [Act.put, List.setIfInBounds_toArray, List.set_cons_zero, List.set_cons_succ])
        | (refine SeqS.take2 (v := ?_) (by first | assumption | trivial) (by kernel_rfl) (by decide +kernel) (by decide +kernel) (Or.inl ⟨by rfl, ?_⟩) ?_
           rotate_left
           focus
             intro w' hb'
             go_simp
             with_reducible rfl
           simp only [Act.put, List.setIfInBounds_toArray, List.set_cons_zero, List.set_cons_succ])
        | (refine SeqS.take2 (v := undef) (by first | assumption | trivial) (by kernel_rfl) (by decide +kernel) (by decide +kernel) (Or.inr ⟨by rfl, rfl⟩) ?_
           simp only [Act.put, List.setIfInBounds_toArray, List.set_cons_zero, List.set_cons_succ]))
      refine SeqS.done (by decide +kernel) ?_
      go_wp2
      refine bodyPost_ret (results_tbt18 rfl rfl hb8 row4) rfl ?_
      exact ⟨g, cs4, rfl, D2, ok2H.out, h8.less inH.out.2.2.2, sE⟩
    · skip
      by_cases hkk : k = 2
      · subst hkk
        have r1 := r_sync f h3 hO (by omega)
        obtain ⟨D2, e, he⟩ : ∃ D2 e, syD D f = (D2, e) := ⟨_, _, rfl⟩
        rw [he] at r1
        have ok2 := (syD_ok hO f).more (Nat.le_succ _)
        rw [he] at ok2
        have ok2H := Lib.hid ok2
        have heH := Lib.hid he
        clear h3 ok2 he
        go_wp2_with ((with_reducible refine wpList_load_blk rfl 37 (.tmp 4) rfl ?_ b4 rowDd hl ?_); rfl)
        refine r1.mono ?_
        rintro q w4 ⟨cs4, rfl, h4, q4⟩
        have l4 := h4.ddc.l
        have o4 := h4.ddc.o
        have row4 : IsRow Try.prog 37 cs4.length := by rw [l4]; exact rowDd
        have b5 := b5.keep q4 b5.lt
        have b7 := b7.keep q4 b7.lt
        have Q4 := qH.out.trans (q4.mono qH.out.size)
        have l34 := q4.size
        have n9 := Blk.new w4 37 zs
        have q5 := below1 w4 (.cells zs.toArray 37)
        have b5 := b5.keep q5 b5.lt
        have b7 := b7.keep q5 b7.lt
        have s5H := Lib.hid (size1 w4 (.cells zs.toArray 37))
        have l4H := Lib.hid l34
        clear r1 q4 c0 c1 c2 c3 c4 b4 l34 hk3
        go_wp2_with (first
          | (with_reducible refine wpList_alloc_blk rfl 37 rfl hz ?_)
          | (refine store_row rfl 37 (.tmp 13) _ rfl rfl rfl n9 rowDd l4 hzl o4 ?_
             intro w6 b9 g9
             refine RowKit.Hid.out ?_))
        refine Lib.hid ?_
        have q6 : Below w4.heap.size w4 w6 := q5.trans (below_of_grown g9 (Nat.le_refl _) (by rw [s5H.out]; omega))
        have lt7o := lt7.out
        have lt34 := l4H.out
        have b5 := b5.grown g9 (fun e => by injection e; omega)
        have b7 := b7.grown g9 (fun e => by injection e; omega)
        have l9 : w4.heap.size < w6.heap.size := b9.lt
        have h6 : Two (And3 (And3 E G (G + 3)) w4.heap.size w6.heap.size) B w0 w6 g cs4 D D2 := h4.keepE q6 (fun b hb => hb)
        have Q6 := Q4.trans (q6.mono Q4.size)
        obtain ⟨M, hM⟩ : ∃ M, w4.heap.size = M := ⟨_, rfl⟩
        rw [hM] at b9 l9 h6 lt34
        have hMH := Lib.hid hM
        rw [hM]
        have gm3 : G + 2 < M := Nat.lt_of_lt_of_le lt7o lt34
        have GMH := Lib.hid gm3
        clear h4 q5 q6 Q4 n9 g9 hM lt7o lt34 gm3
        go_wp2_with fail
        obtain ⟨V, hV⟩ : ∃ V, w6.drew = V := ⟨_, rfl⟩
        have b5 : Blk V (G + 1) 40 C := by rw [← hV]; exact b5
        have b7 : Blk V (G + 2) 37 zs := by rw [← hV]; exact b7
        have b9 : Blk V M 37 cs4 := by rw [← hV]; exact b9
        have QV : Below w.heap.size w V := by rw [← hV]; exact Q6.drew
        obtain ⟨F, hF⟩ : ∃ F, And3 (And3 E G (G + 3)) M w6.heap.size = F := ⟨_, rfl⟩
        have inM : F M := by rw [← hF]; exact .inr ⟨Nat.le_refl _, l9⟩
        have in1 : F (G + 1) := by rw [← hF]; exact .inl (.inr ⟨by omega, by omega⟩)
        have in2 : F (G + 2) := by rw [← hF]; exact .inl (.inr ⟨by omega, by omega⟩)
        have inE : ∀ b, E b → F b := by rw [← hF]; exact fun b hb => .inl (.inl hb)
        rw [hF] at h6
        have hVt : Two F B w0 V g cs4 D D2 := by rw [← hV]; exact h6.keep (Below.refl _ _).drew
        have hkV := (sameE.out V QV)
        have c2 := c_sync f hVt okH.out (by omega)
        rw [heH.out] at c2
        have dd := Lib.hid (fun (w' : World) (hb' : Blk w' M 37 cs4 ∧ Blk w' (G + 1) 40 C) => (hb'.2.cell 1).trans z1H.out)
        have inH := Lib.hid (And.intro inM (And.intro in1 (And.intro in2 inE)))
        have tbH := Lib.hid (And.intro b5 (And.intro b7 b9))
        have kVH := Lib.hid hkV
        have sv : Blk V M 37 cs4 ∧ Blk V (G + 1) 40 C := ⟨b9, b5⟩
        refine region_seqS (fun w' => Blk w' M 37 cs4 ∧ Blk w' (G + 1) 40 C) (by kernel_rfl) (by rw [hV]; exact sv) ?_
        simp only [pairs, Nat.reduceAdd]
        rw [hV]
        clear hV h6 hVt inM in1 in2 inE hF b5 b9 hkV Q6 QV l9 b7
        repeat (first
          | (refine SeqS.take (v := .agg (cs4).toArray) (by first | assumption | trivial) (by kernel_rfl) (by decide +kernel) (by decide +kernel) (yields_blk (by rfl) 37 (.tmp 13) rfl rfl (fun w' h => h.1) (row4)) ?_
             simp only [Act.put, List.setIfInBounds_toArray, List.set_cons_zero, List.set_cons_succ])
          | (refine SeqS.take (v := ?_) (by first | assumption | trivial) (by kernel_rfl) (by decide +kernel) (by decide +kernel) (Or.inl ⟨by rfl, ?_⟩) ?_
             rotate_left
             focus
               intro w' hb'
               go_simp
               with_reducible rfl
             simp only [Act.put, List.setIfInBounds_toArray, List.set_cons_zero, List.set_cons_succ])
          | (refine SeqS.take (v := ?_) (by first | assumption | trivial) (by kernel_rfl) (by decide +kernel) (by decide +kernel) (Or.inl ⟨by rfl, ?_⟩) ?_
             rotate_left
             focus
               intro w' hb'
               have d1 := dd.out w' hb'
               go_simp
               with_reducible rfl
             simp only [Act.put, List.setIfInBounds_toArray, List.set_cons_zero, List.set_cons_succ])
          | (refine SeqS.take (v := undef) (by first | assumption | trivial) (by kernel_rfl) (by decide +kernel) (by decide +kernel) (Or.inr ⟨by rfl, rfl⟩) ?_
             simp only [Act.put, List.setIfInBounds_toArray, List.set_cons_zero, List.set_cons_succ])
          | (refine SeqS.take1 (v := .agg (cs4).toArray) (by first | assumption | trivial) (by kernel_rfl) (by decide +kernel) (by decide +kernel) (yields_blk (by rfl) 37 (.tmp 13) rfl rfl (fun w' h => h.1) (row4)) ?_
             simp only [Act.put, List.setIfInBounds_toArray, List.set_cons_zero, List.set_cons_succ])
          | (refine SeqS.take1 (v := ?_) (by first | assumption | trivial) (by kernel_rfl) (by decide +kernel) (by decide +kernel) (Or.inl ⟨by rfl, ?_⟩) ?_
             rotate_left
             focus
               intro w' hb'
               go_simp
               with_reducible rfl
             simp only [Act.put, List.setIfInBounds_toArray, List.set_cons_zero, List.set_cons_succ])
          | (refine SeqS.take1 (v := ?_) (by first | assumption | trivial) (by kernel_rfl) (by decide +kernel) (by decide +kernel) (Or.inl ⟨by rfl, ?_⟩) ?_
             rotate_left
             focus
               intro w' hb'
               have d1 := dd.out w' hb'
               go_simp
               with_reducible rfl
             simp only [Act.put, List.setIfInBounds_toArray, List.set_cons_zero, List.set_cons_succ])
          | (refine SeqS.take1 (v := undef) (by first | assumption | trivial) (by kernel_rfl) (by decide +kernel) (by decide +kernel) (Or.inr ⟨by rfl, rfl⟩) ?_
             simp only [Act.put, List.setIfInBounds_toArray, List.set_cons_zero, List.set_cons_succ])
          | (refine SeqS.take2 (v := .agg (cs4).toArray) (by first | assumption | trivial) (by kernel_rfl) (by decide +kernel) (by decide +kernel) (yields_blk (by rfl) 37 (.tmp 13) rfl rfl (fun w' h => h.1) (row4)) ?_
             simp only [Act.put, List.setIfInBounds_toArray, List.set_cons_zero, List.set_cons_succ])
          | (refine SeqS.take2 (v := ?_) (by first | assumption | trivial) (by kernel_rfl) (by decide +kernel) (by decide +kernel) (Or.inl ⟨by rfl, ?_⟩) ?_
             rotate_left
             focus
               intro w' hb'
               go_simp
               with_reducible rfl
             simp only [Act.put, List.setIfInBounds_toArray, List.set_cons_zero, List.set_cons_succ])
          | (refine SeqS.take2 (v := ?_) (by first | assumption | trivial) (by kernel_rfl) (by decide +kernel) (by decide +kernel) (Or.inl ⟨by rfl, ?_⟩) ?_
             rotate_left
             focus
               intro w' hb'
               have d1 := dd.out w' hb'
               go_simp
               with_reducible rfl
             simp only [Act.put, List.setIfInBounds_toArray, List.set_cons_zero, List.set_cons_succ])
          | (refine SeqS.take2 (v := undef) (by first | assumption | trivial) (by kernel_rfl) (by decide +kernel) (by decide +kernel) (Or.inr ⟨by rfl, rfl⟩) ?_
             simp only [Act.put, List.setIfInBounds_toArray, List.set_cons_zero, List.set_cons_succ])
          | (refine SeqS.take3 (v := .agg (cs4).toArray) (by first | assumption | trivial) (by kernel_rfl) (by decide +kernel) (by decide +kernel) (yields_blk (by rfl) 37 (.tmp 13) rfl rfl (fun w' h => h.1) (row4)) ?_
             simp only [Act.put, List.setIfInBounds_toArray, List.set_cons_zero, List.set_cons_succ])
          | (refine SeqS.take3 (v := ?_) (by first | assumption | trivial) (by kernel_rfl) (by decide +kernel) (by decide +kernel) (Or.inl ⟨by rfl, ?_⟩) ?_
             rotate_left
             focus
               intro w' hb'
               go_simp
               with_reducible rfl
             simp only [Act.put, List.setIfInBounds_toArray, List.set_cons_zero, List.set_cons_succ])
          | (refine SeqS.take3 (v := ?_) (by first | assumption | trivial) (by kernel_rfl) (by decide +kernel) (by decide +kernel) (Or.inl ⟨by rfl, ?_⟩) ?_
             rotate_left
             focus
               intro w' hb'
               have d1 := dd.out w' hb'
               go_simp
               with_reducible rfl
             simp only [Act.put, List.setIfInBounds_toArray, List.set_cons_zero, List.set_cons_succ])
          | (refine SeqS.take3 (v := undef) (by first | assumption | trivial) (by kernel_rfl) (by decide +kernel) (by decide +kernel) (Or.inr ⟨by rfl, rfl⟩) ?_
             simp only [Act.put, List.setIfInBounds_toArray, List.set_cons_zero, List.set_cons_succ]))
        refine SeqS.alone (by decide +kernel) (by rfl) (fun K1 hK => ?_)
        go_simp
        go_at_call 16
        refine c2.mono ?_
        rintro q w7 ⟨rfl, h7, s7⟩
        go_simp
        have b9 := s7.blk tbH.out.2.2 inH.out.1
        have b5 := s7.blk tbH.out.1 inH.out.2.1
        have b7 := s7.blk tbH.out.2.1 inH.out.2.2.1
        have sE := kVH.out.trans s7 inH.out.2.2.2
        have sv7 : Blk w7 M 37 cs4 ∧ Blk w7 (G + 1) 40 C := ⟨b9, b5⟩
        refine hK _ _ sv7 ?_
        clear hK K1 c2 s7 sv
        (try simp only [Act.put, List.setIfInBounds_toArray, List.set_cons_zero, List.set_cons_succ])
        repeat (first
          | (refine SeqS.take (v := ?_) (by first | assumption | trivial) (by kernel_rfl) (by decide +kernel) (by decide +kernel) (Or.inl ⟨by rfl, ?_⟩) ?_
             rotate_left
             focus
               intro w' hb'
               go_simp
               with_reducible rfl
             simp only [Act.put, List.setIfInBounds_toArray, List.set_cons_zero, List.set_cons_succ])
          | (refine SeqS.take (v := undef) (by first | assumption | trivial) (by kernel_rfl) (by decide +kernel) (by decide +kernel) (Or.inr ⟨by rfl, rfl⟩) ?_
             simp only [Act.put, List.setIfInBounds_toArray, List.set_cons_zero, List.set_cons_succ])
          | (refine SeqS.take1 (v := ?_) (by first | assumption | trivial) (by kernel_rfl) (by decide +kernel) (by decide +kernel) (Or.inl ⟨by rfl, ?_⟩) ?_
             rotate_left
             focus
               intro w' hb'
               go_simp
               with_reducible rfl
             simp only [Act.put, List.setIfInBounds_toArray, List.set_cons_zero, List.set_cons_succ])
          | (refine SeqS.take1 (v := undef) (by first | assumption | trivial) (by kernel_rfl) (by decide +kernel) (by decide +kernel) (Or.inr ⟨by rfl, rfl⟩) ?_
             simp only [Act.put, List.setIfInBounds_toArray, List.set_cons_zero, List.set_cons_succ])
          | (refine SeqS.take2 (v := ?_) (by first | assumption | trivial) (by kernel_rfl) (by decide +kernel) (by decide +kernel) (Or.inl ⟨by rfl, ?_⟩) ?_
             rotate_left
             focus
               intro w' hb'
               go_simp
               with_reducible rfl
             simp only [Act.put, List.setIfInBounds_toArray, List.set_cons_zero, List.set_cons_succ])
          | (refine SeqS.take2 (v := undef) (by first | assumption | trivial) (by kernel_rfl) (by decide +kernel) (by decide +kernel) (Or.inr ⟨by rfl, rfl⟩) ?_
             simp only [Act.put, List.setIfInBounds_toArray, List.set_cons_zero, List.set_cons_succ]))
        refine SeqS.alone (by decide +kernel) (by rfl) (fun K1 hK => ?_)
        refine wp_store_part 37 (.tmp 7) (.tmp 70) rfl rfl rfl b7 row4 (by rw [l4, hzl]; decide) o4 (fun w8 hb8 hg8 => ?_)
        rw [overV_all _ _ (by rw [l4, hzl])] at hb8
        have gm := GMH.out
        have b9 := b9.grown hg8 (fun e => by injection e; omega)
        have b5 := b5.grown hg8 (fun e => by injection e; omega)
        have h8 := h7.grown hg8 inH.out.2.2.1 (by omega)
        have sE := sE.grown hg8 (fun b hb => ⟨h7.elt b (inH.out.2.2.2 b hb), by have := hEl b hb; omega⟩)
        have sv8 : Blk w8 M 37 cs4 ∧ Blk w8 (G + 1) 40 C := ⟨b9, b5⟩
        refine hK _ _ sv8 ?_
        clear hK K1 hg8 b7 h7 b9 b5 sv7
        repeat (first
          | (refine SeqS.take (v := ?_) (by first | assumption | trivial) (by kernel_rfl) (by decide +kernel) (by decide +kernel) (Or.inl ⟨by rfl, ?_⟩) ?_
             rotate_left
             focus
               intro w' hb'
               go_simp
               with_reducible rfl
             simp only [Act.put, List.setIfInBounds_toArray, List.set_cons_zero, List.set_cons_succ])
          | (refine SeqS.take (v := undef) (by first | assumption | trivial) (by kernel_rfl) (by decide +kernel) (by decide +kernel) (Or.inr ⟨by rfl, rfl⟩) ?_
             simp only [Act.put, List.setIfInBounds_toArray, List.set_cons_zero, List.set_cons_succ])
          | (refine SeqS.take1 (v := ?_) (by first | assumption | trivial) (by kernel_rfl) (by decide +kernel) (by decide +kernel) (Or.inl ⟨by rfl, ?_⟩) ?_
             rotate_left
             focus
               intro w' hb'
               go_simp
               with_reducible rfl
             simp only [Act.put, List.setIfInBounds_toArray, List.set_cons_zero, List.set_cons_succ])
          | (refine SeqS.take1 (v := undef) (by first | assumption | trivial) (by kernel_rfl) (by decide +kernel) (by decide +kernel) (Or.inr ⟨by rfl, rfl⟩) ?_
             simp only [Act.put, List.setIfInBounds_toArray, List.set_cons_zero, List.set_cons_succ])
          | (refine SeqS.take2 (v := ?_) (by first | assumption | trivial) (by kernel_rfl) (by decide +kernel) (by decide +kernel) (Or.inl ⟨by rfl, ?_⟩) ?_
             rotate_left
             focus
               intro w' hb'
               go_simp
               with_reducible rfl
             simp only [Act.put, List.setIfInBounds_toArray, List.set_cons_zero, List.set_cons_succ])
          | (refine SeqS.take2 (v := undef) (by first | assumption | trivial) (by kernel_rfl) (by decide +kernel) (by decide +kernel) (Or.inr ⟨by rfl, rfl⟩) ?_
             simp only [Act.put, List.setIfInBounds_toArray, List.set_cons_zero, List.set_cons_succ]))
        refine SeqS.done (by decide +kernel) ?_
        go_wp2
        refine bodyPost_ret (results_tbt18 rfl rfl hb8 row4) rfl ?_
        exact ⟨g, cs4, rfl, D2, ok2H.out, h8.less inH.out.2.2.2, sE⟩
      · skip
        by_cases hkk : k = 3
        · subst hkk
          have c9 := c_arm N h3 hO
          have ok2H := Lib.hid ((armD_ok hO N nrH.out.2).more (Nat.le_succ T))
          obtain ⟨F, hF⟩ : ∃ F, And3 E G (G + 3) = F := ⟨_, rfl⟩
          have in0 : F G := by rw [← hF]; exact .inr ⟨by omega, by omega⟩
          have in1 : F (G + 1) := by rw [← hF]; exact .inr ⟨by omega, by omega⟩
          have in2 : F (G + 2) := by rw [← hF]; exact .inr ⟨by omega, by omega⟩
          have inE : ∀ b, E b → F b := by rw [← hF]; exact fun b hb => .inl hb
          rw [hF] at c9
          clear h3 hF
          go_wp2_with fail
          refine c9.mono ?_
          rintro q w4 ⟨rfl, h4, s4⟩
          have sE := (sameE.out _ qH.out).trans s4 inE
          have b4 := s4.blk b4 in0
          have b5 := s4.blk b5 in1
          have b7 := s4.blk b7 in2
          have d2 := (b5.cell 2).trans z2H.out
          have r1 := r_arm N h4
          clear c9 c0 c1 c2 c3 c4 s4 in0 in1 hk3
          go_wp2_with ((with_reducible refine wpList_load_blk rfl 37 (.tmp 4) rfl ?_ b4 rowDd hl ?_); rfl)
          refine r1.mono ?_
          rintro q w5 ⟨cs4, rfl, h5, q5⟩
          have l4 := h5.ddc.l
          have o4 := h5.ddc.o
          have row4 : IsRow Try.prog 37 cs4.length := by rw [l4]; exact rowDd
          have sE := sE.trans (h4.same q5) inE
          have b7 := b7.keep q5 b7.lt
          clear r1 b4 b5 d2 h4
          go_wp2_with ((refine store_row rfl 37 (.tmp 7) _ rfl rfl rfl b7 rowDd l4 hzl o4 ?_); intro w6 b8 g8; refine RowKit.Hid.out ?_)
          refine Lib.hid ?_
          have h8 := h5.grown g8 in2 (by omega)
          have sE := sE.grown g8 (fun b hb => ⟨h5.elt b (inE b hb), by have := hEl b hb; omega⟩)
          clear h5 g8 b7
          go_wp2
          refine bodyPost_ret (results_tbt18 rfl rfl b8 row4) rfl ?_
          exact ⟨g, cs4, _, rfl, ok2H.out, h8.less inE, sE⟩
        · skip
          by_cases hkk : k = 4
          · subst hkk
            have c9 := c_crash h3 hO (by omega) hk3.u uH.out
            have ok2H := Lib.hid ((crD_ok hO o.us).more (Nat.le_succ T))
            obtain ⟨F, hF⟩ : ∃ F, And3 E G (G + 3) = F := ⟨_, rfl⟩
            have in0 : F G := by rw [← hF]; exact .inr ⟨by omega, by omega⟩
            have in1 : F (G + 1) := by rw [← hF]; exact .inr ⟨by omega, by omega⟩
            have in2 : F (G + 2) := by rw [← hF]; exact .inr ⟨by omega, by omega⟩
            have inE : ∀ b, E b → F b := by rw [← hF]; exact fun b hb => .inl hb
            rw [hF] at c9
            have h3b := h3.b
            clear h3 hF
            go_wp2_with fail
            refine c9.mono ?_
            rintro q w4 ⟨rfl, h4, s4⟩
            have sE := (sameE.out _ qH.out).trans s4 inE
            have b4 := s4.blk b4 in0
            have b5 := s4.blk b5 in1
            have b7 := s4.blk b7 in2
            have d2 := (b5.cell 4).trans z4H.out
            have I4 := ints_below h3b h4.b hk3.u uH.out
            have r1 := r_crash (us := o.us) h4 okH.out (by omega) I4
            clear c9 c0 c1 c2 c3 c4 s4 in0 in1 hk3
            go_wp2_with ((with_reducible refine wpList_load_blk rfl 37 (.tmp 4) rfl ?_ b4 rowDd hl ?_); rfl)
            refine r1.mono ?_
            rintro q w5 ⟨cs4, rfl, h5, q5⟩
            have l4 := h5.ddc.l
            have o4 := h5.ddc.o
            have row4 : IsRow Try.prog 37 cs4.length := by rw [l4]; exact rowDd
            have sE := sE.trans (h4.same q5) inE
            have b7 := b7.keep q5 b7.lt
            clear r1 b4 b5 d2 h4 I4
            go_wp2_with ((refine store_row rfl 37 (.tmp 7) _ rfl rfl rfl b7 rowDd l4 hzl o4 ?_); intro w6 b8 g8; refine RowKit.Hid.out ?_)
            refine Lib.hid ?_
            have h8 := h5.grown g8 in2 (by omega)
            have sE := sE.grown g8 (fun b hb => ⟨h5.elt b (inE b hb), by have := hEl b hb; omega⟩)
            clear h5 g8 b7
            go_wp2
            refine bodyPost_ret (results_tbt18 rfl rfl b8 row4) rfl ?_
            exact ⟨g, cs4, _, rfl, ok2H.out, h8.less inE, sE⟩
          · skip
            have c9 := c_clone h3 hO (by omega)
            have o1 := apD_ok hO 0 [77]
            obtain ⟨F, hF⟩ : ∃ F, And3 E G (G + 3) = F := ⟨_, rfl⟩
            have in0 : F G := by rw [← hF]; exact .inr ⟨by omega, by omega⟩
            have in2 : F (G + 2) := by rw [← hF]; exact .inr ⟨by omega, by omega⟩
            have inE : ∀ b, E b → F b := by rw [← hF]; exact fun b hb => .inl hb
            have s3 : Same F W3 W3 := fun _ _ => rfl
            rw [hF] at c9 h3
            clear hF c1 c2 c3 c4 hk3 b5
            go_wp2_with fail
            refine c9.mono ?_
            rintro q w4 ⟨gc, rfl, h4, q4⟩
            have s4 := h3.same q4
            have b1 := below1 w4 (.cells #[.int .u8 77] 5)
            have I1 := row_ints w4 5 .u8 [77]
            have s1 := h4.two.same b1
            have c10 := t_append 0 (h4.keep b1) hO (by omega) I1
            clear c9 h3 c0
            go_wp2_with fail
            refine c10.mono ?_
            rintro q w5 ⟨rfl, h5, s5⟩
            have c11 := t_sync 0 h5 o1 (by omega)
            clear c10 I1 b1 h4
            go_wp2_with fail
            refine c11.mono ?_
            rintro q w6 ⟨rfl, h6, s6⟩
            have h7 := h6.clone
            have sF := ((s4.trans s1 (fun _ h => h)).trans s5 (fun _ h => h)).trans s6 (fun _ h => h)
            have sE := (sameE.out _ qH.out).trans sF inE
            have b4 := sF.blk b4 in0
            have b7 := sF.blk b7 in2
            clear c11 h5 h6 s1 s3 s4 s5 s6 sF q4
            go_wp2_with fail
            obtain ⟨V, hV⟩ : ∃ V, w6.drew = V := ⟨_, rfl⟩
            have b4 : Blk V G 37 cs := by rw [← hV]; exact b4
            have b7 : Blk V (G + 2) 37 zs := by rw [← hV]; exact b7
            have h8 : Two F B w0 V gc cs D D := by rw [← hV]; exact h7.keep (Below.refl _ _).drew
            have sE : Same E w V := by rw [← hV]; exact sE
            refine region_seqS (fun w' => Blk w' G 37 cs) (by kernel_rfl) (by rw [hV]; exact b4) ?_
            simp only [pairs, Nat.reduceAdd]
            rw [hV]
            clear hV h7
            repeat (first
              | (refine SeqS.take (v := .agg (cs).toArray) (by first | assumption | trivial) (by kernel_rfl) (by decide +kernel) (by decide +kernel) (yields_blk (by rfl) 37 (.tmp 4) rfl rfl (fun w' h => h) (hrow)) ?_
                 simp only [Act.put, List.setIfInBounds_toArray, List.set_cons_zero, List.set_cons_succ])
              | (refine SeqS.take (v := ?_) (by first | assumption | trivial) (by kernel_rfl) (by decide +kernel) (by decide +kernel) (Or.inl ⟨by rfl, ?_⟩) ?_
                 rotate_left
                 focus
                   intro w' hb'
                   go_simp
                   with_reducible rfl
                 simp only [Act.put, List.setIfInBounds_toArray, List.set_cons_zero, List.set_cons_succ])
              | (refine SeqS.take (v := undef) (by first | assumption | trivial) (by kernel_rfl) (by decide +kernel) (by decide +kernel) (Or.inr ⟨by rfl, rfl⟩) ?_
                 simp only [Act.put, List.setIfInBounds_toArray, List.set_cons_zero, List.set_cons_succ])
              | (refine SeqS.take1 (v := .agg (cs).toArray) (by first | assumption | trivial) (by kernel_rfl) (by decide +kernel) (by decide +kernel) (yields_blk (by rfl) 37 (.tmp 4) rfl rfl (fun w' h => h) (hrow)) ?_
                 simp only [Act.put, List.setIfInBounds_toArray, List.set_cons_zero, List.set_cons_succ])
              | (refine SeqS.take1 (v := ?_) (by first | assumption | trivial) (by kernel_rfl) (by decide +kernel) (by decide +kernel) (Or.inl ⟨by rfl, ?_⟩) ?_
                 rotate_left
                 focus
                   intro w' hb'
                   go_simp
                   with_reducible rfl
                 simp only [Act.put, List.setIfInBounds_toArray, List.set_cons_zero, List.set_cons_succ])
              | (refine SeqS.take1 (v := undef) (by first | assumption | trivial) (by kernel_rfl) (by decide +kernel) (by decide +kernel) (Or.inr ⟨by rfl, rfl⟩) ?_
                 simp only [Act.put, List.setIfInBounds_toArray, List.set_cons_zero, List.set_cons_succ])
              | (refine SeqS.take2 (v := .agg (cs).toArray) (by first | assumption | trivial) (by kernel_rfl) (by decide +kernel) (by decide +kernel) (yields_blk (by rfl) 37 (.tmp 4) rfl rfl (fun w' h => h) (hrow)) ?_
                 simp only [Act.put, List.setIfInBounds_toArray, List.set_cons_zero, List.set_cons_succ])
              | (refine SeqS.take2 (v := ?_) (by first | assumption | trivial) (by kernel_rfl) (by decide +kernel) (by decide +kernel) (Or.inl ⟨by rfl, ?_⟩) ?_
                 rotate_left
                 focus
                   intro w' hb'
                   go_simp
                   with_reducible rfl
                 simp only [Act.put, List.setIfInBounds_toArray, List.set_cons_zero, List.set_cons_succ])
              | (refine SeqS.take2 (v := undef) (by first | assumption | trivial) (by kernel_rfl) (by decide +kernel) (by decide +kernel) (Or.inr ⟨by rfl, rfl⟩) ?_
                 simp only [Act.put, List.setIfInBounds_toArray, List.set_cons_zero, List.set_cons_succ])
              | (refine SeqS.take3 (v := .agg (cs).toArray) (by first | assumption | trivial) (by kernel_rfl) (by decide +kernel) (by decide +kernel) (yields_blk (by rfl) 37 (.tmp 4) rfl rfl (fun w' h => h) (hrow)) ?_
                 simp only [Act.put, List.setIfInBounds_toArray, List.set_cons_zero, List.set_cons_succ])
              | (refine SeqS.take3 (v := ?_) (by first | assumption | trivial) (by kernel_rfl) (by decide +kernel) (by decide +kernel) (Or.inl ⟨by rfl, ?_⟩) ?_
                 rotate_left
                 focus
                   intro w' hb'
                   go_simp
                   with_reducible rfl
                 simp only [Act.put, List.setIfInBounds_toArray, List.set_cons_zero, List.set_cons_succ])
              | (refine SeqS.take3 (v := undef) (by first | assumption | trivial) (by kernel_rfl) (by decide +kernel) (by decide +kernel) (Or.inr ⟨by rfl, rfl⟩) ?_
                 simp only [Act.put, List.setIfInBounds_toArray, List.set_cons_zero, List.set_cons_succ]))
            refine SeqS.alone (by decide +kernel) (by rfl) (fun K1 hK => ?_)
            refine wp_store_part 37 (.tmp 7) (.tmp 107) rfl rfl rfl b7 hrow (by rw [hl, hzl]; decide) ho1 (fun w8 hb8 hg8 => ?_)
            rw [overV_all _ _ (by rw [hl, hzl])] at hb8
            have b4 := b4.grown hg8 (fun e => by injection e; omega)
            have h9 := h8.grown hg8 in2 (by omega)
            have sE := sE.grown hg8 (fun b hb => ⟨h8.elt b (inE b hb), by have := hEl b hb; omega⟩)
            refine hK _ _ b4 ?_
            clear hK K1 hg8 b7 h8
            repeat (first
              | (refine SeqS.take (v := ?_) (by first | assumption | trivial) (by kernel_rfl) (by decide +kernel) (by decide +kernel) (Or.inl ⟨by rfl, ?_⟩) ?_
                 rotate_left
                 focus
                   intro w' hb'
                   go_simp
                   with_reducible rfl
                 simp only [Act.put, List.setIfInBounds_toArray, List.set_cons_zero, List.set_cons_succ])
              | (refine SeqS.take (v := undef) (by first | assumption | trivial) (by kernel_rfl) (by decide +kernel) (by decide +kernel) (Or.inr ⟨by rfl, rfl⟩) ?_
                 simp only [Act.put, List.setIfInBounds_toArray, List.set_cons_zero, List.set_cons_succ])
              | (refine SeqS.take1 (v := ?_) (by first | assumption | trivial) (by kernel_rfl) (by decide +kernel) (by decide +kernel) (Or.inl ⟨by rfl, ?_⟩) ?_
                 rotate_left
                 focus
                   intro w' hb'
                   go_simp
                   with_reducible rfl
                 simp only [Act.put, List.setIfInBounds_toArray, List.set_cons_zero, List.set_cons_succ])
              | (refine SeqS.take1 (v := undef) (by first | assumption | trivial) (by kernel_rfl) (by decide +kernel) (by decide +kernel) (Or.inr ⟨by rfl, rfl⟩) ?_
                 simp only [Act.put, List.setIfInBounds_toArray, List.set_cons_zero, List.set_cons_succ])
              | (refine SeqS.take2 (v := ?_) (by first | assumption | trivial) (by kernel_rfl) (by decide +kernel) (by decide +kernel) (Or.inl ⟨by rfl, ?_⟩) ?_
                 rotate_left
                 focus
                   intro w' hb'
                   go_simp
                   with_reducible rfl
                 simp only [Act.put, List.setIfInBounds_toArray, List.set_cons_zero, List.set_cons_succ])
              | (refine SeqS.take2 (v := undef) (by first | assumption | trivial) (by kernel_rfl) (by decide +kernel) (by decide +kernel) (Or.inr ⟨by rfl, rfl⟩) ?_
                 simp only [Act.put, List.setIfInBounds_toArray, List.set_cons_zero, List.set_cons_succ]))
            refine SeqS.done (by decide +kernel) ?_
            go_wp2
            refine bodyPost_ret (results_tbt18 rfl rfl hb8 hrow) rfl ?_
            exact ⟨gc, cs, D, rfl, okH.out.more (Nat.le_succ T), h9.less inE, sE⟩
end Go.Proofs.Ytmnfagpbcllbgaa
