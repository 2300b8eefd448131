/-
  Texts of stages that were proved on their own, joined: DkTwo, DkPair, DkLike. Each begins with its own words.
-/
import Derived.Test.YtcohbhimhacedaaGreatDoorJSzAll4
import Derived.Test.YtcohbhimhacedaaGreatDoorJSzAll6
import Derived.Test.YtcohbhimhacedaaGreatDoorJSzAll3
import Derived.Test.YtcohbhimhacedaaGreatDoorJSzAll8
import Derived.Test.YtcohbhimhacedaaGreatDoorJSzAll14

namespace Go.Proofs.YtcohbhimhacedaaGreatDoor
open Go.RowKit

def opZ : List Value := [.int .i64 0, .int .i64 0, .int .i64 0, .slice none 0 0, .slice none 0 0]

end Go.Proofs.YtcohbhimhacedaaGreatDoor

/-
  What the law DiskRoom asks of a disk of the call's own: a clone, what is used, sizes; one call out of a slice of them. New memory alone is written.
-/
namespace Go.Proofs.YtcohbhimhacedaaGreatDoor
open Go.RowKit

end Go.Proofs.YtcohbhimhacedaaGreatDoor

/-
  The law DiskDoes: a landed disk and the document's, side by side in memory, and what each call leaves of both. New memory is written, and the landed disk's own. Conditions: the document's disk has at most 2^41 steps.
-/
namespace Go.Proofs.YtcohbhimhacedaaGreatDoor
open Go.RowKit

/-! ### The document's disk lies in memory -/
theorem RStep.lt {R : Nat → Prop} {w : World} {vals : List Value} {s : StV} (h : RStep R w vals s) : RStep (fun b => R b ∧ b < w.heap.size) w vals s := by
  obtain ⟨a, c, hv, hs⟩ := h
  refine ⟨a, c, hv, ?_⟩
  cases s with
  | put xs => exact ⟨hs.1, fun x hx hn => ⟨hs.2 x hx hn, hs.1.isIn.2 x hx hn⟩⟩
  | cut n => trivial

theorem RSteps.lt {R : Nat → Prop} {w : World} {a : Option Addr} {c : Nat} {S : List StV} (h : RSteps R w a c S) : RSteps (fun b => R b ∧ b < w.heap.size) w a c S := by
  refine ⟨h.1, ?_⟩
  by_cases h0 : S.length = 0
  · exact .inl h0
  obtain ⟨b', off', s, A, C, ha', _, hr, _⟩ := h.get 0 (by omega)
  have hl : b' < w.heap.size := by
    have h1 : ∃ v, (stC s A C)[0]? = some v := by cases s <;> exact ⟨_, rfl⟩
    obtain ⟨v, h1⟩ := h1
    exact World.block_lt_of_cell? w _ (hr 0 v h1)
  rcases h.2 with h1 | ⟨b, off, ha, hb, hc⟩
  · exact absurd h1 h0
  · rw [ha] at ha'
    injection ha' with ha'
    injection ha' with e1 _ _
    subst e1
    exact .inr ⟨b, off, ha, ⟨hb, hl⟩, fun i s hs => by
      obtain ⟨vals, k1, k2⟩ := hc i s hs
      exact ⟨vals, k1, k2.lt⟩⟩

theorem RFile.lt {R : Nat → Prop} {w : World} {cs : List Value} {v : FlV} (h : RFile R w cs v) : RFile (fun b => R b ∧ b < w.heap.size) w cs v := by
  obtain ⟨ka, kc, sa, sc, hc, h1, h2, h3⟩ := h
  exact ⟨ka, kc, sa, sc, hc, h1, fun x hx hn => ⟨h2 x hx hn, h1.isIn.2 x hx hn⟩, h3.lt⟩

theorem RDisk.lt {R : Nat → Prop} {w : World} {cs : List Value} {D : DkV} (h : RDisk R w cs D) : RDisk (fun b => R b ∧ b < w.heap.size) w cs D := by
  obtain ⟨c0, c1, c2, hc, h0, h1, h2⟩ := h
  exact ⟨c0, c1, c2, hc, h0.lt, h1.lt, h2.lt⟩

/-! ### Both disks -/
structure TwoAt (L : Nat → Nat) (P R E : Nat → Prop) (B : Nat) (w0 w : World) (g : Nat) (cs : List Value) (D D' : DkV) : Prop where
  k : DkIs L P w g D
  r : RDisk R w cs D'
  rl : ∀ b, R b → b < w.heap.size ∧ L b = 0
  lb : ∀ b, L b ≠ 0 → B ≤ b
  e : ∀ b, E b → b < w.heap.size ∧ L b = 0 ∧ ¬ R b ∧ ¬ P b
  b : Below B w0 w
  s : B ≤ w.heap.size

/-- The landed disk at g is D, the document's in the cells cs is D'; what both hold came behind B; the blocks of E are nobody's. -/
def Two (E : Nat → Prop) (B : Nat) (w0 w : World) (g : Nat) (cs : List Value) (D D' : DkV) : Prop := ∃ L P R, TwoAt L P R E B w0 w g cs D D'

theorem Two.b {E : Nat → Prop} {B : Nat} {w0 w : World} {g : Nat} {cs : List Value} {D D' : DkV} (h : Two E B w0 w g cs D D') : Below B w0 w := by
  obtain ⟨_, _, _, h⟩ := h
  exact h.b

theorem Two.s {E : Nat → Prop} {B : Nat} {w0 w : World} {g : Nat} {cs : List Value} {D D' : DkV} (h : Two E B w0 w g cs D D') : B ≤ w.heap.size := by
  obtain ⟨_, _, _, h⟩ := h
  exact h.s

theorem Two.ddc {E : Nat → Prop} {B : Nat} {w0 w : World} {g : Nat} {cs : List Value} {D D' : DkV} (h : Two E B w0 w g cs D D') : DdC cs D'.room D'.fuse D'.down := by
  obtain ⟨_, _, _, h⟩ := h
  exact h.r.ddc

theorem DkIs.lt {L : Nat → Nat} {P : Nat → Prop} {w : World} {g : Nat} {D : DkV} (h : DkIs L P w g D) : ∀ b, L b ≠ 0 → b < w.heap.size := by
  obtain ⟨_, _, _, h⟩ := h
  exact h.lab.l

theorem DkIs.plt {L : Nat → Nat} {P : Nat → Prop} {w : World} {g : Nat} {D : DkV} (h : DkIs L P w g D) : ∀ b, P b → b < w.heap.size := by
  obtain ⟨_, _, _, h⟩ := h
  exact fun b hb => (h.lab.p b hb).1

/-- New memory alone was written: what is new is nobody's. -/
theorem Two.keepE {E E' : Nat → Prop} {B : Nat} {w0 w w' : World} {g : Nat} {cs : List Value} {D D' : DkV} (h : Two E B w0 w g cs D D') (hb : Below w.heap.size w w') (hE : ∀ b, E' b → E b ∨ (w.heap.size ≤ b ∧ b < w'.heap.size)) : Two E' B w0 w' g cs D D' := by
  obtain ⟨L, P, R, h⟩ := h
  have hs := hb.size
  refine ⟨L, P, R, h.k.keep hb, h.r.keep hb, fun b hb => ⟨Nat.lt_of_lt_of_le (h.rl b hb).1 hs, (h.rl b hb).2⟩, h.lb, fun b he => ?_, h.b.trans (hb.mono h.s), Nat.le_trans h.s hs⟩
  rcases hE b he with he | he
  · exact ⟨Nat.lt_of_lt_of_le (h.e b he).1 hs, (h.e b he).2⟩
  · refine ⟨he.2, ?_, fun hr => absurd (h.rl b hr).1 (Nat.not_lt.2 he.1), fun hp => absurd (h.k.plt b hp) (Nat.not_lt.2 he.1)⟩
    by_cases h0 : L b = 0
    · exact h0
    · have := h.k.lt b h0
      omega

theorem Two.keep {E : Nat → Prop} {B : Nat} {w0 w w' : World} {g : Nat} {cs : List Value} {D D' : DkV} (h : Two E B w0 w g cs D D') (hb : Below w.heap.size w w') : Two E B w0 w' g cs D D' := h.keepE hb (fun _ h => .inl h)

theorem DkIs.far {L : Nat → Nat} {P : Nat → Prop} {w w' : World} {g : Nat} {D : DkV} (h : DkIs L P w g D) {F : Nat → Prop} (hm : Moved F w w') (hF : ∀ b, L b ≠ 0 ∨ P b → ¬ F b) : DkIs L P w' g D := by
  obtain ⟨x0, x1, x2, h⟩ := h
  exact ⟨x0, x1, x2, h.far hm hF⟩

def Same (E : Nat → Prop) (w w' : World) : Prop := ∀ b, E b → w'.heap[b]? = w.heap[b]?

theorem Same.blk {E : Nat → Prop} {w w' : World} (h : Same E w w') {g : Nat} {t : TypeId} {cs : List Value} (hb : Blk w g t cs) (hg : E g) : Blk w' g t cs := by
  unfold Blk at hb ⊢
  rw [h g hg]
  exact hb

/-! ### The calls -/
section
variable {E : Nat → Prop} {B : Nat} {w0 w : World} {g : Nat} {cs : List Value} {D D' : DkV} {T : Nat}

/-- A clone beside the first disk: the first may be written to, and the clone stays. -/
def Three (E : Nat → Prop) (B : Nat) (w0 w : World) (g gc : Nat) (cs : List Value) (D Dc D' : DkV) : Prop :=
  ∃ L P R Lc Pc, TwoAt L P R E B w0 w g cs D D' ∧ DkIs Lc Pc w gc Dc ∧ (∀ b, Lc b ≠ 0 → B ≤ b ∧ L b = 0 ∧ ¬ R b ∧ ¬ E b) ∧ ∀ b, Pc b → L b = 0 ∧ ¬ E b

end
end Go.Proofs.YtcohbhimhacedaaGreatDoor

/-
  The law DiskDoes: what its step leaves of both disks. New memory is written, and the landed disk's own. Conditions: the disks have fewer than 2^41 steps; at most 2^47 bytes are handed in.
-/
namespace Go.Proofs.YtcohbhimhacedaaGreatDoor
open Go.RowKit

theorem Two.elt {E : Nat → Prop} {B : Nat} {w0 w : World} {g : Nat} {cs : List Value} {D D' : DkV} (h : Two E B w0 w g cs D D') : ∀ b, E b → b < w.heap.size := by
  obtain ⟨_, _, _, h⟩ := h
  exact fun b he => (h.e b he).1
theorem ints_below {k : IntKind} {B : Nat} {w0 w w' : World} {a : Option Addr} {n c : Nat} {xs : List Int} (h : Below B w0 w) (h' : Below B w0 w') (hI : Ints k w a n c xs) (hu : ∀ x, a = some x → 0 < n → x.block < B) : Ints k w' a n c xs :=
  ints_inR (R := fun b => b < B) hI hu (fun b hb _ => (h'.block b hb).trans (h.block b hb).symm)
def And3 (E : Nat → Prop) (a b : Nat) : Nat → Prop := fun x => E x ∨ (a ≤ x ∧ x < b)
end Go.Proofs.YtcohbhimhacedaaGreatDoor

/-
  The law DiskDoes: its like tells that both disks hold the same. New memory alone is written. Conditions: a disk with fewer than 2^42 steps.
-/
namespace Go.Proofs.YtcohbhimhacedaaGreatDoor
open Go.RowKit

/-- A slice that a conversion turns to this string, now and later. -/
def Conv (w : World) (v : Value) (s : ByteArray) : Prop := ∀ w', Below w.heap.size w w' → (convert 22 9 v).run Tryz.prog w' = .ok (.string s) w'

theorem Conv.keep {w w' : World} {v : Value} {s : ByteArray} (h : Conv w v s) (hb : Below w.heap.size w w') : Conv w' v s := fun w2 h2 => h w2 (chain hb h2)

theorem conv_of {w : World} {a : Option Addr} {n c : Nat} {xs : List Int} (h : Ints .u8 w a n c xs) : Conv w (.slice a n c) (strOfNums xs) := fun _ hb => h.string' 22 9 5 Tryz.underlying22 Tryz.underlying5 Tryz.underlying9 hb

theorem Tells.conv {w w' : World} {q : Ending} {xs : List Int} {s : ByteArray} {n : Nat} (h : Tells w q w' xs) (hs : strOfNums xs = s) (hn : xs.length = n) : ∃ b c, q = .returned (.slice b n c) ∧ Conv w' (.slice b n c) s ∧ Below w.heap.size w w' := by
  obtain ⟨b, c, e, ho, hb⟩ := h
  subst hs; subst hn
  exact ⟨b, c, e, conv_of (own_ints' ho), hb⟩

section
variable {E : Nat → Prop} {B : Nat} {w0 w : World} {g : Nat} {cs : List Value} {D D' : DkV} {T : Nat}

theorem l_read (h : Two E B w0 w g cs D D') (hO : D.Ok T) (i : Nat) (hi : i < 3) (z : Int) (hz : z = (i : Int)) (s : ByteArray) (hs : strOfNums (D.f i).held = s) (n : Nat) (hn : (D.f i).held.length = n) :
    Calls Tryz.prog 29 #[.pointer (some ⟨g, 0, none⟩), .int .i64 z] w fun q w' => ∃ b c, q = .returned (.slice b n c) ∧ Conv w' (.slice b n c) s ∧ Below w.heap.size w w' := by
  obtain ⟨L, P, R, h⟩ := h
  obtain ⟨x0, x1, x2, hk⟩ := h.k
  subst hz
  exact (dRead_any hk hO i hi).mono fun _ _ h => h.conv hs hn

theorem l_kept (h : Two E B w0 w g cs D D') (hO : D.Ok T) (i : Nat) (hi : i < 3) (z : Int) (hz : z = (i : Int)) (s : ByteArray) (hs : strOfNums (D.f i).K = s) (n : Nat) (hn : (D.f i).K.length = n) :
    Calls Tryz.prog 31 #[.pointer (some ⟨g, 0, none⟩), .int .i64 z] w fun q w' => ∃ b c, q = .returned (.slice b n c) ∧ Conv w' (.slice b n c) s ∧ Below w.heap.size w w' := by
  obtain ⟨L, P, R, h⟩ := h
  obtain ⟨x0, x1, x2, hk⟩ := h.k
  subst hz
  exact (dKept_any hk hO i hi).mono fun _ _ h => h.conv hs hn

theorem l_room (h : Two E B w0 w g cs D D') (hO : D.Ok T) (r : Int) (hr : D.room = r) :
    Calls Tryz.prog 23 #[.pointer (some ⟨g, 0, none⟩)] w fun q w' => q = .returned (.int .i64 r) ∧ Below w.heap.size w w' := by
  obtain ⟨L, P, R, h⟩ := h
  have := hO.room
  subst hr
  exact (dRoom_any h.k.cells.1 (by omega)).mono fun _ _ ⟨e, k⟩ => ⟨e, by rw [← k]; exact Below.refl _ _⟩

theorem l_down (h : Two E B w0 w g cs D D') (hO : D.Ok T) (r : Bool) (hr : D.down = r) :
    Calls Tryz.prog 25 #[.pointer (some ⟨g, 0, none⟩)] w fun q w' => q = .returned (.bool r) ∧ Below w.heap.size w w' := by
  obtain ⟨L, P, R, h⟩ := h
  have := hO.room
  subst hr
  exact (dDown_any h.k.cells.1 (by omega) h.k.cells.2.2).mono fun _ _ ⟨e, k⟩ => ⟨e, by rw [← k]; exact Below.refl _ _⟩

/-- File i of the document's disk: its two cells, what they hold, and what its calls tell. -/
structure FileIs (w : World) (cs c : List Value) (i : Nat) (v : FlV) (ka : Option Addr) (kc : Nat) : Prop where
  at' : ∀ j u, c[j]? = some u → cs[i * 2 + j]? = some u
  l : c.length = 2
  k : cs[i * 2]? = some (.slice ka v.K.length kc)
  cv : Conv w (.slice ka v.K.length kc) (strOfNums v.K)
  r : ∃ R, RFile R w c v

theorem FileIs.keep {w w' : World} {cs c : List Value} {i : Nat} {v : FlV} {ka : Option Addr} {kc : Nat} (h : FileIs w cs c i v ka kc) (hb : Below w.heap.size w w') : FileIs w' cs c i v ka kc := by
  obtain ⟨R, hr⟩ := h.r
  exact ⟨h.at', h.l, h.k, h.cv.keep hb, R, hr.keep hb⟩

theorem Two.file (h : Two E B w0 w g cs D D') (i : Nat) (hi : i < 3) : ∃ c ka kc, FileIs w cs c i (D'.f i) ka kc := by
  obtain ⟨L, P, R, h⟩ := h
  obtain ⟨h1, h2⟩ := h.r.co i hi
  have h3 := h2
  have hl := h2.len
  obtain ⟨ka, kc, sa, sc, hc, hI, _, _⟩ := h2
  refine ⟨fileC cs i, ka, kc, h1, hl, ?_, conv_of hI, R, h3⟩
  have := h1 0 (.slice ka (D'.f i).K.length kc) (by rw [hc]; rfl)
  simpa using this

theorem l_holds {w : World} {cs c : List Value} {i : Nat} {v : FlV} {ka : Option Addr} {kc : Nat} (h : FileIs w cs c i v ka kc) (ho : FOk v) (s : ByteArray) (hs : strOfNums v.held = s) (n : Nat) (hn : v.held.length = n) :
    Calls Tryz.prog 30 #[.agg c.toArray] w fun q w' => ∃ b c, q = .returned (.slice b n c) ∧ Conv w' (.slice b n c) s ∧ Below w.heap.size w w' := by
  obtain ⟨R, hr⟩ := h.r
  exact (fHolds_any hr ho).mono fun _ _ h => h.conv hs hn

end

/-- The condition moves along with memory. -/
theorem SeqS.mono {P : Program} {md : Region.Mode} {ops : Array Oper} {Q : Exit → Act → World → Prop} {S S' : World → Prop} {todo : List (Nat × Oper)} {listed : Array Bool} {a : Act} {w : World} (hS : ∀ w, S' w → S w) (h : SeqS P md ops Q S' todo listed a w) : SeqS P md ops Q S todo listed a w := fun hd => held_mono hS _ _ _ _ (h hd)
end Go.Proofs.YtcohbhimhacedaaGreatDoor
