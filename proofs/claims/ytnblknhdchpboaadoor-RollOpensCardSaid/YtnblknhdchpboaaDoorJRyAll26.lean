/-
  Texts of stages that were proved on their own, joined: DkPlay, DkRoom. Each begins with its own words.
-/
import Derived.Test.YtnblknhdchpboaaDoorJRyAll9
import Derived.Test.YtnblknhdchpboaaDoorJRyAll25
import Derived.Test.YtnblknhdchpboaaDoorJRyAll8
import Derived.Test.YtnblknhdchpboaaDoorJRyAll19

/-
  The disk's laws: small tells something; play leaves a disk of the call's own. New memory alone is written. Conditions: the calls lie below the disk's blocks; the steps in all are at most 2^42.
-/
namespace Go.Proofs.YtnblknhdchpboaaDoor
open Go.RowKit

def opZ : List Value := [.int .i64 0, .int .i64 0, .int .i64 0, .slice none 0 0, .slice none 0 0]

theorem OpD.one (o : OpD) : ∀ v ∈ o.cells, v.oneCell' = true := by
  intro v hv
  simp [OpD.cells] at hv
  rcases hv with rfl | rfl | rfl | rfl | rfl <;> rfl

theorem OpsD.get {w : World} {a : Option Addr} {n c : Nat} {ops : List OpD} (h : OpsD w a n c ops) (i : Nat) (hi : i < n) : ∃ b off o, a = some ⟨b, off, none⟩ ∧ ops[i]? = some o ∧ w.rangeAt b (off + i * 5) o.cells ∧ o.Ok w := by
  rcases h.at' with h0 | ⟨b, off, ha, hc⟩
  · omega
  · have hl := h.len
    have ho : ops[i]? = some ops[i] := List.getElem?_eq_getElem (by omega)
    exact ⟨b, off, ops[i], ha, ho, fun j v hj => by exact hc i _ ho j v hj, h.ok _ (List.getElem_mem _)⟩

theorem set_room18 (D : DkV) (i : Nat) (v : FlV) : (D.set i v).room = D.room := by
  unfold DkV.set
  split
  · rfl
  · split <;> rfl

theorem burn_room18 (D : DkV) : D.burn.room = D.room := by
  unfold DkV.burn
  split <;> rfl

theorem apD_room (D : DkV) (f : Int) (b : List Int) : (apD D f b).1.room = D.room := by
  unfold apD
  split
  · rfl
  · split
    · rfl
    · split
      · rfl
      · exact (burn_room18 _).trans (set_room18 _ _ _)

theorem ctD_room (D : DkV) (f n : Int) : (ctD D f n).1.room = D.room := by
  unfold ctD
  split
  · rfl
  · split
    · rfl
    · exact (burn_room18 _).trans (set_room18 _ _ _)

theorem syD_room (D : DkV) (f : Int) : (syD D f).1.room = D.room := by
  unfold syD
  split
  · rfl
  · split
    · rfl
    · split
      · exact burn_room18 _
      · exact (set_room18 _ _ _).trans (burn_room18 _)
end Go.Proofs.YtnblknhdchpboaaDoor

/-
  What the law DiskRoom asks of a disk of the call's own: a clone, what is used, sizes; one call out of a slice of them. New memory alone is written.
-/
namespace Go.Proofs.YtnblknhdchpboaaDoor
open Go.RowKit

/-- One call out of a slice of calls. -/
theorem OpsD.sub {w : World} {b off n c : Nat} {ops : List OpD} (h : OpsD w (some ⟨b, off, none⟩) n c ops) (i : Nat) (hi : i < n) : ∃ o, OpsD w (some ⟨b, off + i * 5, none⟩) 1 (c - i) [o] := by
  have hl := h.len
  have hc := h.cap
  have ho : ops[i]? = some ops[i] := List.getElem?_eq_getElem (by omega)
  refine ⟨ops[i], rfl, by omega, .inr ⟨b, off + i * 5, rfl, fun j o hj k v hk => ?_⟩, fun o hm => ?_⟩
  · obtain ⟨rfl, rfl⟩ : j = 0 ∧ ops[i] = o := by
      cases j with
      | zero => exact ⟨rfl, by simpa using hj⟩
      | succ j => simp at hj
    rcases h.at' with h0 | ⟨b', off', ha, hcc⟩
    · omega
    · injection ha with ha
      injection ha with e1 e2 _
      subst e1; subst e2
      have h1 := hcc i _ ho k v hk
      rw [show off + i * 5 + 0 * 5 + k = off + i * 5 + k by omega]
      exact h1
  · rw [List.mem_singleton] at hm
    subst hm
    exact h.ok _ (List.getElem_mem _)

theorem own_used {B : Nat} {w0 w : World} {g : Nat} {D : DkV} {T : Nat} (h : DkOwn B w0 w g D) (hO : D.Ok T) :
    Calls Tryd.prog 49 #[.pointer (some ⟨g, 0, none⟩)] w fun q w' => q = .returned (.int .i64 (D.used : Nat)) ∧ w' = w := by
  obtain ⟨L, P, ⟨x0, x1, x2, h1⟩, _⟩ := h.is
  have hr := hO.room
  obtain ⟨y0, _, k0⟩ := h1.fl 0 (by decide)
  obtain ⟨y1, _, k1⟩ := h1.fl 1 (by decide)
  obtain ⟨y2, _, k2⟩ := h1.fl 2 (by decide)
  exact dUsed_any (dcells h1.b).1 (by omega) (fcells h1.b k0).2.2.2.1 (fcells h1.b k1).2.2.2.1 (fcells h1.b k2).2.2.2.1 hO.o0.need hO.o1.need hO.o2.need

theorem own_usedB {B : Nat} {w0 w : World} {g : Nat} {D : DkV} {T : Nat} (h : DkOwn B w0 w g D) (hO : D.Ok T) :
    Calls Tryd.prog 49 #[.pointer (some ⟨g, 0, none⟩)] w fun q w' => q = .returned (.int .i64 (D.used : Nat)) ∧ Below w.heap.size w w' :=
  (own_used h hO).mono fun _ _ ⟨e, k⟩ => ⟨e, by rw [k]; exact Below.refl _ _⟩

theorem own_size {B : Nat} {w0 w : World} {g : Nat} {D : DkV} {T : Nat} (h : DkOwn B w0 w g D) (hO : D.Ok T) (i : Nat) (hi : i < 3) :
    Calls Tryd.prog 38 #[.pointer (some ⟨g, 0, none⟩), .int .i64 (i : Int)] w fun q w' => q = .returned (.int .i64 ((D.f i).held.length : Nat)) ∧ Below w.heap.size w w' := by
  obtain ⟨L, P, ⟨x0, x1, x2, h1⟩, _⟩ := h.is
  exact dSize_any h1 hO i hi

theorem own_sizeL {B : Nat} {w0 w : World} {g : Nat} {D : DkV} {T : Nat} (h : DkOwn B w0 w g D) (hO : D.Ok T) (i : Nat) (hi : i < 3) (z : Int) (hz : z = (i : Int)) (n : Nat) (hn : (D.f i).held.length = n) :
    Calls Tryd.prog 38 #[.pointer (some ⟨g, 0, none⟩), .int .i64 z] w fun q w' => q = .returned (.int .i64 (n : Int)) ∧ Below w.heap.size w w' := by
  subst hz; subst hn
  exact own_size h hO i hi

theorem own_usedL {B : Nat} {w0 w : World} {g : Nat} {D : DkV} {T : Nat} (h : DkOwn B w0 w g D) (hO : D.Ok T) (n : Nat) (hn : D.used = n) :
    Calls Tryd.prog 49 #[.pointer (some ⟨g, 0, none⟩)] w fun q w' => q = .returned (.int .i64 (n : Int)) ∧ Below w.heap.size w w' := by
  subst hn
  exact own_usedB h hO

theorem wrap_sum18 (a b : Nat) (h : a + b ≤ 200000) : wrap64 ((a : Int) + (b : Int)) = (a : Int) + (b : Int) := by unfold wrap64; omega

theorem wrap_sum318 (a b c : Nat) (h : a + b + c ≤ 200000) : wrap64 ((a : Int) + (b : Int) + (c : Int)) = (a : Int) + (b : Int) + (c : Int) := by unfold wrap64; omega

/-- What is held is at most what is used, and that is at most the room; a crash makes nothing greater, and leaves just what is held. -/
theorem room_math {D : DkV} {T : Nat} (hO : D.Ok T) (us : List Int) :
    (D.used : Int) ≤ D.room ∧ (D.f 0).held.length + (D.f 1).held.length + (D.f 2).held.length ≤ D.used ∧ (crD D us).used ≤ D.used ∧
      ((crD D us).f 0).held.length + ((crD D us).f 1).held.length + ((crD D us).f 2).held.length = (crD D us).used := by
  refine ⟨hO.used, ?_, ?_, rfl⟩
  · have h0 := FlV.held_le D.f0
    have h1 := FlV.held_le D.f1
    have h2 := FlV.held_le D.f2
    show D.f0.held.length + D.f1.held.length + D.f2.held.length ≤ D.f0.need + D.f1.need + D.f2.need
    omega
  · have h0 := FlV.settle_need (v := D.f0) (leftU D.f0 us 0)
    have h1 := FlV.settle_need (v := D.f1) (leftU D.f1 us 1)
    have h2 := FlV.settle_need (v := D.f2) (leftU D.f2 us 2)
    show (D.f0.settle (leftU D.f0 us 0)).need + (D.f1.settle (leftU D.f1 us 1)).need + (D.f2.settle (leftU D.f2 us 2)).need ≤ D.f0.need + D.f1.need + D.f2.need
    omega

/-- The sums and guards of the law, reckoned. -/
theorem room_nums (R : Int) (NU NV s0 s1 s2 r0 r1 r2 : Nat) (hR : R ≤ 65536) (m1 : (NU : Int) ≤ R) (m2 : s0 + s1 + s2 ≤ NU) (m3 : NV ≤ NU) (m4 : r0 + r1 + r2 = NV) :
    decide (R < (NU : Int)) = false ∧ IntKind.i64.wrap ((s0 : Int) + (s1 : Int)) = (s0 : Int) + (s1 : Int) ∧ IntKind.i64.wrap ((s0 : Int) + (s1 : Int) + (s2 : Int)) = (s0 : Int) + (s1 : Int) + (s2 : Int) ∧
      decide ((NU : Int) < (s0 : Int) + (s1 : Int) + (s2 : Int)) = false ∧ decide ((NU : Int) < (NV : Int)) = false ∧
      IntKind.i64.wrap ((r0 : Int) + (r1 : Int)) = (r0 : Int) + (r1 : Int) ∧ IntKind.i64.wrap ((r0 : Int) + (r1 : Int) + (r2 : Int)) = (r0 : Int) + (r1 : Int) + (r2 : Int) ∧ ((r0 : Int) + (r1 : Int) + (r2 : Int) != (NV : Int)) = false := by
  refine ⟨decide_eq_false (by omega), by rw [IntKind.wrap_i64]; omega, by rw [IntKind.wrap_i64]; omega, decide_eq_false (by omega), decide_eq_false (by omega), by rw [IntKind.wrap_i64]; omega, by rw [IntKind.wrap_i64]; omega, ?_⟩
  rw [bne_eq_false_iff_eq]
  omega
end Go.Proofs.YtnblknhdchpboaaDoor
