/-
  The landed writer where no call made it ('writerNilProg'), and the law WriterNil, as its statement's frame takes it. Conditions: at most 2^42 ids.
-/
import Derived.Test.YtlbhpicebefpnaaWpProg
import Derived.Test.YtlbhpicebefpnaaWpNil
namespace Go.Proofs.Ytlbhpicebefpnaa
open Go.RowKit

/-- A writer that no call made. -/
def UnAt (F : Nat → Prop) (w : World) (g : Nat) : Prop := Blk w g 58 wzC ∧ F g ∧ ∀ b, F b → b < w.heap.size
theorem UnAt.dead {F : Nat → Prop} {w : World} {g : Nat} (h : UnAt F w g) : Dead w (some ⟨g, 0, none⟩) := .inr ⟨g, rfl, h.1⟩
theorem UnAt.after {F : Nat → Prop} {w w' : World} {g : Nat} {q : Ending} (h : UnAt F w g) (k : q = .returned (.tuple #[]) ∧ Below w.heap.size w w') : ∃ F', q = .returned (.tuple #[]) ∧ UnAt F' w' g ∧ Grows F F' w ∧ Moved F w w' :=
  ⟨F, k.1, ⟨h.1.keep k.2 h.1.lt, h.2.1, fun b hb => Nat.lt_of_lt_of_le (h.2.2 b hb) k.2.size⟩, grows_self, Moved.of_below k.2⟩

def writerNilProg : WriterNilProg writerProg where
  Z := wzC
  zero := by unfold Zero; kernel_rfl
  Un := UnAt
  un := fun h => ⟨h, rfl, fun b hb => by rw [hb]; exact h.lt⟩
  keep := fun h _ hk hs => ⟨(hk _ h.2.1).trans h.1, h.2.1, fun b hb => Nat.lt_of_lt_of_le (h.2.2 b hb) hs⟩
  lt := fun h => h.2.2
  n_num := fun N A _ _ h0 _ _ _ => dNum_any (.inl rfl) N A h0
  n_bytes := fun b m d _ _ _ _ _ => dBytes_any (.inl rfl) b m d
  n_id := fun _ _ _ _ _ => dId_any (.inl rfl) _
  n_done := fun _ _ => (dDone_any (.inl rfl)).mono fun _ _ k => ⟨⟨none, 0, k.1⟩, k.2 ▸ Below.refl _ _⟩
  n_len := fun _ _ => (dLen_any (.inl rfl)).mono fun _ _ k => ⟨k.1, k.2 ▸ Below.refl _ _⟩
  n_err := fun _ _ => (dErr_any (.inl rfl)).mono fun _ _ k => ⟨k.1, k.2 ▸ Below.refl _ _⟩
  u_num := fun _ _ N A _ _ h h0 _ _ _ => (dNum_any h.dead N A h0).mono fun _ _ k => h.after k
  u_ids := fun _ _ b m d ys _ _ h hI hm => (dIds_any h.dead b m d ys hI hm).mono fun _ _ k => h.after k
  u_fail := fun _ _ x _ _ h => (dFail_any h.dead x).mono fun _ _ k => h.after k
  u_done := fun _ _ _ _ h => (dDone_any h.dead).mono fun _ _ k => ⟨⟨none, 0, k.1⟩, k.2 ▸ Below.refl _ _⟩
  u_len := fun _ _ _ _ h => (dLen_any h.dead).mono fun _ _ k => ⟨k.1, k.2 ▸ Below.refl _ _⟩
  u_err := fun _ _ _ _ h => (dErr_any h.dead).mono fun _ _ k => ⟨k.1, k.2 ▸ Below.refl _ _⟩
theorem law_nil (o : OpV) (w : World) (hO : o.Ok w) (hbc : o.bc ≤ maxLen) (_ : o.lc ≤ maxLen) (hln : o.ln ≤ 4398046511104) :
    Calls Try.prog 5 #[.agg o.cells.toArray] w fun q w' => q = .returned (.bool true) ∧ Below w.heap.size w w' :=
  nil10_any writerProg writerNilProg o w trivial hO hbc hln
end Go.Proofs.Ytlbhpicebefpnaa
