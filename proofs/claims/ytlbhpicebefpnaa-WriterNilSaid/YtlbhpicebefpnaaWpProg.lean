/-
  The landed writer as the laws of layer 10 take it ('writerProg'). Conditions: at most eighty million bytes.
-/
import Derived.Test.YtlbhpicebefpnaaWpCalls
import Derived.Test.YtlbhpicebefpnaaWrProg
namespace Go.Proofs.Ytlbhpicebefpnaa
open Go.RowKit

/-- A writer in memory, of at most ninety million bytes. -/
def WrIn (F : Nat → Prop) (w : World) (g : Nat) (r : Int) (xs : List Int) (e : Int) : Prop := WrAt F w g r xs e ∧ xs.length ≤ 90000000
theorem step_len (r : Int) (xs : List Int) (e : Int) (ys : List Int) : (wrStep r xs e ys).1.length ≤ xs.length + ys.length := by
  unfold wrStep
  split
  · exact Nat.le_add_right _ _
  · split
    · exact Nat.le_add_right _ _
    · rw [List.length_append]; exact Nat.le_refl _
theorem num_len (r : Int) (xs : List Int) (e N A : Int) : (wrNum r xs e N A).1.length ≤ xs.length + 8 := by
  unfold wrNum
  split
  · rename_i h
    refine Nat.le_trans (step_len _ _ _ _) ?_
    rw [beL_len]
    have := h.2.1
    omega
  · exact Nat.le_add_right _ _

def writerProg : WriterProg where
  Gl := fun _ => True
  N := 0
  gl_le := fun _ => Nat.zero_le _
  gl_keep := fun _ _ => trivial
  Wr := WrIn
  lt := fun h => h.1.lt
  keep := fun h hk hs => ⟨h.1.keep hk hs, h.2⟩
  new := fun r w _ _ h1 => (wNew_any r w h1).mono fun _ _ ⟨g, F, hq, hw, hF, hB⟩ => ⟨g, F, hq, ⟨hw, Nat.zero_le _⟩, hF, hB⟩
  num := fun _ _ _ _ _ N A _ _ h hm h0 _ _ _ => (wNum_any h.1 N A hm h0).mono fun _ _ ⟨F', hq, hw, hg, hM⟩ => ⟨F', hq, ⟨hw, Nat.le_trans (num_len _ _ _ _ _) (by omega)⟩, hg, hM⟩
  bytes := fun _ _ _ _ _ b m d ys _ _ h hI _ hb hm => (wBytes_any h.1 b m d ys hI hb hm).mono fun _ _ ⟨F', hq, hw, hg, hM⟩ => ⟨F', hq, ⟨hw, Nat.le_trans (step_len _ _ _ _) (by have := hI.len; omega)⟩, hg, hM⟩
  id := fun _ _ _ _ _ ys _ _ h hl _ hm => (wId_any h.1 ys hl hm).mono fun _ _ ⟨F', hq, hw, hg, hM⟩ => ⟨F', hq, ⟨hw, Nat.le_trans (step_len _ _ _ _) (by omega)⟩, hg, hM⟩
  hint := fun _ _ _ _ _ ys _ _ h hl _ hm => (wHint_any h.1 ys hl hm).mono fun _ _ ⟨F', hq, hw, hg, hM⟩ => ⟨F', hq, ⟨hw, Nat.le_trans (step_len _ _ _ _) (by omega)⟩, hg, hM⟩
  ids := fun _ _ _ _ _ b m d ys _ _ h hI _ hb hm => (wIds_any h.1 b m d ys hI hb hm).mono fun _ _ ⟨F', hq, hw, hg, hM⟩ => ⟨F', hq, ⟨hw, Nat.le_trans (step_len _ _ _ _) (by have := hI.1; omega)⟩, hg, hM⟩
  fail := fun _ _ _ _ _ x _ _ h => (wFail_any h.1 x h.2).mono fun _ _ ⟨F', hq, hw, hg, hM⟩ => ⟨F', hq, ⟨hw, h.2⟩, hg, hM⟩
  len := fun _ _ _ _ _ _ _ h => (wLen_any h.1).mono fun _ _ k => ⟨k.1, k.2 ▸ Below.refl _ _⟩
  err := fun _ _ _ _ _ _ _ h => (wErr_any h.1).mono fun _ _ k => ⟨k.1, k.2 ▸ Below.refl _ _⟩
  done := fun _ _ _ _ _ _ _ h => wDone_any h.1 (by have := h.2; omega)

end Go.Proofs.Ytlbhpicebefpnaa
