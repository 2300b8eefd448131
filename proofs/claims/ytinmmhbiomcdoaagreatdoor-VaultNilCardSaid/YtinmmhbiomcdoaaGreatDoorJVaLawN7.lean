/-
  Texts of stages that were proved on their own, joined: DkMem. Each begins with its own words.
-/
import Derived.Test.YtinmmhbiomcdoaaGreatDoorJVaLawN5
import Derived.Test.YtinmmhbiomcdoaaGreatDoorJVaLawN2

/-
  A landed disk in memory ('DkAt'): its room, fuse, whether it is down, its files; each file's kept bytes, its steps and what it holds. A block's label tells whose it is: 1: the disk's own, 2 + 2 i: what file i holds, 3 + 2 i: its steps, 0: another's; of P are the blocks that nobody writes to any more. No conditions.
-/
namespace Go.Proofs.YtinmmhbiomcdoaaGreatDoor
open Go.RowKit

/-- Where a file's slices lie. -/
structure FaV where
  ka : Option Addr
  kc : Nat
  sa : Option Addr
  sc : Nat
  ha : Option Addr
  hc : Nat
def fC (x : FaV) (v : FlV) : List Value := [.slice x.ka v.K.length x.kc, .slice x.sa v.S.length x.sc, .slice x.ha v.held.length x.hc, .int .i64 (v.need : Nat), .int .i64 (v.units : Nat)]
def dC (D : DkV) (x0 x1 x2 : FaV) : List Value := [.int .i64 D.room, .int .i64 D.fuse, .bool D.down] ++ (fC x0 D.f0 ++ (fC x1 D.f1 ++ fC x2 D.f2))
/-- A step as a value. -/
def StAt (P : Nat → Prop) (w : World) (v : Value) : StV → Prop
  | .put xs => ∃ a c, v = .iface 121 (.slice a xs.length c) ∧ Ints .u8 w a xs.length c xs ∧ ∀ x, a = some x → P x.block
  | .cut n => v = .iface 205 (.int .i64 (n : Int))
def StsAt (P : Nat → Prop) (w : World) (vs : List Value) (S : List StV) : Prop := vs.length = S.length ∧ ∀ (i : Nat) (s : StV), S[i]? = some s → ∃ v, vs[i]? = some v ∧ StAt P w v s
structure KepAt (P : Nat → Prop) (w : World) (a : Option Addr) (c : Nat) (K : List Int) : Prop where
  i : Ints .u8 w a K.length c K
  p : ∀ x, a = some x → P x.block
structure StpAt (L : Nat → Nat) (P : Nat → Prop) (w : World) (i : Nat) (a : Option Addr) (c : Nat) (S : List StV) : Prop where
  o : ∃ vs, w.ownsRow 0 169 1 (.slice a S.length c) S.length vs ∧ StsAt P w vs S
  l : ∀ x, a = some x → L x.block = 3 + 2 * i
structure HelAt (L : Nat → Nat) (w : World) (i : Nat) (a : Option Addr) (c : Nat) (H : List Int) : Prop where
  o : w.ownsRow 0 5 1 (.slice a H.length c) H.length (H.map (Value.int .u8))
  l : ∀ x, a = some x → L x.block = 2 + 2 * i
structure FlAt (L : Nat → Nat) (P : Nat → Prop) (w : World) (i : Nat) (x : FaV) (v : FlV) : Prop where
  k : KepAt P w x.ka x.kc v.K
  s : StpAt L P w i x.sa x.sc v.S
  h : HelAt L w i x.ha x.hc v.held
structure LabAt (L : Nat → Nat) (P : Nat → Prop) (w : World) : Prop where
  l : ∀ b, L b ≠ 0 → b < w.heap.size
  p : ∀ b, P b → b < w.heap.size ∧ L b = 0
structure DkAt (L : Nat → Nat) (P : Nat → Prop) (w : World) (g : Nat) (D : DkV) (x0 x1 x2 : FaV) : Prop where
  b : Blk w g 92 (dC D x0 x1 x2)
  g : L g = 1
  lab : LabAt L P w
  f0 : FlAt L P w 0 x0 D.f0
  f1 : FlAt L P w 1 x1 D.f1
  f2 : FlAt L P w 2 x2 D.f2

/-! ### What stays -/
theorem ints_same {k : IntKind} {w w' : World} {a : Option Addr} {n c : Nat} {xs : List Int} (h : Ints k w a n c xs) (hk : ∀ x, a = some x → w'.heap[x.block]? = w.heap[x.block]?) : Ints k w' a n c xs := by
  refine ⟨h.1, h.2.1, ?_⟩
  rcases h.2.2 with h0 | ⟨b, off, ha, hc⟩
  · exact .inl h0
  · refine .inr ⟨b, off, ha, fun i hi => ?_⟩
    have h1 := hc i hi
    have h2 := hk _ ha
    unfold World.cell? at h1 ⊢
    rw [h2]
    exact h1
theorem StAt.same {P P' : Nat → Prop} {w w' : World} {v : Value} {s : StV} (h : StAt P w v s) (hk : ∀ b, P b → w'.heap[b]? = w.heap[b]?) (hp : ∀ b, P b → P' b) : StAt P' w' v s := by
  cases s with
  | put xs =>
    obtain ⟨a, c, hv, hi, hP⟩ := h
    exact ⟨a, c, hv, ints_same hi (fun x hx => hk _ (hP x hx)), fun x hx => hp _ (hP x hx)⟩
  | cut n => exact h
theorem StsAt.same {P P' : Nat → Prop} {w w' : World} {vs : List Value} {S : List StV} (h : StsAt P w vs S) (hk : ∀ b, P b → w'.heap[b]? = w.heap[b]?) (hp : ∀ b, P b → P' b) : StsAt P' w' vs S :=
  ⟨h.1, fun i s hs => by obtain ⟨v, h1, h2⟩ := h.2 i s hs; exact ⟨v, h1, h2.same hk hp⟩⟩
theorem StsAt.snoc {P : Nat → Prop} {w : World} {vs : List Value} {S : List StV} (h : StsAt P w vs S) {v : Value} {s : StV} (hv : StAt P w v s) : StsAt P w (vs ++ [v]) (S ++ [s]) := by
  refine ⟨by rw [List.length_append, List.length_append, h.1]; rfl, fun i t ht => ?_⟩
  by_cases hi : i < S.length
  · rw [List.getElem?_append_left hi] at ht
    obtain ⟨u, h1, h2⟩ := h.2 i t ht
    exact ⟨u, by rw [List.getElem?_append_left (by rw [h.1]; exact hi)]; exact h1, h2⟩
  · rw [List.getElem?_append_right (by omega)] at ht
    have h0 : i - S.length = 0 := by
      have := (List.getElem?_eq_some_iff.1 ht).1
      simp at this
      omega
    rw [h0] at ht
    injection ht with ht
    subst ht
    exact ⟨v, by rw [List.getElem?_append_right (by rw [h.1]; omega), h.1, h0]; rfl, hv⟩
theorem StsAt.nil {P : Nat → Prop} {w : World} : StsAt P w [] [] := ⟨rfl, fun i s hs => by simp at hs⟩
theorem KepAt.same {P P' : Nat → Prop} {w w' : World} {a : Option Addr} {c : Nat} {K : List Int} (h : KepAt P w a c K) (hk : ∀ b, P b → w'.heap[b]? = w.heap[b]?) (hp : ∀ b, P b → P' b) : KepAt P' w' a c K :=
  ⟨ints_same h.i (fun x hx => hk _ (h.p x hx)), fun x hx => hp _ (h.p x hx)⟩
theorem StpAt.same {L L' : Nat → Nat} {P P' : Nat → Prop} {w w' : World} {i : Nat} {a : Option Addr} {c : Nat} {S : List StV} (h : StpAt L P w i a c S) (hk : ∀ b, P b ∨ L b = 3 + 2 * i → w'.heap[b]? = w.heap[b]?) (hp : ∀ b, P b → P' b) (hl : ∀ b, L b = 3 + 2 * i → L' b = 3 + 2 * i) : StpAt L' P' w' i a c S := by
  obtain ⟨vs, ho, hs⟩ := h.o
  exact ⟨⟨vs, own_same ho (fun b hb => by obtain ⟨x, ha, hx⟩ := slice_block hb; exact hk _ (.inr (by rw [← hx]; exact h.l x ha))), hs.same (fun b hb => hk b (.inl hb)) hp⟩, fun x hx => hl _ (h.l x hx)⟩
theorem HelAt.same {L L' : Nat → Nat} {w w' : World} {i : Nat} {a : Option Addr} {c : Nat} {H : List Int} (h : HelAt L w i a c H) (hk : ∀ b, L b = 2 + 2 * i → w'.heap[b]? = w.heap[b]?) (hl : ∀ b, L b = 2 + 2 * i → L' b = 2 + 2 * i) : HelAt L' w' i a c H :=
  ⟨own_same h.o (fun b hb => by obtain ⟨x, ha, hx⟩ := slice_block hb; exact hk _ (by rw [← hx]; exact h.l x ha)), fun x hx => hl _ (h.l x hx)⟩
/-- The labels of file i. -/
def isF (i l : Nat) : Prop := l = 2 + 2 * i ∨ l = 3 + 2 * i
theorem FlAt.same {L L' : Nat → Nat} {P P' : Nat → Prop} {w w' : World} {i : Nat} {x : FaV} {v : FlV} (h : FlAt L P w i x v) (hk : ∀ b, P b ∨ isF i (L b) → w'.heap[b]? = w.heap[b]?) (hp : ∀ b, P b → P' b) (hl : ∀ b, isF i (L b) → L' b = L b) : FlAt L' P' w' i x v :=
  ⟨h.k.same (fun b hb => hk b (.inl hb)) hp, h.s.same (fun b hb => hk b (hb.imp id .inr)) hp (fun b hb => (hl b (.inr hb)).trans hb), h.h.same (fun b hb => hk b (.inr (.inl hb))) (fun b hb => (hl b (.inl hb)).trans hb)⟩
/-- What a call that works on a disk leaves: labels and P of before, and new blocks. -/
structure Went (L : Nat → Nat) (P : Nat → Prop) (w : World) (L' : Nat → Nat) (P' : Nat → Prop) (w' : World) : Prop where
  m : Moved (fun b => L b ≠ 0) w w'
  l : ∀ b, b < w.heap.size → L' b = L b
  p : ∀ b, P b → P' b
  q : ∀ b, P' b → P b ∨ w.heap.size ≤ b
theorem Went.rfl' {L : Nat → Nat} {P : Nat → Prop} {w : World} : Went L P w L P w := ⟨Moved.rfl', fun _ _ => rfl, fun _ h => h, fun _ h => .inl h⟩
theorem Went.trans {L L1 L2 : Nat → Nat} {P P1 P2 : Nat → Prop} {w w1 w2 : World} (a : Went L P w L1 P1 w1) (b : Went L1 P1 w1 L2 P2 w2) : Went L P w L2 P2 w2 :=
  ⟨⟨a.m.1.trans b.m.1, fun x hx hn => (b.m.2 x (Nat.lt_of_lt_of_le hx a.m.size) (by show ¬ (L1 x ≠ 0); rw [a.l x hx]; exact hn)).trans (a.m.2 x hx hn)⟩, fun x hx => (b.l x (Nat.lt_of_lt_of_le hx a.m.size)).trans (a.l x hx), fun x hx => b.p x (a.p x hx), fun x hx => by
    rcases b.q x hx with h | h
    · exact a.q x h
    · exact .inr (Nat.le_trans a.m.size h)⟩
/-- New memory alone was written, beside the disk. -/
theorem DkAt.keep {L : Nat → Nat} {P : Nat → Prop} {w w' : World} {g : Nat} {D : DkV} {x0 x1 x2 : FaV} (h : DkAt L P w g D x0 x1 x2) (hb : Below w.heap.size w w') : DkAt L P w' g D x0 x1 x2 := by
  have hs := hb.size
  have hP : ∀ b, P b → w'.heap[b]? = w.heap[b]? := fun b h1 => hb.block b (h.lab.p b h1).1
  have hL : ∀ b, L b ≠ 0 → w'.heap[b]? = w.heap[b]? := fun b h1 => hb.block b (h.lab.l b h1)
  have hf : ∀ i b, P b ∨ isF i (L b) → w'.heap[b]? = w.heap[b]? := fun i b h1 => by
    rcases h1 with h1 | h1
    · exact hP b h1
    · exact hL b (by unfold isF at h1; omega)
  exact ⟨h.b.keep hb (h.lab.l g (by rw [h.g]; decide)), h.g, ⟨fun b h1 => Nat.lt_of_lt_of_le (h.lab.l b h1) hs, fun b h1 => ⟨Nat.lt_of_lt_of_le (h.lab.p b h1).1 hs, (h.lab.p b h1).2⟩⟩,
    h.f0.same (hf 0) (fun _ h => h) (fun _ _ => rfl), h.f1.same (hf 1) (fun _ h => h) (fun _ _ => rfl), h.f2.same (hf 2) (fun _ h => h) (fun _ _ => rfl)⟩
/-- What another disk does: none of this one's blocks is its own. -/
theorem DkAt.far {L : Nat → Nat} {P : Nat → Prop} {w w' : World} {g : Nat} {D : DkV} {x0 x1 x2 : FaV} (h : DkAt L P w g D x0 x1 x2) {F : Nat → Prop} (hm : Moved F w w') (hF : ∀ b, L b ≠ 0 ∨ P b → ¬ F b) : DkAt L P w' g D x0 x1 x2 := by
  have hs := hm.size
  have hP : ∀ b, P b → w'.heap[b]? = w.heap[b]? := fun b h1 => hm.2 b (h.lab.p b h1).1 (hF b (.inr h1))
  have hL : ∀ b, L b ≠ 0 → w'.heap[b]? = w.heap[b]? := fun b h1 => hm.2 b (h.lab.l b h1) (hF b (.inl h1))
  have hf : ∀ i b, P b ∨ isF i (L b) → w'.heap[b]? = w.heap[b]? := fun i b h1 => by
    rcases h1 with h1 | h1
    · exact hP b h1
    · exact hL b (by unfold isF at h1; omega)
  exact ⟨(hL g (by rw [h.g]; decide)).trans h.b, h.g, ⟨fun b h1 => Nat.lt_of_lt_of_le (h.lab.l b h1) hs, fun b h1 => ⟨Nat.lt_of_lt_of_le (h.lab.p b h1).1 hs, (h.lab.p b h1).2⟩⟩,
    h.f0.same (hf 0) (fun _ h => h) (fun _ _ => rfl), h.f1.same (hf 1) (fun _ h => h) (fun _ _ => rfl), h.f2.same (hf 2) (fun _ h => h) (fun _ _ => rfl)⟩
/-- Files by their numbers. -/
theorem DkAt.fl {L : Nat → Nat} {P : Nat → Prop} {w : World} {g : Nat} {D : DkV} {x0 x1 x2 : FaV} (h : DkAt L P w g D x0 x1 x2) (i : Nat) (hi : i < 3) :
    ∃ x, FlAt L P w i x (D.f i) ∧ ∀ j v, (fC x (D.f i))[j]? = some v → (dC D x0 x1 x2)[3 + 5 * i + j]? = some v := by
  have hj : ∀ (x : FaV) (v : FlV) (j : Nat) (u : Value), (fC x v)[j]? = some u → j < 5 := fun x v j u h => (List.getElem?_eq_some_iff.1 h).1
  match i, hi with
  | 0, _ => exact ⟨x0, h.f0, fun j v hv => by
      have := hj _ _ _ _ hv
      match j, this with
      | 0, _ => exact hv
      | 1, _ => exact hv
      | 2, _ => exact hv
      | 3, _ => exact hv
      | 4, _ => exact hv⟩
  | 1, _ => exact ⟨x1, h.f1, fun j v hv => by
      have := hj _ _ _ _ hv
      match j, this with
      | 0, _ => exact hv
      | 1, _ => exact hv
      | 2, _ => exact hv
      | 3, _ => exact hv
      | 4, _ => exact hv⟩
  | 2, _ => exact ⟨x2, h.f2, fun j v hv => by
      have := hj _ _ _ _ hv
      match j, this with
      | 0, _ => exact hv
      | 1, _ => exact hv
      | 2, _ => exact hv
      | 3, _ => exact hv
      | 4, _ => exact hv⟩
/-- A file's cells. -/
theorem fcells {w : World} {g o : Nat} {t : TypeId} {cs : List Value} {x : FaV} {v : FlV} (h : Blk w g t cs) (hc : ∀ j u, (fC x v)[j]? = some u → cs[o + j]? = some u) :
    w.cell? ⟨g, o, none⟩ = some (.slice x.ka v.K.length x.kc) ∧ w.cell? ⟨g, o + 1, none⟩ = some (.slice x.sa v.S.length x.sc) ∧ w.cell? ⟨g, o + 2, none⟩ = some (.slice x.ha v.held.length x.hc) ∧ w.cell? ⟨g, o + 3, none⟩ = some (.int .i64 (v.need : Nat)) ∧ w.cell? ⟨g, o + 4, none⟩ = some (.int .i64 (v.units : Nat)) :=
  ⟨by rw [h.cell]; exact hc 0 _ rfl, by rw [h.cell]; exact hc 1 _ rfl, by rw [h.cell]; exact hc 2 _ rfl, by rw [h.cell]; exact hc 3 _ rfl, by rw [h.cell]; exact hc 4 _ rfl⟩
theorem dcells {w : World} {g : Nat} {D : DkV} {x0 x1 x2 : FaV} (h : Blk w g 92 (dC D x0 x1 x2)) :
    w.cell? ⟨g, 0, none⟩ = some (.int .i64 D.room) ∧ w.cell? ⟨g, 1, none⟩ = some (.int .i64 D.fuse) ∧ w.cell? ⟨g, 2, none⟩ = some (.bool D.down) := ⟨h.cell 0, h.cell 1, h.cell 2⟩
theorem own_ints' {w : World} {a : Option Addr} {n c B : Nat} {xs : List Int} (h : w.ownsRow B 5 1 (.slice a n c) n (xs.map (Value.int .u8))) : Ints .u8 w a n c xs := by
  obtain ⟨a5, c5, hv, hi⟩ := Ints.of_owns h
  injection hv with e1 _ e2
  subst e1; subst e2
  exact hi
end Go.Proofs.YtinmmhbiomcdoaaGreatDoor
