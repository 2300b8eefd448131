/-
  Texts of stages that were proved on their own, joined: Clone, DkMem, AppendTx. Each begins with its own words.
-/
import Derived.Test.YtcohbhimhacedaaGreatDoorProg
import Derived.Test.YtcohbhimhacedaaGreatDoorBlocks2
import Derived.Test.YtcohbhimhacedaaGreatDoorJSzAll1
import Derived.Test.YtcohbhimhacedaaGreatDoorAppendAt
import Derived.RegionTactic
import Derived.ChangeAlike
import Derived.Deep.QuietTactic
import Derived.BigQuiet
import Derived.Test.YtcohbhimhacedaaGreatDoorJSzAll0

/-
  A row of the call's own stays where its block stays; bytes.Clone. New memory alone is written. Conditions: at most 2^32 bytes. (Cut out of the texts of layers 9 and 10.)
-/
namespace Go.Proofs.YtcohbhimhacedaaGreatDoor
open Go.RowKit

theorem info_u8b : ∃ i, Tryz.prog.info? 5 = some i ∧ i.zero = some (.int .u8 0) ∧ i.size = 1 ∧ i.bytes = 1 := by
  have h : (Tryz.prog.info? 5).map (fun i => (i.zero, i.size, i.bytes)) = some (some (.int .u8 0), 1, 1) := by kernel_rfl
  cases hq : Tryz.prog.info? 5 with
  | none => simp [hq] at h
  | some i => rw [hq] at h; simp at h; exact ⟨i, rfl, h.1, h.2.1, h.2.2⟩

theorem own_same {w w' : World} {B : Nat} {e : TypeId} {v : Value} {n : Nat} {vs : List Value} (h : w.ownsRow B e 1 v n vs) (hk : ∀ b, v.ownBlock = some b → w'.heap[b]? = w.heap[b]?) : w'.ownsRow B e 1 v n vs := by
  refine ⟨h.1, ?_⟩
  rcases h.2 with h0 | ⟨g, cap, cur, hv, hb, hg, hr⟩
  · exact .inl h0
  · exact .inr ⟨g, cap, cur, hv, hb, (hk g (by rw [hv]; rfl)).trans hg, hr⟩
theorem slice_block {a : Option Addr} {n c b : Nat} (h : (Value.slice a n c).ownBlock = some b) : ∃ x, a = some x ∧ x.block = b := by
  cases a with
  | none => cases h
  | some x => exact ⟨x, rfl, by injection h⟩

theorem pNone (cap : Nat) (w : World) : Sem.run Tryz.prog (binOp BinOp.eql 22 (.slice none 0 cap) (.slice none 0 0)) w = .ok (.bool true) w := by kernel_rfl
theorem pSome (x : Addr) (n cap : Nat) (w : World) : Sem.run Tryz.prog (binOp BinOp.eql 22 (.slice (some x) n cap) (.slice none 0 0)) w = .ok (.bool false) w := by kernel_rfl

set_option maxRecDepth 100000 in
set_option maxHeartbeats 800000 in
theorem pClone_any (a : Option Addr) (n cap : Nat) (xs : List Int) (w : World) (hI : Ints .u8 w a n cap xs) (hn : n ≤ 4294967296) :
    Calls Tryz.prog 20 #[.slice a n cap] w fun e w' => ∃ b c, e = .returned (.slice b n c) ∧ w'.ownsRow w.heap.size 5 1 (.slice b n c) n (xs.map (Value.int .u8)) ∧ Below w.heap.size w w' := by
  obtain ⟨i0, hi, hz0, hz1, hz2⟩ := info_u8b
  have hnH := Lib.hid hn
  clear hn
  go_enter Tryz.func20, Tryz.ntmps20
  cases a with
  | none =>
    have h0 : n = 0 := by
      rcases hI.2.2 with h | ⟨b, off, h, _⟩
      · exact h
      · cases h
    subst h0
    obtain rfl : xs = [] := List.length_eq_zero_iff.1 hI.1
    have heq := pNone cap
    go_wp2
    go_ret
    exact ⟨none, 0, rfl, World.ownsRow_nil _ _ _ _, Below.refl _ _⟩
  | some ad =>
    have q3 : Below w.heap.size w (w.alloc (.cells #[] 5)) := below1 _ _
    have I3 := Lib.hid (hI.keep q3)
    have heq := pSome ad n cap
    clear hI
    go_wp2_with (at_builtin
                 refine wpList_append_ints rfl (.tmp 5) (.tmp 6) 22 rfl w.heap.size 5 i0 (.int .u8 0) 1 Tryz.underlying22 hi hz0 hz1 hz2 rfl rfl (World.ownsRow_made w #[] 0 (Nat.le_refl _) (Nat.zero_le _) rfl) rfl I3.out ?_ ?_ q3.size ?_
                 (have := hnH.out; unfold maxLen; omega)
                 (have := hnH.out; omega)
                 intro v4 w4 hown4 hg4
                 refine RowKit.Hid.out ?_)
    refine Lib.hid ?_
    rw [List.nil_append, Nat.zero_add] at hown4
    have hex : ∃ b c, v4 = .slice b n c := own_slice hown4
    obtain ⟨b, c, hv⟩ := hex
    rw [hv] at hown4 ⊢
    have hB : Below w.heap.size w w4 := q3.grown hg4 q3.size (fun q hq => by injection hq with hq; rw [← hq]; exact Nat.le_refl _)
    go_wp2
    go_ret
    exact ⟨b, c, rfl, hown4, hB⟩

end Go.Proofs.YtcohbhimhacedaaGreatDoor

/-
  A landed disk in memory ('DkAt'): its room, fuse, whether it is down, its files; each file's kept bytes, its steps and what it holds. A block's label tells whose it is: 1: the disk's own, 2 + 2 i: what file i holds, 3 + 2 i: its steps, 0: another's; of P are the blocks that nobody writes to any more. No conditions.
-/
namespace Go.Proofs.YtcohbhimhacedaaGreatDoor
open Go.RowKit

/-- Where a file's slices lie. -/
structure FaV where
  ka : Option Addr
  kc : Nat
  sa : Option Addr
  sc : Nat
  ha : Option Addr
  hc : Nat
def fC (x : FaV) (v : FlV) : List Value := [.slice x.ka v.K.length x.kc, .slice x.sa v.S.length x.sc, .slice x.ha v.held.length x.hc, .int .i64 (v.need : Nat), .int .i64 (v.units : Nat)]
def dC (D : DkV) (x0 x1 x2 : FaV) : List Value := [.int .i64 D.room, .int .i64 D.fuse, .bool D.down] ++ (fC x0 D.f0 ++ (fC x1 D.f1 ++ fC x2 D.f2))
/-- A step as a value. -/
def StAt (P : Nat → Prop) (w : World) (v : Value) : StV → Prop
  | .put xs => ∃ a c, v = .iface 70 (.slice a xs.length c) ∧ Ints .u8 w a xs.length c xs ∧ ∀ x, a = some x → P x.block
  | .cut n => v = .iface 122 (.int .i64 (n : Int))
def StsAt (P : Nat → Prop) (w : World) (vs : List Value) (S : List StV) : Prop := vs.length = S.length ∧ ∀ (i : Nat) (s : StV), S[i]? = some s → ∃ v, vs[i]? = some v ∧ StAt P w v s
structure KepAt (P : Nat → Prop) (w : World) (a : Option Addr) (c : Nat) (K : List Int) : Prop where
  i : Ints .u8 w a K.length c K
  p : ∀ x, a = some x → P x.block
structure StpAt (L : Nat → Nat) (P : Nat → Prop) (w : World) (i : Nat) (a : Option Addr) (c : Nat) (S : List StV) : Prop where
  o : ∃ vs, w.ownsRow 0 97 1 (.slice a S.length c) S.length vs ∧ StsAt P w vs S
  l : ∀ x, a = some x → L x.block = 3 + 2 * i
structure HelAt (L : Nat → Nat) (w : World) (i : Nat) (a : Option Addr) (c : Nat) (H : List Int) : Prop where
  o : w.ownsRow 0 5 1 (.slice a H.length c) H.length (H.map (Value.int .u8))
  l : ∀ x, a = some x → L x.block = 2 + 2 * i
structure FlAt (L : Nat → Nat) (P : Nat → Prop) (w : World) (i : Nat) (x : FaV) (v : FlV) : Prop where
  k : KepAt P w x.ka x.kc v.K
  s : StpAt L P w i x.sa x.sc v.S
  h : HelAt L w i x.ha x.hc v.held
structure LabAt (L : Nat → Nat) (P : Nat → Prop) (w : World) : Prop where
  l : ∀ b, L b ≠ 0 → b < w.heap.size
  p : ∀ b, P b → b < w.heap.size ∧ L b = 0
structure DkAt (L : Nat → Nat) (P : Nat → Prop) (w : World) (g : Nat) (D : DkV) (x0 x1 x2 : FaV) : Prop where
  b : Blk w g 59 (dC D x0 x1 x2)
  g : L g = 1
  lab : LabAt L P w
  f0 : FlAt L P w 0 x0 D.f0
  f1 : FlAt L P w 1 x1 D.f1
  f2 : FlAt L P w 2 x2 D.f2

/-! ### What stays -/
theorem ints_same {k : IntKind} {w w' : World} {a : Option Addr} {n c : Nat} {xs : List Int} (h : Ints k w a n c xs) (hk : ∀ x, a = some x → w'.heap[x.block]? = w.heap[x.block]?) : Ints k w' a n c xs := by
  refine ⟨h.1, h.2.1, ?_⟩
  rcases h.2.2 with h0 | ⟨b, off, ha, hc⟩
  · exact .inl h0
  · refine .inr ⟨b, off, ha, fun i hi => ?_⟩
    have h1 := hc i hi
    have h2 := hk _ ha
    unfold World.cell? at h1 ⊢
    rw [h2]
    exact h1
theorem StAt.same {P P' : Nat → Prop} {w w' : World} {v : Value} {s : StV} (h : StAt P w v s) (hk : ∀ b, P b → w'.heap[b]? = w.heap[b]?) (hp : ∀ b, P b → P' b) : StAt P' w' v s := by
  cases s with
  | put xs =>
    obtain ⟨a, c, hv, hi, hP⟩ := h
    exact ⟨a, c, hv, ints_same hi (fun x hx => hk _ (hP x hx)), fun x hx => hp _ (hP x hx)⟩
  | cut n => exact h
theorem StsAt.same {P P' : Nat → Prop} {w w' : World} {vs : List Value} {S : List StV} (h : StsAt P w vs S) (hk : ∀ b, P b → w'.heap[b]? = w.heap[b]?) (hp : ∀ b, P b → P' b) : StsAt P' w' vs S :=
  ⟨h.1, fun i s hs => by obtain ⟨v, h1, h2⟩ := h.2 i s hs; exact ⟨v, h1, h2.same hk hp⟩⟩
theorem StsAt.snoc {P : Nat → Prop} {w : World} {vs : List Value} {S : List StV} (h : StsAt P w vs S) {v : Value} {s : StV} (hv : StAt P w v s) : StsAt P w (vs ++ [v]) (S ++ [s]) := by
  refine ⟨by rw [List.length_append, List.length_append, h.1]; rfl, fun i t ht => ?_⟩
  by_cases hi : i < S.length
  · rw [List.getElem?_append_left hi] at ht
    obtain ⟨u, h1, h2⟩ := h.2 i t ht
    exact ⟨u, by rw [List.getElem?_append_left (by rw [h.1]; exact hi)]; exact h1, h2⟩
  · rw [List.getElem?_append_right (by omega)] at ht
    have h0 : i - S.length = 0 := by
      have := (List.getElem?_eq_some_iff.1 ht).1
      simp at this
      omega
    rw [h0] at ht
    injection ht with ht
    subst ht
    exact ⟨v, by rw [List.getElem?_append_right (by rw [h.1]; omega), h.1, h0]; rfl, hv⟩
theorem StsAt.nil {P : Nat → Prop} {w : World} : StsAt P w [] [] := ⟨rfl, fun i s hs => by simp at hs⟩
theorem KepAt.same {P P' : Nat → Prop} {w w' : World} {a : Option Addr} {c : Nat} {K : List Int} (h : KepAt P w a c K) (hk : ∀ b, P b → w'.heap[b]? = w.heap[b]?) (hp : ∀ b, P b → P' b) : KepAt P' w' a c K :=
  ⟨ints_same h.i (fun x hx => hk _ (h.p x hx)), fun x hx => hp _ (h.p x hx)⟩
theorem StpAt.same {L L' : Nat → Nat} {P P' : Nat → Prop} {w w' : World} {i : Nat} {a : Option Addr} {c : Nat} {S : List StV} (h : StpAt L P w i a c S) (hk : ∀ b, P b ∨ L b = 3 + 2 * i → w'.heap[b]? = w.heap[b]?) (hp : ∀ b, P b → P' b) (hl : ∀ b, L b = 3 + 2 * i → L' b = 3 + 2 * i) : StpAt L' P' w' i a c S := by
  obtain ⟨vs, ho, hs⟩ := h.o
  exact ⟨⟨vs, own_same ho (fun b hb => by obtain ⟨x, ha, hx⟩ := slice_block hb; exact hk _ (.inr (by rw [← hx]; exact h.l x ha))), hs.same (fun b hb => hk b (.inl hb)) hp⟩, fun x hx => hl _ (h.l x hx)⟩
theorem HelAt.same {L L' : Nat → Nat} {w w' : World} {i : Nat} {a : Option Addr} {c : Nat} {H : List Int} (h : HelAt L w i a c H) (hk : ∀ b, L b = 2 + 2 * i → w'.heap[b]? = w.heap[b]?) (hl : ∀ b, L b = 2 + 2 * i → L' b = 2 + 2 * i) : HelAt L' w' i a c H :=
  ⟨own_same h.o (fun b hb => by obtain ⟨x, ha, hx⟩ := slice_block hb; exact hk _ (by rw [← hx]; exact h.l x ha)), fun x hx => hl _ (h.l x hx)⟩
/-- The labels of file i. -/
def isF (i l : Nat) : Prop := l = 2 + 2 * i ∨ l = 3 + 2 * i
theorem FlAt.same {L L' : Nat → Nat} {P P' : Nat → Prop} {w w' : World} {i : Nat} {x : FaV} {v : FlV} (h : FlAt L P w i x v) (hk : ∀ b, P b ∨ isF i (L b) → w'.heap[b]? = w.heap[b]?) (hp : ∀ b, P b → P' b) (hl : ∀ b, isF i (L b) → L' b = L b) : FlAt L' P' w' i x v :=
  ⟨h.k.same (fun b hb => hk b (.inl hb)) hp, h.s.same (fun b hb => hk b (hb.imp id .inr)) hp (fun b hb => (hl b (.inr hb)).trans hb), h.h.same (fun b hb => hk b (.inr (.inl hb))) (fun b hb => (hl b (.inl hb)).trans hb)⟩
/-- What a call that works on a disk leaves: labels and P of before, and new blocks. -/
structure Went (L : Nat → Nat) (P : Nat → Prop) (w : World) (L' : Nat → Nat) (P' : Nat → Prop) (w' : World) : Prop where
  m : Moved (fun b => L b ≠ 0) w w'
  l : ∀ b, b < w.heap.size → L' b = L b
  p : ∀ b, P b → P' b
  q : ∀ b, P' b → P b ∨ w.heap.size ≤ b
theorem Went.trans {L L1 L2 : Nat → Nat} {P P1 P2 : Nat → Prop} {w w1 w2 : World} (a : Went L P w L1 P1 w1) (b : Went L1 P1 w1 L2 P2 w2) : Went L P w L2 P2 w2 :=
  ⟨⟨a.m.1.trans b.m.1, fun x hx hn => (b.m.2 x (Nat.lt_of_lt_of_le hx a.m.size) (by show ¬ (L1 x ≠ 0); rw [a.l x hx]; exact hn)).trans (a.m.2 x hx hn)⟩, fun x hx => (b.l x (Nat.lt_of_lt_of_le hx a.m.size)).trans (a.l x hx), fun x hx => b.p x (a.p x hx), fun x hx => by
    rcases b.q x hx with h | h
    · exact a.q x h
    · exact .inr (Nat.le_trans a.m.size h)⟩
/-- New memory alone was written, beside the disk. -/
theorem DkAt.keep {L : Nat → Nat} {P : Nat → Prop} {w w' : World} {g : Nat} {D : DkV} {x0 x1 x2 : FaV} (h : DkAt L P w g D x0 x1 x2) (hb : Below w.heap.size w w') : DkAt L P w' g D x0 x1 x2 := by
  have hs := hb.size
  have hP : ∀ b, P b → w'.heap[b]? = w.heap[b]? := fun b h1 => hb.block b (h.lab.p b h1).1
  have hL : ∀ b, L b ≠ 0 → w'.heap[b]? = w.heap[b]? := fun b h1 => hb.block b (h.lab.l b h1)
  have hf : ∀ i b, P b ∨ isF i (L b) → w'.heap[b]? = w.heap[b]? := fun i b h1 => by
    rcases h1 with h1 | h1
    · exact hP b h1
    · exact hL b (by unfold isF at h1; omega)
  exact ⟨h.b.keep hb (h.lab.l g (by rw [h.g]; decide)), h.g, ⟨fun b h1 => Nat.lt_of_lt_of_le (h.lab.l b h1) hs, fun b h1 => ⟨Nat.lt_of_lt_of_le (h.lab.p b h1).1 hs, (h.lab.p b h1).2⟩⟩,
    h.f0.same (hf 0) (fun _ h => h) (fun _ _ => rfl), h.f1.same (hf 1) (fun _ h => h) (fun _ _ => rfl), h.f2.same (hf 2) (fun _ h => h) (fun _ _ => rfl)⟩
/-- What another disk does: none of this one's blocks is its own. -/
theorem DkAt.far {L : Nat → Nat} {P : Nat → Prop} {w w' : World} {g : Nat} {D : DkV} {x0 x1 x2 : FaV} (h : DkAt L P w g D x0 x1 x2) {F : Nat → Prop} (hm : Moved F w w') (hF : ∀ b, L b ≠ 0 ∨ P b → ¬ F b) : DkAt L P w' g D x0 x1 x2 := by
  have hs := hm.size
  have hP : ∀ b, P b → w'.heap[b]? = w.heap[b]? := fun b h1 => hm.2 b (h.lab.p b h1).1 (hF b (.inr h1))
  have hL : ∀ b, L b ≠ 0 → w'.heap[b]? = w.heap[b]? := fun b h1 => hm.2 b (h.lab.l b h1) (hF b (.inl h1))
  have hf : ∀ i b, P b ∨ isF i (L b) → w'.heap[b]? = w.heap[b]? := fun i b h1 => by
    rcases h1 with h1 | h1
    · exact hP b h1
    · exact hL b (by unfold isF at h1; omega)
  exact ⟨(hL g (by rw [h.g]; decide)).trans h.b, h.g, ⟨fun b h1 => Nat.lt_of_lt_of_le (h.lab.l b h1) hs, fun b h1 => ⟨Nat.lt_of_lt_of_le (h.lab.p b h1).1 hs, (h.lab.p b h1).2⟩⟩,
    h.f0.same (hf 0) (fun _ h => h) (fun _ _ => rfl), h.f1.same (hf 1) (fun _ h => h) (fun _ _ => rfl), h.f2.same (hf 2) (fun _ h => h) (fun _ _ => rfl)⟩
/-- Files by their numbers. -/
theorem DkAt.fl {L : Nat → Nat} {P : Nat → Prop} {w : World} {g : Nat} {D : DkV} {x0 x1 x2 : FaV} (h : DkAt L P w g D x0 x1 x2) (i : Nat) (hi : i < 3) :
    ∃ x, FlAt L P w i x (D.f i) ∧ ∀ j v, (fC x (D.f i))[j]? = some v → (dC D x0 x1 x2)[3 + 5 * i + j]? = some v := by
  have hj : ∀ (x : FaV) (v : FlV) (j : Nat) (u : Value), (fC x v)[j]? = some u → j < 5 := fun x v j u h => (List.getElem?_eq_some_iff.1 h).1
  match i, hi with
  | 0, _ => exact ⟨x0, h.f0, fun j v hv => by
      have := hj _ _ _ _ hv
      match j, this with
      | 0, _ => exact hv
      | 1, _ => exact hv
      | 2, _ => exact hv
      | 3, _ => exact hv
      | 4, _ => exact hv⟩
  | 1, _ => exact ⟨x1, h.f1, fun j v hv => by
      have := hj _ _ _ _ hv
      match j, this with
      | 0, _ => exact hv
      | 1, _ => exact hv
      | 2, _ => exact hv
      | 3, _ => exact hv
      | 4, _ => exact hv⟩
  | 2, _ => exact ⟨x2, h.f2, fun j v hv => by
      have := hj _ _ _ _ hv
      match j, this with
      | 0, _ => exact hv
      | 1, _ => exact hv
      | 2, _ => exact hv
      | 3, _ => exact hv
      | 4, _ => exact hv⟩
/-- A file's cells. -/
theorem fcells {w : World} {g o : Nat} {t : TypeId} {cs : List Value} {x : FaV} {v : FlV} (h : Blk w g t cs) (hc : ∀ j u, (fC x v)[j]? = some u → cs[o + j]? = some u) :
    w.cell? ⟨g, o, none⟩ = some (.slice x.ka v.K.length x.kc) ∧ w.cell? ⟨g, o + 1, none⟩ = some (.slice x.sa v.S.length x.sc) ∧ w.cell? ⟨g, o + 2, none⟩ = some (.slice x.ha v.held.length x.hc) ∧ w.cell? ⟨g, o + 3, none⟩ = some (.int .i64 (v.need : Nat)) ∧ w.cell? ⟨g, o + 4, none⟩ = some (.int .i64 (v.units : Nat)) :=
  ⟨by rw [h.cell]; exact hc 0 _ rfl, by rw [h.cell]; exact hc 1 _ rfl, by rw [h.cell]; exact hc 2 _ rfl, by rw [h.cell]; exact hc 3 _ rfl, by rw [h.cell]; exact hc 4 _ rfl⟩
theorem dcells {w : World} {g : Nat} {D : DkV} {x0 x1 x2 : FaV} (h : Blk w g 59 (dC D x0 x1 x2)) :
    w.cell? ⟨g, 0, none⟩ = some (.int .i64 D.room) ∧ w.cell? ⟨g, 1, none⟩ = some (.int .i64 D.fuse) ∧ w.cell? ⟨g, 2, none⟩ = some (.bool D.down) := ⟨h.cell 0, h.cell 1, h.cell 2⟩
theorem own_ints' {w : World} {a : Option Addr} {n c B : Nat} {xs : List Int} (h : w.ownsRow B 5 1 (.slice a n c) n (xs.map (Value.int .u8))) : Ints .u8 w a n c xs := by
  obtain ⟨a5, c5, hv, hi⟩ := Ints.of_owns h
  injection hv with e1 _ e2
  subst e1; subst e2
  exact hi
end Go.Proofs.YtcohbhimhacedaaGreatDoor

/-
  append of a slice of another slice type; a slice cut at its upper end, as Ints and as a row of the call's own. Laws about the model's own words; no Go function is spoken of.
-/
namespace Go.Proofs.YtcohbhimhacedaaGreatDoor
open Go.RowKit

section
variable {P : Program} {w : World}
theorem run_append_tx (t tx e e' ty : TypeId) (i : TypeInfo) (ht : P.underlying t = some (.slice e)) (hx : P.underlying tx = some (.slice e')) (hi : P.info? e = some i) (A B : Option Addr) (n c m d : Nat) :
    (Builtin.append_ #[t, tx] ty #[.slice A n c, .slice B m d]).run P w = (Builtin.append_ #[t, t] ty #[.slice A n c, .slice B m d]).run P w := by
  simp [Builtin.append_, run_underlying ht, run_underlying hx, sizeOf, typeInfo, hi, Builtin.lenOf]
theorem wpList_append_ints_tx {ops : Array Oper} {rest : List Oper} {o : Oper} {a : Act} {Q : Exit → Act → World → Prop} (hgd : o.guard = none) (s x : Operand) (t tx e' : TypeId)
    (ho : o.op = .call { callee := .builtin .append, args := #[s, x], argTypes := #[t, tx] })
    (base : Nat) (e : TypeId) (i : TypeInfo) (z : Value) (bytes : Nat) (ht : P.underlying t = some (.slice e)) (htx : P.underlying tx = some (.slice e')) (hi : P.info? e = some i) (hz : i.zero = some z)
    (hsize : i.size = 1) (hby : i.bytes = bytes) (hzs : z.cells.size = 1)
    {v : Value} {n : Nat} {xs : List Value} (hs : a.eval s = v) (hown : w.ownsRow base e 1 v n xs)
    {k : IntKind} {A : Option Addr} {m c : Nat} {ys : List Int} (hx : a.eval x = .slice A m c) (hy : Ints k w A m c ys)
    (h63 : n + m ≤ maxLen) (hbytes : (n + m) * bytes ≤ 140737488355328) (hbase : base ≤ w.heap.size)
    (h : ∀ v' w', w'.ownsRow base e 1 v' (n + m) (xs ++ ys.map (Value.int k)) → w.grownBy w' v.ownBlock → (v'.ownBlock = v.ownBlock ∨ v'.ownBlock = some w.heap.size) → wpList P ops Q rest (a.put o.dst v') w') : wpList P ops Q (o :: rest) a w := by
  have hl := hy.len
  obtain ⟨vb, vc, rfl⟩ := own_slice hown
  cases A with
  | none =>
    have hm : m = 0 := by
      rcases hy.2.2 with h0 | ⟨b, off, ha, _⟩
      · exact h0
      · cases ha
    subst hm
    obtain rfl : ys = [] := List.length_eq_zero_iff.1 hl
    refine wpList_plain hgd fun K hK => ?_
    have hrun := run_append_nothing (P := P) base t o.type e i 1 ht hi _ n xs hown c
    unfold Oper.wp
    simp [execOp, ho, resolve, invoke, builtin, hs, hx, run_append_tx t tx e e' _ i ht htx hi, hrun, Result.andThen]
    exact hK _ _ (h _ w (by simpa using hown) (grown_refl _ _) (.inl rfl))
  | some ad =>
    refine wpList_plain hgd fun K hK => ?_
    have hnews : ∀ j u, (ys.map (Value.int k))[j]? = some u → w.cell? (ad.add j) = some u := by
      intro j u hu
      have hj : j < m := by have := (List.getElem?_eq_some_iff.1 hu).1; simpa [hl] using this
      obtain ⟨ad', hA, hc⟩ := hy.src m (Nat.le_refl _) (by omega)
      injection hA with hA
      subst hA
      rw [List.take_of_length_le (by omega)] at hc
      exact hc j u hu
    obtain ⟨v', w', hr, h2, h3, _, h5⟩ := run_append_own_at (P := P) w base t o.type e i z 1 bytes ht hi hz hsize hby hzs (by decide) _ n xs hown ad m c (ys.map (Value.int k)) (by simp [hl]) hnews (ints_oneCell' _ _) h63 hbytes hbase
    unfold Oper.wp execOp
    simp only [ho, resolve, invoke, builtin, Sem.run_bind, Sem.run_pure, Result.andThen_ok, List.map_toArray, List.map_cons, List.map_nil, hs, hx, run_append_tx t tx e e' _ i ht htx hi, hr]
    exact hK _ _ (h v' w' h2 h3 h5)
/-- A slice cut at its upper end. -/
theorem run_cutHi (ty e : TypeId) (hu : P.underlying ty = some (.slice e)) (hs : (P.info? e).map (·.size) = some 1) (A : Option Addr) (m c : Nat) (k : IntKind) (l : Nat) (hlm : l ≤ c) (w : World) :
    (Instr.sliceAt ty (.slice A m c) none (some (.int k (l : Int))) none).run P w = .ok (.slice A l c) w := by
  have he : P.elem ty = e := by simp [Program.elem, hu]
  rw [run_sliceAt_slice w ty _ _ _ _ (by rw [he]; exact hu), run_slice_h w ty A m c (by rw [he]; exact hu) k l (by omega) (by omega)]
  cases hq : P.info? e with
  | none => simp [hq] at hs
  | some i =>
    simp [he, sizeOf, typeInfo, hq, sliced]
    intro _
    cases A with
    | none => rfl
    | some x =>
      obtain ⟨b, o, sp⟩ := x
      cases sp <;> simp [Addr.add]
end
theorem Ints.upTo {k : IntKind} {w : World} {a : Option Addr} {n cap : Nat} {xs : List Int} (h : Ints k w a n cap xs) (m : Nat) (hm : m ≤ n) : Ints k w a m cap (xs.take m) := by
  have h1 := h.cut2 0 m (Nat.zero_le _) hm
  have hc := h.2.1
  refine ⟨by rw [List.length_take, h.1]; omega, by omega, ?_⟩
  rcases h.2.2 with h0 | ⟨b, off, ha, hcell⟩
  · exact .inl (by omega)
  · refine .inr ⟨b, off, ha, fun i hi => ?_⟩
    rw [hcell i (by omega), List.getD_eq_getElem?_getD, List.getD_eq_getElem?_getD, List.getElem?_take_of_lt hi]
theorem own_upTo {w : World} {B : Nat} {e : TypeId} {a : Option Addr} {n c : Nat} {vs : List Value} (h : w.ownsRow B e 1 (.slice a n c) n vs) (m : Nat) (hm : m ≤ n) : w.ownsRow B e 1 (.slice a m c) m (vs.take m) := by
  have hl : vs.length = n := by have := h.1; simpa using this
  refine ⟨by rw [List.length_take, hl]; omega, ?_⟩
  rcases h.2 with ⟨hv, h0⟩ | ⟨g, cap, cur, hv, hb, hg, hnc, hcm, hcs, ht⟩
  · injection hv with h1 h2 h3
    exact .inl ⟨by rw [h1, h3, show m = 0 by omega], by omega⟩
  · injection hv with h1 h2 h3
    subst h3
    refine .inr ⟨g, c, cur, by rw [h1], hb, hg, by omega, hcm, hcs, ?_⟩
    rw [Nat.mul_one] at ht ⊢
    rw [← ht, List.take_take, Nat.min_eq_left hm]
end Go.Proofs.YtcohbhimhacedaaGreatDoor
