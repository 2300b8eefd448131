/-
  What the landed file's settle comes to: so many units are kept, and no steps are left. The disk's own block is written, and new memory. Conditions: a file of at most 65536 bytes, 2^42 steps.
-/
import Derived.Test.YtmnfagpbcllbgaaDkBehind
namespace Go.Proofs.Ytmnfagpbcllbgaa
open Go.RowKit

/-- What a call that works on file i leaves. -/
structure WentF (i : Nat) (L : Nat → Nat) (P : Nat → Prop) (w : World) (L' : Nat → Nat) (P' : Nat → Prop) (w' : World) : Prop where
  m : Moved (fun b => L b = 1 ∨ isF i (L b)) w w'
  l : ∀ b, b < w.heap.size → L' b = L b
  p : ∀ b, P b → P' b
  q : ∀ b, P' b → P b ∨ w.heap.size ≤ b
  lab : LabAt L' P' w'
theorem WentF.went {i : Nat} {L L' : Nat → Nat} {P P' : Nat → Prop} {w w' : World} (h : WentF i L P w L' P' w') : Went L P w L' P' w' :=
  ⟨⟨h.m.1, fun b hb hn => h.m.2 b hb (fun he => hn (by
    show L b ≠ 0
    rcases he with he | he
    · omega
    · unfold isF at he; omega))⟩, h.l, h.p, h.q⟩
def FaV.pick (i j : Nat) (x y : FaV) : FaV := if i = j then y else x
theorem WentF.other {i j : Nat} {L L' : Nat → Nat} {P P' : Nat → Prop} {w w' : World} (h : WentF i L P w L' P' w') (hl : LabAt L P w) (hij : i ≠ j) {x : FaV} {v : FlV} (hx : FlAt L P w j x v) : FlAt L' P' w' j x v := by
  refine hx.same (fun b hb => ?_) h.p (fun b hb => h.l b (hl.l b (by unfold isF at hb; omega)))
  rcases hb with hb | hb
  · have := hl.p b hb
    exact h.m.2 b this.1 (by show ¬ (L b = 1 ∨ isF i (L b)); rw [this.2]; unfold isF; omega)
  · exact h.m.2 b (hl.l b (by unfold isF at hb; omega)) (by show ¬ (L b = 1 ∨ isF i (L b)); unfold isF at hb ⊢; omega)
/-- A disk of which file i was worked on. -/
theorem DkAt.put {i : Nat} (hi : i < 3) {L L' : Nat → Nat} {P P' : Nat → Prop} {w w' : World} {g : Nat} {D : DkV} {x0 x1 x2 y : FaV} {v : FlV} (h : DkAt L P w g D x0 x1 x2) (hw : WentF i L P w L' P' w') (hb : Blk w' g 60 (overV (dC D x0 x1 x2) (3 + 5 * i) (fC y v))) (hf : FlAt L' P' w' i y v) :
    ∃ y0 y1 y2, DkAt L' P' w' g (D.set i v) y0 y1 y2 := by
  have hg : L' g = 1 := by rw [hw.l g (h.lab.l g (by rw [h.g]; decide))]; exact h.g
  match i, hi with
  | 0, _ => exact ⟨y, x1, x2, hb, hg, hw.lab, hf, hw.other h.lab (by decide) h.f1, hw.other h.lab (by decide) h.f2⟩
  | 1, _ => exact ⟨x0, y, x2, hb, hg, hw.lab, hw.other h.lab (by decide) h.f0, hf, hw.other h.lab (by decide) h.f2⟩
  | 2, _ => exact ⟨x0, x1, y, hb, hg, hw.lab, hw.other h.lab (by decide) h.f0, hw.other h.lab (by decide) h.f1, hf⟩
/-- One more block's label. -/
def lab1 (L : Nat → Nat) (a : Option Addr) (r : Nat) : Nat → Nat := fun b => if a.map Addr.block = some b then r else L b
theorem lab1_at (L : Nat → Nat) {a : Option Addr} (r : Nat) {y : Addr} (h : a = some y) : lab1 L a r y.block = r := by
  subst h
  exact if_pos rfl
theorem lab1_ne (L : Nat → Nat) {a : Option Addr} (r b : Nat) (h : ∀ y, a = some y → y.block ≠ b) : lab1 L a r b = L b := by
  unfold lab1
  rw [if_neg]
  intro e
  cases a with
  | none => cases e
  | some y => injection e with e; exact h y rfl e
theorem lab1_or (L : Nat → Nat) {a : Option Addr} (r b : Nat) : (∃ y, a = some y ∧ y.block = b) ∨ lab1 L a r b = L b := by
  by_cases e : ∃ y, a = some y ∧ y.block = b
  · exact .inl e
  · exact .inr (lab1_ne L r b (fun y hy hb => e ⟨y, hy, hb⟩))
theorem built_fl (a b : Option Addr) (n m c d : Nat) (k : Int) : Try.prog.built 57 [(0, .slice a n c), (2, .slice b m d), (3, .int .i64 k)] = some #[.slice a n c, .slice none 0 0, .slice b m d, .int .i64 k, .int .i64 0] := by kernel_rfl

set_option maxRecDepth 100000 in
set_option maxHeartbeats 1000000 in
theorem dSettle_any {L : Nat → Nat} {P : Nat → Prop} {w : World} {i g o : Nat} {t : TypeId} {cs : List Value} {x : FaV} {v : FlV} {T : Nat} (u : Nat) (hl : LabAt L P w) (hg1 : L g = 1) (hx : FlAt L P w i x v) (hb : Blk w g t cs) (hc : ∀ j u, (fC x v)[j]? = some u → cs[o + j]? = some u) (hO : v.Ok T) (hT : T ≤ 4398046511104) (hu : u ≤ v.units) :
    Calls Try.prog 37 #[.pointer (some ⟨g, o, none⟩), .int .i64 (u : Int)] w fun q w' => ∃ y L' P', q = .returned (.tuple #[]) ∧ Blk w' g t (overV cs o (fC y (v.settle u))) ∧ FlAt L' P' w' i y (v.settle u) ∧ WentF i L P w L' P' w' := by
  have hgs := hb.lt
  obtain ⟨c0, c1, c2, c3, c4⟩ := fcells hb hc
  have hun := hO.un
  have hBH := dBehind_any u hx c0 c1 hO.ok hO.need (by omega) (Nat.le_trans hO.len hT) (fun b h => by
    rcases h with h | h
    · exact (hl.p b h).1
    · exact hl.l b (by unfold isF at h; omega))
  have hlen : (doneL v.K v.S u).length ≤ 65536 := Nat.le_trans (doneL_le _ _ _) hO.need
  have hfit : o + 5 ≤ cs.length := by
    have := (List.getElem?_eq_some_iff.1 (hc 4 _ rfl)).1
    omega
  obtain ⟨X, hX⟩ : ∃ X, doneL v.K v.S u = X := ⟨_, rfl⟩
  have hset : v.settle u = ⟨X, []⟩ := by rw [← hX]; rfl
  rw [hX] at hBH hlen
  rw [hset]
  clear hX hset c0 c1 c2 c3 c4 hun hO hx hc
  go_enter Try.func37, Try.ntmps37
  go_wp2_with fail
  refine hBH.mono ?_
  rintro q w1 ⟨b1, d1, rfl, ho1, hB1⟩
  have hC := pClone_any b1 X.length d1 X w1 (own_ints' ho1) (by omega)
  go_wp2_with fail
  refine hC.mono ?_
  rintro q w2 ⟨b2, d2, rfl, ho2, hB2⟩
  have hbt := built_fl b1 b2 X.length X.length d1 d2 (X.length : Int)
  have hB12 := hB1.trans (hB2.mono hB1.size)
  have hb2 : Blk w2 g t cs := hb.keep hB12 hgs
  have hrow : IsRow Try.prog 57 ([.slice b1 X.length d1, .slice none 0 0, .slice b2 X.length d2, .int .i64 (X.length : Int), .int .i64 0] : List Value).length := rowFl
  have h1 : ∀ u ∈ ([.slice b1 X.length d1, .slice none 0 0, .slice b2 X.length d2, .int .i64 (X.length : Int), .int .i64 0] : List Value), u.oneCell' = true := by
    intro u hu
    simp only [List.mem_cons, List.not_mem_nil, or_false] at hu
    rcases hu with rfl | rfl | rfl | rfl | rfl <;> rfl
  have hfit2 : o + ([.slice b1 X.length d1, .slice none 0 0, .slice b2 X.length d2, .int .i64 (X.length : Int), .int .i64 0] : List Value).length ≤ cs.length := hfit
  go_wp2_with (with_reducible refine build_row rfl 57 #[(0, .tmp 9), (2, .tmp 11), (3, .tmp 13)] rfl (cells := #[.slice b1 X.length d1, .slice none 0 0, .slice b2 X.length d2, .int .i64 (X.length : Int), .int .i64 0]) ?_ ?_
               (refine Eq.trans (congrArg _ ?_) hbt; kernel_rfl)
               refine RowKit.Hid.out ?_)
  refine Lib.hid ?_
  go_wp2_with (with_reducible refine wpList_store_part (off := o) rfl 57 _ _ rfl rfl rfl hb2 hrow hfit2 h1 ?_
               intro w3 hb3 hg3
               refine RowKit.Hid.out ?_)
  refine Lib.hid ?_
  have hs1 := hB1.size
  have hs2 := hB2.size
  have hs3 := hg3.size
  have hK : ∀ y, b1 = some y → w.heap.size ≤ y.block ∧ y.block < w1.heap.size := fun y hy => ho1.lt y.block (by rw [hy]; rfl)
  have hH : ∀ y, b2 = some y → w1.heap.size ≤ y.block ∧ y.block < w2.heap.size := fun y hy => ho2.lt y.block (by rw [hy]; rfl)
  have k3 : ∀ b, w.heap.size ≤ b → b < w2.heap.size → w3.heap[b]? = w2.heap[b]? := fun b hb1 hb2 => hg3.block b hb2 (fun e => by injection e; omega)
  have hL0 : ∀ b, w.heap.size ≤ b → L b = 0 := fun b hb => by
    by_cases h0 : L b = 0
    · exact h0
    · have := hl.l b h0; omega
  have hfin : ∃ y L' P', Blk w3 g t (overV cs o (fC y ⟨X, []⟩)) ∧ FlAt L' P' w3 i y ⟨X, []⟩ ∧ WentF i L P w L' P' w3 := by
    refine ⟨⟨b1, d1, none, 0, b2, d2⟩, lab1 L b2 (2 + 2 * i), fun b => P b ∨ ∃ y, b1 = some y ∧ y.block = b, hb3, ⟨⟨?_, fun y hy => .inr ⟨y, hy, rfl⟩⟩, ⟨⟨[], World.ownsRow_nil _ _ _ _, StsAt.nil⟩, fun y hy => by cases hy⟩, ⟨?_, fun y hy => lab1_at L _ hy⟩⟩, ⟨?_, ?_, fun b h => .inl h, ?_, ?_, ?_⟩⟩
    · refine ints_same ((own_ints' ho1).keep hB2) (fun y hy => ?_)
      have := hK y hy
      exact k3 _ this.1 (by omega)
    · refine own_same (own_weak ho2 (Nat.zero_le _)) (fun b hb => ?_)
      obtain ⟨y, hy, hyb⟩ := slice_block hb
      have := hH y hy
      exact k3 _ (by omega) (by omega)
    · refine ⟨⟨hg3.os.trans hB12.os, hg3.tape.trans hB12.tape, hg3.output.trans hB12.output, by omega, fun _ h => absurd h (Nat.not_lt_zero _)⟩, fun b hb hn => ?_⟩
      rw [hg3.block b (by omega) (fun e => by injection e with e; exact hn (.inl (e ▸ hg1))), hB12.block b hb]
    · intro b hb
      exact lab1_ne L _ b (fun y hy => by have := hH y hy; omega)
    · rintro b (hb | ⟨y, hy, hb⟩)
      · exact .inl hb
      · have := hK y hy
        exact .inr (by omega)
    · intro b hb
      rcases lab1_or L (a := b2) (2 + 2 * i) b with ⟨y, hy, hyb⟩ | he
      · have := hH y hy; omega
      · rw [he] at hb
        have := hl.l b hb
        omega
    · rintro b (hb | ⟨z, hz, hb⟩)
      · have h5 := hl.p b hb
        exact ⟨by omega, by rw [lab1_ne L _ b (fun y hy => by have := hH y hy; omega)]; exact h5.2⟩
      · have h6 := hK z hz
        exact ⟨by omega, by rw [lab1_ne L _ b (fun y hy => by have := hH y hy; omega)]; exact hL0 b (by omega)⟩
  obtain ⟨y, L', P', q1, q2, q3⟩ := hfin
  clear hb3 hb2 hC hBH ho1 ho2 hK hH k3 hL0 hb hl
  go_wp2
  (try simp only [Exit.inBlock, Exit.then])
  first
    | go_end0
    | refine bodyPost_ret (results_none rfl _ _ _) rfl ?_
  exact ⟨y, L', P', rfl, q1, q2, q3⟩
end Go.Proofs.Ytmnfagpbcllbgaa
