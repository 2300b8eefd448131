/-
  What the landed disk's take, settle, count, spare come to, said of the whole disk. The disk's own blocks are written, and new memory. Conditions: a disk that New made; fewer than 2^42 steps.
-/
import Derived.Test.YtmnfagpbcllbgaaDkTake
namespace Go.Proofs.Ytmnfagpbcllbgaa
open Go.RowKit

theorem DkV.set_f (D : DkV) (i : Nat) (hi : i < 3) (v : FlV) : (D.set i v).f i = v := by
  match i, hi with
  | 0, _ => rfl
  | 1, _ => rfl
  | 2, _ => rfl
theorem DkV.set_head (D : DkV) (i : Nat) (v : FlV) : (D.set i v).room = D.room ∧ (D.set i v).fuse = D.fuse ∧ (D.set i v).down = D.down := by
  unfold DkV.set
  split
  · exact ⟨rfl, rfl, rfl⟩
  · split <;> exact ⟨rfl, rfl, rfl⟩
/-- More blocks that nobody writes to any more. -/
theorem DkAt.more {L : Nat → Nat} {P P' : Nat → Prop} {w : World} {g : Nat} {D : DkV} {x0 x1 x2 : FaV} (h : DkAt L P w g D x0 x1 x2) (hp : ∀ b, P b → P' b) (hq : ∀ b, P' b → P b ∨ (b < w.heap.size ∧ L b = 0)) : DkAt L P' w g D x0 x1 x2 :=
  ⟨h.b, h.g, ⟨h.lab.l, fun b hb => (hq b hb).elim (h.lab.p b) id⟩, h.f0.same (fun _ _ => rfl) hp (fun _ _ => rfl), h.f1.same (fun _ _ => rfl) hp (fun _ _ => rfl), h.f2.same (fun _ _ => rfl) hp (fun _ _ => rfl)⟩
/-- The disk's own block alone was written, and not the files. -/
theorem DkAt.head {L : Nat → Nat} {P : Nat → Prop} {w w' : World} {g : Nat} {D D' : DkV} {x0 x1 x2 : FaV} (h : DkAt L P w g D x0 x1 x2) (hg : w.grownBy w' (some g)) (hb : Blk w' g 60 (dC D' x0 x1 x2)) (h0 : D'.f0 = D.f0) (h1 : D'.f1 = D.f1) (h2 : D'.f2 = D.f2) : DkAt L P w' g D' x0 x1 x2 ∧ Went L P w L P w' := by
  have hs := hg.size
  have hk : ∀ b, b < w.heap.size → L b ≠ 1 → w'.heap[b]? = w.heap[b]? := fun b hb hn => hg.block b hb (fun e => by injection e with e; exact hn (e ▸ h.g))
  have hf : ∀ i b, P b ∨ isF i (L b) → w'.heap[b]? = w.heap[b]? := fun i b hb => by
    rcases hb with hb | hb
    · have := h.lab.p b hb
      exact hk b this.1 (by omega)
    · unfold isF at hb
      exact hk b (h.lab.l b (by omega)) (by omega)
  refine ⟨⟨hb, h.g, ⟨fun b hb => Nat.lt_of_lt_of_le (h.lab.l b hb) hs, fun b hb => ⟨Nat.lt_of_lt_of_le (h.lab.p b hb).1 hs, (h.lab.p b hb).2⟩⟩, ?_, ?_, ?_⟩, ⟨⟨⟨hg.os, hg.tape, hg.output, hg.size, fun _ h => absurd h (Nat.not_lt_zero _)⟩, fun b hb hn => hk b hb (fun e => hn (by show L b ≠ 0; omega))⟩, fun _ _ => rfl, fun _ h => h, fun _ h => .inl h⟩⟩
  · rw [h0]; exact h.f0.same (hf 0) (fun _ h => h) (fun _ _ => rfl)
  · rw [h1]; exact h.f1.same (hf 1) (fun _ h => h) (fun _ _ => rfl)
  · rw [h2]; exact h.f2.same (hf 2) (fun _ h => h) (fun _ _ => rfl)
theorem Went.of_below {L : Nat → Nat} {P : Nat → Prop} {w w' : World} (h : Below w.heap.size w w') : Went L P w L P w' := ⟨Moved.of_below h, fun _ _ => rfl, fun _ h => h, fun _ h => .inl h⟩
/-- A disk that stands so, somewhere. -/
def DkIs (L : Nat → Nat) (P : Nat → Prop) (w : World) (g : Nat) (D : DkV) : Prop := ∃ x0 x1 x2, DkAt L P w g D x0 x1 x2
/-- What a call leaves of a disk. -/
def DkTo (L : Nat → Nat) (P : Nat → Prop) (w : World) (g : Nat) (w' : World) (D' : DkV) : Prop := ∃ L' P', DkIs L' P' w' g D' ∧ Went L P w L' P' w'
theorem DkIs.keep {L : Nat → Nat} {P : Nat → Prop} {w w' : World} {g : Nat} {D : DkV} (h : DkIs L P w g D) (hb : Below w.heap.size w w') : DkIs L P w' g D := by
  obtain ⟨x0, x1, x2, h⟩ := h
  exact ⟨x0, x1, x2, h.keep hb⟩
theorem DkTo.stay {L : Nat → Nat} {P : Nat → Prop} {w w' : World} {g : Nat} {D : DkV} (h : DkIs L P w g D) (hb : Below w.heap.size w w') : DkTo L P w g w' D := ⟨L, P, h.keep hb, Went.of_below hb⟩

theorem dTakePut {L : Nat → Nat} {P : Nat → Prop} {w : World} {g : Nat} {D : DkV} {T : Nat} {a : Option Addr} {c : Nat} {xs : List Int} (h : DkIs L P w g D) (hO : D.Ok T) (hT : T < 4398046511104) (i : Nat) (hi : i < 3) (hI : Ints .u8 w a xs.length c xs) (hP : ∀ z, a = some z → P z.block) (hn : (D.f i).held.length + xs.length ≤ 65536) :
    Calls Try.prog 41 #[.pointer (some ⟨g, 3 + 5 * i, none⟩), .iface 83 (.slice a xs.length c)] w fun q w' => q = .returned (.tuple #[]) ∧ DkTo L P w g w' (D.set i ((D.f i).step (.put xs))) := by
  obtain ⟨x0, x1, x2, h⟩ := h
  obtain ⟨x, hx, hc⟩ := h.fl i hi
  refine (dTake_put h.lab h.g hx h.b hc (hO.f i) hT hI hP hn).mono ?_
  rintro q w' ⟨y, L', rfl, hb, hf, hw⟩
  exact ⟨rfl, L', P, h.put hi hw hb hf, hw.went⟩
theorem dTakeCut {L : Nat → Nat} {P : Nat → Prop} {w : World} {g : Nat} {D : DkV} {T : Nat} {k : Nat} (h : DkIs L P w g D) (hO : D.Ok T) (hT : T < 4398046511104) (i : Nat) (hi : i < 3) (hk : k ≤ (D.f i).held.length) :
    Calls Try.prog 41 #[.pointer (some ⟨g, 3 + 5 * i, none⟩), .iface 88 (.int .i64 (k : Int))] w fun q w' => q = .returned (.tuple #[]) ∧ DkTo L P w g w' (D.set i ((D.f i).step (.cut k))) := by
  obtain ⟨x0, x1, x2, h⟩ := h
  obtain ⟨x, hx, hc⟩ := h.fl i hi
  refine (dTake_cut h.lab h.g hx h.b hc (hO.f i) hT hk).mono ?_
  rintro q w' ⟨y, L', rfl, hb, hf, hw⟩
  exact ⟨rfl, L', P, h.put hi hw hb hf, hw.went⟩
theorem dSettleD {L : Nat → Nat} {P : Nat → Prop} {w : World} {g : Nat} {D : DkV} {T : Nat} (h : DkIs L P w g D) (hO : D.Ok T) (hT : T ≤ 4398046511104) (i : Nat) (hi : i < 3) (u : Nat) (hu : u ≤ (D.f i).units) :
    Calls Try.prog 37 #[.pointer (some ⟨g, 3 + 5 * i, none⟩), .int .i64 (u : Int)] w fun q w' => q = .returned (.tuple #[]) ∧ DkTo L P w g w' (D.set i ((D.f i).settle u)) := by
  obtain ⟨x0, x1, x2, h⟩ := h
  obtain ⟨x, hx, hc⟩ := h.fl i hi
  refine (dSettle_any u h.lab h.g hx h.b hc (hO.f i) hT hu).mono ?_
  rintro q w' ⟨y, L', P', rfl, hb, hf, hw⟩
  exact ⟨rfl, L', P', h.put hi hw hb hf, hw.went⟩
theorem burn_cells (D : DkV) (x0 x1 x2 : FaV) (hd : D.down = false) : (if D.fuse = 0 then dC D x0 x1 x2 else if D.fuse = 1 then ((dC D x0 x1 x2).set 1 (.int .i64 (D.fuse - 1))).set 2 (.bool true) else (dC D x0 x1 x2).set 1 (.int .i64 (D.fuse - 1))) = dC D.burn x0 x1 x2 := by
  unfold DkV.burn
  split
  · rfl
  · split
    · rename_i h1
      have h2 : decide (D.fuse - 1 = 0) = true := decide_eq_true (by omega)
      rw [h2]
      rfl
    · rename_i h1
      have h2 : decide (D.fuse - 1 = 0) = false := decide_eq_false (by omega)
      rw [h2, ← hd]
      rfl
theorem burn_ans (D : DkV) (hd : D.down = false) : (if D.fuse = 1 then 18 else 0 : Int) = D.burn.ans := by
  unfold DkV.ans DkV.burn
  by_cases h0 : D.fuse = 0
  · rw [if_neg (by omega), if_pos h0, hd]; rfl
  · rw [if_neg h0]
    by_cases h1 : D.fuse = 1
    · rw [if_pos h1, if_pos (by show decide (D.fuse - 1 = 0) = true; exact decide_eq_true (by omega))]
    · rw [if_neg h1, if_neg (by show ¬ decide (D.fuse - 1 = 0) = true; rw [decide_eq_false (by omega)]; decide)]
theorem burn_f (D : DkV) : D.burn.f0 = D.f0 ∧ D.burn.f1 = D.f1 ∧ D.burn.f2 = D.f2 ∧ D.burn.room = D.room := by
  unfold DkV.burn
  split <;> exact ⟨rfl, rfl, rfl, rfl⟩
theorem dCountD {L : Nat → Nat} {P : Nat → Prop} {w : World} {g : Nat} {D : DkV} {T : Nat} (h : DkIs L P w g D) (hO : D.Ok T) (hd : D.down = false) :
    Calls Try.prog 42 #[.pointer (some ⟨g, 0, none⟩)] w fun q w' => q = .returned (.int .i64 D.burn.ans) ∧ DkTo L P w g w' D.burn := by
  obtain ⟨x0, x1, x2, h⟩ := h
  refine (dCount_any h.b (f := D.fuse) rfl ⟨D.down, rfl⟩ hO.fuse).mono ?_
  rintro q w' ⟨rfl, hb, hg⟩
  rw [burn_cells D x0 x1 x2 hd] at hb
  rw [burn_ans D hd]
  obtain ⟨k1, k2⟩ := h.head hg hb (burn_f D).1 (burn_f D).2.1 (burn_f D).2.2.1
  exact ⟨rfl, L, P, ⟨x0, x1, x2, k1⟩, k2⟩
theorem dSpareD {L : Nat → Nat} {P : Nat → Prop} {w : World} {g : Nat} {D : DkV} {T : Nat} (h : DkIs L P w g D) (hO : D.Ok T) (i : Nat) (hi : i < 3) :
    Calls Try.prog 40 #[.pointer (some ⟨g, 0, none⟩), .pointer (some ⟨g, 3 + 5 * i, none⟩)] w fun q w' => q = .returned (.int .i64 (((D.f i).need : Int) - (D.f i).held.length + D.room - (D.used : Nat))) ∧ Below w.heap.size w w' := by
  obtain ⟨x0, x1, x2, h⟩ := h
  obtain ⟨x, hx, hc⟩ := h.fl i hi
  have hf := fcells h.b hc
  have hr := hO.room
  have n0 := hO.o0.need
  have n1 := hO.o1.need
  have n2 := hO.o2.need
  have ni := (hO.f i).need
  have hh := FlV.held_le (D.f i)
  refine (dSpare_any (n0 := D.f0.need) (n1 := D.f1.need) (n2 := D.f2.need) (n := (D.f i).need) (m := (D.f i).held.length) (dcells h.b).1 (by omega) (h.b.cell 6) (h.b.cell 11) (h.b.cell 16) n0 n1 n2 hf.2.2.1 hf.2.2.2.1 ni (by omega)).mono ?_
  rintro q w' ⟨rfl, k, rfl⟩
  exact ⟨rfl, below_drewN (Below.refl _ _) k⟩
/-- Whether more bytes fit. -/
theorem spare_fits {D : DkV} {T : Nat} (hO : D.Ok T) (i : Nat) (bs : List Int) : (((D.f i).need : Int) - (D.f i).held.length + D.room - (D.used : Nat) < bs.length) ↔ D.room < ((D.set i ((D.f i).step (.put bs))).used : Int) := by
  have h1 := DkV.set_used D i ((D.f i).step (.put bs))
  have h2 := FlV.step_need (D.f i) (.put bs)
  have h3 := put_len bs (D.f i).held
  have h4 := hO.used
  have h5 := FlV.held_le (D.f i)
  omega
end Go.Proofs.Ytmnfagpbcllbgaa
