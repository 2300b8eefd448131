/-
  Texts of stages that were proved on their own, joined: RdMoved, RpMem, RdPad, RwRef, RwNum, RwIds, WpMem, WpPut, WpWith, WpCalls, WpWe. Each begins with its own words.
-/
import Derived.Test.YtinmmhbiomcdoaaGreatDoorJVaLawN1
import Derived.Test.YtinmmhbiomcdoaaGreatDoorJVaLawN0
import Derived.Test.YtinmmhbiomcdoaaGreatDoorJVaLawN18
import Derived.Test.YtinmmhbiomcdoaaGreatDoorJVaLawN3
import Derived.RegionTactic
import Derived.ChangeAlike
import Derived.Deep.QuietTactic
import Derived.BigQuiet
import Derived.Test.YtinmmhbiomcdoaaGreatDoorSeqS
import Derived.Test.YtinmmhbiomcdoaaGreatDoorSteps
import Derived.Test.YtinmmhbiomcdoaaGreatDoorAppendAt
import Derived.Test.YtinmmhbiomcdoaaGreatDoorParts

/-
  What may have been written: the blocks of a set, and new ones ('Moved', 'Grows'); bytes with zeros behind them. No Go function is spoken of. No conditions.
-/
namespace Go.Proofs.YtinmmhbiomcdoaaGreatDoor
open Go.RowKit

/-- Bytes, and zeros behind them: what an array of so many bytes holds of them. -/
def padTo (n : Nat) (l : List Int) : List Int := l ++ List.replicate (n - l.length) 0
end Go.Proofs.YtinmmhbiomcdoaaGreatDoor

/-
  A reader of the program in memory ('RdAt': its bytes, place and fault), and what bytes.Clone, New, reads, At and Left come to. New memory alone is written. Conditions: bytes below 256, at most a million; the place is within them.
-/
namespace Go.Proofs.YtinmmhbiomcdoaaGreatDoor
open Go.RowKit

/-- The fault as it is kept: an error that wraps a number; a number that is none of the reader's own is kept beside it. -/
def FaultIs (fv : Value) (t e : Int) : Prop :=
  (fv = .nilIface ∧ e = 0 ∧ t = 0) ∨ (e ≠ 0 ∧ ∃ s, fv = .iface 222 (.agg #[.string s, .int .i64 e]) ∧ (e = 1 ∨ e = 2 ∨ e = 4 ∨ t = e))
/-- What a slice of bytes of the reader's own is: in a block of F, none at no byte. -/
structure RdAt (F : Nat → Prop) (w : World) (g : Nat) (xs : List Int) (p : Nat) (e : Int) : Prop where
  is : ∃ (a : Option Addr) (n c : Nat) (fv : Value) (t : Int), Blk w g 208 [.bool true, .slice a n c, .int .i64 (p : Int), fv, .int .i64 t] ∧ Ints .u8 w a n c xs ∧ FaultIs fv t e ∧ (∀ x, a = some x → 0 < n → F x.block ∧ x.block ≠ g)
  range : ∀ x ∈ xs, 0 ≤ x ∧ x < 256
  most : xs.length ≤ 1000000
  within : p ≤ xs.length
  own : F g
  lt : ∀ b, F b → b < w.heap.size
theorem RdAt.keep {F : Nat → Prop} {w w' : World} {g : Nat} {xs : List Int} {p : Nat} {e : Int} (h : RdAt F w g xs p e) (hk : ∀ b, F b → w'.heap[b]? = w.heap[b]?) (hs : w.heap.size ≤ w'.heap.size) : RdAt F w' g xs p e := by
  obtain ⟨a, n, c, fv, t, hb, hi, hf, hx⟩ := h.is
  refine ⟨⟨a, n, c, fv, t, (hk g h.own).trans hb, ?_, hf, hx⟩, h.range, h.most, h.within, h.own, fun b hb => Nat.lt_of_lt_of_le (h.lt b hb) hs⟩
  refine ⟨hi.1, hi.2.1, ?_⟩
  rcases hi.2.2 with h0 | ⟨b, off, ha, hc⟩
  · exact .inl h0
  · by_cases hn : n = 0
    · exact .inl hn
    · refine .inr ⟨b, off, ha, fun i hi => ?_⟩
      rw [← hc i hi]
      have := hk b (hx _ ha (by omega)).1
      simp only [World.cell?, this]

set_option maxRecDepth 100000 in
set_option maxHeartbeats 800000 in
theorem pNew_any (a : Option Addr) (n c : Nat) (xs : List Int) (w : World) (hI : Ints .u8 w a n c xs) (hr : ∀ x ∈ xs, 0 ≤ x ∧ x < 256) (hn : n ≤ 1000000) :
    Calls Tryz.prog 104 #[.slice a n c] w fun r w' => ∃ g F, r = .returned (.pointer (some ⟨g, 0, none⟩)) ∧ RdAt F w' g xs 0 0 ∧ (∀ b, F b → w.heap.size ≤ b) ∧ Below w.heap.size w w' := by
  go_enter Tryz.func104, Tryz.ntmps104
  go_wp2_with fail
  refine (pClone_any a n c xs w hI (by omega)).mono ?_
  rintro r w1 ⟨b, d, rfl, ho, hB⟩
  go_wp2
  go_ret
  refine ⟨w1.heap.size, fun k => w.heap.size ≤ k ∧ k < w1.heap.size + 1, rfl, ?_, fun b hb => hb.1, hB.trans ((below1 w1 _).mono hB.size)⟩
  have hk := Blk.new w1 208 [.bool true, .slice b n d, .int .i64 0, .nilIface, .int .i64 0]
  obtain ⟨a', c', hv, hi⟩ := Ints.of_owns ho
  injection hv with e1 _ e2
  subst e1; subst e2
  have hin := hi.isIn.2
  refine ⟨⟨b, n, d, .nilIface, 0, hk, hi.keep (below1 _ _), .inl ⟨rfl, rfl, rfl⟩, fun x hx h0 => ?_⟩, hr, by rw [hI.len]; exact hn, Nat.zero_le _, ⟨hB.size, Nat.lt_succ_self _⟩, fun b hb => by rw [size1]; exact hb.2⟩
  have hlt := hin x hx h0
  exact ⟨⟨(ho.lt x.block (by rw [hx]; rfl)).1, by omega⟩, by omega⟩

/-- The cells of a reader's block. -/
theorem rdCells {w : World} {g : Nat} {a : Option Addr} {n c : Nat} {p : Int} {fv : Value} {t : Int} (h : Blk w g 208 [.bool true, .slice a n c, .int .i64 p, fv, .int .i64 t]) :
    w.cell? ⟨g, 0, none⟩ = some (.bool true) ∧ w.cell? ⟨g, 1, none⟩ = some (.slice a n c) ∧ w.cell? ⟨g, 2, none⟩ = some (.int .i64 p) ∧ w.cell? ⟨g, 3, none⟩ = some fv ∧ w.cell? ⟨g, 4, none⟩ = some (.int .i64 t) :=
  ⟨h.cell 0, h.cell 1, h.cell 2, h.cell 3, h.cell 4⟩

set_option maxRecDepth 100000 in
set_option maxHeartbeats 800000 in
theorem pReads_any {F : Nat → Prop} {w : World} {g : Nat} {xs : List Int} {p : Nat} {e : Int} (h : RdAt F w g xs p e) :
    Calls Tryz.prog 139 #[.pointer (some ⟨g, 0, none⟩)] w fun r w' => r = .returned (.bool (decide (e = 0))) ∧ w = w' := by
  obtain ⟨a, n, c, fv, t, hb, hi, hf, hx⟩ := h.is
  obtain ⟨c0, c1, c2, c3, c4⟩ := rdCells hb
  clear hb hi hx h c1 c2 c4
  rcases hf with ⟨rfl, rfl, _⟩ | ⟨h0, s, rfl, _⟩
  · go_enter Tryz.func139, Tryz.ntmps139
    go_wp2
    go_ret
    exact ⟨rfl, rfl⟩
  · rw [decide_eq_false h0]
    clear h0
    go_enter Tryz.func139, Tryz.ntmps139
    go_wp2
    go_ret
    exact ⟨rfl, rfl⟩

set_option maxRecDepth 100000 in
set_option maxHeartbeats 800000 in
theorem pLeft_any {F : Nat → Prop} {w : World} {g : Nat} {xs : List Int} {p : Nat} {e : Int} (h : RdAt F w g xs p e) :
    Calls Tryz.prog 107 #[.pointer (some ⟨g, 0, none⟩)] w fun r w' => r = .returned (.int .i64 ((xs.length : Int) - p)) ∧ ∃ q, w' = w.drewN q := by
  obtain ⟨a, n, c, fv, t, hb, hi, hf, hx⟩ := h.is
  obtain ⟨c0, c1, c2, c3, c4⟩ := rdCells hb
  have hl := hi.len
  have hm := h.most
  have hp := h.within
  rw [hl] at hm hp ⊢
  have hw : wrap64 ((n : Int) - (p : Int)) = (n : Int) - p := by unfold wrap64; omega
  clear hb hi hx h c0 c3 c4 hl
  go_enter Tryz.func107, Tryz.ntmps107
  go_wp2
  go_quiet (fail)
  go_wp2
  go_ret
  exact ⟨rfl, _, rfl⟩
end Go.Proofs.YtinmmhbiomcdoaaGreatDoor

/-
  A copy of bytes into an array of zeros; how many bytes are read at most; the type Hint's row. No conditions.
-/
namespace Go.Proofs.YtinmmhbiomcdoaaGreatDoor
open Go.RowKit

theorem rdStep_cap (n p : Nat) (e A : Int) : (rdStep n p e A).2.2 ≤ A.toNat := by
  unfold rdStep
  split
  · exact Nat.zero_le _
  split
  · exact Nat.zero_le _
  split
  · exact Nat.zero_le _
  · exact Nat.le_refl _
theorem pad_over (N : Nat) (zs : List Int) (q : Nat) (hl : zs.length = q) (hq : q ≤ N) : overV (List.replicate N (Value.int .u8 0)) 0 ((zs.take q).map (Value.int .u8)) = (padTo N zs).map (Value.int .u8) := by
  subst hl
  unfold overV padTo
  rw [List.take_length]
  simp
theorem padTo_len {N : Nat} {zs : List Int} (h : zs.length ≤ N) : (padTo N zs).length = N := by unfold padTo; simp; omega

end Go.Proofs.YtinmmhbiomcdoaaGreatDoor

/-
  The document's own writer (layer 10): New, Fail, Bytes, Done. New memory alone is written. Conditions: at most a million bytes, where bytes are laid.
-/
namespace Go.Proofs.YtinmmhbiomcdoaaGreatDoor
open Go.RowKit
end Go.Proofs.YtinmmhbiomcdoaaGreatDoor

/-
  The document's own writer (layer 10): what Bytes comes to in every case, and Num. New memory alone is written. Conditions: at most a million bytes.
-/
namespace Go.Proofs.YtinmmhbiomcdoaaGreatDoor
open Go.RowKit

/-- Bytes and fault behind Bytes(ys). -/
def wrStep (r : Int) (xs : List Int) (e : Int) (ys : List Int) : List Int × Int :=
  if e ≠ 0 then (xs, e) else if r < ((xs.length : Int) + ys.length) then (xs, 3) else (xs ++ ys, 0)
/-- Where the bytes lie: where they lay, or in new memory. -/
def Stays (w : World) (a a' : Option Addr) (n n' : Nat) : Prop := (a' = a ∧ n' = n) ∨ ∀ x, a' = some x → w.heap.size ≤ x.block

/-- Does a number fit so many bytes? -/
def fits (N A : Int) : Prop := 1 ≤ A ∧ A ≤ 8 ∧ N < 256 ^ A.toNat
instance (N A : Int) : Decidable (fits N A) := by unfold fits; exact inferInstance
/-- Bytes and fault behind Num(N, A). -/
def wrNum (r : Int) (xs : List Int) (e N A : Int) : List Int × Int := if fits N A then wrStep r xs e (beL N A.toNat) else (xs, badOf e 1)
end Go.Proofs.YtinmmhbiomcdoaaGreatDoor

/-
  The document's own writer (layer 10): Ids. New memory alone is written. Conditions: at most a million bytes.
-/
namespace Go.Proofs.YtinmmhbiomcdoaaGreatDoor
open Go.RowKit

theorem ids_chunk {w : World} {b off n cap : Nat} {zs : List Int} (h : IdsAt w (some ⟨b, off, none⟩) n cap zs) (j : Nat) (hj : j < n) : Ints .u8 w (some ⟨b, off + j * 32, none⟩) 32 32 ((zs.drop (32 * j)).take 32) := by
  have hl := h.1
  refine ⟨by rw [List.length_take, List.length_drop, hl]; omega, Nat.le_refl _, .inr ⟨b, off + j * 32, rfl, fun i hi => ?_⟩⟩
  rcases h.2.2 with h0 | ⟨b', off', ha, hc⟩
  · omega
  · injection ha with ha
    injection ha with e1 e2 _
    subst e1; subst e2
    have h1 := hc (j * 32 + i) (by omega)
    rw [show off + j * 32 + i = off + (j * 32 + i) by omega, h1]
    congr 2
    rw [List.getD_eq_getElem?_getD, List.getD_eq_getElem?_getD, List.getElem?_take_of_lt hi, List.getElem?_drop, show 32 * j + i = j * 32 + i by omega]
theorem take_chunk (zs : List Int) (j : Nat) : (zs.take (32 * j)).map (Value.int .u8) ++ ((zs.drop (32 * j)).take 32).map (Value.int .u8) = (zs.take (32 * (j + 1))).map (Value.int .u8) := by
  rw [← List.map_append, ← List.take_add, show 32 * (j + 1) = 32 * j + 32 by omega]
end Go.Proofs.YtinmmhbiomcdoaaGreatDoor

/-
  A landed writer in memory ('WrAt'): room, bytes, fault; what New, Len, Err, Done come to. New memory and the writer's own alone are written. Conditions: at most a hundred million bytes, where they are told.
-/
namespace Go.Proofs.YtinmmhbiomcdoaaGreatDoor
open Go.RowKit

def wpC (r : Int) (a : Option Addr) (n c : Nat) (e : Int) : List Value := [.bool true, .int .i64 r, .slice a n c, .int .i64 e]
structure WrAt (F : Nat → Prop) (w : World) (g : Nat) (r : Int) (xs : List Int) (e : Int) : Prop where
  is : ∃ (a : Option Addr) (c : Nat), Blk w g 201 (wpC r a xs.length c e) ∧ w.ownsRow 0 5 1 (.slice a xs.length c) xs.length (xs.map (Value.int .u8)) ∧ (∀ x, a = some x → F x.block ∧ x.block ≠ g)
  room : 0 ≤ r ∧ r < 9223372036854775808
  fit : (xs.length : Int) ≤ r
  own : F g
  lt : ∀ b, F b → b < w.heap.size
theorem WrAt.keep {F : Nat → Prop} {w w' : World} {g : Nat} {r : Int} {xs : List Int} {e : Int} (h : WrAt F w g r xs e) (hk : ∀ b, F b → w'.heap[b]? = w.heap[b]?) (hs : w.heap.size ≤ w'.heap.size) : WrAt F w' g r xs e := by
  obtain ⟨a, c, hb, ho, hx⟩ := h.is
  exact ⟨⟨a, c, (hk g h.own).trans hb, own_same ho (fun b hb' => by obtain ⟨x, ha, hxb⟩ := slice_block hb'; rw [← hxb]; exact hk _ (hx x ha).1), hx⟩, h.room, h.fit, h.own, fun b hb' => Nat.lt_of_lt_of_le (h.lt b hb') hs⟩
theorem wpCells {w : World} {g : Nat} {r : Int} {a : Option Addr} {n c : Nat} {e : Int} (h : Blk w g 201 (wpC r a n c e)) :
    w.cell? ⟨g, 0, none⟩ = some (.bool true) ∧ w.cell? ⟨g, 1, none⟩ = some (.int .i64 r) ∧ w.cell? ⟨g, 2, none⟩ = some (.slice a n c) ∧ w.cell? ⟨g, 3, none⟩ = some (.int .i64 e) := ⟨h.cell 0, h.cell 1, h.cell 2, h.cell 3⟩
theorem WrAt.ints {w : World} {a : Option Addr} {n c : Nat} {xs : List Int} (h : w.ownsRow 0 5 1 (.slice a n c) n (xs.map (Value.int .u8))) : Ints .u8 w a n c xs := by
  obtain ⟨a5, c5, hv, hi⟩ := Ints.of_owns h
  injection hv with e1 _ e2
  subst e1; subst e2
  exact hi

set_option maxRecDepth 100000 in
set_option maxHeartbeats 800000 in
theorem wErr_any {F : Nat → Prop} {w : World} {g : Nat} {r : Int} {xs : List Int} {e : Int} (h : WrAt F w g r xs e) :
    Calls Tryz.prog 125 #[.pointer (some ⟨g, 0, none⟩)] w fun q w' => q = .returned (.int .i64 e) ∧ w = w' := by
  obtain ⟨a, c, hb, ho, hx⟩ := h.is
  obtain ⟨c0, c1, c2, c3⟩ := wpCells hb
  clear hb ho hx h c1 c2
  go_enter Tryz.func125, Tryz.ntmps125
  go_wp2
  go_ret
  exact ⟨rfl, rfl⟩

set_option maxRecDepth 100000 in
set_option maxHeartbeats 800000 in
theorem wDone_any {F : Nat → Prop} {w : World} {g : Nat} {r : Int} {xs : List Int} {e : Int} (h : WrAt F w g r xs e) (hm : xs.length ≤ 100000000) :
    Calls Tryz.prog 89 #[.pointer (some ⟨g, 0, none⟩)] w fun q w' => ∃ b c, q = .returned (.tuple #[.slice b (if e = 0 then xs else []).length c, .int .i64 e]) ∧ w'.ownsRow w.heap.size 5 1 (.slice b (if e = 0 then xs else []).length c) (if e = 0 then xs else []).length ((if e = 0 then xs else []).map (Value.int .u8)) ∧ Below w.heap.size w w' := by
  have hE := wErr_any h
  obtain ⟨a, c, hb, ho, hx⟩ := h.is
  have hI := WrAt.ints ho
  obtain ⟨c0, c1, c2, c3⟩ := wpCells hb
  clear hb ho hx c1 c0 c3
  by_cases h0 : e = 0
  · subst h0
    rw [if_pos rfl]
    go_enter Tryz.func89, Tryz.ntmps89
    go_wp2_with fail
    refine hE.mono ?_
    rintro q w1 ⟨rfl, rfl⟩
    go_wp2_with fail
    refine (pClone_any a xs.length c xs w hI (by omega)).mono ?_
    rintro q w2 ⟨b, c', rfl, ho, hB⟩
    go_wp2
    go_ret2
    exact ⟨b, c', rfl, ho, hB⟩
  · rw [if_neg h0]
    go_enter Tryz.func89, Tryz.ntmps89
    go_wp2_with fail
    refine hE.mono ?_
    rintro q w1 ⟨rfl, rfl⟩
    go_wp2
    go_ret2
    exact ⟨none, 0, rfl, World.ownsRow_nil _ _ _ _, Below.refl _ _⟩

set_option maxRecDepth 100000 in
set_option maxHeartbeats 800000 in
theorem wNew_any (r : Int) (w : World) (h1 : r < 9223372036854775808) :
    Calls Tryz.prog 86 #[.int .i64 r] w fun q w' => ∃ g F, q = .returned (.pointer (some ⟨g, 0, none⟩)) ∧ WrAt F w' g (max r 0) [] 0 ∧ (∀ b, F b → w.heap.size ≤ b) ∧ Below w.heap.size w w' := by
  by_cases h : ¬ 0 ≤ r
  · rw [show max r 0 = 0 by omega]
    go_enter Tryz.func86, Tryz.ntmps86
    go_wp2
    go_ret
    exact ⟨w.heap.size, rfl, fun b => b = w.heap.size, ⟨⟨none, 0, Blk.new w _ (wpC 0 none 0 0 0), World.ownsRow_nil _ _ _ _, fun x hx => by cases hx⟩, ⟨by omega, by omega⟩, Int.le_refl _, rfl, fun b hb => by rw [hb, size1]; omega⟩, fun b hb => by rw [hb]; exact Nat.le_refl _, below1 w _⟩
  · have h0 : 0 ≤ r := by omega
    rw [show max r 0 = r by omega]
    go_enter Tryz.func86, Tryz.ntmps86
    go_wp2
    go_ret
    exact ⟨w.heap.size, rfl, fun b => b = w.heap.size, ⟨⟨none, 0, Blk.new w _ (wpC r none 0 0 0), World.ownsRow_nil _ _ _ _, fun x hx => by cases hx⟩, ⟨by omega, by omega⟩, by show ((0 : Nat) : Int) ≤ _; omega, rfl, fun b hb => by rw [hb, size1]; omega⟩, fun b hb => by rw [hb]; exact Nat.le_refl _, below1 w _⟩
end Go.Proofs.YtinmmhbiomcdoaaGreatDoor

/-
  What the landed writer's size and write come to: parts laid one behind the other, or none of them. New memory and the writer's own alone are written. Conditions: at most ninety million bytes, a hundred million parts, none of them in the writer's own memory.
-/
namespace Go.Proofs.YtinmmhbiomcdoaaGreatDoor
open Go.RowKit

/-- Parts in memory, none of them in F. -/
def Outs (F : Nat → Prop) (w : World) (a : Option Addr) (m : Nat) (ps : List (List Int)) : Prop :=
  ps.length = m ∧ (m = 0 ∨ ∃ b off, a = some ⟨b, off, none⟩ ∧ ¬ F b ∧ ∀ i, i < m → ∃ A n c, w.cell? ⟨b, off + i, none⟩ = some (.slice A n c) ∧ Ints .u8 w A n c (ps.getD i []) ∧ (∀ x, A = some x → 0 < n → ¬ F x.block))
theorem ints_still' {F : Nat → Prop} {w w' : World} {a : Option Addr} {n cap : Nat} {zs : List Int} (h : Ints .u8 w a n cap zs) (hm : Moved F w w') (hb : ∀ x, a = some x → 0 < n → ¬ F x.block) : Ints .u8 w' a n cap zs := by
  refine ⟨h.1, h.2.1, ?_⟩
  rcases h.2.2 with h0 | ⟨b, off, ha, hc⟩
  · exact .inl h0
  · by_cases h0 : n = 0
    · exact .inl h0
    refine .inr ⟨b, off, ha, fun i hi => ?_⟩
    have he : w'.heap[b]? = w.heap[b]? := hm.2 b (World.block_lt_of_cell? w _ (hc i hi)) (hb _ ha (by omega))
    have h1 := hc i hi
    unfold World.cell? at h1 ⊢
    rw [he]
    exact h1
theorem Outs.moved {F : Nat → Prop} {w w' : World} {a : Option Addr} {m : Nat} {ps : List (List Int)} (h : Outs F w a m ps) (hm : Moved F w w') : Outs F w' a m ps := by
  refine ⟨h.1, ?_⟩
  rcases h.2 with h0 | ⟨b, off, ha, hF, hc⟩
  · exact .inl h0
  · refine .inr ⟨b, off, ha, hF, fun i hi => ?_⟩
    obtain ⟨A, n, c, h1, h2, h3⟩ := hc i hi
    refine ⟨A, n, c, ?_, ints_still' h2 hm h3, h3⟩
    have he : w'.heap[b]? = w.heap[b]? := hm.2 b (World.block_lt_of_cell? w _ h1) hF
    unfold World.cell? at h1 ⊢
    rw [he]
    exact h1
theorem Outs.get {F : Nat → Prop} {w : World} {a : Option Addr} {m : Nat} {ps : List (List Int)} (h : Outs F w a m ps) (i : Nat) (hi : i < m) :
    ∃ b off A n c, a = some ⟨b, off, none⟩ ∧ w.cell? ⟨b, off + i, none⟩ = some (.slice A n c) ∧ Ints .u8 w A n c (ps.getD i []) ∧ (ps.take (i + 1)).flatten = (ps.take i).flatten ++ ps.getD i [] := by
  rcases h.2 with h0 | ⟨b, off, ha, hF, hc⟩
  · omega
  · obtain ⟨A, n, c, h1, h2, _⟩ := hc i hi
    exact ⟨b, off, A, n, c, ha, h1, h2, flatten_snoc ps i (by rw [h.1]; exact hi)⟩

/-- Bytes were appended to the writer's own. -/
theorem WrAt.append {F0 F : Nat → Prop} {W1 w w5 : World} {g : Nat} {r : Int} {xs ys : List Int} {a a5 : Option Addr} {c c5 N : Nat} (h : WrAt F w g r xs 0) (hG : Grows F0 F W1) (hM : Moved F0 W1 w) (h0 : F0 g) (hb : Blk w g 201 (wpC r a xs.length c 0)) (hx : ∀ x, a = some x → F x.block ∧ x.block ≠ g)
    (ho : w5.ownsRow 0 5 1 (.slice a5 N c5) N ((xs ++ ys).map (Value.int .u8))) (hg : w.grownBy w5 (Value.slice a xs.length c).ownBlock) (hat : (Value.slice a5 N c5).ownBlock = (Value.slice a xs.length c).ownBlock ∨ (Value.slice a5 N c5).ownBlock = some w.heap.size) (hf : ((xs ++ ys).length : Int) ≤ r) :
    Blk w5 g 201 (wpC r a xs.length c 0) ∧ ∃ F', WrAt F' (w5.setCell ⟨g, 2, none⟩ (.slice a5 N c5)) g r (xs ++ ys) 0 ∧ Grows F0 F' W1 ∧ Moved F0 W1 (w5.setCell ⟨g, 2, none⟩ (.slice a5 N c5)) := by
  have hN : N = (xs ++ ys).length := by have := ho.1; simpa using this.symm
  have hgl := h.lt g h.own
  have hbl : ∀ b, (Value.slice a xs.length c).ownBlock = some b → F b ∧ b ≠ g := fun b hb' => by
    obtain ⟨x, ha, hxb⟩ := slice_block hb'
    rw [← hxb]
    exact hx x ha
  have hb5 : Blk w5 g 201 (wpC r a xs.length c 0) := hb.grown hg (fun e => (hbl g e.symm).2 rfl)
  have h5 : ∀ x, a5 = some x → (F x.block ∨ x.block = w.heap.size) ∧ x.block ≠ g := fun x hx5 => by
    have e : (Value.slice a5 N c5).ownBlock = some x.block := by rw [hx5]; rfl
    rcases hat with h1 | h1
    · have := hbl x.block (by rw [← h1]; exact e)
      exact ⟨.inl this.1, this.2⟩
    · have h2 : x.block = w.heap.size := by rw [e] at h1; injection h1
      exact ⟨.inr h2, by omega⟩
  have hgs := grown_setCell w5 g 2 (.slice a5 N c5)
  have hs1 := hg.size
  have hs2 := hgs.size
  refine ⟨hb5, fun b => F b ∨ ∃ x, a5 = some x ∧ x.block = b, ⟨⟨a5, c5, ?_, ?_, fun x hx5 => ⟨.inr ⟨x, hx5, rfl⟩, (h5 x hx5).2⟩⟩, h.room, hf, .inl h.own, ?_⟩, ?_, ?_⟩
  · rw [← hN]
    exact hb5.set 2 _
  · rw [← hN]
    exact own_same ho (fun b hb' => hgs.block b (ho.lt b hb').2 (fun e => by
      injection e with e
      obtain ⟨x, ha, hxb⟩ := slice_block hb'
      exact (h5 x ha).2 (by rw [hxb]; exact e)))
  · intro b hb'
    rcases hb' with hb' | ⟨x, ha, hxb⟩
    · have := h.lt b hb'; omega
    · have := (ho.lt x.block (by rw [ha]; rfl)).2
      omega
  · intro b hb'
    have hMs := hM.size
    rcases hb' with hb' | ⟨x, ha, hxb⟩
    · exact hG b hb'
    · rcases (h5 x ha).1 with h6 | h6
      · rw [hxb] at h6; exact hG b h6
      · exact .inr (by omega)
  · have hMs := hM.size
    have m5 : Moved F0 W1 w5 := ⟨hM.1.trans ⟨hg.os, hg.tape, hg.output, hg.size, fun _ h => absurd h (Nat.not_lt_zero _)⟩, fun b hb' hf' => (hg.block b (by omega) (fun e => by
      have h6 := (hbl b e.symm).1
      rcases hG b h6 with h7 | h7
      · exact hf' h7
      · omega)).trans (hM.2 b hb' hf')⟩
    exact m5.then (moved_set h0 hgs)

set_option maxRecDepth 100000 in
set_option maxHeartbeats 1000000 in
theorem wSize_any {F : Nat → Prop} {w : World} (a : Option Addr) (m k : Nat) (ps : List (List Int)) (hP : Outs F w a m ps) (hm : ps.flatten.length ≤ 90000000) (hmm : m ≤ 100000000) :
    Calls Tryz.prog 138 #[.slice a m k] w fun q w' => q = .returned (.int .i64 (ps.flatten.length : Nat)) ∧ w = w' := by
  go_enter Tryz.func138, Tryz.ntmps138
  go_wp2_with fail
  go_loopw [3, 8] (fun l i wr => ∃ j : Nat, j ≤ m ∧ i = .int .i64 j ∧ l = .int .i64 ((ps.take j).flatten.length : Nat) ∧ wr = w) (fun _ i _ => m - (intOf i).toNat)
  case atStart => exact ⟨0, Nat.zero_le _, rfl, rfl, rfl⟩
  case round =>
    obtain ⟨j, hj, rfl, rfl, hwr⟩ := hrel
    have hwr' := hwr.symm
    subst hwr'
    by_cases hlt : j < m
    · have hji : (j : Int) < (m : Int) := by omega
      obtain ⟨b, off, A, n1, c1, rfl, hc, hI, hfl⟩ := hP.get j hlt
      have hlI := hI.len
      have hfj := Lib.hid (by rw [hfl, List.length_append, hlI] : (ps.take (j + 1)).flatten.length = (ps.take j).flatten.length + n1)
      have htl := flatten_take_le ps (j + 1)
      obtain ⟨T, hT⟩ : ∃ T, (ps.take j).flatten.length = T := ⟨_, rfl⟩
      rw [hT] at hfj ⊢
      have hTn : T + n1 ≤ ps.flatten.length := by have := hfj.out; omega
      have hltH := Lib.hid hlt
      have hwl : wrap64 ((T : Int) + (n1 : Int)) = (T : Int) + n1 := by unfold wrap64; omega
      clear hI hlt hj hfl hT
      go_wp2
      exact ⟨⟨j + 1, by have := hltH.out; omega, by congr 1, by congr 1; have := hfj.out; omega, by trivial⟩, by simp only [intOf]; have := hltH.out; omega⟩
    · obtain rfl : j = m := by omega
      have hji : ¬ (j : Int) < (j : Int) := by omega
      rw [List.take_of_length_le (by rw [hP.1]; exact Nat.le_refl _)]
      clear hlt hj
      go_wp2
      go_ret
      exact ⟨rfl, rfl⟩

set_option maxRecDepth 100000 in
set_option maxHeartbeats 1000000 in
theorem wWrite_bad {F : Nat → Prop} {w : World} {g : Nat} {r : Int} {xs : List Int} {e : Int} (h : WrAt F w g r xs e) (he : e ≠ 0) (v : Int) (a : Option Addr) (m k : Nat) :
    Calls Tryz.prog 124 #[.pointer (some ⟨g, 0, none⟩), .int .i64 v, .slice a m k] w fun q w' => q = .returned (.tuple #[]) ∧ w = w' := by
  have hE := wErr_any h
  go_enter Tryz.func124, Tryz.ntmps124
  go_wp2_with fail
  refine hE.mono ?_
  rintro q w1 ⟨rfl, rfl⟩
  go_wp2
  first
    | go_end0
    | refine bodyPost_ret (results_none rfl _ _ _) rfl ?_
  first
    | trivial
    | exact ⟨rfl, rfl⟩

/-- A fault noted in a writer's own block. -/
theorem WrAt.note {F : Nat → Prop} {w : World} {g : Nat} {r : Int} {xs : List Int} {e : Int} (h : WrAt F w g r xs e) (v : Int) :
    WrAt F (w.setCell ⟨g, 3, none⟩ (.int .i64 v)) g r xs v ∧ Moved F w (w.setCell ⟨g, 3, none⟩ (.int .i64 v)) := by
  obtain ⟨a2, e2, hb2, ho2, hx2⟩ := h.is
  have hg3 := grown_setCell w g 3 (.int .i64 v)
  exact ⟨⟨⟨a2, e2, hb2.set 3 _, own_same ho2 (fun y hy => hg3.block y (by obtain ⟨z, ha, hxb⟩ := slice_block hy; rw [← hxb]; exact h.lt _ (hx2 z ha).1) (fun e => by obtain ⟨z, ha, hxb⟩ := slice_block hy; injection e with e; exact (hx2 z ha).2 (by rw [hxb]; exact e))), hx2⟩, h.room, h.fit, h.own, fun y hy => Nat.lt_of_lt_of_le (h.lt y hy) hg3.size⟩, moved_set h.own hg3⟩

set_option maxRecDepth 100000 in
set_option maxHeartbeats 1000000 in
theorem wWrite_fault {F : Nat → Prop} {w : World} {g : Nat} {r : Int} {xs : List Int} (h : WrAt F w g r xs 0) (v : Int) (hv : v ≠ 0) (a : Option Addr) (m k : Nat) :
    Calls Tryz.prog 124 #[.pointer (some ⟨g, 0, none⟩), .int .i64 v, .slice a m k] w fun q w' => q = .returned (.tuple #[]) ∧ WrAt F w' g r xs v ∧ Moved F w w' := by
  have hE := wErr_any h
  have hv' : ¬ v = 0 := hv
  go_enter Tryz.func124, Tryz.ntmps124
  go_wp2_with fail
  refine hE.mono ?_
  rintro q w1 ⟨rfl, rfl⟩
  go_wp2
  go_quiet (fail)
  obtain ⟨W1, hW1⟩ : ∃ W1, w.drewN nq = W1 := ⟨_, rfl⟩
  have b1 : Below w.heap.size w W1 := by rw [← hW1]; exact below_drewN (Below.refl _ _) nq
  have h1 : WrAt F W1 g r xs 0 := h.keep (fun b hb => b1.block b (h.lt b hb)) b1.size
  have hM1 : Moved F w W1 := Moved.of_below b1
  obtain ⟨h2, m2⟩ := h1.note v
  have hmv := hM1.then m2
  obtain ⟨a0, c0, hb, ho, hx⟩ := h1.is
  have hc3 := hb.cell 3
  have hf3 := hb.frozen 3
  rw [hW1]
  clear hW1 h hE h1 hM1 m2 b1 ho hx hb hv
  go_wp2
  (try simp only [Exit.inBlock, Exit.then])
  first
    | go_end0
    | refine bodyPost_ret (results_none rfl _ _ _) rfl ?_
  first
    | exact ⟨rfl, h2, hmv⟩
    | exact ⟨h2, hmv⟩

set_option maxRecDepth 100000 in
set_option maxHeartbeats 1000000 in
theorem wWrite_any {F : Nat → Prop} {w : World} {g : Nat} {r : Int} {xs : List Int} {e : Int} (h : WrAt F w g r xs e) (a : Option Addr) (m k : Nat) (ps : List (List Int)) (hP : Outs F w a m ps) (hm : xs.length + ps.flatten.length ≤ 90000000) (hmm : m ≤ 100000000) :
    Calls Tryz.prog 124 #[.pointer (some ⟨g, 0, none⟩), .int .i64 0, .slice a m k] w fun q w' => ∃ F', q = .returned (.tuple #[]) ∧ WrAt F' w' g r (wrStep r xs e ps.flatten).1 (wrStep r xs e ps.flatten).2 ∧ Grows F F' w ∧ Moved F w w' := by
  obtain ⟨i0, hi, hz0, hz1, hz2⟩ := info_u8b
  unfold wrStep
  by_cases he : e ≠ 0
  · rw [if_pos he]
    refine (wWrite_bad h he 0 a m k).mono ?_
    rintro q w1 ⟨rfl, rfl⟩
    exact ⟨F, rfl, h, fun b hb => .inl hb, Moved.rfl'⟩
  rw [if_neg he]
  obtain rfl : e = 0 := by omega
  clear he
  have hW := wErr_any h
  have hSz : ∀ n, Calls Tryz.prog 138 #[.slice a m k] (w.drewN n) fun q w' => q = .returned (.int .i64 (ps.flatten.length : Nat)) ∧ w' = w.drewN n := fun n => (wSize_any a m k ps (hP.moved (Moved.of_below (below_drewN (Below.refl _ _) n))) (by omega) hmm).mono fun _ _ h => ⟨h.1, h.2.symm⟩
  obtain ⟨X, E, hXE⟩ : ∃ X E, (if r < ((xs.length : Int) + ps.flatten.length) then (xs, (3 : Int)) else (xs ++ ps.flatten, 0)) = (X, E) := ⟨_, _, rfl⟩
  rw [hXE]
  dsimp only
  have hXEH := Lib.hid hXE
  clear hXE
  obtain ⟨a0, c0, hb, ho, hx⟩ := h.is
  obtain ⟨d0, d1, d2, d3⟩ := wpCells hb
  have hr := h.room
  have hft := h.fit
  obtain ⟨n, hn⟩ : ∃ n, xs.length = n := ⟨_, rfl⟩
  rw [hn] at d2
  have hnH := Lib.hid hn
  have hw : wrap64 (r - (n : Int)) = r - n := by unfold wrap64; omega
  have hwk : IntKind.i64.wrap (r - (n : Int)) = r - n := by rw [IntKind.wrap_i64]; omega
  obtain ⟨S, hS⟩ : ∃ S, ps.flatten.length = S := ⟨_, rfl⟩
  rw [hS] at hSz
  have hSH := Lib.hid hS
  by_cases hlong : r - (n : Int) < (S : Int)
  · go_enter Tryz.func124, Tryz.ntmps124
    go_wp2_with fail
    refine hW.mono ?_
    rintro q w1 ⟨rfl, rfl⟩
    go_wp2
    go_quiet (refine Calls.quiet_of_same (hSz _))
    obtain ⟨W1, hW1⟩ : ∃ W1, w.drewN nq = W1 := ⟨_, rfl⟩
    have b1 : Below w.heap.size w W1 := by rw [← hW1]; exact below_drewN (Below.refl _ _) nq
    have h1 : WrAt F W1 g r xs 0 := h.keep (fun b hb => b1.block b (h.lt b hb)) b1.size
    have hM1 : Moved F w W1 := Moved.of_below b1
    obtain ⟨h2, m2⟩ := h1.note 3
    have hmv := hM1.then m2
    obtain ⟨a0, c0, hb, ho, hx⟩ := h1.is
    have hc3 := hb.cell 3
    have hf3 := hb.frozen 3
    rw [hW1]
    clear hW1 h hW hP h1 hM1 m2 b1 ho hx hb d0 d1 d2 d3 hSz
    go_wp2
    (try simp only [Exit.inBlock, Exit.then])
    first
      | go_end0
      | refine bodyPost_ret (results_none rfl _ _ _) rfl ?_
    have hq := hXEH.out
    rw [hnH.out, hSH.out, if_pos (by omega)] at hq
    injection hq with q1 q2
    subst q1; subst q2
    first
      | exact ⟨rfl, F, h2, fun b hb => .inl hb, hmv⟩
      | exact ⟨F, rfl, h2, fun b hb => .inl hb, hmv⟩
  · go_enter Tryz.func124, Tryz.ntmps124
    go_wp2_with fail
    refine hW.mono ?_
    rintro q w1 ⟨rfl, rfl⟩
    go_wp2
    go_quiet (refine Calls.quiet_of_same (hSz _))
    obtain ⟨W1, hW1⟩ : ∃ W1, w.drewN nq = W1 := ⟨_, rfl⟩
    have b1 : Below w.heap.size w W1 := by rw [← hW1]; exact below_drewN (Below.refl _ _) nq
    have h1 : WrAt F W1 g r xs 0 := h.keep (fun b hb => b1.block b (h.lt b hb)) b1.size
    have hP1 := hP.moved (Moved.of_below (F := F) b1)
    have hM1 : Moved F w W1 := Moved.of_below b1
    have hmH := Lib.hid hm
    have hle : (n : Int) + (S : Int) ≤ r := by omega
    have hleH := Lib.hid hle
    rw [hW1]
    clear hW1 h hP hW d0 d1 d2 d3 hb ho hx b1 hm hSz
    go_wp2_with fail
    go_loopw [38] (fun i wr => ∃ (j' : Nat) (Fj : Nat → Prop), j' ≤ m ∧ i = .int .i64 j' ∧ WrAt Fj wr g r (xs ++ (ps.take j').flatten) 0 ∧ Grows F Fj W1 ∧ Moved F W1 wr) (fun i _ => m - (intOf i).toNat)
    case atStart => exact ⟨0, F, Nat.zero_le _, rfl, by simpa using h1, fun b hb => .inl hb, Moved.rfl'⟩
    case round =>
      have hg0 := h1.own
      clear h1
      obtain ⟨j', Fj, hj, rfl, hw2, hG2, hM2⟩ := hrel
      by_cases hlt : j' < m
      · have hji : (j' : Int) < (m : Int) := by omega
        obtain ⟨b, off, A, n1, c1, rfl, hc, hI, hfl⟩ := (hP1.moved hM2).get j' hlt
        have hlI := hI.len
        have htl := flatten_take_le ps (j' + 1)
        obtain ⟨a2, e2, hb2, ho2, hx2⟩ := hw2.is
        have hc2 := (wpCells hb2).2.2.1
        have hAP := fun (a5 : Option Addr) (c5 N : Nat) (w5 : World) => WrAt.append (a5 := a5) (c5 := c5) (N := N) (w5 := w5) (ys := ps.getD j' []) hw2 hG2 hM2 hg0 hb2 hx2
        rw [List.append_assoc, ← hfl] at hAP
        have hAPH := Lib.hid hAP
        obtain ⟨L, hL⟩ : ∃ L, (xs ++ (ps.take j').flatten).length = L := ⟨_, rfl⟩
        have q4 : L = n + (ps.take j').flatten.length := by rw [← hL, List.length_append, hn]
        have q5 : (ps.take (j' + 1)).flatten.length = (ps.take j').flatten.length + n1 := by rw [hfl, List.length_append, hlI]
        have hLb : L + n1 ≤ 90000000 := by have := hmH.out; omega
        have hLr : ((L + n1 : Nat) : Int) ≤ r := by have := hleH.out; have := hSH.out; omega
        rw [hL] at hc2 ho2
        have hLH := Lib.hid hL
        clear q4 q5 hn
        have hltH := Lib.hid hlt
        clear hlt hj hAP hL htl hle hlong hw hwk
        go_wp2_with (at_builtin
                     refine wpList_append_ints_at rfl (.tmp 46) (.tmp 47) 34 rfl 0 5 i0 (.int .u8 0) 1 Tryz.underlying34 hi hz0 hz1 hz2 rfl rfl ho2 rfl hI ?_ ?_ (Nat.zero_le _) ?_
                     (unfold maxLen; omega)
                     (omega)
                     intro v5 w5 own5 g5 hat5
                     refine RowKit.Hid.out ?_)
        refine Lib.hid ?_
        have hex : ∃ a5 c5, v5 = .slice a5 (L + n1) c5 := own_slice own5
        obtain ⟨a5, c5, hv5⟩ := hex
        rw [hv5] at own5 hat5 ⊢
        rw [← List.map_append, List.append_assoc, ← hfl] at own5
        have g5' : wr.grownBy w5 (Value.slice a2 L e2).ownBlock := g5
        have hat5' : (Value.slice a5 (L + n1) c5).ownBlock = (Value.slice a2 L e2).ownBlock ∨ (Value.slice a5 (L + n1) c5).ownBlock = some wr.heap.size := hat5
        have eL : (Value.slice a2 L e2).ownBlock = (Value.slice a2 (xs ++ (ps.take j').flatten).length e2).ownBlock := by rw [hLH.out]
        rw [eL] at g5' hat5'
        have hlen5 : (xs ++ (ps.take (j' + 1)).flatten).length = L + n1 := by have := own5.1; rw [List.length_map, Nat.mul_one] at this; exact this
        obtain ⟨hb5, F5, hw5, hG5, hM5⟩ := hAPH.out a5 c5 (L + n1) w5 own5 g5' hat5' (by rw [hlen5]; exact hLr)
        have hc5 := hb5.cell 2
        have hf5 := hb5.frozen 2
        have hw5H := Lib.hid hw5
        clear g5 g5' hat5 hat5' own5 eL hb2 ho2 hx2 hw2 hG2 hM2 hc hI hb5 hv5 hlen5 hw5 hc2 hfl
        go_wp2
        exact ⟨⟨j' + 1, F5, by have := hltH.out; omega, by congr 1, hw5H.out, hG5, hM5⟩, by simp only [intOf]; have := hltH.out; omega⟩
      · obtain rfl : j' = m := by omega
        have hji : ¬ (j' : Int) < (j' : Int) := by omega
        rw [List.take_of_length_le (by rw [hP1.1]; exact Nat.le_refl _)] at hw2
        have hq := hXEH.out
        rw [hnH.out, hSH.out, if_neg (by omega)] at hq
        injection hq with q1 q2
        subst q1; subst q2
        have hGG : Grows F Fj w := fun b hb => (hG2 b hb).imp id (fun h => Nat.le_trans hM1.size h)
        have hMM := hM1.then hM2
        clear hlt hj hlong hw hwk hle
        go_wp2
        (try simp only [Exit.inBlock, Exit.then])
        first
          | go_end0
          | refine bodyPost_ret (results_none rfl _ _ _) rfl ?_
        first
          | exact ⟨Fj, rfl, hw2, hGG, hMM⟩
          | exact ⟨rfl, Fj, hw2, hGG, hMM⟩
end Go.Proofs.YtinmmhbiomcdoaaGreatDoor

/-
  The landed writer's Num, Bytes, Id, Hint, Ids and Fail, out of what its write comes to: each lays its parts in new memory and calls write. No conditions but those of the parts.
-/
namespace Go.Proofs.YtinmmhbiomcdoaaGreatDoor
open Go.RowKit

theorem beL_cons : ∀ (j : Nat) (n : Int), beL n (j + 1) = (n / 256 ^ j % 256) :: beL n j
  | 0, n => by simp [beL]
  | j + 1, n => by
    rw [beL, beL_cons j (n / 256), Int.ediv_ediv_of_nonneg (by decide), Int.mul_comm, ← Int.pow_succ]
    rfl
theorem beL_tail (n : Int) (j : Nat) : ∀ d, ∃ l, l.length = d ∧ beL n (d + j) = l ++ beL n j
  | 0 => ⟨[], rfl, by simp⟩
  | d + 1 => by
    obtain ⟨l, hl, he⟩ := beL_tail n j d
    refine ⟨(n / 256 ^ (d + j) % 256) :: l, by simp [hl], ?_⟩
    rw [show d + 1 + j = d + j + 1 by omega, beL_cons, he]
    rfl
/-- A number's bytes, laid from the right into eight. -/
def laidN (n : Int) (j : Nat) : List Value := (List.replicate (8 - j) 0 ++ beL n j).map (Value.int .u8)
theorem laidN_len (n : Int) (j : Nat) (h : j ≤ 8) : (laidN n j).length = 8 := by simp [laidN, beL_len]; omega
theorem laidN_set (n : Int) (j q : Nat) (v : Int) (h : q + j = 7) (hv : v = n / 256 ^ j % 256) : (laidN n j).set q (.int .u8 v) = laidN n (j + 1) := by
  unfold laidN
  rw [beL_cons, show 8 - j = q + 1 by omega, show 8 - (j + 1) = q by omega, List.replicate_succ', List.append_assoc, hv]
  rw [← List.map_set]
  congr 1
  rw [List.set_append_right _ _ (by simp)]
  simp
theorem laidN_ints {w : World} {g : Nat} {t : TypeId} {n : Int} (h : Blk w g t (laidN n 8)) (K q : Nat) (hq : q + K = 8) : Ints .u8 w (some ⟨g, q, none⟩) K K (beL n K) := by
  refine ⟨beL_len n K, Nat.le_refl _, .inr ⟨g, q, rfl, fun i hi => ?_⟩⟩
  obtain ⟨l, hl, he⟩ := beL_tail n K q
  rw [hq] at he
  have hlen := beL_len n K
  rw [h.cell]
  unfold laidN
  rw [show 8 - 8 = 0 from rfl, List.replicate_zero, List.nil_append, he, List.getElem?_map, List.getElem?_append_right (by omega), hl, Nat.add_sub_cancel_left, List.getElem?_eq_getElem (by omega), List.getD_eq_getElem?_getD, List.getElem?_eq_getElem (by omega)]
  rfl
theorem num_cases (N A : Int) (hN : 0 ≤ N) : (fits N A ∧ ∃ K : Nat, A = (K : Int) ∧ 1 ≤ K ∧ K ≤ 8 ∧ N / 256 ^ K = 0) ∨ (¬ fits N A ∧ (A < 1 ∨ 8 < A ∨ (∃ K : Nat, A = (K : Int) ∧ 1 ≤ K ∧ K ≤ 8 ∧ ¬ N / 256 ^ K = 0))) := by
  have h256 : ∀ K : Nat, (0 : Int) < 256 ^ K := fun K => Int.pow_pos (by decide)
  by_cases hf : fits N A
  · obtain ⟨h1, h8, hp⟩ := id hf
    obtain ⟨K, rfl⟩ : ∃ K : Nat, A = (K : Int) := ⟨A.toNat, by omega⟩
    rw [Int.toNat_natCast] at hp
    exact .inl ⟨hf, K, rfl, by omega, by omega, Int.ediv_eq_zero_of_lt hN hp⟩
  · refine .inr ⟨hf, ?_⟩
    by_cases h1 : A < 1
    · exact .inl h1
    by_cases h8 : 8 < A
    · exact .inr (.inl h8)
    refine .inr (.inr ⟨A.toNat, by omega, by omega, by omega, fun h0 => hf ⟨by omega, by omega, ?_⟩⟩)
    have hq := Int.lt_mul_ediv_self_add (x := N) (h256 A.toNat)
    rw [h0] at hq
    omega
theorem pow_256 (j : Nat) : (2 : Int) ^ (8 * j) = 256 ^ j := by
  rw [Int.pow_mul]
  rfl
theorem zero8w : Zero Tryz.prog 203 (List.replicate 8 (Value.int .u8 0)) := by unfold Zero; kernel_rfl
/-- A variable that is an array, sliced from a place on. -/
theorem wpList_arr_from {P : Program} {w : World} {ops : Array Oper} {rest : List Oper} {o : Oper} {a : Act} {Q : Exit → Act → World → Prop} (hgd : o.guard = none) (ty e : TypeId) (n l : Nat) (x y : Operand) (ho : o.op = .slice ty x (some y) none none)
    (hu : P.underlying ty = some (.array n e)) (hs : (P.info? e).map (·.size) = some 1) {g : Nat} (hx : a.eval x = .pointer (some ⟨g, 0, none⟩)) {z : Int} (hy : a.eval y = .int .i64 z) (hz : z = (l : Int)) (hl : l < n)
    (h : wpList P ops Q rest (a.put o.dst (.slice (some ⟨g, l, none⟩) (n - l) (n - l))) w) : wpList P ops Q (o :: rest) a w := by
  subst hz
  refine wpList_plain hgd fun K hK => ?_
  have hn : P.arrayLen ty = n := by simp [Program.arrayLen, hu]
  have he : P.elem ty = e := by simp [Program.elem, hu]
  have hrun := run_sliceAt_array_l w ty ⟨g, 0, none⟩ (by rw [hn, he]; exact hu) .i64 (l : Int) (by omega) (by rw [hn]; omega)
  have hsz : (sizeOf e).run P w = .ok 1 w := by
    cases hq : P.info? e with
    | none => simp [hq] at hs
    | some i => simp [sizeOf, typeInfo, hq, (by simpa [hq] using hs : i.size = 1)]
  rw [hn, he, hsz] at hrun
  unfold Oper.wp
  simp only [execOp, ho, hx, hy, Option.map_none, Option.map_some, Sem.run_bind, hrun, Result.andThen_ok, Sem.run_pure, Oper.upon]
  refine hK _ _ ?_
  have e1 : slicedAt ⟨g, 0, none⟩ (l : Int).toNat n n 1 = .slice (some ⟨g, l, none⟩) (n - l) (n - l) := by
    unfold slicedAt
    rw [Int.toNat_natCast, if_neg (by omega)]
    have : (⟨g, 0, none⟩ : Addr).add (l * 1) = ⟨g, l, none⟩ := by simp [Addr.add_mid]
    rw [this]
  rw [e1]; exact h

/-- An array in memory, wherever it lies, sliced whole. -/
theorem wpList_arr_at {P : Program} {w : World} {ops : Array Oper} {rest : List Oper} {o : Oper} {a : Act} {Q : Exit → Act → World → Prop} (hgd : o.guard = none) (ty e : TypeId) (n : Nat) (x : Operand) (ho : o.op = .slice ty x none none none)
    (hu : P.underlying ty = some (.array n e)) (hs : (P.info? e).map (·.size) = some 1) {g off : Nat} (hx : a.eval x = .pointer (some ⟨g, off, none⟩))
    (h : wpList P ops Q rest (a.put o.dst (.slice (some ⟨g, off, none⟩) n n)) w) : wpList P ops Q (o :: rest) a w := by
  refine wpList_plain hgd fun K hK => ?_
  have hn : P.arrayLen ty = n := by simp [Program.arrayLen, hu]
  have he : P.elem ty = e := by simp [Program.elem, hu]
  have hrun := run_sliceAt_array_all w ty ⟨g, off, none⟩ (by rw [hn, he]; exact hu)
  have hsz : (sizeOf e).run P w = .ok 1 w := by
    cases hq : P.info? e with
    | none => simp [hq] at hs
    | some i => simp [sizeOf, typeInfo, hq, (by simpa [hq] using hs : i.size = 1)]
  rw [hn, he, hsz] at hrun
  unfold Oper.wp
  simp only [execOp, ho, hx, Option.map_none, Sem.run_bind, hrun, Result.andThen_ok, Sem.run_pure, Oper.upon]
  refine hK _ _ ?_
  have e1 : slicedAt ⟨g, off, none⟩ 0 n n 1 = .slice (some ⟨g, off, none⟩) n n := by
    unfold slicedAt
    have : (⟨g, off, none⟩ : Addr).add (0 * 1) = ⟨g, off, none⟩ := by simp [Addr.add_mid]
    rw [this]; simp
  rw [e1]; exact h
set_option maxRecDepth 100000 in
set_option maxHeartbeats 1000000 in
theorem num_arg_with {w : World} {p : Option Addr} {Post : World → Prop} (N A : Int) (hA : A < 1 ∨ 8 < A ∨ (∃ K : Nat, A = (K : Int) ∧ 1 ≤ K ∧ K ≤ 8 ∧ ¬ N / 256 ^ K = 0))
    (CP : Calls Tryz.prog 124 #[.pointer p, .int .i64 1, .slice none 0 0] w fun q w' => q = .returned (.tuple #[]) ∧ Post w') :
    Calls Tryz.prog 87 #[.pointer p, .int .u64 N, .int .i64 A] w fun q w' => q = .returned (.tuple #[]) ∧ Post w' := by
  rcases hA with hA | hA | ⟨K, rfl, h1, h8, hN⟩
  · have hA0 : A < 1 := hA
    go_enter Tryz.func87, Tryz.ntmps87
    go_wp2_with fail
    refine CP.mono ?_
    rintro q w1 ⟨rfl, hw⟩
    go_wp2
    first
      | go_end0
      | refine bodyPost_ret (results_none rfl _ _ _) rfl ?_
    exact ⟨rfl, hw⟩
  · have hA1 : ¬ A < 1 := by omega
    go_enter Tryz.func87, Tryz.ntmps87
    go_wp2_with fail
    refine CP.mono ?_
    rintro q w1 ⟨rfl, hw⟩
    go_wp2
    first
      | go_end0
      | refine bodyPost_ret (results_none rfl _ _ _) rfl ?_
    exact ⟨rfl, hw⟩
  · have hA1 : ¬ (K : Int) < 1 := by omega
    have hA8 : ¬ 8 < (K : Int) := by omega
    have hwk : wrap64 (8 * (K : Int)) = 8 * K := by unfold wrap64; omega
    have hN1 : ¬ N / 2 ^ (8 * (K : Int)).toNat = 0 := by rw [show (8 * (K : Int)).toNat = 8 * K by omega, pow_256]; exact hN
    have hN2 : ¬ N / 2 ^ (8 * K) = 0 := by rw [pow_256]; exact hN
    go_enter Tryz.func87, Tryz.ntmps87
    go_wp2_with fail
    refine CP.mono ?_
    rintro q w1 ⟨rfl, hw⟩
    go_wp2
    first
      | go_end0
      | refine bodyPost_ret (results_none rfl _ _ _) rfl ?_
    exact ⟨rfl, hw⟩

set_option maxRecDepth 100000 in
set_option maxHeartbeats 1000000 in
theorem num_fits_with {w : World} {p : Option Addr} {Post : World → Prop} (N : Int) (K : Nat) (h1 : 1 ≤ K) (h8 : K ≤ 8) (hN : N / 256 ^ K = 0)
    (CP : ∀ W, Blk W w.heap.size 203 (laidN N 8) → Below w.heap.size w W → Calls Tryz.prog 124 #[.pointer p, .int .i64 0, .slice (some ⟨W.heap.size, 0, none⟩) 1 1] (W.alloc (.cells #[.slice (some ⟨w.heap.size, 8 - K, none⟩) K K] 34)) fun q w' => q = .returned (.tuple #[]) ∧ Post w') :
    Calls Tryz.prog 87 #[.pointer p, .int .u64 N, .int .i64 (K : Int)] w fun q w' => q = .returned (.tuple #[]) ∧ Post w' := by
  have hA1 : ¬ (K : Int) < 1 := by omega
  have hA8 : ¬ 8 < (K : Int) := by omega
  have hwk : wrap64 (8 * (K : Int)) = 8 * K := by unfold wrap64; omega
  have hN1 : N / 2 ^ (8 * (K : Int)).toNat = 0 := by rw [show (8 * (K : Int)).toNat = 8 * K by omega, pow_256]; exact hN
  have hN2 : N / 2 ^ (8 * K) = 0 := by rw [pow_256]; exact hN
  obtain ⟨Q, hQ⟩ : ∃ Q, 8 - K = Q := ⟨_, rfl⟩
  have hQw : wrap64 (8 - (K : Int)) = (Q : Int) := by unfold wrap64; omega
  have hQ8 : Q < 8 := by omega
  have hQc := Lib.hid (show 8 - (K : Int) = (Q : Int) by omega)
  have hQK : Q + K = 8 := by omega
  have hKQ : 8 - Q = K := by omega
  obtain ⟨G, hG⟩ : ∃ G, w.heap.size = G := ⟨_, rfl⟩
  rw [hG, hQ] at CP
  have CPH := Lib.hid CP
  clear CP hN
  have hZZ : Zero Tryz.prog 203 (laidN N 0) := zero8w
  have hGH := Lib.hid hG
  clear hG
  go_enter Tryz.func87, Tryz.ntmps87
  go_wp2_with (with_reducible refine wpList_alloc_blk rfl 203 rfl hZZ ?_; refine RowKit.Hid.out ?_)
  refine Lib.hid ?_
  have hb0 : Blk (w.alloc (.cells (laidN N 0).toArray 203)) G 203 (laidN N 0) := by rw [← hGH.out]; exact Blk.new w _ _
  have hB0 : Below G w (w.alloc (.cells (laidN N 0).toArray 203)) := by rw [← hGH.out]; exact below1 w _
  obtain ⟨V, hV⟩ : ∃ V, w.alloc (.cells (laidN N 0).toArray 203) = V := ⟨_, rfl⟩
  rw [hV] at hb0 hB0 ⊢
  rw [hGH.out]
  clear hV hZZ
  go_wp2_with fail
  go_loopw [23] (fun i wr => ∃ j : Nat, j ≤ 8 ∧ i = .int .i64 j ∧ Blk wr G 203 (laidN N j) ∧ Below G w wr) (fun i _ => 8 - (intOf i).toNat)
  case atStart => exact ⟨0, Nat.zero_le _, rfl, hb0, hB0⟩
  case round =>
    clear hb0 hB0
    obtain ⟨j, hj, rfl, hb, hB⟩ := hrel
    by_cases hlt : j < 8
    · have hji : (j : Int) < 8 := by omega
      have hjw : wrap64 (8 * (j : Int)) = 8 * j := by unfold wrap64; omega
      have hl := laidN_len N j (by omega)
      obtain ⟨v0, hc⟩ : ∃ v0, wr.cell? ⟨G, 7 - j, none⟩ = some v0 := ⟨_, (hb.cell (7 - j)).trans (List.getElem?_eq_getElem (by omega))⟩
      have hf := hb.frozen (7 - j)
      have hset := laidN_set N j (7 - j) (N / 2 ^ (8 * j) % 256) (by omega) (by rw [pow_256])
      have hb2 := hb.set (7 - j) (.int .u8 (N / 2 ^ (8 * j) % 256))
      rw [hset] at hb2
      have hB2 := hB.setCell (p := ⟨G, 7 - j, none⟩) (Nat.le_refl _) (.int .u8 (N / 2 ^ (8 * j) % 256))
      have hltH := Lib.hid hlt
      clear hlt hl hset hb hB
      go_wp2
      exact ⟨⟨j + 1, by have := hltH.out; omega, by congr 1, hb2, hB2⟩, by simp only [intOf]; have := hltH.out; omega⟩
    · obtain rfl : j = 8 := by omega
      have hji : ¬ ((8 : Nat) : Int) < 8 := by omega
      clear hlt hj
      go_wp2_with (refine wpList_arr_from rfl 203 5 8 Q (.tmp 6) (.tmp 37) rfl Tryz.underlying203 sizeU8s rfl rfl hQc.out hQ8 ?_)
      refine (CPH.out wr hb hB).mono ?_
      rintro q w1 ⟨rfl, hw⟩
      go_wp2
      first
        | go_end0
        | refine bodyPost_ret (results_none rfl _ _ _) rfl ?_
      exact ⟨rfl, hw⟩

set_option maxRecDepth 100000 in
set_option maxHeartbeats 1000000 in
theorem bytes_with {w : World} {p : Option Addr} {Post : World → Prop} (b : Option Addr) (m d : Nat)
    (CP : Calls Tryz.prog 124 #[.pointer p, .int .i64 0, .slice (some ⟨w.heap.size, 0, none⟩) 1 1] (w.alloc (.cells #[.slice b m d] 34)) fun q w' => q = .returned (.tuple #[]) ∧ Post w') :
    Calls Tryz.prog 88 #[.pointer p, .slice b m d] w fun q w' => q = .returned (.tuple #[]) ∧ Post w' := by
  go_enter Tryz.func88, Tryz.ntmps88
  go_wp2_with fail
  refine CP.mono ?_
  rintro q w1 ⟨rfl, hw⟩
  go_wp2
  first
    | go_end0
    | refine bodyPost_ret (results_none rfl _ _ _) rfl ?_
  exact ⟨rfl, hw⟩

/-- The ids' own bytes, each id's a part. -/
def idParts (b : Option Addr) (m : Nat) : List Value := (List.range m).map fun i => .slice (b.map fun x => ⟨x.block, x.off + i * 32, none⟩) 32 32
theorem idParts_len (b : Option Addr) (m : Nat) : (idParts b m).length = m := by simp [idParts]
theorem idParts_set (b : Nat) (off m j : Nat) (h : j < m) : (idParts (some ⟨b, off, none⟩) j ++ List.replicate (m - j) (Value.slice none 0 0)).set j (.slice (some ⟨b, off + j * 32, none⟩) 32 32) = idParts (some ⟨b, off, none⟩) (j + 1) ++ List.replicate (m - (j + 1)) (Value.slice none 0 0) := by
  rw [List.set_append_right _ _ (by rw [idParts_len]; exact Nat.le_refl _), idParts_len, Nat.sub_self, show m - j = (m - (j + 1)) + 1 by omega, List.replicate_succ, List.set_cons_zero]
  unfold idParts
  rw [List.range_succ, List.map_append, List.append_assoc]
  rfl
theorem info_sl : ∃ i, Tryz.prog.info? 34 = some i ∧ i.zero = some (.slice none 0 0) ∧ i.size = 1 ∧ i.bytes = 24 := by
  have h : (Tryz.prog.info? 34).map (fun i => (i.zero, i.size, i.bytes)) = some (some (.slice none 0 0), 1, 24) := by kernel_rfl
  cases hq : Tryz.prog.info? 34 with
  | none => simp [hq] at h
  | some i => rw [hq] at h; simp at h; exact ⟨i, rfl, h.1, h.2.1, h.2.2⟩
end Go.Proofs.YtinmmhbiomcdoaaGreatDoor

/-
  What the landed writer's Num, Bytes, Id, Hint, Ids and Fail come to, by write. New memory and the writer's own alone are written. Conditions: at most eighty million bytes; what is handed in does not lie in the writer's own memory.
-/
namespace Go.Proofs.YtinmmhbiomcdoaaGreatDoor
open Go.RowKit

theorem one_out {F : Nat → Prop} {w : World} {b : Option Addr} {m d : Nat} {ys : List Int} {T : TypeId} (hF : ∀ b, F b → b < w.heap.size) (hI : Ints .u8 w b m d ys) (hb : ∀ x, b = some x → 0 < m → ¬ F x.block) :
    Outs F (w.alloc (.cells #[.slice b m d] T)) (some ⟨w.heap.size, 0, none⟩) 1 [ys] := by
  refine ⟨rfl, .inr ⟨w.heap.size, 0, rfl, fun h => by have := hF _ h; omega, fun i hi => ?_⟩⟩
  obtain rfl : i = 0 := by omega
  exact ⟨b, m, d, (Blk.new w T [.slice b m d]).cell 0, hI.keep (below1 w _), hb⟩
theorem blk_ints {w : World} {g n : Nat} {t : TypeId} {ys : List Int} (h : Blk w g t (ys.map (Value.int .u8))) (hl : ys.length = n) : Ints .u8 w (some ⟨g, 0, none⟩) n n ys :=
  ⟨hl, Nat.le_refl _, .inr ⟨g, 0, rfl, fun i hi => by
    rw [Nat.zero_add, h.cell, List.getElem?_map, List.getElem?_eq_getElem (by omega), List.getD_eq_getElem?_getD, List.getElem?_eq_getElem (by omega)]
    rfl⟩⟩
theorem Grows.of_le {F F' : Nat → Prop} {w w' : World} (h : Grows F F' w') (hs : w.heap.size ≤ w'.heap.size) : Grows F F' w := fun b hb => (h b hb).imp id (fun h => Nat.le_trans hs h)
theorem within {F : Nat → Prop} {w w2 w' : World} {g : Nat} {r : Int} {X : List Int} {E : Int} {q : Ending} (hB : Below w.heap.size w w2) (h : ∃ F', q = .returned (.tuple #[]) ∧ WrAt F' w' g r X E ∧ Grows F F' w2 ∧ Moved F w2 w') :
    q = .returned (.tuple #[]) ∧ ∃ F', WrAt F' w' g r X E ∧ Grows F F' w ∧ Moved F w w' := by
  obtain ⟨F', hq, hw, hg, hm⟩ := h
  exact ⟨hq, F', hw, hg.of_le hB.size, (Moved.of_below hB).then hm⟩
theorem without {F : Nat → Prop} {w w' : World} {g : Nat} {r : Int} {X : List Int} {E : Int} {q : Ending} (h : q = .returned (.tuple #[]) ∧ ∃ F', WrAt F' w' g r X E ∧ Grows F F' w ∧ Moved F w w') :
    ∃ F', q = .returned (.tuple #[]) ∧ WrAt F' w' g r X E ∧ Grows F F' w ∧ Moved F w w' := by
  obtain ⟨hq, F', h⟩ := h
  exact ⟨F', hq, h⟩

theorem wNote_any {F : Nat → Prop} {w : World} {g : Nat} {r : Int} {xs : List Int} {e : Int} (h : WrAt F w g r xs e) (x : Int) (hm : xs.length ≤ 90000000) :
    Calls Tryz.prog 124 #[.pointer (some ⟨g, 0, none⟩), .int .i64 x, .slice none 0 0] w fun q w' => ∃ F', q = .returned (.tuple #[]) ∧ WrAt F' w' g r xs (badOf e x) ∧ Grows F F' w ∧ Moved F w w'  := by
  unfold badOf
  by_cases he : e = 0
  · subst he
    rw [if_pos rfl]
    by_cases hx : x = 0
    · subst hx
      refine (wWrite_any h none 0 0 [] ⟨rfl, .inl rfl⟩ (by simpa using hm) (by decide)).mono ?_
      rintro q w1 ⟨F', rfl, hw, hg, hm1⟩
      have hst : wrStep r xs 0 ([] : List (List Int)).flatten = (xs, 0) := by
        unfold wrStep
        rw [if_neg (by simp), if_neg (by have := h.fit; simp; omega)]
        simp
      rw [hst] at hw
      exact ⟨F', rfl, hw, hg, hm1⟩
    · refine (wWrite_fault h x hx none 0 0).mono ?_
      rintro q w1 ⟨rfl, hw, hm1⟩
      exact ⟨F, rfl, hw, grows_self, hm1⟩
  · rw [if_neg he]
    refine (wWrite_bad h he x none 0 0).mono ?_
    rintro q w1 ⟨rfl, rfl⟩
    exact ⟨F, rfl, h, grows_self, Moved.rfl'⟩

/-- One part, laid in new memory. -/
theorem wOne_any {F : Nat → Prop} {w : World} {g : Nat} {r : Int} {xs : List Int} {e : Int} (h : WrAt F w g r xs e) {W : World} (hB : Below w.heap.size w W) (b : Option Addr) (m d : Nat) (ys : List Int) (T : TypeId) (hI : Ints .u8 W b m d ys) (hb : ∀ x, b = some x → 0 < m → ¬ F x.block) (hm : xs.length + m ≤ 90000000) :
    Calls Tryz.prog 124 #[.pointer (some ⟨g, 0, none⟩), .int .i64 0, .slice (some ⟨W.heap.size, 0, none⟩) 1 1] (W.alloc (.cells #[.slice b m d] T)) fun q w' => q = .returned (.tuple #[]) ∧ ∃ F', WrAt F' w' g r (wrStep r xs e ys).1 (wrStep r xs e ys).2 ∧ Grows F F' w ∧ Moved F w w' := by
  have hW := h.keep (fun y hy => hB.block y (h.lt y hy)) hB.size
  have hO := one_out (T := T) hW.lt hI hb
  have b1 := below1 W (.cells #[.slice b m d] T)
  have h1 := hW.keep (fun y hy => b1.block y (hW.lt y hy)) b1.size
  have C := wWrite_any h1 (some ⟨W.heap.size, 0, none⟩) 1 1 [ys] hO (by have := hI.len; simp; omega) (by decide)
  rw [show [ys].flatten = ys by simp] at C
  exact C.mono fun _ _ k => within (hB.trans (b1.mono hB.size)) k

theorem wBytes_any {F : Nat → Prop} {w : World} {g : Nat} {r : Int} {xs : List Int} {e : Int} (h : WrAt F w g r xs e) (b : Option Addr) (m d : Nat) (ys : List Int) (hI : Ints .u8 w b m d ys) (hb : ∀ x, b = some x → 0 < m → ¬ F x.block) (hm : xs.length + m ≤ 80000000) :
    Calls Tryz.prog 88 #[.pointer (some ⟨g, 0, none⟩), .slice b m d] w fun q w' => ∃ F', q = .returned (.tuple #[]) ∧ WrAt F' w' g r (wrStep r xs e ys).1 (wrStep r xs e ys).2 ∧ Grows F F' w ∧ Moved F w w' :=
  (bytes_with b m d (wOne_any h (Below.refl _ _) b m d ys _ hI hb (by omega))).mono fun _ _ k => without k

theorem wNum_any {F : Nat → Prop} {w : World} {g : Nat} {r : Int} {xs : List Int} {e : Int} (h : WrAt F w g r xs e) (N A : Int) (hm : xs.length ≤ 80000000) (hN : 0 ≤ N) :
    Calls Tryz.prog 87 #[.pointer (some ⟨g, 0, none⟩), .int .u64 N, .int .i64 A] w fun q w' => ∃ F', q = .returned (.tuple #[]) ∧ WrAt F' w' g r (wrNum r xs e N A).1 (wrNum r xs e N A).2 ∧ Grows F F' w ∧ Moved F w w' := by
  unfold wrNum
  rcases num_cases N A hN with ⟨hf, K, rfl, h1, h8, hz⟩ | ⟨hf, hA⟩
  · rw [if_pos hf, Int.toNat_natCast]
    refine (num_fits_with N K h1 h8 hz fun W hb hB => ?_).mono fun _ _ k => without k
    have hI := laidN_ints hb K (8 - K) (by omega)
    exact wOne_any h hB _ K K (beL N K) _ hI (fun x hx _ hf => by injection hx with hx; subst hx; exact Nat.lt_irrefl _ (h.lt _ hf)) (by omega)
  · rw [if_neg hf]
    exact (num_arg_with N A hA ((wNote_any h 1 (by omega)).mono fun _ _ k => within (Below.refl _ _) k)).mono fun _ _ k => without k

/-- The ids' bytes, id by id. -/
def idRows (ys : List Int) (m : Nat) : List (List Int) := (List.range m).map fun i => (ys.drop (32 * i)).take 32
theorem idRows_flat (ys : List Int) : ∀ m, (idRows ys m).flatten = ys.take (32 * m)
  | 0 => by simp [idRows]
  | m + 1 => by
    have h := idRows_flat ys m
    unfold idRows at h ⊢
    rw [List.range_succ, List.map_append, List.flatten_append, h, show 32 * (m + 1) = 32 * m + 32 by omega, List.take_add]
    simp
theorem ids_out {F : Nat → Prop} {W : World} {G : Nat} {T : TypeId} {b : Option Addr} {m d : Nat} {ys : List Int} (hI : IdsAt W b m d ys) (hb : ∀ x, b = some x → 0 < m → ¬ F x.block) (hG : ¬ F G) (hk : Blk W G T (idParts b m)) : Outs F W (some ⟨G, 0, none⟩) m (idRows ys m) := by
  refine ⟨by simp [idRows], ?_⟩
  by_cases h0 : m = 0
  · exact .inl h0
  obtain ⟨lb, lo, rfl⟩ : ∃ lb lo, b = some ⟨lb, lo, none⟩ := by
    rcases hI.2.2 with h1 | ⟨lb, lo, h, _⟩
    · exact absurd h1 h0
    · exact ⟨lb, lo, h⟩
  refine .inr ⟨G, 0, rfl, hG, fun i hi => ⟨some ⟨lb, lo + i * 32, none⟩, 32, 32, ?_, ?_, fun x hx _ => ?_⟩⟩
  · rw [Nat.zero_add, hk.cell]
    unfold idParts
    rw [List.getElem?_map, List.getElem?_range hi]
    rfl
  · have h1 := ids_chunk hI i hi
    unfold idRows
    rw [List.getD_eq_getElem?_getD, List.getElem?_map, List.getElem?_range hi]
    exact h1
  · injection hx with hx
    subst hx
    exact hb ⟨lb, lo, none⟩ rfl (by omega)
end Go.Proofs.YtinmmhbiomcdoaaGreatDoor

/-
  A writer that lays bytes for a caller: what each call comes to, said of the bytes laid alone. (Cut out of the texts of layer 14.) New memory alone is written, and the writer's own. Conditions: the room is not used up; at most eighty million bytes.
-/
namespace Go.Proofs.YtinmmhbiomcdoaaGreatDoor
open Go.RowKit

/-- A writer of room R that has laid L, and no memory of before was written but its own. -/
def We (R : Int) (V : World) (F0 : Nat → Prop) (g : Nat) (w : World) (L : List Int) : Prop := ∃ F, WrAt F w g R L 0 ∧ Grows F0 F V ∧ Moved F0 V w
section
variable {R : Int} {V w : World} {F0 : Nat → Prop} {g : Nat} {L : List Int}
theorem We.keep {w' : World} (h : We R V F0 g w L) (hb : Below w.heap.size w w') : We R V F0 g w' L := by
  obtain ⟨F, hw, hg, hm⟩ := h
  exact ⟨F, hw.keep (fun b hf => hb.block b (hw.lt b hf)) hb.size, hg, hm.then (Moved.of_below hb)⟩
theorem We.start (h : WrAt F0 V g R L 0) : We R V F0 g V L := ⟨F0, h, grows_self, Moved.rfl'⟩
theorem We.blk {k : Nat} {t : TypeId} {cs : List Value} (h : We R V F0 g w L) (hk : Blk V k t cs) (hn : ¬ F0 k) : Blk w k t cs := by
  obtain ⟨_, _, _, hm⟩ := h
  exact (hm.2 k hk.lt hn).trans hk
theorem We.below {B : Nat} (h : We R V F0 g w L) (hF : ∀ b, F0 b → B ≤ b) (hB : B ≤ V.heap.size) : Below B V w := by
  obtain ⟨_, _, _, hm⟩ := h
  exact hm.below hF hB
theorem We.step {w' : World} {F F' : Nat → Prop} (hg : Grows F0 F V) (hm : Moved F0 V w) (hw : WrAt F' w' g R L 0) (hg' : Grows F F' w) (hm' : Moved F w w') : We R V F0 g w' L := by
  refine ⟨F', hw, fun b hb => ?_, ⟨hm.1.trans hm'.1, fun b hb hf => (hm'.2 b (Nat.lt_of_lt_of_le hb hm.size) (fun hF => ?_)).trans (hm.2 b hb hf)⟩⟩
  · rcases hg' b hb with h | h
    · exact hg b h
    · exact .inr (Nat.le_trans hm.size h)
  · rcases hg b hF with h | h
    · exact hf h
    · omega
theorem We.done (h : We R V F0 g w L) (hl : L.length ≤ 100000000) : Calls Tryz.prog 89 #[.pointer (some ⟨g, 0, none⟩)] w fun q w' => ∃ b c, q = .returned (.tuple #[.slice b (if (0 : Int) = 0 then L else []).length c, .int .i64 0]) ∧ w'.ownsRow w.heap.size 5 1 (.slice b (if (0 : Int) = 0 then L else []).length c) (if (0 : Int) = 0 then L else []).length ((if (0 : Int) = 0 then L else []).map (Value.int .u8)) ∧ Below w.heap.size w w' := by
  obtain ⟨_, hw, _, _⟩ := h
  exact wDone_any hw hl
theorem we_num (h : We R V F0 g w L) (N A : Int) (hf : fits N A) (hN : 0 ≤ N) (hl : (L.length : Int) + A ≤ R) (hm0 : L.length ≤ 80000000) :
    Calls Tryz.prog 87 #[.pointer (some ⟨g, 0, none⟩), .int .u64 N, .int .i64 A] w fun q w' => q = .returned (.tuple #[]) ∧ We R V F0 g w' (L ++ beL N A.toNat) := by
  obtain ⟨F, hw, hg, hm⟩ := h
  have h1 := hf.1
  refine (wNum_any hw N A hm0 hN).mono ?_
  rintro q w' ⟨F', rfl, hw', hg', hm'⟩
  have e : wrNum R L 0 N A = (L ++ beL N A.toNat, 0) := by
    unfold wrNum wrStep
    rw [if_pos hf, if_neg (by simp), if_neg (by rw [beL_len]; omega)]
  rw [e] at hw'
  exact ⟨rfl, We.step hg hm hw' hg' hm'⟩

theorem we_bytes (h : We R V F0 g w L) (b : Option Addr) (m d : Nat) (ys : List Int) (hI : Ints .u8 V b m d ys) (hb : ∀ x, b = some x → 0 < m → ¬ F0 x.block) (hl : (L.length : Int) + m ≤ R) (hm0 : L.length + m ≤ 80000000) :
    Calls Tryz.prog 88 #[.pointer (some ⟨g, 0, none⟩), .slice b m d] w fun q w' => q = .returned (.tuple #[]) ∧ We R V F0 g w' (L ++ ys) := by
  obtain ⟨F, hw, hg, hm⟩ := h
  have hlt := hI.isIn.2
  refine (wBytes_any hw b m d ys (ints_still' hI hm hb) (fun x hx h0 hF => by
    rcases hg _ hF with h | h
    · exact hb x hx h0 h
    · have := hlt x hx h0; omega) hm0).mono ?_
  rintro q w' ⟨F', rfl, hw', hg', hm'⟩
  have e : wrStep R L 0 ys = (L ++ ys, 0) := by
    unfold wrStep
    have := hI.len
    rw [if_neg (by simp), if_neg (by omega)]
  rw [e] at hw'
  exact ⟨rfl, We.step hg hm hw' hg' hm'⟩

end

theorem beL_k {K : Int} (h : 0 ≤ K ∧ K < 256) : beL K 1 = [K] := by
  show [] ++ [K % 256] = _
  rw [List.nil_append, show K % 256 = K by omega]
end Go.Proofs.YtinmmhbiomcdoaaGreatDoor
