/-
  Texts of stages that were proved on their own, joined: RpMem, RwRef, RwNum, RwIds. Each begins with its own words.
-/
import Derived.Test.YtaaflnmdaplfkaaJKcAll6
import Derived.RegionTactic
import Derived.ChangeAlike
import Derived.Deep.QuietTactic
import Derived.BigQuiet
import Derived.Test.YtaaflnmdaplfkaaJKcAll0
import Derived.Test.YtaaflnmdaplfkaaSeqS
import Derived.Test.YtaaflnmdaplfkaaJKcAll1
import Derived.Test.YtaaflnmdaplfkaaSteps

/-
  A reader of the program in memory ('RdAt': its bytes, place and fault), and what bytes.Clone, New, reads, At and Left come to. New memory alone is written. Conditions: bytes below 256, at most a million; the place is within them.
-/
namespace Go.Proofs.Ytaaflnmdaplfkaa
open Go.RowKit

theorem pNone (cap : Nat) (w : World) : Sem.run Try.prog (binOp BinOp.eql 26 (.slice none 0 cap) (.slice none 0 0)) w = .ok (.bool true) w := by kernel_rfl
theorem pSome (x : Addr) (n cap : Nat) (w : World) : Sem.run Try.prog (binOp BinOp.eql 26 (.slice (some x) n cap) (.slice none 0 0)) w = .ok (.bool false) w := by kernel_rfl

set_option maxRecDepth 100000 in
set_option maxHeartbeats 800000 in
theorem pClone_any (a : Option Addr) (n cap : Nat) (xs : List Int) (w : World) (hI : Ints .u8 w a n cap xs) (hn : n ≤ 4294967296) :
    Calls Try.prog 35 #[.slice a n cap] w fun e w' => ∃ b c, e = .returned (.slice b n c) ∧ w'.ownsRow w.heap.size 5 1 (.slice b n c) n (xs.map (Value.int .u8)) ∧ Below w.heap.size w w' := by
  obtain ⟨i0, hi, hz0, hz1, hz2⟩ := info_u8b
  have hnH := Lib.hid hn
  clear hn
  go_enter Try.func35, Try.ntmps35
  cases a with
  | none =>
    have h0 : n = 0 := by
      rcases hI.2.2 with h | ⟨b, off, h, _⟩
      · exact h
      · cases h
    subst h0
    obtain rfl : xs = [] := List.length_eq_zero_iff.1 hI.1
    have heq := pNone cap
    go_wp2
    go_ret
    exact ⟨none, 0, rfl, World.ownsRow_nil _ _ _ _, Below.refl _ _⟩
  | some ad =>
    have q3 : Below w.heap.size w (w.alloc (.cells #[] 5)) := below1 _ _
    have I3 := Lib.hid (hI.keep q3)
    have heq := pSome ad n cap
    clear hI
    go_wp2_with (at_builtin
                 refine wpList_append_ints rfl (.tmp 5) (.tmp 6) 26 rfl w.heap.size 5 i0 (.int .u8 0) 1 Try.underlying26 hi hz0 hz1 hz2 rfl rfl (World.ownsRow_made w #[] 0 (Nat.le_refl _) (Nat.zero_le _) rfl) rfl I3.out ?_ ?_ q3.size ?_
                 (have := hnH.out; unfold maxLen; omega)
                 (have := hnH.out; omega)
                 intro v4 w4 hown4 hg4
                 refine RowKit.Hid.out ?_)
    refine Lib.hid ?_
    rw [List.nil_append, Nat.zero_add] at hown4
    have hex : ∃ b c, v4 = .slice b n c := own_slice hown4
    obtain ⟨b, c, hv⟩ := hex
    rw [hv] at hown4 ⊢
    have hB : Below w.heap.size w w4 := q3.grown hg4 q3.size (fun q hq => by injection hq with hq; rw [← hq]; exact Nat.le_refl _)
    go_wp2
    go_ret
    exact ⟨b, c, rfl, hown4, hB⟩

/-- The fault as it is kept: an error that wraps a number; a number that is none of the reader's own is kept beside it. -/
def FaultIs (fv : Value) (t e : Int) : Prop :=
  (fv = .nilIface ∧ e = 0 ∧ t = 0) ∨ (e ≠ 0 ∧ ∃ s, fv = .iface 90 (.agg #[.string s, .int .i64 e]) ∧ (e = 1 ∨ e = 2 ∨ e = 4 ∨ t = e))
/-- What a slice of bytes of the reader's own is: in a block of F, none at no byte. -/
structure RdAt (F : Nat → Prop) (w : World) (g : Nat) (xs : List Int) (p : Nat) (e : Int) : Prop where
  is : ∃ (a : Option Addr) (n c : Nat) (fv : Value) (t : Int), Blk w g 83 [.bool true, .slice a n c, .int .i64 (p : Int), fv, .int .i64 t] ∧ Ints .u8 w a n c xs ∧ FaultIs fv t e ∧ (∀ x, a = some x → 0 < n → F x.block ∧ x.block ≠ g)
  range : ∀ x ∈ xs, 0 ≤ x ∧ x < 256
  most : xs.length ≤ 1000000
  within : p ≤ xs.length
  own : F g
  lt : ∀ b, F b → b < w.heap.size
theorem RdAt.keep {F : Nat → Prop} {w w' : World} {g : Nat} {xs : List Int} {p : Nat} {e : Int} (h : RdAt F w g xs p e) (hk : ∀ b, F b → w'.heap[b]? = w.heap[b]?) (hs : w.heap.size ≤ w'.heap.size) : RdAt F w' g xs p e := by
  obtain ⟨a, n, c, fv, t, hb, hi, hf, hx⟩ := h.is
  refine ⟨⟨a, n, c, fv, t, (hk g h.own).trans hb, ?_, hf, hx⟩, h.range, h.most, h.within, h.own, fun b hb => Nat.lt_of_lt_of_le (h.lt b hb) hs⟩
  refine ⟨hi.1, hi.2.1, ?_⟩
  rcases hi.2.2 with h0 | ⟨b, off, ha, hc⟩
  · exact .inl h0
  · by_cases hn : n = 0
    · exact .inl hn
    · refine .inr ⟨b, off, ha, fun i hi => ?_⟩
      rw [← hc i hi]
      have := hk b (hx _ ha (by omega)).1
      simp only [World.cell?, this]

set_option maxRecDepth 100000 in
set_option maxHeartbeats 800000 in
theorem pNew_any (a : Option Addr) (n c : Nat) (xs : List Int) (w : World) (hI : Ints .u8 w a n c xs) (hr : ∀ x ∈ xs, 0 ≤ x ∧ x < 256) (hn : n ≤ 1000000) :
    Calls Try.prog 26 #[.slice a n c] w fun r w' => ∃ g F, r = .returned (.pointer (some ⟨g, 0, none⟩)) ∧ RdAt F w' g xs 0 0 ∧ (∀ b, F b → w.heap.size ≤ b) ∧ Below w.heap.size w w' := by
  go_enter Try.func26, Try.ntmps26
  go_wp2_with fail
  refine (pClone_any a n c xs w hI (by omega)).mono ?_
  rintro r w1 ⟨b, d, rfl, ho, hB⟩
  go_wp2
  go_ret
  refine ⟨w1.heap.size, fun k => w.heap.size ≤ k ∧ k < w1.heap.size + 1, rfl, ?_, fun b hb => hb.1, hB.trans ((below1 w1 _).mono hB.size)⟩
  have hk := Blk.new w1 83 [.bool true, .slice b n d, .int .i64 0, .nilIface, .int .i64 0]
  obtain ⟨a', c', hv, hi⟩ := Ints.of_owns ho
  injection hv with e1 _ e2
  subst e1; subst e2
  have hin := hi.isIn.2
  refine ⟨⟨b, n, d, .nilIface, 0, hk, hi.keep (below1 _ _), .inl ⟨rfl, rfl, rfl⟩, fun x hx h0 => ?_⟩, hr, by rw [hI.len]; exact hn, Nat.zero_le _, ⟨hB.size, Nat.lt_succ_self _⟩, fun b hb => by rw [size1]; exact hb.2⟩
  have hlt := hin x hx h0
  exact ⟨⟨(ho.lt x.block (by rw [hx]; rfl)).1, by omega⟩, by omega⟩

/-- The cells of a reader's block. -/
theorem rdCells {w : World} {g : Nat} {a : Option Addr} {n c : Nat} {p : Int} {fv : Value} {t : Int} (h : Blk w g 83 [.bool true, .slice a n c, .int .i64 p, fv, .int .i64 t]) :
    w.cell? ⟨g, 0, none⟩ = some (.bool true) ∧ w.cell? ⟨g, 1, none⟩ = some (.slice a n c) ∧ w.cell? ⟨g, 2, none⟩ = some (.int .i64 p) ∧ w.cell? ⟨g, 3, none⟩ = some fv ∧ w.cell? ⟨g, 4, none⟩ = some (.int .i64 t) :=
  ⟨h.cell 0, h.cell 1, h.cell 2, h.cell 3, h.cell 4⟩

set_option maxRecDepth 100000 in
set_option maxHeartbeats 800000 in
theorem pReads_any {F : Nat → Prop} {w : World} {g : Nat} {xs : List Int} {p : Nat} {e : Int} (h : RdAt F w g xs p e) :
    Calls Try.prog 55 #[.pointer (some ⟨g, 0, none⟩)] w fun r w' => r = .returned (.bool (decide (e = 0))) ∧ w = w' := by
  obtain ⟨a, n, c, fv, t, hb, hi, hf, hx⟩ := h.is
  obtain ⟨c0, c1, c2, c3, c4⟩ := rdCells hb
  clear hb hi hx h c1 c2 c4
  rcases hf with ⟨rfl, rfl, _⟩ | ⟨h0, s, rfl, _⟩
  · go_enter Try.func55, Try.ntmps55
    go_wp2
    go_ret
    exact ⟨rfl, rfl⟩
  · rw [decide_eq_false h0]
    clear h0
    go_enter Try.func55, Try.ntmps55
    go_wp2
    go_ret
    exact ⟨rfl, rfl⟩

set_option maxRecDepth 100000 in
set_option maxHeartbeats 800000 in
theorem pLeft_any {F : Nat → Prop} {w : World} {g : Nat} {xs : List Int} {p : Nat} {e : Int} (h : RdAt F w g xs p e) :
    Calls Try.prog 53 #[.pointer (some ⟨g, 0, none⟩)] w fun r w' => r = .returned (.int .i64 ((xs.length : Int) - p)) ∧ ∃ q, w' = w.drewN q := by
  obtain ⟨a, n, c, fv, t, hb, hi, hf, hx⟩ := h.is
  obtain ⟨c0, c1, c2, c3, c4⟩ := rdCells hb
  have hl := hi.len
  have hm := h.most
  have hp := h.within
  rw [hl] at hm hp ⊢
  have hw : wrap64 ((n : Int) - (p : Int)) = (n : Int) - p := by unfold wrap64; omega
  clear hb hi hx h c0 c3 c4 hl
  go_enter Try.func53, Try.ntmps53
  go_wp2
  go_quiet (fail)
  go_wp2
  go_ret
  exact ⟨rfl, _, rfl⟩
end Go.Proofs.Ytaaflnmdaplfkaa

/-
  The document's own writer (layer 10): New, Fail, Bytes, Done. New memory alone is written. Conditions: at most a million bytes, where bytes are laid.
-/
namespace Go.Proofs.Ytaaflnmdaplfkaa
open Go.RowKit
end Go.Proofs.Ytaaflnmdaplfkaa

/-
  The document's own writer (layer 10): what Bytes comes to in every case, and Num. New memory alone is written. Conditions: at most a million bytes.
-/
namespace Go.Proofs.Ytaaflnmdaplfkaa
open Go.RowKit

/-- Bytes and fault behind Bytes(ys). -/
def wrStep (r : Int) (xs : List Int) (e : Int) (ys : List Int) : List Int × Int :=
  if e ≠ 0 then (xs, e) else if r < ((xs.length : Int) + ys.length) then (xs, 3) else (xs ++ ys, 0)
/-- Where the bytes lie: where they lay, or in new memory. -/
def Stays (w : World) (a a' : Option Addr) (n n' : Nat) : Prop := (a' = a ∧ n' = n) ∨ ∀ x, a' = some x → w.heap.size ≤ x.block

/-- Does a number fit so many bytes? -/
def fits (N A : Int) : Prop := 1 ≤ A ∧ A ≤ 8 ∧ N < 256 ^ A.toNat
instance (N A : Int) : Decidable (fits N A) := by unfold fits; exact inferInstance
/-- Bytes and fault behind Num(N, A). -/
def wrNum (r : Int) (xs : List Int) (e N A : Int) : List Int × Int := if fits N A then wrStep r xs e (beL N A.toNat) else (xs, badOf e 1)
end Go.Proofs.Ytaaflnmdaplfkaa

/-
  The document's own writer (layer 10): Ids. New memory alone is written. Conditions: at most a million bytes.
-/
namespace Go.Proofs.Ytaaflnmdaplfkaa
open Go.RowKit

theorem ids_chunk {w : World} {b off n cap : Nat} {zs : List Int} (h : IdsAt w (some ⟨b, off, none⟩) n cap zs) (j : Nat) (hj : j < n) : Ints .u8 w (some ⟨b, off + j * 32, none⟩) 32 32 ((zs.drop (32 * j)).take 32) := by
  have hl := h.1
  refine ⟨by rw [List.length_take, List.length_drop, hl]; omega, Nat.le_refl _, .inr ⟨b, off + j * 32, rfl, fun i hi => ?_⟩⟩
  rcases h.2.2 with h0 | ⟨b', off', ha, hc⟩
  · omega
  · injection ha with ha
    injection ha with e1 e2 _
    subst e1; subst e2
    have h1 := hc (j * 32 + i) (by omega)
    rw [show off + j * 32 + i = off + (j * 32 + i) by omega, h1]
    congr 2
    rw [List.getD_eq_getElem?_getD, List.getD_eq_getElem?_getD, List.getElem?_take_of_lt hi, List.getElem?_drop, show 32 * j + i = j * 32 + i by omega]
theorem take_chunk (zs : List Int) (j : Nat) : (zs.take (32 * j)).map (Value.int .u8) ++ ((zs.drop (32 * j)).take 32).map (Value.int .u8) = (zs.take (32 * (j + 1))).map (Value.int .u8) := by
  rw [← List.map_append, ← List.take_add, show 32 * (j + 1) = 32 * j + 32 by omega]
end Go.Proofs.Ytaaflnmdaplfkaa
