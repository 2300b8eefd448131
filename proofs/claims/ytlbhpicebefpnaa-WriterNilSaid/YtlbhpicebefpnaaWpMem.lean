/-
  A landed writer in memory ('WrAt'): room, bytes, fault; what New, Len, Err, Done come to. New memory and the writer's own alone are written. Conditions: at most a hundred million bytes, where they are told.
-/
import Derived.Test.YtlbhpicebefpnaaWrProg
import Derived.Test.YtlbhpicebefpnaaRpMem
import Derived.Test.YtlbhpicebefpnaaAppendAt
namespace Go.Proofs.Ytlbhpicebefpnaa
open Go.RowKit

def wpC (r : Int) (a : Option Addr) (n c : Nat) (e : Int) : List Value := [.bool true, .int .i64 r, .slice a n c, .int .i64 e]
structure WrAt (F : Nat → Prop) (w : World) (g : Nat) (r : Int) (xs : List Int) (e : Int) : Prop where
  is : ∃ (a : Option Addr) (c : Nat), Blk w g 58 (wpC r a xs.length c e) ∧ w.ownsRow 0 5 1 (.slice a xs.length c) xs.length (xs.map (Value.int .u8)) ∧ (∀ x, a = some x → F x.block ∧ x.block ≠ g)
  room : 0 ≤ r ∧ r < 9223372036854775808
  fit : (xs.length : Int) ≤ r
  own : F g
  lt : ∀ b, F b → b < w.heap.size
theorem own_same {w w' : World} {B : Nat} {e : TypeId} {v : Value} {n : Nat} {vs : List Value} (h : w.ownsRow B e 1 v n vs) (hk : ∀ b, v.ownBlock = some b → w'.heap[b]? = w.heap[b]?) : w'.ownsRow B e 1 v n vs := by
  refine ⟨h.1, ?_⟩
  rcases h.2 with h0 | ⟨g, cap, cur, hv, hb, hg, hr⟩
  · exact .inl h0
  · exact .inr ⟨g, cap, cur, hv, hb, (hk g (by rw [hv]; rfl)).trans hg, hr⟩
theorem slice_block {a : Option Addr} {n c b : Nat} (h : (Value.slice a n c).ownBlock = some b) : ∃ x, a = some x ∧ x.block = b := by
  cases a with
  | none => cases h
  | some x => exact ⟨x, rfl, by injection h⟩
theorem WrAt.keep {F : Nat → Prop} {w w' : World} {g : Nat} {r : Int} {xs : List Int} {e : Int} (h : WrAt F w g r xs e) (hk : ∀ b, F b → w'.heap[b]? = w.heap[b]?) (hs : w.heap.size ≤ w'.heap.size) : WrAt F w' g r xs e := by
  obtain ⟨a, c, hb, ho, hx⟩ := h.is
  exact ⟨⟨a, c, (hk g h.own).trans hb, own_same ho (fun b hb' => by obtain ⟨x, ha, hxb⟩ := slice_block hb'; rw [← hxb]; exact hk _ (hx x ha).1), hx⟩, h.room, h.fit, h.own, fun b hb' => Nat.lt_of_lt_of_le (h.lt b hb') hs⟩
theorem wpCells {w : World} {g : Nat} {r : Int} {a : Option Addr} {n c : Nat} {e : Int} (h : Blk w g 58 (wpC r a n c e)) :
    w.cell? ⟨g, 0, none⟩ = some (.bool true) ∧ w.cell? ⟨g, 1, none⟩ = some (.int .i64 r) ∧ w.cell? ⟨g, 2, none⟩ = some (.slice a n c) ∧ w.cell? ⟨g, 3, none⟩ = some (.int .i64 e) := ⟨h.cell 0, h.cell 1, h.cell 2, h.cell 3⟩
theorem WrAt.ints {w : World} {a : Option Addr} {n c : Nat} {xs : List Int} (h : w.ownsRow 0 5 1 (.slice a n c) n (xs.map (Value.int .u8))) : Ints .u8 w a n c xs := by
  obtain ⟨a5, c5, hv, hi⟩ := Ints.of_owns h
  injection hv with e1 _ e2
  subst e1; subst e2
  exact hi

set_option maxRecDepth 100000 in
set_option maxHeartbeats 800000 in
theorem wLen_any {F : Nat → Prop} {w : World} {g : Nat} {r : Int} {xs : List Int} {e : Int} (h : WrAt F w g r xs e) :
    Calls Try.prog 13 #[.pointer (some ⟨g, 0, none⟩)] w fun q w' => q = .returned (.int .i64 (xs.length : Int)) ∧ w = w' := by
  obtain ⟨a, c, hb, ho, hx⟩ := h.is
  obtain ⟨c0, c1, c2, c3⟩ := wpCells hb
  clear hb ho hx h c1 c0 c3
  go_enter Try.func13, Try.ntmps13
  go_wp2
  go_ret
  exact ⟨rfl, rfl⟩

set_option maxRecDepth 100000 in
set_option maxHeartbeats 800000 in
theorem wErr_any {F : Nat → Prop} {w : World} {g : Nat} {r : Int} {xs : List Int} {e : Int} (h : WrAt F w g r xs e) :
    Calls Try.prog 14 #[.pointer (some ⟨g, 0, none⟩)] w fun q w' => q = .returned (.int .i64 e) ∧ w = w' := by
  obtain ⟨a, c, hb, ho, hx⟩ := h.is
  obtain ⟨c0, c1, c2, c3⟩ := wpCells hb
  clear hb ho hx h c1 c2
  go_enter Try.func14, Try.ntmps14
  go_wp2
  go_ret
  exact ⟨rfl, rfl⟩

set_option maxRecDepth 100000 in
set_option maxHeartbeats 800000 in
theorem wDone_any {F : Nat → Prop} {w : World} {g : Nat} {r : Int} {xs : List Int} {e : Int} (h : WrAt F w g r xs e) (hm : xs.length ≤ 100000000) :
    Calls Try.prog 11 #[.pointer (some ⟨g, 0, none⟩)] w fun q w' => ∃ b c, q = .returned (.tuple #[.slice b (if e = 0 then xs else []).length c, .int .i64 e]) ∧ w'.ownsRow w.heap.size 5 1 (.slice b (if e = 0 then xs else []).length c) (if e = 0 then xs else []).length ((if e = 0 then xs else []).map (Value.int .u8)) ∧ Below w.heap.size w w' := by
  have hE := wErr_any h
  obtain ⟨a, c, hb, ho, hx⟩ := h.is
  have hI := WrAt.ints ho
  obtain ⟨c0, c1, c2, c3⟩ := wpCells hb
  clear hb ho hx c1 c0 c3
  by_cases h0 : e = 0
  · subst h0
    rw [if_pos rfl]
    go_enter Try.func11, Try.ntmps11
    go_wp2_with fail
    refine hE.mono ?_
    rintro q w1 ⟨rfl, rfl⟩
    go_wp2_with fail
    refine (pClone_any a xs.length c xs w hI (by omega)).mono ?_
    rintro q w2 ⟨b, c', rfl, ho, hB⟩
    go_wp2
    go_ret2
    exact ⟨b, c', rfl, ho, hB⟩
  · rw [if_neg h0]
    go_enter Try.func11, Try.ntmps11
    go_wp2_with fail
    refine hE.mono ?_
    rintro q w1 ⟨rfl, rfl⟩
    go_wp2
    go_ret2
    exact ⟨none, 0, rfl, World.ownsRow_nil _ _ _ _, Below.refl _ _⟩

set_option maxRecDepth 100000 in
set_option maxHeartbeats 800000 in
theorem wNew_any (r : Int) (w : World) (h1 : r < 9223372036854775808) :
    Calls Try.prog 8 #[.int .i64 r] w fun q w' => ∃ g F, q = .returned (.pointer (some ⟨g, 0, none⟩)) ∧ WrAt F w' g (max r 0) [] 0 ∧ (∀ b, F b → w.heap.size ≤ b) ∧ Below w.heap.size w w' := by
  by_cases h : ¬ 0 ≤ r
  · rw [show max r 0 = 0 by omega]
    go_enter Try.func8, Try.ntmps8
    go_wp2
    go_ret
    exact ⟨w.heap.size, rfl, fun b => b = w.heap.size, ⟨⟨none, 0, Blk.new w _ (wpC 0 none 0 0 0), World.ownsRow_nil _ _ _ _, fun x hx => by cases hx⟩, ⟨by omega, by omega⟩, Int.le_refl _, rfl, fun b hb => by rw [hb, size1]; omega⟩, fun b hb => by rw [hb]; exact Nat.le_refl _, below1 w _⟩
  · have h0 : 0 ≤ r := by omega
    rw [show max r 0 = r by omega]
    go_enter Try.func8, Try.ntmps8
    go_wp2
    go_ret
    exact ⟨w.heap.size, rfl, fun b => b = w.heap.size, ⟨⟨none, 0, Blk.new w _ (wpC r none 0 0 0), World.ownsRow_nil _ _ _ _, fun x hx => by cases hx⟩, ⟨by omega, by omega⟩, by show ((0 : Nat) : Int) ≤ _; omega, rfl, fun b hb => by rw [hb, size1]; omega⟩, fun b hb => by rw [hb]; exact Nat.le_refl _, below1 w _⟩
end Go.Proofs.Ytlbhpicebefpnaa
