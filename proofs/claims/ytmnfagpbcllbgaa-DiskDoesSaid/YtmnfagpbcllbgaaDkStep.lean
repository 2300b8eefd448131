/-
  What the landed disk's New, unitsOf and the two kinds of steps' do come to. New memory alone is written, and the row that a put goes on. Conditions: at most 2^20 bytes.
-/
import Derived.Test.YtmnfagpbcllbgaaDkCount
namespace Go.Proofs.Ytmnfagpbcllbgaa
open Go.RowKit

def fa0 : FaV := ⟨none, 0, none, 0, none, 0⟩
def dk0 (r : Int) : DkV := ⟨r, 0, false, ⟨[], []⟩, ⟨[], []⟩, ⟨[], []⟩⟩
theorem built_dk (r : Int) : Try.prog.built 60 [(0, .int .i64 r)] = some (dC (dk0 r) fa0 fa0 fa0).toArray := by kernel_rfl
theorem fl_none (L : Nat → Nat) (P : Nat → Prop) (w : World) (i : Nat) : FlAt L P w i fa0 ⟨[], []⟩ :=
  ⟨⟨⟨rfl, Nat.le_refl _, .inl rfl⟩, fun x hx => by cases hx⟩, ⟨⟨[], World.ownsRow_nil _ _ _ _, StsAt.nil⟩, fun x hx => by cases hx⟩, ⟨World.ownsRow_nil _ _ _ _, fun x hx => by cases hx⟩⟩
theorem dk0_ok (r : Int) (h : 1 ≤ r ∧ r ≤ 65536) : (dk0 r).Ok 0 := by
  have f0 : (⟨[], []⟩ : FlV).Ok 0 := ⟨trivial, Nat.le_refl _, Nat.le_refl _, Nat.zero_le _⟩
  exact ⟨h, ⟨Int.le_refl _, show (0 : Int) < 9223372036854775808 by decide⟩, show (0 : Int) ≤ r by omega, f0, f0, f0⟩

set_option maxRecDepth 100000 in
set_option maxHeartbeats 800000 in
theorem dNew_any {w : World} (r : Int) (h : 1 ≤ r ∧ r ≤ 65536) :
    Calls Try.prog 7 #[.int .i64 r] w fun q w' => ∃ g L, q = .returned (.tuple #[.pointer (some ⟨g, 0, none⟩), .int .i64 0]) ∧ DkAt L (fun _ => False) w' g (dk0 r) fa0 fa0 fa0 ∧ (∀ b, L b ≠ 0 → w.heap.size ≤ b) ∧ Below w.heap.size w w' := by
  have h0 : ¬ r < 1 := by omega
  have h1 : ¬ 65536 < r := by omega
  have hbt := built_dk r
  obtain ⟨Cs, hCs⟩ : ∃ Cs, (dC (dk0 r) fa0 fa0 fa0) = Cs := ⟨_, rfl⟩
  rw [hCs] at hbt
  go_enter Try.func7, Try.ntmps7
  go_wp2_with (with_reducible refine build_row rfl 60 #[(0, .tmp 10)] rfl (cells := Cs.toArray) ?_ ?_
               (refine Eq.trans (congrArg _ ?_) hbt; kernel_rfl)
               refine RowKit.Hid.out ?_)
  refine Lib.hid ?_
  go_wp2_with (with_reducible refine box_row rfl 60 _ rfl Cs rfl ?_
               refine RowKit.Hid.out ?_)
  refine Lib.hid ?_
  go_wp2
  go_ret2
  refine ⟨w.heap.size, fun b => if b = w.heap.size then 1 else 0, rfl, ⟨by rw [hCs]; exact Blk.new w _ Cs, if_pos rfl, ⟨fun b hb => ?_, fun b hb => hb.elim⟩, fl_none _ _ _ _, fl_none _ _ _ _, fl_none _ _ _ _⟩, fun b hb => ?_, below1 _ _⟩
  · by_cases e : b = w.heap.size
    · rw [e, size1]; omega
    · exact absurd (if_neg e) hb
  · by_cases e : b = w.heap.size
    · omega
    · exact absurd (if_neg e) hb

theorem as_pp (v : Value) (w : World) : (Instr.typeAssert (.iface 83 v) 76 83 true).run Try.prog w = .ok (.tuple #[v, .bool true]) w := by kernel_rfl
theorem as_cp (v : Value) (w : World) : (Instr.typeAssert (.iface 88 v) 76 83 true).run Try.prog w = .ok (.tuple #[.slice none 0 0, .bool false]) w := by kernel_rfl
theorem as_cc (v : Value) (w : World) : (Instr.typeAssert (.iface 88 v) 76 88 true).run Try.prog w = .ok (.tuple #[v, .bool true]) w := by kernel_rfl

set_option maxRecDepth 100000 in
set_option maxHeartbeats 800000 in
theorem uOf_any {P : Nat → Prop} {w : World} {v : Value} {s : StV} (h : StAt P w v s) :
    Calls Try.prog 49 #[v] w fun q w' => q = .returned (.int .i64 (s.units : Nat)) ∧ w' = w := by
  cases s with
  | put xs =>
    obtain ⟨a, c, rfl, hI, hP⟩ := h
    have ha := as_pp (.slice a xs.length c)
    clear hI hP
    go_enter Try.func49, Try.ntmps49
    go_wp2
    go_ret
    exact ⟨rfl, rfl⟩
  | cut n =>
    obtain rfl : v = .iface 88 (.int .i64 (n : Int)) := h
    have ha := as_cp (.int .i64 (n : Int))
    have hc := as_cc (.int .i64 (n : Int))
    go_enter Try.func49, Try.ntmps49
    go_wp2
    go_ret
    exact ⟨rfl, rfl⟩
end Go.Proofs.Ytmnfagpbcllbgaa
