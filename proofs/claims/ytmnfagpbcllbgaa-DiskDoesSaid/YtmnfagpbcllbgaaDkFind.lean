/-
  What the landed disk's made, find, look, New come to, and what it tells: Read, Kept, Size, Units, Room, Fuse, Down. New memory alone is written. Conditions: a disk that New made.
-/
import Derived.Test.YtmnfagpbcllbgaaDkMem
import Derived.Test.YtmnfagpbcllbgaaRowOps
namespace Go.Proofs.Ytmnfagpbcllbgaa
open Go.RowKit

set_option maxRecDepth 100000 in
set_option maxHeartbeats 800000 in
theorem dMade_any {w : World} {g : Nat} {r : Int} (c0 : w.cell? ⟨g, 0, none⟩ = some (.int .i64 r)) (hr : 0 < r) :
    Calls Try.prog 33 #[.pointer (some ⟨g, 0, none⟩)] w fun q w' => q = .returned (.bool true) ∧ w = w' := by
  go_enter Try.func33, Try.ntmps33
  go_wp2
  go_ret
  exact ⟨rfl, rfl⟩

set_option maxRecDepth 100000 in
set_option maxHeartbeats 800000 in
theorem dFind_no {w : World} {g : Nat} {r : Int} (c0 : w.cell? ⟨g, 0, none⟩ = some (.int .i64 r)) (hr : 0 < r) (i : Int) (h : noFile i) :
    Calls Try.prog 39 #[.pointer (some ⟨g, 0, none⟩), .int .i64 i] w fun q w' => q = .returned (.tuple #[.pointer none, .int .i64 1]) ∧ w = w' := by
  have hM := dMade_any c0 hr
  by_cases h0 : i < 0
  · go_enter Try.func39, Try.ntmps39
    go_wp2_with fail
    refine hM.mono ?_
    rintro q w1 ⟨rfl, rfl⟩
    go_wp2
    go_ret2
    exact ⟨rfl, rfl⟩
  · have h1 : 3 ≤ i := by rcases h with h | h <;> omega
    go_enter Try.func39, Try.ntmps39
    go_wp2_with fail
    refine hM.mono ?_
    rintro q w1 ⟨rfl, rfl⟩
    go_wp2
    go_ret2
    exact ⟨rfl, rfl⟩

set_option maxRecDepth 100000 in
set_option maxHeartbeats 800000 in
theorem dFind_any {w : World} {g : Nat} {r : Int} (c0 : w.cell? ⟨g, 0, none⟩ = some (.int .i64 r)) (hr : 0 < r) (i : Nat) (h : i < 3) :
    Calls Try.prog 39 #[.pointer (some ⟨g, 0, none⟩), .int .i64 (i : Int)] w fun q w' => q = .returned (.tuple #[.pointer (some ⟨g, 3 + 5 * i, none⟩), .int .i64 0]) ∧ w = w' := by
  have hM := dMade_any c0 hr
  have h0 : ¬ (i : Int) < 0 := by omega
  have h1 : ¬ 3 ≤ (i : Int) := by omega
  have h2 : (i : Int) < 3 := by omega
  rw [Nat.mul_comm]
  go_enter Try.func39, Try.ntmps39
  go_wp2_with fail
  refine hM.mono ?_
  rintro q w1 ⟨rfl, rfl⟩
  go_wp2
  go_ret2
  exact ⟨rfl, rfl⟩
end Go.Proofs.Ytmnfagpbcllbgaa
