/-
  The calls of a reader that is nil, and of one that no call made: they answer nothing. New memory alone is written. No conditions.
-/
import Derived.Test.YtpobplkijfienaaRpProg
namespace Go.Proofs.Ytpobplkijfienaa
open Go.RowKit Go.Shelf
attribute [local go_sem] Oper.semAt_some

/-- The cells of a reader that no call made. -/
def unC : List Value := [.bool false, .slice none 0 0, .int .i64 0, .nilIface, .int .i64 0]
/-- A pointer to no reader, or to one that no call made. -/
def Unmade (w : World) (q : Option Addr) : Prop := q = none ∨ ∃ g, q = some ⟨g, 0, none⟩ ∧ Blk w g 49 unC
theorem Unmade.keep {w w' : World} {q : Option Addr} (h : Unmade w q) (hb : Below w.heap.size w w') : Unmade w' q := by
  rcases h with h | ⟨g, hq, hg⟩
  · exact .inl h
  · exact .inr ⟨g, hq, hg.keep hb hg.lt⟩
theorem unCells {w : World} {g : Nat} (h : Blk w g 49 unC) :
    w.cell? ⟨g, 0, none⟩ = some (.bool false) ∧ w.cell? ⟨g, 1, none⟩ = some (.slice none 0 0) ∧ w.cell? ⟨g, 2, none⟩ = some (.int .i64 0) ∧ w.cell? ⟨g, 3, none⟩ = some .nilIface ∧ w.cell? ⟨g, 4, none⟩ = some (.int .i64 0) :=
  ⟨h.cell 0, h.cell 1, h.cell 2, h.cell 3, h.cell 4⟩

set_option maxRecDepth 100000 in
set_option maxHeartbeats 800000 in
theorem nReads_any {w : World} {q : Option Addr} (h : Unmade w q) :
    Calls Try.prog 33 #[.pointer q] w fun r w' => r = .returned (.bool false) ∧ w = w' := by
  rcases h with rfl | ⟨g, rfl, hb⟩
  · go_enter Try.func33, Try.ntmps33
    go_wp2
    go_ret
    exact ⟨rfl, rfl⟩
  · obtain ⟨c0, c1, c2, c3, c4⟩ := unCells hb
    go_enter Try.func33, Try.ntmps33
    go_wp2
    go_ret
    exact ⟨rfl, rfl⟩

set_option maxRecDepth 100000 in
set_option maxHeartbeats 800000 in
theorem nAt_any {w : World} {q : Option Addr} (h : Unmade w q) :
    Calls Try.prog 10 #[.pointer q] w fun r w' => r = .returned (.int .i64 0) ∧ w = w' := by
  rcases h with rfl | ⟨g, rfl, hb⟩
  · go_enter Try.func10, Try.ntmps10
    go_wp2
    go_ret
    exact ⟨rfl, rfl⟩
  · obtain ⟨c0, c1, c2, c3, c4⟩ := unCells hb
    go_enter Try.func10, Try.ntmps10
    go_wp2
    go_ret
    exact ⟨rfl, rfl⟩

set_option maxRecDepth 100000 in
set_option maxHeartbeats 800000 in
theorem nLeft_any {w : World} {q : Option Addr} (h : Unmade w q) :
    Calls Try.prog 11 #[.pointer q] w fun r w' => r = .returned (.int .i64 0) ∧ Below w.heap.size w w' := by
  rcases h with rfl | ⟨g, rfl, hb⟩
  · go_enter Try.func11, Try.ntmps11
    go_wp2
    go_ret
    exact ⟨rfl, Below.refl _ _⟩
  · obtain ⟨c0, c1, c2, c3, c4⟩ := unCells hb
    go_enter Try.func11, Try.ntmps11
    go_wp2
    go_quiet (fail)
    go_wp2
    go_ret
    exact ⟨rfl, below_drewN (Below.refl _ _) _⟩

set_option maxRecDepth 100000 in
set_option maxHeartbeats 800000 in
theorem nErr_any {w : World} {q : Option Addr} (h : Unmade w q) :
    Calls Try.prog 12 #[.pointer q] w fun r w' => r = .returned (.int .i64 7) ∧ w = w' := by
  rcases h with rfl | ⟨g, rfl, hb⟩
  · go_enter Try.func12, Try.ntmps12
    go_wp2
    go_ret
    exact ⟨rfl, rfl⟩
  · obtain ⟨c0, c1, c2, c3, c4⟩ := unCells hb
    go_enter Try.func12, Try.ntmps12
    go_wp2
    go_ret
    exact ⟨rfl, rfl⟩

set_option maxRecDepth 100000 in
set_option maxHeartbeats 800000 in
theorem nDone_any {w : World} {q : Option Addr} (h : Unmade w q) :
    Calls Try.prog 13 #[.pointer q] w fun r w' => r = .returned (.int .i64 7) ∧ Below w.heap.size w w' := by
  go_enter Try.func13, Try.ntmps13
  go_wp2_with fail
  refine (nLeft_any h).mono ?_
  rintro r w1 ⟨rfl, b1⟩
  have h1 := h.keep b1
  go_wp2_with fail
  refine (nErr_any h1).mono ?_
  rintro r w2 ⟨rfl, rfl⟩
  go_wp2
  go_ret
  exact ⟨rfl, b1⟩

set_option maxRecDepth 100000 in
set_option maxHeartbeats 800000 in
theorem nFail_any {w : World} {q : Option Addr} (x : Int) (h : Unmade w q) :
    Calls Try.prog 18 #[.pointer q, .int .i64 x] w fun r w' => r = .returned (.tuple #[]) ∧ w = w' := by
  have hc := nReads_any h
  by_cases hx : x = 0
  · subst hx
    go_enter Try.func18, Try.ntmps18
    go_wp2
    refine bodyPost_ret (results_none rfl _ _ _) rfl ?_
    exact ⟨rfl, rfl⟩
  · go_enter Try.func18, Try.ntmps18
    go_wp2_with fail
    refine hc.mono ?_
    rintro r w1 ⟨rfl, rfl⟩
    go_wp2
    refine bodyPost_ret (results_none rfl _ _ _) rfl ?_
    exact ⟨rfl, rfl⟩

set_option maxRecDepth 100000 in
set_option maxHeartbeats 800000 in
theorem nNext_any {w : World} {q : Option Addr} (s : ByteArray) (may : Bool) (A S : Int) (h : Unmade w q) :
    Calls Try.prog 32 #[.pointer q, .string s, .bool may, .int .i64 A, .int .i64 S] w fun r w' => r = .returned (.slice none 0 0) ∧ w = w' := by
  have hc := nReads_any h
  go_enter Try.func32, Try.ntmps32
  go_wp2_with fail
  refine hc.mono ?_
  rintro r w1 ⟨rfl, rfl⟩
  go_wp2
  go_ret
  exact ⟨rfl, rfl⟩

set_option maxRecDepth 100000 in
set_option maxHeartbeats 800000 in
theorem nNum_any {w : World} {q : Option Addr} (A : Int) (h : Unmade w q) :
    Calls Try.prog 17 #[.pointer q, .int .i64 A] w fun r w' => r = .returned (.int .u64 0) ∧ w = w' := by
  by_cases h1 : 1 ≤ A
  · by_cases h8 : A ≤ 8
    ·
      go_enter Try.func17, Try.ntmps17
      go_wp2_with fail
      refine (nNext_any _ _ A 1 h).mono ?_
      rintro r w1 ⟨rfl, rfl⟩
      go_wp2
      refine wp_loop_rounds 1 ?_
      rw [rounds_succ]
      go_wp2
      go_ret
      exact ⟨rfl, rfl⟩
    ·
      go_enter Try.func17, Try.ntmps17
      go_wp2_with fail
      refine (nNext_any _ _ A 1 h).mono ?_
      rintro r w1 ⟨rfl, rfl⟩
      go_wp2
      refine wp_loop_rounds 1 ?_
      rw [rounds_succ]
      go_wp2
      go_ret
      exact ⟨rfl, rfl⟩
  ·
    go_enter Try.func17, Try.ntmps17
    go_wp2_with fail
    refine (nNext_any _ _ A 1 h).mono ?_
    rintro r w1 ⟨rfl, rfl⟩
    go_wp2
    refine wp_loop_rounds 1 ?_
    rw [rounds_succ]
    go_wp2
    go_ret
    exact ⟨rfl, rfl⟩

theorem nClone_any (w : World) : Calls Try.prog 23 #[.slice none 0 0] w fun r w' => r = .returned (.slice none 0 0) ∧ w = w' := by
  have heq := pNone 0
  go_enter Try.func23, Try.ntmps23
  go_wp2
  go_ret
  exact ⟨rfl, rfl⟩

set_option maxRecDepth 100000 in
set_option maxHeartbeats 800000 in
theorem nBytes_any {w : World} {q : Option Addr} (A : Int) (h : Unmade w q) :
    Calls Try.prog 15 #[.pointer q, .int .i64 A] w fun r w' => r = .returned (.slice none 0 0) ∧ w = w' := by
  go_enter Try.func15, Try.ntmps15
  go_wp2_with fail
  refine (nNext_any _ _ A 1 h).mono ?_
  rintro r w1 ⟨rfl, rfl⟩
  go_wp2_with fail
  refine (nClone_any _).mono ?_
  rintro r w1 ⟨rfl, rfl⟩
  go_wp2
  go_ret
  exact ⟨rfl, rfl⟩

set_option maxRecDepth 100000 in
set_option maxHeartbeats 800000 in
theorem nCount_any {w : World} {q : Option Addr} (A M : Int) (hM9 : M < 9223372036854775808) (h : Unmade w q) :
    Calls Try.prog 20 #[.pointer q, .int .i64 A, .int .i64 M] w fun r w' => r = .returned (.int .i64 0) ∧ w = w' := by
  by_cases hM : 0 ≤ M
  · have u1 : IntKind.u64.wrap M = M := by rw [IntKind.wrap_u64]; omega
    clear hM9
    go_enter Try.func20, Try.ntmps20
    go_wp2_with fail
    refine (nNum_any A h).mono ?_
    rintro r w1 ⟨rfl, rfl⟩
    go_wp2
    go_ret
    exact ⟨rfl, rfl⟩
  · go_enter Try.func20, Try.ntmps20
    go_wp2_with fail
    refine (nNum_any A h).mono ?_
    rintro r w1 ⟨rfl, rfl⟩
    go_wp2_with fail
    refine (nReads_any h).mono ?_
    rintro r w1 ⟨rfl, rfl⟩
    go_wp2
    go_ret
    exact ⟨rfl, rfl⟩
end Go.Proofs.Ytpobplkijfienaa
