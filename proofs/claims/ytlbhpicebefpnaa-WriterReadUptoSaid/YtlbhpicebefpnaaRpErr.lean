/-
  What the program's Err, Done and Fail come to. New memory, and a fault that is noted, alone are written. Conditions: those of a reader in memory.
-/
import Derived.Test.YtlbhpicebefpnaaRpIs
namespace Go.Proofs.Ytlbhpicebefpnaa
open Go.RowKit

set_option maxRecDepth 100000 in
set_option maxHeartbeats 1000000 in
theorem pErr_nil {w : World} {g : Nat} {a : Option Addr} {n c : Nat} {p t : Int} (hb : Blk w g 75 [.bool true, .slice a n c, .int .i64 p, .nilIface, .int .i64 t]) :
    Calls Try.prog 40 #[.pointer (some ⟨g, 0, none⟩)] w fun r w' => r = .returned (.int .i64 t) ∧ w = w' := by
  obtain ⟨c0, c1, c2, c3, c4⟩ := rdCells hb
  have i0 : ∀ w, (Instr.index 88 (.agg #[.int .i64 1, .int .i64 2, .int .i64 4]) (.int .i64 0)).run Try.prog w = .ok (.int .i64 1) w := fun _ => by kernel_rfl
  have i1 : ∀ w, (Instr.index 88 (.agg #[.int .i64 1, .int .i64 2, .int .i64 4]) (.int .i64 1)).run Try.prog w = .ok (.int .i64 2) w := fun _ => by kernel_rfl
  have i2 : ∀ w, (Instr.index 88 (.agg #[.int .i64 1, .int .i64 2, .int .i64 4]) (.int .i64 2)).run Try.prog w = .ok (.int .i64 4) w := fun _ => by kernel_rfl
  have hgl := hb.lt
  clear hb c1 c2
  go_enter Try.func40, Try.ntmps40
  go_wp2
  refine wp_loop_rounds 4 ?_
  rw [rounds_succ]
  go_wp2_with fail
  refine (is_nil 1 w).mono ?_
  rintro r w' ⟨rfl, rfl⟩
  go_wp2
  rw [rounds_succ]
  go_wp2_with fail
  refine (is_nil 2 _).mono ?_
  rintro r w' ⟨rfl, rfl⟩
  go_wp2
  rw [rounds_succ]
  go_wp2_with fail
  refine (is_nil 4 _).mono ?_
  rintro r w' ⟨rfl, rfl⟩
  go_wp2
  rw [rounds_succ]
  go_wp2
  go_ret
  exact ⟨rfl, rfl⟩

set_option maxRecDepth 100000 in
set_option maxHeartbeats 1000000 in
theorem pErr_fault {w : World} {g : Nat} {a : Option Addr} {n c : Nat} {p t e : Int} {s : ByteArray} (hb : Blk w g 75 [.bool true, .slice a n c, .int .i64 p, .iface 79 (.agg #[.string s, .int .i64 e]), .int .i64 t]) (he : e = 1 ∨ e = 2 ∨ e = 4 ∨ t = e) :
    Calls Try.prog 40 #[.pointer (some ⟨g, 0, none⟩)] w fun r w' => r = .returned (.int .i64 e) ∧ Below w.heap.size w w' := by
  by_cases h1 : e = 1
  · subst h1
    obtain ⟨c0, c1, c2, c3, c4⟩ := rdCells hb
    have i0 : ∀ w, (Instr.index 88 (.agg #[.int .i64 1, .int .i64 2, .int .i64 4]) (.int .i64 0)).run Try.prog w = .ok (.int .i64 1) w := fun _ => by kernel_rfl
    have i1 : ∀ w, (Instr.index 88 (.agg #[.int .i64 1, .int .i64 2, .int .i64 4]) (.int .i64 1)).run Try.prog w = .ok (.int .i64 2) w := fun _ => by kernel_rfl
    have i2 : ∀ w, (Instr.index 88 (.agg #[.int .i64 1, .int .i64 2, .int .i64 4]) (.int .i64 2)).run Try.prog w = .ok (.int .i64 4) w := fun _ => by kernel_rfl
    have hgl := hb.lt
    clear hb c1 c2
    go_enter Try.func40, Try.ntmps40
    go_wp2
    refine wp_loop_rounds 4 ?_
    rw [rounds_succ]
    go_wp2_with fail
    have hc := is_any s 1 1 w
    rw [show ((1 : Int) == 1) = true from rfl] at hc
    refine hc.mono ?_
    rintro r w1 ⟨rfl, hw1⟩
    have b1 : Below w.heap.size w w1 := by rw [hw1]; exact below1 _ _
    clear hc hw1
    go_wp2
    go_ret
    exact ⟨rfl, b1⟩
  have q1 : (e == 1) = false := by simpa using h1
  by_cases h2 : e = 2
  · subst h2
    obtain ⟨c0, c1, c2, c3, c4⟩ := rdCells hb
    have i0 : ∀ w, (Instr.index 88 (.agg #[.int .i64 1, .int .i64 2, .int .i64 4]) (.int .i64 0)).run Try.prog w = .ok (.int .i64 1) w := fun _ => by kernel_rfl
    have i1 : ∀ w, (Instr.index 88 (.agg #[.int .i64 1, .int .i64 2, .int .i64 4]) (.int .i64 1)).run Try.prog w = .ok (.int .i64 2) w := fun _ => by kernel_rfl
    have i2 : ∀ w, (Instr.index 88 (.agg #[.int .i64 1, .int .i64 2, .int .i64 4]) (.int .i64 2)).run Try.prog w = .ok (.int .i64 4) w := fun _ => by kernel_rfl
    have hgl := hb.lt
    clear hb c1 c2
    go_enter Try.func40, Try.ntmps40
    go_wp2
    refine wp_loop_rounds 4 ?_
    rw [rounds_succ]
    go_wp2_with fail
    have hc := is_any s 2 1 w
    rw [q1] at hc
    refine hc.mono ?_
    rintro r w1 ⟨rfl, hw1⟩
    have b1 : Below w.heap.size w w1 := by rw [hw1]; exact below1 _ _
    have d3 := (b1.cell (p := ⟨g, 3, none⟩) hgl).trans c3
    clear hc hw1 c3 c4
    clear q1 h1 he
    go_wp2
    rw [rounds_succ]
    go_wp2_with fail
    have hc := is_any s 2 2 w1
    rw [show ((2 : Int) == 2) = true from rfl] at hc
    refine hc.mono ?_
    rintro r w2 ⟨rfl, hw2⟩
    have b2 : Below w.heap.size w w2 := b1.trans ((by rw [hw2]; exact below1 _ _ : Below w1.heap.size w1 w2).mono b1.size)
    clear hc hw2
    go_wp2
    go_ret
    exact ⟨rfl, b2⟩
  have q2 : (e == 2) = false := by simpa using h2
  by_cases h3 : e = 4
  · subst h3
    obtain ⟨c0, c1, c2, c3, c4⟩ := rdCells hb
    have i0 : ∀ w, (Instr.index 88 (.agg #[.int .i64 1, .int .i64 2, .int .i64 4]) (.int .i64 0)).run Try.prog w = .ok (.int .i64 1) w := fun _ => by kernel_rfl
    have i1 : ∀ w, (Instr.index 88 (.agg #[.int .i64 1, .int .i64 2, .int .i64 4]) (.int .i64 1)).run Try.prog w = .ok (.int .i64 2) w := fun _ => by kernel_rfl
    have i2 : ∀ w, (Instr.index 88 (.agg #[.int .i64 1, .int .i64 2, .int .i64 4]) (.int .i64 2)).run Try.prog w = .ok (.int .i64 4) w := fun _ => by kernel_rfl
    have hgl := hb.lt
    clear hb c1 c2
    go_enter Try.func40, Try.ntmps40
    go_wp2
    refine wp_loop_rounds 4 ?_
    rw [rounds_succ]
    go_wp2_with fail
    have hc := is_any s 4 1 w
    rw [q1] at hc
    refine hc.mono ?_
    rintro r w1 ⟨rfl, hw1⟩
    have b1 : Below w.heap.size w w1 := by rw [hw1]; exact below1 _ _
    have d3 := (b1.cell (p := ⟨g, 3, none⟩) hgl).trans c3
    clear hc hw1 c3 c4
    go_wp2
    rw [rounds_succ]
    go_wp2_with fail
    have hc := is_any s 4 2 w1
    rw [q2] at hc
    refine hc.mono ?_
    rintro r w2 ⟨rfl, hw2⟩
    have b12 : Below w1.heap.size w1 w2 := by rw [hw2]; exact below1 _ _
    have e3 := (b12.cell (p := ⟨g, 3, none⟩) (Nat.lt_of_lt_of_le hgl b1.size)).trans d3
    have b2 : Below w.heap.size w w2 := b1.trans (b12.mono b1.size)
    clear hc hw2 d3 b1 b12 q1 q2
    go_wp2
    rw [rounds_succ]
    go_wp2_with fail
    have hc := is_any s 4 4 w2
    rw [show ((4 : Int) == 4) = true from rfl] at hc
    refine hc.mono ?_
    rintro r w3 ⟨rfl, hw3⟩
    have b3 : Below w.heap.size w w3 := b2.trans ((by rw [hw3]; exact below1 _ _ : Below w2.heap.size w2 w3).mono b2.size)
    clear hc hw3
    go_wp2
    go_ret
    exact ⟨rfl, b3⟩
  have q3 : (e == 4) = false := by simpa using h3
  obtain rfl : t = e := by
    rcases he with h | h | h | h
    · exact absurd h h1
    · exact absurd h h2
    · exact absurd h h3
    · exact h
  obtain ⟨c0, c1, c2, c3, c4⟩ := rdCells hb
  have i0 : ∀ w, (Instr.index 88 (.agg #[.int .i64 1, .int .i64 2, .int .i64 4]) (.int .i64 0)).run Try.prog w = .ok (.int .i64 1) w := fun _ => by kernel_rfl
  have i1 : ∀ w, (Instr.index 88 (.agg #[.int .i64 1, .int .i64 2, .int .i64 4]) (.int .i64 1)).run Try.prog w = .ok (.int .i64 2) w := fun _ => by kernel_rfl
  have i2 : ∀ w, (Instr.index 88 (.agg #[.int .i64 1, .int .i64 2, .int .i64 4]) (.int .i64 2)).run Try.prog w = .ok (.int .i64 4) w := fun _ => by kernel_rfl
  have hgl := hb.lt
  clear hb c1 c2
  go_enter Try.func40, Try.ntmps40
  go_wp2
  refine wp_loop_rounds 4 ?_
  rw [rounds_succ]
  go_wp2_with fail
  have hc := is_any s t 1 w
  rw [q1] at hc
  refine hc.mono ?_
  rintro r w1 ⟨rfl, hw1⟩
  have b1 : Below w.heap.size w w1 := by rw [hw1]; exact below1 _ _
  have d3 := (b1.cell (p := ⟨g, 3, none⟩) hgl).trans c3
  have d4 := (b1.cell (p := ⟨g, 4, none⟩) hgl).trans c4
  clear hc hw1 c3 c4
  go_wp2
  rw [rounds_succ]
  go_wp2_with fail
  have hc := is_any s t 2 w1
  rw [q2] at hc
  refine hc.mono ?_
  rintro r w2 ⟨rfl, hw2⟩
  have b12 : Below w1.heap.size w1 w2 := by rw [hw2]; exact below1 _ _
  have hgl1 := Nat.lt_of_lt_of_le hgl b1.size
  have e3 := (b12.cell (p := ⟨g, 3, none⟩) hgl1).trans d3
  have e4 := (b12.cell (p := ⟨g, 4, none⟩) hgl1).trans d4
  have b2 : Below w.heap.size w w2 := b1.trans (b12.mono b1.size)
  have hgl2 := Nat.lt_of_lt_of_le hgl1 b12.size
  clear hc hw2 d3 d4 b1 b12 q1 q2 hgl hgl1
  go_wp2
  rw [rounds_succ]
  go_wp2_with fail
  have hc := is_any s t 4 w2
  rw [q3] at hc
  refine hc.mono ?_
  rintro r w3 ⟨rfl, hw3⟩
  have b23 : Below w2.heap.size w2 w3 := by rw [hw3]; exact below1 _ _
  have f4 := (b23.cell (p := ⟨g, 4, none⟩) hgl2).trans e4
  have b3 : Below w.heap.size w w3 := b2.trans (b23.mono b2.size)
  clear hc hw3 e3 e4 b23 b2
  go_wp2
  rw [rounds_succ]
  go_wp2
  go_ret
  exact ⟨rfl, b3⟩

theorem pErr_any {F : Nat → Prop} {w : World} {g : Nat} {xs : List Int} {p : Nat} {e : Int} (h : RdAt F w g xs p e) :
    Calls Try.prog 40 #[.pointer (some ⟨g, 0, none⟩)] w fun r w' => r = .returned (.int .i64 e) ∧ Below w.heap.size w w' := by
  obtain ⟨a, n, c, fv, t, hb, hi, hf, hx⟩ := h.is
  rcases hf with ⟨rfl, rfl, rfl⟩ | ⟨h0, s, rfl, he⟩
  · refine (pErr_nil hb).mono ?_
    rintro r w' ⟨rfl, rfl⟩
    exact ⟨rfl, Below.refl _ _⟩
  · exact pErr_fault hb he
end Go.Proofs.Ytlbhpicebefpnaa
