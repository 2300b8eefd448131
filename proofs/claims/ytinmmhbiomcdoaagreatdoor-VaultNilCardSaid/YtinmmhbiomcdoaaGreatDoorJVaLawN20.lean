/-
  Texts of stages that were proved on their own, joined: RpIs, RpErr, RpDone, MsgRead, FrRead, RpNext, RpBytes. Each begins with its own words.
-/
import Derived.Test.YtinmmhbiomcdoaaGreatDoorJVaLawN19
import Derived.WalkKit
import Derived.LaidEql
import Derived.Stop.Asserts
import Derived.RowKitTokens
import Derived.Test.YtinmmhbiomcdoaaGreatDoorJVaLawN3
import Derived.Test.YtinmmhbiomcdoaaGreatDoorJVaLawN0
import Derived.Test.YtinmmhbiomcdoaaGreatDoorJVaLawN6

/-
  errors.Is of no error, and of package reader's fault, at a number of package api: whether the fault wraps just that number, by Go's own text. New memory alone is written. No conditions.
-/
namespace Go.Proofs.YtinmmhbiomcdoaaGreatDoor
open Go.RowKit Go.Extern.Stop Go.Stop Go.Extern

theorem isF.typeOf (v : Value) (w : World) : (ReflectliteType.typeOf #[.iface 26 v]).run Tryz.prog w = .ok (.iface 185 (.agg #[.pointer (some ⟨6, 26, none⟩)])) w := by kernel_rfl
theorem isF.comparable (w : World) : (ReflectliteType.method (fun t => do Rtype.noPackHeld "Comparable" t; (fun a : TypeInfo => Value.bool a.comparable) <$> typeInfo t) #[.agg #[.pointer (some ⟨6, 26, none⟩)]]).run Tryz.prog w = .ok (.bool true) w := by kernel_rfl
theorem isF.methodC (h : Value) (w : World) : (Go.method 371 185 (.agg #[h]) "Comparable").run Tryz.prog w = .ok (185, .agg #[h]) w := by kernel_rfl
theorem isF.methodU (s : ByteArray) (k : Int) (w : World) : (Go.method 371 222 (.agg #[.string s, .int .i64 k]) "Unwrap").run Tryz.prog w = .ok (196, .agg #[.string s, .int .i64 k]) w := by kernel_rfl
theorem isF.eqE (k o : Int) (w : World) : Sem.run Tryz.prog (binOp BinOp.eql 94 (.iface 26 (.int .i64 k)) (.iface 26 (.int .i64 o))) w = .ok (.bool (k == o)) w := by kernel_rfl
theorem isF.eqN (o : Int) (w : World) : Sem.run Tryz.prog (binOp BinOp.eql 94 .nilIface (.iface 26 (.int .i64 o))) w = .ok (.bool false) w := by kernel_rfl
theorem isF.eqFE (s : ByteArray) (k o : Int) (w : World) : Sem.run Tryz.prog (binOp BinOp.eql 94 (.iface 222 (.agg #[.string s, .int .i64 k])) (.iface 26 (.int .i64 o))) w = .ok (.bool false) w := by kernel_rfl
theorem isF.noIsF (v : Value) (xT : TypeId) (w : World) : (Instr.typeAssert (.iface 222 v) xT 215 true).run Tryz.prog w = .ok (.tuple #[.nilIface, .bool false]) w := run_typeAssert_lacksB Tryz.underlying215 (by kernel_rfl) (by kernel_rfl) v xT w
theorem isF.noIsE (v : Value) (xT : TypeId) (w : World) : (Instr.typeAssert (.iface 26 v) xT 215 true).run Tryz.prog w = .ok (.tuple #[.nilIface, .bool false]) w := run_typeAssert_lacksB Tryz.underlying215 (by kernel_rfl) (by kernel_rfl) v xT w
theorem isF.unF (v : Value) (xT : TypeId) (w : World) : (Instr.typeAssert (.iface 222 v) xT 192 true).run Tryz.prog w = .ok (.tuple #[.iface 222 v, .bool true]) w := run_typeAssert_hasB Tryz.underlying192 (by kernel_rfl) v xT w
theorem isF.noUnE (v : Value) (xT : TypeId) (w : World) : (Instr.typeAssert (.iface 26 v) xT 192 true).run Tryz.prog w = .ok (.tuple #[.nilIface, .bool false]) w := run_typeAssert_lacksB Tryz.underlying192 (by kernel_rfl) (by kernel_rfl) v xT w
theorem isF.noUnsE (v : Value) (xT : TypeId) (w : World) : (Instr.typeAssert (.iface 26 v) xT 193 true).run Tryz.prog w = .ok (.tuple #[.nilIface, .bool false]) w := run_typeAssert_lacksB Tryz.underlying193 (by kernel_rfl) (by kernel_rfl) v xT w

set_option maxRecDepth 100000 in
theorem is_nil (o : Int) (w : World) :
    Calls Tryz.prog 73 #[.nilIface, .iface 26 (.int .i64 o)] w fun e w' => e = .returned (.bool false) ∧ w = w' := by
  have q := isF.eqN o
  go_enter Tryz.func73, Tryz.ntmps73
  go_wp2
  go_ret
  exact ⟨rfl, rfl⟩

set_option maxRecDepth 100000 in
set_option maxHeartbeats 2000000 in
theorem is_any (s : ByteArray) (k o : Int) (w : World) :
    Calls Tryz.prog 73 #[.iface 222 (.agg #[.string s, .int .i64 k]), .iface 26 (.int .i64 o)] w fun e w' => e = .returned (.bool (k == o)) ∧ w' = w.alloc (.cells #[.string s, .int .i64 k] 222) := by
  have h1 := @run_callFunc_extern Tryz.prog 116 _ ReflectliteType.typeOf Tryz.func116 (by kernel_rfl) (by kernel_rfl) (by kernel_rfl) (by kernel_rfl)
  have h2 := @run_callFunc_extern Tryz.prog 185 _ (ReflectliteType.method (fun t => do Rtype.noPackHeld "Comparable" t; pure (.bool (← typeInfo t).comparable))) Tryz.func185 (by kernel_rfl) (by kernel_rfl) (by kernel_rfl) (by kernel_rfl)
  have tO := isF.typeOf
  have tC := isF.comparable
  have mC := isF.methodC
  have mU := isF.methodU
  have qE := isF.eqE k o
  have qF := isF.eqFE
  have nF := isF.noIsF
  have nE := isF.noIsE
  have uF := isF.unF
  have vE := isF.noUnE
  have xE := isF.noUnsE
  cases hk : (k == o) with
  | true =>
    rw [hk] at qE
    go_enter Tryz.func73, Tryz.ntmps73
    go_wp2
    refine wp_loop_rounds 2 ?_
    rw [rounds_succ]
    go_wp2
    rw [rounds_succ]
    go_wp2
    go_ret
    exact ⟨rfl, rfl⟩
  | false =>
    rw [hk] at qE
    go_enter Tryz.func73, Tryz.ntmps73
    go_wp2
    refine wp_loop_rounds 2 ?_
    rw [rounds_succ]
    go_wp2
    rw [rounds_succ]
    go_wp2
    go_ret
    exact ⟨rfl, rfl⟩
end Go.Proofs.YtinmmhbiomcdoaaGreatDoor

/-
  What the program's Err, Done and Fail come to. New memory, and a fault that is noted, alone are written. Conditions: those of a reader in memory.
-/
namespace Go.Proofs.YtinmmhbiomcdoaaGreatDoor
open Go.RowKit

set_option maxRecDepth 100000 in
set_option maxHeartbeats 1000000 in
theorem pErr_nil {w : World} {g : Nat} {a : Option Addr} {n c : Nat} {p t : Int} (hb : Blk w g 208 [.bool true, .slice a n c, .int .i64 p, .nilIface, .int .i64 t]) :
    Calls Tryz.prog 108 #[.pointer (some ⟨g, 0, none⟩)] w fun r w' => r = .returned (.int .i64 t) ∧ w = w' := by
  obtain ⟨c0, c1, c2, c3, c4⟩ := rdCells hb
  have i0 : ∀ w, (Instr.index 211 (.agg #[.int .i64 1, .int .i64 2, .int .i64 4]) (.int .i64 0)).run Tryz.prog w = .ok (.int .i64 1) w := fun _ => by kernel_rfl
  have i1 : ∀ w, (Instr.index 211 (.agg #[.int .i64 1, .int .i64 2, .int .i64 4]) (.int .i64 1)).run Tryz.prog w = .ok (.int .i64 2) w := fun _ => by kernel_rfl
  have i2 : ∀ w, (Instr.index 211 (.agg #[.int .i64 1, .int .i64 2, .int .i64 4]) (.int .i64 2)).run Tryz.prog w = .ok (.int .i64 4) w := fun _ => by kernel_rfl
  have hgl := hb.lt
  clear hb c1 c2
  go_enter Tryz.func108, Tryz.ntmps108
  go_wp2
  refine wp_loop_rounds 4 ?_
  rw [rounds_succ]
  go_wp2_with fail
  refine (is_nil 1 w).mono ?_
  rintro r w' ⟨rfl, rfl⟩
  go_wp2
  rw [rounds_succ]
  go_wp2_with fail
  refine (is_nil 2 _).mono ?_
  rintro r w' ⟨rfl, rfl⟩
  go_wp2
  rw [rounds_succ]
  go_wp2_with fail
  refine (is_nil 4 _).mono ?_
  rintro r w' ⟨rfl, rfl⟩
  go_wp2
  rw [rounds_succ]
  go_wp2
  go_ret
  exact ⟨rfl, rfl⟩

set_option maxRecDepth 100000 in
set_option maxHeartbeats 1000000 in
theorem pErr_fault {w : World} {g : Nat} {a : Option Addr} {n c : Nat} {p t e : Int} {s : ByteArray} (hb : Blk w g 208 [.bool true, .slice a n c, .int .i64 p, .iface 222 (.agg #[.string s, .int .i64 e]), .int .i64 t]) (he : e = 1 ∨ e = 2 ∨ e = 4 ∨ t = e) :
    Calls Tryz.prog 108 #[.pointer (some ⟨g, 0, none⟩)] w fun r w' => r = .returned (.int .i64 e) ∧ Below w.heap.size w w' := by
  by_cases h1 : e = 1
  · subst h1
    obtain ⟨c0, c1, c2, c3, c4⟩ := rdCells hb
    have i0 : ∀ w, (Instr.index 211 (.agg #[.int .i64 1, .int .i64 2, .int .i64 4]) (.int .i64 0)).run Tryz.prog w = .ok (.int .i64 1) w := fun _ => by kernel_rfl
    have i1 : ∀ w, (Instr.index 211 (.agg #[.int .i64 1, .int .i64 2, .int .i64 4]) (.int .i64 1)).run Tryz.prog w = .ok (.int .i64 2) w := fun _ => by kernel_rfl
    have i2 : ∀ w, (Instr.index 211 (.agg #[.int .i64 1, .int .i64 2, .int .i64 4]) (.int .i64 2)).run Tryz.prog w = .ok (.int .i64 4) w := fun _ => by kernel_rfl
    have hgl := hb.lt
    clear hb c1 c2
    go_enter Tryz.func108, Tryz.ntmps108
    go_wp2
    refine wp_loop_rounds 4 ?_
    rw [rounds_succ]
    go_wp2_with fail
    have hc := is_any s 1 1 w
    rw [show ((1 : Int) == 1) = true from rfl] at hc
    refine hc.mono ?_
    rintro r w1 ⟨rfl, hw1⟩
    have b1 : Below w.heap.size w w1 := by rw [hw1]; exact below1 _ _
    clear hc hw1
    go_wp2
    go_ret
    exact ⟨rfl, b1⟩
  have q1 : (e == 1) = false := by simpa using h1
  by_cases h2 : e = 2
  · subst h2
    obtain ⟨c0, c1, c2, c3, c4⟩ := rdCells hb
    have i0 : ∀ w, (Instr.index 211 (.agg #[.int .i64 1, .int .i64 2, .int .i64 4]) (.int .i64 0)).run Tryz.prog w = .ok (.int .i64 1) w := fun _ => by kernel_rfl
    have i1 : ∀ w, (Instr.index 211 (.agg #[.int .i64 1, .int .i64 2, .int .i64 4]) (.int .i64 1)).run Tryz.prog w = .ok (.int .i64 2) w := fun _ => by kernel_rfl
    have i2 : ∀ w, (Instr.index 211 (.agg #[.int .i64 1, .int .i64 2, .int .i64 4]) (.int .i64 2)).run Tryz.prog w = .ok (.int .i64 4) w := fun _ => by kernel_rfl
    have hgl := hb.lt
    clear hb c1 c2
    go_enter Tryz.func108, Tryz.ntmps108
    go_wp2
    refine wp_loop_rounds 4 ?_
    rw [rounds_succ]
    go_wp2_with fail
    have hc := is_any s 2 1 w
    rw [q1] at hc
    refine hc.mono ?_
    rintro r w1 ⟨rfl, hw1⟩
    have b1 : Below w.heap.size w w1 := by rw [hw1]; exact below1 _ _
    have d3 := (b1.cell (p := ⟨g, 3, none⟩) hgl).trans c3
    clear hc hw1 c3 c4
    clear q1 h1 he
    go_wp2
    rw [rounds_succ]
    go_wp2_with fail
    have hc := is_any s 2 2 w1
    rw [show ((2 : Int) == 2) = true from rfl] at hc
    refine hc.mono ?_
    rintro r w2 ⟨rfl, hw2⟩
    have b2 : Below w.heap.size w w2 := b1.trans ((by rw [hw2]; exact below1 _ _ : Below w1.heap.size w1 w2).mono b1.size)
    clear hc hw2
    go_wp2
    go_ret
    exact ⟨rfl, b2⟩
  have q2 : (e == 2) = false := by simpa using h2
  by_cases h3 : e = 4
  · subst h3
    obtain ⟨c0, c1, c2, c3, c4⟩ := rdCells hb
    have i0 : ∀ w, (Instr.index 211 (.agg #[.int .i64 1, .int .i64 2, .int .i64 4]) (.int .i64 0)).run Tryz.prog w = .ok (.int .i64 1) w := fun _ => by kernel_rfl
    have i1 : ∀ w, (Instr.index 211 (.agg #[.int .i64 1, .int .i64 2, .int .i64 4]) (.int .i64 1)).run Tryz.prog w = .ok (.int .i64 2) w := fun _ => by kernel_rfl
    have i2 : ∀ w, (Instr.index 211 (.agg #[.int .i64 1, .int .i64 2, .int .i64 4]) (.int .i64 2)).run Tryz.prog w = .ok (.int .i64 4) w := fun _ => by kernel_rfl
    have hgl := hb.lt
    clear hb c1 c2
    go_enter Tryz.func108, Tryz.ntmps108
    go_wp2
    refine wp_loop_rounds 4 ?_
    rw [rounds_succ]
    go_wp2_with fail
    have hc := is_any s 4 1 w
    rw [q1] at hc
    refine hc.mono ?_
    rintro r w1 ⟨rfl, hw1⟩
    have b1 : Below w.heap.size w w1 := by rw [hw1]; exact below1 _ _
    have d3 := (b1.cell (p := ⟨g, 3, none⟩) hgl).trans c3
    clear hc hw1 c3 c4
    go_wp2
    rw [rounds_succ]
    go_wp2_with fail
    have hc := is_any s 4 2 w1
    rw [q2] at hc
    refine hc.mono ?_
    rintro r w2 ⟨rfl, hw2⟩
    have b12 : Below w1.heap.size w1 w2 := by rw [hw2]; exact below1 _ _
    have e3 := (b12.cell (p := ⟨g, 3, none⟩) (Nat.lt_of_lt_of_le hgl b1.size)).trans d3
    have b2 : Below w.heap.size w w2 := b1.trans (b12.mono b1.size)
    clear hc hw2 d3 b1 b12 q1 q2
    go_wp2
    rw [rounds_succ]
    go_wp2_with fail
    have hc := is_any s 4 4 w2
    rw [show ((4 : Int) == 4) = true from rfl] at hc
    refine hc.mono ?_
    rintro r w3 ⟨rfl, hw3⟩
    have b3 : Below w.heap.size w w3 := b2.trans ((by rw [hw3]; exact below1 _ _ : Below w2.heap.size w2 w3).mono b2.size)
    clear hc hw3
    go_wp2
    go_ret
    exact ⟨rfl, b3⟩
  have q3 : (e == 4) = false := by simpa using h3
  obtain rfl : t = e := by
    rcases he with h | h | h | h
    · exact absurd h h1
    · exact absurd h h2
    · exact absurd h h3
    · exact h
  obtain ⟨c0, c1, c2, c3, c4⟩ := rdCells hb
  have i0 : ∀ w, (Instr.index 211 (.agg #[.int .i64 1, .int .i64 2, .int .i64 4]) (.int .i64 0)).run Tryz.prog w = .ok (.int .i64 1) w := fun _ => by kernel_rfl
  have i1 : ∀ w, (Instr.index 211 (.agg #[.int .i64 1, .int .i64 2, .int .i64 4]) (.int .i64 1)).run Tryz.prog w = .ok (.int .i64 2) w := fun _ => by kernel_rfl
  have i2 : ∀ w, (Instr.index 211 (.agg #[.int .i64 1, .int .i64 2, .int .i64 4]) (.int .i64 2)).run Tryz.prog w = .ok (.int .i64 4) w := fun _ => by kernel_rfl
  have hgl := hb.lt
  clear hb c1 c2
  go_enter Tryz.func108, Tryz.ntmps108
  go_wp2
  refine wp_loop_rounds 4 ?_
  rw [rounds_succ]
  go_wp2_with fail
  have hc := is_any s t 1 w
  rw [q1] at hc
  refine hc.mono ?_
  rintro r w1 ⟨rfl, hw1⟩
  have b1 : Below w.heap.size w w1 := by rw [hw1]; exact below1 _ _
  have d3 := (b1.cell (p := ⟨g, 3, none⟩) hgl).trans c3
  have d4 := (b1.cell (p := ⟨g, 4, none⟩) hgl).trans c4
  clear hc hw1 c3 c4
  go_wp2
  rw [rounds_succ]
  go_wp2_with fail
  have hc := is_any s t 2 w1
  rw [q2] at hc
  refine hc.mono ?_
  rintro r w2 ⟨rfl, hw2⟩
  have b12 : Below w1.heap.size w1 w2 := by rw [hw2]; exact below1 _ _
  have hgl1 := Nat.lt_of_lt_of_le hgl b1.size
  have e3 := (b12.cell (p := ⟨g, 3, none⟩) hgl1).trans d3
  have e4 := (b12.cell (p := ⟨g, 4, none⟩) hgl1).trans d4
  have b2 : Below w.heap.size w w2 := b1.trans (b12.mono b1.size)
  have hgl2 := Nat.lt_of_lt_of_le hgl1 b12.size
  clear hc hw2 d3 d4 b1 b12 q1 q2 hgl hgl1
  go_wp2
  rw [rounds_succ]
  go_wp2_with fail
  have hc := is_any s t 4 w2
  rw [q3] at hc
  refine hc.mono ?_
  rintro r w3 ⟨rfl, hw3⟩
  have b23 : Below w2.heap.size w2 w3 := by rw [hw3]; exact below1 _ _
  have f4 := (b23.cell (p := ⟨g, 4, none⟩) hgl2).trans e4
  have b3 : Below w.heap.size w w3 := b2.trans (b23.mono b2.size)
  clear hc hw3 e3 e4 b23 b2
  go_wp2
  rw [rounds_succ]
  go_wp2
  go_ret
  exact ⟨rfl, b3⟩

theorem pErr_any {F : Nat → Prop} {w : World} {g : Nat} {xs : List Int} {p : Nat} {e : Int} (h : RdAt F w g xs p e) :
    Calls Tryz.prog 108 #[.pointer (some ⟨g, 0, none⟩)] w fun r w' => r = .returned (.int .i64 e) ∧ Below w.heap.size w w' := by
  obtain ⟨a, n, c, fv, t, hb, hi, hf, hx⟩ := h.is
  rcases hf with ⟨rfl, rfl, rfl⟩ | ⟨h0, s, rfl, he⟩
  · refine (pErr_nil hb).mono ?_
    rintro r w' ⟨rfl, rfl⟩
    exact ⟨rfl, Below.refl _ _⟩
  · exact pErr_fault hb he
end Go.Proofs.YtinmmhbiomcdoaaGreatDoor

/-
  What the program's Done and Fail, and cmp.Or of two numbers, come to. New memory, and a fault that is noted, alone are written. Conditions: those of a reader in memory.
-/
namespace Go.Proofs.YtinmmhbiomcdoaaGreatDoor
open Go.RowKit

set_option maxRecDepth 100000 in
set_option maxHeartbeats 400000 in
theorem pOr_fst (k l : Int) (b : Nat) (w : World) (hk : k ≠ 0) (c0 : w.cell? ⟨b, 0, none⟩ = some (.int .i64 k)) (_c1 : w.cell? ⟨b, 1, none⟩ = some (.int .i64 l)) :
    Calls Tryz.prog 140 #[.slice (some ⟨b, 0, none⟩) 2 2] w fun e w' => e = .returned (.int .i64 k) ∧ w = w' := by
  go_enter Tryz.func140, Tryz.ntmps140
  go_wp2
  refine wp_loop_rounds 1 ?_
  rw [rounds_succ]
  go_wp2
  go_ret
  exact ⟨rfl, rfl⟩

set_option maxRecDepth 100000 in
set_option maxHeartbeats 400000 in
theorem pOr_snd (l : Int) (b : Nat) (w : World) (hl : l ≠ 0) (c0 : w.cell? ⟨b, 0, none⟩ = some (.int .i64 0)) (c1 : w.cell? ⟨b, 1, none⟩ = some (.int .i64 l)) :
    Calls Tryz.prog 140 #[.slice (some ⟨b, 0, none⟩) 2 2] w fun e w' => e = .returned (.int .i64 l) ∧ w = w' := by
  go_enter Tryz.func140, Tryz.ntmps140
  go_wp2
  refine wp_loop_rounds 2 ?_
  rw [rounds_succ]
  go_wp2
  rw [rounds_succ]
  go_wp2
  go_ret
  exact ⟨rfl, rfl⟩

/-- The first that is not 0, of two of which the second is not. -/
def orOf (k l : Int) : Int := if k = 0 then l else k
theorem pOr_any (k l : Int) (b : Nat) (w : World) (hl : l ≠ 0) (c0 : w.cell? ⟨b, 0, none⟩ = some (.int .i64 k)) (c1 : w.cell? ⟨b, 1, none⟩ = some (.int .i64 l)) :
    Calls Tryz.prog 140 #[.slice (some ⟨b, 0, none⟩) 2 2] w fun e w' => e = .returned (.int .i64 (orOf k l)) ∧ w = w' := by
  unfold orOf
  by_cases h : k = 0
  · subst h
    rw [if_pos rfl]
    exact pOr_snd l b w hl c0 c1
  · rw [if_neg h]
    exact pOr_fst k l b w h c0 c1

/-- A reader whose block was written: its bytes stand where they stood. -/
theorem RdAt.write {F : Nat → Prop} {w w' : World} {g : Nat} {xs : List Int} {p p' : Nat} {e e' t : Int} {a : Option Addr} {n c : Nat} {fv : Value} (h : RdAt F w g xs p e)
    (hi : Ints .u8 w a n c xs) (hx : ∀ x, a = some x → 0 < n → F x.block ∧ x.block ≠ g) (hg : w.grownBy w' (some g))
    (hb : Blk w' g 208 [.bool true, .slice a n c, .int .i64 (p' : Int), fv, .int .i64 t]) (hf : FaultIs fv t e') (hp : p' ≤ xs.length) : RdAt F w' g xs p' e' :=
  ⟨⟨a, n, c, fv, t, hb, hi.grown hg (fun x ha h0 => (hx x ha h0).2), hf, hx⟩, h.range, h.most, hp, h.own, fun b hb => Nat.lt_of_lt_of_le (h.lt b hb) hg.size⟩

set_option maxRecDepth 100000 in
set_option maxHeartbeats 800000 in
theorem pFail_any {F : Nat → Prop} {w : World} {g : Nat} {xs : List Int} {p : Nat} {e : Int} (x : Int) (h : RdAt F w g xs p e) :
    Calls Tryz.prog 142 #[.pointer (some ⟨g, 0, none⟩), .int .i64 x] w fun r w' => r = .returned (.tuple #[]) ∧ RdAt F w' g xs p (badOf e x) ∧ Moved F w w' := by
  unfold badOf
  by_cases hx0 : x = 0
  · subst hx0
    rw [show (if e = 0 then 0 else e) = e by split <;> omega]
    go_enter Tryz.func142, Tryz.ntmps142
    go_wp2
    refine bodyPost_ret (results_none rfl _ _ _) rfl ?_
    exact ⟨rfl, h, Moved.of_below (Below.refl _ _)⟩
  · have hc := pReads_any h
    by_cases he : e = 0
    · subst he
      rw [if_pos rfl]
      obtain ⟨a, n, c, fv, t, hb, hi, hf, hx⟩ := h.is
      obtain ⟨c0, c1, c2, c3, c4⟩ := rdCells hb
      have z3 := hb.frozen 3
      have z4 := hb.frozen 4
      rw [show decide ((0 : Int) = 0) = true from rfl] at hc
      have hbH := Lib.hid hb
      clear hb
      go_enter Tryz.func142, Tryz.ntmps142
      go_wp2_with fail
      refine hc.mono ?_
      rintro r w1 ⟨rfl, rfl⟩
      go_wp2
      go_end0
      have k1 := (hbH.out.set 3 (.iface 222 (.agg #[.string { data := #[119, 104, 97, 116, 32, 119, 97, 115, 32, 114, 101, 97, 100] }, .int .i64 x]))).set 4 (.int .i64 x)
      have g1 := grown_trans (grown_setCell w g 3 (.iface 222 (.agg #[.string { data := #[119, 104, 97, 116, 32, 119, 97, 115, 32, 114, 101, 97, 100] }, .int .i64 x]))) (grown_setCell _ g 4 (.int .i64 x))
      exact ⟨rfl, h.write hi hx g1 k1 (.inr ⟨hx0, _, rfl, .inr (.inr (.inr rfl))⟩) h.within, moved_set h.own g1⟩
    · rw [if_neg he]
      rw [show decide (e = 0) = false from decide_eq_false he] at hc
      go_enter Tryz.func142, Tryz.ntmps142
      go_wp2_with fail
      refine hc.mono ?_
      rintro r w1 ⟨rfl, rfl⟩
      go_wp2
      refine bodyPost_ret (results_none rfl _ _ _) rfl ?_
      exact ⟨rfl, h, Moved.of_below (Below.refl _ _)⟩
end Go.Proofs.YtinmmhbiomcdoaaGreatDoor

/-
  Reading a message with layer 9's reader, as plain functions: what the steps of each kind come to is what the message of the bytes is. No Go function is spoken of. Conditions: bytes below 256.
-/
namespace Go.Proofs.YtinmmhbiomcdoaaGreatDoor
open Go.RowKit

theorem rdStep_bad {n p : Nat} {e A : Int} (h : e ≠ 0) : rdStep n p e A = (p, e, 0) := by unfold rdStep; rw [if_pos h]
theorem rdStep_few {n p : Nat} {A : Int} (h0 : 0 ≤ A) (h : (n : Int) - p < A) : rdStep n p 0 A = (p, 2, 0) := by unfold rdStep; rw [if_neg (by decide), if_neg (by omega), if_pos h]
theorem rdStep_fits {n p : Nat} {A : Int} (h0 : 0 ≤ A) (h : A ≤ (n : Int) - p) : rdStep n p 0 A = (p + A.toNat, 0, A.toNat) := by unfold rdStep; rw [if_neg (by decide), if_neg (by omega), if_neg (by omega)]
theorem rdN_bad {xs : List Int} {p : Nat} {e A : Int} (hA : 1 ≤ A ∧ A ≤ 8) (h : e ≠ 0) : rdNum xs p e A = (p, e, 0) := by
  unfold rdNum rdBytes
  rw [if_neg (by omega), rdStep_bad h]
  rfl
theorem rdN_few {xs : List Int} {p : Nat} {A : Int} (hA : 1 ≤ A ∧ A ≤ 8) (h : (xs.length : Int) - p < A) : rdNum xs p 0 A = (p, 2, 0) := by
  unfold rdNum rdBytes
  rw [if_neg (by omega), rdStep_few (by omega) h]
  rfl
theorem rdN_fits {xs : List Int} {p : Nat} {A : Int} (hA : 1 ≤ A ∧ A ≤ 8) (h : A ≤ (xs.length : Int) - p) : rdNum xs p 0 A = (p + A.toNat, 0, be ((xs.drop p).take A.toNat)) := by
  unfold rdNum rdBytes
  rw [if_neg (by omega), rdStep_fits (by omega) h]
theorem rdC_bad {xs : List Int} {p : Nat} {e A M : Int} (hA : 1 ≤ A ∧ A ≤ 8) (h : e ≠ 0) : rdCount xs p e A M = (p, e, 0) := by
  unfold rdCount
  rw [rdN_bad hA h, if_pos h]
theorem rdB_bad {xs : List Int} {p : Nat} {e A : Int} (h : e ≠ 0) : rdBytes xs p e A = [] := by unfold rdBytes; rw [rdStep_bad h]; rfl
theorem doneOf_bad {n : Nat} {p e : Int} (h : e ≠ 0) : doneOf n p e = e := if_neg h
theorem doneOf_ok (n p : Nat) : doneOf n (p : Int) 0 = if p < n then 3 else 0 := by
  unfold doneOf
  rw [if_pos rfl]
  simp only [Int.ofNat_lt]

/-- The first byte. -/
theorem first_nil : rdNum [] 0 0 1 = (0, 2, 0) := rdN_few (by decide) (by decide)
theorem first_cons (k : Int) (r : List Int) : rdNum (k :: r) 0 0 1 = (1, 0, k) := by
  rw [rdN_fits (by decide) (by simp only [List.length_cons]; omega)]
  show (1, (0 : Int), be [k]) = _
  unfold be
  simp
def kindOf (xs : List Int) : Int := (rdNum xs 0 0 1).2.2
/-- What the readings of a kind of one number come to. -/
def rdOne (xs : List Int) (A : Int) : Nat × Int × Int := rdNum xs (rdNum xs 0 0 1).1 (rdNum xs 0 0 1).2.1 A
theorem rdOne_cons (k : Int) (r : List Int) (A : Int) : rdOne (k :: r) A = rdNum (k :: r) 1 0 A := by unfold rdOne; rw [first_cons]
theorem kindOf_cons (k : Int) (r : List Int) : kindOf (k :: r) = k := by unfold kindOf; rw [first_cons]
theorem kind_cons {xs : List Int} (h : kindOf xs ≠ 0) : ∃ r, xs = kindOf xs :: r := by
  match xs, h with
  | [], h => exact absurd (by unfold kindOf; rw [first_nil]) h
  | k :: r, _ => exact ⟨r, by rw [kindOf_cons]⟩
theorem kindOf_range {xs : List Int} (hr : ∀ x ∈ xs, 0 ≤ x ∧ x < 256) : 0 ≤ kindOf xs ∧ kindOf xs < 256 := by
  match xs with
  | [] => unfold kindOf; rw [first_nil]; decide
  | k :: r => rw [kindOf_cons]; exact hr k (by simp)
theorem decM_other {xs : List Int} (h : ¬ (kindOf xs = 1 ∨ kindOf xs = 2 ∨ kindOf xs = 3 ∨ kindOf xs = 4)) : ∃ E, E ≠ 0 ∧ badOf (rdNum xs 0 0 1).2.1 4 = E ∧ decM xs = (noMsg, E) := by
  match xs, h with
  | [], _ => exact ⟨2, by decide, by rw [first_nil]; rfl, rfl⟩
  | k :: r, h =>
    rw [kindOf_cons] at h
    exact ⟨4, by decide, by rw [first_cons]; rfl, by rw [decM, if_pos (by omega)]⟩
theorem decM_open {xs : List Int} (hr : ∀ x ∈ xs, 0 ≤ x ∧ x < 256) (h : kindOf xs = 1) :
    ∃ E, doneOf xs.length (rdOne xs 2).1 (rdOne xs 2).2.1 = E ∧ (E ≠ 0 → decM xs = (noMsg, E)) ∧ (E = 0 → decM xs = (⟨1, 0, 0, (rdOne xs 2).2.2, z16, []⟩, 0)) ∧ 0 ≤ (rdOne xs 2).2.2 ∧ (rdOne xs 2).2.2 < 4294967296 := by
  obtain ⟨r, hx⟩ := kind_cons (xs := xs) (by rw [h]; decide)
  rw [h] at hx
  subst hx
  rw [rdOne_cons]
  have hrr : ∀ x ∈ r, 0 ≤ x ∧ x < 256 := fun x hx => hr x (by simp [hx])
  refine ⟨_, rfl, ?_⟩
  by_cases h2 : r.length < 2
  · rw [rdN_few (by decide) (by simp only [List.length_cons]; omega)]
    rw [doneOf_bad (by decide)]
    exact ⟨fun _ => by rw [decM, if_neg (by decide), if_pos rfl, if_pos h2], fun e => absurd e (by decide), by decide, by decide⟩
  · rw [rdN_fits (by decide) (by simp only [List.length_cons]; omega)]
    dsimp only
    rw [doneOf_ok]
    have hb := be_range (r.take 2) 2 (by rw [List.length_take]; omega) (fun x hx => hrr x (List.mem_of_mem_take hx))
    refine ⟨fun e => ?_, fun e => ?_, hb.1, by have := hb.2; show be (r.take 2) < 4294967296; omega⟩
    · by_cases h3 : 2 < r.length
      · rw [if_pos (by simp only [List.length_cons]; show 1 + 2 < _; omega)]
        rw [decM, if_neg (by decide), if_pos rfl, if_neg h2, if_pos h3]
      · rw [if_neg (by simp only [List.length_cons]; show ¬ 1 + 2 < _; omega)] at e
        exact absurd rfl e
    · by_cases h3 : 2 < r.length
      · rw [if_pos (by simp only [List.length_cons]; show 1 + 2 < _; omega)] at e
        exact absurd e (by decide)
      · rw [decM, if_neg (by decide), if_pos rfl, if_neg h2, if_neg h3]
        show _ = ((⟨1, 0, 0, be (r.take 2), z16, []⟩ : MsgV), (0 : Int))
        rw [List.take_of_length_le (by omega)]
theorem decM_ask {xs : List Int} (hr : ∀ x ∈ xs, 0 ≤ x ∧ x < 256) (h : kindOf xs = 3 ∨ kindOf xs = 4) :
    ∃ E, doneOf xs.length (rdOne xs 4).1 (rdOne xs 4).2.1 = E ∧ (E ≠ 0 → decM xs = (noMsg, E)) ∧ (E = 0 → decM xs = (⟨kindOf xs, (rdOne xs 4).2.2, 0, 0, z16, []⟩, 0)) ∧ 0 ≤ (rdOne xs 4).2.2 ∧ (rdOne xs 4).2.2 < 4294967296 := by
  obtain ⟨r, hx⟩ := kind_cons (xs := xs) (by omega)
  obtain ⟨k, hk⟩ : ∃ k, kindOf xs = k := ⟨_, rfl⟩
  rw [hk] at hx h ⊢
  subst hx
  rw [rdOne_cons]
  have hrr : ∀ x ∈ r, 0 ≤ x ∧ x < 256 := fun x hx => hr x (by simp [hx])
  refine ⟨_, rfl, ?_⟩
  by_cases h2 : r.length < 4
  · rw [rdN_few (by decide) (by simp only [List.length_cons]; omega)]
    rw [doneOf_bad (by decide)]
    exact ⟨fun _ => by rw [decM, if_neg (by omega), if_neg (by omega), if_neg (by omega), if_pos h2], fun e => absurd e (by decide), by decide, by decide⟩
  · rw [rdN_fits (by decide) (by simp only [List.length_cons]; omega)]
    dsimp only
    rw [doneOf_ok]
    have hb := be_range (r.take 4) 4 (by rw [List.length_take]; omega) (fun x hx => hrr x (List.mem_of_mem_take hx))
    refine ⟨fun e => ?_, fun e => ?_, hb.1, by have := hb.2; show be (r.take 4) < 4294967296; omega⟩
    · by_cases h3 : 4 < r.length
      · rw [if_pos (by simp only [List.length_cons]; show 1 + 4 < _; omega)]
        rw [decM, if_neg (by omega), if_neg (by omega), if_neg (by omega), if_neg h2, if_pos h3]
      · rw [if_neg (by simp only [List.length_cons]; show ¬ 1 + 4 < _; omega)] at e
        exact absurd rfl e
    · by_cases h3 : 4 < r.length
      · rw [if_pos (by simp only [List.length_cons]; show 1 + 4 < _; omega)] at e
        exact absurd e (by decide)
      · rw [decM, if_neg (by omega), if_neg (by omega), if_neg (by omega), if_neg h2, if_neg h3]
        show _ = ((⟨k, be (r.take 4), 0, 0, z16, []⟩ : MsgV), (0 : Int))
        rw [List.take_of_length_le (by omega)]

/-- The readings of an upload, step by step. -/
def up3 (xs : List Int) : Nat × Int × Int := rdNum xs (rdOne xs 4).1 (rdOne xs 4).2.1 4
def up4 (xs : List Int) : Nat × Int × Nat := rdStep xs.length (up3 xs).1 (up3 xs).2.1 16
def upH (xs : List Int) : List Int := padTo 16 (rdBytes xs (up3 xs).1 (up3 xs).2.1 16)
def up5 (xs : List Int) : Nat × Int × Int := rdCount xs (up4 xs).1 (up4 xs).2.1 2 1000
def up6 (xs : List Int) : Nat × Int × Nat := rdStep xs.length (up5 xs).1 (up5 xs).2.1 (up5 xs).2.2
def upB (xs : List Int) : List Int := rdBytes xs (up5 xs).1 (up5 xs).2.1 (up5 xs).2.2
theorem up_bad5 {xs : List Int} {p : Nat} (h : (up4 xs).1 = p ∧ (up4 xs).2.1 = 2) : up5 xs = (p, 2, 0) ∧ up6 xs = (p, 2, 0) := by
  have h5 : up5 xs = (p, 2, 0) := by unfold up5; rw [h.1, h.2, rdC_bad (by decide) (by decide)]
  exact ⟨h5, by unfold up6; rw [h5, rdStep_bad (show (2 : Int) ≠ 0 by decide)]⟩
theorem up_bad4 {xs : List Int} {p : Nat} (h : (up3 xs).1 = p ∧ (up3 xs).2.1 = 2) : up5 xs = (p, 2, 0) ∧ up6 xs = (p, 2, 0) :=
  up_bad5 (by unfold up4; rw [h.1, h.2, rdStep_bad (by decide)]; exact ⟨rfl, rfl⟩)
theorem num32 {xs : List Int} (hr : ∀ x ∈ xs, 0 ≤ x ∧ x < 256) (p : Nat) (e : Int) : 0 ≤ (rdNum xs p e 4).2.2 ∧ (rdNum xs p e 4).2.2 < 4294967296 := by
  by_cases he : e = 0
  · subst he
    by_cases h : (4 : Int) ≤ (xs.length : Int) - p
    · rw [rdN_fits (by decide) h]
      have hb := be_range ((xs.drop p).take 4) 4 (by rw [List.length_take, List.length_drop]; omega) (fun x hx => hr x (List.mem_of_mem_drop (List.mem_of_mem_take hx)))
      exact ⟨hb.1, by have := hb.2; show be ((xs.drop p).take 4) < 4294967296; omega⟩
    · rw [rdN_few (by decide) (by omega)]; exact ⟨Int.le_refl 0, (by decide : (0 : Int) < 4294967296)⟩
  · rw [rdN_bad (by decide) he]; exact ⟨Int.le_refl 0, (by decide : (0 : Int) < 4294967296)⟩
theorem decM_upload {xs : List Int} (hr : ∀ x ∈ xs, 0 ≤ x ∧ x < 256) (h : kindOf xs = 2) :
    ∃ E, doneOf xs.length (up6 xs).1 (up6 xs).2.1 = E ∧ (E ≠ 0 → decM xs = (noMsg, E)) ∧ (E = 0 → decM xs = (⟨2, (rdOne xs 4).2.2, (up3 xs).2.2, 0, upH xs, upB xs⟩, 0)) := by
  obtain ⟨r, hx⟩ := kind_cons (xs := xs) (by omega)
  rw [h] at hx
  subst hx
  have hrr : ∀ x ∈ r, 0 ≤ x ∧ x < 256 := fun x hx => hr x (by simp [hx])
  have h1 := rdOne_cons 2 r 4
  refine ⟨_, rfl, ?_⟩
  by_cases h26 : r.length < 26
  · have bad : ∃ p, up6 (2 :: r) = (p, 2, 0) := by
      by_cases h4 : r.length < 4
      · rw [rdN_few (by decide) (by simp only [List.length_cons]; omega)] at h1
        exact ⟨1, (up_bad4 (by unfold up3; rw [h1, rdN_bad (by decide) (by decide)]; exact ⟨rfl, rfl⟩)).2⟩
      rw [rdN_fits (by decide) (by simp only [List.length_cons]; omega)] at h1
      by_cases h8 : r.length < 8
      · exact ⟨5, (up_bad4 (by unfold up3; rw [h1, rdN_few (by decide) (by simp only [List.length_cons]; show _ - ((1 + 4 : Nat) : Int) < _; omega)]; exact ⟨rfl, rfl⟩)).2⟩
      have h3 : up3 (2 :: r) = (9, 0, be (((2 :: r).drop 5).take 4)) := by unfold up3; rw [h1, rdN_fits (by decide) (by simp only [List.length_cons]; show _ ≤ _ - ((1 + 4 : Nat) : Int); omega)]; rfl
      by_cases h24 : r.length < 24
      · exact ⟨9, (up_bad5 (by unfold up4; rw [h3, rdStep_few (by decide) (by simp only [List.length_cons]; show _ - ((9 : Nat) : Int) < _; omega)]; exact ⟨rfl, rfl⟩)).2⟩
      have h4' : up4 (2 :: r) = (25, 0, 16) := by unfold up4; rw [h3, rdStep_fits (by decide) (by simp only [List.length_cons]; show _ ≤ _ - ((9 : Nat) : Int); omega)]; rfl
      have h5 : up5 (2 :: r) = (25, 2, 0) := by unfold up5 rdCount; rw [h4', rdN_few (by decide) (by simp only [List.length_cons]; show _ - ((25 : Nat) : Int) < _; omega), if_pos (by decide)]
      exact ⟨25, by unfold up6; rw [h5, rdStep_bad (by decide)]⟩
    obtain ⟨p, hp⟩ := bad
    rw [hp, doneOf_bad (show (2 : Int) ≠ 0 by decide)]
    exact ⟨fun _ => by rw [decM, if_neg (by decide), if_neg (by decide), if_pos rfl, if_pos h26], fun e => absurd e (show (2 : Int) ≠ 0 by decide)⟩
  have hd : ∀ n, (2 :: r).drop (n + 1) = r.drop n := fun _ => rfl
  rw [rdN_fits (by decide) (by simp only [List.length_cons]; omega)] at h1
  have h3 : up3 (2 :: r) = (9, 0, be ((r.drop 4).take 4)) := by unfold up3; rw [h1, rdN_fits (by decide) (by simp only [List.length_cons]; show _ ≤ _ - ((1 + 4 : Nat) : Int); omega)]; rfl
  have h4 : up4 (2 :: r) = (25, 0, 16) := by unfold up4; rw [h3, rdStep_fits (by decide) (by simp only [List.length_cons]; show _ ≤ _ - ((9 : Nat) : Int); omega)]; rfl
  have hH : upH (2 :: r) = (r.drop 8).take 16 := by
    unfold upH rdBytes
    rw [h3, rdStep_fits (by decide) (by simp only [List.length_cons]; show _ ≤ _ - ((9 : Nat) : Int); omega)]
    show padTo 16 ((r.drop 8).take 16) = _
    unfold padTo
    rw [List.length_take, List.length_drop, show 16 - min 16 (r.length - 8) = 0 by omega]
    exact List.append_nil _
  have hn : rdNum (2 :: r) 25 0 2 = (27, 0, be ((r.drop 24).take 2)) := by rw [rdN_fits (by decide) (by simp only [List.length_cons]; show _ ≤ _ - ((25 : Nat) : Int); omega)]; rfl
  have hb := be_range ((r.drop 24).take 2) 2 (by rw [List.length_take, List.length_drop]; omega) (fun x hx => hrr x (List.mem_of_mem_drop (List.mem_of_mem_take hx)))
  have hS : (rdOne (2 :: r) 4).2.2 = be (r.take 4) := by rw [h1]; rfl
  obtain ⟨N, hN⟩ : ∃ N : Nat, be ((r.drop 24).take 2) = (N : Int) := ⟨(be ((r.drop 24).take 2)).toNat, by omega⟩
  rw [hN] at hn
  have hM : decM (2 :: r) = if 1000 < (N : Int) then (noMsg, 4) else decU r N := by rw [decM, if_neg (by decide), if_neg (by decide), if_pos rfl, if_neg h26, hN, Int.toNat_natCast]
  by_cases h1000 : 1000 < (N : Int)
  · have h5 : up5 (2 :: r) = (27, 4, 0) := by unfold up5 rdCount; rw [h4, hn, if_neg (show ¬ (0 : Int) ≠ 0 by decide), if_pos (by right; exact h1000)]
    have h6 : up6 (2 :: r) = (27, 4, 0) := by unfold up6; rw [h5, rdStep_bad (by decide)]
    rw [h6, doneOf_bad (by decide)]
    exact ⟨fun _ => by rw [hM, if_pos h1000], fun e => absurd e (by decide)⟩
  have h5 : up5 (2 :: r) = (27, 0, (N : Int)) := by unfold up5 rdCount; rw [h4, hn, if_neg (show ¬ (0 : Int) ≠ 0 by decide), if_neg (by show ¬ ((1000 : Int) < 0 ∨ 1000 < (N : Int)); omega)]
  rw [if_neg h1000] at hM
  unfold decU at hM
  by_cases hs : r.length < 26 + N
  · have h6 : up6 (2 :: r) = (27, 2, 0) := by unfold up6; rw [h5]; dsimp only; rw [rdStep_few (by omega) (by simp only [List.length_cons]; show _ - ((27 : Nat) : Int) < _; omega)]
    rw [h6, doneOf_bad (by decide)]
    exact ⟨fun _ => by rw [hM, if_pos hs], fun e => absurd e (by decide)⟩
  rw [if_neg hs] at hM
  have h6 : up6 (2 :: r) = (27 + N, 0, N) := by unfold up6; rw [h5]; dsimp only; rw [rdStep_fits (by omega) (by simp only [List.length_cons]; show _ ≤ _ - ((27 : Nat) : Int); omega), Int.toNat_natCast]
  have hB : upB (2 :: r) = (r.drop 26).take N := by unfold upB rdBytes; rw [h5]; dsimp only; rw [rdStep_fits (by omega) (by simp only [List.length_cons]; show _ ≤ _ - ((27 : Nat) : Int); omega), Int.toNat_natCast]; rfl
  rw [h6]
  dsimp only
  rw [doneOf_ok, hS, h3, hH, hB]
  refine ⟨fun e => ?_, fun e => ?_⟩
  · by_cases hl : 26 + N < r.length
    · rw [if_pos (by simp only [List.length_cons]; omega), hM, if_pos hl]
    · rw [if_neg (by simp only [List.length_cons]; omega)] at e
      exact absurd rfl e
  · by_cases hl : 26 + N < r.length
    · rw [if_pos (by simp only [List.length_cons]; omega)] at e
      exact absurd e (by decide)
    · rw [hM, if_neg hl, List.take_of_length_le (l := r.drop 26) (by rw [List.length_drop]; omega)]
theorem upH_len {xs : List Int} : (upH xs).length = 16 := by
  unfold upH
  refine padTo_len ?_
  unfold rdBytes
  rw [List.length_take]
  refine Nat.le_trans (Nat.min_le_left _ _) ?_
  exact rdStep_cap _ _ _ 16
end Go.Proofs.YtinmmhbiomcdoaaGreatDoor

/-
  What layer 9's reader of the first eight bytes tells, and what the first frame is by it. No Go function is spoken of. Conditions: bytes below 256.
-/
namespace Go.Proofs.YtinmmhbiomcdoaaGreatDoor
open Go.RowKit

theorem one_split {xs : List Int} (hr : ∀ x ∈ xs, 0 ≤ x ∧ x < 256) :
    (∃ p e E, rdCount (xs.take 8) 0 0 4 65536 = (p, e, 0) ∧ E ≠ 0 ∧ badOf e 4 = E ∧ oneF xs = ([], 0, E)) ∨
    (∃ v : Nat, 1 ≤ v ∧ v ≤ 65536 ∧ rdCount (xs.take 8) 0 0 4 65536 = (4, 0, (v : Int)) ∧ xs.length < 8 + v ∧ oneF xs = ([], 0, 2)) ∨
    (∃ (v : Nat) (S : Int), 1 ≤ v ∧ v ≤ 65536 ∧ rdCount (xs.take 8) 0 0 4 65536 = (4, 0, (v : Int)) ∧ 8 + v ≤ xs.length ∧ rdNum (xs.take 8) 4 0 4 = (8, 0, S) ∧ (0 ≤ S ∧ S < 4294967296) ∧
      nv (crcOf 0#32 (bvs ([xs.take 4, (xs.drop 8).take v] : List (List Int)).flatten)) = sumF ((xs.drop 8).take v) ∧
      (S ≠ sumF ((xs.drop 8).take v) → oneF xs = ([], 0, 9)) ∧ (S = sumF ((xs.drop 8).take v) → oneF xs = ((xs.drop 8).take v, 8 + v, 0))) := by
  have hl8 : (xs.take 8).length = min 8 xs.length := by rw [List.length_take]
  by_cases h4 : xs.length < 4
  · refine .inl ⟨0, 2, 2, ?_, by decide, rfl, ?_⟩
    · unfold rdCount
      rw [rdN_few (by decide) (by omega)]
      rw [if_pos (by decide)]
    · unfold oneF
      rw [if_pos h4]
  · have hn : rdNum (xs.take 8) 0 0 4 = (4, 0, be (xs.take 4)) := by
      rw [rdN_fits (by decide) (by omega)]
      show (0 + 4, (0 : Int), be (((xs.take 8).drop 0).take 4)) = _
      rw [List.drop_zero, List.take_take]
      rfl
    have ht : ∀ x ∈ xs.take 4, 0 ≤ x ∧ x < 256 := fun x hx => hr x (List.mem_of_mem_take hx)
    have htl : (xs.take 4).length = 4 := by rw [List.length_take]; omega
    have hb := beL_be (xs.take 4) ht
    rw [htl] at hb
    have hbr := be_lt (xs.take 4) ht (by omega)
    obtain ⟨v, hv⟩ : ∃ v : Nat, be (xs.take 4) = (v : Int) := ⟨(be (xs.take 4)).toNat, by omega⟩
    rw [hv] at hn hb
    by_cases hq : v < 1 ∨ 65536 < v
    · refine .inl ⟨4, if v = 0 then 0 else 4, 4, ?_, by decide, ?_, ?_⟩
      · unfold rdCount
        rw [hn]
        dsimp only
        rw [if_neg (by decide)]
        by_cases h0 : v = 0
        · subst h0
          rw [if_neg (by omega), if_pos rfl]
          rfl
        · rw [if_pos (by omega), if_neg h0]
      · split <;> rfl
      · unfold oneF
        rw [if_neg h4, hv, if_pos (by omega)]
    · have hc : rdCount (xs.take 8) 0 0 4 65536 = (4, 0, (v : Int)) := by
        unfold rdCount
        rw [hn]
        dsimp only
        rw [if_neg (by decide), if_neg (by omega)]
      by_cases h8 : xs.length < 8 + v
      · refine .inr (.inl ⟨v, by omega, by omega, hc, h8, ?_⟩)
        unfold oneF
        rw [if_neg h4, hv, if_neg (by omega), if_pos (by omega)]
      · have hbl : ((xs.drop 8).take v).length = v := by rw [List.length_take, List.length_drop]; omega
        have hdr : (xs.take 8).drop 4 = (xs.drop 4).take 4 := by rw [List.drop_take]
        have hm : ∀ x ∈ (xs.drop 4).take 4, 0 ≤ x ∧ x < 256 := fun x hx => hr x (List.mem_of_mem_drop (List.mem_of_mem_take hx))
        have hml : ((xs.drop 4).take 4).length = 4 := by rw [List.length_take, List.length_drop]; omega
        refine .inr (.inr ⟨v, be ((xs.drop 4).take 4), by omega, by omega, hc, by omega, ?_, by have := be_range _ 4 hml hm; rw [pow256_4] at this; exact this, ?_, ?_, ?_⟩)
        · rw [rdN_fits (by decide) (by omega), hdr]
          show (4 + 4, (0 : Int), be (((xs.drop 4).take 4).take 4)) = _
          rw [List.take_of_length_le (by omega)]
        · unfold sumF
          rw [hbl, hb]
          simp
        · intro hne
          unfold oneF
          rw [if_neg h4, hv, if_neg (by omega), if_neg (by omega), Int.toNat_natCast, if_neg hne]
        · intro he
          unfold oneF
          rw [if_neg h4, hv, if_neg (by omega), if_neg (by omega), Int.toNat_natCast, if_pos he]
end Go.Proofs.YtinmmhbiomcdoaaGreatDoor

/-
  What the program's 'next' comes to: the bytes that come next, or a fault. New memory and the reader alone are written. Conditions: those of a reader in memory.
-/
namespace Go.Proofs.YtinmmhbiomcdoaaGreatDoor
open Go.RowKit

set_option maxRecDepth 100000 in
set_option maxHeartbeats 800000 in
theorem pNext_bad {F : Nat → Prop} {w : World} {g : Nat} {xs : List Int} {p : Nat} {e : Int} (s : ByteArray) (may : Bool) (A S : Int) (he : e ≠ 0) (h : RdAt F w g xs p e) :
    Calls Tryz.prog 130 #[.pointer (some ⟨g, 0, none⟩), .string s, .bool may, .int .i64 A, .int .i64 S] w fun r w' => r = .returned (.slice none 0 0) ∧ w = w' := by
  have hc := pReads_any h
  rw [show decide (e = 0) = false from decide_eq_false he] at hc
  go_enter Tryz.func130, Tryz.ntmps130
  go_wp2_with fail
  refine hc.mono ?_
  rintro r w1 ⟨rfl, rfl⟩
  go_wp2
  go_ret
  exact ⟨rfl, rfl⟩

set_option maxRecDepth 100000 in
set_option maxHeartbeats 1600000 in
theorem pNext_arg {F : Nat → Prop} {w : World} {g : Nat} {xs : List Int} {p : Nat} (s : ByteArray) (A S : Int) (h : RdAt F w g xs p 0) :
    Calls Tryz.prog 130 #[.pointer (some ⟨g, 0, none⟩), .string s, .bool false, .int .i64 A, .int .i64 S] w fun r w' => r = .returned (.slice none 0 0) ∧ RdAt F w' g xs p 1 ∧ Moved F w w' := by
  have hc := pReads_any h
  obtain ⟨a, n, c, fv, t, hb, hi, hf, hx⟩ := h.is
  obtain ⟨c0, c1, c2, c3, c4⟩ := rdCells hb
  have hlen := hi.len
  have hm := h.most
  have hw := h.within
  subst hlen
  rw [show decide ((0 : Int) = 0) = true from rfl] at hc
  have z3 := hb.frozen 3
  have z2 := hb.frozen 2
  have hbH := Lib.hid hb
  have hgl := hb.lt
  clear hb
  go_enter Tryz.func130, Tryz.ntmps130
  go_wp2_with fail
  refine hc.mono ?_
  rintro r w1 ⟨rfl, rfl⟩
  have hk := Blk.new w 26 [.int .i64 1, .int .i64 2]
  have b1 := below1 w (.cells #[.int .i64 1, .int .i64 2] 26)
  go_wp2_with fail
  refine (pOr_any 1 2 w.heap.size _ (by decide) (hk.cell 0) (hk.cell 1)).mono ?_
  rintro r w2 ⟨rfl, rfl⟩
  obtain ⟨W, hW⟩ : ∃ W, w.alloc (.cells #[.int .i64 1, .int .i64 2] 26) = W := ⟨_, rfl⟩
  rw [hW] at b1
  have hbW := hbH.out.keep b1 hgl
  have hW1 := h.keep (fun b hb => b1.block b (h.lt b hb)) b1.size
  have hiW := hi.keep b1
  have z3' := hbW.frozen 3
  have c3' : W.cell? ⟨g, 3, none⟩ = some fv := hbW.cell 3
  rw [hW]
  have hbWH := Lib.hid hbW
  clear hW hbW hk
  go_wp2
  go_ret
  have k1 := hbWH.out.set 3 (.iface 222 (.agg #[.string s, .int .i64 1]))
  have g1 := grown_setCell W g 3 (.iface 222 (.agg #[.string s, .int .i64 1]))
  refine ⟨rfl, hW1.write hiW hx g1 k1 (.inr ⟨by decide, _, rfl, .inl rfl⟩) h.within, ?_⟩
  have m1 : Moved F W _ := moved_set h.own g1
  exact ⟨(b1.mono (Nat.zero_le _)).trans m1.1, fun b hb hf => (m1.2 b (Nat.lt_of_lt_of_le hb b1.size) hf).trans (b1.block b hb)⟩
theorem Moved.after {F : Nat → Prop} {w W w' : World} (b1 : Below w.heap.size w W) (m1 : Moved F W w') : Moved F w w' :=
  ⟨(b1.mono (Nat.zero_le _)).trans m1.1, fun b hb hf => (m1.2 b (Nat.lt_of_lt_of_le hb b1.size) hf).trans (b1.block b hb)⟩

set_option maxRecDepth 100000 in
set_option maxHeartbeats 1600000 in
theorem pNext_short {F : Nat → Prop} {w : World} {g : Nat} {xs : List Int} {p : Nat} (s : ByteArray) (A S Q : Int) (h : RdAt F w g xs p 0) (hS : ¬ S = 0) (hQ : wrap64 (((xs.length : Int) - p).tdiv S) = Q) (hA : Q < A) :
    Calls Tryz.prog 130 #[.pointer (some ⟨g, 0, none⟩), .string s, .bool true, .int .i64 A, .int .i64 S] w fun r w' => r = .returned (.slice none 0 0) ∧ RdAt F w' g xs p 2 ∧ Moved F w w' := by
  have hc := pReads_any h
  have hL := fun w1 (b1 : Below w.heap.size w w1) => pLeft_any (h.keep (fun b hb => b1.block b (h.lt b hb)) b1.size)
  obtain ⟨a, n, c, fv, t, hb, hi, hf, hx⟩ := h.is
  obtain ⟨c0, c1, c2, c3, c4⟩ := rdCells hb
  have hlen := hi.len
  have hm := h.most
  have hw := h.within
  subst hlen
  rw [show decide ((0 : Int) = 0) = true from rfl] at hc
  have z3 := hb.frozen 3
  have z2 := hb.frozen 2
  have hbH := Lib.hid hb
  have hgl := hb.lt
  clear hb
  go_enter Tryz.func130, Tryz.ntmps130
  go_wp2_with fail
  refine hc.mono ?_
  rintro r w1 ⟨rfl, rfl⟩
  go_wp2_with fail
  refine (hL _ (Below.refl _ _)).mono ?_
  rintro r w1 ⟨rfl, q, hq⟩
  have b0 : Below w.heap.size w w1 := by rw [hq]; exact below_drewN (Below.refl _ _) q
  clear hq hL hc
  have hk := Blk.new w1 26 [.int .i64 0, .int .i64 2]
  have b1 := b0.trans ((below1 w1 (.cells #[.int .i64 0, .int .i64 2] 26)).mono b0.size)
  go_wp2_with fail
  refine (pOr_any 0 2 w1.heap.size _ (by decide) (hk.cell 0) (hk.cell 1)).mono ?_
  rintro r w2 ⟨rfl, rfl⟩
  obtain ⟨W, hW⟩ : ∃ W, w1.alloc (.cells #[.int .i64 0, .int .i64 2] 26) = W := ⟨_, rfl⟩
  rw [hW] at b1
  have hbW := hbH.out.keep b1 hgl
  have hW1 := h.keep (fun b hb => b1.block b (h.lt b hb)) b1.size
  have hiW := hi.keep b1
  have z3' := hbW.frozen 3
  have c3' : W.cell? ⟨g, 3, none⟩ = some fv := hbW.cell 3
  rw [hW]
  have hbWH := Lib.hid hbW
  clear hW hbW hk
  go_wp2
  go_ret
  have k1 := hbWH.out.set 3 (.iface 222 (.agg #[.string s, .int .i64 2]))
  have g1 := grown_setCell W g 3 (.iface 222 (.agg #[.string s, .int .i64 2]))
  exact ⟨rfl, hW1.write hiW hx g1 k1 (.inr ⟨by decide, _, rfl, .inr (.inl rfl)⟩) h.within, (moved_set h.own g1).after b1⟩

set_option maxRecDepth 100000 in
set_option maxHeartbeats 1600000 in
theorem pNext_ok {F : Nat → Prop} {w : World} {g : Nat} {xs : List Int} {p : Nat} (s : ByteArray) (A S Q M : Int) (k : Nat) (h : RdAt F w g xs p 0) (hS : ¬ S = 0) (hQ : wrap64 (((xs.length : Int) - p).tdiv S) = Q) (hA : ¬ Q < A) (hM : wrap64 (A * S) = M) (hk : M = (k : Int)) (hp : p + k ≤ xs.length) :
    Calls Tryz.prog 130 #[.pointer (some ⟨g, 0, none⟩), .string s, .bool true, .int .i64 A, .int .i64 S] w fun r w' => ∃ a c, r = .returned (.slice a k c) ∧ Ints .u8 w' a k c ((xs.drop p).take k) ∧ (∀ x, a = some x → 0 < k → F x.block ∧ x.block ≠ g) ∧ RdAt F w' g xs (p + k) 0 ∧ Moved F w w' := by
  have hc := pReads_any h
  have hL := pLeft_any h
  obtain ⟨a, n, c, fv, t, hb, hi, hf, hx⟩ := h.is
  obtain ⟨c0, c1, c2, c3, c4⟩ := rdCells hb
  have hlen := hi.len
  have hm := h.most
  have hw := h.within
  subst hlen
  rw [show decide ((0 : Int) = 0) = true from rfl] at hc
  have z3 := hb.frozen 3
  have z2 := hb.frozen 2
  have hbH := Lib.hid hb
  have hgl := hb.lt
  clear hb
  have hsum : wrap64 ((p : Int) + M) = ((p + k : Nat) : Int) := by rw [hk]; unfold wrap64; omega
  have hMH := Lib.hid hk
  have hcut := hi.cut2 p (p + k) (by omega) hp
  have hblk : ∀ x, cutAddr a c p = some x → 0 < k → F x.block ∧ x.block ≠ g := fun x hxx h0 => by
    obtain ⟨y, hy, he⟩ := cutAddr_block hxx
    rw [← he]
    exact hx y hy (by omega)
  have hcn := hi.2.1
  have hs := fun W : World => run_cut2 (P := Tryz.prog) 34 5 Tryz.underlying34 (by kernel_rfl) W a xs.length c .i64 .i64 p (p + k) (by omega) (by omega)
  rw [show p + k - p = k by omega] at hs hcut
  obtain ⟨P, hP⟩ : ∃ P : Int, ((p + k : Nat) : Int) = P := ⟨_, rfl⟩
  rw [hP] at hs hsum
  obtain ⟨V, hV⟩ : ∃ V, Value.slice (cutAddr a c p) k (c - p) = V := ⟨_, rfl⟩
  rw [hV] at hs
  have hVH := Lib.hid hV
  have hPH := Lib.hid hP
  have hxH := Lib.hid hx
  have hcutH := Lib.hid hcut
  have hblkH := Lib.hid hblk
  have hpH := Lib.hid hp
  clear hk hV hP hcut hblk hp hcn hm hw hx
  go_enter Tryz.func130, Tryz.ntmps130
  go_wp2_with fail
  refine hc.mono ?_
  rintro r w1 ⟨rfl, rfl⟩
  go_wp2_with fail
  refine hL.mono ?_
  rintro r w1 ⟨rfl, q, hq⟩
  have b0 : Below w.heap.size w w1 := by rw [hq]; exact below_drewN (Below.refl _ _) q
  have hbW := hbH.out.keep b0 hgl
  obtain ⟨d0, d1, d2, d3, d4⟩ := rdCells hbW
  have y2 := hbW.frozen 2
  have hbWH := Lib.hid hbW
  clear hq hL hc hbW z3 z2 c0 c1 c2 c3 c4 d0 d3 d4
  go_wp2
  go_quiet (fail)
  go_wp2
  go_ret
  have k1 := hbWH.out.set 2 (.int .i64 ((p + k : Nat) : Int))
  have g1 := grown_drewN (grown_setCell w1 g 2 (.int .i64 P)) nq
  have hW1 := h.keep (fun b hb => b0.block b (h.lt b hb)) b0.size
  have hiW := hi.keep b0
  refine ⟨cutAddr a c p, c - p, by rw [hVH.out]; rfl, (hcutH.out.keep b0).grown g1 (fun x hx h0 => (hblkH.out x hx h0).2), hblkH.out, ?_, (moved_set h.own g1).after b0⟩
  rw [hPH.out] at k1
  refine hW1.write hiW hxH.out g1 (fv := fv) (t := t) ?_ hf hpH.out
  rw [hPH.out]
  exact k1
end Go.Proofs.YtinmmhbiomcdoaaGreatDoor

/-
  What the program's 'next' comes to in every case, and Bytes. New memory and the reader alone are written. Conditions: those of a reader in memory.
-/
namespace Go.Proofs.YtinmmhbiomcdoaaGreatDoor
open Go.RowKit

/-- Place, fault and how many bytes, behind next. -/
def nx (n p : Nat) (e : Int) (may : Bool) (A : Int) (S : Nat) : Nat × Int × Nat :=
  if e ≠ 0 then (p, e, 0) else if may = false then (p, 1, 0) else if (((n - p) / S : Nat) : Int) < A then (p, 2, 0) else (p + A.toNat * S, 0, A.toNat * S)

theorem pNext_any {F : Nat → Prop} {w : World} {g : Nat} {xs : List Int} {p : Nat} {e : Int} (s : ByteArray) (may : Bool) (A : Int) (S : Nat) (h : RdAt F w g xs p e) (hS : 1 ≤ S) (hA : may = true → 0 ≤ A) :
    Calls Tryz.prog 130 #[.pointer (some ⟨g, 0, none⟩), .string s, .bool may, .int .i64 A, .int .i64 (S : Int)] w fun r w' => ∃ a c, r = .returned (.slice a (nx xs.length p e may A S).2.2 c) ∧ Ints .u8 w' a (nx xs.length p e may A S).2.2 c ((xs.drop p).take (nx xs.length p e may A S).2.2) ∧ (∀ x, a = some x → 0 < (nx xs.length p e may A S).2.2 → F x.block ∧ x.block ≠ g) ∧ RdAt F w' g xs (nx xs.length p e may A S).1 (nx xs.length p e may A S).2.1 ∧ Moved F w w' := by
  unfold nx
  by_cases he : e ≠ 0
  · rw [if_pos he]
    refine (pNext_bad s may A S he h).mono ?_
    rintro r w' ⟨rfl, rfl⟩
    exact ⟨none, 0, rfl, ⟨by simp, Nat.le_refl _, .inl rfl⟩, (fun _ hx => by cases hx), h, Moved.of_below (Below.refl _ _)⟩
  · rw [if_neg he]
    obtain rfl : e = 0 := by omega
    cases may with
    | false =>
      rw [if_pos rfl]
      refine (pNext_arg s A S h).mono ?_
      rintro r w' ⟨rfl, hR, hM⟩
      exact ⟨none, 0, rfl, ⟨by simp, Nat.le_refl _, .inl rfl⟩, (fun _ hx => by cases hx), hR, hM⟩
    | true =>
      rw [if_neg (by decide)]
      have hm := h.most
      have hw := h.within
      have hd : ((xs.length : Int) - p).tdiv (S : Int) = (((xs.length - p) / S : Nat) : Int) := by
        rw [show ((xs.length : Int) - p) = ((xs.length - p : Nat) : Int) by omega]
        exact (Int.ofNat_tdiv _ _).symm
      have hle : (xs.length - p) / S ≤ xs.length - p := Nat.div_le_self _ _
      have hQ : wrap64 (((xs.length : Int) - p).tdiv S) = (((xs.length - p) / S : Nat) : Int) := by
        rw [hd]
        obtain ⟨q, hq⟩ : ∃ q, (xs.length - p) / S = q := ⟨_, rfl⟩
        rw [hq] at hle ⊢
        unfold wrap64
        omega
      have hS0 : ¬ (S : Int) = 0 := by omega
      by_cases hq : (((xs.length - p) / S : Nat) : Int) < A
      · rw [if_pos hq]
        refine (pNext_short s A S _ h hS0 hQ hq).mono ?_
        rintro r w' ⟨rfl, hR, hM⟩
        exact ⟨none, 0, rfl, ⟨by simp, Nat.le_refl _, .inl rfl⟩, (fun _ hx => by cases hx), hR, hM⟩
      · rw [if_neg hq]
        have h0 := hA rfl
        obtain ⟨K, rfl⟩ : ∃ K : Nat, A = K := ⟨A.toNat, by omega⟩
        have hK : K * S ≤ xs.length - p := (Nat.le_div_iff_mul_le (by omega)).1 (by omega)
        have hW : wrap64 ((K : Int) * (S : Int)) = ((K * S : Nat) : Int) := by
          rw [← Int.natCast_mul]
          obtain ⟨q, hq⟩ : ∃ q, K * S = q := ⟨_, rfl⟩
          rw [hq] at hK ⊢
          unfold wrap64
          omega
        rw [Int.toNat_natCast]
        refine (pNext_ok s K S _ _ (K * S) h hS0 hQ hq hW rfl (by omega)).mono ?_
        rintro r w' ⟨a, c, rfl, hI, hx, hR, hM⟩
        exact ⟨a, c, rfl, hI, hx, hR, hM⟩

theorem nx_bytes (n p : Nat) (e A : Int) (hp : p ≤ n) : nx n p e (decide (0 ≤ A)) A 1 = rdStep n p e A := by
  unfold nx rdStep
  by_cases he : e ≠ 0
  · rw [if_pos he, if_pos he]
  · rw [if_neg he, if_neg he]
    by_cases h : A < 0
    · rw [if_pos h, if_pos (decide_eq_false (by omega))]
    · rw [if_neg h, if_neg (by rw [decide_eq_true (by omega)]; decide), Nat.div_one, Nat.mul_one]
      by_cases h2 : (n : Int) - p < A
      · rw [if_pos h2, if_pos (by omega)]
      · rw [if_neg h2, if_neg (by omega)]

theorem nx_one (n p : Nat) (e : Int) (S : Nat) (hp : p ≤ n) (hS : 1 ≤ S) : nx n p e true 1 S = rdStep n p e (S : Int) := by
  unfold nx rdStep
  by_cases he : e ≠ 0
  · rw [if_pos he, if_pos he]
  · rw [if_neg he, if_neg he, if_neg (by decide)]
    have h1 : (1 : Int).toNat * S = S := by rw [show (1 : Int).toNat = 1 from rfl, Nat.one_mul]
    rw [h1, Int.toNat_natCast]
    have h0 : ¬ (S : Int) < 0 := by omega
    by_cases h2 : (n : Int) - p < (S : Int)
    · have hd : (n - p) / S = 0 := Nat.div_eq_of_lt (by omega)
      rw [hd, if_pos (by decide), if_neg h0, if_pos h2]
    · have hd : 1 ≤ (n - p) / S := (Nat.le_div_iff_mul_le (by omega)).2 (by omega)
      obtain ⟨q, hq⟩ : ∃ q, (n - p) / S = q := ⟨_, rfl⟩
      rw [hq] at hd ⊢
      rw [if_neg (by omega), if_neg h0, if_neg h2]

theorem own_block {w : World} {B : Nat} {e : TypeId} {b : Option Addr} {n c m : Nat} {vs : List Value} (ho : w.ownsRow B e 1 (.slice b n c) m vs) {x : Addr} (hx : b = some x) : B ≤ x.block := (ho.lt x.block (by rw [hx]; rfl)).1

set_option maxRecDepth 100000 in
set_option maxHeartbeats 800000 in
theorem pBytes_any {F : Nat → Prop} {w : World} {g : Nat} {xs : List Int} {p : Nat} {e : Int} (A : Int) (h : RdAt F w g xs p e) :
    Calls Tryz.prog 106 #[.pointer (some ⟨g, 0, none⟩), .int .i64 A] w fun r w' => ∃ b c, r = .returned (.slice b (rdStep xs.length p e A).2.2 c) ∧ w'.ownsRow w.heap.size 5 1 (.slice b (rdStep xs.length p e A).2.2 c) (rdStep xs.length p e A).2.2 ((rdBytes xs p e A).map (Value.int .u8)) ∧ (∀ x, b = some x → ¬ F x.block) ∧ RdAt F w' g xs (rdStep xs.length p e A).1 (rdStep xs.length p e A).2.1 ∧ Moved F w w' := by
  have hc := pNext_any { data := #[98, 121, 116, 101, 115] } (decide (0 ≤ A)) A 1 h (Nat.le_refl _) (fun h => of_decide_eq_true h)
  have hw := h.within
  have hm := h.most
  rw [nx_bytes _ _ _ _ hw] at hc
  have hst := (rdStep_le (n := xs.length) e A hw).2
  unfold rdBytes
  obtain ⟨K, hK⟩ : ∃ K, (rdStep xs.length p e A).2.2 = K := ⟨_, rfl⟩
  obtain ⟨P, hP⟩ : ∃ P, (rdStep xs.length p e A).1 = P := ⟨_, rfl⟩
  obtain ⟨E, hE⟩ : ∃ E, (rdStep xs.length p e A).2.1 = E := ⟨_, rfl⟩
  rw [hK, hP, hE] at hc ⊢
  rw [hK] at hst
  obtain ⟨Y, hY⟩ : ∃ Y, (xs.drop p).take K = Y := ⟨_, rfl⟩
  rw [hY] at hc ⊢
  have hKm : K ≤ 4294967296 := by omega
  have hlt := Lib.hid h.lt
  clear hK hP hE hY hst hm hw h
  have hKH := Lib.hid hKm
  clear hKm
  go_enter Tryz.func106, Tryz.ntmps106
  go_wp2_with fail
  refine hc.mono ?_
  rintro r w1 ⟨a, c, rfl, hI, hx, hR, hM⟩
  clear hc hx
  go_wp2_with fail
  refine (pClone_any a K c Y w1 hI hKH.out).mono ?_
  rintro r w2 ⟨b, d, rfl, ho, b2⟩
  go_wp2
  go_ret
  have hs := hM.size
  refine ⟨b, d, rfl, own_low9 ho hs, fun x hx hf => ?_, hR.keep (fun k hk => b2.block k (hR.lt k hk)) b2.size, hM.then (Moved.of_below b2)⟩
  have h1 := own_block ho hx
  have h2 := hlt.out _ hf
  omega
end Go.Proofs.YtinmmhbiomcdoaaGreatDoor
