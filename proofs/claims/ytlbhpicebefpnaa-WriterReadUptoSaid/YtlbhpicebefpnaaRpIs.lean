/-
  errors.Is of no error, and of package reader's fault, at a number of package api: whether the fault wraps just that number, by Go's own text. New memory alone is written. No conditions.
-/
import Derived.Test.YtlbhpicebefpnaaRpMem
import Derived.WalkKit
import Derived.LaidEql
import Derived.Stop.Asserts
import Derived.RowKitTokens
namespace Go.Proofs.Ytlbhpicebefpnaa
open Go.RowKit Go.Extern.Stop Go.Stop Go.Extern

theorem isF.typeOf (v : Value) (w : World) : (ReflectliteType.typeOf #[.iface 28 v]).run Try.prog w = .ok (.iface 95 (.agg #[.pointer (some ⟨0, 28, none⟩)])) w := by kernel_rfl
theorem isF.comparable (w : World) : (ReflectliteType.method (fun t => do Rtype.noPackHeld "Comparable" t; (fun a : TypeInfo => Value.bool a.comparable) <$> typeInfo t) #[.agg #[.pointer (some ⟨0, 28, none⟩)]]).run Try.prog w = .ok (.bool true) w := by kernel_rfl
theorem isF.methodC (h : Value) (w : World) : (Go.method 238 95 (.agg #[h]) "Comparable").run Try.prog w = .ok (69, .agg #[h]) w := by kernel_rfl
theorem isF.methodU (s : ByteArray) (k : Int) (w : World) : (Go.method 238 79 (.agg #[.string s, .int .i64 k]) "Unwrap").run Try.prog w = .ok (65, .agg #[.string s, .int .i64 k]) w := by kernel_rfl
theorem isF.eqE (k o : Int) (w : World) : Sem.run Try.prog (binOp BinOp.eql 73 (.iface 28 (.int .i64 k)) (.iface 28 (.int .i64 o))) w = .ok (.bool (k == o)) w := by kernel_rfl
theorem isF.eqN (o : Int) (w : World) : Sem.run Try.prog (binOp BinOp.eql 73 .nilIface (.iface 28 (.int .i64 o))) w = .ok (.bool false) w := by kernel_rfl
theorem isF.eqFE (s : ByteArray) (k o : Int) (w : World) : Sem.run Try.prog (binOp BinOp.eql 73 (.iface 79 (.agg #[.string s, .int .i64 k])) (.iface 28 (.int .i64 o))) w = .ok (.bool false) w := by kernel_rfl
theorem isF.noIsF (v : Value) (xT : TypeId) (w : World) : (Instr.typeAssert (.iface 79 v) xT 97 true).run Try.prog w = .ok (.tuple #[.nilIface, .bool false]) w := run_typeAssert_lacksB Try.underlying97 (by kernel_rfl) (by kernel_rfl) v xT w
theorem isF.noIsE (v : Value) (xT : TypeId) (w : World) : (Instr.typeAssert (.iface 28 v) xT 97 true).run Try.prog w = .ok (.tuple #[.nilIface, .bool false]) w := run_typeAssert_lacksB Try.underlying97 (by kernel_rfl) (by kernel_rfl) v xT w
theorem isF.unF (v : Value) (xT : TypeId) (w : World) : (Instr.typeAssert (.iface 79 v) xT 100 true).run Try.prog w = .ok (.tuple #[.iface 79 v, .bool true]) w := run_typeAssert_hasB Try.underlying100 (by kernel_rfl) v xT w
theorem isF.noUnE (v : Value) (xT : TypeId) (w : World) : (Instr.typeAssert (.iface 28 v) xT 100 true).run Try.prog w = .ok (.tuple #[.nilIface, .bool false]) w := run_typeAssert_lacksB Try.underlying100 (by kernel_rfl) (by kernel_rfl) v xT w
theorem isF.noUnsE (v : Value) (xT : TypeId) (w : World) : (Instr.typeAssert (.iface 28 v) xT 102 true).run Try.prog w = .ok (.tuple #[.nilIface, .bool false]) w := run_typeAssert_lacksB Try.underlying102 (by kernel_rfl) (by kernel_rfl) v xT w

set_option maxRecDepth 100000 in
theorem is_nil (o : Int) (w : World) :
    Calls Try.prog 44 #[.nilIface, .iface 28 (.int .i64 o)] w fun e w' => e = .returned (.bool false) ∧ w = w' := by
  have q := isF.eqN o
  go_enter Try.func44, Try.ntmps44
  go_wp2
  go_ret
  exact ⟨rfl, rfl⟩

set_option maxRecDepth 100000 in
set_option maxHeartbeats 2000000 in
theorem is_any (s : ByteArray) (k o : Int) (w : World) :
    Calls Try.prog 44 #[.iface 79 (.agg #[.string s, .int .i64 k]), .iface 28 (.int .i64 o)] w fun e w' => e = .returned (.bool (k == o)) ∧ w' = w.alloc (.cells #[.string s, .int .i64 k] 79) := by
  have h1 := @run_callFunc_extern Try.prog 45 _ ReflectliteType.typeOf Try.func45 (by kernel_rfl) (by kernel_rfl) (by kernel_rfl) (by kernel_rfl)
  have h2 := @run_callFunc_extern Try.prog 69 _ (ReflectliteType.method (fun t => do Rtype.noPackHeld "Comparable" t; pure (.bool (← typeInfo t).comparable))) Try.func69 (by kernel_rfl) (by kernel_rfl) (by kernel_rfl) (by kernel_rfl)
  have tO := isF.typeOf
  have tC := isF.comparable
  have mC := isF.methodC
  have mU := isF.methodU
  have qE := isF.eqE k o
  have qF := isF.eqFE
  have nF := isF.noIsF
  have nE := isF.noIsE
  have uF := isF.unF
  have vE := isF.noUnE
  have xE := isF.noUnsE
  cases hk : (k == o) with
  | true =>
    rw [hk] at qE
    go_enter Try.func44, Try.ntmps44
    go_wp2
    refine wp_loop_rounds 2 ?_
    rw [rounds_succ]
    go_wp2
    rw [rounds_succ]
    go_wp2
    go_ret
    exact ⟨rfl, rfl⟩
  | false =>
    rw [hk] at qE
    go_enter Try.func44, Try.ntmps44
    go_wp2
    refine wp_loop_rounds 2 ?_
    rw [rounds_succ]
    go_wp2
    rw [rounds_succ]
    go_wp2
    go_ret
    exact ⟨rfl, rfl⟩
end Go.Proofs.Ytlbhpicebefpnaa
