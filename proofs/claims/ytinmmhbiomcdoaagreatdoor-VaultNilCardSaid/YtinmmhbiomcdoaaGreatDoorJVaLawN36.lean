/-
  Texts of stages that were proved on their own, joined: VaAs, VaIs. Each begins with its own words.
-/
import Derived.Test.YtinmmhbiomcdoaaGreatDoorJVaLawN34
import Derived.Test.YtinmmhbiomcdoaaGreatDoorBlocks
import Derived.WalkKit
import Derived.LaidEql
import Derived.Stop.Asserts
import Derived.RowKitTokens

/-
  errors.As at the target '*api.Errno', by Go's own text, of package vault's faults: true, and the target is the number that stands innermost. Conditions: the library's variable holds the handle of the type 'error'; the target's cell is there and not frozen.
-/
namespace Go.Proofs.YtinmmhbiomcdoaaGreatDoor
open Go.RowKit Go.Extern.Stop Go.Stop Go.Extern

/-- errors.As(nil, target). -/
theorem as_nil (t : Value) (w : World) :
    Calls Tryz.prog 34 #[.nilIface, t] w fun e w' => e = .returned (.bool false) ∧ w = w' := by
  go_enter Tryz.func34, Tryz.ntmps34
  go_wp2
  go_ret
  exact ⟨rfl, rfl⟩

theorem handleE : typeHandle Tryz.prog 94 = .pointer (some ⟨6, 94, none⟩) := by kernel_rfl
theorem asF.valueOfP (t : Addr) (w : World) : (ReflectliteValue.unpack (.iface 98 (.pointer (some t)))).run Tryz.prog w
    = .ok (.agg #[.pointer (some ⟨6, 98, none⟩), .pointer (some ⟨w.heap.size, 0, none⟩), .int .u64 150]) (w.alloc (.cells #[.pointer (some t)] 98)) := by kernel_rfl
theorem asF.typeP (a : Addr) (w : World) : (ReflectliteValue.methodAny (ReflectliteValue.valueError "reflectlite.Value.Type" 0) (fun t _ _ _ => ReflectliteType.toType t) #[.agg #[.pointer (some ⟨6, 98, none⟩), .pointer (some a), .int .u64 150]]).run Tryz.prog w
    = .ok (.iface 185 (.agg #[.pointer (some ⟨6, 98, none⟩)])) w := by kernel_rfl
theorem asF.kindP (w : World) : ((ReflectliteType.abiMethod fun t => (fun a : Nat => Value.int IntKind.u8 (a : Int)) <$> Rtype.kind t) #[.pointer (some ⟨6, 98, none⟩)]).run Tryz.prog w = .ok (.int .u8 22) w := by kernel_rfl
theorem asF.kindI (w : World) : ((ReflectliteType.abiMethod fun t => (fun a : Nat => Value.int IntKind.u8 (a : Int)) <$> Rtype.kind t) #[.pointer (some ⟨6, 26, none⟩)]).run Tryz.prog w = .ok (.int .u8 2) w := by kernel_rfl
theorem asF.rlm (z : Sem Value) (f : TypeId → Addr → Nat → Nat → Sem Value) (v : Value) :
    ReflectliteValue.method z f #[v] = (do match ← ReflectliteValue.parts v with | none => z | some (t, a, fl) => f t a fl (fl % 32)) := rfl
theorem asF.partsP (a : Addr) (w : World) : (ReflectliteValue.parts (.agg #[.pointer (some ⟨6, 98, none⟩), .pointer (some a), .int .u64 150])).run Tryz.prog w = .ok (some (98, a, 150)) w := by kernel_rfl
theorem asF.isNilP (a p : Addr) (W : World) (ha : W.cell? a = some (.pointer (some p))) :
    (ReflectliteValue.method (ReflectliteValue.valueError "reflectlite.Value.IsNil" 0) ReflectliteValue.isNil #[.agg #[.pointer (some ⟨6, 98, none⟩), .pointer (some a), .int .u64 150]]).run Tryz.prog W = .ok (.bool false) W := by
  rw [asF.rlm]
  simp only [Sem.run_bind, asF.partsP, Result.andThen]
  simp [ReflectliteValue.isNil, loadVar, isAgg, underlying, Tryz.underlying98, ha, Result.andThen]
theorem asF.elemP (w : World) : (ReflectliteType.method ReflectliteType.elem #[.agg #[.pointer (some ⟨6, 98, none⟩)]]).run Tryz.prog w = .ok (.iface 185 (.agg #[.pointer (some ⟨6, 26, none⟩)])) w := by kernel_rfl
theorem asF.implI (w : World) : (ReflectliteType.relation "Implements" ReflectliteType.implements_ #[.agg #[.pointer (some ⟨6, 26, none⟩)], .iface 185 (.agg #[.pointer (some ⟨6, 94, none⟩)])]).run Tryz.prog w = .ok (.bool true) w := by kernel_rfl
theorem asF.typeOfI (v : Value) (w : World) : (ReflectliteType.typeOf #[.iface 26 v]).run Tryz.prog w = .ok (.iface 185 (.agg #[.pointer (some ⟨6, 26, none⟩)])) w := by kernel_rfl
theorem asF.typeOfU (v : Value) (w : World) : (ReflectliteType.typeOf #[.iface 132 v]).run Tryz.prog w = .ok (.iface 185 (.agg #[.pointer (some ⟨6, 132, none⟩)])) w := by kernel_rfl
theorem asF.assignI (w : World) : (ReflectliteType.relation "AssignableTo" ReflectliteType.assignableTo #[.agg #[.pointer (some ⟨6, 26, none⟩)], .iface 185 (.agg #[.pointer (some ⟨6, 26, none⟩)])]).run Tryz.prog w = .ok (.bool true) w := by kernel_rfl
theorem asF.assignU (w : World) : (ReflectliteType.relation "AssignableTo" ReflectliteType.assignableTo #[.agg #[.pointer (some ⟨6, 132, none⟩)], .iface 185 (.agg #[.pointer (some ⟨6, 26, none⟩)])]).run Tryz.prog w = .ok (.bool false) w := by kernel_rfl
theorem asF.valueOfI (k : Int) (w : World) : (ReflectliteValue.unpack (.iface 26 (.int .i64 k))).run Tryz.prog w
    = .ok (.agg #[.pointer (some ⟨6, 26, none⟩), .pointer (some ⟨w.heap.size, 0, none⟩), .int .u64 130]) (w.alloc (.cells #[.int .i64 k] 26)) := by kernel_rfl
theorem asF.elemOfP (w : World) : (Rtype.elem? 98).run Tryz.prog w = .ok (some 26) w := by kernel_rfl
theorem asF.mkI (p : Addr) (w : World) : (ReflectliteValue.mk 26 p ReflectliteValue.flagAddr).run Tryz.prog w = .ok (.agg #[.pointer (some ⟨6, 26, none⟩), .pointer (some p), .int .u64 386]) w := by kernel_rfl
theorem asF.elemV (a p : Addr) (W : World) (ha : W.cell? a = some (.pointer (some p))) :
    (ReflectliteValue.method (ReflectliteValue.valueError "reflectlite.Value.Elem" 0) ReflectliteValue.elem #[.agg #[.pointer (some ⟨6, 98, none⟩), .pointer (some a), .int .u64 150]]).run Tryz.prog W
      = .ok (.agg #[.pointer (some ⟨6, 26, none⟩), .pointer (some p), .int .u64 386]) W := by
  rw [asF.rlm]
  simp only [Sem.run_bind, asF.partsP, Result.andThen]
  simp [ReflectliteValue.elem, loadVar, isAgg, underlying, Tryz.underlying98, ha, Result.andThen, asF.elemOfP, asF.mkI]
theorem asF.rls (v x : Value) : ReflectliteValue.set #[v, x] = (do
    let (some (dst, a, fl), some (src, b, _)) := (← ReflectliteValue.parts v, ← ReflectliteValue.parts x)
      | unsupported (.noEntry "extern/(internal/reflectlite.Value).Set.zeroValue")
    if fl / ReflectliteValue.flagAddr % 2 == 0 then unsupported (.noEntry "extern/(internal/reflectlite.Value).Set.unaddressable")
    let val ← loadVar src b
    if ← Rtype.directlyAssignable dst src then storeVar dst a val
    else if ← Rtype.implements dst src then
      if (← Rtype.kind src) == 20 then
        match val with
        | .nilIface => unsupported (.noEntry "extern/reflectlite: a nil value of one interface type handed on as a value of another")
        | _ => storeVar dst a val
      else storeVar dst a (.iface src val)
    else panicString ("reflectlite.Set: value of type " ++ (← Rtype.spelt src) ++ " is not assignable to type " ++ (← Rtype.spelt dst))
    pure (.tuple #[])) := rfl
theorem asF.partsIa (a : Addr) (w : World) : (ReflectliteValue.parts (.agg #[.pointer (some ⟨6, 26, none⟩), .pointer (some a), .int .u64 386])).run Tryz.prog w = .ok (some (26, a, 386)) w := by kernel_rfl
theorem asF.partsI (a : Addr) (w : World) : (ReflectliteValue.parts (.agg #[.pointer (some ⟨6, 26, none⟩), .pointer (some a), .int .u64 130])).run Tryz.prog w = .ok (some (26, a, 130)) w := by kernel_rfl
theorem asF.directI (w : World) : (Rtype.directlyAssignable 26 26).run Tryz.prog w = .ok true w := by kernel_rfl
theorem asF.sizeI (w : World) : (sizeOf 26).run Tryz.prog w = .ok 1 w := by kernel_rfl
theorem asF.setI (ta b : Addr) (k : Int) (old : Value) (W : World) (hb : W.cell? b = some (.int .i64 k)) (ht : W.cell? ta = some old) (hf : W.frozen? ta = false) :
    (ReflectliteValue.set #[.agg #[.pointer (some ⟨6, 26, none⟩), .pointer (some ta), .int .u64 386], .agg #[.pointer (some ⟨6, 26, none⟩), .pointer (some b), .int .u64 130]]).run Tryz.prog W
      = .ok (.tuple #[]) (W.setCell ta (.int .i64 k)) := by
  rw [asF.rls]
  simp only [Sem.run_bind, asF.partsIa, asF.partsI, Result.andThen]
  simp [ReflectliteValue.flagAddr, loadVar, isAgg, underlying, Tryz.underlying26, hb, Result.andThen, asF.directI, storeVar, Value.cells, storeCells, Addr.add]
  rw [run_store Tryz.prog W ta _ _ (by rfl)]
  simp [ht, hf]
theorem asF.noAs (v : Value) (xT : TypeId) (w : World) : (Instr.typeAssert (.iface 132 v) xT 189 true).run Tryz.prog w = .ok (.tuple #[.nilIface, .bool false]) w := run_typeAssert_lacksB Tryz.underlying189 (by kernel_rfl) (by kernel_rfl) v xT w
theorem asF.unwraps (v : Value) (xT : TypeId) (w : World) : (Instr.typeAssert (.iface 132 v) xT 192 true).run Tryz.prog w = .ok (.tuple #[.iface 132 v, .bool true]) w := run_typeAssert_hasB Tryz.underlying192 (by kernel_rfl) v xT w
theorem asF.methodKind (h : Value) (w : World) : (Go.method 371 185 (.agg #[h]) "Kind").run Tryz.prog w = .ok (170, h) w := by kernel_rfl
theorem asF.methodElem (h : Value) (w : World) : (Go.method 371 185 (.agg #[h]) "Elem").run Tryz.prog w = .ok (186, .agg #[h]) w := by kernel_rfl
theorem asF.methodImplements (h : Value) (w : World) : (Go.method 371 185 (.agg #[h]) "Implements").run Tryz.prog w = .ok (187, .agg #[h]) w := by kernel_rfl
theorem asF.methodAssignableTo (h : Value) (w : World) : (Go.method 371 185 (.agg #[h]) "AssignableTo").run Tryz.prog w = .ok (184, .agg #[h]) w := by kernel_rfl
theorem asF.methodUnwrap1 (s : ByteArray) (k : Int) (w : World) : (Go.method 371 132 (.agg #[.string s, .iface 26 (.int .i64 k)]) "Unwrap").run Tryz.prog w = .ok (177, .agg #[.string s, .iface 26 (.int .i64 k)]) w := by kernel_rfl
theorem asF.methodUnwrap2 (s s2 : ByteArray) (k : Int) (w : World) : (Go.method 371 132 (.agg #[.string s, .iface 132 (.agg #[.string s2, .iface 26 (.int .i64 k)])]) "Unwrap").run Tryz.prog w = .ok (177, .agg #[.string s, .iface 132 (.agg #[.string s2, .iface 26 (.int .i64 k)])]) w := by kernel_rfl
/-- What stands while errors.As turns: the target, and the library's values of it. -/
structure As22 (w : World) (t : Addr) (old : Value) (W : World) : Prop where
  c : W.cell? ⟨w.heap.size, 0, none⟩ = some (.pointer (some t))
  ct : W.cell? t = some old
  z : W.frozen? t = false
  v0 : W.cell? ⟨w.heap.size + 1 + 1, 0, none⟩ = some (.pointer (some ⟨6, 98, none⟩))
  v1 : W.cell? ⟨w.heap.size + 1 + 1, 1, none⟩ = some (.pointer (some ⟨w.heap.size, 0, none⟩))
  v2 : W.cell? ⟨w.heap.size + 1 + 1, 2, none⟩ = some (.int .u64 150)
  b : Below w.heap.size w W
  l : w.heap.size + 2 < W.heap.size
  s : t.block < w.heap.size
theorem As22.more {w : World} {t : Addr} {old : Value} {W : World} (h : As22 w t old W) (o : Obj) : As22 w t old (W.alloc o) := by
  have hl := h.l
  have hs := h.s
  refine ⟨?_, ?_, ?_, ?_, ?_, ?_, h.b.trans ((below1 W o).mono h.b.size), by rw [size1]; omega, h.s⟩
  · rw [World.cell?_alloc_lt _ _ _ (by show w.heap.size < _; omega)]; exact h.c
  · rw [World.cell?_alloc_lt _ _ _ (by omega)]; exact h.ct
  · rw [World.frozen?_alloc_old _ _ _ (by omega)]; exact h.z
  · rw [World.cell?_alloc_lt _ _ _ (by show w.heap.size + 1 + 1 < _; omega)]; exact h.v0
  · rw [World.cell?_alloc_lt _ _ _ (by show w.heap.size + 1 + 1 < _; omega)]; exact h.v1
  · rw [World.cell?_alloc_lt _ _ _ (by show w.heap.size + 1 + 1 < _; omega)]; exact h.v2
set_option maxRecDepth 100000 in
set_option maxHeartbeats 4000000 in
theorem as22_1 (s : ByteArray) (k : Int) (t : Addr) (old : Value) (w : World) (hg : ErrT w) (ht0 : w.cell? t = some old) (hf0 : w.frozen? t = false) :
    Calls Tryz.prog 34 #[.iface 132 (.agg #[.string s, (.iface 26 (.int .i64 k))]), .iface 98 (.pointer (some t))] w fun ev w' => ev = .returned (.bool true) ∧ ∃ w1, Below w.heap.size w w1 ∧ w' = w1.setCell t (.int .i64 k) := by
  unfold ErrT at hg
  rw [handleE] at hg
  have h6 := @run_callFunc_extern Tryz.prog 75 _ (fun args => ReflectliteValue.unpack (args.getD 0 (.tuple #[]))) Tryz.func75 (by kernel_rfl) (by kernel_rfl) (by kernel_rfl) (by kernel_rfl)
  have h7 := @run_callFunc_extern Tryz.prog 76 _ (ReflectliteValue.methodAny (ReflectliteValue.valueError "reflectlite.Value.Type" 0) (fun t _ _ _ => ReflectliteType.toType t)) Tryz.func76 (by kernel_rfl) (by kernel_rfl) (by kernel_rfl) (by kernel_rfl)
  have h8 := @run_callFunc_extern Tryz.prog 77 _ (ReflectliteValue.method (ReflectliteValue.valueError "reflectlite.Value.IsNil" 0) ReflectliteValue.isNil) Tryz.func77 (by kernel_rfl) (by kernel_rfl) (by kernel_rfl) (by kernel_rfl)
  have h27 := @run_callFunc_extern Tryz.prog 170 _ (ReflectliteType.abiMethod fun t => do pure (.int .u8 (← Rtype.kind t))) Tryz.func170 (by kernel_rfl) (by kernel_rfl) (by kernel_rfl) (by kernel_rfl)
  have h37 := @run_callFunc_extern Tryz.prog 186 _ (ReflectliteType.method ReflectliteType.elem) Tryz.func186 (by kernel_rfl) (by kernel_rfl) (by kernel_rfl) (by kernel_rfl)
  have h38 := @run_callFunc_extern Tryz.prog 187 _ (ReflectliteType.relation "Implements" ReflectliteType.implements_) Tryz.func187 (by kernel_rfl) (by kernel_rfl) (by kernel_rfl) (by kernel_rfl)
  have h10 := @run_callFunc_extern Tryz.prog 116 _ ReflectliteType.typeOf Tryz.func116 (by kernel_rfl) (by kernel_rfl) (by kernel_rfl) (by kernel_rfl)
  have h35 := @run_callFunc_extern Tryz.prog 184 _ (ReflectliteType.relation "AssignableTo" ReflectliteType.assignableTo) Tryz.func184 (by kernel_rfl) (by kernel_rfl) (by kernel_rfl) (by kernel_rfl)
  have h11 := @run_callFunc_extern Tryz.prog 119 _ (ReflectliteValue.method (ReflectliteValue.valueError "reflectlite.Value.Elem" 0) ReflectliteValue.elem) Tryz.func119 (by kernel_rfl) (by kernel_rfl) (by kernel_rfl) (by kernel_rfl)
  have h12 := @run_callFunc_extern Tryz.prog 120 _ ReflectliteValue.set Tryz.func120 (by kernel_rfl) (by kernel_rfl) (by kernel_rfl) (by kernel_rfl)
  have tO := asF.typeOfI
  have tU := asF.typeOfU
  have mA := asF.methodAssignableTo
  have mU1 := asF.methodUnwrap1
  have aI := asF.assignI
  have aU := asF.assignU
  have vI := asF.valueOfI
  have f6 := asF.valueOfP
  have f7 := asF.typeP
  have mK := asF.methodKind
  have mE := asF.methodElem
  have mI := asF.methodImplements
  have kP := asF.kindP
  have kI := asF.kindI
  have eP := asF.elemP
  have iI := asF.implI
  have nA := asF.noAs
  have uW := asF.unwraps
  have n8 := asF.isNilP ⟨w.heap.size, 0, none⟩ t ((w.alloc (.cells #[.pointer (some t)] 98)).alloc (.cells #[.pointer (some ⟨6, 98, none⟩), .pointer (some ⟨w.heap.size, 0, none⟩), .int .u64 150] 142)) (by simp)
  have hlt : 1 < w.heap.size := by
    rcases Nat.lt_or_ge 1 w.heap.size with h | h
    · exact h
    · simp [World.cell?, Array.getElem?_eq_none h] at hg
  have hg2 : ((w.alloc (.cells #[.pointer (some t)] 98)).alloc (.cells #[.pointer (some ⟨6, 98, none⟩), .pointer (some ⟨w.heap.size, 0, none⟩), .int .u64 150] 142)).cell? ⟨1, 0, none⟩ = some (.iface 185 (.agg #[.pointer (some ⟨6, 94, none⟩)])) := by
    rw [World.cell?_alloc_lt _ _ ⟨1, 0, none⟩ (by simp; omega), World.cell?_alloc_lt _ _ ⟨1, 0, none⟩ hlt]; exact hg
  have htl : t.block < w.heap.size := by
    rcases Nat.lt_or_ge t.block w.heap.size with h | h
    · exact h
    · simp [World.cell?, Array.getElem?_eq_none h] at ht0
  have X3 : As22 w t old (((w.alloc (.cells #[.pointer (some t)] 98)).alloc (.cells #[.pointer (some ⟨6, 98, none⟩), .pointer (some ⟨w.heap.size, 0, none⟩), .int .u64 150] 142)).alloc (.cells #[.pointer (some ⟨6, 98, none⟩), .pointer (some ⟨w.heap.size, 0, none⟩), .int .u64 150] 142)) := by
    refine ⟨?_, ?_, ?_, ?_, ?_, ?_, below3 w _ _ _, by simp, htl⟩
    · rw [World.cell?_alloc_lt _ _ ⟨w.heap.size, 0, none⟩ (by simp; omega), World.cell?_alloc_lt _ _ ⟨w.heap.size, 0, none⟩ (by simp)]
      simp
    · rw [World.cell?_alloc_lt _ _ t (by simp; omega), World.cell?_alloc_lt _ _ t (by simp; omega), World.cell?_alloc_lt _ _ t htl]; exact ht0
    · rw [World.frozen?_alloc_old _ _ t (by simp; omega), World.frozen?_alloc_old _ _ t (by simp; omega), World.frozen?_alloc_old _ _ t (Nat.ne_of_lt htl)]; exact hf0
    · rw [World.cell?_alloc_at _ _ _ _ (by simp)]; rfl
    · rw [World.cell?_alloc_at _ _ _ _ (by simp)]; rfl
    · rw [World.cell?_alloc_at _ _ _ _ (by simp)]; rfl
  go_enter Tryz.func34, Tryz.ntmps34
  go_wp2
  refine wp_loop_rounds 2 ?_
  obtain ⟨W3, hW3⟩ : ∃ W3, (((w.alloc (.cells #[.pointer (some t)] 98)).alloc (.cells #[.pointer (some ⟨6, 98, none⟩), .pointer (some ⟨w.heap.size, 0, none⟩), .int .u64 150] 142)).alloc (.cells #[.pointer (some ⟨6, 98, none⟩), .pointer (some ⟨w.heap.size, 0, none⟩), .int .u64 150] 142)) = W3 := ⟨_, rfl⟩
  rw [hW3] at X3
  try rw [hW3]
  clear hW3 n8 hg2 hg hlt htl ht0 hf0 f6 f7 kP eP
  have X4 := X3.more (.cells #[.string s, (.iface 26 (.int .i64 k))] 132)
  clear X3
  rw [rounds_succ]
  go_wp2
  obtain ⟨W4, hW4⟩ : ∃ W4, W3.alloc (.cells #[.string s, (.iface 26 (.int .i64 k))] 132) = W4 := ⟨_, rfl⟩
  rw [hW4] at X4
  rw [hW4]
  clear hW4
  clear nA uW mU1 tU aU
  obtain ⟨c4, t4, z4, v40, v41, v42, b4, l4, htl⟩ := X4
  have s4 : t.block < W4.heap.size := Nat.lt_of_lt_of_le htl b4.size
  have el := asF.elemV ⟨w.heap.size, 0, none⟩ t W4 c4
  have st := asF.setI t ⟨W4.heap.size, 0, none⟩ k old (W4.alloc (.cells #[.int .i64 k] 26)) (by rw [World.cell?_alloc_at _ _ _ _ (by simp)]; rfl) (by rw [World.cell?_alloc_lt _ _ t s4]; exact t4) (by rw [World.frozen?_alloc_old _ _ t (Nat.ne_of_lt s4)]; exact z4)
  have b5 := Lib.hid (b4.trans ((below1 W4 (.cells #[.int .i64 k] 26)).mono b4.size))
  clear b4 s4 t4 z4 c4 l4 htl
  rw [rounds_succ]
  go_wp2
  clear tO mA mK mE mI aI vI kI iI h6 h7 h8 h27 h37 h38 h10 h35 h11 h12 el
  go_ret
  exact ⟨rfl, _, b5.out, rfl⟩
set_option maxRecDepth 100000 in
set_option maxHeartbeats 4000000 in
theorem as22_2 (s s2 : ByteArray) (k : Int) (t : Addr) (old : Value) (w : World) (hg : ErrT w) (ht0 : w.cell? t = some old) (hf0 : w.frozen? t = false) :
    Calls Tryz.prog 34 #[.iface 132 (.agg #[.string s, (.iface 132 (.agg #[.string s2, .iface 26 (.int .i64 k)]))]), .iface 98 (.pointer (some t))] w fun ev w' => ev = .returned (.bool true) ∧ ∃ w1, Below w.heap.size w w1 ∧ w' = w1.setCell t (.int .i64 k) := by
  unfold ErrT at hg
  rw [handleE] at hg
  have h6 := @run_callFunc_extern Tryz.prog 75 _ (fun args => ReflectliteValue.unpack (args.getD 0 (.tuple #[]))) Tryz.func75 (by kernel_rfl) (by kernel_rfl) (by kernel_rfl) (by kernel_rfl)
  have h7 := @run_callFunc_extern Tryz.prog 76 _ (ReflectliteValue.methodAny (ReflectliteValue.valueError "reflectlite.Value.Type" 0) (fun t _ _ _ => ReflectliteType.toType t)) Tryz.func76 (by kernel_rfl) (by kernel_rfl) (by kernel_rfl) (by kernel_rfl)
  have h8 := @run_callFunc_extern Tryz.prog 77 _ (ReflectliteValue.method (ReflectliteValue.valueError "reflectlite.Value.IsNil" 0) ReflectliteValue.isNil) Tryz.func77 (by kernel_rfl) (by kernel_rfl) (by kernel_rfl) (by kernel_rfl)
  have h27 := @run_callFunc_extern Tryz.prog 170 _ (ReflectliteType.abiMethod fun t => do pure (.int .u8 (← Rtype.kind t))) Tryz.func170 (by kernel_rfl) (by kernel_rfl) (by kernel_rfl) (by kernel_rfl)
  have h37 := @run_callFunc_extern Tryz.prog 186 _ (ReflectliteType.method ReflectliteType.elem) Tryz.func186 (by kernel_rfl) (by kernel_rfl) (by kernel_rfl) (by kernel_rfl)
  have h38 := @run_callFunc_extern Tryz.prog 187 _ (ReflectliteType.relation "Implements" ReflectliteType.implements_) Tryz.func187 (by kernel_rfl) (by kernel_rfl) (by kernel_rfl) (by kernel_rfl)
  have h10 := @run_callFunc_extern Tryz.prog 116 _ ReflectliteType.typeOf Tryz.func116 (by kernel_rfl) (by kernel_rfl) (by kernel_rfl) (by kernel_rfl)
  have h35 := @run_callFunc_extern Tryz.prog 184 _ (ReflectliteType.relation "AssignableTo" ReflectliteType.assignableTo) Tryz.func184 (by kernel_rfl) (by kernel_rfl) (by kernel_rfl) (by kernel_rfl)
  have h11 := @run_callFunc_extern Tryz.prog 119 _ (ReflectliteValue.method (ReflectliteValue.valueError "reflectlite.Value.Elem" 0) ReflectliteValue.elem) Tryz.func119 (by kernel_rfl) (by kernel_rfl) (by kernel_rfl) (by kernel_rfl)
  have h12 := @run_callFunc_extern Tryz.prog 120 _ ReflectliteValue.set Tryz.func120 (by kernel_rfl) (by kernel_rfl) (by kernel_rfl) (by kernel_rfl)
  have tO := asF.typeOfI
  have tU := asF.typeOfU
  have mA := asF.methodAssignableTo
  have mU1 := asF.methodUnwrap1
  have mU2 := asF.methodUnwrap2
  have aI := asF.assignI
  have aU := asF.assignU
  have vI := asF.valueOfI
  have f6 := asF.valueOfP
  have f7 := asF.typeP
  have mK := asF.methodKind
  have mE := asF.methodElem
  have mI := asF.methodImplements
  have kP := asF.kindP
  have kI := asF.kindI
  have eP := asF.elemP
  have iI := asF.implI
  have nA := asF.noAs
  have uW := asF.unwraps
  have n8 := asF.isNilP ⟨w.heap.size, 0, none⟩ t ((w.alloc (.cells #[.pointer (some t)] 98)).alloc (.cells #[.pointer (some ⟨6, 98, none⟩), .pointer (some ⟨w.heap.size, 0, none⟩), .int .u64 150] 142)) (by simp)
  have hlt : 1 < w.heap.size := by
    rcases Nat.lt_or_ge 1 w.heap.size with h | h
    · exact h
    · simp [World.cell?, Array.getElem?_eq_none h] at hg
  have hg2 : ((w.alloc (.cells #[.pointer (some t)] 98)).alloc (.cells #[.pointer (some ⟨6, 98, none⟩), .pointer (some ⟨w.heap.size, 0, none⟩), .int .u64 150] 142)).cell? ⟨1, 0, none⟩ = some (.iface 185 (.agg #[.pointer (some ⟨6, 94, none⟩)])) := by
    rw [World.cell?_alloc_lt _ _ ⟨1, 0, none⟩ (by simp; omega), World.cell?_alloc_lt _ _ ⟨1, 0, none⟩ hlt]; exact hg
  have htl : t.block < w.heap.size := by
    rcases Nat.lt_or_ge t.block w.heap.size with h | h
    · exact h
    · simp [World.cell?, Array.getElem?_eq_none h] at ht0
  have X3 : As22 w t old (((w.alloc (.cells #[.pointer (some t)] 98)).alloc (.cells #[.pointer (some ⟨6, 98, none⟩), .pointer (some ⟨w.heap.size, 0, none⟩), .int .u64 150] 142)).alloc (.cells #[.pointer (some ⟨6, 98, none⟩), .pointer (some ⟨w.heap.size, 0, none⟩), .int .u64 150] 142)) := by
    refine ⟨?_, ?_, ?_, ?_, ?_, ?_, below3 w _ _ _, by simp, htl⟩
    · rw [World.cell?_alloc_lt _ _ ⟨w.heap.size, 0, none⟩ (by simp; omega), World.cell?_alloc_lt _ _ ⟨w.heap.size, 0, none⟩ (by simp)]
      simp
    · rw [World.cell?_alloc_lt _ _ t (by simp; omega), World.cell?_alloc_lt _ _ t (by simp; omega), World.cell?_alloc_lt _ _ t htl]; exact ht0
    · rw [World.frozen?_alloc_old _ _ t (by simp; omega), World.frozen?_alloc_old _ _ t (by simp; omega), World.frozen?_alloc_old _ _ t (Nat.ne_of_lt htl)]; exact hf0
    · rw [World.cell?_alloc_at _ _ _ _ (by simp)]; rfl
    · rw [World.cell?_alloc_at _ _ _ _ (by simp)]; rfl
    · rw [World.cell?_alloc_at _ _ _ _ (by simp)]; rfl
  go_enter Tryz.func34, Tryz.ntmps34
  go_wp2
  refine wp_loop_rounds 3 ?_
  obtain ⟨W3, hW3⟩ : ∃ W3, (((w.alloc (.cells #[.pointer (some t)] 98)).alloc (.cells #[.pointer (some ⟨6, 98, none⟩), .pointer (some ⟨w.heap.size, 0, none⟩), .int .u64 150] 142)).alloc (.cells #[.pointer (some ⟨6, 98, none⟩), .pointer (some ⟨w.heap.size, 0, none⟩), .int .u64 150] 142)) = W3 := ⟨_, rfl⟩
  rw [hW3] at X3
  try rw [hW3]
  clear hW3 n8 hg2 hg hlt htl ht0 hf0 f6 f7 kP eP
  have X4 := X3.more (.cells #[.string s, (.iface 132 (.agg #[.string s2, .iface 26 (.int .i64 k)]))] 132)
  clear X3
  rw [rounds_succ]
  go_wp2
  obtain ⟨W4, hW4⟩ : ∃ W4, W3.alloc (.cells #[.string s, (.iface 132 (.agg #[.string s2, .iface 26 (.int .i64 k)]))] 132) = W4 := ⟨_, rfl⟩
  rw [hW4] at X4
  rw [hW4]
  clear hW4
  have X5 := X4.more (.cells #[.string s2, (.iface 26 (.int .i64 k))] 132)
  clear X4
  rw [rounds_succ]
  go_wp2
  obtain ⟨W5, hW5⟩ : ∃ W5, W4.alloc (.cells #[.string s2, (.iface 26 (.int .i64 k))] 132) = W5 := ⟨_, rfl⟩
  rw [hW5] at X5
  rw [hW5]
  clear hW5
  clear nA uW mU1 mU2 tU aU
  obtain ⟨c4, t4, z4, v40, v41, v42, b4, l4, htl⟩ := X5
  have s4 : t.block < W5.heap.size := Nat.lt_of_lt_of_le htl b4.size
  have el := asF.elemV ⟨w.heap.size, 0, none⟩ t W5 c4
  have st := asF.setI t ⟨W5.heap.size, 0, none⟩ k old (W5.alloc (.cells #[.int .i64 k] 26)) (by rw [World.cell?_alloc_at _ _ _ _ (by simp)]; rfl) (by rw [World.cell?_alloc_lt _ _ t s4]; exact t4) (by rw [World.frozen?_alloc_old _ _ t (Nat.ne_of_lt s4)]; exact z4)
  have b5 := Lib.hid (b4.trans ((below1 W5 (.cells #[.int .i64 k] 26)).mono b4.size))
  clear b4 s4 t4 z4 c4 l4 htl
  rw [rounds_succ]
  go_wp2
  clear tO mA mK mE mI aI vI kI iI h6 h7 h8 h27 h37 h38 h10 h35 h11 h12 el
  go_ret
  exact ⟨rfl, _, b5.out, rfl⟩
end Go.Proofs.YtinmmhbiomcdoaaGreatDoor

/-
  errors.Is, by Go's own text, of package vault's faults at a pointer that errors.New told: whether the fault wraps just that pointer. New memory alone is written. No conditions.
-/
namespace Go.Proofs.YtinmmhbiomcdoaaGreatDoor
open Go.RowKit Go.Extern.Stop Go.Stop Go.Extern

theorem isV.typeOf (v : Value) (w : World) : (ReflectliteType.typeOf #[.iface 239 v]).run Tryz.prog w = .ok (.iface 185 (.agg #[.pointer (some ⟨6, 239, none⟩)])) w := by kernel_rfl
theorem isV.comparable (w : World) : (ReflectliteType.method (fun t => do Rtype.noPackHeld "Comparable" t; (fun a : TypeInfo => Value.bool a.comparable) <$> typeInfo t) #[.agg #[.pointer (some ⟨6, 239, none⟩)]]).run Tryz.prog w = .ok (.bool true) w := by kernel_rfl
theorem isV.methodC (h : Value) (w : World) : (Go.method 371 185 (.agg #[h]) "Comparable").run Tryz.prog w = .ok (185, .agg #[h]) w := by kernel_rfl
theorem isV.methodU (s : ByteArray) (T : TypeId) (v : Value) (w : World) : (Go.method 371 132 (.agg #[.string s, .iface T v]) "Unwrap").run Tryz.prog w = .ok (177, .agg #[.string s, .iface T v]) w := by kernel_rfl
theorem isV.comp : (Tryz.prog.info? 239).map (·.comparable) = some true := by kernel_rfl
theorem isV.size : (Tryz.prog.info? 259).map (·.size) = some 1 := by kernel_rfl
theorem isV.eqP (p : Addr) (w : World) : Sem.run Tryz.prog (binOp BinOp.eql 94 (.iface 239 (.pointer (some p))) (.iface 239 (.pointer (some p)))) w = .ok (.bool true) w := by
  obtain ⟨i, hi, hcmp⟩ := Option.map_eq_some_iff.1 isV.comp
  obtain ⟨j, hj, _⟩ := Option.map_eq_some_iff.1 isV.size
  exact run_eql_iface_ptr_same w p Tryz.underlying94 Tryz.underlying239 hi hcmp hj
theorem isV.eqE (p : Addr) (k : Int) (w : World) : Sem.run Tryz.prog (binOp BinOp.eql 94 (.iface 26 (.int .i64 k)) (.iface 239 (.pointer (some p)))) w = .ok (.bool false) w := by kernel_rfl
theorem isV.eqF (s : ByteArray) (e : Value) (p : Addr) (w : World) : Sem.run Tryz.prog (binOp BinOp.eql 94 (.iface 132 (.agg #[.string s, e])) (.iface 239 (.pointer (some p)))) w = .ok (.bool false) w := by kernel_rfl
theorem isV.noIsF (v : Value) (xT : TypeId) (w : World) : (Instr.typeAssert (.iface 132 v) xT 215 true).run Tryz.prog w = .ok (.tuple #[.nilIface, .bool false]) w := run_typeAssert_lacksB Tryz.underlying215 (by kernel_rfl) (by kernel_rfl) v xT w
theorem isV.noIsE (v : Value) (xT : TypeId) (w : World) : (Instr.typeAssert (.iface 26 v) xT 215 true).run Tryz.prog w = .ok (.tuple #[.nilIface, .bool false]) w := run_typeAssert_lacksB Tryz.underlying215 (by kernel_rfl) (by kernel_rfl) v xT w
theorem isV.unF (v : Value) (xT : TypeId) (w : World) : (Instr.typeAssert (.iface 132 v) xT 192 true).run Tryz.prog w = .ok (.tuple #[.iface 132 v, .bool true]) w := run_typeAssert_hasB Tryz.underlying192 (by kernel_rfl) v xT w
theorem isV.noUnE (v : Value) (xT : TypeId) (w : World) : (Instr.typeAssert (.iface 26 v) xT 192 true).run Tryz.prog w = .ok (.tuple #[.nilIface, .bool false]) w := run_typeAssert_lacksB Tryz.underlying192 (by kernel_rfl) (by kernel_rfl) v xT w
theorem isV.noUnsE (v : Value) (xT : TypeId) (w : World) : (Instr.typeAssert (.iface 26 v) xT 193 true).run Tryz.prog w = .ok (.tuple #[.nilIface, .bool false]) w := run_typeAssert_lacksB Tryz.underlying193 (by kernel_rfl) (by kernel_rfl) v xT w

set_option maxRecDepth 100000 in
set_option maxHeartbeats 2000000 in
theorem is22_over (s : ByteArray) (p : Addr) (w : World) :
    Calls Tryz.prog 73 #[.iface 132 (.agg #[.string s, .iface 239 (.pointer (some p))]), .iface 239 (.pointer (some p))] w fun e w' => e = .returned (.bool true) ∧ Below w.heap.size w w' := by
  have h1 := @run_callFunc_extern Tryz.prog 116 _ ReflectliteType.typeOf Tryz.func116 (by kernel_rfl) (by kernel_rfl) (by kernel_rfl) (by kernel_rfl)
  have h2 := @run_callFunc_extern Tryz.prog 185 _ (ReflectliteType.method (fun t => do Rtype.noPackHeld "Comparable" t; pure (.bool (← typeInfo t).comparable))) Tryz.func185 (by kernel_rfl) (by kernel_rfl) (by kernel_rfl) (by kernel_rfl)
  have tO := isV.typeOf
  have tC := isV.comparable
  have mC := isV.methodC
  have mU := isV.methodU
  have qP := isV.eqP
  have qF := isV.eqF
  have nF := isV.noIsF
  have uF := isV.unF
  have hb := below1 w (.cells #[.string s, .iface 239 (.pointer (some p))] 132)
  go_enter Tryz.func73, Tryz.ntmps73
  go_wp2
  refine wp_loop_rounds 2 ?_
  rw [rounds_succ]
  go_wp2
  rw [rounds_succ]
  go_wp2
  go_ret
  exact ⟨rfl, hb⟩

set_option maxRecDepth 100000 in
set_option maxHeartbeats 2000000 in
theorem is22_form (s : ByteArray) (k : Int) (p : Addr) (w : World) :
    Calls Tryz.prog 73 #[.iface 132 (.agg #[.string s, .iface 26 (.int .i64 k)]), .iface 239 (.pointer (some p))] w fun e w' => e = .returned (.bool false) ∧ Below w.heap.size w w' := by
  have h1 := @run_callFunc_extern Tryz.prog 116 _ ReflectliteType.typeOf Tryz.func116 (by kernel_rfl) (by kernel_rfl) (by kernel_rfl) (by kernel_rfl)
  have h2 := @run_callFunc_extern Tryz.prog 185 _ (ReflectliteType.method (fun t => do Rtype.noPackHeld "Comparable" t; pure (.bool (← typeInfo t).comparable))) Tryz.func185 (by kernel_rfl) (by kernel_rfl) (by kernel_rfl) (by kernel_rfl)
  have tO := isV.typeOf
  have tC := isV.comparable
  have mC := isV.methodC
  have mU := isV.methodU
  have qE := isV.eqE
  have qF := isV.eqF
  have nF := isV.noIsF
  have nE := isV.noIsE
  have uF := isV.unF
  have vE := isV.noUnE
  have xE := isV.noUnsE
  have hb := below1 w (.cells #[.string s, .iface 26 (.int .i64 k)] 132)
  go_enter Tryz.func73, Tryz.ntmps73
  go_wp2
  refine wp_loop_rounds 2 ?_
  rw [rounds_succ]
  go_wp2
  rw [rounds_succ]
  go_wp2
  go_ret
  exact ⟨rfl, hb⟩
end Go.Proofs.YtinmmhbiomcdoaaGreatDoor
