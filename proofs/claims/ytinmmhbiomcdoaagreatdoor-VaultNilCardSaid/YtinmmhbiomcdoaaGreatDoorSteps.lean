/-
  append of numbers, and a store into a known block, as single operations (for a region that draws its order). No Go function is spoken of here.
-/
import Derived.Test.YtinmmhbiomcdoaaGreatDoorSeqS
import Derived.Test.YtinmmhbiomcdoaaGreatDoorAppends
namespace Go.Proofs.YtinmmhbiomcdoaaGreatDoor
open Go.RowKit
section
variable {P : Program} {w : World}
theorem wp_append_ints {o : Oper} {a : Act} {K : Act → World → Prop} {Q : Exit → Act → World → Prop} (s x : Operand) (t : TypeId)
    (ho : o.op = .call { callee := .builtin .append, args := #[s, x], argTypes := #[t, t] })
    (base : Nat) (e : TypeId) (i : TypeInfo) (z : Value) (bytes : Nat) (ht : P.underlying t = some (.slice e)) (hi : P.info? e = some i) (hz : i.zero = some z)
    (hsize : i.size = 1) (hby : i.bytes = bytes) (hzs : z.cells.size = 1)
    {v : Value} {n : Nat} {xs : List Value} (hs : a.eval s = v) (hown : w.ownsRow base e 1 v n xs)
    {k : IntKind} {A : Option Addr} {m c : Nat} {ys : List Int} (hx : a.eval x = .slice A m c) (hy : Ints k w A m c ys)
    (h63 : n + m ≤ maxLen) (hbytes : (n + m) * bytes ≤ 140737488355328) (hbase : base ≤ w.heap.size)
    (h : ∀ v' w', w'.ownsRow base e 1 v' (n + m) (xs ++ ys.map (Value.int k)) → w.grownBy w' v.ownBlock → K (a.put o.dst v') w') : o.wp P a w K Q := by
  have hl := hy.len
  cases A with
  | none =>
    have hm : m = 0 := by
      rcases hy.2.2 with h0 | ⟨b, off, ha, _⟩
      · exact h0
      · cases ha
    subst hm
    obtain rfl : ys = [] := List.length_eq_zero_iff.1 hl
    have hrun := run_append_nothing (P := P) base t o.type e i 1 ht hi v n xs hown c
    unfold Oper.wp
    simp [execOp, ho, resolve, invoke, builtin, hs, hx, hrun, Result.andThen]
    exact h v w (by simpa using hown) (grown_refl _ _)
  | some ad =>
    refine wp_append_own w s x t ho base e i z 1 bytes ht hi hz hsize hby hzs (by decide) v n xs hs hown ad m c (ys.map (Value.int k)) hx (by simp [hl]) ?_ (ints_oneCell' _ _) h63 hbytes hbase (fun v' w' h1 h2 _ => h v' w' h1 h2)
    intro j u hu
    have hj : j < m := by have := (List.getElem?_eq_some_iff.1 hu).1; simpa [hl] using this
    obtain ⟨ad', hA, hc⟩ := hy.src m (Nat.le_refl _) (by omega)
    injection hA with hA
    subst hA
    rw [List.take_of_length_le (by omega)] at hc
    exact hc j u hu
theorem wp_store_part {o : Oper} {a : Act} {K : Act → World → Prop} {Q : Exit → Act → World → Prop} (ty : TypeId) (x y : Operand) (ho : o.op = .store ty x y)
    {g off : Nat} {t : TypeId} {cur cs : List Value} (hx : a.eval x = .pointer (some ⟨g, off, none⟩)) (hy : a.eval y = .agg cs.toArray) (hg : Blk w g t cur) (hr : IsRow P ty cs.length) (hf : off + cs.length ≤ cur.length) (h1 : ∀ v ∈ cs, v.oneCell' = true)
    (h : ∀ w', Blk w' g t (overV cur off cs) → w.grownBy w' (some g) → K (a.put o.dst undef) w') : o.wp P a w K Q := by
  obtain ⟨⟨d, hu, hd⟩, hi⟩ := hr
  refine wp_store_mid ty x y ho g off cs.toArray hx hy (hg.there off _ (by simpa using hf)) (by simpa using hi) (all_oneCell_toArray h1) ?_
  exact h _ (hg.setCells cs off hf) (grown_setCells _ _ _ _)
/-- A variable that is an array, sliced whole. -/
theorem wpList_arr {ops : Array Oper} {rest : List Oper} {o : Oper} {a : Act} {Q : Exit → Act → World → Prop} (hgd : o.guard = none) (ty e : TypeId) (n : Nat) (x : Operand) (ho : o.op = .slice ty x none none none)
    (hu : P.underlying ty = some (.array n e)) (hs : (P.info? e).map (·.size) = some 1) {g : Nat} (hx : a.eval x = .pointer (some ⟨g, 0, none⟩))
    (h : wpList P ops Q rest (a.put o.dst (.slice (some ⟨g, 0, none⟩) n n)) w) : wpList P ops Q (o :: rest) a w := by
  refine wpList_plain hgd fun K hK => ?_
  have hn : P.arrayLen ty = n := by simp [Program.arrayLen, hu]
  have he : P.elem ty = e := by simp [Program.elem, hu]
  have hrun := run_sliceAt_array_all w ty ⟨g, 0, none⟩ (by rw [hn, he]; exact hu)
  have hsz : (sizeOf e).run P w = .ok 1 w := by
    cases hq : P.info? e with
    | none => simp [hq] at hs
    | some i => simp [sizeOf, typeInfo, hq, (by simpa [hq] using hs : i.size = 1)]
  rw [hn, he, hsz] at hrun
  unfold Oper.wp
  simp only [execOp, ho, hx, Option.map_none, Sem.run_bind, hrun, Result.andThen_ok, Sem.run_pure, Oper.upon]
  refine hK _ _ ?_
  have e1 : slicedAt ⟨g, 0, none⟩ 0 n n 1 = .slice (some ⟨g, 0, none⟩) n n := by
    unfold slicedAt
    have : (⟨g, 0, none⟩ : Addr).add (0 * 1) = ⟨g, 0, none⟩ := by simp [Addr.add_mid]
    rw [this]; simp
  rw [e1]; exact h
/-- A copy into a known block, where the walk stands at its run. -/
theorem upon_copy {o : Oper} {a : Act} {K : Act → World → Prop} {Q : Exit → Act → World → Prop} (dT sT ty : TypeId) (elem : TypeId) (hu : P.underlying dT = some (.slice elem)) (hsz : (P.info? elem).map (·.size) = some 1)
    {dp sp : Option Addr} {dLen dCap sLen sCap : Nat} {g off : Nat} {cur : List Value} {t : TypeId} (hg : Blk w g t cur) {cs : List Value} (hf : CopyFits w dp sp sLen dLen g off cur.length cs) (n : Nat) (hn : cs.length = n)
    (h : ∀ w', Blk w' g t (overV cur off cs) → w.grownBy w' (some g) → K (a.put o.dst (.int .i64 n)) w') :
    Oper.upon P o a K Q ((Sem.run P (Builtin.copy_ #[dT, sT] ty #[.slice dp dLen dCap, .slice sp sLen sCap]) w).andThen fun v w' => .ok (.value v) w') := by
  subst hn
  by_cases h0 : cs.length = 0
  · obtain rfl : cs = [] := List.eq_nil_of_length_eq_zero h0
    have hrun := run_copy_none (P := P) w dT sT ty elem dp sp dLen dCap sLen sCap hu hsz (by simpa using hf.n.symm)
    simp only [hrun, Result.andThen_ok, Oper.upon]
    exact h w (hg.cast (by simp [overV])) (grown_refl _ _)
  · obtain ⟨rfl, ad, rfl, hsrc⟩ := hf.pos (by omega)
    have hrun := run_copy_row (P := P) w dT sT ty elem g off dLen dCap ad sLen sCap cur.toArray t cs hu hsz hg hf.n hsrc (by simpa using hf.fit) hf.one
    simp only [hrun, Result.andThen_ok, Oper.upon]
    exact h _ (show _ = _ by simpa [overV] using setRow_heap w g _ _ t _ hg) (grown_setRow _ _ _)
/-- append of numbers, where the walk stands at its run. -/
theorem upon_append_ints {o : Oper} {a : Act} {K : Act → World → Prop} {Q : Exit → Act → World → Prop} (t ty : TypeId)
    (base : Nat) (e : TypeId) (i : TypeInfo) (z : Value) (bytes : Nat) (ht : P.underlying t = some (.slice e)) (hi : P.info? e = some i) (hz : i.zero = some z)
    (hsize : i.size = 1) (hby : i.bytes = bytes) (hzs : z.cells.size = 1)
    {v : Value} {n : Nat} {xs : List Value} (hown : w.ownsRow base e 1 v n xs)
    {k : IntKind} {A : Option Addr} {m c : Nat} {ys : List Int} (hy : Ints k w A m c ys)
    (h63 : n + m ≤ maxLen) (hbytes : (n + m) * bytes ≤ 140737488355328) (hbase : base ≤ w.heap.size)
    (h : ∀ v' w', w'.ownsRow base e 1 v' (n + m) (xs ++ ys.map (Value.int k)) → w.grownBy w' v.ownBlock → K (a.put o.dst v') w') :
    Oper.upon P o a K Q ((Sem.run P (Builtin.append_ #[t, t] ty #[v, .slice A m c]) w).andThen fun u w' => .ok (.value u) w') := by
  have hl := hy.len
  cases A with
  | none =>
    have hm : m = 0 := by
      rcases hy.2.2 with h0 | ⟨b, off, ha, _⟩
      · exact h0
      · cases ha
    subst hm
    obtain rfl : ys = [] := List.length_eq_zero_iff.1 hl
    have hrun := run_append_nothing (P := P) base t ty e i 1 ht hi v n xs hown c
    simp only [hrun, Result.andThen_ok, Oper.upon]
    exact h v w (by simpa using hown) (grown_refl _ _)
  | some ad =>
    obtain ⟨v', w', hr, h2, h3, _⟩ := run_append_own (P := P) w base t ty e i z 1 bytes ht hi hz hsize hby hzs (by decide) v n xs hown ad m c (ys.map (Value.int k)) (by simp [hl]) (by
      intro j u hu
      have hj : j < m := by have := (List.getElem?_eq_some_iff.1 hu).1; simpa [hl] using this
      obtain ⟨ad', hA, hc⟩ := hy.src m (Nat.le_refl _) (by omega)
      injection hA with hA
      subst hA
      rw [List.take_of_length_le (by omega)] at hc
      exact hc j u hu) (ints_oneCell' _ _) h63 hbytes hbase
    simp only [hr, Result.andThen_ok, Oper.upon]
    exact h v' w' h2 h3
/-- A slice literal without elements. -/
theorem wpList_build0 {ops : Array Oper} {rest : List Oper} {o : Oper} {a : Act} {Q : Exit → Act → World → Prop} (hgd : o.guard = none) (t e : TypeId) (ho : o.op = .buildSlice t 0 #[])
    {i : TypeInfo} (hu : P.underlying t = some (.slice e)) (hi : P.info? e = some i)
    (h : wpList P ops Q rest (a.put o.dst (.slice (some ⟨w.heap.size, 0, none⟩) 0 0)) (w.alloc (.cells #[] e))) : wpList P ops Q (o :: rest) a w := by
  refine wpList_plain hgd fun K hK => ?_
  have hrun : (Instr.buildSlice t 0 #[]).run P w = .ok (.slice (some ⟨w.heap.size, 0, none⟩) 0 0) (w.alloc (.cells #[] e)) := by
    simp [Instr.buildSlice, run_underlying hu, sizeOf, typeInfo, hi, newRow, Instr.fill]
    have e0 : Array.range 0 = #[] := rfl
    rw [e0, Array.map_empty]
  unfold Oper.wp execOp
  simp only [ho, List.map_toArray, List.map_nil, Sem.run_bind, hrun, Result.andThen_ok]
  exact hK _ _ h
/-- A load of all cells of a block that stays what it is. -/
theorem yields_blk {ops : Array Oper} {S : World → Prop} {o : Oper} {a : Act} (hw : Region.wanted o (yielded ops a.tmps) = true) (ty : TypeId) (x : Operand) (ho : o.op = .load ty x)
    {g : Nat} (hx : a.eval x = .pointer (some ⟨g, 0, none⟩)) {t : TypeId} {cs : List Value} (hS : ∀ w, S w → Blk w g t cs) (hr : IsRow P ty cs.length) : YieldsIf P ops S o (.agg cs.toArray) a := by
  obtain ⟨⟨d, hu, hd⟩, hi⟩ := hr
  exact yieldsIf_load_mid hw ty x ho g 0 hx cs d (fun w h => (hS w h).range 0 cs (fun j v hj => by simpa using hj)) hu hd hi
theorem wpList_mv {ops : Array Oper} {rest : List Oper} {o : Oper} {a : Act} {Q : Exit → Act → World → Prop} (hgd : o.guard = none) (x : Operand) (ho : o.op = .move x) {v : Value} (hx : a.eval x = v)
    (h : wpList P ops Q rest (a.put o.dst v) w) : wpList P ops Q (o :: rest) a w := by
  subst hx
  refine wpList_plain hgd fun K hK => ?_
  unfold Oper.wp
  simp only [execOp, ho, Sem.run_pure, Oper.upon]
  exact hK _ _ h
end
end Go.Proofs.YtinmmhbiomcdoaaGreatDoor
