/-
  Texts of stages that were proved on their own, joined: Clone, AppendTx. Each begins with its own words.
-/
import Derived.Test.YtinmmhbiomcdoaaGreatDoorProg
import Derived.Test.YtinmmhbiomcdoaaGreatDoorBlocks2
import Derived.Test.YtinmmhbiomcdoaaGreatDoorJVaLawN1
import Derived.Test.YtinmmhbiomcdoaaGreatDoorAppendAt
import Derived.RegionTactic
import Derived.ChangeAlike
import Derived.Deep.QuietTactic
import Derived.BigQuiet

/-
  A row of the call's own stays where its block stays; bytes.Clone. New memory alone is written. Conditions: at most 2^32 bytes. (Cut out of the texts of layers 9 and 10.)
-/
namespace Go.Proofs.YtinmmhbiomcdoaaGreatDoor
open Go.RowKit

theorem info_u8b : ∃ i, Tryz.prog.info? 5 = some i ∧ i.zero = some (.int .u8 0) ∧ i.size = 1 ∧ i.bytes = 1 := by
  have h : (Tryz.prog.info? 5).map (fun i => (i.zero, i.size, i.bytes)) = some (some (.int .u8 0), 1, 1) := by kernel_rfl
  cases hq : Tryz.prog.info? 5 with
  | none => simp [hq] at h
  | some i => rw [hq] at h; simp at h; exact ⟨i, rfl, h.1, h.2.1, h.2.2⟩

theorem own_same {w w' : World} {B : Nat} {e : TypeId} {v : Value} {n : Nat} {vs : List Value} (h : w.ownsRow B e 1 v n vs) (hk : ∀ b, v.ownBlock = some b → w'.heap[b]? = w.heap[b]?) : w'.ownsRow B e 1 v n vs := by
  refine ⟨h.1, ?_⟩
  rcases h.2 with h0 | ⟨g, cap, cur, hv, hb, hg, hr⟩
  · exact .inl h0
  · exact .inr ⟨g, cap, cur, hv, hb, (hk g (by rw [hv]; rfl)).trans hg, hr⟩
theorem slice_block {a : Option Addr} {n c b : Nat} (h : (Value.slice a n c).ownBlock = some b) : ∃ x, a = some x ∧ x.block = b := by
  cases a with
  | none => cases h
  | some x => exact ⟨x, rfl, by injection h⟩

theorem pNone (cap : Nat) (w : World) : Sem.run Tryz.prog (binOp BinOp.eql 34 (.slice none 0 cap) (.slice none 0 0)) w = .ok (.bool true) w := by kernel_rfl
theorem pSome (x : Addr) (n cap : Nat) (w : World) : Sem.run Tryz.prog (binOp BinOp.eql 34 (.slice (some x) n cap) (.slice none 0 0)) w = .ok (.bool false) w := by kernel_rfl

set_option maxRecDepth 100000 in
set_option maxHeartbeats 800000 in
theorem pClone_any (a : Option Addr) (n cap : Nat) (xs : List Int) (w : World) (hI : Ints .u8 w a n cap xs) (hn : n ≤ 4294967296) :
    Calls Tryz.prog 43 #[.slice a n cap] w fun e w' => ∃ b c, e = .returned (.slice b n c) ∧ w'.ownsRow w.heap.size 5 1 (.slice b n c) n (xs.map (Value.int .u8)) ∧ Below w.heap.size w w' := by
  obtain ⟨i0, hi, hz0, hz1, hz2⟩ := info_u8b
  have hnH := Lib.hid hn
  clear hn
  go_enter Tryz.func43, Tryz.ntmps43
  cases a with
  | none =>
    have h0 : n = 0 := by
      rcases hI.2.2 with h | ⟨b, off, h, _⟩
      · exact h
      · cases h
    subst h0
    obtain rfl : xs = [] := List.length_eq_zero_iff.1 hI.1
    have heq := pNone cap
    go_wp2
    go_ret
    exact ⟨none, 0, rfl, World.ownsRow_nil _ _ _ _, Below.refl _ _⟩
  | some ad =>
    have q3 : Below w.heap.size w (w.alloc (.cells #[] 5)) := below1 _ _
    have I3 := Lib.hid (hI.keep q3)
    have heq := pSome ad n cap
    clear hI
    go_wp2_with (at_builtin
                 refine wpList_append_ints rfl (.tmp 5) (.tmp 6) 34 rfl w.heap.size 5 i0 (.int .u8 0) 1 Tryz.underlying34 hi hz0 hz1 hz2 rfl rfl (World.ownsRow_made w #[] 0 (Nat.le_refl _) (Nat.zero_le _) rfl) rfl I3.out ?_ ?_ q3.size ?_
                 (have := hnH.out; unfold maxLen; omega)
                 (have := hnH.out; omega)
                 intro v4 w4 hown4 hg4
                 refine RowKit.Hid.out ?_)
    refine Lib.hid ?_
    rw [List.nil_append, Nat.zero_add] at hown4
    have hex : ∃ b c, v4 = .slice b n c := own_slice hown4
    obtain ⟨b, c, hv⟩ := hex
    rw [hv] at hown4 ⊢
    have hB : Below w.heap.size w w4 := q3.grown hg4 q3.size (fun q hq => by injection hq with hq; rw [← hq]; exact Nat.le_refl _)
    go_wp2
    go_ret
    exact ⟨b, c, rfl, hown4, hB⟩

end Go.Proofs.YtinmmhbiomcdoaaGreatDoor

/-
  append of a slice of another slice type; a slice cut at its upper end, as Ints and as a row of the call's own. Laws about the model's own words; no Go function is spoken of.
-/
namespace Go.Proofs.YtinmmhbiomcdoaaGreatDoor
open Go.RowKit

section
variable {P : Program} {w : World}
theorem run_append_tx (t tx e e' ty : TypeId) (i : TypeInfo) (ht : P.underlying t = some (.slice e)) (hx : P.underlying tx = some (.slice e')) (hi : P.info? e = some i) (A B : Option Addr) (n c m d : Nat) :
    (Builtin.append_ #[t, tx] ty #[.slice A n c, .slice B m d]).run P w = (Builtin.append_ #[t, t] ty #[.slice A n c, .slice B m d]).run P w := by
  simp [Builtin.append_, run_underlying ht, run_underlying hx, sizeOf, typeInfo, hi, Builtin.lenOf]
theorem wpList_append_ints_tx {ops : Array Oper} {rest : List Oper} {o : Oper} {a : Act} {Q : Exit → Act → World → Prop} (hgd : o.guard = none) (s x : Operand) (t tx e' : TypeId)
    (ho : o.op = .call { callee := .builtin .append, args := #[s, x], argTypes := #[t, tx] })
    (base : Nat) (e : TypeId) (i : TypeInfo) (z : Value) (bytes : Nat) (ht : P.underlying t = some (.slice e)) (htx : P.underlying tx = some (.slice e')) (hi : P.info? e = some i) (hz : i.zero = some z)
    (hsize : i.size = 1) (hby : i.bytes = bytes) (hzs : z.cells.size = 1)
    {v : Value} {n : Nat} {xs : List Value} (hs : a.eval s = v) (hown : w.ownsRow base e 1 v n xs)
    {k : IntKind} {A : Option Addr} {m c : Nat} {ys : List Int} (hx : a.eval x = .slice A m c) (hy : Ints k w A m c ys)
    (h63 : n + m ≤ maxLen) (hbytes : (n + m) * bytes ≤ 140737488355328) (hbase : base ≤ w.heap.size)
    (h : ∀ v' w', w'.ownsRow base e 1 v' (n + m) (xs ++ ys.map (Value.int k)) → w.grownBy w' v.ownBlock → (v'.ownBlock = v.ownBlock ∨ v'.ownBlock = some w.heap.size) → wpList P ops Q rest (a.put o.dst v') w') : wpList P ops Q (o :: rest) a w := by
  have hl := hy.len
  obtain ⟨vb, vc, rfl⟩ := own_slice hown
  cases A with
  | none =>
    have hm : m = 0 := by
      rcases hy.2.2 with h0 | ⟨b, off, ha, _⟩
      · exact h0
      · cases ha
    subst hm
    obtain rfl : ys = [] := List.length_eq_zero_iff.1 hl
    refine wpList_plain hgd fun K hK => ?_
    have hrun := run_append_nothing (P := P) base t o.type e i 1 ht hi _ n xs hown c
    unfold Oper.wp
    simp [execOp, ho, resolve, invoke, builtin, hs, hx, run_append_tx t tx e e' _ i ht htx hi, hrun, Result.andThen]
    exact hK _ _ (h _ w (by simpa using hown) (grown_refl _ _) (.inl rfl))
  | some ad =>
    refine wpList_plain hgd fun K hK => ?_
    have hnews : ∀ j u, (ys.map (Value.int k))[j]? = some u → w.cell? (ad.add j) = some u := by
      intro j u hu
      have hj : j < m := by have := (List.getElem?_eq_some_iff.1 hu).1; simpa [hl] using this
      obtain ⟨ad', hA, hc⟩ := hy.src m (Nat.le_refl _) (by omega)
      injection hA with hA
      subst hA
      rw [List.take_of_length_le (by omega)] at hc
      exact hc j u hu
    obtain ⟨v', w', hr, h2, h3, _, h5⟩ := run_append_own_at (P := P) w base t o.type e i z 1 bytes ht hi hz hsize hby hzs (by decide) _ n xs hown ad m c (ys.map (Value.int k)) (by simp [hl]) hnews (ints_oneCell' _ _) h63 hbytes hbase
    unfold Oper.wp execOp
    simp only [ho, resolve, invoke, builtin, Sem.run_bind, Sem.run_pure, Result.andThen_ok, List.map_toArray, List.map_cons, List.map_nil, hs, hx, run_append_tx t tx e e' _ i ht htx hi, hr]
    exact hK _ _ (h v' w' h2 h3 h5)
/-- A slice cut at its upper end. -/
theorem run_cutHi (ty e : TypeId) (hu : P.underlying ty = some (.slice e)) (hs : (P.info? e).map (·.size) = some 1) (A : Option Addr) (m c : Nat) (k : IntKind) (l : Nat) (hlm : l ≤ c) (w : World) :
    (Instr.sliceAt ty (.slice A m c) none (some (.int k (l : Int))) none).run P w = .ok (.slice A l c) w := by
  have he : P.elem ty = e := by simp [Program.elem, hu]
  rw [run_sliceAt_slice w ty _ _ _ _ (by rw [he]; exact hu), run_slice_h w ty A m c (by rw [he]; exact hu) k l (by omega) (by omega)]
  cases hq : P.info? e with
  | none => simp [hq] at hs
  | some i =>
    simp [he, sizeOf, typeInfo, hq, sliced]
    intro _
    cases A with
    | none => rfl
    | some x =>
      obtain ⟨b, o, sp⟩ := x
      cases sp <;> simp [Addr.add]
end
theorem Ints.upTo {k : IntKind} {w : World} {a : Option Addr} {n cap : Nat} {xs : List Int} (h : Ints k w a n cap xs) (m : Nat) (hm : m ≤ n) : Ints k w a m cap (xs.take m) := by
  have h1 := h.cut2 0 m (Nat.zero_le _) hm
  have hc := h.2.1
  refine ⟨by rw [List.length_take, h.1]; omega, by omega, ?_⟩
  rcases h.2.2 with h0 | ⟨b, off, ha, hcell⟩
  · exact .inl (by omega)
  · refine .inr ⟨b, off, ha, fun i hi => ?_⟩
    rw [hcell i (by omega), List.getD_eq_getElem?_getD, List.getD_eq_getElem?_getD, List.getElem?_take_of_lt hi]
theorem own_upTo {w : World} {B : Nat} {e : TypeId} {a : Option Addr} {n c : Nat} {vs : List Value} (h : w.ownsRow B e 1 (.slice a n c) n vs) (m : Nat) (hm : m ≤ n) : w.ownsRow B e 1 (.slice a m c) m (vs.take m) := by
  have hl : vs.length = n := by have := h.1; simpa using this
  refine ⟨by rw [List.length_take, hl]; omega, ?_⟩
  rcases h.2 with ⟨hv, h0⟩ | ⟨g, cap, cur, hv, hb, hg, hnc, hcm, hcs, ht⟩
  · injection hv with h1 h2 h3
    exact .inl ⟨by rw [h1, h3, show m = 0 by omega], by omega⟩
  · injection hv with h1 h2 h3
    subst h3
    refine .inr ⟨g, c, cur, by rw [h1], hb, hg, by omega, hcm, hcs, ?_⟩
    rw [Nat.mul_one] at ht ⊢
    rw [← ht, List.take_take, Nat.min_eq_left hm]
end Go.Proofs.YtinmmhbiomcdoaaGreatDoor
