/-
  Texts of stages that were proved on their own, joined: DkOpen. Each begins with its own words.
-/
import Derived.Test.YtinmmhbiomcdoaaGreatDoorOpenAr
import Derived.Test.YtinmmhbiomcdoaaGreatDoorJVaLawN10
import Derived.Test.YtinmmhbiomcdoaaGreatDoorJVaLawN11
import Derived.Test.YtinmmhbiomcdoaaGreatDoorProg
import Derived.SizedLaws

/-
  The arguments of the disk's laws: calls of a disk in memory, and a case, as they came in, with what the rows' own reach says of them. No Go function is spoken of.
-/
namespace Go.Proofs.YtinmmhbiomcdoaaGreatDoor
open Go.RowKit Go.Deep Go.ChangeShapes Go.WideShapes

/-- One call of a disk, as a law is handed it. -/
structure OpD where
  k : Int
  f : Int
  n : Int
  ba : Option Addr
  bn : Nat
  bc : Nat
  bs : List Int
  ua : Option Addr
  un : Nat
  uc : Nat
  us : List Int
instance : Inhabited OpD := ⟨⟨0, 0, 0, none, 0, 0, [], none, 0, 0, []⟩⟩
def OpD.cells (o : OpD) : List Value := [.int .i64 o.k, .int .i64 o.f, .int .i64 o.n, .slice o.ba o.bn o.bc, .slice o.ua o.un o.uc]
structure OpD.Ok (o : OpD) (w : World) : Prop where
  b : Ints .u8 w o.ba o.bn o.bc o.bs
  br : ∀ z ∈ o.bs, 0 ≤ z ∧ z < 256
  u : Ints .i64 w o.ua o.un o.uc o.us
  n : -9223372036854775808 ≤ o.n ∧ o.n < 9223372036854775808
theorem OpD.Ok.keep {o : OpD} {w w' : World} (h : o.Ok w) (hb : Below w.heap.size w w') : o.Ok w' := ⟨h.b.keep hb, h.br, h.u.keep hb, h.n⟩
/-- A slice of such calls. -/
structure OpsD (w : World) (a : Option Addr) (n cap : Nat) (ops : List OpD) : Prop where
  len : ops.length = n
  cap : n ≤ cap
  at' : n = 0 ∨ ∃ b off, a = some ⟨b, off, none⟩ ∧ ∀ i o, ops[i]? = some o → ∀ j v, o.cells[j]? = some v → w.cell? ⟨b, off + i * 5 + j, none⟩ = some v
  ok : ∀ o ∈ ops, o.Ok w
theorem OpsD.keep {w w' : World} {a : Option Addr} {n cap : Nat} {ops : List OpD} (h : OpsD w a n cap ops) (hb : Below w.heap.size w w') : OpsD w' a n cap ops := by
  refine ⟨h.len, h.cap, ?_, fun o ho => (h.ok o ho).keep hb⟩
  rcases h.at' with h0 | ⟨b, off, ha, hc⟩
  · exact .inl h0
  · refine .inr ⟨b, off, ha, fun i o ho j v hj => ?_⟩
    have h1 := hc i o ho j v hj
    rw [hb.cell (World.block_lt_of_cell? w _ h1)]
    exact h1

section
variable {H : Type} {enc : TypeId × Value → H} {P : Program} {w : World} {base : Nat} {spare : Nat → Bool} {held : Bool} {fuel : Nat} {t : TypeId} {cs : List Value} {x : DataW H × List MemPlace}

theorem weights_mem_all {e : TypeId} : ∀ {ds : List (DataW H)} {j : Nat} {d : DataW H}, ds[j]? = some d → ∀ n ∈ d.weights P e, n ∈ DataW.weightsAll P e ds
  | d0 :: ds, 0, d, hd, n, hn => by
    simp only [List.getElem?_cons_zero, Option.some.injEq] at hd
    subst hd
    simp only [DataW.weightsAll, List.mem_append]
    exact .inl hn
  | d0 :: ds, j + 1, d, hd, n, hn => by
    simp only [List.getElem?_cons_succ] at hd
    simp only [DataW.weightsAll, List.mem_append]
    exact .inr (weights_mem_all hd n hn)
  | [], _, _, hd, _, _ => by simp at hd
theorem slice_weight18 {e : TypeId} {a : Option Addr} {n c R : Nat} (ht : P.underlying t = some (.slice e)) (h : DataW.trod enc P w base spare held fuel t [.slice a n c] = some x) (hR : ∀ k ∈ x.1.weights P t, k ≤ R) : n * P.bytesOf e ≤ R := by
  rcases open_slice ht h with ⟨h0, _⟩ | ⟨a', len, cap, m, n', D, Pl, hcs, hb, hl, hm, hmm, hx0, hx⟩
  · cases h0
    omega
  · cases hcs
    have h1 := hR ((((List.range n).map D).length + _) * P.bytesOf e) (by rw [hx0]; simp only [DataW.weights, ht]; exact List.mem_cons_self ..)
    rw [List.length_map, List.length_range, Nat.add_mul] at h1
    omega
theorem ints_in18 {k : IntKind} {e : TypeId} (ht : P.underlying t = some (.slice e)) (he : P.underlying e = some (.int k)) (hc : P.cellsOf e = 1) (h : DataW.trod enc P w base spare held fuel t cs = some x) :
    ∃ a n c zs, cs = [.slice a n c] ∧ Ints k w a n c zs ∧ ∀ z ∈ zs, (Lit.int k z).wf = true := by
  rcases open_ints ht he hc h with ⟨e0, e1⟩ | ⟨a, l, c, zs, e0, _, hlc, hm, hz, hx, hcell, hwz⟩
  · exact ⟨none, 0, 0, [], e0, ⟨rfl, Nat.le_refl _, .inl rfl⟩, by simp⟩
  · have hlz : l ≤ zs.length := by rw [hz]; split <;> omega
    refine ⟨some a, l, c, zs.take l, e0, ?_, fun y hy => hwz y (List.mem_of_mem_take hy)⟩
    refine ⟨by rw [List.length_take]; omega, hlc, ?_⟩
    by_cases h0 : l = 0
    · exact .inl h0
    · obtain ⟨b, off, rfl⟩ := spot_none (hcell 0 (by omega))
      refine .inr ⟨b, off, rfl, fun i hi => ?_⟩
      have h1 := hcell i (by omega)
      rw [add_none] at h1
      rw [h1, List.getD_eq_getElem?_getD, List.getD_eq_getElem?_getD, List.getElem?_take_of_lt hi]
theorem trod_struct5d {f0 f1 f2 f3 f4 : Field} (ht : P.underlying t = some (.struct #[f0, f1, f2, f3, f4])) (h : DataW.trod enc P w base spare held fuel t cs = some x) :
    ∃ (y0 y1 y2 y3 y4 : DataW H × List MemPlace) (n : Nat), x.1 = .agg [y0.1, y1.1, y2.1, y3.1, y4.1] ∧ cs.length = P.cellsOf t ∧
      DataW.trod enc P w base spare held n f0.type ((cs.drop f0.offset).take (P.cellsOf f0.type)) = some y0 ∧ DataW.trod enc P w base spare held n f1.type ((cs.drop f1.offset).take (P.cellsOf f1.type)) = some y1 ∧
      DataW.trod enc P w base spare held n f2.type ((cs.drop f2.offset).take (P.cellsOf f2.type)) = some y2 ∧ DataW.trod enc P w base spare held n f3.type ((cs.drop f3.offset).take (P.cellsOf f3.type)) = some y3 ∧
      DataW.trod enc P w base spare held n f4.type ((cs.drop f4.offset).take (P.cellsOf f4.type)) = some y4 := by
  obtain ⟨xs, n, _, rfl, hl, hlen, hf⟩ := DataW.trod_struct ht h
  match xs, hlen with
  | [y0, y1, y2, y3, y4], _ => exact ⟨y0, y1, y2, y3, y4, n, by simp, hl, by simpa using hf 0 f0 rfl, by simpa using hf 1 f1 rfl, by simpa using hf 2 f2 rfl, by simpa using hf 3 f3 rfl, by simpa using hf 4 f4 rfl⟩

/-- What the program says of a call's type. -/
structure OpTypeD (P : Program) (t : TypeId) (f0 f1 f2 f3 f4 : Field) : Prop where
  ht : P.underlying t = some (.struct #[f0, f1, f2, f3, f4])
  hn : P.cellsOf t = 5
  hb : P.bytesOf t = 72
  o0 : f0.offset = 0
  o1 : f1.offset = 1
  o2 : f2.offset = 2
  o3 : f3.offset = 3
  o4 : f4.offset = 4
  u0 : P.underlying f0.type = some (.int .i64)
  u1 : P.underlying f1.type = some (.int .i64)
  u2 : P.underlying f2.type = some (.int .i64)
  c0 : P.cellsOf f0.type = 1
  c1 : P.cellsOf f1.type = 1
  c2 : P.cellsOf f2.type = 1
  c3 : P.cellsOf f3.type = 1
  c4 : P.cellsOf f4.type = 1
  e3 : ∃ e, P.underlying f3.type = some (.slice e) ∧ P.underlying e = some (.int .u8) ∧ P.cellsOf e = 1 ∧ P.bytesOf e = 1
  e4 : ∃ e, P.underlying f4.type = some (.slice e) ∧ P.underlying e = some (.int .i64) ∧ P.cellsOf e = 1

theorem byte_of18 {z : Int} (h : (Lit.int .u8 z).wf = true) : 0 ≤ z ∧ z < 256 := by
  simp [Lit.wf, IntKind.min, IntKind.max, IntKind.signed, IntKind.bits] at h
  omega
theorem open_opD {f0 f1 f2 f3 f4 : Field} (T : OpTypeD P t f0 f1 f2 f3 f4) (h : DataW.trod enc P w base spare held fuel t cs = some x) :
    ∃ o : OpD, cs = o.cells ∧ o.Ok w ∧ ∀ R, (∀ n ∈ x.1.weights P t, n ≤ R) → o.bn ≤ R := by
  obtain ⟨y0, y1, y2, y3, y4, n, hx, hl, h0, h1, h2, h3, h4⟩ := trod_struct5d T.ht h
  rw [T.o0, T.c0] at h0
  rw [T.o1, T.c1] at h1
  rw [T.o2, T.c2] at h2
  rw [T.o3, T.c3] at h3
  rw [T.o4, T.c4] at h4
  rw [T.hn] at hl
  obtain ⟨k, q0, _, _⟩ := DataW.trod_int T.u0 h0
  obtain ⟨f, q1, _, _⟩ := DataW.trod_int T.u1 h1
  obtain ⟨N, q2, _, wN⟩ := DataW.trod_int T.u2 h2
  obtain ⟨e3, g1, g2, g3, g4⟩ := T.e3
  obtain ⟨ba, bn, bc, bs, q3, hbi, hbr⟩ := ints_in18 g1 g2 g3 h3
  obtain ⟨e4, k1, k2, k3⟩ := T.e4
  obtain ⟨ua, un, uc, us, q4, hui, _⟩ := ints_in18 k1 k2 k3 h4
  refine ⟨⟨k, f, N, ba, bn, bc, bs, ua, un, uc, us⟩, ?_, ⟨hbi, fun z hz => byte_of18 (hbr z hz), hui, ?_⟩, fun R hR => ?_⟩
  · match cs, hl with
    | [v0, v1, v2, v3, v4], _ =>
      simp at q0 q1 q2 q3 q4
      rw [q0, q1, q2, q3, q4]
      rfl
  · simp [Lit.wf, IntKind.min, IntKind.max, IntKind.signed, IntKind.bits] at wN
    constructor <;> show _ <;> dsimp only <;> omega
  · rw [q3] at h3
    have h6 := slice_weight18 (R := R) g1 h3 (fun k hk => hR k (by
      rw [hx]
      simp only [DataW.weights, T.ht]
      exact DataW.weights_mem_each (j := 3) rfl rfl k hk))
    rw [g4, Nat.mul_one] at h6
    exact h6

theorem open_opsD {e : TypeId} {f0 f1 f2 f3 f4 : Field} (T : OpTypeD P e f0 f1 f2 f3 f4) (ht : P.underlying t = some (.slice e)) (h : DataW.trod enc P w base spare held fuel t cs = some x) :
    ∃ a m k ops, cs = [.slice a m k] ∧ OpsD w a m k ops ∧ k ≤ maxLen ∧ ∀ R, (∀ n ∈ x.1.weights P t, n ≤ R) → m * 72 ≤ R ∧ ∀ o ∈ ops, o.bn ≤ R := by
  rcases open_slice ht h with ⟨h0, h1⟩ | ⟨a, len, cap, m, n, D, Pl, rfl, hb, hl, hm, hmm, hx0, hx⟩
  · exact ⟨none, 0, 0, [], h0, ⟨rfl, Nat.le_refl _, .inl rfl, by simp⟩, by unfold maxLen; omega, fun R _ => ⟨by omega, by simp⟩⟩
  have hlm : len ≤ m := by rw [hmm]; split <;> omega
  obtain ⟨ops, hol, hp⟩ := list_of_fn len (default : OpD) (fun i o => (∀ j v, o.cells[j]? = some v → w.cell? ((a.add (i * 5)).add j) = some v) ∧ o.Ok w ∧ ∀ R, (∀ n ∈ (D i).weights P e, n ≤ R) → o.bn ≤ R) (fun i hi => by
    obtain ⟨cs', h1, h2⟩ := hx i (by omega)
    rw [T.hn] at h1
    obtain ⟨_, hlen, hcell⟩ := World.cells?_some h1
    obtain ⟨o, rfl, hok, hbk⟩ := open_opD T h2
    refine ⟨o, fun j v hj => ?_, hok, hbk⟩
    have hj' : j < 5 := (List.getElem?_eq_some_iff.1 hj).1
    rw [hcell j hj', hj])
  refine ⟨some a, len, cap, ops, rfl, ⟨hol, hl, ?_, ?_⟩, hm, fun R hR => ⟨?_, ?_⟩⟩
  · by_cases h0 : len = 0
    · exact .inl h0
    obtain ⟨bk, off, rfl⟩ : ∃ b off, a = ⟨b, off, none⟩ := by
      have hz := (hp 0 (by omega)).1 0 _ rfl
      obtain ⟨b, off, hb'⟩ := spot_none hz
      rw [Nat.zero_mul] at hb'
      obtain ⟨bk, off', spot⟩ := a
      cases spot with
      | none => exact ⟨_, _, rfl⟩
      | some sp => simp [Addr.add] at hb'
    refine .inr ⟨bk, off, rfl, fun i o ho j v hj => ?_⟩
    have hi := (List.getElem?_eq_some_iff.1 ho).1
    have h1 := (hp i (by omega)).1
    rw [List.getD_eq_getElem?_getD, ho] at h1
    have h2 := h1 j v hj
    rw [add_none, add_none] at h2
    exact h2
  · intro o ho
    obtain ⟨i, hi, rfl⟩ := List.mem_iff_getElem.1 ho
    have := (hp i (by omega)).2.1
    rw [List.getD_eq_getElem?_getD, List.getElem?_eq_getElem hi] at this
    exact this
  · have h1 := hR ((((List.range len).map D).length + _) * P.bytesOf e) (by rw [hx0]; simp only [DataW.weights, ht]; exact List.mem_cons_self ..)
    rw [List.length_map, List.length_range, Nat.add_mul, T.hb] at h1
    omega
  · intro o ho
    obtain ⟨i, hi, rfl⟩ := List.mem_iff_getElem.1 ho
    have h1 := (hp i (by omega)).2.2
    rw [List.getD_eq_getElem?_getD, List.getElem?_eq_getElem hi] at h1
    refine h1 R (fun n hn => hR n ?_)
    rw [hx0]
    simp only [DataW.weights, ht]
    exact List.mem_cons_of_mem _ (List.mem_append.2 (.inl (weights_mem_all (j := i) (by rw [List.getElem?_map, List.getElem?_range (by omega)]; rfl) n hn)))
end
end Go.Proofs.YtinmmhbiomcdoaaGreatDoor
