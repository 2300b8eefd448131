/-
  The calls of layer 10's laws, as they came in: one ('open_op'), and a slice of such ('open_calls'), with what a bound on the reading's bulk says of them. No Go function is spoken of.
-/
import Derived.Test.YtlbhpicebefpnaaWrOps
import Derived.Test.YtlbhpicebefpnaaOpenAr
import Derived.Test.YtlbhpicebefpnaaOpenOps
import Derived.Test.YtlbhpicebefpnaaRowsIn
namespace Go.Proofs.Ytlbhpicebefpnaa
open Go.RowKit Go.Deep Go.ChangeShapes Go.WideShapes

instance : Inhabited OpV := ⟨⟨0, 0, 0, none, 0, 0, [], [], none, 0, 0, []⟩⟩
theorem wts_cons (o : OpV) (l : List OpV) : wts (o :: l) = o.wt + wts l := by
  unfold wts
  rw [List.map_cons, List.foldl_cons, wts_fold]
  omega
theorem byte_of {z : Int} (h : (Lit.int .u8 z).wf = true) : 0 ≤ z ∧ z < 256 := by
  simp [Lit.wf, IntKind.min, IntKind.max, IntKind.signed, IntKind.bits] at h
  omega

section
variable {H : Type} {enc : TypeId × Value → H} {P : Program} {w : World} {base : Nat} {spare : Nat → Bool} {held : Bool} {fuel : Nat} {t : TypeId} {cs : List Value} {x : DataW H × List MemPlace}

theorem bulk_const (c : Nat) (D : Nat → DataW H) : ∀ l : List Nat, (∀ r ∈ l, c ≤ Rows.uptoBulk (D r)) → c * l.length ≤ Rows.uptoBulkAll (l.map D)
  | [], _ => Nat.zero_le _
  | y :: r, h => by
    have h1 := h y (by simp)
    have h2 := bulk_const c D r (fun z hz => h z (by simp [hz]))
    simp only [List.map_cons, List.length_cons, Rows.uptoBulkAll, Nat.mul_succ]; omega
theorem bulk_calls (D : Nat → DataW H) (ops : List OpV) (h : ∀ i, i < ops.length → 1 + (ops.getD i default).wt ≤ Rows.uptoBulk (D i)) : ops.length + wts ops ≤ Rows.uptoBulkAll ((List.range ops.length).map D) := by
  induction ops generalizing D with
  | nil => exact Nat.zero_le _
  | cons o l ih =>
    have h0 := h 0 (by simp)
    have h1 := ih (fun i => D (i + 1)) (fun i hi => by simpa using h (i + 1) (by simpa using hi))
    rw [List.length_cons, List.range_succ_eq_map, List.map_cons, List.map_map, Rows.uptoBulkAll, wts_cons]
    have h2 : (List.range l.length).map (D ∘ Nat.succ) = (List.range l.length).map (fun i => D (i + 1)) := rfl
    rw [h2]
    simp at h0
    omega
theorem arr_bulk {n : Nat} {e : TypeId} (ht : P.underlying t = some (.array n e)) (h : DataW.trod enc P w base spare held fuel t cs = some x) : n ≤ Rows.uptoBulk x.1 := by
  obtain ⟨xs, m, _, rfl, _, hxl, _⟩ := DataW.trod_array ht h
  have h1 := bulk_length (xs.map (·.1))
  rw [List.length_map, hxl] at h1
  show n ≤ Rows.uptoBulkAll (xs.map (·.1)) + 1
  omega
theorem ints_bulk {e : TypeId} (ht : P.underlying t = some (.slice e)) (he : P.underlying e = some (.int .u8)) (hc : P.cellsOf e = 1) (h : DataW.trod enc P w base spare held fuel t cs = some x) :
    ∃ a n c zs, cs = [.slice a n c] ∧ Ints .u8 w a n c zs ∧ (∀ z ∈ zs, 0 ≤ z ∧ z < 256) ∧ c ≤ maxLen ∧ 1 + n ≤ Rows.uptoBulk x.1 := by
  rcases open_ints ht he hc h with ⟨e0, e1⟩ | ⟨a, l, c, zs, e0, _, hlc, hm, hz, hx, hcell, hwz⟩
  · exact ⟨none, 0, 0, [], e0, ⟨rfl, Nat.le_refl _, .inl rfl⟩, by simp, by unfold maxLen; omega, by rw [e1]; simp [Rows.uptoBulk]⟩
  · have hlz : l ≤ zs.length := by rw [hz]; split <;> omega
    refine ⟨some a, l, c, zs.take l, e0, ?_, fun y hy => byte_of (hwz y (List.mem_of_mem_take hy)), hm, ?_⟩
    · refine ⟨by rw [List.length_take]; omega, hlc, ?_⟩
      by_cases h0 : l = 0
      · exact .inl h0
      · obtain ⟨b, off, rfl⟩ := spot_none (hcell 0 (by omega))
        refine .inr ⟨b, off, rfl, fun i hi => ?_⟩
        have h1 := hcell i (by omega)
        rw [add_none] at h1
        rw [h1, List.getD_eq_getElem?_getD, List.getD_eq_getElem?_getD, List.getElem?_take_of_lt hi]
    · have h1 := bulk_length (lits (H := H) .u8 (zs.take l))
      simp only [lits, List.length_map, List.length_take] at h1
      rw [hx]
      simp only [Rows.uptoBulk, lits]
      omega
/-- A slice of ids, opened. -/
theorem open_ids {e q : TypeId} (ht : P.underlying t = some (.slice e)) (he : P.underlying e = some (.array 32 q)) (hq : P.underlying q = some (.int .u8)) (ce : P.cellsOf e = 32) (cq : P.cellsOf q = 1)
    (h : DataW.trod enc P w base spare held fuel t cs = some x) :
    ∃ a n c zs, cs = [.slice a n c] ∧ IdsAt w a n c zs ∧ (∀ z ∈ zs, 0 ≤ z ∧ z < 256) ∧ c ≤ maxLen ∧ 1 + 32 * n ≤ Rows.uptoBulk x.1 := by
  rcases open_slice ht h with ⟨h0, h1⟩ | ⟨a, len, cap, m, n, D, Pl, rfl, hb, hl, hm, hmm, hx0, hx⟩
  · exact ⟨none, 0, 0, [], h0, ⟨rfl, Nat.le_refl _, .inl rfl⟩, by simp, by unfold maxLen; omega, by rw [h1]; simp [Rows.uptoBulk]⟩
  have hlm : len ≤ m := by rw [hmm]; split <;> omega
  have hbulk : 1 + 32 * len ≤ Rows.uptoBulk x.1 := by
    have h1 := bulk_const 32 D (List.range len) (fun r hr => by
      obtain ⟨cs', _, h2⟩ := hx r (by have := List.mem_range.1 hr; omega)
      exact arr_bulk he h2)
    rw [List.length_range] at h1
    rw [hx0]
    simp only [Rows.uptoBulk]
    omega
  by_cases h0 : len = 0
  · subst h0
    exact ⟨some a, 0, cap, [], rfl, ⟨rfl, Nat.zero_le _, .inl rfl⟩, by simp, hm, hbulk⟩
  have each : ∀ i, i < len → ∀ k, k < 32 → ∃ z : Int, w.cell? ((a.add (i * 32)).add k) = some (.int .u8 z) ∧ 0 ≤ z ∧ z < 256 := by
    intro i hi k hk
    obtain ⟨cs', h1, h2⟩ := hx i (by omega)
    rw [ce] at h1
    obtain ⟨_, hlen, hcell⟩ := World.cells?_some h1
    obtain ⟨zs, rfl, hzl, hzw⟩ := open_arr_ints he hq cq ce h2
    refine ⟨zs.getD k 0, ?_, ?_⟩
    · rw [hcell k hk, List.getElem?_map, List.getD_eq_getElem?_getD, List.getElem?_eq_getElem (by omega)]
      rfl
    · refine byte_of (hzw _ ?_)
      rw [List.getD_eq_getElem?_getD, List.getElem?_eq_getElem (by omega)]
      exact List.getElem_mem _
  obtain ⟨bk, off, rfl⟩ : ∃ b off, a = ⟨b, off, none⟩ := by
    obtain ⟨z, hz, _⟩ := each 0 (by omega) 0 (by decide)
    obtain ⟨b, off, hb'⟩ := spot_none hz
    rw [Nat.zero_mul] at hb'
    obtain ⟨bk, off', spot⟩ := a
    cases spot with
    | none => exact ⟨_, _, rfl⟩
    | some sp => simp [Addr.add] at hb'
  obtain ⟨ls, hll, hp⟩ := list_of_fn (32 * len) (0 : Int) (fun j z => w.cell? ⟨bk, off + j, none⟩ = some (.int .u8 z) ∧ 0 ≤ z ∧ z < 256) (fun j hj => by
    obtain ⟨z, hz, hr⟩ := each (j / 32) (by omega) (j % 32) (Nat.mod_lt _ (by decide))
    rw [add_none, add_none] at hz
    refine ⟨z, ?_, hr⟩
    rw [← hz]
    congr 2
    omega)
  refine ⟨some ⟨bk, off, none⟩, len, cap, ls, rfl, ⟨hll, hl, .inr ⟨bk, off, rfl, fun i hi => (hp i hi).1⟩⟩, ?_, hm, hbulk⟩
  intro z hz
  obtain ⟨i, hi, rfl⟩ := List.mem_iff_getElem.1 hz
  have := (hp i (by omega)).2
  rw [List.getD_eq_getElem?_getD, List.getElem?_eq_getElem hi] at this
  exact this

theorem trod_struct6 {f0 f1 f2 f3 f4 f5 : Field} (ht : P.underlying t = some (.struct #[f0, f1, f2, f3, f4, f5])) (h : DataW.trod enc P w base spare held fuel t cs = some x) :
    ∃ (y0 y1 y2 y3 y4 y5 : DataW H × List MemPlace) (n : Nat), x.1 = .agg [y0.1, y1.1, y2.1, y3.1, y4.1, y5.1] ∧ cs.length = P.cellsOf t ∧
      DataW.trod enc P w base spare held n f0.type ((cs.drop f0.offset).take (P.cellsOf f0.type)) = some y0 ∧ DataW.trod enc P w base spare held n f1.type ((cs.drop f1.offset).take (P.cellsOf f1.type)) = some y1 ∧
      DataW.trod enc P w base spare held n f2.type ((cs.drop f2.offset).take (P.cellsOf f2.type)) = some y2 ∧ DataW.trod enc P w base spare held n f3.type ((cs.drop f3.offset).take (P.cellsOf f3.type)) = some y3 ∧
      DataW.trod enc P w base spare held n f4.type ((cs.drop f4.offset).take (P.cellsOf f4.type)) = some y4 ∧ DataW.trod enc P w base spare held n f5.type ((cs.drop f5.offset).take (P.cellsOf f5.type)) = some y5 := by
  obtain ⟨xs, n, _, rfl, hl, hlen, hf⟩ := DataW.trod_struct ht h
  match xs, hlen with
  | [y0, y1, y2, y3, y4, y5], _ => exact ⟨y0, y1, y2, y3, y4, y5, n, by simp, hl, by simpa using hf 0 f0 rfl, by simpa using hf 1 f1 rfl, by simpa using hf 2 f2 rfl, by simpa using hf 3 f3 rfl, by simpa using hf 4 f4 rfl, by simpa using hf 5 f5 rfl⟩

/-- What the program says of a call's type. -/
structure OpType (P : Program) (t : TypeId) (f0 f1 f2 f3 f4 f5 : Field) : Prop where
  ht : P.underlying t = some (.struct #[f0, f1, f2, f3, f4, f5])
  hn : P.cellsOf t = 37
  o0 : f0.offset = 0
  o1 : f1.offset = 1
  o2 : f2.offset = 2
  o3 : f3.offset = 3
  o4 : f4.offset = 4
  o5 : f5.offset = 36
  u0 : P.underlying f0.type = some (.int .i64)
  u1 : P.underlying f1.type = some (.int .i64)
  u2 : P.underlying f2.type = some (.int .u64)
  c0 : P.cellsOf f0.type = 1
  c1 : P.cellsOf f1.type = 1
  c2 : P.cellsOf f2.type = 1
  c3 : P.cellsOf f3.type = 1
  c4 : P.cellsOf f4.type = 32
  c5 : P.cellsOf f5.type = 1
  e3 : ∃ e, P.underlying f3.type = some (.slice e) ∧ P.underlying e = some (.int .u8) ∧ P.cellsOf e = 1
  e4 : ∃ e, P.underlying f4.type = some (.array 32 e) ∧ P.underlying e = some (.int .u8) ∧ P.cellsOf e = 1
  e5 : ∃ e q, P.underlying f5.type = some (.slice e) ∧ P.underlying e = some (.array 32 q) ∧ P.underlying q = some (.int .u8) ∧ P.cellsOf e = 32 ∧ P.cellsOf q = 1

theorem list_37 (cs : List Value) (h : cs.length = 37) : cs = (cs.drop 0).take 1 ++ ((cs.drop 1).take 1 ++ ((cs.drop 2).take 1 ++ ((cs.drop 3).take 1 ++ ((cs.drop 4).take 32 ++ (cs.drop 36).take 1)))) := by
  apply List.ext_getElem?
  intro i
  simp only [List.getElem?_append, List.length_take, List.length_drop, h, List.getElem?_take, List.getElem?_drop]
  by_cases h37 : i < 37
  · repeat' split
    all_goals first | omega | (congr 1; omega) | skip
  · rw [List.getElem?_eq_none (by omega)]
    repeat' split
    all_goals first | omega | (symm; exact List.getElem?_eq_none (by omega)) | rfl

theorem open_op {f0 f1 f2 f3 f4 f5 : Field} (T : OpType P t f0 f1 f2 f3 f4 f5) (h : DataW.trod enc P w base spare held fuel t cs = some x) :
    ∃ o : OpV, cs = o.cells ∧ o.Ok w ∧ o.bc ≤ maxLen ∧ o.lc ≤ maxLen ∧ 1 + o.wt ≤ Rows.uptoBulk x.1 := by
  obtain ⟨y0, y1, y2, y3, y4, y5, n, hx, hl, h0, h1, h2, h3, h4, h5⟩ := trod_struct6 T.ht h
  rw [T.o0, T.c0] at h0
  rw [T.o1, T.c1] at h1
  rw [T.o2, T.c2] at h2
  rw [T.o3, T.c3] at h3
  rw [T.o4, T.c4] at h4
  rw [T.o5, T.c5] at h5
  rw [T.hn] at hl
  obtain ⟨k, q0, _, _⟩ := DataW.trod_int T.u0 h0
  obtain ⟨A, q1, _, wA⟩ := DataW.trod_int T.u1 h1
  obtain ⟨N, q2, _, wN⟩ := DataW.trod_int T.u2 h2
  obtain ⟨e3, g1, g2, g3⟩ := T.e3
  obtain ⟨ba, bn, bc, bs, q3, hbi, hbr, hbc, hb3⟩ := ints_bulk g1 g2 g3 h3
  obtain ⟨e4, k1, k2, k3⟩ := T.e4
  obtain ⟨id, q4, il, iw⟩ := open_arr_ints k1 k2 k3 T.c4 h4
  obtain ⟨e5, eq5, m1, m2, m3, m4, m5⟩ := T.e5
  obtain ⟨la, ln, lc, ls, q5, hli, hlr, hlc, hb5⟩ := open_ids m1 m2 m3 m4 m5 h5
  refine ⟨⟨k, A, N, ba, bn, bc, bs, id, la, ln, lc, ls⟩, ?_, ⟨hbi, hbr, il, fun y hy => byte_of (iw y hy), hli, hlr, ?_, ?_⟩, hbc, hlc, ?_⟩
  · rw [list_37 cs hl, q0, q1, q2, q3, q4, q5]
    simp [OpV.cells]
  · simp [Lit.wf, IntKind.min, IntKind.max, IntKind.signed, IntKind.bits] at wA
    constructor <;> show _ <;> dsimp only <;> omega
  · simp [Lit.wf, IntKind.min, IntKind.max, IntKind.signed, IntKind.bits] at wN
    constructor <;> show _ <;> dsimp only <;> omega
  · rw [hx]
    have b0 := bulk_one y0.1
    simp only [OpV.wt, Rows.uptoBulk, Rows.uptoBulkAll]
    omega

/-- A slice of calls, opened. -/
theorem open_calls {e : TypeId} {f0 f1 f2 f3 f4 f5 : Field} (T : OpType P e f0 f1 f2 f3 f4 f5) (ht : P.underlying t = some (.slice e)) (h : DataW.trod enc P w base spare held fuel t cs = some x) :
    ∃ a m k ops, cs = [.slice a m k] ∧ OpsAt w a m k ops ∧ k ≤ maxLen ∧ (∀ o ∈ ops, o.bc ≤ maxLen ∧ o.lc ≤ maxLen) ∧ m + wts ops ≤ Rows.uptoBulk x.1 := by
  rcases open_slice ht h with ⟨h0, h1⟩ | ⟨a, len, cap, m, n, D, Pl, rfl, hb, hl, hm, hmm, hx0, hx⟩
  · exact ⟨none, 0, 0, [], h0, ⟨rfl, Nat.le_refl _, .inl rfl, by simp⟩, by unfold maxLen; omega, by simp, by simp [wts]⟩
  have hlm : len ≤ m := by rw [hmm]; split <;> omega
  obtain ⟨ops, hol, hp⟩ := list_of_fn len (default : OpV) (fun i o => (∀ j v, o.cells[j]? = some v → w.cell? ((a.add (i * 37)).add j) = some v) ∧ o.Ok w ∧ (o.bc ≤ maxLen ∧ o.lc ≤ maxLen) ∧ 1 + o.wt ≤ Rows.uptoBulk (D i)) (fun i hi => by
    obtain ⟨cs', h1, h2⟩ := hx i (by omega)
    rw [T.hn] at h1
    obtain ⟨_, hlen, hcell⟩ := World.cells?_some h1
    obtain ⟨o, rfl, hok, hc1, hc2, hbk⟩ := open_op T h2
    refine ⟨o, fun j v hj => ?_, hok, ⟨hc1, hc2⟩, hbk⟩
    have hj' : j < 37 := by
      have := (List.getElem?_eq_some_iff.1 hj).1
      omega
    rw [hcell j hj', hj])
  have hbulk := bulk_calls D ops (fun i hi => (hp i (by omega)).2.2.2)
  rw [hol] at hbulk
  refine ⟨some a, len, cap, ops, rfl, ⟨hol, hl, ?_, ?_⟩, hm, ?_, ?_⟩
  · by_cases h0 : len = 0
    · exact .inl h0
    obtain ⟨bk, off, rfl⟩ : ∃ b off, a = ⟨b, off, none⟩ := by
      have hz := (hp 0 (by omega)).1 0 _ (OpV.at0 _)
      obtain ⟨b, off, hb'⟩ := spot_none hz
      rw [Nat.zero_mul] at hb'
      obtain ⟨bk, off', spot⟩ := a
      cases spot with
      | none => exact ⟨_, _, rfl⟩
      | some sp => simp [Addr.add] at hb'
    refine .inr ⟨bk, off, rfl, fun i o ho j v hj => ?_⟩
    have hi := (List.getElem?_eq_some_iff.1 ho).1
    have h1 := (hp i (by omega)).1
    rw [List.getD_eq_getElem?_getD, ho] at h1
    have h2 := h1 j v hj
    rw [add_none, add_none] at h2
    exact h2
  · intro o ho
    obtain ⟨i, hi, rfl⟩ := List.mem_iff_getElem.1 ho
    have := (hp i (by omega)).2.1
    rw [List.getD_eq_getElem?_getD, List.getElem?_eq_getElem hi] at this
    exact this
  · intro o ho
    obtain ⟨i, hi, rfl⟩ := List.mem_iff_getElem.1 ho
    have := (hp i (by omega)).2.2.1
    rw [List.getD_eq_getElem?_getD, List.getElem?_eq_getElem hi] at this
    exact this
  · rw [hx0]
    simp only [Rows.uptoBulk]
    omega
end
end Go.Proofs.Ytlbhpicebefpnaa
