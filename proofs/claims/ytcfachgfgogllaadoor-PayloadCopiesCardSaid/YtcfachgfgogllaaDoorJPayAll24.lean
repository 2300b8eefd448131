/-
  Texts of stages that were proved on their own, joined: PayOpen. Each begins with its own words.
-/
import Derived.Test.YtcfachgfgogllaaDoorJPayAll0
import Derived.Test.YtcfachgfgogllaaDoorJPayAll23
import Derived.Test.YtcfachgfgogllaaDoorProg

/-
  A payload that came in as an argument: its tiers in memory. Laws about the model's own words, and what this program's types say; no Go function is spoken of.
-/
namespace Go.Proofs.YtcfachgfgogllaaDoor
open Go.RowKit Go.Deep Go.ChangeShapes Go.WideShapes

theorem u8_of13 {z : Int} (h : (Lit.int .u8 z).wf = true) : 0 ≤ z ∧ z < 256 := by
  simp [Lit.wf, IntKind.min, IntKind.max, IntKind.signed, IntKind.bits] at h
  omega
theorem u32_of13 {z : Int} (h : (Lit.int .u32 z).wf = true) : 0 ≤ z ∧ z < 4294967296 := by
  simp [Lit.wf, IntKind.min, IntKind.max, IntKind.signed, IntKind.bits] at h
  omega
theorem add_none13 (b off i : Nat) : (⟨b, off, none⟩ : Addr).add i = ⟨b, off + i, none⟩ := by unfold Addr.add; split <;> simp_all

section
variable {H : Type} {enc : TypeId × Value → H} {P : Program} {w : World} {base : Nat} {held : Bool} {fuel : Nat} {t : TypeId} {cs : List Value} {x : DataW H × List MemPlace}

theorem open_tier {f0 f1 : Field} {e : TypeId} (ht : P.underlying t = some (.struct #[f0, f1])) (hn : P.cellsOf t = 2) (o0 : f0.offset = 0) (o1 : f1.offset = 1)
    (u0 : P.underlying f0.type = some (.int .u32)) (u1 : P.underlying f1.type = some (.slice e)) (ue : P.underlying e = some (.int .u8)) (c0 : P.cellsOf f0.type = 1) (c1 : P.cellsOf f1.type = 1) (ce : P.cellsOf e = 1)
    (h : DataW.trod enc P w base (fun _ => true) held fuel t cs = some x) :
    ∃ (t : Tier) (A : Option Addr) (d : Nat), cs = [.int .u32 t.1, .slice A t.2.length d] ∧ Ints .u8 w A t.2.length d t.2 ∧ Ranged t := by
  obtain ⟨y0, y1, n, _, hl, h0, h1⟩ := trod_struct2 ht h
  rw [o0, c0] at h0
  rw [o1, c1] at h1
  rw [hn] at hl
  match cs, hl with
  | [v0, v1], _ =>
    obtain ⟨a, e0, _, w0⟩ := DataW.trod_int u0 h0
    simp at e0
    rcases open_ints u1 ue ce h1 with ⟨e1, _⟩ | ⟨a1, l, c, zs, e1, _, hlc, hm, hz, _, hcell, hwz⟩
    · simp at e1
      exact ⟨(a, []), none, 0, by rw [e0, e1]; rfl, ⟨rfl, Nat.le_refl _, .inl rfl⟩, ⟨u32_of13 w0, by simp⟩⟩
    · simp at e1
      have hI := Ints.of_open (k := .u8) hlc (by simpa using hz) hcell
      have hll := hI.len
      refine ⟨(a, zs.take l), some a1, c, by rw [e0, e1, hll], by rw [hll]; exact hI, ⟨u32_of13 w0, fun y hy => u8_of13 (hwz y (List.mem_of_mem_take hy))⟩⟩

/-- A slice of tiers, opened. -/
theorem open_tiers {f0 f1 : Field} {q e : TypeId} (hq : P.underlying t = some (.slice q)) (ht : P.underlying q = some (.struct #[f0, f1])) (hn : P.cellsOf q = 2) (o0 : f0.offset = 0) (o1 : f1.offset = 1)
    (u0 : P.underlying f0.type = some (.int .u32)) (u1 : P.underlying f1.type = some (.slice e)) (ue : P.underlying e = some (.int .u8)) (c0 : P.cellsOf f0.type = 1) (c1 : P.cellsOf f1.type = 1) (ce : P.cellsOf e = 1)
    (h : DataW.trod enc P w base (fun _ => true) held fuel t cs = some x) :
    ∃ a n c ts, cs = [.slice a n c] ∧ TiersAt w a n c ts ∧ (∀ t ∈ ts, Ranged t) ∧ c ≤ maxLen := by
  rcases open_slice hq h with ⟨h0, _⟩ | ⟨a, len, cap, m, n, D, Pl, rfl, hb, hl, hm, hmm, _, hx⟩
  · exact ⟨none, 0, 0, [], h0, ⟨rfl, Nat.le_refl _, .inl rfl⟩, by simp, by unfold maxLen; omega⟩
  have hlm : len ≤ m := by rw [hmm]; split <;> omega
  have each : ∀ i, i < len → ∃ t : Tier, (∃ A d, w.cell? ((a.add (i * 2)).add 0) = some (.int .u32 t.1) ∧ w.cell? ((a.add (i * 2)).add 1) = some (.slice A t.2.length d) ∧ Ints .u8 w A t.2.length d t.2) ∧ Ranged t := by
    intro i hi
    obtain ⟨cs', h1, h2⟩ := hx i (by omega)
    rw [hn] at h1
    obtain ⟨_, hlen, hcell⟩ := World.cells?_some h1
    obtain ⟨t, A, d, rfl, hI, hR⟩ := open_tier ht hn o0 o1 u0 u1 ue c0 c1 ce h2
    exact ⟨t, ⟨A, d, hcell 0 (by decide), hcell 1 (by decide), hI⟩, hR⟩
  obtain ⟨l, hll, hp⟩ := list_of_fn len ((0, []) : Tier) _ each
  have hgl : ∀ i t, l[i]? = some t → i < len ∧ l.getD i (0, []) = t := fun i t ht => by
    have := (List.getElem?_eq_some_iff.1 ht).1
    exact ⟨by omega, by rw [List.getD_eq_getElem?_getD, ht]; rfl⟩
  refine ⟨some a, len, cap, l, rfl, ⟨hll, hl, ?_⟩, ?_, hm⟩
  · by_cases h0 : len = 0
    · exact .inl h0
    · obtain ⟨bk, off, spot⟩ := a
      obtain ⟨A0, d0, hc0, _⟩ := (hp 0 (by omega)).1
      have hspot : spot = none := by
        cases spot with
        | none => rfl
        | some sp => simpa [Addr.add] using World.cell?_spot hc0
      subst hspot
      refine .inr ⟨bk, off, rfl, fun i t ht => ?_⟩
      obtain ⟨hi, hg⟩ := hgl i t ht
      obtain ⟨A, d, h1, h2, h3⟩ := (hp i hi).1
      rw [hg] at h1 h2 h3
      rw [add_none13, add_none13] at h1 h2
      refine ⟨A, d, fun j v hj => ?_, h3⟩
      rcases j with _ | _ | j
      · obtain rfl : _ = v := by simpa using hj
        exact h1
      · obtain rfl : _ = v := by simpa using hj
        exact h2
      · simp at hj
  · intro t ht
    obtain ⟨i, hi, rfl⟩ := List.mem_iff_getElem.1 ht
    have := (hp i (by omega)).2
    rw [List.getD_eq_getElem?_getD, List.getElem?_eq_getElem hi] at this
    exact this
end

set_option maxRecDepth 100000 in
theorem pay_open {H : Type} {enc : TypeId × Value → H} {W : World} {base b0 : Nat} {held : Bool} {r : Reach} {v : Value} {d : DataW H} {p : List MemPlace}
    (hv : Value.okWide Tryd.prog W r b0 24 v) (h : ∃ fuel, DataW.trod enc Tryd.prog W base (fun _ => true) held fuel 24 v.cells.toList = some (d, p)) :
    ∃ a n c ts, v = .agg #[.slice a n c] ∧ TiersAt W a n c ts ∧ (∀ t ∈ ts, Ranged t) ∧ c ≤ maxLen := by
  obtain ⟨cs, rfl, _⟩ := okWide_struct Tryd.underlying24 hv
  obtain ⟨fuel, hf⟩ := h
  have hn : Tryd.prog.cellsOf 24 = 1 := by kernel_rfl
  obtain ⟨y0, n, _, hl, h0⟩ := trod_struct1 Tryd.underlying24 hf
  have gl : cs.toList.length = 1 := by rw [← hn]; exact hl
  have g0 : DataW.trod enc Tryd.prog W base (fun _ => true) held n 22 ((cs.toList.drop 0).take 1) = some y0 := h0
  obtain ⟨L, hL⟩ : ∃ L, cs.toList = L := ⟨_, rfl⟩
  have hcs : cs = L.toArray := by rw [← hL]
  clear h0 hl hf hv
  rw [hL] at gl g0
  subst hcs
  match L, gl with
  | [v0], _ =>
    obtain ⟨a, n, c, ts, e, hT, hR, hm⟩ := open_tiers Tryd.underlying22 Tryd.underlying41 (by kernel_rfl) rfl rfl Tryd.underlying39 Tryd.underlying27 Tryd.underlying5 (by kernel_rfl) (by kernel_rfl) (by kernel_rfl) g0
    simp at e
    exact ⟨a, n, c, ts, by rw [e], hT, hR, hm⟩
end Go.Proofs.YtcfachgfgogllaaDoor
