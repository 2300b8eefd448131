/-
  Texts of stages that were proved on their own, joined: BkOpen. Each begins with its own words.
-/
import Derived.Test.YtndodckcncejiaaJBkAll10
import Derived.Test.YtndodckcncejiaaJBkAll25
import Derived.Test.YtndodckcncejiaaJBkAll26
import Derived.Test.YtndodckcncejiaaJBkAll27
import Derived.Test.YtndodckcncejiaaProg

/-
  A block that came in as an argument: its cells and its ids in memory. Laws about the model's own words, and what this program's types say; no Go function is spoken of.
-/
namespace Go.Proofs.Ytndodckcncejiaa
open Go.RowKit Go.Deep Go.ChangeShapes Go.WideShapes

theorem u8_of16 {z : Int} (h : (Lit.int .u8 z).wf = true) : 0 ≤ z ∧ z < 256 := by
  simp [Lit.wf, IntKind.min, IntKind.max, IntKind.signed, IntKind.bits] at h
  omega
theorem list_65 (cs : List Value) (h : cs.length = 65) : cs = (cs.drop 0).take 32 ++ ((cs.drop 32).take 32 ++ (cs.drop 64).take 1) := by
  rw [List.drop_zero, show cs.drop 64 = (cs.drop 32).drop 32 by rw [List.drop_drop], List.take_of_length_le (l := (cs.drop 32).drop 32) (by rw [List.length_drop, List.length_drop]; omega), List.take_append_drop, List.take_append_drop]

section
variable {H : Type} {enc : TypeId × Value → H} {P : Program} {w : World} {base : Nat} {spare : Nat → Bool} {held : Bool} {fuel : Nat} {t : TypeId} {cs : List Value} {x : DataW H × List MemPlace}
/-- A slice of ids, opened. -/
theorem open_ids16 {e q : TypeId} (ht : P.underlying t = some (.slice e)) (he : P.underlying e = some (.array 32 q)) (hq : P.underlying q = some (.int .u8)) (ce : P.cellsOf e = 32) (cq : P.cellsOf q = 1)
    (h : DataW.trod enc P w base spare held fuel t cs = some x) :
    ∃ a n c zs, cs = [.slice a n c] ∧ IdsAt w a n c zs ∧ (∀ z ∈ zs, 0 ≤ z ∧ z < 256) := by
  rcases open_slice ht h with ⟨h0, h1⟩ | ⟨a, len, cap, m, n, D, Pl, rfl, hb, hl, hm, hmm, hx0, hx⟩
  · exact ⟨none, 0, 0, [], h0, ⟨rfl, Nat.le_refl _, .inl rfl⟩, by simp⟩
  have hlm : len ≤ m := by rw [hmm]; split <;> omega
  by_cases h0 : len = 0
  · subst h0
    exact ⟨some a, 0, cap, [], rfl, ⟨rfl, Nat.zero_le _, .inl rfl⟩, by simp⟩
  have each : ∀ i, i < len → ∀ k, k < 32 → ∃ z : Int, w.cell? ((a.add (i * 32)).add k) = some (.int .u8 z) ∧ 0 ≤ z ∧ z < 256 := by
    intro i hi k hk
    obtain ⟨cs', h1, h2⟩ := hx i (by omega)
    rw [ce] at h1
    obtain ⟨_, hlen, hcell⟩ := World.cells?_some h1
    obtain ⟨zs, rfl, hzl, hzw⟩ := open_arr_ints he hq cq ce h2
    refine ⟨zs.getD k 0, ?_, ?_⟩
    · rw [hcell k hk, List.getElem?_map, List.getD_eq_getElem?_getD, List.getElem?_eq_getElem (by omega)]
      rfl
    · refine u8_of16 (hzw _ ?_)
      rw [List.getD_eq_getElem?_getD, List.getElem?_eq_getElem (by omega)]
      exact List.getElem_mem _
  obtain ⟨bk, off, rfl⟩ : ∃ b off, a = ⟨b, off, none⟩ := by
    obtain ⟨z, hz, _⟩ := each 0 (by omega) 0 (by decide)
    obtain ⟨b, off, hb'⟩ := spot_none hz
    rw [Nat.zero_mul] at hb'
    obtain ⟨bk, off', spot⟩ := a
    cases spot with
    | none => exact ⟨_, _, rfl⟩
    | some sp => simp [Addr.add] at hb'
  obtain ⟨ls, hll, hp⟩ := list_of_fn (32 * len) (0 : Int) (fun j z => w.cell? ⟨bk, off + j, none⟩ = some (.int .u8 z) ∧ 0 ≤ z ∧ z < 256) (fun j hj => by
    obtain ⟨z, hz, hr⟩ := each (j / 32) (by omega) (j % 32) (Nat.mod_lt _ (by decide))
    rw [add_none, add_none] at hz
    refine ⟨z, ?_, hr⟩
    rw [← hz]
    congr 2
    omega)
  refine ⟨some ⟨bk, off, none⟩, len, cap, ls, rfl, ⟨hll, hl, .inr ⟨bk, off, rfl, fun i hi => (hp i hi).1⟩⟩, ?_⟩
  intro z hz
  obtain ⟨i, hi, rfl⟩ := List.mem_iff_getElem.1 hz
  have := (hp i (by omega)).2
  rw [List.getD_eq_getElem?_getD, List.getElem?_eq_getElem hi] at this
  exact this

theorem trod_struct3m {f0 f1 f2 : Field} (ht : P.underlying t = some (.struct #[f0, f1, f2])) (h : DataW.trod enc P w base spare held fuel t cs = some x) :
    ∃ (y0 y1 y2 : DataW H × List MemPlace) (n : Nat), cs.length = P.cellsOf t ∧
      DataW.trod enc P w base spare held n f0.type ((cs.drop f0.offset).take (P.cellsOf f0.type)) = some y0 ∧ DataW.trod enc P w base spare held n f1.type ((cs.drop f1.offset).take (P.cellsOf f1.type)) = some y1 ∧
      DataW.trod enc P w base spare held n f2.type ((cs.drop f2.offset).take (P.cellsOf f2.type)) = some y2 := by
  obtain ⟨xs, n, _, rfl, hl, hlen, hf⟩ := DataW.trod_struct ht h
  match xs, hlen with
  | [y0, y1, y2], _ => exact ⟨y0, y1, y2, n, hl, by simpa using hf 0 f0 rfl, by simpa using hf 1 f1 rfl, by simpa using hf 2 f2 rfl⟩
end

set_option maxRecDepth 100000 in
theorem blk_open {H : Type} {enc : TypeId × Value → H} {W : World} {base b0 : Nat} {held : Bool} {r : Reach} {v : Value} {d : DataW H} {p : List MemPlace}
    (hv : Value.okWide Try.prog W r b0 26 v) (h : ∃ fuel, DataW.trod enc Try.prog W base (fun _ => true) held fuel 26 v.cells.toList = some (d, p)) :
    ∃ HH PP a n c zs, v = .agg (bkC HH PP a n c).toArray ∧ BlkOk ⟨HH, PP, n, zs⟩ ∧ IdsAt W a n c zs := by
  obtain ⟨cs, rfl, _⟩ := okWide_struct Try.underlying26 hv
  obtain ⟨fuel, hf⟩ := h
  obtain ⟨y0, y1, y2, n, hl, h0, h1, h2⟩ := trod_struct3m Try.underlying26 hf
  have gl : cs.toList.length = 65 := by rw [← (show Try.prog.cellsOf 26 = 65 by kernel_rfl)]; exact hl
  have g0 : DataW.trod enc Try.prog W base (fun _ => true) held n 23 ((cs.toList.drop 0).take 32) = some y0 := h0
  have g1 : DataW.trod enc Try.prog W base (fun _ => true) held n 23 ((cs.toList.drop 32).take 32) = some y1 := h1
  have g2 : DataW.trod enc Try.prog W base (fun _ => true) held n 24 ((cs.toList.drop 64).take 1) = some y2 := h2
  obtain ⟨L, hL⟩ : ∃ L, cs.toList = L := ⟨_, rfl⟩
  have hcs : cs = L.toArray := by rw [← hL]
  clear h0 h1 h2 hl hf hv
  rw [hL] at gl g0 g1 g2
  subst hcs
  obtain ⟨HH, q0, il, iw⟩ := open_arr_ints Try.underlying23 Try.underlying5 (by kernel_rfl) (by kernel_rfl) g0
  obtain ⟨PP, q1, jl, jw⟩ := open_arr_ints Try.underlying23 Try.underlying5 (by kernel_rfl) (by kernel_rfl) g1
  obtain ⟨a, m, c, zs, q2, hT, hz⟩ := open_ids16 Try.underlying24 Try.underlying23 Try.underlying5 (by kernel_rfl) (by kernel_rfl) g2
  refine ⟨HH, PP, a, m, c, zs, ?_, ⟨il, jl, hT.1, fun y hy => u8_of16 (iw y hy), fun y hy => u8_of16 (jw y hy), hz⟩, hT⟩
  rw [list_65 L gl, q0, q1, q2]
  rfl
end Go.Proofs.Ytndodckcncejiaa
