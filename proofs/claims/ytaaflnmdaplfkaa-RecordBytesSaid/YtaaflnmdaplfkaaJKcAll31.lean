/-
  Texts of stages that were proved on their own, joined: BkOpen, KcOpen. Each begins with its own words.
-/
import Derived.Test.YtaaflnmdaplfkaaJKcAll10
import Derived.Test.YtaaflnmdaplfkaaJKcAll28
import Derived.Test.YtaaflnmdaplfkaaJKcAll29
import Derived.Test.YtaaflnmdaplfkaaJKcAll30
import Derived.Test.YtaaflnmdaplfkaaProg

/-
  A block that came in as an argument: its cells and its ids in memory. Laws about the model's own words, and what this program's types say; no Go function is spoken of.
-/
namespace Go.Proofs.Ytaaflnmdaplfkaa
open Go.RowKit Go.Deep Go.ChangeShapes Go.WideShapes

theorem u8_of16 {z : Int} (h : (Lit.int .u8 z).wf = true) : 0 ≤ z ∧ z < 256 := by
  simp [Lit.wf, IntKind.min, IntKind.max, IntKind.signed, IntKind.bits] at h
  omega
theorem list_65 (cs : List Value) (h : cs.length = 65) : cs = (cs.drop 0).take 32 ++ ((cs.drop 32).take 32 ++ (cs.drop 64).take 1) := by
  rw [List.drop_zero, show cs.drop 64 = (cs.drop 32).drop 32 by rw [List.drop_drop], List.take_of_length_le (l := (cs.drop 32).drop 32) (by rw [List.length_drop, List.length_drop]; omega), List.take_append_drop, List.take_append_drop]

section
variable {H : Type} {enc : TypeId × Value → H} {P : Program} {w : World} {base : Nat} {spare : Nat → Bool} {held : Bool} {fuel : Nat} {t : TypeId} {cs : List Value} {x : DataW H × List MemPlace}
/-- A slice of ids, opened. -/
theorem open_ids16 {e q : TypeId} (ht : P.underlying t = some (.slice e)) (he : P.underlying e = some (.array 32 q)) (hq : P.underlying q = some (.int .u8)) (ce : P.cellsOf e = 32) (cq : P.cellsOf q = 1)
    (h : DataW.trod enc P w base spare held fuel t cs = some x) :
    ∃ a n c zs, cs = [.slice a n c] ∧ IdsAt w a n c zs ∧ (∀ z ∈ zs, 0 ≤ z ∧ z < 256) := by
  rcases open_slice ht h with ⟨h0, h1⟩ | ⟨a, len, cap, m, n, D, Pl, rfl, hb, hl, hm, hmm, hx0, hx⟩
  · exact ⟨none, 0, 0, [], h0, ⟨rfl, Nat.le_refl _, .inl rfl⟩, by simp⟩
  have hlm : len ≤ m := by rw [hmm]; split <;> omega
  by_cases h0 : len = 0
  · subst h0
    exact ⟨some a, 0, cap, [], rfl, ⟨rfl, Nat.zero_le _, .inl rfl⟩, by simp⟩
  have each : ∀ i, i < len → ∀ k, k < 32 → ∃ z : Int, w.cell? ((a.add (i * 32)).add k) = some (.int .u8 z) ∧ 0 ≤ z ∧ z < 256 := by
    intro i hi k hk
    obtain ⟨cs', h1, h2⟩ := hx i (by omega)
    rw [ce] at h1
    obtain ⟨_, hlen, hcell⟩ := World.cells?_some h1
    obtain ⟨zs, rfl, hzl, hzw⟩ := open_arr_ints he hq cq ce h2
    refine ⟨zs.getD k 0, ?_, ?_⟩
    · rw [hcell k hk, List.getElem?_map, List.getD_eq_getElem?_getD, List.getElem?_eq_getElem (by omega)]
      rfl
    · refine u8_of16 (hzw _ ?_)
      rw [List.getD_eq_getElem?_getD, List.getElem?_eq_getElem (by omega)]
      exact List.getElem_mem _
  obtain ⟨bk, off, rfl⟩ : ∃ b off, a = ⟨b, off, none⟩ := by
    obtain ⟨z, hz, _⟩ := each 0 (by omega) 0 (by decide)
    obtain ⟨b, off, hb'⟩ := spot_none hz
    rw [Nat.zero_mul] at hb'
    obtain ⟨bk, off', spot⟩ := a
    cases spot with
    | none => exact ⟨_, _, rfl⟩
    | some sp => simp [Addr.add] at hb'
  obtain ⟨ls, hll, hp⟩ := list_of_fn (32 * len) (0 : Int) (fun j z => w.cell? ⟨bk, off + j, none⟩ = some (.int .u8 z) ∧ 0 ≤ z ∧ z < 256) (fun j hj => by
    obtain ⟨z, hz, hr⟩ := each (j / 32) (by omega) (j % 32) (Nat.mod_lt _ (by decide))
    rw [add_none, add_none] at hz
    refine ⟨z, ?_, hr⟩
    rw [← hz]
    congr 2
    omega)
  refine ⟨some ⟨bk, off, none⟩, len, cap, ls, rfl, ⟨hll, hl, .inr ⟨bk, off, rfl, fun i hi => (hp i hi).1⟩⟩, ?_⟩
  intro z hz
  obtain ⟨i, hi, rfl⟩ := List.mem_iff_getElem.1 hz
  have := (hp i (by omega)).2
  rw [List.getD_eq_getElem?_getD, List.getElem?_eq_getElem hi] at this
  exact this

theorem trod_struct3m {f0 f1 f2 : Field} (ht : P.underlying t = some (.struct #[f0, f1, f2])) (h : DataW.trod enc P w base spare held fuel t cs = some x) :
    ∃ (y0 y1 y2 : DataW H × List MemPlace) (n : Nat), cs.length = P.cellsOf t ∧
      DataW.trod enc P w base spare held n f0.type ((cs.drop f0.offset).take (P.cellsOf f0.type)) = some y0 ∧ DataW.trod enc P w base spare held n f1.type ((cs.drop f1.offset).take (P.cellsOf f1.type)) = some y1 ∧
      DataW.trod enc P w base spare held n f2.type ((cs.drop f2.offset).take (P.cellsOf f2.type)) = some y2 := by
  obtain ⟨xs, n, _, rfl, hl, hlen, hf⟩ := DataW.trod_struct ht h
  match xs, hlen with
  | [y0, y1, y2], _ => exact ⟨y0, y1, y2, n, hl, by simpa using hf 0 f0 rfl, by simpa using hf 1 f1 rfl, by simpa using hf 2 f2 rfl⟩
end

set_option maxRecDepth 100000 in
theorem blk_open {H : Type} {enc : TypeId × Value → H} {W : World} {base b0 : Nat} {held : Bool} {r : Reach} {v : Value} {d : DataW H} {p : List MemPlace}
    (hv : Value.okWide Try.prog W r b0 31 v) (h : ∃ fuel, DataW.trod enc Try.prog W base (fun _ => true) held fuel 31 v.cells.toList = some (d, p)) :
    ∃ HH PP a n c zs, v = .agg (bkC HH PP a n c).toArray ∧ BlkOk ⟨HH, PP, n, zs⟩ ∧ IdsAt W a n c zs := by
  obtain ⟨cs, rfl, _⟩ := okWide_struct Try.underlying31 hv
  obtain ⟨fuel, hf⟩ := h
  obtain ⟨y0, y1, y2, n, hl, h0, h1, h2⟩ := trod_struct3m Try.underlying31 hf
  have gl : cs.toList.length = 65 := by rw [← (show Try.prog.cellsOf 31 = 65 by kernel_rfl)]; exact hl
  have g0 : DataW.trod enc Try.prog W base (fun _ => true) held n 28 ((cs.toList.drop 0).take 32) = some y0 := h0
  have g1 : DataW.trod enc Try.prog W base (fun _ => true) held n 28 ((cs.toList.drop 32).take 32) = some y1 := h1
  have g2 : DataW.trod enc Try.prog W base (fun _ => true) held n 29 ((cs.toList.drop 64).take 1) = some y2 := h2
  obtain ⟨L, hL⟩ : ∃ L, cs.toList = L := ⟨_, rfl⟩
  have hcs : cs = L.toArray := by rw [← hL]
  clear h0 h1 h2 hl hf hv
  rw [hL] at gl g0 g1 g2
  subst hcs
  obtain ⟨HH, q0, il, iw⟩ := open_arr_ints Try.underlying28 Try.underlying5 (by kernel_rfl) (by kernel_rfl) g0
  obtain ⟨PP, q1, jl, jw⟩ := open_arr_ints Try.underlying28 Try.underlying5 (by kernel_rfl) (by kernel_rfl) g1
  obtain ⟨a, m, c, zs, q2, hT, hz⟩ := open_ids16 Try.underlying29 Try.underlying28 Try.underlying5 (by kernel_rfl) (by kernel_rfl) g2
  refine ⟨HH, PP, a, m, c, zs, ?_, ⟨il, jl, hT.1, fun y hy => u8_of16 (iw y hy), fun y hy => u8_of16 (jw y hy), hz⟩, hT⟩
  rw [list_65 L gl, q0, q1, q2]
  rfl
end Go.Proofs.Ytaaflnmdaplfkaa

/-
  A record that came in as an argument: its cells, its blob and its ids in memory. Laws about the model's own words, and what this program's types say; no Go function is spoken of.
-/
namespace Go.Proofs.Ytaaflnmdaplfkaa
open Go.RowKit Go.Deep Go.ChangeShapes Go.WideShapes

theorem u32_of17 {z : Int} (h : (Lit.int .u32 z).wf = true) : 0 ≤ z ∧ z < 4294967296 := by
  simp [Lit.wf, IntKind.min, IntKind.max, IntKind.signed, IntKind.bits] at h
  omega
theorem list_86 (cs : List Value) (h : cs.length = 86) : cs = (cs.drop 0).take 1 ++ ((cs.drop 1).take 1 ++ ((cs.drop 2).take 1 ++ ((cs.drop 3).take 1 ++ ((cs.drop 4).take 16 ++ ((cs.drop 20).take 1 ++ (cs.drop 21).take 65))))) := by
  have step : ∀ a b : Nat, (cs.drop a).take b ++ cs.drop (a + b) = cs.drop a := fun a b => by rw [← List.drop_drop]; exact List.take_append_drop _ _
  have e6 : (cs.drop 21).take 65 = cs.drop 21 := List.take_of_length_le (by rw [List.length_drop]; omega)
  rw [e6, step 20 1, step 4 16, step 3 1, step 2 1, step 1 1, step 0 1, List.drop_zero]

section
variable {H : Type} {enc : TypeId × Value → H} {P : Program} {w : World} {base : Nat} {spare : Nat → Bool} {held : Bool} {fuel : Nat} {t : TypeId} {cs : List Value} {x : DataW H × List MemPlace}
theorem trod_struct7m {f0 f1 f2 f3 f4 f5 f6 : Field} (ht : P.underlying t = some (.struct #[f0, f1, f2, f3, f4, f5, f6])) (h : DataW.trod enc P w base spare held fuel t cs = some x) :
    ∃ (y0 y1 y2 y3 y4 y5 y6 : DataW H × List MemPlace) (n : Nat), cs.length = P.cellsOf t ∧
      DataW.trod enc P w base spare held n f0.type ((cs.drop f0.offset).take (P.cellsOf f0.type)) = some y0 ∧ DataW.trod enc P w base spare held n f1.type ((cs.drop f1.offset).take (P.cellsOf f1.type)) = some y1 ∧
      DataW.trod enc P w base spare held n f2.type ((cs.drop f2.offset).take (P.cellsOf f2.type)) = some y2 ∧ DataW.trod enc P w base spare held n f3.type ((cs.drop f3.offset).take (P.cellsOf f3.type)) = some y3 ∧
      DataW.trod enc P w base spare held n f4.type ((cs.drop f4.offset).take (P.cellsOf f4.type)) = some y4 ∧ DataW.trod enc P w base spare held n f5.type ((cs.drop f5.offset).take (P.cellsOf f5.type)) = some y5 ∧
      DataW.trod enc P w base spare held n f6.type ((cs.drop f6.offset).take (P.cellsOf f6.type)) = some y6 := by
  obtain ⟨xs, n, _, rfl, hl, hlen, hf⟩ := DataW.trod_struct ht h
  match xs, hlen with
  | [y0, y1, y2, y3, y4, y5, y6], _ => exact ⟨y0, y1, y2, y3, y4, y5, y6, n, hl, by simpa using hf 0 f0 rfl, by simpa using hf 1 f1 rfl, by simpa using hf 2 f2 rfl, by simpa using hf 3 f3 rfl, by simpa using hf 4 f4 rfl, by simpa using hf 5 f5 rfl, by simpa using hf 6 f6 rfl⟩
end

set_option maxRecDepth 100000 in
theorem blk_cells {H : Type} {enc : TypeId × Value → H} {W : World} {base fuel : Nat} {held : Bool} {L : List Value} {y : DataW H × List MemPlace}
    (h : DataW.trod enc Try.prog W base (fun _ => true) held fuel 31 L = some y) :
    ∃ HH PP a n c zs, L = bkC HH PP a n c ∧ BlkOk ⟨HH, PP, n, zs⟩ ∧ IdsAt W a n c zs := by
  obtain ⟨y0, y1, y2, n, hl, h0, h1, h2⟩ := trod_struct3m Try.underlying31 h
  have gl : L.length = 65 := by rw [← (show Try.prog.cellsOf 31 = 65 by kernel_rfl)]; exact hl
  have g0 : DataW.trod enc Try.prog W base (fun _ => true) held n 28 ((L.drop 0).take 32) = some y0 := h0
  have g1 : DataW.trod enc Try.prog W base (fun _ => true) held n 28 ((L.drop 32).take 32) = some y1 := h1
  have g2 : DataW.trod enc Try.prog W base (fun _ => true) held n 29 ((L.drop 64).take 1) = some y2 := h2
  clear h0 h1 h2 hl
  obtain ⟨HH, q0, il, iw⟩ := open_arr_ints Try.underlying28 Try.underlying5 (by kernel_rfl) (by kernel_rfl) g0
  obtain ⟨PP, q1, jl, jw⟩ := open_arr_ints Try.underlying28 Try.underlying5 (by kernel_rfl) (by kernel_rfl) g1
  obtain ⟨a, m, c, zs, q2, hT, hz⟩ := open_ids16 Try.underlying29 Try.underlying28 Try.underlying5 (by kernel_rfl) (by kernel_rfl) g2
  refine ⟨HH, PP, a, m, c, zs, ?_, ⟨il, jl, hT.1, fun y hy => u8_of16 (iw y hy), fun y hy => u8_of16 (jw y hy), hz⟩, hT⟩
  rw [list_65 L gl, q0, q1, q2]
  rfl

set_option maxRecDepth 100000 in
theorem rec_open {H : Type} {enc : TypeId × Value → H} {W : World} {base b0 : Nat} {held : Bool} {rch : Reach} {v : Value} {dd : DataW H} {p : List MemPlace}
    (hv : Value.okWide Try.prog W rch b0 33 v) (h : ∃ fuel, DataW.trod enc Try.prog W base (fun _ => true) held fuel 33 v.cells.toList = some (dd, p)) :
    ∃ r a b c d, v = .agg (rC r a c b d).toArray ∧ RecOk r ∧ RecAt W r a c b d := by
  obtain ⟨cs, rfl, _⟩ := okWide_struct Try.underlying33 hv
  obtain ⟨fuel, hf⟩ := h
  obtain ⟨y0, y1, y2, y3, y4, y5, y6, n, hl, h0, h1, h2, h3, h4, h5, h6⟩ := trod_struct7m Try.underlying33 hf
  have gl : cs.toList.length = 86 := by rw [← (show Try.prog.cellsOf 33 = 86 by kernel_rfl)]; exact hl
  have g0 : DataW.trod enc Try.prog W base (fun _ => true) held n 22 ((cs.toList.drop 0).take 1) = some y0 := h0
  have g1 : DataW.trod enc Try.prog W base (fun _ => true) held n 23 ((cs.toList.drop 1).take 1) = some y1 := h1
  have g2 : DataW.trod enc Try.prog W base (fun _ => true) held n 23 ((cs.toList.drop 2).take 1) = some y2 := h2
  have g3 : DataW.trod enc Try.prog W base (fun _ => true) held n 23 ((cs.toList.drop 3).take 1) = some y3 := h3
  have g4 : DataW.trod enc Try.prog W base (fun _ => true) held n 25 ((cs.toList.drop 4).take 16) = some y4 := h4
  have g5 : DataW.trod enc Try.prog W base (fun _ => true) held n 26 ((cs.toList.drop 20).take 1) = some y5 := h5
  have g6 : DataW.trod enc Try.prog W base (fun _ => true) held n 31 ((cs.toList.drop 21).take 65) = some y6 := h6
  obtain ⟨L, hL⟩ : ∃ L, cs.toList = L := ⟨_, rfl⟩
  have hcs : cs = L.toArray := by rw [← hL]
  clear h0 h1 h2 h3 h4 h5 h6 hl hf hv
  rw [hL] at gl g0 g1 g2 g3 g4 g5 g6
  subst hcs
  obtain ⟨K, q0, _, _⟩ := DataW.trod_int Try.underlying22 g0
  obtain ⟨S, q1, _, w1⟩ := DataW.trod_int Try.underlying23 g1
  obtain ⟨Q, q2, _, w2⟩ := DataW.trod_int Try.underlying23 g2
  obtain ⟨O, q3, _, w3⟩ := DataW.trod_int Try.underlying23 g3
  obtain ⟨HH, q4, il, iw⟩ := open_arr_ints Try.underlying25 Try.underlying5 (by kernel_rfl) (by kernel_rfl) g4
  obtain ⟨Hb, Pb, b, m, d, zs, q6, hbk, hT⟩ := blk_cells g6
  have fin : ∀ (a : Option Addr) (l c : Nat) (xs : List Int), (L.drop 20).take 1 = [.slice a l c] → Ints .u8 W a l c xs → (∀ x ∈ xs, 0 ≤ x ∧ x < 256) → ∃ r a b c d, Value.agg L.toArray = .agg (rC r a c b d).toArray ∧ RecOk r ∧ RecAt W r a c b d := by
    intro a l c xs e hI hr
    have hl := hI.len
    subst hl
    refine ⟨⟨⟨K, S, Q, O, HH, xs⟩, ⟨Hb, Pb, m, zs⟩⟩, a, b, c, d, ?_, ⟨⟨u32_of17 w1, u32_of17 w2, u32_of17 w3, il, fun y hy => u8_of16 (iw y hy), hr⟩, hbk⟩, ⟨hI, hT⟩⟩
    rw [list_86 L gl, q0, q1, q2, q3, q4, e, q6]
    unfold rC rcC msC hdC
    simp
  rcases open_ints Try.underlying26 Try.underlying5 (by kernel_rfl) g5 with ⟨e, _⟩ | ⟨x, l, c, zs', e, _, hlc, hm, hz, _, hcell, hwz⟩
  · exact fin none 0 0 [] e ⟨rfl, Nat.le_refl _, .inl rfl⟩ (by simp)
  · exact fin (some x) l c (zs'.take l) e (Ints.of_open hlc (by simpa using hz) hcell) (fun y hy => u8_of16 (hwz y (List.mem_of_mem_take hy)))
end Go.Proofs.Ytaaflnmdaplfkaa
