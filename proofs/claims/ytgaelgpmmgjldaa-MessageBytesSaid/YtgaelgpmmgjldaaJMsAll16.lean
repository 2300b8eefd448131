/-
  Texts of stages that were proved on their own, joined: MsOpen. Each begins with its own words.
-/
import Derived.Test.YtgaelgpmmgjldaaJMsAll6
import Derived.Test.YtgaelgpmmgjldaaJMsAll14
import Derived.Test.YtgaelgpmmgjldaaJMsAll15
import Derived.Test.YtgaelgpmmgjldaaProg

/-
  A message that came in as an argument: its cells and its blob in memory. Laws about the model's own words, and what this program's types say; no Go function is spoken of.
-/
namespace Go.Proofs.Ytgaelgpmmgjldaa
open Go.RowKit Go.Deep Go.ChangeShapes Go.WideShapes

theorem u8_of14 {z : Int} (h : (Lit.int .u8 z).wf = true) : 0 ≤ z ∧ z < 256 := by
  simp [Lit.wf, IntKind.min, IntKind.max, IntKind.signed, IntKind.bits] at h
  omega
theorem u32_of14 {z : Int} (h : (Lit.int .u32 z).wf = true) : 0 ≤ z ∧ z < 4294967296 := by
  simp [Lit.wf, IntKind.min, IntKind.max, IntKind.signed, IntKind.bits] at h
  omega
theorem list_21 (cs : List Value) (h : cs.length = 21) : cs = (cs.drop 0).take 1 ++ ((cs.drop 1).take 1 ++ ((cs.drop 2).take 1 ++ ((cs.drop 3).take 1 ++ ((cs.drop 4).take 16 ++ (cs.drop 20).take 1)))) := by
  apply List.ext_getElem?
  intro i
  simp only [List.getElem?_append, List.length_take, List.length_drop, h, List.getElem?_take, List.getElem?_drop]
  by_cases h21 : i < 21
  · repeat' split
    all_goals first | omega | (congr 1; omega) | skip
  · rw [List.getElem?_eq_none (by omega)]
    repeat' split
    all_goals first | omega | rfl | skip
    all_goals (symm; apply List.getElem?_eq_none; omega)

section
variable {H : Type} {enc : TypeId × Value → H} {P : Program} {w : World} {base : Nat} {spare : Nat → Bool} {held : Bool} {fuel : Nat} {t : TypeId} {cs : List Value} {x : DataW H × List MemPlace}
theorem trod_struct6m {f0 f1 f2 f3 f4 f5 : Field} (ht : P.underlying t = some (.struct #[f0, f1, f2, f3, f4, f5])) (h : DataW.trod enc P w base spare held fuel t cs = some x) :
    ∃ (y0 y1 y2 y3 y4 y5 : DataW H × List MemPlace) (n : Nat), cs.length = P.cellsOf t ∧
      DataW.trod enc P w base spare held n f0.type ((cs.drop f0.offset).take (P.cellsOf f0.type)) = some y0 ∧ DataW.trod enc P w base spare held n f1.type ((cs.drop f1.offset).take (P.cellsOf f1.type)) = some y1 ∧
      DataW.trod enc P w base spare held n f2.type ((cs.drop f2.offset).take (P.cellsOf f2.type)) = some y2 ∧ DataW.trod enc P w base spare held n f3.type ((cs.drop f3.offset).take (P.cellsOf f3.type)) = some y3 ∧
      DataW.trod enc P w base spare held n f4.type ((cs.drop f4.offset).take (P.cellsOf f4.type)) = some y4 ∧ DataW.trod enc P w base spare held n f5.type ((cs.drop f5.offset).take (P.cellsOf f5.type)) = some y5 := by
  obtain ⟨xs, n, _, rfl, hl, hlen, hf⟩ := DataW.trod_struct ht h
  match xs, hlen with
  | [y0, y1, y2, y3, y4, y5], _ => exact ⟨y0, y1, y2, y3, y4, y5, n, hl, by simpa using hf 0 f0 rfl, by simpa using hf 1 f1 rfl, by simpa using hf 2 f2 rfl, by simpa using hf 3 f3 rfl, by simpa using hf 4 f4 rfl, by simpa using hf 5 f5 rfl⟩
end

set_option maxRecDepth 100000 in
theorem msg_open {H : Type} {enc : TypeId × Value → H} {W : World} {base b0 : Nat} {held : Bool} {r : Reach} {v : Value} {d : DataW H} {p : List MemPlace}
    (hv : Value.okWide Try.prog W r b0 28 v) (h : ∃ fuel, DataW.trod enc Try.prog W base (fun _ => true) held fuel 28 v.cells.toList = some (d, p)) :
    ∃ K S Q O HH a n c xs, v = .agg (msC K S Q O HH a n c).toArray ∧ MsgOk ⟨K, S, Q, O, HH, xs⟩ ∧ Ints .u8 W a n c xs := by
  obtain ⟨cs, rfl, _⟩ := okWide_struct Try.underlying28 hv
  obtain ⟨fuel, hf⟩ := h
  obtain ⟨y0, y1, y2, y3, y4, y5, n, hl, h0, h1, h2, h3, h4, h5⟩ := trod_struct6m Try.underlying28 hf
  have gl : cs.toList.length = 21 := by rw [← (show Try.prog.cellsOf 28 = 21 by kernel_rfl)]; exact hl
  have g0 : DataW.trod enc Try.prog W base (fun _ => true) held n 22 ((cs.toList.drop 0).take 1) = some y0 := h0
  have g1 : DataW.trod enc Try.prog W base (fun _ => true) held n 23 ((cs.toList.drop 1).take 1) = some y1 := h1
  have g2 : DataW.trod enc Try.prog W base (fun _ => true) held n 23 ((cs.toList.drop 2).take 1) = some y2 := h2
  have g3 : DataW.trod enc Try.prog W base (fun _ => true) held n 23 ((cs.toList.drop 3).take 1) = some y3 := h3
  have g4 : DataW.trod enc Try.prog W base (fun _ => true) held n 25 ((cs.toList.drop 4).take 16) = some y4 := h4
  have g5 : DataW.trod enc Try.prog W base (fun _ => true) held n 26 ((cs.toList.drop 20).take 1) = some y5 := h5
  obtain ⟨L, hL⟩ : ∃ L, cs.toList = L := ⟨_, rfl⟩
  have hcs : cs = L.toArray := by rw [← hL]
  clear h0 h1 h2 h3 h4 h5 hl hf hv
  rw [hL] at gl g0 g1 g2 g3 g4 g5
  subst hcs
  obtain ⟨K, q0, _, _⟩ := DataW.trod_int Try.underlying22 g0
  obtain ⟨S, q1, _, w1⟩ := DataW.trod_int Try.underlying23 g1
  obtain ⟨Q, q2, _, w2⟩ := DataW.trod_int Try.underlying23 g2
  obtain ⟨O, q3, _, w3⟩ := DataW.trod_int Try.underlying23 g3
  obtain ⟨HH, q4, il, iw⟩ := open_arr_ints Try.underlying25 Try.underlying5 (by kernel_rfl) (by kernel_rfl) g4
  have fin : ∀ (a : Option Addr) (l c : Nat) (xs : List Int), (L.drop 20).take 1 = [.slice a l c] → Ints .u8 W a l c xs → (∀ x ∈ xs, 0 ≤ x ∧ x < 256) → ∃ K S Q O HH a n c xs, Value.agg L.toArray = .agg (msC K S Q O HH a n c).toArray ∧ MsgOk ⟨K, S, Q, O, HH, xs⟩ ∧ Ints .u8 W a n c xs := by
    intro a l c xs e hI hr
    refine ⟨K, S, Q, O, HH, a, l, c, xs, ?_, ⟨u32_of14 w1, u32_of14 w2, u32_of14 w3, il, fun y hy => u8_of14 (iw y hy), hr⟩, hI⟩
    rw [list_21 L gl, q0, q1, q2, q3, q4, e]
    rfl
  rcases open_ints Try.underlying26 Try.underlying5 (by kernel_rfl) g5 with ⟨e, _⟩ | ⟨x, l, c, zs, e, _, hlc, hm, hz, _, hcell, hwz⟩
  · exact fin none 0 0 [] e ⟨rfl, Nat.le_refl _, .inl rfl⟩ (by simp)
  · exact fin (some x) l c (zs.take l) e (Ints.of_open hlc (by simpa using hz) hcell) (fun y hy => u8_of14 (hwz y (List.mem_of_mem_take hy)))
end Go.Proofs.Ytgaelgpmmgjldaa
