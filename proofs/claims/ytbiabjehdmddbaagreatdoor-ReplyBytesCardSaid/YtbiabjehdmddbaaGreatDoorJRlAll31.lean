/-
  Texts of stages that were proved on their own, joined: RlOpen. Each begins with its own words.
-/
import Derived.Test.YtbiabjehdmddbaaGreatDoorJRlAll5
import Derived.Test.YtbiabjehdmddbaaGreatDoorJRlAll29
import Derived.Test.YtbiabjehdmddbaaGreatDoorJRlAll30
import Derived.Test.YtbiabjehdmddbaaGreatDoorProg

/-
  A reply that came in as an argument. Laws about the model's own words, and what this program's types say; no Go function is spoken of.
-/
namespace Go.Proofs.YtbiabjehdmddbaaGreatDoor
open Go.RowKit Go.Deep Go.ChangeShapes Go.WideShapes

theorem u32_of15 {z : Int} (h : (Lit.int .u32 z).wf = true) : 0 ≤ z ∧ z < 4294967296 := by
  simp [Lit.wf, IntKind.min, IntKind.max, IntKind.signed, IntKind.bits] at h
  omega
theorem list_7 (cs : List Value) (h : cs.length = 7) : cs = (cs.drop 0).take 1 ++ ((cs.drop 1).take 1 ++ ((cs.drop 2).take 1 ++ ((cs.drop 3).take 1 ++ ((cs.drop 4).take 1 ++ ((cs.drop 5).take 1 ++ (cs.drop 6).take 1))))) := by
  match cs, h with
  | [_, _, _, _, _, _, _], _ => rfl

section
variable {H : Type} {enc : TypeId × Value → H} {P : Program} {w : World} {base : Nat} {spare : Nat → Bool} {held : Bool} {fuel : Nat} {t : TypeId} {cs : List Value} {x : DataW H × List MemPlace}
theorem trod_struct7 {f0 f1 f2 f3 f4 f5 f6 : Field} (ht : P.underlying t = some (.struct #[f0, f1, f2, f3, f4, f5, f6])) (h : DataW.trod enc P w base spare held fuel t cs = some x) :
    ∃ (y0 y1 y2 y3 y4 y5 y6 : DataW H × List MemPlace) (n : Nat), cs.length = P.cellsOf t ∧
      DataW.trod enc P w base spare held n f0.type ((cs.drop f0.offset).take (P.cellsOf f0.type)) = some y0 ∧ DataW.trod enc P w base spare held n f1.type ((cs.drop f1.offset).take (P.cellsOf f1.type)) = some y1 ∧
      DataW.trod enc P w base spare held n f2.type ((cs.drop f2.offset).take (P.cellsOf f2.type)) = some y2 ∧ DataW.trod enc P w base spare held n f3.type ((cs.drop f3.offset).take (P.cellsOf f3.type)) = some y3 ∧
      DataW.trod enc P w base spare held n f4.type ((cs.drop f4.offset).take (P.cellsOf f4.type)) = some y4 ∧ DataW.trod enc P w base spare held n f5.type ((cs.drop f5.offset).take (P.cellsOf f5.type)) = some y5 ∧
      DataW.trod enc P w base spare held n f6.type ((cs.drop f6.offset).take (P.cellsOf f6.type)) = some y6 := by
  obtain ⟨xs, n, _, rfl, hl, hlen, hf⟩ := DataW.trod_struct ht h
  match xs, hlen with
  | [y0, y1, y2, y3, y4, y5, y6], _ => exact ⟨y0, y1, y2, y3, y4, y5, y6, n, hl, by simpa using hf 0 f0 rfl, by simpa using hf 1 f1 rfl, by simpa using hf 2 f2 rfl, by simpa using hf 3 f3 rfl, by simpa using hf 4 f4 rfl, by simpa using hf 5 f5 rfl, by simpa using hf 6 f6 rfl⟩
end

set_option maxRecDepth 100000 in
theorem rpl_open {H : Type} {enc : TypeId × Value → H} {W : World} {base b0 : Nat} {spare : Nat → Bool} {held : Bool} {r : Reach} {v : Value} {d : DataW H} {p : List MemPlace}
    (hv : Value.okWide Tryz.prog W r b0 26 v) (h : ∃ fuel, DataW.trod enc Tryz.prog W base spare held fuel 26 v.cells.toList = some (d, p)) :
    ∃ K E S Q O U X : Int, v = .agg (rpC K E S Q O U X).toArray ∧ RplOk ⟨K, E, S, Q, O, U, X⟩ := by
  obtain ⟨cs, rfl, _⟩ := okWide_struct Tryz.underlying26 hv
  obtain ⟨fuel, hf⟩ := h
  obtain ⟨y0, y1, y2, y3, y4, y5, y6, n, hl, h0, h1, h2, h3, h4, h5, h6⟩ := trod_struct7 Tryz.underlying26 hf
  have gl : cs.toList.length = 7 := by rw [← (show Tryz.prog.cellsOf 26 = 7 by kernel_rfl)]; exact hl
  have g0 : DataW.trod enc Tryz.prog W base spare held n 22 ((cs.toList.drop 0).take 1) = some y0 := h0
  have g1 : DataW.trod enc Tryz.prog W base spare held n 23 ((cs.toList.drop 1).take 1) = some y1 := h1
  have g2 : DataW.trod enc Tryz.prog W base spare held n 24 ((cs.toList.drop 2).take 1) = some y2 := h2
  have g3 : DataW.trod enc Tryz.prog W base spare held n 24 ((cs.toList.drop 3).take 1) = some y3 := h3
  have g4 : DataW.trod enc Tryz.prog W base spare held n 24 ((cs.toList.drop 4).take 1) = some y4 := h4
  have g5 : DataW.trod enc Tryz.prog W base spare held n 24 ((cs.toList.drop 5).take 1) = some y5 := h5
  have g6 : DataW.trod enc Tryz.prog W base spare held n 24 ((cs.toList.drop 6).take 1) = some y6 := h6
  obtain ⟨L, hL⟩ : ∃ L, cs.toList = L := ⟨_, rfl⟩
  have hcs : cs = L.toArray := by rw [← hL]
  clear h0 h1 h2 h3 h4 h5 h6 hl hf hv
  rw [hL] at gl g0 g1 g2 g3 g4 g5 g6
  subst hcs
  obtain ⟨K, q0, _, _⟩ := DataW.trod_int Tryz.underlying22 g0
  obtain ⟨E, q1, _, _⟩ := DataW.trod_int Tryz.underlying23 g1
  obtain ⟨S, q2, _, w2⟩ := DataW.trod_int Tryz.underlying24 g2
  obtain ⟨Q, q3, _, w3⟩ := DataW.trod_int Tryz.underlying24 g3
  obtain ⟨O, q4, _, w4⟩ := DataW.trod_int Tryz.underlying24 g4
  obtain ⟨U, q5, _, w5⟩ := DataW.trod_int Tryz.underlying24 g5
  obtain ⟨X, q6, _, w6⟩ := DataW.trod_int Tryz.underlying24 g6
  refine ⟨K, E, S, Q, O, U, X, ?_, ?_⟩
  · rw [list_7 L gl, q0, q1, q2, q3, q4, q5, q6]
    rfl
  · intro x hx
    simp only [numsR, List.mem_cons, List.mem_nil_iff, or_false] at hx
    rcases hx with rfl | rfl | rfl | rfl | rfl
    · exact u32_of15 w2
    · exact u32_of15 w3
    · exact u32_of15 w4
    · exact u32_of15 w5
    · exact u32_of15 w6
end Go.Proofs.YtbiabjehdmddbaaGreatDoor
