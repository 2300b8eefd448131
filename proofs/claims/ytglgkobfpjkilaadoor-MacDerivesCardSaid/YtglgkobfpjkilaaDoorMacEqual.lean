/-
  The law MacEqual comes to true, whatever two slices of bytes; only new memory is written. Conditions: each byte is a number from 0 to 255; the package's variables hold the constants and the starts.
-/
import Derived.Test.YtglgkobfpjkilaaDoorMacAlive
namespace Go.Proofs.YtglgkobfpjkilaaDoor
open Go.RowKit

theorem wf_byte3 {a : Int} (h : (Lit.int .u8 a).wf = true) : 0 ≤ a ∧ a < 256 := by
  simp only [Lit.wf, Bool.and_eq_true, decide_eq_true_eq] at h
  have h1 : IntKind.u8.min = 0 := rfl
  have h2 : IntKind.u8.max = 255 := rfl
  omega

set_option maxRecDepth 100000 in
set_option maxHeartbeats 800000 in
theorem law_MacEqual (a : Option Addr) (n ca : Nat) (xs : List Int) (b : Option Addr) (m cb : Nat) (ys : List Int) (w : World) (hG : Glob w)
    (h1 : Ints .u8 w a n ca xs) (r1 : ∀ x ∈ xs, (Lit.int .u8 x).wf = true) (k1 : ca ≤ maxLen) (h2 : Ints .u8 w b m cb ys) (r2 : ∀ x ∈ ys, (Lit.int .u8 x).wf = true) (k2 : cb ≤ maxLen) :
    Calls Tryd.prog 5 #[.slice a n ca, .slice b m cb] w fun e w' => e = .returned (.bool true) ∧ Below w.heap.size w w' := by
  have q1 := h1.2.1
  have q2 := h2.2.1
  have s1 : ∀ x ∈ xs, 0 ≤ x ∧ x < 256 := fun x hx => wf_byte3 (r1 x hx)
  have s2 : ∀ x ∈ ys, 0 ≤ x ∧ x < 256 := fun x hx => wf_byte3 (r2 x hx)
  have hn : n ≤ maxLen := Nat.le_trans q1 k1
  have hm : m ≤ maxLen := Nat.le_trans q2 k2
  obtain ⟨D, hD⟩ : ∃ D, D = decide (xs = ys) := ⟨_, rfl⟩
  have C1 := Lib.hid (equal_any a n ca xs b m cb ys w h1 s1 h2 s2 hn hm)
  rw [← hD] at C1
  have C2 := Lib.hid (fun w' (q : Below w.heap.size w w') => refSame_any a n ca xs b m cb ys w' (h1.keep q) s1 (h2.keep q) s2)
  rw [← hD] at C2
  have C3 := Lib.hid (fun w' (q : Below w.heap.size w w') => equal_any a n ca xs a n ca xs w' (h1.keep q) s1 (h1.keep q) s1 hn hn)
  rw [decide_eq_true (rfl : xs = xs)] at C3
  have hDD : (D == D) = true := by simp
  clear hD h1 h2 r1 r2 k1 k2 q1 q2
  go_enter Tryd.func5, Tryd.ntmps5
  go_wp2_with fail
  refine C1.out.mono ?_
  rintro e w1 ⟨rfl, d1⟩
  have b1 := below_of_draws d1 w.heap.size
  go_wp2_with fail
  refine (C2.out w1 b1).mono ?_
  rintro e w2 ⟨rfl, rfl⟩
  go_wp2_with fail
  refine (C3.out w1 b1).mono ?_
  rintro e w3 ⟨rfl, d3⟩
  have b3 := b1.trans (below_of_draws d3 w.heap.size)
  go_wp2_with fail
  refine (alive3_any w3 (hG.keep b3 (Nat.le_refl _))).mono ?_
  rintro e w4 ⟨rfl, b4⟩
  go_wp2
  go_ret
  exact ⟨rfl, b3.trans (b4.mono b3.size)⟩
end Go.Proofs.YtglgkobfpjkilaaDoor
