/-
  The law ShaApart comes to true, whatever three slices of bytes; only new memory is written. Conditions: each byte is a number from 0 to 255; the package's variables hold the constants and the starts.
-/
import Derived.Test.YtickkogmmlpagaaDoorShaAlive
namespace Go.Proofs.YtickkogmmlpagaaDoor
open Go.RowKit

theorem flat_two (xs ys : List Int) : ([xs, ys] : List (List Int)).flatten = xs ++ ys := by simp

set_option maxRecDepth 100000 in
set_option maxHeartbeats 1600000 in
theorem shaApart_any (a : Option Addr) (n ca : Nat) (xs : List Int) (b : Option Addr) (m cb : Nat) (bs : List Int) (c : Option Addr) (l cc : Nat) (cs : List Int) (w : World) (hG : Glob w)
    (h1 : Ints .u8 w a n ca xs) (r1 : ∀ x ∈ xs, 0 ≤ x ∧ x < 256) (h2 : Ints .u8 w b m cb bs) (r2 : ∀ x ∈ bs, 0 ≤ x ∧ x < 256) (h3 : Ints .u8 w c l cc cs) (r3 : ∀ x ∈ cs, 0 ≤ x ∧ x < 256)
    (hn : n ≤ 400) (hm : m ≤ 400) (hl : l ≤ 400) :
    Calls Tryd.prog 4 #[.slice a n ca, .slice b m cb, .slice c l cc] w fun e w' => e = .returned (.bool true) ∧ Below w.heap.size w w' := by
  have ha := Lib.hid h1.len
  have hb := Lib.hid h2.len
  have hc := Lib.hid h3.len
  have i1 := Lib.hid h1.isIn.2
  have i2 := Lib.hid h2.isIn.2
  have i3 := Lib.hid h3.isIn.2
  have tn : decide ((400 : Int) < (n : Int)) = false := by simp; omega
  have tm : decide ((400 : Int) < (m : Int)) = false := by simp; omega
  have tl : decide ((400 : Int) < (l : Int)) = false := by simp; omega
  have same1 := same_id (shaSum (xs ++ bs)) (shaSum_length _)
  have same2 := same_id (shaSum (xs ++ cs)) (shaSum_length _)
  have same0 := same_id (shaSum []) (shaSum_length _)
  obtain ⟨E1, hE1⟩ : ∃ E, E = ((shaSum (xs ++ bs)).map (Value.int .u8)).toArray := ⟨_, rfl⟩
  obtain ⟨E2, hE2⟩ : ∃ E, E = ((shaSum (xs ++ cs)).map (Value.int .u8)).toArray := ⟨_, rfl⟩
  obtain ⟨E0, hE0⟩ : ∃ E, E = ((shaSum []).map (Value.int .u8)).toArray := ⟨_, rfl⟩
  rw [← hE1] at same1
  rw [← hE2] at same2
  rw [← hE0] at same0
  have HE1 := Lib.hid hE1; have HE2 := Lib.hid hE2; have HE0 := Lib.hid hE0
  have hng := noGuardId
  clear hE1 hE2 hE0
  go_enter Tryd.func4, Tryd.ntmps4
  go_wp2_with fail
  refine (new_any _ hG).mono ?_; rintro e w1 ⟨rfl, H1, b1⟩
  have G1 := hG.keep b1 (Nat.le_refl _)
  go_wp2_with fail
  refine (write_any w.heap.size [] a n ca xs w1 H1 G1 (h1.keep b1) r1 (fun x hx hp => by have := i1.out x hx hp; omega) (by simp; omega)).mono ?_; rintro e w2 ⟨rfl, H2, g2⟩
  rw [List.nil_append] at H2
  have G2 := H1.far G1 g2
  have b2 : Below w.heap.size w w2 := b1.trans (below_of_grown g2 (Nat.le_refl _) H1.lt)
  go_wp2_with fail
  refine (clone_any w.heap.size xs w2 H2).mono ?_; rintro e w3 ⟨rfl, X3, b3'⟩
  have H3 := H2.keep b3' H2.lt
  have G3 := G2.keep b3' (Nat.le_refl _)
  have b3 : Below w.heap.size w w3 := b2.trans (b3'.mono b2.size)
  have hgx := H2.lt
  go_wp2_with fail
  refine (write_any w.heap.size xs b m cb bs w3 H3 G3 (h2.keep b3) r2 (fun x hx hp => by have := i2.out x hx hp; omega) (by rw [ha.out]; omega)).mono ?_; rintro e w4 ⟨rfl, H4, g4⟩
  have X4 := X3.grown g4 (by omega)
  have G4 := H3.far G3 g4
  have b4 : Below w.heap.size w w4 := b3.trans (below_of_grown g4 (Nat.le_refl _) H3.lt)
  go_wp2_with fail
  refine (write_any w2.heap.size xs c l cc cs w4 X4 G4 (h3.keep b4) r3 (fun x hx hp => by have := i3.out x hx hp; omega) (by rw [ha.out]; omega)).mono ?_; rintro e w5 ⟨rfl, X5, g5⟩
  have H5 := H4.grown g5 (by omega)
  have G5 := X4.far G4 g5
  have b5 : Below w.heap.size w w5 := b4.trans (below_of_grown g5 (by omega) X4.lt)
  clear H1 G1 b1 g2 H2 G2 b2 X3 b3' H3 G3 b3 X4 g4 G4 H4 b4 g5
  go_wp2_with fail
  refine (hsum_any w.heap.size (xs ++ bs) w5 H5 G5 (by rw [List.length_append, ha.out, hb.out]; omega)).mono ?_; rintro e w6 ⟨rfl, b6'⟩
  rw [← HE1.out]
  have X6 := X5.keep b6' X5.lt
  have G6 := G5.keep b6' (Nat.le_refl _)
  have b6 : Below w.heap.size w w6 := b5.trans (b6'.mono b5.size)
  clear X5 H5 G5 b6' b5
  have P6 := parts_two w6 a b n m ca cb xs bs (h1.keep b6) (h2.keep b6) 27
  have B6 := b6.alloc b6.size (.cells #[.slice a n ca, .slice b m cb] 27)
  have D6 := below1 w6 (.cells #[.slice a n ca, .slice b m cb] 27)
  go_wp2_with fail
  refine (refJoin_any _ 2 2 [xs, bs] _ P6 (by rw [flat_two, List.length_append, ha.out, hb.out]; omega) (by decide)).mono ?_; rintro e w7 ⟨jb, jc, rfl, J7, b7'⟩
  rw [flat_two, List.length_append] at J7
  have D7 := D6.trans (b7'.mono D6.size)
  have b7 := B6.trans (b7'.mono B6.size)
  clear P6 B6 D6 b7'
  go_wp2_with fail
  refine (refSum_any jb (xs.length + bs.length) jc (xs ++ bs) w7 J7 (by intro x hx; rcases List.mem_append.1 hx with hx | hx; exact r1 x hx; exact r2 x hx) (by rw [ha.out, hb.out]; omega)).mono ?_; rintro e w8 ⟨rfl, b8'⟩
  rw [← HE1.out]
  have D8 := D7.trans (b8'.mono D7.size)
  have b8 := b7.trans (b8'.mono b7.size)
  clear J7 b8' D7 b7
  have X8 := X6.keep D8 X6.lt
  have G8 := G6.keep D8 (Nat.le_refl _)
  clear X6 G6 D8
  go_wp2_with fail
  refine (hsum_any w2.heap.size (xs ++ cs) w8 X8 G8 (by rw [List.length_append, ha.out, hc.out]; omega)).mono ?_; rintro e w9 ⟨rfl, b9'⟩
  rw [← HE2.out]
  have G9 := G8.keep b9' (Nat.le_refl _)
  have b9 := b8.trans (b9'.mono b8.size)
  clear X8 G8 b9' b8
  have P9 := parts_two w9 a c n l ca cc xs cs (h1.keep b9) (h3.keep b9) 27
  have B9 := b9.alloc b9.size (.cells #[.slice a n ca, .slice c l cc] 27)
  have D9 := below1 w9 (.cells #[.slice a n ca, .slice c l cc] 27)
  go_wp2_with fail
  refine (refJoin_any _ 2 2 [xs, cs] _ P9 (by rw [flat_two, List.length_append, ha.out, hc.out]; omega) (by decide)).mono ?_; rintro e w10 ⟨kb, kc, rfl, J10, b10'⟩
  have D10 := D9.trans (b10'.mono D9.size)
  have b10 := B9.trans (b10'.mono B9.size)
  clear P9 B9 D9 b10'
  go_wp2_with fail
  rw [flat_two, List.length_append] at J10
  refine (refSum_any kb (xs.length + cs.length) kc (xs ++ cs) w10 J10 (by intro x hx; rcases List.mem_append.1 hx with hx | hx; exact r1 x hx; exact r3 x hx) (by rw [ha.out, hc.out]; omega)).mono ?_; rintro e w11 ⟨rfl, b11'⟩
  rw [← HE2.out]
  have D11 := D10.trans (b11'.mono D10.size)
  have b11 := b10.trans (b11'.mono b10.size)
  have G11 := G9.keep D11 (Nat.le_refl _)
  clear J10 b11' D10 b10 G9 D11
  go_wp2_with fail
  refine (hsumNil_any w11 G11).mono ?_; rintro e w12 ⟨rfl, b12'⟩
  rw [← HE0.out]
  have G12 := G11.keep b12' (Nat.le_refl _)
  have b12 := b11.trans (b12'.mono b11.size)
  clear G11 b12' b11
  go_wp2_with fail
  refine (refSum_any none 0 0 [] _ ⟨rfl, Nat.le_refl _, .inl rfl⟩ (by simp) (by decide)).mono ?_; rintro e w13 ⟨rfl, b13'⟩
  rw [← HE0.out]
  have G13 := G12.keep b13' (Nat.le_refl _)
  have b13 := b12.trans (b13'.mono b12.size)
  clear G12 b13' b12
  go_wp2_with fail
  refine (writeNil_any _ _ _ _).mono ?_; rintro e w14 ⟨rfl, rfl⟩
  go_wp2_with fail
  refine (lenNil_any _).mono ?_; rintro e w14 ⟨rfl, rfl⟩
  go_wp2_with fail
  refine (cloneNil_any _).mono ?_; rintro e w14 ⟨rfl, rfl⟩
  go_wp2_with fail
  refine (alive2_any _ G13).mono ?_; rintro e w14 ⟨rfl, b14⟩
  go_wp2
  go_ret
  exact ⟨rfl, b13.trans (b14.mono b13.size)⟩

set_option maxHeartbeats 800000 in
theorem shaApart_long (a : Option Addr) (n ca : Nat) (b : Option Addr) (m cb : Nat) (c : Option Addr) (l cc : Nat) (w : World) (hG : Glob w) (hn : n ≤ 9223372036854775807) (hm : m ≤ 9223372036854775807) (hl : l ≤ 9223372036854775807) (h : 400 < n ∨ 400 < m ∨ 400 < l) :
    Calls Tryd.prog 4 #[.slice a n ca, .slice b m cb, .slice c l cc] w fun e w' => e = .returned (.bool true) ∧ Below w.heap.size w w' := by
  rcases (show 400 < n ∨ (n ≤ 400 ∧ 400 < m) ∨ (n ≤ 400 ∧ m ≤ 400 ∧ 400 < l) from by omega) with h | ⟨h1, h2⟩ | ⟨h1, h2, h3⟩
  · have h0 : decide ((400 : Int) < (n : Int)) = true := by simp; omega
    go_enter Tryd.func4, Tryd.ntmps4
    go_wp2_with fail
    refine (alive2_any _ hG).mono ?_; rintro e w' ⟨rfl, hb⟩
    go_wp2
    go_ret
    exact ⟨rfl, hb⟩
  · have h0 : decide ((400 : Int) < (n : Int)) = false := by simp; omega
    have h3 : decide ((400 : Int) < (m : Int)) = true := by simp; omega
    go_enter Tryd.func4, Tryd.ntmps4
    go_wp2_with fail
    refine (alive2_any _ hG).mono ?_; rintro e w' ⟨rfl, hb⟩
    go_wp2
    go_ret
    exact ⟨rfl, hb⟩
  · have h0 : decide ((400 : Int) < (n : Int)) = false := by simp; omega
    have h4 : decide ((400 : Int) < (m : Int)) = false := by simp; omega
    have h5 : decide ((400 : Int) < (l : Int)) = true := by simp; omega
    go_enter Tryd.func4, Tryd.ntmps4
    go_wp2_with fail
    refine (alive2_any _ hG).mono ?_; rintro e w' ⟨rfl, hb⟩
    go_wp2
    go_ret
    exact ⟨rfl, hb⟩
theorem wf_byte {a : Int} (h : (Lit.int .u8 a).wf = true) : 0 ≤ a ∧ a < 256 := by
  simp only [Lit.wf, Bool.and_eq_true, decide_eq_true_eq] at h
  have h1 : IntKind.u8.min = 0 := rfl
  have h2 : IntKind.u8.max = 255 := rfl
  omega
theorem law_ShaApart (a : Option Addr) (n ca : Nat) (xs : List Int) (b : Option Addr) (m cb : Nat) (bs : List Int) (c : Option Addr) (l cc : Nat) (cs : List Int) (w : World) (hG : Glob w)
    (h1 : Ints .u8 w a n ca xs) (r1 : ∀ x ∈ xs, (Lit.int .u8 x).wf = true) (k1 : ca ≤ maxLen) (h2 : Ints .u8 w b m cb bs) (r2 : ∀ x ∈ bs, (Lit.int .u8 x).wf = true) (k2 : cb ≤ maxLen) (h3 : Ints .u8 w c l cc cs) (r3 : ∀ x ∈ cs, (Lit.int .u8 x).wf = true) (k3 : cc ≤ maxLen) :
    Calls Tryd.prog 4 #[.slice a n ca, .slice b m cb, .slice c l cc] w fun e w' => e = .returned (.bool true) ∧ Below w.heap.size w w' := by
  have q1 := h1.2.1
  have q2 := h2.2.1
  have q3 := h3.2.1
  unfold maxLen at k1 k2 k3
  by_cases h : 400 < n ∨ 400 < m ∨ 400 < l
  · exact shaApart_long a n ca b m cb c l cc w hG (by omega) (by omega) (by omega) h
  · exact shaApart_any a n ca xs b m cb bs c l cc cs w hG h1 (fun x hx => wf_byte (r1 x hx)) h2 (fun x hx => wf_byte (r2 x hx)) h3 (fun x hx => wf_byte (r3 x hx)) (by omega) (by omega) (by omega)
end Go.Proofs.YtickkogmmlpagaaDoor
