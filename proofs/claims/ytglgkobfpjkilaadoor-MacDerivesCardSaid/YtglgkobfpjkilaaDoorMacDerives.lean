/-
  The law MacDerives comes to true, whatever key, label and number; only new memory is written. Conditions: each byte is a number from 0 to 255; the package's variables hold the constants and the starts.
-/
import Derived.Test.YtglgkobfpjkilaaDoorMacDer
namespace Go.Proofs.YtglgkobfpjkilaaDoor
open Go.RowKit

theorem tags_range (key label : List Int) : ∀ n, ∀ x ∈ tags key label n, 0 ≤ x ∧ x < 256
  | 0, x, h => by simp [tags] at h
  | n + 1, x, h => by
    rcases List.mem_append.1 h with h | h
    · exact tags_range key label n x h
    · exact shaSum_range _ x h
theorem derived_range (key label : List Int) (m : Nat) : ∀ x ∈ derived key label m, 0 ≤ x ∧ x < 256 := fun x hx => tags_range _ _ _ x (List.mem_of_mem_take hx)
theorem derived_zero (key label : List Int) : derived key label 0 = [] := List.take_zero ..

set_option maxRecDepth 100000 in
set_option maxHeartbeats 1600000 in
theorem macDerives_neg (a : Option Addr) (n ca : Nat) (key : List Int) (s : ByteArray) (many : Int) (w : World) (hG : Glob w) (h1 : Ints .u8 w a n ca key) (r1 : ∀ x ∈ key, 0 ≤ x ∧ x < 256) (hn : n ≤ 100) (hs : s.size ≤ 100) (hM : many < 0) : Calls Tryd.prog 6 #[.slice a n ca, .string s, .int .i64 many] w fun e w' => e = .returned (.bool true) ∧ Below w.heap.size w w' := by
  have hnI : decide ((100 : Int) < (n : Int)) = false := by simp; omega
  have hsI : decide ((100 : Int) < (s.size : Int)) = false := by simp; omega
  have rL : ∀ x ∈ derived key (numsOf s) 0, 0 ≤ x ∧ x < 256 := derived_range _ _ _
  have D1 := Lib.hid (derive_neg a n ca key s many w hG h1 r1 (by omega) (by omega) hM)
  have D2 := Lib.hid (fun w' (q : Below w.heap.size w w') => (show Calls Tryd.prog 16 #[.slice a n ca, .string s, .int .i64 many] w' fun e w'' => ∃ b c, e = .returned (.slice b 0 c) ∧ Ints .u8 w'' b 0 c (derived key (numsOf s) 0) ∧ Below w'.heap.size w' w'' by
    exact (refDerive_neg a n ca s many w' hM).mono (fun e w'' h => ⟨none, 0, h.1, by rw [derived_zero]; exact ints_nil _ _ _ _, by rw [← h.2]; exact Below.refl _ _⟩)))
  have RL := Lib.hid rL
  obtain ⟨L, hL⟩ : ∃ L, L = derived key (numsOf s) 0 := ⟨_, rfl⟩
  rw [← hL] at D1 D2 RL
  have HL := Lib.hid hL
  clear hL rL h1 r1 hs
  go_enter Tryd.func6, Tryd.ntmps6
  go_wp2_with fail
  refine D1.out.mono ?_; rintro e w1 ⟨b1, c1, rfl, I1, q1⟩
  go_wp2_with fail
  refine (D2.out w1 q1).mono ?_; rintro e w2 ⟨b2, c2, rfl, I2, q2'⟩
  have q2 : Below w.heap.size w w2 := q1.trans (q2'.mono q1.size)
  have I12 := I1.keep q2'
  go_wp2_with fail
  refine (refSame_any b1 0 c1 L b2 0 c2 L w2 I12 RL.out I2 RL.out).mono ?_; rintro e w3 ⟨rfl, rfl⟩
  rw [decide_eq_true rfl]
  clear I1 I2 q2' q1 D1 D2
  go_wp2_with fail
  refine (alive3_any w2 (hG.keep q2 (Nat.le_refl _))).mono ?_; rintro e w4 ⟨rfl, q4⟩
  go_wp2
  go_ret
  exact ⟨rfl, q2.trans (q4.mono q2.size)⟩

set_option maxRecDepth 100000 in
set_option maxHeartbeats 1600000 in
theorem macDerives_few (a : Option Addr) (n ca : Nat) (key : List Int) (s : ByteArray) (K : Nat) (w : World) (hG : Glob w) (h1 : Ints .u8 w a n ca key) (r1 : ∀ x ∈ key, 0 ≤ x ∧ x < 256) (hn : n ≤ 100) (hs : s.size ≤ 100) (hM : K ≤ 200) : Calls Tryd.prog 6 #[.slice a n ca, .string s, .int .i64 K] w fun e w' => e = .returned (.bool true) ∧ Below w.heap.size w w' := by
  have hnI : decide ((100 : Int) < (n : Int)) = false := by simp; omega
  have hsI : decide ((100 : Int) < (s.size : Int)) = false := by simp; omega
  have D3 := Lib.hid (fun w' (q : Below w.heap.size w w') => (show Calls Tryd.prog 15 #[.slice a n ca, .string s, .int .i64 K] w' fun e w'' => ∃ b c, e = .returned (.slice b K c) ∧ Ints .u8 w'' b K c (derived key (numsOf s) K) ∧ Below w'.heap.size w' w'' from derive_any a n ca key s K w' (hG.keep q (Nat.le_refl _)) (h1.keep q) r1 (by omega) (by omega) (by omega)))
  have hKI : (K : Int) ≤ 200 := by omega
  have hK0 : (0 : Int) ≤ (K : Int) := by omega
  have rL : ∀ x ∈ derived key (numsOf s) K, 0 ≤ x ∧ x < 256 := derived_range _ _ _
  have D1 := Lib.hid (derive_any a n ca key s K w hG h1 r1 (by omega) (by omega) (by omega))
  have D2 := Lib.hid (fun w' (q : Below w.heap.size w w') => (show Calls Tryd.prog 16 #[.slice a n ca, .string s, .int .i64 K] w' fun e w'' => ∃ b c, e = .returned (.slice b K c) ∧ Ints .u8 w'' b K c (derived key (numsOf s) K) ∧ Below w'.heap.size w' w'' by
    exact refDerive_any a n ca key s K w' (h1.keep q) r1 (by omega) (by omega) (by omega)))
  have RL := Lib.hid rL
  obtain ⟨L, hL⟩ : ∃ L, L = derived key (numsOf s) K := ⟨_, rfl⟩
  rw [← hL] at D1 D2 RL
  have HL := Lib.hid hL
  clear hL rL h1 r1 hs
  go_enter Tryd.func6, Tryd.ntmps6
  go_wp2_with fail
  refine D1.out.mono ?_; rintro e w1 ⟨b1, c1, rfl, I1, q1⟩
  go_wp2_with fail
  refine (D2.out w1 q1).mono ?_; rintro e w2 ⟨b2, c2, rfl, I2, q2'⟩
  have q2 : Below w.heap.size w w2 := q1.trans (q2'.mono q1.size)
  have I12 := I1.keep q2'
  go_wp2_with fail
  refine (refSame_any b1 K c1 L b2 K c2 L w2 I12 RL.out I2 RL.out).mono ?_; rintro e w3 ⟨rfl, rfl⟩
  rw [decide_eq_true rfl]
  clear I1 I2 q2' q1 D1 D2
  go_wp2_with fail
  refine (D3.out w2 q2).mono ?_; rintro e w4 ⟨b4, c4, rfl, I4, q4'⟩
  have q4 : Below w.heap.size w w4 := q2.trans (q4'.mono q2.size)
  have I14 := I12.keep q4'
  have hc4 := I4.2.1
  have I5 := I4.upto K (by omega)
  rw [derived_take key (numsOf s) K K (by omega), ← HL.out] at I5
  have hcI : ((K : Nat) : Int) ≤ (c4 : Int) := by omega
  have hcn : K ≤ c4 := by omega
  have HC := Lib.hid hc4
  clear I4 q4' hc4 I12
  go_wp2_with fail
  refine (refSame_any b4 K c4 L b1 K c1 L w4 I5 RL.out I14 RL.out).mono ?_; rintro e w5 ⟨rfl, rfl⟩
  rw [decide_eq_true rfl]
  go_wp2_with fail
  refine (alive3_any w4 (hG.keep q4 (Nat.le_refl _))).mono ?_; rintro e w6 ⟨rfl, q6⟩
  go_wp2
  go_ret
  exact ⟨rfl, q4.trans (q6.mono q4.size)⟩

set_option maxRecDepth 100000 in
set_option maxHeartbeats 1600000 in
theorem macDerives_mid (a : Option Addr) (n ca : Nat) (key : List Int) (s : ByteArray) (K : Nat) (w : World) (hG : Glob w) (h1 : Ints .u8 w a n ca key) (r1 : ∀ x ∈ key, 0 ≤ x ∧ x < 256) (hn : n ≤ 100) (hs : s.size ≤ 100) (hM : 200 < K) (hM2 : K ≤ 8192) : Calls Tryd.prog 6 #[.slice a n ca, .string s, .int .i64 K] w fun e w' => e = .returned (.bool true) ∧ Below w.heap.size w w' := by
  have hnI : decide ((100 : Int) < (n : Int)) = false := by simp; omega
  have hsI : decide ((100 : Int) < (s.size : Int)) = false := by simp; omega
  have D3 := Lib.hid (fun w' (q : Below w.heap.size w w') => (show Calls Tryd.prog 15 #[.slice a n ca, .string s, .int .i64 K] w' fun e w'' => ∃ b c, e = .returned (.slice b K c) ∧ Ints .u8 w'' b K c (derived key (numsOf s) K) ∧ Below w'.heap.size w' w'' from derive_any a n ca key s K w' (hG.keep q (Nat.le_refl _)) (h1.keep q) r1 (by omega) (by omega) (by omega)))
  have hKI : (K : Int) ≤ 8192 := by omega
  have hK0 : (200 : Int) < (K : Int) := by omega
  have rL : ∀ x ∈ derived key (numsOf s) 200, 0 ≤ x ∧ x < 256 := derived_range _ _ _
  have D1 := Lib.hid (derive_any a n ca key s 200 w hG h1 r1 (by omega) (by omega) (by omega))
  have D2 := Lib.hid (fun w' (q : Below w.heap.size w w') => (show Calls Tryd.prog 16 #[.slice a n ca, .string s, .int .i64 200] w' fun e w'' => ∃ b c, e = .returned (.slice b 200 c) ∧ Ints .u8 w'' b 200 c (derived key (numsOf s) 200) ∧ Below w'.heap.size w' w'' by
    exact refDerive_any a n ca key s 200 w' (h1.keep q) r1 (by omega) (by omega) (by omega)))
  have RL := Lib.hid rL
  obtain ⟨L, hL⟩ : ∃ L, L = derived key (numsOf s) 200 := ⟨_, rfl⟩
  rw [← hL] at D1 D2 RL
  have HL := Lib.hid hL
  clear hL rL h1 r1 hs
  go_enter Tryd.func6, Tryd.ntmps6
  go_wp2_with fail
  refine D1.out.mono ?_; rintro e w1 ⟨b1, c1, rfl, I1, q1⟩
  go_wp2_with fail
  refine (D2.out w1 q1).mono ?_; rintro e w2 ⟨b2, c2, rfl, I2, q2'⟩
  have q2 : Below w.heap.size w w2 := q1.trans (q2'.mono q1.size)
  have I12 := I1.keep q2'
  go_wp2_with fail
  refine (refSame_any b1 200 c1 L b2 200 c2 L w2 I12 RL.out I2 RL.out).mono ?_; rintro e w3 ⟨rfl, rfl⟩
  rw [decide_eq_true rfl]
  clear I1 I2 q2' q1 D1 D2
  go_wp2_with fail
  refine (D3.out w2 q2).mono ?_; rintro e w4 ⟨b4, c4, rfl, I4, q4'⟩
  have q4 : Below w.heap.size w w4 := q2.trans (q4'.mono q2.size)
  have I14 := I12.keep q4'
  have hc4 := I4.2.1
  have I5 := I4.upto 200 (by omega)
  rw [derived_take key (numsOf s) 200 K (by omega), ← HL.out] at I5
  have hcI : ((200 : Nat) : Int) ≤ (c4 : Int) := by omega
  have hcn : 200 ≤ c4 := by omega
  have HC := Lib.hid hc4
  clear I4 q4' hc4 I12
  go_wp2_with fail
  refine (refSame_any b4 200 c4 L b1 200 c1 L w4 I5 RL.out I14 RL.out).mono ?_; rintro e w5 ⟨rfl, rfl⟩
  rw [decide_eq_true rfl]
  go_wp2_with fail
  refine (alive3_any w4 (hG.keep q4 (Nat.le_refl _))).mono ?_; rintro e w6 ⟨rfl, q6⟩
  go_wp2
  go_ret
  exact ⟨rfl, q4.trans (q6.mono q4.size)⟩

set_option maxRecDepth 100000 in
set_option maxHeartbeats 1600000 in
theorem macDerives_big (a : Option Addr) (n ca : Nat) (key : List Int) (s : ByteArray) (many : Int) (w : World) (hG : Glob w) (h1 : Ints .u8 w a n ca key) (r1 : ∀ x ∈ key, 0 ≤ x ∧ x < 256) (hn : n ≤ 100) (hs : s.size ≤ 100) (hM : 8192 < many) (hM2 : many ≤ 9000) : Calls Tryd.prog 6 #[.slice a n ca, .string s, .int .i64 many] w fun e w' => e = .returned (.bool true) ∧ Below w.heap.size w w' := by
  have hnI : decide ((100 : Int) < (n : Int)) = false := by simp; omega
  have hsI : decide ((100 : Int) < (s.size : Int)) = false := by simp; omega
  have D3 := Lib.hid (fun w' (q : Below w.heap.size w w') => (show Calls Tryd.prog 15 #[.slice a n ca, .string s, .int .i64 many] w' fun e w'' => ∃ b c, e = .returned (.slice b 8192 c) ∧ Ints .u8 w'' b 8192 c (derived key (numsOf s) 8192) ∧ Below w'.heap.size w' w'' from derive_big a n ca key s many w' (hG.keep q (Nat.le_refl _)) (h1.keep q) r1 (by omega) (by omega) hM))
  have rL : ∀ x ∈ derived key (numsOf s) 200, 0 ≤ x ∧ x < 256 := derived_range _ _ _
  have D1 := Lib.hid (derive_any a n ca key s 200 w hG h1 r1 (by omega) (by omega) (by omega))
  have D2 := Lib.hid (fun w' (q : Below w.heap.size w w') => (show Calls Tryd.prog 16 #[.slice a n ca, .string s, .int .i64 200] w' fun e w'' => ∃ b c, e = .returned (.slice b 200 c) ∧ Ints .u8 w'' b 200 c (derived key (numsOf s) 200) ∧ Below w'.heap.size w' w'' by
    exact refDerive_any a n ca key s 200 w' (h1.keep q) r1 (by omega) (by omega) (by omega)))
  have RL := Lib.hid rL
  obtain ⟨L, hL⟩ : ∃ L, L = derived key (numsOf s) 200 := ⟨_, rfl⟩
  rw [← hL] at D1 D2 RL
  have HL := Lib.hid hL
  clear hL rL h1 r1 hs
  go_enter Tryd.func6, Tryd.ntmps6
  go_wp2_with fail
  refine D1.out.mono ?_; rintro e w1 ⟨b1, c1, rfl, I1, q1⟩
  go_wp2_with fail
  refine (D2.out w1 q1).mono ?_; rintro e w2 ⟨b2, c2, rfl, I2, q2'⟩
  have q2 : Below w.heap.size w w2 := q1.trans (q2'.mono q1.size)
  have I12 := I1.keep q2'
  go_wp2_with fail
  refine (refSame_any b1 200 c1 L b2 200 c2 L w2 I12 RL.out I2 RL.out).mono ?_; rintro e w3 ⟨rfl, rfl⟩
  rw [decide_eq_true rfl]
  clear I1 I2 q2' q1 D1 D2
  go_wp2_with fail
  refine (D3.out w2 q2).mono ?_; rintro e w4 ⟨b4, c4, rfl, I4, q4'⟩
  have q4 : Below w.heap.size w w4 := q2.trans (q4'.mono q2.size)
  have I14 := I12.keep q4'
  have hc4 := I4.2.1
  have I5 := I4.upto 200 (by omega)
  rw [derived_take key (numsOf s) 200 8192 (by omega), ← HL.out] at I5
  have hcI : ((200 : Nat) : Int) ≤ (c4 : Int) := by omega
  have hcn : 200 ≤ c4 := by omega
  have HC := Lib.hid hc4
  clear I4 q4' hc4 I12
  go_wp2_with fail
  refine (refSame_any b4 200 c4 L b1 200 c1 L w4 I5 RL.out I14 RL.out).mono ?_; rintro e w5 ⟨rfl, rfl⟩
  rw [decide_eq_true rfl]
  go_wp2_with fail
  refine (alive3_any w4 (hG.keep q4 (Nat.le_refl _))).mono ?_; rintro e w6 ⟨rfl, q6⟩
  go_wp2
  go_ret
  exact ⟨rfl, q4.trans (q6.mono q4.size)⟩

set_option maxRecDepth 100000 in
set_option maxHeartbeats 1600000 in
theorem macDerives_huge (a : Option Addr) (n ca : Nat) (key : List Int) (s : ByteArray) (many : Int) (w : World) (hG : Glob w) (h1 : Ints .u8 w a n ca key) (r1 : ∀ x ∈ key, 0 ≤ x ∧ x < 256) (hn : n ≤ 100) (hs : s.size ≤ 100) (hM : 9000 < many) : Calls Tryd.prog 6 #[.slice a n ca, .string s, .int .i64 many] w fun e w' => e = .returned (.bool true) ∧ Below w.heap.size w w' := by
  have hnI : decide ((100 : Int) < (n : Int)) = false := by simp; omega
  have hsI : decide ((100 : Int) < (s.size : Int)) = false := by simp; omega
  have rL : ∀ x ∈ derived key (numsOf s) 200, 0 ≤ x ∧ x < 256 := derived_range _ _ _
  have D1 := Lib.hid (derive_any a n ca key s 200 w hG h1 r1 (by omega) (by omega) (by omega))
  have D2 := Lib.hid (fun w' (q : Below w.heap.size w w') => (show Calls Tryd.prog 16 #[.slice a n ca, .string s, .int .i64 200] w' fun e w'' => ∃ b c, e = .returned (.slice b 200 c) ∧ Ints .u8 w'' b 200 c (derived key (numsOf s) 200) ∧ Below w'.heap.size w' w'' by
    exact refDerive_any a n ca key s 200 w' (h1.keep q) r1 (by omega) (by omega) (by omega)))
  have RL := Lib.hid rL
  obtain ⟨L, hL⟩ : ∃ L, L = derived key (numsOf s) 200 := ⟨_, rfl⟩
  rw [← hL] at D1 D2 RL
  have HL := Lib.hid hL
  clear hL rL h1 r1 hs
  go_enter Tryd.func6, Tryd.ntmps6
  go_wp2_with fail
  refine D1.out.mono ?_; rintro e w1 ⟨b1, c1, rfl, I1, q1⟩
  go_wp2_with fail
  refine (D2.out w1 q1).mono ?_; rintro e w2 ⟨b2, c2, rfl, I2, q2'⟩
  have q2 : Below w.heap.size w w2 := q1.trans (q2'.mono q1.size)
  have I12 := I1.keep q2'
  go_wp2_with fail
  refine (refSame_any b1 200 c1 L b2 200 c2 L w2 I12 RL.out I2 RL.out).mono ?_; rintro e w3 ⟨rfl, rfl⟩
  rw [decide_eq_true rfl]
  clear I1 I2 q2' q1 D1 D2
  go_wp2_with fail
  refine (alive3_any w2 (hG.keep q2 (Nat.le_refl _))).mono ?_; rintro e w4 ⟨rfl, q4⟩
  go_wp2
  go_ret
  exact ⟨rfl, q2.trans (q4.mono q2.size)⟩

theorem wf_i64 {a : Int} (h : (Lit.int .i64 a).wf = true) : -9223372036854775808 ≤ a ∧ a ≤ 9223372036854775807 := by
  simp only [Lit.wf, Bool.and_eq_true, decide_eq_true_eq] at h
  have h1 : IntKind.i64.min = -9223372036854775808 := rfl
  have h2 : IntKind.i64.max = 9223372036854775807 := rfl
  omega
set_option maxRecDepth 100000 in
set_option maxHeartbeats 1600000 in
theorem macDerives_long (a : Option Addr) (n ca : Nat) (s : ByteArray) (many : Int) (w : World) (hG : Glob w) (hn : n ≤ 9223372036854775807) (hs : s.size ≤ 9223372036854775807) (h : 100 < n ∨ 100 < s.size) : Calls Tryd.prog 6 #[.slice a n ca, .string s, .int .i64 many] w fun e w' => e = .returned (.bool true) ∧ Below w.heap.size w w' := by
  rcases (show 100 < n ∨ (n ≤ 100 ∧ 100 < s.size) from by omega) with h | ⟨h1, h2⟩
  · have h0 : decide ((100 : Int) < (n : Int)) = true := by simp; omega
    go_enter Tryd.func6, Tryd.ntmps6
    go_wp2_with fail
    refine (alive3_any _ hG).mono ?_; rintro e w' ⟨rfl, hb⟩
    go_wp2
    go_ret
    exact ⟨rfl, hb⟩
  · have h0 : decide ((100 : Int) < (n : Int)) = false := by simp; omega
    have h3 : decide ((100 : Int) < (s.size : Int)) = true := by simp; omega
    go_enter Tryd.func6, Tryd.ntmps6
    go_wp2_with fail
    refine (alive3_any _ hG).mono ?_; rintro e w' ⟨rfl, hb⟩
    go_wp2
    go_ret
    exact ⟨rfl, hb⟩
theorem law_MacDerives (a : Option Addr) (n ca : Nat) (key : List Int) (s : ByteArray) (many : Int) (w : World) (hG : Glob w)
    (h1 : Ints .u8 w a n ca key) (r1 : ∀ x ∈ key, (Lit.int .u8 x).wf = true) (k1 : ca ≤ maxLen) (hs : s.size ≤ maxLen) (_hm : (Lit.int .i64 many).wf = true) : Calls Tryd.prog 6 #[.slice a n ca, .string s, .int .i64 many] w fun e w' => e = .returned (.bool true) ∧ Below w.heap.size w w' := by
  have q1 := h1.2.1
  unfold maxLen at k1 hs
  have R1 : ∀ x ∈ key, 0 ≤ x ∧ x < 256 := fun x hx => wf_byte3 (r1 x hx)
  by_cases h : 100 < n ∨ 100 < s.size
  · exact macDerives_long a n ca s many w hG (by omega) (by omega) h
  · by_cases h0 : many < 0
    · exact macDerives_neg a n ca key s many w hG h1 R1 (by omega) (by omega) h0
    · by_cases h2 : many ≤ 8192
      · obtain ⟨K, hK⟩ : ∃ K : Nat, many = (K : Int) := ⟨many.toNat, by omega⟩
        subst hK
        by_cases h3 : K ≤ 200
        · exact macDerives_few a n ca key s K w hG h1 R1 (by omega) (by omega) h3
        · exact macDerives_mid a n ca key s K w hG h1 R1 (by omega) (by omega) (by omega) (by omega)
      · by_cases h3 : many ≤ 9000
        · exact macDerives_big a n ca key s many w hG h1 R1 (by omega) (by omega) (by omega) h3
        · exact macDerives_huge a n ca key s many w hG h1 R1 (by omega) (by omega) (by omega)
end Go.Proofs.YtglgkobfpjkilaaDoor
