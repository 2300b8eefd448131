/-
  What a program's sums (layer 11) come to, as a structure ('CrcProg'); the law's 'alive'; the law CrcMoves. New memory alone is written. Conditions: at most a million bytes and parts.
-/
import Derived.Test.YtlningdlddnnkaaDoorCrcRef
import Derived.Test.YtlningdlddnnkaaDoorParts
import Derived.Lib.SlBytesConst
namespace Go.Proofs.YtlningdlddnnkaaDoor
open Go.RowKit

structure CrcProg where
  Gl : World → Prop
  N : Nat
  gl_le : ∀ {w}, Gl w → N ≤ w.heap.size
  gl_keep : ∀ {w w'}, Gl w → Below N w w' → Gl w'
  of : ∀ (a : Option Addr) (n c : Nat) (ps : List (List Int)) (w : World), Gl w → Parts w a n c ps → (∀ p ∈ ps, ∀ y ∈ p, 0 ≤ y ∧ y < 256) → n + ps.flatten.length ≤ 1000000 →
    Calls Tryd.prog 11 #[.slice a n c] w fun q w' => q = .returned (.int .u32 (nv (crcOf 0#32 (bvs ps.flatten)))) ∧ Below w.heap.size w w'
  more : ∀ (S : BitVec 32) (a : Option Addr) (n c : Nat) (xs : List Int) (w : World), Gl w → Ints .u8 w a n c xs → (∀ x ∈ xs, 0 ≤ x ∧ x < 256) → n ≤ 1000000 →
    Calls Tryd.prog 10 #[.int .u32 (nv S), .slice a n c] w fun q w' => q = .returned (.int .u32 (nv (crcOf S (bvs xs)))) ∧ Below w.heap.size w w'
  moved : ∀ (X : BitVec 32) (n : Nat) (w : World), Gl w → n < 18446744073709551616 →
    Calls Tryd.prog 15 #[.int .u32 (nv X), .int .u64 (n : Int)] w fun q w' => q = .returned (.int .u32 (nv (mvn (8 * n) X))) ∧ Below w.heap.size w w'
  join : ∀ (X Y : BitVec 32) (n : Nat) (w : World), Gl w → n < 18446744073709551616 →
    Calls Tryd.prog 14 #[.int .u32 (nv X), .int .u32 (nv Y), .int .u64 (n : Int)] w fun q w' => q = .returned (.int .u32 (nv (mvn (8 * n) X ^^^ Y))) ∧ Below w.heap.size w w'

theorem crc_check : nv (crcOf 0#32 (bvs [49, 50, 51, 52, 53, 54, 55, 56, 57])) = 3808858755 := by decide +kernel
theorem crc_none : nv (crcOf 0#32 (bvs [])) = 0 := by decide
theorem parts_two11 (w : World) (A B : Option Addr) (m n c d : Nat) (xs ys : List Int) (hx : Ints .u8 w A m c xs) (hy : Ints .u8 w B n d ys) (t : TypeId) : Parts (w.alloc (.cells #[.slice A m c, .slice B n d] t)) (some ⟨w.heap.size, 0, none⟩) 2 2 [xs, ys] :=
  Parts.of_blk (Blk.new w t [.slice A m c, .slice B n d]) rfl (fun i hi => by
    rcases i with _ | _ | i
    · exact ⟨A, m, c, rfl, hx.keep (below1 _ _)⟩
    · exact ⟨B, n, d, rfl, hy.keep (below1 _ _)⟩
    · omega)
theorem parts_one11 (w : World) (A : Option Addr) (m c : Nat) (xs : List Int) (hx : Ints .u8 w A m c xs) (t : TypeId) : Parts (w.alloc (.cells #[.slice A m c] t)) (some ⟨w.heap.size, 0, none⟩) 1 1 [xs] :=
  Parts.of_blk (Blk.new w t [.slice A m c]) rfl (fun i hi => by
    obtain rfl : i = 0 := by omega
    exact ⟨A, m, c, rfl, hx.keep (below1 _ _)⟩)
theorem ints_new11 (w : World) (k : IntKind) (t : TypeId) (fr : Nat × Nat) (xs : List Int) (n : Nat) (hn : xs.length = n) : Ints k (w.alloc (.cells (xs.map (Value.int k)).toArray t fr)) (some ⟨w.heap.size, 0, none⟩) n n xs :=
  ⟨hn, Nat.le_refl _, .inr ⟨w.heap.size, 0, rfl, fun i hi => by
    rw [Nat.zero_add, cell_of_row _ _ i _ t fr (heap_alloc_new w _)]
    simpa using getElem?_mapInt k xs i (by omega)⟩⟩

set_option maxRecDepth 100000 in
set_option maxHeartbeats 1600000 in
theorem alive11_any (CP : CrcProg) (w : World) (hG : CP.Gl w) : Calls Tryd.prog 8 #[] w fun e w' => e = .returned (.bool true) ∧ Below w.heap.size w w' := by
  have i1 : Ints .u8 (w.alloc (.cells #[.int .u8 49, .int .u8 50, .int .u8 51, .int .u8 52, .int .u8 53] 5 (5, 6))) (some ⟨w.heap.size, 0, none⟩) 5 5 [49, 50, 51, 52, 53] := ints_new11 w .u8 5 (5, 6) [49, 50, 51, 52, 53] 5 rfl
  have i2 : Ints .u8 ((w.alloc (.cells #[.int .u8 49, .int .u8 50, .int .u8 51, .int .u8 52, .int .u8 53] 5 (5, 6))).alloc (.cells #[.int .u8 54, .int .u8 55, .int .u8 56, .int .u8 57] 5 (4, 5))) (some ⟨(w.alloc (.cells #[.int .u8 49, .int .u8 50, .int .u8 51, .int .u8 52, .int .u8 53] 5 (5, 6))).heap.size, 0, none⟩) 4 4 [54, 55, 56, 57] := ints_new11 _ .u8 5 (4, 5) [54, 55, 56, 57] 4 rfl
  rw [size1] at i2
  have hP := parts_two11 _ _ _ _ _ _ _ _ _ (i1.keep (below1 _ (.cells #[.int .u8 54, .int .u8 55, .int .u8 56, .int .u8 57] 5 (4, 5)))) i2 26
  rw [size2] at hP
  have hb3 := below3 w (.cells #[.int .u8 49, .int .u8 50, .int .u8 51, .int .u8 52, .int .u8 53] 5 (5, 6)) (.cells #[.int .u8 54, .int .u8 55, .int .u8 56, .int .u8 57] 5 (4, 5)) (.cells #[.slice (some ⟨w.heap.size, 0, none⟩) 5 5, .slice (some ⟨w.heap.size + 1, 0, none⟩) 4 4] 26)
  have hG3 := CP.gl_keep hG (hb3.mono (CP.gl_le hG))
  have kc := fun (w : World) (C : Array Value) (n c : Nat) => Lib.run_convert_bytes_const (P := Tryd.prog) w 26 5 C n c Tryd.underlying26 Tryd.underlying5
  have kc1 := kc (w.alloc (.cells #[.int .u8 49, .int .u8 50, .int .u8 51, .int .u8 52, .int .u8 53] 5 (5, 6)))
  rw [size1] at kc1
  have c1 := CP.of _ 2 2 [[49, 50, 51, 52, 53], [54, 55, 56, 57]] _ hG3 hP (by decide) (by decide)
  rw [show ([[49, 50, 51, 52, 53], [54, 55, 56, 57]] : List (List Int)).flatten = [49, 50, 51, 52, 53, 54, 55, 56, 57] from rfl, crc_check] at c1
  go_enter Tryd.func8, Tryd.ntmps8
  go_wp2_with fail
  refine c1.mono ?_
  rintro e w5 ⟨rfl, hb5⟩
  have hB5 := hb3.trans (hb5.mono hb3.size)
  have hG5 := CP.gl_keep hG3 (hb5.mono (CP.gl_le hG3))
  clear c1 kc1 kc hP i1 i2 hb3 hb5 hG3
  have c2 := CP.of none 0 0 [] w5 hG5 (parts_nil w5 0) (by simp) (by decide)
  rw [show ([] : List (List Int)).flatten = [] from rfl, crc_none] at c2
  go_wp2_with fail
  refine c2.mono ?_
  rintro e w6 ⟨rfl, hb6⟩
  go_wp2
  go_ret
  exact ⟨rfl, hB5.trans (hb6.mono hB5.size)⟩

set_option maxRecDepth 100000 in
set_option maxHeartbeats 1600000 in
theorem moves_any (CP : CrcProg) (a b n m : Int) (w : World) (hG : CP.Gl w) (ha : 0 ≤ a ∧ a < 4294967296) (hb : 0 ≤ b ∧ b < 4294967296) (hn : 0 ≤ n ∧ n < 18446744073709551616) (hm : 0 ≤ m ∧ m < 18446744073709551616) :
    Calls Tryd.prog 5 #[.int .u32 a, .int .u32 b, .int .u64 n, .int .u64 m] w fun e w' => e = .returned (.bool true) ∧ Below w.heap.size w w' := by
  obtain ⟨A, rfl⟩ := bv_range a ha.1 ha.2
  obtain ⟨B, rfl⟩ := bv_range b hb.1 hb.2
  obtain ⟨n1, hn1⟩ : ∃ n1 : Nat, n % 4611686018427387904 = (n1 : Int) := ⟨(n % 4611686018427387904).toNat, by omega⟩
  obtain ⟨m1, hm1⟩ : ∃ m1 : Nat, m % 4611686018427387904 = (m1 : Int) := ⟨(m % 4611686018427387904).toNat, by omega⟩
  have hn2 : n1 < 4611686018427387904 := by omega
  have hm2 : m1 < 4611686018427387904 := by omega
  have c1 := fun w' h => CP.moved A n1 w' h (by omega)
  obtain ⟨X, hX⟩ : ∃ X, mvn (8 * n1) A = X := ⟨_, rfl⟩
  rw [hX] at c1
  have c2 := fun w' h => CP.moved X m1 w' h (by omega)
  rw [← hX, ← mvn_add, hX] at c2
  have c3 := fun w' h => CP.moved A (n1 + m1) w' h (by omega)
  rw [Nat.mul_add] at c3
  have c4 := fun w' h => CP.moved (A ^^^ B) n1 w' h (by omega)
  have c5 := fun w' h => CP.moved B n1 w' h (by omega)
  rw [mvn_xor, hX] at c4
  have c6 := fun w' h => CP.moved A 0 w' h (by decide)
  have e1 : bits .xor .u32 (nv A) (nv B) = nv (A ^^^ B) := by rw [xor_nv, bv_nv]
  have e2 : bits .xor .u32 (nv X) (nv (mvn (8 * n1) B)) = nv (X ^^^ mvn (8 * n1) B) := by rw [xor_nv, bv_nv]
  have e3 : (nv X == 0) = (nv A == 0) := by
    have h : (nv X = 0) ↔ (nv A = 0) := by
      constructor
      · intro h
        have h1 : X = 0#32 := nv_inj (h.trans rfl)
        rw [← hX] at h1
        rw [mvn_eq_zero _ h1]
        rfl
      · intro h
        have h1 : A = 0#32 := nv_inj (h.trans rfl)
        rw [← hX, h1, mvn_zero]
        rfl
    rcases Decidable.em (nv A = 0) with h1 | h1
    · rw [h.2 h1, h1]
    · have h2 : ¬ nv X = 0 := fun h2 => h1 (h.1 h2)
      rw [beq_false_of_ne h1, beq_false_of_ne h2]
  rw [show mvn (8 * 0) A = A from rfl, show ((0 : Nat) : Int) = 0 from rfl] at c6
  have hnm : ((n1 + m1 : Nat) : Int) = (n1 : Int) + m1 := by omega
  rw [hnm] at c3
  obtain ⟨Z, hZ⟩ : ∃ Z, nv (mvn (8 * n1 + 8 * m1) A) = Z := ⟨_, rfl⟩
  rw [hZ] at c2 c3
  obtain ⟨V, hV⟩ : ∃ V, nv (X ^^^ mvn (8 * n1) B) = V := ⟨_, rfl⟩
  rw [hV] at c4 e2
  obtain ⟨U, hU⟩ : ∃ U, nv (mvn (8 * n1) B) = U := ⟨_, rfl⟩
  rw [hU] at c5 e2
  obtain ⟨T, hT⟩ : ∃ T, nv (A ^^^ B) = T := ⟨_, rfl⟩
  rw [hT] at c4 e1
  have bA := And.intro (nv_lo A) (nv_hi A)
  have bX := And.intro (nv_lo X) (nv_hi X)
  obtain ⟨x, hx⟩ : ∃ x, nv X = x := ⟨_, rfl⟩
  obtain ⟨y, hy⟩ : ∃ y, nv A = y := ⟨_, rfl⟩
  obtain ⟨z, hz⟩ : ∃ z, nv B = z := ⟨_, rfl⟩
  rw [hx] at c1 c2 e2 e3
  rw [hy] at c1 c3 c6 e1 e3 ⊢
  rw [hz] at c5 e1 ⊢
  clear hX hZ hV hU hT hx hy hz ha hb bA bX
  go_enter Tryd.func5, Tryd.ntmps5
  go_wp2_with fail
  (try simp only [hn1, hm1])
  have B0 := Below.refl w.heap.size w
  refine (c1 w hG).mono ?_
  rintro q w1 ⟨rfl, b1⟩
  have B1 := B0.trans (b1.mono B0.size)
  have G1 := CP.gl_keep hG (B1.mono (CP.gl_le hG))
  clear b1
  go_wp2_with fail
  refine (c2 w1 G1).mono ?_
  rintro q w2 ⟨rfl, b2⟩
  have B2 := B1.trans (b2.mono B1.size)
  have G2 := CP.gl_keep hG (B2.mono (CP.gl_le hG))
  clear b2
  go_wp2_with fail
  refine (c3 w2 G2).mono ?_
  rintro q w3 ⟨rfl, b3⟩
  have B3 := B2.trans (b3.mono B2.size)
  have G3 := CP.gl_keep hG (B3.mono (CP.gl_le hG))
  clear b3
  go_wp2_with fail
  refine (c4 w3 G3).mono ?_
  rintro q w4 ⟨rfl, b4⟩
  have B4 := B3.trans (b4.mono B3.size)
  have G4 := CP.gl_keep hG (B4.mono (CP.gl_le hG))
  clear b4
  go_wp2_with fail
  refine (c5 w4 G4).mono ?_
  rintro q w5 ⟨rfl, b5⟩
  have B5 := B4.trans (b5.mono B4.size)
  have G5 := CP.gl_keep hG (B5.mono (CP.gl_le hG))
  clear b5
  go_wp2_with fail
  refine (c6 w5 G5).mono ?_
  rintro q w6 ⟨rfl, b6⟩
  have B6 := B5.trans (b6.mono B5.size)
  have G6 := CP.gl_keep hG (B6.mono (CP.gl_le hG))
  clear b6
  go_wp2_with fail
  refine (alive11_any CP w6 G6).mono ?_
  rintro q w7 ⟨rfl, b7⟩
  have B7 := B6.trans (b7.mono B6.size)
  clear b7
  go_wp2
  go_ret
  exact ⟨rfl, B7⟩
end Go.Proofs.YtlningdlddnnkaaDoor
