/-
  The law CrcJoins, out of what a program's sums come to ('CrcProg'). New memory alone is written. Conditions: bytes below 256.
-/
import Derived.Test.YtlningdlddnnkaaDoorCrcProg
import Derived.RegionTactic
import Derived.ChangeAlike
import Derived.Deep.QuietTactic
import Derived.BigQuiet
namespace Go.Proofs.YtlningdlddnnkaaDoor
open Go.RowKit

theorem sum_one (CP : CrcProg) (w : World) (hG : CP.Gl w) (a : Option Addr) (n c : Nat) (xs : List Int) (hI : Ints .u8 w a n c xs) (hr : ∀ x ∈ xs, 0 ≤ x ∧ x < 256) (hn : n ≤ 1000) (V : BitVec 32) (hV : crcOf 0#32 (bvs xs) = V) : ∀ W, Below w.heap.size w W →
    Calls Tryd.prog 11 #[.slice (some ⟨W.heap.size, 0, none⟩) 1 1] (W.alloc (.cells #[.slice a n c] 26)) fun q w' => q = .returned (.int .u32 (nv V)) ∧ Below (W.alloc (.cells #[.slice a n c] 26)).heap.size (W.alloc (.cells #[.slice a n c] 26)) w' := by
  intro W hB
  have h := CP.of _ 1 1 [xs] _ (CP.gl_keep hG ((hB.trans ((below1 W (.cells #[.slice a n c] 26)).mono hB.size)).mono (CP.gl_le hG))) (parts_one11 W a n c xs (hI.keep hB) 26) (by simpa using hr) (by have := hI.len; simp; omega)
  rw [show [xs].flatten = xs by simp, hV] at h
  exact h
theorem sum_two (CP : CrcProg) (w : World) (hG : CP.Gl w) (a b : Option Addr) (n c m d : Nat) (xs ys : List Int) (hI : Ints .u8 w a n c xs) (hJ : Ints .u8 w b m d ys) (hr : ∀ x ∈ xs, 0 ≤ x ∧ x < 256) (hs : ∀ x ∈ ys, 0 ≤ x ∧ x < 256) (hn : n ≤ 1000) (hm : m ≤ 1000) (V : BitVec 32) (hV : crcOf 0#32 (bvs (xs ++ ys)) = V) : ∀ W, Below w.heap.size w W →
    Calls Tryd.prog 11 #[.slice (some ⟨W.heap.size, 0, none⟩) 2 2] (W.alloc (.cells #[.slice a n c, .slice b m d] 26)) fun q w' => q = .returned (.int .u32 (nv V)) ∧ Below (W.alloc (.cells #[.slice a n c, .slice b m d] 26)).heap.size (W.alloc (.cells #[.slice a n c, .slice b m d] 26)) w' := by
  intro W hB
  have h := CP.of _ 2 2 [xs, ys] _ (CP.gl_keep hG ((hB.trans ((below1 W (.cells #[.slice a n c, .slice b m d] 26)).mono hB.size)).mono (CP.gl_le hG))) (parts_two11 W a b n m c d xs ys (hI.keep hB) (hJ.keep hB) 26) (by
    intro p hp
    simp only [List.mem_cons, List.not_mem_nil, or_false] at hp
    rcases hp with rfl | rfl
    · exact hr
    · exact hs) (by have := hI.len; have := hJ.len; simp; omega)
  rw [show [xs, ys].flatten = xs ++ ys by simp, hV] at h
  exact h

set_option maxRecDepth 100000 in
set_option maxHeartbeats 1600000 in
theorem joins_any (CP : CrcProg) (a : Option Addr) (n c : Nat) (xs : List Int) (b : Option Addr) (m d : Nat) (ys : List Int) (s0 s1 : Int) (w : World) (hG : CP.Gl w) (hI : Ints .u8 w a n c xs) (hr : ∀ x ∈ xs, 0 ≤ x ∧ x < 256) (hJ : Ints .u8 w b m d ys) (hs : ∀ x ∈ ys, 0 ≤ x ∧ x < 256) (h0 : 0 ≤ s0 ∧ s0 < 4294967296) (h1 : 0 ≤ s1 ∧ s1 < 4294967296) :
    Calls Tryd.prog 4 #[.slice a n c, .slice b m d, .agg #[.int .u32 s0, .int .u32 s1]] w fun e w' => e = .returned (.bool true) ∧ Below w.heap.size w w' := by
  obtain ⟨X, rfl⟩ := bv_range s0 h0.1 h0.2
  obtain ⟨Y, rfl⟩ := bv_range s1 h1.1 h1.2
  have bb := below1 w (.cells #[.int .u32 (nv X), .int .u32 (nv Y)] 32)
  have Gb := CP.gl_keep hG (bb.mono (CP.gl_le hG))
  by_cases hn : 1000 < n
  · have hni : (1000 : Int) < (n : Int) := by omega
    go_enter Tryd.func4, Tryd.ntmps4
    go_wp2_with fail
    refine (alive11_any CP _ Gb).mono ?_
    rintro q w9 ⟨rfl, b9⟩
    go_wp2
    go_ret
    exact ⟨rfl, bb.trans (b9.mono bb.size)⟩
  by_cases hm : 1000 < m
  · have hni : ¬ (1000 : Int) < (n : Int) := by omega
    have hmi : (1000 : Int) < (m : Int) := by omega
    go_enter Tryd.func4, Tryd.ntmps4
    go_wp2_with fail
    refine (alive11_any CP _ Gb).mono ?_
    rintro q w9 ⟨rfl, b9⟩
    go_wp2
    go_ret
    exact ⟨rfl, bb.trans (b9.mono bb.size)⟩
  have hni : ¬ (1000 : Int) < (n : Int) := by omega
  have hmi : ¬ (1000 : Int) < (m : Int) := by omega
  have hm0 : (m : Int) ≤ 1000 := by omega
  obtain ⟨OA, hOA⟩ : ∃ V, crcOf 0#32 (bvs xs) = V := ⟨_, rfl⟩
  obtain ⟨OB, hOB⟩ : ∃ V, crcOf 0#32 (bvs ys) = V := ⟨_, rfl⟩
  obtain ⟨OC, hOC⟩ : ∃ V, crcOf 0#32 (bvs (xs ++ ys)) = V := ⟨_, rfl⟩
  have cA := sum_one CP w hG a n c xs hI hr (by omega) OA hOA
  have cB := sum_one CP w hG b m d ys hJ hs (by omega) OB hOB
  have cAB := sum_two CP w hG a b n c m d xs ys hI hJ hr hs (by omega) (by omega) OC hOC
  have cJ : ∀ W, Below w.heap.size w W → _ := fun W hB => CP.join OA OB m W (CP.gl_keep hG (hB.mono (CP.gl_le hG))) (by omega)
  have eJ : mvn (8 * m) OA ^^^ OB = OC := by
    have h := crc_join (bvs xs) (bvs ys)
    rw [bvs_len, hJ.len, hOA, hOB, ← bvs_append, hOC] at h
    exact h
  rw [eJ] at cJ
  have cM : ∀ W, Below w.heap.size w W → _ := fun W hB => CP.more OA b m d ys W (CP.gl_keep hG (hB.mono (CP.gl_le hG))) (hJ.keep hB) hs (by omega)
  have eM : crcOf OA (bvs ys) = OC := by rw [← hOC, bvs_append, crcOf_append, hOA]
  rw [eM] at cM
  have cV : ∀ W, Below w.heap.size w W → _ := fun W hB => CP.moved X m W (CP.gl_keep hG (hB.mono (CP.gl_le hG))) (by omega)
  have cX : ∀ W, Below w.heap.size w W → _ := fun W hB => CP.join X Y m W (CP.gl_keep hG (hB.mono (CP.gl_le hG))) (by omega)
  have cR : ∀ W, Below w.heap.size w W → Calls Tryd.prog 16 #[.int .u32 (nv X), .int .i64 (m : Int)] W fun q w' => q = .returned (.int .u32 (nv (mvn (8 * m) X))) ∧ Below W.heap.size W w' := fun W _ => (rMoved_any X m W (by omega)).mono fun q w' h => ⟨h.1, by rw [← h.2]; exact Below.refl _ _⟩
  have e1 : bits .xor .u32 (nv (mvn (8 * m) X)) (nv Y) = nv (mvn (8 * m) X ^^^ Y) := by rw [xor_nv, bv_nv]
  obtain ⟨V, hV⟩ : ∃ V, nv (mvn (8 * m) X) = V := ⟨_, rfl⟩
  obtain ⟨U, hU⟩ : ∃ U, nv (mvn (8 * m) X ^^^ Y) = U := ⟨_, rfl⟩
  rw [hV] at cV cR e1
  rw [hU] at cX e1
  obtain ⟨vA, hA⟩ : ∃ V, nv OA = V := ⟨_, rfl⟩
  obtain ⟨vB, hB⟩ : ∃ V, nv OB = V := ⟨_, rfl⟩
  obtain ⟨vC, hC⟩ : ∃ V, nv OC = V := ⟨_, rfl⟩
  rw [hA] at cA cJ cM
  rw [hB] at cB cJ
  rw [hC] at cAB cJ cM
  obtain ⟨x, hx⟩ : ∃ V, nv X = V := ⟨_, rfl⟩
  obtain ⟨y, hy⟩ : ∃ V, nv Y = V := ⟨_, rfl⟩
  rw [hx] at cV cX cR bb Gb ⊢
  rw [hy] at cX e1 bb Gb ⊢
  clear hV hU hA hB hC hx hy hOA hOB hOC eJ eM h0 h1 hn hm
  go_enter Tryd.func4, Tryd.ntmps4
  go_wp2
  go_quiet (fail)
  obtain ⟨w0, hw0⟩ : ∃ w0, (w.alloc (.cells #[.int .u32 x, .int .u32 y] 32)).drewN nq = w0 := ⟨_, rfl⟩
  have B0 : Below w.heap.size w w0 := by rw [← hw0]; exact below_drewN bb nq
  rw [hw0]
  clear hw0 bb Gb
  go_wp2_with fail
  refine (cA w0 B0).mono ?_
  rintro q w1 ⟨rfl, b1⟩
  have B1 := B0.trans (((below1 w0 (.cells #[.slice a n c] 26)).trans (b1.mono (below1 w0 (.cells #[.slice a n c] 26)).size)).mono B0.size)
  clear b1 B0
  go_wp2_with fail
  refine (cB w1 B1).mono ?_
  rintro q w2 ⟨rfl, b2⟩
  have B2 := B1.trans (((below1 w1 (.cells #[.slice b m d] 26)).trans (b2.mono (below1 w1 (.cells #[.slice b m d] 26)).size)).mono B1.size)
  clear b2 B1
  go_wp2_with fail
  refine (cJ w2 B2).mono ?_
  rintro q w3 ⟨rfl, b3⟩
  have B3 := B2.trans (b3.mono B2.size)
  clear b3 B2
  go_wp2_with fail
  refine (cAB w3 B3).mono ?_
  rintro q w4 ⟨rfl, b4⟩
  have B4 := B3.trans (((below1 w3 (.cells #[.slice a n c, .slice b m d] 26)).trans (b4.mono (below1 w3 (.cells #[.slice a n c, .slice b m d] 26)).size)).mono B3.size)
  clear b4 B3
  go_wp2_with fail
  refine (cA w4 B4).mono ?_
  rintro q w5 ⟨rfl, b5⟩
  have B5 := B4.trans (((below1 w4 (.cells #[.slice a n c] 26)).trans (b5.mono (below1 w4 (.cells #[.slice a n c] 26)).size)).mono B4.size)
  clear b5 B4
  go_wp2_with fail
  refine (cM w5 B5).mono ?_
  rintro q w6 ⟨rfl, b6⟩
  have B6 := B5.trans (b6.mono B5.size)
  clear b6 B5
  go_wp2_with fail
  refine (cAB w6 B6).mono ?_
  rintro q w7 ⟨rfl, b7⟩
  have B7 := B6.trans (((below1 w6 (.cells #[.slice a n c, .slice b m d] 26)).trans (b7.mono (below1 w6 (.cells #[.slice a n c, .slice b m d] 26)).size)).mono B6.size)
  clear b7 B6
  go_wp2_with fail
  refine (cV w7 B7).mono ?_
  rintro q w8 ⟨rfl, b8⟩
  have B8 := B7.trans (b8.mono B7.size)
  clear b8 B7
  go_wp2_with fail
  refine (cR w8 B8).mono ?_
  rintro q w9 ⟨rfl, b9⟩
  have B9 := B8.trans (b9.mono B8.size)
  clear b9 B8
  go_wp2_with fail
  refine (cX w9 B9).mono ?_
  rintro q w10 ⟨rfl, b10⟩
  have B10 := B9.trans (b10.mono B9.size)
  clear b10 B9
  go_wp2_with fail
  refine (cR w10 B10).mono ?_
  rintro q w11 ⟨rfl, b11⟩
  have B11 := B10.trans (b11.mono B10.size)
  clear b11 B10
  go_wp2_with fail
  refine (alive11_any CP w11 (CP.gl_keep hG (B11.mono (CP.gl_le hG)))).mono ?_
  rintro q w12 ⟨rfl, b12⟩
  go_wp2
  go_ret
  exact ⟨rfl, B11.trans (b12.mono B11.size)⟩
end Go.Proofs.YtlningdlddnnkaaDoor
