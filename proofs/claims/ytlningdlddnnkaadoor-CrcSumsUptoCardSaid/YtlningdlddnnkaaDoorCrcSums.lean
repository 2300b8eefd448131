/-
  The law CrcSums, out of what a program's sums come to ('CrcProg'). New memory alone is written. Conditions: parts and bytes are at most a hundred million.
-/
import Derived.Test.YtlningdlddnnkaaDoorCrcProg
import Derived.Test.YtlningdlddnnkaaDoorShaJoin
namespace Go.Proofs.YtlningdlddnnkaaDoor
open Go.RowKit

set_option maxRecDepth 100000 in
set_option maxHeartbeats 1600000 in
theorem sums_any (CP : CrcProg) (a : Option Addr) (n c : Nat) (ps : List (List Int)) (s0 : Int) (w : World) (hG : CP.Gl w) (hP : Parts w a n c ps) (hr : ∀ p ∈ ps, ∀ y ∈ p, 0 ≤ y ∧ y < 256) (hm : n + ps.flatten.length ≤ 100000000) (h0 : 0 ≤ s0 ∧ s0 < 4294967296) :
    Calls Tryd.prog 3 #[.slice a n c, .int .u32 s0] w fun e w' => e = .returned (.bool true) ∧ Below w.heap.size w w' := by
  obtain ⟨S, rfl⟩ := bv_range s0 h0.1 h0.2
  have hF := refFew_any a n c ps w hP (by omega) (by omega) 2000 2000 rfl
  by_cases hf : n + ps.flatten.length ≤ 2000
  case neg =>
    rw [decide_eq_false hf] at hF
    obtain ⟨s, hs⟩ : ∃ s, nv S = s := ⟨_, rfl⟩
    rw [hs]
    go_enter Tryd.func3, Tryd.ntmps3
    go_wp2_with fail
    refine hF.mono ?_
    rintro q w1 ⟨rfl, rfl⟩
    go_wp2_with fail
    refine (alive11_any CP w hG).mono ?_
    rintro q w9 ⟨rfl, b9⟩
    go_wp2
    go_ret
    exact ⟨rfl, b9⟩
  rw [decide_eq_true hf] at hF
  have hrf : ∀ y ∈ ps.flatten, 0 ≤ y ∧ y < 256 := fun y hy => by
    obtain ⟨p, hp, hy⟩ := List.mem_flatten.1 hy
    exact hr p hp y hy
  have hJ := refJoin_own a n c ps w hP (by omega) (by omega)
  have cO := fun w' (hB : Below w.heap.size w w') => CP.of a n c ps w' (CP.gl_keep hG (hB.mono (CP.gl_le hG))) (hP.keep hB) hr (by omega)
  have hst := fun (j : Nat) (h : j < ps.length) => flatten_snoc ps j h
  have hll := fun (j : Nat) => flatten_take_le ps j
  have hpl := hP.len
  obtain ⟨Y, hY⟩ : ∃ Y, ps.flatten = Y := ⟨_, rfl⟩
  have hfull : (ps.take n).flatten = Y := by rw [List.take_of_length_le (by omega), hY]
  rw [hY] at hrf hJ cO hf hll
  obtain ⟨L, hL⟩ : ∃ L, Y.length = L := ⟨_, rfl⟩
  rw [hL] at hJ hf hll
  have hnI : (n : Int) ≤ 2000 := by omega
  obtain ⟨V, hV⟩ : ∃ V, nv (crcOf S (bvs Y)) = V := ⟨_, rfl⟩
  have cM := fun w' (hB : Below w.heap.size w w') b d (hI : Ints .u8 w' b L d Y) => CP.more S b L d Y w' (CP.gl_keep hG (hB.mono (CP.gl_le hG))) hI hrf (by omega)
  have cR := fun w' b d (hI : Ints .u8 w' b L d Y) => rMore_any S b L d Y w' hI hrf (by omega)
  have cQ := fun w' b d (hI : Ints .u8 w' b L d Y) => rOf_any b L d Y w' hI hrf (by omega)
  rw [hV] at cM cR
  have hVH := Lib.hid hV
  obtain ⟨U, hU⟩ : ∃ U, nv (crcOf 0#32 (bvs Y)) = U := ⟨_, rfl⟩
  rw [hU] at cO cQ
  obtain ⟨s, hs⟩ : ∃ s, nv S = s := ⟨_, rfl⟩
  have hsH := Lib.hid hs
  rw [hs] at cM cR ⊢
  have hfH := Lib.hid hf
  have hfullH := Lib.hid hfull
  clear hm h0 hY hL hV hU hs hf hfull
  go_enter Tryd.func3, Tryd.ntmps3
  go_wp2_with fail
  refine hF.mono ?_
  rintro q w1 ⟨rfl, rfl⟩
  go_wp2_with fail
  refine hJ.mono ?_
  rintro q w2 ⟨jb, jc, rfl, hI2, hjb, b2⟩
  clear hF hJ
  go_wp2_with fail
  go_loopw [6, 18] (fun x i wr => ∃ j : Nat, j ≤ n ∧ i = .int .i64 j ∧ x = .int .u32 (nv (crcOf S (bvs (ps.take j).flatten))) ∧ Ints .u8 wr jb L jc Y ∧ Below w.heap.size w wr) (fun _ i _ => n - (intOf i).toNat)
  case atStart => exact ⟨0, Nat.zero_le _, rfl, by rw [← hsH.out]; simp [bvs, crcOf, more, BitVec.xor_assoc], hI2, b2⟩
  case round =>
    clear hI2 b2
    obtain ⟨j, hj, rfl, rfl, hI, hB⟩ := hrel
    by_cases hlt : j < n
    · have hji : (j : Int) < (n : Int) := by omega
      obtain ⟨b, off, rfl, hat⟩ := (hP.keep hB).at (by omega)
      obtain ⟨A, m, d, hc, hJ⟩ := hat j hlt
      have hfl := hst j (by omega)
      have hl1 := hll (j + 1)
      have hJl := hJ.len
      have hml : m ≤ 2000 := by
        have := hfH.out
        rw [hfl, List.length_append] at hl1
        omega
      have hgr := getD_mem_range hr j
      have hc2 := CP.more (crcOf S (bvs (ps.take j).flatten)) A m d (ps.getD j []) wr (CP.gl_keep hG (hB.mono (CP.gl_le hG))) hJ hgr (by omega)
      rw [← crcOf_append, ← bvs_append, ← hfl] at hc2
      obtain ⟨x, hx⟩ : ∃ x, nv (crcOf S (bvs (ps.take j).flatten)) = x := ⟨_, rfl⟩
      rw [hx] at hc2 ⊢
      have hltH := Lib.hid hlt
      clear hlt hj hat hx hfl hl1 hJl hgr
      go_wp2_with fail
      refine hc2.mono ?_
      rintro q w3 ⟨rfl, b3⟩
      have hI3 := hI.keep b3
      have hB3 := hB.trans (b3.mono hB.size)
      clear hc2 hI hB hJ hc b3
      go_wp2
      exact ⟨⟨j + 1, by have := hltH.out; omega, by congr 1, rfl, hI3, hB3⟩, by simp only [intOf]; have := hltH.out; omega⟩
    · obtain rfl : j = n := by omega
      have hji : ¬ (j : Int) < (j : Int) := by omega
      rw [hfullH.out, hVH.out]
      clear hlt hj
      go_wp2_with fail
      refine (cO wr hB).mono ?_
      rintro q w3 ⟨rfl, b3⟩
      have hI3 := hI.keep b3
      have hB3 := hB.trans (b3.mono hB.size)
      clear hI hB b3
      go_wp2_with fail
      refine (cQ w3 jb jc hI3).mono ?_
      rintro q w4 ⟨rfl, rfl⟩
      go_wp2_with fail
      refine (cM w3 hB3 jb jc hI3).mono ?_
      rintro q w5 ⟨rfl, b5⟩
      have hI5 := hI3.keep b5
      have hB5 := hB3.trans (b5.mono hB3.size)
      clear hI3 hB3 b5
      go_wp2_with fail
      refine (cR w5 jb jc hI5).mono ?_
      rintro q w6 ⟨rfl, rfl⟩
      go_wp2_with fail
      refine (cM w5 hB5 jb jc hI5).mono ?_
      rintro q w7 ⟨rfl, b7⟩
      have hB7 := hB5.trans (b7.mono hB5.size)
      clear hI5 hB5 b7
      go_wp2_with fail
      refine (alive11_any CP w7 (CP.gl_keep hG (hB7.mono (CP.gl_le hG)))).mono ?_
      rintro q w8 ⟨rfl, b8⟩
      go_wp2
      go_ret
      exact ⟨rfl, hB7.trans (b8.mono hB7.size)⟩
end Go.Proofs.YtlningdlddnnkaaDoor
