/-
  What the landed file's behind comes to: what is kept, with so many units done, in new memory. Conditions: a file of at most 65536 bytes, 2^42 steps.
-/
import Derived.Test.YtmnfagpbcllbgaaDkDo
namespace Go.Proofs.Ytmnfagpbcllbgaa
open Go.RowKit

theorem StpAt.get {L : Nat → Nat} {P : Nat → Prop} {w : World} {i : Nat} {a : Option Addr} {c : Nat} {S : List StV} (h : StpAt L P w i a c S) (j : Nat) (hj : j < S.length) : ∃ b v s, a = some ⟨b, 0, none⟩ ∧ S[j]? = some s ∧ w.cell? ⟨b, j, none⟩ = some v ∧ StAt P w v s := by
  obtain ⟨vs, ho, hs⟩ := h.o
  obtain ⟨v, hv, hst⟩ := hs.2 j _ (List.getElem?_eq_getElem hj)
  rcases ho.2 with ⟨hv0, h0⟩ | ⟨g, cap, cur, hv0, _⟩
  · omega
  · injection hv0 with h1 h2 h3
    subst h1
    refine ⟨g, v, S[j], rfl, List.getElem?_eq_getElem hj, ?_, hst⟩
    rw [ho.cellAt j (by omega)]
    exact hv
theorem meth_put (v : Value) (w : World) : (method 210 83 v "mirador/disk.do").run Try.prog w = .ok (66, v) w := by kernel_rfl
theorem meth_cut (v : Value) (w : World) : (method 210 88 v "mirador/disk.do").run Try.prog w = .ok (67, v) w := by kernel_rfl
theorem Became.below {w0 w w' : World} {A : Option Addr} {n C : Nat} {q : Value} {ys : List Int} {xs : List Value} (h : Became w0.heap.size w A n C w' q ys) (ho : w.ownsRow w0.heap.size 5 1 (.slice A n C) n xs) (hb : Below w0.heap.size w0 w) : Below w0.heap.size w0 w' :=
  hb.grown h.gr hb.size (fun q hq => (ho.lt q hq).1)

set_option maxRecDepth 100000 in
set_option maxHeartbeats 2000000 in
theorem dBehind_any {L : Nat → Nat} {P : Nat → Prop} {w : World} {i g o : Nat} {x : FaV} {v : FlV} (u : Nat) (hx : FlAt L P w i x v) (c0 : w.cell? ⟨g, o, none⟩ = some (.slice x.ka v.K.length x.kc)) (c1 : w.cell? ⟨g, o + 1, none⟩ = some (.slice x.sa v.S.length x.sc)) (hok : okF v.K v.S) (hn : v.need ≤ 65536) (hu : u ≤ 1152921504606846976) (hs : v.S.length ≤ 4398046511104) (hB : ∀ b, P b ∨ isF i (L b) → b < w.heap.size) :
    Calls Try.prog 48 #[.pointer (some ⟨g, o, none⟩), .int .i64 (u : Int)] w fun q w' => Tells w q w' (doneL v.K v.S u) := by
  have hI := hx.k.i
  have hK : v.K.length ≤ 65536 := Nat.le_trans (kept_le _ _) hn
  have hC := pClone_any x.ka v.K.length x.kc v.K w hI (by omega)
  have hg : g < w.heap.size := World.block_lt_of_cell? w _ c0
  have hG := fun (j : Nat) (hj : j < v.S.length) => hx.s.get j hj
  have hlen := fun j => Nat.le_trans (Nat.le_trans (doneL_le v.K (v.S.take j) u) (needL_take_le v.K v.S j)) hn
  have hfit := fun j k h => cut_fits v.S v.K j k u hok h
  have hlenH := Lib.hid hlen
  have hfitH := Lib.hid hfit
  have hGH := Lib.hid hG
  have hBH := Lib.hid hB
  obtain ⟨N, hN⟩ : ∃ N, v.S.length = N := ⟨_, rfl⟩
  rw [hN] at c1 hs
  have hNH := Lib.hid hN
  clear hlen hfit hG hB hok hn hI hx hN
  go_enter Try.func48, Try.ntmps48
  go_wp2_with fail
  refine hC.mono ?_
  rintro q w1 ⟨b, c, rfl, ho, hB1⟩
  have d1 : w1.cell? ⟨g, o + 1, none⟩ = some (.slice x.sa N x.sc) := by rw [hB1.cell (p := ⟨g, o + 1, none⟩) hg]; exact c1
  go_wp2_with fail
  go_loopw [1, 5, 19] (fun l b i wr => ∃ (j : Nat) (B : Option Addr) (n C l0 : Nat), j ≤ N ∧ i = .int .i64 j ∧ l0 = u - unitsL (v.S.take j) ∧ l = .int .i64 (l0 : Int) ∧ b = .slice B n C ∧ wr.ownsRow w.heap.size 5 1 (.slice B n C) n ((doneL v.K (v.S.take j) u).map (Value.int .u8)) ∧ Below w.heap.size w wr) (fun _ _ i _ => N - (intOf i).toNat)
  case atStart => exact ⟨0, _, _, _, _, Nat.zero_le _, rfl, rfl, rfl, rfl, ho, hB1⟩
  case round =>
    clear d1 ho c0 c1 hB1
    obtain ⟨j, B, n, C, l, hj, rfl, hl, rfl, rfl, hO, hBw⟩ := hrel
    have hn5 : n ≤ 65536 := by have := hO.1; rw [List.length_map, Nat.mul_one] at this; rw [← this]; exact hlenH.out j
    have hl5 : l ≤ 1152921504606846976 := by rw [hl]; omega
    by_cases hlt : j < N
    · have hji : (j : Int) < (N : Int) := by omega
      obtain ⟨bk, sv, s, hsa, hSj, hc, hst⟩ := hGH.out j (by rw [hNH.out]; exact hlt)
      rw [hsa]
      have hbk : bk < w.heap.size := World.block_lt_of_cell? w _ hc
      have hcw : wr.cell? ⟨bk, j, none⟩ = some sv := by rw [hBw.cell (p := ⟨bk, j, none⟩) hbk]; exact hc
      have hstw : StAt P wr sv s := hst.same (fun b hb => hBw.block b (hBH.out b (.inl hb))) (fun _ h => h)
      have hU := uOf_any hstw
      have hsplit := unitsL_take v.S j s hSj
      have hact := doneL_take v.S j s hSj v.K u
      rw [← hl] at hact
      have hl2 : l - s.units = u - unitsL (v.S.take (j + 1)) := by rw [hsplit, hl]; omega
      have hactH := Lib.hid hact
      have hl2H := Lib.hid hl2
      have hlH := Lib.hid hl
      have hltH := Lib.hid hlt
      have hfj := hfitH.out j
      clear hc hst hbk hsplit hact hl2 hlt hj hl
      obtain ⟨un, hun⟩ : ∃ un, s.units = un := ⟨_, rfl⟩
      rw [hun] at hU
      have hw0 : wrap64 ((l : Int) - (l : Int)) = ((0 : Nat) : Int) := by unfold wrap64; omega
      by_cases hle : (l : Int) ≤ (un : Int)
      · cases s with
        | put xs =>
          obtain ⟨pa, pc, rfl, hpI, hpP⟩ := hstw
          have hme := meth_put (.slice pa xs.length pc)
          have hact2 : doneL v.K (v.S.take (j + 1)) u = doneL v.K (v.S.take j) u ++ xs.take l := by rw [hactH.out]; have h9 : xs.length = un := hun; simp only [StV.act, StV.units, h9]; rw [Nat.min_eq_left (by omega)]
          have hD := dPutDo_any hpI hO l (by have h9 : xs.length = un := hun; omega) (by have h9 : xs.length = un := hun; have h8 := hlenH.out (j + 1); rw [hact2, List.length_append, List.length_take] at h8; have := hO.1; rw [List.length_map, Nat.mul_one] at this; omega) hBw.size
          have hunH := Lib.hid hun
          have hact2H := Lib.hid hact2
          clear hun hact2 hpI hpP hfj hSj
          go_wp2_with fail
          refine hU.mono ?_
          rintro q w2 ⟨rfl, rfl⟩
          go_wp2_with fail
          refine hD.mono ?_
          rintro q w3 ⟨v3, rfl, hbc⟩
          rw [← hact2H.out] at hbc
          obtain ⟨D5, hD5⟩ : ∃ D5, doneL v.K (v.S.take (j + 1)) u = D5 := ⟨_, rfl⟩
          rw [hD5] at hbc
          have hD5H := Lib.hid hD5
          clear hD5
          obtain ⟨A5, C5, rfl, ho5, _⟩ := hbc.is
          have hB5 := hbc.below hO hBw
          go_wp2
          refine ⟨⟨j + 1, _, _, _, 0, by have := hltH.out; omega, by congr 1, by have := hl2H.out; rw [hunH.out] at this; omega, rfl, rfl, by rw [hD5H.out]; exact ho5, hB5⟩, by simp only [intOf]; have := hltH.out; omega⟩
        | cut k =>
          obtain rfl : sv = .iface 88 (.int .i64 (k : Int)) := hstw
          have hme := meth_cut (.int .i64 (k : Int))
          have hact2 : doneL v.K (v.S.take (j + 1)) u = if l = 0 then doneL v.K (v.S.take j) u else (doneL v.K (v.S.take j) u).take k := by rw [hactH.out]; have h9 : 1 = un := hun; simp only [StV.act, StV.units, h9]; rw [Nat.min_eq_left (by omega)]
          have hD := dCutDo_any (k := k) hO l (fun h => by have h9 : 1 = un := hun; have h8 := hfj k hSj (by have := hlH.out; omega); have := hO.1; rw [List.length_map, Nat.mul_one] at this; omega)
          have hunH := Lib.hid hun
          have hact2H := Lib.hid hact2
          clear hun hact2 hfj hSj
          go_wp2_with fail
          refine hU.mono ?_
          rintro q w2 ⟨rfl, rfl⟩
          go_wp2_with fail
          refine hD.mono ?_
          rintro q w3 ⟨v3, rfl, hbc⟩
          rw [← hact2H.out] at hbc
          obtain ⟨D5, hD5⟩ : ∃ D5, doneL v.K (v.S.take (j + 1)) u = D5 := ⟨_, rfl⟩
          rw [hD5] at hbc
          have hD5H := Lib.hid hD5
          clear hD5
          obtain ⟨A5, C5, rfl, ho5, _⟩ := hbc.is
          have hB5 := hbc.below hO hBw
          go_wp2
          refine ⟨⟨j + 1, _, _, _, 0, by have := hltH.out; omega, by congr 1, by have := hl2H.out; rw [hunH.out] at this; omega, rfl, rfl, by rw [hD5H.out]; exact ho5, hB5⟩, by simp only [intOf]; have := hltH.out; omega⟩
      · cases s with
        | put xs =>
          obtain ⟨pa, pc, rfl, hpI, hpP⟩ := hstw
          have hme := meth_put (.slice pa xs.length pc)
          have hact2 : doneL v.K (v.S.take (j + 1)) u = doneL v.K (v.S.take j) u ++ xs.take un := by rw [hactH.out]; have h9 : xs.length = un := hun; simp only [StV.act, StV.units, h9]; rw [Nat.min_eq_right (by omega)]
          have hD := dPutDo_any hpI hO un (by have h9 : xs.length = un := hun; omega) (by have h9 : xs.length = un := hun; have h8 := hlenH.out (j + 1); rw [hact2, List.length_append, List.length_take] at h8; have := hO.1; rw [List.length_map, Nat.mul_one] at this; omega) hBw.size
          have hunH := Lib.hid hun
          have hw1 : wrap64 ((l : Int) - (un : Int)) = ((l - un : Nat) : Int) := by unfold wrap64; omega
          have hact2H := Lib.hid hact2
          clear hun hact2 hpI hpP hfj hSj
          go_wp2_with fail
          refine hU.mono ?_
          rintro q w2 ⟨rfl, rfl⟩
          go_wp2_with fail
          refine hD.mono ?_
          rintro q w3 ⟨v3, rfl, hbc⟩
          rw [← hact2H.out] at hbc
          obtain ⟨D5, hD5⟩ : ∃ D5, doneL v.K (v.S.take (j + 1)) u = D5 := ⟨_, rfl⟩
          rw [hD5] at hbc
          have hD5H := Lib.hid hD5
          clear hD5
          obtain ⟨A5, C5, rfl, ho5, _⟩ := hbc.is
          have hB5 := hbc.below hO hBw
          go_wp2
          refine ⟨⟨j + 1, _, _, _, l - un, by have := hltH.out; omega, by congr 1, by have := hl2H.out; rw [hunH.out] at this; omega, by congr 1; omega, rfl, by rw [hD5H.out]; exact ho5, hB5⟩, by simp only [intOf]; have := hltH.out; omega⟩
        | cut k =>
          obtain rfl : sv = .iface 88 (.int .i64 (k : Int)) := hstw
          have hme := meth_cut (.int .i64 (k : Int))
          have hact2 : doneL v.K (v.S.take (j + 1)) u = if un = 0 then doneL v.K (v.S.take j) u else (doneL v.K (v.S.take j) u).take k := by rw [hactH.out]; have h9 : 1 = un := hun; simp only [StV.act, StV.units, h9]; rw [Nat.min_eq_right (by omega)]
          have hD := dCutDo_any (k := k) hO un (fun h => by have h9 : 1 = un := hun; have h8 := hfj k hSj (by have := hlH.out; omega); have := hO.1; rw [List.length_map, Nat.mul_one] at this; omega)
          have hunH := Lib.hid hun
          have hw1 : wrap64 ((l : Int) - (un : Int)) = ((l - un : Nat) : Int) := by unfold wrap64; omega
          have hact2H := Lib.hid hact2
          clear hun hact2 hfj hSj
          go_wp2_with fail
          refine hU.mono ?_
          rintro q w2 ⟨rfl, rfl⟩
          go_wp2_with fail
          refine hD.mono ?_
          rintro q w3 ⟨v3, rfl, hbc⟩
          rw [← hact2H.out] at hbc
          obtain ⟨D5, hD5⟩ : ∃ D5, doneL v.K (v.S.take (j + 1)) u = D5 := ⟨_, rfl⟩
          rw [hD5] at hbc
          have hD5H := Lib.hid hD5
          clear hD5
          obtain ⟨A5, C5, rfl, ho5, _⟩ := hbc.is
          have hB5 := hbc.below hO hBw
          go_wp2
          refine ⟨⟨j + 1, _, _, _, l - un, by have := hltH.out; omega, by congr 1, by have := hl2H.out; rw [hunH.out] at this; omega, by congr 1; omega, rfl, by rw [hD5H.out]; exact ho5, hB5⟩, by simp only [intOf]; have := hltH.out; omega⟩
    · obtain rfl : j = N := by omega
      have hji : ¬ (j : Int) < (j : Int) := by omega
      have hnn : (doneL v.K v.S u).length = n := by
        have := hO.1
        rw [List.length_map, Nat.mul_one] at this
        rw [List.take_of_length_le (by rw [hNH.out]; exact Nat.le_refl _)] at this
        exact this
      rw [List.take_of_length_le (by rw [hNH.out]; exact Nat.le_refl _)] at hO
      have hnnH := Lib.hid hnn
      clear hlt hj hnn hl
      go_wp2
      go_ret
      exact ⟨B, C, by rw [hnnH.out]; rfl, by rw [hnnH.out]; exact hO, hBw⟩
end Go.Proofs.Ytmnfagpbcllbgaa
