/-
  Texts of stages that were proved on their own, joined: RfDecode. Each begins with its own words.
-/
import Derived.Test.YtbiabjehdmddbaaGreatDoorJRlAll15
import Derived.Test.YtbiabjehdmddbaaGreatDoorJRlAll5
import Derived.Test.YtbiabjehdmddbaaGreatDoorJRlAll26

/-
  The document's own Decode of a reply (layer 15). New memory alone is written. Conditions: bytes below 256, at most a million.
-/
namespace Go.Proofs.YtbiabjehdmddbaaGreatDoor
open Go.RowKit

def nvR (xs : List Int) (j : Nat) : List Int := (List.range j).map fun k => numAt xs (2 + 4 * k)
theorem nvR_step (xs : List Int) (j : Nat) : nvR xs (j + 1) = nvR xs j ++ [numAt xs (2 + 4 * j)] := by
  unfold nvR
  rw [List.range_succ, List.map_append]
  rfl
theorem take_4 : ∀ l : List Int, 4 ≤ l.length → l.take 4 = [l.getD 0 0, l.getD 1 0, l.getD 2 0, l.getD 3 0]
  | [], h => by simp at h
  | [_], h => by simp at h
  | [_, _], h => by simp at h
  | [_, _, _], h => by simp at h
  | a :: b :: c :: d :: r, _ => rfl
theorem numAt_four (xs : List Int) (p : Nat) (h : p + 4 ≤ xs.length) : numAt xs p = xs.getD p 0 * 16777216 + xs.getD (p + 1) 0 * 65536 + xs.getD (p + 2) 0 * 256 + xs.getD (p + 3) 0 := by
  unfold numAt
  have hd : ∀ i, (xs.drop p).getD i 0 = xs.getD (p + i) 0 := fun i => by rw [List.getD_eq_getElem?_getD, List.getElem?_drop, List.getD_eq_getElem?_getD]
  rw [take_4 _ (by rw [List.length_drop]; omega), hd, hd, hd, hd]
  unfold be
  simp
  omega
theorem decR_fine' {xs : List Int} (h : xs.length = 22) : decR xs = if rightR (rplOf xs) = true then (rplOf xs, 0) else (noRpl, 4) := by
  unfold decR
  rw [if_neg (by omega), if_neg (by omega)]
theorem wp_alloc15 {P : Program} {w : World} {o : Oper} {a : Act} {K : Act → World → Prop} {Q : Exit → Act → World → Prop} (ty : TypeId) (ho : o.op = .alloc ty) {zs : List Value} (hz : Zero P ty zs)
    (h : K (a.put o.dst (.pointer (some ⟨w.heap.size, 0, none⟩))) (w.alloc (.cells zs.toArray ty))) : o.wp P a w K Q := by
  unfold Zero at hz
  cases hq : P.info? ty with
  | none => simp [hq] at hz
  | some i =>
    have hz' : i.zero = some (.agg zs.toArray) := by simpa [hq] using hz
    unfold Oper.wp
    simp only [execOp, ho]
    simp [Instr.alloc, zeroValue, typeInfo, hq, hz', newVar, newRow, Value.cells, newObj]
    exact h
theorem info_u32 : ∃ i, Tryz.prog.info? 24 = some i ∧ i.zero = some (.int .u32 0) ∧ i.size = 1 ∧ i.bytes = 4 := by
  have h : (Tryz.prog.info? 24).map (fun i => (i.zero, i.size, i.bytes)) = some (some (.int .u32 0), 1, 4) := by kernel_rfl
  cases hq : Tryz.prog.info? 24 with
  | none => simp [hq] at h
  | some i => rw [hq] at h; simp at h; exact ⟨i, rfl, h.1, h.2.1, h.2.2⟩
theorem five_own {w : World} {B : Nat} {t : TypeId} {v : Value} {S Q O U X : Int} (h : w.ownsRow B t 1 v 5 (arC S Q O U X)) : ∃ g cap, v = .slice (some ⟨g, 0, none⟩) 5 cap ∧ B ≤ g ∧ Five w g S Q O U X := by
  rcases h.2 with ⟨_, e⟩ | ⟨g, cap, cur, hv, hB, hg, hnc, hm, hs, ht⟩
  · cases e
  have hc : ∀ j, j < 5 → w.cell? ⟨g, j, none⟩ = (arC S Q O U X)[j]? := fun j hj => by
    rw [cell_of_row w g j _ t (0, 0) hg, ← ht, List.getElem?_take_of_lt (by omega), Array.getElem?_toList]
  exact ⟨g, cap, hv, hB, ⟨hc 0 (by decide), hc 1 (by decide), hc 2 (by decide), hc 3 (by decide), hc 4 (by decide)⟩⟩

set_option maxRecDepth 100000 in
set_option maxHeartbeats 8000000 in
theorem rfDecode_any (a : Option Addr) (n c : Nat) (xs : List Int) (w : World) (hI : Ints .u8 w a n c xs) (hr : ∀ x ∈ xs, 0 ≤ x ∧ x < 256) :
    Calls Tryz.prog 14 #[.slice a n c] w fun q w' => q = .returned (.tuple #[.agg (rpV (decR xs).1).toArray, .int .i64 (decR xs).2]) ∧ Below w.heap.size w w' := by
  obtain ⟨i0, hi, hz0, hz1, hz2⟩ := info_u32
  have hb := below1 w (.cells (rpC 0 0 0 0 0 0 0).toArray 26)
  have hk : Blk (w.alloc (.cells (rpC 0 0 0 0 0 0 0).toArray 26)) w.heap.size 26 (rpC 0 0 0 0 0 0 0) := Blk.new w _ _
  have hln := hI.len
  have hbt := built_rp0
  have hbig : (n : Int) < 9223372036854775808 ∨ ¬ (n : Int) < 9223372036854775808 := by omega
  by_cases h1 : n < 22
  · have hd : decR xs = (noRpl, 2) := by unfold decR; rw [if_pos (by omega)]
    rw [hd]
    have h1i : (n : Int) < 22 := by omega
    obtain ⟨V, hV⟩ : ∃ V, w.alloc (.cells (rpC 0 0 0 0 0 0 0).toArray 26) = V := ⟨_, rfl⟩
    rw [hV] at hb hk
    obtain ⟨G, g9⟩ : ∃ G, w.heap.size = G := ⟨_, rfl⟩
    rw [g9] at hk
    have gH := Lib.hid g9
    have hB8 := hb
    clear hI hr hd h1 hbig hb
    go_enter Tryz.func14, Tryz.ntmps14
    go_wp2_with ((with_reducible refine wpList_alloc_blk rfl 26 rfl zeroRp ?_); refine RowKit.Hid.out ?_)
    refine Lib.hid ?_
    try simp only [Act.put, List.setIfInBounds_toArray, List.set_cons_zero, List.set_cons_succ]
    try rw [hV]
    try rw [g9]
    clear hV g9
    go_wp2_with ((with_reducible refine build_row rfl 26 #[] rfl (cells := (rpC 0 0 0 0 0 0 0).toArray) ?_ ?_); (refine Eq.trans (congrArg _ ?_) hbt; kernel_rfl); refine RowKit.Hid.out ?_)
    refine Lib.hid ?_
    try simp only [Act.put, List.setIfInBounds_toArray, List.set_cons_zero, List.set_cons_succ]
    refine store_row rfl 26 (.tmp 2) (.tmp 10) rfl rfl rfl hk rowRp rfl rfl (rpC_one _ _ _ _ _ _ _) ?_
    intro w9 hz9 hg9
    have hr9 : IsRow Tryz.prog 26 (rpC 0 0 0 0 0 0 0).length := rowRp
    go_wp2_with fail
    refine bodyPost_ret (results_blk_tmp rfl rfl hz9 hr9) rfl ?_
    have hBf := hB8.grown hg9 hB8.size (fun q hq => by injection hq with hq; have := gH.out; omega)
    exact ⟨rfl, by first | exact hBf | exact gH.out ▸ hBf⟩
  by_cases h2 : 22 < n
  · have hd : decR xs = (noRpl, 3) := by unfold decR; rw [if_neg (by omega), if_pos (by omega)]
    rw [hd]
    have h1i : ¬ (n : Int) < 22 := by omega
    have h2i : (22 : Int) < (n : Int) := by omega
    obtain ⟨V, hV⟩ : ∃ V, w.alloc (.cells (rpC 0 0 0 0 0 0 0).toArray 26) = V := ⟨_, rfl⟩
    rw [hV] at hb hk
    obtain ⟨G, g9⟩ : ∃ G, w.heap.size = G := ⟨_, rfl⟩
    rw [g9] at hk
    have gH := Lib.hid g9
    have hB8 := hb
    clear hI hr hd h1 h2 hbig hb
    go_enter Tryz.func14, Tryz.ntmps14
    go_wp2_with ((with_reducible refine wpList_alloc_blk rfl 26 rfl zeroRp ?_); refine RowKit.Hid.out ?_)
    refine Lib.hid ?_
    try simp only [Act.put, List.setIfInBounds_toArray, List.set_cons_zero, List.set_cons_succ]
    try rw [hV]
    try rw [g9]
    clear hV g9
    go_wp2_with ((with_reducible refine build_row rfl 26 #[] rfl (cells := (rpC 0 0 0 0 0 0 0).toArray) ?_ ?_); (refine Eq.trans (congrArg _ ?_) hbt; kernel_rfl); refine RowKit.Hid.out ?_)
    refine Lib.hid ?_
    try simp only [Act.put, List.setIfInBounds_toArray, List.set_cons_zero, List.set_cons_succ]
    refine store_row rfl 26 (.tmp 2) (.tmp 14) rfl rfl rfl hk rowRp rfl rfl (rpC_one _ _ _ _ _ _ _) ?_
    intro w9 hz9 hg9
    have hr9 : IsRow Tryz.prog 26 (rpC 0 0 0 0 0 0 0).length := rowRp
    go_wp2_with fail
    refine bodyPost_ret (results_blk_tmp rfl rfl hz9 hr9) rfl ?_
    have hBf := hB8.grown hg9 hB8.size (fun q hq => by injection hq with hq; have := gH.out; omega)
    exact ⟨rfl, by first | exact hBf | exact gH.out ▸ hBf⟩
  obtain rfl : n = 22 := by omega
  obtain ⟨b, off, rfl, hcell⟩ := hI.at (by decide)
  have hbl : b < w.heap.size := World.block_lt_of_cell? w _ (hcell 0 (by decide))
  have hd := decR_fine' hln
  rw [hd]
  have hcH := Lib.hid (show ∀ i, i < 22 → w.cell? ⟨b, off + i, none⟩ = some (.int .u8 (xs.getD i 0)) from hcell)
  have hrg := Lib.hid (fun i (h : i < 22) => getD_range (p := fun x => 0 ≤ x ∧ x < 256) hr i (by omega))
  have h4 := Lib.hid (fun p (h : p + 4 ≤ 22) => numAt_four xs p (by omega))
  have hst := Lib.hid (nvR_step xs)
  have hRg := Lib.hid (fun w' => rfRight_any (rplOf xs) w')
  obtain ⟨V, hV⟩ : ∃ V, w.alloc (.cells (rpC 0 0 0 0 0 0 0).toArray 26) = V := ⟨_, rfl⟩
  rw [hV] at hb hk
  obtain ⟨G, g9⟩ : ∃ G, w.heap.size = G := ⟨_, rfl⟩
  rw [g9] at hk
  have gH := Lib.hid g9
  have hkH := Lib.hid (And.intro hk hb)
  obtain ⟨R, hR⟩ : ∃ R, (if rightR (rplOf xs) = true then (rplOf xs, (0 : Int)) else (noRpl, 4)) = R := ⟨_, rfl⟩
  rw [hR]
  have hR := Lib.hid hR
  clear hI hr hd h1 h2 hbig hb hk hcell hln
  go_enter Tryz.func14, Tryz.ntmps14
  go_wp2_with ((with_reducible refine wpList_alloc_blk rfl 26 rfl zeroRp ?_); refine RowKit.Hid.out ?_)
  refine Lib.hid ?_
  try simp only [Act.put, List.setIfInBounds_toArray, List.set_cons_zero, List.set_cons_succ]
  try rw [hV]
  try rw [g9]
  clear hV g9
  go_wp2_with fail
  go_loopw [4, 5] (fun v i wr => ∃ m j : Nat, m = 2 + 4 * j ∧ j ≤ 5 ∧ i = .int .i64 (m : Int) ∧ wr.ownsRow V.heap.size 24 1 v j ((nvR xs j).map (Value.int .u32)) ∧ Below V.heap.size V wr) (fun _ i _ => 22 - (intOf i).toNat)
  case atStart => exact ⟨2, 0, rfl, by decide, rfl, World.ownsRow_nil _ _ _ _, Below.refl _ _⟩
  case round =>
    obtain ⟨m, j, hm, hj, rfl, hown, hB⟩ := hrel
    by_cases hlt : j < 5
    · have hji : (m : Int) < 22 := by omega
      obtain ⟨m1, hm1⟩ : ∃ k, k = m + 1 := ⟨_, rfl⟩
      obtain ⟨m2, hm2⟩ : ∃ k, k = m + 2 := ⟨_, rfl⟩
      obtain ⟨m3, hm3⟩ : ∃ k, k = m + 3 := ⟨_, rfl⟩
      have x0 := hrg.out m (by omega)
      have x1 := hrg.out m1 (by omega)
      have x2 := hrg.out m2 (by omega)
      have x3 := hrg.out m3 (by omega)
      have hv := h4.out m (by omega)
      rw [← hm1, ← hm2, ← hm3] at hv
      have k0 := hcH.out m (by omega)
      have k1 := hcH.out m1 (by omega)
      have k2 := hcH.out m2 (by omega)
      have k3 := hcH.out m3 (by omega)
      obtain ⟨y0, hy0⟩ : ∃ y, xs.getD m 0 = y := ⟨_, rfl⟩
      obtain ⟨y1, hy1⟩ : ∃ y, xs.getD m1 0 = y := ⟨_, rfl⟩
      obtain ⟨y2, hy2⟩ : ∃ y, xs.getD m2 0 = y := ⟨_, rfl⟩
      obtain ⟨y3, hy3⟩ : ∃ y, xs.getD m3 0 = y := ⟨_, rfl⟩
      rw [hy0] at x0 k0 hv
      rw [hy1] at x1 k1 hv
      rw [hy2] at x2 k2 hv
      rw [hy3] at x3 k3 hv
      have hstj := hst.out j
      rw [← hm, hv] at hstj
      have hBw := hkH.out.2.trans (hB.mono hkH.out.2.size)
      have SC : ∀ i, i < 22 → wr.cell? ⟨b, off + i, none⟩ = some (.int .u8 (xs.getD i 0)) := fun i h => (hBw.cell (p := ⟨b, off + i, none⟩) hbl).trans (hcH.out i h)
      have n0 := Lib.hid (show ∀ w' : World, RowKit.Hid (∀ i, i < 22 → w'.cell? ⟨b, off + i, none⟩ = some (.int .u8 (xs.getD i 0))) → w'.cell? ⟨b, off + m, none⟩ = some (.int .u8 y0) from fun w' h => by rw [h.out m (by omega), hy0])
      have n1 := Lib.hid (show ∀ w' : World, RowKit.Hid (∀ i, i < 22 → w'.cell? ⟨b, off + i, none⟩ = some (.int .u8 (xs.getD i 0))) → w'.cell? ⟨b, off + m1, none⟩ = some (.int .u8 y1) from fun w' h => by rw [h.out m1 (by omega), hy1])
      have n2 := Lib.hid (show ∀ w' : World, RowKit.Hid (∀ i, i < 22 → w'.cell? ⟨b, off + i, none⟩ = some (.int .u8 (xs.getD i 0))) → w'.cell? ⟨b, off + m2, none⟩ = some (.int .u8 y2) from fun w' h => by rw [h.out m2 (by omega), hy2])
      have n3 := Lib.hid (show ∀ w' : World, RowKit.Hid (∀ i, i < 22 → w'.cell? ⟨b, off + i, none⟩ = some (.int .u8 (xs.getD i 0))) → w'.cell? ⟨b, off + m3, none⟩ = some (.int .u8 y3) from fun w' h => by rw [h.out m3 (by omega), hy3])
      have i1 : IntKind.i64.wrap ((m : Int) + 1) = (m1 : Int) := by rw [IntKind.wrap_i64]; omega
      have i2 : IntKind.i64.wrap ((m : Int) + 2) = (m2 : Int) := by rw [IntKind.wrap_i64]; omega
      have i3 : IntKind.i64.wrap ((m : Int) + 3) = (m3 : Int) := by rw [IntKind.wrap_i64]; omega
      have j1 : (m1 : Int) < 22 := by omega
      have j2 : (m2 : Int) < 22 := by omega
      have j3 : (m3 : Int) < 22 := by omega
      have p0 : IntKind.u32.wrap y0 = y0 := by rw [IntKind.wrap_u32]; omega
      have p1 : IntKind.u32.wrap y1 = y1 := by rw [IntKind.wrap_u32]; omega
      have p2 : IntKind.u32.wrap y2 = y2 := by rw [IntKind.wrap_u32]; omega
      have p3 : IntKind.u32.wrap y3 = y3 := by rw [IntKind.wrap_u32]; omega
      obtain ⟨z0, hz0'⟩ : ∃ z, y0 * 16777216 = z := ⟨_, rfl⟩
      obtain ⟨z1, hz1'⟩ : ∃ z, y1 * 65536 = z := ⟨_, rfl⟩
      obtain ⟨z2, hz2'⟩ : ∃ z, y2 * 256 = z := ⟨_, rfl⟩
      have q0 : IntKind.u32.wrap (y0 * 16777216) = z0 := by rw [IntKind.wrap_u32]; omega
      have q1 : IntKind.u32.wrap (y1 * 65536) = z1 := by rw [IntKind.wrap_u32]; omega
      have q2 : IntKind.u32.wrap (y2 * 256) = z2 := by rw [IntKind.wrap_u32]; omega
      obtain ⟨s1, hs1⟩ : ∃ z, z0 + z1 = z := ⟨_, rfl⟩
      obtain ⟨s2, hs2⟩ : ∃ z, s1 + z2 = z := ⟨_, rfl⟩
      obtain ⟨s3, hs3⟩ : ∃ z, s2 + y3 = z := ⟨_, rfl⟩
      have t1 : IntKind.u32.wrap (z0 + z1) = s1 := by rw [IntKind.wrap_u32]; omega
      have t2 : IntKind.u32.wrap (s1 + z2) = s2 := by rw [IntKind.wrap_u32]; omega
      have t3 : IntKind.u32.wrap (s2 + y3) = s3 := by rw [IntKind.wrap_u32]; omega
      rw [hz0', hz1', hz2', hs1, hs2, hs3] at hstj
      have hstH := Lib.hid hstj
      have hmH := Lib.hid hm
      have hltH := Lib.hid hlt
      have hoH := Lib.hid (And.intro hown hB)
      have m0 : (0 : Int) ≤ (m : Int) := by omega
      have m10 : (0 : Int) ≤ (m1 : Int) := by omega
      have m20 : (0 : Int) ≤ (m2 : Int) := by omega
      have m30 : (0 : Int) ≤ (m3 : Int) := by omega
      clear hlt hj hown hB hm hm1 hm2 hm3 x0 x1 x2 x3 hv k0 k1 k2 k3 hy0 hy1 hy2 hy3 hstj hz0' hz1' hz2' hs1 hs2 hs3 hBw
      go_wp2_with fail
      have SD : RowKit.Hid (∀ i, i < 22 → wr.drew.cell? ⟨b, off + i, none⟩ = some (.int .u8 (xs.getD i 0))) := Lib.hid SC
      clear SC
      refine region_seqS (fun (w' : World) => RowKit.Hid (∀ i, i < 22 → w'.cell? ⟨b, off + i, none⟩ = some (.int .u8 (xs.getD i 0)))) (by kernel_rfl) SD ?_
      simp only [pairs, Nat.reduceAdd]
      repeat (first
        | (refine SeqS.take (v := ?_) (by first | assumption | trivial) (by kernel_rfl) (by decide +kernel) (by decide +kernel) (Or.inl ⟨by rfl, ?_⟩) ?_
           rotate_left
           focus
             intro w' hb'
             go_simp
             with_reducible rfl
           simp only [Act.put, List.setIfInBounds_toArray, List.set_cons_zero, List.set_cons_succ])
        | (refine SeqS.take (v := ?_) (by first | assumption | trivial) (by kernel_rfl) (by decide +kernel) (by decide +kernel) (Or.inl ⟨by rfl, ?_⟩) ?_
           rotate_left
           focus
             intro w' hb'
             have d0 := n0.out w' hb'
             go_simp
             with_reducible rfl
           simp only [Act.put, List.setIfInBounds_toArray, List.set_cons_zero, List.set_cons_succ])
        | (refine SeqS.take (v := ?_) (by first | assumption | trivial) (by kernel_rfl) (by decide +kernel) (by decide +kernel) (Or.inl ⟨by rfl, ?_⟩) ?_
           rotate_left
           focus
             intro w' hb'
             have d0 := n1.out w' hb'
             go_simp
             with_reducible rfl
           simp only [Act.put, List.setIfInBounds_toArray, List.set_cons_zero, List.set_cons_succ])
        | (refine SeqS.take (v := ?_) (by first | assumption | trivial) (by kernel_rfl) (by decide +kernel) (by decide +kernel) (Or.inl ⟨by rfl, ?_⟩) ?_
           rotate_left
           focus
             intro w' hb'
             have d0 := n2.out w' hb'
             go_simp
             with_reducible rfl
           simp only [Act.put, List.setIfInBounds_toArray, List.set_cons_zero, List.set_cons_succ])
        | (refine SeqS.take (v := ?_) (by first | assumption | trivial) (by kernel_rfl) (by decide +kernel) (by decide +kernel) (Or.inl ⟨by rfl, ?_⟩) ?_
           rotate_left
           focus
             intro w' hb'
             have d0 := n3.out w' hb'
             go_simp
             with_reducible rfl
           simp only [Act.put, List.setIfInBounds_toArray, List.set_cons_zero, List.set_cons_succ])
        | (refine SeqS.take (v := undef) (by first | assumption | trivial) (by kernel_rfl) (by decide +kernel) (by decide +kernel) (Or.inr ⟨by rfl, rfl⟩) ?_
           simp only [Act.put, List.setIfInBounds_toArray, List.set_cons_zero, List.set_cons_succ])
        | (refine SeqS.take1 (v := ?_) (by first | assumption | trivial) (by kernel_rfl) (by decide +kernel) (by decide +kernel) (Or.inl ⟨by rfl, ?_⟩) ?_
           rotate_left
           focus
             intro w' hb'
             go_simp
             with_reducible rfl
           simp only [Act.put, List.setIfInBounds_toArray, List.set_cons_zero, List.set_cons_succ])
        | (refine SeqS.take1 (v := ?_) (by first | assumption | trivial) (by kernel_rfl) (by decide +kernel) (by decide +kernel) (Or.inl ⟨by rfl, ?_⟩) ?_
           rotate_left
           focus
             intro w' hb'
             have d0 := n0.out w' hb'
             go_simp
             with_reducible rfl
           simp only [Act.put, List.setIfInBounds_toArray, List.set_cons_zero, List.set_cons_succ])
        | (refine SeqS.take1 (v := ?_) (by first | assumption | trivial) (by kernel_rfl) (by decide +kernel) (by decide +kernel) (Or.inl ⟨by rfl, ?_⟩) ?_
           rotate_left
           focus
             intro w' hb'
             have d0 := n1.out w' hb'
             go_simp
             with_reducible rfl
           simp only [Act.put, List.setIfInBounds_toArray, List.set_cons_zero, List.set_cons_succ])
        | (refine SeqS.take1 (v := ?_) (by first | assumption | trivial) (by kernel_rfl) (by decide +kernel) (by decide +kernel) (Or.inl ⟨by rfl, ?_⟩) ?_
           rotate_left
           focus
             intro w' hb'
             have d0 := n2.out w' hb'
             go_simp
             with_reducible rfl
           simp only [Act.put, List.setIfInBounds_toArray, List.set_cons_zero, List.set_cons_succ])
        | (refine SeqS.take1 (v := ?_) (by first | assumption | trivial) (by kernel_rfl) (by decide +kernel) (by decide +kernel) (Or.inl ⟨by rfl, ?_⟩) ?_
           rotate_left
           focus
             intro w' hb'
             have d0 := n3.out w' hb'
             go_simp
             with_reducible rfl
           simp only [Act.put, List.setIfInBounds_toArray, List.set_cons_zero, List.set_cons_succ])
        | (refine SeqS.take1 (v := undef) (by first | assumption | trivial) (by kernel_rfl) (by decide +kernel) (by decide +kernel) (Or.inr ⟨by rfl, rfl⟩) ?_
           simp only [Act.put, List.setIfInBounds_toArray, List.set_cons_zero, List.set_cons_succ])
        | (refine SeqS.take2 (v := ?_) (by first | assumption | trivial) (by kernel_rfl) (by decide +kernel) (by decide +kernel) (Or.inl ⟨by rfl, ?_⟩) ?_
           rotate_left
           focus
             intro w' hb'
             go_simp
             with_reducible rfl
           simp only [Act.put, List.setIfInBounds_toArray, List.set_cons_zero, List.set_cons_succ])
        | (refine SeqS.take2 (v := ?_) (by first | assumption | trivial) (by kernel_rfl) (by decide +kernel) (by decide +kernel) (Or.inl ⟨by rfl, ?_⟩) ?_
           rotate_left
           focus
             intro w' hb'
             have d0 := n0.out w' hb'
             go_simp
             with_reducible rfl
           simp only [Act.put, List.setIfInBounds_toArray, List.set_cons_zero, List.set_cons_succ])
        | (refine SeqS.take2 (v := ?_) (by first | assumption | trivial) (by kernel_rfl) (by decide +kernel) (by decide +kernel) (Or.inl ⟨by rfl, ?_⟩) ?_
           rotate_left
           focus
             intro w' hb'
             have d0 := n1.out w' hb'
             go_simp
             with_reducible rfl
           simp only [Act.put, List.setIfInBounds_toArray, List.set_cons_zero, List.set_cons_succ])
        | (refine SeqS.take2 (v := ?_) (by first | assumption | trivial) (by kernel_rfl) (by decide +kernel) (by decide +kernel) (Or.inl ⟨by rfl, ?_⟩) ?_
           rotate_left
           focus
             intro w' hb'
             have d0 := n2.out w' hb'
             go_simp
             with_reducible rfl
           simp only [Act.put, List.setIfInBounds_toArray, List.set_cons_zero, List.set_cons_succ])
        | (refine SeqS.take2 (v := ?_) (by first | assumption | trivial) (by kernel_rfl) (by decide +kernel) (by decide +kernel) (Or.inl ⟨by rfl, ?_⟩) ?_
           rotate_left
           focus
             intro w' hb'
             have d0 := n3.out w' hb'
             go_simp
             with_reducible rfl
           simp only [Act.put, List.setIfInBounds_toArray, List.set_cons_zero, List.set_cons_succ])
        | (refine SeqS.take2 (v := undef) (by first | assumption | trivial) (by kernel_rfl) (by decide +kernel) (by decide +kernel) (Or.inr ⟨by rfl, rfl⟩) ?_
           simp only [Act.put, List.setIfInBounds_toArray, List.set_cons_zero, List.set_cons_succ]))
      refine SeqS.alone (by decide +kernel) (by rfl) (fun K1 hK => ?_)
      go_simp
      have hBd := hoH.out.2.drew
      have hbd : b < wr.drew.heap.size := Nat.lt_of_lt_of_le hbl (Nat.le_trans hkH.out.2.size hoH.out.2.size)
      have S2 : ∀ i, i < 22 → (wr.drew.alloc (.cells #[.int .u32 s3] 24)).cell? ⟨b, off + i, none⟩ = some (.int .u8 (xs.getD i 0)) := fun i h => (World.cell?_alloc_old wr.drew _ _ (Nat.ne_of_lt hbd)).trans (SD.out i h)
      have own2 := (own_drew hoH.out.1).alloc (.cells #[.int .u32 s3] 24)
      have I2 := one_at wr.drew .u32 24 s3
      have B2 := hBd.alloc hBd.size (.cells #[.int .u32 s3] 24)
      refine hK _ _ (Lib.hid S2) ?_
      clear hK K1
      refine SeqS.alone (by decide +kernel) (by rfl) (fun K1 hK => ?_)
      refine wp_append_ints (.tmp 19) (.tmp 49) 50 rfl V.heap.size 24 i0 (.int .u32 0) 4 Tryz.underlying50 hi hz0 hz1 hz2 rfl rfl own2 rfl I2 (by have := hltH.out; unfold maxLen; omega) (by have := hltH.out; omega) B2.size ?_
      intro v6 w6 own6 hg6
      have B6 := B2.grown hg6 B2.size (fun q hq => (own2.lt q hq).1)
      have S6 : ∀ i, i < 22 → w6.cell? ⟨b, off + i, none⟩ = some (.int .u8 (xs.getD i 0)) := fun i h => hg6.cell (S2 i h) (fun e => by
        have h1 := (own2.lt _ e.symm).1
        have h2 := hkH.out.2.size
        have h3 : V.heap.size ≤ b := h1
        omega)
      rw [← List.map_append, ← hstH.out] at own6
      have S6H := Lib.hid S6
      clear S6
      refine hK _ _ S6H ?_
      clear hK K1 own2 hg6 S2 I2 B2 SD
      repeat (first
        | (refine SeqS.take (v := ?_) (by first | assumption | trivial) (by kernel_rfl) (by decide +kernel) (by decide +kernel) (Or.inl ⟨by rfl, ?_⟩) ?_
           rotate_left
           focus
             intro w' hb'
             go_simp
             with_reducible rfl
           simp only [Act.put, List.setIfInBounds_toArray, List.set_cons_zero, List.set_cons_succ])
        | (refine SeqS.take (v := undef) (by first | assumption | trivial) (by kernel_rfl) (by decide +kernel) (by decide +kernel) (Or.inr ⟨by rfl, rfl⟩) ?_
           simp only [Act.put, List.setIfInBounds_toArray, List.set_cons_zero, List.set_cons_succ])
        | (refine SeqS.take1 (v := ?_) (by first | assumption | trivial) (by kernel_rfl) (by decide +kernel) (by decide +kernel) (Or.inl ⟨by rfl, ?_⟩) ?_
           rotate_left
           focus
             intro w' hb'
             go_simp
             with_reducible rfl
           simp only [Act.put, List.setIfInBounds_toArray, List.set_cons_zero, List.set_cons_succ])
        | (refine SeqS.take1 (v := undef) (by first | assumption | trivial) (by kernel_rfl) (by decide +kernel) (by decide +kernel) (Or.inr ⟨by rfl, rfl⟩) ?_
           simp only [Act.put, List.setIfInBounds_toArray, List.set_cons_zero, List.set_cons_succ])
        | (refine SeqS.take2 (v := ?_) (by first | assumption | trivial) (by kernel_rfl) (by decide +kernel) (by decide +kernel) (Or.inl ⟨by rfl, ?_⟩) ?_
           rotate_left
           focus
             intro w' hb'
             go_simp
             with_reducible rfl
           simp only [Act.put, List.setIfInBounds_toArray, List.set_cons_zero, List.set_cons_succ])
        | (refine SeqS.take2 (v := undef) (by first | assumption | trivial) (by kernel_rfl) (by decide +kernel) (by decide +kernel) (Or.inr ⟨by rfl, rfl⟩) ?_
           simp only [Act.put, List.setIfInBounds_toArray, List.set_cons_zero, List.set_cons_succ]))
      refine SeqS.done (by decide +kernel) ?_
      go_wp2
      exact ⟨⟨m + 4, j + 1, by have := hmH.out; omega, by have := hltH.out; omega, by congr 1, own6, B6⟩, by simp only [intOf]; have := hltH.out; have := hmH.out; omega⟩
    · obtain rfl : j = 5 := by omega
      have hji : ¬ (m : Int) < 22 := by omega
      have e5 : (nvR xs 5).map (Value.int .u32) = arC (rplOf xs).ses (rplOf xs).seq (rplOf xs).quo (rplOf xs).usd (rplOf xs).exp := rfl
      rw [e5] at hown
      obtain ⟨g, cap, rfl, hgB, hF⟩ := five_own hown
      have hBw := hkH.out.2.trans (hB.mono hkH.out.2.size)
      have hzr := hkH.out.1.keep hB hkH.out.1.lt
      have hGlt : G < wr.heap.size := hzr.lt
      have SC : ∀ i, i < 22 → wr.cell? ⟨b, off + i, none⟩ = some (.int .u8 (xs.getD i 0)) := fun i h => (hBw.cell (p := ⟨b, off + i, none⟩) hbl).trans (hcH.out i h)
      have hbw : b < wr.heap.size := Nat.lt_of_lt_of_le hbl hBw.size
      have x0 := hrg.out 0 (by decide)
      have x1 := hrg.out 1 (by decide)
      have hW := fun w' (h : Five w' g (rplOf xs).ses (rplOf xs).seq (rplOf xs).quo (rplOf xs).usd (rplOf xs).exp) => rfWith_at g cap (rplOf xs) w' h
      have k0 : (rplOf xs).kind = xs.getD 0 0 := rfl
      have k1 : (rplOf xs).err = xs.getD 1 0 := rfl
      rw [k0, k1] at hW
      obtain ⟨y0, hy0⟩ : ∃ y, xs.getD 0 0 = y := ⟨_, rfl⟩
      obtain ⟨y1, hy1⟩ : ∃ y, xs.getD 1 0 = y := ⟨_, rfl⟩
      rw [hy0] at x0 hW
      rw [hy1] at x1 hW
      have n0 := Lib.hid (show ∀ w' : World, RowKit.Hid (∀ i, i < 22 → w'.cell? ⟨b, off + i, none⟩ = some (.int .u8 (xs.getD i 0))) → w'.cell? ⟨b, off, none⟩ = some (.int .u8 y0) from fun w' h => by have := h.out 0 (by decide); rw [hy0, Nat.add_zero] at this; exact this)
      have n1 := Lib.hid (show ∀ w' : World, RowKit.Hid (∀ i, i < 22 → w'.cell? ⟨b, off + i, none⟩ = some (.int .u8 (xs.getD i 0))) → w'.cell? ⟨b, off + 1, none⟩ = some (.int .u8 y1) from fun w' h => by rw [h.out 1 (by decide), hy1])
      have p0 : IntKind.i64.wrap y0 = y0 := by rw [IntKind.wrap_i64]; omega
      have p1 : IntKind.i64.wrap y1 = y1 := by rw [IntKind.wrap_i64]; omega
      have p0' : wrap64 y0 = y0 := by unfold wrap64; omega
      have p1' : wrap64 y1 = y1 := by unfold wrap64; omega
      have hRg := hRg.out
      have hR := hR.out
      obtain ⟨r, hrr⟩ : ∃ r, rplOf xs = r := ⟨_, rfl⟩
      rw [hrr] at hW hRg hR hF
      replace hW := Lib.hid hW
      replace hRg := Lib.hid hRg
      replace hR := Lib.hid hR
      have hFd := hF.drew
      have hzd := hzr.drew
      have hBd := hBw.drew
      clear hlt hj hown hB e5 hm hy0 hy1 k0 k1 hrr x0 x1 hF hzr hBw hst h4 hrg
      go_wp2_with fail
      have SD : RowKit.Hid (∀ i, i < 22 → wr.drew.cell? ⟨b, off + i, none⟩ = some (.int .u8 (xs.getD i 0))) := Lib.hid SC
      clear SC
      have hbd : b < wr.drew.heap.size := hbw
      have hGd : G < wr.drew.heap.size := hGlt
      refine region_seqS (fun (w' : World) => RowKit.Hid (∀ i, i < 22 → w'.cell? ⟨b, off + i, none⟩ = some (.int .u8 (xs.getD i 0)))) (by kernel_rfl) SD ?_
      simp only [pairs, Nat.reduceAdd]
      obtain ⟨v, hv⟩ : ∃ v, wr.drew = v := ⟨_, rfl⟩
      rw [hv] at SD hFd hzd hBd hbd hGd
      rw [hv]
      clear hv hbw hGlt
      repeat (first
        | (refine SeqS.take (v := ?_) (by first | assumption | trivial) (by kernel_rfl) (by decide +kernel) (by decide +kernel) (Or.inl ⟨by rfl, ?_⟩) ?_
           rotate_left
           focus
             intro w' hb'
             go_simp
             with_reducible rfl
           simp only [Act.put, List.setIfInBounds_toArray, List.set_cons_zero, List.set_cons_succ])
        | (refine SeqS.take (v := ?_) (by first | assumption | trivial) (by kernel_rfl) (by decide +kernel) (by decide +kernel) (Or.inl ⟨by rfl, ?_⟩) ?_
           rotate_left
           focus
             intro w' hb'
             have d0 := n0.out w' hb'
             go_simp
             with_reducible rfl
           simp only [Act.put, List.setIfInBounds_toArray, List.set_cons_zero, List.set_cons_succ])
        | (refine SeqS.take (v := ?_) (by first | assumption | trivial) (by kernel_rfl) (by decide +kernel) (by decide +kernel) (Or.inl ⟨by rfl, ?_⟩) ?_
           rotate_left
           focus
             intro w' hb'
             have d0 := n1.out w' hb'
             go_simp
             with_reducible rfl
           simp only [Act.put, List.setIfInBounds_toArray, List.set_cons_zero, List.set_cons_succ])
        | (refine SeqS.take (v := undef) (by first | assumption | trivial) (by kernel_rfl) (by decide +kernel) (by decide +kernel) (Or.inr ⟨by rfl, rfl⟩) ?_
           simp only [Act.put, List.setIfInBounds_toArray, List.set_cons_zero, List.set_cons_succ])
        | (refine SeqS.take1 (v := ?_) (by first | assumption | trivial) (by kernel_rfl) (by decide +kernel) (by decide +kernel) (Or.inl ⟨by rfl, ?_⟩) ?_
           rotate_left
           focus
             intro w' hb'
             go_simp
             with_reducible rfl
           simp only [Act.put, List.setIfInBounds_toArray, List.set_cons_zero, List.set_cons_succ])
        | (refine SeqS.take1 (v := ?_) (by first | assumption | trivial) (by kernel_rfl) (by decide +kernel) (by decide +kernel) (Or.inl ⟨by rfl, ?_⟩) ?_
           rotate_left
           focus
             intro w' hb'
             have d0 := n0.out w' hb'
             go_simp
             with_reducible rfl
           simp only [Act.put, List.setIfInBounds_toArray, List.set_cons_zero, List.set_cons_succ])
        | (refine SeqS.take1 (v := ?_) (by first | assumption | trivial) (by kernel_rfl) (by decide +kernel) (by decide +kernel) (Or.inl ⟨by rfl, ?_⟩) ?_
           rotate_left
           focus
             intro w' hb'
             have d0 := n1.out w' hb'
             go_simp
             with_reducible rfl
           simp only [Act.put, List.setIfInBounds_toArray, List.set_cons_zero, List.set_cons_succ])
        | (refine SeqS.take1 (v := undef) (by first | assumption | trivial) (by kernel_rfl) (by decide +kernel) (by decide +kernel) (Or.inr ⟨by rfl, rfl⟩) ?_
           simp only [Act.put, List.setIfInBounds_toArray, List.set_cons_zero, List.set_cons_succ])
        | (refine SeqS.take2 (v := ?_) (by first | assumption | trivial) (by kernel_rfl) (by decide +kernel) (by decide +kernel) (Or.inl ⟨by rfl, ?_⟩) ?_
           rotate_left
           focus
             intro w' hb'
             go_simp
             with_reducible rfl
           simp only [Act.put, List.setIfInBounds_toArray, List.set_cons_zero, List.set_cons_succ])
        | (refine SeqS.take2 (v := ?_) (by first | assumption | trivial) (by kernel_rfl) (by decide +kernel) (by decide +kernel) (Or.inl ⟨by rfl, ?_⟩) ?_
           rotate_left
           focus
             intro w' hb'
             have d0 := n0.out w' hb'
             go_simp
             with_reducible rfl
           simp only [Act.put, List.setIfInBounds_toArray, List.set_cons_zero, List.set_cons_succ])
        | (refine SeqS.take2 (v := ?_) (by first | assumption | trivial) (by kernel_rfl) (by decide +kernel) (by decide +kernel) (Or.inl ⟨by rfl, ?_⟩) ?_
           rotate_left
           focus
             intro w' hb'
             have d0 := n1.out w' hb'
             go_simp
             with_reducible rfl
           simp only [Act.put, List.setIfInBounds_toArray, List.set_cons_zero, List.set_cons_succ])
        | (refine SeqS.take2 (v := undef) (by first | assumption | trivial) (by kernel_rfl) (by decide +kernel) (by decide +kernel) (Or.inr ⟨by rfl, rfl⟩) ?_
           simp only [Act.put, List.setIfInBounds_toArray, List.set_cons_zero, List.set_cons_succ]))
      refine SeqS.either (rs := [9, 10]) (by decide +kernel) ?_
      intro o ho
      simp only [List.mem_cons, List.not_mem_nil, or_false] at ho
      rcases ho with rfl | rfl
      · refine ⟨[], _, [_, _], rfl, by rfl, fun K1 hK => ?_⟩
        go_simp
        go_at_call 37
        refine (hW.out v hFd).mono ?_
        rintro q w6 ⟨rfl, b6⟩
        go_simp
        have S6 : RowKit.Hid (∀ i, i < 22 → w6.cell? ⟨b, off + i, none⟩ = some (.int .u8 (xs.getD i 0))) := Lib.hid (fun i h => (b6.cell (p := ⟨b, off + i, none⟩) hbd).trans (SD.out i h))
        refine hK _ _ S6 ?_
        clear hK K1
        have hz6 := hzd.keep b6 hzd.lt
        have hB6 := hBd.trans (b6.mono hBd.size)
        have hG6 : G < w6.heap.size := hz6.lt
        have hb6 : b < w6.heap.size := Nat.lt_of_lt_of_le hbd b6.size
        refine SeqS.alone (by decide +kernel) (by rfl) (fun K1 hK => ?_)
        refine wp_alloc15 26 rfl zeroRp ?_
        have S7 : RowKit.Hid (∀ i, i < 22 → (w6.alloc (.cells (rpC 0 0 0 0 0 0 0).toArray 26)).cell? ⟨b, off + i, none⟩ = some (.int .u8 (xs.getD i 0))) := Lib.hid (fun i h => (World.cell?_alloc_old w6 _ _ (Nat.ne_of_lt hb6)).trans (S6.out i h))
        refine hK _ _ S7 ?_
        clear hK K1
        have hz7 := hz6.alloc (.cells (rpC 0 0 0 0 0 0 0).toArray 26)
        have hn7 := Blk.new w6 26 (rpC 0 0 0 0 0 0 0)
        have hB7 := hB6.alloc hB6.size (.cells (rpC 0 0 0 0 0 0 0).toArray 26)
        obtain ⟨N, hN⟩ : ∃ N, w6.heap.size = N := ⟨_, rfl⟩
        obtain ⟨w7, hw7⟩ : ∃ Z, w6.alloc (.cells (rpC 0 0 0 0 0 0 0).toArray 26) = Z := ⟨_, rfl⟩
        rw [hw7] at hz7 hn7 hB7 S7
        rw [hN] at hn7 hG6 hb6
        rw [hw7, hN]
        have hNl : w.heap.size ≤ N := by rw [← hN]; exact hB6.size
        clear hw7 hN hz6 hB6 S6 b6 SD hFd hzd hBd hbd hGd
        try simp only [Act.put, List.setIfInBounds_toArray, List.set_cons_zero, List.set_cons_succ]
        refine SeqS.alone (by decide +kernel) (by rfl) (fun K1 hK => ?_)
        refine wp_store_part (cs := rpV r) 26 (.tmp 6) (.tmp 60) rfl rfl rfl hn7 rowRp (by rw [rpV_len]; exact Nat.le_refl 7) (rpV_one r) ?_
        intro w8 hn8 hg8
        rw [overV_all (rpC 0 0 0 0 0 0 0) (rpV r) rfl] at hn8
        have hz8 := hz7.grown hg8 (fun e => by injection e with e; omega)
        have hB8 := hB7.grown hg8 hB7.size (fun q hq => by injection hq with hq; omega)
        have S8 : RowKit.Hid (∀ i, i < 22 → w8.cell? ⟨b, off + i, none⟩ = some (.int .u8 (xs.getD i 0))) := Lib.hid (fun i h => hg8.cell (S7.out i h) (fun e => by injection e with e; have e' : b = N := e; omega))
        refine hK _ _ S8 ?_
        clear hK K1 S7 S8 hz7 hn7 hB7 hg8
        refine SeqS.done (by decide +kernel) ?_
        go_wp2_with ((with_reducible refine wpList_load_blk rfl 26 (.tmp 6) rfl ?_ hn8 rowRp (rpV_len r) ?_); rfl)
        refine (hRg.out w8).mono ?_
        rintro q w9 ⟨rfl, b9⟩
        have hz9 := hz8.keep b9 hz8.lt
        have hn9 := hn8.keep b9 hn8.lt
        have hB9 := hB8.trans (b9.mono hB8.size)
        clear hz8 hn8 hB8 b9
        cases hrt : rightR r with
        | true =>
          have hR := hR.out
          rw [hrt, if_pos rfl] at hR
          subst hR
          clear hrt
          go_wp2_with ((with_reducible refine wpList_load_blk rfl 26 (.tmp 6) rfl ?_ hn9 rowRp (rpV_len r) ?_); rfl; refine RowKit.Hid.out ?_)
          refine Lib.hid ?_
          try simp only [Act.put, List.setIfInBounds_toArray, List.set_cons_zero, List.set_cons_succ]
          refine store_row rfl 26 (.tmp 2) (.tmp 65) rfl rfl rfl hz9 rowRp (rpV_len r) rfl (rpV_one r) ?_
          intro wX hzX hgX
          have hrX : IsRow Tryz.prog 26 (rpV r).length := rowRp
          go_wp2_with fail
          refine bodyPost_ret (results_blk_tmp rfl rfl hzX hrX) rfl ?_
          have hBf := hB9.grown hgX hB9.size (fun q hq => by injection hq with hq; have := gH.out; omega)
          exact ⟨rfl, by first | exact hBf | exact gH.out ▸ hBf⟩
        | false =>
          have hR := hR.out
          rw [hrt, if_neg (by decide)] at hR
          subst hR
          clear hrt
          go_wp2_with ((with_reducible refine build_row rfl 26 #[] rfl (cells := (rpC 0 0 0 0 0 0 0).toArray) ?_ ?_); (refine Eq.trans (congrArg _ ?_) hbt; kernel_rfl); refine RowKit.Hid.out ?_)
          refine Lib.hid ?_
          try simp only [Act.put, List.setIfInBounds_toArray, List.set_cons_zero, List.set_cons_succ]
          refine store_row rfl 26 (.tmp 2) (.tmp 64) rfl rfl rfl hz9 rowRp rfl rfl (rpC_one _ _ _ _ _ _ _) ?_
          intro wX hzX hgX
          have hrX : IsRow Tryz.prog 26 (rpC 0 0 0 0 0 0 0).length := rowRp
          go_wp2_with fail
          refine bodyPost_ret (results_blk_tmp rfl rfl hzX hrX) rfl ?_
          have hBf := hB9.grown hgX hB9.size (fun q hq => by injection hq with hq; have := gH.out; omega)
          exact ⟨rfl, by first | exact hBf | exact gH.out ▸ hBf⟩
      · refine ⟨[_], _, [_], rfl, by rfl, fun K1 hK => ?_⟩
        refine wp_alloc15 26 rfl zeroRp ?_
        have S6 : RowKit.Hid (∀ i, i < 22 → (v.alloc (.cells (rpC 0 0 0 0 0 0 0).toArray 26)).cell? ⟨b, off + i, none⟩ = some (.int .u8 (xs.getD i 0))) := Lib.hid (fun i h => (World.cell?_alloc_old v _ _ (Nat.ne_of_lt hbd)).trans (SD.out i h))
        refine hK _ _ S6 ?_
        clear hK K1
        have hz6 := hzd.alloc (.cells (rpC 0 0 0 0 0 0 0).toArray 26)
        have hn6 := Blk.new v 26 (rpC 0 0 0 0 0 0 0)
        have hB6 := hBd.alloc hBd.size (.cells (rpC 0 0 0 0 0 0 0).toArray 26)
        have hF6 := hFd.alloc (.cells (rpC 0 0 0 0 0 0 0).toArray 26)
        obtain ⟨N, hN⟩ : ∃ N, v.heap.size = N := ⟨_, rfl⟩
        obtain ⟨w6, hw6⟩ : ∃ Z, v.alloc (.cells (rpC 0 0 0 0 0 0 0).toArray 26) = Z := ⟨_, rfl⟩
        have hNl : w.heap.size ≤ N := by rw [← hN]; exact hBd.size
        have hbx : b < w6.heap.size := by rw [← hw6, size1]; omega
        rw [hw6] at hz6 hn6 hB6 S6 hF6
        rw [hN] at hn6 hbd hGd
        rw [hw6, hN]
        have hG6 : G < N := hGd
        have hb6 : b < N := hbd
        clear hw6 hN hFd hzd hBd SD hbd hGd
        refine SeqS.alone (by decide +kernel) (by rfl) (fun K1 hK => ?_)
        go_simp
        go_at_call 37
        refine (hW.out w6 hF6).mono ?_
        rintro q w7 ⟨rfl, b7⟩
        go_simp
        have S7 : RowKit.Hid (∀ i, i < 22 → w7.cell? ⟨b, off + i, none⟩ = some (.int .u8 (xs.getD i 0))) := Lib.hid (fun i h => (b7.cell (p := ⟨b, off + i, none⟩) hbx).trans (S6.out i h))
        refine hK _ _ S7 ?_
        clear hK K1
        have hz7 := hz6.keep b7 hz6.lt
        have hn7 := hn6.keep b7 hn6.lt
        have hB7 := hB6.trans (b7.mono hB6.size)
        clear hz6 hn6 hB6 hF6 S6 b7 hbx
        try simp only [Act.put, List.setIfInBounds_toArray, List.set_cons_zero, List.set_cons_succ]
        refine SeqS.alone (by decide +kernel) (by rfl) (fun K1 hK => ?_)
        refine wp_store_part (cs := rpV r) 26 (.tmp 6) (.tmp 60) rfl rfl rfl hn7 rowRp (by rw [rpV_len]; exact Nat.le_refl 7) (rpV_one r) ?_
        intro w8 hn8 hg8
        rw [overV_all (rpC 0 0 0 0 0 0 0) (rpV r) rfl] at hn8
        have hz8 := hz7.grown hg8 (fun e => by injection e with e; omega)
        have hB8 := hB7.grown hg8 hB7.size (fun q hq => by injection hq with hq; omega)
        have S8 : RowKit.Hid (∀ i, i < 22 → w8.cell? ⟨b, off + i, none⟩ = some (.int .u8 (xs.getD i 0))) := Lib.hid (fun i h => hg8.cell (S7.out i h) (fun e => by injection e with e; have e' : b = N := e; omega))
        refine hK _ _ S8 ?_
        clear hK K1 S7 S8 hz7 hn7 hB7 hg8
        refine SeqS.done (by decide +kernel) ?_
        go_wp2_with ((with_reducible refine wpList_load_blk rfl 26 (.tmp 6) rfl ?_ hn8 rowRp (rpV_len r) ?_); rfl)
        refine (hRg.out w8).mono ?_
        rintro q w9 ⟨rfl, b9⟩
        have hz9 := hz8.keep b9 hz8.lt
        have hn9 := hn8.keep b9 hn8.lt
        have hB9 := hB8.trans (b9.mono hB8.size)
        clear hz8 hn8 hB8 b9
        cases hrt : rightR r with
        | true =>
          have hR := hR.out
          rw [hrt, if_pos rfl] at hR
          subst hR
          clear hrt
          go_wp2_with ((with_reducible refine wpList_load_blk rfl 26 (.tmp 6) rfl ?_ hn9 rowRp (rpV_len r) ?_); rfl; refine RowKit.Hid.out ?_)
          refine Lib.hid ?_
          try simp only [Act.put, List.setIfInBounds_toArray, List.set_cons_zero, List.set_cons_succ]
          refine store_row rfl 26 (.tmp 2) (.tmp 65) rfl rfl rfl hz9 rowRp (rpV_len r) rfl (rpV_one r) ?_
          intro wX hzX hgX
          have hrX : IsRow Tryz.prog 26 (rpV r).length := rowRp
          go_wp2_with fail
          refine bodyPost_ret (results_blk_tmp rfl rfl hzX hrX) rfl ?_
          have hBf := hB9.grown hgX hB9.size (fun q hq => by injection hq with hq; have := gH.out; omega)
          exact ⟨rfl, by first | exact hBf | exact gH.out ▸ hBf⟩
        | false =>
          have hR := hR.out
          rw [hrt, if_neg (by decide)] at hR
          subst hR
          clear hrt
          go_wp2_with ((with_reducible refine build_row rfl 26 #[] rfl (cells := (rpC 0 0 0 0 0 0 0).toArray) ?_ ?_); (refine Eq.trans (congrArg _ ?_) hbt; kernel_rfl); refine RowKit.Hid.out ?_)
          refine Lib.hid ?_
          try simp only [Act.put, List.setIfInBounds_toArray, List.set_cons_zero, List.set_cons_succ]
          refine store_row rfl 26 (.tmp 2) (.tmp 64) rfl rfl rfl hz9 rowRp rfl rfl (rpC_one _ _ _ _ _ _ _) ?_
          intro wX hzX hgX
          have hrX : IsRow Tryz.prog 26 (rpC 0 0 0 0 0 0 0).length := rowRp
          go_wp2_with fail
          refine bodyPost_ret (results_blk_tmp rfl rfl hzX hrX) rfl ?_
          have hBf := hB9.grown hgX hB9.size (fun q hq => by injection hq with hq; have := gH.out; omega)
          exact ⟨rfl, by first | exact hBf | exact gH.out ▸ hBf⟩
end Go.Proofs.YtbiabjehdmddbaaGreatDoor
