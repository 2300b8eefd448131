/-
  Texts of stages that were proved on their own, joined: RlEncode, RfBytes. Each begins with its own words.
-/
import Derived.Test.YtbiabjehdmddbaaGreatDoorJRlAll5
import Derived.Test.YtbiabjehdmddbaaGreatDoorJRlAll15
import Derived.Test.YtbiabjehdmddbaaGreatDoorJRlAll20
import Derived.Test.YtbiabjehdmddbaaGreatDoorJRlAll19

/-
  What reply's Encode (layer 15) comes to. New memory alone is written. Conditions: the fields' ranges.
-/
namespace Go.Proofs.YtbiabjehdmddbaaGreatDoor
open Go.RowKit

def encR (r : RplV) : List Int × Int := if rightR r = true then (bytesR r, 0) else ([], 1)
theorem bytesR_flat (r : RplV) : bytesR r = [r.kind] ++ [r.err] ++ (numsR r).flatMap (fun n => beL n 4) := by
  unfold bytesR numsR
  simp only [List.flatMap_cons, List.flatMap_nil, List.append_nil]
  rfl
theorem flat_step (L : List Int) (j : Nat) (h : j < L.length) : (L.take (j + 1)).flatMap (fun n => beL n 4) = (L.take j).flatMap (fun n => beL n 4) ++ beL (L.getD j 0) 4 := by
  rw [List.take_succ_eq_append_getElem h, List.flatMap_append, List.getD_eq_getElem?_getD, List.getElem?_eq_getElem h]
  simp
theorem flat_len (L : List Int) : (L.flatMap (fun n => beL n 4)).length = 4 * L.length := by
  induction L with
  | nil => rfl
  | cons x r ih =>
    rw [List.flatMap_cons, List.length_append, ih, beL_len, List.length_cons]
    omega

set_option maxRecDepth 100000 in
set_option maxHeartbeats 4000000 in
theorem rlEncode_any (r : RplV) (w : World) (ho : RplOk r) :
    Calls Tryz.prog 5 #[.agg (rpV r).toArray] w fun q w' => ∃ b d, q = .returned (.tuple #[.slice b (encR r).1.length d, .int .i64 (encR r).2]) ∧ Ints .u8 w' b (encR r).1.length d (encR r).1 ∧ Below w.heap.size w w' := by
  have hR := fun w' => rlRight_any r w'
  have hN := fun w' => rlNums_any r w'
  have hrg := Lib.hid (numsR_at ho)
  have har := Lib.hid (arV_at r)
  have hL5 : (numsR r).length = 5 := rfl
  have hbf := bytesR_flat r
  have hrr := rightR_iff r
  unfold encR
  obtain ⟨F0, hF0⟩ : ∃ F, rightR r = F := ⟨_, rfl⟩
  rw [hF0] at hR hrr ⊢
  obtain ⟨M, hM⟩ : ∃ M, bytesR r = M := ⟨_, rfl⟩
  have hMl : M.length = 22 := by rw [← hM]; exact bytesR_len r
  rw [hM] at hbf ⊢
  replace hMl := Lib.hid hMl
  obtain ⟨L, hL⟩ : ∃ L, numsR r = L := ⟨_, rfl⟩
  rw [hL] at hrg har hL5 hbf
  obtain ⟨Ar, hAr⟩ : ∃ A, arV r = A := ⟨_, rfl⟩
  rw [hAr] at hN har
  clear hF0 hM hL hAr ho
  obtain ⟨K, E, S, Q, O, U, X⟩ := r
  unfold RplRight at hrr
  unfold rpV at hR hN ⊢
  dsimp only at hR hN hbf hrr ⊢
  obtain ⟨C, hC⟩ : ∃ C, rpC K E S Q O U X = C := ⟨_, rfl⟩
  rw [hC] at hR hN ⊢
  have hCl : C.length = 7 := by rw [← hC]; rfl
  have hCH := Lib.hid hC
  have hb := below1 w (.cells C.toArray 26)
  have hk : Blk (w.alloc (.cells C.toArray 26)) w.heap.size 26 C := Blk.new w _ C
  obtain ⟨W, hW⟩ : ∃ V, w.alloc (.cells C.toArray 26) = V := ⟨_, rfl⟩
  rw [hW] at hb hk
  obtain ⟨G, g9⟩ : ∃ G, w.heap.size = G := ⟨_, rfl⟩
  rw [g9] at hk
  have gH := Lib.hid g9
  replace hR := Lib.hid hR
  replace hN := Lib.hid hN
  clear hC
  cases F0 with
  | false =>
    rw [if_neg (by decide)]
    clear hrr hbf
    go_enter Tryz.func5, Tryz.ntmps5
    go_wp2_with ((with_reducible refine box_row rfl 26 (.tmp 0) rfl C ?_ ?_); rfl; refine RowKit.Hid.out ?_)
    refine Lib.hid ?_
    clear hW
    go_wp2_with ((with_reducible refine wpList_load_blk rfl 26 (.tmp 1) rfl ?_ hk rowRp hCl ?_); rfl)
    refine (hR.out W).mono ?_
    rintro q w1 ⟨rfl, b1⟩
    have hk1 := hk.keep b1 hk.lt
    have hS1 := hb.trans (b1.mono hb.size)
    clear hk hb b1 hR
    go_wp2
    go_ret2
    exact ⟨none, 0, rfl, ⟨rfl, Nat.le_refl _, .inl rfl⟩, hS1⟩
  | true =>
    rw [if_pos rfl]
    obtain ⟨hkr, her, _⟩ := hrr.1 rfl
    have k64 : IntKind.u64.wrap K = K := by rw [IntKind.wrap_u64]; omega
    have e64 : IntKind.u64.wrap E = E := by rw [IntKind.wrap_u64]; omega
    have hbH := Lib.hid hbf
    clear hrr hbf
    go_enter Tryz.func5, Tryz.ntmps5
    go_wp2_with ((with_reducible refine box_row rfl 26 (.tmp 0) rfl C ?_ ?_); rfl; refine RowKit.Hid.out ?_)
    refine Lib.hid ?_
    clear hW
    go_wp2_with ((with_reducible refine wpList_load_blk rfl 26 (.tmp 1) rfl ?_ hk rowRp hCl ?_); rfl)
    refine (hR.out W).mono ?_
    rintro q w1 ⟨rfl, b1⟩
    have hk1 := hk.keep b1 hk.lt
    have hS1 := hb.trans (b1.mono hb.size)
    clear hk hb b1 hR
    go_wp2_with fail
    refine (wNew_any 22 w1 (by decide)).mono ?_
    rintro q w2 ⟨g, F, rfl, hw2, hF2, b2⟩
    rw [show max (22 : Int) 0 = 22 by decide] at hw2
    have hk2 := hk1.keep b2 hk1.lt
    have hS2 := hS1.trans (b2.mono hS1.size)
    have nG : ¬ F G := fun h => by have := hF2 _ h; have := hk1.lt; omega
    have hFl : ∀ b, F b → w.heap.size ≤ b := fun b hb => Nat.le_trans hS1.size (hF2 b hb)
    have hD := We.start hw2
    have c0 := rp0 (hCH.out ▸ hk2)
    clear b2 hF2 hw2 hk1 hS1
    go_wp2_with fail
    refine (we_num hD K 1 ⟨by decide, by decide, by show K < 256; omega⟩ hkr.1 (by decide) (by decide)).mono ?_
    rintro q w3 ⟨rfl, hD3⟩
    rw [List.nil_append, show (1 : Int).toNat = 1 from rfl, beL_k (by omega)] at hD3
    have hk3 := hD3.blk hk2 nG
    have c1 := rp1 (hCH.out ▸ hk3)
    clear hD hk3 c0
    go_wp2_with fail
    refine (we_num hD3 E 1 ⟨by decide, by decide, by show E < 256; omega⟩ her.1 (by show (1 : Int) + 1 ≤ 22; decide) (by show 1 ≤ 80000000; decide)).mono ?_
    rintro q w4 ⟨rfl, hD4⟩
    rw [show (1 : Int).toNat = 1 from rfl, beL_k (by omega)] at hD4
    have hk4 := hD4.blk hk2 nG
    clear hD3 c1
    go_wp2_with ((with_reducible refine wpList_load_blk rfl 26 (.tmp 1) rfl ?_ hk4 rowRp hCl ?_); rfl)
    refine (hN.out w4).mono ?_
    rintro q w5 ⟨rfl, b5⟩
    have hD5 := hD4.keep b5
    clear hD4 hk4 b5 hN
    go_wp2_with fail
    go_loopw [23] (fun i wr => ∃ j : Nat, j ≤ 5 ∧ i = .int .i64 j ∧ We 22 w2 F g wr ([K] ++ [E] ++ (L.take j).flatMap (fun n => beL n 4))) (fun i _ => 5 - (intOf i).toNat)
    case atStart => exact ⟨0, by decide, rfl, by simpa using hD5⟩
    case round =>
      clear hD5
      obtain ⟨j, hj, rfl, hDj⟩ := hrel
      by_cases hlt : j < 5
      · have hji : (j : Int) < 5 := by omega
        have hx := hrg.out j hlt
        have hax := har.out j hlt
        have hst := flat_step L j (by omega)
        have hfl := flat_len (L.take j)
        rw [List.length_take] at hfl
        obtain ⟨x, hxe⟩ : ∃ x, L.getD j 0 = x := ⟨_, rfl⟩
        rw [hxe] at hx hax hst
        have hix := fun wx => run_index_row15 (P := Tryz.prog) 42 24 5 Tryz.underlying42 (by kernel_rfl) (by kernel_rfl) Ar.toArray .i64 j hlt _ hax wx
        have u1 : IntKind.u64.wrap x = x := by rw [IntKind.wrap_u64]; omega
        have u2 : x % 18446744073709551616 = x := by omega
        have hc := we_num hDj x 4 ⟨by decide, by decide, by show x < 4294967296; exact hx.2⟩ hx.1 (by rw [List.length_append, hfl]; simp only [List.length_append, List.length_cons, List.length_nil]; omega) (by rw [List.length_append, hfl]; simp only [List.length_append, List.length_cons, List.length_nil]; omega)
        rw [show (4 : Int).toNat = 4 from rfl, List.append_assoc, ← hst] at hc
        have hcH := Lib.hid hc
        have hltH := Lib.hid hlt
        clear hlt hj hDj hx hax hst hxe hc hfl
        go_wp2_with fail
        refine hcH.out.mono ?_
        rintro q w6 ⟨rfl, hD6⟩
        go_wp2
        exact ⟨⟨j + 1, by have := hltH.out; omega, by congr 1, hD6⟩, by simp only [intOf]; have := hltH.out; omega⟩
      · obtain rfl : j = 5 := by omega
        have hji : ¬ ((5 : Nat) : Int) < 5 := by omega
        rw [List.take_of_length_le (by omega), ← hbH.out] at hDj
        have hd := hDj.done (by have := hMl.out; omega)
        rw [if_pos rfl] at hd
        have hS5 := hS2.trans (hDj.below hFl hS2.size)
        clear hDj hlt hj
        go_wp2_with fail
        refine hd.mono ?_
        rintro q w8 ⟨b, d, rfl, hown, b8⟩
        obtain ⟨b', d', hv, hJ⟩ := Ints.of_owns hown
        injection hv with e1 _ e2
        subst e1; subst e2
        go_wp2
        go_ret2
        exact ⟨b, d, rfl, hJ, hS5.trans (b8.mono hS5.size)⟩
end Go.Proofs.YtbiabjehdmddbaaGreatDoor

/-
  The document's own Bytes of a reply (layer 15). New memory alone is written. Conditions: the reply may be; the fields' ranges.
-/
namespace Go.Proofs.YtbiabjehdmddbaaGreatDoor
open Go.RowKit

theorem owns_blk15 {w : World} {B : Nat} {e t : TypeId} {v : Value} {n : Nat} {vs : List Value} {g : Nat} {cs : List Value} (h : w.ownsRow B e 1 v n vs) (hk : Blk w g t cs) (ht : t ≠ e) : some g ≠ v.ownBlock := by
  intro hg
  rcases h.2 with ⟨rfl, _⟩ | ⟨g', cap, cur, rfl, _, hb, _⟩
  · cases hg
  · injection hg with hg
    have hg' : g = g' := hg
    subst hg'
    unfold Blk at hk
    rw [hk] at hb
    injection hb with hb
    injection hb with _ hb
    exact ht hb
theorem own_pair (w : World) (t : TypeId) (x y : Int) {B : Nat} (hB : B ≤ w.heap.size) : (w.alloc (.cells #[.int .u8 x, .int .u8 y] t)).ownsRow B t 1 (.slice (some ⟨w.heap.size, 0, none⟩) 2 2) 2 (([x] ++ [y]).map (Value.int .u8)) :=
  ⟨rfl, .inr ⟨w.heap.size, 2, _, rfl, hB, heap_alloc_new w _, Nat.le_refl _, by unfold maxLen; omega, rfl, rfl⟩⟩

set_option maxRecDepth 100000 in
set_option maxHeartbeats 4000000 in
theorem rfBytes_any (r : RplV) (w : World) (hr : RplRight r) (ho : RplOk r) : Calls Tryz.prog 13 #[.agg (rpV r).toArray] w fun q w' => ∃ b c, q = .returned (.slice b 22 c) ∧ Ints .u8 w' b 22 c (bytesR r) ∧ Below w.heap.size w w' := by
  obtain ⟨i0, hi, hz0, hz1, hz2⟩ := info_u8b
  have hN := fun w' => rfNums_any r w'
  have hac := Lib.hid (fun w' g h => arV_cell (w := w') (g := g) (t := 24) (r := r) h)
  have hrg := Lib.hid (numsR_at ho)
  have hL5 : (numsR r).length = 5 := rfl
  have hbf := Lib.hid (bytesR_flat r)
  obtain ⟨M, hM⟩ : ∃ M, bytesR r = M := ⟨_, rfl⟩
  rw [hM] at hbf ⊢
  obtain ⟨L, hL⟩ : ∃ L, numsR r = L := ⟨_, rfl⟩
  rw [hL] at hac hrg hL5 hbf
  obtain ⟨Ar, hAr⟩ : ∃ A, arV r = A := ⟨_, rfl⟩
  rw [hAr] at hN hac
  obtain ⟨hk1, he1, _⟩ := hr
  obtain ⟨K, E, S, Q, O, U, X⟩ := r
  unfold rpV at hN ⊢
  dsimp only at hN hk1 he1 hbf ⊢
  obtain ⟨C, hC⟩ : ∃ C, rpC K E S Q O U X = C := ⟨_, rfl⟩
  rw [hC] at hN ⊢
  have hCl : C.length = 7 := by rw [← hC]; rfl
  have hCH := Lib.hid hC
  have hb := below1 w (.cells C.toArray 26)
  have hk : Blk (w.alloc (.cells C.toArray 26)) w.heap.size 26 C := Blk.new w _ C
  obtain ⟨W, hW⟩ : ∃ V, w.alloc (.cells C.toArray 26) = V := ⟨_, rfl⟩
  rw [hW] at hb hk
  obtain ⟨G, g9⟩ : ∃ G, w.heap.size = G := ⟨_, rfl⟩
  rw [g9] at hk
  have gH := Lib.hid g9
  have x1 : IntKind.u8.wrap K = K := by rw [IntKind.wrap_u8]; omega
  have x2 : K % 256 = K := by omega
  have x3 : IntKind.u8.wrap E = E := by rw [IntKind.wrap_u8]; omega
  have x4 : E % 256 = E := by omega
  have c0 := rp0 (hCH.out ▸ hk)
  have c1 := rp1 (hCH.out ▸ hk)
  have hown := own_pair W 5 K E (B := w.heap.size) hb.size
  have hk2 := hk.alloc (.cells #[.int .u8 K, .int .u8 E] 5)
  have hB2 := hb.alloc hb.size (.cells #[.int .u8 K, .int .u8 E] 5)
  obtain ⟨V, hV⟩ : ∃ V, W.alloc (.cells #[.int .u8 K, .int .u8 E] 5) = V := ⟨_, rfl⟩
  rw [hV] at hown hk2 hB2
  replace hN := Lib.hid hN
  have hownH := Lib.hid (And.intro hown hB2)
  clear hC hM hL hAr hk hb hk1 he1 hown hB2
  go_enter Tryz.func13, Tryz.ntmps13
  go_wp2_with ((with_reducible refine box_row rfl 26 (.tmp 0) rfl C ?_ ?_); rfl; refine RowKit.Hid.out ?_)
  refine Lib.hid ?_
  clear hW g9
  go_wp2_with ((with_reducible refine wpList_load_blk rfl 26 (.tmp 1) rfl ?_ hk2 rowRp hCl ?_); rfl)
  refine (hN.out V).mono ?_
  rintro q w3 ⟨g, rfl, hA, hgV, b3⟩
  have hown3 := own_stay9 hownH.out.1 b3
  have hB3 := hownH.out.2.trans (b3.mono hownH.out.2.size)
  clear hk2 b3 c0 c1 hownH hV
  go_wp2_with fail
  go_loopw [3, 5] (fun v i wr => ∃ j : Nat, j ≤ 5 ∧ i = .int .i64 j ∧ wr.ownsRow w.heap.size 5 1 v (2 + 4 * j) (([K] ++ [E] ++ (L.take j).flatMap (fun n => beL n 4)).map (Value.int .u8)) ∧ Blk wr g 24 Ar ∧ Below w.heap.size w wr) (fun _ i _ => 5 - (intOf i).toNat)
  case atStart => exact ⟨0, by decide, rfl, by first | exact hown3 | exact gH.out ▸ hown3 | simpa using hown3, hA, by first | exact hB3 | exact gH.out ▸ hB3⟩
  case round =>
    clear hown3 hB3 hA
    obtain ⟨j, hj, rfl, hown, hA, hB⟩ := hrel
    by_cases hlt : j < 5
    · have hji : (j : Int) < 5 := by omega
      have cj := hac.out wr g hA j hlt
      have hx := hrg.out j hlt
      have hst := flat_step L j (by omega)
      obtain ⟨x, hxe⟩ : ∃ x, L.getD j 0 = x := ⟨_, rfl⟩
      rw [hxe] at cj hx hst
      have hnum := rNumber_any x 4 wr (by decide)
      rw [show ((4 : Nat) : Int) = 4 from rfl] at hnum
      have u1 : IntKind.u64.wrap x = x := by rw [IntKind.wrap_u64]; omega
      have u2 : x % 18446744073709551616 = x := by omega
      have hstH := Lib.hid hst
      have hltH := Lib.hid hlt
      have hkH := Lib.hid (And.intro hown (And.intro hA hB))
      obtain ⟨Y, hY⟩ : ∃ Y, (L.take j).flatMap (fun n => beL n 4) = Y := ⟨_, rfl⟩
      rw [hY] at hstH hkH
      clear hlt hj hx hst hown hA hB hxe hY
      go_wp2_with fail
      refine hnum.mono ?_
      rintro q w5 ⟨b, d, rfl, hnO, b5⟩
      obtain ⟨b', d', hv, hnI⟩ := Ints.of_owns hnO
      injection hv with e1 _ e2
      subst e1; subst e2
      have hown5 := own_stay9 hkH.out.1 b5
      have hA5 := hkH.out.2.1.keep b5 hkH.out.2.1.lt
      have hB5 := hkH.out.2.2.trans (b5.mono hkH.out.2.2.size)
      clear hkH b5 hnO cj u1 u2 hnum
      go_wp2_with (at_builtin; refine wpList_append_ints rfl (.tmp 19) (.tmp 25) 27 rfl w.heap.size 5 i0 (.int .u8 0) 1 Tryz.underlying27 hi hz0 hz1 hz2 rfl rfl hown5 rfl hnI ?_ ?_ hB5.size ?_; (have := hltH.out; unfold maxLen; omega); (have := hltH.out; omega); intro v6 w6 hown6 hg6; refine RowKit.Hid.out ?_)
      refine Lib.hid ?_
      rw [← List.map_append, List.append_assoc, ← hstH.out] at hown6
      have hA6 := hA5.grown hg6 (owns_blk15 hown5 hA5 (by decide))
      have hB6 := hB5.grown hg6 hB5.size (fun q hq => (hown5.lt q hq).1)
      clear hown5 hA5 hB5 hg6 hnI
      go_wp2
      exact ⟨⟨j + 1, by have := hltH.out; omega, by congr 1, by first | exact hown6 | (rw [show 2 + 4 * (j + 1) = 2 + 4 * j + 4 by omega]; exact hown6), hA6, hB6⟩, by simp only [intOf]; have := hltH.out; omega⟩
    · obtain rfl : j = 5 := by omega
      have hji : ¬ ((5 : Nat) : Int) < 5 := by omega
      rw [List.take_of_length_le (by omega), ← hbf.out] at hown
      clear hlt hj hA
      obtain ⟨b, d, rfl, hI⟩ := Ints.of_owns hown
      clear hown
      go_wp2
      go_ret
      exact ⟨b, d, rfl, hI, by first | exact hB | exact gH.out ▸ hB⟩
end Go.Proofs.YtbiabjehdmddbaaGreatDoor
