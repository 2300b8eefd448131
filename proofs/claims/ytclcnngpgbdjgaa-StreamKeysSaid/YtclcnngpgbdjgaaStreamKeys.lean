/-
  The law StreamKeys comes to true, whatever bytes are handed in as a key and to be masked; new memory alone is written. Conditions: each byte is a number from 0 to 255, the place a number below 2^64.
-/
import Derived.Test.YtclcnngpgbdjgaaStreamAlive
import Derived.Test.YtclcnngpgbdjgaaOpenArr
namespace Go.Proofs.Ytclcnngpgbdjgaa
open Go.RowKit

theorem own_stay {w w' : World} {b : Nat} {e : TypeId} {size : Nat} {v : Value} {n : Nat} {xs : List Value} (h : w.ownsRow b e size v n xs) (hb : Below w.heap.size w w') : w'.ownsRow b e size v n xs :=
  h.kept (grown_of_below hb none) (by cases hv : v.ownBlock <;> simp)
theorem unmade_cell : (kpCells zf zf zf false false 0 zf ++ [Value.int .u64 0, Value.bool false])[772]? = some (.bool false) := by
  rw [List.getElem?_append_right (by rw [kpCells_len]; omega), kpCells_len]
  rfl

set_option maxRecDepth 100000 in
set_option maxHeartbeats 1600000 in
theorem streamKeys_any (a : Option Addr) (kn kc : Nat) (ks : List Int) (ba : Option Addr) (bn bc : Nat) (z : List Int) (fz : Nat → Nat) (n : Nat) (w : World) (hK : Ints .u8 w a kn kc ks) (hr : ∀ x ∈ ks, 0 ≤ x ∧ x < 256) (hI : Ints .u8 w ba bn bc z) (hfz : z = bytesL bn fz) :
    Calls Try.prog 5 #[.slice a kn kc, .slice ba bn bc, .int .u64 (n : Int)] w fun e w' => e = .returned (.bool true) ∧ Below w.heap.size w w' := by
  go_enter Try.func5, Try.ntmps5
  by_cases hbig : 100 < bn
  · have hbi : (100 : Int) < (bn : Int) := by omega
    go_wp2_with fail
    refine (stAlive_any w).mono ?_
    rintro e w9 ⟨rfl, b9⟩
    go_wp2
    go_ret
    exact ⟨rfl, b9⟩
  · have hbi : ¬ (100 : Int) < (bn : Int) := by omega
    have hbl : bn ≤ 100 := by omega
    obtain ⟨g, hgw⟩ : ∃ g, w.heap.size = g := ⟨_, rfl⟩
    have hgwH := Lib.hid hgw
    clear hbig hgw
    by_cases h32 : kn = 32
    · subst h32
      go_wp2_with fail
      refine (stNew_any a kc ks w hK hr).mono ?_
      rintro e w1 ⟨q, rfl, hqs, hS, hB1⟩
      have hg1 : g ≤ w1.heap.size := by rw [← hgwH.out]; exact hB1.size
      have hB1 : Below g w w1 := by rw [← hgwH.out]; exact hB1
      clear hK hr hS hqs
      go_wp2_with (with_reducible refine wpList_alloc_blk rfl 52 rfl zeroSt ?_)
      obtain ⟨w3, hw3⟩ : ∃ w3, w1.alloc (.cells (kpCells zf zf zf false false 0 zf ++ [Value.int .u64 0, Value.bool false]).toArray 52) = w3 := ⟨_, rfl⟩
      obtain ⟨d, hd⟩ : ∃ d, w1.heap.size = d := ⟨_, rfl⟩
      have hC3 : Blk w3 d 52 (kpCells zf zf zf false false 0 zf ++ [Value.int .u64 0, Value.bool false]) := by rw [← hw3, ← hd]; exact Blk.new w1 _ _
      have hm3 : w3.cell? ⟨d, 772, none⟩ = some (.bool false) := by rw [hC3.cell, unmade_cell]
      have hdl : d < w3.heap.size := hC3.lt
      have hg3 : g ≤ d := by rw [← hd]; exact hg1
      have hB3 : Below g w w3 := by rw [← hw3]; exact hB1.alloc hg1 _
      have hI3 : Ints .u8 w3 ba bn bc z := hI.keep (by rw [hgwH.out]; exact hB3)
      have hfs := hI3.string 31 9 5 Try.underlying31 Try.underlying5 Try.underlying9
      have hI3 := Lib.hid hI3
      have hdlH := Lib.hid hdl
      have hg3H := Lib.hid hg3
      have hB3H := Lib.hid hB3
      rw [hw3, hd]
      clear hw3 hd hC3 hdl hg3 hB3 hg1 hB1
      refine (seek_nil (n : Int) w3).mono ?_
      rintro e w' ⟨rfl, rfl⟩
      go_wp2_with fail
      refine (seek_un d (n : Int) w3 hm3).mono ?_
      rintro e w' ⟨rfl, rfl⟩
      go_wp2_with fail
      refine (mask_nil ba bn bc z w3 hI3.out (by omega)).mono ?_
      rintro e w4 ⟨xb, xc, rfl, hox, hB4⟩
      have hm4 : w4.cell? ⟨d, 772, none⟩ = some (.bool false) := (hB4.cell (p := ⟨d, 772, none⟩) hdlH.out).trans hm3
      have hI4 := hI3.out.keep hB4
      have hdl4 : d < w4.heap.size := Nat.lt_of_lt_of_le hdlH.out hB4.size
      clear hm3 hfs
      go_wp2_with fail
      refine (mask_un d ba bn bc z w4 hm4 hdl4 hI4 (by omega)).mono ?_
      rintro e w5 ⟨yb, yc, rfl, hoy, hB5⟩
      have hox5 := own_stay hox hB5
      obtain ⟨xb', xc', hxv, hXi⟩ := Ints.of_owns hox5
      injection hxv with hx1 _ hx2
      subst hx1; subst hx2
      obtain ⟨yb', yc', hyv, hYi⟩ := Ints.of_owns hoy
      injection hyv with hy1 _ hy2
      subst hy1; subst hy2
      have fx := hXi.string 31 9 5 Try.underlying31 Try.underlying5 Try.underlying9
      have fy := hYi.string 31 9 5 Try.underlying31 Try.underlying5 Try.underlying9
      obtain ⟨f0, hf0⟩ : ∃ f0, z = bytesL bn f0 := ⟨fz, hfz⟩
      rw [hf0, bytesL_row] at hox5 hoy
      have hxlt : ∀ q, (Value.slice xb bn xc).ownBlock = some q → w3.heap.size ≤ q ∧ q < w4.heap.size := fun q hq => hox.lt q hq
      have hylt : ∀ q, (Value.slice yb bn yc).ownBlock = some q → w4.heap.size ≤ q := fun q hq => (hoy.lt q hq).1
      have hB5' : Below w3.heap.size w3 w5 := hB4.trans (hB5.mono hB4.size)
      have h34 := hB4.size
      obtain ⟨X, hX⟩ : ∃ X, w3.heap.size = X := ⟨_, rfl⟩
      obtain ⟨Y, hY⟩ : ∃ Y, w4.heap.size = Y := ⟨_, rfl⟩
      rw [hX] at hox5 hxlt hB5' h34
      rw [hY] at hoy hxlt hylt h34
      have hdX : d < X := by rw [← hX]; exact hdlH.out
      have OLD := Lib.hid (fun w' (h : Below X w3 w') => (hI3.out.keep (by rw [hX]; exact h) : Ints .u8 w' ba bn bc z).string 31 9 5 Try.underlying31 Try.underlying5 Try.underlying9)
      have MM := Lib.hid (fun w' (h : Below X w3 w') => (h.cell (p := ⟨d, 772, none⟩) hdX).trans ((hB4.cell (p := ⟨d, 772, none⟩) hdlH.out).symm.trans hm4))
      have hxH := Lib.hid hxlt
      have hyH := Lib.hid hylt
      have h34H := Lib.hid h34
      have hdXH := Lib.hid hdX
      have hXH := Lib.hid hX
      clear hI4 hdl4 hm4 hox hXi hYi hB4 hB5 hX hY hxlt hylt h34 hdX hf0
      go_wp2
      go_loopw [69] (fun i wr => ∃ (k : Nat) (fx fy : Nat → Nat), k ≤ bn ∧ i = .int .i64 k ∧ wr.ownsRow X 5 1 (.slice xb bn xc) bn (rowN bn fx) ∧ wr.ownsRow Y 5 1 (.slice yb bn yc) bn (rowN bn fy) ∧ Below X w3 wr) (fun i _ => bn - (intOf i).toNat)
      case atStart => exact ⟨0, f0, f0, Nat.zero_le _, rfl, hox5, hoy, hB5'⟩
      case round =>
        clear hox5 hoy hB5' fx fy
        obtain ⟨k, fx, fy, hk, rfl, hox, hoy, hB⟩ := hrel
        by_cases hlt : k < bn
        · obtain ⟨gx, rfl, hgx, hgxl, hcx⟩ := own_bytes hox (by omega)
          obtain ⟨gy, rfl, hgy, hgyl, hcy⟩ := own_bytes hoy (by omega)
          obtain ⟨cx, fzx⟩ := hcx k hlt
          obtain ⟨cy, fzy⟩ := hcy k hlt
          have hxy : gx ≠ gy := by have := (hxH.out gx rfl).2; have := hyH.out gy rfl; omega
          obtain ⟨u, hu⟩ : ∃ u, (fx k + 1) % 256 = u := ⟨_, rfl⟩
          obtain ⟨v, hv⟩ : ∃ v, (fy k + 2) % 256 = v := ⟨_, rfl⟩
          have u1 : ((fx k : Nat) : Int) % 256 = ((fx k : Nat) : Int) % 256 := rfl
          have a1 : (((fx k : Nat) : Int) + 1) % 256 = (u : Int) := by omega
          have a2 : (((fy k : Nat) : Int) + 2) % 256 = (v : Int) := by omega
          have a3 : IntKind.u8.wrap (((fx k : Nat) : Int) + 1) = (u : Int) := by rw [IntKind.wrap_u8]; omega
          have a4 : IntKind.u8.wrap (((fy k : Nat) : Int) + 2) = (v : Int) := by rw [IntKind.wrap_u8]; omega
          have hsx := hox.stored k (.int .u8 (u : Nat))
          rw [rowN_set bn _ _ _ hlt] at hsx
          have hoy2 := hoy.kept hsx.2 (.inr (by intro e; injection e with e; exact hxy e.symm))
          have hsy := hoy2.stored k (.int .u8 (v : Nat))
          rw [rowN_set bn _ _ _ hlt] at hsy
          have hox2 := hsx.1.kept hsy.2 (.inr (by intro e; injection e with e; exact hxy e))
          have hB2 := (hB.setCell (p := ⟨gx, k, none⟩) hgx (.int .u8 (u : Nat))).setCell (p := ⟨gy, k, none⟩) (show X ≤ gy by have := h34H.out; omega) (.int .u8 (v : Nat))
          have cy2 : (wr.setCell ⟨gx, k, none⟩ (.int .u8 (u : Nat))).cell? ⟨gy, k, none⟩ = some (.int .u8 (fy k : Nat)) := hsx.2.cell cy (by intro e; injection e with e; exact hxy e.symm)
          have fy2 : (wr.setCell ⟨gx, k, none⟩ (.int .u8 (u : Nat))).frozen? ⟨gy, k, none⟩ = false := by
            obtain ⟨_, _, _, _, hq⟩ := own_bytes hoy2 (by omega)
            rename_i o ho _ _
            injection ho with ho
            injection ho with ho
            subst ho
            exact (hq k hlt).2
          have hsy1 := Lib.hid hsy.1
          have hox2 := Lib.hid hox2
          have hB2 := Lib.hid hB2
          have hltH := Lib.hid hlt
          have hki : (k : Int) < (bn : Int) := by omega
          clear hox hoy hB hsx hsy hoy2 hcx hcy hu hv u1 hk
          go_wp2
          go_roundw
          case rel => exact ⟨k + 1, _, _, by have := hltH.out; omega, by go_num, hox2.out, hsy1.out, hB2.out⟩
          case measure => have := hltH.out; simp [intOf]; omega
        · obtain rfl : k = bn := by omega
          have ob := OLD.out wr hB
          have hmm := MM.out wr hB
          go_wp2_with fail
          refine (place_nil wr).mono ?_
          rintro e w' ⟨rfl, rfl⟩
          go_wp2_with fail
          refine (place_un d wr hmm).mono ?_
          rintro e w' ⟨rfl, rfl⟩
          go_wp2_with fail
          refine (at_nil (n : Int) wr).mono ?_
          rintro e w' ⟨rfl, rfl⟩
          go_wp2_with fail
          refine (at_un d (n : Int) wr hmm).mono ?_
          rintro e w' ⟨rfl, rfl⟩
          go_wp2_with fail
          refine (stAlive_any wr).mono ?_
          rintro e w9 ⟨rfl, b9⟩
          go_wp2
          go_ret
          refine ⟨rfl, ?_⟩
          rw [hgwH.out]
          exact (hB3H.out.trans (hB.mono (by have := hg3H.out; have := hdXH.out; omega))).trans (b9.mono (by have := hB.size; have := hXH.out; have := hg3H.out; have := hdXH.out; omega))
    · have h32i : ¬ (kn : Int) = 32 := by omega
      go_wp2_with fail
      refine (stNew_no a kn kc w h32).mono ?_
      rintro e w1 ⟨rfl, hw1⟩
      have hg1 : g ≤ w1.heap.size := by rw [← hgwH.out, hw1]; exact Nat.le_refl _
      have hB1 : Below g w w1 := by rw [← hw1]; exact Below.refl _ _
      clear hw1
      clear hK hr h32
      go_wp2_with (with_reducible refine wpList_alloc_blk rfl 52 rfl zeroSt ?_)
      obtain ⟨w3, hw3⟩ : ∃ w3, w1.alloc (.cells (kpCells zf zf zf false false 0 zf ++ [Value.int .u64 0, Value.bool false]).toArray 52) = w3 := ⟨_, rfl⟩
      obtain ⟨d, hd⟩ : ∃ d, w1.heap.size = d := ⟨_, rfl⟩
      have hC3 : Blk w3 d 52 (kpCells zf zf zf false false 0 zf ++ [Value.int .u64 0, Value.bool false]) := by rw [← hw3, ← hd]; exact Blk.new w1 _ _
      have hm3 : w3.cell? ⟨d, 772, none⟩ = some (.bool false) := by rw [hC3.cell, unmade_cell]
      have hdl : d < w3.heap.size := hC3.lt
      have hg3 : g ≤ d := by rw [← hd]; exact hg1
      have hB3 : Below g w w3 := by rw [← hw3]; exact hB1.alloc hg1 _
      have hI3 : Ints .u8 w3 ba bn bc z := hI.keep (by rw [hgwH.out]; exact hB3)
      have hfs := hI3.string 31 9 5 Try.underlying31 Try.underlying5 Try.underlying9
      have hI3 := Lib.hid hI3
      have hdlH := Lib.hid hdl
      have hg3H := Lib.hid hg3
      have hB3H := Lib.hid hB3
      rw [hw3, hd]
      clear hw3 hd hC3 hdl hg3 hB3 hg1 hB1
      refine (seek_nil (n : Int) w3).mono ?_
      rintro e w' ⟨rfl, rfl⟩
      go_wp2_with fail
      refine (seek_un d (n : Int) w3 hm3).mono ?_
      rintro e w' ⟨rfl, rfl⟩
      go_wp2_with fail
      refine (mask_nil ba bn bc z w3 hI3.out (by omega)).mono ?_
      rintro e w4 ⟨xb, xc, rfl, hox, hB4⟩
      have hm4 : w4.cell? ⟨d, 772, none⟩ = some (.bool false) := (hB4.cell (p := ⟨d, 772, none⟩) hdlH.out).trans hm3
      have hI4 := hI3.out.keep hB4
      have hdl4 : d < w4.heap.size := Nat.lt_of_lt_of_le hdlH.out hB4.size
      clear hm3 hfs
      go_wp2_with fail
      refine (mask_un d ba bn bc z w4 hm4 hdl4 hI4 (by omega)).mono ?_
      rintro e w5 ⟨yb, yc, rfl, hoy, hB5⟩
      have hox5 := own_stay hox hB5
      obtain ⟨xb', xc', hxv, hXi⟩ := Ints.of_owns hox5
      injection hxv with hx1 _ hx2
      subst hx1; subst hx2
      obtain ⟨yb', yc', hyv, hYi⟩ := Ints.of_owns hoy
      injection hyv with hy1 _ hy2
      subst hy1; subst hy2
      have fx := hXi.string 31 9 5 Try.underlying31 Try.underlying5 Try.underlying9
      have fy := hYi.string 31 9 5 Try.underlying31 Try.underlying5 Try.underlying9
      obtain ⟨f0, hf0⟩ : ∃ f0, z = bytesL bn f0 := ⟨fz, hfz⟩
      rw [hf0, bytesL_row] at hox5 hoy
      have hxlt : ∀ q, (Value.slice xb bn xc).ownBlock = some q → w3.heap.size ≤ q ∧ q < w4.heap.size := fun q hq => hox.lt q hq
      have hylt : ∀ q, (Value.slice yb bn yc).ownBlock = some q → w4.heap.size ≤ q := fun q hq => (hoy.lt q hq).1
      have hB5' : Below w3.heap.size w3 w5 := hB4.trans (hB5.mono hB4.size)
      have h34 := hB4.size
      obtain ⟨X, hX⟩ : ∃ X, w3.heap.size = X := ⟨_, rfl⟩
      obtain ⟨Y, hY⟩ : ∃ Y, w4.heap.size = Y := ⟨_, rfl⟩
      rw [hX] at hox5 hxlt hB5' h34
      rw [hY] at hoy hxlt hylt h34
      have hdX : d < X := by rw [← hX]; exact hdlH.out
      have OLD := Lib.hid (fun w' (h : Below X w3 w') => (hI3.out.keep (by rw [hX]; exact h) : Ints .u8 w' ba bn bc z).string 31 9 5 Try.underlying31 Try.underlying5 Try.underlying9)
      have MM := Lib.hid (fun w' (h : Below X w3 w') => (h.cell (p := ⟨d, 772, none⟩) hdX).trans ((hB4.cell (p := ⟨d, 772, none⟩) hdlH.out).symm.trans hm4))
      have hxH := Lib.hid hxlt
      have hyH := Lib.hid hylt
      have h34H := Lib.hid h34
      have hdXH := Lib.hid hdX
      have hXH := Lib.hid hX
      clear hI4 hdl4 hm4 hox hXi hYi hB4 hB5 hX hY hxlt hylt h34 hdX hf0
      go_wp2
      go_loopw [69] (fun i wr => ∃ (k : Nat) (fx fy : Nat → Nat), k ≤ bn ∧ i = .int .i64 k ∧ wr.ownsRow X 5 1 (.slice xb bn xc) bn (rowN bn fx) ∧ wr.ownsRow Y 5 1 (.slice yb bn yc) bn (rowN bn fy) ∧ Below X w3 wr) (fun i _ => bn - (intOf i).toNat)
      case atStart => exact ⟨0, f0, f0, Nat.zero_le _, rfl, hox5, hoy, hB5'⟩
      case round =>
        clear hox5 hoy hB5' fx fy
        obtain ⟨k, fx, fy, hk, rfl, hox, hoy, hB⟩ := hrel
        by_cases hlt : k < bn
        · obtain ⟨gx, rfl, hgx, hgxl, hcx⟩ := own_bytes hox (by omega)
          obtain ⟨gy, rfl, hgy, hgyl, hcy⟩ := own_bytes hoy (by omega)
          obtain ⟨cx, fzx⟩ := hcx k hlt
          obtain ⟨cy, fzy⟩ := hcy k hlt
          have hxy : gx ≠ gy := by have := (hxH.out gx rfl).2; have := hyH.out gy rfl; omega
          obtain ⟨u, hu⟩ : ∃ u, (fx k + 1) % 256 = u := ⟨_, rfl⟩
          obtain ⟨v, hv⟩ : ∃ v, (fy k + 2) % 256 = v := ⟨_, rfl⟩
          have u1 : ((fx k : Nat) : Int) % 256 = ((fx k : Nat) : Int) % 256 := rfl
          have a1 : (((fx k : Nat) : Int) + 1) % 256 = (u : Int) := by omega
          have a2 : (((fy k : Nat) : Int) + 2) % 256 = (v : Int) := by omega
          have a3 : IntKind.u8.wrap (((fx k : Nat) : Int) + 1) = (u : Int) := by rw [IntKind.wrap_u8]; omega
          have a4 : IntKind.u8.wrap (((fy k : Nat) : Int) + 2) = (v : Int) := by rw [IntKind.wrap_u8]; omega
          have hsx := hox.stored k (.int .u8 (u : Nat))
          rw [rowN_set bn _ _ _ hlt] at hsx
          have hoy2 := hoy.kept hsx.2 (.inr (by intro e; injection e with e; exact hxy e.symm))
          have hsy := hoy2.stored k (.int .u8 (v : Nat))
          rw [rowN_set bn _ _ _ hlt] at hsy
          have hox2 := hsx.1.kept hsy.2 (.inr (by intro e; injection e with e; exact hxy e))
          have hB2 := (hB.setCell (p := ⟨gx, k, none⟩) hgx (.int .u8 (u : Nat))).setCell (p := ⟨gy, k, none⟩) (show X ≤ gy by have := h34H.out; omega) (.int .u8 (v : Nat))
          have cy2 : (wr.setCell ⟨gx, k, none⟩ (.int .u8 (u : Nat))).cell? ⟨gy, k, none⟩ = some (.int .u8 (fy k : Nat)) := hsx.2.cell cy (by intro e; injection e with e; exact hxy e.symm)
          have fy2 : (wr.setCell ⟨gx, k, none⟩ (.int .u8 (u : Nat))).frozen? ⟨gy, k, none⟩ = false := by
            obtain ⟨_, _, _, _, hq⟩ := own_bytes hoy2 (by omega)
            rename_i o ho _ _
            injection ho with ho
            injection ho with ho
            subst ho
            exact (hq k hlt).2
          have hsy1 := Lib.hid hsy.1
          have hox2 := Lib.hid hox2
          have hB2 := Lib.hid hB2
          have hltH := Lib.hid hlt
          have hki : (k : Int) < (bn : Int) := by omega
          clear hox hoy hB hsx hsy hoy2 hcx hcy hu hv u1 hk
          go_wp2
          go_roundw
          case rel => exact ⟨k + 1, _, _, by have := hltH.out; omega, by go_num, hox2.out, hsy1.out, hB2.out⟩
          case measure => have := hltH.out; simp [intOf]; omega
        · obtain rfl : k = bn := by omega
          have ob := OLD.out wr hB
          have hmm := MM.out wr hB
          go_wp2_with fail
          refine (place_nil wr).mono ?_
          rintro e w' ⟨rfl, rfl⟩
          go_wp2_with fail
          refine (place_un d wr hmm).mono ?_
          rintro e w' ⟨rfl, rfl⟩
          go_wp2_with fail
          refine (at_nil (n : Int) wr).mono ?_
          rintro e w' ⟨rfl, rfl⟩
          go_wp2_with fail
          refine (at_un d (n : Int) wr hmm).mono ?_
          rintro e w' ⟨rfl, rfl⟩
          go_wp2_with fail
          refine (stAlive_any wr).mono ?_
          rintro e w9 ⟨rfl, b9⟩
          go_wp2
          go_ret
          refine ⟨rfl, ?_⟩
          rw [hgwH.out]
          exact (hB3H.out.trans (hB.mono (by have := hg3H.out; have := hdXH.out; omega))).trans (b9.mono (by have := hB.size; have := hXH.out; have := hg3H.out; have := hdXH.out; omega))

theorem wf_place {a : Int} (h : (Lit.int .u64 a).wf = true) : ∃ n : Nat, a = n ∧ n < 18446744073709551616 := by
  have := bounds_u64 h
  exact ⟨a.toNat, by omega, by omega⟩
theorem law_StreamKeys (a : Option Addr) (n c : Nat) (z : List Int) (a1 : Option Addr) (n1 c1 : Nat) (z1 : List Int) (x : Int) (w : World) (hI : Ints .u8 w a n c z) (hw : ∀ x ∈ z, (Lit.int .u8 x).wf = true) (_ : c ≤ maxLen)
    (hI1 : Ints .u8 w a1 n1 c1 z1) (hw1 : ∀ x ∈ z1, (Lit.int .u8 x).wf = true) (_ : c1 ≤ maxLen) (hx : (Lit.int .u64 x).wf = true) :
    Calls Try.prog 5 #[.slice a n c, .slice a1 n1 c1, .int .u64 x] w fun e w' => e = .returned (.bool true) ∧ Below w.heap.size w w' := by
  obtain ⟨m, rfl, _⟩ := wf_place hx
  obtain ⟨f, _, hf⟩ := bytes_fn z1 n1 hI1.len hw1
  exact streamKeys_any a n c z a1 n1 c1 z1 f m w hI (fun x hx => by have := bounds_u8 (hw x hx); omega) hI1 hf
end Go.Proofs.Ytclcnngpgbdjgaa
