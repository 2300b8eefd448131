/-
  The law CrcTurned, out of what a program's sums come to ('CrcProg'). New memory alone is written. Conditions: bytes below 256.
-/
import Derived.Test.YtlningdlddnnkaaDoorCrcTurn
import Derived.Test.YtlningdlddnnkaaDoorSeqS
import Derived.StillTailTactics
namespace Go.Proofs.YtlningdlddnnkaaDoor
open Go.RowKit

theorem info_u8t : ∃ i, Tryd.prog.info? 5 = some i ∧ i.zero = some (.int .u8 0) ∧ i.size = 1 ∧ i.bytes = 1 := by
  have h : (Tryd.prog.info? 5).map (fun i => (i.zero, i.size, i.bytes)) = some (some (.int .u8 0), 1, 1) := by kernel_rfl
  cases hq : Tryd.prog.info? 5 with
  | none => simp [hq] at h
  | some i => rw [hq] at h; simp at h; exact ⟨i, rfl, h.1, h.2.1, h.2.2⟩

theorem at_set {n : Nat} {zs : List Int} {cs : List Value} {K : Nat} {u : Int} (hzl : zs.length = n) (hK : K < n) (hKc : K < cs.length) (hat : ∀ i, i < n → cs[i]? = some (.int .u8 (zs.getD i 0))) : ∀ i, i < n → (cs.set K (.int .u8 u))[i]? = some (.int .u8 ((zs.set K u).getD i 0)) := by
  intro i hi
  by_cases h : K = i
  · subst h
    rw [List.getElem?_set_self hKc, List.getD_eq_getElem?_getD, List.getElem?_set_self (by rw [hzl]; exact hK)]
    rfl
  · rw [List.getElem?_set_ne h, List.getD_eq_getElem?_getD, List.getElem?_set_ne h, ← List.getD_eq_getElem?_getD]
    exact hat i hi
theorem range_set {zs : List Int} {K : Nat} {u : Int} (h : ∀ z ∈ zs, 0 ≤ z ∧ z < 256) (hu : 0 ≤ u ∧ u < 256) : ∀ z ∈ zs.set K u, 0 ≤ z ∧ z < 256 := by
  intro z hz
  rcases List.mem_or_eq_of_mem_set hz with h1 | h1
  · exact h z h1
  · rw [h1]; exact hu
theorem pow8_mod (p : Nat) (h : p < 8) : (2 : Int) ^ p % 256 = 2 ^ p := by
  revert h
  revert p
  decide
theorem sum_one' (CP : CrcProg) {w0 W : World} {T : TypeId} (hG : CP.Gl w0) (hB : Below w0.heap.size w0 W) (A : Option Addr) (m c : Nat) (xs : List Int) (hx : Ints .u8 W A m c xs) (hr : ∀ x ∈ xs, 0 ≤ x ∧ x < 256) (hm : m ≤ 500) :
    Calls Tryd.prog 11 #[.slice (some ⟨W.heap.size, 0, none⟩) 1 1] (W.alloc (.cells #[.slice A m c] T)) fun q w' => q = .returned (.int .u32 (nv (crcOf 0#32 (bvs xs)))) ∧ Below W.heap.size W w' := by
  have hb := below1 W (.cells #[.slice A m c] T)
  have hl := hx.len
  have hc := CP.of (some ⟨W.heap.size, 0, none⟩) 1 1 [xs] (W.alloc (.cells #[.slice A m c] T)) (CP.gl_keep hG ((hB.trans (hb.mono hB.size)).mono (CP.gl_le hG))) (parts_one11 W A m c xs hx T) (fun p hp => by rw [List.mem_singleton.1 hp]; exact hr) (by simp; omega)
  rw [show [xs].flatten = xs by simp] at hc
  exact hc.mono fun _ _ k => ⟨k.1, hb.trans (k.2.mono hb.size)⟩
theorem shl8_wrap (p : Nat) (h : p < 8) : IntKind.u8.wrap (1 * 2 ^ p) = 2 ^ p := by
  revert h
  revert p
  decide
theorem turn_place (bt j n : Nat) (h : bt + 32 ≤ 8 * n) (hn : n ≤ 500) (hj : j < 32) : ∃ K p : Nat, (bt + j) / 8 = K ∧ (bt + j) % 8 = p ∧ p < 8 ∧ K < n ∧ IntKind.i64.wrap ((bt : Int) + j) = (bt : Int) + j ∧ ((bt : Int) + j).tdiv 8 = (K : Int) ∧ ((bt : Int) + j).tmod 8 = (p : Int) := by
  have h0 : (0 : Int) ≤ (bt : Int) + j := by omega
  refine ⟨(bt + j) / 8, (bt + j) % 8, rfl, rfl, Nat.mod_lt _ (by decide), by omega, by rw [IntKind.wrap_i64]; omega, ?_, ?_⟩
  · rw [Int.tdiv_eq_ediv_of_nonneg h0]; omega
  · rw [Int.tmod_eq_emod_of_nonneg h0]; omega

set_option maxRecDepth 100000 in
set_option maxHeartbeats 1600000 in
theorem turned_any (CP : CrcProg) (a : Option Addr) (n c : Nat) (xs : List Int) (t y : Int) (w : World) (hG : CP.Gl w) (hI : Ints .u8 w a n c xs) (hr : ∀ x ∈ xs, 0 ≤ x ∧ x < 256) (ht : 0 ≤ t ∧ t < 65536) (h0 : 0 ≤ y ∧ y < 4294967296) :
    Calls Tryd.prog 6 #[.slice a n c, .int .u16 t, .int .u32 y] w fun e w' => e = .returned (.bool true) ∧ Below w.heap.size w w' := by
  obtain ⟨i0, hi, hz0, hz1, hz2⟩ := info_u8t
  by_cases hn : 500 < n
  · have hni : (500 : Int) < (n : Int) := by omega
    go_enter Tryd.func6, Tryd.ntmps6
    go_wp2_with fail
    refine (alive11_any CP _ hG).mono ?_
    rintro q w9 ⟨rfl, b9⟩
    go_wp2
    go_ret
    exact ⟨rfl, b9⟩
  by_cases hm : n < 5
  · have hni : ¬ (500 : Int) < (n : Int) := by omega
    have hmi : (n : Int) < 5 := by omega
    go_enter Tryd.func6, Tryd.ntmps6
    go_wp2_with fail
    refine (alive11_any CP _ hG).mono ?_
    rintro q w9 ⟨rfl, b9⟩
    go_wp2
    go_ret
    exact ⟨rfl, b9⟩
  have hni : ¬ (500 : Int) < (n : Int) := by omega
  have hmi : ¬ (n : Int) < 5 := by omega
  by_cases hy0 : y = 0
  · go_enter Tryd.func6, Tryd.ntmps6
    go_wp2_with fail
    refine (alive11_any CP _ hG).mono ?_
    rintro q w9 ⟨rfl, b9⟩
    go_wp2
    go_ret
    exact ⟨rfl, b9⟩
  obtain ⟨bt, hbt⟩ : ∃ bt : Nat, t % (8 * (n : Int) - 31) = (bt : Int) := ⟨(t % (8 * (n : Int) - 31)).toNat, by
    have := Int.emod_nonneg t (show (8 * (n : Int) - 31) ≠ 0 by omega)
    omega⟩
  have hbt2 : bt + 32 ≤ 8 * n := by
    have := Int.emod_lt_of_pos t (show 0 < (8 * (n : Int) - 31) by omega)
    omega
  have hbtm : t.tmod (8 * (n : Int) - 31) = (bt : Int) := by rw [Int.tmod_eq_emod_of_nonneg ht.1]; exact hbt
  have hw1 : wrap64 (8 * (n : Int)) = 8 * n := by unfold wrap64; omega
  have hw2 : wrap64 (8 * (n : Int) - 31) = 8 * (n : Int) - 31 := by unfold wrap64; omega
  have hnH := Lib.hid hn
  have hmH := Lib.hid hm
  have hlx := hI.len
  have q3 : Below w.heap.size w (w.alloc (.cells #[] 5)) := below1 _ _
  have I3 := Lib.hid (hI.keep q3)
  clear hn hm
  go_enter Tryd.func6, Tryd.ntmps6
  go_wp2_with (at_builtin
               refine wpList_append_ints rfl (.tmp 23) (.tmp 24) 26 rfl w.heap.size 5 i0 (.int .u8 0) 1 Tryd.underlying26 hi hz0 hz1 hz2 rfl rfl (World.ownsRow_made w #[] 0 (Nat.le_refl _) (Nat.zero_le _) rfl) rfl I3.out ?_ ?_ q3.size ?_
               (have := hnH.out; unfold maxLen; omega)
               (have := hnH.out; omega)
               intro v1 w1 ho1 hg1
               refine RowKit.Hid.out ?_)
  refine Lib.hid ?_
  rw [List.nil_append, Nat.zero_add] at ho1
  have b1 : Below w.heap.size w w1 := q3.grown hg1 q3.size (fun k hk => by injection hk with hk; rw [← hk]; exact Nat.le_refl _)
  obtain ⟨g, oc, cs, hv1, hgB, hk1, hat1⟩ : ∃ g oc cs, v1 = .slice (some ⟨g, 0, none⟩) n oc ∧ (w.heap.size ≤ g ∧ n ≤ oc) ∧ Blk w1 g 5 cs ∧ ∀ i, i < n → cs[i]? = some (.int .u8 (xs.getD i 0)) := by
    rcases ho1.2 with ⟨_, h0⟩ | ⟨g, cap, cur, hv, hb, hg, hnc, hsz, hcur, htk⟩
    · have := hmH.out; omega
    · refine ⟨g, cap, cur.toList, hv, ⟨hb, hnc⟩, by simpa [Blk] using hg, fun i hi => ?_⟩
      rw [Nat.mul_one] at htk
      rw [← List.getElem?_take_of_lt hi, htk]
      exact getElem?_mapInt .u8 xs i (by omega)
  rw [hv1]
  obtain ⟨Y, rfl⟩ := bv_range y h0.1 h0.2
  have hY0 : Y ≠ 0#32 := fun h => hy0 (by rw [h]; rfl)
  clear hg1 q3 I3 hv1 ho1 hy0
  go_wp2_with fail
  (try simp only [hbt, hbtm])
  obtain ⟨T, hT⟩ : ∃ T, (0#32 ^^^ 4294967295#32 : BitVec 32) = T := ⟨_, rfl⟩
  go_loopw [9] (fun i wr => ∃ (j : Nat) (zs : List Int) (cs : List Value), j ≤ 32 ∧ i = .int .i64 j ∧ zs.length = n ∧ (∀ z ∈ zs, 0 ≤ z ∧ z < 256) ∧ more T (bvs zs) = more T (bvs xs) ^^^ mvn (8 * n - bt) (below Y j) ∧ Blk wr g 5 cs ∧ (∀ i, i < n → cs[i]? = some (.int .u8 (zs.getD i 0))) ∧ Below w.heap.size w wr) (fun i _ => 32 - (intOf i).toNat)
  case atStart => exact ⟨0, xs, cs, Nat.zero_le _, rfl, hlx, hr, by rw [below, mvn_zero, BitVec.xor_zero], hk1, hat1, b1⟩
  case round =>
    clear hk1 hat1 b1
    obtain ⟨j, zs, cs, hj, rfl, hzl, hzr, hzm, hk, hat, hB⟩ := hrel
    by_cases hlt : j < 32
    · have hji : (j : Int) < 32 := by omega
      have hltH := Lib.hid hlt
      have hso := shr_odd Y j
      obtain ⟨y, hy⟩ : ∃ y, nv Y = y := ⟨_, rfl⟩
      have y0 := nv_lo Y
      have y1 := nv_hi Y
      rw [hy] at hso y0 y1
      rw [hy]
      by_cases hb : Y.getLsbD j = true
      · have hob : (y / 2 ^ j).tmod 2 = 1 := by rw [Int.tmod_eq_emod_of_nonneg (Int.ediv_nonneg y0 (Int.le_of_lt (Int.pow_pos (by decide))))]; exact hso.2 hb
        have hobB : ((y / 2 ^ j).tmod 2 == 1) = true := by rw [hob]; rfl
        have hbelow : below Y (j + 1) = below Y j ^^^ (1#32 <<< j) := by rw [below, if_pos hb]
        have e1 : 8 * n - (bt + j) = (8 * n - bt) - j := by omega
        have e2 := mvn_bit (8 * n - bt) j hlt (by omega)
        have e3 : bt + j < 8 * n := by omega
        have e4 : n ≤ 500 := by have := hnH.out; omega
        obtain ⟨K, p, hK, hp, hp8, hKn, hwa, hq2, hr2⟩ := turn_place bt j n hbt2 e4 hlt
        have hmt := more_turned zs (bt + j) n hzl e3 hzr T
        rw [hK, hp, hzm, e1, e2, BitVec.xor_assoc, ← mvn_xor, ← hbelow] at hmt
        clear e1 e2 e3 e4
        have hck := (hk.cell K).trans (hat K hKn)
        have hfk := hk.frozen K
        have hzv := getD_range (p := fun x => 0 ≤ x ∧ x < 256) hzr K (by rw [hzl]; exact hKn)
        obtain ⟨v, hv⟩ : ∃ v, zs.getD K 0 = v := ⟨_, rfl⟩
        rw [hv] at hck hzv hmt
        have hpp := bit_shl p hp8
        have hcl : K < cs.length := (List.getElem?_eq_some_iff.1 (hat K hKn)).1
        rw [← pow8_mod p hp8] at hmt
        obtain ⟨u, hu⟩ : ∃ u, bits .xor .u8 v (2 ^ p % 256) = u := ⟨_, rfl⟩
        have hur := xor8_range v (2 ^ p % 256)
        rw [hu] at hmt hur
        have hnew := Lib.hid (show (zs.set K u).length = n ∧ (∀ z ∈ zs.set K u, 0 ≤ z ∧ z < 256) ∧ ∀ i, i < n → (cs.set K (.int .u8 u))[i]? = some (.int .u8 ((zs.set K u).getD i 0)) from ⟨by rw [List.length_set]; exact hzl, range_set hzr hur, at_set hzl hKn hcl hat⟩)
        have huH := Lib.hid hu
        clear hu hur hcl hzl hzr hzm hat hv
        have hmtH := Lib.hid hmt
        have hpw := shl8_wrap p hp8
        have hwK : IntKind.i64.wrap (K : Int) = (K : Int) := by rw [IntKind.wrap_i64]; omega
        have hKi : (K : Int) < (n : Int) := by omega
        have hp0 : (0 : Int) ≤ (p : Int) := by omega
        have hp7 : (p : Int) ≤ 8 := by omega
        have hcK := (hk.cell K).symm.trans hck
        have hgBH := Lib.hid hgB
        have hbt2H := Lib.hid hbt2
        clear hmt hK hp hb hso hlt hj hgB hbt2 hbtm hw1 hw2 hpp hp8 hKn hbt hbelow
        obtain ⟨w2, hw2⟩ : ∃ w2, wr.drew = w2 := ⟨_, rfl⟩
        have hk2 : Blk w2 g 5 cs := by rw [← hw2]; exact hk
        have hB2 : Below w.heap.size w w2 := by rw [← hw2]; exact hB.drew
        have hck2 := (hk2.cell K).trans hcK
        have hfk2 := hk2.frozen K
        go_wp2_with fail
        refine wp_region_still_tail 14 (by kernel_rfl) (by decide +kernel) ?_
        simp only [List.take_succ_cons, List.take_zero, List.drop_succ_cons, List.drop_zero]
        change wpStill _ _ wr.drew _ _ _
        rw [hw2]
        clear hk hB hck hfk
        repeat still_step
        refine wpStill_nil ?_
        change wpList _ _ _ _ _ wr.drew
        rw [hw2]
        clear hw2
        go_wp2
        rw [huH.out]
        exact ⟨⟨j + 1, zs.set K u, cs.set K (.int .u8 u), by have := hltH.out; omega, by congr 1, hnew.out.1, hnew.out.2.1, hmtH.out, hk2.set K _, hnew.out.2.2, hB2.setCell (p := ⟨g, K, none⟩) hgBH.out.1 _⟩, by simp only [intOf]; have := hltH.out; omega⟩
      · have hob : ¬ (y / 2 ^ j).tmod 2 = 1 := by rw [Int.tmod_eq_emod_of_nonneg (Int.ediv_nonneg y0 (Int.le_of_lt (Int.pow_pos (by decide))))]; exact fun h => hb (hso.1 h)
        have hobB : ((y / 2 ^ j).tmod 2 == 1) = false := beq_false_of_ne hob
        have hbelow : below Y (j + 1) = below Y j := by rw [below, if_neg hb, BitVec.xor_zero]
        have hzm2 := Lib.hid (show more T (bvs zs) = more T (bvs xs) ^^^ mvn (8 * n - bt) (below Y (j + 1)) by rw [hbelow]; exact hzm)
        have hkeep := Lib.hid (And.intro hzl (And.intro hzr (And.intro hk (And.intro hat hB))))
        have hbt2H := Lib.hid hbt2
        clear hbelow hzm hzl hzr hk hat hB hlt hj hb hso hbt2 hbtm hw1 hw2 hbt
        go_wp2
        exact ⟨⟨j + 1, zs, cs, by have := hltH.out; omega, by congr 1, hkeep.out.1, hkeep.out.2.1, hzm2.out, hkeep.out.2.2.1, hkeep.out.2.2.2.1, hkeep.out.2.2.2.2⟩, by simp only [intOf]; have := hltH.out; omega⟩
    · obtain rfl : j = 32 := by omega
      have hji : ¬ ((32 : Nat) : Int) < 32 := by omega
      have hn500 : n ≤ 500 := by have := hnH.out; omega
      rw [below_all] at hzm
      rw [← hT] at hzm
      have hne := turned_ne hzm hY0
      have hIz : Ints .u8 wr (some ⟨g, 0, none⟩) n oc zs := ⟨hzl, hgB.2, .inr ⟨g, 0, rfl, fun i hi => by rw [Nat.zero_add, hk.cell]; exact hat i hi⟩⟩
      have hIx := hI.keep hB
      have c1 := Lib.hid (sum_one' (T := 26) CP hG hB (some ⟨g, 0, none⟩) n oc zs hIz hzr hn500)
      have c2 := Lib.hid (fun w' (h : Below wr.heap.size wr w') => sum_one' (T := 26) CP hG (hB.trans (h.mono hB.size)) a n c xs (hIx.keep h) hr hn500)
      have c3 := Lib.hid (fun w' (h : Below wr.heap.size wr w') => sum_one' (T := 26) CP hG (hB.trans (h.mono hB.size)) (some ⟨g, 0, none⟩) n oc zs (hIz.keep h) hzr hn500)
      have c4 := Lib.hid (fun w' (h : Below wr.heap.size wr w') => rOf_any (some ⟨g, 0, none⟩) n oc zs w' (hIz.keep h) hzr (by omega))
      have c5 := Lib.hid (fun w' (h : Below wr.heap.size wr w') => alive11_any CP w' (CP.gl_keep hG ((hB.trans (h.mono hB.size)).mono (CP.gl_le hG))))
      obtain ⟨z1, hz1'⟩ : ∃ z1, nv (crcOf 0#32 (bvs zs)) = z1 := ⟨_, rfl⟩
      obtain ⟨z2, hz2'⟩ : ∃ z2, nv (crcOf 0#32 (bvs xs)) = z2 := ⟨_, rfl⟩
      rw [hz1', hz2'] at hne
      rw [hz1'] at c1 c3 c4
      rw [hz2'] at c2
      have hBH := Lib.hid hB
      clear hlt hj hzm hIz hIx hk hat hzl hzr hB hz1' hz2' hbt2 hbtm hw1 hw2 hbt hT
      go_wp2_with fail
      refine c1.out.mono ?_
      rintro q w3 ⟨rfl, b3⟩
      go_wp2_with fail
      refine (c2.out w3 b3).mono ?_
      rintro q w4 ⟨rfl, b4⟩
      have b4' := b3.trans (b4.mono b3.size)
      clear b3 b4
      go_wp2_with fail
      refine (c3.out w4 b4').mono ?_
      rintro q w5 ⟨rfl, b5⟩
      have b5' := b4'.trans (b5.mono b4'.size)
      clear b4' b5
      go_wp2_with fail
      refine (c4.out w5 b5').mono ?_
      rintro q w6 ⟨rfl, rfl⟩
      go_wp2_with fail
      refine (c5.out w5 b5').mono ?_
      rintro q w7 ⟨rfl, b7⟩
      have b7' := b5'.trans (b7.mono b5'.size)
      clear b5' b7
      go_wp2
      go_ret
      refine ⟨?_, hBH.out.trans (b7'.mono hBH.out.size)⟩
      show Ending.returned (.bool (z1 != z2)) = _
      rw [bne_iff_ne.2 hne]
end Go.Proofs.YtlningdlddnnkaaDoor
