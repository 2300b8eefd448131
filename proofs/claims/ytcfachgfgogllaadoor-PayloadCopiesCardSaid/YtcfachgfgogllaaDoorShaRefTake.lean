/-
  What the document's own taking in of a piece comes to. Conditions: the piece has 64 bytes, each a number from 0 to 255; each word of the state is a number from 0 to 2^32 - 1.
-/
import Derived.Test.YtcfachgfgogllaaDoorShaRefs
import Derived.Test.YtcfachgfgogllaaDoorShaSums
import Derived.Test.YtcfachgfgogllaaDoorWordRefWords
import Derived.Test.YtcfachgfgogllaaDoorAppends2
namespace Go.Proofs.YtcfachgfgogllaaDoor
open Go.RowKit

theorem choose_xor (x y z : Int) : bits .xor .u32 (bits .and .u32 x y) (bits .and .u32 (bits .xor .u32 4294967295 x) z) = choose x y z := by
  rw [not_nv, bits_and, bits_and, bits_xor, bv_nv, bv_nv, bv_nv]
  unfold choose; congr 1
  apply BitVec.eq_of_getLsbD_eq; intro i hi
  simp only [BitVec.getLsbD_or, BitVec.getLsbD_xor, BitVec.getLsbD_and, BitVec.getLsbD_not, hi]
  cases (bv x).getLsbD i <;> cases (bv y).getLsbD i <;> cases (bv z).getLsbD i <;> rfl
theorem major_xor (x y z : Int) : bits .xor .u32 (bits .xor .u32 (bits .and .u32 x y) (bits .and .u32 x z)) (bits .and .u32 y z) = major x y z := by
  rw [bits_and, bits_and, bits_and, bits_xor, bits_xor, bv_nv, bv_nv, bv_nv, bv_nv]
  unfold major; congr 1
  apply BitVec.eq_of_getLsbD_eq; intro i hi
  simp only [BitVec.getLsbD_or, BitVec.getLsbD_xor, BitVec.getLsbD_and]
  cases (bv x).getLsbD i <;> cases (bv y).getLsbD i <;> cases (bv z).getLsbD i <;> rfl
theorem Draws.cell {w w' : World} (h : Draws w w') (p : Addr) : w'.cell? p = w.cell? p := World.cell?_of_block (w := w) (by rw [h.heap])
theorem draws3 (w : World) (a b c : Nat) : Draws w (((w.drewN a).drewN b).drewN c) := ⟨a + b + c, by rw [World.drewN_drewN, World.drewN_drewN, Nat.add_assoc]⟩

theorem own_all (w : World) (base : Nat) (t : TypeId) (cs : List Value) (n : Nat) (hn : cs.length = n) (hb : base ≤ w.heap.size) (hm : n ≤ maxLen) : (w.alloc (.cells cs.toArray t)).ownsRow base t 1 (.slice (some ⟨w.heap.size, 0, none⟩) n n) n cs := by
  subst hn
  exact ⟨by simp, .inr ⟨_, cs.length, cs.toArray, rfl, hb, heap_alloc_new w _, Nat.le_refl _, hm, by simp, by simp⟩⟩
/-- Eight sums, of which the first t are laid. -/
def mix8 (S V : S8) (t : Nat) : List Value := ((add8 S V).list.map (Value.int .u32)).take t ++ (V.list.map (Value.int .u32)).drop t
theorem mix8_at (S V : S8) (t : Nat) (h : t < 8) : (mix8 S V t)[t]? = some (.int .u32 (V.list.getD t 0)) := by
  unfold mix8
  rw [List.getElem?_append_right (by rw [List.length_take]; omega), List.length_take, show ((add8 S V).list.map (Value.int .u32)).length = 8 from rfl, Nat.min_eq_left (by omega), Nat.sub_self, List.getElem?_drop, Nat.add_zero]
  exact getElem?_mapInt _ _ _ h
theorem add8_at (S V : S8) (t : Nat) (h : t < 8) : (add8 S V).list.getD t 0 = (V.list.getD t 0 + S.list.getD t 0) % 4294967296 := by
  rcases (show t = 0 ∨ t = 1 ∨ t = 2 ∨ t = 3 ∨ t = 4 ∨ t = 5 ∨ t = 6 ∨ t = 7 from by omega) with rfl | rfl | rfl | rfl | rfl | rfl | rfl | rfl <;> (simp only [add8, S8.list, List.getD_cons_zero, List.getD_cons_succ]; rw [Int.add_comm])
theorem mix8_set (S V : S8) (t : Nat) (h : t < 8) : (mix8 S V t).set t (.int .u32 ((V.list.getD t 0 + S.list.getD t 0) % 4294967296)) = mix8 S V (t + 1) := by
  rw [← add8_at S V t h]
  unfold mix8
  have hl : ((add8 S V).list.map (Value.int .u32)).length = 8 := rfl
  have hv : (V.list.map (Value.int .u32)).length = 8 := rfl
  rw [List.set_append_right _ _ (by rw [List.length_take]; omega), List.length_take, hl, Nat.min_eq_left (by omega), Nat.sub_self]
  rw [List.drop_eq_getElem_cons (by omega), List.set_cons_zero, List.take_succ_eq_append_getElem (by omega), List.append_assoc]
  congr 1
  have := getElem?_mapInt .u32 (add8 S V).list t h
  rw [List.getElem?_eq_getElem (by omega)] at this
  injection this with this
  rw [this]; rfl
/-- The rest of the schedule: words laid behind words, from 16 to 64. -/
def wd4' (a b c d : Int) : Int := (ssig1 a + b + ssig0 c + d) % 4294967296

theorem refTurn_i (a i : Int) (w : World) (h0 : 0 ≤ a) (h1 : a < 4294967296) (k0 : 0 < i) (hk : i < 32) :
    Calls Tryd.prog 63 #[.int .u32 a, .int .i64 i] w fun e w' => e = .returned (.int .u32 (rotr a i)) ∧ ∃ n, w' = w.drewN n := by
  obtain ⟨k, rfl⟩ := Int.eq_ofNat_of_zero_le (Int.le_of_lt k0)
  exact refTurn_any a k w h0 h1 (by omega) (by omega)

set_option maxRecDepth 100000 in
set_option maxHeartbeats 3200000 in
theorem refTake_any (S : S8) (a : Option Addr) (ca : Nat) (b : Option Addr) (cb : Nat) (bs : List Int) (w : World) (hS : S.ok) (hs : Ints .u32 w a 8 ca S.list) (h : Ints .u8 w b 64 cb bs) (hx : ∀ x ∈ bs, 0 ≤ x ∧ x < 256) :
    Calls Tryd.prog 53 #[.slice a 8 ca, .slice b 64 cb] w fun e w' => ∃ b' c', e = .returned (.slice b' 8 c') ∧ Ints .u32 w' b' 8 c' (take8 S bs).list ∧ Below w.heap.size w w' := by
  obtain ⟨i0, hi, hz0, hz1, hz2⟩ := info_parts infoU32
  have h16 := Lib.hid (wordsOf_len16 bs h.len)
  have hwr := wordsOf_range bs hx
  go_enter Tryd.func53, Tryd.ntmps53
  go_wp2_with fail
  refine (refWords_own _ _ _ bs _ h hx (by omega) (by omega)).mono ?_
  rintro e w1 ⟨b1, m1, c1, rfl, X1, hown, hb1⟩
  have hm1 : m1 = 16 := by rw [← X1.len, h16.out]
  subst hm1
  clear X1
  go_wp2_with fail
  go_loopw [5, 7] (fun v i wr => ∃ j : Nat, 16 ≤ j ∧ j ≤ 64 ∧ i = .int .i64 j ∧ wr.ownsRow w.heap.size 39 1 v j ((sch (wordsOf bs) (j - 16)).map (Value.int .u32)) ∧ Below w.heap.size w wr) (fun _ i _ => 64 - (intOf i).toNat)
  case atStart => exact ⟨16, by omega, by omega, rfl, hown, hb1⟩
  case round =>
    obtain ⟨j, hj16, hj, rfl, hown, hb⟩ := hrel
    by_cases hlt : j < 64
    · have hlen := sch_length (wordsOf bs) h16.out (j - 16)
      have hrng := sch_range (wordsOf bs) hwr (j - 16)
      obtain ⟨vb, vc, rfl, hI⟩ := Ints.of_owns hown
      obtain ⟨g, off, rfl, hc⟩ := hI.at (by omega)
      have hcell : ∀ i, i < j → wr.cell? ⟨g, off + i, none⟩ = some (.int .u32 ((sch (wordsOf bs) (j - 16)).getD i 0)) := hc
      have hc2 := hcell (j - 2) (by omega)
      have hc7 := hcell (j - 7) (by omega)
      have hc15 := hcell (j - 15) (by omega)
      have hc16 := hcell (j - 16) (by omega)
      have r2 := getD_range hrng (j - 2) (by omega)
      have r7 := getD_range hrng (j - 7) (by omega)
      have r15 := getD_range hrng (j - 15) (by omega)
      have r16 := getD_range hrng (j - 16) (by omega)
      have SN := Lib.hid (show sch (wordsOf bs) (j + 1 - 16) = sch (wordsOf bs) (j - 16) ++ [wd (sch (wordsOf bs) (j - 16)) j] by
        rw [show j + 1 - 16 = (j - 16) + 1 from by omega]; show _ ++ [wd _ (16 + (j - 16))] = _; rw [show 16 + (j - 16) = j from by omega])
      obtain ⟨x2, e2⟩ : ∃ x, x = (sch (wordsOf bs) (j - 16)).getD (j - 2) 0 := ⟨_, rfl⟩
      obtain ⟨x7, e7⟩ : ∃ x, x = (sch (wordsOf bs) (j - 16)).getD (j - 7) 0 := ⟨_, rfl⟩
      obtain ⟨x15, e15⟩ : ∃ x, x = (sch (wordsOf bs) (j - 16)).getD (j - 15) 0 := ⟨_, rfl⟩
      obtain ⟨x16, e16⟩ : ∃ x, x = (sch (wordsOf bs) (j - 16)).getD (j - 16) 0 := ⟨_, rfl⟩
      have WD := Lib.hid (show wd (sch (wordsOf bs) (j - 16)) j = wd4' x2 x7 x15 x16 by rw [e2, e7, e15, e16]; rfl)
      rw [← e2] at hc2 r2; rw [← e7] at hc7 r7; rw [← e15] at hc15 r15; rw [← e16] at hc16 r16
      clear e2 e7 e15 e16 hcell hrng hlen hc hI
      obtain ⟨p2, q2⟩ := r2
      obtain ⟨p7, q7⟩ := r7
      obtain ⟨p15, q15⟩ := r15
      obtain ⟨p16, q16⟩ := r16
      have ij : (0 : Int) ≤ (j : Int) := Int.natCast_nonneg _
      have ijl : (j : Int) < 64 := by omega
      have g2 : (2 : Int) ≤ (j : Int) := by omega
      have g7 : (7 : Int) ≤ (j : Int) := by omega
      have g15 : (15 : Int) ≤ (j : Int) := by omega
      have g16 : (16 : Int) ≤ (j : Int) := by omega
      have n2 : ((j : Int) - 2).toNat = j - 2 := by omega
      have n15 : ((j : Int) - 15).toNat = j - 15 := by omega
      go_wp2_with (go_at_call 63; refine (refTurn_i _ _ _ (by assumption) (by assumption) (by decide) (by decide)).mono ?_; rintro e w' ⟨rfl, d1, rfl⟩)
      have n7 : ((j : Int) - 7).toNat = j - 7 := by omega
      have n16 : ((j : Int) - 16).toNat = j - 16 := by omega
      have w7' : IntKind.i64.wrap ((j : Int) - 7) = (j : Int) - 7 := IntWalk.i64_in _ (by omega)
      have w16' : IntKind.i64.wrap ((j : Int) - 16) = (j : Int) - 16 := IntWalk.i64_in _ (by omega)
      have l7b : (j : Int) - 7 < (j : Int) := by omega
      have l16b : (j : Int) - 16 < (j : Int) := by omega
      obtain ⟨y1, ey1⟩ : ∃ y, y = ssig1 x2 := ⟨_, rfl⟩
      obtain ⟨y0, ey0⟩ : ∃ y, y = ssig0 x15 := ⟨_, rfl⟩
      rw [show bits .xor .u32 (bits .xor .u32 (rotr x2 17) (rotr x2 19)) (x2 / 1024) = y1 from ey1.symm, show bits .xor .u32 (bits .xor .u32 (rotr x15 7) (rotr x15 18)) (x15 / 8) = y0 from ey0.symm]
      have WD' := Lib.hid (show wd4' x2 x7 x15 x16 = (y1 + x7 + y0 + x16) % 4294967296 by rw [ey1, ey0]; rfl)
      clear ey1 ey0 hc2 hc15 p2 q2 p15 q15 n2 n15 g2 g15
      have hval : IntKind.u32.wrap (IntKind.u32.wrap (IntKind.u32.wrap (y1 + x7) + y0) + x16) = (y1 + x7 + y0 + x16) % 4294967296 := by
        rw [IntKind.wrap_u32, IntKind.wrap_u32, IntKind.wrap_u32]; omega
      have HVAL := Lib.hid hval
      have HOWN := Lib.hid hown
      have hcap : (j + 1) * 4 ≤ 140737488355328 := by omega
      have hbs := hb.size
      clear hval hown
      go_region_law ((refine step_append_one (v := .slice (some ⟨g, off, none⟩) j vc) (n := j) (xs := (sch (wordsOf bs) (j - 16)).map (Value.int .u32)) (B := wr.heap.size) (k := .u32) (y := IntKind.u32.wrap (IntKind.u32.wrap (IntKind.u32.wrap (y1 + x7) + y0) + x16)) rfl (.tmp 57) (.tmp 73) 85 rfl w.heap.size 39 i0 (.int .u32 0) 4 Tryd.underlying85 hi hz0 hz1 hz2 rfl rfl ?_ rfl ?_ ?_ hcap ?_ ?_; exact (own_drewN HOWN.out _).alloc _; exact new_cell' _ _ _ _; (unfold maxLen; omega); (simp; omega); intro v' w5 hown5 hg5))
      all_goals
        rw [HVAL.out] at hown5
        have hown6 : w5.ownsRow w.heap.size 39 1 v' (j + 1) ((sch (wordsOf bs) (j + 1 - 16)).map (Value.int .u32)) := by
          rw [SN.out, List.map_append, WD.out, WD'.out]; exact hown5
        have hb5 : Below w.heap.size w w5 := ((below_drewN hb _).alloc (by simpa using hbs) _).grown hg5 (by simp; omega) (fun q hq => (HOWN.out.lt q hq).1)
        clear hown5 hg5 n7 n16 w7' w16' l7b l16b
        go_wp2
        go_roundw
        case rel => exact ⟨j + 1, by omega, by omega, by go_num, hown6, hb5⟩
        case measure => simp [intOf]; omega
    · have hje : j = 64 := by omega
      have hge : (64 : Int) ≤ (j : Int) := by omega
      rw [show (sch (wordsOf bs) (j - 16)) = sch (wordsOf bs) 48 from by rw [hje]] at hown
      obtain ⟨W, hW⟩ : ∃ W, W = sch (wordsOf bs) 48 := ⟨_, rfl⟩
      have hrW : ∀ x ∈ W, 0 ≤ x ∧ x < 4294967296 := by rw [hW]; exact sch_range _ hwr 48
      have HLW := Lib.hid (show W.length = 64 by rw [hW, sch_length _ h16.out])
      rw [← hW] at hown
      have HW := Lib.hid hW
      clear hW
      obtain ⟨vb, vc, rfl, hI⟩ := Ints.of_owns hown
      obtain ⟨wg, woff, rfl, -⟩ := hI.at (by omega)
      have JE := Lib.hid hje
      clear hje hown
      go_wp2_with fail
      refine (refConstants_any _).mono ?_
      rintro e w5 ⟨kb, km, kc, rfl, hK, hb5⟩
      have hkm : km = 64 := by rw [← hK.len, kW_length]
      subst hkm
      obtain ⟨kg, koff, rfl, -⟩ := hK.at (by omega)
      have hI5 := hI.keep hb5
      have hs5 := hs.keep (hb.trans (hb5.mono hb.size))
      have hb05 : Below w.heap.size w w5 := hb.trans (hb5.mono hb.size)
      clear hI hb hb5 hb1
      have e0 : ((w5.alloc (.cells #[] 39))).ownsRow w.heap.size 39 1 (.slice (some ⟨w5.heap.size, 0, none⟩) 0 0) 0 [] := World.ownsRow_made w5 #[] 0 hb05.size (Nat.zero_le _) (by simp)
      have hs6 := hs5.keep (below1 w5 (.cells #[] 39))
      have hbA : Below w.heap.size w (w5.alloc (.cells #[] 39)) := hb05.alloc hb05.size _
      go_wp2_with (at_builtin; refine wpList_append_ints (v := .slice (some ⟨w5.heap.size, 0, none⟩) 0 0) rfl (.tmp 76) (.tmp 77) 85 rfl w.heap.size 39 i0 (.int .u32 0) 4 Tryd.underlying85 hi hz0 hz1 hz2 rfl rfl e0 rfl hs6 ?_ ?_ hbA.size ?_; (unfold maxLen; omega); omega; intro v' w6 hown6 hg6)
      have hb56 : Below w5.heap.size w5 w6 := (below1 w5 _).grown hg6 (by rw [size1]; omega) (fun q hq => by simp [Value.ownBlock] at hq; omega)
      have hI6 := hI5.keep hb56
      have hK6 := hK.keep hb56
      have hs7 := hs5.keep hb56
      have hb06 : Below w.heap.size w w6 := hb05.trans (hb56.mono hb05.size)
      rw [List.nil_append, Nat.zero_add] at hown6
      clear hI5 hK hs5 hb56 hb05 e0 hs6 hbA hg6
      go_wp2_with fail
      go_loopw [13, 14] (fun v i wr => ∃ k : Nat, k ≤ 64 ∧ i = .int .i64 k ∧ wr.ownsRow w.heap.size 39 1 v 8 ((rnds S W k).list.map (Value.int .u32)) ∧ Below w6.heap.size w6 wr) (fun _ i _ => 64 - (intOf i).toNat)
      case atStart => exact ⟨0, Nat.zero_le _, rfl, hown6, Below.refl _ _⟩
      case round =>
        obtain ⟨k, hk, rfl, hown, hb⟩ := hrel
        clear hown6
        have okk := rnds_ok hS W k
        obtain ⟨A, B, C, D, E, F, G, H, hR⟩ : ∃ A B C D E F G H, rnds S W k = ⟨A, B, C, D, E, F, G, H⟩ := ⟨_, _, _, _, _, _, _, _, rfl⟩
        rw [hR] at okk hown
        have HR := Lib.hid hR
        clear hR
        unfold S8.ok at okk
        dsimp only at okk
        obtain ⟨⟨a0, a1⟩, ⟨b0, b1'⟩, ⟨c0, c1'⟩, ⟨d0, d1⟩, ⟨e0, e1⟩, ⟨f0, f1⟩, ⟨g0, g1⟩, ⟨h0, h1⟩⟩ := okk
        obtain ⟨vg, vc', rfl, hvg, -⟩ := hown.form (by omega)
        have v0 : wr.cell? ⟨vg, 0, none⟩ = some (.int .u32 A) := hown.cellAt 0 (by omega)
        have v1 : wr.cell? ⟨vg, 1, none⟩ = some (.int .u32 B) := hown.cellAt 1 (by omega)
        have v2 : wr.cell? ⟨vg, 2, none⟩ = some (.int .u32 C) := hown.cellAt 2 (by omega)
        have v3 : wr.cell? ⟨vg, 3, none⟩ = some (.int .u32 D) := hown.cellAt 3 (by omega)
        have v4 : wr.cell? ⟨vg, 4, none⟩ = some (.int .u32 E) := hown.cellAt 4 (by omega)
        have v5 : wr.cell? ⟨vg, 5, none⟩ = some (.int .u32 F) := hown.cellAt 5 (by omega)
        have v6 : wr.cell? ⟨vg, 6, none⟩ = some (.int .u32 G) := hown.cellAt 6 (by omega)
        have v7 : wr.cell? ⟨vg, 7, none⟩ = some (.int .u32 H) := hown.cellAt 7 (by omega)
        by_cases hlt : k < 64
        · obtain ⟨x, ex⟩ : ∃ x, x = kW.getD k 0 := ⟨_, rfl⟩
          obtain ⟨y, ey⟩ : ∃ y, y = W.getD k 0 := ⟨_, rfl⟩
          have hck := (hK6.keep hb).cellOf k hlt
          have hcw := (hI6.keep hb).cellOf k (by have := JE.out; omega)
          rw [← ex] at hck
          rw [← ey] at hcw
          obtain ⟨x0, x1⟩ : 0 ≤ x ∧ x < 4294967296 := by rw [ex]; exact getD_range kW_range k (by rw [kW_length]; exact hlt)
          obtain ⟨y0, y1⟩ : 0 ≤ y ∧ y < 4294967296 := by rw [ey]; exact getD_range hrW k (by rw [HLW.out]; omega)
          have SN := Lib.hid (show rnds S W (k + 1) = rnd ⟨A, B, C, D, E, F, G, H⟩ x y by rw [ex, ey, ← HR.out]; rfl)
          clear ex ey HR hown
          have hkj : (k : Int) < (j : Int) := by omega
          go_wp2_with (go_at_call 63; refine (refTurn_i _ _ _ (by assumption) (by assumption) (by decide) (by decide)).mono ?_; rintro e w' ⟨rfl, d1, rfl⟩)
          obtain ⟨sE, eE⟩ : ∃ z, z = bsig1 E := ⟨_, rfl⟩
          obtain ⟨sA, eA⟩ : ∃ z, z = bsig0 A := ⟨_, rfl⟩
          rw [show bits .xor .u32 (bits .xor .u32 (rotr E 6) (rotr E 11)) (rotr E 25) = sE from eE.symm, show bits .xor .u32 (bits .xor .u32 (rotr A 2) (rotr A 13)) (rotr A 22) = sA from eA.symm]
          have HE := Lib.hid eE
          have HA := Lib.hid eA
          clear eE eA
          have CX := Lib.hid (choose_xor E F G)
          have MX := Lib.hid (major_xor A B C)
          go_quiet (fail)
          go_wp2_with fail
          go_quiet (fail)
          go_wp2_with fail
          rw [CX.out, MX.out]
          obtain ⟨t1, et1⟩ : ∃ t, t = (((H + sE + choose E F G + x) % 4294967296 + y) % 4294967296) := ⟨_, rfl⟩
          obtain ⟨t2, et2⟩ : ∃ t, t = ((sA + major A B C) % 4294967296) := ⟨_, rfl⟩
          rw [← et1, ← et2]
          have T1 : t1 = tOne ⟨A, B, C, D, E, F, G, H⟩ x y := by rw [et1, HE.out]; unfold tOne; dsimp only; omega
          have T2 : t2 = tTwo ⟨A, B, C, D, E, F, G, H⟩ := by rw [et2, HA.out]; rfl
          have HT1 := Lib.hid T1
          have HT2 := Lib.hid T2
          clear et1 et2 T1 T2
          generalize hwq : World.drewN (World.drewN (World.drewN wr _) _) _ = wq
          have hD : Draws wr wq := by rw [← hwq]; exact draws3 _ _ _ _
          rw [← hD.cell] at v0 v1 v2 v3 v4 v5 v6 v7
          have hbq : Below w6.heap.size w6 wq := hb.trans (hD.below _)
          clear hwq hck hcw
          refine wp_region_still_tail 22 (by kernel_rfl) (by kernel_rfl) ?_
          simp only [List.take_succ_cons, List.take_zero, List.drop_succ_cons, List.drop_zero]
          repeat still_step
          refine wpStill_nil ?_
          change wpList _ _ _ _ _ wq.drew
          go_wp2_with fail
          go_roundw
          case rel =>
            refine ⟨k + 1, by omega, by go_num, ?_, ?_⟩
            · have hL : (rnds S W (k + 1)).list.map (Value.int .u32) = [.int .u32 ((t1 + t2) % 4294967296), .int .u32 A, .int .u32 B, .int .u32 C, .int .u32 ((D + t1) % 4294967296), .int .u32 E, .int .u32 F, .int .u32 G] := by
                rw [SN.out]; unfold rnd; rw [← HT1.out, ← HT2.out]; rfl
              rw [hL]
              exact own_drew (own_all wq w.heap.size 39 [.int .u32 ((t1 + t2) % 4294967296), .int .u32 A, .int .u32 B, .int .u32 C, .int .u32 ((D + t1) % 4294967296), .int .u32 E, .int .u32 F, .int .u32 G] 8 rfl (Nat.le_trans hb06.size hbq.size) (by unfold maxLen; omega))
            · exact (hbq.alloc hbq.size _).drew
          case measure => simp [intOf]; omega
        · have hk64 : k = 64 := by omega
          have hkge : (64 : Int) ≤ (k : Int) := by omega
          have FIN := Lib.hid (show take8 S bs = add8 S ⟨A, B, C, D, E, F, G, H⟩ by
            unfold take8; rw [← HW.out, ← HR.out, hk64])
          clear hk64 HR v0 v1 v2 v3 v4 v5 v6 v7
          have hbw : Below w.heap.size w wr := hb06.trans (hb.mono hb06.size)
          go_wp2_with fail
          go_loopw [21] (fun i wx => ∃ t : Nat, t ≤ 8 ∧ i = .int .i64 t ∧ wx.ownsRow w.heap.size 39 1 (.slice (some ⟨vg, 0, none⟩) 8 vc') 8 (mix8 S ⟨A, B, C, D, E, F, G, H⟩ t) ∧ Below w.heap.size w wx) (fun i _ => 8 - (intOf i).toNat)
          case atStart => exact ⟨0, Nat.zero_le _, rfl, hown, hbw⟩
          case round =>
            obtain ⟨t, ht, rfl, hownx, hbx⟩ := hrel
            clear hown hbw
            by_cases htl : t < 8
            · have sx := (hs.keep hbx)
              obtain ⟨sg, soff, rfl, -⟩ := hs.at (by omega)
              have cs := sx.cellOf t htl
              have cv := hownx.cellAt t (by omega)
              rw [mix8_at _ _ _ htl] at cv
              obtain ⟨p, hp⟩ : ∃ p, p = S.list.getD t 0 := ⟨_, rfl⟩
              obtain ⟨q, hq⟩ : ∃ q, q = (S8.list ⟨A, B, C, D, E, F, G, H⟩).getD t 0 := ⟨_, rfl⟩
              rw [← hp] at cs
              rw [← hq] at cv
              have fv : wr.frozen? ⟨vg, t, none⟩ = false := by
                rcases hownx.2 with ⟨hn, _⟩ | ⟨g', c', cur, hv, _, hg', _⟩
                · cases hn
                · injection hv with hv _ _
                  injection hv with hv
                  injection hv with hv
                  subst hv
                  exact frozen_of_row _ _ _ _ _ hg'
              have SET := Lib.hid (mix8_set S ⟨A, B, C, D, E, F, G, H⟩ t htl)
              rw [← hp, ← hq] at SET
              clear hp hq
              have t0 : (0 : Int) ≤ (t : Int) := by omega
              have t8 : (t : Int) < 8 := by omega
              go_wp2_with fail
              refine wp_region_still_tail 12 (by kernel_rfl) (by kernel_rfl) ?_
              simp only [List.take_succ_cons, List.take_zero, List.drop_succ_cons, List.drop_zero]
              repeat still_step
              refine wpStill_nil ?_
              change wpList _ _ _ _ _ wr.drew
              go_wp2
              go_roundw
              case rel => exact ⟨t + 1, by omega, by go_num, own_drew (by rw [← SET.out]; exact (hownx.stored t _).1), (hbx.setCell hvg _).drew⟩
              case measure => simp [intOf]; omega
            · have hend := Lib.hid (show mix8 S ⟨A, B, C, D, E, F, G, H⟩ t = (take8 S bs).list.map (Value.int .u32) by
                rw [show t = 8 from by omega, FIN.out]; unfold mix8; rw [List.drop_of_length_le (Nat.le_refl 8), List.append_nil, List.take_of_length_le (Nat.le_refl 8)])
              have htge : (8 : Int) ≤ (t : Int) := by omega
              rw [hend.out] at hownx
              go_wp2
              go_ret
              obtain ⟨rb, rc, he, hr⟩ := Ints.of_owns hownx
              exact ⟨some ⟨vg, 0, none⟩, vc', rfl, by injection he with h1 h2 h3; rw [h1, h3]; exact hr, hbx⟩
end Go.Proofs.YtcfachgfgogllaaDoor
