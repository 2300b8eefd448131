/-
  A block encrypted by the document's own words. New memory alone is written.
-/
import Derived.Test.YtohobknianhplaaCipherRefXor
namespace Go.Proofs.Ytohobknianhplaa
open Go.RowKit

theorem enc_arith (c i m p q s n x : Nat) (hc : c < 4) (hi : i < 4) (hm : 4 * c = m) (hp : m + i = p) (hq : c + i = q) (hs : q % 4 = s) (hn : 4 * s = n) (hx : n + i = x) :
    IntKind.i64.wrap (4 * (c : Int)) = (m : Int) ∧ IntKind.i64.wrap ((m : Int) + (i : Int)) = (p : Int) ∧ IntKind.i64.wrap ((c : Int) + (i : Int)) = (q : Int) ∧ (q : Int).tmod 4 = (s : Int) ∧ IntKind.i64.wrap (4 * (s : Int)) = (n : Int) ∧ IntKind.i64.wrap ((n : Int) + (i : Int)) = (x : Int) ∧ (x : Int) < 16 ∧ (p : Int) < 16 := by
  have h4 : s < 4 := by rw [← hs]; exact Nat.mod_lt _ (by decide)
  refine ⟨by rw [IntKind.wrap_i64]; omega, by rw [IntKind.wrap_i64]; omega, by rw [IntKind.wrap_i64]; omega, ?_, by rw [IntKind.wrap_i64]; omega, by rw [IntKind.wrap_i64]; omega, by omega, by omega⟩
  exact (rem4 q s hs).1
theorem tIx_of (c i m p q s n x : Nat) (hi : i < 4) (hm : 4 * c = m) (hp : m + i = p) (hq : c + i = q) (hs : q % 4 = s) (hn : 4 * s = n) (hx : n + i = x) : tIx 1 p = x := by
  unfold tIx
  rw [show p / 4 = c by omega, show p % 4 = i by omega, Nat.mul_one, hq, hs]
  omega
theorem own_keep {w w' : World} {b : Nat} {e : TypeId} {size : Nat} {v : Value} {n : Nat} {xs : List Value} (h : w.ownsRow b e size v n xs) (hb : Below w.heap.size w w') : w'.ownsRow b e size v n xs :=
  h.kept (grown_of_below hb none) (by cases hv : v.ownBlock <;> simp)
theorem bytes_cut (n : Nat) (F : Nat → Nat) (s m : Nat) (h : s + m ≤ n) : ((bytesL n F).drop s).take m = bytesL m (fun i => F (s + i)) := by
  apply List.ext_getElem?
  intro i
  by_cases hi : i < m
  · rw [List.getElem?_take_of_lt hi, List.getElem?_drop]
    simp [bytesL, hi, show s + i < n by omega]
  · rw [List.getElem?_eq_none (by rw [List.length_take, List.length_drop, bytesL_len]; omega), List.getElem?_eq_none (by rw [bytesL_len]; omega)]
theorem rowN_add (n m : Nat) (f : Nat → Nat) : rowN (n + m) f = rowN n f ++ rowN m (fun i => f (n + i)) := by
  apply List.ext_getElem?
  intro i
  by_cases hi : i < n + m
  · rw [rowN_at (n + m) f i hi]
    by_cases hn : i < n
    · rw [List.getElem?_append_left (by rw [rowN_len]; exact hn), rowN_at n f i hn]
    · rw [List.getElem?_append_right (by rw [rowN_len]; omega), rowN_len, rowN_at m _ _ (by omega), show n + (i - n) = i by omega]
  · rw [List.getElem?_eq_none (by rw [rowN_len]; omega), List.getElem?_eq_none (by rw [List.length_append, rowN_len, rowN_len]; omega)]

set_option maxRecDepth 100000 in
set_option maxHeartbeats 2000000 in
theorem rEnc_any (wa : Option Addr) (wc tb toff tc : Nat) (W : Nat → Nat) (ba : Option Addr) (bc : Nat) (b : Nat → Nat) (w : World)
    (hW : Ints .u32 w wa 60 wc (wordsL 60 W 0)) (hwd : Wd W) (hT : Ints .u8 w (some ⟨tb, toff, none⟩) 256 tc (bytesL 256 sb)) (hb : Ints .u8 w ba 16 bc (bytesL 16 b)) (hby : By b) :
    Calls Try.prog 9 #[.agg #[.slice wa 60 wc, .slice (some ⟨tb, toff, none⟩) 256 tc], .slice ba 16 bc] w fun e w' => ∃ oa oc, e = .returned (.slice oa 16 oc) ∧ Ints .u8 w' oa 16 oc (bytesL 16 (enc (keyAt (kb W)) b)) ∧ Below w.heap.size w w' := by
  obtain ⟨i0, hi, hz0, hz1, hz2⟩ := info_parts infoU8
  obtain ⟨g, hg⟩ : ∃ g, w.heap.size = g := ⟨_, rfl⟩
  go_enter Try.func9, Try.ntmps9
  go_wp2_with fail
  have b1 := below1 w (.cells #[.slice wa 60 wc, .slice (some ⟨tb, toff, none⟩) 256 tc] 34)
  have hG0 := Blk.new w 34 [.slice wa 60 wc, .slice (some ⟨tb, toff, none⟩) 256 tc]
  obtain ⟨W0, hW0⟩ : ∃ W0, w.alloc (.cells #[.slice wa 60 wc, .slice (some ⟨tb, toff, none⟩) 256 tc] 34) = W0 := ⟨_, rfl⟩
  change Blk (w.alloc (.cells #[.slice wa 60 wc, .slice (some ⟨tb, toff, none⟩) 256 tc] 34)) _ _ _ at hG0
  rw [hW0] at b1 hG0 ⊢
  have hW1 := hW.keep b1
  have hT1 := hT.keep b1
  have hb1 := hb.keep b1
  rw [hg] at b1 hG0
  obtain ⟨B, hB⟩ : ∃ B, W0.heap.size = B := ⟨_, rfl⟩
  have hgB : g < B := by rw [← hB]; exact hG0.lt
  have WW := Lib.hid (fun w' (h : Below B W0 w') => (hW1.keep (by rw [hB]; exact h) : Ints .u32 w' wa 60 wc (wordsL 60 W 0)))
  have TT := Lib.hid (fun w' (h : Below B W0 w') => (hT1.keep (by rw [hB]; exact h) : Ints .u8 w' (some ⟨tb, toff, none⟩) 256 tc (bytesL 256 sb)))
  have GG := Lib.hid (fun w' (h : Below B W0 w') => (hG0.keep h hgB : Blk w' g 34 [.slice wa 60 wc, .slice (some ⟨tb, toff, none⟩) 256 tc]))
  have hB := Lib.hid hB
  have hgB := Lib.hid hgB
  have b1 := Lib.hid b1
  have hwd := Lib.hid hwd
  clear hW0 hW hT hb hW1 hT1 hG0
  refine (rXor_any wa wc (some ⟨tb, toff, none⟩) tc W 0 ba bc b W0 (WW.out W0 (Below.refl _ _)) hwd.out (by decide) hb1 hby).mono ?_
  rintro e w2 ⟨oa, oc, rfl, hO, h2⟩
  rw [hB.out] at h2
  clear hb1
  have hby := Lib.hid hby
  go_wp2
  go_loopw [1, 5] (fun o i wr => ∃ (r : Nat) (oa : Option Addr) (oc : Nat), 1 ≤ r ∧ r ≤ 15 ∧ i = .int .i64 r ∧ o = .slice oa 16 oc ∧ Ints .u8 wr oa 16 oc (bytesL 16 (encs (keyAt (kb W)) b (r - 1))) ∧ Below B W0 wr) (fun _ i _ => 15 - (intOf i).toNat)
  case atStart => exact ⟨1, oa, oc, by omega, by omega, rfl, rfl, hO, h2⟩
  case round =>
    clear hO h2
    obtain ⟨r, oa, oc, hr1, hk, rfl, rfl, hO, hBr⟩ := hrel
    by_cases hlt : r < 15
    · have hcb := encs_by (fun r => keyAt_by (kb_by W) r) hby.out (r - 1)
      obtain ⟨c, hc⟩ : ∃ c, encs (keyAt (kb W)) b (r - 1) = c := ⟨_, rfl⟩
      have hnx : encs (keyAt (kb W)) b r = rnd (keyAt (kb W)) r c := by
        obtain ⟨k, rfl⟩ : ∃ k, r = k + 1 := ⟨r - 1, by omega⟩
        rw [← hc]; rfl
      rw [hc] at hO hcb
      have hnx := Lib.hid hnx
      have hcb := Lib.hid hcb
      have hr1 := Lib.hid hr1
      have hlt' := Lib.hid hlt
      have hri : (r : Int) ≤ 14 := by omega
      clear hc hk hlt
      have hBs : B ≤ wr.heap.size := Nat.le_trans (by have := hB.out; omega) hBr.size
      go_wp2_with (at_make; refine wpList_make_two rfl _ _ 29 rfl wr.heap.size 5 i0 (.int .u8 0) Try.underlying29 hi hz0 hz1 rfl (n := 16) (C := 16) rfl rfl rfl rfl (Nat.le_refl _) ?_ ?_ (Nat.le_refl _) ?_; (rw [hz2]; decide); (unfold maxLen; decide); intro V hownV hkV hgV; refine RowKit.Hid.out ?_)
      refine Lib.hid ?_
      rw [rep_zero] at hkV
      have bV : Below wr.heap.size wr V := (Below.refl _ wr).grown hgV (Nat.le_refl _) (fun j hj => by cases hj)
      obtain ⟨S, hS⟩ : ∃ S, wr.heap.size = S := ⟨_, rfl⟩
      rw [hS] at hkV hBs ⊢
      obtain ⟨ob, ooff, rfl, _⟩ := hO.at (by decide)
      have hobl : ob < S := by rw [← hS]; exact World.block_lt_of_cell? wr _ (hO.cell_at 0 (by decide))
      have hO := hO.keep bV
      rw [hS] at bV
      have hSV : S < V.heap.size := hkV.lt
      have hBV := hBr.trans (bV.mono hBs)
      have OO := Lib.hid (fun w' (h : Below S V w') (i : Nat) (hi : i < 16) => show w'.cell? ⟨ob, ooff + i, none⟩ = some (.int .u8 (c i : Nat)) by
        have h1 := hO.cell_at i hi
        rw [bytesL_at 16 _ i hi] at h1
        exact (h.cell (p := ⟨ob, ooff + i, none⟩) hobl).trans h1)
      have BW := Lib.hid (fun w' (h : Below S V w') => hBV.trans (h.mono hBs))
      have T1 := Lib.hid (fun w' (h : Below S V w') (i : Nat) (hi : i < 256) => show w'.cell? ⟨tb, toff + i, none⟩ = some (.int .u8 (sb i : Nat)) by
        have h1 := (TT.out w' (hBV.trans (h.mono hBs))).cell_at i hi
        rw [bytesL_at 256 _ i hi] at h1
        exact h1)
      have G1 := Lib.hid (fun w' (h : Below S V w') => show w'.cell? ⟨g, 1, none⟩ = some (.slice (some ⟨tb, toff, none⟩) 256 tc) from (GG.out w' (hBV.trans (h.mono hBs))).cell 1)
      have hk0 : Blk V S 5 (rowN 16 (upto (4 * 0) (bTurn 1 (bSb sb c)) zf)) := by rw [upto_zero]; exact hkV
      have hBs' := Lib.hid hBs
      have hSV := Lib.hid hSV
      clear hownV hgV bV hkV hobl hO hBs hBr hBV
      go_wp2
      go_loopw [7] (fun i wr => ∃ k : Nat, k ≤ 4 ∧ i = .int .i64 k ∧ Blk wr S 5 (rowN 16 (upto (4 * k) (bTurn 1 (bSb sb c)) zf)) ∧ Below S V wr) (fun i _ => 4 - (intOf i).toNat)
      case atStart => exact ⟨0, by omega, rfl, hk0, Below.refl _ _⟩
      case round =>
        clear hk0
        obtain ⟨k, hk4, rfl, hx, hBc⟩ := hrel
        by_cases hlt4 : k < 4
        · have hki : (k : Int) < 4 := by omega
          have hk0 : Blk wr S 5 (rowN 16 (upto (4 * k + 0) (bTurn 1 (bSb sb c)) zf)) := hx
          have hlt4' := Lib.hid hlt4
          clear hx hk4
          obtain ⟨wq, rfl⟩ : ∃ wq : World, wq = wr := ⟨_, rfl⟩
          go_wp2
          go_loopw [8] (fun i wr => ∃ j : Nat, j ≤ 4 ∧ i = .int .i64 j ∧ Blk wr S 5 (rowN 16 (upto (4 * k + j) (bTurn 1 (bSb sb c)) zf)) ∧ Below S V wr) (fun i _ => 4 - (intOf i).toNat)
          case atStart => exact ⟨0, by omega, rfl, hk0, hBc⟩
          case round =>
            clear hk0 hBc
            obtain ⟨j, hj4, rfl, hx, hBc⟩ := hrel
            by_cases hltj : j < 4
            · obtain ⟨m, hm⟩ : ∃ m, 4 * k = m := ⟨_, rfl⟩
              obtain ⟨p, hp⟩ : ∃ p, m + j = p := ⟨_, rfl⟩
              obtain ⟨q, hq⟩ : ∃ q, k + j = q := ⟨_, rfl⟩
              obtain ⟨s, hs⟩ : ∃ s, q % 4 = s := ⟨_, rfl⟩
              obtain ⟨n, hn⟩ : ∃ n, 4 * s = n := ⟨_, rfl⟩
              obtain ⟨x, hxx⟩ : ∃ x, n + j = x := ⟨_, rfl⟩
              have htx := tIx_of k j m p q s n x hltj hm hp hq hs hn hxx
              have h4s : s < 4 := by rw [← hs]; exact Nat.mod_lt _ (by decide)
              have hxl : x < 16 := by omega
              have hpl : p < 16 := by have := hlt4'.out; omega
              obtain ⟨a1, a2, a3, a4, a5, a6, a7, a8⟩ := enc_arith k j m p q s n x hlt4'.out hltj hm hp hq hs hn hxx
              obtain ⟨v, hv, hD⟩ := Draws.one wr
              have hx := hD.blk hx
              have hBc := hBc.trans (hD.below S)
              have cb := OO.out v hBc x hxl
              obtain ⟨y, hy⟩ : ∃ y, c x = y := ⟨_, rfl⟩
              have hyl : y < 256 := by rw [← hy]; exact hcb.out x
              rw [hy] at cb
              have ct := T1.out v hBc y hyl
              have cg := G1.out v hBc
              obtain ⟨z, hz⟩ : ∃ z, sb y = z := ⟨_, rfl⟩
              rw [hz] at ct
              have hF : bTurn 1 (bSb sb c) p = z := by show sb (c (tIx 1 p)) = z; rw [htx, hy, hz]
              rw [show 4 * k + j = p by omega] at hx
              have cs := hx.cell p
              rw [rowN_at 16 _ p hpl] at cs
              have fs : v.frozen? ⟨S, p, none⟩ = false := Blk.frozen hx p
              have hset := hx.set p (.int .u8 (z : Nat))
              rw [rowN_set 16 _ _ _ hpl, upto_step _ _ _ _ hF] at hset
              have hpn : 4 * k + (j + 1) = p + 1 := by omega
              have hyi : (y : Int) < 256 := by omega
              have hji : (j : Int) < 4 := by omega
              have hset := Lib.hid hset
              have hpn := Lib.hid hpn
              have hltj' := Lib.hid hltj
              clear hm hp hq hs hn hxx htx h4s hxl hpl hy hyl hz hF hltj hj4
              go_wp2_with fail
              refine wp_region_still_tail 20 (by kernel_rfl) (by decide +kernel) ?_
              simp only [List.take_succ_cons, List.take_zero, List.drop_succ_cons, List.drop_zero]
              change wpStill _ _ wr.drew _ _ _
              rw [hv]
              repeat still_step
              refine wpStill_nil ?_
              change wpList _ _ _ _ _ wr.drew
              rw [hv]
              clear hv hD a1 a2 a3 a4 a5 a6 cb ct cg
              go_wp2
              go_roundw
              case rel => exact ⟨j + 1, by have := hltj'.out; omega, by go_num, by rw [hpn.out]; exact hset.out, hBc.setCell (p := ⟨S, p, none⟩) (Nat.le_refl S) _⟩
              case measure => have := hltj'.out; simp [intOf]; omega
            · obtain rfl : j = 4 := by omega
              go_wp2
              go_roundw
              case rel => exact ⟨k + 1, by have := hlt4'.out; omega, by go_num, hx, hBc⟩
              case measure => have := hlt4'.out; simp [intOf]; omega
        · obtain rfl : k = 4 := by omega
          rw [show ((4 : Nat) : Int) = 4 from rfl]
          have hx : Blk wr S 5 (rowN 16 (bTurn 1 (bSb sb c))) := hx.cast (rowN_congr (upto_all 16 _ zf))
          obtain ⟨F, hF⟩ : ∃ F, bTurn 1 (bSb sb c) = F := ⟨_, rfl⟩
          have hFb : By F := by rw [← hF]; exact bTurn_by (bSb_by sb_256)
          rw [hF] at hx
          have hnx : Hid (encs (keyAt (kb W)) b r = bAdd (mid r F) (keyAt (kb W) r)) := Lib.hid (by rw [← hF]; exact hnx.out)
          have hFb := Lib.hid hFb
          obtain ⟨V2, rfl⟩ : ∃ V2 : World, V2 = wr := ⟨_, rfl⟩
          have hBV2 := BW.out V2 hBc
          have hIF : Ints .u8 V2 (some ⟨S, 0, none⟩) 16 16 (bytesL 16 F) := by
            have := Ints.row (o := 0) (cap := 16) hx 16 (by decide) (by decide)
            rw [show (fun i => F (0 + i)) = F by funext i; rw [Nat.zero_add]] at this
            exact this
          have hsz : B ≤ V2.heap.size := Nat.le_trans (by have := hB.out; omega) hBV2.size
          clear hF hx OO T1 G1 BW hBc
          by_cases hl : r < 14
          · have hli : (r : Int) < 14 := by omega
            have hl := Lib.hid hl
            obtain ⟨E, hE⟩ : ∃ E, V2.heap.size = E := ⟨_, rfl⟩
            have II := Lib.hid (fun w' (h : Below E V2 w') => (hIF.keep (by rw [hE]; exact h) : Ints .u8 w' (some ⟨S, 0, none⟩) 16 16 (bytesL 16 F)))
            have BB := Lib.hid (fun w' (h : Below E V2 w') => hBV2.trans (h.mono (by rw [← hE]; exact hsz)))
            have hE := Lib.hid hE
            have hsz0 := Lib.hid hsz
            clear hIF hsz
            go_wp2
            go_loopw [9, 10] (fun o i wr => ∃ k : Nat, k ≤ 4 ∧ i = .int .i64 k ∧ wr.ownsRow E 5 1 o (4 * k) (rowN (4 * k) (bCols mixc F)) ∧ Below E V2 wr) (fun _ i _ => 4 - (intOf i).toNat)
            case atStart => exact ⟨0, by omega, rfl, World.ownsRow_nil _ _ _ _, Below.refl _ _⟩
            case round =>
              obtain ⟨k, hk4, rfl, hown, hBe⟩ := hrel
              by_cases hlt4 : k < 4
              · obtain ⟨m, hm⟩ : ∃ m, 4 * k = m := ⟨_, rfl⟩
                have m1 : (4 : Int) * (k : Int) = (m : Int) := by omega
                have m2 : wrap64 (m : Int) = (m : Int) := w64' _ (by omega) (by omega)
                have m3 : wrap64 ((m : Int) + 4) = (m : Int) + 4 := w64' _ (by omega) (by omega)
                have hml : m + 4 ≤ 16 := by omega
                have hcut := (II.out wr hBe).cut2 m (m + 4) (by omega) hml
                rw [Nat.add_sub_cancel_left, bytes_cut 16 F m 4 hml] at hcut
                rw [hm] at hown
                have hcol : Hid (rowN m (bCols mixc F) ++ (bytesL 4 (mixc (fun i => F (m + i)))).map (Value.int .u8) = rowN (m + 4) (bCols mixc F)) := Lib.hid (by
                  rw [bytesL_row, rowN_add]
                  congr 1
                  refine rowN_congr (fun i hi => ?_)
                  unfold bCols colOf
                  rw [show (m + i) / 4 = k by omega, show (m + i) % 4 = i by omega, hm])
                have hmn : 4 * (k + 1) = m + 4 := by omega
                have hmn := Lib.hid hmn
                have hml := Lib.hid hml
                have hlt4' := Lib.hid hlt4
                have hki : (k : Int) < 4 := by omega
                have hEs : E ≤ wr.heap.size := Nat.le_trans (by have := hE.out; omega) hBe.size
                have hEs := Lib.hid hEs
                clear hm hlt4 hk4
                go_wp2_with (refine wpList_cut2 rfl 29 5 (.tmp 54) (.tmp 56) (.tmp 59) rfl Try.underlying29 sizeU8' rfl (l := m) (h := m + 4) rfl rfl ?_ ?_ (Nat.le_add_right m 4) hml.out ?_; (first | rfl | omega); (first | rfl | omega); rw [Nat.add_sub_cancel_left])
                refine (rMix_any _ (16 - m) (fun i => F (m + i)) wr hcut (fun _ => hFb.out _)).mono ?_
                rintro e w5 ⟨b5, c5, rfl, hM, bM⟩
                have hown5 := own_keep hown bM
                have hB5 := hBe.trans (bM.mono hEs.out)
                have hE5 : E ≤ w5.heap.size := Nat.le_trans hEs.out bM.size
                clear bM hcut hown hBe m1 m2 m3
                go_wp2_with (at_builtin; refine wpList_append_ints rfl (.tmp 53) (.tmp 61) 29 rfl E 5 i0 (.int .u8 0) 1 Try.underlying29 hi hz0 hz1 hz2 rfl rfl hown5 rfl hM ?_ ?_ hE5 ?_; (have := hml.out; unfold maxLen; omega); (have := hml.out; omega); intro v6 w6 hown6 hg6; refine RowKit.Hid.out ?_)
                refine Lib.hid ?_
                rw [hcol.out] at hown6
                have hB6 := hB5.grown hg6 hE5 (fun j hj => (hown5.lt j hj).1)
                clear hown5 hM hg6 hB5 hcol
                go_wp2
                go_roundw
                case rel => exact ⟨k + 1, by have := hlt4'.out; omega, by go_num, by rw [hmn.out]; exact hown6, hB6⟩
                case measure => have := hlt4'.out; simp [intOf]; omega
              · obtain rfl : k = 4 := by omega
                obtain ⟨sa, sc, rfl, hIs⟩ := Ints.of_owns (xs := bytesL 16 (bCols mixc F)) (by rw [bytesL_row]; exact hown)
                have hFb : Hid (By (bCols mixc F)) := Lib.hid (bCols_by hFb.out (fun _ => mixc_by))
                have hBw := BB.out wr hBe
                have hsz : B ≤ wr.heap.size := Nat.le_trans (by have := hB.out; omega) hBw.size
                clear hown
                have gg := GG.out wr hBw
                have gc0 := gg.cell 0
                have gc1 := gg.cell 1
                simp only [List.getElem?_cons_zero, List.getElem?_cons_succ] at gc0 gc1
                clear gg
                go_wp2_with fail
                refine (rXor_any wa wc (some ⟨tb, toff, none⟩) tc W r sa sc (bCols mixc F) wr (WW.out wr hBw) hwd.out hlt'.out hIs hFb.out).mono ?_
                rintro e w9 ⟨oa9, oc9, rfl, hO9, b9⟩
                have hB9 := (hBw).trans (b9.mono hsz)
                have hE9 : bytesL 16 (bAdd (bCols mixc F) (keyAt (kb W) r)) = bytesL 16 (encs (keyAt (kb W)) b r) := by rw [hnx.out, mid, if_pos hl.out]
                rw [hE9] at hO9
                clear b9 gc0 gc1
                go_wp2
                go_roundw
                case rel => exact ⟨r + 1, oa9, oc9, by omega, by have := hlt'.out; omega, by go_num, rfl, by rw [Nat.add_sub_cancel]; exact hO9, hB9⟩
                case measure => have := hlt'.out; simp [intOf]; omega
          · have hli : ¬ (r : Int) < 14 := by omega
            have hl := Lib.hid hl
            have gg := GG.out V2 hBV2
            have gc0 := gg.cell 0
            have gc1 := gg.cell 1
            simp only [List.getElem?_cons_zero, List.getElem?_cons_succ] at gc0 gc1
            clear gg
            go_wp2_with fail
            refine (rXor_any wa wc (some ⟨tb, toff, none⟩) tc W r (some ⟨S, 0, none⟩) 16 (F) V2 (WW.out V2 hBV2) hwd.out hlt'.out hIF hFb.out).mono ?_
            rintro e w9 ⟨oa9, oc9, rfl, hO9, b9⟩
            have hB9 := (hBV2).trans (b9.mono hsz)
            have hE9 : bytesL 16 (bAdd (F) (keyAt (kb W) r)) = bytesL 16 (encs (keyAt (kb W)) b r) := by rw [hnx.out, mid, if_neg hl.out]
            rw [hE9] at hO9
            clear b9 gc0 gc1
            go_wp2
            go_roundw
            case rel => exact ⟨r + 1, oa9, oc9, by omega, by have := hlt'.out; omega, by go_num, rfl, by rw [Nat.add_sub_cancel]; exact hO9, hB9⟩
            case measure => have := hlt'.out; simp [intOf]; omega
    · obtain rfl : r = 15 := by omega
      have hO : Ints .u8 wr oa 16 oc (bytesL 16 (enc (keyAt (kb W)) b)) := hO
      go_wp2
      go_ret
      refine ⟨oa, oc, rfl, hO, ?_⟩
      rw [hg]
      exact b1.out.trans (hBr.mono (Nat.le_of_lt hgB.out))
end Go.Proofs.Ytohobknianhplaa
