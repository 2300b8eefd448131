/-
  What the document's own hash of bytes comes to. Conditions: at most 2^32 bytes, each a number from 0 to 255.
-/
import Derived.Test.YtcfachgfgogllaaDoorShaRefTake
import Derived.Test.YtcfachgfgogllaaDoorShaRefPad
import Derived.Test.YtcfachgfgogllaaDoorShaSum
namespace Go.Proofs.YtcfachgfgogllaaDoor
open Go.RowKit

theorem padded_range (bs : List Int) (h : ∀ x ∈ bs, 0 ≤ x ∧ x < 256) : ∀ x ∈ padded bs, 0 ≤ x ∧ x < 256 := by
  intro x hx
  rcases List.mem_append.1 hx with hx | hx
  · exact h x hx
  · exact padBehind_range _ x hx

set_option maxRecDepth 100000 in
set_option maxHeartbeats 1600000 in
theorem refSum_any (a : Option Addr) (n cap : Nat) (bs : List Int) (w : World) (h : Ints .u8 w a n cap bs) (hx : ∀ x ∈ bs, 0 ≤ x ∧ x < 256) (hn : n ≤ 4294967296) :
    Calls Tryd.prog 36 #[.slice a n cap] w fun e w' => e = .returned (.agg ((shaSum bs).map (Value.int .u8)).toArray) ∧ Below w.heap.size w w' := by
  have hl := h.len
  go_enter Tryd.func36, Tryd.ntmps36
  go_wp2_with ((with_reducible refine wpList_alloc_blk rfl 36 rfl zeroId ?_))
  refine (refStarts_any _).mono ?_
  rintro e w1 ⟨sb, sm, sc, rfl, hS1, hb1⟩
  have hsm : sm = 8 := by rw [← hS1.len]; rfl
  subst hsm
  have hR1 : Blk w1 w.heap.size 36 (zb 32) := Blk.keep (Blk.new w 36 (zb 32)) hb1 (by rw [size1]; omega)
  have hw1 : Below w.heap.size w w1 := (below1 _ _).trans (hb1.mono (by rw [size1]; omega))
  go_wp2_with fail
  refine (refPadded_any _ _ _ bs _ (h.keep hw1) (by omega)).mono ?_
  rintro e w2 ⟨pb, pm, pc, rfl, hP2, hb2⟩
  obtain ⟨P, hP⟩ : ∃ P, P = padded bs := ⟨_, rfl⟩
  rw [← hP] at hP2
  have hpl := hP2.len
  have hpr : ∀ x ∈ P, 0 ≤ x ∧ x < 256 := by rw [hP]; exact padded_range bs hx
  obtain ⟨q, hq⟩ : ∃ q, pm = 64 * q := ⟨pm / 64, by have := padded_64 bs; rw [← hP, hpl] at this; omega⟩
  have hqb : q ≤ 134217728 := by
    have := padded_length bs
    rw [← hP, hpl, hl] at this
    unfold blanks at this
    omega
  have FIN := Lib.hid (show bytesOf (chain8 P q).list = shaSum bs by unfold shaSum; rw [← hP, hpl, hq, Nat.mul_div_cancel_left _ (by decide)])
  have hS2 := hS1.keep hb2
  have hR2 := hR1.keep hb2 hR1.lt
  have hw2 : Below w.heap.size w w2 := hw1.trans (hb2.mono hw1.size)
  have HPL := Lib.hid hpl
  have HQ := Lib.hid hq
  have hp0 : 0 < pm := by have := padded_length bs; rw [← hP, hpl] at this; omega
  obtain ⟨pg, poff, rfl, -⟩ := hP2.at hp0
  clear hb1 hb2 hS1 hR1 hw1 hP hpl hq h hl
  go_wp2_with fail
  go_loopw [3, 5] (fun s i wr => ∃ (k : Nat) (A : Option Addr) (c : Nat), k ≤ q ∧ i = .int .i64 ((64 * k : Nat) : Int) ∧ s = .slice A 8 c ∧ Ints .u32 wr A 8 c (chain8 P k).list ∧ Below w2.heap.size w2 wr) (fun _ i _ => 64 * q - (intOf i).toNat)
  case atStart => exact ⟨0, sb, sc, Nat.zero_le _, rfl, rfl, hS2, Below.refl _ _⟩
  case round =>
    obtain ⟨k, A, c, hk, rfl, rfl, hA, hb⟩ := hrel
    clear hS2
    obtain ⟨j, hj⟩ : ∃ j, j = 64 * k := ⟨_, rfl⟩
    rw [← hj]
    have HJ := Lib.hid hj
    have hq := HQ.out
    by_cases hlt : k < q
    · have hPr := hP2.keep hb
      have hcut := hPr.cut2 j (j + 64) (by omega) (by omega)
      have hcp := hPr.2.1
      have e64 : j + 64 - j = 64 := by omega
      rw [e64] at hcut
      have SN := Lib.hid (show chain8 P (k + 1) = take8 (chain8 P k) ((P.drop j).take 64) by rw [hj]; rfl)
      have hjl : (j : Int) < (pm : Int) := by omega
      have hj0 : (0 : Int) ≤ (j : Int) := by omega
      have hjb : (j : Int) ≤ 8589934592 := by omega
      have hc1 : j + 64 ≤ pc := by omega
      have hjj : j ≤ j + 64 := by omega
      have hpcr : ∀ x ∈ (P.drop j).take 64, 0 ≤ x ∧ x < 256 := fun x hxm => hpr x (List.mem_of_mem_drop (List.mem_of_mem_take hxm))
      have h64' : ((j : Int) + 64) = ((j + 64 : Nat) : Int) := by omega
      clear hj hPr hcp hq e64 h64'
      have hca : cutAddr (some (⟨pg, poff, none⟩ : Addr)) pc j = some ⟨pg, poff + j, none⟩ := by unfold cutAddr; rw [if_neg (by omega), Option.map_some, Addr.add_mid]
      rw [hca] at hcut
      have hadd : (⟨pg, poff, none⟩ : Addr).add j = ⟨pg, poff + j, none⟩ := Addr.add_mid _ _ _
      have hnc : ¬ pc = j := by omega
      clear hca
      go_wp2_with fail
      refine (refTake_any (chain8 P k) A c (some ⟨pg, poff + j, none⟩) (pc - j) ((P.drop j).take 64) wr (chain8_ok _ _) hA hcut hpcr).mono ?_
      rintro e w3 ⟨tb, tc, rfl, hT, hb3⟩
      rw [← SN.out] at hT
      have hb4 : Below w2.heap.size w2 w3 := hb.trans (hb3.mono hb.size)
      go_wp2
      go_roundw
      case rel => exact ⟨k + 1, tb, tc, by omega, by rw [HJ.out]; go_num, rfl, hT, hb4⟩
      case measure => have := HJ.out; have := HQ.out; simp [intOf]; omega
    · have hkq : k = q := by omega
      rw [hkq] at hA
      have hjg : (pm : Int) ≤ (j : Int) := by omega
      clear hkq hj hq
      have hRr := hR2.keep hb hR2.lt
      have hwr : Below w.heap.size w wr := hw2.trans (hb.mono hw2.size)
      have hA' := hA.keep (below1 wr (.cells (zb 32).toArray 36))
      have okr := S8.ok_range (chain8_ok P q)
      go_wp2_with ((with_reducible refine wpList_alloc_blk rfl 36 rfl zeroId ?_))
      refine (refBytes_own A 8 c (chain8 P q).list _ hA' okr (by decide)).mono ?_
      rintro e w5 ⟨xb, xm, xc, rfl, hX, hXo, hb5⟩
      rw [FIN.out] at hX
      have hxm : xm = 32 := by rw [← hX.len, shaSum_length]
      subst hxm
      have hO5 : Blk w5 wr.heap.size 36 (zb 32) := Blk.keep (Blk.new wr 36 (zb 32)) hb5 (by rw [size1]; omega)
      have hR5 : Blk w5 w.heap.size 36 (zb 32) := Blk.keep (hRr.alloc (.cells (zb 32).toArray 36)) hb5 (by rw [size1]; have := hRr.lt; omega)
      have hw5 : Below w.heap.size w w5 := (hwr.alloc hwr.size _).trans (hb5.mono (by rw [size1]; have := hwr.size; omega))
      have hgo : w.heap.size ≤ wr.heap.size := hwr.size
      have hgn : w.heap.size ≠ wr.heap.size := by have := hRr.lt; omega
      obtain ⟨xg, xoff, rfl, -⟩ := hX.at (by omega)
      have hxg : xg ≠ wr.heap.size := by
        have := (hXo.lt xg rfl).1
        rw [size1] at this; omega
      clear hXo
      obtain ⟨X, hXX⟩ : ∃ X, X = (shaSum bs).map (Value.int .u8) := ⟨_, rfl⟩
      have hXl : X.length = 32 := by rw [hXX, List.length_map, shaSum_length]
      have HXX := Lib.hid hXX
      have HXL := Lib.hid hXl
      clear hXX hXl hRr hwr hA' hA
      go_wp2_with fail
      obtain ⟨og, hog⟩ : ∃ og, og = wr.heap.size := ⟨_, rfl⟩
      rw [← hog] at hO5 hgn hxg hgo
      rw [← hog]
      clear hog
      go_loopw [8] (fun i wx => ∃ t : Nat, t ≤ 32 ∧ i = .int .i64 t ∧ Blk wx og 36 (mixed X (zb 32) t) ∧ (wx.heap[xg]? = w5.heap[xg]?) ∧ Blk wx w.heap.size 36 (zb 32) ∧ Below w.heap.size w wx) (fun i _ => 32 - (intOf i).toNat)
      case atStart => exact ⟨0, Nat.zero_le _, rfl, by rw [mixed_zero]; exact hO5, rfl, hR5, hw5⟩
      case round =>
        obtain ⟨t, ht, rfl, hO, hxx, hR, hbx⟩ := hrel
        clear hO5 hR5 hw5
        have HXX2 := Lib.hid hxx
        clear hxx
        by_cases htl : t < 32
        · have cX : wr.cell? ⟨xg, xoff + t, none⟩ = some (.int .u8 ((shaSum bs).getD t 0)) := by
            rw [World.cell?_of_block (w := w5) HXX2.out]; exact hX.cellOf t htl
          have cO := hO.cell t
          rw [mixed_at _ _ _ 32 HXL.out rfl htl] at cO
          have cZ : (zb 32)[t]? = some (.int .u8 0) := by unfold zb; rw [List.getElem?_replicate, if_pos htl]
          rw [cZ] at cO
          have fO := hO.frozen t
          obtain ⟨x, hx0⟩ : ∃ x, x = (shaSum bs).getD t 0 := ⟨_, rfl⟩
          have SET := Lib.hid (mixed_set X (zb 32) t 32 HXL.out rfl htl (.int .u8 x) (by rw [HXX.out, hx0]; exact getElem?_mapInt _ _ _ (by rw [shaSum_length]; exact htl)))
          rw [← hx0] at cX
          clear hx0 cZ
          have t0 : (0 : Int) ≤ (t : Int) := by omega
          have t8 : (t : Int) < 32 := by omega
          go_wp2
          go_roundw
          case rel => exact ⟨t + 1, by omega, by go_num, by rw [← SET.out]; exact hO.set t _, by rw [Below.heap_setCell _ _ _ _ (by simpa using hxg)]; exact HXX2.out, hR.far (by simpa using hgn) _, hbx.setCell hgo _⟩
          case measure => simp [intOf]; omega
        · have hend := Lib.hid (show mixed X (zb 32) t = X by rw [show t = 32 from by omega]; exact mixed_all _ _ _ HXL.out rfl)
          have htge : (32 : Int) ≤ (t : Int) := by omega
          rw [hend.out] at hO
          have HI : IsRow Tryd.prog 36 X.length := by rw [HXL.out]; exact rowId
          have HO1 := Lib.hid (show ∀ v ∈ X, v.oneCell' = true by rw [HXX.out]; exact ints_oneCell' _ _)
          have HOF := Lib.hid (show 0 + X.length ≤ (zb 32).length by rw [HXL.out]; decide)
          go_wp2_with (first
            | ((with_reducible refine wpList_load_blk rfl 36 (.tmp 6) rfl ?_ hO HI rfl ?_); rfl)
            | ((with_reducible refine wpList_store_part rfl 36 (.tmp 2) (.tmp 37) rfl ?_ ?_ hR HI HOF.out HO1.out ?_); rfl; rfl; intro w9 hR9 hg9))
          have hR9' := hR9.cast (overV_all _ _ (by rw [HXL.out]; rfl))
          (try simp only [Exit.inBlock, Exit.then])
          refine bodyPost_ret (results_blk rfl rfl hR9' HI) rfl ?_
          exact ⟨by rw [HXX.out], hbx.trans (below_of_grown hg9 (Nat.le_refl _) hR.lt)⟩
end Go.Proofs.YtcfachgfgogllaaDoor
