/-
  What package sha's takeIn comes to: a state and a piece. Conditions: the piece has 64 bytes, each a number from 0 to 255; each word of the state is a number from 0 to 2^32 - 1; the package's constants lie in their variable.
-/
import Derived.Test.YtcfachgfgogllaaDoorShaSched
import Derived.Great.BuildSlice
namespace Go.Proofs.YtcfachgfgogllaaDoor
open Go.RowKit

/-- The package's variables hold the constants, and the starts. -/
structure Glob (w : World) : Prop where
  k : ∀ i, i < 64 → w.cell? ⟨1, i, none⟩ = some (.int .u32 (kW.getD i 0))
  s : ∀ i, i < 8 → w.cell? ⟨0, i, none⟩ = some (.int .u32 (starts8.list.getD i 0))
theorem Glob.klt {w : World} (h : Glob w) : 1 < w.heap.size := World.block_lt_of_cell? w _ (h.k 0 (by omega))
theorem Glob.slt {w : World} (h : Glob w) : 0 < w.heap.size := World.block_lt_of_cell? w _ (h.s 0 (by omega))
theorem Glob.keep {B : Nat} {w w' : World} (h : Glob w) (hb : Below B w w') (hB : w.heap.size ≤ B) : Glob w' :=
  ⟨fun i hi => by rw [hb.cell (Nat.lt_of_lt_of_le h.klt hB)]; exact h.k i hi, fun i hi => by rw [hb.cell (Nat.lt_of_lt_of_le h.slt hB)]; exact h.s i hi⟩
theorem Glob.grown {g : Nat} {w w' : World} (h : Glob w) (hb : w.grownBy w' (some g)) (h1 : 1 ≠ g) (h2 : 0 ≠ g) : Glob w' :=
  ⟨fun i hi => hb.cell (h.k i hi) (fun e => h1 (by injection e)), fun i hi => hb.cell (h.s i hi) (fun e => h2 (by injection e))⟩
theorem size8u32 : (Tryd.prog.info? 105).map (·.size) = some 8 := by kernel_rfl
theorem zero64 : Zero Tryd.prog 123 (zeros 64) := by unfold Zero; kernel_rfl
theorem zero8 : Zero Tryd.prog 105 (zeros 8) := by unfold Zero; kernel_rfl
theorem row8 : IsRow Tryd.prog 105 8 := IsRow.array Tryd.underlying105 size8u32
theorem row64 : IsRow Tryd.prog 123 64 := IsRow.array Tryd.underlying123 size64u32

theorem eight_one (a b c d e f g h : Int) : ∀ v ∈ [Value.int .u32 a, .int .u32 b, .int .u32 c, .int .u32 d, .int .u32 e, .int .u32 f, .int .u32 g, .int .u32 h], v.oneCell' = true :=
  ints_oneCell' .u32 [a, b, c, d, e, f, g, h]

set_option maxRecDepth 100000 in
set_option maxHeartbeats 1600000 in
theorem takeIn_any (s : S8) (a : Option Addr) (cap : Nat) (bs : List Int) (w : World) (hs : s.ok) (h : Ints .u8 w a 64 cap bs) (hx : ∀ x ∈ bs, 0 ≤ x ∧ x < 256) (hG : Glob w) :
    Calls Tryd.prog 65 #[.agg (s.list.map (Value.int .u32)).toArray, .slice a 64 cap] w fun e w' => e = .returned (.agg ((take8 s bs).list.map (Value.int .u32)).toArray) ∧ Below w.heap.size w w' := by
  obtain ⟨s0, s1, s2, s3, s4, s5, s6, s7⟩ := s
  have ok0 := hs
  unfold S8.ok at ok0
  obtain ⟨⟨l0, u0⟩, ⟨l1, u1⟩, ⟨l2, u2⟩, ⟨l3, u3⟩, ⟨l4, u4⟩, ⟨l5, u5⟩, ⟨l6, u6⟩, ⟨l7, u7⟩⟩ := ok0
  have HS := Lib.hid hs; clear hs
  show Calls Tryd.prog 65 #[.agg #[.int .u32 s0, .int .u32 s1, .int .u32 s2, .int .u32 s3, .int .u32 s4, .int .u32 s5, .int .u32 s6, .int .u32 s7], .slice a 64 cap] w _
  go_enter Tryd.func65, Tryd.ntmps65
  go_wp2_with (with_reducible refine wpList_alloc_blk rfl 105 rfl zero8 ?_)
  refine (schedule_any _ _ bs _ (h.keep (below2 _ _ _)) hx).mono ?_
  rintro e w1 ⟨rfl, hb1⟩
  have hS : Blk w1 w.heap.size 105 [.int .u32 s0, .int .u32 s1, .int .u32 s2, .int .u32 s3, .int .u32 s4, .int .u32 s5, .int .u32 s6, .int .u32 s7] := Blk.keep (Blk.alloc (Blk.new w _ [.int .u32 s0, .int .u32 s1, .int .u32 s2, .int .u32 s3, .int .u32 s4, .int .u32 s5, .int .u32 s6, .int .u32 s7]) _) hb1 (by rw [size2]; omega)
  have hR : Blk w1 (w.heap.size + 1) 105 (zeros 8) := Blk.keep (Blk.new1 w _ _ (zeros 8)) hb1 (by rw [size2]; omega)
  have hb : Below w.heap.size w w1 := (below2 _ _ _).trans (hb1.mono (by rw [size2]; omega))
  have hz : w.heap.size + 2 ≤ w1.heap.size := by have := hb1.size; rw [size2] at this; exact this
  have hlW := sch_length (wordsOf bs) (wordsOf_len16 bs h.len) 48
  have hrW := sch_range (wordsOf bs) (wordsOf_range bs hx) 48
  obtain ⟨W, hW⟩ : ∃ W, W = sch (wordsOf bs) 48 := ⟨_, rfl⟩
  rw [← hW] at hlW hrW
  rw [← hW]
  have HW := Lib.hid hW
  clear hb1 h hW
  obtain ⟨cs, hcs⟩ : ∃ cs, cs = W.map (Value.int .u32) := ⟨_, rfl⟩
  rw [← hcs]
  have hlc : cs.length = 64 := by rw [hcs, List.length_map, hlW]
  have hr64 : IsRow Tryd.prog 123 cs.length := by rw [hlc]; exact row64
  have hn := Blk.new w1 123 (zeros 64)
  have ov := Lib.hid (overV_all (zeros 64) cs (by rw [hlc]; rfl))
  have HF := Lib.hid (show 0 + cs.length ≤ (zeros 64).length by rw [hlc]; decide)
  have h1 := Lib.hid (show ∀ v ∈ cs, v.oneCell' = true by rw [hcs]; exact ints_oneCell' _ _)
  have HC := Lib.hid hcs
  have HLW := Lib.hid hlW
  clear hlc hcs hlW
  go_wp2_with (first
    | (with_reducible refine wpList_alloc_blk rfl 123 rfl zero64 ?_)
    | (with_reducible refine wpList_store_part rfl 123 (.tmp 5) (.tmp 18) rfl rfl rfl hn hr64 HF.out h1.out ?_; intro w2 hV hg2; rw [ov.out] at hV))
  have hS2 := (hS.alloc (.cells (zeros 64).toArray 123)).grown hg2 (by intro e; injection e; omega)
  have hR2 := (hR.alloc (.cells (zeros 64).toArray 123)).grown hg2 (by intro e; injection e; omega)
  have hb2 : Below w.heap.size w w2 := (hb.alloc hb.size _).trans (below_of_grown hg2 (by omega) (by rw [size1]; omega))
  have hG2 : Glob w2 := hG.keep hb2 (Nat.le_refl _)
  have gz : w1.heap.size ≠ w.heap.size + 1 := by omega
  have gz2 : w1.heap.size ≠ w.heap.size := by omega
  clear hS hR hb hn hg2 ov HF h1 hG hz
  have c0 := hS2.cell 0
  have c1 := hS2.cell 1
  have c2 := hS2.cell 2
  have c3 := hS2.cell 3
  have c4 := hS2.cell 4
  have c5 := hS2.cell 5
  have c6 := hS2.cell 6
  have c7 := hS2.cell 7
  simp only [List.getElem?_cons_zero, List.getElem?_cons_succ] at c0 c1 c2 c3 c4 c5 c6 c7
  go_wp2_with fail
  refine wp_region_still_lit (by kernel_rfl) (by kernel_rfl) ?_
  repeat still_step
  refine wpStill_nil ?_
  clear c0 c1 c2 c3 c4 c5 c6 c7
  obtain ⟨S0, hS0⟩ : ∃ S0 : S8, S0 = ⟨s0, s1, s2, s3, s4, s5, s6, s7⟩ := ⟨_, rfl⟩
  have HS0 := Lib.hid hS0
  have ok8 := Lib.hid (show S0.ok by rw [hS0]; exact HS.out)
  clear hS0
  go_wp2_with fail
  go_loopw [6, 7, 8, 9, 10, 11, 12, 13, 35] (fun r6 r7 r8 r9 r10 r11 r12 r13 i wr => ∃ k : Nat, k ≤ 64 ∧ i = .int .i64 k ∧ r6 = .int .u32 (rnds S0 W k).a ∧ r7 = .int .u32 (rnds S0 W k).b ∧ r8 = .int .u32 (rnds S0 W k).c ∧ r9 = .int .u32 (rnds S0 W k).d ∧ r10 = .int .u32 (rnds S0 W k).e ∧ r11 = .int .u32 (rnds S0 W k).f ∧ r12 = .int .u32 (rnds S0 W k).g ∧ r13 = .int .u32 (rnds S0 W k).h ∧ Draws w2 wr) (fun _ _ _ _ _ _ _ _ i _ => 64 - (intOf i).toNat)
  case atStart => exact ⟨0, by omega, rfl, by rw [rnds, HS0.out], by rw [rnds, HS0.out], by rw [rnds, HS0.out], by rw [rnds, HS0.out], by rw [rnds, HS0.out], by rw [rnds, HS0.out], by rw [rnds, HS0.out], by rw [rnds, HS0.out], (Draws.refl _).drew⟩
  case round =>
    obtain ⟨k, hk, rfl, rfl, rfl, rfl, rfl, rfl, rfl, rfl, rfl, hD⟩ := hrel
    have hGr := hG2.keep (hD.below _) (Nat.le_refl _)
    have hVr := hD.blk hV
    have okk := rnds_ok ok8.out W k
    obtain ⟨A, B, C, D, E, F, G, H, hR⟩ : ∃ A B C D E F G H, rnds S0 W k = ⟨A, B, C, D, E, F, G, H⟩ := ⟨_, _, _, _, _, _, _, _, rfl⟩
    rw [hR] at okk
    rw [hR]
    dsimp only
    have HR := Lib.hid hR
    clear hR
    unfold S8.ok at okk
    dsimp only at okk
    obtain ⟨⟨a0, a1⟩, ⟨b0, b1⟩, ⟨c0, c1⟩, ⟨d0, d1⟩, ⟨e0, e1⟩, ⟨f0, f1⟩, ⟨g0, g1⟩, ⟨h0, h1⟩⟩ := okk
    by_cases hlt : k < 64
    · obtain ⟨x, ex⟩ : ∃ x, x = kW.getD k 0 := ⟨_, rfl⟩
      obtain ⟨y, ey⟩ : ∃ y, y = W.getD k 0 := ⟨_, rfl⟩
      have hck := hGr.k k hlt
      have hcw : wr.cell? ⟨w1.heap.size, k, none⟩ = some (.int .u32 (W.getD k 0)) := by rw [hVr.cell, HC.out, getElem?_mapInt _ _ _ (by rw [HLW.out]; omega)]
      rw [← ex] at hck
      rw [← ey] at hcw
      obtain ⟨x0, x1⟩ : 0 ≤ x ∧ x < 4294967296 := by rw [ex]; exact getD_range kW_range k (by rw [kW_length]; exact hlt)
      obtain ⟨y0, y1⟩ : 0 ≤ y ∧ y < 4294967296 := by rw [ey]; exact getD_range hrW k (by rw [HLW.out]; omega)
      have SN := Lib.hid (show rnds S0 W (k + 1) = rnd ⟨A, B, C, D, E, F, G, H⟩ x y by rw [ex, ey, ← HR.out]; rfl)
      clear ex ey HR
      have z1 := xor_lo (bits .xor .u32 (rotr E 6) (rotr E 11)) (rotr E 25)
      have z3 := xor_lo (bits .xor .u32 (rotr A 2) (rotr A 13)) (rotr A 22)
      change 0 ≤ bsig1 E at z1
      change 0 ≤ bsig0 A at z3
      have z5 := choose_lo E F G
      have z7 := major_lo A B C
      go_wp2_with fail
      refine wp_region_still_lit (by kernel_rfl) (by kernel_rfl) ?_
      repeat (first | still_call ((bigSum1_any E _ e0 e1).mono fun _ _ h => ⟨h.1, h.2.symm⟩) | still_call ((choose_any E F G _).mono fun _ _ h => ⟨h.1, h.2.symm⟩) | still_step)
      refine wpStill_nil ?_
      go_wp2_with (first | (go_at_call 71; refine (bigSum0_any A _ a0 a1).mono ?_; rintro e w' ⟨rfl, rfl⟩) | (go_at_call 72; refine (major_any A B C _).mono ?_; rintro e w' ⟨rfl, rfl⟩))
      go_roundw
      case rel =>
        refine ⟨k + 1, by omega, by go_num, ?_, by rw [SN.out]; rfl, by rw [SN.out]; rfl, by rw [SN.out]; rfl, ?_, by rw [SN.out]; rfl, by rw [SN.out]; rfl, by rw [SN.out]; rfl, hD.drew⟩
        · rw [SN.out]; exact congrArg _ (show _ = (tOne _ x y + tTwo _) % 4294967296 by unfold tOne tTwo; dsimp only; omega)
        · rw [SN.out]; exact congrArg _ (show _ = (D + tOne _ x y) % 4294967296 by unfold tOne; dsimp only; omega)
      case measure => simp [intOf]; omega
    · have hge : (64 : Int) ≤ (k : Int) := by omega
      have hSr := hD.blk hS2
      have hRr := hD.blk hR2
      have c0' := hSr.cell 0
      have c1' := hSr.cell 1
      have c2' := hSr.cell 2
      have c3' := hSr.cell 3
      have c4' := hSr.cell 4
      have c5' := hSr.cell 5
      have c6' := hSr.cell 6
      have c7' := hSr.cell 7
      simp only [List.getElem?_cons_zero, List.getElem?_cons_succ] at c0' c1' c2' c3' c4' c5' c6' c7'
      have FIN := Lib.hid (show take8 ⟨s0, s1, s2, s3, s4, s5, s6, s7⟩ bs = add8 ⟨s0, s1, s2, s3, s4, s5, s6, s7⟩ ⟨A, B, C, D, E, F, G, H⟩ by
        unfold take8; rw [← HW.out, ← HS0.out, ← HR.out, show k = 64 from by omega])
      clear HR
      go_wp2_with (first
        | (with_reducible refine wpList_buildTo rfl 105 _ rfl _ rfl [Value.int .u32 ((s0 + A) % 4294967296), Value.int .u32 ((s1 + B) % 4294967296), Value.int .u32 ((s2 + C) % 4294967296), Value.int .u32 ((s3 + D) % 4294967296), Value.int .u32 ((s4 + E) % 4294967296), Value.int .u32 ((s5 + F) % 4294967296), Value.int .u32 ((s6 + G) % 4294967296), Value.int .u32 ((s7 + H) % 4294967296)].toArray ?_ ?_; kernel_rfl
           refine wpList_store_part (g := w.heap.size + 1) (off := 0) (t := 105) (cur := zeros 8) (cs := [.int .u32 ((s0 + A) % 4294967296), .int .u32 ((s1 + B) % 4294967296), .int .u32 ((s2 + C) % 4294967296), .int .u32 ((s3 + D) % 4294967296), .int .u32 ((s4 + E) % 4294967296), .int .u32 ((s5 + F) % 4294967296), .int .u32 ((s6 + G) % 4294967296), .int .u32 ((s7 + H) % 4294967296)]) rfl 105 (.tmp 4) (.tmp 107) rfl ?_ ?_ hRr ?_ ?_ ?_ ?_
           rfl
           rfl
           exact row8
           exact Nat.le_refl _
           exact eight_one _ _ _ _ _ _ _ _
           intro w9 hR9' hg9))
      have hR9 := hR9'.cast (overV_all _ _ rfl)
      (try simp only [Exit.inBlock, Exit.then])
      refine bodyPost_ret (results_blk rfl rfl hR9 row8) rfl ?_
      refine ⟨?_, hb2.trans ((hD.below _).trans (below_of_grown hg9 (by omega) hRr.lt))⟩
      rw [FIN.out]
      rfl
end Go.Proofs.YtcfachgfgogllaaDoor
