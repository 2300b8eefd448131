/-
  Texts of stages that were proved on their own, joined: ShaTake, ShaHash, ShaWrite, ShaPad, ShaSum, ShaRefSum, MacRef, ShaSumFn, MacBlk, MacBy, MacTag, MacOf, MacRefOf, MacAlive, MacEqual. Each begins with its own words.
-/
import Derived.Test.YtagacpjeooaapaaGreatDoorJSealProg8
import Derived.Great.BuildSlice
import Derived.Test.YtagacpjeooaapaaGreatDoorAppends
import Derived.Deep.RegionLaw
import Derived.Test.YtagacpjeooaapaaGreatDoorJSealProg6
import Derived.Test.YtagacpjeooaapaaGreatDoorJSealProg5
import Derived.Test.YtagacpjeooaapaaGreatDoorSteps
import Derived.Test.YtagacpjeooaapaaGreatDoorBlocks2
import Derived.Test.YtagacpjeooaapaaGreatDoorParts
import Derived.Deep.QuietTactic
import Derived.BigQuiet
import Derived.Test.YtagacpjeooaapaaGreatDoorEqArr

/-
  What package sha's takeIn comes to: a state and a piece. Conditions: the piece has 64 bytes, each a number from 0 to 255; each word of the state is a number from 0 to 2^32 - 1; the package's constants lie in their variable.
-/
namespace Go.Proofs.YtagacpjeooaapaaGreatDoor
open Go.RowKit

/-- The package's variables hold the constants, and the starts. -/
structure Glob (w : World) : Prop where
  k : ∀ i, i < 64 → w.cell? ⟨2, i, none⟩ = some (.int .u32 (kW.getD i 0))
  s : ∀ i, i < 8 → w.cell? ⟨1, i, none⟩ = some (.int .u32 (starts8.list.getD i 0))
theorem Glob.klt {w : World} (h : Glob w) : 2 < w.heap.size := World.block_lt_of_cell? w _ (h.k 0 (by omega))
theorem Glob.slt {w : World} (h : Glob w) : 1 < w.heap.size := World.block_lt_of_cell? w _ (h.s 0 (by omega))
theorem Glob.keep {B : Nat} {w w' : World} (h : Glob w) (hb : Below B w w') (hB : w.heap.size ≤ B) : Glob w' :=
  ⟨fun i hi => by rw [hb.cell (Nat.lt_of_lt_of_le h.klt hB)]; exact h.k i hi, fun i hi => by rw [hb.cell (Nat.lt_of_lt_of_le h.slt hB)]; exact h.s i hi⟩
theorem Glob.grown {g : Nat} {w w' : World} (h : Glob w) (hb : w.grownBy w' (some g)) (h1 : 2 ≠ g) (h2 : 1 ≠ g) : Glob w' :=
  ⟨fun i hi => hb.cell (h.k i hi) (fun e => h1 (by injection e)), fun i hi => hb.cell (h.s i hi) (fun e => h2 (by injection e))⟩
theorem size8u32 : (Tryz.prog.info? 113).map (·.size) = some 8 := by kernel_rfl
theorem zero64 : Zero Tryz.prog 153 (zeros 64) := by unfold Zero; kernel_rfl
theorem zero8 : Zero Tryz.prog 113 (zeros 8) := by unfold Zero; kernel_rfl
theorem row8 : IsRow Tryz.prog 113 8 := IsRow.array Tryz.underlying113 size8u32
theorem row64 : IsRow Tryz.prog 153 64 := IsRow.array Tryz.underlying153 size64u32

theorem eight_one (a b c d e f g h : Int) : ∀ v ∈ [Value.int .u32 a, .int .u32 b, .int .u32 c, .int .u32 d, .int .u32 e, .int .u32 f, .int .u32 g, .int .u32 h], v.oneCell' = true :=
  ints_oneCell' .u32 [a, b, c, d, e, f, g, h]

set_option maxRecDepth 100000 in
set_option maxHeartbeats 1600000 in
theorem takeIn_any (s : S8) (a : Option Addr) (cap : Nat) (bs : List Int) (w : World) (hs : s.ok) (h : Ints .u8 w a 64 cap bs) (hx : ∀ x ∈ bs, 0 ≤ x ∧ x < 256) (hG : Glob w) :
    Calls Tryz.prog 58 #[.agg (s.list.map (Value.int .u32)).toArray, .slice a 64 cap] w fun e w' => e = .returned (.agg ((take8 s bs).list.map (Value.int .u32)).toArray) ∧ Below w.heap.size w w' := by
  obtain ⟨s0, s1, s2, s3, s4, s5, s6, s7⟩ := s
  have ok0 := hs
  unfold S8.ok at ok0
  obtain ⟨⟨l0, u0⟩, ⟨l1, u1⟩, ⟨l2, u2⟩, ⟨l3, u3⟩, ⟨l4, u4⟩, ⟨l5, u5⟩, ⟨l6, u6⟩, ⟨l7, u7⟩⟩ := ok0
  have HS := Lib.hid hs; clear hs
  show Calls Tryz.prog 58 #[.agg #[.int .u32 s0, .int .u32 s1, .int .u32 s2, .int .u32 s3, .int .u32 s4, .int .u32 s5, .int .u32 s6, .int .u32 s7], .slice a 64 cap] w _
  go_enter Tryz.func58, Tryz.ntmps58
  go_wp2_with (with_reducible refine wpList_alloc_blk rfl 113 rfl zero8 ?_)
  refine (schedule_any _ _ bs _ (h.keep (below2 _ _ _)) hx).mono ?_
  rintro e w1 ⟨rfl, hb1⟩
  have hS : Blk w1 w.heap.size 113 [.int .u32 s0, .int .u32 s1, .int .u32 s2, .int .u32 s3, .int .u32 s4, .int .u32 s5, .int .u32 s6, .int .u32 s7] := Blk.keep (Blk.alloc (Blk.new w _ [.int .u32 s0, .int .u32 s1, .int .u32 s2, .int .u32 s3, .int .u32 s4, .int .u32 s5, .int .u32 s6, .int .u32 s7]) _) hb1 (by rw [size2]; omega)
  have hR : Blk w1 (w.heap.size + 1) 113 (zeros 8) := Blk.keep (Blk.new1 w _ _ (zeros 8)) hb1 (by rw [size2]; omega)
  have hb : Below w.heap.size w w1 := (below2 _ _ _).trans (hb1.mono (by rw [size2]; omega))
  have hz : w.heap.size + 2 ≤ w1.heap.size := by have := hb1.size; rw [size2] at this; exact this
  have hlW := sch_length (wordsOf bs) (wordsOf_len16 bs h.len) 48
  have hrW := sch_range (wordsOf bs) (wordsOf_range bs hx) 48
  obtain ⟨W, hW⟩ : ∃ W, W = sch (wordsOf bs) 48 := ⟨_, rfl⟩
  rw [← hW] at hlW hrW
  rw [← hW]
  have HW := Lib.hid hW
  clear hb1 h hW
  obtain ⟨cs, hcs⟩ : ∃ cs, cs = W.map (Value.int .u32) := ⟨_, rfl⟩
  rw [← hcs]
  have hlc : cs.length = 64 := by rw [hcs, List.length_map, hlW]
  have hr64 : IsRow Tryz.prog 153 cs.length := by rw [hlc]; exact row64
  have hn := Blk.new w1 153 (zeros 64)
  have ov := Lib.hid (overV_all (zeros 64) cs (by rw [hlc]; rfl))
  have HF := Lib.hid (show 0 + cs.length ≤ (zeros 64).length by rw [hlc]; decide)
  have h1 := Lib.hid (show ∀ v ∈ cs, v.oneCell' = true by rw [hcs]; exact ints_oneCell' _ _)
  have HC := Lib.hid hcs
  have HLW := Lib.hid hlW
  clear hlc hcs hlW
  go_wp2_with (first
    | (with_reducible refine wpList_alloc_blk rfl 153 rfl zero64 ?_)
    | (with_reducible refine wpList_store_part rfl 153 (.tmp 5) (.tmp 18) rfl rfl rfl hn hr64 HF.out h1.out ?_; intro w2 hV hg2; rw [ov.out] at hV))
  have hS2 := (hS.alloc (.cells (zeros 64).toArray 153)).grown hg2 (by intro e; injection e; omega)
  have hR2 := (hR.alloc (.cells (zeros 64).toArray 153)).grown hg2 (by intro e; injection e; omega)
  have hb2 : Below w.heap.size w w2 := (hb.alloc hb.size _).trans (below_of_grown hg2 (by omega) (by rw [size1]; omega))
  have hG2 : Glob w2 := hG.keep hb2 (Nat.le_refl _)
  have gz : w1.heap.size ≠ w.heap.size + 1 := by omega
  have gz2 : w1.heap.size ≠ w.heap.size := by omega
  clear hS hR hb hn hg2 ov HF h1 hG hz
  have c0 := hS2.cell 0
  have c1 := hS2.cell 1
  have c2 := hS2.cell 2
  have c3 := hS2.cell 3
  have c4 := hS2.cell 4
  have c5 := hS2.cell 5
  have c6 := hS2.cell 6
  have c7 := hS2.cell 7
  simp only [List.getElem?_cons_zero, List.getElem?_cons_succ] at c0 c1 c2 c3 c4 c5 c6 c7
  go_wp2_with fail
  refine wp_region_still_lit (by kernel_rfl) (by kernel_rfl) ?_
  repeat still_step
  refine wpStill_nil ?_
  clear c0 c1 c2 c3 c4 c5 c6 c7
  obtain ⟨S0, hS0⟩ : ∃ S0 : S8, S0 = ⟨s0, s1, s2, s3, s4, s5, s6, s7⟩ := ⟨_, rfl⟩
  have HS0 := Lib.hid hS0
  have ok8 := Lib.hid (show S0.ok by rw [hS0]; exact HS.out)
  clear hS0
  go_wp2_with fail
  go_loopw [6, 7, 8, 9, 10, 11, 12, 13, 35] (fun r6 r7 r8 r9 r10 r11 r12 r13 i wr => ∃ k : Nat, k ≤ 64 ∧ i = .int .i64 k ∧ r6 = .int .u32 (rnds S0 W k).a ∧ r7 = .int .u32 (rnds S0 W k).b ∧ r8 = .int .u32 (rnds S0 W k).c ∧ r9 = .int .u32 (rnds S0 W k).d ∧ r10 = .int .u32 (rnds S0 W k).e ∧ r11 = .int .u32 (rnds S0 W k).f ∧ r12 = .int .u32 (rnds S0 W k).g ∧ r13 = .int .u32 (rnds S0 W k).h ∧ Draws w2 wr) (fun _ _ _ _ _ _ _ _ i _ => 64 - (intOf i).toNat)
  case atStart => exact ⟨0, by omega, rfl, by rw [rnds, HS0.out], by rw [rnds, HS0.out], by rw [rnds, HS0.out], by rw [rnds, HS0.out], by rw [rnds, HS0.out], by rw [rnds, HS0.out], by rw [rnds, HS0.out], by rw [rnds, HS0.out], (Draws.refl _).drew⟩
  case round =>
    obtain ⟨k, hk, rfl, rfl, rfl, rfl, rfl, rfl, rfl, rfl, rfl, hD⟩ := hrel
    have hGr := hG2.keep (hD.below _) (Nat.le_refl _)
    have hVr := hD.blk hV
    have okk := rnds_ok ok8.out W k
    obtain ⟨A, B, C, D, E, F, G, H, hR⟩ : ∃ A B C D E F G H, rnds S0 W k = ⟨A, B, C, D, E, F, G, H⟩ := ⟨_, _, _, _, _, _, _, _, rfl⟩
    rw [hR] at okk
    rw [hR]
    dsimp only
    have HR := Lib.hid hR
    clear hR
    unfold S8.ok at okk
    dsimp only at okk
    obtain ⟨⟨a0, a1⟩, ⟨b0, b1⟩, ⟨c0, c1⟩, ⟨d0, d1⟩, ⟨e0, e1⟩, ⟨f0, f1⟩, ⟨g0, g1⟩, ⟨h0, h1⟩⟩ := okk
    by_cases hlt : k < 64
    · obtain ⟨x, ex⟩ : ∃ x, x = kW.getD k 0 := ⟨_, rfl⟩
      obtain ⟨y, ey⟩ : ∃ y, y = W.getD k 0 := ⟨_, rfl⟩
      have hck := hGr.k k hlt
      have hcw : wr.cell? ⟨w1.heap.size, k, none⟩ = some (.int .u32 (W.getD k 0)) := by rw [hVr.cell, HC.out, getElem?_mapInt _ _ _ (by rw [HLW.out]; omega)]
      rw [← ex] at hck
      rw [← ey] at hcw
      obtain ⟨x0, x1⟩ : 0 ≤ x ∧ x < 4294967296 := by rw [ex]; exact getD_range kW_range k (by rw [kW_length]; exact hlt)
      obtain ⟨y0, y1⟩ : 0 ≤ y ∧ y < 4294967296 := by rw [ey]; exact getD_range hrW k (by rw [HLW.out]; omega)
      have SN := Lib.hid (show rnds S0 W (k + 1) = rnd ⟨A, B, C, D, E, F, G, H⟩ x y by rw [ex, ey, ← HR.out]; rfl)
      clear ex ey HR
      have z1 := xor_lo (bits .xor .u32 (rotr E 6) (rotr E 11)) (rotr E 25)
      have z3 := xor_lo (bits .xor .u32 (rotr A 2) (rotr A 13)) (rotr A 22)
      change 0 ≤ bsig1 E at z1
      change 0 ≤ bsig0 A at z3
      have z5 := choose_lo E F G
      have z7 := major_lo A B C
      go_wp2_with fail
      refine wp_region_still_lit (by kernel_rfl) (by kernel_rfl) ?_
      repeat (first | still_call ((bigSum1_any E _ e0 e1).mono fun _ _ h => ⟨h.1, h.2.symm⟩) | still_call ((choose_any E F G _).mono fun _ _ h => ⟨h.1, h.2.symm⟩) | still_step)
      refine wpStill_nil ?_
      go_wp2_with (first | (go_at_call 85; refine (bigSum0_any A _ a0 a1).mono ?_; rintro e w' ⟨rfl, rfl⟩) | (go_at_call 86; refine (major_any A B C _).mono ?_; rintro e w' ⟨rfl, rfl⟩))
      go_roundw
      case rel =>
        refine ⟨k + 1, by omega, by go_num, ?_, by rw [SN.out]; rfl, by rw [SN.out]; rfl, by rw [SN.out]; rfl, ?_, by rw [SN.out]; rfl, by rw [SN.out]; rfl, by rw [SN.out]; rfl, hD.drew⟩
        · rw [SN.out]; exact congrArg _ (show _ = (tOne _ x y + tTwo _) % 4294967296 by unfold tOne tTwo; dsimp only; omega)
        · rw [SN.out]; exact congrArg _ (show _ = (D + tOne _ x y) % 4294967296 by unfold tOne; dsimp only; omega)
      case measure => simp [intOf]; omega
    · have hge : (64 : Int) ≤ (k : Int) := by omega
      have hSr := hD.blk hS2
      have hRr := hD.blk hR2
      have c0' := hSr.cell 0
      have c1' := hSr.cell 1
      have c2' := hSr.cell 2
      have c3' := hSr.cell 3
      have c4' := hSr.cell 4
      have c5' := hSr.cell 5
      have c6' := hSr.cell 6
      have c7' := hSr.cell 7
      simp only [List.getElem?_cons_zero, List.getElem?_cons_succ] at c0' c1' c2' c3' c4' c5' c6' c7'
      have FIN := Lib.hid (show take8 ⟨s0, s1, s2, s3, s4, s5, s6, s7⟩ bs = add8 ⟨s0, s1, s2, s3, s4, s5, s6, s7⟩ ⟨A, B, C, D, E, F, G, H⟩ by
        unfold take8; rw [← HW.out, ← HS0.out, ← HR.out, show k = 64 from by omega])
      clear HR
      go_wp2_with (first
        | (with_reducible refine wpList_buildTo rfl 113 _ rfl _ rfl [Value.int .u32 ((s0 + A) % 4294967296), Value.int .u32 ((s1 + B) % 4294967296), Value.int .u32 ((s2 + C) % 4294967296), Value.int .u32 ((s3 + D) % 4294967296), Value.int .u32 ((s4 + E) % 4294967296), Value.int .u32 ((s5 + F) % 4294967296), Value.int .u32 ((s6 + G) % 4294967296), Value.int .u32 ((s7 + H) % 4294967296)].toArray ?_ ?_; kernel_rfl
           refine wpList_store_part (g := w.heap.size + 1) (off := 0) (t := 113) (cur := zeros 8) (cs := [.int .u32 ((s0 + A) % 4294967296), .int .u32 ((s1 + B) % 4294967296), .int .u32 ((s2 + C) % 4294967296), .int .u32 ((s3 + D) % 4294967296), .int .u32 ((s4 + E) % 4294967296), .int .u32 ((s5 + F) % 4294967296), .int .u32 ((s6 + G) % 4294967296), .int .u32 ((s7 + H) % 4294967296)]) rfl 113 (.tmp 4) (.tmp 107) rfl ?_ ?_ hRr ?_ ?_ ?_ ?_
           rfl
           rfl
           exact row8
           exact Nat.le_refl _
           exact eight_one _ _ _ _ _ _ _ _
           intro w9 hR9' hg9))
      have hR9 := hR9'.cast (overV_all _ _ rfl)
      (try simp only [Exit.inBlock, Exit.then])
      refine bodyPost_ret (results_blk rfl rfl hR9 row8) rfl ?_
      refine ⟨?_, hb2.trans ((hD.below _).trans (below_of_grown hg9 (by omega) hRr.lt))⟩
      rw [FIN.out]
      rfl
end Go.Proofs.YtagacpjeooaapaaGreatDoor

/-
  What New, Len and Clone of package sha come to: a hash in memory that was told these bytes ('HashAt'). Conditions: the package's variables hold the constants and the starts; fewer than 2^33 bytes in all.
-/
namespace Go.Proofs.YtagacpjeooaapaaGreatDoor
open Go.RowKit

/-- The cells of a hash that was told xs, with these bytes at hand. -/
def hcells (s : S8) (rest : List Int) (n : Nat) : List Value := s.list.map (Value.int .u32) ++ (rest.map (Value.int .u8) ++ [.int .u64 n])
def HashAt (w : World) (g : Nat) (xs : List Int) : Prop :=
  ∃ rest, Told xs rest ∧ (∀ x ∈ rest, 0 ≤ x ∧ x < 256) ∧ Blk w g 115 (hcells (chain8 xs (xs.length / 64)) rest xs.length) ∧ 2 < g ∧ 1 < g
theorem list8 (s : S8) : (s.list.map (Value.int .u32)).length = 8 := rfl
theorem hcells_length (s : S8) (rest : List Int) (n : Nat) (h : rest.length = 64) : (hcells s rest n).length = 73 := by
  unfold hcells; rw [List.length_append, list8, List.length_append, List.length_map, h]; rfl
theorem hcells_len (s : S8) (rest : List Int) (n : Nat) (h : rest.length = 64) : (hcells s rest n)[72]? = some (.int .u64 n) := by
  unfold hcells
  rw [List.getElem?_append_right (by rw [list8]; omega), list8, List.getElem?_append_right (by rw [List.length_map, h]; omega), List.length_map, h]
  rfl
theorem hcells_rest (s : S8) (rest : List Int) (n : Nat) (i : Nat) (hi : i < rest.length) : (hcells s rest n)[8 + i]? = some (.int .u8 (rest.getD i 0)) := by
  unfold hcells
  rw [List.getElem?_append_right (by rw [list8]; omega), list8, List.getElem?_append_left (by rw [List.length_map]; omega), show 8 + i - 8 = i from by omega, getElem?_mapInt _ _ _ hi]
theorem hcells_state (s : S8) (rest : List Int) (n : Nat) : ∀ j v, (s.list.map (Value.int .u32))[j]? = some v → (hcells s rest n)[0 + j]? = some v := by
  intro j v h
  rw [Nat.zero_add]
  unfold hcells
  rw [List.getElem?_append_left (List.getElem?_eq_some_iff.1 h).1]
  exact h
theorem hcells_over (s : S8) (rest cs : List Int) (n off : Nat) (h : off + cs.length ≤ rest.length) : overV (hcells s rest n) (8 + off) (cs.map (Value.int .u8)) = hcells s (over rest off cs) n := by
  unfold overV hcells over
  have h8 := list8 s
  rw [List.take_append, List.take_of_length_le (by rw [h8]; omega), h8, show 8 + off - 8 = off from by omega, List.take_append_of_le_length (by rw [List.length_map]; omega)]
  rw [List.drop_append, List.drop_of_length_le (by rw [h8]; omega), h8, List.length_map, show 8 + off + cs.length - 8 = off + cs.length from by omega, List.drop_append_of_le_length (by rw [List.length_map]; omega)]
  simp
theorem hcells_setLen (s : S8) (rest : List Int) (n m : Nat) (h : rest.length = 64) : (hcells s rest n).set 72 (.int .u64 m) = hcells s rest m := by
  unfold hcells
  rw [List.set_append_right _ _ (by rw [list8]; omega), list8, List.set_append_right _ _ (by rw [List.length_map, h]; omega), List.length_map, h]
  rfl
theorem hcells_setLen' (s : S8) (rest : List Int) (n m : Nat) (h : rest.length = 64) : (hcells s rest n).set 72 (.int .u64 ((n : Int) + (m : Int))) = hcells s rest (n + m) := by
  rw [← hcells_setLen s rest n (n + m) h]; simp
theorem hcells_len' (s : S8) (rest : List Int) (n m : Nat) (h : rest.length = 64) : (hcells s rest (n + m))[72]? = some (.int .u64 ((n : Int) + (m : Int))) := by
  rw [hcells_len _ _ _ h]; simp
theorem hcells_setState (s s' : S8) (rest : List Int) (n : Nat) : overV (hcells s rest n) 0 (s'.list.map (Value.int .u32)) = hcells s' rest n := by
  unfold overV hcells
  rw [List.take_zero, list8, List.nil_append, Nat.zero_add, List.drop_append, List.drop_of_length_le (by rw [list8]; omega), list8]
  simp
theorem hcells_one (s : S8) (rest : List Int) (n : Nat) : ∀ v ∈ hcells s rest n, v.oneCell' = true := by
  intro v hv
  unfold hcells at hv
  rcases List.mem_append.1 hv with hv | hv
  · exact ints_oneCell' _ _ v hv
  · rcases List.mem_append.1 hv with hv | hv
    · exact ints_oneCell' _ _ v hv
    · simp at hv; subst hv; rfl
theorem HashAt.keep {B : Nat} {w w' : World} {g : Nat} {xs : List Int} (h : HashAt w g xs) (hb : Below B w w') (hg : g < B) : HashAt w' g xs := by
  obtain ⟨rest, h1, h2, h3, h4⟩ := h
  exact ⟨rest, h1, h2, h3.keep hb hg, h4⟩
theorem HashAt.grown {w w' : World} {g g' : Nat} {xs : List Int} (h : HashAt w g xs) (hb : w.grownBy w' (some g')) (hg : g ≠ g') : HashAt w' g xs := by
  obtain ⟨rest, h1, h2, h3, h4⟩ := h
  exact ⟨rest, h1, h2, h3.grown hb (by simpa using hg), h4⟩
theorem HashAt.lt {w : World} {g : Nat} {xs : List Int} (h : HashAt w g xs) : g < w.heap.size := by
  obtain ⟨rest, h1, h2, h3, h4⟩ := h
  exact h3.lt
theorem HashAt.far {w w' : World} {g : Nat} {xs : List Int} (h : HashAt w g xs) (hG : Glob w) (hb : w.grownBy w' (some g)) : Glob w' := by
  obtain ⟨rest, h1, h2, h3, h4, h5⟩ := h
  exact hG.grown hb (by omega) (by omega)
theorem sizeHash : (Tryz.prog.info? 115).map (·.size) = some 73 := by kernel_rfl
theorem rowHash : IsRow Tryz.prog 115 73 := IsRow.struct Tryz.underlying115 sizeHash
def hzero : List Value := List.replicate 8 (.int .u32 0) ++ (List.replicate 64 (.int .u8 0) ++ [.int .u64 0])
theorem zeroHash : Zero Tryz.prog 115 hzero := by unfold Zero; kernel_rfl
theorem hzero_length : hzero.length = 73 := rfl

set_option maxRecDepth 100000 in
set_option maxHeartbeats 800000 in
theorem new_any (w : World) (hG : Glob w) : Calls Tryz.prog 34 #[] w fun e w' => e = .returned (.pointer (some ⟨w.heap.size, 0, none⟩)) ∧ HashAt w' w.heap.size [] ∧ Below w.heap.size w w' := by
  have hr : w.rangeAt 1 0 (starts8.list.map (Value.int .u32)) := fun j v hv => by
    have hj : j < 8 := by have := (List.getElem?_eq_some_iff.1 hv).1; rwa [list8] at this
    rw [Nat.zero_add, hG.s j hj, ← hv, getElem?_mapInt _ _ _ (by exact hj)]
  have hf := hG.klt
  have hf' := hG.slt
  go_enter Tryz.func34, Tryz.ntmps34
  go_wp2_with (first
    | ((with_reducible refine wpList_load_part rfl 113 (.global 1) rfl ?_ (starts8.list.map (Value.int .u32)) hr ?_ ?_); rfl; exact row8)
    | ((with_reducible refine wpList_buildTo rfl 115 _ rfl _ rfl (hcells starts8 (List.replicate 64 0) 0).toArray ?_ ?_); kernel_rfl))
  go_ret
  exact ⟨rfl, ⟨List.replicate 64 0, told_nil _ (by simp), by simp, Blk.new w _ _, hf, hf'⟩, below1 _ _⟩

set_option maxRecDepth 100000 in
set_option maxHeartbeats 400000 in
theorem cloneNil_any (w : World) : Calls Tryz.prog 55 #[.pointer none] w fun e w' => e = .returned (.pointer none) ∧ w = w' := by
  go_enter Tryz.func55, Tryz.ntmps55
  go_wp2
  go_ret
  exact ⟨rfl, rfl⟩

set_option maxRecDepth 100000 in
set_option maxHeartbeats 800000 in
theorem clone_any (g : Nat) (xs : List Int) (w : World) (h : HashAt w g xs) : Calls Tryz.prog 55 #[.pointer (some ⟨g, 0, none⟩)] w fun e w' => e = .returned (.pointer (some ⟨w.heap.size, 0, none⟩)) ∧ HashAt w' w.heap.size xs ∧ Below w.heap.size w w' := by
  have hlt := h.lt
  obtain ⟨rest, h1, h2, h3, h4⟩ := h
  obtain ⟨cs, hcs⟩ : ∃ cs, cs = hcells (chain8 xs (xs.length / 64)) rest xs.length := ⟨_, rfl⟩
  have hl : cs.length = 73 := by rw [hcs]; exact hcells_length _ _ _ h1.len
  have ho := Lib.hid (show ∀ v ∈ cs, v.oneCell' = true by rw [hcs]; exact hcells_one _ _ _)
  rw [← hcs] at h3
  have HC := Lib.hid hcs
  have HL := Lib.hid hl
  have HR : IsRow Tryz.prog 115 cs.length := by rw [hl]; exact rowHash
  clear hcs hl
  go_enter Tryz.func55, Tryz.ntmps55
  go_wp2_with (first
    | ((with_reducible refine wpList_load_blk rfl 115 (.tmp 7) rfl ?_ h3 HR rfl ?_); rfl)
    | ((with_reducible refine wpList_alloc_blk rfl 115 rfl zeroHash ?_)
       refine wpList_store_part (g := w.heap.size) (off := 0) (t := 115) (cur := hzero) (cs := cs) rfl 115 (.tmp 3) (.tmp 8) rfl ?_ ?_ (Blk.new w _ hzero) HR ?_ ho.out ?_
       rfl
       rfl
       exact (by rw [HL.out, hzero_length]; decide)
       intro w2 hB hg))
  go_ret
  have hB' := hB.cast (overV_all _ _ (by rw [HL.out, hzero_length]))
  rw [HC.out] at hB'
  exact ⟨rfl, ⟨rest, h1, h2, hB', by omega, by omega⟩, (below1 _ _).trans (below_of_grown hg (Nat.le_refl _) (by rw [size1]; omega))⟩
end Go.Proofs.YtagacpjeooaapaaGreatDoor

/-
  What Write of package sha comes to: the hash is told these bytes, behind all others. Conditions: the package's variables hold the constants and the starts; the bytes lie elsewhere than in the hash; at most 2^32 bytes in all.
-/
namespace Go.Proofs.YtagacpjeooaapaaGreatDoor
open Go.RowKit

theorem sizeU8 : (Tryz.prog.info? 5).map (·.size) = some 1 := by kernel_rfl
def lenOf : Value → Nat | .slice _ n _ => n | _ => 0

/-- A state laid into a hash, word by word. -/
theorem set8 {w : World} {g : Nat} {t : TypeId} {S : S8} {rest : List Int} {n : Nat} (hB : Blk w g t (hcells S rest n)) (T : S8) :
    Blk ((((((((w.setCell ⟨g, 0, none⟩ (.int .u32 T.a)).setCell ⟨g, 1, none⟩ (.int .u32 T.b)).setCell ⟨g, 2, none⟩ (.int .u32 T.c)).setCell ⟨g, 3, none⟩ (.int .u32 T.d)).setCell ⟨g, 4, none⟩ (.int .u32 T.e)).setCell ⟨g, 5, none⟩ (.int .u32 T.f)).setCell ⟨g, 6, none⟩ (.int .u32 T.g)).setCell ⟨g, 7, none⟩ (.int .u32 T.h)) g t (hcells T rest n) ∧ w.grownBy ((((((((w.setCell ⟨g, 0, none⟩ (.int .u32 T.a)).setCell ⟨g, 1, none⟩ (.int .u32 T.b)).setCell ⟨g, 2, none⟩ (.int .u32 T.c)).setCell ⟨g, 3, none⟩ (.int .u32 T.d)).setCell ⟨g, 4, none⟩ (.int .u32 T.e)).setCell ⟨g, 5, none⟩ (.int .u32 T.f)).setCell ⟨g, 6, none⟩ (.int .u32 T.g)).setCell ⟨g, 7, none⟩ (.int .u32 T.h)) (some g) :=
  ⟨((((((((hB.set 0 (.int .u32 T.a)).set 1 (.int .u32 T.b)).set 2 (.int .u32 T.c)).set 3 (.int .u32 T.d)).set 4 (.int .u32 T.e)).set 5 (.int .u32 T.f)).set 6 (.int .u32 T.g)).set 7 (.int .u32 T.h)).cast rfl, grown_trans (grown_trans (grown_trans (grown_trans (grown_trans (grown_trans (grown_trans (grown_setCell w g 0 _) (grown_setCell _ g 1 _)) (grown_setCell _ g 2 _)) (grown_setCell _ g 3 _)) (grown_setCell _ g 4 _)) (grown_setCell _ g 5 _)) (grown_setCell _ g 6 _)) (grown_setCell _ g 7 _)⟩
theorem takeIn_out (s : S8) (a : Option Addr) (cap : Nat) (bs : List Int) (w : World) (hs : s.ok) (h : Ints .u8 w a 64 cap bs) (hx : ∀ x ∈ bs, 0 ≤ x ∧ x < 256) (hG : Glob w) (T : S8) (hT : T = take8 s bs) :
    Calls Tryz.prog 58 #[.agg #[.int .u32 s.a, .int .u32 s.b, .int .u32 s.c, .int .u32 s.d, .int .u32 s.e, .int .u32 s.f, .int .u32 s.g, .int .u32 s.h], .slice a 64 cap] w fun e w' => e = .returned (.agg #[.int .u32 T.a, .int .u32 T.b, .int .u32 T.c, .int .u32 T.d, .int .u32 T.e, .int .u32 T.f, .int .u32 T.g, .int .u32 T.h]) ∧ Below w.heap.size w w' := by
  subst hT
  exact takeIn_any s a cap bs w hs h hx hG

set_option maxRecDepth 100000 in
set_option maxHeartbeats 400000 in
theorem writeNil_any (a : Option Addr) (n cap : Nat) (w : World) : Calls Tryz.prog 35 #[.pointer none, .slice a n cap] w fun e w' => e = .returned (.int .i64 0) ∧ w = w' := by
  go_enter Tryz.func35, Tryz.ntmps35
  go_wp2
  go_ret
  exact ⟨rfl, rfl⟩

set_option maxRecDepth 100000 in
set_option maxHeartbeats 1600000 in
theorem write_any (g : Nat) (xs : List Int) (a : Option Addr) (n cap : Nat) (bs : List Int) (w : World) (hh : HashAt w g xs) (hG : Glob w) (h : Ints .u8 w a n cap bs) (hx : ∀ x ∈ bs, 0 ≤ x ∧ x < 256) (hne : ∀ x, a = some x → 0 < n → x.block ≠ g) (hn : xs.length + n ≤ 4294967296) :
    Calls Tryz.prog 35 #[.pointer (some ⟨g, 0, none⟩), .slice a n cap] w fun e w' => e = .returned (.int .i64 n) ∧ HashAt w' g (xs ++ bs) ∧ w.grownBy w' (some g) := by
  have hglt := hh.lt
  have HL := Lib.hid h.len
  go_enter Tryz.func35, Tryz.ntmps35
  go_wp2_with fail
  go_loopw [1] (fun s wr => ∃ (k m c : Nat) (A : Option Addr), k + m = n ∧ s = .slice A m c ∧ Ints .u8 wr A m c (bs.drop k) ∧ (∀ x, A = some x → 0 < m → x.block ≠ g) ∧ HashAt wr g (xs ++ bs.take k) ∧ w.grownBy wr (some g)) (fun s _ => lenOf s)
  case atStart => exact ⟨0, n, cap, a, by omega, rfl, h, hne, by simpa using hh, grown_refl _ _⟩
  case round =>
    obtain ⟨k, m, c, A, hkm, rfl, hA, hAne, hH, hg⟩ := hrel
    have hGr := hh.far hG hg
    by_cases hm : m = 0
    · have hend := Lib.hid (show bs.take k = bs from List.take_of_length_le (by rw [HL.out]; omega))
      have m1 : (m : Int) ≤ 0 := by omega
      go_wp2
      go_ret
      rw [hend.out] at hH
      exact ⟨rfl, hH, hg⟩
    · obtain ⟨ys, hys⟩ : ∃ ys, ys = xs ++ bs.take k := ⟨_, rfl⟩
      rw [← hys] at hH
      have hyl : ys.length = xs.length + k := by rw [hys, List.length_append, List.length_take, HL.out]; omega
      obtain ⟨rest, hT, hrr, hB, hk1, hk2⟩ := hH
      obtain ⟨L, hL⟩ : ∃ L, L = ys.length := ⟨_, rfl⟩
      obtain ⟨r, hr⟩ : ∃ r, r = L % 64 := ⟨_, rfl⟩
      obtain ⟨d, hd⟩ : ∃ d, d = min (64 - r) m := ⟨_, rfl⟩
      have hLb : L ≤ 4294967296 := by omega
      have hrl : r < 64 := by omega
      have hdm : d ≤ m := by omega
      have hd0 : 0 < d := by omega
      have hdr : r + d ≤ 64 := by omega
      have hlast : r + d = 64 ∨ (d = m ∧ r + d < 64) := by omega
      have cl := hB.cell 72
      rw [hcells_len _ _ _ hT.len, ← hL] at cl
      have hmod : (L : Int) % 64 = (r : Int) := by omega
      have htm : (L : Int).tmod 64 = (r : Int) := by rw [Int.tmod_eq_emod_of_nonneg (by omega)]; exact hmod
      obtain ⟨cs, hcs⟩ : ∃ cs, cs = (bs.drop k).take d := ⟨_, rfl⟩
      have hlc : cs.length = d := by rw [hcs, List.length_take, List.length_drop, HL.out]; omega
      have hcr : ∀ x ∈ cs, 0 ≤ x ∧ x < 256 := by rw [hcs]; exact fun x hxm => hx x (List.mem_of_mem_drop (List.mem_of_mem_take hxm))
      have CF : CopyFits wr.drew (some ⟨g, 8 + r, none⟩) A m (64 - r) g (8 + r) (hcells (chain8 ys (ys.length / 64)) rest ys.length).length (cs.map (Value.int .u8)) := by
        rw [hcs]
        exact (show Ints .u8 wr.drew A m c (bs.drop k) from hA.keep (Below.drew (Below.refl _ _))).copyFits (by rw [hd]; exact Nat.min_comm _ _) (fun _ => rfl) (by rw [hcells_length _ _ _ hT.len]; omega)
      have hnext : bs.take (k + d) = bs.take k ++ cs := by rw [hcs, List.take_add]
      have HNX := Lib.hid (show xs ++ bs.take (k + d) = ys ++ cs by rw [hnext, hys, List.append_assoc])
      have hov : overV (hcells (chain8 ys (ys.length / 64)) rest ys.length) (8 + r) (cs.map (Value.int .u8)) = hcells (chain8 ys (ys.length / 64)) (over rest r cs) L := by
        rw [hcells_over _ _ _ _ _ (by rw [hlc, hT.len]; omega), hL]
      have HOV := Lib.hid hov
      have HR2 : (over rest r cs).length = 64 := by rw [over_length _ _ _ (by rw [hlc, hT.len]; omega)]; exact hT.len
      have hrr2 : ∀ x ∈ over rest r cs, 0 ≤ x ∧ x < 256 := by
        intro x hxm
        unfold over at hxm
        rcases List.mem_append.1 hxm with hxm | hxm
        · exact hrr x (List.mem_of_mem_take hxm)
        · rcases List.mem_append.1 hxm with hxm | hxm
          · exact hcr x hxm
          · exact hrr x (List.mem_of_mem_drop hxm)
      have hr' : ys.length % 64 = r := by rw [hr, hL]
      have HPART := Lib.hid (fun (hp : r + d < 64) => (show Told (ys ++ cs) (over rest r cs) ∧ chain8 (ys ++ cs) ((ys ++ cs).length / 64) = chain8 ys (ys.length / 64) by
        have := hT.part (cs := cs) (by rw [hr', hlc]; exact hp); rwa [hr'] at this))
      have HFULL := Lib.hid (fun (hp : r + d = 64) => (show Told (ys ++ cs) (over rest r cs) ∧ chain8 (ys ++ cs) ((ys ++ cs).length / 64) = take8 (chain8 ys (ys.length / 64)) (over rest r cs) by
        have := hT.full (cs := cs) (by rw [hr', hlc]; exact hp); rwa [hr'] at this))
      have HLEN := Lib.hid (show (ys ++ cs).length = L + d by rw [List.length_append, hlc, hL])
      have okS := chain8_ok ys (ys.length / 64)
      obtain ⟨S, hS⟩ : ∃ S, S = chain8 ys (ys.length / 64) := ⟨_, rfl⟩
      obtain ⟨rest2, hr2⟩ : ∃ r2, r2 = over rest r cs := ⟨_, rfl⟩
      rw [← hS, ← hr2] at HPART HFULL HOV
      rw [← hS] at okS hB CF
      rw [← hr2] at HR2 hrr2
      have HLC := Lib.hid (show (cs.map (Value.int .u8)).length = d by rw [List.length_map]; exact hlc)
      have hfull : r + d = 64 → ((L : Int) + (d : Int)) % 64 = 0 := by omega
      have hpart : r + d < 64 → ((L : Int) + (d : Int)) % 64 ≠ 0 := by omega
      clear hr' hd hr hL hys hyl hcs hlc hnext hov hr2 hS hT hrr hcr
      have m0 : (0 : Int) < (m : Int) := by omega
      have d0' : (0 : Int) ≤ (d : Int) := by omega
      have d1' : (d : Int) ≤ 64 := by omega
      have L0' : (0 : Int) ≤ (L : Int) := by omega
      have L1' : (L : Int) ≤ 4294967296 := by omega
      have n64 : ¬ 64 = r := by omega
      have r0 : (r : Int) ≤ 64 := by omega
      have hadd : (⟨g, 8, none⟩ : Addr).add r = ⟨g, 8 + r, none⟩ := Addr.add_mid _ _ _
      go_wp2_with fail
      refine wp_region_still_tail 10 (by kernel_rfl) (by kernel_rfl) ?_
      simp only [List.take_succ_cons, List.take_zero, List.drop_succ_cons, List.drop_zero]
      repeat still_step
      refine wpStill_nil ?_
      change wpList _ _ _ _ _ wr.drew
      clear htm hmod n64 r0 hadd
      have hBd := hB.drew
      have HF := Lib.hid hfull
      have HP := Lib.hid hpart
      clear hfull hpart hB cl
      go_wp2_with (with_reducible refine wpList_copy_num rfl (.tmp 22) (.tmp 23) 24 24 rfl 5 Tryz.underlying24 sizeU8 rfl rfl hBd CF d HLC.out ?_)
      intro w2 hB2 hg2
      rw [HOV.out] at hB2
      have c2 := hB2.cell 72
      rw [hcells_len _ _ _ HR2] at c2
      have f2 := hB2.frozen 72
      have hB3 := hB2.set 72 (.int .u64 ((L : Int) + (d : Int)))
      rw [hcells_setLen' _ _ _ _ HR2] at hB3
      obtain ⟨w3, hw3⟩ : ∃ w3, w3 = w2.setCell ⟨g, 72, none⟩ (.int .u64 ((L : Int) + (d : Int))) := ⟨_, rfl⟩
      rw [← hw3] at hB3
      have HW3 := Lib.hid hw3
      have hg3 : w2.grownBy w3 (some g) := by rw [hw3]; exact grown_setCell _ _ _ _
      have hgw : wr.grownBy w3 (some g) := grown_trans (grown_trans (grown_drew (grown_refl _ _)) hg2) hg3
      have hGw : Glob w3 := hGr.grown hgw (by omega) (by omega)
      have hA3 := (hA.grown hgw hAne).cutAt d hdm
      have hA3ne : ∀ x, cutAddr A c d = some x → 0 < m - d → x.block ≠ g := by
        intro x hx0 hp
        obtain ⟨y, hy, hyb⟩ := cutAddr_block hx0
        rw [← hyb]; exact hAne y hy (by omega)
      have hdrop : (bs.drop k).drop d = bs.drop (k + d) := by rw [List.drop_drop]
      rw [hdrop] at hA3
      clear hw3 hdrop hA hBd hg2 hg3 CF hAne
      have c3 := hB3.cell 72
      rw [hcells_len' _ _ _ _ HR2] at c3
      rcases hlast with hl | ⟨hl1, hl2⟩
      · have hz := HF.out hl
        obtain ⟨hT', hch⟩ := HFULL.out hl
        have HCH := Lib.hid hch
        have HZ := Lib.hid hz
        clear hch hz HF HP HPART HFULL
        go_wp2_with ((with_reducible refine wpList_cut rfl 24 5 (.tmp 34) (.tmp 35) rfl Tryz.underlying24 sizeU8 (A := A) (m := m) (c := c) ?_ (k := .i64) (l := d) ?_ hdm ?_); rfl; rfl; rw [← HW3.out]; clear c2 f2 hB2; have hz := HZ.out)
        have cS : ∀ j, j < 8 → w3.cell? ⟨g, j, none⟩ = some (.int .u32 (S.list.getD j 0)) := fun j hj => by
          have := hcells_state S rest2 (L + d) j _ (getElem?_mapInt .u32 S.list j hj)
          rw [Nat.zero_add] at this
          rw [hB3.cell, this]
        have s0 := cS 0 (by omega)
        have s1 := cS 1 (by omega)
        have s2 := cS 2 (by omega)
        have s3 := cS 3 (by omega)
        have s4 := cS 4 (by omega)
        have s5 := cS 5 (by omega)
        have s6 := cS 6 (by omega)
        have s7 := cS 7 (by omega)
        simp only [S8.list, List.getD_cons_zero, List.getD_cons_succ] at s0 s1 s2 s3 s4 s5 s6 s7
        have hR3 : Ints .u8 w3.drew (some ⟨g, 8, none⟩) 64 64 rest2 := Ints.of_blk (hB3.drew) HR2 (Nat.le_refl _) (fun i hi => hcells_rest _ _ _ _ (by rw [HR2]; exact hi))
        have hGd : Glob w3.drew := hGw.keep (Below.drew (Below.refl _ _)) (Nat.le_refl _)
        clear cS hz
        obtain ⟨T, hTT⟩ : ∃ T, T = take8 S rest2 := ⟨_, rfl⟩
        have HT := Lib.hid hTT
        clear hTT
        have HR3 := Lib.hid hR3; have HGd := Lib.hid hGd
        clear hR3 hGd
        go_region_with ((go_at_call 58
                         refine (takeIn_out S (some ⟨g, 8, none⟩) 64 rest2 w3.drew okS HR3.out hrr2 HGd.out T HT.out).mono ?_
                         rintro e w4 ⟨rfl, hb4⟩
                         have hB4 := hB3.drew.keep hb4 hB3.lt
                         have cT : ∀ j, j < 8 → w4.cell? ⟨g, j, none⟩ = some (.int .u32 (S.list.getD j 0)) := fun j hj => by
                           have := hcells_state S rest2 (L + d) j _ (getElem?_mapInt .u32 S.list j hj)
                           rw [Nat.zero_add] at this
                           rw [hB4.cell, this]
                         have t0 := cT 0 (by omega)
                         have t1 := cT 1 (by omega)
                         have t2 := cT 2 (by omega)
                         have t3 := cT 3 (by omega)
                         have t4 := cT 4 (by omega)
                         have t5 := cT 5 (by omega)
                         have t6 := cT 6 (by omega)
                         have t7 := cT 7 (by omega)
                         have f0 := hB4.frozen 0
                         have f1 := hB4.frozen 1
                         have f2 := hB4.frozen 2
                         have f3 := hB4.frozen 3
                         have f4 := hB4.frozen 4
                         have f5 := hB4.frozen 5
                         have f6 := hB4.frozen 6
                         have f7 := hB4.frozen 7
                         simp only [S8.list, List.getD_cons_zero, List.getD_cons_succ] at t0 t1 t2 t3 t4 t5 t6 t7
                         clear cT s0 s1 s2 s3 s4 s5 s6 s7))
        go_wp2_with fail
        go_roundw
        case rel =>
          obtain ⟨hB5, hg5⟩ := set8 hB4 T
          have hg35 := grown_trans (grown_trans (grown_drew (grown_refl w3 (some g))) (grown_of_below hb4 _)) hg5
          exact ⟨k + d, m - d, c - d, cutAddr A c d, by omega, rfl, hA3.grown hg35 hA3ne, hA3ne, by rw [HNX.out]; exact ⟨rest2, hT', hrr2, by rw [HCH.out, HLEN.out, ← HT.out]; exact hB5, hk1, hk2⟩, grown_trans (grown_trans hg hgw) hg35⟩
        case measure => simp [lenOf]; omega
      · have hz : ((((L : Int) + (d : Int)) % 64 == 0) = false) := by simpa using HP.out hl2
        obtain ⟨hT', hch⟩ := HPART.out hl2
        have HCH := Lib.hid hch
        have HZ := Lib.hid hz
        clear hch hz HF HP HPART HFULL hl1 hl2
        go_wp2_with ((with_reducible refine wpList_cut rfl 24 5 (.tmp 34) (.tmp 35) rfl Tryz.underlying24 sizeU8 (A := A) (m := m) (c := c) ?_ (k := .i64) (l := d) ?_ hdm ?_); rfl; rfl; rw [← HW3.out]; clear c2 f2 hB2; have hz := HZ.out)
        go_roundw
        case rel => exact ⟨k + d, m - d, c - d, cutAddr A c d, by omega, rfl, hA3, hA3ne, by rw [HNX.out]; exact ⟨rest2, hT', hrr2, by rw [HCH.out, HLEN.out]; exact hB3, hk1, hk2⟩, grown_trans hg hgw⟩
        case measure => simp [lenOf]; omega
end Go.Proofs.YtagacpjeooaapaaGreatDoor

/-
  What package sha's padding comes to: the bytes behind n bytes that make whole pieces. Conditions: n is at most 2^33.
-/
namespace Go.Proofs.YtagacpjeooaapaaGreatDoor
open Go.RowKit

theorem two_words (w : World) (t : TypeId) (x y : Int) : Ints .u32 (w.alloc (.cells #[.int .u32 x, .int .u32 y] t)) (some ⟨w.heap.size, 0, none⟩) 2 2 [x, y] :=
  Ints.of_blk (Blk.new w t [.int .u32 x, .int .u32 y]) rfl (Nat.le_refl _) (fun i hi => by rcases i with _ | _ | i <;> first | rfl | omega)

set_option maxRecDepth 100000 in
set_option maxHeartbeats 800000 in
theorem padding_any (n : Nat) (w : World) (hn : n ≤ 8589934592) :
    Calls Tryz.prog 59 #[.int .u64 n] w fun e w' => ∃ b m c, e = .returned (.slice b m c) ∧ Ints .u8 w' b m c (padBehind n) ∧ Below w.heap.size w w' ∧ (∀ x, b = some x → w.heap.size ≤ x.block) := by
  obtain ⟨i0, hi, hz0, hz1, hz2⟩ := info_parts infoU8
  obtain ⟨B, hB⟩ : ∃ B, B = blanks n := ⟨_, rfl⟩
  have hBl : B < 64 := by rw [hB]; unfold blanks; omega
  have hb1 : (119 - (n : Int) % 64) % 64 = (B : Int) := by rw [hB]; unfold blanks; omega
  have hb2 := Lib.hid (show 1 + (B : Int) = ((1 + B : Nat) : Int) by omega)
  have hb3 := Lib.hid (show 1 + (B : Int) + 8 = ((1 + B + 8 : Nat) : Int) by omega)
  have hb3' := Lib.hid (show 9 + (B : Int) = ((1 + B + 8 : Nat) : Int) by omega)
  have HB := Lib.hid hB
  have b0 : (0 : Int) ≤ (B : Int) := by omega
  have bl : (B : Int) < 64 := by omega
  have n0 : (0 : Int) ≤ (n : Int) := by omega
  have nl : (n : Int) ≤ 8589934592 := by omega
  clear hB
  go_enter Tryz.func59, Tryz.ntmps59
  go_wp2_with (at_make; refine wpList_make_two rfl (.tmp 11) (.tmp 14) 24 rfl w.heap.size 5 i0 (.int .u8 0) Tryz.underlying24 hi hz0 hz1 rfl rfl rfl (n := 1 + B) (C := 1 + B + 8) ?_ ?_ ?_ ?_ ?_ (Nat.le_refl _) ?_; omega; omega; omega; (rw [hz2]; omega); (unfold maxLen; omega); intro w1 hown1 hblk1 hgr1; have c1 := hblk1.cell 0; have f1 := hblk1.frozen 0; rw [List.getElem?_replicate, if_pos (by omega)] at c1)
  obtain ⟨hown2, hgr2⟩ := hown1.stored 0 (.int .u8 128)
  rw [show 1 + B = B + 1 from by omega, List.replicate_succ, List.set_cons_zero, show B + 1 = 1 + B from by omega] at hown2
  have hb2' : Below w.heap.size w (w1.setCell ⟨w.heap.size, 0, none⟩ (.int .u8 128)) := ((Below.refl _ _).grown hgr1 (Nat.le_refl _) (by simp)).setCell (Nat.le_refl _) _
  have hsz : w.heap.size + 1 ≤ w1.heap.size := hblk1.lt
  have hs2 : (w1.setCell ⟨w.heap.size, 0, none⟩ (.int .u8 128)).heap.size = w1.heap.size := by simp [World.setCell]
  have hp := two_words (w1.setCell ⟨w.heap.size, 0, none⟩ (.int .u8 128)) 111 (8 * (n : Int) / 4294967296) (8 * (n : Int) % 4294967296)
  have hp2 := hown2.alloc (.cells #[.int .u32 (8 * (n : Int) / 4294967296), .int .u32 (8 * (n : Int) % 4294967296)] 111)
  have hp3 := hb2'.alloc hb2'.size (.cells #[.int .u32 (8 * (n : Int) / 4294967296), .int .u32 (8 * (n : Int) % 4294967296)] 111)
  rw [hs2] at hp
  clear hown1 hgr1 c1 f1 hown2 hgr2 hb2'
  refine (bytes_any _ 2 2 [8 * (n : Int) / 4294967296, 8 * (n : Int) % 4294967296] _ hp (by simp; omega) (by decide)).mono ?_
  rintro e w3 ⟨b, m, c, rfl, hY, hb3⟩
  have hm : m = 8 := by rw [← hY.len, bytesOf_length]; rfl
  subst hm
  have hown3 := hp2.kept (grown_of_below hb3 none) (by simp [Value.ownBlock])
  have hb4 := hp3.trans (hb3.mono (by simp [World.setCell]; omega))
  clear hp hp2 hp3 hb3
  go_wp2_with (at_builtin; refine wpList_append_ints rfl (.tmp 20) (.tmp 27) 24 rfl w.heap.size 5 i0 (.int .u8 0) 1 Tryz.underlying24 hi hz0 hz1 hz2 rfl rfl hown3 rfl hY ?_ ?_ hb4.size ?_; (unfold maxLen; omega); omega; intro v' w5 hown5 hg5)
  go_ret
  have hlist : Value.int .u8 128 :: List.replicate B (Value.int .u8 0) ++ (bytesOf [8 * (n : Int) / 4294967296, 8 * (n : Int) % 4294967296]).map (Value.int .u8) = (padBehind n).map (Value.int .u8) := by
    unfold padBehind
    rw [← HB.out, show 8 * (n : Int) / 4294967296 % 4294967296 = 8 * (n : Int) / 4294967296 from by omega, List.map_append, List.map_cons, List.map_replicate]
  rw [hlist] at hown5
  have hlt := hown5.lt
  obtain ⟨b5, c5, rfl, hI⟩ := Ints.of_owns hown5
  refine ⟨b5, _, c5, rfl, hI, hb4.grown hg5 hb4.size ?_, fun x hx => (hlt x.block (by rw [hx]; rfl)).1⟩
  intro j hj
  exact (hown3.lt j hj).1
end Go.Proofs.YtagacpjeooaapaaGreatDoor

/-
  What Sum of package sha comes to, as a method and as a function of parts: the document's hash. Conditions: the package's variables hold the constants and the starts; fewer than 2^32 - 128 bytes in all.
-/
namespace Go.Proofs.YtagacpjeooaapaaGreatDoor
open Go.RowKit

def zb (n : Nat) : List Value := List.replicate n (.int .u8 0)
theorem zeroId : Zero Tryz.prog 23 (zb 32) := by unfold Zero; kernel_rfl
theorem sizeId : (Tryz.prog.info? 23).map (·.size) = some 32 := by kernel_rfl
theorem rowId : IsRow Tryz.prog 23 32 := IsRow.array Tryz.underlying23 sizeId
theorem padBehind_range (n : Nat) : ∀ x ∈ padBehind n, 0 ≤ x ∧ x < 256 := by
  intro x hx
  unfold padBehind at hx
  rcases List.mem_append.1 hx with hx | hx
  · rcases List.mem_cons.1 hx with rfl | hx
    · omega
    · rw [List.mem_replicate] at hx; omega
  · exact bytesOf_range _ (by simp; omega) x hx
theorem shaSum_range (bs : List Int) : ∀ x ∈ shaSum bs, 0 ≤ x ∧ x < 256 := bytesOf_range _ (S8.ok_range (chain8_ok _ _))

set_option maxRecDepth 100000 in
set_option maxHeartbeats 1600000 in
theorem hsum_any (g : Nat) (xs : List Int) (w : World) (hh : HashAt w g xs) (hG : Glob w) (hn : xs.length ≤ 4294967168) :
    Calls Tryz.prog 36 #[.pointer (some ⟨g, 0, none⟩)] w fun e w' => e = .returned (.agg ((shaSum xs).map (Value.int .u8)).toArray) ∧ Below w.heap.size w w' := by
  have hlt := hh.lt
  have hh0 := hh
  obtain ⟨rest, h1, h2, h3, hk1, hk2⟩ := hh
  have hH0 := Lib.hid hh0; clear hh0
  obtain ⟨cs, hcs⟩ : ∃ cs, cs = hcells (chain8 xs (xs.length / 64)) rest xs.length := ⟨_, rfl⟩
  have hl : cs.length = 73 := by rw [hcs]; exact hcells_length _ _ _ h1.len
  have ho := Lib.hid (show ∀ v ∈ cs, v.oneCell' = true by rw [hcs]; exact hcells_one _ _ _)
  have h72 : cs[72]? = some (.int .u64 xs.length) := by rw [hcs]; exact hcells_len _ _ _ h1.len
  rw [← hcs] at h3
  have HC := Lib.hid hcs
  have HL := Lib.hid hl
  have HR : IsRow Tryz.prog 115 cs.length := by rw [hl]; exact rowHash
  have h3a := h3.alloc (.cells (zb 32).toArray 23)
  obtain ⟨n, hn0⟩ : ∃ n, n = xs.length := ⟨_, rfl⟩
  rw [← hn0] at h72 hn
  have HN := Lib.hid hn0
  have H72 := Lib.hid h72
  clear hcs hl hn0 h72
  go_enter Tryz.func36, Tryz.ntmps36
  go_wp2_with (first
    | ((with_reducible refine wpList_alloc_blk rfl 23 rfl zeroId ?_))
    | ((with_reducible refine wpList_load_blk rfl 115 (.tmp 9) rfl ?_ h3a HR rfl ?_); rfl)
    | ((with_reducible refine wpList_alloc_blk rfl 115 rfl zeroHash ?_)
       refine wpList_store_part (g := w.heap.size + 1) (off := 0) (t := 115) (cur := hzero) (cs := cs) rfl 115 (.tmp 3) (.tmp 10) rfl ?_ ?_ (Blk.new1 w _ _ hzero) HR ?_ ho.out ?_
       exact congrArg (fun k => Value.pointer (some ⟨k, 0, none⟩)) (size1 w _)
       rfl
       exact (by rw [HL.out, hzero_length]; decide)
       intro w2 hB hg
       have hh2 : w2.cell? ⟨g, 72, none⟩ = some (.int .u64 n) := by
         rw [((h3a.alloc (.cells hzero.toArray 115)).grown hg (by intro e; injection e; omega)).cell]
         exact H72.out))
  have hR2 : Blk w2 w.heap.size 23 (zb 32) := ((Blk.new w 23 (zb 32)).alloc (.cells hzero.toArray 115)).grown hg (by intro e; injection e; omega)
  have hb2 : Below w.heap.size w w2 := (below2 _ _ _).trans (below_of_grown hg (by omega) (by rw [size2]; omega))
  have hG2 := hG.keep hb2 (Nat.le_refl _)
  have hB' := hB.cast (overV_all _ _ (by rw [HL.out, hzero_length]))
  rw [HC.out] at hB'
  have hE2 : HashAt w2 (w.heap.size + 1) xs := ⟨rest, h1, h2, hB', by omega, by omega⟩
  have hz2 : w.heap.size + 2 ≤ w2.heap.size := by have := hg.size; rw [size2] at this; exact this
  clear hB hB' hg hh2 h3 h3a ho HR hG
  refine (padding_any n w2 (by omega)).mono ?_
  rintro e w3 ⟨b, m, c, rfl, hY, hb3, hbl⟩
  have hml : m ≤ 72 := by rw [← hY.len, padBehind_length]; unfold blanks; omega
  have hE3 := hE2.keep hb3 hE2.lt
  have hG3 := hG2.keep hb3 (Nat.le_refl _)
  have hR3 := hR2.keep hb3 hR2.lt
  have hz3 := hb3.size
  go_wp2_with fail
  refine (write_any (w.heap.size + 1) xs b m c (padBehind n) w3 hE3 hG3 hY (padBehind_range n) (fun x hx _ => by have := hbl x hx; omega) (by rw [← HN.out]; omega)).mono ?_
  rintro e w4 ⟨rfl, hE4, hg4⟩
  have hG4 := hE3.far hG3 hg4
  have hR4 := hR3.grown hg4 (by intro e; injection e; omega)
  have hb4 : Below w.heap.size w w4 := (hb2.trans (hb3.mono (by omega))).trans (below_of_grown hg4 (by omega) (by omega))
  have hz4 := hg4.size
  have hpad : xs ++ padBehind n = padded xs := by unfold padded; rw [HN.out]
  rw [hpad] at hE4
  obtain ⟨rest4, q1, q2, q3, q4⟩ := hE4
  obtain ⟨S, hS⟩ : ∃ S, S = chain8 (padded xs) ((padded xs).length / 64) := ⟨_, rfl⟩
  rw [← hS] at q3
  have okS : ∀ x ∈ S.list, 0 ≤ x ∧ x < 4294967296 := by rw [hS]; exact S8.ok_range (chain8_ok _ _)
  have FIN := Lib.hid (show bytesOf S.list = shaSum xs by rw [hS]; rfl)
  have hSI : ∀ w', Below w4.heap.size w4 w' → Ints .u32 w' (some ⟨w.heap.size + 1, 0, none⟩) 8 8 S.list := fun w' hb => by
    have q3' := q3.keep hb q3.lt
    refine Ints.of_blk q3' rfl (Nat.le_refl _) (fun i hi => ?_)
    exact hcells_state S rest4 _ i _ (getElem?_mapInt .u32 S.list i hi)
  have HSI := Lib.hid hSI
  have hz : w.heap.size + 2 ≤ w4.heap.size := by omega
  obtain ⟨out, hout⟩ : ∃ out, out = (shaSum xs).map (Value.int .u8) := ⟨_, rfl⟩
  have hol : out.length = 32 := by rw [hout, List.length_map, shaSum_length]
  have HO := Lib.hid hout
  have HOL := Lib.hid hol
  have HI : IsRow Tryz.prog 23 out.length := by rw [hol]; exact rowId
  have HO1 := Lib.hid (show ∀ v ∈ out, v.oneCell' = true by rw [hout]; exact ints_oneCell' _ _)
  have HOF := Lib.hid (show 0 + out.length ≤ (zb 32).length by rw [hol]; decide)
  clear hout hol
  clear hSI hS hpad q1 q2 hE3 hG3 hR3 hz3 hE2 hG2 hR2 hb2 hz2 hb3 hg4 hz4 hY hbl
  go_wp2_with ((with_reducible refine wpList_alloc_blk rfl 23 rfl zeroId ?_))
  go_region_law (first
    | (refine step_copy_fits rfl (.tmp 17) (.tmp 20) 24 24 rfl 5 Tryz.underlying24 sizeU8 rfl rfl hI6 CF ?_; intro w7 hI7 hg7)
    | (go_simp
       go_at_call 60
       refine (bytes_any _ 8 8 S.list _ (HSI.out _ (((Below.refl _ _).alloc (Nat.le_refl _) _).drew)) okS (by decide)).mono ?_
       rintro e w6 ⟨b6, m6, c6, rfl, hY6, hb6⟩
       have hm6 : m6 = 32 := by rw [← hY6.len, bytesOf_length]; rfl
       subst hm6
       rw [FIN.out] at hY6
       have hI6 : Blk w6 w4.heap.size 23 (zb 32) := Blk.keep ((Blk.new w4 23 (zb 32)).drew) hb6 (by show w4.heap.size < (w4.alloc _).heap.size; rw [size1]; omega)
       have CF : CopyFits w6 (some ⟨w4.heap.size, 0, none⟩) b6 32 32 w4.heap.size 0 (zb 32).length (((shaSum xs).take 32).map (Value.int .u8)) := hY6.copyFits rfl (fun _ => rfl) (by decide)))
  have hI8 : Blk w7 w4.heap.size 23 out := hI7.cast (by rw [List.take_of_length_le (by rw [shaSum_length]; omega), ← HO.out]; exact overV_all _ _ (by rw [HOL.out]; rfl))
  have hR6 : Blk w6 w.heap.size 23 (zb 32) := Blk.keep ((hR4.alloc (.cells (zb 32).toArray 23)).drew) hb6 (by show w.heap.size < (w4.alloc _).heap.size; rw [size1]; omega)
  have hR7 := hR6.grown hg7 (by intro e; injection e; omega)
  have hb6' : Below w4.heap.size w4 w6 := (((Below.refl _ _).alloc (Nat.le_refl _) _).drew).trans (hb6.mono (by show w4.heap.size ≤ (w4.alloc _).heap.size; rw [size1]; omega))
  have hb7 : Below w.heap.size w w7 := (hb4.trans (hb6'.mono hb4.size)).trans (below_of_grown hg7 hb4.size (by have := hb6.size; simp at this; omega))
  clear hI7 CF hI6 hY6 hR6 hb6 hb6' hg7
  go_wp2_with (first
    | ((with_reducible refine wpList_load_blk rfl 23 (.tmp 4) rfl ?_ hI8 HI rfl ?_); rfl)
    | ((with_reducible refine wpList_store_part rfl 23 (.tmp 2) (.tmp 22) rfl ?_ ?_ hR7 HI HOF.out HO1.out ?_); rfl; rfl; intro w9 hR9 hg9))
  have hR9' := hR9.cast (overV_all _ _ (by rw [HOL.out]; rfl))
  refine bodyPost_ret (results_blk rfl rfl hR9' HI) rfl ?_
  exact ⟨by rw [HO.out], hb7.trans (below_of_grown hg9 (Nat.le_refl _) hR7.lt)⟩
end Go.Proofs.YtagacpjeooaapaaGreatDoor

/-
  What the document's own hash of bytes comes to. Conditions: at most 2^32 bytes, each a number from 0 to 255.
-/
namespace Go.Proofs.YtagacpjeooaapaaGreatDoor
open Go.RowKit

theorem padded_range (bs : List Int) (h : ∀ x ∈ bs, 0 ≤ x ∧ x < 256) : ∀ x ∈ padded bs, 0 ≤ x ∧ x < 256 := by
  intro x hx
  rcases List.mem_append.1 hx with hx | hx
  · exact h x hx
  · exact padBehind_range _ x hx

set_option maxRecDepth 100000 in
set_option maxHeartbeats 1600000 in
theorem refSum_any (a : Option Addr) (n cap : Nat) (bs : List Int) (w : World) (h : Ints .u8 w a n cap bs) (hx : ∀ x ∈ bs, 0 ≤ x ∧ x < 256) (hn : n ≤ 4294967296) :
    Calls Tryz.prog 22 #[.slice a n cap] w fun e w' => e = .returned (.agg ((shaSum bs).map (Value.int .u8)).toArray) ∧ Below w.heap.size w w' := by
  have hl := h.len
  go_enter Tryz.func22, Tryz.ntmps22
  go_wp2_with ((with_reducible refine wpList_alloc_blk rfl 23 rfl zeroId ?_))
  refine (refStarts_any _).mono ?_
  rintro e w1 ⟨sb, sm, sc, rfl, hS1, hb1⟩
  have hsm : sm = 8 := by rw [← hS1.len]; rfl
  subst hsm
  have hR1 : Blk w1 w.heap.size 23 (zb 32) := Blk.keep (Blk.new w 23 (zb 32)) hb1 (by rw [size1]; omega)
  have hw1 : Below w.heap.size w w1 := (below1 _ _).trans (hb1.mono (by rw [size1]; omega))
  go_wp2_with fail
  refine (refPadded_any _ _ _ bs _ (h.keep hw1) (by omega)).mono ?_
  rintro e w2 ⟨pb, pm, pc, rfl, hP2, hb2⟩
  obtain ⟨P, hP⟩ : ∃ P, P = padded bs := ⟨_, rfl⟩
  rw [← hP] at hP2
  have hpl := hP2.len
  have hpr : ∀ x ∈ P, 0 ≤ x ∧ x < 256 := by rw [hP]; exact padded_range bs hx
  obtain ⟨q, hq⟩ : ∃ q, pm = 64 * q := ⟨pm / 64, by have := padded_64 bs; rw [← hP, hpl] at this; omega⟩
  have hqb : q ≤ 134217728 := by
    have := padded_length bs
    rw [← hP, hpl, hl] at this
    unfold blanks at this
    omega
  have FIN := Lib.hid (show bytesOf (chain8 P q).list = shaSum bs by unfold shaSum; rw [← hP, hpl, hq, Nat.mul_div_cancel_left _ (by decide)])
  have hS2 := hS1.keep hb2
  have hR2 := hR1.keep hb2 hR1.lt
  have hw2 : Below w.heap.size w w2 := hw1.trans (hb2.mono hw1.size)
  have HPL := Lib.hid hpl
  have HQ := Lib.hid hq
  have hp0 : 0 < pm := by have := padded_length bs; rw [← hP, hpl] at this; omega
  obtain ⟨pg, poff, rfl, -⟩ := hP2.at hp0
  clear hb1 hb2 hS1 hR1 hw1 hP hpl hq h hl
  go_wp2_with fail
  go_loopw [3, 5] (fun s i wr => ∃ (k : Nat) (A : Option Addr) (c : Nat), k ≤ q ∧ i = .int .i64 ((64 * k : Nat) : Int) ∧ s = .slice A 8 c ∧ Ints .u32 wr A 8 c (chain8 P k).list ∧ Below w2.heap.size w2 wr) (fun _ i _ => 64 * q - (intOf i).toNat)
  case atStart => exact ⟨0, sb, sc, Nat.zero_le _, rfl, rfl, hS2, Below.refl _ _⟩
  case round =>
    obtain ⟨k, A, c, hk, rfl, rfl, hA, hb⟩ := hrel
    clear hS2
    obtain ⟨j, hj⟩ : ∃ j, j = 64 * k := ⟨_, rfl⟩
    rw [← hj]
    have HJ := Lib.hid hj
    have hq := HQ.out
    by_cases hlt : k < q
    · have hPr := hP2.keep hb
      have hcut := hPr.cut2 j (j + 64) (by omega) (by omega)
      have hcp := hPr.2.1
      have e64 : j + 64 - j = 64 := by omega
      rw [e64] at hcut
      have SN := Lib.hid (show chain8 P (k + 1) = take8 (chain8 P k) ((P.drop j).take 64) by rw [hj]; rfl)
      have hjl : (j : Int) < (pm : Int) := by omega
      have hj0 : (0 : Int) ≤ (j : Int) := by omega
      have hjb : (j : Int) ≤ 8589934592 := by omega
      have hc1 : j + 64 ≤ pc := by omega
      have hjj : j ≤ j + 64 := by omega
      have hpcr : ∀ x ∈ (P.drop j).take 64, 0 ≤ x ∧ x < 256 := fun x hxm => hpr x (List.mem_of_mem_drop (List.mem_of_mem_take hxm))
      have h64' : ((j : Int) + 64) = ((j + 64 : Nat) : Int) := by omega
      clear hj hPr hcp hq e64 h64'
      have hca : cutAddr (some (⟨pg, poff, none⟩ : Addr)) pc j = some ⟨pg, poff + j, none⟩ := by unfold cutAddr; rw [if_neg (by omega), Option.map_some, Addr.add_mid]
      rw [hca] at hcut
      have hadd : (⟨pg, poff, none⟩ : Addr).add j = ⟨pg, poff + j, none⟩ := Addr.add_mid _ _ _
      have hnc : ¬ pc = j := by omega
      clear hca
      go_wp2_with fail
      refine (refTake_any (chain8 P k) A c (some ⟨pg, poff + j, none⟩) (pc - j) ((P.drop j).take 64) wr (chain8_ok _ _) hA hcut hpcr).mono ?_
      rintro e w3 ⟨tb, tc, rfl, hT, hb3⟩
      rw [← SN.out] at hT
      have hb4 : Below w2.heap.size w2 w3 := hb.trans (hb3.mono hb.size)
      go_wp2
      go_roundw
      case rel => exact ⟨k + 1, tb, tc, by omega, by rw [HJ.out]; go_num, rfl, hT, hb4⟩
      case measure => have := HJ.out; have := HQ.out; simp [intOf]; omega
    · have hkq : k = q := by omega
      rw [hkq] at hA
      have hjg : (pm : Int) ≤ (j : Int) := by omega
      clear hkq hj hq
      have hRr := hR2.keep hb hR2.lt
      have hwr : Below w.heap.size w wr := hw2.trans (hb.mono hw2.size)
      have hA' := hA.keep (below1 wr (.cells (zb 32).toArray 23))
      have okr := S8.ok_range (chain8_ok P q)
      go_wp2_with ((with_reducible refine wpList_alloc_blk rfl 23 rfl zeroId ?_))
      refine (refBytes_own A 8 c (chain8 P q).list _ hA' okr (by decide)).mono ?_
      rintro e w5 ⟨xb, xm, xc, rfl, hX, hXo, hb5⟩
      rw [FIN.out] at hX
      have hxm : xm = 32 := by rw [← hX.len, shaSum_length]
      subst hxm
      have hO5 : Blk w5 wr.heap.size 23 (zb 32) := Blk.keep (Blk.new wr 23 (zb 32)) hb5 (by rw [size1]; omega)
      have hR5 : Blk w5 w.heap.size 23 (zb 32) := Blk.keep (hRr.alloc (.cells (zb 32).toArray 23)) hb5 (by rw [size1]; have := hRr.lt; omega)
      have hw5 : Below w.heap.size w w5 := (hwr.alloc hwr.size _).trans (hb5.mono (by rw [size1]; have := hwr.size; omega))
      have hgo : w.heap.size ≤ wr.heap.size := hwr.size
      have hgn : w.heap.size ≠ wr.heap.size := by have := hRr.lt; omega
      obtain ⟨xg, xoff, rfl, -⟩ := hX.at (by omega)
      have hxg : xg ≠ wr.heap.size := by
        have := (hXo.lt xg rfl).1
        rw [size1] at this; omega
      clear hXo
      obtain ⟨X, hXX⟩ : ∃ X, X = (shaSum bs).map (Value.int .u8) := ⟨_, rfl⟩
      have hXl : X.length = 32 := by rw [hXX, List.length_map, shaSum_length]
      have HXX := Lib.hid hXX
      have HXL := Lib.hid hXl
      clear hXX hXl hRr hwr hA' hA
      go_wp2_with fail
      obtain ⟨og, hog⟩ : ∃ og, og = wr.heap.size := ⟨_, rfl⟩
      rw [← hog] at hO5 hgn hxg hgo
      rw [← hog]
      clear hog
      go_loopw [8] (fun i wx => ∃ t : Nat, t ≤ 32 ∧ i = .int .i64 t ∧ Blk wx og 23 (mixed X (zb 32) t) ∧ (wx.heap[xg]? = w5.heap[xg]?) ∧ Blk wx w.heap.size 23 (zb 32) ∧ Below w.heap.size w wx) (fun i _ => 32 - (intOf i).toNat)
      case atStart => exact ⟨0, Nat.zero_le _, rfl, by rw [mixed_zero]; exact hO5, rfl, hR5, hw5⟩
      case round =>
        obtain ⟨t, ht, rfl, hO, hxx, hR, hbx⟩ := hrel
        clear hO5 hR5 hw5
        have HXX2 := Lib.hid hxx
        clear hxx
        by_cases htl : t < 32
        · have cX : wr.cell? ⟨xg, xoff + t, none⟩ = some (.int .u8 ((shaSum bs).getD t 0)) := by
            rw [World.cell?_of_block (w := w5) HXX2.out]; exact hX.cellOf t htl
          have cO := hO.cell t
          rw [mixed_at _ _ _ 32 HXL.out rfl htl] at cO
          have cZ : (zb 32)[t]? = some (.int .u8 0) := by unfold zb; rw [List.getElem?_replicate, if_pos htl]
          rw [cZ] at cO
          have fO := hO.frozen t
          obtain ⟨x, hx0⟩ : ∃ x, x = (shaSum bs).getD t 0 := ⟨_, rfl⟩
          have SET := Lib.hid (mixed_set X (zb 32) t 32 HXL.out rfl htl (.int .u8 x) (by rw [HXX.out, hx0]; exact getElem?_mapInt _ _ _ (by rw [shaSum_length]; exact htl)))
          rw [← hx0] at cX
          clear hx0 cZ
          have t0 : (0 : Int) ≤ (t : Int) := by omega
          have t8 : (t : Int) < 32 := by omega
          go_wp2
          go_roundw
          case rel => exact ⟨t + 1, by omega, by go_num, by rw [← SET.out]; exact hO.set t _, by rw [Below.heap_setCell _ _ _ _ (by simpa using hxg)]; exact HXX2.out, hR.far (by simpa using hgn) _, hbx.setCell hgo _⟩
          case measure => simp [intOf]; omega
        · have hend := Lib.hid (show mixed X (zb 32) t = X by rw [show t = 32 from by omega]; exact mixed_all _ _ _ HXL.out rfl)
          have htge : (32 : Int) ≤ (t : Int) := by omega
          rw [hend.out] at hO
          have HI : IsRow Tryz.prog 23 X.length := by rw [HXL.out]; exact rowId
          have HO1 := Lib.hid (show ∀ v ∈ X, v.oneCell' = true by rw [HXX.out]; exact ints_oneCell' _ _)
          have HOF := Lib.hid (show 0 + X.length ≤ (zb 32).length by rw [HXL.out]; decide)
          go_wp2_with (first
            | ((with_reducible refine wpList_load_blk rfl 23 (.tmp 6) rfl ?_ hO HI rfl ?_); rfl)
            | ((with_reducible refine wpList_store_part rfl 23 (.tmp 2) (.tmp 37) rfl ?_ ?_ hR HI HOF.out HO1.out ?_); rfl; rfl; intro w9 hR9 hg9))
          have hR9' := hR9.cast (overV_all _ _ (by rw [HXL.out]; rfl))
          (try simp only [Exit.inBlock, Exit.then])
          refine bodyPost_ret (results_blk rfl rfl hR9' HI) rfl ?_
          exact ⟨by rw [HXX.out], hbx.trans (below_of_grown hg9 (Nat.le_refl _) hR.lt)⟩
end Go.Proofs.YtagacpjeooaapaaGreatDoor

/-
  What the document's own tags (package miradorref03) come to. Conditions: bytes are numbers from 0 to 255, at most 2^32 - 4096 of them.
-/
namespace Go.Proofs.YtagacpjeooaapaaGreatDoor
open Go.RowKit

theorem own_mono {w : World} {b B : Nat} {e : TypeId} {size : Nat} {v : Value} {n : Nat} {xs : List Value} (h : w.ownsRow B e size v n xs) (hb : b ≤ B) : w.ownsRow b e size v n xs := by
  refine ⟨h.1, ?_⟩
  rcases h.2 with h0 | ⟨g, cap, cur, h1, h2, h3⟩
  · exact .inl h0
  · exact .inr ⟨g, cap, cur, h1, Nat.le_trans hb h2, h3⟩
theorem pad_snoc (key : List Int) (y : Int) (k : Nat) (h : k < 64) : (pad key y).take (k + 1) = (pad key y).take k ++ [bits .xor .u8 ((keyOf key).getD k 0) y] := by
  rw [List.take_succ_eq_append_getElem (by rw [pad_length]; exact h)]
  have h1 := xorAll_getD (keyBlock key) y k (by rw [keyBlock_length]; exact h)
  rw [keyBlock_at key k h] at h1
  rw [← h1, List.getD_eq_getElem?_getD]
  rw [show xorAll (keyBlock key) y = pad key y from rfl, List.getElem?_eq_getElem (by rw [pad_length]; exact h)]
  rfl

set_option maxRecDepth 100000 in
set_option maxHeartbeats 800000 in
theorem refBlock_any (a : Option Addr) (n cap : Nat) (key : List Int) (y : Int) (w : World) (h : Ints .u8 w a n cap key) (hx : ∀ x ∈ key, 0 ≤ x ∧ x < 256) (hn : n ≤ 4294967296) :
    Calls Tryz.prog 33 #[.slice a n cap, .int .u8 y] w fun e w' => ∃ v, e = .returned v ∧ w'.ownsRow w.heap.size 5 1 v 64 ((pad key y).map (Value.int .u8)) ∧ Below w.heap.size w w' := by
  obtain ⟨i0, hi, hz0, hz1, hz2⟩ := info_parts infoU8
  have hl := Lib.hid h.len
  by_cases hbig : 64 < n
  · have hbI : (64 : Int) < (n : Int) := by omega
    have hko : keyOf key = shaSum key := keyOf_long (by rw [hl.out]; exact hbig)
    go_enter Tryz.func33, Tryz.ntmps33
    go_wp2_with fail
    refine (refSum_any a n cap key w h hx hn).mono ?_
    rintro e w1 ⟨rfl, hb1⟩
    rw [← hko]
    obtain ⟨X, hX⟩ : ∃ X, X = (keyOf key).map (Value.int .u8) := ⟨_, rfl⟩
    have hXl : X.length = 32 := by rw [hX, List.length_map, hko, shaSum_length]
    have hKl : (keyOf key).length = 32 := by rw [hko, shaSum_length]
    rw [← hX]
    have HX := Lib.hid hX
    have HI : IsRow Tryz.prog 23 X.length := by rw [hXl]; exact rowId
    have HO1 := Lib.hid (show ∀ v ∈ X, v.oneCell' = true by rw [hX]; exact ints_oneCell' _ _)
    have HOF := Lib.hid (show 0 + X.length ≤ (zb 32).length by rw [hXl]; decide)
    have HXL := Lib.hid hXl; have HKL := Lib.hid hKl
    clear hX hXl hKl hko
    go_wp2_with ((with_reducible refine wpList_alloc_blk rfl 23 rfl zeroId ?_)
                 refine wpList_store_part (g := w1.heap.size) (off := 0) (t := 23) (cur := zb 32) (cs := X) rfl 23 (.tmp 6) (.tmp 13) rfl ?_ ?_ (Blk.new w1 _ (zb 32)) HI ?_ HO1.out ?_
                 rfl
                 rfl
                 exact HOF.out
                 intro w2 hX' hg2)
    have hB2 := hX'.cast (overV_all _ _ (by rw [HXL.out]; rfl))
    have hb2 : Below w.heap.size w w2 := hb1.trans (((below1 w1 _).trans (below_of_grown hg2 (Nat.le_refl _) (by rw [size1]; omega))).mono hb1.size)
    have hK : Ints .u8 w2 (some ⟨w1.heap.size, 0, none⟩) 32 32 (keyOf key) := Ints.of_blk hB2 HKL.out (Nat.le_refl _) (fun i hi => by rw [HX.out, Nat.zero_add]; exact getElem?_mapInt _ _ _ (by rw [HKL.out]; exact hi))
    clear hX' hg2 hB2 hb1
    go_wp2_with fail
    go_loopw [5, 7] (fun v i wr => ∃ k : Nat, k ≤ 64 ∧ i = .int .i64 k ∧ wr.ownsRow w2.heap.size 5 1 v k (((pad key y).take k).map (Value.int .u8)) ∧ Below w2.heap.size w2 wr) (fun _ i _ => 64 - (intOf i).toNat)
    case atStart => exact ⟨0, Nat.zero_le _, rfl, World.ownsRow_nil _ _ _ _, Below.refl _ _⟩
    case round =>
      obtain ⟨k, hk, rfl, hown, hb⟩ := hrel
      by_cases hlt : k < 64
      · have SN := Lib.hid (pad_snoc key y k hlt)
        have kl : (k : Int) < 64 := by omega
        have k0 : (0 : Int) ≤ (k : Int) := by omega
        by_cases hin : k < 32
        · have hinI : (k : Int) < ((32 : Nat) : Int) := by omega
          obtain ⟨x, hx0⟩ : ∃ x, x = (keyOf key).getD k 0 := ⟨_, rfl⟩
          have hkr := hK.keep hb
          have ck := hkr.cellOf k hin
          rw [Nat.zero_add] at ck
          rw [← hx0] at ck SN
          clear hx0 hkr
          go_wp2_with (at_builtin; refine wpList_append_ints rfl (.tmp 27) (.tmp 31) 24 rfl w2.heap.size 5 i0 (.int .u8 0) 1 Tryz.underlying24 hi hz0 hz1 hz2 rfl rfl (hown.alloc _) rfl (one_at _ _ _ _) ?_ ?_ (by have := hb.size; simp; omega) ?_; (unfold maxLen; omega); omega; intro v3 w3 hown3 hg3)
          have hown4 : w3.ownsRow w2.heap.size 5 1 v3 (k + 1) (((pad key y).take (k + 1)).map (Value.int .u8)) := by
            rw [SN.out, List.map_append]; exact hown3
          have hb4 : Below w2.heap.size w2 w3 := (hb.alloc hb.size _).grown hg3 (by have := hb.size; simp; omega) (fun q hq => (hown.lt q hq).1)
          go_wp2
          go_roundw
          case rel => exact ⟨k + 1, by omega, by go_num, hown4, hb4⟩
          case measure => simp [intOf]; omega
        · have hinI : ((32 : Nat) : Int) ≤ (k : Int) := by omega
          have hx0 : (keyOf key).getD k 0 = 0 := by
            rw [List.getD_eq_getElem?_getD, List.getElem?_eq_none (by rw [hK.len]; omega)]; rfl
          rw [hx0] at SN
          clear hx0
          go_wp2_with (at_builtin; refine wpList_append_ints rfl (.tmp 27) (.tmp 31) 24 rfl w2.heap.size 5 i0 (.int .u8 0) 1 Tryz.underlying24 hi hz0 hz1 hz2 rfl rfl (hown.alloc _) rfl (one_at _ _ _ _) ?_ ?_ (by have := hb.size; simp; omega) ?_; (unfold maxLen; omega); omega; intro v3 w3 hown3 hg3)
          have hown4 : w3.ownsRow w2.heap.size 5 1 v3 (k + 1) (((pad key y).take (k + 1)).map (Value.int .u8)) := by
            rw [SN.out, List.map_append]; exact hown3
          have hb4 : Below w2.heap.size w2 w3 := (hb.alloc hb.size _).grown hg3 (by have := hb.size; simp; omega) (fun q hq => (hown.lt q hq).1)
          go_wp2
          go_roundw
          case rel => exact ⟨k + 1, by omega, by go_num, hown4, hb4⟩
          case measure => simp [intOf]; omega
      · obtain rfl : k = 64 := by omega
        rw [List.take_of_length_le (by rw [pad_length]; exact Nat.le_refl _)] at hown
        clear hlt hk
        go_wp2
        go_ret
        exact ⟨_, rfl, own_mono hown hb2.size, hb2.trans (hb.mono hb2.size)⟩
  · have hbI : (n : Int) ≤ 64 := by omega
    have hko : keyOf key = key := keyOf_short (by rw [hl.out]; exact hbig)
    obtain ⟨w2, hw2⟩ : ∃ w2, w2 = w := ⟨_, rfl⟩
    have hb2 : Below w.heap.size w w2 := by rw [hw2]; exact Below.refl _ _
    have hK : Ints .u8 w2 a n cap (keyOf key) := by rw [hko, hw2]; exact h
    rw [show Calls Tryz.prog 33 #[.slice a n cap, .int .u8 y] w = Calls Tryz.prog 33 #[.slice a n cap, .int .u8 y] w2 by rw [hw2]]
    clear hko hw2 h hl
    go_enter Tryz.func33, Tryz.ntmps33
    go_wp2_with fail
    go_loopw [5, 7] (fun v i wr => ∃ k : Nat, k ≤ 64 ∧ i = .int .i64 k ∧ wr.ownsRow w2.heap.size 5 1 v k (((pad key y).take k).map (Value.int .u8)) ∧ Below w2.heap.size w2 wr) (fun _ i _ => 64 - (intOf i).toNat)
    case atStart => exact ⟨0, Nat.zero_le _, rfl, World.ownsRow_nil _ _ _ _, Below.refl _ _⟩
    case round =>
      obtain ⟨k, hk, rfl, hown, hb⟩ := hrel
      by_cases hlt : k < 64
      · have SN := Lib.hid (pad_snoc key y k hlt)
        have kl : (k : Int) < 64 := by omega
        have k0 : (0 : Int) ≤ (k : Int) := by omega
        by_cases hin : k < n
        · have hinI : (k : Int) < ((n : Nat) : Int) := by omega
          obtain ⟨x, hx0⟩ : ∃ x, x = (keyOf key).getD k 0 := ⟨_, rfl⟩
          have hkr := hK.keep hb
          obtain ⟨b, off, rfl, hc⟩ := hkr.at (by omega)
          have ck := hc k hin
          clear hc
          rw [← hx0] at ck SN
          clear hx0 hkr
          go_wp2_with (at_builtin; refine wpList_append_ints rfl (.tmp 27) (.tmp 31) 24 rfl w2.heap.size 5 i0 (.int .u8 0) 1 Tryz.underlying24 hi hz0 hz1 hz2 rfl rfl (hown.alloc _) rfl (one_at _ _ _ _) ?_ ?_ (by have := hb.size; simp; omega) ?_; (unfold maxLen; omega); omega; intro v3 w3 hown3 hg3)
          have hown4 : w3.ownsRow w2.heap.size 5 1 v3 (k + 1) (((pad key y).take (k + 1)).map (Value.int .u8)) := by
            rw [SN.out, List.map_append]; exact hown3
          have hb4 : Below w2.heap.size w2 w3 := (hb.alloc hb.size _).grown hg3 (by have := hb.size; simp; omega) (fun q hq => (hown.lt q hq).1)
          go_wp2
          go_roundw
          case rel => exact ⟨k + 1, by omega, by go_num, hown4, hb4⟩
          case measure => simp [intOf]; omega
        · have hinI : ((n : Nat) : Int) ≤ (k : Int) := by omega
          have hx0 : (keyOf key).getD k 0 = 0 := by
            rw [List.getD_eq_getElem?_getD, List.getElem?_eq_none (by rw [hK.len]; omega)]; rfl
          rw [hx0] at SN
          clear hx0
          go_wp2_with (at_builtin; refine wpList_append_ints rfl (.tmp 27) (.tmp 31) 24 rfl w2.heap.size 5 i0 (.int .u8 0) 1 Tryz.underlying24 hi hz0 hz1 hz2 rfl rfl (hown.alloc _) rfl (one_at _ _ _ _) ?_ ?_ (by have := hb.size; simp; omega) ?_; (unfold maxLen; omega); omega; intro v3 w3 hown3 hg3)
          have hown4 : w3.ownsRow w2.heap.size 5 1 v3 (k + 1) (((pad key y).take (k + 1)).map (Value.int .u8)) := by
            rw [SN.out, List.map_append]; exact hown3
          have hb4 : Below w2.heap.size w2 w3 := (hb.alloc hb.size _).grown hg3 (by have := hb.size; simp; omega) (fun q hq => (hown.lt q hq).1)
          go_wp2
          go_roundw
          case rel => exact ⟨k + 1, by omega, by go_num, hown4, hb4⟩
          case measure => simp [intOf]; omega
      · obtain rfl : k = 64 := by omega
        rw [List.take_of_length_le (by rw [pad_length]; exact Nat.le_refl _)] at hown
        clear hlt hk
        go_wp2
        go_ret
        exact ⟨_, rfl, own_mono hown hb2.size, hb2.trans (hb.mono hb2.size)⟩
end Go.Proofs.YtagacpjeooaapaaGreatDoor

/-
  What the function sha.Sum of parts comes to: the hash of all parts, one behind the other; and the method Sum of a nil hash. Conditions: the package's variables hold the constants and the starts; fewer than 2^32 - 128 bytes in all.
-/
namespace Go.Proofs.YtagacpjeooaapaaGreatDoor
open Go.RowKit

set_option maxRecDepth 100000 in
set_option maxHeartbeats 800000 in
theorem sumFn_any (a : Option Addr) (n cap : Nat) (ps : List (List Int)) (w : World) (hP : Parts w a n cap ps) (hr : ∀ p ∈ ps, ∀ x ∈ p, 0 ≤ x ∧ x < 256) (hG : Glob w) (ht : ps.flatten.length ≤ 4294967168) (hn : n ≤ 4294967296) :
    Calls Tryz.prog 21 #[.slice a n cap] w fun e w' => e = .returned (.agg ((shaSum ps.flatten).map (Value.int .u8)).toArray) ∧ Below w.heap.size w w' := by
  have hl := hP.len
  go_enter Tryz.func21, Tryz.ntmps21
  go_wp2_with ((with_reducible refine wpList_alloc_blk rfl 23 rfl zeroId ?_))
  refine (new_any _ (hG.keep (below1 _ _) (Nat.le_refl _))).mono ?_
  rintro e w1 ⟨rfl, hH1, hb1⟩
  rw [size1] at hH1 hb1
  have hR1 : Blk w1 w.heap.size 23 (zb 32) := Blk.keep (Blk.new w 23 (zb 32)) hb1 (by omega)
  have hb : Below w.heap.size w w1 := (below1 _ _).trans (hb1.mono (by omega))
  have hz1 := hH1.lt
  have sz : (w.alloc (.cells (zb 32).toArray 23)).heap.size = w.heap.size + 1 := size1 _ _
  clear hb1
  go_wp2_with fail
  go_loopw [9] (fun i wr => ∃ k : Nat, k ≤ n ∧ i = .int .i64 k ∧ HashAt wr (w.heap.size + 1) (ps.take k).flatten ∧ Blk wr w.heap.size 23 (zb 32) ∧ Below w.heap.size w wr) (fun i _ => n - (intOf i).toNat)
  case atStart => exact ⟨0, Nat.zero_le _, rfl, hH1, hR1, hb⟩
  case round =>
    obtain ⟨k, hk, rfl, hH, hR, hbr⟩ := hrel
    have hGr := hG.keep hbr (Nat.le_refl _)
    by_cases hlt : k < n
    · obtain ⟨b, off, rfl, hc⟩ := (hP.keep hbr).at (by omega)
      obtain ⟨A, m, c, hck, hI⟩ := hc k hlt
      obtain ⟨A', m', c', hck', hI'⟩ : ∃ A' m' c', w.cell? ⟨b, off + k, none⟩ = some (.slice A' m' c') ∧ Ints .u8 w A' m' c' (ps.getD k []) := by
        obtain ⟨b', off', e', hc'⟩ := hP.at (by omega)
        injection e' with e'
        injection e' with e1 e2
        subst e1; subst e2
        exact hc' k hlt
      have hsame : wr.cell? ⟨b, off + k, none⟩ = some (.slice A' m' c') := by rw [hbr.cell (World.block_lt_of_cell? w _ hck')]; exact hck'
      rw [hck] at hsame
      injection hsame with hsame
      injection hsame with e1 e2 e3
      subst e1; subst e2; subst e3
      have hin := hI'.isIn.2
      have SN := Lib.hid (flatten_snoc ps k (by omega))
      have hlen := Lib.hid (show (ps.take k).flatten.length + m ≤ 4294967296 by
        have h1 := flatten_take_le ps (k + 1)
        rw [SN.out, List.length_append, hI.len] at h1
        omega)
      have hrk := Lib.hid (getD_mem_range hr k)
      have HI := Lib.hid hI
      have HIN := Lib.hid hin
      clear hc hck' hI' hI hin
      go_wp2_with fail
      refine (write_any (w.heap.size + 1) _ _ m _ _ wr hH hGr HI.out hrk.out (fun x hx hm => by have := HIN.out x hx hm; omega) hlen.out).mono ?_
      rintro e w4 ⟨rfl, hH4, hg4⟩
      have hR4 := hR.grown hg4 (by intro e; injection e; omega)
      have hb4 : Below w.heap.size w w4 := hbr.trans (below_of_grown hg4 (by omega) hH.lt)
      go_wp2
      go_roundw
      case rel => exact ⟨k + 1, by omega, by go_num, by rw [SN.out]; exact hH4, hR4, hb4⟩
      case measure => simp [intOf]; omega
    · have hend := Lib.hid (show ps.take k = ps from List.take_of_length_le (by omega))
      have hge : (n : Int) ≤ (k : Int) := by omega
      rw [hend.out] at hH
      go_wp2_with fail
      refine (hsum_any (w.heap.size + 1) ps.flatten wr hH hGr ht).mono ?_
      rintro e w5 ⟨rfl, hb5⟩
      have hR5 := hR.keep hb5 hR.lt
      obtain ⟨out, hout⟩ : ∃ out, out = (shaSum ps.flatten).map (Value.int .u8) := ⟨_, rfl⟩
      have hol : out.length = 32 := by rw [hout, List.length_map, shaSum_length]
      rw [← hout]
      have HO := Lib.hid hout
      have HOL := Lib.hid hol
      have HI : IsRow Tryz.prog 23 out.length := by rw [hol]; exact rowId
      have HO1 := Lib.hid (show ∀ v ∈ out, v.oneCell' = true by rw [hout]; exact ints_oneCell' _ _)
      have HOF := Lib.hid (show 0 + out.length ≤ (zb 32).length by rw [hol]; decide)
      clear hout hol
      go_wp2_with ((with_reducible refine wpList_store_part rfl 23 (.tmp 2) (.tmp 18) rfl ?_ ?_ hR5 HI HOF.out HO1.out ?_); rfl; rfl; intro w9 hR9 hg9)
      have hR9' := hR9.cast (overV_all _ _ (by rw [HOL.out]; rfl))
      (try simp only [Exit.inBlock, Exit.then])
      refine bodyPost_ret (results_blk rfl rfl hR9' HI) rfl ?_
      exact ⟨by rw [HO.out], (hbr.trans (hb5.mono hbr.size)).trans (below_of_grown hg9 (Nat.le_refl _) hR5.lt)⟩

set_option maxRecDepth 100000 in
set_option maxHeartbeats 400000 in
theorem hsumNil_any (w : World) (hG : Glob w) : Calls Tryz.prog 36 #[.pointer none] w fun e w' => e = .returned (.agg ((shaSum []).map (Value.int .u8)).toArray) ∧ Below w.heap.size w w' := by
  go_enter Tryz.func36, Tryz.ntmps36
  go_wp2_with ((with_reducible refine wpList_alloc_blk rfl 23 rfl zeroId ?_))
  refine (sumFn_any none 0 0 [] _ (parts_nil _ _) (by simp) (hG.keep (below1 _ _) (Nat.le_refl _)) (by simp) (by decide)).mono ?_
  rintro e w5 ⟨rfl, hb5⟩
  have hR5 : Blk w5 w.heap.size 23 (zb 32) := Blk.keep (Blk.new w 23 (zb 32)) hb5 (by rw [size1]; omega)
  have hb6 : Below w.heap.size w w5 := (below1 _ _).trans (hb5.mono (by rw [size1]; omega))
  rw [show ([] : List (List Int)).flatten = [] from rfl]
  obtain ⟨out, hout⟩ : ∃ out, out = (shaSum []).map (Value.int .u8) := ⟨_, rfl⟩
  have hol : out.length = 32 := by rw [hout, List.length_map, shaSum_length]
  rw [← hout]
  have HO := Lib.hid hout
  have HOL := Lib.hid hol
  have HI : IsRow Tryz.prog 23 out.length := by rw [hol]; exact rowId
  have HO1 := Lib.hid (show ∀ v ∈ out, v.oneCell' = true by rw [hout]; exact ints_oneCell' _ _)
  have HOF := Lib.hid (show 0 + out.length ≤ (zb 32).length by rw [hol]; decide)
  clear hout hol hb5
  go_wp2_with ((with_reducible refine wpList_store_part rfl 23 (.tmp 2) (.tmp 7) rfl ?_ ?_ hR5 HI HOF.out HO1.out ?_); rfl; rfl; intro w9 hR9 hg9)
  have hR9' := hR9.cast (overV_all _ _ (by rw [HOL.out]; rfl))
  (try simp only [Exit.inBlock, Exit.then])
  refine bodyPost_ret (results_blk rfl rfl hR9' HI) rfl ?_
  exact ⟨by rw [HO.out], hb6.trans (below_of_grown hg9 (Nat.le_refl _) hR5.lt)⟩
end Go.Proofs.YtagacpjeooaapaaGreatDoor

/-
  What package mac's blockOf and told come to: a key's block; a hash that was told a block, each byte xor a number. Conditions: bytes are numbers from 0 to 255, at most 2^32 of them; the package's variables hold the constants and the starts.
-/
namespace Go.Proofs.YtagacpjeooaapaaGreatDoor
open Go.RowKit

theorem zeroBlk : Zero Tryz.prog 104 (zb 64) := by unfold Zero; kernel_rfl
theorem sizeBlk : (Tryz.prog.info? 104).map (·.size) = some 64 := by kernel_rfl
theorem rowBlk : IsRow Tryz.prog 104 64 := IsRow.array Tryz.underlying104 sizeBlk
theorem keyBlock_over (key : List Int) (N : Nat) (h : (keyOf key).length = N) : overV (zb 64) 0 (((keyOf key).take N).map (Value.int .u8)) = (keyBlock key).map (Value.int .u8) := by
  have hle := keyOf_le key
  unfold overV keyBlock zb
  rw [List.take_of_length_le (l := keyOf key) (by omega), List.take_zero, List.nil_append, List.length_map, Nat.zero_add, List.drop_replicate, List.map_append, List.map_replicate, h]
theorem one_part (w : World) (A : Option Addr) (m c : Nat) (xs : List Int) (hx : Ints .u8 w A m c xs) (t : TypeId) : Parts (w.alloc (.cells #[.slice A m c] t)) (some ⟨w.heap.size, 0, none⟩) 1 1 [xs] :=
  Parts.of_blk (Blk.new w t [.slice A m c]) rfl (fun i hi => by
    rcases i with _ | i
    · exact ⟨A, m, c, rfl, hx.keep (below1 _ _)⟩
    · omega)

set_option maxRecDepth 100000 in
set_option maxHeartbeats 800000 in
theorem blockOf_any (a : Option Addr) (n cap : Nat) (key : List Int) (w : World) (hG : Glob w) (h : Ints .u8 w a n cap key) (hx : ∀ x ∈ key, 0 ≤ x ∧ x < 256) (hn : n ≤ 4294967168) :
    Calls Tryz.prog 53 #[.slice a n cap] w fun e w' => e = .returned (.agg ((keyBlock key).map (Value.int .u8)).toArray) ∧ Below w.heap.size w w' := by
  have hl := Lib.hid h.len
  obtain ⟨X, hX⟩ : ∃ X, X = (keyBlock key).map (Value.int .u8) := ⟨_, rfl⟩
  have hXl : X.length = 64 := by rw [hX, List.length_map, keyBlock_length]
  rw [← hX]
  have HX := Lib.hid hX; have HXL := Lib.hid hXl
  have HI : IsRow Tryz.prog 104 X.length := by rw [hXl]; exact rowBlk
  have HO1 := Lib.hid (show ∀ v ∈ X, v.oneCell' = true by rw [hX]; exact ints_oneCell' _ _)
  have HOF := Lib.hid (show 0 + X.length ≤ (zb 64).length by rw [hXl]; decide)
  clear hX hXl
  have hb0 := below2 w (.cells (zb 64).toArray 104) (.cells (zb 64).toArray 104)
  have R0 : Blk ((w.alloc (.cells (zb 64).toArray 104)).alloc (.cells (zb 64).toArray 104)) w.heap.size 104 (zb 64) := (Blk.new w 104 (zb 64)).alloc _
  have B0 : Blk ((w.alloc (.cells (zb 64).toArray 104)).alloc (.cells (zb 64).toArray 104)) (w.heap.size + 1) 104 (zb 64) := Blk.new1 w _ _ (zb 64)
  by_cases hbig : 64 < n
  · have hbI : (64 : Int) < (n : Int) := by omega
    have hko : keyOf key = shaSum key := keyOf_long (by rw [hl.out]; exact hbig)
    have P0 := one_part _ a n cap key (h.keep hb0) 24
    rw [size2] at P0
    have hbP := hb0.alloc hb0.size (.cells #[.slice a n cap] 24)
    have hGP := hG.keep hbP (Nat.le_refl _)
    have RP := R0.alloc (.cells #[.slice a n cap] 24)
    have BP := B0.alloc (.cells #[.slice a n cap] 24)
    have hs3 := size3 w (.cells (zb 64).toArray 104) (.cells (zb 64).toArray 104) (.cells #[.slice a n cap] 24)
    go_enter Tryz.func53, Tryz.ntmps53
    go_wp2_with (with_reducible refine wpList_alloc_blk rfl 104 rfl zeroBlk ?_)
    refine (sumFn_any _ 1 1 [key] _ P0 (by simpa using hx) hGP (by simp; rw [hl.out]; omega) (by decide)).mono ?_
    rintro e w1 ⟨rfl, hb1⟩
    rw [show ([key] : List (List Int)).flatten = key by simp, ← hko]
    have R1 := RP.keep hb1 RP.lt
    have B1 := BP.keep hb1 BP.lt
    have hw1 : Below w.heap.size w w1 := hbP.trans (hb1.mono hbP.size)
    clear P0 hbP hGP RP BP hb1 R0 B0 hb0 hs3
    obtain ⟨Y, hY⟩ : ∃ Y, Y = (keyOf key).map (Value.int .u8) := ⟨_, rfl⟩
    have hYl : Y.length = 32 := by rw [hY, List.length_map, hko, shaSum_length]
    have hKl : (keyOf key).length = 32 := by rw [hko, shaSum_length]
    rw [← hY]
    have HY := Lib.hid hY
    have HJ : IsRow Tryz.prog 23 Y.length := by rw [hYl]; exact rowId
    have HP1 := Lib.hid (show ∀ v ∈ Y, v.oneCell' = true by rw [hY]; exact ints_oneCell' _ _)
    have HPF := Lib.hid (show 0 + Y.length ≤ (zb 32).length by rw [hYl]; decide)
    have HYL := Lib.hid hYl; have HKL := Lib.hid hKl
    clear hY hYl hKl hko
    go_wp2_with ((with_reducible refine wpList_alloc_blk rfl 23 rfl zeroId ?_)
                 refine wpList_store_part (g := w1.heap.size) (off := 0) (t := 23) (cur := zb 32) (cs := Y) rfl 23 (.tmp 4) (.tmp 10) rfl ?_ ?_ (Blk.new w1 _ (zb 32)) HJ ?_ HP1.out ?_
                 rfl
                 rfl
                 exact HPF.out
                 intro w2 hY' hg2)
    have hB2 := hY'.cast (overV_all _ _ (by rw [HYL.out]; rfl))
    have hb2 : Below w1.heap.size w1 w2 := (below1 w1 _).trans (below_of_grown hg2 (Nat.le_refl _) (by rw [size1]; omega))
    have hw2 : Below w.heap.size w w2 := hw1.trans (hb2.mono hw1.size)
    have R2 := R1.keep hb2 R1.lt
    have B2 := B1.keep hb2 B1.lt
    have hK : Ints .u8 w2 (some ⟨w1.heap.size, 0, none⟩) 32 32 (keyOf key) := Ints.of_blk hB2 HKL.out (Nat.le_refl _) (fun i hi => by rw [HY.out, Nat.zero_add]; exact getElem?_mapInt _ _ _ (by rw [HKL.out]; exact hi))
    have CF : CopyFits w2 (some ⟨w.heap.size + 1, 0, none⟩) (some ⟨w1.heap.size, 0, none⟩) 32 64 (w.heap.size + 1) 0 (zb 64).length (((keyOf key).take 32).map (Value.int .u8)) := hK.copyFits rfl (fun _ => rfl) (by decide)
    clear hY' hg2 hB2 hb2 hw1 R1 B1
    go_wp2_with fail
    refine upon_copy 24 24 3 5 Tryz.underlying24 sizeU8 B2 CF 32 (by simp [HKL.out]) ?_
    intro w3 B3' hg3
    have B3 := B3'.cast ((keyBlock_over key 32 HKL.out).trans HX.out.symm)
    have R3 := R2.grown hg3 (by intro e; injection e; omega)
    go_wp2_with (first
      | ((with_reducible refine wpList_load_blk rfl 104 (.tmp 3) rfl ?_ B3 HI rfl ?_); rfl)
      | ((with_reducible refine wpList_store_part rfl 104 (.tmp 2) (.tmp 15) rfl ?_ ?_ R3 HI HOF.out HO1.out ?_); rfl; rfl; intro w4 R4' hg4))
    have R4 := R4'.cast (overV_all _ _ (by rw [HXL.out]; rfl))
    (try simp only [Exit.inBlock, Exit.then])
    refine bodyPost_ret (results_blk rfl rfl R4 HI) rfl ?_
    exact ⟨rfl, (hw2.trans (below_of_grown hg3 (by omega) B2.lt)).trans (below_of_grown hg4 (Nat.le_refl _) R3.lt)⟩
  · have hbI : (n : Int) ≤ 64 := by omega
    have hko : keyOf key = key := keyOf_short (by rw [hl.out]; exact hbig)
    have hK : Ints .u8 ((w.alloc (.cells (zb 64).toArray 104)).alloc (.cells (zb 64).toArray 104)) a n cap (keyOf key) := by rw [hko]; exact h.keep hb0
    have HKL := Lib.hid (show (keyOf key).length = n by rw [hko]; exact hl.out)
    have CF : CopyFits ((w.alloc (.cells (zb 64).toArray 104)).alloc (.cells (zb 64).toArray 104)) (some ⟨w.heap.size + 1, 0, none⟩) a n 64 (w.heap.size + 1) 0 (zb 64).length (((keyOf key).take n).map (Value.int .u8)) := hK.copyFits (by show n = min n 64; omega) (fun _ => rfl) (by show 0 + n ≤ 64; omega)
    have HCL := Lib.hid (show (((keyOf key).take n).map (Value.int .u8)).length = n by rw [List.length_map, List.length_take, HKL.out]; omega)
    clear hko
    go_enter Tryz.func53, Tryz.ntmps53
    go_wp2_with (first
      | (with_reducible refine wpList_alloc_blk rfl 104 rfl zeroBlk ?_)
      | (refine wpList_arr rfl 104 5 64 (.tmp 3) rfl Tryz.underlying104 sizeU8 rfl ?_; refine wpList_mv rfl (.tmp 0) rfl rfl ?_; refine wpList_copy_num rfl (.tmp 12) (.tmp 13) 24 24 rfl 5 Tryz.underlying24 sizeU8 rfl rfl B0 CF n HCL.out ?_; intro w3 B3' hg3; have B3 := B3'.cast ((keyBlock_over key n HKL.out).trans HX.out.symm); have R3 := R0.grown hg3 (by intro e; injection e; omega))
      | ((with_reducible refine wpList_load_blk rfl 104 (.tmp 3) rfl ?_ B3 HI rfl ?_); rfl)
      | ((with_reducible refine wpList_store_part rfl 104 (.tmp 2) (.tmp 15) rfl ?_ ?_ R3 HI HOF.out HO1.out ?_); rfl; rfl; intro w4 R4' hg4))
    have R4 := R4'.cast (overV_all _ _ (by rw [HXL.out]; rfl))
    (try simp only [Exit.inBlock, Exit.then])
    refine bodyPost_ret (results_blk rfl rfl R4 HI) rfl ?_
    exact ⟨rfl, (hb0.trans (below_of_grown hg3 (by omega) B0.lt)).trans (below_of_grown hg4 (Nat.le_refl _) R3.lt)⟩

set_option maxRecDepth 100000 in
set_option maxHeartbeats 800000 in
theorem told_any (bs : List Int) (y : Int) (w : World) (hG : Glob w) (hl : bs.length = 64) :
    Calls Tryz.prog 54 #[.agg (bs.map (Value.int .u8)).toArray, .int .u8 y] w fun e w' => ∃ g, e = .returned (.pointer (some ⟨g, 0, none⟩)) ∧ w.heap.size ≤ g ∧ HashAt w' g (xorAll bs y) ∧ Below w.heap.size w w' := by
  obtain ⟨Z, hZ⟩ : ∃ Z, Z = bs.map (Value.int .u8) := ⟨_, rfl⟩
  obtain ⟨X, hX⟩ : ∃ X, X = (xorAll bs y).map (Value.int .u8) := ⟨_, rfl⟩
  have HZL := Lib.hid (show Z.length = 64 by rw [hZ, List.length_map, hl])
  have HXL := Lib.hid (show X.length = 64 by rw [hX, List.length_map, xorAll_length, hl])
  rw [← hZ]
  have HZ := Lib.hid hZ; have HX := Lib.hid hX; have HL := Lib.hid hl
  clear hZ hX hl
  have B0 := Blk.new w 104 Z
  go_enter Tryz.func54, Tryz.ntmps54
  go_wp2_with fail
  go_loopw [7] (fun i wr => ∃ k : Nat, k ≤ 64 ∧ i = .int .i64 k ∧ Blk wr w.heap.size 104 (mixed X Z k) ∧ Below w.heap.size w wr) (fun i _ => 64 - (intOf i).toNat)
  case atStart => exact ⟨0, Nat.zero_le _, rfl, by rw [mixed_zero]; exact B0, below1 _ _⟩
  case round =>
    obtain ⟨k, hk, rfl, hB, hb⟩ := hrel
    clear B0
    by_cases hlt : k < 64
    · have ck := hB.cell k
      rw [mixed_at _ _ _ 64 HXL.out HZL.out hlt, HZ.out, getElem?_mapInt _ _ _ (by rw [HL.out]; exact hlt)] at ck
      have fk := hB.frozen k
      obtain ⟨x, hx0⟩ : ∃ x, x = bs.getD k 0 := ⟨_, rfl⟩
      have SET := Lib.hid (mixed_set X Z k 64 HXL.out HZL.out hlt (.int .u8 (bits .xor .u8 x y)) (by rw [HX.out, hx0, getElem?_mapInt _ _ _ (by rw [xorAll_length, HL.out]; exact hlt), xorAll_getD _ _ _ (by rw [HL.out]; exact hlt)]))
      rw [← hx0] at ck
      clear hx0
      have k0 : (0 : Int) ≤ (k : Int) := by omega
      have k1 : (k : Int) < 64 := by omega
      go_wp2
      go_roundw
      case rel => exact ⟨k + 1, by omega, by go_num, by rw [← SET.out]; exact hB.set k _, hb.setCell (Nat.le_refl _) _⟩
      case measure => simp [intOf]; omega
    · obtain rfl : k = 64 := by omega
      rw [mixed_all _ _ _ HXL.out HZL.out] at hB
      clear hlt hk
      have hGr := hG.keep hb (Nat.le_refl _)
      go_wp2_with fail
      refine (new_any wr hGr).mono ?_
      rintro e w1 ⟨rfl, H1, hb1⟩
      have G1 := hGr.keep hb1 (Nat.le_refl _)
      have B1 := hB.keep hb1 hB.lt
      have I1 : Ints .u8 w1 (some ⟨w.heap.size, 0, none⟩) 64 64 (xorAll bs y) := Ints.of_blk B1 (by rw [xorAll_length]; exact HL.out) (Nat.le_refl _) (fun i hi => by rw [HX.out, Nat.zero_add]; exact getElem?_mapInt _ _ _ (by rw [xorAll_length, HL.out]; exact hi))
      have hgl := hB.lt
      go_wp2_with fail
      refine (write_any wr.heap.size [] _ 64 64 (xorAll bs y) w1 H1 G1 I1 (xorAll_range _ _) (fun x hx _ => by injection hx with hx; subst hx; simp; omega) (by simp)).mono ?_
      rintro e w2 ⟨rfl, H2, hg2⟩
      rw [List.nil_append] at H2
      go_wp2
      go_ret
      exact ⟨_, rfl, hb.size, H2, (hb.trans (hb1.mono hb.size)).trans (below_of_grown hg2 hb.size H1.lt)⟩
end Go.Proofs.YtagacpjeooaapaaGreatDoor

/-
  What package mac's by, tag, Of, Check and Equal come to. Conditions: bytes are numbers from 0 to 255, fewer than 2^32 - 4096 of them; the package's variables hold the constants and the starts.
-/
namespace Go.Proofs.YtagacpjeooaapaaGreatDoor
open Go.RowKit

theorem zeroKeyed : Zero Tryz.prog 60 [.pointer none, .pointer none] := by unfold Zero; kernel_rfl
theorem sizeKeyed : (Tryz.prog.info? 60).map (·.size) = some 2 := by kernel_rfl
theorem rowKeyed : IsRow Tryz.prog 60 2 := IsRow.struct Tryz.underlying60 sizeKeyed

set_option maxRecDepth 100000 in
set_option maxHeartbeats 1600000 in
theorem by_any (a : Option Addr) (n cap : Nat) (key : List Int) (w : World) (hG : Glob w) (h : Ints .u8 w a n cap key) (hx : ∀ x ∈ key, 0 ≤ x ∧ x < 256) (hn : n ≤ 4294967168) :
    Calls Tryz.prog 29 #[.slice a n cap] w fun e w' => ∃ g1 g2, e = .returned (.agg #[.pointer (some ⟨g1, 0, none⟩), .pointer (some ⟨g2, 0, none⟩)]) ∧ w.heap.size ≤ g1 ∧ g1 < g2 ∧ HashAt w' g1 (pad key 54) ∧ HashAt w' g2 (pad key 92) ∧ Below w.heap.size w w' := by
  have R0 := Blk.new w 60 [.pointer none, .pointer none]
  have b0 := below1 w (.cells #[.pointer none, .pointer none] 60)
  go_enter Tryz.func29, Tryz.ntmps29
  go_wp2_with (with_reducible refine wpList_alloc_blk rfl 60 rfl zeroKeyed ?_)
  refine (blockOf_any a n cap key _ (hG.keep b0 (Nat.le_refl _)) (h.keep b0) hx hn).mono ?_
  rintro e w1 ⟨rfl, hb1⟩
  have R1 : Blk w1 w.heap.size 60 [.pointer none, .pointer none] := Blk.keep R0 hb1 (by rw [size1]; omega)
  have hw1 : Below w.heap.size w w1 := b0.trans (hb1.mono (by rw [size1]; omega))
  clear hb1 R0 b0
  obtain ⟨X, hX⟩ : ∃ X, X = (keyBlock key).map (Value.int .u8) := ⟨_, rfl⟩
  have hXl : X.length = 64 := by rw [hX, List.length_map, keyBlock_length]
  rw [← hX]
  have HX := Lib.hid hX; have HXL := Lib.hid hXl
  have HI : IsRow Tryz.prog 104 X.length := by rw [hXl]; exact rowBlk
  have HO1 := Lib.hid (show ∀ v ∈ X, v.oneCell' = true by rw [hX]; exact ints_oneCell' _ _)
  have HOF := Lib.hid (show 0 + X.length ≤ (zb 64).length by rw [hXl]; decide)
  clear hX hXl
  go_wp2_with ((with_reducible refine wpList_alloc_blk rfl 104 rfl zeroBlk ?_)
               refine wpList_store_part (g := w1.heap.size) (off := 0) (t := 104) (cur := zb 64) (cs := X) rfl 104 (.tmp 3) (.tmp 5) rfl ?_ ?_ (Blk.new w1 _ (zb 64)) HI ?_ HO1.out ?_
               rfl
               rfl
               exact HOF.out
               intro w2 hX' hg2)
  have B2 := hX'.cast (overV_all _ _ (by rw [HXL.out]; rfl))
  have hb2 : Below w1.heap.size w1 w2 := (below1 w1 _).trans (below_of_grown hg2 (Nat.le_refl _) (by rw [size1]; omega))
  have hw2 : Below w.heap.size w w2 := hw1.trans (hb2.mono hw1.size)
  have R2 := R1.keep hb2 R1.lt
  have hne : w.heap.size ≠ w1.heap.size := by have := R1.lt; omega
  obtain ⟨g, hg⟩ : ∃ g, g = w1.heap.size := ⟨_, rfl⟩
  rw [← hg] at B2 hne
  rw [← hg]
  clear hg hX' hg2 hb2 hw1 R1 HOF HO1
  have hS : Blk w2.drew g 104 X := B2
  go_wp2_with fail
  refine region_seqS (fun w' => Blk w' g 104 X) (by kernel_rfl) hS ?_
  simp only [pairs, Nat.reduceAdd]
  (refine SeqS.take (v := .agg X.toArray) (by assumption) (by kernel_rfl) (by decide +kernel) (by decide +kernel) (yields_blk (by rfl) 104 (.tmp 3) rfl rfl (fun _ h => h) HI) ?_; simp only [Act.put, List.setIfInBounds_toArray, List.set_cons_zero, List.set_cons_succ])
  (refine SeqS.take1 (v := .agg X.toArray) (by assumption) (by kernel_rfl) (by decide +kernel) (by decide +kernel) (yields_blk (by rfl) 104 (.tmp 3) rfl rfl (fun _ h => h) HI) ?_; simp only [Act.put, List.setIfInBounds_toArray, List.set_cons_zero, List.set_cons_succ])
  refine SeqS.alone (by decide +kernel) (by rfl) (fun K hK => ?_)
  go_simp
  go_at_call 54
  have G2 : Glob w2.drew := hG.keep hw2.drew (Nat.le_refl _)
  rw [HX.out]
  refine (told_any (keyBlock key) 54 w2.drew G2 (keyBlock_length key)).mono ?_
  rintro e w3 ⟨g1, rfl, l1, H1, b3⟩
  go_simp
  have S3 := hS.keep b3 hS.lt
  refine hK _ _ S3 ?_
  clear hK K
  have R3 := Blk.keep (show Blk w2.drew w.heap.size _ _ from R2) b3 (show w.heap.size < w2.heap.size from R2.lt)
  have G3 := G2.keep b3 (Nat.le_refl _)
  have w3' : Below w.heap.size w w3 := hw2.drew.trans (b3.mono hw2.size)
  refine SeqS.alone (by decide +kernel) (by rfl) (fun K hK => ?_)
  go_simp
  go_at_call 54
  refine (told_any (keyBlock key) 92 w3 G3 (keyBlock_length key)).mono ?_
  rintro e w4 ⟨g2, rfl, l2, H2, b4⟩
  go_simp
  have S4 := S3.keep b4 S3.lt
  refine hK _ _ S4 ?_
  clear hK K
  have R4 := R3.keep b4 R3.lt
  have H14 := H1.keep b4 H1.lt
  have l12 : g1 < g2 := Nat.lt_of_lt_of_le H1.lt l2
  have w4' : Below w.heap.size w w4 := w3'.trans (b4.mono w3'.size)
  have l1' : w.heap.size ≤ g1 := Nat.le_trans hw2.size l1
  have lne1 : g1 ≠ w.heap.size := by have := R2.lt; have : w2.heap.size ≤ g1 := l1; omega
  have lne2 : g2 ≠ w.heap.size := by omega
  repeat (first
    | (refine SeqS.take (v := ?_) (by first | assumption | trivial) (by kernel_rfl) (by decide +kernel) (by decide +kernel) (Or.inl ⟨by rfl, ?_⟩) ?_
       rotate_left
       focus
         intro w' hb'
         go_simp
         with_reducible rfl
       simp only [Act.put, List.setIfInBounds_toArray, List.set_cons_zero, List.set_cons_succ]))
  refine SeqS.alone (by decide +kernel) (by rfl) (fun K hK => ?_)
  refine wp_store_part 60 (.tmp 2) (.tmp 10) rfl (cs := [.pointer (some ⟨g1, 0, none⟩), .pointer (some ⟨g2, 0, none⟩)]) rfl rfl R4 rowKeyed (Nat.le_refl 2) (by intro v hv; simp at hv; rcases hv with rfl | rfl <;> rfl) ?_
  intro w9 R9' g9
  go_simp
  refine hK _ _ (S4.grown g9 (by intro e; injection e with e; exact hne e.symm)) ?_
  clear hK K
  refine SeqS.done (by decide +kernel) ?_
  have R9 := R9'.cast (overV_all _ _ rfl)
  go_wp2_with fail
  refine bodyPost_ret (results_blk rfl rfl R9 rowKeyed) rfl ?_
  exact ⟨g1, g2, rfl, l1', l12, H14.grown g9 lne1, H2.grown g9 lne2, w4'.trans (below_of_grown g9 (Nat.le_refl _) R4.lt)⟩
end Go.Proofs.YtagacpjeooaapaaGreatDoor

/-
  What package mac's tag comes to: the tag of what two hashes were told, and of all parts behind the first. Conditions: bytes are numbers from 0 to 255, fewer than 2^32 - 4096 of them; the package's variables hold the constants and the starts.
-/
namespace Go.Proofs.YtagacpjeooaapaaGreatDoor
open Go.RowKit

theorem parts_at {w wr : World} {a : Option Addr} {n cap k : Nat} {ps : List (List Int)} (hP : Parts w a n cap ps) (hb : Below w.heap.size w wr) (hk : k < n) :
    ∃ b off A m c, a = some ⟨b, off, none⟩ ∧ wr.cell? ⟨b, off + k, none⟩ = some (.slice A m c) ∧ Ints .u8 wr A m c (ps.getD k []) ∧ (∀ x, A = some x → 0 < m → x.block < w.heap.size) := by
  obtain ⟨b, off, rfl, hc⟩ := hP.at (by omega)
  obtain ⟨A, m, c, hck, hI⟩ := hc k hk
  exact ⟨b, off, A, m, c, rfl, by rw [hb.cell (World.block_lt_of_cell? w _ hck)]; exact hck, hI.keep hb, hI.isIn.2⟩

set_option maxRecDepth 100000 in
set_option maxHeartbeats 1600000 in
theorem tag_any (g1 g2 : Nat) (xs ys : List Int) (a : Option Addr) (n cap : Nat) (ps : List (List Int)) (w : World) (hG : Glob w) (h1 : HashAt w g1 xs) (h2 : HashAt w g2 ys) (hP : Parts w a n cap ps) (hr : ∀ p ∈ ps, ∀ x ∈ p, 0 ≤ x ∧ x < 256) (ht : xs.length + ps.flatten.length ≤ 4294967168) (hn : n ≤ 4294967296) (hy : ys.length ≤ 4294960000) :
    Calls Tryz.prog 30 #[.agg #[.pointer (some ⟨g1, 0, none⟩), .pointer (some ⟨g2, 0, none⟩)], .slice a n cap] w fun e w' => e = .returned (.agg ((shaSum (ys ++ shaSum (xs ++ ps.flatten))).map (Value.int .u8)).toArray) ∧ Below w.heap.size w w' := by
  have hl := Lib.hid hP.len
  have b0 := below2 w (.cells #[.pointer (some ⟨g1, 0, none⟩), .pointer (some ⟨g2, 0, none⟩)] 60) (.cells (zb 32).toArray 23)
  have K0 : Blk ((w.alloc (.cells #[.pointer (some ⟨g1, 0, none⟩), .pointer (some ⟨g2, 0, none⟩)] 60)).alloc (.cells (zb 32).toArray 23)) w.heap.size 60 [.pointer (some ⟨g1, 0, none⟩), .pointer (some ⟨g2, 0, none⟩)] := (Blk.new w 60 [.pointer (some ⟨g1, 0, none⟩), .pointer (some ⟨g2, 0, none⟩)]).alloc _
  have R0 : Blk ((w.alloc (.cells #[.pointer (some ⟨g1, 0, none⟩), .pointer (some ⟨g2, 0, none⟩)] 60)).alloc (.cells (zb 32).toArray 23)) (w.heap.size + 1) 23 (zb 32) := Blk.new1 w _ _ (zb 32)
  go_enter Tryz.func30, Tryz.ntmps30
  go_wp2_with (with_reducible refine wpList_alloc_blk rfl 23 rfl zeroId ?_)
  obtain ⟨w1, hw1⟩ : ∃ w1, w1 = ((w.alloc (.cells #[.pointer (some ⟨g1, 0, none⟩), .pointer (some ⟨g2, 0, none⟩)] 60)).alloc (.cells (zb 32).toArray 23)) := ⟨_, rfl⟩
  rw [← hw1] at b0 K0 R0
  rw [← hw1]
  clear hw1
  have hS : Below w1.heap.size w1 w1.drew := Below.drew (Below.refl _ _)
  have CK := Lib.hid (fun w' (q : Below w1.heap.size w1 w') => (show w'.cell? ⟨w.heap.size, 0, none⟩ = some (.pointer (some ⟨g1, 0, none⟩)) ∧ w'.cell? ⟨w.heap.size, 1, none⟩ = some (.pointer (some ⟨g2, 0, none⟩)) from ⟨(K0.keep q K0.lt).cell 0, (K0.keep q K0.lt).cell 1⟩))
  have C1 := Lib.hid (fun w' (q : Below w1.heap.size w1 w') => clone_any g1 xs w' (h1.keep (b0.trans (q.mono b0.size)) h1.lt))
  have C2 := Lib.hid (fun w' (q : Below w1.heap.size w1 w') => clone_any g2 ys w' (h2.keep (b0.trans (q.mono b0.size)) h2.lt))
  go_wp2_with fail
  refine region_seqS (fun w' => Below w1.heap.size w1 w') (by kernel_rfl) hS ?_
  simp only [pairs, Nat.reduceAdd]
  repeat (first
    | (refine SeqS.take (v := ?_) (by first | assumption | trivial) (by kernel_rfl) (by decide +kernel) (by decide +kernel) (Or.inl ⟨by rfl, ?_⟩) ?_
       rotate_left
       focus
         intro w' hb'
         go_simp
         with_reducible rfl
       simp only [Act.put, List.setIfInBounds_toArray, List.set_cons_zero, List.set_cons_succ])
    | (refine SeqS.take (v := ?_) (by first | assumption | trivial) (by kernel_rfl) (by decide +kernel) (by decide +kernel) (Or.inl ⟨by rfl, ?_⟩) ?_
       rotate_left
       focus
         intro w' hb'
         have ck := CK.out w' hb'; have c0 := ck.1; have c1 := ck.2; clear ck
         go_simp
         with_reducible rfl
       simp only [Act.put, List.setIfInBounds_toArray, List.set_cons_zero, List.set_cons_succ])
    | (refine SeqS.take1 (v := ?_) (by first | assumption | trivial) (by kernel_rfl) (by decide +kernel) (by decide +kernel) (Or.inl ⟨by rfl, ?_⟩) ?_
       rotate_left
       focus
         intro w' hb'
         go_simp
         with_reducible rfl
       simp only [Act.put, List.setIfInBounds_toArray, List.set_cons_zero, List.set_cons_succ])
    | (refine SeqS.take1 (v := ?_) (by first | assumption | trivial) (by kernel_rfl) (by decide +kernel) (by decide +kernel) (Or.inl ⟨by rfl, ?_⟩) ?_
       rotate_left
       focus
         intro w' hb'
         have ck := CK.out w' hb'; have c0 := ck.1; have c1 := ck.2; clear ck
         go_simp
         with_reducible rfl
       simp only [Act.put, List.setIfInBounds_toArray, List.set_cons_zero, List.set_cons_succ])
    | (refine SeqS.take2 (v := ?_) (by first | assumption | trivial) (by kernel_rfl) (by decide +kernel) (by decide +kernel) (Or.inl ⟨by rfl, ?_⟩) ?_
       rotate_left
       focus
         intro w' hb'
         go_simp
         with_reducible rfl
       simp only [Act.put, List.setIfInBounds_toArray, List.set_cons_zero, List.set_cons_succ])
    | (refine SeqS.take2 (v := ?_) (by first | assumption | trivial) (by kernel_rfl) (by decide +kernel) (by decide +kernel) (Or.inl ⟨by rfl, ?_⟩) ?_
       rotate_left
       focus
         intro w' hb'
         have ck := CK.out w' hb'; have c0 := ck.1; have c1 := ck.2; clear ck
         go_simp
         with_reducible rfl
       simp only [Act.put, List.setIfInBounds_toArray, List.set_cons_zero, List.set_cons_succ]))
  refine SeqS.alone (by decide +kernel) (by rfl) (fun K hK => ?_)
  go_simp
  go_at_call 55
  refine (C1.out _ hS).mono ?_
  rintro e w2 ⟨rfl, X2, b2⟩
  go_simp
  have S2 : Below w1.heap.size w1 w2 := hS.trans (b2.mono hS.size)
  refine hK _ _ S2 ?_
  clear hK K
  repeat (first
    | (refine SeqS.take (v := ?_) (by first | assumption | trivial) (by kernel_rfl) (by decide +kernel) (by decide +kernel) (Or.inl ⟨by rfl, ?_⟩) ?_
       rotate_left
       focus
         intro w' hb'
         go_simp
         with_reducible rfl
       simp only [Act.put, List.setIfInBounds_toArray, List.set_cons_zero, List.set_cons_succ])
    | (refine SeqS.take (v := ?_) (by first | assumption | trivial) (by kernel_rfl) (by decide +kernel) (by decide +kernel) (Or.inl ⟨by rfl, ?_⟩) ?_
       rotate_left
       focus
         intro w' hb'
         have ck := CK.out w' hb'; have c0 := ck.1; have c1 := ck.2; clear ck
         go_simp
         with_reducible rfl
       simp only [Act.put, List.setIfInBounds_toArray, List.set_cons_zero, List.set_cons_succ])
    | (refine SeqS.take1 (v := ?_) (by first | assumption | trivial) (by kernel_rfl) (by decide +kernel) (by decide +kernel) (Or.inl ⟨by rfl, ?_⟩) ?_
       rotate_left
       focus
         intro w' hb'
         go_simp
         with_reducible rfl
       simp only [Act.put, List.setIfInBounds_toArray, List.set_cons_zero, List.set_cons_succ])
    | (refine SeqS.take1 (v := ?_) (by first | assumption | trivial) (by kernel_rfl) (by decide +kernel) (by decide +kernel) (Or.inl ⟨by rfl, ?_⟩) ?_
       rotate_left
       focus
         intro w' hb'
         have ck := CK.out w' hb'; have c0 := ck.1; have c1 := ck.2; clear ck
         go_simp
         with_reducible rfl
       simp only [Act.put, List.setIfInBounds_toArray, List.set_cons_zero, List.set_cons_succ])
    | (refine SeqS.take2 (v := ?_) (by first | assumption | trivial) (by kernel_rfl) (by decide +kernel) (by decide +kernel) (Or.inl ⟨by rfl, ?_⟩) ?_
       rotate_left
       focus
         intro w' hb'
         go_simp
         with_reducible rfl
       simp only [Act.put, List.setIfInBounds_toArray, List.set_cons_zero, List.set_cons_succ])
    | (refine SeqS.take2 (v := ?_) (by first | assumption | trivial) (by kernel_rfl) (by decide +kernel) (by decide +kernel) (Or.inl ⟨by rfl, ?_⟩) ?_
       rotate_left
       focus
         intro w' hb'
         have ck := CK.out w' hb'; have c0 := ck.1; have c1 := ck.2; clear ck
         go_simp
         with_reducible rfl
       simp only [Act.put, List.setIfInBounds_toArray, List.set_cons_zero, List.set_cons_succ]))
  refine SeqS.alone (by decide +kernel) (by rfl) (fun K hK => ?_)
  go_simp
  go_at_call 55
  refine (C2.out _ S2).mono ?_
  rintro e w3 ⟨rfl, Y3, b3⟩
  go_simp
  have S3 : Below w1.heap.size w1 w3 := S2.trans (b3.mono S2.size)
  refine hK _ _ S3 ?_
  clear hK K
  repeat (first
    | (refine SeqS.take (v := ?_) (by first | assumption | trivial) (by kernel_rfl) (by decide +kernel) (by decide +kernel) (Or.inl ⟨by rfl, ?_⟩) ?_
       rotate_left
       focus
         intro w' hb'
         go_simp
         with_reducible rfl
       simp only [Act.put, List.setIfInBounds_toArray, List.set_cons_zero, List.set_cons_succ])
    | (refine SeqS.take1 (v := ?_) (by first | assumption | trivial) (by kernel_rfl) (by decide +kernel) (by decide +kernel) (Or.inl ⟨by rfl, ?_⟩) ?_
       rotate_left
       focus
         intro w' hb'
         go_simp
         with_reducible rfl
       simp only [Act.put, List.setIfInBounds_toArray, List.set_cons_zero, List.set_cons_succ])
    | (refine SeqS.take2 (v := ?_) (by first | assumption | trivial) (by kernel_rfl) (by decide +kernel) (by decide +kernel) (Or.inl ⟨by rfl, ?_⟩) ?_
       rotate_left
       focus
         intro w' hb'
         go_simp
         with_reducible rfl
       simp only [Act.put, List.setIfInBounds_toArray, List.set_cons_zero, List.set_cons_succ]))
  refine SeqS.done (by decide +kernel) ?_
  rw [show w1.drew.heap.size = w1.heap.size from rfl] at X2 b2
  have hz : w.heap.size + 1 < w1.heap.size := R0.lt
  have X3 := X2.keep b3 X2.lt
  have R3 := R0.keep S3 R0.lt
  have hxy : w1.heap.size ≠ w2.heap.size := by have := X2.lt; omega
  have hx1 : w1.heap.size ≠ w.heap.size + 1 := by omega
  have hy1 : w2.heap.size ≠ w.heap.size + 1 := by have := X2.lt; omega
  have hy0 : w.heap.size ≤ w2.heap.size := by have := X2.lt; omega
  have hw3 : Below w.heap.size w w3 := b0.trans (S3.mono b0.size)
  obtain ⟨gy, hgy⟩ : ∃ gy, gy = w2.heap.size := ⟨_, rfl⟩
  rw [← hgy] at Y3 hxy hy1 hy0
  rw [← hgy]
  obtain ⟨gx, hgx⟩ : ∃ gx, gx = w1.heap.size := ⟨_, rfl⟩
  rw [← hgx] at X3 hxy hx1 hz
  rw [← hgx]
  clear hgx hgy X2 b2 b3 S2 S3 hS CK C1 C2 b0 K0 R0 h1 h2
  go_wp2_with fail
  go_loopw [18] (fun i wr => ∃ k : Nat, k ≤ n ∧ i = .int .i64 k ∧ HashAt wr gx (xs ++ (ps.take k).flatten) ∧ HashAt wr gy ys ∧ Blk wr (w.heap.size + 1) 23 (zb 32) ∧ Below w.heap.size w wr) (fun i _ => n - (intOf i).toNat)
  case atStart => exact ⟨0, Nat.zero_le _, rfl, by simpa using X3, Y3, R3, hw3⟩
  case round =>
    obtain ⟨k, hk, rfl, hX, hY, hR, hbr⟩ := hrel
    clear X3 Y3 R3 hw3
    have hGr := hG.keep hbr (Nat.le_refl _)
    by_cases hlt : k < n
    · obtain ⟨b, off, A, m, c, rfl, hck, hI, hin⟩ := parts_at hP hbr hlt
      have SN := Lib.hid (flatten_snoc ps k (by rw [hl.out]; exact hlt))
      have hlen := Lib.hid (show (xs ++ (ps.take k).flatten).length + m ≤ 4294967296 by
        have h1 := flatten_take_le ps (k + 1)
        rw [SN.out, List.length_append, hI.len] at h1
        rw [List.length_append]
        omega)
      have hrk := Lib.hid (getD_mem_range hr k)
      have HI := Lib.hid hI; have HIN := Lib.hid hin
      clear hI hin
      go_wp2_with fail
      refine (write_any gx _ A m c _ wr hX hGr HI.out hrk.out (fun x hx hm => by have := HIN.out x hx hm; omega) hlen.out).mono ?_
      rintro e w4 ⟨rfl, hX4, hg4⟩
      have hY4 := hY.grown hg4 (fun e => hxy e.symm)
      have hR4 := hR.grown hg4 (by intro e; injection e with e; exact hx1 e.symm)
      have hb4 : Below w.heap.size w w4 := hbr.trans (below_of_grown hg4 (by omega) hX.lt)
      go_wp2
      go_roundw
      case rel => exact ⟨k + 1, by omega, by go_num, by rw [SN.out, ← List.append_assoc]; exact hX4, hY4, hR4, hb4⟩
      case measure => simp [intOf]; omega
    · obtain rfl : k = n := by omega
      rw [List.take_of_length_le (by rw [hl.out]; exact Nat.le_refl _)] at hX
      have hge : (k : Int) ≤ (k : Int) := Int.le_refl _
      go_wp2_with fail
      refine (hsum_any gx (xs ++ ps.flatten) wr hX hGr (by rw [List.length_append]; exact ht)).mono ?_
      rintro e w5 ⟨rfl, hb5⟩
      obtain ⟨IN, hIN⟩ : ∃ IN, IN = shaSum (xs ++ ps.flatten) := ⟨_, rfl⟩
      rw [← hIN]
      have hINl : IN.length = 32 := by rw [hIN, shaSum_length]
      have hINr : ∀ x ∈ IN, 0 ≤ x ∧ x < 256 := by rw [hIN]; exact shaSum_range _
      obtain ⟨Z, hZ⟩ : ∃ Z, Z = IN.map (Value.int .u8) := ⟨_, rfl⟩
      have hZl : Z.length = 32 := by rw [hZ, List.length_map, hINl]
      rw [← hZ]
      have HZ := Lib.hid hZ; have HZL := Lib.hid hZl; have HIL := Lib.hid hINl; have HIR := Lib.hid hINr; have HIN := Lib.hid hIN
      have HI : IsRow Tryz.prog 23 Z.length := by rw [hZl]; exact rowId
      have HO1 := Lib.hid (show ∀ v ∈ Z, v.oneCell' = true by rw [hZ]; exact ints_oneCell' _ _)
      have HOF := Lib.hid (show 0 + Z.length ≤ (zb 32).length by rw [hZl]; decide)
      have hY5 := hY.keep hb5 hY.lt
      have hR5 := hR.keep hb5 hR.lt
      have hw5 : Below w.heap.size w w5 := hbr.trans (hb5.mono hbr.size)
      clear hZ hZl hINl hINr hIN hX hY hR hbr hb5 hGr hlt hge hk
      go_wp2_with ((with_reducible refine wpList_alloc_blk rfl 23 rfl zeroId ?_)
                   refine wpList_store_part (g := w5.heap.size) (off := 0) (t := 23) (cur := zb 32) (cs := Z) rfl 23 (.tmp 9) (.tmp 27) rfl ?_ ?_ (Blk.new w5 _ (zb 32)) HI ?_ HO1.out ?_
                   rfl
                   rfl
                   exact HOF.out
                   intro w6 hZ' hg6)
      have B6 := hZ'.cast (overV_all _ _ (by rw [HZL.out]; rfl))
      have hb6 : Below w5.heap.size w5 w6 := (below1 w5 _).trans (below_of_grown hg6 (Nat.le_refl _) (by rw [size1]; omega))
      have hY6 := hY5.keep hb6 hY5.lt
      have hR6 := hR5.keep hb6 hR5.lt
      have hw6 : Below w.heap.size w w6 := hw5.trans (hb6.mono hw5.size)
      have I6 : Ints .u8 w6 (some ⟨w5.heap.size, 0, none⟩) 32 32 IN := Ints.of_blk B6 HIL.out (Nat.le_refl _) (fun i hi => by rw [HZ.out, Nat.zero_add]; exact getElem?_mapInt _ _ _ (by rw [HIL.out]; exact hi))
      have G6 := hG.keep hw6 (Nat.le_refl _)
      have hny : w5.heap.size ≠ gy := by have := hY5.lt; omega
      clear hZ' hg6 hb6 hY5 hR5 hw5 B6
      go_wp2_with fail
      refine (write_any gy ys _ 32 32 IN w6 hY6 G6 I6 HIR.out (fun x hx _ => by injection hx with hx; subst hx; exact hny) (by omega)).mono ?_
      rintro e w7 ⟨rfl, hY7, hg7⟩
      have hR7 := hR6.grown hg7 (by intro e; injection e with e; exact hy1 e.symm)
      have hw7 : Below w.heap.size w w7 := hw6.trans (below_of_grown hg7 hy0 hY6.lt)
      have G7 := hG.keep hw7 (Nat.le_refl _)
      clear hY6 G6 I6 hg7 hw6 hR6
      go_wp2_with fail
      refine (hsum_any gy (ys ++ IN) w7 hY7 G7 (by rw [List.length_append, HIL.out]; omega)).mono ?_
      rintro e w8 ⟨rfl, hb8⟩
      have hR8 := hR7.keep hb8 hR7.lt
      have hw8 : Below w.heap.size w w8 := hw7.trans (hb8.mono hw7.size)
      obtain ⟨OUT, hOUT⟩ : ∃ X, X = (shaSum (ys ++ IN)).map (Value.int .u8) := ⟨_, rfl⟩
      have hOl : OUT.length = 32 := by rw [hOUT, List.length_map, shaSum_length]
      rw [← hOUT]
      have HOUT := Lib.hid hOUT
      have HJ : IsRow Tryz.prog 23 OUT.length := by rw [hOl]; exact rowId
      have HP1 := Lib.hid (show ∀ v ∈ OUT, v.oneCell' = true by rw [hOUT]; exact ints_oneCell' _ _)
      have HPF := Lib.hid (show 0 + OUT.length ≤ (zb 32).length by rw [hOl]; decide)
      have HOL := Lib.hid hOl
      clear hOUT hOl hY7 G7 hb8 hR7 hw7
      go_wp2_with ((with_reducible refine wpList_store_part rfl 23 (.tmp 4) (.tmp 32) rfl ?_ ?_ hR8 HJ HPF.out HP1.out ?_); rfl; rfl; intro w9 hR9 hg9)
      have hR9' := hR9.cast (overV_all _ _ (by rw [HOL.out]; rfl))
      (try simp only [Exit.inBlock, Exit.then])
      refine bodyPost_ret (results_blk rfl rfl hR9' HJ) rfl ?_
      exact ⟨by rw [HOUT.out, HIN.out], hw8.trans (below_of_grown hg9 (by omega) hR8.lt)⟩
end Go.Proofs.YtagacpjeooaapaaGreatDoor

/-
  What package mac's Of, Equal and Check come to. Conditions: bytes are numbers from 0 to 255; of key and parts fewer than 2^32 - 4096; the package's variables hold the constants and the starts.
-/
namespace Go.Proofs.YtagacpjeooaapaaGreatDoor
open Go.RowKit

set_option maxRecDepth 100000 in
set_option maxHeartbeats 800000 in
theorem of_any (a : Option Addr) (n ca : Nat) (key : List Int) (b : Option Addr) (m cb : Nat) (ps : List (List Int)) (w : World) (hG : Glob w) (h1 : Ints .u8 w a n ca key) (r1 : ∀ x ∈ key, 0 ≤ x ∧ x < 256) (hn : n ≤ 4294967168) (hP : Parts w b m cb ps) (hr : ∀ p ∈ ps, ∀ x ∈ p, 0 ≤ x ∧ x < 256) (ht : ps.flatten.length ≤ 4294960000) (hm : m ≤ 4294967296) :
    Calls Tryz.prog 17 #[.slice a n ca, .slice b m cb] w fun e w' => e = .returned (.agg ((tagOf key ps.flatten).map (Value.int .u8)).toArray) ∧ Below w.heap.size w w' := by
  have b0 := below1 w (.cells (zb 32).toArray 23)
  have R0 := Blk.new w 23 (zb 32)
  go_enter Tryz.func17, Tryz.ntmps17
  go_wp2_with (with_reducible refine wpList_alloc_blk rfl 23 rfl zeroId ?_)
  refine (by_any a n ca key _ (hG.keep b0 (Nat.le_refl _)) (h1.keep b0) r1 hn).mono ?_
  rintro e w1 ⟨g1, g2, rfl, l1, l2, H1, H2, hb1⟩
  rw [size1] at l1 hb1
  have R1 := R0.keep hb1 (by omega)
  have hw1 : Below w.heap.size w w1 := b0.trans (hb1.mono (by omega))
  clear R0 b0 hb1
  go_wp2_with fail
  refine (tag_any g1 g2 (pad key 54) (pad key 92) b m cb ps w1 (hG.keep hw1 (Nat.le_refl _)) H1 H2 (hP.keep hw1) hr (by rw [pad_length]; omega) hm (by rw [pad_length]; omega)).mono ?_
  rintro e w2 ⟨rfl, hb2⟩
  have R2 := R1.keep hb2 R1.lt
  have hw2 : Below w.heap.size w w2 := hw1.trans (hb2.mono hw1.size)
  obtain ⟨OUT, hOUT⟩ : ∃ X, X = (tagOf key ps.flatten).map (Value.int .u8) := ⟨_, rfl⟩
  have hOl : OUT.length = 32 := by rw [hOUT, List.length_map, tagOf_length]
  rw [show shaSum (pad key 92 ++ shaSum (pad key 54 ++ ps.flatten)) = tagOf key ps.flatten from rfl, ← hOUT]
  have HOUT := Lib.hid hOUT
  have HJ : IsRow Tryz.prog 23 OUT.length := by rw [hOl]; exact rowId
  have HP1 := Lib.hid (show ∀ v ∈ OUT, v.oneCell' = true by rw [hOUT]; exact ints_oneCell' _ _)
  have HPF := Lib.hid (show 0 + OUT.length ≤ (zb 32).length by rw [hOl]; decide)
  have HOL := Lib.hid hOl
  clear hOUT hOl H1 H2 hw1 R1 hb2
  go_wp2_with ((with_reducible refine wpList_store_part rfl 23 (.tmp 4) (.tmp 8) rfl ?_ ?_ R2 HJ HPF.out HP1.out ?_); rfl; rfl; intro w9 hR9 hg9)
  have hR9' := hR9.cast (overV_all _ _ (by rw [HOL.out]; rfl))
  (try simp only [Exit.inBlock, Exit.then])
  refine bodyPost_ret (results_blk rfl rfl hR9' HJ) rfl ?_
  exact ⟨by rw [HOUT.out], hw2.trans (below_of_grown hg9 (Nat.le_refl _) R2.lt)⟩

/-- What Equal has gathered of the first k bytes: 0 just if they are the same. -/
def gathered (xs ys : List Int) : Nat → Int
  | 0 => 0
  | k + 1 => bits .or .u8 (gathered xs ys k) (bits .xor .u8 (xs.getD k 0) (ys.getD k 0))
theorem gathered_range (xs ys : List Int) : ∀ k, 0 ≤ gathered xs ys k ∧ gathered xs ys k < 256
  | 0 => by unfold gathered; omega
  | k + 1 => by unfold gathered; exact or8_range _ _
theorem gathered_zero (xs ys : List Int) (hx : ∀ x ∈ xs, 0 ≤ x ∧ x < 256) (hy : ∀ y ∈ ys, 0 ≤ y ∧ y < 256) : ∀ k, k ≤ xs.length → k ≤ ys.length → (gathered xs ys k = 0 ↔ xs.take k = ys.take k)
  | 0, _, _ => by simp [gathered]
  | k + 1, h1, h2 => by
    have rx := getD_range (p := fun x => 0 ≤ x ∧ x < 256) hx k (by omega)
    have ry := getD_range (p := fun x => 0 ≤ x ∧ x < 256) hy k (by omega)
    rw [gathered, or8_zero (gathered_range xs ys k) (xor8_range _ _), xor8_zero rx ry, gathered_zero xs ys hx hy k (by omega) (by omega)]
    rw [List.take_succ_eq_append_getElem (by omega), List.take_succ_eq_append_getElem (by omega)]
    rw [List.getD_eq_getElem?_getD, List.getD_eq_getElem?_getD, List.getElem?_eq_getElem (by omega), List.getElem?_eq_getElem (by omega)]
    simp only [Option.getD_some]
    constructor
    · rintro ⟨e1, e2⟩; rw [e1, e2]
    · intro h
      have hl : (xs.take k).length = (ys.take k).length := by rw [List.length_take, List.length_take]; omega
      obtain ⟨e1, e2⟩ := List.append_inj h hl
      exact ⟨e1, by injection e2⟩
theorem gathered_all (xs ys : List Int) (hx : ∀ x ∈ xs, 0 ≤ x ∧ x < 256) (hy : ∀ y ∈ ys, 0 ≤ y ∧ y < 256) : (gathered xs ys (min xs.length ys.length) = 0 ∧ xs.length = ys.length) ↔ xs = ys := by
  constructor
  · rintro ⟨h1, h2⟩
    have := (gathered_zero xs ys hx hy _ (Nat.min_le_left _ _) (Nat.min_le_right _ _)).1 h1
    rw [List.take_of_length_le (by omega), List.take_of_length_le (by omega)] at this
    exact this
  · rintro rfl
    exact ⟨(gathered_zero xs xs hx hy _ (Nat.min_le_left _ _) (Nat.min_le_right _ _)).2 rfl, rfl⟩

set_option maxRecDepth 100000 in
set_option maxHeartbeats 800000 in
theorem equal_any (a : Option Addr) (n ca : Nat) (xs : List Int) (b : Option Addr) (m cb : Nat) (ys : List Int) (w : World) (h1 : Ints .u8 w a n ca xs) (r1 : ∀ x ∈ xs, 0 ≤ x ∧ x < 256) (h2 : Ints .u8 w b m cb ys) (r2 : ∀ x ∈ ys, 0 ≤ x ∧ x < 256) (hn : n ≤ maxLen) (hm : m ≤ maxLen) :
    Calls Tryz.prog 87 #[.slice a n ca, .slice b m cb] w fun e w' => e = .returned (.bool (decide (xs = ys))) ∧ ∃ k, w' = w.drewN k := by
  unfold maxLen at hn hm
  have L1 := Lib.hid h1.len; have L2 := Lib.hid h2.len
  rcases Nat.lt_or_ge m n with hle | hle
  · have hleI : (m : Int) < (n : Int) := by omega
    go_enter Tryz.func87, Tryz.ntmps87
    go_wp2_with fail
    go_loopw [5, 12] (fun t i wr => ∃ k : Nat, k ≤ m ∧ i = .int .i64 k ∧ t = .int .u8 (gathered xs ys k) ∧ Draws w wr) (fun _ i _ => m - (intOf i).toNat)
    case atStart => exact ⟨0, Nat.zero_le _, rfl, rfl, Draws.refl _⟩
    case round =>
      obtain ⟨k, hk, rfl, rfl, hD⟩ := hrel
      by_cases hlt : k < m
      · obtain ⟨b1, o1, rfl, c1⟩ := (h1.keep (hD.below _)).at (by omega)
        obtain ⟨b2, o2, rfl, c2⟩ := (h2.keep (hD.below _)).at (by omega)
        have d1 := c1 k (by omega)
        have d2 := c2 k (by omega)
        have SN := Lib.hid (show gathered xs ys (k + 1) = bits .or .u8 (gathered xs ys k) (bits .xor .u8 (xs.getD k 0) (ys.getD k 0)) from rfl)
        obtain ⟨x, hx⟩ : ∃ x, x = xs.getD k 0 := ⟨_, rfl⟩
        obtain ⟨y, hy⟩ : ∃ y, y = ys.getD k 0 := ⟨_, rfl⟩
        obtain ⟨G, hG⟩ : ∃ G, G = gathered xs ys k := ⟨_, rfl⟩
        rw [← hx] at d1
        rw [← hy] at d2
        rw [← hx, ← hy, ← hG] at SN
        rw [← hG]
        clear hx hy hG c1 c2
        have k0 : (0 : Int) ≤ (k : Int) := by omega
        have k1 : (k : Int) < (n : Int) := by omega
        have k2 : (k : Int) < (m : Int) := by omega
        go_wp2_with fail
        refine wp_region_still_lit (by kernel_rfl) (by kernel_rfl) ?_
        repeat still_step
        refine wpStill_nil ?_
        go_wp2_with fail
        go_roundw
        case rel => exact ⟨k + 1, by omega, by go_num, by rw [SN.out], hD.drew⟩
        case measure => simp [intOf]; omega
      · obtain rfl : k = m := by omega
        have hge : (k : Int) ≤ (k : Int) := Int.le_refl _
        have hall := gathered_all xs ys r1 r2
        rw [L1.out, L2.out, Nat.min_eq_right (Nat.le_of_lt hle)] at hall
        obtain ⟨T, hT⟩ : ∃ T, T = gathered xs ys k := ⟨_, rfl⟩
        rw [← hT] at hall
        rw [← hT]
        clear hT
        have RES := Lib.hid (show decide (xs = ys) = (decide (T = 0) && decide (n = k)) by
          rw [← Bool.decide_and]; exact decide_eq_decide.2 hall.symm)
        clear hall
        by_cases h0 : T = 0
        · subst h0
          by_cases hnm : n = k
          · have e1 : ((n : Int) == (k : Int)) = true := by simp [hnm]
            rw [decide_eq_true hnm] at RES
            have HNM := Lib.hid hnm
            clear hnm
            go_wp2
            go_ret
            exact ⟨by rw [RES.out]; rfl, hD⟩
          · have e1 : ((n : Int) == (k : Int)) = false := by simp; omega
            rw [decide_eq_false hnm] at RES
            clear hnm
            go_wp2
            go_ret
            exact ⟨by rw [RES.out]; rfl, hD⟩
        · have e0 : (T == 0) = false := by simp [h0]
          rw [decide_eq_false h0, Bool.false_and] at RES
          clear h0
          go_wp2
          go_ret
          exact ⟨by rw [RES.out]; rfl, hD⟩
  · have hleI : (n : Int) ≤ (m : Int) := by omega
    go_enter Tryz.func87, Tryz.ntmps87
    go_wp2_with fail
    go_loopw [5, 12] (fun t i wr => ∃ k : Nat, k ≤ n ∧ i = .int .i64 k ∧ t = .int .u8 (gathered xs ys k) ∧ Draws w wr) (fun _ i _ => n - (intOf i).toNat)
    case atStart => exact ⟨0, Nat.zero_le _, rfl, rfl, Draws.refl _⟩
    case round =>
      obtain ⟨k, hk, rfl, rfl, hD⟩ := hrel
      by_cases hlt : k < n
      · obtain ⟨b1, o1, rfl, c1⟩ := (h1.keep (hD.below _)).at (by omega)
        obtain ⟨b2, o2, rfl, c2⟩ := (h2.keep (hD.below _)).at (by omega)
        have d1 := c1 k (by omega)
        have d2 := c2 k (by omega)
        have SN := Lib.hid (show gathered xs ys (k + 1) = bits .or .u8 (gathered xs ys k) (bits .xor .u8 (xs.getD k 0) (ys.getD k 0)) from rfl)
        obtain ⟨x, hx⟩ : ∃ x, x = xs.getD k 0 := ⟨_, rfl⟩
        obtain ⟨y, hy⟩ : ∃ y, y = ys.getD k 0 := ⟨_, rfl⟩
        obtain ⟨G, hG⟩ : ∃ G, G = gathered xs ys k := ⟨_, rfl⟩
        rw [← hx] at d1
        rw [← hy] at d2
        rw [← hx, ← hy, ← hG] at SN
        rw [← hG]
        clear hx hy hG c1 c2
        have k0 : (0 : Int) ≤ (k : Int) := by omega
        have k1 : (k : Int) < (n : Int) := by omega
        have k2 : (k : Int) < (m : Int) := by omega
        go_wp2_with fail
        refine wp_region_still_lit (by kernel_rfl) (by kernel_rfl) ?_
        repeat still_step
        refine wpStill_nil ?_
        go_wp2_with fail
        go_roundw
        case rel => exact ⟨k + 1, by omega, by go_num, by rw [SN.out], hD.drew⟩
        case measure => simp [intOf]; omega
      · obtain rfl : k = n := by omega
        have hge : (k : Int) ≤ (k : Int) := Int.le_refl _
        have hall := gathered_all xs ys r1 r2
        rw [L1.out, L2.out, Nat.min_eq_left hle] at hall
        obtain ⟨T, hT⟩ : ∃ T, T = gathered xs ys k := ⟨_, rfl⟩
        rw [← hT] at hall
        rw [← hT]
        clear hT
        have RES := Lib.hid (show decide (xs = ys) = (decide (T = 0) && decide (k = m)) by
          rw [← Bool.decide_and]; exact decide_eq_decide.2 hall.symm)
        clear hall
        by_cases h0 : T = 0
        · subst h0
          by_cases hnm : k = m
          · have e1 : ((k : Int) == (m : Int)) = true := by simp [hnm]
            rw [decide_eq_true hnm] at RES
            have HNM := Lib.hid hnm
            clear hnm
            go_wp2
            go_ret
            exact ⟨by rw [RES.out]; rfl, hD⟩
          · have e1 : ((k : Int) == (m : Int)) = false := by simp; omega
            rw [decide_eq_false hnm] at RES
            clear hnm
            go_wp2
            go_ret
            exact ⟨by rw [RES.out]; rfl, hD⟩
        · have e0 : (T == 0) = false := by simp [h0]
          rw [decide_eq_false h0, Bool.false_and] at RES
          clear h0
          go_wp2
          go_ret
          exact ⟨by rw [RES.out]; rfl, hD⟩

end Go.Proofs.YtagacpjeooaapaaGreatDoor

/-
  What the document's own tag, and its own look whether bytes are the same, come to. Conditions: bytes are numbers from 0 to 255, at most 2^32 - 4096 of them.
-/
namespace Go.Proofs.YtagacpjeooaapaaGreatDoor
open Go.RowKit

theorem str_inj {xs ys : List Int} (hx : ∀ x ∈ xs, 0 ≤ x ∧ x < 256) (hy : ∀ x ∈ ys, 0 ≤ x ∧ x < 256) (h : strOfNums xs = strOfNums ys) : xs = ys := by
  have h1 : (strOfNums xs).data.toList = (strOfNums ys).data.toList := by rw [h]
  rw [strOfNums_data, strOfNums_data] at h1
  have back : ∀ (l : List Int), (∀ x ∈ l, 0 ≤ x ∧ x < 256) → (l.map fun n => UInt8.ofNat n.toNat).map (fun b => (b.toNat : Int)) = l := by
    intro l hl
    rw [List.map_map]
    conv => rhs; rw [← List.map_id l]
    apply List.map_congr_left
    intro x hx
    have := hl x hx
    simp only [Function.comp_def, id_eq, UInt8.toNat_ofNat']
    omega
  rw [← back xs hx, ← back ys hy, h1]

theorem str_toList_inj {s t : ByteArray} (h : s.toList = t.toList) : s = t := by
  rw [ByteArray.toList_eq, ByteArray.toList_eq] at h
  cases s; cases t
  simpa using h

set_option maxRecDepth 100000 in
set_option maxHeartbeats 1600000 in
theorem refOf_any (a : Option Addr) (n ca : Nat) (key : List Int) (b : Option Addr) (m cb : Nat) (bs : List Int) (w : World) (h1 : Ints .u8 w a n ca key) (r1 : ∀ x ∈ key, 0 ≤ x ∧ x < 256) (h2 : Ints .u8 w b m cb bs) (r2 : ∀ x ∈ bs, 0 ≤ x ∧ x < 256) (hn : n ≤ 4294967296) (hm : m ≤ 4294960000) :
    Calls Tryz.prog 20 #[.slice a n ca, .slice b m cb] w fun e w' => e = .returned (.agg ((tagOf key bs).map (Value.int .u8)).toArray) ∧ Below w.heap.size w w' := by
  obtain ⟨i0, hi, hz0, hz1, hz2⟩ := info_parts infoU8
  go_enter Tryz.func20, Tryz.ntmps20
  go_wp2_with ((with_reducible refine wpList_alloc_blk rfl 23 rfl zeroId ?_))
  refine (refBlock_any a n ca key 54 _ (h1.keep (below1 _ _)) r1 hn).mono ?_
  rintro e w1 ⟨v1, rfl, hown1, hb1⟩
  rw [size1] at hown1 hb1
  have hR1 : Blk w1 w.heap.size 23 (zb 32) := Blk.keep (Blk.new w 23 (zb 32)) hb1 (by omega)
  have hw1 : Below w.heap.size w w1 := (below1 _ _).trans (hb1.mono (by omega))
  have h2' := h2.keep hw1
  have hbs : w.heap.size + 1 ≤ w1.heap.size := by have := hb1.size; rw [size1] at this; exact this
  go_wp2_with (at_builtin; refine wpList_append_ints rfl (.tmp 7) (.tmp 8) 24 rfl (w.heap.size + 1) 5 i0 (.int .u8 0) 1 Tryz.underlying24 hi hz0 hz1 hz2 rfl rfl hown1 rfl h2' ?_ ?_ hbs ?_; (unfold maxLen; omega); omega; intro v2 w2 hown2 hg2)
  have hb2 : Below (w.heap.size + 1) w1 w2 := (Below.refl _ _).grown hg2 hbs (fun q hq => (hown1.lt q hq).1)
  have hR2 := hR1.keep hb2 (by omega)
  have hw2 : Below w.heap.size w w2 := hw1.trans (hb2.mono (by omega))
  rw [← List.map_append] at hown2
  obtain ⟨A2, c2, rfl, hI2⟩ := Ints.of_owns hown2
  clear hown2 hown1 hg2 hb1 hb2 hR1 hw1 h2'
  refine (refSum_any A2 (64 + m) c2 (pad key 54 ++ bs) w2 hI2 (by intro x hx; rcases List.mem_append.1 hx with hx | hx; exact pad_range _ _ x hx; exact r2 x hx) (by omega)).mono ?_
  rintro e w3 ⟨rfl, hb3⟩
  have hR3 := hR2.keep hb3 hR2.lt
  have hw3 : Below w.heap.size w w3 := hw2.trans (hb3.mono hw2.size)
  clear hI2 hb3 hR2 hw2
  obtain ⟨IN, hIN⟩ : ∃ IN, IN = shaSum (pad key 54 ++ bs) := ⟨_, rfl⟩
  have hINl : IN.length = 32 := by rw [hIN, shaSum_length]
  have hINr : ∀ x ∈ IN, 0 ≤ x ∧ x < 256 := by rw [hIN]; exact shaSum_range _
  have FIN := Lib.hid (show tagOf key bs = shaSum (pad key 92 ++ IN) by rw [hIN]; rfl)
  rw [← hIN]
  obtain ⟨X, hX⟩ : ∃ X, X = IN.map (Value.int .u8) := ⟨_, rfl⟩
  have hXl : X.length = 32 := by rw [hX, List.length_map, hINl]
  rw [← hX]
  have HX := Lib.hid hX; have HXL := Lib.hid hXl; have HIL := Lib.hid hINl; have HIR := Lib.hid hINr
  have HI : IsRow Tryz.prog 23 X.length := by rw [hXl]; exact rowId
  have HO1 := Lib.hid (show ∀ v ∈ X, v.oneCell' = true by rw [hX]; exact ints_oneCell' _ _)
  have HOF := Lib.hid (show 0 + X.length ≤ (zb 32).length by rw [hXl]; decide)
  clear hIN hX hXl hINl hINr
  go_wp2_with ((with_reducible refine wpList_alloc_blk rfl 23 rfl zeroId ?_)
               refine wpList_store_part (g := w3.heap.size) (off := 0) (t := 23) (cur := zb 32) (cs := X) rfl 23 (.tmp 5) (.tmp 10) rfl ?_ ?_ (Blk.new w3 _ (zb 32)) HI ?_ HO1.out ?_
               rfl
               rfl
               exact HOF.out
               intro w4 hX' hg4)
  have hB4 := hX'.cast (overV_all _ _ (by rw [HXL.out]; rfl))
  have hb4 : Below w3.heap.size w3 w4 := (below1 w3 _).trans (below_of_grown hg4 (Nat.le_refl _) (by rw [size1]; omega))
  have hR4 := hR3.keep hb4 hR3.lt
  have hw4 : Below w.heap.size w w4 := hw3.trans (hb4.mono hw3.size)
  have hIN4 : Ints .u8 w4 (some ⟨w3.heap.size, 0, none⟩) 32 32 IN := Ints.of_blk hB4 HIL.out (Nat.le_refl _) (fun i hi => by rw [HX.out, Nat.zero_add]; exact getElem?_mapInt _ _ _ (by rw [HIL.out]; exact hi))
  clear hX' hg4 hb4 hR3 hw3 hB4
  have hS : True := trivial
  go_wp2_with fail
  refine region_seqS (fun _ => True) (by kernel_rfl) hS ?_
  simp only [pairs, Nat.reduceAdd]
  repeat (first
    | (refine SeqS.take (v := ?_) (by first | assumption | trivial) (by kernel_rfl) (by decide +kernel) (by decide +kernel) (Or.inl ⟨by rfl, ?_⟩) ?_
       rotate_left
       focus
         intro w' hb'
         go_simp
         with_reducible rfl
       simp only [Act.put, List.setIfInBounds_toArray, List.set_cons_zero, List.set_cons_succ])
    | (refine SeqS.take1 (v := ?_) (by first | assumption | trivial) (by kernel_rfl) (by decide +kernel) (by decide +kernel) (Or.inl ⟨by rfl, ?_⟩) ?_
       rotate_left
       focus
         intro w' hb'
         go_simp
         with_reducible rfl
       simp only [Act.put, List.setIfInBounds_toArray, List.set_cons_zero, List.set_cons_succ])
    | (refine SeqS.take2 (v := ?_) (by first | assumption | trivial) (by kernel_rfl) (by decide +kernel) (by decide +kernel) (Or.inl ⟨by rfl, ?_⟩) ?_
       rotate_left
       focus
         intro w' hb'
         go_simp
         with_reducible rfl
       simp only [Act.put, List.setIfInBounds_toArray, List.set_cons_zero, List.set_cons_succ]))
  refine SeqS.alone (by decide +kernel) (by rfl) (fun K hK => ?_)
  go_simp
  go_at_call 33
  refine (refBlock_any a n ca key 92 _ (h1.keep hw4.drew) r1 hn).mono ?_
  rintro e w5 ⟨v5, rfl, hown5, hb5⟩
  go_simp
  refine hK _ _ trivial ?_
  clear hK K
  repeat (first
    | (refine SeqS.take (v := ?_) (by first | assumption | trivial) (by kernel_rfl) (by decide +kernel) (by decide +kernel) (Or.inl ⟨by rfl, ?_⟩) ?_
       rotate_left
       focus
         intro w' hb'
         go_simp
         with_reducible rfl
       simp only [Act.put, List.setIfInBounds_toArray, List.set_cons_zero, List.set_cons_succ])
    | (refine SeqS.take1 (v := ?_) (by first | assumption | trivial) (by kernel_rfl) (by decide +kernel) (by decide +kernel) (Or.inl ⟨by rfl, ?_⟩) ?_
       rotate_left
       focus
         intro w' hb'
         go_simp
         with_reducible rfl
       simp only [Act.put, List.setIfInBounds_toArray, List.set_cons_zero, List.set_cons_succ])
    | (refine SeqS.take2 (v := ?_) (by first | assumption | trivial) (by kernel_rfl) (by decide +kernel) (by decide +kernel) (Or.inl ⟨by rfl, ?_⟩) ?_
       rotate_left
       focus
         intro w' hb'
         go_simp
         with_reducible rfl
       simp only [Act.put, List.setIfInBounds_toArray, List.set_cons_zero, List.set_cons_succ]))
  have hb5s : w4.heap.size ≤ w5.heap.size := by have := hb5.size; simpa using this
  have hw5' : Below w4.heap.size w4 w5 := (Below.drew (Below.refl _ _)).trans hb5
  have hIN5 := hIN4.keep hw5'
  refine SeqS.alone (by decide +kernel) (by rfl) (fun K hK => ?_)
  refine wp_append_ints (.tmp 12) (.tmp 13) 24 rfl w4.heap.size 5 i0 (.int .u8 0) 1 Tryz.underlying24 hi hz0 hz1 hz2 rfl rfl hown5 rfl hIN5 ?_ ?_ hb5s ?_
  (unfold maxLen; omega)
  omega
  intro v6 w6 hown6 hg6
  go_simp
  refine hK _ _ trivial ?_
  clear hK K
  have hw6 : Below w4.heap.size w4 w6 := hw5'.trans (((Below.refl w4.heap.size w5).grown hg6 hb5s (fun q hq => (hown5.lt q hq).1)))
  rw [← List.map_append] at hown6
  obtain ⟨A6, c6, rfl, hI6⟩ := Ints.of_owns hown6
  clear hown6 hown5 hg6 hb5 hb5s hw5' hIN5 hIN4
  repeat (first
    | (refine SeqS.take (v := ?_) (by first | assumption | trivial) (by kernel_rfl) (by decide +kernel) (by decide +kernel) (Or.inl ⟨by rfl, ?_⟩) ?_
       rotate_left
       focus
         intro w' hb'
         go_simp
         with_reducible rfl
       simp only [Act.put, List.setIfInBounds_toArray, List.set_cons_zero, List.set_cons_succ])
    | (refine SeqS.take1 (v := ?_) (by first | assumption | trivial) (by kernel_rfl) (by decide +kernel) (by decide +kernel) (Or.inl ⟨by rfl, ?_⟩) ?_
       rotate_left
       focus
         intro w' hb'
         go_simp
         with_reducible rfl
       simp only [Act.put, List.setIfInBounds_toArray, List.set_cons_zero, List.set_cons_succ])
    | (refine SeqS.take2 (v := ?_) (by first | assumption | trivial) (by kernel_rfl) (by decide +kernel) (by decide +kernel) (Or.inl ⟨by rfl, ?_⟩) ?_
       rotate_left
       focus
         intro w' hb'
         go_simp
         with_reducible rfl
       simp only [Act.put, List.setIfInBounds_toArray, List.set_cons_zero, List.set_cons_succ]))
  refine SeqS.alone (by decide +kernel) (by rfl) (fun K hK => ?_)
  go_simp
  go_at_call 22
  refine (refSum_any A6 96 c6 (pad key 92 ++ IN) w6 hI6 (by intro x hx; rcases List.mem_append.1 hx with hx | hx; exact pad_range _ _ x hx; exact HIR.out x hx) (by decide)).mono ?_
  rintro e w7 ⟨rfl, hb7⟩
  rw [← FIN.out]
  go_simp
  refine hK _ _ trivial ?_
  clear hK K
  have hw7 : Below w4.heap.size w4 w7 := hw6.trans (hb7.mono hw6.size)
  have hR7 := hR4.keep hw7 hR4.lt
  have hz7 : Below w.heap.size w w7 := hw4.trans (hw7.mono hw4.size)
  clear hI6 hw6 hb7 hw7 hR4 hw4
  obtain ⟨OUT, hOUT⟩ : ∃ X, X = (tagOf key bs).map (Value.int .u8) := ⟨_, rfl⟩
  have hOl : OUT.length = 32 := by rw [hOUT, List.length_map, tagOf_length]
  rw [← hOUT]
  have hJ : IsRow Tryz.prog 23 OUT.length := by rw [hOl]; exact rowId
  refine SeqS.alone (by decide +kernel) (by rfl) (fun K hK => ?_)
  refine wp_store_part 23 (.tmp 4) (.tmp 15) rfl rfl rfl hR7 hJ (by rw [hOl]; decide) (by rw [hOUT]; exact ints_oneCell' _ _) ?_
  intro w9 hR9 hg9
  go_simp
  refine hK _ _ trivial ?_
  clear hK K
  refine SeqS.done (by decide +kernel) ?_
  have hR9' := hR9.cast (overV_all _ _ (by rw [hOl]; rfl))
  go_wp2_with fail
  refine bodyPost_ret (results_blk rfl rfl hR9' hJ) rfl ?_
  exact ⟨by rw [hOUT], hz7.trans (below_of_grown hg9 (Nat.le_refl _) hR7.lt)⟩
end Go.Proofs.YtagacpjeooaapaaGreatDoor

/-
  What package mac's Check comes to; the document's examples of layer 3 (alive) come to true. Conditions: bytes are numbers from 0 to 255; of key and parts fewer than 2^32 - 4096; the package's variables hold the constants and the starts.
-/
namespace Go.Proofs.YtagacpjeooaapaaGreatDoor
open Go.RowKit

theorem below_of_draws {w w' : World} (h : ∃ k, w' = w.drewN k) (B : Nat) : Below B w w' := Draws.below h B

set_option maxRecDepth 100000 in
set_option maxHeartbeats 800000 in
theorem check_any (a : Option Addr) (n ca : Nat) (key : List Int) (c : Option Addr) (l cc : Nat) (ts : List Int) (b : Option Addr) (m cb : Nat) (ps : List (List Int)) (w : World) (hG : Glob w) (h1 : Ints .u8 w a n ca key) (r1 : ∀ x ∈ key, 0 ≤ x ∧ x < 256) (hn : n ≤ 4294967168) (h2 : Ints .u8 w c l cc ts) (r2 : ∀ x ∈ ts, 0 ≤ x ∧ x < 256) (hl : l ≤ maxLen) (hP : Parts w b m cb ps) (hr : ∀ p ∈ ps, ∀ x ∈ p, 0 ≤ x ∧ x < 256) (ht : ps.flatten.length ≤ 4294960000) (hm : m ≤ 4294967296) :
    Calls Tryz.prog 67 #[.slice a n ca, .slice c l cc, .slice b m cb] w fun e w' => e = .returned (.bool (decide (ts = tagOf key ps.flatten))) ∧ Below w.heap.size w w' := by
  go_enter Tryz.func67, Tryz.ntmps67
  go_wp2_with fail
  refine (of_any a n ca key b m cb ps w hG h1 r1 hn hP hr ht hm).mono ?_
  rintro e w1 ⟨rfl, hb1⟩
  obtain ⟨T, hT⟩ : ∃ T, T = tagOf key ps.flatten := ⟨_, rfl⟩
  have hTl : T.length = 32 := by rw [hT, tagOf_length]
  have hTr : ∀ x ∈ T, 0 ≤ x ∧ x < 256 := by rw [hT]; exact shaSum_range _
  rw [← hT]
  obtain ⟨X, hX⟩ : ∃ X, X = T.map (Value.int .u8) := ⟨_, rfl⟩
  have hXl : X.length = 32 := by rw [hX, List.length_map, hTl]
  rw [← hX]
  have HX := Lib.hid hX; have HXL := Lib.hid hXl; have HTL := Lib.hid hTl; have HT := Lib.hid hT
  have HI : IsRow Tryz.prog 23 X.length := by rw [hXl]; exact rowId
  have HO1 := Lib.hid (show ∀ v ∈ X, v.oneCell' = true by rw [hX]; exact ints_oneCell' _ _)
  have HOF := Lib.hid (show 0 + X.length ≤ (zb 32).length by rw [hXl]; decide)
  clear hX hXl hTl hT
  go_wp2_with ((with_reducible refine wpList_alloc_blk rfl 23 rfl zeroId ?_)
               refine wpList_store_part (g := w1.heap.size) (off := 0) (t := 23) (cur := zb 32) (cs := X) rfl 23 (.tmp 7) (.tmp 10) rfl ?_ ?_ (Blk.new w1 _ (zb 32)) HI ?_ HO1.out ?_
               rfl
               rfl
               exact HOF.out
               intro w2 hX' hg2)
  have B2 := hX'.cast (overV_all _ _ (by rw [HXL.out]; rfl))
  have hb2 : Below w1.heap.size w1 w2 := (below1 w1 _).trans (below_of_grown hg2 (Nat.le_refl _) (by rw [size1]; omega))
  have hw2 : Below w.heap.size w w2 := hb1.trans (hb2.mono hb1.size)
  have I2 : Ints .u8 w2 (some ⟨w1.heap.size, 0, none⟩) 32 32 T := Ints.of_blk B2 HTL.out (Nat.le_refl _) (fun i hi => by rw [HX.out, Nat.zero_add]; exact getElem?_mapInt _ _ _ (by rw [HTL.out]; exact hi))
  have h2' := h2.keep hw2
  clear hX' hg2 hb1 hb2 B2
  go_wp2_with fail
  refine (equal_any c l cc ts _ 32 32 T w2 h2' r2 I2 hTr hl (by unfold maxLen; omega)).mono ?_
  rintro e w3 ⟨rfl, hd⟩
  have hw3 : Below w.heap.size w w3 := hw2.trans ((below_of_draws hd _).mono (Nat.le_refl _))
  clear hd
  go_wp2
  go_ret
  exact ⟨by rw [HT.out]; rfl, hw3⟩

theorem noGuardId3 : Tryz.prog.eqGuardType Tryz.prog.depth 23 = false := by kernel_rfl
theorem eq_id (xs ys : List Int) (h : xs.length = 32) (h' : ys.length = 32) (w : World) : (Op.equalIn 10000 23 (.agg (xs.map (Value.int .u8)).toArray) (.agg (ys.map (Value.int .u8)).toArray)).run Tryz.prog w = .ok (decide (xs = ys)) w := by
  rw [run_equalIn_ints w 9998 23 5 32 .u8 Tryz.underlying23 Tryz.underlying5 sizeU8 xs ys h h']
  congr 1
  by_cases e : xs = ys
  · subst e; simp
  · rw [decide_eq_false e]; simp [e]
theorem ints_nil (k : IntKind) (w : World) (a : Option Addr) (cap : Nat) : Ints k w a 0 cap [] := ⟨rfl, Nat.zero_le _, .inl rfl⟩
end Go.Proofs.YtagacpjeooaapaaGreatDoor

/-
  The law MacEqual comes to true, whatever two slices of bytes; only new memory is written. Conditions: each byte is a number from 0 to 255; the package's variables hold the constants and the starts.
-/
namespace Go.Proofs.YtagacpjeooaapaaGreatDoor
open Go.RowKit

theorem wf_byte3 {a : Int} (h : (Lit.int .u8 a).wf = true) : 0 ≤ a ∧ a < 256 := by
  simp only [Lit.wf, Bool.and_eq_true, decide_eq_true_eq] at h
  have h1 : IntKind.u8.min = 0 := rfl
  have h2 : IntKind.u8.max = 255 := rfl
  omega
end Go.Proofs.YtagacpjeooaapaaGreatDoor
