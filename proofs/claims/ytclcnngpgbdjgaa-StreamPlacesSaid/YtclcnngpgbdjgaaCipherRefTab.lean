/-
  The document's own table of substitutes, and a word substituted by it. New memory alone is written.
-/
import Derived.Test.YtclcnngpgbdjgaaCipherRefMix
import Derived.Test.YtclcnngpgbdjgaaCipherAlive
namespace Go.Proofs.Ytclcnngpgbdjgaa
open Go.RowKit

theorem pw_back (k : Nat) (hk : k < 255) : pw 3 ((255 - k) % 255) = pw 246 k := by
  rw [inv_pw]
  refine inv_uniq _ _ (pw_256 k) (pw_256 _) ?_
  rw [← pw_add 3 k _ (by decide)]
  by_cases h0 : k = 0
  · subst h0; rfl
  · rw [show k + (255 - k) % 255 = 255 by rw [Nat.mod_eq_of_lt (by omega)]; omega]
    exact pw_255 3 (by decide) (by decide)
theorem ivs_next (k : Nat) : tf (ivs (k + 1)).reverse = upd (tf (ivs k).reverse) (pw 3 k) (st (pw 246 k)) := by
  unfold ivs
  rw [List.range_succ, List.map_append, List.reverse_append]
  rfl

theorem fTimes3 (a : Nat) (v : World) (ha : a < 256) : Calls Try.prog 46 #[.int .u8 (a : Int), .int .u8 3] v fun e w' => e = .returned (.int .u8 (tm a 3 : Nat)) ∧ v = w' :=
  rTimes_is (a : Int) 3 (tm a 3 : Nat) a 3 _ v rfl rfl ha (by decide) rfl rfl

set_option maxRecDepth 100000 in
set_option maxHeartbeats 1000000 in
theorem rTable_any (w : World) : Calls Try.prog 33 #[] w fun e w' => ∃ b c, e = .returned (.slice b 256 c) ∧ Ints .u8 w' b 256 c (bytesL 256 sb) ∧ Below w.heap.size w w' := by
  obtain ⟨i0, hi, hz0, hz1, hz2⟩ := info_parts infoU8
  obtain ⟨g, hg⟩ : ∃ g, w.heap.size = g := ⟨_, rfl⟩
  have hg := Lib.hid hg
  go_enter Try.func33, Try.ntmps33
  go_wp2
  go_loopw [1, 2, 3] (fun l p i wr => ∃ k : Nat, k ≤ 255 ∧ i = .int .i64 k ∧ p = .int .u8 (pw 3 k : Nat) ∧ wr.ownsRow g 5 1 l k (rowN k (pw 3)) ∧ Below g w wr) (fun _ _ i _ => 255 - (intOf i).toNat)
  case atStart => exact ⟨0, by omega, rfl, rfl, World.ownsRow_nil _ _ _ _, Below.refl _ _⟩
  case round =>
    obtain ⟨k, hk, rfl, rfl, hown, hB⟩ := hrel
    by_cases hlt : k < 255
    · have hki : (k : Int) < 255 := by omega
      have hBs : g ≤ wr.heap.size := Nat.le_trans (by have := hg.out; omega) hB.size
      have hnx := Lib.hid (show tm (pw 3 k) 3 = pw 3 (k + 1) from rfl)
      have ht := fun v => fTimes3 (pw 3 k) v (pw_256 k)
      have hle := Lib.hid hlt
      have hBs := Lib.hid hBs
      clear hlt hk
      go_wp2_with (at_builtin; refine wpList_append_ints rfl (.tmp 10) (.tmp 12) 31 rfl g 5 i0 (.int .u8 0) 1 Try.underlying31 hi hz0 hz1 hz2 rfl rfl (hown.alloc _) rfl (one_at _ _ _ _) ?_ ?_ (by have := hBs.out; simp; omega) ?_; (have := hle.out; unfold maxLen; omega); (have := hle.out; omega); intro v3 w3 hown3 hg3; refine RowKit.Hid.out ?_)
      refine Lib.hid ?_
      have hB3 : Below g w w3 := (hB.alloc hBs.out _).grown hg3 (by have := hBs.out; simp; omega) (fun j hj => (hown.lt j hj).1)
      have hown3 : w3.ownsRow g 5 1 v3 (k + 1) (rowN (k + 1) (pw 3)) := by rw [rowN_snoc]; exact hown3
      clear hown hB hg3
      go_wp2_with fail
      refine (ht _).mono ?_
      rintro e w' ⟨rfl, rfl⟩
      go_wp2
      go_roundw
      case rel => exact ⟨k + 1, by have := hle.out; omega, by go_num, by rw [hnx.out], hown3, hB3⟩
      case measure => have := hle.out; simp [intOf]; omega
    · obtain rfl : k = 255 := by omega
      obtain ⟨lb, lc, rfl, hL⟩ := Ints.of_owns (xs := bytesL 255 (pw 3)) (by rw [bytesL_row]; exact hown)
      obtain ⟨bk2, off, rfl, _⟩ := hL.at (by decide)
      have hBs : g ≤ wr.heap.size := Nat.le_trans (by have := hg.out; omega) hB.size
      clear hown
      go_wp2_with (at_make; refine wpList_make_two rfl _ _ 31 rfl wr.heap.size 5 i0 (.int .u8 0) Try.underlying31 hi hz0 hz1 rfl (n := 256) (C := 256) rfl rfl rfl rfl (Nat.le_refl _) ?_ ?_ (Nat.le_refl _) ?_; (rw [hz2]; decide); (unfold maxLen; decide); intro w1 hown1 hk1 hg1; refine RowKit.Hid.out ?_)
      refine Lib.hid ?_
      rw [rep_zero] at hk1
      have b1 : Below wr.heap.size wr w1 := (Below.refl _ wr).grown hg1 (Nat.le_refl _) (fun j hj => by cases hj)
      have hB1 := hB.trans (b1.mono hBs)
      have hL1 := hL.keep b1
      obtain ⟨T, hT⟩ : ∃ T, wr.heap.size = T := ⟨_, rfl⟩
      have hlT : bk2 < T := by rw [← hT]; exact World.block_lt_of_cell? wr _ (hL.cell_at 0 (by decide))
      rw [hT] at hk1 hBs ⊢
      have hlT := Lib.hid hlT
      have hgT := Lib.hid hBs
      clear hown1 hg1 b1 hL hB hT hBs
      go_wp2_with fail
      refine (shifted_of 0 0 (st 0) w1 rfl (by decide) rfl).mono ?_
      rintro e w' ⟨rfl, n1, rfl⟩
      have hk2 : Blk (w1.drewN n1) T 5 (rowN 256 zf) := hk1
      have hL2 : Ints .u8 (w1.drewN n1) (some ⟨bk2, off, none⟩) 255 lc (bytesL 255 (pw 3)) := hL1
      have hB2 : Below g w (w1.drewN n1) := below_drewN hB1 n1
      obtain ⟨w2, hw2⟩ : ∃ w2, w1.drewN n1 = w2 := ⟨_, rfl⟩
      rw [hw2] at hk2 hL2 hB2 ⊢
      clear hw2 hk1 hL1 hB1
      have c0 := hk2.cell 0
      rw [rowN_at 256 zf 0 (by decide)] at c0
      have f0 : w2.frozen? ⟨T, 0, none⟩ = false := Blk.frozen hk2 0
      have hk3 : Blk (w2.setCell ⟨T, 0, none⟩ (.int .u8 (st 0 : Nat))) T 5 (rowN 256 (tf (ivs 0).reverse)) := by
        have := hk2.set 0 (.int .u8 (st 0 : Nat))
        rw [rowN_set 256 zf 0 _ (by decide)] at this
        exact this
      have hL3 : Ints .u8 (w2.setCell ⟨T, 0, none⟩ (.int .u8 (st 0 : Nat))) (some ⟨bk2, off, none⟩) 255 lc (bytesL 255 (pw 3)) :=
        hL2.grown (grown_setCell w2 T 0 _) (fun x hx _ => by injection hx with hx; subst hx; have := hlT.out; show bk2 ≠ T; omega)
      have hB3 := hB2.setCell (p := ⟨T, 0, none⟩) hgT.out (.int .u8 (st 0 : Nat))
      have hk3 := Lib.hid hk3
      have hL3 := Lib.hid hL3
      have hB3 := Lib.hid hB3
      clear hk2 hL2 hB2
      go_wp2
      go_loopw [5] (fun i wr => ∃ k : Nat, k ≤ 255 ∧ i = .int .i64 k ∧ Blk wr T 5 (rowN 256 (tf (ivs k).reverse)) ∧ Ints .u8 wr (some ⟨bk2, off, none⟩) 255 lc (bytesL 255 (pw 3)) ∧ Below g w wr) (fun i _ => 255 - (intOf i).toNat)
      case atStart => exact ⟨0, by omega, rfl, hk3.out, hL3.out, hB3.out⟩
      case round =>
        clear hk3 hL3 hB3 c0 f0
        obtain ⟨k, hk, rfl, hx, hL, hB⟩ := hrel
        by_cases hlt : k < 255
        · obtain ⟨v, hv, hD⟩ := Draws.one wr
          have hx := hD.blk hx
          have hL : Ints .u8 v (some ⟨bk2, off, none⟩) 255 lc (bytesL 255 (pw 3)) := by rw [← hv]; exact hL
          have hB := hB.trans (hD.below g)
          obtain ⟨j, hj⟩ : ∃ j, (255 - k) % 255 = j := ⟨_, rfl⟩
          have hjl : j < 255 := by rw [← hj]; exact Nat.mod_lt _ (by decide)
          have hpb := pw_back k hlt
          rw [hj] at hpb
          have ck := hL.cell_at k hlt
          have cj := hL.cell_at j hjl
          rw [bytesL_at 255 _ k hlt] at ck
          rw [bytesL_at 255 _ j hjl, hpb] at cj
          obtain ⟨x, hxe⟩ : ∃ x, pw 3 k = x := ⟨_, rfl⟩
          obtain ⟨y, hye⟩ : ∃ y, pw 246 k = y := ⟨_, rfl⟩
          have hxl : x < 256 := by rw [← hxe]; exact pw_256 k
          have hyl : y < 256 := by rw [← hye]; exact pw_256 k
          have hnx := ivs_next k
          rw [hxe, hye] at hnx
          rw [hxe] at ck
          rw [hye] at cj
          have j1 : IntKind.i64.wrap (255 - (k : Int)) = 255 - (k : Int) := by rw [IntKind.wrap_i64]; omega
          have j2 : (255 - (k : Int)).tmod 255 = (j : Int) := by rw [Int.tmod_eq_emod_of_nonneg (by omega)]; omega
          have hki : (k : Int) < 255 := by omega
          have hji : (j : Int) < 255 := by omega
          have hxi : (x : Int) < 256 := by omega
          have hyw : IntKind.i64.wrap (y : Int) = (y : Int) := by rw [IntKind.wrap_i64]; omega
          have hyl := Lib.hid hyl
          have hxl := Lib.hid hxl
          have hnx := Lib.hid hnx
          have hle := Lib.hid hlt
          have hSS := And.intro ck cj
          clear hj hjl hpb hxe hye hlt hk
          go_wp2_with fail
          refine region_seqS (fun w' => w'.cell? ⟨bk2, off + k, none⟩ = some (.int .u8 (x : Int)) ∧ w'.cell? ⟨bk2, off + j, none⟩ = some (.int .u8 (y : Int))) (by kernel_rfl) (by rw [hv]; exact hSS) ?_
          simp only [pairs, Nat.reduceAdd]
          change SeqS _ _ _ _ _ _ _ _ wr.drew
          rw [hv]
          clear hv hD
          repeat (first
            | (refine SeqS.take (v := ?_) (by first | assumption | trivial) (by kernel_rfl) (by decide +kernel) (by decide +kernel) (Or.inl ⟨by rfl, ?_⟩) ?_
               rotate_left
               focus
                 intro w' hb'
                 obtain ⟨g1, g2⟩ := hb'
                 go_simp
                 with_reducible rfl
               simp only [Act.put, List.setIfInBounds_toArray, List.set_cons_zero, List.set_cons_succ])
            | (refine SeqS.take1 (v := ?_) (by first | assumption | trivial) (by kernel_rfl) (by decide +kernel) (by decide +kernel) (Or.inl ⟨by rfl, ?_⟩) ?_
               rotate_left
               focus
                 intro w' hb'
                 obtain ⟨g1, g2⟩ := hb'
                 go_simp
                 with_reducible rfl
               simp only [Act.put, List.setIfInBounds_toArray, List.set_cons_zero, List.set_cons_succ])
            | (refine SeqS.take2 (v := ?_) (by first | assumption | trivial) (by kernel_rfl) (by decide +kernel) (by decide +kernel) (Or.inl ⟨by rfl, ?_⟩) ?_
               rotate_left
               focus
                 intro w' hb'
                 obtain ⟨g1, g2⟩ := hb'
                 go_simp
                 with_reducible rfl
               simp only [Act.put, List.setIfInBounds_toArray, List.set_cons_zero, List.set_cons_succ]))
          refine SeqS.alone (by decide +kernel) (by rfl) (fun K hK => ?_)
          go_simp
          refine (shifted_of (y : Int) y (st y) v rfl hyl.out rfl).mono ?_
          rintro e w' ⟨rfl, n2, rfl⟩
          have hS2 : (v.drewN n2).cell? ⟨bk2, off + k, none⟩ = some (.int .u8 (x : Int)) ∧ (v.drewN n2).cell? ⟨bk2, off + j, none⟩ = some (.int .u8 (y : Int)) := hSS
          have hx : Blk (v.drewN n2) T 5 (rowN 256 (tf (ivs k).reverse)) := hx
          have hL : Ints .u8 (v.drewN n2) (some ⟨bk2, off, none⟩) 255 lc (bytesL 255 (pw 3)) := hL
          have hB : Below g w (v.drewN n2) := below_drewN hB n2
          go_simp
          refine hK _ _ hS2 ?_
          clear hK K
          obtain ⟨v2, hv2⟩ : ∃ v2, v.drewN n2 = v2 := ⟨_, rfl⟩
          rw [hv2] at hS2 hx hL hB ⊢
          clear hv2 hSS ck cj
          repeat (first
            | (refine SeqS.take (v := ?_) (by first | assumption | trivial) (by kernel_rfl) (by decide +kernel) (by decide +kernel) (Or.inl ⟨by rfl, ?_⟩) ?_
               rotate_left
               focus
                 intro w' hb'
                 obtain ⟨g1, g2⟩ := hb'
                 go_simp
                 with_reducible rfl
               simp only [Act.put, List.setIfInBounds_toArray, List.set_cons_zero, List.set_cons_succ])
            | (refine SeqS.take1 (v := ?_) (by first | assumption | trivial) (by kernel_rfl) (by decide +kernel) (by decide +kernel) (Or.inl ⟨by rfl, ?_⟩) ?_
               rotate_left
               focus
                 intro w' hb'
                 obtain ⟨g1, g2⟩ := hb'
                 go_simp
                 with_reducible rfl
               simp only [Act.put, List.setIfInBounds_toArray, List.set_cons_zero, List.set_cons_succ])
            | (refine SeqS.take2 (v := ?_) (by first | assumption | trivial) (by kernel_rfl) (by decide +kernel) (by decide +kernel) (Or.inl ⟨by rfl, ?_⟩) ?_
               rotate_left
               focus
                 intro w' hb'
                 obtain ⟨g1, g2⟩ := hb'
                 go_simp
                 with_reducible rfl
               simp only [Act.put, List.setIfInBounds_toArray, List.set_cons_zero, List.set_cons_succ]))
          have ct := hx.cell x
          rw [rowN_at 256 _ x hxl.out] at ct
          have ft : v2.frozen? ⟨T, x, none⟩ = false := Blk.frozen hx x
          have hset := hx.set x (.int .u8 (st y : Nat))
          rw [rowN_set 256 _ _ _ hxl.out, ← hnx.out] at hset
          have hset := Lib.hid hset
          have hgr := grown_setCell v2 T x (.int .u8 (st y : Nat))
          have hS3 : (v2.setCell ⟨T, x, none⟩ (.int .u8 (st y : Nat))).cell? ⟨bk2, off + k, none⟩ = some (.int .u8 (x : Int)) ∧ (v2.setCell ⟨T, x, none⟩ (.int .u8 (st y : Nat))).cell? ⟨bk2, off + j, none⟩ = some (.int .u8 (y : Int)) :=
            ⟨hgr.cell hS2.1 (by have := hlT.out; simp; omega), hgr.cell hS2.2 (by have := hlT.out; simp; omega)⟩
          have hL3 : Ints .u8 (v2.setCell ⟨T, x, none⟩ (.int .u8 (st y : Nat))) (some ⟨bk2, off, none⟩) 255 lc (bytesL 255 (pw 3)) :=
            hL.grown hgr (fun z hz _ => by injection hz with hz; subst hz; have := hlT.out; show bk2 ≠ T; omega)
          have hB3 := hB.setCell (p := ⟨T, x, none⟩) hgT.out (.int .u8 (st y : Nat))
          have hS3 := Lib.hid hS3
          have hL3 := Lib.hid hL3
          refine SeqS.alone (by decide +kernel) (by rfl) (fun K hK => ?_)
          go_simp
          refine hK _ _ hS3.out ?_
          clear hK K
          refine SeqS.done (by decide +kernel) ?_
          clear hx hL hgr hS2 hB
          go_wp2
          go_roundw
          case rel => exact ⟨k + 1, by have := hle.out; omega, by go_num, hset.out, hL3.out, hB3⟩
          case measure => have := hle.out; simp [intOf]; omega
        · obtain rfl : k = 255 := by omega
          have hx : Blk wr T 5 (rowN 256 sb) := hx.cast (rowN_congr (fun i hi => tf_ivs i hi))
          go_wp2
          go_ret
          refine ⟨some ⟨T, 0, none⟩, 256, rfl, ?_, ?_⟩
          · have := Ints.row (o := 0) (cap := 256) hx 256 (by decide) (by decide)
            rw [show (fun i => sb (0 + i)) = sb by funext i; rw [Nat.zero_add]] at this
            exact this
          · rw [hg.out]; exact hB

set_option maxHeartbeats 1000000 in
theorem rWord2_any (b off cap : Nat) (x : Nat) (w : World) (hT : Ints .u8 w (some ⟨b, off, none⟩) 256 cap (bytesL 256 sb)) (hx : x < 4294967296) :
    Calls Try.prog 35 #[.slice (some ⟨b, off, none⟩) 256 cap, .int .u32 (x : Int)] w fun e w' => e = .returned (.int .u32 (bwd sb x 4 : Nat)) ∧ w = w' := by
  have hxi : (x : Int) < 4294967296 := by omega
  have hxn := Lib.hid hx
  have hT := Lib.hid hT
  clear hx
  go_enter Try.func35, Try.ntmps35
  go_wp2
  go_loop [5, 6] (fun out i => ∃ k : Nat, k ≤ 4 ∧ i = .int .i64 (3 - (k : Int)) ∧ out = .int .u32 (wr sb x k : Int)) (fun _ i => (intOf i + 1).toNat)
  case atStart => exact ⟨0, by omega, rfl, rfl⟩
  case round =>
    obtain ⟨k, hk, rfl, rfl⟩ := hrel
    by_cases hlt : k < 4
    · have hl := Lib.hid (wr_lt sb sb_256 x k)
      have hs := Lib.hid (show wr sb x (k + 1) = 256 * wr sb x k + sb (x / 2 ^ (8 * (3 - k)) % 256) from rfl)
      obtain ⟨q, hq⟩ : ∃ q, wr sb x k = q := ⟨_, rfl⟩
      rw [hq] at hs hl ⊢
      clear hq
      obtain rfl | rfl | rfl | rfl : k = 0 ∨ k = 1 ∨ k = 2 ∨ k = 3 := by omega
      · obtain ⟨y, hy⟩ : ∃ y, x / 16777216 % 256 = y := ⟨_, rfl⟩
        have hyl : y < 256 := by rw [← hy]; exact Nat.mod_lt _ (by decide)
        have hyi : (x : Int) / 16777216 % 256 = (y : Int) := by rw [← hy]; have := hxn.out; omega
        have hye : IntKind.u32.wrap (y : Int) = (y : Int) := by rw [IntKind.wrap_u32]; omega
        have hyl2 : (y : Int) < 256 := by omega
        have hcy := (hT.out.cell_at y hyl)
        rw [bytesL_at 256 sb y hyl] at hcy
        obtain ⟨t, ht⟩ : ∃ t, sb y = t := ⟨_, rfl⟩
        rw [ht] at hcy
        have htl : (t : Int) < 256 := by have := sb_256 y; omega
        have hs2 := Lib.hid (show wr sb x (0 + 1) = 256 * q + t from by rw [hs.out, ← ht, ← hy])
        have hy := Lib.hid hy
        have ht := Lib.hid ht
        have hyl := Lib.hid hyl
        clear hy ht hyl
        go_wp2
        go_round
        case rel =>
          refine ⟨1, by omega, by go_num, ?_⟩
          rw [hs2.out]
          have := hl.out
          refine congrArg (Value.int .u32) ?_
          omega
        case measure => simp [intOf]
      · obtain ⟨y, hy⟩ : ∃ y, x / 65536 % 256 = y := ⟨_, rfl⟩
        have hyl : y < 256 := by rw [← hy]; exact Nat.mod_lt _ (by decide)
        have hyi : (x : Int) / 65536 % 256 = (y : Int) := by rw [← hy]; have := hxn.out; omega
        have hye : IntKind.u32.wrap (y : Int) = (y : Int) := by rw [IntKind.wrap_u32]; omega
        have hyl2 : (y : Int) < 256 := by omega
        have hcy := (hT.out.cell_at y hyl)
        rw [bytesL_at 256 sb y hyl] at hcy
        obtain ⟨t, ht⟩ : ∃ t, sb y = t := ⟨_, rfl⟩
        rw [ht] at hcy
        have htl : (t : Int) < 256 := by have := sb_256 y; omega
        have hs2 := Lib.hid (show wr sb x (1 + 1) = 256 * q + t from by rw [hs.out, ← ht, ← hy])
        have hy := Lib.hid hy
        have ht := Lib.hid ht
        have hyl := Lib.hid hyl
        clear hy ht hyl
        go_wp2
        go_round
        case rel =>
          refine ⟨2, by omega, by go_num, ?_⟩
          rw [hs2.out]
          have := hl.out
          refine congrArg (Value.int .u32) ?_
          omega
        case measure => simp [intOf]
      · obtain ⟨y, hy⟩ : ∃ y, x / 256 % 256 = y := ⟨_, rfl⟩
        have hyl : y < 256 := by rw [← hy]; exact Nat.mod_lt _ (by decide)
        have hyi : (x : Int) / 256 % 256 = (y : Int) := by rw [← hy]; have := hxn.out; omega
        have hye : IntKind.u32.wrap (y : Int) = (y : Int) := by rw [IntKind.wrap_u32]; omega
        have hyl2 : (y : Int) < 256 := by omega
        have hcy := (hT.out.cell_at y hyl)
        rw [bytesL_at 256 sb y hyl] at hcy
        obtain ⟨t, ht⟩ : ∃ t, sb y = t := ⟨_, rfl⟩
        rw [ht] at hcy
        have htl : (t : Int) < 256 := by have := sb_256 y; omega
        have hs2 := Lib.hid (show wr sb x (2 + 1) = 256 * q + t from by rw [hs.out, ← ht, ← hy])
        have hy := Lib.hid hy
        have ht := Lib.hid ht
        have hyl := Lib.hid hyl
        clear hy ht hyl
        go_wp2
        go_round
        case rel =>
          refine ⟨3, by omega, by go_num, ?_⟩
          rw [hs2.out]
          have := hl.out
          refine congrArg (Value.int .u32) ?_
          omega
        case measure => simp [intOf]
      · obtain ⟨y, hy⟩ : ∃ y, x % 256 = y := ⟨_, rfl⟩
        have hyl : y < 256 := by rw [← hy]; exact Nat.mod_lt _ (by decide)
        have hyi : (x : Int) % 256 = (y : Int) := by rw [← hy]; have := hxn.out; omega
        have hye : IntKind.u32.wrap (y : Int) = (y : Int) := by rw [IntKind.wrap_u32]; omega
        have hyl2 : (y : Int) < 256 := by omega
        have hcy := (hT.out.cell_at y hyl)
        rw [bytesL_at 256 sb y hyl] at hcy
        obtain ⟨t, ht⟩ : ∃ t, sb y = t := ⟨_, rfl⟩
        rw [ht] at hcy
        have htl : (t : Int) < 256 := by have := sb_256 y; omega
        have hs2 := Lib.hid (show wr sb x (3 + 1) = 256 * q + t from by rw [hs.out, ← ht, ← hy, Nat.div_one])
        have hy := Lib.hid hy
        have ht := Lib.hid ht
        have hyl := Lib.hid hyl
        clear hy ht hyl
        go_wp2
        go_round
        case rel =>
          refine ⟨4, by omega, by go_num, ?_⟩
          rw [hs2.out]
          have := hl.out
          refine congrArg (Value.int .u32) ?_
          omega
        case measure => simp [intOf]
    · obtain rfl : k = 4 := by omega
      have hw := Lib.hid (wr_wd sb x)
      go_wp2
      go_ret
      exact ⟨ret_u32 (by rw [hw.out]), rfl⟩
end Go.Proofs.Ytclcnngpgbdjgaa
