/-
  The document's example comes to true, in whatever world; nothing that lay is written.
-/
import Derived.Test.YtohobknianhplaaCipherEx
import Derived.Test.YtohobknianhplaaCipherDec
import Derived.Test.YtohobknianhplaaCipherNew
import Derived.Test.YtohobknianhplaaEqArr
import Derived.Test.YtohobknianhplaaAppends
import Derived.Test.YtohobknianhplaaSteps
namespace Go.Proofs.Ytohobknianhplaa
open Go.RowKit

theorem bytesL_inj {n : Nat} {f h : Nat → Nat} (e : bytesL n f = bytesL n h) : Ag n f h := rowN_inj (by rw [← bytesL_row, ← bytesL_row, e])
theorem noGuard16 : Try.prog.eqGuardType Try.prog.depth 24 = false := by kernel_rfl
theorem eq16 (f h : Nat → Nat) (w : World) : (Op.equalIn 10000 24 (.agg (rowN 16 f).toArray) (.agg (rowN 16 h).toArray)).run Try.prog w = .ok (bytesL 16 f == bytesL 16 h) w := by
  rw [← bytesL_row, ← bytesL_row]
  exact run_equalIn_ints w 9998 24 5 16 .u8 Try.underlying24 Try.underlying5 sizeU8' (bytesL 16 f) (bytesL 16 h) (bytesL_len 16 f) (bytesL_len 16 h)
theorem same16 (f : Nat → Nat) (w : World) : (Op.equalIn 10000 24 (.agg (rowN 16 f).toArray) (.agg (rowN 16 f).toArray)).run Try.prog w = .ok true w := by
  rw [eq16]; simp
theorem rep_zero (n : Nat) : List.replicate n (Value.int .u8 0) = rowN n zf := by
  show _ = (List.range n).map (fun _ => Value.int .u8 0)
  rw [List.map_const', List.length_range]
/-- A row of bytes in a block is a slice of them. -/
theorem Ints.row {w : World} {g n cap o : Nat} {t : TypeId} {f : Nat → Nat} (h : Blk w g t (rowN n f)) (m : Nat) (hm : o + m ≤ n) (hc : m ≤ cap) : Ints .u8 w (some ⟨g, o, none⟩) m cap (bytesL m (fun i => f (o + i))) :=
  Ints.of_blk h (bytesL_len m _) hc (fun i hi => by rw [rowN_at n _ _ (by omega), bytesL_at m _ i hi])

set_option maxRecDepth 100000 in
set_option maxHeartbeats 1000000 in
theorem cAlive_any (w : World) : Calls Try.prog 11 #[] w fun e w' => e = .returned (.bool true) ∧ Below w.heap.size w w' := by
  obtain ⟨i0, hi, hz0, hz1, hz2⟩ := info_parts infoU8
  go_enter Try.func11, Try.ntmps11
  go_wp2_with (at_make; refine wpList_make_two rfl _ _ 29 rfl w.heap.size 5 i0 (.int .u8 0) Try.underlying29 hi hz0 hz1 rfl (n := 32) (C := 32) rfl rfl rfl rfl (Nat.le_refl _) ?_ ?_ (Nat.le_refl _) ?_; (rw [hz2]; decide); (unfold maxLen; decide); intro w1 hown1 hk1 hg1; refine RowKit.Hid.out ?_)
  refine Lib.hid ?_
  rw [rep_zero] at hk1
  have hB1 : Below w.heap.size w w1 := (Below.refl _ w).grown hg1 (Nat.le_refl _) (fun j hj => by cases hj)
  obtain ⟨g, hg⟩ : ∃ g, w.heap.size = g := ⟨_, rfl⟩
  rw [hg] at hk1 hB1
  rw [hg]
  have hg := Lib.hid hg
  clear hown1 hg1
  go_wp2
  go_loopw [11] (fun i wr => ∃ k : Nat, k ≤ 32 ∧ i = .int .i64 k ∧ Blk wr g 5 (rowN 32 (upto k exKey zf)) ∧ Below g w wr) (fun i _ => 32 - (intOf i).toNat)
  case atStart => exact ⟨0, by omega, rfl, by rw [upto_zero]; exact hk1, hB1⟩
  case round =>
    clear hk1 hB1
    obtain ⟨k, hk, rfl, hx, hB⟩ := hrel
    by_cases hlt : k < 32
    · have cx := hx.cell k
      rw [rowN_at 32 _ k hlt, upto_at] at cx
      have fx : wr.frozen? ⟨g, k, none⟩ = false := Blk.frozen hx k
      have hset := hx.set k (.int .u8 (exKey k : Nat))
      rw [rowN_set 32 _ _ _ hlt, upto_step _ _ _ _ rfl, show exKey k = k by unfold exKey; omega] at hset
      have hset := Lib.hid hset
      have hki : (k : Int) < 32 := by omega
      have hk8 : (k : Int) < 256 := by omega
      have hle := Lib.hid hlt
      clear hlt hk
      go_wp2
      go_roundw
      case rel => exact ⟨k + 1, by have := hle.out; omega, by go_num, hset.out, hB.setCell (p := ⟨g, k, none⟩) (Nat.le_refl _) _⟩
      case measure => have := hle.out; simp [intOf]; omega
    · obtain rfl : k = 32 := by omega
      have hx : Blk wr g 5 (rowN 32 exKey) := hx.cast (rowN_congr (upto_all 32 exKey zf))
      have hI : Ints .u8 wr (some ⟨g, 0, none⟩) 32 32 (bytesL 32 exKey) := by
        have := Ints.row (o := 0) (cap := 32) hx 32 (by decide) (by decide)
        rw [show (fun i => exKey (0 + i)) = exKey by funext i; rw [Nat.zero_add]] at this
        exact this
      have hexr := bytesL_range (f := exKey) (fun _ => Nat.mod_lt _ (by decide)) 32
      go_wp2_with fail
      refine (cNew_any (some ⟨g, 0, none⟩) 32 (bytesL 32 exKey) wr hI hexr).mono ?_
      rintro e w2 ⟨q, rfl, hqs, hC, hb2⟩
      have hC : CiAt w2 q exF sb bk true true := hC
      have hB2 := hB.trans (hb2.mono (by have := hB.size; have := hg.out; omega))
      have hqg : g ≤ q := Nat.le_trans (by have := hB.size; have := hg.out; omega) hqs
      clear hI hexr hx hb2
      go_wp2_with (with_reducible refine wpList_alloc_blk rfl 24 rfl zero16 ?_)
      have hx0 := Blk.new w2 24 (rowN 16 (upto 0 exBlk zf))
      have hC0 : CiAt (w2.alloc (.cells (rowN 16 (upto 0 exBlk zf)).toArray 24)) q exF sb bk true true := Blk.alloc hC _
      have hB0 := hB2.alloc (Nat.le_trans hqg (Nat.le_of_lt (Blk.lt hC))) (.cells (rowN 16 (upto 0 exBlk zf)).toArray 24)
      have hqp : q < w2.heap.size := Blk.lt hC
      rw [upto_zero] at hx0 hC0 hB0
      obtain ⟨w3, hw3⟩ : ∃ w3, w2.alloc (.cells (rowN 16 zf).toArray 24) = w3 := ⟨_, rfl⟩
      obtain ⟨p, hp⟩ : ∃ p, w2.heap.size = p := ⟨_, rfl⟩
      rw [hw3] at hx0 hC0 hB0 ⊢
      rw [hp] at hx0 hqp ⊢
      have hgp : g ≤ p := by omega
      have hqp := Lib.hid hqp
      have hgp := Lib.hid hgp
      have hqg := Lib.hid hqg
      clear hw3 hp hC hB2 hqs hB
      go_loopw [31] (fun i wr => ∃ k : Nat, k ≤ 16 ∧ i = .int .i64 k ∧ Blk wr p 24 (rowN 16 (upto k exBlk zf)) ∧ CiAt wr q exF sb bk true true ∧ Below g w wr) (fun i _ => 16 - (intOf i).toNat)
      case atStart => exact ⟨0, by omega, rfl, by rw [upto_zero]; exact hx0, hC0, hB0⟩
      case round =>
        clear hx0 hC0 hB0
        obtain ⟨k, hk, rfl, hx, hC, hB⟩ := hrel
        by_cases hlt : k < 16
        · have cx := hx.cell k
          rw [rowN_at 16 _ k hlt, upto_at] at cx
          have fx : wr.frozen? ⟨p, k, none⟩ = false := Blk.frozen hx k
          have hset := hx.set k (.int .u8 (exBlk k : Nat))
          rw [rowN_set 16 _ _ _ hlt, upto_step _ _ _ _ rfl, show exBlk k = 17 * k by unfold exBlk; omega] at hset
          have hset := Lib.hid hset
          have hki : (k : Int) < 16 := by omega
          have hk8 : IntKind.u8.wrap (17 * (k : Int)) = ((17 * k : Nat) : Int) := by rw [IntKind.wrap_u8]; omega
          have hk9 : 17 * (k : Int) % 256 = 17 * (k : Int) := by omega
          have hle := Lib.hid hlt
          clear hlt hk
          go_wp2
          go_roundw
          case rel => exact ⟨k + 1, by have := hle.out; omega, by go_num, hset.out, Blk.far hC (p := ⟨p, k, none⟩) (by have := hqp.out; simp; omega) _, hB.setCell (p := ⟨p, k, none⟩) hgp.out _⟩
          case measure => have := hle.out; simp [intOf]; omega
        · obtain rfl : k = 16 := by omega
          have hx : Blk wr p 24 (rowN 16 exBlk) := hx.cast (rowN_congr (upto_all 16 exBlk zf))
          have hbb : By exBlk := fun _ => Nat.mod_lt _ (by decide)
          have hFb : By exF := kb_by _
          go_wp2_with ((refine wpList_load16 rfl (.tmp 5) rfl ?_ hx ?_); rfl)
          refine (cEnc_any q exF exBlk wr hFb hbb hC).mono ?_
          rintro e w5 ⟨rfl, hb5⟩
          have hxl := hx.lt
          have hC := Blk.keep (show Blk wr q _ _ from hC) hb5 (Blk.lt hC)
          have hB5 := hB.trans (hb5.mono (by have := hgp.out; omega))
          have hx := hx.keep hb5 hxl
          have hxl5 := hx.lt
          obtain ⟨X, hX⟩ : ∃ X, enc (keyAt exF) exBlk = X := ⟨_, rfl⟩
          have hXb : By X := by rw [← hX]; exact enc_by (fun r => keyAt_by hFb r) hbb
          have hX0 : X 0 = 142 := by rw [← hX]; exact ex_first
          have hX1 : X 1 = 162 := by rw [← hX]; exact ex_second
          have hX2 : X 15 = 137 := by rw [← hX]; exact ex_last
          have hXd : rowN 16 (dec (keyAt exF) X) = rowN 16 exBlk := by rw [← hX]; exact rowN_congr (dec_enc _ (fun r => keyAt_by hFb r) _ hbb)
          rw [hX]
          clear hX hb5 hB
          have hn := Blk.new w5 24 (rowN 16 zf)
          go_wp2_with (first
            | (with_reducible refine wpList_alloc_blk rfl 24 rfl zero16 ?_)
            | ((refine wpList_store16 (new := X) rfl (.tmp 7) (.tmp 42) rfl ?_ ?_ hn ?_); rfl; rfl; intro w6 hy6 hg6; refine RowKit.Hid.out ?_))
          refine Lib.hid ?_
          have b6 : Below w5.heap.size w5 w6 := (below1 w5 _).trans (below_of_grown hg6 (Nat.le_refl _) (by rw [size1]; omega))
          have hC6 : CiAt w6 q exF sb bk true true := Blk.keep hC b6 (Blk.lt hC)
          have hx6 := hx.keep b6 hx.lt
          have hB6 := hB5.trans (b6.mono (by have := hgp.out; omega))
          obtain ⟨y, hy⟩ : ∃ y, w5.heap.size = y := ⟨_, rfl⟩
          rw [hy] at hy6 ⊢
          clear hn hg6 b6 hC hx hB5 hy
          have y0 := hy6.cell 0
          have y1 := hy6.cell 1
          have y2 := hy6.cell 15
          rw [rowN_at 16 _ 0 (by decide), hX0] at y0
          rw [rowN_at 16 _ 1 (by decide), hX1] at y1
          rw [rowN_at 16 _ 15 (by decide), hX2] at y2
          have hng := noGuard16
          have same := same16 exBlk
          have XX := Lib.hid (fun w' (h : Below w6.heap.size w6 w') => (hy6.keep h hy6.lt : Blk w' y 24 (rowN 16 X)))
          have YY := Lib.hid (fun w' (h : Below w6.heap.size w6 w') => (hx6.keep h hx6.lt : Blk w' p 24 (rowN 16 exBlk)))
          have CY := Lib.hid (fun w' (h : Below w6.heap.size w6 w') => cDec_any q exF X w' hFb hXb (Blk.keep hC6 h (Blk.lt hC6)))
          have Z0 := Lib.hid (fun w' (h : Below w6.heap.size w6 w') => (h.cell (p := ⟨y, 0, none⟩) hy6.lt).trans y0)
          have Z1 := Lib.hid (fun w' (h : Below w6.heap.size w6 w') => (h.cell (p := ⟨y, 1, none⟩) hy6.lt).trans y1)
          have Z2 := Lib.hid (fun w' (h : Below w6.heap.size w6 w') => (h.cell (p := ⟨y, 15, none⟩) hy6.lt).trans y2)
          have hB6s : g ≤ w6.heap.size := by have := hx6.lt; have := hgp.out; omega
          have hxd := Lib.hid hXd
          have hB6 := Lib.hid hB6
          have hB6s := Lib.hid hB6s
          have hS : Below w6.heap.size w6 w6.drew := Below.drew (Below.refl _ _)
          clear y0 y1 y2 hy6 hx6 hC6 hXb hXd hX0 hX1 hX2 hbb hFb
          go_wp2_with fail
          refine region_seqS (fun w' => Below w6.heap.size w6 w') (by kernel_rfl) hS ?_
          simp only [pairs, Nat.reduceAdd]
          repeat (first
            | (refine SeqS.take (v := .agg (rowN 16 X).toArray) (by first | assumption | trivial) (by kernel_rfl) (by decide +kernel) (by decide +kernel) (yields_blk (by rfl) 24 (.tmp 7) rfl rfl (fun w' h => XX.out w' h) (row16 _)) ?_; simp only [Act.put, List.setIfInBounds_toArray, List.set_cons_zero, List.set_cons_succ])
            | (refine SeqS.take (v := .agg (rowN 16 exBlk).toArray) (by first | assumption | trivial) (by kernel_rfl) (by decide +kernel) (by decide +kernel) (yields_blk (by rfl) 24 (.tmp 5) rfl rfl (fun w' h => YY.out w' h) (row16 _)) ?_; simp only [Act.put, List.setIfInBounds_toArray, List.set_cons_zero, List.set_cons_succ])
            | (refine SeqS.take (v := ?_) (by first | assumption | trivial) (by kernel_rfl) (by decide +kernel) (by decide +kernel) (Or.inl ⟨by rfl, ?_⟩) ?_
               rotate_left
               focus
                 intro w' hb'
                 have d0 := Z0.out w' hb'
                 have d1 := Z1.out w' hb'
                 have d2 := Z2.out w' hb'
                 go_simp
                 with_reducible rfl
               simp only [Act.put, List.setIfInBounds_toArray, List.set_cons_zero, List.set_cons_succ])
            | (refine SeqS.take (v := undef) (by first | assumption | trivial) (by kernel_rfl) (by decide +kernel) (by decide +kernel) (Or.inr ⟨by rfl, rfl⟩) ?_
               simp only [Act.put, List.setIfInBounds_toArray, List.set_cons_zero, List.set_cons_succ])
            | (refine SeqS.take1 (v := .agg (rowN 16 X).toArray) (by first | assumption | trivial) (by kernel_rfl) (by decide +kernel) (by decide +kernel) (yields_blk (by rfl) 24 (.tmp 7) rfl rfl (fun w' h => XX.out w' h) (row16 _)) ?_; simp only [Act.put, List.setIfInBounds_toArray, List.set_cons_zero, List.set_cons_succ])
            | (refine SeqS.take1 (v := .agg (rowN 16 exBlk).toArray) (by first | assumption | trivial) (by kernel_rfl) (by decide +kernel) (by decide +kernel) (yields_blk (by rfl) 24 (.tmp 5) rfl rfl (fun w' h => YY.out w' h) (row16 _)) ?_; simp only [Act.put, List.setIfInBounds_toArray, List.set_cons_zero, List.set_cons_succ])
            | (refine SeqS.take1 (v := ?_) (by first | assumption | trivial) (by kernel_rfl) (by decide +kernel) (by decide +kernel) (Or.inl ⟨by rfl, ?_⟩) ?_
               rotate_left
               focus
                 intro w' hb'
                 have d0 := Z0.out w' hb'
                 have d1 := Z1.out w' hb'
                 have d2 := Z2.out w' hb'
                 go_simp
                 with_reducible rfl
               simp only [Act.put, List.setIfInBounds_toArray, List.set_cons_zero, List.set_cons_succ])
            | (refine SeqS.take1 (v := undef) (by first | assumption | trivial) (by kernel_rfl) (by decide +kernel) (by decide +kernel) (Or.inr ⟨by rfl, rfl⟩) ?_
               simp only [Act.put, List.setIfInBounds_toArray, List.set_cons_zero, List.set_cons_succ])
            | (refine SeqS.take2 (v := .agg (rowN 16 X).toArray) (by first | assumption | trivial) (by kernel_rfl) (by decide +kernel) (by decide +kernel) (yields_blk (by rfl) 24 (.tmp 7) rfl rfl (fun w' h => XX.out w' h) (row16 _)) ?_; simp only [Act.put, List.setIfInBounds_toArray, List.set_cons_zero, List.set_cons_succ])
            | (refine SeqS.take2 (v := .agg (rowN 16 exBlk).toArray) (by first | assumption | trivial) (by kernel_rfl) (by decide +kernel) (by decide +kernel) (yields_blk (by rfl) 24 (.tmp 5) rfl rfl (fun w' h => YY.out w' h) (row16 _)) ?_; simp only [Act.put, List.setIfInBounds_toArray, List.set_cons_zero, List.set_cons_succ])
            | (refine SeqS.take2 (v := ?_) (by first | assumption | trivial) (by kernel_rfl) (by decide +kernel) (by decide +kernel) (Or.inl ⟨by rfl, ?_⟩) ?_
               rotate_left
               focus
                 intro w' hb'
                 have d0 := Z0.out w' hb'
                 have d1 := Z1.out w' hb'
                 have d2 := Z2.out w' hb'
                 go_simp
                 with_reducible rfl
               simp only [Act.put, List.setIfInBounds_toArray, List.set_cons_zero, List.set_cons_succ])
            | (refine SeqS.take2 (v := undef) (by first | assumption | trivial) (by kernel_rfl) (by decide +kernel) (by decide +kernel) (Or.inr ⟨by rfl, rfl⟩) ?_
               simp only [Act.put, List.setIfInBounds_toArray, List.set_cons_zero, List.set_cons_succ]))
          refine SeqS.alone (by decide +kernel) (by rfl) (fun K hK => ?_)
          go_simp
          refine (CY.out _ hS).mono ?_
          rintro e w7 ⟨rfl, b7⟩
          rw [hxd.out]
          go_simp
          have S7 : Below w6.heap.size w6 w7 := hS.trans (b7.mono hS.size)
          refine hK _ _ S7 ?_
          clear hK K
          repeat (first
            | (refine SeqS.take (v := .agg (rowN 16 X).toArray) (by first | assumption | trivial) (by kernel_rfl) (by decide +kernel) (by decide +kernel) (yields_blk (by rfl) 24 (.tmp 7) rfl rfl (fun w' h => XX.out w' h) (row16 _)) ?_; simp only [Act.put, List.setIfInBounds_toArray, List.set_cons_zero, List.set_cons_succ])
            | (refine SeqS.take (v := .agg (rowN 16 exBlk).toArray) (by first | assumption | trivial) (by kernel_rfl) (by decide +kernel) (by decide +kernel) (yields_blk (by rfl) 24 (.tmp 5) rfl rfl (fun w' h => YY.out w' h) (row16 _)) ?_; simp only [Act.put, List.setIfInBounds_toArray, List.set_cons_zero, List.set_cons_succ])
            | (refine SeqS.take (v := ?_) (by first | assumption | trivial) (by kernel_rfl) (by decide +kernel) (by decide +kernel) (Or.inl ⟨by rfl, ?_⟩) ?_
               rotate_left
               focus
                 intro w' hb'
                 have d0 := Z0.out w' hb'
                 have d1 := Z1.out w' hb'
                 have d2 := Z2.out w' hb'
                 go_simp
                 with_reducible rfl
               simp only [Act.put, List.setIfInBounds_toArray, List.set_cons_zero, List.set_cons_succ])
            | (refine SeqS.take (v := undef) (by first | assumption | trivial) (by kernel_rfl) (by decide +kernel) (by decide +kernel) (Or.inr ⟨by rfl, rfl⟩) ?_
               simp only [Act.put, List.setIfInBounds_toArray, List.set_cons_zero, List.set_cons_succ])
            | (refine SeqS.take1 (v := .agg (rowN 16 X).toArray) (by first | assumption | trivial) (by kernel_rfl) (by decide +kernel) (by decide +kernel) (yields_blk (by rfl) 24 (.tmp 7) rfl rfl (fun w' h => XX.out w' h) (row16 _)) ?_; simp only [Act.put, List.setIfInBounds_toArray, List.set_cons_zero, List.set_cons_succ])
            | (refine SeqS.take1 (v := .agg (rowN 16 exBlk).toArray) (by first | assumption | trivial) (by kernel_rfl) (by decide +kernel) (by decide +kernel) (yields_blk (by rfl) 24 (.tmp 5) rfl rfl (fun w' h => YY.out w' h) (row16 _)) ?_; simp only [Act.put, List.setIfInBounds_toArray, List.set_cons_zero, List.set_cons_succ])
            | (refine SeqS.take1 (v := ?_) (by first | assumption | trivial) (by kernel_rfl) (by decide +kernel) (by decide +kernel) (Or.inl ⟨by rfl, ?_⟩) ?_
               rotate_left
               focus
                 intro w' hb'
                 have d0 := Z0.out w' hb'
                 have d1 := Z1.out w' hb'
                 have d2 := Z2.out w' hb'
                 go_simp
                 with_reducible rfl
               simp only [Act.put, List.setIfInBounds_toArray, List.set_cons_zero, List.set_cons_succ])
            | (refine SeqS.take1 (v := undef) (by first | assumption | trivial) (by kernel_rfl) (by decide +kernel) (by decide +kernel) (Or.inr ⟨by rfl, rfl⟩) ?_
               simp only [Act.put, List.setIfInBounds_toArray, List.set_cons_zero, List.set_cons_succ])
            | (refine SeqS.take2 (v := .agg (rowN 16 X).toArray) (by first | assumption | trivial) (by kernel_rfl) (by decide +kernel) (by decide +kernel) (yields_blk (by rfl) 24 (.tmp 7) rfl rfl (fun w' h => XX.out w' h) (row16 _)) ?_; simp only [Act.put, List.setIfInBounds_toArray, List.set_cons_zero, List.set_cons_succ])
            | (refine SeqS.take2 (v := .agg (rowN 16 exBlk).toArray) (by first | assumption | trivial) (by kernel_rfl) (by decide +kernel) (by decide +kernel) (yields_blk (by rfl) 24 (.tmp 5) rfl rfl (fun w' h => YY.out w' h) (row16 _)) ?_; simp only [Act.put, List.setIfInBounds_toArray, List.set_cons_zero, List.set_cons_succ])
            | (refine SeqS.take2 (v := ?_) (by first | assumption | trivial) (by kernel_rfl) (by decide +kernel) (by decide +kernel) (Or.inl ⟨by rfl, ?_⟩) ?_
               rotate_left
               focus
                 intro w' hb'
                 have d0 := Z0.out w' hb'
                 have d1 := Z1.out w' hb'
                 have d2 := Z2.out w' hb'
                 go_simp
                 with_reducible rfl
               simp only [Act.put, List.setIfInBounds_toArray, List.set_cons_zero, List.set_cons_succ])
            | (refine SeqS.take2 (v := undef) (by first | assumption | trivial) (by kernel_rfl) (by decide +kernel) (by decide +kernel) (Or.inr ⟨by rfl, rfl⟩) ?_
               simp only [Act.put, List.setIfInBounds_toArray, List.set_cons_zero, List.set_cons_succ]))
          refine SeqS.done (by decide +kernel) ?_
          go_wp2
          go_ret
          refine ⟨rfl, ?_⟩
          rw [hg.out]
          exact hB6.out.trans (S7.mono hB6s.out)
end Go.Proofs.Ytohobknianhplaa
