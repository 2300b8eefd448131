/-
  Texts of stages that were proved on their own, joined: StreamPlaces. Each begins with its own words.
-/
import Derived.Test.YtclcnngpgbdjgaaJLawStreamPlaces4
import Derived.Test.YtclcnngpgbdjgaaOpenArr

/-
  The law StreamPlaces comes to true, whatever key of 32 bytes and whatever places; new memory alone is written. Conditions: bytes are numbers below 256, places below 2^64.
-/
namespace Go.Proofs.Ytclcnngpgbdjgaa
open Go.RowKit

theorem strm_0 (K : Nat → Nat → Nat) (n : Nat) (hn : n < 18446744073709551616) : strm K n 0 = sby K n := by
  unfold strm
  rw [Nat.add_zero, Nat.mod_eq_of_lt hn]
theorem key_ints {w : World} {g : Nat} {f : Nat → Nat} {t : TypeId} (n : Nat) (h : Blk w g t (rowN n f)) : Ints .u8 w (some ⟨g, 0, none⟩) n n (bytesL n f) := by
  have := Ints.row (o := 0) (cap := n) h n (by omega) (Nat.le_refl n)
  rw [show (fun i => f (0 + i)) = f by funext i; rw [Nat.zero_add]] at this
  exact this

set_option maxRecDepth 100000 in
set_option maxHeartbeats 2000000 in
theorem streamPlaces_any (kf : Nat → Nat) (p n : Nat) (w : World) (hkf : By kf) (hp : p < 18446744073709551616) (hn : n < 18446744073709551616) :
    Calls Try.prog 4 #[.agg (rowN 32 kf).toArray, .int .u64 (p : Int), .int .u64 (n : Int)] w fun e w' => e = .returned (.bool true) ∧ Below w.heap.size w w' := by
  go_enter Try.func4, Try.ntmps4
  go_wp2_with ((with_reducible refine wpList_box_blk rfl 22 (.tmp 0) rfl (rowN 32 kf) ?_ ?_); rfl)
  obtain ⟨W0, hW0⟩ : ∃ W0, w.alloc (.cells (rowN 32 kf).toArray 22) = W0 := ⟨_, rfl⟩
  obtain ⟨h0, hh0⟩ : ∃ h0, w.heap.size = h0 := ⟨_, rfl⟩
  have hk0 : Blk W0 h0 22 (rowN 32 kf) := by rw [← hW0, ← hh0]; exact Blk.new w _ _
  have hB0 : Below h0 w W0 := by rw [← hW0, ← hh0]; exact below1 w _
  rw [hW0, hh0]
  have hhH := Lib.hid hh0
  clear hW0 hh0
  have hkr := bytesL_range hkf 32
  refine (stNew_any (some ⟨h0, 0, none⟩) 32 (bytesL 32 kf) W0 (key_ints 32 hk0) hkr).mono ?_
  rintro e w1 ⟨g, rfl, hg, hS1, b1⟩
  obtain ⟨F, hF⟩ : ∃ F, kb (kws (own (bytesL 32 kf)) 52) = F := ⟨_, rfl⟩
  have hFb : By F := by rw [← hF]; exact kb_by _
  rw [hF] at hS1
  have hFH := Lib.hid hF
  have hk1 := hk0.keep b1 hk0.lt
  have hB1 := hB0.trans (b1.mono (Nat.le_of_lt hk0.lt))
  have h0g : h0 < g := Nat.lt_of_lt_of_le hk0.lt hg
  have h0gH := Lib.hid h0g
  have hFbH := Lib.hid hFb
  have hkrH := Lib.hid hkr
  have hpH := Lib.hid hp
  have hnH := Lib.hid hn
  clear hF b1 hk0 hB0 hg h0g hFb hkr hp hn hkf
  go_wp2_with fail
  refine (seek_any g F 0 p w1 hS1).mono ?_
  rintro e w2 ⟨rfl, hS2, g2⟩
  have hgl1 := hS1.lt
  clear hS1
  go_wp2_with fail
  refine (at_any g F p n w2 hFbH.out hS2 hnH.out).mono ?_
  rintro e w3 ⟨rfl, hS3, g3⟩
  have hk3 := (hk1.grown g2 (by intro e; injection e; have := h0gH.out; omega)).grown g3 (by intro e; injection e; have := h0gH.out; omega)
  have hB3 := (hB1.trans (below_of_grown g2 (Nat.le_of_lt h0gH.out) hgl1)).trans (below_of_grown g3 (Nat.le_of_lt h0gH.out) hS2.lt)
  clear hS2 g2 g3 hk1 hB1 hgl1
  obtain ⟨x, hx⟩ : ∃ x, sby (keyAt F) n = x := ⟨_, rfl⟩
  obtain ⟨n1, hn1⟩ : ∃ n1, (n + 1) % 18446744073709551616 = n1 := ⟨_, rfl⟩
  have hn1l : n1 < 18446744073709551616 := by rw [← hn1]; exact Nat.mod_lt _ (by decide)
  have w1' : IntKind.u64.wrap ((n : Int) + 1) = (n1 : Int) := by rw [IntKind.wrap_u64]; omega
  obtain ⟨x1, hx1⟩ : ∃ x1, sby (keyAt F) n1 = x1 := ⟨_, rfl⟩
  rw [hx]
  have hxH := Lib.hid hx
  have hx1H := Lib.hid hx1
  have hn1H := Lib.hid hn1
  have hn1lH := Lib.hid hn1l
  clear hx hx1 hn1 hn1l
  have KK := Lib.hid (fun w' (h : w3.grownBy w' (some g) ∧ StAt w' g F p) => (hk3.grown h.1 (by intro e; injection e; have := h0gH.out; omega) : Blk w' h0 22 (rowN 32 kf)))
  have S0 : w3.grownBy w3.drew (some g) ∧ StAt w3.drew g F p := ⟨grown_drew (grown_refl _ _), hS3⟩
  have hgl3 := Lib.hid hS3.lt
  have hB3H := Lib.hid hB3
  clear hB3 hk3 hS3
  go_wp2_with fail
  refine region_seqS (fun w' => w3.grownBy w' (some g) ∧ StAt w' g F p) (by kernel_rfl) S0 ?_
  simp only [pairs, Nat.reduceAdd]
  obtain ⟨v, hv⟩ : ∃ v, w3.drew = v := ⟨_, rfl⟩
  rw [hv] at S0
  change SeqS _ _ _ _ _ _ _ _ w3.drew
  rw [hv]
  clear hv
  repeat (first
    | (refine SeqS.take (v := ?_) (by first | assumption | trivial) (by kernel_rfl) (by decide +kernel) (by decide +kernel) (Or.inl ⟨by rfl, ?_⟩) ?_
       rotate_left
       focus
         intro w' hb'
         go_simp
         with_reducible rfl
       simp only [Act.put, List.setIfInBounds_toArray, List.set_cons_zero, List.set_cons_succ])
    | (refine SeqS.take (v := undef) (by first | assumption | trivial) (by kernel_rfl) (by decide +kernel) (by decide +kernel) (Or.inr ⟨by rfl, rfl⟩) ?_
       simp only [Act.put, List.setIfInBounds_toArray, List.set_cons_zero, List.set_cons_succ])
    | (refine SeqS.take1 (v := ?_) (by first | assumption | trivial) (by kernel_rfl) (by decide +kernel) (by decide +kernel) (Or.inl ⟨by rfl, ?_⟩) ?_
       rotate_left
       focus
         intro w' hb'
         go_simp
         with_reducible rfl
       simp only [Act.put, List.setIfInBounds_toArray, List.set_cons_zero, List.set_cons_succ])
    | (refine SeqS.take1 (v := undef) (by first | assumption | trivial) (by kernel_rfl) (by decide +kernel) (by decide +kernel) (Or.inr ⟨by rfl, rfl⟩) ?_
       simp only [Act.put, List.setIfInBounds_toArray, List.set_cons_zero, List.set_cons_succ])
    | (refine SeqS.take2 (v := ?_) (by first | assumption | trivial) (by kernel_rfl) (by decide +kernel) (by decide +kernel) (Or.inl ⟨by rfl, ?_⟩) ?_
       rotate_left
       focus
         intro w' hb'
         go_simp
         with_reducible rfl
       simp only [Act.put, List.setIfInBounds_toArray, List.set_cons_zero, List.set_cons_succ])
    | (refine SeqS.take2 (v := undef) (by first | assumption | trivial) (by kernel_rfl) (by decide +kernel) (by decide +kernel) (Or.inr ⟨by rfl, rfl⟩) ?_
       simp only [Act.put, List.setIfInBounds_toArray, List.set_cons_zero, List.set_cons_succ]))
  refine SeqS.alone (by decide +kernel) (by rfl) (fun K hK => ?_)
  go_simp
  refine (place_any g F p v S0.2).mono ?_
  rintro e w' ⟨rfl, rfl⟩
  go_simp
  refine hK _ _ S0 ?_
  clear hK K
  repeat (first
    | (refine SeqS.take (v := ?_) (by first | assumption | trivial) (by kernel_rfl) (by decide +kernel) (by decide +kernel) (Or.inl ⟨by rfl, ?_⟩) ?_
       rotate_left
       focus
         intro w' hb'
         go_simp
         with_reducible rfl
       simp only [Act.put, List.setIfInBounds_toArray, List.set_cons_zero, List.set_cons_succ])
    | (refine SeqS.take (v := undef) (by first | assumption | trivial) (by kernel_rfl) (by decide +kernel) (by decide +kernel) (Or.inr ⟨by rfl, rfl⟩) ?_
       simp only [Act.put, List.setIfInBounds_toArray, List.set_cons_zero, List.set_cons_succ])
    | (refine SeqS.take1 (v := ?_) (by first | assumption | trivial) (by kernel_rfl) (by decide +kernel) (by decide +kernel) (Or.inl ⟨by rfl, ?_⟩) ?_
       rotate_left
       focus
         intro w' hb'
         go_simp
         with_reducible rfl
       simp only [Act.put, List.setIfInBounds_toArray, List.set_cons_zero, List.set_cons_succ])
    | (refine SeqS.take1 (v := undef) (by first | assumption | trivial) (by kernel_rfl) (by decide +kernel) (by decide +kernel) (Or.inr ⟨by rfl, rfl⟩) ?_
       simp only [Act.put, List.setIfInBounds_toArray, List.set_cons_zero, List.set_cons_succ])
    | (refine SeqS.take2 (v := ?_) (by first | assumption | trivial) (by kernel_rfl) (by decide +kernel) (by decide +kernel) (Or.inl ⟨by rfl, ?_⟩) ?_
       rotate_left
       focus
         intro w' hb'
         go_simp
         with_reducible rfl
       simp only [Act.put, List.setIfInBounds_toArray, List.set_cons_zero, List.set_cons_succ])
    | (refine SeqS.take2 (v := undef) (by first | assumption | trivial) (by kernel_rfl) (by decide +kernel) (by decide +kernel) (Or.inr ⟨by rfl, rfl⟩) ?_
       simp only [Act.put, List.setIfInBounds_toArray, List.set_cons_zero, List.set_cons_succ]))
  refine SeqS.alone (by decide +kernel) (by rfl) (fun K hK => ?_)
  go_simp
  refine (rFrom_any (some ⟨h0, 0, none⟩) 32 (bytesL 32 kf) n 1 v (key_ints 32 (KK.out v S0)) hkrH.out hnH.out (by decide)).mono ?_
  rintro e v2 ⟨b, c, rfl, ho, b2⟩
  rw [hFH.out] at ho
  obtain ⟨o, rfl, _, _, hc⟩ := own_bytes ho (by decide)
  have c0 := (hc 0 (by decide)).1
  rw [strm_0 _ _ hnH.out, hxH.out] at c0
  have S2 : w3.grownBy v2 (some g) ∧ StAt v2 g F p := ⟨grown_trans S0.1 (grown_of_below b2 _), S0.2.keep b2 S0.2.lt⟩
  go_simp
  refine hK _ _ S2 ?_
  clear hK K ho hc b2
  repeat (first
    | (refine SeqS.take (v := ?_) (by first | assumption | trivial) (by kernel_rfl) (by decide +kernel) (by decide +kernel) (Or.inl ⟨by rfl, ?_⟩) ?_
       rotate_left
       focus
         intro w' hb'
         go_simp
         with_reducible rfl
       simp only [Act.put, List.setIfInBounds_toArray, List.set_cons_zero, List.set_cons_succ])
    | (refine SeqS.take (v := undef) (by first | assumption | trivial) (by kernel_rfl) (by decide +kernel) (by decide +kernel) (Or.inr ⟨by rfl, rfl⟩) ?_
       simp only [Act.put, List.setIfInBounds_toArray, List.set_cons_zero, List.set_cons_succ])
    | (refine SeqS.take1 (v := ?_) (by first | assumption | trivial) (by kernel_rfl) (by decide +kernel) (by decide +kernel) (Or.inl ⟨by rfl, ?_⟩) ?_
       rotate_left
       focus
         intro w' hb'
         go_simp
         with_reducible rfl
       simp only [Act.put, List.setIfInBounds_toArray, List.set_cons_zero, List.set_cons_succ])
    | (refine SeqS.take1 (v := undef) (by first | assumption | trivial) (by kernel_rfl) (by decide +kernel) (by decide +kernel) (Or.inr ⟨by rfl, rfl⟩) ?_
       simp only [Act.put, List.setIfInBounds_toArray, List.set_cons_zero, List.set_cons_succ]))
  refine SeqS.alone (by decide +kernel) (by rfl) (fun K hK => ?_)
  go_simp
  refine hK _ _ S2 ?_
  clear hK K c0
  repeat (first
    | (refine SeqS.take (v := ?_) (by first | assumption | trivial) (by kernel_rfl) (by decide +kernel) (by decide +kernel) (Or.inl ⟨by rfl, ?_⟩) ?_
       rotate_left
       focus
         intro w' hb'
         go_simp
         with_reducible rfl
       simp only [Act.put, List.setIfInBounds_toArray, List.set_cons_zero, List.set_cons_succ])
    | (refine SeqS.take (v := undef) (by first | assumption | trivial) (by kernel_rfl) (by decide +kernel) (by decide +kernel) (Or.inr ⟨by rfl, rfl⟩) ?_
       simp only [Act.put, List.setIfInBounds_toArray, List.set_cons_zero, List.set_cons_succ])
    | (refine SeqS.take1 (v := ?_) (by first | assumption | trivial) (by kernel_rfl) (by decide +kernel) (by decide +kernel) (Or.inl ⟨by rfl, ?_⟩) ?_
       rotate_left
       focus
         intro w' hb'
         go_simp
         with_reducible rfl
       simp only [Act.put, List.setIfInBounds_toArray, List.set_cons_zero, List.set_cons_succ])
    | (refine SeqS.take1 (v := undef) (by first | assumption | trivial) (by kernel_rfl) (by decide +kernel) (by decide +kernel) (Or.inr ⟨by rfl, rfl⟩) ?_
       simp only [Act.put, List.setIfInBounds_toArray, List.set_cons_zero, List.set_cons_succ])
    | (refine SeqS.take2 (v := ?_) (by first | assumption | trivial) (by kernel_rfl) (by decide +kernel) (by decide +kernel) (Or.inl ⟨by rfl, ?_⟩) ?_
       rotate_left
       focus
         intro w' hb'
         go_simp
         with_reducible rfl
       simp only [Act.put, List.setIfInBounds_toArray, List.set_cons_zero, List.set_cons_succ])
    | (refine SeqS.take2 (v := undef) (by first | assumption | trivial) (by kernel_rfl) (by decide +kernel) (by decide +kernel) (Or.inr ⟨by rfl, rfl⟩) ?_
       simp only [Act.put, List.setIfInBounds_toArray, List.set_cons_zero, List.set_cons_succ]))
  refine SeqS.alone (by decide +kernel) (by rfl) (fun K hK => ?_)
  go_simp
  refine (at_any g F p n1 v2 hFbH.out S2.2 hn1lH.out).mono ?_
  rintro e v3 ⟨rfl, st3, g3⟩
  rw [hx1H.out]
  have S3 : w3.grownBy v3 (some g) ∧ StAt v3 g F p := ⟨grown_trans S2.1 g3, st3⟩
  go_simp
  refine hK _ _ S3 ?_
  clear hK K st3 g3
  repeat (first
    | (refine SeqS.take (v := ?_) (by first | assumption | trivial) (by kernel_rfl) (by decide +kernel) (by decide +kernel) (Or.inl ⟨by rfl, ?_⟩) ?_
       rotate_left
       focus
         intro w' hb'
         go_simp
         with_reducible rfl
       simp only [Act.put, List.setIfInBounds_toArray, List.set_cons_zero, List.set_cons_succ])
    | (refine SeqS.take (v := undef) (by first | assumption | trivial) (by kernel_rfl) (by decide +kernel) (by decide +kernel) (Or.inr ⟨by rfl, rfl⟩) ?_
       simp only [Act.put, List.setIfInBounds_toArray, List.set_cons_zero, List.set_cons_succ])
    | (refine SeqS.take1 (v := ?_) (by first | assumption | trivial) (by kernel_rfl) (by decide +kernel) (by decide +kernel) (Or.inl ⟨by rfl, ?_⟩) ?_
       rotate_left
       focus
         intro w' hb'
         go_simp
         with_reducible rfl
       simp only [Act.put, List.setIfInBounds_toArray, List.set_cons_zero, List.set_cons_succ])
    | (refine SeqS.take1 (v := undef) (by first | assumption | trivial) (by kernel_rfl) (by decide +kernel) (by decide +kernel) (Or.inr ⟨by rfl, rfl⟩) ?_
       simp only [Act.put, List.setIfInBounds_toArray, List.set_cons_zero, List.set_cons_succ])
    | (refine SeqS.take2 (v := ?_) (by first | assumption | trivial) (by kernel_rfl) (by decide +kernel) (by decide +kernel) (Or.inl ⟨by rfl, ?_⟩) ?_
       rotate_left
       focus
         intro w' hb'
         go_simp
         with_reducible rfl
       simp only [Act.put, List.setIfInBounds_toArray, List.set_cons_zero, List.set_cons_succ])
    | (refine SeqS.take2 (v := undef) (by first | assumption | trivial) (by kernel_rfl) (by decide +kernel) (by decide +kernel) (Or.inr ⟨by rfl, rfl⟩) ?_
       simp only [Act.put, List.setIfInBounds_toArray, List.set_cons_zero, List.set_cons_succ]))
  refine SeqS.alone (by decide +kernel) (by rfl) (fun K hK => ?_)
  go_simp
  refine (rFrom_any (some ⟨h0, 0, none⟩) 32 (bytesL 32 kf) n1 1 v3 (key_ints 32 (KK.out v3 S3)) hkrH.out hn1lH.out (by decide)).mono ?_
  rintro e v4 ⟨b', c', rfl, ho, b4⟩
  rw [hFH.out] at ho
  obtain ⟨o', rfl, _, _, hc⟩ := own_bytes ho (by decide)
  have c0 := (hc 0 (by decide)).1
  rw [strm_0 _ _ hn1lH.out, hx1H.out] at c0
  have S4 : w3.grownBy v4 (some g) ∧ StAt v4 g F p := ⟨grown_trans S3.1 (grown_of_below b4 _), S3.2.keep b4 S3.2.lt⟩
  go_simp
  refine hK _ _ S4 ?_
  clear hK K ho hc b4
  repeat (first
    | (refine SeqS.take (v := ?_) (by first | assumption | trivial) (by kernel_rfl) (by decide +kernel) (by decide +kernel) (Or.inl ⟨by rfl, ?_⟩) ?_
       rotate_left
       focus
         intro w' hb'
         go_simp
         with_reducible rfl
       simp only [Act.put, List.setIfInBounds_toArray, List.set_cons_zero, List.set_cons_succ])
    | (refine SeqS.take (v := undef) (by first | assumption | trivial) (by kernel_rfl) (by decide +kernel) (by decide +kernel) (Or.inr ⟨by rfl, rfl⟩) ?_
       simp only [Act.put, List.setIfInBounds_toArray, List.set_cons_zero, List.set_cons_succ])
    | (refine SeqS.take1 (v := ?_) (by first | assumption | trivial) (by kernel_rfl) (by decide +kernel) (by decide +kernel) (Or.inl ⟨by rfl, ?_⟩) ?_
       rotate_left
       focus
         intro w' hb'
         go_simp
         with_reducible rfl
       simp only [Act.put, List.setIfInBounds_toArray, List.set_cons_zero, List.set_cons_succ])
    | (refine SeqS.take1 (v := undef) (by first | assumption | trivial) (by kernel_rfl) (by decide +kernel) (by decide +kernel) (Or.inr ⟨by rfl, rfl⟩) ?_
       simp only [Act.put, List.setIfInBounds_toArray, List.set_cons_zero, List.set_cons_succ]))
  refine SeqS.alone (by decide +kernel) (by rfl) (fun K hK => ?_)
  go_simp
  refine hK _ _ S4 ?_
  clear hK K c0
  repeat (first
    | (refine SeqS.take (v := ?_) (by first | assumption | trivial) (by kernel_rfl) (by decide +kernel) (by decide +kernel) (Or.inl ⟨by rfl, ?_⟩) ?_
       rotate_left
       focus
         intro w' hb'
         go_simp
         with_reducible rfl
       simp only [Act.put, List.setIfInBounds_toArray, List.set_cons_zero, List.set_cons_succ])
    | (refine SeqS.take (v := undef) (by first | assumption | trivial) (by kernel_rfl) (by decide +kernel) (by decide +kernel) (Or.inr ⟨by rfl, rfl⟩) ?_
       simp only [Act.put, List.setIfInBounds_toArray, List.set_cons_zero, List.set_cons_succ])
    | (refine SeqS.take1 (v := ?_) (by first | assumption | trivial) (by kernel_rfl) (by decide +kernel) (by decide +kernel) (Or.inl ⟨by rfl, ?_⟩) ?_
       rotate_left
       focus
         intro w' hb'
         go_simp
         with_reducible rfl
       simp only [Act.put, List.setIfInBounds_toArray, List.set_cons_zero, List.set_cons_succ])
    | (refine SeqS.take1 (v := undef) (by first | assumption | trivial) (by kernel_rfl) (by decide +kernel) (by decide +kernel) (Or.inr ⟨by rfl, rfl⟩) ?_
       simp only [Act.put, List.setIfInBounds_toArray, List.set_cons_zero, List.set_cons_succ])
    | (refine SeqS.take2 (v := ?_) (by first | assumption | trivial) (by kernel_rfl) (by decide +kernel) (by decide +kernel) (Or.inl ⟨by rfl, ?_⟩) ?_
       rotate_left
       focus
         intro w' hb'
         go_simp
         with_reducible rfl
       simp only [Act.put, List.setIfInBounds_toArray, List.set_cons_zero, List.set_cons_succ])
    | (refine SeqS.take2 (v := undef) (by first | assumption | trivial) (by kernel_rfl) (by decide +kernel) (by decide +kernel) (Or.inr ⟨by rfl, rfl⟩) ?_
       simp only [Act.put, List.setIfInBounds_toArray, List.set_cons_zero, List.set_cons_succ]))
  refine SeqS.done (by decide +kernel) ?_
  have hB4 := hB3H.out.trans (below_of_grown S4.1 (Nat.le_of_lt h0gH.out) hgl3.out)
  have hS4 := S4.2
  have hgl4 := hS4.lt
  clear S0 S2 S3 S4 KK
  go_wp2_with fail
  refine (seek_any g F p n v4 hS4).mono ?_
  rintro e w6 ⟨rfl, hS6, g6⟩
  have hB6 := hB4.trans (below_of_grown g6 (Nat.le_of_lt h0gH.out) hgl4)
  have hgl6 := hS6.lt
  have hB6H := Lib.hid hB6
  clear hS4 g6 hB4 hB6 hgl4
  go_wp2_with fail
  have b7 : Below w6.heap.size w6 (w6.alloc (.cells #[.int .u8 0, .int .u8 0] 5)) := below1 w6 _
  have hI7 : Ints .u8 (w6.alloc (.cells #[.int .u8 0, .int .u8 0] 5)) (some ⟨w6.heap.size, 0, none⟩) 2 2 (bytesL 2 zf) := Ints.row (o := 0) (cap := 2) (Blk.new w6 5 (rowN 2 zf)) 2 (by decide) (by decide)
  have hS7 := hS6.keep b7 hgl6
  obtain ⟨w7, hw7⟩ : ∃ w7, w6.alloc (.cells #[.int .u8 0, .int .u8 0] 5) = w7 := ⟨_, rfl⟩
  rw [hw7] at b7 hI7 hS7 ⊢
  clear hw7
  refine (mask_any g F n (some ⟨w6.heap.size, 0, none⟩) 2 2 zf w7 hFbH.out by_zf hS7 hnH.out hI7 (by decide)).mono ?_
  rintro e w8 ⟨yb, yc, rfl, ho, hS8, g8⟩
  obtain ⟨o, rfl, hwo, hol, hc⟩ := own_bytes ho (by decide)
  have y0 := (hc 0 (by decide)).1
  have y1 := (hc 1 (by decide)).1
  rw [mk_zf (keyAt F) n 0 n x (by rw [Nat.add_zero, Nat.mod_eq_of_lt hnH.out]) hxH.out] at y0
  rw [mk_zf (keyAt F) n 1 n1 x1 hn1H.out hx1H.out] at y1
  obtain ⟨n2, hn2⟩ : ∃ n2, (n + 2) % 18446744073709551616 = n2 := ⟨_, rfl⟩
  have w2' : IntKind.u64.wrap ((n : Int) + 2) = (n2 : Int) := by rw [IntKind.wrap_u64]; omega
  rw [hn2] at hS8
  have hgo : o ≠ g := by have := hS7.lt; omega
  have hB8 := Lib.hid ((hB6H.out.trans (b7.mono (by have := h0gH.out; omega))).trans (below_of_grown g8 (Nat.le_of_lt h0gH.out) hS7.lt))
  have YY0 := Lib.hid (fun w' (h : w8.grownBy w' (some g) ∧ StAt w' g F n2) => h.1.cell y0 (by intro e; injection e with e; exact hgo e))
  have YY1 := Lib.hid (fun w' (h : w8.grownBy w' (some g) ∧ StAt w' g F n2) => h.1.cell y1 (by intro e; injection e with e; exact hgo e))
  have S0 : w8.grownBy w8.drew (some g) ∧ StAt w8.drew g F n2 := ⟨grown_drew (grown_refl _ _), hS8⟩
  have hgl8 := Lib.hid hS8.lt
  clear hn2 hS7 hS8 g8 b7 hI7 ho hc y0 y1 hgo hwo hol hS6 hgl6
  go_wp2_with fail
  refine region_seqS (fun w' => w8.grownBy w' (some g) ∧ StAt w' g F n2) (by kernel_rfl) S0 ?_
  simp only [pairs, Nat.reduceAdd]
  obtain ⟨v, hv⟩ : ∃ v, w8.drew = v := ⟨_, rfl⟩
  rw [hv] at S0
  change SeqS _ _ _ _ _ _ _ _ w8.drew
  rw [hv]
  clear hv
  repeat (first
    | (refine SeqS.take (v := ?_) (by first | assumption | trivial) (by kernel_rfl) (by decide +kernel) (by decide +kernel) (Or.inl ⟨by rfl, ?_⟩) ?_
       rotate_left
       focus
         intro w' hb'
         go_simp
         with_reducible rfl
       simp only [Act.put, List.setIfInBounds_toArray, List.set_cons_zero, List.set_cons_succ])
    | (refine SeqS.take (v := ?_) (by first | assumption | trivial) (by kernel_rfl) (by decide +kernel) (by decide +kernel) (Or.inl ⟨by rfl, ?_⟩) ?_
       rotate_left
       focus
         intro w' hb'
         have d0 := YY0.out w' hb'
         go_simp
         with_reducible rfl
       simp only [Act.put, List.setIfInBounds_toArray, List.set_cons_zero, List.set_cons_succ])
    | (refine SeqS.take (v := ?_) (by first | assumption | trivial) (by kernel_rfl) (by decide +kernel) (by decide +kernel) (Or.inl ⟨by rfl, ?_⟩) ?_
       rotate_left
       focus
         intro w' hb'
         have d1 := YY1.out w' hb'
         go_simp
         with_reducible rfl
       simp only [Act.put, List.setIfInBounds_toArray, List.set_cons_zero, List.set_cons_succ])
    | (refine SeqS.take (v := undef) (by first | assumption | trivial) (by kernel_rfl) (by decide +kernel) (by decide +kernel) (Or.inr ⟨by rfl, rfl⟩) ?_
       simp only [Act.put, List.setIfInBounds_toArray, List.set_cons_zero, List.set_cons_succ])
    | (refine SeqS.take1 (v := ?_) (by first | assumption | trivial) (by kernel_rfl) (by decide +kernel) (by decide +kernel) (Or.inl ⟨by rfl, ?_⟩) ?_
       rotate_left
       focus
         intro w' hb'
         go_simp
         with_reducible rfl
       simp only [Act.put, List.setIfInBounds_toArray, List.set_cons_zero, List.set_cons_succ])
    | (refine SeqS.take1 (v := ?_) (by first | assumption | trivial) (by kernel_rfl) (by decide +kernel) (by decide +kernel) (Or.inl ⟨by rfl, ?_⟩) ?_
       rotate_left
       focus
         intro w' hb'
         have d0 := YY0.out w' hb'
         go_simp
         with_reducible rfl
       simp only [Act.put, List.setIfInBounds_toArray, List.set_cons_zero, List.set_cons_succ])
    | (refine SeqS.take1 (v := ?_) (by first | assumption | trivial) (by kernel_rfl) (by decide +kernel) (by decide +kernel) (Or.inl ⟨by rfl, ?_⟩) ?_
       rotate_left
       focus
         intro w' hb'
         have d1 := YY1.out w' hb'
         go_simp
         with_reducible rfl
       simp only [Act.put, List.setIfInBounds_toArray, List.set_cons_zero, List.set_cons_succ])
    | (refine SeqS.take1 (v := undef) (by first | assumption | trivial) (by kernel_rfl) (by decide +kernel) (by decide +kernel) (Or.inr ⟨by rfl, rfl⟩) ?_
       simp only [Act.put, List.setIfInBounds_toArray, List.set_cons_zero, List.set_cons_succ])
    | (refine SeqS.take2 (v := ?_) (by first | assumption | trivial) (by kernel_rfl) (by decide +kernel) (by decide +kernel) (Or.inl ⟨by rfl, ?_⟩) ?_
       rotate_left
       focus
         intro w' hb'
         go_simp
         with_reducible rfl
       simp only [Act.put, List.setIfInBounds_toArray, List.set_cons_zero, List.set_cons_succ])
    | (refine SeqS.take2 (v := ?_) (by first | assumption | trivial) (by kernel_rfl) (by decide +kernel) (by decide +kernel) (Or.inl ⟨by rfl, ?_⟩) ?_
       rotate_left
       focus
         intro w' hb'
         have d0 := YY0.out w' hb'
         go_simp
         with_reducible rfl
       simp only [Act.put, List.setIfInBounds_toArray, List.set_cons_zero, List.set_cons_succ])
    | (refine SeqS.take2 (v := ?_) (by first | assumption | trivial) (by kernel_rfl) (by decide +kernel) (by decide +kernel) (Or.inl ⟨by rfl, ?_⟩) ?_
       rotate_left
       focus
         intro w' hb'
         have d1 := YY1.out w' hb'
         go_simp
         with_reducible rfl
       simp only [Act.put, List.setIfInBounds_toArray, List.set_cons_zero, List.set_cons_succ])
    | (refine SeqS.take2 (v := undef) (by first | assumption | trivial) (by kernel_rfl) (by decide +kernel) (by decide +kernel) (Or.inr ⟨by rfl, rfl⟩) ?_
       simp only [Act.put, List.setIfInBounds_toArray, List.set_cons_zero, List.set_cons_succ]))
  refine SeqS.alone (by decide +kernel) (by rfl) (fun K hK => ?_)
  go_simp
  refine (at_any g F n2 n1 v hFbH.out S0.2 hn1lH.out).mono ?_
  rintro e u2 ⟨rfl, st2, g2⟩
  rw [hx1H.out]
  have S2 : w8.grownBy u2 (some g) ∧ StAt u2 g F n2 := ⟨grown_trans S0.1 g2, st2⟩
  go_simp
  refine hK _ _ S2 ?_
  clear hK K st2 g2
  repeat (first
    | (refine SeqS.take (v := ?_) (by first | assumption | trivial) (by kernel_rfl) (by decide +kernel) (by decide +kernel) (Or.inl ⟨by rfl, ?_⟩) ?_
       rotate_left
       focus
         intro w' hb'
         go_simp
         with_reducible rfl
       simp only [Act.put, List.setIfInBounds_toArray, List.set_cons_zero, List.set_cons_succ])
    | (refine SeqS.take (v := undef) (by first | assumption | trivial) (by kernel_rfl) (by decide +kernel) (by decide +kernel) (Or.inr ⟨by rfl, rfl⟩) ?_
       simp only [Act.put, List.setIfInBounds_toArray, List.set_cons_zero, List.set_cons_succ])
    | (refine SeqS.take1 (v := ?_) (by first | assumption | trivial) (by kernel_rfl) (by decide +kernel) (by decide +kernel) (Or.inl ⟨by rfl, ?_⟩) ?_
       rotate_left
       focus
         intro w' hb'
         go_simp
         with_reducible rfl
       simp only [Act.put, List.setIfInBounds_toArray, List.set_cons_zero, List.set_cons_succ])
    | (refine SeqS.take1 (v := undef) (by first | assumption | trivial) (by kernel_rfl) (by decide +kernel) (by decide +kernel) (Or.inr ⟨by rfl, rfl⟩) ?_
       simp only [Act.put, List.setIfInBounds_toArray, List.set_cons_zero, List.set_cons_succ])
    | (refine SeqS.take2 (v := ?_) (by first | assumption | trivial) (by kernel_rfl) (by decide +kernel) (by decide +kernel) (Or.inl ⟨by rfl, ?_⟩) ?_
       rotate_left
       focus
         intro w' hb'
         go_simp
         with_reducible rfl
       simp only [Act.put, List.setIfInBounds_toArray, List.set_cons_zero, List.set_cons_succ])
    | (refine SeqS.take2 (v := undef) (by first | assumption | trivial) (by kernel_rfl) (by decide +kernel) (by decide +kernel) (Or.inr ⟨by rfl, rfl⟩) ?_
       simp only [Act.put, List.setIfInBounds_toArray, List.set_cons_zero, List.set_cons_succ]))
  refine SeqS.alone (by decide +kernel) (by rfl) (fun K hK => ?_)
  go_simp
  refine (place_any g F n2 u2 S2.2).mono ?_
  rintro e w' ⟨rfl, rfl⟩
  go_simp
  refine hK _ _ S2 ?_
  clear hK K
  repeat (first
    | (refine SeqS.take (v := ?_) (by first | assumption | trivial) (by kernel_rfl) (by decide +kernel) (by decide +kernel) (Or.inl ⟨by rfl, ?_⟩) ?_
       rotate_left
       focus
         intro w' hb'
         go_simp
         with_reducible rfl
       simp only [Act.put, List.setIfInBounds_toArray, List.set_cons_zero, List.set_cons_succ])
    | (refine SeqS.take (v := undef) (by first | assumption | trivial) (by kernel_rfl) (by decide +kernel) (by decide +kernel) (Or.inr ⟨by rfl, rfl⟩) ?_
       simp only [Act.put, List.setIfInBounds_toArray, List.set_cons_zero, List.set_cons_succ])
    | (refine SeqS.take1 (v := ?_) (by first | assumption | trivial) (by kernel_rfl) (by decide +kernel) (by decide +kernel) (Or.inl ⟨by rfl, ?_⟩) ?_
       rotate_left
       focus
         intro w' hb'
         go_simp
         with_reducible rfl
       simp only [Act.put, List.setIfInBounds_toArray, List.set_cons_zero, List.set_cons_succ])
    | (refine SeqS.take1 (v := undef) (by first | assumption | trivial) (by kernel_rfl) (by decide +kernel) (by decide +kernel) (Or.inr ⟨by rfl, rfl⟩) ?_
       simp only [Act.put, List.setIfInBounds_toArray, List.set_cons_zero, List.set_cons_succ])
    | (refine SeqS.take2 (v := ?_) (by first | assumption | trivial) (by kernel_rfl) (by decide +kernel) (by decide +kernel) (Or.inl ⟨by rfl, ?_⟩) ?_
       rotate_left
       focus
         intro w' hb'
         go_simp
         with_reducible rfl
       simp only [Act.put, List.setIfInBounds_toArray, List.set_cons_zero, List.set_cons_succ])
    | (refine SeqS.take2 (v := undef) (by first | assumption | trivial) (by kernel_rfl) (by decide +kernel) (by decide +kernel) (Or.inr ⟨by rfl, rfl⟩) ?_
       simp only [Act.put, List.setIfInBounds_toArray, List.set_cons_zero, List.set_cons_succ]))
  refine SeqS.alone (by decide +kernel) (by rfl) (fun K hK => ?_)
  go_simp
  refine (stAlive_any u2).mono ?_
  rintro e u3 ⟨rfl, b3⟩
  have S3 : w8.grownBy u3 (some g) ∧ StAt u3 g F n2 := ⟨grown_trans S2.1 (grown_of_below b3 _), S2.2.keep b3 S2.2.lt⟩
  go_simp
  refine hK _ _ S3 ?_
  clear hK K b3
  repeat (first
    | (refine SeqS.take (v := ?_) (by first | assumption | trivial) (by kernel_rfl) (by decide +kernel) (by decide +kernel) (Or.inl ⟨by rfl, ?_⟩) ?_
       rotate_left
       focus
         intro w' hb'
         go_simp
         with_reducible rfl
       simp only [Act.put, List.setIfInBounds_toArray, List.set_cons_zero, List.set_cons_succ])
    | (refine SeqS.take (v := undef) (by first | assumption | trivial) (by kernel_rfl) (by decide +kernel) (by decide +kernel) (Or.inr ⟨by rfl, rfl⟩) ?_
       simp only [Act.put, List.setIfInBounds_toArray, List.set_cons_zero, List.set_cons_succ])
    | (refine SeqS.take1 (v := ?_) (by first | assumption | trivial) (by kernel_rfl) (by decide +kernel) (by decide +kernel) (Or.inl ⟨by rfl, ?_⟩) ?_
       rotate_left
       focus
         intro w' hb'
         go_simp
         with_reducible rfl
       simp only [Act.put, List.setIfInBounds_toArray, List.set_cons_zero, List.set_cons_succ])
    | (refine SeqS.take1 (v := undef) (by first | assumption | trivial) (by kernel_rfl) (by decide +kernel) (by decide +kernel) (Or.inr ⟨by rfl, rfl⟩) ?_
       simp only [Act.put, List.setIfInBounds_toArray, List.set_cons_zero, List.set_cons_succ])
    | (refine SeqS.take2 (v := ?_) (by first | assumption | trivial) (by kernel_rfl) (by decide +kernel) (by decide +kernel) (Or.inl ⟨by rfl, ?_⟩) ?_
       rotate_left
       focus
         intro w' hb'
         go_simp
         with_reducible rfl
       simp only [Act.put, List.setIfInBounds_toArray, List.set_cons_zero, List.set_cons_succ])
    | (refine SeqS.take2 (v := undef) (by first | assumption | trivial) (by kernel_rfl) (by decide +kernel) (by decide +kernel) (Or.inr ⟨by rfl, rfl⟩) ?_
       simp only [Act.put, List.setIfInBounds_toArray, List.set_cons_zero, List.set_cons_succ]))
  refine SeqS.done (by decide +kernel) ?_
  go_wp2
  go_ret
  refine ⟨rfl, ?_⟩
  rw [hhH.out]
  exact hB8.out.trans (below_of_grown S3.1 (Nat.le_of_lt h0gH.out) hgl8.out)

theorem wf_place' {a : Int} (h : (Lit.int .u64 a).wf = true) : ∃ n : Nat, a = n ∧ n < 18446744073709551616 := by
  have := bounds_u64 h
  exact ⟨a.toNat, by omega, by omega⟩
theorem law_StreamPlaces (z0 : List Int) (a1 a2 : Int) (w : World) (h0 : z0.length = 32) (w0 : ∀ x ∈ z0, (Lit.int .u8 x).wf = true) (w1 : (Lit.int .u64 a1).wf = true) (w2 : (Lit.int .u64 a2).wf = true) :
    Calls Try.prog 4 #[.agg (z0.map (Value.int .u8)).toArray, .int .u64 a1, .int .u64 a2] w fun e w' => e = .returned (.bool true) ∧ Below w.heap.size w w' := by
  obtain ⟨f, hf, rfl⟩ := bytes_fn z0 32 h0 w0
  obtain ⟨p, rfl, hp⟩ := wf_place' w1
  obtain ⟨n, rfl, hn⟩ := wf_place' w2
  rw [bytesL_row]
  exact streamPlaces_any f p n w hf hp hn
end Go.Proofs.Ytclcnngpgbdjgaa
