/-
  Texts of stages that were proved on their own, joined: StreamMasks. Each begins with its own words.
-/
import Derived.Test.YtclcnngpgbdjgaaJLawStreamMasksUpto4
import Derived.Test.YtclcnngpgbdjgaaShaJoin
import Derived.Test.YtclcnngpgbdjgaaOpenArr

/-
  The law StreamMasks comes to true, whatever key of 32 bytes, whatever place and whatever parts; new memory alone is written. Conditions: bytes are numbers below 256, the place a number below 2^64; the parts and their bytes are at most 2^20 in all.
-/
namespace Go.Proofs.Ytclcnngpgbdjgaa
open Go.RowKit

theorem wf_of_u8 {x : Int} (h : 0 ≤ x ∧ x < 256) : (Lit.int .u8 x).wf = true := by
  simp only [Lit.wf, Bool.and_eq_true, decide_eq_true_eq]
  have h1 : IntKind.u8.min = 0 := rfl
  have h2 : IntKind.u8.max = 255 := rfl
  omega
theorem mask_keys {w : World} {g : Nat} {f : Nat → Nat} {t : TypeId} (n : Nat) (h : Blk w g t (rowN n f)) : Ints .u8 w (some ⟨g, 0, none⟩) n n (bytesL n f) := by
  have := Ints.row (o := 0) (cap := n) h n (by omega) (Nat.le_refl n)
  rw [show (fun i => f (0 + i)) = f by funext i; rw [Nat.zero_add]] at this
  exact this
theorem grown_row {w v v' : World} {g : Nat} {row : Option Nat} (h : w.grownBy v (some g)) (k : v.grownBy v' row) (hr : ∀ o, row = some o → w.heap.size ≤ o) : w.grownBy v' (some g) :=
  ⟨k.os.trans h.os, k.tape.trans h.tape, k.output.trans h.output, Nat.le_trans h.size k.size, fun i hi hne => (k.block i (Nat.lt_of_lt_of_le hi h.size) (by intro e; have := hr i e.symm; omega)).trans (h.block i hi hne)⟩
theorem mk_next (K : Nat → Nat → Nat) (p L : Nat) (f : Nat → Nat) (i : Nat) : mk K ((p + L) % 18446744073709551616) (fun j => f (L + j)) i = mk K p f (L + i) := by
  unfold mk
  rw [show ((p + L) % 18446744073709551616 + i) % 18446744073709551616 = (p + (L + i)) % 18446744073709551616 by omega]
theorem row_next (K : Nat → Nat → Nat) (p L m : Nat) (f : Nat → Nat) : rowN L (mk K p f) ++ (bytesL m (mk K ((p + L) % 18446744073709551616) (fun i => f (L + i)))).map (Value.int .u8) = rowN (L + m) (mk K p f) := by
  rw [bytesL_row, rowN_add, rowN_congr (f := mk K ((p + L) % 18446744073709551616) (fun i => f (L + i))) (h := fun i => mk K p f (L + i)) (fun i _ => mk_next K p L f i)]
theorem mk_mk (K : Nat → Nat → Nat) (p : Nat) (f : Nat → Nat) : mk K p (mk K p f) = f := by
  funext i
  unfold mk
  rw [Nat.xor_assoc, Nat.xor_self, Nat.xor_zero]
theorem part_fn {ps : List (List Int)} {N : Nat} {f : Nat → Nat} (hf : ps.flatten = bytesL N f) (k : Nat) (hk : k < ps.length) (L m : Nat) (hL : (ps.take k).flatten.length = L) (hm : (ps.getD k []).length = m) :
    ps.getD k [] = bytesL m (fun i => f (L + i)) ∧ L + m ≤ N := by
  have hN : N = ps.flatten.length := by rw [hf, bytesL_len]
  have hle : L + m ≤ N := by
    have h1 := flatten_take_le ps (k + 1)
    rw [flatten_snoc ps k hk, List.length_append, hL, hm] at h1
    omega
  refine ⟨?_, hle⟩
  rw [← bytes_cut N f L m hle, ← hf]
  have h : ps.flatten = (ps.take k).flatten ++ (ps.getD k [] ++ (ps.drop (k + 1)).flatten) := by
    rw [← List.append_assoc, ← flatten_snoc ps k hk, ← List.flatten_append, List.take_append_drop]
  rw [h, List.drop_append, hL, Nat.sub_self, List.drop_zero, List.drop_of_length_le (by rw [hL]; exact Nat.le_refl _), List.nil_append, List.take_append_of_le_length (by rw [hm]; exact Nat.le_refl _), List.take_of_length_le (by rw [hm]; exact Nat.le_refl _)]

set_option maxRecDepth 100000 in
set_option maxHeartbeats 2000000 in
theorem streamMasks_any (kf : Nat → Nat) (p : Nat) (a : Option Addr) (n cap : Nat) (ps : List (List Int)) (w : World) (hkf : By kf) (hp : p < 18446744073709551616) (hP : Parts w a n cap ps) (hfew : n + ps.flatten.length ≤ 300) (N : Nat) (f : Nat → Nat) (hf : ps.flatten = bytesL N f) (hfb : By f) :
    Calls Try.prog 3 #[.agg (rowN 32 kf).toArray, .int .u64 (p : Int), .slice a n cap] w fun e w' => e = .returned (.bool true) ∧ Below w.heap.size w w' := by
  obtain ⟨i0, hi, hz0, hz1, hz2⟩ := info_u8
  have hN : ps.flatten.length = N := by rw [hf, bytesL_len]
  have hNl : N ≤ 300 := by omega
  have hnl : n ≤ 300 := by omega
  have hpl := hP.len
  go_enter Try.func3, Try.ntmps3
  have CF := Lib.hid (fun (W : World) (h : Parts W a n cap ps) => refFew_any a n cap ps W h (by omega) (by omega) 300 300 rfl)
  go_wp2_with ((with_reducible refine wpList_box_blk rfl 22 (.tmp 0) rfl (rowN 32 kf) ?_ ?_); rfl)
  obtain ⟨W0, hW0⟩ : ∃ W0, w.alloc (.cells (rowN 32 kf).toArray 22) = W0 := ⟨_, rfl⟩
  obtain ⟨h0, hh0⟩ : ∃ h0, w.heap.size = h0 := ⟨_, rfl⟩
  have hk0 : Blk W0 h0 22 (rowN 32 kf) := by rw [← hW0, ← hh0]; exact Blk.new w _ _
  have hB0 : Below h0 w W0 := by rw [← hW0, ← hh0]; exact below1 w _
  have PP := Lib.hid (fun w' (h : Below h0 w w') => hP.keep (w' := w') (by rw [hh0]; exact h))
  rw [hW0, hh0]
  have hhH := Lib.hid hh0
  clear hW0 hh0 hP
  refine (CF.out W0 (PP.out W0 hB0)).mono ?_
  rintro e w' ⟨rfl, rfl⟩
  rw [decide_eq_true hfew]
  have hkr := bytesL_range hkf 32
  have hfewH := Lib.hid hfew
  have hNlH := Lib.hid hNl
  have hnlH := Lib.hid hnl
  clear CF hfew
  go_wp2_with fail
  refine (stNew_any (some ⟨h0, 0, none⟩) 32 (bytesL 32 kf) W0 (mask_keys 32 hk0) hkr).mono ?_
  rintro e w1 ⟨g, rfl, hg, hS1, b1⟩
  obtain ⟨F, hF⟩ : ∃ F, kb (kws (own (bytesL 32 kf)) 52) = F := ⟨_, rfl⟩
  have hFb : By F := by rw [← hF]; exact kb_by _
  rw [hF] at hS1
  have hFH := Lib.hid hF
  have hk1 := hk0.keep b1 hk0.lt
  have hB1 := hB0.trans (b1.mono (Nat.le_of_lt hk0.lt))
  have h0g : h0 < g := Nat.lt_of_lt_of_le hk0.lt hg
  have h0gH := Lib.hid h0g
  have hFbH := Lib.hid hFb
  have hkrH := Lib.hid hkr
  have hpH := Lib.hid hp
  have hfbH := Lib.hid hfb
  clear hF b1 hk0 hB0 hg h0g hFb hkr hp hkf hfb
  go_wp2_with fail
  refine (place_any g F 0 w1 hS1).mono ?_
  rintro e w' ⟨rfl, rfl⟩
  go_wp2_with fail
  refine (refJoin_own a n cap ps w1 (PP.out w1 hB1) (by have := hNlH.out; omega) (by have := hnlH.out; omega)).mono ?_
  rintro e w2 ⟨ab, ac, rfl, hA, nA, b2⟩
  have hS2 := hS1.keep b2 hS1.lt
  have hk2 := hk1.keep b2 hk1.lt
  have hB2 := hB1.trans (b2.mono (Nat.le_of_lt hk1.lt))
  have nAg : ∀ x, ab = some x → 0 < N → x.block ≠ g := fun x hx _ => by have := nA x hx; have := hS1.lt; omega
  rw [hN, hf] at hA
  rw [hN]
  have nAH := Lib.hid nAg
  clear hS1 hk1 hB1 nA nAg b2
  go_wp2_with fail
  refine (seek_any g F 0 p w2 hS2).mono ?_
  rintro e w3 ⟨rfl, hS3, g3⟩
  have hgl2 := hS2.lt
  have hk3 := hk2.grown g3 (by intro e; injection e; have := h0gH.out; omega)
  have hA3 := hA.grown g3 nAH.out
  have hB3 := hB2.trans (below_of_grown g3 (Nat.le_of_lt h0gH.out) hgl2)
  have hgl3 := hS3.lt
  obtain ⟨B, hBs⟩ : ∃ B, w3.heap.size = B := ⟨_, rfl⟩
  have hgB : g < B := by rw [← hBs]; exact hgl3
  have BB := Lib.hid (fun w' (h : w3.grownBy w' (some g)) => hB3.trans (below_of_grown h (Nat.le_of_lt h0gH.out) hgl3))
  have KK := Lib.hid (fun w' (h : w3.grownBy w' (some g)) => (hk3.grown h (by intro e; injection e; have := h0gH.out; omega) : Blk w' h0 22 (rowN 32 kf)))
  have AA := Lib.hid (fun w' (h : w3.grownBy w' (some g)) => (hA3.grown h nAH.out : Ints .u8 w' ab N ac (bytesL N f)))
  have hBsH := Lib.hid hBs
  have hgBH := Lib.hid hgB
  have hplH := Lib.hid hpl
  have hfH := Lib.hid hf
  have hNH := Lib.hid hN
  clear hA hS2 g3 hk2 hB2 hgl2 hk3 hA3 hB3 hgl3 hBs hgB hpl hN hf hNl hnl
  go_wp2
  go_loopw [10, 40] (fun o i wr => ∃ k L : Nat, k ≤ n ∧ (ps.take k).flatten.length = L ∧ i = .int .i64 k ∧ wr.ownsRow B 5 1 o L (rowN L (mk (keyAt F) p f)) ∧ StAt wr g F ((p + L) % 18446744073709551616) ∧ w3.grownBy wr (some g)) (fun _ i _ => n - (intOf i).toNat)
  case atStart => exact ⟨0, 0, Nat.zero_le _, rfl, rfl, World.ownsRow_nil _ _ _ _, by rw [Nat.add_zero, Nat.mod_eq_of_lt hpH.out]; exact hS3, grown_refl _ _⟩
  case round =>
    clear hS3
    obtain ⟨k, L, hk, hL, rfl, hown, hS, hg⟩ := hrel
    by_cases hlt : k < n
    · obtain ⟨b, off, hba, hc⟩ := (PP.out wr (BB.out wr hg)).at (by omega)
      subst hba
      obtain ⟨A, m, c, hck, hI⟩ := hc k hlt
      obtain ⟨hpf, hLm⟩ := part_fn hfH.out k (by rw [hplH.out]; exact hlt) L m hL hI.len
      have hLn : (ps.take (k + 1)).flatten.length = L + m := by rw [flatten_snoc ps k (by rw [hplH.out]; exact hlt), List.length_append, hL, hI.len]
      rw [hpf] at hI
      have hki : (k : Int) < (n : Int) := by omega
      have hkb : (k : Int) < 300 := by have := hnlH.out; omega
      have hLnH := Lib.hid hLn
      have hLmH := Lib.hid hLm
      have hltH := Lib.hid hlt
      have hgH := Lib.hid hg
      have hIH := Lib.hid hI
      have hSH := Lib.hid hS
      have hownH := Lib.hid hown
      clear hc hpf hLn hLm hL hk hlt hg hI hS hown
      go_wp2_with fail
      refine (mask_any g F _ A m c (fun i => f (L + i)) wr hFbH.out (fun i => hfbH.out _) hSH.out (Nat.mod_lt _ (by decide)) hIH.out (by have := hLmH.out; have := hNlH.out; omega)).mono ?_
      rintro e w5 ⟨mb, mc, rfl, ho, hS5, g5⟩
      have hg5 := grown_trans hgH.out g5
      have hown5 := own_grown hownH.out g5 hgBH.out
      have hI5 := own_intsL ho
      have hS5 : StAt w5 g F ((p + (L + m)) % 18446744073709551616) := by
        rw [show (p + (L + m)) % 18446744073709551616 = ((p + L) % 18446744073709551616 + m) % 18446744073709551616 by omega]
        exact hS5
      have hBw5 : B ≤ w5.heap.size := by rw [← hBsH.out]; exact hg5.size
      have hrow : Hid (rowN L (mk (keyAt F) p f) ++ (bytesL m (mk (keyAt F) ((p + L) % 18446744073709551616) (fun i => f (L + i)))).map (Value.int .u8) = rowN (L + m) (mk (keyAt F) p f)) := Lib.hid (row_next _ _ _ _ _)
      have hBw5H := Lib.hid hBw5
      clear ho hBw5
      go_wp2_with (at_builtin; refine wpList_append_ints rfl (.tmp 44) (.tmp 47) 31 rfl B 5 i0 (.int .u8 0) 1 Try.underlying31 hi hz0 hz1 hz2 rfl rfl hown5 rfl hI5 ?_ ?_ hBw5H.out ?_; (have := hLmH.out; have := hNlH.out; unfold maxLen; omega); (have := hLmH.out; have := hNlH.out; omega); intro v6 w6 hown6 hg6; refine RowKit.Hid.out ?_)
      refine Lib.hid ?_
      rw [hrow.out] at hown6
      have hS6 := hS5.grown hg6 (by intro e; have := (hown5.lt g e.symm).1; have := hgBH.out; omega)
      have hr6 := grown_row hg5 hg6 (fun o ho => by rw [hBsH.out]; exact (hown5.lt o ho).1)
      clear hS5 hg5 hown5 hI5 hg6 hrow
      go_wp2
      go_roundw
      case rel => exact ⟨k + 1, L + m, by have := hltH.out; omega, hLnH.out, by go_num, hown6, hS6, hr6⟩
      case measure => have := hltH.out; simp [intOf]; omega
    · obtain rfl : k = n := by omega
      have hLN : N = L := by rw [← hL, List.take_of_length_le (by rw [hplH.out]; exact Nat.le_refl _), hNH.out]
      subst hLN
      obtain ⟨ob, oc, hv⟩ := own_slice hown
      subst hv
      have hnk : (k : Int) ≤ (k : Int) := by omega
      have hO := own_intsL hown
      have nO : ∀ x, ob = some x → 0 < N → x.block ≠ g := fun x hx _ => by have := (hown.lt x.block (by rw [hx]; rfl)).1; have := hgBH.out; omega
      obtain ⟨q, hq⟩ : ∃ q, (p + N) % 18446744073709551616 = q := ⟨_, rfl⟩
      have w1' : IntKind.u64.wrap ((p : Int) + (N : Int)) = (q : Int) := by rw [IntKind.wrap_u64]; omega
      have w2' : IntKind.u64.wrap (N : Int) = (N : Int) := by rw [IntKind.wrap_u64]; have := hNlH.out; omega
      rw [hq] at hS
      obtain ⟨W5, rfl⟩ : ∃ W5 : World, W5 = wr := ⟨_, rfl⟩
      have OO := Lib.hid (fun w' (h : W5.grownBy w' (some g)) => (hO.grown h nO : Ints .u8 w' ob N oc (bytesL N (mk (keyAt F) p f))))
      have FO := Lib.hid (fun w' (h : W5.grownBy w' (some g) ∧ StAt w' g F q) => (OO.out w' h.1).string 31 9 5 Try.underlying31 Try.underlying5 Try.underlying9)
      have FA := Lib.hid (fun w' (h : W5.grownBy w' (some g)) => (AA.out w' (grown_trans hg h)).string 31 9 5 Try.underlying31 Try.underlying5 Try.underlying9)
      have S0 : W5.grownBy W5.drew (some g) ∧ StAt W5.drew g F q := ⟨grown_drew (grown_refl _ _), hS⟩
      have hgl5 := Lib.hid hS.lt
      have hgH := Lib.hid hg
      have hqH := Lib.hid hq
      clear hown hL hk hlt hq hS hg nO hO
      go_wp2_with fail
      refine region_seqS (fun w' => W5.grownBy w' (some g) ∧ StAt w' g F q) (by kernel_rfl) S0 ?_
      simp only [pairs, Nat.reduceAdd]
      obtain ⟨v, hv⟩ : ∃ v, W5.drew = v := ⟨_, rfl⟩
      rw [hv] at S0
      change SeqS _ _ _ _ _ _ _ _ W5.drew
      rw [hv]
      clear hv
      repeat (first
        | (refine SeqS.take (v := ?_) (by first | assumption | trivial) (by kernel_rfl) (by decide +kernel) (by decide +kernel) (Or.inl ⟨by rfl, ?_⟩) ?_
           rotate_left
           focus
             intro w' hb'
             go_simp
             with_reducible rfl
           simp only [Act.put, List.setIfInBounds_toArray, List.set_cons_zero, List.set_cons_succ])
        | (refine SeqS.take (v := ?_) (by first | assumption | trivial) (by kernel_rfl) (by decide +kernel) (by decide +kernel) (Or.inl ⟨by rfl, ?_⟩) ?_
           rotate_left
           focus
             intro w' hb'
             have d0 := FO.out w' hb'
             go_simp
             with_reducible rfl
           simp only [Act.put, List.setIfInBounds_toArray, List.set_cons_zero, List.set_cons_succ])
        | (refine SeqS.take (v := undef) (by first | assumption | trivial) (by kernel_rfl) (by decide +kernel) (by decide +kernel) (Or.inr ⟨by rfl, rfl⟩) ?_
           simp only [Act.put, List.setIfInBounds_toArray, List.set_cons_zero, List.set_cons_succ])
        | (refine SeqS.take1 (v := ?_) (by first | assumption | trivial) (by kernel_rfl) (by decide +kernel) (by decide +kernel) (Or.inl ⟨by rfl, ?_⟩) ?_
           rotate_left
           focus
             intro w' hb'
             go_simp
             with_reducible rfl
           simp only [Act.put, List.setIfInBounds_toArray, List.set_cons_zero, List.set_cons_succ])
        | (refine SeqS.take1 (v := ?_) (by first | assumption | trivial) (by kernel_rfl) (by decide +kernel) (by decide +kernel) (Or.inl ⟨by rfl, ?_⟩) ?_
           rotate_left
           focus
             intro w' hb'
             have d0 := FO.out w' hb'
             go_simp
             with_reducible rfl
           simp only [Act.put, List.setIfInBounds_toArray, List.set_cons_zero, List.set_cons_succ])
        | (refine SeqS.take1 (v := undef) (by first | assumption | trivial) (by kernel_rfl) (by decide +kernel) (by decide +kernel) (Or.inr ⟨by rfl, rfl⟩) ?_
           simp only [Act.put, List.setIfInBounds_toArray, List.set_cons_zero, List.set_cons_succ])
        | (refine SeqS.take2 (v := ?_) (by first | assumption | trivial) (by kernel_rfl) (by decide +kernel) (by decide +kernel) (Or.inl ⟨by rfl, ?_⟩) ?_
           rotate_left
           focus
             intro w' hb'
             go_simp
             with_reducible rfl
           simp only [Act.put, List.setIfInBounds_toArray, List.set_cons_zero, List.set_cons_succ])
        | (refine SeqS.take2 (v := ?_) (by first | assumption | trivial) (by kernel_rfl) (by decide +kernel) (by decide +kernel) (Or.inl ⟨by rfl, ?_⟩) ?_
           rotate_left
           focus
             intro w' hb'
             have d0 := FO.out w' hb'
             go_simp
             with_reducible rfl
           simp only [Act.put, List.setIfInBounds_toArray, List.set_cons_zero, List.set_cons_succ])
        | (refine SeqS.take2 (v := undef) (by first | assumption | trivial) (by kernel_rfl) (by decide +kernel) (by decide +kernel) (Or.inr ⟨by rfl, rfl⟩) ?_
           simp only [Act.put, List.setIfInBounds_toArray, List.set_cons_zero, List.set_cons_succ]))
      refine SeqS.alone (by decide +kernel) (by rfl) (fun K hK => ?_)
      go_simp
      refine (place_any g F q v S0.2).mono ?_
      rintro e w' ⟨rfl, rfl⟩
      go_simp
      refine hK _ _ S0 ?_
      clear hK K
      repeat (first
        | (refine SeqS.take (v := ?_) (by first | assumption | trivial) (by kernel_rfl) (by decide +kernel) (by decide +kernel) (Or.inl ⟨by rfl, ?_⟩) ?_
           rotate_left
           focus
             intro w' hb'
             go_simp
             with_reducible rfl
           simp only [Act.put, List.setIfInBounds_toArray, List.set_cons_zero, List.set_cons_succ])
        | (refine SeqS.take (v := ?_) (by first | assumption | trivial) (by kernel_rfl) (by decide +kernel) (by decide +kernel) (Or.inl ⟨by rfl, ?_⟩) ?_
           rotate_left
           focus
             intro w' hb'
             have d0 := FO.out w' hb'
             go_simp
             with_reducible rfl
           simp only [Act.put, List.setIfInBounds_toArray, List.set_cons_zero, List.set_cons_succ])
        | (refine SeqS.take (v := undef) (by first | assumption | trivial) (by kernel_rfl) (by decide +kernel) (by decide +kernel) (Or.inr ⟨by rfl, rfl⟩) ?_
           simp only [Act.put, List.setIfInBounds_toArray, List.set_cons_zero, List.set_cons_succ])
        | (refine SeqS.take1 (v := ?_) (by first | assumption | trivial) (by kernel_rfl) (by decide +kernel) (by decide +kernel) (Or.inl ⟨by rfl, ?_⟩) ?_
           rotate_left
           focus
             intro w' hb'
             go_simp
             with_reducible rfl
           simp only [Act.put, List.setIfInBounds_toArray, List.set_cons_zero, List.set_cons_succ])
        | (refine SeqS.take1 (v := ?_) (by first | assumption | trivial) (by kernel_rfl) (by decide +kernel) (by decide +kernel) (Or.inl ⟨by rfl, ?_⟩) ?_
           rotate_left
           focus
             intro w' hb'
             have d0 := FO.out w' hb'
             go_simp
             with_reducible rfl
           simp only [Act.put, List.setIfInBounds_toArray, List.set_cons_zero, List.set_cons_succ])
        | (refine SeqS.take1 (v := undef) (by first | assumption | trivial) (by kernel_rfl) (by decide +kernel) (by decide +kernel) (Or.inr ⟨by rfl, rfl⟩) ?_
           simp only [Act.put, List.setIfInBounds_toArray, List.set_cons_zero, List.set_cons_succ])
        | (refine SeqS.take2 (v := ?_) (by first | assumption | trivial) (by kernel_rfl) (by decide +kernel) (by decide +kernel) (Or.inl ⟨by rfl, ?_⟩) ?_
           rotate_left
           focus
             intro w' hb'
             go_simp
             with_reducible rfl
           simp only [Act.put, List.setIfInBounds_toArray, List.set_cons_zero, List.set_cons_succ])
        | (refine SeqS.take2 (v := ?_) (by first | assumption | trivial) (by kernel_rfl) (by decide +kernel) (by decide +kernel) (Or.inl ⟨by rfl, ?_⟩) ?_
           rotate_left
           focus
             intro w' hb'
             have d0 := FO.out w' hb'
             go_simp
             with_reducible rfl
           simp only [Act.put, List.setIfInBounds_toArray, List.set_cons_zero, List.set_cons_succ])
        | (refine SeqS.take2 (v := undef) (by first | assumption | trivial) (by kernel_rfl) (by decide +kernel) (by decide +kernel) (Or.inr ⟨by rfl, rfl⟩) ?_
           simp only [Act.put, List.setIfInBounds_toArray, List.set_cons_zero, List.set_cons_succ]))
      have hg2 := grown_trans hgH.out S0.1
      refine SeqS.alone (by decide +kernel) (by rfl) (fun K hK => ?_)
      go_simp
      refine (rMask_any (some ⟨h0, 0, none⟩) 32 (bytesL 32 kf) p ab N ac f v (mask_keys 32 (KK.out v hg2)) hkrH.out hpH.out (AA.out v hg2) hfbH.out (by have := hNlH.out; omega)).mono ?_
      rintro e v2 ⟨rb, rc, rfl, ho, b2⟩
      rw [hFH.out] at ho
      have f2 := (own_intsL ho).string 31 9 5 Try.underlying31 Try.underlying5 Try.underlying9
      have S2 : W5.grownBy v2 (some g) ∧ StAt v2 g F q := ⟨grown_trans S0.1 (grown_of_below b2 _), S0.2.keep b2 S0.2.lt⟩
      go_simp
      refine hK _ _ S2 ?_
      clear hK K ho b2 hg2
      refine SeqS.alone (by decide +kernel) (by rfl) (fun K hK => ?_)
      go_simp
      refine hK _ _ S2 ?_
      clear hK K f2
      repeat (first
        | (refine SeqS.take (v := ?_) (by first | assumption | trivial) (by kernel_rfl) (by decide +kernel) (by decide +kernel) (Or.inl ⟨by rfl, ?_⟩) ?_
           rotate_left
           focus
             intro w' hb'
             go_simp
             with_reducible rfl
           simp only [Act.put, List.setIfInBounds_toArray, List.set_cons_zero, List.set_cons_succ])
        | (refine SeqS.take (v := undef) (by first | assumption | trivial) (by kernel_rfl) (by decide +kernel) (by decide +kernel) (Or.inr ⟨by rfl, rfl⟩) ?_
           simp only [Act.put, List.setIfInBounds_toArray, List.set_cons_zero, List.set_cons_succ])
        | (refine SeqS.take1 (v := ?_) (by first | assumption | trivial) (by kernel_rfl) (by decide +kernel) (by decide +kernel) (Or.inl ⟨by rfl, ?_⟩) ?_
           rotate_left
           focus
             intro w' hb'
             go_simp
             with_reducible rfl
           simp only [Act.put, List.setIfInBounds_toArray, List.set_cons_zero, List.set_cons_succ])
        | (refine SeqS.take1 (v := undef) (by first | assumption | trivial) (by kernel_rfl) (by decide +kernel) (by decide +kernel) (Or.inr ⟨by rfl, rfl⟩) ?_
           simp only [Act.put, List.setIfInBounds_toArray, List.set_cons_zero, List.set_cons_succ])
        | (refine SeqS.take2 (v := ?_) (by first | assumption | trivial) (by kernel_rfl) (by decide +kernel) (by decide +kernel) (Or.inl ⟨by rfl, ?_⟩) ?_
           rotate_left
           focus
             intro w' hb'
             go_simp
             with_reducible rfl
           simp only [Act.put, List.setIfInBounds_toArray, List.set_cons_zero, List.set_cons_succ])
        | (refine SeqS.take2 (v := undef) (by first | assumption | trivial) (by kernel_rfl) (by decide +kernel) (by decide +kernel) (Or.inr ⟨by rfl, rfl⟩) ?_
           simp only [Act.put, List.setIfInBounds_toArray, List.set_cons_zero, List.set_cons_succ]))
      refine SeqS.done (by decide +kernel) ?_
      clear S0
      go_wp2_with fail
      refine (seek_any g F q p v2 S2.2).mono ?_
      rintro e v3 ⟨rfl, hS3, g3⟩
      have hr3 := grown_trans S2.1 g3
      have S0 : W5.grownBy v3.drew (some g) ∧ ∃ z, StAt v3.drew g F z := ⟨grown_drew hr3, p, hS3⟩
      have hS4 : StAt v3.drew g F p := hS3
      clear S2 g3 hr3 hS3
      go_wp2_with fail
      refine region_seqS (fun w' => W5.grownBy w' (some g) ∧ ∃ z, StAt w' g F z) (by kernel_rfl) S0 ?_
      simp only [pairs, Nat.reduceAdd]
      obtain ⟨u, hu⟩ : ∃ u, v3.drew = u := ⟨_, rfl⟩
      rw [hu] at S0 hS4
      change SeqS _ _ _ _ _ _ _ _ v3.drew
      rw [hu]
      clear hu
      repeat (first
        | (refine SeqS.take (v := ?_) (by first | assumption | trivial) (by kernel_rfl) (by decide +kernel) (by decide +kernel) (Or.inl ⟨by rfl, ?_⟩) ?_
           rotate_left
           focus
             intro w' hb'
             go_simp
             with_reducible rfl
           simp only [Act.put, List.setIfInBounds_toArray, List.set_cons_zero, List.set_cons_succ])
        | (refine SeqS.take (v := ?_) (by first | assumption | trivial) (by kernel_rfl) (by decide +kernel) (by decide +kernel) (Or.inl ⟨by rfl, ?_⟩) ?_
           rotate_left
           focus
             intro w' hb'
             have d0 := FA.out w' hb'.1
             go_simp
             with_reducible rfl
           simp only [Act.put, List.setIfInBounds_toArray, List.set_cons_zero, List.set_cons_succ])
        | (refine SeqS.take (v := undef) (by first | assumption | trivial) (by kernel_rfl) (by decide +kernel) (by decide +kernel) (Or.inr ⟨by rfl, rfl⟩) ?_
           simp only [Act.put, List.setIfInBounds_toArray, List.set_cons_zero, List.set_cons_succ])
        | (refine SeqS.take1 (v := ?_) (by first | assumption | trivial) (by kernel_rfl) (by decide +kernel) (by decide +kernel) (Or.inl ⟨by rfl, ?_⟩) ?_
           rotate_left
           focus
             intro w' hb'
             go_simp
             with_reducible rfl
           simp only [Act.put, List.setIfInBounds_toArray, List.set_cons_zero, List.set_cons_succ])
        | (refine SeqS.take1 (v := ?_) (by first | assumption | trivial) (by kernel_rfl) (by decide +kernel) (by decide +kernel) (Or.inl ⟨by rfl, ?_⟩) ?_
           rotate_left
           focus
             intro w' hb'
             have d0 := FA.out w' hb'.1
             go_simp
             with_reducible rfl
           simp only [Act.put, List.setIfInBounds_toArray, List.set_cons_zero, List.set_cons_succ])
        | (refine SeqS.take1 (v := undef) (by first | assumption | trivial) (by kernel_rfl) (by decide +kernel) (by decide +kernel) (Or.inr ⟨by rfl, rfl⟩) ?_
           simp only [Act.put, List.setIfInBounds_toArray, List.set_cons_zero, List.set_cons_succ])
        | (refine SeqS.take2 (v := ?_) (by first | assumption | trivial) (by kernel_rfl) (by decide +kernel) (by decide +kernel) (Or.inl ⟨by rfl, ?_⟩) ?_
           rotate_left
           focus
             intro w' hb'
             go_simp
             with_reducible rfl
           simp only [Act.put, List.setIfInBounds_toArray, List.set_cons_zero, List.set_cons_succ])
        | (refine SeqS.take2 (v := ?_) (by first | assumption | trivial) (by kernel_rfl) (by decide +kernel) (by decide +kernel) (Or.inl ⟨by rfl, ?_⟩) ?_
           rotate_left
           focus
             intro w' hb'
             have d0 := FA.out w' hb'.1
             go_simp
             with_reducible rfl
           simp only [Act.put, List.setIfInBounds_toArray, List.set_cons_zero, List.set_cons_succ])
        | (refine SeqS.take2 (v := undef) (by first | assumption | trivial) (by kernel_rfl) (by decide +kernel) (by decide +kernel) (Or.inr ⟨by rfl, rfl⟩) ?_
           simp only [Act.put, List.setIfInBounds_toArray, List.set_cons_zero, List.set_cons_succ]))
      refine SeqS.alone (by decide +kernel) (by rfl) (fun K hK => ?_)
      go_simp
      refine (mask_any g F p ob N oc (mk (keyAt F) p f) u hFbH.out (mk_by (fun r => keyAt_by hFbH.out r) p hfbH.out) hS4 hpH.out (OO.out u S0.1) (by have := hNlH.out; omega)).mono ?_
      rintro e u2 ⟨zb, zc, rfl, ho, st2, g2⟩
      rw [mk_mk] at ho
      have f2 := (own_intsL ho).string 31 9 5 Try.underlying31 Try.underlying5 Try.underlying9
      have S2 : W5.grownBy u2 (some g) ∧ ∃ z, StAt u2 g F z := ⟨grown_trans S0.1 g2, _, st2⟩
      go_simp
      refine hK _ _ S2 ?_
      clear hK K ho g2 st2 hS4
      repeat (first
        | (refine SeqS.take (v := ?_) (by first | assumption | trivial) (by kernel_rfl) (by decide +kernel) (by decide +kernel) (Or.inl ⟨by rfl, ?_⟩) ?_
           rotate_left
           focus
             intro w' hb'
             go_simp
             with_reducible rfl
           simp only [Act.put, List.setIfInBounds_toArray, List.set_cons_zero, List.set_cons_succ])
        | (refine SeqS.take (v := ?_) (by first | assumption | trivial) (by kernel_rfl) (by decide +kernel) (by decide +kernel) (Or.inl ⟨by rfl, ?_⟩) ?_
           rotate_left
           focus
             intro w' hb'
             have d0 := FA.out w' hb'.1
             go_simp
             with_reducible rfl
           simp only [Act.put, List.setIfInBounds_toArray, List.set_cons_zero, List.set_cons_succ])
        | (refine SeqS.take (v := undef) (by first | assumption | trivial) (by kernel_rfl) (by decide +kernel) (by decide +kernel) (Or.inr ⟨by rfl, rfl⟩) ?_
           simp only [Act.put, List.setIfInBounds_toArray, List.set_cons_zero, List.set_cons_succ])
        | (refine SeqS.take1 (v := ?_) (by first | assumption | trivial) (by kernel_rfl) (by decide +kernel) (by decide +kernel) (Or.inl ⟨by rfl, ?_⟩) ?_
           rotate_left
           focus
             intro w' hb'
             go_simp
             with_reducible rfl
           simp only [Act.put, List.setIfInBounds_toArray, List.set_cons_zero, List.set_cons_succ])
        | (refine SeqS.take1 (v := ?_) (by first | assumption | trivial) (by kernel_rfl) (by decide +kernel) (by decide +kernel) (Or.inl ⟨by rfl, ?_⟩) ?_
           rotate_left
           focus
             intro w' hb'
             have d0 := FA.out w' hb'.1
             go_simp
             with_reducible rfl
           simp only [Act.put, List.setIfInBounds_toArray, List.set_cons_zero, List.set_cons_succ])
        | (refine SeqS.take1 (v := undef) (by first | assumption | trivial) (by kernel_rfl) (by decide +kernel) (by decide +kernel) (Or.inr ⟨by rfl, rfl⟩) ?_
           simp only [Act.put, List.setIfInBounds_toArray, List.set_cons_zero, List.set_cons_succ])
        | (refine SeqS.take2 (v := ?_) (by first | assumption | trivial) (by kernel_rfl) (by decide +kernel) (by decide +kernel) (Or.inl ⟨by rfl, ?_⟩) ?_
           rotate_left
           focus
             intro w' hb'
             go_simp
             with_reducible rfl
           simp only [Act.put, List.setIfInBounds_toArray, List.set_cons_zero, List.set_cons_succ])
        | (refine SeqS.take2 (v := ?_) (by first | assumption | trivial) (by kernel_rfl) (by decide +kernel) (by decide +kernel) (Or.inl ⟨by rfl, ?_⟩) ?_
           rotate_left
           focus
             intro w' hb'
             have d0 := FA.out w' hb'.1
             go_simp
             with_reducible rfl
           simp only [Act.put, List.setIfInBounds_toArray, List.set_cons_zero, List.set_cons_succ])
        | (refine SeqS.take2 (v := undef) (by first | assumption | trivial) (by kernel_rfl) (by decide +kernel) (by decide +kernel) (Or.inr ⟨by rfl, rfl⟩) ?_
           simp only [Act.put, List.setIfInBounds_toArray, List.set_cons_zero, List.set_cons_succ]))
      refine SeqS.alone (by decide +kernel) (by rfl) (fun K hK => ?_)
      go_simp
      refine hK _ _ S2 ?_
      clear hK K f2
      repeat (first
        | (refine SeqS.take (v := ?_) (by first | assumption | trivial) (by kernel_rfl) (by decide +kernel) (by decide +kernel) (Or.inl ⟨by rfl, ?_⟩) ?_
           rotate_left
           focus
             intro w' hb'
             go_simp
             with_reducible rfl
           simp only [Act.put, List.setIfInBounds_toArray, List.set_cons_zero, List.set_cons_succ])
        | (refine SeqS.take (v := ?_) (by first | assumption | trivial) (by kernel_rfl) (by decide +kernel) (by decide +kernel) (Or.inl ⟨by rfl, ?_⟩) ?_
           rotate_left
           focus
             intro w' hb'
             have d0 := FA.out w' hb'.1
             go_simp
             with_reducible rfl
           simp only [Act.put, List.setIfInBounds_toArray, List.set_cons_zero, List.set_cons_succ])
        | (refine SeqS.take (v := undef) (by first | assumption | trivial) (by kernel_rfl) (by decide +kernel) (by decide +kernel) (Or.inr ⟨by rfl, rfl⟩) ?_
           simp only [Act.put, List.setIfInBounds_toArray, List.set_cons_zero, List.set_cons_succ])
        | (refine SeqS.take1 (v := ?_) (by first | assumption | trivial) (by kernel_rfl) (by decide +kernel) (by decide +kernel) (Or.inl ⟨by rfl, ?_⟩) ?_
           rotate_left
           focus
             intro w' hb'
             go_simp
             with_reducible rfl
           simp only [Act.put, List.setIfInBounds_toArray, List.set_cons_zero, List.set_cons_succ])
        | (refine SeqS.take1 (v := ?_) (by first | assumption | trivial) (by kernel_rfl) (by decide +kernel) (by decide +kernel) (Or.inl ⟨by rfl, ?_⟩) ?_
           rotate_left
           focus
             intro w' hb'
             have d0 := FA.out w' hb'.1
             go_simp
             with_reducible rfl
           simp only [Act.put, List.setIfInBounds_toArray, List.set_cons_zero, List.set_cons_succ])
        | (refine SeqS.take1 (v := undef) (by first | assumption | trivial) (by kernel_rfl) (by decide +kernel) (by decide +kernel) (Or.inr ⟨by rfl, rfl⟩) ?_
           simp only [Act.put, List.setIfInBounds_toArray, List.set_cons_zero, List.set_cons_succ])
        | (refine SeqS.take2 (v := ?_) (by first | assumption | trivial) (by kernel_rfl) (by decide +kernel) (by decide +kernel) (Or.inl ⟨by rfl, ?_⟩) ?_
           rotate_left
           focus
             intro w' hb'
             go_simp
             with_reducible rfl
           simp only [Act.put, List.setIfInBounds_toArray, List.set_cons_zero, List.set_cons_succ])
        | (refine SeqS.take2 (v := ?_) (by first | assumption | trivial) (by kernel_rfl) (by decide +kernel) (by decide +kernel) (Or.inl ⟨by rfl, ?_⟩) ?_
           rotate_left
           focus
             intro w' hb'
             have d0 := FA.out w' hb'.1
             go_simp
             with_reducible rfl
           simp only [Act.put, List.setIfInBounds_toArray, List.set_cons_zero, List.set_cons_succ])
        | (refine SeqS.take2 (v := undef) (by first | assumption | trivial) (by kernel_rfl) (by decide +kernel) (by decide +kernel) (Or.inr ⟨by rfl, rfl⟩) ?_
           simp only [Act.put, List.setIfInBounds_toArray, List.set_cons_zero, List.set_cons_succ]))
      refine SeqS.alone (by decide +kernel) (by rfl) (fun K hK => ?_)
      go_simp
      refine (stAlive_any u2).mono ?_
      rintro e u3 ⟨rfl, b3⟩
      have S3 : W5.grownBy u3 (some g) ∧ ∃ z, StAt u3 g F z := by
        obtain ⟨z, hz⟩ := S2.2
        exact ⟨grown_trans S2.1 (grown_of_below b3 _), z, hz.keep b3 hz.lt⟩
      go_simp
      refine hK _ _ S3 ?_
      clear hK K b3
      repeat (first
        | (refine SeqS.take (v := ?_) (by first | assumption | trivial) (by kernel_rfl) (by decide +kernel) (by decide +kernel) (Or.inl ⟨by rfl, ?_⟩) ?_
           rotate_left
           focus
             intro w' hb'
             go_simp
             with_reducible rfl
           simp only [Act.put, List.setIfInBounds_toArray, List.set_cons_zero, List.set_cons_succ])
        | (refine SeqS.take (v := undef) (by first | assumption | trivial) (by kernel_rfl) (by decide +kernel) (by decide +kernel) (Or.inr ⟨by rfl, rfl⟩) ?_
           simp only [Act.put, List.setIfInBounds_toArray, List.set_cons_zero, List.set_cons_succ])
        | (refine SeqS.take1 (v := ?_) (by first | assumption | trivial) (by kernel_rfl) (by decide +kernel) (by decide +kernel) (Or.inl ⟨by rfl, ?_⟩) ?_
           rotate_left
           focus
             intro w' hb'
             go_simp
             with_reducible rfl
           simp only [Act.put, List.setIfInBounds_toArray, List.set_cons_zero, List.set_cons_succ])
        | (refine SeqS.take1 (v := undef) (by first | assumption | trivial) (by kernel_rfl) (by decide +kernel) (by decide +kernel) (Or.inr ⟨by rfl, rfl⟩) ?_
           simp only [Act.put, List.setIfInBounds_toArray, List.set_cons_zero, List.set_cons_succ])
        | (refine SeqS.take2 (v := ?_) (by first | assumption | trivial) (by kernel_rfl) (by decide +kernel) (by decide +kernel) (Or.inl ⟨by rfl, ?_⟩) ?_
           rotate_left
           focus
             intro w' hb'
             go_simp
             with_reducible rfl
           simp only [Act.put, List.setIfInBounds_toArray, List.set_cons_zero, List.set_cons_succ])
        | (refine SeqS.take2 (v := undef) (by first | assumption | trivial) (by kernel_rfl) (by decide +kernel) (by decide +kernel) (Or.inr ⟨by rfl, rfl⟩) ?_
           simp only [Act.put, List.setIfInBounds_toArray, List.set_cons_zero, List.set_cons_succ]))
      refine SeqS.done (by decide +kernel) ?_
      go_wp2
      go_ret
      refine ⟨rfl, ?_⟩
      rw [hhH.out]
      exact BB.out u3 (grown_trans hgH.out S3.1)

set_option maxHeartbeats 800000 in
theorem streamMasks_more (kf : Nat → Nat) (p : Int) (a : Option Addr) (n cap : Nat) (ps : List (List Int)) (w : World) (hP : Parts w a n cap ps) (hn : n ≤ 1048576) (ht : ps.flatten.length ≤ 1048576) (hfew : ¬ n + ps.flatten.length ≤ 300) :
    Calls Try.prog 3 #[.agg (rowN 32 kf).toArray, .int .u64 p, .slice a n cap] w fun e w' => e = .returned (.bool true) ∧ Below w.heap.size w w' := by
  have CF := Lib.hid (fun (W : World) (h : Parts W a n cap ps) => refFew_any a n cap ps W h (by omega) (by omega) 300 300 rfl)
  have hd := decide_eq_false hfew
  clear hn ht hfew
  go_enter Try.func3, Try.ntmps3
  go_wp2_with ((with_reducible refine wpList_box_blk rfl 22 (.tmp 0) rfl (rowN 32 kf) ?_ ?_); rfl)
  have b1 := below1 w (.cells (rowN 32 kf).toArray 22)
  refine (CF.out _ (hP.keep b1)).mono ?_
  rintro e w' ⟨rfl, rfl⟩
  rw [hd]
  go_wp2_with fail
  refine (stAlive_any _).mono ?_
  rintro e w9 ⟨rfl, b9⟩
  go_wp2
  go_ret
  exact ⟨rfl, b1.trans (b9.mono b1.size)⟩

theorem law_StreamMasks (z0 : List Int) (x : Int) (a : Option Addr) (n c : Nat) (ps : List (List Int)) (w : World) (h0 : z0.length = 32) (w0 : ∀ x ∈ z0, (Lit.int .u8 x).wf = true) (hx : (Lit.int .u64 x).wf = true)
    (hP : Parts w a n c ps) (hr : ∀ q ∈ ps, ∀ x ∈ q, 0 ≤ x ∧ x < 256) (hb : n + ps.flatten.length ≤ 1048576) :
    Calls Try.prog 3 #[.agg (z0.map (Value.int .u8)).toArray, .int .u64 x, .slice a n c] w fun e w' => e = .returned (.bool true) ∧ Below w.heap.size w w' := by
  obtain ⟨kf, hkf, rfl⟩ := bytes_fn z0 32 h0 w0
  rw [bytesL_row]
  by_cases hfew : n + ps.flatten.length ≤ 300
  · have hbx := bounds_u64 hx
    obtain ⟨p, rfl⟩ : ∃ p : Nat, x = (p : Int) := ⟨x.toNat, by omega⟩
    have hall : ∀ x ∈ ps.flatten, 0 ≤ x ∧ x < 256 := by
      intro x hx
      obtain ⟨q, hq, hxq⟩ := List.mem_flatten.1 hx
      exact hr q hq x hxq
    obtain ⟨f, hf, hff⟩ := bytes_fn ps.flatten ps.flatten.length rfl (fun x hx => by have := hall x hx; exact wf_of_u8 this)
    exact streamMasks_any kf p a n c ps w hkf (by omega) hP hfew ps.flatten.length f hff hf
  · exact streamMasks_more kf x a n c ps w hP (by omega) (by omega) hfew
end Go.Proofs.Ytclcnngpgbdjgaa
