/-
  The law WordBytes comes to true, whatever the words and bytes; only new memory is written. Conditions: each word is a number from 0 to 2^32 - 1, each byte one from 0 to 255.
-/
import Derived.Test.YtbaacgoflmifkaaWordRefWords
import Derived.Test.YtbaacgoflmifkaaWordAlive
import Derived.Test.YtbaacgoflmifkaaRegion
namespace Go.Proofs.Ytbaacgoflmifkaa
open Go.RowKit

theorem ints_nil (k : IntKind) (w : World) : Ints k w none 0 0 [] := ⟨rfl, Nat.le_refl _, .inl rfl⟩
theorem bytesOf_range (xs : List Int) (h : ∀ x ∈ xs, 0 ≤ x ∧ x < 4294967296) : ∀ x ∈ bytesOf xs, 0 ≤ x ∧ x < 256 := by
  intro y hy
  obtain ⟨x, hx, hxy⟩ := List.mem_flatMap.1 hy
  have := h x hx
  simp only [bytes4, List.mem_cons, List.not_mem_nil, or_false] at hxy
  omega
theorem wordsOf_range : ∀ (bs : List Int), (∀ x ∈ bs, 0 ≤ x ∧ x < 256) → ∀ x ∈ wordsOf bs, 0 ≤ x ∧ x < 4294967296
  | [], _, _, h => by simp [wordsOf] at h
  | [_], _, _, h => by simp [wordsOf] at h
  | [_, _], _, _, h => by simp [wordsOf] at h
  | [_, _, _], _, _, h => by simp [wordsOf] at h
  | a :: b :: c :: d :: r, hr, y, h => by
    rcases List.mem_cons.1 (show y ∈ word4 a b c d :: wordsOf r from h) with rfl | h
    · have ha := hr a (by simp)
      have hb := hr b (by simp)
      have hc := hr c (by simp)
      have hd := hr d (by simp)
      unfold word4; omega
    · exact wordsOf_range r (fun x hx => hr x (by simp [hx])) y h

set_option maxHeartbeats 1600000 in
theorem wordBytes_any (a : Option Addr) (n c : Nat) (xs : List Int) (b : Option Addr) (m d : Nat) (bs : List Int) (w : World) (h : Ints .u32 w a n c xs) (hx : ∀ x ∈ xs, 0 ≤ x ∧ x < 4294967296)
    (g : Ints .u8 w b m d bs) (hbs : ∀ x ∈ bs, 0 ≤ x ∧ x < 256) (hn : n ≤ 500) (hm : m ≤ 2000) :
    Calls Try.prog 4 #[.slice a n c, .slice b m d] w fun e w' => e = .returned (.bool true) ∧ Below w.heap.size w w' := by
  have hl := Lib.hid h.len
  have gl := Lib.hid g.len
  have HI := Lib.hid h.isIn
  have GI := Lib.hid g.isIn
  go_enter Try.func4, Try.ntmps4
  go_wp2_with fail
  refine (bytes_any _ _ _ xs _ h hx (by omega)).mono ?_; rintro e w1 ⟨b1, m1, c1, rfl, X1, hb1⟩
  have m1e := X1.len
  rw [bytesOf_length, hl.out] at m1e
  have X1I := Lib.hid X1.isIn
  go_wp2_with fail
  refine (words_yes _ _ _ (bytesOf xs) _ X1 (bytesOf_range xs hx) (by omega) (by omega)).mono ?_; rintro e w2 ⟨b2, m2, c2, rfl, Y2, hb2⟩
  rw [wordsOf_bytesOf xs hx] at Y2
  have m2e := Y2.len
  rw [hl.out] at m2e
  subst m2e
  have m1h := Lib.hid m1e; clear m1e
  have hb12 : Below w.heap.size w w2 := hb1.trans (hb2.mono hb1.size)
  have XF := Lib.hid (fun (w' : World) (hw : Below w2.heap.size w2 w') => ((X1I.out.keep (hb2.trans (hw.mono hb2.size))).1.string (P := Try.prog) 27 9 5 Try.underlying27 Try.underlying5 Try.underlying9))
  have YF := Lib.hid (fun (w' : World) (hw : Below w2.heap.size w2 w') => (Y2.isIn.keep hw).1)
  have LF := Lib.hid (fun (w' : World) (hw : Below w2.heap.size w2 w') => (HI.out.keep (hb12.trans (hw.mono hb12.size))).1)
  have GF := Lib.hid (fun (w' : World) (hw : Below w2.heap.size w2 w') => (GI.out.keep (hb12.trans (hw.mono hb12.size))).1)
  clear X1 Y2 h g HI GI X1I hb1 hb2
  have hd2 : Below w2.heap.size w2 w2.drew := (Below.refl _ _).drew
  go_wp2_with fail
  refine region_seq (by kernel_rfl) ?_
  simp only [pairs, Nat.reduceAdd]
  repeat (first
    | (refine Seq.take (v := ?_) (by kernel_rfl) (by decide +kernel) (by decide +kernel) (Or.inl ⟨by rfl, ?_⟩) ?_
       rotate_left
       focus
         intro w' hb'
         go_simp
         with_reducible rfl
       simp only [Act.put, List.setIfInBounds_toArray, List.set_cons_zero, List.set_cons_succ])
    | (refine Seq.take (v := ?_) (by kernel_rfl) (by decide +kernel) (by decide +kernel) (Or.inl ⟨by rfl, ?_⟩) ?_
       rotate_left
       focus
         intro w' hb'
         have := XF.out w' (chain (by assumption) hb')
         go_simp
         with_reducible rfl
       simp only [Act.put, List.setIfInBounds_toArray, List.set_cons_zero, List.set_cons_succ])
    | (refine Seq.take (v := ?_) (by kernel_rfl) (by decide +kernel) (by decide +kernel) (Or.inl ⟨by rfl, ?_⟩) ?_
       rotate_left
       focus
         intro w' hb'
         have := X3.string' (P := Try.prog) 27 9 5 Try.underlying27 Try.underlying5 Try.underlying9 hb'
         go_simp
         with_reducible rfl
       simp only [Act.put, List.setIfInBounds_toArray, List.set_cons_zero, List.set_cons_succ])
    | (refine Seq.take (v := undef) (by kernel_rfl) (by decide +kernel) (by decide +kernel) (Or.inr ⟨by rfl, rfl⟩) ?_
       simp only [Act.put, List.setIfInBounds_toArray, List.set_cons_zero, List.set_cons_succ])
    | (refine Seq.take1 (v := ?_) (by kernel_rfl) (by decide +kernel) (by decide +kernel) (Or.inl ⟨by rfl, ?_⟩) ?_
       rotate_left
       focus
         intro w' hb'
         go_simp
         with_reducible rfl
       simp only [Act.put, List.setIfInBounds_toArray, List.set_cons_zero, List.set_cons_succ])
    | (refine Seq.take1 (v := ?_) (by kernel_rfl) (by decide +kernel) (by decide +kernel) (Or.inl ⟨by rfl, ?_⟩) ?_
       rotate_left
       focus
         intro w' hb'
         have := XF.out w' (chain (by assumption) hb')
         go_simp
         with_reducible rfl
       simp only [Act.put, List.setIfInBounds_toArray, List.set_cons_zero, List.set_cons_succ])
    | (refine Seq.take1 (v := ?_) (by kernel_rfl) (by decide +kernel) (by decide +kernel) (Or.inl ⟨by rfl, ?_⟩) ?_
       rotate_left
       focus
         intro w' hb'
         have := X3.string' (P := Try.prog) 27 9 5 Try.underlying27 Try.underlying5 Try.underlying9 hb'
         go_simp
         with_reducible rfl
       simp only [Act.put, List.setIfInBounds_toArray, List.set_cons_zero, List.set_cons_succ])
    | (refine Seq.take1 (v := undef) (by kernel_rfl) (by decide +kernel) (by decide +kernel) (Or.inr ⟨by rfl, rfl⟩) ?_
       simp only [Act.put, List.setIfInBounds_toArray, List.set_cons_zero, List.set_cons_succ])
    | (refine Seq.take2 (v := ?_) (by kernel_rfl) (by decide +kernel) (by decide +kernel) (Or.inl ⟨by rfl, ?_⟩) ?_
       rotate_left
       focus
         intro w' hb'
         go_simp
         with_reducible rfl
       simp only [Act.put, List.setIfInBounds_toArray, List.set_cons_zero, List.set_cons_succ])
    | (refine Seq.take2 (v := ?_) (by kernel_rfl) (by decide +kernel) (by decide +kernel) (Or.inl ⟨by rfl, ?_⟩) ?_
       rotate_left
       focus
         intro w' hb'
         have := XF.out w' (chain (by assumption) hb')
         go_simp
         with_reducible rfl
       simp only [Act.put, List.setIfInBounds_toArray, List.set_cons_zero, List.set_cons_succ])
    | (refine Seq.take2 (v := ?_) (by kernel_rfl) (by decide +kernel) (by decide +kernel) (Or.inl ⟨by rfl, ?_⟩) ?_
       rotate_left
       focus
         intro w' hb'
         have := X3.string' (P := Try.prog) 27 9 5 Try.underlying27 Try.underlying5 Try.underlying9 hb'
         go_simp
         with_reducible rfl
       simp only [Act.put, List.setIfInBounds_toArray, List.set_cons_zero, List.set_cons_succ])
    | (refine Seq.take2 (v := undef) (by kernel_rfl) (by decide +kernel) (by decide +kernel) (Or.inr ⟨by rfl, rfl⟩) ?_
       simp only [Act.put, List.setIfInBounds_toArray, List.set_cons_zero, List.set_cons_succ])
    | (refine Seq.alone (by decide +kernel) (by rfl) (fun K hK => ?_)
       go_simp
       go_at_call 13
       refine (refBytes_any _ _ _ xs _ ?_ hx ?_).mono ?_
       · exact LF.out _ (by assumption)
       · omega
       rintro e w3 ⟨b3, m3, c3, rfl, X3, hb3⟩
       go_simp
       refine hK _ _ (by first | assumption | exact Below.refl _ _) ?_
       clear hK K
       have hq3 := chain (by assumption) hb3
       skip)
    | (refine Seq.alone (by decide +kernel) (by rfl) (fun K hK => ?_)
       go_simp
       go_at_call 14
       refine (same_any _ _ _ xs _ ?_ _ _ ?_ ?_).mono ?_
       · exact YF.out _ (by assumption)
       · exact LF.out _ (by assumption)
       · omega
       rintro e w4 ⟨rfl, hb4⟩
       go_simp
       refine hK _ _ (by first | assumption | exact Below.refl _ _) ?_
       clear hK K
       have hq4 := chain (by assumption) hb4
       skip)
    | (refine Seq.alone (by decide +kernel) (by rfl) (fun K hK => ?_)
       go_simp
       go_at_call 15
       refine (add_any _ _ _ xs _ ?_ ?_).mono ?_
       · exact LF.out _ (by assumption)
       · omega
       rintro e w5 ⟨rfl, rfl⟩
       go_simp
       refine hK _ _ (by first | assumption | exact Below.refl _ _) ?_
       clear hK K
       skip)
    | (refine Seq.alone (by decide +kernel) (by rfl) (fun K hK => ?_)
       go_simp
       go_at_call 16
       refine (refAdd_any _ _ _ xs _ ?_ ?_).mono ?_
       · exact LF.out _ (by assumption)
       · omega
       rintro e w5 ⟨rfl, rfl⟩
       go_simp
       refine hK _ _ (by first | assumption | exact Below.refl _ _) ?_
       clear hK K
       skip))
  refine Seq.done (by decide +kernel) ?_
  by_cases h4 : m % 4 = 0
  · go_wp2_with fail
    refine (words_yes _ _ _ bs _ (GF.out _ hq4) hbs (by omega) h4).mono ?_; rintro e w6 ⟨b6, m6, c6, rfl, Z6, hb6⟩
    have hq6 := chain hq4 hb6
    have m6e := Z6.len
    rw [wordsOf_length, gl.out] at m6e
    have m6b : m6 ≤ 500 := by omega
    clear m6e
    go_wp2_with fail
    refine (refWords_yes _ _ _ bs _ (GF.out _ hq6) hbs (by omega) h4).mono ?_; rintro e w7 ⟨b7, m7, c7, rfl, W7, hb7⟩
    have hq7 := chain hq6 hb7
    have m7e := W7.len.symm.trans Z6.len
    subst m7e
    have ZF := Lib.hid (fun (w' : World) (hw : Below w7.heap.size w7 w') => (Z6.isIn.keep (hb7.trans (hw.mono hb7.size))).1)
    have WF := Lib.hid (fun (w' : World) (hw : Below w7.heap.size w7 w') => (W7.isIn.keep hw).1)
    have GS := Lib.hid (fun (w' : World) (hw : Below w7.heap.size w7 w') => (GF.out w' (chain hq7 hw)).string (P := Try.prog) 27 9 5 Try.underlying27 Try.underlying5 Try.underlying9)
    have ZR := Lib.hid (wordsOf_range bs hbs)
    have ZB := Lib.hid (bytesOf_wordsOf bs (by rw [gl.out]; exact h4) hbs)
    clear Z6 W7
    have hd7 : Below w7.heap.size w7 w7.drew := (Below.refl _ _).drew
    go_wp2_with fail
    refine region_seq (by kernel_rfl) ?_
    simp only [pairs, Nat.reduceAdd]
    repeat (first
      | (refine Seq.take (v := ?_) (by kernel_rfl) (by decide +kernel) (by decide +kernel) (Or.inl ⟨by rfl, ?_⟩) ?_
         rotate_left
         focus
           intro w' hb'
           go_simp
           with_reducible rfl
         simp only [Act.put, List.setIfInBounds_toArray, List.set_cons_zero, List.set_cons_succ])
      | (refine Seq.take (v := ?_) (by kernel_rfl) (by decide +kernel) (by decide +kernel) (Or.inl ⟨by rfl, ?_⟩) ?_
         rotate_left
         focus
           intro w' hb'
           have := GS.out w' (chain (by assumption) hb')
           go_simp
           with_reducible rfl
         simp only [Act.put, List.setIfInBounds_toArray, List.set_cons_zero, List.set_cons_succ])
      | (refine Seq.take (v := ?_) (by kernel_rfl) (by decide +kernel) (by decide +kernel) (Or.inl ⟨by rfl, ?_⟩) ?_
         rotate_left
         focus
           intro w' hb'
           have := Z9.string' (P := Try.prog) 27 9 5 Try.underlying27 Try.underlying5 Try.underlying9 hb'
           go_simp
           with_reducible rfl
         simp only [Act.put, List.setIfInBounds_toArray, List.set_cons_zero, List.set_cons_succ])
      | (refine Seq.take (v := undef) (by kernel_rfl) (by decide +kernel) (by decide +kernel) (Or.inr ⟨by rfl, rfl⟩) ?_
         simp only [Act.put, List.setIfInBounds_toArray, List.set_cons_zero, List.set_cons_succ])
      | (refine Seq.take1 (v := ?_) (by kernel_rfl) (by decide +kernel) (by decide +kernel) (Or.inl ⟨by rfl, ?_⟩) ?_
         rotate_left
         focus
           intro w' hb'
           go_simp
           with_reducible rfl
         simp only [Act.put, List.setIfInBounds_toArray, List.set_cons_zero, List.set_cons_succ])
      | (refine Seq.take1 (v := ?_) (by kernel_rfl) (by decide +kernel) (by decide +kernel) (Or.inl ⟨by rfl, ?_⟩) ?_
         rotate_left
         focus
           intro w' hb'
           have := GS.out w' (chain (by assumption) hb')
           go_simp
           with_reducible rfl
         simp only [Act.put, List.setIfInBounds_toArray, List.set_cons_zero, List.set_cons_succ])
      | (refine Seq.take1 (v := ?_) (by kernel_rfl) (by decide +kernel) (by decide +kernel) (Or.inl ⟨by rfl, ?_⟩) ?_
         rotate_left
         focus
           intro w' hb'
           have := Z9.string' (P := Try.prog) 27 9 5 Try.underlying27 Try.underlying5 Try.underlying9 hb'
           go_simp
           with_reducible rfl
         simp only [Act.put, List.setIfInBounds_toArray, List.set_cons_zero, List.set_cons_succ])
      | (refine Seq.take1 (v := undef) (by kernel_rfl) (by decide +kernel) (by decide +kernel) (Or.inr ⟨by rfl, rfl⟩) ?_
         simp only [Act.put, List.setIfInBounds_toArray, List.set_cons_zero, List.set_cons_succ])
      | (refine Seq.take2 (v := ?_) (by kernel_rfl) (by decide +kernel) (by decide +kernel) (Or.inl ⟨by rfl, ?_⟩) ?_
         rotate_left
         focus
           intro w' hb'
           go_simp
           with_reducible rfl
         simp only [Act.put, List.setIfInBounds_toArray, List.set_cons_zero, List.set_cons_succ])
      | (refine Seq.take2 (v := ?_) (by kernel_rfl) (by decide +kernel) (by decide +kernel) (Or.inl ⟨by rfl, ?_⟩) ?_
         rotate_left
         focus
           intro w' hb'
           have := GS.out w' (chain (by assumption) hb')
           go_simp
           with_reducible rfl
         simp only [Act.put, List.setIfInBounds_toArray, List.set_cons_zero, List.set_cons_succ])
      | (refine Seq.take2 (v := ?_) (by kernel_rfl) (by decide +kernel) (by decide +kernel) (Or.inl ⟨by rfl, ?_⟩) ?_
         rotate_left
         focus
           intro w' hb'
           have := Z9.string' (P := Try.prog) 27 9 5 Try.underlying27 Try.underlying5 Try.underlying9 hb'
           go_simp
           with_reducible rfl
         simp only [Act.put, List.setIfInBounds_toArray, List.set_cons_zero, List.set_cons_succ])
      | (refine Seq.take2 (v := undef) (by kernel_rfl) (by decide +kernel) (by decide +kernel) (Or.inr ⟨by rfl, rfl⟩) ?_
         simp only [Act.put, List.setIfInBounds_toArray, List.set_cons_zero, List.set_cons_succ])
      | (refine Seq.alone (by decide +kernel) (by rfl) (fun K hK => ?_)
         go_simp
         go_at_call 14
         refine (same_any _ _ _ (wordsOf bs) _ ?_ _ _ ?_ ?_).mono ?_
         · exact ZF.out _ (by assumption)
         · exact WF.out _ (by assumption)
         · omega
         rintro e w8 ⟨rfl, hb8⟩
         go_simp
         refine hK _ _ (by first | assumption | exact Below.refl _ _) ?_
         clear hK K
         have hq8 := chain (by assumption) hb8
         skip)
      | (refine Seq.alone (by decide +kernel) (by rfl) (fun K hK => ?_)
         go_simp
         go_at_call 11
         refine (bytes_any _ _ _ (wordsOf bs) _ ?_ ZR.out ?_).mono ?_
         · exact ZF.out _ (by assumption)
         · omega
         rintro e w9 ⟨b9, m9, c9, rfl, Z9, hb9⟩
         go_simp
         refine hK _ _ (by first | assumption | exact Below.refl _ _) ?_
         clear hK K
         have hq9 := chain (by assumption) hb9
         rw [ZB.out] at Z9
         skip)
      | (refine Seq.alone (by decide +kernel) (by rfl) (fun K hK => ?_)
         go_simp
         go_at_call 10
         refine (alive_any _).mono ?_
         rintro e w10 ⟨rfl, hb10⟩
         go_simp
         refine hK _ _ (by first | assumption | exact Below.refl _ _) ?_
         clear hK K
         have hq10 := chain (by assumption) hb10
         skip))
    refine Seq.done (by decide +kernel) ?_
    go_wp2
    go_ret
    exact ⟨rfl, hb12.trans ((chain hq7 hq10).mono hb12.size)⟩
  · go_wp2_with fail
    refine (words_no _ _ _ _ (by omega) h4).mono ?_; rintro e w6 ⟨rfl, rfl⟩
    go_wp2_with fail
    refine (refWords_no _ _ _ _ (by omega) h4).mono ?_; rintro e w7 ⟨rfl, rfl⟩
    have hd7 := (hq4).drew
    go_wp2_with fail
    refine region_seq (by kernel_rfl) ?_
    simp only [pairs, Nat.reduceAdd]
    repeat (first
      | (refine Seq.take (v := ?_) (by kernel_rfl) (by decide +kernel) (by decide +kernel) (Or.inl ⟨by rfl, ?_⟩) ?_
         rotate_left
         focus
           intro w' hb'
           go_simp
           with_reducible rfl
         simp only [Act.put, List.setIfInBounds_toArray, List.set_cons_zero, List.set_cons_succ])
      | (refine Seq.take (v := undef) (by kernel_rfl) (by decide +kernel) (by decide +kernel) (Or.inr ⟨by rfl, rfl⟩) ?_
         simp only [Act.put, List.setIfInBounds_toArray, List.set_cons_zero, List.set_cons_succ])
      | (refine Seq.take1 (v := ?_) (by kernel_rfl) (by decide +kernel) (by decide +kernel) (Or.inl ⟨by rfl, ?_⟩) ?_
         rotate_left
         focus
           intro w' hb'
           go_simp
           with_reducible rfl
         simp only [Act.put, List.setIfInBounds_toArray, List.set_cons_zero, List.set_cons_succ])
      | (refine Seq.take1 (v := undef) (by kernel_rfl) (by decide +kernel) (by decide +kernel) (Or.inr ⟨by rfl, rfl⟩) ?_
         simp only [Act.put, List.setIfInBounds_toArray, List.set_cons_zero, List.set_cons_succ])
      | (refine Seq.take2 (v := ?_) (by kernel_rfl) (by decide +kernel) (by decide +kernel) (Or.inl ⟨by rfl, ?_⟩) ?_
         rotate_left
         focus
           intro w' hb'
           go_simp
           with_reducible rfl
         simp only [Act.put, List.setIfInBounds_toArray, List.set_cons_zero, List.set_cons_succ])
      | (refine Seq.take2 (v := undef) (by kernel_rfl) (by decide +kernel) (by decide +kernel) (Or.inr ⟨by rfl, rfl⟩) ?_
         simp only [Act.put, List.setIfInBounds_toArray, List.set_cons_zero, List.set_cons_succ])
      | (refine Seq.alone (by decide +kernel) (by rfl) (fun K hK => ?_)
         go_simp
         go_at_call 14
         refine (same_any none 0 0 [] _ (ints_nil _ _) none 0 (ints_nil _ _) (by decide)).mono ?_
         rintro e w8 ⟨rfl, hb8⟩
         go_simp
         refine hK _ _ (by first | assumption | exact Below.refl _ _) ?_
         clear hK K
         have hq8 := chain (by assumption) hb8
         skip)
      | (refine Seq.alone (by decide +kernel) (by rfl) (fun K hK => ?_)
         go_simp
         go_at_call 10
         refine (alive_any _).mono ?_
         rintro e w10 ⟨rfl, hb10⟩
         go_simp
         refine hK _ _ (by first | assumption | exact Below.refl _ _) ?_
         clear hK K
         have hq10 := chain (by assumption) hb10
         skip))
    refine Seq.done (by decide +kernel) ?_
    go_wp2
    go_ret
    exact ⟨rfl, hb12.trans (hq10.mono hb12.size)⟩
end Go.Proofs.Ytbaacgoflmifkaa
