/-
  Texts of stages that were proved on their own, joined: KcLawC, KcLw. Each begins with its own words.
-/
import Derived.Test.YtaaflnmdaplfkaaJKcAll26
import Derived.Test.YtaaflnmdaplfkaaJKcAll23
import Derived.Test.YtaaflnmdaplfkaaJKcAll6

/-
  The law RecordCopies, by what the program's records and the document's own come to. New memory alone is written. Conditions: the fields' ranges.
-/
namespace Go.Proofs.Ytaaflnmdaplfkaa
open Go.RowKit

theorem Bys.keep17 {w w' : World} {a : Option Addr} {n c : Nat} (h : Bys w a n c) (hb : Below w.heap.size w w') : Bys w' a n c := by
  refine ⟨h.1, ?_⟩
  rcases h.2 with h0 | ⟨g, cs, ha, hk, hv⟩
  · exact .inl h0
  · exact .inr ⟨g, cs, ha, hk.keep hb hk.lt, hv⟩
theorem Bym.moved {F : Nat → Prop} {w w' : World} {a : Option Addr} {n c : Nat} (h : Bym w a n c) (hm : Moved F w w') (hF : ∀ b, Atm a n b → ¬ F b) : Bym w' a n c := by
  refine ⟨h.1, ?_⟩
  rcases h.2 with h0 | ⟨g, cs, ha, hk, hv⟩
  · exact .inl h0
  · by_cases h0 : n = 0
    · exact .inl h0
    · exact .inr ⟨g, cs, ha, (hm.2 g hk.lt (hF g ⟨Nat.pos_of_ne_zero h0, _, ha, rfl⟩)).trans hk, hv⟩
theorem RecAt.moved {F : Nat → Prop} {w w' : World} {r : RecV} {a b : Option Addr} {c d : Nat} (h : RecAt w r a c b d) (hm : Moved F w w') (h1 : ∀ x, a = some x → 0 < r.m.blob.length → ¬ F x.block) (h2 : ∀ x, b = some x → 0 < r.b.n → ¬ F x.block) : RecAt w' r a c b d :=
  ⟨ints_still' h.1 hm h1, ids_stay h.2 hm h2⟩

set_option maxRecDepth 100000 in
set_option maxHeartbeats 4000000 in
theorem kcCopies_few (r s : RecV) (a b a' b' : Option Addr) (c d c' d' : Nat) (w : World) (hM : RecOk r) (hM' : RecOk s) (h0 : ¬ ((r.m.blob.length ≤ 2000 ∧ r.b.n ≤ 100) ∧ (s.m.blob.length ≤ 2000 ∧ s.b.n ≤ 100))) :
    Calls Try.prog 5 #[.agg (rC r a c b d).toArray, .agg (rC s a' c' b' d').toArray] w fun q w' => q = .returned (.bool true) ∧ Below w.heap.size w w' := by
  have hCl := rC_len hM a c b d
  have hDl := rC_len hM' a' c' b' d'
  have fw1 := fun w' => r17Few_any r a b c d w' hM
  have fw2 := fun w' => r17Few_any s a' b' c' d' w' hM'
  obtain ⟨C, hC⟩ : ∃ C, rC r a c b d = C := ⟨_, rfl⟩
  obtain ⟨D, hD⟩ : ∃ C, rC s a' c' b' d' = C := ⟨_, rfl⟩
  rw [hC] at hCl fw1
  rw [hD] at hDl fw2
  have hb := below2 w (.cells C.toArray 33) (.cells D.toArray 33)
  have hk : Blk ((w.alloc (.cells C.toArray 33)).alloc (.cells D.toArray 33)) w.heap.size 33 C := (Blk.new w _ C).alloc _
  have hk2 : Blk ((w.alloc (.cells C.toArray 33)).alloc (.cells D.toArray 33)) (w.heap.size + 1) 33 D := Blk.new1 w _ _ _
  obtain ⟨V, hV⟩ : ∃ V, (w.alloc (.cells C.toArray 33)).alloc (.cells D.toArray 33) = V := ⟨_, rfl⟩
  rw [hV] at hb hk hk2
  obtain ⟨G, g9⟩ : ∃ G, w.heap.size = G := ⟨_, rfl⟩
  rw [g9] at hk hk2
  rw [hC, hD]
  by_cases h1 : r.m.blob.length ≤ 2000 ∧ r.b.n ≤ 100
  · rw [decide_eq_true h1.1, decide_eq_true h1.2, Bool.true_and] at fw1
    have hfew : (decide (s.m.blob.length ≤ 2000) && decide (s.b.n ≤ 100)) = false := by
      rw [← Bool.not_eq_true, Bool.and_eq_true, decide_eq_true_eq, decide_eq_true_eq]
      exact fun h => h0 ⟨h1, h⟩
    rw [hfew] at fw2
    have fw1 := Lib.hid fw1
    have fw2 := Lib.hid fw2
    clear hM hM' h0 h1 hfew hC hD
    go_enter Try.func5, Try.ntmps5
    go_wp2_with (first
      | ((with_reducible refine box_row rfl 33 (.tmp 0) rfl C ?_ ?_); rfl)
      | ((with_reducible refine box_row rfl 33 (.tmp 1) rfl D ?_ ?_); rfl; refine RowKit.Hid.out ?_))
    refine Lib.hid ?_
    clear hV
    go_wp2_with ((with_reducible refine wpList_load_blk rfl 33 (.tmp 2) rfl ?_ hk rowRc hCl ?_); rfl)
    refine (fw1.out V).mono ?_
    rintro q w1 ⟨rfl, b1⟩
    have hk := hk.keep b1 hk.lt
    have hk2 := hk2.keep b1 hk2.lt
    have hb := hb.trans (b1.mono hb.size)
    clear fw1 b1
    go_wp2_with ((with_reducible refine load_if rfl 33 (.tmp 3) rfl ?_ hk2 rowRc hDl ?_); rfl)
    refine (fw2.out w1).mono ?_
    rintro q w2 ⟨rfl, b2⟩
    have hk := hk.keep b2 hk.lt
    have hk2 := hk2.keep b2 hk2.lt
    have hb := hb.trans (b2.mono hb.size)
    clear fw2 b2
    go_wp2_with fail
    refine (alive17_any _).mono ?_
    rintro q w9 ⟨rfl, b9⟩
    go_wp2
    go_ret
    exact ⟨by first | rfl | simp, by first | exact hb.trans (b9.mono hb.size) | (rw [← g9]; exact hb.trans (b9.mono hb.size))⟩
  · have hfew : (decide (r.m.blob.length ≤ 2000) && decide (r.b.n ≤ 100)) = false := by
      rw [← Bool.not_eq_true, Bool.and_eq_true, decide_eq_true_eq, decide_eq_true_eq]
      exact h1
    rw [hfew] at fw1
    have fw1 := Lib.hid fw1
    clear fw2 hM hM' h0 h1 hfew hC hD
    go_enter Try.func5, Try.ntmps5
    go_wp2_with (first
      | ((with_reducible refine box_row rfl 33 (.tmp 0) rfl C ?_ ?_); rfl)
      | ((with_reducible refine box_row rfl 33 (.tmp 1) rfl D ?_ ?_); rfl; refine RowKit.Hid.out ?_))
    refine Lib.hid ?_
    clear hV
    go_wp2_with ((with_reducible refine wpList_load_blk rfl 33 (.tmp 2) rfl ?_ hk rowRc hCl ?_); rfl)
    refine (fw1.out V).mono ?_
    rintro q w1 ⟨rfl, b1⟩
    have hk := hk.keep b1 hk.lt
    have hk2 := hk2.keep b1 hk2.lt
    have hb := hb.trans (b1.mono hb.size)
    clear fw1 b1
    go_wp2_with fail
    refine (alive17_any _).mono ?_
    rintro q w9 ⟨rfl, b9⟩
    go_wp2
    go_ret
    exact ⟨by first | rfl | simp, by first | exact hb.trans (b9.mono hb.size) | (rw [← g9]; exact hb.trans (b9.mono hb.size))⟩

set_option maxRecDepth 100000 in
set_option maxHeartbeats 8000000 in
theorem kcCopies_ok (r s : RecV) (a b a' b' : Option Addr) (c d c' d' : Nat) (w : World) (hM : RecOk r) (hM' : RecOk s) (hI : RecAt w r a c b d) (hJ : RecAt w s a' c' b' d') (h1 : r.m.blob.length ≤ 2000 ∧ r.b.n ≤ 100) (h2 : s.m.blob.length ≤ 2000 ∧ s.b.n ≤ 100) :
    Calls Try.prog 5 #[.agg (rC r a c b d).toArray, .agg (rC s a' c' b' d').toArray] w fun q w' => q = .returned (.bool true) ∧ Below w.heap.size w w' := by
  have t9 := fun w' (h : Below w.heap.size w w') => kcCopy_any r a b c d w' hM (hI.keep h) (by omega) (by omega)
  have u1 := fun w' (h : Below w.heap.size w w') => kcSame_any r s a b a' b' c d c' d' w' hM hM' (hI.keep h) (hJ.keep h) (by omega)
  have u2 := fun w' (h : Below w.heap.size w w') => r17Same_any r s a b a' b' c d c' d' w' hM hM' (hI.keep h) (hJ.keep h) (by omega)
  have u3 := fun w' a1 c1 b1 d1 (h : Below w.heap.size w w') (hB : RecAt w' r a1 c1 b1 d1) => kcSame_any r r a b a1 b1 c d c1 d1 w' hM hM (hI.keep h) hB (by omega)
  have u4 := fun w' a1 c1 b1 d1 (h : Below w.heap.size w w') (hB : RecAt w' r a1 c1 b1 d1) => r17Same_any r r a b a1 b1 c d c1 d1 w' hM hM (hI.keep h) hB (by omega)
  rw [sameRec_self] at u3 u4
  obtain ⟨T3, hT3⟩ : ∃ B, sameRec r s = B := ⟨_, rfl⟩
  rw [hT3] at u1 u2
  have z3 : (T3 != T3) = false := by cases T3 <;> rfl
  obtain ⟨E, hEe⟩ : ∃ E : Option Addr → Nat → Option Addr → Nat → List Value, ∀ a c b d, rC r a c b d = E a c b d := ⟨_, fun _ _ _ _ => rfl⟩
  have hEl := Lib.hid (fun a c b d => show (E a c b d).length = 86 by rw [← hEe]; exact rC_len hM _ _ _ _)
  have hE1 := Lib.hid (fun a c b d => show ∀ v ∈ E a c b d, v.oneCell' = true by rw [← hEe]; exact rC_one _ _ _ _ _)
  obtain ⟨n, hnx⟩ : ∃ n, r.m.blob.length = n := ⟨_, rfl⟩
  obtain ⟨m, hmx⟩ : ∃ n, r.b.n = n := ⟨_, rfl⟩
  have f5 := Lib.hid (fun w' g a c b d (h : Blk w' g 33 (E a c b d)) => show w'.cell? ⟨g, 20, none⟩ = some (.slice a n c) by rw [← hEe] at h; rw [← hnx]; exact rc5 h hM.1.hl)
  have f8 := Lib.hid (fun w' g a c b d (h : Blk w' g 33 (E a c b d)) => show w'.cell? ⟨g, 85, none⟩ = some (.slice b m d) by rw [← hEe] at h; rw [← hmx]; exact rc8 h hM.1.hl hM.2.1 hM.2.2.1)
  have cp := fun w' (h : Below w.heap.size w w') => show Calls Try.prog 15 #[.agg (rC r a c b d).toArray] w' fun q w'' => ∃ a1 c1 b1 d1, q = .returned (.agg (E a1 c1 b1 d1).toArray) ∧ RecAt w'' r a1 c1 b1 d1 ∧ Bys w'' a1 n c1 ∧ Bym w'' b1 m d1 ∧ (∀ x, a1 = some x → w'.heap.size ≤ x.block ∧ x.block < w''.heap.size) ∧ (∀ x, b1 = some x → w'.heap.size ≤ x.block ∧ x.block < w''.heap.size) ∧ (∀ x y, a1 = some x → b1 = some y → x.block < y.block) ∧ Below w'.heap.size w' w'' by
    refine (t9 w' h).mono fun q w'' ⟨a1, c1, b1, d1, hq, ho, ho', hs, hb⟩ => ⟨a1, c1, b1, d1, by rw [hq, hEe], ⟨?_, IdsAt.of_owns ho'⟩, by rw [← hnx]; exact Bys.of_owns ho, by rw [← hmx]; exact Bym.of_owns ho', fun x hx => ho.lt x.block (by rw [hx]; rfl), fun x hx => ho'.lt x.block (by rw [hx]; rfl), hs, hb⟩
    obtain ⟨a3, c3, hv, hi⟩ := Ints.of_owns ho
    injection hv with e1 _ e2
    subst e1; subst e2
    exact hi
  have hCl := rC_len hM a c b d
  have hDl := rC_len hM' a' c' b' d'
  have fw1 := fun w' => r17Few_any r a b c d w' hM
  have fw2 := fun w' => r17Few_any s a' b' c' d' w' hM'
  obtain ⟨C, hC⟩ : ∃ C, rC r a c b d = C := ⟨_, rfl⟩
  obtain ⟨D, hD⟩ : ∃ C, rC s a' c' b' d' = C := ⟨_, rfl⟩
  rw [hC] at hCl fw1
  rw [hD] at hDl fw2
  have hb := below2 w (.cells C.toArray 33) (.cells D.toArray 33)
  have hk : Blk ((w.alloc (.cells C.toArray 33)).alloc (.cells D.toArray 33)) w.heap.size 33 C := (Blk.new w _ C).alloc _
  have hk2 : Blk ((w.alloc (.cells C.toArray 33)).alloc (.cells D.toArray 33)) (w.heap.size + 1) 33 D := Blk.new1 w _ _ _
  obtain ⟨V, hV⟩ : ∃ V, (w.alloc (.cells C.toArray 33)).alloc (.cells D.toArray 33) = V := ⟨_, rfl⟩
  rw [hV] at hb hk hk2
  obtain ⟨G, g9⟩ : ∃ G, w.heap.size = G := ⟨_, rfl⟩
  rw [g9] at hk hk2
  rw [decide_eq_true h1.1, decide_eq_true h1.2, Bool.true_and] at fw1
  rw [decide_eq_true h2.1, decide_eq_true h2.2, Bool.true_and] at fw2
  rw [hC] at cp u1 u2 u3 u4
  rw [hD] at u1 u2
  rw [hC, hD]
  simp only [hEe] at u3 u4
  have hrC : IsRow Try.prog 33 C.length := rowRc_of hCl
  have hrD : IsRow Try.prog 33 D.length := rowRc_of hDl
  obtain ⟨Z, hZ⟩ : ∃ Z, rC noRec none 0 none 0 = Z := ⟨_, rfl⟩
  have hZ0 : Zero Try.prog 33 Z := by rw [← hZ]; exact zeroRc
  have hZl : Z.length = 86 := by rw [← hZ]; exact rC_len noRec_ok _ _ _ _
  have fw1 := Lib.hid fw1
  have fw2 := Lib.hid fw2
  have cpH := Lib.hid cp
  have u1H := Lib.hid u1
  have u2H := Lib.hid u2
  have u3H := Lib.hid u3
  have u4H := Lib.hid u4
  have hnmH := Lib.hid (And.intro hnx hmx)
  have hnm1 : (n : Int) ≤ 2000 := by omega
  have hnm2 : (m : Int) ≤ 100 := by omega
  clear t9 u1 u2 u3 u4 cp hM hM' hI hJ h1 h2 hT3 hEe hnx hmx hC hD hZ
  go_enter Try.func5, Try.ntmps5
  go_wp2_with (first
    | ((with_reducible refine box_row rfl 33 (.tmp 0) rfl C ?_ ?_); rfl)
    | ((with_reducible refine box_row rfl 33 (.tmp 1) rfl D ?_ ?_); rfl; refine RowKit.Hid.out ?_))
  refine Lib.hid ?_
  clear hV
  go_wp2_with ((with_reducible refine wpList_load_blk rfl 33 (.tmp 2) rfl ?_ hk rowRc hCl ?_); rfl)
  refine (fw1.out V).mono ?_
  rintro q w1 ⟨rfl, b1⟩
  have hk := hk.keep b1 hk.lt
  have hk2 := hk2.keep b1 hk2.lt
  have hb := hb.trans (b1.mono hb.size)
  clear fw1 b1
  go_wp2_with ((with_reducible refine load_if rfl 33 (.tmp 3) rfl ?_ hk2 rowRc hDl ?_); rfl)
  refine (fw2.out w1).mono ?_
  rintro q w2 ⟨rfl, b2⟩
  have hk := hk.keep b2 hk.lt
  have hk2 := hk2.keep b2 hk2.lt
  have hb := hb.trans (b2.mono hb.size)
  clear fw2 b2
  -- the first copy
  have gH := Lib.hid g9
  clear g9
  go_wp2_with ((with_reducible refine wpList_load_blk rfl 33 (.tmp 2) rfl ?_ hk rowRc hCl ?_); rfl)
  refine (cpH.out w2 hb).mono ?_
  rintro q w6 ⟨a1, c1, b1, d1, rfl, hT6, hBs6, hBm6, hla6, hlb6, hsep6, b6⟩
  have hG6 := hk.keep b6 hk.lt
  have hD6 := hk2.keep b6 hk2.lt
  have B6 := hb.trans (b6.mono hb.size)
  have lG := hk.lt
  have lD := hk2.lt
  have lw := hb.size
  have hlE := hEl.out a1 c1 b1 d1
  have hoE := hE1.out a1 c1 b1 d1
  obtain ⟨C1, hC1⟩ : ∃ C, E a1 c1 b1 d1 = C := ⟨_, rfl⟩
  rw [hC1] at hlE hoE
  have hC1H := Lib.hid hC1
  clear hk hk2 hb b6
  go_wp2_with ((with_reducible refine wpList_alloc_blk rfl 33 rfl hZ0 ?_); refine RowKit.Hid.out ?_)
  refine Lib.hid ?_
  try simp only [Act.put, List.setIfInBounds_toArray, List.set_cons_zero, List.set_cons_succ]
  try simp only [hC1]
  have hGA := hG6.alloc (.cells Z.toArray 33)
  have hDA := hD6.alloc (.cells Z.toArray 33)
  have hNA := Blk.new w6 33 Z
  have bA := below1 w6 (.cells Z.toArray 33)
  have hTA := hT6.keep bA
  have BA := B6.trans (bA.mono B6.size)
  have hBsA := hBs6.keep17 bA
  have hBmA := hBm6.keep bA
  have l7 := hG6.lt
  have l8 := hD6.lt
  have l9 := B6.size
  obtain ⟨N, hN⟩ : ∃ N, w6.heap.size = N := ⟨_, rfl⟩
  rw [hN] at hNA l7 l8 l9 hla6 hlb6 ⊢
  obtain ⟨U6, hU6⟩ : ∃ W, w6.alloc (.cells Z.toArray 33) = W := ⟨_, rfl⟩
  rw [hU6] at hGA hDA hNA hTA BA hBsA hBmA ⊢
  clear hG6 hD6 hT6 B6 hBs6 hBm6 bA hN hU6 hC1
  refine store_row rfl 33 (.tmp 5) (.tmp 19) rfl rfl rfl hNA rowRc hlE hZl hoE ?_
  intro w7 hN7 hg7
  have hG7 := hGA.grown hg7 (fun e => by injection e with e; omega)
  have hD7 := hDA.grown hg7 (fun e => by injection e with e; omega)
  have hT7 := hTA.far hg7 (fun x hx _ => by have := hla6 x hx; omega) (fun x hx _ => by have := hlb6 x hx; omega)
  have hBs7 := hBsA.grown hg7 (fun q hq e => by injection e with e; obtain ⟨_, y, hy, hyq⟩ := hq; have := hla6 y hy; omega)
  have hBm7 := hBmA.grown hg7 (fun q hq e => by injection e with e; obtain ⟨_, y, hy, hyq⟩ := hq; have := hlb6 y hy; omega)
  have B7 := BA.grown hg7 BA.size (fun q hq => by injection hq with hq; omega)
  clear hGA hDA hNA hTA BA hBsA hBmA hg7
  go_wp2_with fail
  have b3 : Below w7.heap.size w7 w7.drew := (Below.refl _ _).drew
  have LC := Lib.hid (fun w' (h : Below w7.heap.size w7 w') => hG7.keep h hG7.lt)
  have LD := Lib.hid (fun w' (h : Below w7.heap.size w7 w') => hD7.keep h hD7.lt)
  have LE := Lib.hid (fun w' (h : Below w7.heap.size w7 w') => hN7.keep h hN7.lt)
  have hrE : IsRow Try.prog 33 C1.length := rowRc_of hlE
  have q1 := Lib.hid (fun w' (h : Below w7.heap.size w7 w') => u1H.out w' (B7.trans (h.mono B7.size)))
  have q2 := Lib.hid (fun w' (h : Below w7.heap.size w7 w') => u2H.out w' (B7.trans (h.mono B7.size)))
  have q3 := Lib.hid (fun w' (h : Below w7.heap.size w7 w') => u3H.out w' a1 c1 b1 d1 (B7.trans (h.mono B7.size)) (hT7.keep h))
  have q4 := Lib.hid (fun w' (h : Below w7.heap.size w7 w') => u4H.out w' a1 c1 b1 d1 (B7.trans (h.mono B7.size)) (hT7.keep h))
  rw [hC1H.out] at q3 q4
  have H7 := Lib.hid (And.intro hG7 (And.intro hN7 (And.intro hBs7 (And.intro hBm7 B7))))
  clear u1H u2H u3H hT7 hG7 hD7 hN7 hBs7 hBm7 B7
  refine region_seqS (fun w' => Below w7.heap.size w7 w') (by kernel_rfl) b3 ?_
  simp only [pairs, Nat.reduceAdd]
  repeat (first
    | (refine SeqS.take (v := .agg (C).toArray) (by first | assumption | trivial) (by kernel_rfl) (by decide +kernel) (by decide +kernel) (yields_blk (by rfl) 33 (.tmp 2) rfl rfl (fun w' h => LC.out w' h) (hrC)) ?_
       simp only [Act.put, List.setIfInBounds_toArray, List.set_cons_zero, List.set_cons_succ])
    | (refine SeqS.take (v := .agg (D).toArray) (by first | assumption | trivial) (by kernel_rfl) (by decide +kernel) (by decide +kernel) (yields_blk (by rfl) 33 (.tmp 3) rfl rfl (fun w' h => LD.out w' h) (hrD)) ?_
       simp only [Act.put, List.setIfInBounds_toArray, List.set_cons_zero, List.set_cons_succ])
    | (refine SeqS.take (v := ?_) (by first | assumption | trivial) (by kernel_rfl) (by decide +kernel) (by decide +kernel) (Or.inl ⟨by rfl, ?_⟩) ?_
       rotate_left
       focus
         intro w' hb'
         go_simp
         with_reducible rfl
       simp only [Act.put, List.setIfInBounds_toArray, List.set_cons_zero, List.set_cons_succ])
    | (refine SeqS.take (v := undef) (by first | assumption | trivial) (by kernel_rfl) (by decide +kernel) (by decide +kernel) (Or.inr ⟨by rfl, rfl⟩) ?_
       simp only [Act.put, List.setIfInBounds_toArray, List.set_cons_zero, List.set_cons_succ])
    | (refine SeqS.take1 (v := .agg (C).toArray) (by first | assumption | trivial) (by kernel_rfl) (by decide +kernel) (by decide +kernel) (yields_blk (by rfl) 33 (.tmp 2) rfl rfl (fun w' h => LC.out w' h) (hrC)) ?_
       simp only [Act.put, List.setIfInBounds_toArray, List.set_cons_zero, List.set_cons_succ])
    | (refine SeqS.take1 (v := .agg (D).toArray) (by first | assumption | trivial) (by kernel_rfl) (by decide +kernel) (by decide +kernel) (yields_blk (by rfl) 33 (.tmp 3) rfl rfl (fun w' h => LD.out w' h) (hrD)) ?_
       simp only [Act.put, List.setIfInBounds_toArray, List.set_cons_zero, List.set_cons_succ])
    | (refine SeqS.take1 (v := ?_) (by first | assumption | trivial) (by kernel_rfl) (by decide +kernel) (by decide +kernel) (Or.inl ⟨by rfl, ?_⟩) ?_
       rotate_left
       focus
         intro w' hb'
         go_simp
         with_reducible rfl
       simp only [Act.put, List.setIfInBounds_toArray, List.set_cons_zero, List.set_cons_succ])
    | (refine SeqS.take1 (v := undef) (by first | assumption | trivial) (by kernel_rfl) (by decide +kernel) (by decide +kernel) (Or.inr ⟨by rfl, rfl⟩) ?_
       simp only [Act.put, List.setIfInBounds_toArray, List.set_cons_zero, List.set_cons_succ])
    | (refine SeqS.take2 (v := .agg (C).toArray) (by first | assumption | trivial) (by kernel_rfl) (by decide +kernel) (by decide +kernel) (yields_blk (by rfl) 33 (.tmp 2) rfl rfl (fun w' h => LC.out w' h) (hrC)) ?_
       simp only [Act.put, List.setIfInBounds_toArray, List.set_cons_zero, List.set_cons_succ])
    | (refine SeqS.take2 (v := .agg (D).toArray) (by first | assumption | trivial) (by kernel_rfl) (by decide +kernel) (by decide +kernel) (yields_blk (by rfl) 33 (.tmp 3) rfl rfl (fun w' h => LD.out w' h) (hrD)) ?_
       simp only [Act.put, List.setIfInBounds_toArray, List.set_cons_zero, List.set_cons_succ])
    | (refine SeqS.take2 (v := ?_) (by first | assumption | trivial) (by kernel_rfl) (by decide +kernel) (by decide +kernel) (Or.inl ⟨by rfl, ?_⟩) ?_
       rotate_left
       focus
         intro w' hb'
         go_simp
         with_reducible rfl
       simp only [Act.put, List.setIfInBounds_toArray, List.set_cons_zero, List.set_cons_succ])
    | (refine SeqS.take2 (v := undef) (by first | assumption | trivial) (by kernel_rfl) (by decide +kernel) (by decide +kernel) (Or.inr ⟨by rfl, rfl⟩) ?_
       simp only [Act.put, List.setIfInBounds_toArray, List.set_cons_zero, List.set_cons_succ]))
  refine SeqS.alone (by decide +kernel) (by rfl) (fun K hK => ?_)
  go_simp
  go_at_call 16
  refine (q1.out _ b3).mono ?_
  rintro e w11 ⟨rfl, b11⟩
  go_simp
  have S11 : Below w7.heap.size w7 w11 := b3.trans (b11.mono b3.size)
  refine hK _ _ S11 ?_
  clear hK K
  refine SeqS.alone (by decide +kernel) (by rfl) (fun K hK => ?_)
  go_simp
  go_at_call 13
  refine (q2.out _ S11).mono ?_
  rintro e w12 ⟨rfl, b12⟩
  go_simp
  have S12 : Below w7.heap.size w7 w12 := S11.trans (b12.mono S11.size)
  refine hK _ _ S12 ?_
  clear hK K
  repeat (first
    | (refine SeqS.take (v := .agg (C).toArray) (by first | assumption | trivial) (by kernel_rfl) (by decide +kernel) (by decide +kernel) (yields_blk (by rfl) 33 (.tmp 2) rfl rfl (fun w' h => LC.out w' h) (hrC)) ?_
       simp only [Act.put, List.setIfInBounds_toArray, List.set_cons_zero, List.set_cons_succ])
    | (refine SeqS.take (v := .agg (C1).toArray) (by first | assumption | trivial) (by kernel_rfl) (by decide +kernel) (by decide +kernel) (yields_blk (by rfl) 33 (.tmp 5) rfl rfl (fun w' h => LE.out w' h) (hrE)) ?_
       simp only [Act.put, List.setIfInBounds_toArray, List.set_cons_zero, List.set_cons_succ])
    | (refine SeqS.take (v := ?_) (by first | assumption | trivial) (by kernel_rfl) (by decide +kernel) (by decide +kernel) (Or.inl ⟨by rfl, ?_⟩) ?_
       rotate_left
       focus
         intro w' hb'
         go_simp
         with_reducible rfl
       simp only [Act.put, List.setIfInBounds_toArray, List.set_cons_zero, List.set_cons_succ])
    | (refine SeqS.take (v := undef) (by first | assumption | trivial) (by kernel_rfl) (by decide +kernel) (by decide +kernel) (Or.inr ⟨by rfl, rfl⟩) ?_
       simp only [Act.put, List.setIfInBounds_toArray, List.set_cons_zero, List.set_cons_succ])
    | (refine SeqS.take1 (v := .agg (C).toArray) (by first | assumption | trivial) (by kernel_rfl) (by decide +kernel) (by decide +kernel) (yields_blk (by rfl) 33 (.tmp 2) rfl rfl (fun w' h => LC.out w' h) (hrC)) ?_
       simp only [Act.put, List.setIfInBounds_toArray, List.set_cons_zero, List.set_cons_succ])
    | (refine SeqS.take1 (v := .agg (C1).toArray) (by first | assumption | trivial) (by kernel_rfl) (by decide +kernel) (by decide +kernel) (yields_blk (by rfl) 33 (.tmp 5) rfl rfl (fun w' h => LE.out w' h) (hrE)) ?_
       simp only [Act.put, List.setIfInBounds_toArray, List.set_cons_zero, List.set_cons_succ])
    | (refine SeqS.take1 (v := ?_) (by first | assumption | trivial) (by kernel_rfl) (by decide +kernel) (by decide +kernel) (Or.inl ⟨by rfl, ?_⟩) ?_
       rotate_left
       focus
         intro w' hb'
         go_simp
         with_reducible rfl
       simp only [Act.put, List.setIfInBounds_toArray, List.set_cons_zero, List.set_cons_succ])
    | (refine SeqS.take1 (v := undef) (by first | assumption | trivial) (by kernel_rfl) (by decide +kernel) (by decide +kernel) (Or.inr ⟨by rfl, rfl⟩) ?_
       simp only [Act.put, List.setIfInBounds_toArray, List.set_cons_zero, List.set_cons_succ])
    | (refine SeqS.take2 (v := .agg (C).toArray) (by first | assumption | trivial) (by kernel_rfl) (by decide +kernel) (by decide +kernel) (yields_blk (by rfl) 33 (.tmp 2) rfl rfl (fun w' h => LC.out w' h) (hrC)) ?_
       simp only [Act.put, List.setIfInBounds_toArray, List.set_cons_zero, List.set_cons_succ])
    | (refine SeqS.take2 (v := .agg (C1).toArray) (by first | assumption | trivial) (by kernel_rfl) (by decide +kernel) (by decide +kernel) (yields_blk (by rfl) 33 (.tmp 5) rfl rfl (fun w' h => LE.out w' h) (hrE)) ?_
       simp only [Act.put, List.setIfInBounds_toArray, List.set_cons_zero, List.set_cons_succ])
    | (refine SeqS.take2 (v := ?_) (by first | assumption | trivial) (by kernel_rfl) (by decide +kernel) (by decide +kernel) (Or.inl ⟨by rfl, ?_⟩) ?_
       rotate_left
       focus
         intro w' hb'
         go_simp
         with_reducible rfl
       simp only [Act.put, List.setIfInBounds_toArray, List.set_cons_zero, List.set_cons_succ])
    | (refine SeqS.take2 (v := undef) (by first | assumption | trivial) (by kernel_rfl) (by decide +kernel) (by decide +kernel) (Or.inr ⟨by rfl, rfl⟩) ?_
       simp only [Act.put, List.setIfInBounds_toArray, List.set_cons_zero, List.set_cons_succ]))
  refine SeqS.alone (by decide +kernel) (by rfl) (fun K hK => ?_)
  go_simp
  go_at_call 16
  refine (q3.out _ S12).mono ?_
  rintro e w13 ⟨rfl, b13⟩
  go_simp
  have S13 : Below w7.heap.size w7 w13 := S12.trans (b13.mono S12.size)
  refine hK _ _ S13 ?_
  clear hK K
  repeat (first
    | (refine SeqS.take (v := .agg (C).toArray) (by first | assumption | trivial) (by kernel_rfl) (by decide +kernel) (by decide +kernel) (yields_blk (by rfl) 33 (.tmp 2) rfl rfl (fun w' h => LC.out w' h) (hrC)) ?_
       simp only [Act.put, List.setIfInBounds_toArray, List.set_cons_zero, List.set_cons_succ])
    | (refine SeqS.take (v := .agg (C1).toArray) (by first | assumption | trivial) (by kernel_rfl) (by decide +kernel) (by decide +kernel) (yields_blk (by rfl) 33 (.tmp 5) rfl rfl (fun w' h => LE.out w' h) (hrE)) ?_
       simp only [Act.put, List.setIfInBounds_toArray, List.set_cons_zero, List.set_cons_succ])
    | (refine SeqS.take (v := ?_) (by first | assumption | trivial) (by kernel_rfl) (by decide +kernel) (by decide +kernel) (Or.inl ⟨by rfl, ?_⟩) ?_
       rotate_left
       focus
         intro w' hb'
         go_simp
         with_reducible rfl
       simp only [Act.put, List.setIfInBounds_toArray, List.set_cons_zero, List.set_cons_succ])
    | (refine SeqS.take (v := undef) (by first | assumption | trivial) (by kernel_rfl) (by decide +kernel) (by decide +kernel) (Or.inr ⟨by rfl, rfl⟩) ?_
       simp only [Act.put, List.setIfInBounds_toArray, List.set_cons_zero, List.set_cons_succ])
    | (refine SeqS.take1 (v := .agg (C).toArray) (by first | assumption | trivial) (by kernel_rfl) (by decide +kernel) (by decide +kernel) (yields_blk (by rfl) 33 (.tmp 2) rfl rfl (fun w' h => LC.out w' h) (hrC)) ?_
       simp only [Act.put, List.setIfInBounds_toArray, List.set_cons_zero, List.set_cons_succ])
    | (refine SeqS.take1 (v := .agg (C1).toArray) (by first | assumption | trivial) (by kernel_rfl) (by decide +kernel) (by decide +kernel) (yields_blk (by rfl) 33 (.tmp 5) rfl rfl (fun w' h => LE.out w' h) (hrE)) ?_
       simp only [Act.put, List.setIfInBounds_toArray, List.set_cons_zero, List.set_cons_succ])
    | (refine SeqS.take1 (v := ?_) (by first | assumption | trivial) (by kernel_rfl) (by decide +kernel) (by decide +kernel) (Or.inl ⟨by rfl, ?_⟩) ?_
       rotate_left
       focus
         intro w' hb'
         go_simp
         with_reducible rfl
       simp only [Act.put, List.setIfInBounds_toArray, List.set_cons_zero, List.set_cons_succ])
    | (refine SeqS.take1 (v := undef) (by first | assumption | trivial) (by kernel_rfl) (by decide +kernel) (by decide +kernel) (Or.inr ⟨by rfl, rfl⟩) ?_
       simp only [Act.put, List.setIfInBounds_toArray, List.set_cons_zero, List.set_cons_succ])
    | (refine SeqS.take2 (v := .agg (C).toArray) (by first | assumption | trivial) (by kernel_rfl) (by decide +kernel) (by decide +kernel) (yields_blk (by rfl) 33 (.tmp 2) rfl rfl (fun w' h => LC.out w' h) (hrC)) ?_
       simp only [Act.put, List.setIfInBounds_toArray, List.set_cons_zero, List.set_cons_succ])
    | (refine SeqS.take2 (v := .agg (C1).toArray) (by first | assumption | trivial) (by kernel_rfl) (by decide +kernel) (by decide +kernel) (yields_blk (by rfl) 33 (.tmp 5) rfl rfl (fun w' h => LE.out w' h) (hrE)) ?_
       simp only [Act.put, List.setIfInBounds_toArray, List.set_cons_zero, List.set_cons_succ])
    | (refine SeqS.take2 (v := ?_) (by first | assumption | trivial) (by kernel_rfl) (by decide +kernel) (by decide +kernel) (Or.inl ⟨by rfl, ?_⟩) ?_
       rotate_left
       focus
         intro w' hb'
         go_simp
         with_reducible rfl
       simp only [Act.put, List.setIfInBounds_toArray, List.set_cons_zero, List.set_cons_succ])
    | (refine SeqS.take2 (v := undef) (by first | assumption | trivial) (by kernel_rfl) (by decide +kernel) (by decide +kernel) (Or.inr ⟨by rfl, rfl⟩) ?_
       simp only [Act.put, List.setIfInBounds_toArray, List.set_cons_zero, List.set_cons_succ]))
  refine SeqS.alone (by decide +kernel) (by rfl) (fun K hK => ?_)
  go_simp
  go_at_call 13
  refine (q4.out _ S13).mono ?_
  rintro e w14 ⟨rfl, b14⟩
  go_simp
  have S14 : Below w7.heap.size w7 w14 := S13.trans (b14.mono S13.size)
  refine hK _ _ S14 ?_
  clear hK K
  repeat (first
    | (refine SeqS.take (v := ?_) (by first | assumption | trivial) (by kernel_rfl) (by decide +kernel) (by decide +kernel) (Or.inl ⟨by rfl, ?_⟩) ?_
       rotate_left
       focus
         intro w' hb'
         go_simp
         with_reducible rfl
       simp only [Act.put, List.setIfInBounds_toArray, List.set_cons_zero, List.set_cons_succ])
    | (refine SeqS.take (v := undef) (by first | assumption | trivial) (by kernel_rfl) (by decide +kernel) (by decide +kernel) (Or.inr ⟨by rfl, rfl⟩) ?_
       simp only [Act.put, List.setIfInBounds_toArray, List.set_cons_zero, List.set_cons_succ])
    | (refine SeqS.take1 (v := ?_) (by first | assumption | trivial) (by kernel_rfl) (by decide +kernel) (by decide +kernel) (Or.inl ⟨by rfl, ?_⟩) ?_
       rotate_left
       focus
         intro w' hb'
         go_simp
         with_reducible rfl
       simp only [Act.put, List.setIfInBounds_toArray, List.set_cons_zero, List.set_cons_succ])
    | (refine SeqS.take1 (v := undef) (by first | assumption | trivial) (by kernel_rfl) (by decide +kernel) (by decide +kernel) (Or.inr ⟨by rfl, rfl⟩) ?_
       simp only [Act.put, List.setIfInBounds_toArray, List.set_cons_zero, List.set_cons_succ])
    | (refine SeqS.take2 (v := ?_) (by first | assumption | trivial) (by kernel_rfl) (by decide +kernel) (by decide +kernel) (Or.inl ⟨by rfl, ?_⟩) ?_
       rotate_left
       focus
         intro w' hb'
         go_simp
         with_reducible rfl
       simp only [Act.put, List.setIfInBounds_toArray, List.set_cons_zero, List.set_cons_succ])
    | (refine SeqS.take2 (v := undef) (by first | assumption | trivial) (by kernel_rfl) (by decide +kernel) (by decide +kernel) (Or.inr ⟨by rfl, rfl⟩) ?_
       simp only [Act.put, List.setIfInBounds_toArray, List.set_cons_zero, List.set_cons_succ]))
  refine SeqS.done (by decide +kernel) ?_
  have hG8 := H7.out.1.keep S14 H7.out.1.lt
  have hN8 := H7.out.2.1.keep S14 H7.out.2.1.lt
  have hBs8 := H7.out.2.2.1.keep17 S14
  have hBm8 := H7.out.2.2.2.1.keep S14
  have B8 := H7.out.2.2.2.2.trans (S14.mono H7.out.2.2.2.2.size)
  clear b3 b11 b12 b13 b14 S11 S12 S13 S14 q1 q2 q3 q4 LC LD LE H7 hrE
  -- the second copy
  go_wp2_with ((with_reducible refine wpList_load_blk rfl 33 (.tmp 2) rfl ?_ hG8 rowRc hCl ?_); rfl)
  refine (cpH.out _ B8).mono ?_
  rintro q w9 ⟨a2, c2, b2, d2, rfl, hT9, -, -, hla9, hlb9, -, b9⟩
  have lN := hN8.lt
  have hG9 := hG8.keep b9 hG8.lt
  have hN9 := hN8.keep b9 hN8.lt
  have hBs9 := hBs8.keep17 b9
  have hBm9 := hBm8.keep b9
  have B9 := B8.trans (b9.mono B8.size)
  have hla9' : ∀ y, a2 = some y → N < y.block ∧ y.block < w9.heap.size := fun y hy => by have := hla9 y hy; omega
  have hlb9' : ∀ y, b2 = some y → N < y.block ∧ y.block < w9.heap.size := fun y hy => by have := hlb9 y hy; omega
  have hlF := hEl.out a2 c2 b2 d2
  have hoF := hE1.out a2 c2 b2 d2
  obtain ⟨C2, hC2⟩ : ∃ C, E a2 c2 b2 d2 = C := ⟨_, rfl⟩
  rw [hC2] at hlF hoF
  have hC2H := Lib.hid hC2
  clear hG8 hN8 hBs8 hBm8 B8 b9 hla9 hlb9 cpH
  go_wp2_with ((with_reducible refine wpList_alloc_blk rfl 33 rfl hZ0 ?_); refine RowKit.Hid.out ?_)
  refine Lib.hid ?_
  try simp only [Act.put, List.setIfInBounds_toArray, List.set_cons_zero, List.set_cons_succ]
  try simp only [hC2]
  have bA := below1 w9 (.cells Z.toArray 33)
  have hGA := hG9.keep bA hG9.lt
  have hNA := hN9.keep bA hN9.lt
  have hOA := Blk.new w9 33 Z
  have hTA := hT9.keep bA
  have hBsA := hBs9.keep17 bA
  have hBmA := hBm9.keep bA
  have BA := B9.trans (bA.mono B9.size)
  have m1 := hG9.lt
  have m2 := hN9.lt
  have m3 := B9.size
  obtain ⟨O, hO⟩ : ∃ N, w9.heap.size = N := ⟨_, rfl⟩
  rw [hO] at hOA m1 m2 m3 hla9' hlb9' ⊢
  obtain ⟨U9, hU9⟩ : ∃ W, w9.alloc (.cells Z.toArray 33) = W := ⟨_, rfl⟩
  rw [hU9] at hGA hNA hOA hTA BA hBsA hBmA ⊢
  clear hG9 hN9 hT9 B9 hBs9 hBm9 bA hO hU9 hC2
  refine store_row rfl 33 (.tmp 6) (.tmp 40) rfl rfl rfl hOA rowRc hlF hZl hoF ?_
  intro w10 hO10 hg10
  have hG10 := hGA.grown hg10 (fun e => by injection e with e; omega)
  have hN10 := hNA.grown hg10 (fun e => by injection e with e; omega)
  have hT10 := hTA.far hg10 (fun x hx _ => by have := hla9' x hx; omega) (fun x hx _ => by have := hlb9' x hx; omega)
  have hBs10 := hBsA.grown hg10 (fun q hq e => by injection e with e; obtain ⟨_, y, hy, hyq⟩ := hq; have := hla6 y hy; omega)
  have hBm10 := hBmA.grown hg10 (fun q hq e => by injection e with e; obtain ⟨_, y, hy, hyq⟩ := hq; have := hlb6 y hy; omega)
  have B10 := BA.grown hg10 BA.size (fun q hq => by injection hq with hq; omega)
  have n5 := f5.out w10 N a1 c1 b1 d1 (by rw [hC1H.out]; exact hN10)
  have hAt : ∀ q, At a1 n q → w.heap.size ≤ q ∧ q ≠ G ∧ q ≠ N ∧ q < N := fun q ⟨_, y, hy, hyq⟩ => by have := hla6 y hy; omega
  have hAm : ∀ q, Atm b1 m q → w.heap.size ≤ q ∧ q ≠ G ∧ q ≠ N ∧ q < N := fun q ⟨_, y, hy, hyq⟩ => by have := hlb6 y hy; omega
  have hAA : ∀ q, Atm b1 m q → ¬ At a1 n q := fun q ⟨_, y, hy, hyq⟩ ⟨_, x, hx, hxq⟩ => by have := hsep6 x y hx hy; omega
  clear hGA hNA hOA hTA BA hBsA hBmA hg10
  go_wp2_with fail
  go_loopw [44] (fun i wr => ∃ j : Nat, j ≤ n ∧ i = .int .i64 j ∧ Bys wr a1 n c1 ∧ Moved (At a1 n) w10 wr) (fun i _ => n - (intOf i).toNat)
  case atStart => exact ⟨0, Nat.zero_le _, rfl, hBs10, Moved.rfl'⟩
  case round =>
    clear n5
    obtain ⟨j, hj, rfl, hBy, hMv⟩ := hrel
    have hNr := blk_moved hN10 hMv (fun h => (hAt N h).2.2.1 rfl)
    by_cases hlt : j < n
    · have hji : (j : Int) < (n : Int) := by omega
      obtain ⟨o, v, hbo, hc, hf, hinc⟩ := hBy.inc j hlt
      have n5 := f5.out wr N a1 c1 b1 d1 (by rw [hC1H.out]; exact hNr)
      rw [hbo] at n5
      have hltH := Lib.hid hlt
      have hincH := Lib.hid hinc
      have hMvH := Lib.hid hMv
      clear hlt hj hNr hBy hMv hinc
      go_wp2
      exact ⟨⟨j + 1, by have := hltH.out; omega, by congr 1, (hincH.out _).1, hMvH.out.then (hincH.out _).2⟩, by simp only [intOf]; have := hltH.out; omega⟩
    · have hji : ¬ (j : Int) < (n : Int) := by omega
      have hG11 := blk_moved hG10 hMv (fun h => (hAt G h).2.1 rfl)
      have hO11 := blk_moved hO10 hMv (fun h => by have := (hAt O h).2.2.2; omega)
      have B11 := B10.trans (hMv.below (fun q hq => (hAt q hq).1) B10.size)
      have hT11 := hT10.moved hMv (fun y hy _ h => by have := (hAt _ h).2.2.2; have := hla9' y hy; omega) (fun y hy _ h => by have := (hAt _ h).2.2.2; have := hlb9' y hy; omega)
      have hBm11 := hBm10.moved hMv hAA
      have n8 := f8.out wr N a1 c1 b1 d1 (by rw [hC1H.out]; exact hNr)
      obtain ⟨w11, hw11⟩ : ∃ W, W = wr := ⟨_, rfl⟩
      subst hw11
      clear hlt hj hMv hBy hBs10 hBm10 hG10 hN10 hO10 B10 hT10
      go_wp2_with fail
      go_loopw [59] (fun i wq => ∃ j : Nat, j ≤ m ∧ i = .int .i64 j ∧ Bym wq b1 m d1 ∧ Moved (Atm b1 m) w11 wq) (fun i _ => m - (intOf i).toNat)
      case atStart => exact ⟨0, Nat.zero_le _, rfl, hBm11, Moved.rfl'⟩
      case round =>
        clear n8
        obtain ⟨k, hk', rfl, hBy2, hMv2⟩ := hrel
        have hNk := blk_moved hNr hMv2 (fun h => (hAm N h).2.2.1 rfl)
        by_cases hlt : k < m
        · have hji : (k : Int) < (m : Int) := by omega
          obtain ⟨V5, hV5⟩ : ∃ V, wr.drew = V := ⟨_, rfl⟩
          have hByV : Bym V5 b1 m d1 := by rw [← hV5]; exact hBy2.keep (Below.drew (Below.refl _ _))
          have hNV : Blk V5 N 33 C1 := by rw [← hV5]; exact hNk
          have hMV : Moved (Atm b1 m) w11 V5 := by rw [← hV5]; exact hMv2.then (Moved.of_below (Below.drew (Below.refl _ _)))
          obtain ⟨o, v, hbo, hc, hf, hinc⟩ := hByV.inc k hlt
          have hoN : o ≠ N := fun e => (hAm o ⟨by omega, _, hbo, rfl⟩).2.2.1 e
          have n8 := f8.out V5 N a1 c1 b1 d1 (by rw [hC1H.out]; exact hNV)
          obtain ⟨v', hv'⟩ : ∃ v', (v + 1) % 256 = v' := ⟨_, rfl⟩
          have hv'' : IntKind.u8.wrap (v + 1) = v' := by rw [IntKind.wrap_u8]; exact hv'
          have n8S := f8.out _ N a1 c1 b1 d1 (by rw [hC1H.out]; exact hNV.far (p := ⟨o, k * 32, none⟩) (by show N ≠ o; omega) (.int .u8 v'))
          rw [hbo] at n8 n8S
          clear hbo
          have n8S := Lib.hid n8S
          have hincH := Lib.hid (hinc v')
          have hMvH := Lib.hid hMV
          have hltH := Lib.hid hlt
          clear hlt hk' hNk hinc hBy2 hMv2 hByV hNV hMV
          go_wp2_with fail
          refine region_seqS (fun w' => w'.cell? ⟨N, 85, none⟩ = some (.slice (some ⟨o, 0, none⟩) m d1)) (by kernel_rfl) (by rw [hV5]; exact n8) ?_
          simp only [pairs, Nat.reduceAdd]
          try rw [hV5]
          clear hV5
          repeat (first
            | (refine SeqS.take (v := ?_) (by first | assumption | trivial) (by kernel_rfl) (by decide +kernel) (by decide +kernel) (Or.inl ⟨by rfl, ?_⟩) ?_
               rotate_left
               focus
                 intro w' hb'
                 go_simp
                 with_reducible rfl
               simp only [Act.put, List.setIfInBounds_toArray, List.set_cons_zero, List.set_cons_succ])
            | (refine SeqS.take (v := ?_) (by first | assumption | trivial) (by kernel_rfl) (by decide +kernel) (by decide +kernel) (Or.inl ⟨by rfl, ?_⟩) ?_
               rotate_left
               focus
                 intro w' hb'
                 have d0 := hb'
                 go_simp
                 with_reducible rfl
               simp only [Act.put, List.setIfInBounds_toArray, List.set_cons_zero, List.set_cons_succ])
            | (refine SeqS.take (v := undef) (by first | assumption | trivial) (by kernel_rfl) (by decide +kernel) (by decide +kernel) (Or.inr ⟨by rfl, rfl⟩) ?_
               simp only [Act.put, List.setIfInBounds_toArray, List.set_cons_zero, List.set_cons_succ])
            | (refine SeqS.take1 (v := ?_) (by first | assumption | trivial) (by kernel_rfl) (by decide +kernel) (by decide +kernel) (Or.inl ⟨by rfl, ?_⟩) ?_
               rotate_left
               focus
                 intro w' hb'
                 go_simp
                 with_reducible rfl
               simp only [Act.put, List.setIfInBounds_toArray, List.set_cons_zero, List.set_cons_succ])
            | (refine SeqS.take1 (v := ?_) (by first | assumption | trivial) (by kernel_rfl) (by decide +kernel) (by decide +kernel) (Or.inl ⟨by rfl, ?_⟩) ?_
               rotate_left
               focus
                 intro w' hb'
                 have d0 := hb'
                 go_simp
                 with_reducible rfl
               simp only [Act.put, List.setIfInBounds_toArray, List.set_cons_zero, List.set_cons_succ])
            | (refine SeqS.take1 (v := undef) (by first | assumption | trivial) (by kernel_rfl) (by decide +kernel) (by decide +kernel) (Or.inr ⟨by rfl, rfl⟩) ?_
               simp only [Act.put, List.setIfInBounds_toArray, List.set_cons_zero, List.set_cons_succ])
            | (refine SeqS.take2 (v := ?_) (by first | assumption | trivial) (by kernel_rfl) (by decide +kernel) (by decide +kernel) (Or.inl ⟨by rfl, ?_⟩) ?_
               rotate_left
               focus
                 intro w' hb'
                 go_simp
                 with_reducible rfl
               simp only [Act.put, List.setIfInBounds_toArray, List.set_cons_zero, List.set_cons_succ])
            | (refine SeqS.take2 (v := ?_) (by first | assumption | trivial) (by kernel_rfl) (by decide +kernel) (by decide +kernel) (Or.inl ⟨by rfl, ?_⟩) ?_
               rotate_left
               focus
                 intro w' hb'
                 have d0 := hb'
                 go_simp
                 with_reducible rfl
               simp only [Act.put, List.setIfInBounds_toArray, List.set_cons_zero, List.set_cons_succ])
            | (refine SeqS.take2 (v := undef) (by first | assumption | trivial) (by kernel_rfl) (by decide +kernel) (by decide +kernel) (Or.inr ⟨by rfl, rfl⟩) ?_
               simp only [Act.put, List.setIfInBounds_toArray, List.set_cons_zero, List.set_cons_succ])
            | (refine SeqS.take3 (v := ?_) (by first | assumption | trivial) (by kernel_rfl) (by decide +kernel) (by decide +kernel) (Or.inl ⟨by rfl, ?_⟩) ?_
               rotate_left
               focus
                 intro w' hb'
                 go_simp
                 with_reducible rfl
               simp only [Act.put, List.setIfInBounds_toArray, List.set_cons_zero, List.set_cons_succ])
            | (refine SeqS.take3 (v := ?_) (by first | assumption | trivial) (by kernel_rfl) (by decide +kernel) (by decide +kernel) (Or.inl ⟨by rfl, ?_⟩) ?_
               rotate_left
               focus
                 intro w' hb'
                 have d0 := hb'
                 go_simp
                 with_reducible rfl
               simp only [Act.put, List.setIfInBounds_toArray, List.set_cons_zero, List.set_cons_succ])
            | (refine SeqS.take3 (v := undef) (by first | assumption | trivial) (by kernel_rfl) (by decide +kernel) (by decide +kernel) (Or.inr ⟨by rfl, rfl⟩) ?_
               simp only [Act.put, List.setIfInBounds_toArray, List.set_cons_zero, List.set_cons_succ])
            | (refine SeqS.take4 (v := ?_) (by first | assumption | trivial) (by kernel_rfl) (by decide +kernel) (by decide +kernel) (Or.inl ⟨by rfl, ?_⟩) ?_
               rotate_left
               focus
                 intro w' hb'
                 go_simp
                 with_reducible rfl
               simp only [Act.put, List.setIfInBounds_toArray, List.set_cons_zero, List.set_cons_succ])
            | (refine SeqS.take4 (v := ?_) (by first | assumption | trivial) (by kernel_rfl) (by decide +kernel) (by decide +kernel) (Or.inl ⟨by rfl, ?_⟩) ?_
               rotate_left
               focus
                 intro w' hb'
                 have d0 := hb'
                 go_simp
                 with_reducible rfl
               simp only [Act.put, List.setIfInBounds_toArray, List.set_cons_zero, List.set_cons_succ])
            | (refine SeqS.take4 (v := undef) (by first | assumption | trivial) (by kernel_rfl) (by decide +kernel) (by decide +kernel) (Or.inr ⟨by rfl, rfl⟩) ?_
               simp only [Act.put, List.setIfInBounds_toArray, List.set_cons_zero, List.set_cons_succ]))
          refine SeqS.alone (by decide +kernel) (by rfl) (fun K5 hK5 => ?_)
          go_simp
          refine hK5 _ _ n8 ?_
          clear hK5 K5
          try simp only [Act.put, List.setIfInBounds_toArray, List.set_cons_zero, List.set_cons_succ]
          repeat (first
            | (refine SeqS.take (v := ?_) (by first | assumption | trivial) (by kernel_rfl) (by decide +kernel) (by decide +kernel) (Or.inl ⟨by rfl, ?_⟩) ?_
               rotate_left
               focus
                 intro w' hb'
                 go_simp
                 with_reducible rfl
               simp only [Act.put, List.setIfInBounds_toArray, List.set_cons_zero, List.set_cons_succ])
            | (refine SeqS.take (v := ?_) (by first | assumption | trivial) (by kernel_rfl) (by decide +kernel) (by decide +kernel) (Or.inl ⟨by rfl, ?_⟩) ?_
               rotate_left
               focus
                 intro w' hb'
                 have d0 := hv'
                 go_simp
                 with_reducible rfl
               simp only [Act.put, List.setIfInBounds_toArray, List.set_cons_zero, List.set_cons_succ])
            | (refine SeqS.take (v := undef) (by first | assumption | trivial) (by kernel_rfl) (by decide +kernel) (by decide +kernel) (Or.inr ⟨by rfl, rfl⟩) ?_
               simp only [Act.put, List.setIfInBounds_toArray, List.set_cons_zero, List.set_cons_succ])
            | (refine SeqS.take1 (v := ?_) (by first | assumption | trivial) (by kernel_rfl) (by decide +kernel) (by decide +kernel) (Or.inl ⟨by rfl, ?_⟩) ?_
               rotate_left
               focus
                 intro w' hb'
                 go_simp
                 with_reducible rfl
               simp only [Act.put, List.setIfInBounds_toArray, List.set_cons_zero, List.set_cons_succ])
            | (refine SeqS.take1 (v := ?_) (by first | assumption | trivial) (by kernel_rfl) (by decide +kernel) (by decide +kernel) (Or.inl ⟨by rfl, ?_⟩) ?_
               rotate_left
               focus
                 intro w' hb'
                 have d0 := hv'
                 go_simp
                 with_reducible rfl
               simp only [Act.put, List.setIfInBounds_toArray, List.set_cons_zero, List.set_cons_succ])
            | (refine SeqS.take1 (v := undef) (by first | assumption | trivial) (by kernel_rfl) (by decide +kernel) (by decide +kernel) (Or.inr ⟨by rfl, rfl⟩) ?_
               simp only [Act.put, List.setIfInBounds_toArray, List.set_cons_zero, List.set_cons_succ])
            | (refine SeqS.take2 (v := ?_) (by first | assumption | trivial) (by kernel_rfl) (by decide +kernel) (by decide +kernel) (Or.inl ⟨by rfl, ?_⟩) ?_
               rotate_left
               focus
                 intro w' hb'
                 go_simp
                 with_reducible rfl
               simp only [Act.put, List.setIfInBounds_toArray, List.set_cons_zero, List.set_cons_succ])
            | (refine SeqS.take2 (v := ?_) (by first | assumption | trivial) (by kernel_rfl) (by decide +kernel) (by decide +kernel) (Or.inl ⟨by rfl, ?_⟩) ?_
               rotate_left
               focus
                 intro w' hb'
                 have d0 := hv'
                 go_simp
                 with_reducible rfl
               simp only [Act.put, List.setIfInBounds_toArray, List.set_cons_zero, List.set_cons_succ])
            | (refine SeqS.take2 (v := undef) (by first | assumption | trivial) (by kernel_rfl) (by decide +kernel) (by decide +kernel) (Or.inr ⟨by rfl, rfl⟩) ?_
               simp only [Act.put, List.setIfInBounds_toArray, List.set_cons_zero, List.set_cons_succ]))
          refine SeqS.alone (by decide +kernel) (by rfl) (fun K5 hK5 => ?_)
          go_simp
          refine hK5 _ _ n8S.out ?_
          clear hK5 K5
          refine SeqS.done (by decide +kernel) ?_
          go_wp2
          exact ⟨⟨k + 1, by have := hltH.out; omega, by congr 1, hincH.out.1, hMvH.out.then hincH.out.2⟩, by simp only [intOf]; have := hltH.out; omega⟩
        · have hji : ¬ (k : Int) < (m : Int) := by omega
          have hGr := blk_moved hG11 hMv2 (fun h => (hAm G h).2.1 rfl)
          have hOr := blk_moved hO11 hMv2 (fun h => by have := (hAm O h).2.2.2; omega)
          have Br := B11.trans (hMv2.below (fun q hq => (hAm q hq).1) B11.size)
          have hTr := hT11.moved hMv2 (fun y hy _ h => by have := (hAm _ h).2.2.2; have := hla9' y hy; omega) (fun y hy _ h => by have := (hAm _ h).2.2.2; have := hlb9' y hy; omega)
          have sm := Lib.hid (u4H.out _ a2 c2 b2 d2 Br hTr)
          rw [hC2H.out] at sm
          clear hlt hk' hMv2 hBy2 hBm11 hG11 hNr hNk hO11 B11 hT11 hTr
          go_wp2_with (first
            | ((with_reducible refine wpList_load_blk rfl 33 (.tmp 2) rfl ?_ hGr rowRc hCl ?_); rfl)
            | ((with_reducible refine wpList_load_blk rfl 33 (.tmp 6) rfl ?_ hOr rowRc hlF ?_); rfl))
          refine sm.out.mono ?_
          rintro q w12 ⟨rfl, b12⟩
          have B12 := Br.trans (b12.mono Br.size)
          clear sm hGr hOr Br b12
          go_wp2_with fail
          refine (alive17_any w12).mono ?_
          rintro q w13 ⟨rfl, b13⟩
          go_wp2
          go_ret
          exact ⟨by first | rfl | simp, B12.trans (b13.mono B12.size)⟩

theorem kcCopies_any (r s : RecV) (a b a' b' : Option Addr) (c d c' d' : Nat) (w : World) (hM : RecOk r) (hM' : RecOk s) (hI : RecAt w r a c b d) (hJ : RecAt w s a' c' b' d') :
    Calls Try.prog 5 #[.agg (rC r a c b d).toArray, .agg (rC s a' c' b' d').toArray] w fun q w' => q = .returned (.bool true) ∧ Below w.heap.size w w' := by
  by_cases h0 : (r.m.blob.length ≤ 2000 ∧ r.b.n ≤ 100) ∧ (s.m.blob.length ≤ 2000 ∧ s.b.n ≤ 100)
  · exact kcCopies_ok r s a b a' b' c d c' d' w hM hM' hI hJ h0.1 h0.2
  · exact kcCopies_few r s a b a' b' c d c' d' w hM hM' h0
end Go.Proofs.Ytaaflnmdaplfkaa

/-
  The laws RecordReads, RecordBytes and RecordCopies, as their statements' frames take them. Conditions: the rows' own.
-/
namespace Go.Proofs.Ytaaflnmdaplfkaa
open Go.RowKit

theorem byte_of17 {z : Int} (h : (Lit.int .u8 z).wf = true) : 0 ≤ z ∧ z < 256 := by
  simp [Lit.wf, IntKind.min, IntKind.max, IntKind.signed, IntKind.bits] at h
  omega
theorem law_rcreads (a : Option Addr) (n c : Nat) (xs : List Int) (w : World) (hI : Ints .u8 w a n c xs) (hr : ∀ x ∈ xs, (Lit.int .u8 x).wf = true) (_hm : c ≤ maxLen) :
    Calls Try.prog 4 #[.slice a n c] w fun q w' => q = .returned (.bool true) ∧ Below w.heap.size w w' :=
  kcReads_any a n c xs w hI (fun x hx => byte_of17 (hr x hx))
theorem law_rcbytes (r : RecV) (a b : Option Addr) (c d : Nat) (w : World) (hM : RecOk r) (hI : RecAt w r a c b d) :
    Calls Try.prog 3 #[.agg (rC r a c b d).toArray] w fun q w' => q = .returned (.bool true) ∧ Below w.heap.size w w' :=
  kcBytes_any r a b c d w hM hI
theorem law_rccopies (r : RecV) (a b : Option Addr) (c d : Nat) (s : RecV) (a' b' : Option Addr) (c' d' : Nat) (w : World) (hM : RecOk r) (hI : RecAt w r a c b d) (hM' : RecOk s) (hJ : RecAt w s a' c' b' d') :
    Calls Try.prog 5 #[.agg (rC r a c b d).toArray, .agg (rC s a' c' b' d').toArray] w fun q w' => q = .returned (.bool true) ∧ Below w.heap.size w w' :=
  kcCopies_any r s a b a' b' c d c' d' w hM hM' hI hJ
end Go.Proofs.Ytaaflnmdaplfkaa
