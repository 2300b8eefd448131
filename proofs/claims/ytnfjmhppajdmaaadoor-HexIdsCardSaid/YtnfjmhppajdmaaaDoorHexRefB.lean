/-
  The document's own reading of a text as bytes (layer 12): Bytes. New memory alone is written. Conditions: at most a million signs.
-/
import Derived.Test.YtnfjmhppajdmaaaDoorHexRef
import Derived.Test.YtnfjmhppajdmaaaDoorRdNumber
namespace Go.Proofs.YtnfjmhppajdmaaaDoor
open Go.RowKit

theorem drop_two (ss : List Int) (i : Nat) (h : i + 1 < ss.length) : ss.drop i = ss.getD i 0 :: ss.getD (i + 1) 0 :: ss.drop (i + 2) := by
  rw [List.drop_eq_getElem_cons (by omega), List.drop_eq_getElem_cons h, List.getD_eq_getElem?_getD, List.getD_eq_getElem?_getD, List.getElem?_eq_getElem (by omega), List.getElem?_eq_getElem h]
  rfl
/-- What stands behind j bytes: the rest alone is still to be read. -/
def Mid (ss : List Int) (i : Nat) (ys : List Int) : Prop := ofB ss = (ofB (ss.drop i)).map (fun l => ys ++ l)
theorem Mid.start (ss : List Int) : Mid ss 0 [] := by unfold Mid; simp
theorem Mid.none {ss ys : List Int} {i : Nat} (h : Mid ss i ys) (hi : i + 1 < ss.length) (hd : dig (ss.getD i 0) < 0 ∨ dig (ss.getD (i + 1) 0) < 0) : ofB ss = none := by
  unfold Mid at h
  rw [h, drop_two ss i hi, ofB, if_pos hd]
  rfl
theorem Mid.step {ss ys : List Int} {i : Nat} (h : Mid ss i ys) (hi : i + 1 < ss.length) (hd : ¬ (dig (ss.getD i 0) < 0 ∨ dig (ss.getD (i + 1) 0) < 0)) : Mid ss (i + 2) (ys ++ [16 * dig (ss.getD i 0) + dig (ss.getD (i + 1) 0)]) := by
  unfold Mid at h ⊢
  rw [h, drop_two ss i hi, ofB, if_neg hd, Option.map_map]
  congr 1
  funext l
  simp
theorem Mid.done {ss ys : List Int} {i : Nat} (h : Mid ss i ys) (hi : ss.length ≤ i) : ofB ss = some ys := by
  unfold Mid at h
  rw [h, List.drop_eq_nil_of_le hi]
  simp [ofB]
theorem unText_nil : unText [] = ([], 4) := rfl
theorem unText_dash : unText [45] = ([], 0) := rfl
theorem unText_some {ss ys : List Int} (h1 : ss ≠ [45]) (h2 : ss ≠ []) (h : ofB ss = some ys) : unText ss = (ys, 0) := by
  unfold unText ofL
  rw [if_neg h1, if_neg h2, h]
theorem unText_none {ss : List Int} (h1 : ss ≠ [45]) (h2 : ss ≠ []) (h : ofB ss = none) : unText ss = ([], 4) := by
  unfold unText ofL
  rw [if_neg h1, if_neg h2, h]
theorem dig_lt (c : Int) : dig c < 16 := by unfold dig; repeat' split <;> try omega
theorem dig_ge (c : Int) : -1 ≤ dig c := by unfold dig; repeat' split <;> try omega

theorem WrInts {w : World} {B : Nat} {e : TypeId} {a : Option Addr} {n c : Nat} {xs : List Int} (h : w.ownsRow B e 1 (.slice a n c) n (xs.map (Value.int .u8))) : Ints .u8 w a n c xs := by
  obtain ⟨a5, c5, hv, hi⟩ := Ints.of_owns h
  injection hv with e1 _ e2
  subst e1; subst e2
  exact hi

set_option maxRecDepth 100000 in
set_option maxHeartbeats 1000000 in
theorem rBytes_any (s : ByteArray) (w : World) (hm : s.size ≤ 1000000) :
    Calls Tryd.prog 10 #[.string s] w fun q w' => ∃ b c, q = .returned (.tuple #[.slice b (unText (numsOf s)).1.length c, .int .i64 (unText (numsOf s)).2]) ∧ Ints .u8 w' b (unText (numsOf s)).1.length c (unText (numsOf s)).1 ∧ (∀ x, b = some x → w.heap.size ≤ x.block) ∧ Below w.heap.size w w' := by
  obtain ⟨i0, hi, hz0, hz1, hz2⟩ := info_u8b
  have hl := numsOf_length s
  have hr := numsOf_range s
  have heq := toList_nums s { data := #[45] }
  rw [show numsOf { data := #[45] } = [45] by decide +kernel, show ({ data := #[45] } : ByteArray).toList = [45] by decide +kernel] at heq
  have hix := fun i (h : i < s.size) w => str_index (P := Tryd.prog) s i h 9 Tryd.underlying9 w
  obtain ⟨ss, hss⟩ : ∃ ss, numsOf s = ss := ⟨_, rfl⟩
  rw [hss] at hl hr heq hix ⊢
  clear hss
  obtain ⟨N, hN⟩ : ∃ N, s.size = N := ⟨_, rfl⟩
  rw [hN] at hl hm hix
  by_cases h1 : ss = [45]
  · rw [decide_eq_true h1] at heq
    rw [h1, unText_dash]
    clear hix
    go_enter Tryd.func10, Tryd.ntmps10
    go_wp2
    go_ret2
    exact ⟨none, 0, rfl, ⟨rfl, Nat.le_refl _, .inl rfl⟩, (fun x h => by cases h), Below.refl _ _⟩
  rw [decide_eq_false h1] at heq
  by_cases h2 : ss = []
  · rw [h2, unText_nil]
    have hN0 : (N : Int) = 0 := by rw [h2] at hl; simp at hl; omega
    clear hix
    go_enter Tryd.func10, Tryd.ntmps10
    go_wp2
    go_ret2
    exact ⟨none, 0, rfl, ⟨rfl, Nat.le_refl _, .inl rfl⟩, (fun x h => by cases h), Below.refl _ _⟩
  have hNp : 0 < N := by rw [← hl]; exact List.length_pos_iff.2 h2
  have hN0 : ¬ (N : Int) = 0 := by omega
  by_cases h3 : N % 2 = 1
  · rw [unText_none h1 h2 (ofB_odd ss (by omega))]
    have hN1 : (N : Int) % 2 = 1 := by omega
    clear hix
    go_enter Tryd.func10, Tryd.ntmps10
    go_wp2
    go_ret2
    exact ⟨none, 0, rfl, ⟨rfl, Nat.le_refl _, .inl rfl⟩, (fun x h => by cases h), Below.refl _ _⟩
  have hN1 : ((N : Int) % 2 == 1) = false := beq_false_of_ne (by omega)
  have hNb : ((N : Int) == 0) = false := beq_false_of_ne (by omega)
  have hNI : (N : Int) ≤ 1000000 := by omega
  have hSo := Lib.hid (fun ys (h : ofB ss = some ys) => unText_some h1 h2 h)
  have hNo := Lib.hid (fun (h : ofB ss = none) => unText_none h1 h2 h)
  have hixH := Lib.hid hix
  have h3H := Lib.hid h3
  clear hix hm h3 h1 h2 hNp
  go_enter Tryd.func10, Tryd.ntmps10
  go_wp2_with fail
  go_loopw [4, 5] (fun v i wr => ∃ (j : Nat) (ys : List Int), 2 * j ≤ N ∧ i = .int .i64 ((2 * j : Nat) : Int) ∧ ys.length = j ∧ Mid ss (2 * j) ys ∧ wr.ownsRow w.heap.size 5 1 v j (ys.map (Value.int .u8)) ∧ Below w.heap.size w wr) (fun _ i _ => N - (intOf i).toNat)
  case atStart => exact ⟨0, [], Nat.zero_le _, rfl, rfl, Mid.start ss, World.ownsRow_nil _ _ _ _, Below.refl _ _⟩
  case round =>
    obtain ⟨j, ys, hj, rfl, hyl, hM, hown, hB⟩ := hrel
    by_cases hlt : 2 * j < N
    · have hlt2 : 2 * j + 1 < N := by have := h3H.out; omega
      obtain ⟨K, hK⟩ : ∃ K, 2 * j = K := ⟨_, rfl⟩
      rw [hK] at hlt hlt2 hj hM ⊢
      have hji : (K : Int) < (N : Int) := by omega
      have x1 := hixH.out K (by omega)
      have x2 := hixH.out (K + 1) (by omega)
      rw [Int.natCast_add, show ((1 : Nat) : Int) = 1 from rfl] at x2
      have g1 := getD_range (p := fun x => 0 ≤ x ∧ x < 256) hr K (by omega)
      have g2 := getD_range (p := fun x => 0 ≤ x ∧ x < 256) hr (K + 1) (by omega)
      have mn := hM.none (by omega)
      have ms := hM.step (by omega)
      obtain ⟨A, hA⟩ : ∃ A, ss.getD K 0 = A := ⟨_, rfl⟩
      obtain ⟨B, hB0⟩ : ∃ B, ss.getD (K + 1) 0 = B := ⟨_, rfl⟩
      rw [hA] at x1 g1 mn ms
      rw [hB0] at x2 g2 mn ms
      have d1 := fun w => rDigit_any A g1 w
      have d2 := fun w => rDigit_any B g2 w
      have a1 := dig_lt A
      have a2 := dig_ge A
      have b1 := dig_lt B
      have b2 := dig_ge B
      obtain ⟨p, hp⟩ : ∃ p, dig A = p := ⟨_, rfl⟩
      obtain ⟨r, hr0⟩ : ∃ r, dig B = r := ⟨_, rfl⟩
      rw [hp] at d1 a1 a2 mn ms
      rw [hr0] at d2 b1 b2 mn ms
      have mnH := Lib.hid mn
      have msH := Lib.hid ms
      have hltH := Lib.hid hlt2
      have hKH := Lib.hid hK
      clear mn ms hlt hlt2 hj hM hA hB0 hp hr0 hK g1 g2
      by_cases hp0 : p < 0
      · have hof := mnH.out (.inl hp0)
        go_wp2_with fail
        refine (d1 wr).mono ?_
        rintro q w1 ⟨rfl, rfl⟩
        go_wp2_with fail
        refine (d2 wr).mono ?_
        rintro q w1 ⟨rfl, rfl⟩
        clear d1 d2 x1 x2
        go_wp2
        go_ret2
        rw [hNo.out hof]
        exact ⟨none, 0, rfl, ⟨rfl, Nat.le_refl _, .inl rfl⟩, (fun x h => by cases h), hB⟩
      by_cases hr1 : r < 0
      · have hof := mnH.out (.inr hr1)
        go_wp2_with fail
        refine (d1 wr).mono ?_
        rintro q w1 ⟨rfl, rfl⟩
        go_wp2_with fail
        refine (d2 wr).mono ?_
        rintro q w1 ⟨rfl, rfl⟩
        clear d1 d2 x1 x2
        go_wp2
        go_ret2
        rw [hNo.out hof]
        exact ⟨none, 0, rfl, ⟨rfl, Nat.le_refl _, .inl rfl⟩, (fun x h => by cases h), hB⟩
      have ms := msH.out (by omega)
      have hmsH := Lib.hid ms
      have hjn : j ≤ 1000000 := by have := hKH.out; omega
      have hjnH := Lib.hid hjn
      clear ms hjn mnH msH
      go_wp2_with fail
      refine (d1 wr).mono ?_
      rintro q w1 ⟨rfl, rfl⟩
      go_wp2_with fail
      refine (d2 wr).mono ?_
      rintro q w1 ⟨rfl, rfl⟩
      clear d1 d2 x1 x2
      go_wp2_with (at_builtin; refine wpList_append_own _ rfl _ _ 22 rfl w.heap.size 5 i0 (.int .u8 0) 1 1 Tryd.underlying22 hi hz0 hz1 hz2 rfl (by decide) _ _ _ rfl (hown.alloc _) ⟨wr.heap.size, 0, none⟩ 1 1 ([16 * p + r].map (Value.int .u8)) rfl rfl ?c1 ?c2 ?c3 ?c4 ?c5 ?_)
      case c1 =>
        intro t u ht
        rcases t with _ | t
        · obtain rfl : u = .int .u8 (16 * p + r) := by simpa using ht.symm
          exact World.cell?_alloc_at (w := wr) #[.int .u8 (16 * p + r)] 5 wr.heap.size 0 rfl
        · simp at ht
      case c2 => simp [Value.oneCell']
      case c3 => have := hjnH.out; unfold maxLen; omega
      case c4 => have := hjnH.out; omega
      case c5 => have := hB.size; simp; omega
      intro v' w1 hown' hgrow _
      have hown1 : w1.ownsRow w.heap.size 5 1 v' (j + 1) ((ys ++ [16 * p + r]).map (Value.int .u8)) := by rw [List.map_append]; exact hown'
      have hB1 : Below w.heap.size w w1 := (hB.alloc hB.size _).grown hgrow (by have := hB.size; simp; omega) (fun k hk => (hown.lt k hk).1)
      clear hown' hgrow hown
      go_wp2
      exact ⟨⟨j + 1, ys ++ [16 * p + r], by have := hKH.out; have := hltH.out; omega, by congr 1; have := hKH.out; omega, by rw [List.length_append, hyl]; rfl, by have h := hmsH.out; rw [show K + 2 = 2 * (j + 1) by have := hKH.out; omega] at h; exact h, hown1, hB1⟩, by simp only [intOf]; have := hltH.out; omega⟩
    · have hof := hM.done (by omega)
      have hKN : 2 * j = N := by omega
      rw [hKN]
      have hji : ¬ (N : Int) < (N : Int) := by omega
      obtain ⟨a5, c5, hv⟩ := own_slice hown
      subst hv
      clear hlt hj hM hixH
      go_wp2
      go_ret2
      rw [hSo.out _ hof]
      dsimp only
      rw [hyl]
      exact ⟨a5, c5, rfl, WrInts hown, (fun x h => (hown.lt x.block (by rw [h]; rfl)).1), hB⟩
end Go.Proofs.YtnfjmhppajdmaaaDoor
