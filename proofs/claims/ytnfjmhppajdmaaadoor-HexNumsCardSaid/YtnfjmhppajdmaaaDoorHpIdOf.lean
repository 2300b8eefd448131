/-
  The program's reading of a text as an id (layer 12): IdOf. New memory alone is written. Conditions: at most three thousand signs.
-/
import Derived.Test.YtnfjmhppajdmaaaDoorHpBytes
import Derived.Test.YtnfjmhppajdmaaaDoorHpId
import Derived.Test.YtnfjmhppajdmaaaDoorSteps
import Derived.Test.YtnfjmhppajdmaaaDoorHexIds
namespace Go.Proofs.YtnfjmhppajdmaaaDoor
open Go.RowKit

/-- An id's bytes out of what was read: the first 32, and noughts. -/
def padId (ys : List Int) : List Int := ys.take 32 ++ List.replicate (32 - min ys.length 32) 0
theorem padId_len (ys : List Int) : (padId ys).length = 32 := by unfold padId; rw [List.length_append, List.length_take, List.length_replicate]; omega
theorem padId_range {ys : List Int} (h : okB ys) : okB (padId ys) := by
  intro x hx
  unfold padId at hx
  rcases List.mem_append.1 hx with hx | hx
  · exact h x (List.mem_of_mem_take hx)
  · rw [List.eq_of_mem_replicate hx]; omega
theorem padId_good {ys : List Int} (h : ys.length ≤ 32) : padId ys = ys ++ List.replicate (32 - ys.length) 0 := by
  unfold padId
  rw [List.take_of_length_le h, Nat.min_eq_left h]
theorem padId_over (ys : List Int) : overV (List.replicate 32 (Value.int .u8 0)) 0 ((ys.take (min ys.length 32)).map (Value.int .u8)) = (padId ys).map (Value.int .u8) := by
  unfold overV padId
  rw [List.take_zero, List.nil_append, List.map_append, List.map_replicate, List.drop_replicate, Nat.zero_add, List.length_map, List.length_take]
  congr 2
  · by_cases h : ys.length ≤ 32
    · rw [Nat.min_eq_left h, List.take_of_length_le (Nat.le_refl _), List.take_of_length_le h]
    · rw [Nat.min_eq_right (by omega)]
  · omega
theorem unText_ok {ss ys : List Int} (h : unText ss = (ys, 0)) : ofL ss = some ys := by
  unfold unText at h
  cases ho : ofL ss with
  | none => rw [ho] at h; cases h
  | some zs => rw [ho] at h; injection h with h1 _; rw [h1]
/-- An id's text is what was read, just where it is an id's. -/
theorem id_text_iff {ss ys : List Int} (h : unText ss = (ys, 0)) : idText (padId ys) = ss ↔ ¬ (ys.length = 0 ∨ 32 < ys.length ∨ (1 < ys.length ∧ ys.getD (ys.length - 1) 0 = 0)) := by
  have ho := unText_ok h
  obtain ⟨h1, h2, _⟩ := ofL_some ho
  constructor
  · intro e
    have hr := padId_range h2
    have h3 := ofL_textL (xs := (padId ys).take (cutN (padId ys) 32)) (fun x hx => hr x (List.mem_of_mem_take hx))
    have e' : textL ((padId ys).take (cutN (padId ys) 32)) = ss := e
    rw [e', ho] at h3
    injection h3 with h3
    have hle := cutN_le (padId ys) 32
    have hpos := cutN_pos (padId ys) 32 (by decide)
    have hk : ys.length = cutN (padId ys) 32 := by
      have := congrArg List.length h3
      rw [List.length_take, padId_len] at this
      omega
    rintro (c | c | ⟨c1, c2⟩)
    · omega
    · omega
    · have h4 := cutN_end (padId ys) 32 (by omega)
      apply h4
      rw [← take_getD (padId ys) (cutN (padId ys) 32) _ (by omega), ← h3, ← hk]
      exact c2
  · intro c
    have hle : ys.length ≤ 32 := by omega
    unfold idText
    rw [padId_good hle, cutN_pad ys (by omega) (fun e => c (.inr (.inr e))) 32 hle, List.take_left']
    · exact h1
    · rfl

set_option maxRecDepth 100000 in
set_option maxHeartbeats 2000000 in
theorem hIdOf_any (s : ByteArray) (w : World) (hm : s.size ≤ 3000) :
    Calls Tryd.prog 12 #[.string s] w fun q w' => q = .returned (.tuple #[.agg ((unId (numsOf s)).1.map (Value.int .u8)).toArray, .int .i64 (unId (numsOf s)).2]) ∧ Below w.heap.size w w' := by
  have cB := fun w => hBytes_any s w hm
  have hsn := str_nums s
  obtain ⟨ss, hss⟩ : ∃ ss, numsOf s = ss := ⟨_, rfl⟩
  rw [hss] at cB hsn ⊢
  have hrg := unText_range ss
  have hor := numsOf_range s
  rw [hss] at hor
  obtain ⟨ys, e, hu⟩ : ∃ ys e, unText ss = (ys, e) := ⟨_, _, rfl⟩
  have hul := unText_len ss
  rw [hu] at cB hrg hul
  dsimp only at cB hrg hul
  have hlen2 : ys.length ≤ 3000 := by rw [← hss, numsOf_length] at hul; omega
  obtain ⟨K, hK⟩ : ∃ K, ys.length = K := ⟨_, rfl⟩
  rw [hK] at cB
  obtain ⟨R, hR⟩ : ∃ R, unId ss = R := ⟨_, rfl⟩
  have hRH := Lib.hid hR
  rw [hR]
  clear hss hR hm
  obtain ⟨Z, hZ⟩ : ∃ Z, List.replicate 32 (Value.int .u8 0) = Z := ⟨_, rfl⟩
  have hZZ : Zero Tryd.prog 30 Z := hZ ▸ zeroId9
  have hZl : Z.length = 32 := by rw [← hZ]; rfl
  have hIZ : IsRow Tryd.prog 30 Z.length := by rw [hZl]; exact rowId9
  have hZ1 := Lib.hid (show ∀ v ∈ Z, v.oneCell' = true by rw [← hZ]; exact ints_oneCell' .u8 (List.replicate 32 0))
  have hfZ := Lib.hid (show 0 + Z.length ≤ Z.length by omega)
  have hoZ := Lib.hid (overV_all Z Z rfl)
  have hZp := Lib.hid hZ
  clear hZ
  obtain ⟨G, hG⟩ : ∃ G, w.heap.size = G := ⟨_, rfl⟩
  have hGH := Lib.hid hG
  clear hG
  go_enter Tryd.func12, Tryd.ntmps12
  go_wp2_with (with_reducible refine wpList_alloc_blk rfl 30 rfl hZZ ?_)
  obtain ⟨V, hV⟩ : ∃ V, (w.alloc (.cells Z.toArray 30)).alloc (.cells Z.toArray 30) = V := ⟨_, rfl⟩
  have r1 : Blk V G 30 Z := by rw [← hV, ← hGH.out]; exact (Blk.new w _ _).alloc _
  have x1 : Blk V (G + 1) 30 Z := by rw [← hV, ← hGH.out]; exact Blk.new1 w _ _ _
  have B1 : Below G w V := by rw [← hV, ← hGH.out]; exact below2 w _ _
  rw [hV, hGH.out]
  clear hV hZZ
  refine (cB V).mono ?_
  rintro q w2 ⟨b, c, rfl, hI, hbb, b2⟩
  have r2 := r1.keep b2 r1.lt
  have x2 := x1.keep b2 x1.lt
  have B2 := B1.trans (b2.mono (Nat.le_of_lt r1.lt))
  clear r1 x1 B1 b2 cB
  have hKI : (K : Int) ≤ 3000 := by omega
  have CF : CopyFits w2 (some ⟨G + 1, 0, none⟩) b K 32 (G + 1) 0 Z.length ((ys.take (min K 32)).map (Value.int .u8)) := hI.copyFits rfl (fun _ => rfl) (by rw [hZl]; omega)
  have hcl : ((ys.take (min K 32)).map (Value.int .u8)).length = min K 32 := by rw [List.length_map, List.length_take]; omega
  go_wp2_with fail
  refine upon_copy 22 22 3 5 Tryd.underlying22 sizeU8s x2 CF (min K 32) hcl ?_
  intro w3 x3 g3
  rw [← hZp.out, ← hK, padId_over] at x3
  have r3 := r2.grown g3 (by intro e; injection e; omega)
  have B3 : Below G w w3 := B2.trans (below_of_grown g3 (Nat.le_succ _) x2.lt)
  have hpl := padId_len ys
  have hpr := padId_range hrg
  clear hcl CF hI r2 x2 B2 g3 hbb hKI
  by_cases he : e = 0
  case neg =>
    have hu2 := Lib.hid (unId_bad hu (.inl he))
    have heb : (e == 0) = false := beq_false_of_ne he
    clear hu x3
    have hZ' := hZp.out
    subst hZ'
    go_wp2_with (refine wpList_store_part (cs := List.replicate 32 (Value.int .u8 0)) rfl 30 (.tmp 2) (.tmp 23) rfl rfl rfl r3 hIZ hfZ.out hZ1.out ?_; intro w9 hR9 hg9; refine RowKit.Hid.out ?_)
    rw [hoZ.out] at hR9
    refine Lib.hid ?_
    go_wp2_with fail
    refine bodyPost_ret (results_blk_tmp rfl rfl hR9 hIZ) rfl ?_
    rw [← hRH.out, hu2.out]
    refine ⟨rfl, ?_⟩
    rw [hGH.out]
    exact B3.trans (below_of_grown hg9 (Nat.le_refl _) r3.lt)
  subst he
  have hiff := id_text_iff hu
  have cT := hIdText_any (padId ys) w3 hpl hpr
  have hseq := toList_nums (strOfNums (idText (padId ys))) (strOfNums ss)
  rw [nums_str (show okB (idText (padId ys)) from textL_range (fun x hx => hpr x (List.mem_of_mem_take hx))), nums_str hor, hsn] at hseq
  obtain ⟨X, hX⟩ : ∃ X, (padId ys).map (Value.int .u8) = X := ⟨_, rfl⟩
  have hXl : X.length = 32 := by rw [← hX, List.length_map]; exact hpl
  have hIX : IsRow Tryd.prog 30 X.length := by rw [hXl]; exact rowId9
  have hX1 := Lib.hid (show ∀ v ∈ X, v.oneCell' = true by rw [← hX]; exact ints_oneCell' _ _)
  have hfX := Lib.hid (show 0 + X.length ≤ Z.length by rw [hXl, hZl]; decide)
  have hoX := Lib.hid (overV_all Z X (by rw [hXl, hZl]))
  obtain ⟨T, hT⟩ : ∃ T, strOfNums (idText (padId ys)) = T := ⟨_, rfl⟩
  rw [hX] at x3 cT
  rw [hT] at cT hseq
  have hXH := Lib.hid hX
  clear hX hT hpr hor hrg
  by_cases hgd : ys.length = 0 ∨ 32 < ys.length ∨ (1 < ys.length ∧ ys.getD (ys.length - 1) 0 = 0)
  · have hu2 := Lib.hid (unId_bad hu (.inr hgd))
    rw [decide_eq_false (fun h => hiff.1 h hgd)] at hseq
    clear hiff hgd hu
    go_wp2_with ((first | refine wpList_load_blk rfl 30 (.tmp 4) rfl ?_ x3 hIX rfl ?_ | refine wpList_load_if (by rfl) 30 (.tmp 4) rfl ?_ x3 hIX rfl ?_); rfl)
    refine cT.mono ?_
    rintro q w4 ⟨rfl, b4⟩
    have r4 := r3.keep b4 r3.lt
    replace B3 := B3.trans (b4.mono (Nat.le_of_lt r3.lt))
    clear x3 b4 r3 cT
    have r3 := r4
    clear r4
    have hZ' := hZp.out
    subst hZ'
    go_wp2_with (refine wpList_store_part (cs := List.replicate 32 (Value.int .u8 0)) rfl 30 (.tmp 2) (.tmp 23) rfl rfl rfl r3 hIZ hfZ.out hZ1.out ?_; intro w9 hR9 hg9; refine RowKit.Hid.out ?_)
    rw [hoZ.out] at hR9
    refine Lib.hid ?_
    go_wp2_with fail
    refine bodyPost_ret (results_blk_tmp rfl rfl hR9 hIZ) rfl ?_
    rw [← hRH.out, hu2.out]
    refine ⟨rfl, ?_⟩
    rw [hGH.out]
    exact B3.trans (below_of_grown hg9 (Nat.le_refl _) r3.lt)
  · have hu2 := Lib.hid (unId_good hu hgd)
    rw [decide_eq_true (hiff.2 hgd)] at hseq
    have hpg := padId_good (show ys.length ≤ 32 by omega)
    have hpgH := Lib.hid hpg
    clear hiff hgd hu hpg hK hul hlen2 hpl
    go_wp2_with ((first | refine wpList_load_blk rfl 30 (.tmp 4) rfl ?_ x3 hIX rfl ?_ | refine wpList_load_if (by rfl) 30 (.tmp 4) rfl ?_ x3 hIX rfl ?_); rfl)
    refine cT.mono ?_
    rintro q w4 ⟨rfl, b4⟩
    have r4 := r3.keep b4 r3.lt
    have x4 := x3.keep b4 x3.lt
    replace B3 := B3.trans (b4.mono (Nat.le_of_lt r3.lt))
    clear x3 b4 r3 cT
    go_wp2_with (first
      | ((refine wpList_load_blk rfl 30 (.tmp 4) rfl ?_ x4 hIX rfl ?_); rfl)
      | (refine wpList_store_part (cs := X) rfl 30 (.tmp 2) (.tmp 24) rfl rfl rfl r4 hIX hfX.out hX1.out ?_; intro w9 hR9 hg9; refine RowKit.Hid.out ?_))
    rw [hoX.out] at hR9
    refine Lib.hid ?_
    go_wp2_with fail
    refine bodyPost_ret (results_blk_tmp rfl rfl hR9 hIX) rfl ?_
    rw [← hRH.out, hu2.out, ← hpgH.out, hXH.out]
    refine ⟨rfl, ?_⟩
    rw [hGH.out]
    exact B3.trans (below_of_grown hg9 (Nat.le_refl _) r4.lt)
end Go.Proofs.YtnfjmhppajdmaaaDoor
