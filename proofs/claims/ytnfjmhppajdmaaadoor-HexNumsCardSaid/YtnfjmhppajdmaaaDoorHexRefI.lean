/-
  The document's own text of an id, and its reading of a text as an id (layer 12): Id, IdOf. New memory alone is written. Conditions: at most a million signs.
-/
import Derived.Test.YtnfjmhppajdmaaaDoorHexRefB
import Derived.Test.YtnfjmhppajdmaaaDoorRdIds
import Derived.Test.YtnfjmhppajdmaaaDoorRdPad
namespace Go.Proofs.YtnfjmhppajdmaaaDoor
open Go.RowKit

theorem slice_to12 {P : Program} {t e : TypeId} {n g off : Nat} (hu : P.underlying t = some (.array n e)) (hs : (P.info? e).map (·.size) = some 1) (h : Nat) (hh : h ≤ n) (w : World) :
    (Instr.sliceAt t (.pointer (some ⟨g, off, none⟩)) none (some (.int .i64 (h : Int))) none).run P w = .ok (.slice (some ⟨g, off, none⟩) h n) w := by
  have hn : P.arrayLen t = n := by simp [Program.arrayLen, hu]
  have he : P.elem t = e := by simp [Program.elem, hu]
  have hrun := run_sliceAt_array_h w t ⟨g, off, none⟩ (by rw [hn, he]; exact hu) .i64 (h : Int) (by omega) (by rw [hn]; omega)
  have hsz : (sizeOf e).run P w = .ok 1 w := by
    cases hq : P.info? e with
    | none => simp [hq] at hs
    | some i => simp [sizeOf, typeInfo, hq, (by simpa [hq] using hs : i.size = 1)]
  rw [hn, he, hsz] at hrun
  rw [hrun]
  unfold slicedAt
  have : (⟨g, off, none⟩ : Addr).add (0 * 1) = ⟨g, off, none⟩ := by simp [Addr.add_mid]
  simp [this]
theorem cell_far (w : World) (p a : Addr) (v : Value) (h : a.block ≠ p.block) : (w.setCell p v).cell? a = w.cell? a := World.cell?_of_block (w := w) (Below.heap_setCell w p v a.block h)
theorem cutN_step {xs : List Int} {n : Nat} (h1 : 1 < n) (h0 : xs.getD (n - 1) 0 = 0) : cutN xs n = cutN xs (n - 1) := by
  obtain ⟨k, rfl⟩ : ∃ k, n = k + 1 := ⟨n - 1, by omega⟩
  rw [cutN, if_pos ⟨by omega, h0⟩]
  rfl
theorem cutN_stop {xs : List Int} {n : Nat} (hn : 0 < n) (h : ¬ (1 < n ∧ xs.getD (n - 1) 0 = 0)) : cutN xs n = n := by
  obtain ⟨k, rfl⟩ : ∃ k, n = k + 1 := ⟨n - 1, by omega⟩
  rw [cutN, if_neg (fun e => h ⟨by omega, e.2⟩)]
theorem blk_take {w : World} {g : Nat} {t : TypeId} {xs : List Int} {m n : Nat} (h : Blk w g t (xs.map (Value.int .u8))) (hl : xs.length = m) (hn : n ≤ m) : Ints .u8 w (some ⟨g, 0, none⟩) n m (xs.take n) := by
  refine ⟨by rw [List.length_take]; omega, hn, .inr ⟨g, 0, rfl, fun i hi => ?_⟩⟩
  rw [Nat.zero_add, h.cell, List.getElem?_map, List.getElem?_eq_getElem (by omega), List.getD_eq_getElem?_getD, List.getElem?_take_of_lt hi, List.getElem?_eq_getElem (by omega)]
  rfl

set_option maxRecDepth 100000 in
set_option maxHeartbeats 1000000 in
theorem rId_any (xs : List Int) (hl : xs.length = 32) (hr : okB xs) (w : World) :
    Calls Tryd.prog 13 #[.agg (xs.map (Value.int .u8)).toArray] w fun q w' => q = .returned (.string (strOfNums (idText xs))) ∧ Below w.heap.size w w' := by
  obtain ⟨G, hG⟩ : ∃ G, w.heap.size = G := ⟨_, rfl⟩
  have hsl := Lib.hid (fun n (h : n ≤ 32) w => slice_to12 (P := Tryd.prog) (t := 30) (e := 5) (n := 32) (g := G) (off := 0) Tryd.underlying30 sizeU8s n h w)
  have hk : Blk (w.alloc (.cells (xs.map (Value.int .u8)).toArray 30)) G 30 (xs.map (Value.int .u8)) := by rw [← hG]; exact Blk.new w _ _
  have hB := below1 w (.cells (xs.map (Value.int .u8)).toArray 30)
  obtain ⟨X, hX⟩ : ∃ X, xs.map (Value.int .u8) = X := ⟨_, rfl⟩
  have hXH := Lib.hid hX
  obtain ⟨S, hS⟩ : ∃ S, strOfNums (idText xs) = S := ⟨_, rfl⟩
  have hSH := Lib.hid hS
  have hGH := Lib.hid hG
  rw [hX] at hk hB ⊢
  rw [hS]
  clear hX hS hG
  go_enter Tryd.func13, Tryd.ntmps13
  go_wp2_with fail
  obtain ⟨V, hV⟩ : ∃ V, w.alloc (.cells X.toArray 30) = V := ⟨_, rfl⟩
  rw [hV] at hk hB ⊢
  rw [hGH.out]
  clear hV
  go_loopw [3] (fun i wr => ∃ n : Nat, 0 < n ∧ n ≤ 32 ∧ i = .int .i64 n ∧ cutN xs 32 = cutN xs n ∧ wr = V) (fun i _ => (intOf i).toNat)
  case atStart => exact ⟨32, by decide, Nat.le_refl _, rfl, rfl, rfl⟩
  case round =>
    obtain ⟨n, h0, h32, rfl, hcut, hwr⟩ := hrel
    have hwr' := hwr.symm
    subst hwr'
    have stop : ∀ (hc : ¬ (1 < n ∧ xs.getD (n - 1) 0 = 0)), Calls Tryd.prog 9 #[.slice (some ⟨G, 0, none⟩) n 32] V fun q w' => q = .returned (.string S) ∧ Below V.heap.size V w' := by
      intro hc
      have hI := blk_take (hXH.out.symm ▸ hk) hl h32
      have h := rText_any _ n 32 _ V hI (fun x hx => hr x (List.mem_of_mem_take hx)) (by omega)
      have e : strOfNums (textL (xs.take n)) = S := by rw [← hSH.out]; unfold idText; rw [hcut, cutN_stop h0 hc]
      rw [e] at h
      exact h
    have stopH := Lib.hid stop
    have hs := hsl.out n h32
    have hn0 : (0 : Int) < (n : Int) := by omega
    have hn32 : (n : Int) ≤ 32 := by omega
    clear stop
    by_cases h1 : 1 < n
    · have h1i : (1 : Int) < (n : Int) := by omega
      have hc := hk.cell (n - 1)
      rw [← hXH.out, List.getElem?_map, List.getElem?_eq_getElem (by omega)] at hc
      have hv : xs.getD (n - 1) 0 = xs[n - 1]'(by omega) := by rw [List.getD_eq_getElem?_getD, List.getElem?_eq_getElem (by omega)]; rfl
      rw [Option.map_some, ← hv] at hc
      by_cases hz : xs.getD (n - 1) 0 = 0
      · rw [hz] at hc
        have hcut2 := cutN_step h1 hz
        have hcutH := Lib.hid (hcut.trans hcut2)
        have h1H := Lib.hid h1
        clear hcut hcut2 hz h1 hv hs
        go_wp2
        exact ⟨⟨n - 1, by have := h1H.out; omega, by have := h1H.out; omega, by congr 1; have := h1H.out; omega, hcutH.out, by trivial⟩, by simp only [intOf]; have := h1H.out; omega⟩
      · have hst := stopH.out (fun h => hz h.2)
        obtain ⟨v, hvv⟩ : ∃ v, xs.getD (n - 1) 0 = v := ⟨_, rfl⟩
        rw [hvv] at hc hz
        have hzb : (v == 0) = false := beq_false_of_ne hz
        clear hcut hv hvv h1 hsl
        go_wp2_with fail
        refine hst.mono ?_
        rintro q w1 ⟨rfl, b1⟩
        go_wp2
        go_ret
        exact ⟨rfl, hB.trans (b1.mono hB.size)⟩
    · have h1i : ¬ (1 : Int) < (n : Int) := by omega
      have hst := stopH.out (fun h => h1 h.1)
      clear hcut h1
      go_wp2_with fail
      refine hst.mono ?_
      rintro q w1 ⟨rfl, b1⟩
      go_wp2
      go_ret
      exact ⟨rfl, hB.trans (b1.mono hB.size)⟩

theorem unId_bad {ss ys : List Int} {e : Int} (h : unText ss = (ys, e)) (hc : e ≠ 0 ∨ ys.length = 0 ∨ 32 < ys.length ∨ (1 < ys.length ∧ ys.getD (ys.length - 1) 0 = 0)) : unId ss = (List.replicate 32 0, 4) := by
  unfold unText at h
  unfold unId
  cases ho : ofL ss with
  | none => rfl
  | some zs =>
    rw [ho] at h
    injection h with h1 h2
    subst h1; subst h2
    exact if_pos (hc.resolve_left (fun h => h rfl))
theorem unId_good {ss ys : List Int} (h : unText ss = (ys, 0)) (hc : ¬ (ys.length = 0 ∨ 32 < ys.length ∨ (1 < ys.length ∧ ys.getD (ys.length - 1) 0 = 0))) : unId ss = (ys ++ List.replicate (32 - ys.length) 0, 0) := by
  unfold unText at h
  unfold unId
  cases ho : ofL ss with
  | none => rw [ho] at h; cases h
  | some zs =>
    rw [ho] at h
    injection h with h1 h2
    subst h1
    exact if_neg hc
theorem unText_range (ss : List Int) : okB (unText ss).1 := by
  unfold unText
  split
  · rename_i ys h; exact (ofL_some h).2.1
  · intro x hx; cases hx
/-- The first j bytes, and noughts. -/
def part (ys : List Int) (j : Nat) : List Value := (ys.take j ++ List.replicate (32 - j) 0).map (Value.int .u8)
theorem part_len (ys : List Int) (j : Nat) (h : j ≤ ys.length) (h2 : ys.length ≤ 32) : (part ys j).length = 32 := by simp [part]; omega
theorem part_set (ys : List Int) (j : Nat) (h : j < ys.length) (h2 : ys.length ≤ 32) : (part ys j).set j (.int .u8 (ys.getD j 0)) = part ys (j + 1) := by
  unfold part
  rw [← List.map_set, List.set_append_right _ _ (by rw [List.length_take]; omega), List.length_take, Nat.min_eq_left (by omega), Nat.sub_self, show 32 - j = (32 - (j + 1)) + 1 by omega, List.replicate_succ, List.set_cons_zero, List.take_succ_eq_append_getElem h, List.append_assoc, List.getD_eq_getElem?_getD, List.getElem?_eq_getElem h]
  rfl
theorem zeroPart (ys : List Int) : Zero Tryd.prog 30 (part ys 0) := zeroId9

set_option maxRecDepth 100000 in
set_option maxHeartbeats 2000000 in
theorem rIdOf_any (s : ByteArray) (w : World) (hm : s.size ≤ 1000000) :
    Calls Tryd.prog 14 #[.string s] w fun q w' => q = .returned (.tuple #[.agg ((unId (numsOf s)).1.map (Value.int .u8)).toArray, .int .i64 (unId (numsOf s)).2]) ∧ Below w.heap.size w w' := by
  have cB := fun w => rBytes_any s w hm
  obtain ⟨ss, hss⟩ : ∃ ss, numsOf s = ss := ⟨_, rfl⟩
  rw [hss] at cB ⊢
  have hrg := unText_range ss
  obtain ⟨ys, e, hu⟩ : ∃ ys e, unText ss = (ys, e) := ⟨_, _, rfl⟩
  have hul := unText_len ss
  rw [hu] at cB hrg hul
  dsimp only at cB hrg hul
  have hlen2 : ys.length ≤ 1000000 := by rw [← hss, numsOf_length] at hul; omega
  obtain ⟨K, hK⟩ : ∃ K, ys.length = K := ⟨_, rfl⟩
  rw [hK] at cB
  obtain ⟨R, hR⟩ : ∃ R, unId ss = R := ⟨_, rfl⟩
  have hRH := Lib.hid hR
  rw [hR]
  clear hss hR hm
  obtain ⟨Z, hZ⟩ : ∃ Z, part ys 0 = Z := ⟨_, rfl⟩
  have hZZ : Zero Tryd.prog 30 Z := hZ ▸ zeroPart ys
  have hZl : Z.length = 32 := by rw [← hZ]; simp [part]
  have hIZ : IsRow Tryd.prog 30 Z.length := by rw [hZl]; exact rowId9
  have hZ1 := Lib.hid (show ∀ v ∈ Z, v.oneCell' = true by rw [← hZ]; exact ints_oneCell' _ _)
  have hfit := Lib.hid (show 0 + Z.length ≤ Z.length by omega)
  have hov := Lib.hid (overV_all Z Z rfl)
  have hZH := Lib.hid (show (List.replicate 32 (0 : Int)).map (Value.int .u8) = Z by rw [← hZ]; rfl)
  have hZp := Lib.hid hZ
  clear hZ
  obtain ⟨G, hG⟩ : ∃ G, w.heap.size = G := ⟨_, rfl⟩
  have hGH := Lib.hid hG
  clear hG
  go_enter Tryd.func14, Tryd.ntmps14
  go_wp2_with (with_reducible refine wpList_alloc_blk rfl 30 rfl hZZ ?_)
  obtain ⟨V, hV⟩ : ∃ V, (w.alloc (.cells Z.toArray 30)).alloc (.cells Z.toArray 30) = V := ⟨_, rfl⟩
  have r1 : Blk V G 30 Z := by rw [← hV, ← hGH.out]; exact (Blk.new w _ _).alloc _
  have x1 : Blk V (G + 1) 30 Z := by rw [← hV, ← hGH.out]; exact Blk.new1 w _ _ _
  have B1 : Below G w V := by rw [← hV, ← hGH.out]; exact below2 w _ _
  rw [hV, hGH.out]
  clear hV hZZ
  refine (cB V).mono ?_
  rintro q w2 ⟨b, c, rfl, hI, hbb, b2⟩
  have r2 := r1.keep b2 r1.lt
  have x2 := x1.keep b2 x1.lt
  have B2 := B1.trans (b2.mono (Nat.le_of_lt r1.lt))
  have hGl := r2.lt
  have hx1l := Lib.hid x1.lt
  clear r1 x1 B1 b2 cB
  have hKI : (K : Int) ≤ 1000000 := by omega
  by_cases he : e = 0
  case neg =>
    have hu2 := Lib.hid (unId_bad hu (.inl he))
    have heb : (e == 0) = false := beq_false_of_ne he
    clear hu
    go_wp2_with (first
      | ((refine wpList_load_blk rfl 30 (.tmp 4) rfl ?_ x2 hIZ rfl ?_); rfl)
      | ((with_reducible refine wpList_store_part rfl 30 (.tmp 2) (.tmp 39) rfl ?_ ?_ r2 hIZ hfit.out hZ1.out ?_); rfl; rfl; intro w9 hR9 hg9))
    rw [hov.out] at hR9
    (try simp only [Exit.inBlock, Exit.then])
    refine bodyPost_ret (results_blk_tmp rfl rfl hR9 hIZ) rfl ?_
    rw [← hRH.out, hu2.out, hZH.out]
    refine ⟨rfl, ?_⟩
    rw [hGH.out]
    exact B2.trans (below_of_grown hg9 (Nat.le_refl _) hGl)
  subst he
  by_cases k0 : K = 0
  · have hu2 := Lib.hid (unId_bad hu (.inr (.inl (by omega))))
    have k0i : (K : Int) = 0 := by omega
    clear hu k0
    go_wp2_with (first
      | ((refine wpList_load_blk rfl 30 (.tmp 4) rfl ?_ x2 hIZ rfl ?_); rfl)
      | ((with_reducible refine wpList_store_part rfl 30 (.tmp 2) (.tmp 39) rfl ?_ ?_ r2 hIZ hfit.out hZ1.out ?_); rfl; rfl; intro w9 hR9 hg9))
    rw [hov.out] at hR9
    (try simp only [Exit.inBlock, Exit.then])
    refine bodyPost_ret (results_blk_tmp rfl rfl hR9 hIZ) rfl ?_
    rw [← hRH.out, hu2.out, hZH.out]
    refine ⟨rfl, ?_⟩
    rw [hGH.out]
    exact B2.trans (below_of_grown hg9 (Nat.le_refl _) hGl)
  have k0b : ((K : Int) == 0) = false := beq_false_of_ne (by omega)
  by_cases k1 : 32 < K
  · have hu2 := Lib.hid (unId_bad hu (.inr (.inr (.inl (by omega)))))
    have k1i : 32 < (K : Int) := by omega
    clear hu k0
    go_wp2_with (first
      | ((refine wpList_load_blk rfl 30 (.tmp 4) rfl ?_ x2 hIZ rfl ?_); rfl)
      | ((with_reducible refine wpList_store_part rfl 30 (.tmp 2) (.tmp 39) rfl ?_ ?_ r2 hIZ hfit.out hZ1.out ?_); rfl; rfl; intro w9 hR9 hg9))
    rw [hov.out] at hR9
    (try simp only [Exit.inBlock, Exit.then])
    refine bodyPost_ret (results_blk_tmp rfl rfl hR9 hIZ) rfl ?_
    rw [← hRH.out, hu2.out, hZH.out]
    refine ⟨rfl, ?_⟩
    rw [hGH.out]
    exact B2.trans (below_of_grown hg9 (Nat.le_refl _) hGl)
  have k1i : ¬ 32 < (K : Int) := by omega
  have hIat := Lib.hid hI
  obtain ⟨lb, lo, rfl, hat⟩ : ∃ lb lo, b = some ⟨lb, lo, none⟩ ∧ ∀ i, i < K → w2.cell? ⟨lb, lo + i, none⟩ = some (.int .u8 (ys.getD i 0)) := by
    rcases hI.2.2 with h | ⟨lb, lo, h, hc⟩
    · exact absurd h k0
    · exact ⟨lb, lo, h, hc⟩
  have hbG := Lib.hid (show lb ≠ G + 1 by have h1 := hbb _ rfl; have h2 := hx1l.out; intro e; dsimp only at h1; omega)
  have hlast := hat (K - 1) (by omega)
  obtain ⟨v, hv⟩ : ∃ v, ys.getD (K - 1) 0 = v := ⟨_, rfl⟩
  rw [hv] at hlast
  by_cases k2 : 1 < K ∧ v = 0
  · have hu2 := Lib.hid (unId_bad hu (.inr (.inr (.inr ⟨by omega, by rw [hK, hv]; exact k2.2⟩))))
    have k2i : 1 < (K : Int) := by omega
    obtain ⟨L, hL⟩ : ∃ L, K - 1 = L := ⟨_, rfl⟩
    have k3 : (K : Int) - 1 = (L : Int) := by omega
    rw [hL, k2.2] at hlast
    have k4 : (L : Int) < (K : Int) := by omega
    clear hu k0 k1 k2 hv hL hat
    go_wp2_with (first
      | ((refine wpList_load_blk rfl 30 (.tmp 4) rfl ?_ x2 hIZ rfl ?_); rfl)
      | ((with_reducible refine wpList_store_part rfl 30 (.tmp 2) (.tmp 39) rfl ?_ ?_ r2 hIZ hfit.out hZ1.out ?_); rfl; rfl; intro w9 hR9 hg9))
    rw [hov.out] at hR9
    (try simp only [Exit.inBlock, Exit.then])
    refine bodyPost_ret (results_blk_tmp rfl rfl hR9 hIZ) rfl ?_
    rw [← hRH.out, hu2.out, hZH.out]
    refine ⟨rfl, ?_⟩
    rw [hGH.out]
    exact B2.trans (below_of_grown hg9 (Nat.le_refl _) hGl)
  have hu2 := unId_good hu (by rw [hK, hv]; omega)
  rw [hK] at hu2
  have hu2H := Lib.hid hu2
  clear hu hu2
  have hKp : 0 < K := by omega
  have hK32 : K ≤ 32 := by omega
  have x3 : Blk w2 (G + 1) 30 (part ys 0) := by rw [hZp.out]; exact x2
  have hvv := Lib.hid hv
  have hKH := Lib.hid hK
  have r3 := r2
  by_cases k3 : 1 < K
  · have hv0 : (v == 0) = false := beq_false_of_ne (fun h => k2 ⟨k3, h⟩)
    have k2i : 1 < (K : Int) := by omega
    obtain ⟨L, hL⟩ : ∃ L, K - 1 = L := ⟨_, rfl⟩
    have k5 : (K : Int) - 1 = (L : Int) := by omega
    have k4 : (L : Int) < (K : Int) := by omega
    rw [hL] at hlast
    clear k2 hv hL k0 k1 hK hI x2 r2
    go_wp2_with fail
    go_loopw [7] (fun i wr => ∃ j : Nat, j ≤ K ∧ i = .int .i64 j ∧ Blk wr G 30 Z ∧ Blk wr (G + 1) 30 (part ys j) ∧ (∀ i, i < K → wr.cell? ⟨lb, lo + i, none⟩ = some (.int .u8 (ys.getD i 0))) ∧ Below G w wr) (fun i _ => K - (intOf i).toNat)
    case atStart => exact ⟨0, Nat.zero_le _, rfl, r3, x3, hat, B2⟩
    case round =>
      clear r3 x3 B2 hGl
      obtain ⟨j, hj, rfl, r4, x4, hat, B4⟩ := hrel
      have hpl := part_len ys j (by have := hKH.out; omega) (by have := hKH.out; omega)
      by_cases hlt : j < K
      · have hji : (j : Int) < (K : Int) := by omega
        have hj32 : (j : Int) < 32 := by omega
        have hcj := hat j hlt
        obtain ⟨u0, hc0⟩ : ∃ u0, wr.cell? ⟨G + 1, j, none⟩ = some u0 := ⟨_, (x4.cell j).trans (List.getElem?_eq_getElem (by omega))⟩
        have hf0 := x4.frozen j
        have x5 := x4.set j (.int .u8 (ys.getD j 0))
        rw [part_set ys j (by have := hKH.out; omega) (by have := hKH.out; omega)] at x5
        have gs := grown_setCell wr (G + 1) j (.int .u8 (ys.getD j 0))
        have r5 := r4.grown gs (by intro e; injection e; omega)
        have B5 := B4.setCell (p := ⟨G + 1, j, none⟩) (Nat.le_succ _) (.int .u8 (ys.getD j 0))
        have hne : lb ≠ G + 1 := hbG.out
        have hat5 : ∀ i, i < K → (wr.setCell ⟨G + 1, j, none⟩ (.int .u8 (ys.getD j 0))).cell? ⟨lb, lo + i, none⟩ = some (.int .u8 (ys.getD i 0)) := fun i hi => by rw [cell_far _ _ _ _ hne]; exact hat i hi
        obtain ⟨y, hy⟩ : ∃ y, ys.getD j 0 = y := ⟨_, rfl⟩
        rw [hy] at hcj x5 r5 B5 hat5
        have hltH := Lib.hid hlt
        have hat5H := Lib.hid hat5
        clear hlt hj hat hpl r4 x4 B4 gs hy hat5
        go_wp2
        exact ⟨⟨j + 1, by have := hltH.out; omega, by congr 1, r5, x5, hat5H.out, B5⟩, by simp only [intOf]; have := hltH.out; omega⟩
      · obtain rfl : j = K := by omega
        have hji : ¬ (j : Int) < (j : Int) := by omega
        obtain ⟨Y, hY⟩ : ∃ Y, part ys j = Y := ⟨_, rfl⟩
        have hYl : Y.length = 32 := by rw [← hY]; exact hpl
        have hYe := Lib.hid (show (ys ++ List.replicate (32 - j) 0).map (Value.int .u8) = Y by rw [← hY]; unfold part; rw [List.take_of_length_le (by have := hKH.out; omega)])
        have hIY : IsRow Tryd.prog 30 Y.length := by rw [hYl]; exact rowId9
        have hY1 := Lib.hid (show ∀ v ∈ Y, v.oneCell' = true by rw [← hY]; exact ints_oneCell' _ _)
        have hfY := Lib.hid (show 0 + Y.length ≤ Z.length by rw [hYl, hZl]; decide)
        have hoY := Lib.hid (overV_all Z Y (by rw [hYl, hZl]))
        have hGl := r4.lt
        rw [hY] at x4
        clear hY hlt hj hat hpl
        go_wp2_with (first
          | ((refine wpList_load_blk rfl 30 (.tmp 4) rfl ?_ x4 hIY rfl ?_); rfl)
          | ((with_reducible refine wpList_store_part rfl 30 (.tmp 2) (.tmp 52) rfl ?_ ?_ r4 hIY hfY.out hY1.out ?_); rfl; rfl; intro w9 hR9 hg9))
        rw [hoY.out] at hR9
        (try simp only [Exit.inBlock, Exit.then])
        refine bodyPost_ret (results_blk_tmp rfl rfl hR9 hIY) rfl ?_
        rw [← hRH.out, hu2H.out, hYe.out]
        refine ⟨rfl, ?_⟩
        rw [hGH.out]
        exact B4.trans (below_of_grown hg9 (Nat.le_refl _) hGl)
  · have k2i : ¬ 1 < (K : Int) := by omega
    clear k2 hv k0 k1 hK hI x2 r2 hlast
    go_wp2_with fail
    go_loopw [7] (fun i wr => ∃ j : Nat, j ≤ K ∧ i = .int .i64 j ∧ Blk wr G 30 Z ∧ Blk wr (G + 1) 30 (part ys j) ∧ (∀ i, i < K → wr.cell? ⟨lb, lo + i, none⟩ = some (.int .u8 (ys.getD i 0))) ∧ Below G w wr) (fun i _ => K - (intOf i).toNat)
    case atStart => exact ⟨0, Nat.zero_le _, rfl, r3, x3, hat, B2⟩
    case round =>
      clear r3 x3 B2 hGl
      obtain ⟨j, hj, rfl, r4, x4, hat, B4⟩ := hrel
      have hpl := part_len ys j (by have := hKH.out; omega) (by have := hKH.out; omega)
      by_cases hlt : j < K
      · have hji : (j : Int) < (K : Int) := by omega
        have hj32 : (j : Int) < 32 := by omega
        have hcj := hat j hlt
        obtain ⟨u0, hc0⟩ : ∃ u0, wr.cell? ⟨G + 1, j, none⟩ = some u0 := ⟨_, (x4.cell j).trans (List.getElem?_eq_getElem (by omega))⟩
        have hf0 := x4.frozen j
        have x5 := x4.set j (.int .u8 (ys.getD j 0))
        rw [part_set ys j (by have := hKH.out; omega) (by have := hKH.out; omega)] at x5
        have gs := grown_setCell wr (G + 1) j (.int .u8 (ys.getD j 0))
        have r5 := r4.grown gs (by intro e; injection e; omega)
        have B5 := B4.setCell (p := ⟨G + 1, j, none⟩) (Nat.le_succ _) (.int .u8 (ys.getD j 0))
        have hne : lb ≠ G + 1 := hbG.out
        have hat5 : ∀ i, i < K → (wr.setCell ⟨G + 1, j, none⟩ (.int .u8 (ys.getD j 0))).cell? ⟨lb, lo + i, none⟩ = some (.int .u8 (ys.getD i 0)) := fun i hi => by rw [cell_far _ _ _ _ hne]; exact hat i hi
        obtain ⟨y, hy⟩ : ∃ y, ys.getD j 0 = y := ⟨_, rfl⟩
        rw [hy] at hcj x5 r5 B5 hat5
        have hltH := Lib.hid hlt
        have hat5H := Lib.hid hat5
        clear hlt hj hat hpl r4 x4 B4 gs hy hat5
        go_wp2
        exact ⟨⟨j + 1, by have := hltH.out; omega, by congr 1, r5, x5, hat5H.out, B5⟩, by simp only [intOf]; have := hltH.out; omega⟩
      · obtain rfl : j = K := by omega
        have hji : ¬ (j : Int) < (j : Int) := by omega
        obtain ⟨Y, hY⟩ : ∃ Y, part ys j = Y := ⟨_, rfl⟩
        have hYl : Y.length = 32 := by rw [← hY]; exact hpl
        have hYe := Lib.hid (show (ys ++ List.replicate (32 - j) 0).map (Value.int .u8) = Y by rw [← hY]; unfold part; rw [List.take_of_length_le (by have := hKH.out; omega)])
        have hIY : IsRow Tryd.prog 30 Y.length := by rw [hYl]; exact rowId9
        have hY1 := Lib.hid (show ∀ v ∈ Y, v.oneCell' = true by rw [← hY]; exact ints_oneCell' _ _)
        have hfY := Lib.hid (show 0 + Y.length ≤ Z.length by rw [hYl, hZl]; decide)
        have hoY := Lib.hid (overV_all Z Y (by rw [hYl, hZl]))
        have hGl := r4.lt
        rw [hY] at x4
        clear hY hlt hj hat hpl
        go_wp2_with (first
          | ((refine wpList_load_blk rfl 30 (.tmp 4) rfl ?_ x4 hIY rfl ?_); rfl)
          | ((with_reducible refine wpList_store_part rfl 30 (.tmp 2) (.tmp 52) rfl ?_ ?_ r4 hIY hfY.out hY1.out ?_); rfl; rfl; intro w9 hR9 hg9))
        rw [hoY.out] at hR9
        (try simp only [Exit.inBlock, Exit.then])
        refine bodyPost_ret (results_blk_tmp rfl rfl hR9 hIY) rfl ?_
        rw [← hRH.out, hu2H.out, hYe.out]
        refine ⟨rfl, ?_⟩
        rw [hGH.out]
        exact B4.trans (below_of_grown hg9 (Nat.le_refl _) hGl)
end Go.Proofs.YtnfjmhppajdmaaaDoor