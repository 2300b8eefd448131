/-
  A move as a matrix of 32 sums: what 'of' reads out of one in memory; a closure that squares the one that it captures. New memory and the captured block alone are written.
-/
import Derived.Test.YtlningdlddnnkaaDoorCpTab
import Derived.Test.YtlningdlddnnkaaDoorSeqS
namespace Go.Proofs.YtlningdlddnnkaaDoor
open Go.RowKit

/-- An element of an array that is a value. -/
theorem run_index_row11 {P : Program} (t e : TypeId) (n : Nat) (ht : P.underlying t = some (.array n e)) (he : P.plainKey e = true) (hs : (P.info? e).map (·.size) = some 1) (cs : Array Value) (kd : IntKind) (k : Nat) (hk : k < n) (v : Value) (hv : cs[k]? = some v) (w : World) :
    (Instr.index t (.agg cs) (.int kd (k : Int))).run P w = .ok v w := by
  have hsz : (sizeOf e).run P w = .ok 1 w := by
    cases hq : P.info? e with
    | none => simp [hq] at hs
    | some i => simp [sizeOf, typeInfo, hq, (by simpa [hq] using hs : i.size = 1)]
  have hp : (part e cs (k * 1)).run P w = .ok v w := run_part_plain _ he (by rw [Nat.mul_one]; exact hv)
  simp [Instr.index, asIntOf, run_underlying ht, hk, hsz, -Nat.mul_one, hp]

/-- A move by k bits, as a row of 32 sums. -/
def matF (k : Nat) (i : Nat) : Int := nv (mvn k (1#32 <<< i))
theorem size32m : (Tryd.prog.info? 46).map (·.size) = some 32 := by kernel_rfl
theorem row32m : IsRow Tryd.prog 46 32 := IsRow.array Tryd.underlying46 size32m

set_option maxRecDepth 100000 in
set_option maxHeartbeats 1000000 in
theorem cOfM_any (k : Nat) (X : BitVec 32) (g : Nat) (w : World) (hg : Blk w g 46 (rowZ 32 (matF k))) : Calls Tryd.prog 20 #[.pointer (some ⟨g, 0, none⟩), .int .u32 (nv X)] w fun q w' => q = .returned (.int .u32 (nv (mvn k X))) ∧ Below w.heap.size w w' := by
  have hat := Lib.hid (fun i (h : i < 32) => rowZ_at 32 (matF k) i h)
  obtain ⟨R, hR⟩ : ∃ R, rowZ 32 (matF k) = R := ⟨_, rfl⟩
  rw [hR] at hat hg
  have hlt0 := hg.lt
  clear hR
  obtain ⟨x, hx⟩ : ∃ x, nv X = x := ⟨_, rfl⟩
  have hxH := Lib.hid hx
  have x0 := nv_lo X
  have x1 := nv_hi X
  rw [hx] at x0 x1
  rw [hx]
  clear hx
  have hb := Below.refl w.heap.size w
  obtain ⟨N, hN⟩ : ∃ N, w.heap.size = N := ⟨_, rfl⟩
  have hNH := Lib.hid hN
  rw [hN] at hb hlt0 ⊢
  clear hN
  go_enter Tryd.func20, Tryd.ntmps20
  go_wp2_with fail
  go_loopw [5, 9] (fun s i wr => ∃ j : Nat, j ≤ 32 ∧ i = .int .i64 j ∧ s = .int .u32 (nv (mvn k (below X j))) ∧ Blk wr g 46 R ∧ Below N w wr) (fun _ i _ => 32 - (intOf i).toNat)
  case atStart => exact ⟨0, Nat.zero_le _, rfl, by rw [below, mvn_zero]; rfl, hg, hb⟩
  case round =>
    clear hg hb
    obtain ⟨j, hj, rfl, rfl, hk, hB⟩ := hrel
    by_cases hlt : j < 32
    · have hji : (j : Int) < 32 := by omega
      have hso := shr_odd' X j
      have hms := mat_step k X j
      have hRj := hat.out j hlt
      have a1 := and1_32 (x / 2 ^ j)
      rw [hxH.out] at hso
      obtain ⟨y, hy⟩ : ∃ y, nv (mvn k (below X j)) = y := ⟨_, rfl⟩
      obtain ⟨z, hz⟩ : ∃ z, matF k j = z := ⟨_, rfl⟩
      rw [hz] at hRj
      rw [hy]
      have hltH := Lib.hid hlt
      clear hlt hj
      go_wp2_with fail
      obtain ⟨U, hU⟩ : ∃ U, wr.drew = U := ⟨_, rfl⟩
      have k4 : Blk U g 46 R := by rw [← hU]; exact hk
      have B4 : Below N w U := by rw [← hU]; exact hB.drew
      clear hk hB
      refine region_seqS (fun w' => Blk w' g 46 R) (by kernel_rfl) (by rw [hU]; exact k4) ?_
      simp only [pairs, Nat.reduceAdd]
      rw [hU]
      clear hU
      repeat (first
        | (refine SeqS.take (v := ?_) (by first | assumption | trivial) (by kernel_rfl) (by decide +kernel) (by decide +kernel) (Or.inl ⟨by rfl, ?_⟩) ?_
           rotate_left
           focus
             intro w' hb'
             go_simp
             with_reducible rfl
           simp only [Act.put, List.setIfInBounds_toArray, List.set_cons_zero, List.set_cons_succ])
        | (refine SeqS.take (v := ?_) (by first | assumption | trivial) (by kernel_rfl) (by decide +kernel) (by decide +kernel) (Or.inl ⟨by rfl, ?_⟩) ?_
           rotate_left
           focus
             intro w' hb'
             have d0 : w'.cell? ⟨g, j, none⟩ = some (.int .u32 z) := (hb'.cell j).trans hRj
             go_simp
             with_reducible rfl
           simp only [Act.put, List.setIfInBounds_toArray, List.set_cons_zero, List.set_cons_succ])
        | (refine SeqS.take (v := undef) (by first | assumption | trivial) (by kernel_rfl) (by decide +kernel) (by decide +kernel) (Or.inr ⟨by rfl, rfl⟩) ?_
           simp only [Act.put, List.setIfInBounds_toArray, List.set_cons_zero, List.set_cons_succ])
        | (refine SeqS.take1 (v := ?_) (by first | assumption | trivial) (by kernel_rfl) (by decide +kernel) (by decide +kernel) (Or.inl ⟨by rfl, ?_⟩) ?_
           rotate_left
           focus
             intro w' hb'
             go_simp
             with_reducible rfl
           simp only [Act.put, List.setIfInBounds_toArray, List.set_cons_zero, List.set_cons_succ])
        | (refine SeqS.take1 (v := ?_) (by first | assumption | trivial) (by kernel_rfl) (by decide +kernel) (by decide +kernel) (Or.inl ⟨by rfl, ?_⟩) ?_
           rotate_left
           focus
             intro w' hb'
             have d0 : w'.cell? ⟨g, j, none⟩ = some (.int .u32 z) := (hb'.cell j).trans hRj
             go_simp
             with_reducible rfl
           simp only [Act.put, List.setIfInBounds_toArray, List.set_cons_zero, List.set_cons_succ])
        | (refine SeqS.take1 (v := undef) (by first | assumption | trivial) (by kernel_rfl) (by decide +kernel) (by decide +kernel) (Or.inr ⟨by rfl, rfl⟩) ?_
           simp only [Act.put, List.setIfInBounds_toArray, List.set_cons_zero, List.set_cons_succ])
        | (refine SeqS.take2 (v := ?_) (by first | assumption | trivial) (by kernel_rfl) (by decide +kernel) (by decide +kernel) (Or.inl ⟨by rfl, ?_⟩) ?_
           rotate_left
           focus
             intro w' hb'
             go_simp
             with_reducible rfl
           simp only [Act.put, List.setIfInBounds_toArray, List.set_cons_zero, List.set_cons_succ])
        | (refine SeqS.take2 (v := ?_) (by first | assumption | trivial) (by kernel_rfl) (by decide +kernel) (by decide +kernel) (Or.inl ⟨by rfl, ?_⟩) ?_
           rotate_left
           focus
             intro w' hb'
             have d0 : w'.cell? ⟨g, j, none⟩ = some (.int .u32 z) := (hb'.cell j).trans hRj
             go_simp
             with_reducible rfl
           simp only [Act.put, List.setIfInBounds_toArray, List.set_cons_zero, List.set_cons_succ])
        | (refine SeqS.take2 (v := undef) (by first | assumption | trivial) (by kernel_rfl) (by decide +kernel) (by decide +kernel) (Or.inr ⟨by rfl, rfl⟩) ?_
           simp only [Act.put, List.setIfInBounds_toArray, List.set_cons_zero, List.set_cons_succ]))
      refine SeqS.done (by decide +kernel) ?_
      by_cases hb1 : X.getLsbD j = true
      · have hx1 : bits .and .u32 (x / 2 ^ j) 1 = 1 := by rw [a1]; exact hso.2 hb1
        rw [if_pos hb1] at hms
        have hxor : bits .xor .u32 y z = nv (mvn k (below X (j + 1))) := by rw [← hy, ← hz, hms]; unfold matF; rw [bits_xor, bv_nv, bv_nv]
        clear hso hms a1 hy hb1 hz
        go_wp2
        exact ⟨⟨j + 1, by have := hltH.out; omega, by congr 1, rfl, k4, B4⟩, by simp only [intOf]; have := hltH.out; omega⟩
      · have hx1 : ¬ bits .and .u32 (x / 2 ^ j) 1 = 1 := by rw [a1]; exact fun h => hb1 (hso.1 h)
        rw [if_neg hb1, BitVec.xor_zero] at hms
        have hyn : nv (mvn k (below X (j + 1))) = y := by rw [hms]; exact hy
        have hynH := Lib.hid hyn
        clear hso hms a1 hy hb1 hyn hz
        go_wp2
        exact ⟨⟨j + 1, by have := hltH.out; omega, by congr 1, by rw [hynH.out], k4, B4⟩, by simp only [intOf]; have := hltH.out; omega⟩
    · obtain rfl : j = 32 := by omega
      have hji : ¬ ((32 : Nat) : Int) < 32 := by omega
      rw [below_all]
      clear hlt hj
      go_wp2
      go_ret
      exact ⟨rfl, hB⟩

theorem zero32m : Zero Tryd.prog 46 (rowZ 32 (fst 0 (matF 4))) := by unfold Zero; kernel_rfl
theorem one_shl32 (j : Nat) : (2 : Int) ^ j % 4294967296 = nv (1#32 <<< j) := by
  have h := wrap_shl 1 j
  rw [Int.one_mul, IntKind.wrap_u32] at h
  exact h
theorem row_upd (j : Nat) (f : Nat → Int) (v u : Int) : (rowZ 32 (fun i => if i = j then v else f i)).set j (.int .u32 u) = rowZ 32 (fun i => if i = j then u else f i) := by
  rw [rowZ_set]
  refine rowZ_congr fun i _ => ?_
  by_cases h : i = j
  · rw [if_pos h, if_pos h]
  · rw [if_neg h, if_neg h, if_neg h]
theorem fst_upd (j : Nat) (f : Nat → Int) : rowZ 32 (fun i => if i = j then f j else fst j f i) = rowZ 32 (fst (j + 1) f) := by
  rw [← fst_set, rowZ_set]

set_option maxRecDepth 100000 in
set_option maxHeartbeats 1000000 in
theorem squares_any (w : World) (hG0 : Glob11 w) : Calls Tryd.prog 19 #[] w fun q w' => q = .returned (.func (.func 21) #[] #[.pointer (some ⟨w.heap.size, 0, none⟩)]) ∧ Blk w' w.heap.size 46 (rowZ 32 (matF 4)) ∧ Below w.heap.size w w' := by
  have hmf : ∀ (fn : Fn) (first cap : Array Value) (w : World), (Instr.makeFunc fn first cap).run Tryd.prog w = .ok (.func fn first cap) w := fun _ _ _ _ => rfl
  have HZ := zero32m
  obtain ⟨Z, hZ⟩ : ∃ Z, rowZ 32 (fst 0 (matF 4)) = Z := ⟨_, rfl⟩
  rw [hZ] at HZ
  have hZH := Lib.hid hZ
  clear hZ
  obtain ⟨G, hG⟩ : ∃ G, w.heap.size = G := ⟨_, rfl⟩
  have hGH := Lib.hid hG
  have hG4 := Lib.hid (fun (wr : World) (hB : Below G w wr) => hG0.keep hB (by rw [hG]; exact Nat.le_refl _))
  rw [hG]
  clear hG hG0
  go_enter Tryd.func19, Tryd.ntmps19
  go_wp2_with (with_reducible refine wpList_alloc_blk rfl 46 rfl HZ ?_)
  obtain ⟨V, hV⟩ : ∃ V, w.alloc (.cells Z.toArray 46) = V := ⟨_, rfl⟩
  have ht : Blk V G 46 (rowZ 32 (fst 0 (matF 4))) := by rw [hZH.out, ← hV, ← hGH.out]; exact Blk.new w _ _
  have hB : Below G w V := by rw [← hV, ← hGH.out]; exact below1 w _
  rw [hV, hGH.out]
  clear hV HZ
  go_loopw [3] (fun i wr => ∃ j : Nat, j ≤ 32 ∧ i = .int .i64 j ∧ Blk wr G 46 (rowZ 32 (fst j (matF 4))) ∧ Below G w wr) (fun i _ => 32 - (intOf i).toNat)
  case atStart => exact ⟨0, Nat.zero_le _, rfl, ht, hB⟩
  case round =>
    clear ht hB
    obtain ⟨j, hj, rfl, ht, hB⟩ := hrel
    by_cases hlt : j < 32
    · have hji : (j : Int) < 32 := by omega
      have hsh := one_shl32 j
      have hm := cHalf_any (1#32 <<< j) wr (hG4.out wr hB)
      obtain ⟨v1, hv1⟩ : ∃ v1, nv (1#32 <<< j) = v1 := ⟨_, rfl⟩
      rw [hv1] at hsh hm
      have hc := (ht.cell j).trans (rowZ_at 32 _ j hlt)
      have hf := ht.frozen j
      have ht2 := ht.set j (.int .u32 (matF 4 j))
      rw [fst_set] at ht2
      have hB2 := hB.setCell (p := ⟨G, j, none⟩) (Nat.le_refl _) (.int .u32 (matF 4 j))
      have hmf2 := Lib.hid (show nv (mvn 4 (1#32 <<< j)) = matF 4 j from rfl)
      rw [hmf2.out] at hm
      obtain ⟨z, hz⟩ : ∃ z, matF 4 j = z := ⟨_, rfl⟩
      rw [hz] at hm ht2 hB2
      have hltH := Lib.hid hlt
      clear ht hB hlt hj hv1 hz hmf2
      go_wp2_with fail
      refine hm.mono ?_
      rintro q w1 ⟨rfl, rfl⟩
      clear hm
      go_wp2
      exact ⟨⟨j + 1, by have := hltH.out; omega, by congr 1, ht2, hB2⟩, by simp only [intOf]; have := hltH.out; omega⟩
    · obtain rfl : j = 32 := by omega
      have hji : ¬ ((32 : Nat) : Int) < 32 := by omega
      rw [fst_all] at ht
      clear hlt hj
      go_wp2
      go_ret
      exact ⟨rfl, ht, hB⟩

set_option maxRecDepth 100000 in
set_option maxHeartbeats 1000000 in
theorem next_any (k g : Nat) (w : World) (hg : Blk w g 46 (rowZ 32 (matF k))) : Calls Tryd.prog 21 #[.pointer (some ⟨g, 0, none⟩)] w fun q w' => q = .returned (.agg (rowZ 32 (matF (2 * k))).toArray) ∧ Blk w' g 46 (rowZ 32 (matF (2 * k))) ∧ Below g w w' := by
  have HZ := zero32m
  obtain ⟨Z, hZ⟩ : ∃ Z, rowZ 32 (fst 0 (matF 4)) = Z := ⟨_, rfl⟩
  have hZl : Z.length = 32 := by rw [← hZ, rowZ_len]
  rw [hZ] at HZ
  clear hZ
  obtain ⟨R, hR⟩ : ∃ R, rowZ 32 (matF k) = R := ⟨_, rfl⟩
  have hRl : R.length = 32 := by rw [← hR, rowZ_len]
  have hR1 := Lib.hid (show ∀ v ∈ R, v.oneCell' = true by rw [← hR]; exact rowZ_one _ _)
  have hIR : IsRow Tryd.prog 46 R.length := by rw [hRl]; exact row32m
  have hfit := Lib.hid (show 0 + R.length ≤ Z.length by rw [hRl, hZl]; decide)
  have hov := Lib.hid (overV_all Z R (by rw [hRl, hZl]))
  have hRH := Lib.hid hR
  rw [hR] at hg
  clear hR
  have hlt0 := hg.lt
  go_enter Tryd.func21, Tryd.ntmps21
  obtain ⟨G, hG⟩ : ∃ G, w.heap.size = G := ⟨_, rfl⟩
  have hGH := Lib.hid hG
  clear hG
  go_wp2_with (with_reducible refine wpList_alloc_blk rfl 46 rfl HZ ?_; refine RowKit.Hid.out ?_)
  refine Lib.hid ?_
  obtain ⟨V, hV⟩ : ∃ V, w.alloc (.cells Z.toArray 46) = V := ⟨_, rfl⟩
  have hr : Blk V G 46 Z := by rw [← hV, ← hGH.out]; exact Blk.new w _ _
  have hg1 : Blk V g 46 R := by rw [← hV]; exact hg.alloc _
  have hB1 : Below g w V := by rw [← hV]; exact (below1 w _).mono (Nat.le_of_lt hlt0)
  have hVs : V.heap.size = G + 1 := by rw [← hV, size1, hGH.out]
  have hVsH := Lib.hid hVs
  rw [hV, hGH.out]
  rw [hGH.out] at hlt0
  clear hV hVs hg
  go_wp2_with (first
    | ((refine wpList_load_blk rfl 46 (.tmp 0) rfl ?_ hg1 hIR rfl ?_); rfl)
    | (with_reducible refine wpList_alloc_blk rfl 46 rfl HZ ?_; refine RowKit.Hid.out ?_))
  refine Lib.hid ?_
  obtain ⟨L, hL⟩ : ∃ L, V.heap.size = L := ⟨_, rfl⟩
  have hLG : L = G + 1 := by rw [← hL]; exact hVsH.out
  have hLH := Lib.hid hLG
  have k0 : Blk (V.alloc (.cells Z.toArray 46)) L 46 Z := by rw [← hL]; exact Blk.new V _ _
  have r0 := hr.alloc (.cells Z.toArray 46)
  have g0 := hg1.alloc (.cells Z.toArray 46)
  have B0 : Below g w (V.alloc (.cells Z.toArray 46)) := hB1.alloc (by omega) _
  rw [hL]
  obtain ⟨U, hU⟩ : ∃ U, V.alloc (.cells Z.toArray 46) = U := ⟨_, rfl⟩
  rw [hU] at k0 r0 g0 B0 ⊢
  clear hU hL hr hg1 hB1 HZ hVsH hLG
  go_wp2_with (refine wpList_store_part (cs := R) rfl 46 (.tmp 2) (.tmp 5) rfl rfl rfl k0 hIR hfit.out hR1.out ?_; intro w3 k3 u3; refine RowKit.Hid.out ?_)
  refine Lib.hid ?_
  rw [hov.out] at k3
  have r3 := r0.grown u3 (by intro e; injection e with e; have := hLH.out; omega)
  have g3 := g0.grown u3 (by intro e; injection e with e; have := hLH.out; omega)
  have B3 : Below g w w3 := B0.grown u3 (Nat.le_of_lt g0.lt) (fun k hk => by injection hk with hk; have := hLH.out; omega)
  clear k0 r0 g0 B0 u3
  go_wp2_with ((refine wpList_load_blk rfl 46 (.tmp 2) rfl ?_ k3 hIR rfl ?_); rfl)
  go_loopw [7] (fun i wr => ∃ j : Nat, j ≤ 32 ∧ i = .int .i64 j ∧ Blk wr G 46 Z ∧ Blk wr L 46 R ∧ Blk wr g 46 (rowZ 32 (fun i => if i < j then matF (2 * k) i else matF k i)) ∧ Below g w wr) (fun i _ => 32 - (intOf i).toNat)
  case atStart => exact ⟨0, Nat.zero_le _, rfl, r3, k3, by rw [show rowZ 32 (fun i => if i < 0 then matF (2 * k) i else matF k i) = rowZ 32 (matF k) from rowZ_congr (fun i _ => if_neg (Nat.not_lt_zero i)), hRH.out]; exact g3, B3⟩
  case round =>
    clear r3 k3 g3 B3
    obtain ⟨j, hj, rfl, r3, k3, g3, B3⟩ := hrel
    by_cases hlt : j < 32
    · have hji : (j : Int) < 32 := by omega
      have hRj : R[j]? = some (.int .u32 (matF k j)) := by rw [← hRH.out]; exact rowZ_at 32 _ j hlt
      have hct := fun W h => cOfM_any k (mvn k (1#32 <<< j)) L W h
      rw [hRH.out, mat_square] at hct
      have e1 : nv (mvn k (1#32 <<< j)) = matF k j := rfl
      have e2 : nv (mvn (2 * k) (1#32 <<< j)) = matF (2 * k) j := rfl
      have hset : ∀ W, Blk W g 46 (rowZ 32 (fun i => if i < j then matF (2 * k) i else matF k i)) → Blk (W.setCell ⟨g, j, none⟩ (.int .u32 (matF (2 * k) j))) g 46 (rowZ 32 (fun i => if i < j + 1 then matF (2 * k) i else matF k i)) := by
        intro W h
        have h2 := h.set j (.int .u32 (matF (2 * k) j))
        rw [rowZ_set] at h2
        refine h2.cast (rowZ_congr fun i _ => ?_)
        by_cases h : i = j
        · subst h
          rw [if_pos rfl, if_pos (by omega)]
        · rw [if_neg h]
          by_cases l : i < j
          · rw [if_pos l, if_pos (by omega)]
          · rw [if_neg l, if_neg (by omega)]
      have hgc : ∀ W, Blk W g 46 (rowZ 32 (fun i => if i < j then matF (2 * k) i else matF k i)) → ∃ v, W.cell? ⟨g, j, none⟩ = some v := fun W h => ⟨_, (h.cell j).trans (rowZ_at 32 _ j hlt)⟩
      rw [e1, e2] at hct
      obtain ⟨y, hy⟩ : ∃ y, matF k j = y := ⟨_, rfl⟩
      obtain ⟨z, hz⟩ : ∃ z, matF (2 * k) j = z := ⟨_, rfl⟩
      rw [hy] at hct hRj
      rw [hz] at hct hset
      obtain ⟨C, hC⟩ : ∃ C, rowZ 32 (fun i => if i < j then matF (2 * k) i else matF k i) = C := ⟨_, rfl⟩
      rw [hC] at hset hgc g3
      have hltH := Lib.hid hlt
      have hctH := Lib.hid (hct wr k3)
      have hsetH := Lib.hid hset
      have hgcH := Lib.hid hgc
      have hix := fun wx => run_index_row11 (P := Tryd.prog) 46 23 32 Tryd.underlying46 (by kernel_rfl) (by kernel_rfl) R.toArray .i64 j hltH.out (.int .u32 y) (by simpa using hRj) wx
      clear hlt hj e1 e2 hy hz hC hct hset hgc
      go_wp2_with fail
      refine hctH.out.mono ?_
      rintro q w5 ⟨rfl, b5⟩
      have r5 := r3.keep b5 r3.lt
      have k5 := k3.keep b5 k3.lt
      have g5 := g3.keep b5 g3.lt
      have B5 := B3.trans (b5.mono (Nat.le_of_lt g3.lt))
      clear r3 k3 g3 B3 b5 hctH
      obtain ⟨v0, hc0⟩ := hgcH.out w5 g5
      have hf0 := g5.frozen j
      have g6 := hsetH.out w5 g5
      have u6 := grown_setCell w5 g j (.int .u32 z)
      have r6 := r5.grown u6 (by intro e; injection e with e; have := hLH.out; omega)
      have k6 := k5.grown u6 (by intro e; injection e with e; have := hLH.out; omega)
      have B6 := B5.setCell (p := ⟨g, j, none⟩) (Nat.le_refl _) (.int .u32 z)
      clear g5 r5 B5 u6
      go_wp2
      exact ⟨⟨j + 1, by have := hltH.out; omega, by congr 1, r6, k6, g6, B6⟩, by simp only [intOf]; have := hltH.out; omega⟩
    · obtain rfl : j = 32 := by omega
      have hji : ¬ ((32 : Nat) : Int) < 32 := by omega
      have g4 : Blk wr g 46 (rowZ 32 (matF (2 * k))) := g3.cast (rowZ_congr fun i hi => if_pos hi)
      obtain ⟨Q, hQ⟩ : ∃ Q, rowZ 32 (matF (2 * k)) = Q := ⟨_, rfl⟩
      have hQl : Q.length = 32 := by rw [← hQ, rowZ_len]
      have hQ1 := Lib.hid (show ∀ v ∈ Q, v.oneCell' = true by rw [← hQ]; exact rowZ_one _ _)
      have hIQ : IsRow Tryd.prog 46 Q.length := by rw [hQl]; exact row32m
      have hfin := Lib.hid (show 0 + Q.length ≤ Z.length by rw [hQl, hZl]; decide)
      have hovQ := Lib.hid (overV_all Z Q (by rw [hQl, hZl]))
      have hQH := Lib.hid hQ
      rw [hQ] at g4
      clear hlt hj g3 hQ
      go_wp2_with (first
        | ((refine wpList_load_blk rfl 46 (.tmp 0) rfl ?_ g4 hIQ rfl ?_); rfl)
        | ((with_reducible refine wpList_store_part rfl 46 (.tmp 1) (.tmp 16) rfl ?_ ?_ r3 hIQ hfin.out hQ1.out ?_); rfl; rfl; intro w9 hR9 hg9))
      rw [hovQ.out] at hR9
      (try simp only [Exit.inBlock, Exit.then])
      refine bodyPost_ret (results_blk rfl rfl hR9 hIQ) rfl ?_
      rw [hQH.out]
      exact ⟨rfl, g4.grown hg9 (by intro e; injection e with e; omega), B3.grown hg9 (Nat.le_of_lt g4.lt) (fun k hk => by injection hk with hk; omega)⟩
end Go.Proofs.YtlningdlddnnkaaDoor
