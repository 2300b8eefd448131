/-
  The document's own words of layer 15: Errs, Kinds, Name, Of, with. New memory alone is written. No conditions but those that each row names.
-/
import Derived.Test.YtbiabjehdmddbaaDoorRlMem
namespace Go.Proofs.YtbiabjehdmddbaaDoor
open Go.RowKit

set_option maxRecDepth 100000 in
theorem rfKinds_any (w : World) : Calls Tryd.prog 13 #[] w fun q w' => q = .returned (.slice (some ⟨w.heap.size, 0, none⟩) 7 7) ∧ w' = w.alloc (.cells (strsV kindsL).toArray 9) := by
  go_enter Tryd.func13, Tryd.ntmps13
  go_wp2
  go_ret
  exact ⟨rfl, congrArg (fun c => w.alloc (.cells c 9)) (by kernel_rfl)⟩

set_option maxRecDepth 100000 in
theorem rfErrs_any (w : World) : Calls Tryd.prog 12 #[] w fun q w' => q = .returned (.slice (some ⟨w.heap.size, 0, none⟩) 21 21) ∧ w' = w.alloc (.cells (strsV errsL).toArray 9) := by
  go_enter Tryd.func12, Tryd.ntmps12
  go_wp2
  go_ret
  exact ⟨rfl, congrArg (fun c => w.alloc (.cells c 9)) (by kernel_rfl)⟩

set_option maxRecDepth 100000 in
set_option maxHeartbeats 1000000 in
theorem rfName_any (g N : Nat) (ns : List (List Int)) (n : Int) (w : World) (hN : ns.length = N) (hs : N ≤ 100) (hb : Blk w g 9 (strsV ns)) :
    Calls Tryd.prog 11 #[.int .i64 n, .slice (some ⟨g, 0, none⟩) N N] w fun q w' => q = .returned (.string (strOfNums (nameL ns n))) ∧ w' = w := by
  have hcell : ∀ j, j < N → w.cell? ⟨g, j, none⟩ = some (.string (strOfNums (ns.getD j []))) := fun j hj => strsV_cell hb j (by omega)
  have hNi : (N : Int) ≤ 100 := by omega
  unfold nameL
  by_cases h0 : n < 0
  · rw [if_neg (by omega), show strOfNums [63] = { data := #[63] } by rfl]
    clear hcell hb hs hN
    go_enter Tryd.func11, Tryd.ntmps11
    go_wp2
    go_ret
    exact ⟨rfl, rfl⟩
  · by_cases h1 : (N : Int) ≤ n
    · rw [if_neg (by omega), show strOfNums [63] = { data := #[63] } by rfl]
      clear hcell hb hs hN
      go_enter Tryd.func11, Tryd.ntmps11
      go_wp2
      go_ret
      exact ⟨rfl, rfl⟩
    · obtain ⟨k, rfl⟩ : ∃ k : Nat, n = (k : Int) := ⟨n.toNat, by omega⟩
      have hc := hcell k (by omega)
      rw [if_pos (by omega), Int.toNat_natCast]
      obtain ⟨S, hS⟩ : ∃ S, strOfNums (ns.getD k []) = S := ⟨_, rfl⟩
      rw [hS] at hc ⊢
      have hk : (k : Int) < (N : Int) := by omega
      clear hcell hb hs hN hS
      go_enter Tryd.func11, Tryd.ntmps11
      go_wp2
      go_ret
      exact ⟨rfl, rfl⟩

set_option maxRecDepth 100000 in
set_option maxHeartbeats 1000000 in
theorem rfOf_any (g N : Nat) (ns : List (List Int)) (s : ByteArray) (w : World) (hN : ns.length = N) (hs : N ≤ 100) (hok : ∀ x ∈ ns, okB x) (hb : Blk w g 9 (strsV ns)) :
    Calls Tryd.prog 15 #[.string s, .slice (some ⟨g, 0, none⟩) N N] w fun q w' => q = .returned (.tuple #[.int .i64 (placeL (numsOf s) ns 0).1, .bool (placeL (numsOf s) ns 0).2]) ∧ w' = w := by
  have hcell : ∀ j, j < N → w.cell? ⟨g, j, none⟩ = some (.string (strOfNums (ns.getD j []))) := fun j hj => strsV_cell hb j (by omega)
  have hcH := Lib.hid hcell
  have hNi : (N : Int) ≤ 100 := by omega
  have hNH := Lib.hid hN
  have hoH := Lib.hid (fun j (hj : j < N) => (hok (ns.getD j []) (by rw [List.getD_eq_getElem?_getD, List.getElem?_eq_getElem (by omega)]; exact List.getElem_mem _)))
  obtain ⟨R, hR⟩ : ∃ R, placeL (numsOf s) ns 0 = R := ⟨_, rfl⟩
  have hRH := Lib.hid hR
  rw [hR]
  obtain ⟨R1, R2⟩ := R
  dsimp only
  clear hcell hb hs hN hok hR
  go_enter Tryd.func15, Tryd.ntmps15
  go_wp2_with fail
  go_loopw [6] (fun i wr => ∃ j : Nat, j ≤ N ∧ i = .int .i64 j ∧ (∀ k : Nat, k < j → ns.getD k [] ≠ numsOf s) ∧ wr = w) (fun i _ => N - (intOf i).toNat)
  case atStart => exact ⟨0, Nat.zero_le _, rfl, fun k hk => absurd hk (Nat.not_lt_zero _), rfl⟩
  case round =>
    obtain ⟨j, hj, rfl, hno, hwr⟩ := hrel
    have hwr' := hwr.symm
    subst hwr'
    by_cases hlt : j < N
    · have hji : (j : Int) < (N : Int) := by omega
      have hc := hcH.out j hlt
      have hq := str_eqB' s (hoH.out j hlt)
      by_cases he : ns.getD j [] = numsOf s
      · rw [decide_eq_true he] at hq
        have hph := place_hit (numsOf s) ns 0 j (by have := hNH.out; omega) he hno
        rw [hRH.out, Nat.zero_add] at hph
        have e1 : R1 = (j : Int) := congrArg Prod.fst hph
        have e2 : R2 = true := congrArg Prod.snd hph
        subst e1; subst e2
        obtain ⟨S, hS⟩ : ∃ S, strOfNums (ns.getD j []) = S := ⟨_, rfl⟩
        rw [hS] at hc hq
        clear he hlt hj hno hS hph
        go_wp2
        go_ret2
        exact ⟨rfl, rfl⟩
      · rw [decide_eq_false he] at hq
        obtain ⟨S, hS⟩ : ∃ S, strOfNums (ns.getD j []) = S := ⟨_, rfl⟩
        rw [hS] at hc hq
        have hltH := Lib.hid hlt
        have hnoH := Lib.hid (show ∀ k : Nat, k < j + 1 → ns.getD k [] ≠ numsOf s from fun k hk => by
          by_cases e : k = j
          · subst e; exact he
          · exact hno k (by omega))
        clear he hlt hj hno hS
        go_wp2
        exact ⟨⟨j + 1, by have := hltH.out; omega, by congr 1, hnoH.out, by trivial⟩, by simp only [intOf]; have := hltH.out; omega⟩
    · obtain rfl : j = N := by omega
      have hji : ¬ (j : Int) < (j : Int) := by omega
      have hph := place_miss (numsOf s) ns (by rw [hNH.out]; exact hno)
      rw [hRH.out] at hph
      have e1 : R1 = 0 := congrArg Prod.fst hph
      have e2 : R2 = false := congrArg Prod.snd hph
      subst e1; subst e2
      clear hlt hj hno hph
      go_wp2
      go_ret2
      exact ⟨rfl, rfl⟩

set_option maxRecDepth 100000 in
set_option maxHeartbeats 1000000 in
theorem rfWith_any (g c : Nat) (t : TypeId) (r : RplV) (w : World) (hk : Blk w g t (arC r.ses r.seq r.quo r.usd r.exp)) :
    Calls Tryd.prog 21 #[.int .i64 r.kind, .int .i64 r.err, .slice (some ⟨g, 0, none⟩) 5 c] w fun q w' => q = .returned (.agg (rpV r).toArray) ∧ Below w.heap.size w w' := by
  obtain ⟨K, E, S, Q, O, U, X⟩ := r
  unfold rpV
  dsimp only at hk ⊢
  have hb := below1 w (.cells (rpC 0 0 0 0 0 0 0).toArray 27)
  have hz := Blk.new w 27 (rpC 0 0 0 0 0 0 0)
  have hkV := hk.alloc (.cells (rpC 0 0 0 0 0 0 0).toArray 27)
  obtain ⟨V, hV⟩ : ∃ V, w.alloc (.cells (rpC 0 0 0 0 0 0 0).toArray 27) = V := ⟨_, rfl⟩
  rw [hV] at hb hz hkV
  have e0 := Lib.hid (fun w' (h : Blk w' g t (arC S Q O U X)) => ar0 h)
  have e1 := Lib.hid (fun w' (h : Blk w' g t (arC S Q O U X)) => ar1 h)
  have e2 := Lib.hid (fun w' (h : Blk w' g t (arC S Q O U X)) => ar2 h)
  have e3 := Lib.hid (fun w' (h : Blk w' g t (arC S Q O U X)) => ar3 h)
  have e4 := Lib.hid (fun w' (h : Blk w' g t (arC S Q O U X)) => ar4 h)
  have hgG : g < w.heap.size := hk.lt
  obtain ⟨G, hG⟩ : ∃ G, w.heap.size = G := ⟨_, rfl⟩
  rw [hG] at hz hgG
  have gH := Lib.hid hG
  clear hk
  go_enter Tryd.func21, Tryd.ntmps21
  go_wp2_with ((with_reducible refine wpList_alloc_blk rfl 27 rfl zeroRp ?_); refine RowKit.Hid.out ?_)
  refine Lib.hid ?_
  try simp only [Act.put, List.setIfInBounds_toArray, List.set_cons_zero, List.set_cons_succ]
  try rw [hV]
  try rw [hG]
  clear hV hG
  go_wp2_with fail
  have SD : Blk V.drew g t (arC S Q O U X) := hkV.drew
  refine region_seqS (fun w' => Blk w' g t (arC S Q O U X)) (by kernel_rfl) SD ?_
  simp only [pairs, Nat.reduceAdd]
  repeat (first
    | (refine SeqS.take (v := ?_) (by first | assumption | trivial) (by kernel_rfl) (by decide +kernel) (by decide +kernel) (Or.inl ⟨by rfl, ?_⟩) ?_
       rotate_left
       focus
         intro w' hb'
         go_simp
         with_reducible rfl
       simp only [Act.put, List.setIfInBounds_toArray, List.set_cons_zero, List.set_cons_succ])
    | (refine SeqS.take (v := ?_) (by first | assumption | trivial) (by kernel_rfl) (by decide +kernel) (by decide +kernel) (Or.inl ⟨by rfl, ?_⟩) ?_
       rotate_left
       focus
         intro w' hb'
         have d0 := e0.out w' hb'
         go_simp
         with_reducible rfl
       simp only [Act.put, List.setIfInBounds_toArray, List.set_cons_zero, List.set_cons_succ])
    | (refine SeqS.take (v := ?_) (by first | assumption | trivial) (by kernel_rfl) (by decide +kernel) (by decide +kernel) (Or.inl ⟨by rfl, ?_⟩) ?_
       rotate_left
       focus
         intro w' hb'
         have d0 := e1.out w' hb'
         go_simp
         with_reducible rfl
       simp only [Act.put, List.setIfInBounds_toArray, List.set_cons_zero, List.set_cons_succ])
    | (refine SeqS.take (v := ?_) (by first | assumption | trivial) (by kernel_rfl) (by decide +kernel) (by decide +kernel) (Or.inl ⟨by rfl, ?_⟩) ?_
       rotate_left
       focus
         intro w' hb'
         have d0 := e2.out w' hb'
         go_simp
         with_reducible rfl
       simp only [Act.put, List.setIfInBounds_toArray, List.set_cons_zero, List.set_cons_succ])
    | (refine SeqS.take (v := ?_) (by first | assumption | trivial) (by kernel_rfl) (by decide +kernel) (by decide +kernel) (Or.inl ⟨by rfl, ?_⟩) ?_
       rotate_left
       focus
         intro w' hb'
         have d0 := e3.out w' hb'
         go_simp
         with_reducible rfl
       simp only [Act.put, List.setIfInBounds_toArray, List.set_cons_zero, List.set_cons_succ])
    | (refine SeqS.take (v := ?_) (by first | assumption | trivial) (by kernel_rfl) (by decide +kernel) (by decide +kernel) (Or.inl ⟨by rfl, ?_⟩) ?_
       rotate_left
       focus
         intro w' hb'
         have d0 := e4.out w' hb'
         go_simp
         with_reducible rfl
       simp only [Act.put, List.setIfInBounds_toArray, List.set_cons_zero, List.set_cons_succ])
    | (refine SeqS.take (v := undef) (by first | assumption | trivial) (by kernel_rfl) (by decide +kernel) (by decide +kernel) (Or.inr ⟨by rfl, rfl⟩) ?_
       simp only [Act.put, List.setIfInBounds_toArray, List.set_cons_zero, List.set_cons_succ])
    | (refine SeqS.take1 (v := ?_) (by first | assumption | trivial) (by kernel_rfl) (by decide +kernel) (by decide +kernel) (Or.inl ⟨by rfl, ?_⟩) ?_
       rotate_left
       focus
         intro w' hb'
         go_simp
         with_reducible rfl
       simp only [Act.put, List.setIfInBounds_toArray, List.set_cons_zero, List.set_cons_succ])
    | (refine SeqS.take1 (v := ?_) (by first | assumption | trivial) (by kernel_rfl) (by decide +kernel) (by decide +kernel) (Or.inl ⟨by rfl, ?_⟩) ?_
       rotate_left
       focus
         intro w' hb'
         have d0 := e0.out w' hb'
         go_simp
         with_reducible rfl
       simp only [Act.put, List.setIfInBounds_toArray, List.set_cons_zero, List.set_cons_succ])
    | (refine SeqS.take1 (v := ?_) (by first | assumption | trivial) (by kernel_rfl) (by decide +kernel) (by decide +kernel) (Or.inl ⟨by rfl, ?_⟩) ?_
       rotate_left
       focus
         intro w' hb'
         have d0 := e1.out w' hb'
         go_simp
         with_reducible rfl
       simp only [Act.put, List.setIfInBounds_toArray, List.set_cons_zero, List.set_cons_succ])
    | (refine SeqS.take1 (v := ?_) (by first | assumption | trivial) (by kernel_rfl) (by decide +kernel) (by decide +kernel) (Or.inl ⟨by rfl, ?_⟩) ?_
       rotate_left
       focus
         intro w' hb'
         have d0 := e2.out w' hb'
         go_simp
         with_reducible rfl
       simp only [Act.put, List.setIfInBounds_toArray, List.set_cons_zero, List.set_cons_succ])
    | (refine SeqS.take1 (v := ?_) (by first | assumption | trivial) (by kernel_rfl) (by decide +kernel) (by decide +kernel) (Or.inl ⟨by rfl, ?_⟩) ?_
       rotate_left
       focus
         intro w' hb'
         have d0 := e3.out w' hb'
         go_simp
         with_reducible rfl
       simp only [Act.put, List.setIfInBounds_toArray, List.set_cons_zero, List.set_cons_succ])
    | (refine SeqS.take1 (v := ?_) (by first | assumption | trivial) (by kernel_rfl) (by decide +kernel) (by decide +kernel) (Or.inl ⟨by rfl, ?_⟩) ?_
       rotate_left
       focus
         intro w' hb'
         have d0 := e4.out w' hb'
         go_simp
         with_reducible rfl
       simp only [Act.put, List.setIfInBounds_toArray, List.set_cons_zero, List.set_cons_succ])
    | (refine SeqS.take1 (v := undef) (by first | assumption | trivial) (by kernel_rfl) (by decide +kernel) (by decide +kernel) (Or.inr ⟨by rfl, rfl⟩) ?_
       simp only [Act.put, List.setIfInBounds_toArray, List.set_cons_zero, List.set_cons_succ])
    | (refine SeqS.take2 (v := ?_) (by first | assumption | trivial) (by kernel_rfl) (by decide +kernel) (by decide +kernel) (Or.inl ⟨by rfl, ?_⟩) ?_
       rotate_left
       focus
         intro w' hb'
         go_simp
         with_reducible rfl
       simp only [Act.put, List.setIfInBounds_toArray, List.set_cons_zero, List.set_cons_succ])
    | (refine SeqS.take2 (v := ?_) (by first | assumption | trivial) (by kernel_rfl) (by decide +kernel) (by decide +kernel) (Or.inl ⟨by rfl, ?_⟩) ?_
       rotate_left
       focus
         intro w' hb'
         have d0 := e0.out w' hb'
         go_simp
         with_reducible rfl
       simp only [Act.put, List.setIfInBounds_toArray, List.set_cons_zero, List.set_cons_succ])
    | (refine SeqS.take2 (v := ?_) (by first | assumption | trivial) (by kernel_rfl) (by decide +kernel) (by decide +kernel) (Or.inl ⟨by rfl, ?_⟩) ?_
       rotate_left
       focus
         intro w' hb'
         have d0 := e1.out w' hb'
         go_simp
         with_reducible rfl
       simp only [Act.put, List.setIfInBounds_toArray, List.set_cons_zero, List.set_cons_succ])
    | (refine SeqS.take2 (v := ?_) (by first | assumption | trivial) (by kernel_rfl) (by decide +kernel) (by decide +kernel) (Or.inl ⟨by rfl, ?_⟩) ?_
       rotate_left
       focus
         intro w' hb'
         have d0 := e2.out w' hb'
         go_simp
         with_reducible rfl
       simp only [Act.put, List.setIfInBounds_toArray, List.set_cons_zero, List.set_cons_succ])
    | (refine SeqS.take2 (v := ?_) (by first | assumption | trivial) (by kernel_rfl) (by decide +kernel) (by decide +kernel) (Or.inl ⟨by rfl, ?_⟩) ?_
       rotate_left
       focus
         intro w' hb'
         have d0 := e3.out w' hb'
         go_simp
         with_reducible rfl
       simp only [Act.put, List.setIfInBounds_toArray, List.set_cons_zero, List.set_cons_succ])
    | (refine SeqS.take2 (v := ?_) (by first | assumption | trivial) (by kernel_rfl) (by decide +kernel) (by decide +kernel) (Or.inl ⟨by rfl, ?_⟩) ?_
       rotate_left
       focus
         intro w' hb'
         have d0 := e4.out w' hb'
         go_simp
         with_reducible rfl
       simp only [Act.put, List.setIfInBounds_toArray, List.set_cons_zero, List.set_cons_succ])
    | (refine SeqS.take2 (v := undef) (by first | assumption | trivial) (by kernel_rfl) (by decide +kernel) (by decide +kernel) (Or.inr ⟨by rfl, rfl⟩) ?_
       simp only [Act.put, List.setIfInBounds_toArray, List.set_cons_zero, List.set_cons_succ]))
  refine SeqS.alone (by decide +kernel) (by rfl) (fun K1 hK => ?_)
  refine wp_store_part (cs := rpC _ _ _ _ _ _ _) 27 (.tmp 6) (.tmp 24) rfl rfl rfl hz.drew rowRp (Nat.le_refl 7) (rpC_one _ _ _ _ _ _ _) ?_
  intro w2 hb2 hg2
  rw [overV_all (rpC 0 0 0 0 0 0 0) (rpC K E S Q O U X) rfl] at hb2
  have hG' : G < V.heap.size := hz.lt
  have S2 : Below w.heap.size w w2 := hb.drew.grown hg2 hb.size (fun q hq => by injection hq with hq; have := gH.out; omega)
  refine hK _ _ (SD.grown hg2 (fun e => by injection e with e; omega)) ?_
  clear hK K1
  refine SeqS.done (by decide +kernel) ?_
  have hr2 : IsRow Tryd.prog 27 (rpC K E S Q O U X).length := rowRp
  go_wp2_with fail
  refine bodyPost_ret (results_blk rfl rfl hb2 hr2) rfl ?_
  exact ⟨rfl, S2⟩
end Go.Proofs.YtbiabjehdmddbaaDoor
