/-
  Texts of stages that were proved on their own, joined: RlLine, RfRight, RfLine. Each begins with its own words.
-/
import Derived.Test.YtbiabjehdmddbaaGreatDoorJRlAll5
import Derived.Test.YtbiabjehdmddbaaGreatDoorJRlAll6
import Derived.Test.YtbiabjehdmddbaaGreatDoorJRlAll7
import Derived.Test.YtbiabjehdmddbaaGreatDoorJRlAll13
import Derived.Test.YtbiabjehdmddbaaGreatDoorJRlAll14
import Derived.Test.YtbiabjehdmddbaaGreatDoorJRlAll12

/-
  What reply's Line (layer 15) comes to. New memory alone is written. Conditions: the fields' ranges; the library's table of powers of ten as its text lays it.
-/
namespace Go.Proofs.YtbiabjehdmddbaaGreatDoor
open Go.RowKit

theorem line_bad {r : RplV} (h : rightR r = false) : strOfNums (lineR r) = { data := #[] } := by
  unfold lineR
  rw [h]
  rfl
theorem line_right {r : RplV} (h : rightR r = true) : lineR r = joinW (wordsR r) := if_pos h
theorem words_bare {r : RplV} (h : r.err ≠ 0) : wordsR r = [nameL kindsL r.kind, nameL errsL r.err] := by
  unfold wordsR
  rw [if_neg h]
theorem words_ok {r : RplV} (h : r.err = 0) : wordsR r = [nameL kindsL r.kind, nameL errsL r.err] ++ (numsR r).map (fun n => numL n.toNat) := by
  unfold wordsR
  rw [if_pos h]
  rfl
theorem info_str : ∃ i, Tryz.prog.info? 9 = some i ∧ i.zero = some (.string ByteArray.empty) ∧ i.size = 1 ∧ i.bytes = 16 := by
  have h : (Tryz.prog.info? 9).map (fun i => (i.zero, i.size, i.bytes)) = some (some (.string ByteArray.empty), 1, 16) := by kernel_rfl
  cases hq : Tryz.prog.info? 9 with
  | none => simp [hq] at h
  | some i => rw [hq] at h; simp at h; exact ⟨i, rfl, h.1, h.2.1, h.2.2⟩
theorem run_index_row15 {P : Program} (t e : TypeId) (n : Nat) (ht : P.underlying t = some (.array n e)) (he : P.plainKey e = true) (hs : (P.info? e).map (·.size) = some 1) (cs : Array Value) (kd : IntKind) (k : Nat) (hk : k < n) (v : Value) (hv : cs[k]? = some v) (w : World) :
    (Instr.index t (.agg cs) (.int kd (k : Int))).run P w = .ok v w := by
  have hsz : (sizeOf e).run P w = .ok 1 w := by
    cases hq : P.info? e with
    | none => simp [hq] at hs
    | some i => simp [sizeOf, typeInfo, hq, (by simpa [hq] using hs : i.size = 1)]
  have hp : (part e cs (k * 1)).run P w = .ok v w := run_part_plain _ he (by rw [Nat.mul_one]; exact hv)
  simp [Instr.index, asIntOf, run_underlying ht, hk, hsz, -Nat.mul_one, hp]
theorem arV_at (r : RplV) (j : Nat) (h : j < 5) : (arV r).toArray[j]? = some (.int .u32 ((numsR r).getD j 0)) := by
  match j, h with
  | 0, _ => rfl
  | 1, _ => rfl
  | 2, _ => rfl
  | 3, _ => rfl
  | 4, _ => rfl
theorem numsR_at {r : RplV} (ho : RplOk r) (j : Nat) (h : j < 5) : 0 ≤ (numsR r).getD j 0 ∧ (numsR r).getD j 0 < 4294967296 := getD_range (p := fun x => 0 ≤ x ∧ x < 4294967296) ho j h
theorem words_step (r : RplV) (P : List (List Int)) (j : Nat) (h : j < 5) : strsV (P ++ ((numsR r).take (j + 1)).map (fun n => numL n.toNat)) = strsV (P ++ ((numsR r).take j).map (fun n => numL n.toNat)) ++ [.string (strOfNums (numL ((numsR r).getD j 0).toNat))] := by
  have hl : j < (numsR r).length := h
  rw [← strsV_snoc, List.take_succ_eq_append_getElem hl, List.map_append, List.append_assoc, List.getD_eq_getElem?_getD, List.getElem?_eq_getElem hl]
  rfl

/-- strings.Join of a row of the call's own, with a blank between. -/
theorem join_own {w : World} {B : Nat} {v : Value} {n : Nat} {ws : List (List Int)} (h : w.ownsRow B 9 1 v n (strsV ws)) (h0 : 0 < n) (h7 : n ≤ 1000) (hl : (joinW ws).length ≤ 1000) :
    Calls Tryz.prog 22 #[v, .string { data := #[32] }] w fun q w' => q = .returned (.string (strOfNums (joinW ws))) ∧ Below w.heap.size w w' := by
  obtain ⟨g, c, rfl, hc, hg, _, hcell, hn⟩ := own_strs h h0
  have hj := str_join g 0 c (ws.map strOfNums) ({ data := #[32] } : ByteArray) w hcell hg (by rw [List.length_map]; omega) (by rw [List.length_map]; omega) (by rw [join_words, u8l_len]; omega)
  rw [join_words, List.length_map, hn, str_of_u8l] at hj
  exact hj

set_option maxRecDepth 100000 in
set_option maxHeartbeats 4000000 in
theorem rlLine_any (r : RplV) (w : World) (hG : Pow12 w) (ho : RplOk r) : Calls Tryz.prog 6 #[.agg (rpV r).toArray] w fun q w' => q = .returned (.string (strOfNums (lineR r))) ∧ Below w.heap.size w w' := by
  obtain ⟨i0, hi, hz0, hz1, hz2⟩ := info_str
  have hR := fun w' => rlRight_any r w'
  have hN := fun w' => rlNums_any r w'
  have hkn := fun w' => rlKindName_any r.kind w'
  have hen := fun w' => rlErrName_any r.err w'
  have l1 := line_bad (r := r)
  have l2 := line_right (r := r)
  have l3 := words_bare (r := r)
  have l4 := words_ok (r := r)
  have hjl := Lib.hid (joined_len ho)
  have hst := Lib.hid (words_step r [nameL kindsL r.kind, nameL errsL r.err])
  have hrg := Lib.hid (numsR_at ho)
  have har := Lib.hid (arV_at r)
  have hL5 : (numsR r).length = 5 := rfl
  obtain ⟨Rs, hRs⟩ : ∃ R, strOfNums (lineR r) = R := ⟨_, rfl⟩
  rw [hRs] at l1 ⊢
  obtain ⟨L, hL⟩ : ∃ L, numsR r = L := ⟨_, rfl⟩
  rw [hL] at l4 hst hrg har hL5
  obtain ⟨ws, hws⟩ : ∃ ws, wordsR r = ws := ⟨_, rfl⟩
  rw [hws] at l2 l3 l4 hjl
  obtain ⟨Lr, hLr⟩ : ∃ l, lineR r = l := ⟨_, rfl⟩
  rw [hLr] at l2 hRs
  obtain ⟨F, hF⟩ : ∃ F, rightR r = F := ⟨_, rfl⟩
  rw [hF] at hR l1 l2
  obtain ⟨Ar, hAr⟩ : ∃ A, arV r = A := ⟨_, rfl⟩
  rw [hAr] at hN har
  clear hAr hF hLr hws hL ho
  obtain ⟨K, E, S, Q, O, U, X⟩ := r
  unfold rpV at hR hN ⊢
  dsimp only at hR hN hkn hen l3 l4 hst ⊢
  obtain ⟨C, hC⟩ : ∃ C, rpC K E S Q O U X = C := ⟨_, rfl⟩
  rw [hC] at hR hN ⊢
  have hCl : C.length = 7 := by rw [← hC]; rfl
  have hCH := Lib.hid hC
  have hb := below1 w (.cells C.toArray 26)
  have hk : Blk (w.alloc (.cells C.toArray 26)) w.heap.size 26 C := Blk.new w _ C
  obtain ⟨W, hW⟩ : ∃ V, w.alloc (.cells C.toArray 26) = V := ⟨_, rfl⟩
  rw [hW] at hb hk
  obtain ⟨G, g9⟩ : ∃ G, w.heap.size = G := ⟨_, rfl⟩
  rw [g9] at hk
  have gH := Lib.hid g9
  obtain ⟨S1, hS1⟩ : ∃ S, strOfNums (nameL kindsL K) = S := ⟨_, rfl⟩
  obtain ⟨S2, hS2⟩ : ∃ S, strOfNums (nameL errsL E) = S := ⟨_, rfl⟩
  rw [hS1] at hkn
  rw [hS2] at hen
  have n1 := Lib.hid hS1
  have n2 := Lib.hid hS2
  replace hkn := Lib.hid hkn
  replace hen := Lib.hid hen
  replace hN := Lib.hid hN
  replace hR := Lib.hid hR
  replace hRs := Lib.hid hRs
  have hGH := Lib.hid (And.intro hG hG.le)
  clear hC hS1 hS2 hG
  cases F with
  | false =>
    obtain rfl := l1 rfl
    clear l1 l2 l3 l4
    go_enter Tryz.func6, Tryz.ntmps6
    go_wp2_with ((with_reducible refine box_row rfl 26 (.tmp 0) rfl C ?_ ?_); rfl; refine RowKit.Hid.out ?_)
    refine Lib.hid ?_
    clear hW
    go_wp2_with ((with_reducible refine wpList_load_blk rfl 26 (.tmp 1) rfl ?_ hk rowRp hCl ?_); rfl)
    refine (hR.out W).mono ?_
    rintro q w1 ⟨rfl, b1⟩
    have hk1 := hk.keep b1 hk.lt
    have hS1 := hb.trans (b1.mono hb.size)
    clear hk hb b1
    go_wp2
    go_ret
    exact ⟨rfl, hS1⟩
  | true =>
    have e2 := l2 rfl
    subst e2
    by_cases k0 : E = 0
    · have hwH := Lib.hid (l4 k0)
      have k0b : (E == 0) = true := beq_iff_eq.2 k0
      clear l1 l2 l3 l4 k0
      go_enter Tryz.func6, Tryz.ntmps6
      go_wp2_with ((with_reducible refine box_row rfl 26 (.tmp 0) rfl C ?_ ?_); rfl; refine RowKit.Hid.out ?_)
      refine Lib.hid ?_
      clear hW
      go_wp2_with ((with_reducible refine wpList_load_blk rfl 26 (.tmp 1) rfl ?_ hk rowRp hCl ?_); rfl)
      refine (hR.out W).mono ?_
      rintro q w1 ⟨rfl, b1⟩
      have hk1 := hk.keep b1 hk.lt
      have hS1 := hb.trans (b1.mono hb.size)
      clear hk hb b1
      go_wp2_with fail
      have SD : Below w1.heap.size w1 w1.drew := (Below.refl _ _).drew
      have e0 := Lib.hid (fun w' (h : Below w1.heap.size w1 w') => rp0 (hCH.out ▸ hk1.keep h hk1.lt))
      have e1 := Lib.hid (fun w' (h : Below w1.heap.size w1 w') => rp1 (hCH.out ▸ hk1.keep h hk1.lt))
      have hkH := Lib.hid (And.intro hk1 hS1)
      clear hk1 hS1
      refine region_seqS (fun w' => Below w1.heap.size w1 w') (by kernel_rfl) SD ?_
      simp only [pairs, Nat.reduceAdd]
      repeat (first
        | (refine SeqS.take (v := ?_) (by first | assumption | trivial) (by kernel_rfl) (by decide +kernel) (by decide +kernel) (Or.inl ⟨by rfl, ?_⟩) ?_
           rotate_left
           focus
             intro w' hb'
             go_simp
             with_reducible rfl
           simp only [Act.put, List.setIfInBounds_toArray, List.set_cons_zero, List.set_cons_succ])
        | (refine SeqS.take (v := ?_) (by first | assumption | trivial) (by kernel_rfl) (by decide +kernel) (by decide +kernel) (Or.inl ⟨by rfl, ?_⟩) ?_
           rotate_left
           focus
             intro w' hb'
             have d0 := e0.out w' hb'
             go_simp
             with_reducible rfl
           simp only [Act.put, List.setIfInBounds_toArray, List.set_cons_zero, List.set_cons_succ])
        | (refine SeqS.take (v := ?_) (by first | assumption | trivial) (by kernel_rfl) (by decide +kernel) (by decide +kernel) (Or.inl ⟨by rfl, ?_⟩) ?_
           rotate_left
           focus
             intro w' hb'
             have d0 := e1.out w' hb'
             go_simp
             with_reducible rfl
           simp only [Act.put, List.setIfInBounds_toArray, List.set_cons_zero, List.set_cons_succ])
        | (refine SeqS.take (v := undef) (by first | assumption | trivial) (by kernel_rfl) (by decide +kernel) (by decide +kernel) (Or.inr ⟨by rfl, rfl⟩) ?_
           simp only [Act.put, List.setIfInBounds_toArray, List.set_cons_zero, List.set_cons_succ])
        | (refine SeqS.take1 (v := ?_) (by first | assumption | trivial) (by kernel_rfl) (by decide +kernel) (by decide +kernel) (Or.inl ⟨by rfl, ?_⟩) ?_
           rotate_left
           focus
             intro w' hb'
             go_simp
             with_reducible rfl
           simp only [Act.put, List.setIfInBounds_toArray, List.set_cons_zero, List.set_cons_succ])
        | (refine SeqS.take1 (v := ?_) (by first | assumption | trivial) (by kernel_rfl) (by decide +kernel) (by decide +kernel) (Or.inl ⟨by rfl, ?_⟩) ?_
           rotate_left
           focus
             intro w' hb'
             have d0 := e0.out w' hb'
             go_simp
             with_reducible rfl
           simp only [Act.put, List.setIfInBounds_toArray, List.set_cons_zero, List.set_cons_succ])
        | (refine SeqS.take1 (v := ?_) (by first | assumption | trivial) (by kernel_rfl) (by decide +kernel) (by decide +kernel) (Or.inl ⟨by rfl, ?_⟩) ?_
           rotate_left
           focus
             intro w' hb'
             have d0 := e1.out w' hb'
             go_simp
             with_reducible rfl
           simp only [Act.put, List.setIfInBounds_toArray, List.set_cons_zero, List.set_cons_succ])
        | (refine SeqS.take1 (v := undef) (by first | assumption | trivial) (by kernel_rfl) (by decide +kernel) (by decide +kernel) (Or.inr ⟨by rfl, rfl⟩) ?_
           simp only [Act.put, List.setIfInBounds_toArray, List.set_cons_zero, List.set_cons_succ])
        | (refine SeqS.take2 (v := ?_) (by first | assumption | trivial) (by kernel_rfl) (by decide +kernel) (by decide +kernel) (Or.inl ⟨by rfl, ?_⟩) ?_
           rotate_left
           focus
             intro w' hb'
             go_simp
             with_reducible rfl
           simp only [Act.put, List.setIfInBounds_toArray, List.set_cons_zero, List.set_cons_succ])
        | (refine SeqS.take2 (v := ?_) (by first | assumption | trivial) (by kernel_rfl) (by decide +kernel) (by decide +kernel) (Or.inl ⟨by rfl, ?_⟩) ?_
           rotate_left
           focus
             intro w' hb'
             have d0 := e0.out w' hb'
             go_simp
             with_reducible rfl
           simp only [Act.put, List.setIfInBounds_toArray, List.set_cons_zero, List.set_cons_succ])
        | (refine SeqS.take2 (v := ?_) (by first | assumption | trivial) (by kernel_rfl) (by decide +kernel) (by decide +kernel) (Or.inl ⟨by rfl, ?_⟩) ?_
           rotate_left
           focus
             intro w' hb'
             have d0 := e1.out w' hb'
             go_simp
             with_reducible rfl
           simp only [Act.put, List.setIfInBounds_toArray, List.set_cons_zero, List.set_cons_succ])
        | (refine SeqS.take2 (v := undef) (by first | assumption | trivial) (by kernel_rfl) (by decide +kernel) (by decide +kernel) (Or.inr ⟨by rfl, rfl⟩) ?_
           simp only [Act.put, List.setIfInBounds_toArray, List.set_cons_zero, List.set_cons_succ]))
      refine SeqS.alone (by decide +kernel) (by rfl) (fun K hK => ?_)
      go_simp
      go_at_call 19
      refine (hkn.out _).mono ?_
      rintro e w3 ⟨rfl, b3⟩
      go_simp
      have S3 : Below w1.heap.size w1 w3 := SD.trans (b3.mono SD.size)
      refine hK _ _ S3 ?_
      clear hK K
      repeat (first
        | (refine SeqS.take (v := ?_) (by first | assumption | trivial) (by kernel_rfl) (by decide +kernel) (by decide +kernel) (Or.inl ⟨by rfl, ?_⟩) ?_
           rotate_left
           focus
             intro w' hb'
             go_simp
             with_reducible rfl
           simp only [Act.put, List.setIfInBounds_toArray, List.set_cons_zero, List.set_cons_succ])
        | (refine SeqS.take (v := ?_) (by first | assumption | trivial) (by kernel_rfl) (by decide +kernel) (by decide +kernel) (Or.inl ⟨by rfl, ?_⟩) ?_
           rotate_left
           focus
             intro w' hb'
             have d0 := e1.out w' hb'
             go_simp
             with_reducible rfl
           simp only [Act.put, List.setIfInBounds_toArray, List.set_cons_zero, List.set_cons_succ])
        | (refine SeqS.take (v := undef) (by first | assumption | trivial) (by kernel_rfl) (by decide +kernel) (by decide +kernel) (Or.inr ⟨by rfl, rfl⟩) ?_
           simp only [Act.put, List.setIfInBounds_toArray, List.set_cons_zero, List.set_cons_succ])
        | (refine SeqS.take1 (v := ?_) (by first | assumption | trivial) (by kernel_rfl) (by decide +kernel) (by decide +kernel) (Or.inl ⟨by rfl, ?_⟩) ?_
           rotate_left
           focus
             intro w' hb'
             go_simp
             with_reducible rfl
           simp only [Act.put, List.setIfInBounds_toArray, List.set_cons_zero, List.set_cons_succ])
        | (refine SeqS.take1 (v := ?_) (by first | assumption | trivial) (by kernel_rfl) (by decide +kernel) (by decide +kernel) (Or.inl ⟨by rfl, ?_⟩) ?_
           rotate_left
           focus
             intro w' hb'
             have d0 := e1.out w' hb'
             go_simp
             with_reducible rfl
           simp only [Act.put, List.setIfInBounds_toArray, List.set_cons_zero, List.set_cons_succ])
        | (refine SeqS.take1 (v := undef) (by first | assumption | trivial) (by kernel_rfl) (by decide +kernel) (by decide +kernel) (Or.inr ⟨by rfl, rfl⟩) ?_
           simp only [Act.put, List.setIfInBounds_toArray, List.set_cons_zero, List.set_cons_succ])
        | (refine SeqS.take2 (v := ?_) (by first | assumption | trivial) (by kernel_rfl) (by decide +kernel) (by decide +kernel) (Or.inl ⟨by rfl, ?_⟩) ?_
           rotate_left
           focus
             intro w' hb'
             go_simp
             with_reducible rfl
           simp only [Act.put, List.setIfInBounds_toArray, List.set_cons_zero, List.set_cons_succ])
        | (refine SeqS.take2 (v := ?_) (by first | assumption | trivial) (by kernel_rfl) (by decide +kernel) (by decide +kernel) (Or.inl ⟨by rfl, ?_⟩) ?_
           rotate_left
           focus
             intro w' hb'
             have d0 := e1.out w' hb'
             go_simp
             with_reducible rfl
           simp only [Act.put, List.setIfInBounds_toArray, List.set_cons_zero, List.set_cons_succ])
        | (refine SeqS.take2 (v := undef) (by first | assumption | trivial) (by kernel_rfl) (by decide +kernel) (by decide +kernel) (Or.inr ⟨by rfl, rfl⟩) ?_
           simp only [Act.put, List.setIfInBounds_toArray, List.set_cons_zero, List.set_cons_succ]))
      refine SeqS.alone (by decide +kernel) (by rfl) (fun K hK => ?_)
      go_simp
      go_at_call 20
      refine (hen.out _).mono ?_
      rintro e w4 ⟨rfl, b4⟩
      go_simp
      have S4 : Below w1.heap.size w1 w4 := S3.trans (b4.mono S3.size)
      refine hK _ _ S4 ?_
      clear hK K
      refine SeqS.alone (by decide +kernel) (by rfl) (fun K hK => ?_)
      go_simp
      have S5 : Below w1.heap.size w1 (w4.alloc (.cells #[.string S1, .string S2] 9)) := S4.alloc S4.size _
      refine hK _ _ S5 ?_
      clear hK K
      repeat (first
        | (refine SeqS.take (v := ?_) (by first | assumption | trivial) (by kernel_rfl) (by decide +kernel) (by decide +kernel) (Or.inl ⟨by rfl, ?_⟩) ?_
           rotate_left
           focus
             intro w' hb'
             go_simp
             with_reducible rfl
           simp only [Act.put, List.setIfInBounds_toArray, List.set_cons_zero, List.set_cons_succ])
        | (refine SeqS.take (v := undef) (by first | assumption | trivial) (by kernel_rfl) (by decide +kernel) (by decide +kernel) (Or.inr ⟨by rfl, rfl⟩) ?_
           simp only [Act.put, List.setIfInBounds_toArray, List.set_cons_zero, List.set_cons_succ])
        | (refine SeqS.take1 (v := ?_) (by first | assumption | trivial) (by kernel_rfl) (by decide +kernel) (by decide +kernel) (Or.inl ⟨by rfl, ?_⟩) ?_
           rotate_left
           focus
             intro w' hb'
             go_simp
             with_reducible rfl
           simp only [Act.put, List.setIfInBounds_toArray, List.set_cons_zero, List.set_cons_succ])
        | (refine SeqS.take1 (v := undef) (by first | assumption | trivial) (by kernel_rfl) (by decide +kernel) (by decide +kernel) (Or.inr ⟨by rfl, rfl⟩) ?_
           simp only [Act.put, List.setIfInBounds_toArray, List.set_cons_zero, List.set_cons_succ])
        | (refine SeqS.take2 (v := ?_) (by first | assumption | trivial) (by kernel_rfl) (by decide +kernel) (by decide +kernel) (Or.inl ⟨by rfl, ?_⟩) ?_
           rotate_left
           focus
             intro w' hb'
             go_simp
             with_reducible rfl
           simp only [Act.put, List.setIfInBounds_toArray, List.set_cons_zero, List.set_cons_succ])
        | (refine SeqS.take2 (v := undef) (by first | assumption | trivial) (by kernel_rfl) (by decide +kernel) (by decide +kernel) (Or.inr ⟨by rfl, rfl⟩) ?_
           simp only [Act.put, List.setIfInBounds_toArray, List.set_cons_zero, List.set_cons_succ]))
      refine SeqS.done (by decide +kernel) ?_
      have hk5 := hkH.out.1.keep S5 hkH.out.1.lt
      have hB5 := hkH.out.2.trans (S5.mono hkH.out.2.size)
      have own5 : (w4.alloc (.cells #[.string S1, .string S2] 9)).ownsRow w.heap.size 9 1 (.slice (some ⟨w4.heap.size, 0, none⟩) 2 2) 2 (strsV [nameL kindsL K, nameL errsL E]) := by
        rw [← n1.out, ← n2.out]
        exact own_two w4 _ _ (Nat.le_trans hkH.out.2.size S4.size)
      have c1 := rp1 (hCH.out ▸ hk5)
      obtain ⟨V, hV⟩ : ∃ V, w4.alloc (.cells #[.string S1, .string S2] 9) = V := ⟨_, rfl⟩
      rw [hV] at hk5 hB5 own5 c1 ⊢
      obtain ⟨g, hg⟩ : ∃ g, w4.heap.size = g := ⟨_, rfl⟩
      rw [hg] at own5 ⊢
      clear hV hg S5 S4 S3 SD b3 b4 e0 e1 hkH
      go_wp2_with ((with_reducible refine wpList_load_blk rfl 26 (.tmp 1) rfl ?_ hk5 rowRp hCl ?_); rfl)
      refine (hN.out V).mono ?_
      rintro q w6 ⟨rfl, b6⟩
      have own6 := own_stay9 own5 b6
      have hB6 := hB5.trans (b6.mono hB5.size)
      clear own5 hB5 hk5 b6 c1 hN hkn hen hR n1 n2 g9
      go_wp2_with fail
      go_loopw [3, 21] (fun v i wr => ∃ j : Nat, j ≤ 5 ∧ i = .int .i64 j ∧ wr.ownsRow w.heap.size 9 1 v (2 + j) (strsV ([nameL kindsL K, nameL errsL E] ++ (L.take j).map (fun n => numL n.toNat))) ∧ Below w.heap.size w wr) (fun _ i _ => 5 - (intOf i).toNat)
      case atStart => exact ⟨0, by decide, rfl, own6, hB6⟩
      case round =>
        clear own6 hB6
        obtain ⟨j, hj, rfl, hown, hB⟩ := hrel
        by_cases hlt : j < 5
        · have hji : (j : Int) < 5 := by omega
          have hx := hrg.out j hlt
          have hc := hNum_any (L.getD j 0).toNat wr (by omega) (hGH.out.1.keep hB hGH.out.2)
          have hax := har.out j hlt
          have hstj := hst.out j hlt
          obtain ⟨x, hxe⟩ : ∃ x, L.getD j 0 = x := ⟨_, rfl⟩
          rw [hxe] at hx hc hax hstj
          obtain ⟨Y, hY⟩ : ∃ Y, strsV ([nameL kindsL K, nameL errsL E] ++ (L.take j).map (fun n => numL n.toNat)) = Y := ⟨_, rfl⟩
          rw [hY] at hown hstj
          rw [show ((x.toNat : Nat) : Int) = x by omega] at hc
          have hix := fun wx => run_index_row15 (P := Tryz.prog) 42 24 5 Tryz.underlying42 (by kernel_rfl) (by kernel_rfl) Ar.toArray .i64 j hlt _ hax wx
          have u1 : IntKind.u64.wrap x = x := by rw [IntKind.wrap_u64]; omega
          have u2 : x % 18446744073709551616 = x := by omega
          obtain ⟨Sx, hSx⟩ : ∃ S, strOfNums (numL x.toNat) = S := ⟨_, rfl⟩
          rw [hSx] at hc hstj
          have hcH := Lib.hid hc
          have hstH := Lib.hid hstj
          have hoH := Lib.hid (And.intro hown hB)
          have hltH := Lib.hid hlt
          clear hlt hj hown hB hx hc hax hstj hxe hSx hY
          go_wp2_with fail
          refine hcH.out.mono ?_
          rintro q w7 ⟨rfl, b7⟩
          have hown7 := own_stay9 hoH.out.1 b7
          have hB7 := hoH.out.2.trans (b7.mono hoH.out.2.size)
          have own8H := Lib.hid (hown7.alloc (.cells #[.string Sx] 9))
          have hnewH := Lib.hid (Blk.new w7 9 [.string Sx])
          have hB8 := Lib.hid (hB7.alloc hB7.size (.cells #[.string Sx] 9))
          clear hown7 hB7 b7 hcH hoH hix u1 u2
          go_wp2_with (at_builtin; refine wpList_append_own _ rfl _ _ 47 rfl w.heap.size 9 i0 _ 1 16 Tryz.underlying47 hi hz0 hz1 hz2 (by simp [Value.cells]) (by decide) _ _ _ rfl own8H.out ⟨w7.heap.size, 0, none⟩ 1 1 [.string Sx] rfl rfl ?c1 ?c2 ?c3 ?c4 ?c5 ?_)
          case c1 =>
            intro t u ht
            rw [add_at9, hnewH.out.cell]
            exact ht
          case c2 =>
            intro u hu
            rw [List.mem_singleton.1 hu]
            rfl
          case c3 => have := hltH.out; unfold maxLen; omega
          case c4 => have := hltH.out; omega
          case c5 => exact hB8.out.size
          intro v9 W9 hown9 hg9 _
          have own9 : W9.ownsRow w.heap.size 9 1 v9 (2 + (j + 1)) (strsV ([nameL kindsL K, nameL errsL E] ++ (L.take (j + 1)).map (fun n => numL n.toNat))) := by
            rw [hstH.out]
            exact hown9
          have b9 : Below w.heap.size w W9 := hB8.out.grown hg9 hB8.out.size (fun q hq => (own8H.out.lt q hq).1)
          clear hown9 hg9
          go_wp2
          exact ⟨⟨j + 1, by have := hltH.out; omega, by congr 1, own9, b9⟩, by simp only [intOf]; have := hltH.out; omega⟩
        · obtain rfl : j = 5 := by omega
          have hji : ¬ ((5 : Nat) : Int) < 5 := by omega
          rw [List.take_of_length_le (by omega), ← hwH.out] at hown
          have hjn := join_own hown (by decide) (by decide) (by have := hjl.out; omega)
          rw [hRs.out] at hjn
          clear hlt hj hown
          go_wp2_with fail
          refine hjn.mono ?_
          rintro q w9 ⟨rfl, b9⟩
          go_wp2
          go_ret
          exact ⟨rfl, hB.trans (b9.mono hB.size)⟩
    · have hwH := Lib.hid (l3 k0)
      have k0b : (E == 0) = false := beq_false_of_ne k0
      clear l1 l2 l3 l4 k0
      go_enter Tryz.func6, Tryz.ntmps6
      go_wp2_with ((with_reducible refine box_row rfl 26 (.tmp 0) rfl C ?_ ?_); rfl; refine RowKit.Hid.out ?_)
      refine Lib.hid ?_
      clear hW
      go_wp2_with ((with_reducible refine wpList_load_blk rfl 26 (.tmp 1) rfl ?_ hk rowRp hCl ?_); rfl)
      refine (hR.out W).mono ?_
      rintro q w1 ⟨rfl, b1⟩
      have hk1 := hk.keep b1 hk.lt
      have hS1 := hb.trans (b1.mono hb.size)
      clear hk hb b1
      go_wp2_with fail
      have SD : Below w1.heap.size w1 w1.drew := (Below.refl _ _).drew
      have e0 := Lib.hid (fun w' (h : Below w1.heap.size w1 w') => rp0 (hCH.out ▸ hk1.keep h hk1.lt))
      have e1 := Lib.hid (fun w' (h : Below w1.heap.size w1 w') => rp1 (hCH.out ▸ hk1.keep h hk1.lt))
      have hkH := Lib.hid (And.intro hk1 hS1)
      clear hk1 hS1
      refine region_seqS (fun w' => Below w1.heap.size w1 w') (by kernel_rfl) SD ?_
      simp only [pairs, Nat.reduceAdd]
      repeat (first
        | (refine SeqS.take (v := ?_) (by first | assumption | trivial) (by kernel_rfl) (by decide +kernel) (by decide +kernel) (Or.inl ⟨by rfl, ?_⟩) ?_
           rotate_left
           focus
             intro w' hb'
             go_simp
             with_reducible rfl
           simp only [Act.put, List.setIfInBounds_toArray, List.set_cons_zero, List.set_cons_succ])
        | (refine SeqS.take (v := ?_) (by first | assumption | trivial) (by kernel_rfl) (by decide +kernel) (by decide +kernel) (Or.inl ⟨by rfl, ?_⟩) ?_
           rotate_left
           focus
             intro w' hb'
             have d0 := e0.out w' hb'
             go_simp
             with_reducible rfl
           simp only [Act.put, List.setIfInBounds_toArray, List.set_cons_zero, List.set_cons_succ])
        | (refine SeqS.take (v := ?_) (by first | assumption | trivial) (by kernel_rfl) (by decide +kernel) (by decide +kernel) (Or.inl ⟨by rfl, ?_⟩) ?_
           rotate_left
           focus
             intro w' hb'
             have d0 := e1.out w' hb'
             go_simp
             with_reducible rfl
           simp only [Act.put, List.setIfInBounds_toArray, List.set_cons_zero, List.set_cons_succ])
        | (refine SeqS.take (v := undef) (by first | assumption | trivial) (by kernel_rfl) (by decide +kernel) (by decide +kernel) (Or.inr ⟨by rfl, rfl⟩) ?_
           simp only [Act.put, List.setIfInBounds_toArray, List.set_cons_zero, List.set_cons_succ])
        | (refine SeqS.take1 (v := ?_) (by first | assumption | trivial) (by kernel_rfl) (by decide +kernel) (by decide +kernel) (Or.inl ⟨by rfl, ?_⟩) ?_
           rotate_left
           focus
             intro w' hb'
             go_simp
             with_reducible rfl
           simp only [Act.put, List.setIfInBounds_toArray, List.set_cons_zero, List.set_cons_succ])
        | (refine SeqS.take1 (v := ?_) (by first | assumption | trivial) (by kernel_rfl) (by decide +kernel) (by decide +kernel) (Or.inl ⟨by rfl, ?_⟩) ?_
           rotate_left
           focus
             intro w' hb'
             have d0 := e0.out w' hb'
             go_simp
             with_reducible rfl
           simp only [Act.put, List.setIfInBounds_toArray, List.set_cons_zero, List.set_cons_succ])
        | (refine SeqS.take1 (v := ?_) (by first | assumption | trivial) (by kernel_rfl) (by decide +kernel) (by decide +kernel) (Or.inl ⟨by rfl, ?_⟩) ?_
           rotate_left
           focus
             intro w' hb'
             have d0 := e1.out w' hb'
             go_simp
             with_reducible rfl
           simp only [Act.put, List.setIfInBounds_toArray, List.set_cons_zero, List.set_cons_succ])
        | (refine SeqS.take1 (v := undef) (by first | assumption | trivial) (by kernel_rfl) (by decide +kernel) (by decide +kernel) (Or.inr ⟨by rfl, rfl⟩) ?_
           simp only [Act.put, List.setIfInBounds_toArray, List.set_cons_zero, List.set_cons_succ])
        | (refine SeqS.take2 (v := ?_) (by first | assumption | trivial) (by kernel_rfl) (by decide +kernel) (by decide +kernel) (Or.inl ⟨by rfl, ?_⟩) ?_
           rotate_left
           focus
             intro w' hb'
             go_simp
             with_reducible rfl
           simp only [Act.put, List.setIfInBounds_toArray, List.set_cons_zero, List.set_cons_succ])
        | (refine SeqS.take2 (v := ?_) (by first | assumption | trivial) (by kernel_rfl) (by decide +kernel) (by decide +kernel) (Or.inl ⟨by rfl, ?_⟩) ?_
           rotate_left
           focus
             intro w' hb'
             have d0 := e0.out w' hb'
             go_simp
             with_reducible rfl
           simp only [Act.put, List.setIfInBounds_toArray, List.set_cons_zero, List.set_cons_succ])
        | (refine SeqS.take2 (v := ?_) (by first | assumption | trivial) (by kernel_rfl) (by decide +kernel) (by decide +kernel) (Or.inl ⟨by rfl, ?_⟩) ?_
           rotate_left
           focus
             intro w' hb'
             have d0 := e1.out w' hb'
             go_simp
             with_reducible rfl
           simp only [Act.put, List.setIfInBounds_toArray, List.set_cons_zero, List.set_cons_succ])
        | (refine SeqS.take2 (v := undef) (by first | assumption | trivial) (by kernel_rfl) (by decide +kernel) (by decide +kernel) (Or.inr ⟨by rfl, rfl⟩) ?_
           simp only [Act.put, List.setIfInBounds_toArray, List.set_cons_zero, List.set_cons_succ]))
      refine SeqS.alone (by decide +kernel) (by rfl) (fun K hK => ?_)
      go_simp
      go_at_call 19
      refine (hkn.out _).mono ?_
      rintro e w3 ⟨rfl, b3⟩
      go_simp
      have S3 : Below w1.heap.size w1 w3 := SD.trans (b3.mono SD.size)
      refine hK _ _ S3 ?_
      clear hK K
      repeat (first
        | (refine SeqS.take (v := ?_) (by first | assumption | trivial) (by kernel_rfl) (by decide +kernel) (by decide +kernel) (Or.inl ⟨by rfl, ?_⟩) ?_
           rotate_left
           focus
             intro w' hb'
             go_simp
             with_reducible rfl
           simp only [Act.put, List.setIfInBounds_toArray, List.set_cons_zero, List.set_cons_succ])
        | (refine SeqS.take (v := ?_) (by first | assumption | trivial) (by kernel_rfl) (by decide +kernel) (by decide +kernel) (Or.inl ⟨by rfl, ?_⟩) ?_
           rotate_left
           focus
             intro w' hb'
             have d0 := e1.out w' hb'
             go_simp
             with_reducible rfl
           simp only [Act.put, List.setIfInBounds_toArray, List.set_cons_zero, List.set_cons_succ])
        | (refine SeqS.take (v := undef) (by first | assumption | trivial) (by kernel_rfl) (by decide +kernel) (by decide +kernel) (Or.inr ⟨by rfl, rfl⟩) ?_
           simp only [Act.put, List.setIfInBounds_toArray, List.set_cons_zero, List.set_cons_succ])
        | (refine SeqS.take1 (v := ?_) (by first | assumption | trivial) (by kernel_rfl) (by decide +kernel) (by decide +kernel) (Or.inl ⟨by rfl, ?_⟩) ?_
           rotate_left
           focus
             intro w' hb'
             go_simp
             with_reducible rfl
           simp only [Act.put, List.setIfInBounds_toArray, List.set_cons_zero, List.set_cons_succ])
        | (refine SeqS.take1 (v := ?_) (by first | assumption | trivial) (by kernel_rfl) (by decide +kernel) (by decide +kernel) (Or.inl ⟨by rfl, ?_⟩) ?_
           rotate_left
           focus
             intro w' hb'
             have d0 := e1.out w' hb'
             go_simp
             with_reducible rfl
           simp only [Act.put, List.setIfInBounds_toArray, List.set_cons_zero, List.set_cons_succ])
        | (refine SeqS.take1 (v := undef) (by first | assumption | trivial) (by kernel_rfl) (by decide +kernel) (by decide +kernel) (Or.inr ⟨by rfl, rfl⟩) ?_
           simp only [Act.put, List.setIfInBounds_toArray, List.set_cons_zero, List.set_cons_succ])
        | (refine SeqS.take2 (v := ?_) (by first | assumption | trivial) (by kernel_rfl) (by decide +kernel) (by decide +kernel) (Or.inl ⟨by rfl, ?_⟩) ?_
           rotate_left
           focus
             intro w' hb'
             go_simp
             with_reducible rfl
           simp only [Act.put, List.setIfInBounds_toArray, List.set_cons_zero, List.set_cons_succ])
        | (refine SeqS.take2 (v := ?_) (by first | assumption | trivial) (by kernel_rfl) (by decide +kernel) (by decide +kernel) (Or.inl ⟨by rfl, ?_⟩) ?_
           rotate_left
           focus
             intro w' hb'
             have d0 := e1.out w' hb'
             go_simp
             with_reducible rfl
           simp only [Act.put, List.setIfInBounds_toArray, List.set_cons_zero, List.set_cons_succ])
        | (refine SeqS.take2 (v := undef) (by first | assumption | trivial) (by kernel_rfl) (by decide +kernel) (by decide +kernel) (Or.inr ⟨by rfl, rfl⟩) ?_
           simp only [Act.put, List.setIfInBounds_toArray, List.set_cons_zero, List.set_cons_succ]))
      refine SeqS.alone (by decide +kernel) (by rfl) (fun K hK => ?_)
      go_simp
      go_at_call 20
      refine (hen.out _).mono ?_
      rintro e w4 ⟨rfl, b4⟩
      go_simp
      have S4 : Below w1.heap.size w1 w4 := S3.trans (b4.mono S3.size)
      refine hK _ _ S4 ?_
      clear hK K
      refine SeqS.alone (by decide +kernel) (by rfl) (fun K hK => ?_)
      go_simp
      have S5 : Below w1.heap.size w1 (w4.alloc (.cells #[.string S1, .string S2] 9)) := S4.alloc S4.size _
      refine hK _ _ S5 ?_
      clear hK K
      repeat (first
        | (refine SeqS.take (v := ?_) (by first | assumption | trivial) (by kernel_rfl) (by decide +kernel) (by decide +kernel) (Or.inl ⟨by rfl, ?_⟩) ?_
           rotate_left
           focus
             intro w' hb'
             go_simp
             with_reducible rfl
           simp only [Act.put, List.setIfInBounds_toArray, List.set_cons_zero, List.set_cons_succ])
        | (refine SeqS.take (v := undef) (by first | assumption | trivial) (by kernel_rfl) (by decide +kernel) (by decide +kernel) (Or.inr ⟨by rfl, rfl⟩) ?_
           simp only [Act.put, List.setIfInBounds_toArray, List.set_cons_zero, List.set_cons_succ])
        | (refine SeqS.take1 (v := ?_) (by first | assumption | trivial) (by kernel_rfl) (by decide +kernel) (by decide +kernel) (Or.inl ⟨by rfl, ?_⟩) ?_
           rotate_left
           focus
             intro w' hb'
             go_simp
             with_reducible rfl
           simp only [Act.put, List.setIfInBounds_toArray, List.set_cons_zero, List.set_cons_succ])
        | (refine SeqS.take1 (v := undef) (by first | assumption | trivial) (by kernel_rfl) (by decide +kernel) (by decide +kernel) (Or.inr ⟨by rfl, rfl⟩) ?_
           simp only [Act.put, List.setIfInBounds_toArray, List.set_cons_zero, List.set_cons_succ])
        | (refine SeqS.take2 (v := ?_) (by first | assumption | trivial) (by kernel_rfl) (by decide +kernel) (by decide +kernel) (Or.inl ⟨by rfl, ?_⟩) ?_
           rotate_left
           focus
             intro w' hb'
             go_simp
             with_reducible rfl
           simp only [Act.put, List.setIfInBounds_toArray, List.set_cons_zero, List.set_cons_succ])
        | (refine SeqS.take2 (v := undef) (by first | assumption | trivial) (by kernel_rfl) (by decide +kernel) (by decide +kernel) (Or.inr ⟨by rfl, rfl⟩) ?_
           simp only [Act.put, List.setIfInBounds_toArray, List.set_cons_zero, List.set_cons_succ]))
      refine SeqS.done (by decide +kernel) ?_
      have hk5 := hkH.out.1.keep S5 hkH.out.1.lt
      have hB5 := hkH.out.2.trans (S5.mono hkH.out.2.size)
      have own5 : (w4.alloc (.cells #[.string S1, .string S2] 9)).ownsRow w.heap.size 9 1 (.slice (some ⟨w4.heap.size, 0, none⟩) 2 2) 2 (strsV [nameL kindsL K, nameL errsL E]) := by
        rw [← n1.out, ← n2.out]
        exact own_two w4 _ _ (Nat.le_trans hkH.out.2.size S4.size)
      have c1 := rp1 (hCH.out ▸ hk5)
      obtain ⟨V, hV⟩ : ∃ V, w4.alloc (.cells #[.string S1, .string S2] 9) = V := ⟨_, rfl⟩
      rw [hV] at hk5 hB5 own5 c1 ⊢
      obtain ⟨g, hg⟩ : ∃ g, w4.heap.size = g := ⟨_, rfl⟩
      rw [hg] at own5 ⊢
      clear hV hg S5 S4 S3 SD b3 b4 e0 e1 hkH
      rw [← hwH.out] at own5
      have hjn := join_own own5 (by decide) (by decide) (by have := hjl.out; omega)
      rw [hRs.out] at hjn
      clear own5 hk5
      go_wp2_with fail
      refine hjn.mono ?_
      rintro q w9 ⟨rfl, b9⟩
      go_wp2
      go_ret
      exact ⟨rfl, hB5.trans (b9.mono hB5.size)⟩
end Go.Proofs.YtbiabjehdmddbaaGreatDoor

/-
  The document's own Nums and Right of a reply (layer 15). New memory alone is written. No conditions.
-/
namespace Go.Proofs.YtbiabjehdmddbaaGreatDoor
open Go.RowKit

set_option maxRecDepth 100000 in
set_option maxHeartbeats 1000000 in
theorem rfNums_any (r : RplV) (w : World) : Calls Tryz.prog 23 #[.agg (rpV r).toArray] w fun q w' => ∃ g, q = .returned (.slice (some ⟨g, 0, none⟩) 5 5) ∧ Blk w' g 24 (arV r) ∧ w.heap.size ≤ g ∧ Below w.heap.size w w' := by
  obtain ⟨K, E, S, Q, O, U, X⟩ := r
  unfold rpV arV
  dsimp only
  obtain ⟨C, hC⟩ : ∃ C, rpC K E S Q O U X = C := ⟨_, rfl⟩
  rw [hC]
  have hCl : C.length = 7 := by rw [← hC]; rfl
  have hCH := Lib.hid hC
  have hb := below1 w (.cells C.toArray 26)
  have hk : Blk (w.alloc (.cells C.toArray 26)) w.heap.size 26 C := Blk.new w _ C
  obtain ⟨W, hW⟩ : ∃ V, w.alloc (.cells C.toArray 26) = V := ⟨_, rfl⟩
  rw [hW] at hb hk
  obtain ⟨G, g9⟩ : ∃ G, w.heap.size = G := ⟨_, rfl⟩
  rw [g9] at hk
  have gH := Lib.hid g9
  have c2 := rp2 (hCH.out ▸ hk)
  have c3 := rp3 (hCH.out ▸ hk)
  have c4 := rp4 (hCH.out ▸ hk)
  have c5 := rp5 (hCH.out ▸ hk)
  have c6 := rp6 (hCH.out ▸ hk)
  have hn := Lib.hid (Blk.new W 24 (arC S Q O U X))
  have hB := Lib.hid (hb.alloc hb.size (.cells (arC S Q O U X).toArray 24))
  have hgl := Lib.hid hb.size
  clear hC hk hb
  go_enter Tryz.func23, Tryz.ntmps23
  go_wp2_with ((with_reducible refine box_row rfl 26 (.tmp 0) rfl C ?_ ?_); rfl; refine RowKit.Hid.out ?_)
  refine Lib.hid ?_
  clear hW g9
  go_wp2
  go_ret
  exact ⟨W.heap.size, rfl, hn.out, by have := gH.out; have := hgl.out; omega, by have := hB.out; rw [gH.out] at this; first | exact this | exact hB.out⟩

theorem right_all {r : RplV} (h1 : 0 ≤ r.kind ∧ r.kind < 7) (h2 : 0 ≤ r.err ∧ r.err < 21) (h : ∀ j, j < 5 → (numsR r).getD j 0 = 0) : rightR r = true :=
  decide_eq_true ⟨h1, h2, .inr ⟨h 0 (by decide), h 1 (by decide), h 2 (by decide), h 3 (by decide), h 4 (by decide)⟩⟩
theorem right_not {r : RplV} (h0 : r.err ≠ 0) (j : Nat) (hj : j < 5) (h : (numsR r).getD j 0 ≠ 0) : rightR r = false := by
  refine decide_eq_false fun k => ?_
  obtain ⟨k1, k2, k3, k4, k5⟩ := k.2.2.resolve_left h0
  match j, hj with
  | 0, _ => exact h k1
  | 1, _ => exact h k2
  | 2, _ => exact h k3
  | 3, _ => exact h k4
  | 4, _ => exact h k5
theorem arV_cell {w : World} {g : Nat} {t : TypeId} {r : RplV} (h : Blk w g t (arV r)) (j : Nat) (hj : j < 5) : w.cell? ⟨g, j, none⟩ = some (.int .u32 ((numsR r).getD j 0)) := by
  rw [h.cell]
  have := arV_at r j hj
  rw [List.getElem?_toArray] at this
  exact this

set_option maxRecDepth 100000 in
set_option maxHeartbeats 4000000 in
theorem rfRight_any (r : RplV) (w : World) : Calls Tryz.prog 8 #[.agg (rpV r).toArray] w fun q w' => q = .returned (.bool (rightR r)) ∧ Below w.heap.size w w' := by
  have hN := fun w' => rfNums_any r w'
  have hac := fun w' g h => arV_cell (w := w') (g := g) (t := 24) (r := r) h
  have r1 := right_kind (r := r)
  have r2 := right_err (r := r)
  have r3 := right_ok (r := r)
  have r4 := right_all (r := r)
  have r5 := right_not (r := r)
  obtain ⟨R, hR⟩ : ∃ R, rightR r = R := ⟨_, rfl⟩
  rw [hR] at r1 r2 r3 r4 r5 ⊢
  obtain ⟨L, hL⟩ : ∃ L, numsR r = L := ⟨_, rfl⟩
  rw [hL] at hac r4 r5
  obtain ⟨Ar, hAr⟩ : ∃ A, arV r = A := ⟨_, rfl⟩
  rw [hAr] at hN hac
  obtain ⟨K, E, S, Q, O, U, X⟩ := r
  unfold rpV at hN ⊢
  dsimp only at hN r1 r2 r3 r4 r5 ⊢
  obtain ⟨C, hC⟩ : ∃ C, rpC K E S Q O U X = C := ⟨_, rfl⟩
  rw [hC] at hN ⊢
  have hCl : C.length = 7 := by rw [← hC]; rfl
  have hCH := Lib.hid hC
  have hb := below1 w (.cells C.toArray 26)
  have hk : Blk (w.alloc (.cells C.toArray 26)) w.heap.size 26 C := Blk.new w _ C
  obtain ⟨W, hW⟩ : ∃ V, w.alloc (.cells C.toArray 26) = V := ⟨_, rfl⟩
  rw [hW] at hb hk
  obtain ⟨G, g9⟩ : ∃ G, w.heap.size = G := ⟨_, rfl⟩
  rw [g9] at hk
  have gH := Lib.hid g9
  replace hN := Lib.hid hN
  replace hac := Lib.hid hac
  clear hC hR hL hAr
  by_cases k1 : K < 0
  · obtain rfl := r1 (by omega)
    clear r1 r2 r3 r4 r5
    go_enter Tryz.func8, Tryz.ntmps8
    go_wp2_with ((with_reducible refine box_row rfl 26 (.tmp 0) rfl C ?_ ?_); rfl; refine RowKit.Hid.out ?_)
    refine Lib.hid ?_
    clear hW g9
    have c0 := rp0 (hCH.out ▸ hk)
    have c1 := rp1 (hCH.out ▸ hk)
    go_wp2
    go_ret
    exact ⟨rfl, gH.out ▸ hb⟩
  by_cases k2 : 6 < K
  · obtain rfl := r1 (by omega)
    clear r1 r2 r3 r4 r5
    go_enter Tryz.func8, Tryz.ntmps8
    go_wp2_with ((with_reducible refine box_row rfl 26 (.tmp 0) rfl C ?_ ?_); rfl; refine RowKit.Hid.out ?_)
    refine Lib.hid ?_
    clear hW g9
    have c0 := rp0 (hCH.out ▸ hk)
    have c1 := rp1 (hCH.out ▸ hk)
    go_wp2
    go_ret
    exact ⟨rfl, gH.out ▸ hb⟩
  by_cases k3 : E < 0
  · obtain rfl := r2 (by omega)
    clear r1 r2 r3 r4 r5
    go_enter Tryz.func8, Tryz.ntmps8
    go_wp2_with ((with_reducible refine box_row rfl 26 (.tmp 0) rfl C ?_ ?_); rfl; refine RowKit.Hid.out ?_)
    refine Lib.hid ?_
    clear hW g9
    have c0 := rp0 (hCH.out ▸ hk)
    have c1 := rp1 (hCH.out ▸ hk)
    go_wp2
    go_ret
    exact ⟨rfl, gH.out ▸ hb⟩
  by_cases k4 : 20 < E
  · obtain rfl := r2 (by omega)
    clear r1 r2 r3 r4 r5
    go_enter Tryz.func8, Tryz.ntmps8
    go_wp2_with ((with_reducible refine box_row rfl 26 (.tmp 0) rfl C ?_ ?_); rfl; refine RowKit.Hid.out ?_)
    refine Lib.hid ?_
    clear hW g9
    have c0 := rp0 (hCH.out ▸ hk)
    have c1 := rp1 (hCH.out ▸ hk)
    go_wp2
    go_ret
    exact ⟨rfl, gH.out ▸ hb⟩
  have r4 := Lib.hid (r4 (by omega) (by omega))
  have r3 := Lib.hid (r3 (by omega) (by omega))
  have r5 := Lib.hid r5
  clear r1 r2
  go_enter Tryz.func8, Tryz.ntmps8
  go_wp2_with ((with_reducible refine box_row rfl 26 (.tmp 0) rfl C ?_ ?_); rfl; refine RowKit.Hid.out ?_)
  refine Lib.hid ?_
  clear hW g9
  have c0 := rp0 (hCH.out ▸ hk)
  have c1 := rp1 (hCH.out ▸ hk)
  go_wp2_with ((with_reducible refine wpList_load_blk rfl 26 (.tmp 1) rfl ?_ hk rowRp hCl ?_); rfl)
  refine (hN.out W).mono ?_
  rintro q w2 ⟨g, rfl, hA, hgW, b2⟩
  have hk2 := hk.keep b2 hk.lt
  have hB2 := hb.trans (b2.mono hb.size)
  have c1 := rp1 (hCH.out ▸ hk2)
  have ha := Lib.hid (hac.out w2 g hA)
  clear hk hb b2 c0
  go_wp2_with fail
  go_loopw [4] (fun i wr => ∃ j : Nat, j ≤ 5 ∧ i = .int .i64 j ∧ (E ≠ 0 → ∀ k, k < j → L.getD k 0 = 0) ∧ wr = w2) (fun i _ => 5 - (intOf i).toNat)
  case atStart => exact ⟨0, by decide, rfl, fun _ k hk => absurd hk (Nat.not_lt_zero _), rfl⟩
  case round =>
    obtain ⟨j, hj, rfl, hno, hwr⟩ := hrel
    have hwr' := hwr.symm
    subst hwr'
    by_cases hlt : j < 5
    · have hji : (j : Int) < 5 := by omega
      have cj := ha.out j hlt
      by_cases h0 : E = 0
      · have e0 : (E == 0) = true := beq_iff_eq.2 h0
        have e1 : (E != 0) = false := by rw [bne, e0]; rfl
        have hnoH := Lib.hid (show E ≠ 0 → ∀ k, k < j + 1 → L.getD k 0 = 0 from fun h => absurd h0 h)
        have hltH := Lib.hid hlt
        clear hlt hj hno cj h0
        go_wp2
        exact ⟨⟨j + 1, by have := hltH.out; omega, by congr 1, hnoH.out, by trivial⟩, by simp only [intOf]; have := hltH.out; omega⟩
      · have e0 : (E == 0) = false := beq_false_of_ne h0
        have e1 : (E != 0) = true := by rw [bne, e0]; rfl
        obtain ⟨x, hx⟩ : ∃ x, L.getD j 0 = x := ⟨_, rfl⟩
        rw [hx] at cj
        by_cases hx0 : x = 0
        · have x0 : (x == 0) = true := beq_iff_eq.2 hx0
          have x1 : (x != 0) = false := by rw [bne, x0]; rfl
          have hnoH := Lib.hid (show E ≠ 0 → ∀ k, k < j + 1 → L.getD k 0 = 0 from fun h k hk => by
            by_cases e : k = j
            · rw [e, hx]; exact hx0
            · exact hno h k (by omega))
          have hltH := Lib.hid hlt
          clear hlt hj hno h0 hx hx0
          go_wp2
          exact ⟨⟨j + 1, by have := hltH.out; omega, by congr 1, hnoH.out, by trivial⟩, by simp only [intOf]; have := hltH.out; omega⟩
        · obtain rfl := r5.out h0 j hlt (by rw [hx]; exact hx0)
          have x0 : (x == 0) = false := beq_false_of_ne hx0
          have x1 : (x != 0) = true := by rw [bne, x0]; rfl
          clear hlt hj hno h0 hx hx0
          go_wp2
          go_ret
          exact ⟨rfl, by first | exact hB2 | exact gH.out ▸ hB2⟩
    · obtain rfl : j = 5 := by omega
      have hji : ¬ ((5 : Nat) : Int) < 5 := by omega
      have hRt : R = true := by
        by_cases h0 : E = 0
        · exact r3.out h0
        · exact r4.out (fun k hk => hno h0 k hk)
      subst hRt
      clear hlt hj hno
      go_wp2
      go_ret
      exact ⟨rfl, by first | exact hB2 | exact gH.out ▸ hB2⟩
end Go.Proofs.YtbiabjehdmddbaaGreatDoor

/-
  The document's own Line of a reply (layer 15). New memory alone is written. Conditions: the fields' ranges.
-/
namespace Go.Proofs.YtbiabjehdmddbaaGreatDoor
open Go.RowKit

theorem joinW_two (a b : List Int) : joinW [a, b] = a ++ 32 :: b := rfl
theorem joinW_step15 (P : List (List Int)) (L : List Int) (hP : P ≠ []) (j : Nat) (h : j < L.length) : joinW (P ++ (L.take (j + 1)).map (fun n => numL n.toNat)) = joinW (P ++ (L.take j).map (fun n => numL n.toNat)) ++ ([32] ++ numL (L.getD j 0).toNat) := by
  rw [List.take_succ_eq_append_getElem h, List.map_append, ← List.append_assoc, List.getD_eq_getElem?_getD, List.getElem?_eq_getElem h]
  show joinW (_ ++ [numL (L[j]).toNat]) = _
  rw [joinW_new _ _ (by simp [hP])]
  rfl
theorem part_len (r : RplV) (ho : RplOk r) (j : Nat) : (joinW ([nameL kindsL r.kind, nameL errsL r.err] ++ ((numsR r).take j).map (fun n => numL n.toNat))).length ≤ 77 := by
  have h1 := joinW_len 10 ([nameL kindsL r.kind, nameL errsL r.err] ++ ((numsR r).take j).map (fun n => numL n.toNat)) (fun v hv => by
    rcases List.mem_append.1 hv with hv | hv
    · rcases List.mem_cons.1 hv with rfl | hv
      · exact nameL_len (fun x hx => (kinds_ok x hx).2.2) _
      · rw [List.mem_singleton.1 hv]
        exact nameL_len (fun x hx => (errs_ok x hx).2.2) _
    · obtain ⟨n, hn, rfl⟩ := List.mem_map.1 hv
      exact numL_len10 (ho n (List.mem_of_mem_take hn)))
  have h2 : ([nameL kindsL r.kind, nameL errsL r.err] ++ ((numsR r).take j).map (fun n => numL n.toNat)).length ≤ 7 := by
    rw [List.length_append, List.length_map, List.length_take]
    show 2 + min j 5 ≤ 7
    omega
  have h3 := Nat.mul_le_mul_right (10 + 1) h2
  omega

set_option maxRecDepth 100000 in
set_option maxHeartbeats 4000000 in
theorem rfLine_any (r : RplV) (w : World) (ho : RplOk r) : Calls Tryz.prog 9 #[.agg (rpV r).toArray] w fun q w' => q = .returned (.string (strOfNums (lineR r))) ∧ Below w.heap.size w w' := by
  have hR := fun w' => rfRight_any r w'
  have hN := fun w' => rfNums_any r w'
  have hac := Lib.hid (fun w' g h => arV_cell (w := w') (g := g) (t := 24) (r := r) h)
  have hkn := fun g w' (h : Blk w' g 9 (strsV kindsL)) => rfName_at g 7 kindsL r.kind w' rfl (by decide) h
  have hen := fun g w' (h : Blk w' g 9 (strsV errsL)) => rfName_at g 21 errsL r.err w' rfl (by decide) h
  have l1 := line_bad (r := r)
  have l2 := line_right (r := r)
  have l3 := words_bare (r := r)
  have l4 := words_ok (r := r)
  have hrg := Lib.hid (numsR_at ho)
  have hpl := Lib.hid (part_len r ho)
  have hst := Lib.hid (fun j h => joinW_step15 [nameL kindsL r.kind, nameL errsL r.err] (numsR r) (by simp) j h)
  have hL5 : (numsR r).length = 5 := rfl
  have nk := nameL_len (ns := kindsL) (fun x hx => (kinds_ok x hx).2.2) r.kind
  have ne := nameL_len (ns := errsL) (fun x hx => (errs_ok x hx).2.2) r.err
  have ha1 := fun wx => run_string_add_sum (P := Tryz.prog) wx (strOfNums (nameL kindsL r.kind)) ({ data := #[32] } : ByteArray) (by rw [str_size]; show _ + 1 ≤ _; omega)
  have ha2 := fun wx => run_string_add_sum (P := Tryz.prog) wx (strOfNums (nameL kindsL r.kind) ++ ({ data := #[32] } : ByteArray)) (strOfNums (nameL errsL r.err)) (by rw [ByteArray.size_append, str_size, str_size]; show _ + 1 + _ ≤ _; omega)
  have hjt : strOfNums (nameL kindsL r.kind) ++ ({ data := #[32] } : ByteArray) ++ strOfNums (nameL errsL r.err) = strOfNums (joinW [nameL kindsL r.kind, nameL errsL r.err]) := by
    rw [show ({ data := #[32] } : ByteArray) = strOfNums [32] by rfl, str_append, str_append, joinW_two, List.append_assoc]
    rfl
  rw [hjt] at ha2
  clear nk ne hjt
  obtain ⟨Rs, hRs⟩ : ∃ R, strOfNums (lineR r) = R := ⟨_, rfl⟩
  rw [hRs] at l1 ⊢
  obtain ⟨L, hL⟩ : ∃ L, numsR r = L := ⟨_, rfl⟩
  rw [hL] at l4 hst hrg hac hL5 hpl
  obtain ⟨ws, hws⟩ : ∃ ws, wordsR r = ws := ⟨_, rfl⟩
  rw [hws] at l2 l3 l4
  obtain ⟨Lr, hLr⟩ : ∃ l, lineR r = l := ⟨_, rfl⟩
  rw [hLr] at l2 hRs
  obtain ⟨F, hF⟩ : ∃ F, rightR r = F := ⟨_, rfl⟩
  rw [hF] at hR l1 l2
  obtain ⟨Ar, hAr⟩ : ∃ A, arV r = A := ⟨_, rfl⟩
  rw [hAr] at hN hac
  clear hAr hF hLr hws hL ho
  obtain ⟨K, E, S, Q, O, U, X⟩ := r
  unfold rpV at hR hN ⊢
  dsimp only at hR hN hkn hen l3 l4 hst hpl ha1 ha2 ⊢
  obtain ⟨C, hC⟩ : ∃ C, rpC K E S Q O U X = C := ⟨_, rfl⟩
  rw [hC] at hR hN ⊢
  have hCl : C.length = 7 := by rw [← hC]; rfl
  have hCH := Lib.hid hC
  have hb := below1 w (.cells C.toArray 26)
  have hk : Blk (w.alloc (.cells C.toArray 26)) w.heap.size 26 C := Blk.new w _ C
  obtain ⟨W, hW⟩ : ∃ V, w.alloc (.cells C.toArray 26) = V := ⟨_, rfl⟩
  rw [hW] at hb hk
  obtain ⟨G, g9⟩ : ∃ G, w.heap.size = G := ⟨_, rfl⟩
  rw [g9] at hk
  have gH := Lib.hid g9
  obtain ⟨S1, hS1⟩ : ∃ S, strOfNums (nameL kindsL K) = S := ⟨_, rfl⟩
  obtain ⟨S2, hS2⟩ : ∃ S, strOfNums (nameL errsL E) = S := ⟨_, rfl⟩
  obtain ⟨J0, hJ0⟩ : ∃ S, strOfNums (joinW [nameL kindsL K, nameL errsL E]) = S := ⟨_, rfl⟩
  rw [hS1] at hkn ha1 ha2
  rw [hS2] at hen ha2
  rw [hJ0] at ha2
  replace hkn := Lib.hid hkn
  replace hen := Lib.hid hen
  replace hN := Lib.hid hN
  replace hR := Lib.hid hR
  replace hRs := Lib.hid hRs
  have hJH := Lib.hid hJ0
  clear hC hS1 hS2 hJ0
  cases F with
  | false =>
    obtain rfl := l1 rfl
    clear l1 l2 l3 l4 ha1 ha2
    go_enter Tryz.func9, Tryz.ntmps9
    go_wp2_with ((with_reducible refine box_row rfl 26 (.tmp 0) rfl C ?_ ?_); rfl; refine RowKit.Hid.out ?_)
    refine Lib.hid ?_
    clear hW g9
    go_wp2_with ((with_reducible refine wpList_load_blk rfl 26 (.tmp 1) rfl ?_ hk rowRp hCl ?_); rfl)
    refine (hR.out W).mono ?_
    rintro q w1 ⟨rfl, b1⟩
    have hk1 := hk.keep b1 hk.lt
    have hS1 := hb.trans (b1.mono hb.size)
    clear hk hb b1
    go_wp2
    go_ret
    exact ⟨rfl, by first | exact hS1 | exact gH.out ▸ hS1⟩
  | true =>
    have e2 := l2 rfl
    subst e2
    by_cases k0 : E = 0
    · have hwH := Lib.hid (l4 k0)
      have k0b : (E == 0) = true := beq_iff_eq.2 k0
      clear l1 l2 l3 l4 k0
      go_enter Tryz.func9, Tryz.ntmps9
      go_wp2_with ((with_reducible refine box_row rfl 26 (.tmp 0) rfl C ?_ ?_); rfl; refine RowKit.Hid.out ?_)
      refine Lib.hid ?_
      clear hW g9
      go_wp2_with ((with_reducible refine wpList_load_blk rfl 26 (.tmp 1) rfl ?_ hk rowRp hCl ?_); rfl)
      refine (hR.out W).mono ?_
      rintro q w1 ⟨rfl, b1⟩
      have hk1 := hk.keep b1 hk.lt
      have hS1 := hb.trans (b1.mono hb.size)
      clear hk hb b1
      go_wp2_with fail
      have SD : Below w1.heap.size w1 w1.drew := (Below.refl _ _).drew
      have e0 := Lib.hid (fun w' (h : Below w1.heap.size w1 w') => rp0 (hCH.out ▸ hk1.keep h hk1.lt))
      have e1 := Lib.hid (fun w' (h : Below w1.heap.size w1 w') => rp1 (hCH.out ▸ hk1.keep h hk1.lt))
      have hkH := Lib.hid (And.intro hk1 hS1)
      clear hk1 hS1
      refine region_seqS (fun w' => Below w1.heap.size w1 w') (by kernel_rfl) SD ?_
      simp only [pairs, Nat.reduceAdd]
      repeat (first
        | (refine SeqS.take (v := ?_) (by first | assumption | trivial) (by kernel_rfl) (by decide +kernel) (by decide +kernel) (Or.inl ⟨by rfl, ?_⟩) ?_
           rotate_left
           focus
             intro w' hb'
             go_simp
             with_reducible rfl
           simp only [Act.put, List.setIfInBounds_toArray, List.set_cons_zero, List.set_cons_succ])
        | (refine SeqS.take (v := ?_) (by first | assumption | trivial) (by kernel_rfl) (by decide +kernel) (by decide +kernel) (Or.inl ⟨by rfl, ?_⟩) ?_
           rotate_left
           focus
             intro w' hb'
             have d0 := e0.out w' hb'
             go_simp
             with_reducible rfl
           simp only [Act.put, List.setIfInBounds_toArray, List.set_cons_zero, List.set_cons_succ])
        | (refine SeqS.take (v := ?_) (by first | assumption | trivial) (by kernel_rfl) (by decide +kernel) (by decide +kernel) (Or.inl ⟨by rfl, ?_⟩) ?_
           rotate_left
           focus
             intro w' hb'
             have d0 := e1.out w' hb'
             go_simp
             with_reducible rfl
           simp only [Act.put, List.setIfInBounds_toArray, List.set_cons_zero, List.set_cons_succ])
        | (refine SeqS.take (v := undef) (by first | assumption | trivial) (by kernel_rfl) (by decide +kernel) (by decide +kernel) (Or.inr ⟨by rfl, rfl⟩) ?_
           simp only [Act.put, List.setIfInBounds_toArray, List.set_cons_zero, List.set_cons_succ])
        | (refine SeqS.take1 (v := ?_) (by first | assumption | trivial) (by kernel_rfl) (by decide +kernel) (by decide +kernel) (Or.inl ⟨by rfl, ?_⟩) ?_
           rotate_left
           focus
             intro w' hb'
             go_simp
             with_reducible rfl
           simp only [Act.put, List.setIfInBounds_toArray, List.set_cons_zero, List.set_cons_succ])
        | (refine SeqS.take1 (v := ?_) (by first | assumption | trivial) (by kernel_rfl) (by decide +kernel) (by decide +kernel) (Or.inl ⟨by rfl, ?_⟩) ?_
           rotate_left
           focus
             intro w' hb'
             have d0 := e0.out w' hb'
             go_simp
             with_reducible rfl
           simp only [Act.put, List.setIfInBounds_toArray, List.set_cons_zero, List.set_cons_succ])
        | (refine SeqS.take1 (v := ?_) (by first | assumption | trivial) (by kernel_rfl) (by decide +kernel) (by decide +kernel) (Or.inl ⟨by rfl, ?_⟩) ?_
           rotate_left
           focus
             intro w' hb'
             have d0 := e1.out w' hb'
             go_simp
             with_reducible rfl
           simp only [Act.put, List.setIfInBounds_toArray, List.set_cons_zero, List.set_cons_succ])
        | (refine SeqS.take1 (v := undef) (by first | assumption | trivial) (by kernel_rfl) (by decide +kernel) (by decide +kernel) (Or.inr ⟨by rfl, rfl⟩) ?_
           simp only [Act.put, List.setIfInBounds_toArray, List.set_cons_zero, List.set_cons_succ])
        | (refine SeqS.take2 (v := ?_) (by first | assumption | trivial) (by kernel_rfl) (by decide +kernel) (by decide +kernel) (Or.inl ⟨by rfl, ?_⟩) ?_
           rotate_left
           focus
             intro w' hb'
             go_simp
             with_reducible rfl
           simp only [Act.put, List.setIfInBounds_toArray, List.set_cons_zero, List.set_cons_succ])
        | (refine SeqS.take2 (v := ?_) (by first | assumption | trivial) (by kernel_rfl) (by decide +kernel) (by decide +kernel) (Or.inl ⟨by rfl, ?_⟩) ?_
           rotate_left
           focus
             intro w' hb'
             have d0 := e0.out w' hb'
             go_simp
             with_reducible rfl
           simp only [Act.put, List.setIfInBounds_toArray, List.set_cons_zero, List.set_cons_succ])
        | (refine SeqS.take2 (v := ?_) (by first | assumption | trivial) (by kernel_rfl) (by decide +kernel) (by decide +kernel) (Or.inl ⟨by rfl, ?_⟩) ?_
           rotate_left
           focus
             intro w' hb'
             have d0 := e1.out w' hb'
             go_simp
             with_reducible rfl
           simp only [Act.put, List.setIfInBounds_toArray, List.set_cons_zero, List.set_cons_succ])
        | (refine SeqS.take2 (v := undef) (by first | assumption | trivial) (by kernel_rfl) (by decide +kernel) (by decide +kernel) (Or.inr ⟨by rfl, rfl⟩) ?_
           simp only [Act.put, List.setIfInBounds_toArray, List.set_cons_zero, List.set_cons_succ])
        | (refine SeqS.take3 (v := ?_) (by first | assumption | trivial) (by kernel_rfl) (by decide +kernel) (by decide +kernel) (Or.inl ⟨by rfl, ?_⟩) ?_
           rotate_left
           focus
             intro w' hb'
             go_simp
             with_reducible rfl
           simp only [Act.put, List.setIfInBounds_toArray, List.set_cons_zero, List.set_cons_succ])
        | (refine SeqS.take3 (v := ?_) (by first | assumption | trivial) (by kernel_rfl) (by decide +kernel) (by decide +kernel) (Or.inl ⟨by rfl, ?_⟩) ?_
           rotate_left
           focus
             intro w' hb'
             have d0 := e0.out w' hb'
             go_simp
             with_reducible rfl
           simp only [Act.put, List.setIfInBounds_toArray, List.set_cons_zero, List.set_cons_succ])
        | (refine SeqS.take3 (v := ?_) (by first | assumption | trivial) (by kernel_rfl) (by decide +kernel) (by decide +kernel) (Or.inl ⟨by rfl, ?_⟩) ?_
           rotate_left
           focus
             intro w' hb'
             have d0 := e1.out w' hb'
             go_simp
             with_reducible rfl
           simp only [Act.put, List.setIfInBounds_toArray, List.set_cons_zero, List.set_cons_succ])
        | (refine SeqS.take3 (v := undef) (by first | assumption | trivial) (by kernel_rfl) (by decide +kernel) (by decide +kernel) (Or.inr ⟨by rfl, rfl⟩) ?_
           simp only [Act.put, List.setIfInBounds_toArray, List.set_cons_zero, List.set_cons_succ]))
      refine SeqS.alone (by decide +kernel) (by rfl) (fun K hK => ?_)
      go_simp
      go_at_call 25
      refine (rfKinds_at _).mono ?_
      rintro e w3 ⟨rfl, b3, k3⟩
      go_simp
      have S3 : Below w1.heap.size w1 w3 := SD.trans (b3.mono SD.size)
      refine hK _ _ S3 ?_
      clear hK K
      repeat (first
        | (refine SeqS.take (v := ?_) (by first | assumption | trivial) (by kernel_rfl) (by decide +kernel) (by decide +kernel) (Or.inl ⟨by rfl, ?_⟩) ?_
           rotate_left
           focus
             intro w' hb'
             go_simp
             with_reducible rfl
           simp only [Act.put, List.setIfInBounds_toArray, List.set_cons_zero, List.set_cons_succ])
        | (refine SeqS.take (v := undef) (by first | assumption | trivial) (by kernel_rfl) (by decide +kernel) (by decide +kernel) (Or.inr ⟨by rfl, rfl⟩) ?_
           simp only [Act.put, List.setIfInBounds_toArray, List.set_cons_zero, List.set_cons_succ])
        | (refine SeqS.take1 (v := ?_) (by first | assumption | trivial) (by kernel_rfl) (by decide +kernel) (by decide +kernel) (Or.inl ⟨by rfl, ?_⟩) ?_
           rotate_left
           focus
             intro w' hb'
             go_simp
             with_reducible rfl
           simp only [Act.put, List.setIfInBounds_toArray, List.set_cons_zero, List.set_cons_succ])
        | (refine SeqS.take1 (v := undef) (by first | assumption | trivial) (by kernel_rfl) (by decide +kernel) (by decide +kernel) (Or.inr ⟨by rfl, rfl⟩) ?_
           simp only [Act.put, List.setIfInBounds_toArray, List.set_cons_zero, List.set_cons_succ])
        | (refine SeqS.take2 (v := ?_) (by first | assumption | trivial) (by kernel_rfl) (by decide +kernel) (by decide +kernel) (Or.inl ⟨by rfl, ?_⟩) ?_
           rotate_left
           focus
             intro w' hb'
             go_simp
             with_reducible rfl
           simp only [Act.put, List.setIfInBounds_toArray, List.set_cons_zero, List.set_cons_succ])
        | (refine SeqS.take2 (v := undef) (by first | assumption | trivial) (by kernel_rfl) (by decide +kernel) (by decide +kernel) (Or.inr ⟨by rfl, rfl⟩) ?_
           simp only [Act.put, List.setIfInBounds_toArray, List.set_cons_zero, List.set_cons_succ]))
      refine SeqS.alone (by decide +kernel) (by rfl) (fun K hK => ?_)
      go_simp
      go_at_call 24
      refine (hkn.out _ _ k3).mono ?_
      rintro e w4 ⟨rfl, b4⟩
      go_simp
      have S4 : Below w1.heap.size w1 w4 := S3.trans (b4.mono S3.size)
      refine hK _ _ S4 ?_
      clear hK K
      repeat (first
        | (refine SeqS.take (v := ?_) (by first | assumption | trivial) (by kernel_rfl) (by decide +kernel) (by decide +kernel) (Or.inl ⟨by rfl, ?_⟩) ?_
           rotate_left
           focus
             intro w' hb'
             go_simp
             with_reducible rfl
           simp only [Act.put, List.setIfInBounds_toArray, List.set_cons_zero, List.set_cons_succ])
        | (refine SeqS.take (v := ?_) (by first | assumption | trivial) (by kernel_rfl) (by decide +kernel) (by decide +kernel) (Or.inl ⟨by rfl, ?_⟩) ?_
           rotate_left
           focus
             intro w' hb'
             have d0 := ha1 w'
             go_simp
             with_reducible rfl
           simp only [Act.put, List.setIfInBounds_toArray, List.set_cons_zero, List.set_cons_succ])
        | (refine SeqS.take (v := ?_) (by first | assumption | trivial) (by kernel_rfl) (by decide +kernel) (by decide +kernel) (Or.inl ⟨by rfl, ?_⟩) ?_
           rotate_left
           focus
             intro w' hb'
             have d0 := e1.out w' hb'
             go_simp
             with_reducible rfl
           simp only [Act.put, List.setIfInBounds_toArray, List.set_cons_zero, List.set_cons_succ])
        | (refine SeqS.take (v := undef) (by first | assumption | trivial) (by kernel_rfl) (by decide +kernel) (by decide +kernel) (Or.inr ⟨by rfl, rfl⟩) ?_
           simp only [Act.put, List.setIfInBounds_toArray, List.set_cons_zero, List.set_cons_succ])
        | (refine SeqS.take1 (v := ?_) (by first | assumption | trivial) (by kernel_rfl) (by decide +kernel) (by decide +kernel) (Or.inl ⟨by rfl, ?_⟩) ?_
           rotate_left
           focus
             intro w' hb'
             go_simp
             with_reducible rfl
           simp only [Act.put, List.setIfInBounds_toArray, List.set_cons_zero, List.set_cons_succ])
        | (refine SeqS.take1 (v := ?_) (by first | assumption | trivial) (by kernel_rfl) (by decide +kernel) (by decide +kernel) (Or.inl ⟨by rfl, ?_⟩) ?_
           rotate_left
           focus
             intro w' hb'
             have d0 := ha1 w'
             go_simp
             with_reducible rfl
           simp only [Act.put, List.setIfInBounds_toArray, List.set_cons_zero, List.set_cons_succ])
        | (refine SeqS.take1 (v := ?_) (by first | assumption | trivial) (by kernel_rfl) (by decide +kernel) (by decide +kernel) (Or.inl ⟨by rfl, ?_⟩) ?_
           rotate_left
           focus
             intro w' hb'
             have d0 := e1.out w' hb'
             go_simp
             with_reducible rfl
           simp only [Act.put, List.setIfInBounds_toArray, List.set_cons_zero, List.set_cons_succ])
        | (refine SeqS.take1 (v := undef) (by first | assumption | trivial) (by kernel_rfl) (by decide +kernel) (by decide +kernel) (Or.inr ⟨by rfl, rfl⟩) ?_
           simp only [Act.put, List.setIfInBounds_toArray, List.set_cons_zero, List.set_cons_succ])
        | (refine SeqS.take2 (v := ?_) (by first | assumption | trivial) (by kernel_rfl) (by decide +kernel) (by decide +kernel) (Or.inl ⟨by rfl, ?_⟩) ?_
           rotate_left
           focus
             intro w' hb'
             go_simp
             with_reducible rfl
           simp only [Act.put, List.setIfInBounds_toArray, List.set_cons_zero, List.set_cons_succ])
        | (refine SeqS.take2 (v := ?_) (by first | assumption | trivial) (by kernel_rfl) (by decide +kernel) (by decide +kernel) (Or.inl ⟨by rfl, ?_⟩) ?_
           rotate_left
           focus
             intro w' hb'
             have d0 := ha1 w'
             go_simp
             with_reducible rfl
           simp only [Act.put, List.setIfInBounds_toArray, List.set_cons_zero, List.set_cons_succ])
        | (refine SeqS.take2 (v := ?_) (by first | assumption | trivial) (by kernel_rfl) (by decide +kernel) (by decide +kernel) (Or.inl ⟨by rfl, ?_⟩) ?_
           rotate_left
           focus
             intro w' hb'
             have d0 := e1.out w' hb'
             go_simp
             with_reducible rfl
           simp only [Act.put, List.setIfInBounds_toArray, List.set_cons_zero, List.set_cons_succ])
        | (refine SeqS.take2 (v := undef) (by first | assumption | trivial) (by kernel_rfl) (by decide +kernel) (by decide +kernel) (Or.inr ⟨by rfl, rfl⟩) ?_
           simp only [Act.put, List.setIfInBounds_toArray, List.set_cons_zero, List.set_cons_succ]))
      refine SeqS.alone (by decide +kernel) (by rfl) (fun K hK => ?_)
      go_simp
      go_at_call 26
      refine (rfErrs_at _).mono ?_
      rintro e w5 ⟨rfl, b5, k5⟩
      go_simp
      have S5 : Below w1.heap.size w1 w5 := S4.trans (b5.mono S4.size)
      refine hK _ _ S5 ?_
      clear hK K
      repeat (first
        | (refine SeqS.take (v := ?_) (by first | assumption | trivial) (by kernel_rfl) (by decide +kernel) (by decide +kernel) (Or.inl ⟨by rfl, ?_⟩) ?_
           rotate_left
           focus
             intro w' hb'
             go_simp
             with_reducible rfl
           simp only [Act.put, List.setIfInBounds_toArray, List.set_cons_zero, List.set_cons_succ])
        | (refine SeqS.take (v := ?_) (by first | assumption | trivial) (by kernel_rfl) (by decide +kernel) (by decide +kernel) (Or.inl ⟨by rfl, ?_⟩) ?_
           rotate_left
           focus
             intro w' hb'
             have d0 := ha1 w'
             go_simp
             with_reducible rfl
           simp only [Act.put, List.setIfInBounds_toArray, List.set_cons_zero, List.set_cons_succ])
        | (refine SeqS.take (v := ?_) (by first | assumption | trivial) (by kernel_rfl) (by decide +kernel) (by decide +kernel) (Or.inl ⟨by rfl, ?_⟩) ?_
           rotate_left
           focus
             intro w' hb'
             have d0 := e1.out w' hb'
             go_simp
             with_reducible rfl
           simp only [Act.put, List.setIfInBounds_toArray, List.set_cons_zero, List.set_cons_succ])
        | (refine SeqS.take (v := undef) (by first | assumption | trivial) (by kernel_rfl) (by decide +kernel) (by decide +kernel) (Or.inr ⟨by rfl, rfl⟩) ?_
           simp only [Act.put, List.setIfInBounds_toArray, List.set_cons_zero, List.set_cons_succ])
        | (refine SeqS.take1 (v := ?_) (by first | assumption | trivial) (by kernel_rfl) (by decide +kernel) (by decide +kernel) (Or.inl ⟨by rfl, ?_⟩) ?_
           rotate_left
           focus
             intro w' hb'
             go_simp
             with_reducible rfl
           simp only [Act.put, List.setIfInBounds_toArray, List.set_cons_zero, List.set_cons_succ])
        | (refine SeqS.take1 (v := ?_) (by first | assumption | trivial) (by kernel_rfl) (by decide +kernel) (by decide +kernel) (Or.inl ⟨by rfl, ?_⟩) ?_
           rotate_left
           focus
             intro w' hb'
             have d0 := ha1 w'
             go_simp
             with_reducible rfl
           simp only [Act.put, List.setIfInBounds_toArray, List.set_cons_zero, List.set_cons_succ])
        | (refine SeqS.take1 (v := ?_) (by first | assumption | trivial) (by kernel_rfl) (by decide +kernel) (by decide +kernel) (Or.inl ⟨by rfl, ?_⟩) ?_
           rotate_left
           focus
             intro w' hb'
             have d0 := e1.out w' hb'
             go_simp
             with_reducible rfl
           simp only [Act.put, List.setIfInBounds_toArray, List.set_cons_zero, List.set_cons_succ])
        | (refine SeqS.take1 (v := undef) (by first | assumption | trivial) (by kernel_rfl) (by decide +kernel) (by decide +kernel) (Or.inr ⟨by rfl, rfl⟩) ?_
           simp only [Act.put, List.setIfInBounds_toArray, List.set_cons_zero, List.set_cons_succ])
        | (refine SeqS.take2 (v := ?_) (by first | assumption | trivial) (by kernel_rfl) (by decide +kernel) (by decide +kernel) (Or.inl ⟨by rfl, ?_⟩) ?_
           rotate_left
           focus
             intro w' hb'
             go_simp
             with_reducible rfl
           simp only [Act.put, List.setIfInBounds_toArray, List.set_cons_zero, List.set_cons_succ])
        | (refine SeqS.take2 (v := ?_) (by first | assumption | trivial) (by kernel_rfl) (by decide +kernel) (by decide +kernel) (Or.inl ⟨by rfl, ?_⟩) ?_
           rotate_left
           focus
             intro w' hb'
             have d0 := ha1 w'
             go_simp
             with_reducible rfl
           simp only [Act.put, List.setIfInBounds_toArray, List.set_cons_zero, List.set_cons_succ])
        | (refine SeqS.take2 (v := ?_) (by first | assumption | trivial) (by kernel_rfl) (by decide +kernel) (by decide +kernel) (Or.inl ⟨by rfl, ?_⟩) ?_
           rotate_left
           focus
             intro w' hb'
             have d0 := e1.out w' hb'
             go_simp
             with_reducible rfl
           simp only [Act.put, List.setIfInBounds_toArray, List.set_cons_zero, List.set_cons_succ])
        | (refine SeqS.take2 (v := undef) (by first | assumption | trivial) (by kernel_rfl) (by decide +kernel) (by decide +kernel) (Or.inr ⟨by rfl, rfl⟩) ?_
           simp only [Act.put, List.setIfInBounds_toArray, List.set_cons_zero, List.set_cons_succ]))
      refine SeqS.alone (by decide +kernel) (by rfl) (fun K hK => ?_)
      go_simp
      go_at_call 24
      refine (hen.out _ _ k5).mono ?_
      rintro e w6 ⟨rfl, b6⟩
      go_simp
      have S6 : Below w1.heap.size w1 w6 := S5.trans (b6.mono S5.size)
      refine hK _ _ S6 ?_
      clear hK K
      repeat (first
        | (refine SeqS.take (v := ?_) (by first | assumption | trivial) (by kernel_rfl) (by decide +kernel) (by decide +kernel) (Or.inl ⟨by rfl, ?_⟩) ?_
           rotate_left
           focus
             intro w' hb'
             go_simp
             with_reducible rfl
           simp only [Act.put, List.setIfInBounds_toArray, List.set_cons_zero, List.set_cons_succ])
        | (refine SeqS.take (v := ?_) (by first | assumption | trivial) (by kernel_rfl) (by decide +kernel) (by decide +kernel) (Or.inl ⟨by rfl, ?_⟩) ?_
           rotate_left
           focus
             intro w' hb'
             have d0 := ha1 w'
             go_simp
             with_reducible rfl
           simp only [Act.put, List.setIfInBounds_toArray, List.set_cons_zero, List.set_cons_succ])
        | (refine SeqS.take (v := ?_) (by first | assumption | trivial) (by kernel_rfl) (by decide +kernel) (by decide +kernel) (Or.inl ⟨by rfl, ?_⟩) ?_
           rotate_left
           focus
             intro w' hb'
             have d0 := ha2 w'
             go_simp
             with_reducible rfl
           simp only [Act.put, List.setIfInBounds_toArray, List.set_cons_zero, List.set_cons_succ])
        | (refine SeqS.take (v := undef) (by first | assumption | trivial) (by kernel_rfl) (by decide +kernel) (by decide +kernel) (Or.inr ⟨by rfl, rfl⟩) ?_
           simp only [Act.put, List.setIfInBounds_toArray, List.set_cons_zero, List.set_cons_succ])
        | (refine SeqS.take1 (v := ?_) (by first | assumption | trivial) (by kernel_rfl) (by decide +kernel) (by decide +kernel) (Or.inl ⟨by rfl, ?_⟩) ?_
           rotate_left
           focus
             intro w' hb'
             go_simp
             with_reducible rfl
           simp only [Act.put, List.setIfInBounds_toArray, List.set_cons_zero, List.set_cons_succ])
        | (refine SeqS.take1 (v := ?_) (by first | assumption | trivial) (by kernel_rfl) (by decide +kernel) (by decide +kernel) (Or.inl ⟨by rfl, ?_⟩) ?_
           rotate_left
           focus
             intro w' hb'
             have d0 := ha1 w'
             go_simp
             with_reducible rfl
           simp only [Act.put, List.setIfInBounds_toArray, List.set_cons_zero, List.set_cons_succ])
        | (refine SeqS.take1 (v := ?_) (by first | assumption | trivial) (by kernel_rfl) (by decide +kernel) (by decide +kernel) (Or.inl ⟨by rfl, ?_⟩) ?_
           rotate_left
           focus
             intro w' hb'
             have d0 := ha2 w'
             go_simp
             with_reducible rfl
           simp only [Act.put, List.setIfInBounds_toArray, List.set_cons_zero, List.set_cons_succ])
        | (refine SeqS.take1 (v := undef) (by first | assumption | trivial) (by kernel_rfl) (by decide +kernel) (by decide +kernel) (Or.inr ⟨by rfl, rfl⟩) ?_
           simp only [Act.put, List.setIfInBounds_toArray, List.set_cons_zero, List.set_cons_succ])
        | (refine SeqS.take2 (v := ?_) (by first | assumption | trivial) (by kernel_rfl) (by decide +kernel) (by decide +kernel) (Or.inl ⟨by rfl, ?_⟩) ?_
           rotate_left
           focus
             intro w' hb'
             go_simp
             with_reducible rfl
           simp only [Act.put, List.setIfInBounds_toArray, List.set_cons_zero, List.set_cons_succ])
        | (refine SeqS.take2 (v := ?_) (by first | assumption | trivial) (by kernel_rfl) (by decide +kernel) (by decide +kernel) (Or.inl ⟨by rfl, ?_⟩) ?_
           rotate_left
           focus
             intro w' hb'
             have d0 := ha1 w'
             go_simp
             with_reducible rfl
           simp only [Act.put, List.setIfInBounds_toArray, List.set_cons_zero, List.set_cons_succ])
        | (refine SeqS.take2 (v := ?_) (by first | assumption | trivial) (by kernel_rfl) (by decide +kernel) (by decide +kernel) (Or.inl ⟨by rfl, ?_⟩) ?_
           rotate_left
           focus
             intro w' hb'
             have d0 := ha2 w'
             go_simp
             with_reducible rfl
           simp only [Act.put, List.setIfInBounds_toArray, List.set_cons_zero, List.set_cons_succ])
        | (refine SeqS.take2 (v := undef) (by first | assumption | trivial) (by kernel_rfl) (by decide +kernel) (by decide +kernel) (Or.inr ⟨by rfl, rfl⟩) ?_
           simp only [Act.put, List.setIfInBounds_toArray, List.set_cons_zero, List.set_cons_succ]))
      refine SeqS.done (by decide +kernel) ?_
      have hk6 := hkH.out.1.keep S6 hkH.out.1.lt
      have hB6 := hkH.out.2.trans (S6.mono hkH.out.2.size)
      clear SD S3 S4 S5 S6 b3 b4 b5 b6 k3 k5 e0 e1 hkH hkn hen
      go_wp2_with ((with_reducible refine wpList_load_blk rfl 26 (.tmp 1) rfl ?_ hk6 rowRp hCl ?_); rfl)
      refine (hN.out w6).mono ?_
      rintro q w7 ⟨g, rfl, hA, hgV, b7⟩
      have hk7 := hk6.keep b7 hk6.lt
      have hB7 := hB6.trans (b7.mono hB6.size)
      have c1 := rp1 (hCH.out ▸ hk7)
      have haj := Lib.hid (hac.out w7 g hA)
      clear hk6 hB6 b7 hk7 hN hac hA hgV
      go_wp2_with fail
      go_loopw [3, 5] (fun v i wr => ∃ j : Nat, j ≤ 5 ∧ i = .int .i64 j ∧ v = .string (strOfNums (joinW ([nameL kindsL K, nameL errsL E] ++ (L.take j).map (fun n => numL n.toNat)))) ∧ wr = w7) (fun _ i _ => 5 - (intOf i).toNat)
      case atStart => exact ⟨0, by decide, rfl, by rw [← hJH.out]; simp, rfl⟩
      case round =>
        obtain ⟨j, hj, rfl, rfl, hwr⟩ := hrel
        have hwr' := hwr.symm
        subst hwr'
        by_cases hlt : j < 5
        · have hji : (j : Int) < 5 := by omega
          have cj := haj.out j hlt
          have hx := hrg.out j hlt
          have hstj := hst.out j (by omega)
          have hlj := hpl.out j
          obtain ⟨x, hxe⟩ : ∃ x, L.getD j 0 = x := ⟨_, rfl⟩
          rw [hxe] at cj hx hstj
          have hnm := rNum_any x.toNat w7 (by omega)
          rw [show ((x.toNat : Nat) : Int) = x by omega] at hnm
          have u1 : IntKind.u64.wrap x = x := by rw [IntKind.wrap_u64]; omega
          have u2 : x % 18446744073709551616 = x := by omega
          have hnl := numL_len10 hx
          obtain ⟨J, hJ⟩ : ∃ J, joinW ([nameL kindsL K, nameL errsL E] ++ (L.take j).map (fun n => numL n.toNat)) = J := ⟨_, rfl⟩
          rw [hJ] at hstj hlj ⊢
          have a1 := fun wx => run_string_add_sum (P := Tryz.prog) wx (strOfNums J) ({ data := #[32] } : ByteArray) (by rw [str_size]; show _ + 1 ≤ _; omega)
          have a2 := fun wx => run_string_add_sum (P := Tryz.prog) wx (strOfNums J ++ ({ data := #[32] } : ByteArray)) (strOfNums (numL x.toNat)) (by rw [ByteArray.size_append, str_size, str_size]; show _ + 1 + _ ≤ _; omega)
          have f1 : (strOfNums J).size + ({ data := #[32] } : ByteArray).size ≤ 9223372036854775807 := by rw [str_size]; show _ + 1 ≤ _; omega
          have f2 : (strOfNums J ++ ({ data := #[32] } : ByteArray)).size + (strOfNums (numL x.toNat)).size ≤ 9223372036854775807 := by rw [ByteArray.size_append, str_size, str_size]; show _ + 1 + _ ≤ _; omega
          have hsum : strOfNums J ++ ({ data := #[32] } : ByteArray) ++ strOfNums (numL x.toNat) = strOfNums (joinW ([nameL kindsL K, nameL errsL E] ++ (L.take (j + 1)).map (fun n => numL n.toNat))) := by
            rw [hstj, show ({ data := #[32] } : ByteArray) = strOfNums [32] by rfl, str_append, str_append, List.append_assoc]
          have hsH := Lib.hid hsum
          obtain ⟨SJ, hSJ⟩ : ∃ S, strOfNums J = S := ⟨_, rfl⟩
          obtain ⟨SN, hSN⟩ : ∃ S, strOfNums (numL x.toNat) = S := ⟨_, rfl⟩
          rw [hSJ, hSN] at a2 f2 hsH
          rw [hSJ] at a1 f1 ⊢
          rw [hSN] at hnm
          have hltH := Lib.hid hlt
          clear hlt hj hx hstj hlj hxe hnl hJ hSJ hSN hsum
          go_wp2_with fail
          refine hnm.mono ?_
          rintro q w9 ⟨rfl, rfl⟩
          go_wp2
          exact ⟨⟨j + 1, by have := hltH.out; omega, by congr 1, by rw [← hsH.out], by trivial⟩, by simp only [intOf]; have := hltH.out; omega⟩
        · obtain rfl : j = 5 := by omega
          have hji : ¬ ((5 : Nat) : Int) < 5 := by omega
          have e5 : L.take 5 = L := List.take_of_length_le (by omega)
          rw [e5, ← hwH.out, hRs.out]
          clear hlt hj
          go_wp2
          go_ret
          exact ⟨rfl, by first | exact hB7 | exact gH.out ▸ hB7⟩
    · have hwH := Lib.hid (l3 k0)
      have k0b : (E == 0) = false := beq_false_of_ne k0
      have eJ : J0 = Rs := by rw [← hJH.out, ← hwH.out, hRs.out]
      subst eJ
      clear l1 l2 l3 l4 k0
      go_enter Tryz.func9, Tryz.ntmps9
      go_wp2_with ((with_reducible refine box_row rfl 26 (.tmp 0) rfl C ?_ ?_); rfl; refine RowKit.Hid.out ?_)
      refine Lib.hid ?_
      clear hW g9
      go_wp2_with ((with_reducible refine wpList_load_blk rfl 26 (.tmp 1) rfl ?_ hk rowRp hCl ?_); rfl)
      refine (hR.out W).mono ?_
      rintro q w1 ⟨rfl, b1⟩
      have hk1 := hk.keep b1 hk.lt
      have hS1 := hb.trans (b1.mono hb.size)
      clear hk hb b1
      go_wp2_with fail
      have SD : Below w1.heap.size w1 w1.drew := (Below.refl _ _).drew
      have e0 := Lib.hid (fun w' (h : Below w1.heap.size w1 w') => rp0 (hCH.out ▸ hk1.keep h hk1.lt))
      have e1 := Lib.hid (fun w' (h : Below w1.heap.size w1 w') => rp1 (hCH.out ▸ hk1.keep h hk1.lt))
      have hkH := Lib.hid (And.intro hk1 hS1)
      clear hk1 hS1
      refine region_seqS (fun w' => Below w1.heap.size w1 w') (by kernel_rfl) SD ?_
      simp only [pairs, Nat.reduceAdd]
      repeat (first
        | (refine SeqS.take (v := ?_) (by first | assumption | trivial) (by kernel_rfl) (by decide +kernel) (by decide +kernel) (Or.inl ⟨by rfl, ?_⟩) ?_
           rotate_left
           focus
             intro w' hb'
             go_simp
             with_reducible rfl
           simp only [Act.put, List.setIfInBounds_toArray, List.set_cons_zero, List.set_cons_succ])
        | (refine SeqS.take (v := ?_) (by first | assumption | trivial) (by kernel_rfl) (by decide +kernel) (by decide +kernel) (Or.inl ⟨by rfl, ?_⟩) ?_
           rotate_left
           focus
             intro w' hb'
             have d0 := e0.out w' hb'
             go_simp
             with_reducible rfl
           simp only [Act.put, List.setIfInBounds_toArray, List.set_cons_zero, List.set_cons_succ])
        | (refine SeqS.take (v := ?_) (by first | assumption | trivial) (by kernel_rfl) (by decide +kernel) (by decide +kernel) (Or.inl ⟨by rfl, ?_⟩) ?_
           rotate_left
           focus
             intro w' hb'
             have d0 := e1.out w' hb'
             go_simp
             with_reducible rfl
           simp only [Act.put, List.setIfInBounds_toArray, List.set_cons_zero, List.set_cons_succ])
        | (refine SeqS.take (v := undef) (by first | assumption | trivial) (by kernel_rfl) (by decide +kernel) (by decide +kernel) (Or.inr ⟨by rfl, rfl⟩) ?_
           simp only [Act.put, List.setIfInBounds_toArray, List.set_cons_zero, List.set_cons_succ])
        | (refine SeqS.take1 (v := ?_) (by first | assumption | trivial) (by kernel_rfl) (by decide +kernel) (by decide +kernel) (Or.inl ⟨by rfl, ?_⟩) ?_
           rotate_left
           focus
             intro w' hb'
             go_simp
             with_reducible rfl
           simp only [Act.put, List.setIfInBounds_toArray, List.set_cons_zero, List.set_cons_succ])
        | (refine SeqS.take1 (v := ?_) (by first | assumption | trivial) (by kernel_rfl) (by decide +kernel) (by decide +kernel) (Or.inl ⟨by rfl, ?_⟩) ?_
           rotate_left
           focus
             intro w' hb'
             have d0 := e0.out w' hb'
             go_simp
             with_reducible rfl
           simp only [Act.put, List.setIfInBounds_toArray, List.set_cons_zero, List.set_cons_succ])
        | (refine SeqS.take1 (v := ?_) (by first | assumption | trivial) (by kernel_rfl) (by decide +kernel) (by decide +kernel) (Or.inl ⟨by rfl, ?_⟩) ?_
           rotate_left
           focus
             intro w' hb'
             have d0 := e1.out w' hb'
             go_simp
             with_reducible rfl
           simp only [Act.put, List.setIfInBounds_toArray, List.set_cons_zero, List.set_cons_succ])
        | (refine SeqS.take1 (v := undef) (by first | assumption | trivial) (by kernel_rfl) (by decide +kernel) (by decide +kernel) (Or.inr ⟨by rfl, rfl⟩) ?_
           simp only [Act.put, List.setIfInBounds_toArray, List.set_cons_zero, List.set_cons_succ])
        | (refine SeqS.take2 (v := ?_) (by first | assumption | trivial) (by kernel_rfl) (by decide +kernel) (by decide +kernel) (Or.inl ⟨by rfl, ?_⟩) ?_
           rotate_left
           focus
             intro w' hb'
             go_simp
             with_reducible rfl
           simp only [Act.put, List.setIfInBounds_toArray, List.set_cons_zero, List.set_cons_succ])
        | (refine SeqS.take2 (v := ?_) (by first | assumption | trivial) (by kernel_rfl) (by decide +kernel) (by decide +kernel) (Or.inl ⟨by rfl, ?_⟩) ?_
           rotate_left
           focus
             intro w' hb'
             have d0 := e0.out w' hb'
             go_simp
             with_reducible rfl
           simp only [Act.put, List.setIfInBounds_toArray, List.set_cons_zero, List.set_cons_succ])
        | (refine SeqS.take2 (v := ?_) (by first | assumption | trivial) (by kernel_rfl) (by decide +kernel) (by decide +kernel) (Or.inl ⟨by rfl, ?_⟩) ?_
           rotate_left
           focus
             intro w' hb'
             have d0 := e1.out w' hb'
             go_simp
             with_reducible rfl
           simp only [Act.put, List.setIfInBounds_toArray, List.set_cons_zero, List.set_cons_succ])
        | (refine SeqS.take2 (v := undef) (by first | assumption | trivial) (by kernel_rfl) (by decide +kernel) (by decide +kernel) (Or.inr ⟨by rfl, rfl⟩) ?_
           simp only [Act.put, List.setIfInBounds_toArray, List.set_cons_zero, List.set_cons_succ])
        | (refine SeqS.take3 (v := ?_) (by first | assumption | trivial) (by kernel_rfl) (by decide +kernel) (by decide +kernel) (Or.inl ⟨by rfl, ?_⟩) ?_
           rotate_left
           focus
             intro w' hb'
             go_simp
             with_reducible rfl
           simp only [Act.put, List.setIfInBounds_toArray, List.set_cons_zero, List.set_cons_succ])
        | (refine SeqS.take3 (v := ?_) (by first | assumption | trivial) (by kernel_rfl) (by decide +kernel) (by decide +kernel) (Or.inl ⟨by rfl, ?_⟩) ?_
           rotate_left
           focus
             intro w' hb'
             have d0 := e0.out w' hb'
             go_simp
             with_reducible rfl
           simp only [Act.put, List.setIfInBounds_toArray, List.set_cons_zero, List.set_cons_succ])
        | (refine SeqS.take3 (v := ?_) (by first | assumption | trivial) (by kernel_rfl) (by decide +kernel) (by decide +kernel) (Or.inl ⟨by rfl, ?_⟩) ?_
           rotate_left
           focus
             intro w' hb'
             have d0 := e1.out w' hb'
             go_simp
             with_reducible rfl
           simp only [Act.put, List.setIfInBounds_toArray, List.set_cons_zero, List.set_cons_succ])
        | (refine SeqS.take3 (v := undef) (by first | assumption | trivial) (by kernel_rfl) (by decide +kernel) (by decide +kernel) (Or.inr ⟨by rfl, rfl⟩) ?_
           simp only [Act.put, List.setIfInBounds_toArray, List.set_cons_zero, List.set_cons_succ]))
      refine SeqS.alone (by decide +kernel) (by rfl) (fun K hK => ?_)
      go_simp
      go_at_call 25
      refine (rfKinds_at _).mono ?_
      rintro e w3 ⟨rfl, b3, k3⟩
      go_simp
      have S3 : Below w1.heap.size w1 w3 := SD.trans (b3.mono SD.size)
      refine hK _ _ S3 ?_
      clear hK K
      repeat (first
        | (refine SeqS.take (v := ?_) (by first | assumption | trivial) (by kernel_rfl) (by decide +kernel) (by decide +kernel) (Or.inl ⟨by rfl, ?_⟩) ?_
           rotate_left
           focus
             intro w' hb'
             go_simp
             with_reducible rfl
           simp only [Act.put, List.setIfInBounds_toArray, List.set_cons_zero, List.set_cons_succ])
        | (refine SeqS.take (v := undef) (by first | assumption | trivial) (by kernel_rfl) (by decide +kernel) (by decide +kernel) (Or.inr ⟨by rfl, rfl⟩) ?_
           simp only [Act.put, List.setIfInBounds_toArray, List.set_cons_zero, List.set_cons_succ])
        | (refine SeqS.take1 (v := ?_) (by first | assumption | trivial) (by kernel_rfl) (by decide +kernel) (by decide +kernel) (Or.inl ⟨by rfl, ?_⟩) ?_
           rotate_left
           focus
             intro w' hb'
             go_simp
             with_reducible rfl
           simp only [Act.put, List.setIfInBounds_toArray, List.set_cons_zero, List.set_cons_succ])
        | (refine SeqS.take1 (v := undef) (by first | assumption | trivial) (by kernel_rfl) (by decide +kernel) (by decide +kernel) (Or.inr ⟨by rfl, rfl⟩) ?_
           simp only [Act.put, List.setIfInBounds_toArray, List.set_cons_zero, List.set_cons_succ])
        | (refine SeqS.take2 (v := ?_) (by first | assumption | trivial) (by kernel_rfl) (by decide +kernel) (by decide +kernel) (Or.inl ⟨by rfl, ?_⟩) ?_
           rotate_left
           focus
             intro w' hb'
             go_simp
             with_reducible rfl
           simp only [Act.put, List.setIfInBounds_toArray, List.set_cons_zero, List.set_cons_succ])
        | (refine SeqS.take2 (v := undef) (by first | assumption | trivial) (by kernel_rfl) (by decide +kernel) (by decide +kernel) (Or.inr ⟨by rfl, rfl⟩) ?_
           simp only [Act.put, List.setIfInBounds_toArray, List.set_cons_zero, List.set_cons_succ]))
      refine SeqS.alone (by decide +kernel) (by rfl) (fun K hK => ?_)
      go_simp
      go_at_call 24
      refine (hkn.out _ _ k3).mono ?_
      rintro e w4 ⟨rfl, b4⟩
      go_simp
      have S4 : Below w1.heap.size w1 w4 := S3.trans (b4.mono S3.size)
      refine hK _ _ S4 ?_
      clear hK K
      repeat (first
        | (refine SeqS.take (v := ?_) (by first | assumption | trivial) (by kernel_rfl) (by decide +kernel) (by decide +kernel) (Or.inl ⟨by rfl, ?_⟩) ?_
           rotate_left
           focus
             intro w' hb'
             go_simp
             with_reducible rfl
           simp only [Act.put, List.setIfInBounds_toArray, List.set_cons_zero, List.set_cons_succ])
        | (refine SeqS.take (v := ?_) (by first | assumption | trivial) (by kernel_rfl) (by decide +kernel) (by decide +kernel) (Or.inl ⟨by rfl, ?_⟩) ?_
           rotate_left
           focus
             intro w' hb'
             have d0 := ha1 w'
             go_simp
             with_reducible rfl
           simp only [Act.put, List.setIfInBounds_toArray, List.set_cons_zero, List.set_cons_succ])
        | (refine SeqS.take (v := ?_) (by first | assumption | trivial) (by kernel_rfl) (by decide +kernel) (by decide +kernel) (Or.inl ⟨by rfl, ?_⟩) ?_
           rotate_left
           focus
             intro w' hb'
             have d0 := e1.out w' hb'
             go_simp
             with_reducible rfl
           simp only [Act.put, List.setIfInBounds_toArray, List.set_cons_zero, List.set_cons_succ])
        | (refine SeqS.take (v := undef) (by first | assumption | trivial) (by kernel_rfl) (by decide +kernel) (by decide +kernel) (Or.inr ⟨by rfl, rfl⟩) ?_
           simp only [Act.put, List.setIfInBounds_toArray, List.set_cons_zero, List.set_cons_succ])
        | (refine SeqS.take1 (v := ?_) (by first | assumption | trivial) (by kernel_rfl) (by decide +kernel) (by decide +kernel) (Or.inl ⟨by rfl, ?_⟩) ?_
           rotate_left
           focus
             intro w' hb'
             go_simp
             with_reducible rfl
           simp only [Act.put, List.setIfInBounds_toArray, List.set_cons_zero, List.set_cons_succ])
        | (refine SeqS.take1 (v := ?_) (by first | assumption | trivial) (by kernel_rfl) (by decide +kernel) (by decide +kernel) (Or.inl ⟨by rfl, ?_⟩) ?_
           rotate_left
           focus
             intro w' hb'
             have d0 := ha1 w'
             go_simp
             with_reducible rfl
           simp only [Act.put, List.setIfInBounds_toArray, List.set_cons_zero, List.set_cons_succ])
        | (refine SeqS.take1 (v := ?_) (by first | assumption | trivial) (by kernel_rfl) (by decide +kernel) (by decide +kernel) (Or.inl ⟨by rfl, ?_⟩) ?_
           rotate_left
           focus
             intro w' hb'
             have d0 := e1.out w' hb'
             go_simp
             with_reducible rfl
           simp only [Act.put, List.setIfInBounds_toArray, List.set_cons_zero, List.set_cons_succ])
        | (refine SeqS.take1 (v := undef) (by first | assumption | trivial) (by kernel_rfl) (by decide +kernel) (by decide +kernel) (Or.inr ⟨by rfl, rfl⟩) ?_
           simp only [Act.put, List.setIfInBounds_toArray, List.set_cons_zero, List.set_cons_succ])
        | (refine SeqS.take2 (v := ?_) (by first | assumption | trivial) (by kernel_rfl) (by decide +kernel) (by decide +kernel) (Or.inl ⟨by rfl, ?_⟩) ?_
           rotate_left
           focus
             intro w' hb'
             go_simp
             with_reducible rfl
           simp only [Act.put, List.setIfInBounds_toArray, List.set_cons_zero, List.set_cons_succ])
        | (refine SeqS.take2 (v := ?_) (by first | assumption | trivial) (by kernel_rfl) (by decide +kernel) (by decide +kernel) (Or.inl ⟨by rfl, ?_⟩) ?_
           rotate_left
           focus
             intro w' hb'
             have d0 := ha1 w'
             go_simp
             with_reducible rfl
           simp only [Act.put, List.setIfInBounds_toArray, List.set_cons_zero, List.set_cons_succ])
        | (refine SeqS.take2 (v := ?_) (by first | assumption | trivial) (by kernel_rfl) (by decide +kernel) (by decide +kernel) (Or.inl ⟨by rfl, ?_⟩) ?_
           rotate_left
           focus
             intro w' hb'
             have d0 := e1.out w' hb'
             go_simp
             with_reducible rfl
           simp only [Act.put, List.setIfInBounds_toArray, List.set_cons_zero, List.set_cons_succ])
        | (refine SeqS.take2 (v := undef) (by first | assumption | trivial) (by kernel_rfl) (by decide +kernel) (by decide +kernel) (Or.inr ⟨by rfl, rfl⟩) ?_
           simp only [Act.put, List.setIfInBounds_toArray, List.set_cons_zero, List.set_cons_succ]))
      refine SeqS.alone (by decide +kernel) (by rfl) (fun K hK => ?_)
      go_simp
      go_at_call 26
      refine (rfErrs_at _).mono ?_
      rintro e w5 ⟨rfl, b5, k5⟩
      go_simp
      have S5 : Below w1.heap.size w1 w5 := S4.trans (b5.mono S4.size)
      refine hK _ _ S5 ?_
      clear hK K
      repeat (first
        | (refine SeqS.take (v := ?_) (by first | assumption | trivial) (by kernel_rfl) (by decide +kernel) (by decide +kernel) (Or.inl ⟨by rfl, ?_⟩) ?_
           rotate_left
           focus
             intro w' hb'
             go_simp
             with_reducible rfl
           simp only [Act.put, List.setIfInBounds_toArray, List.set_cons_zero, List.set_cons_succ])
        | (refine SeqS.take (v := ?_) (by first | assumption | trivial) (by kernel_rfl) (by decide +kernel) (by decide +kernel) (Or.inl ⟨by rfl, ?_⟩) ?_
           rotate_left
           focus
             intro w' hb'
             have d0 := ha1 w'
             go_simp
             with_reducible rfl
           simp only [Act.put, List.setIfInBounds_toArray, List.set_cons_zero, List.set_cons_succ])
        | (refine SeqS.take (v := ?_) (by first | assumption | trivial) (by kernel_rfl) (by decide +kernel) (by decide +kernel) (Or.inl ⟨by rfl, ?_⟩) ?_
           rotate_left
           focus
             intro w' hb'
             have d0 := e1.out w' hb'
             go_simp
             with_reducible rfl
           simp only [Act.put, List.setIfInBounds_toArray, List.set_cons_zero, List.set_cons_succ])
        | (refine SeqS.take (v := undef) (by first | assumption | trivial) (by kernel_rfl) (by decide +kernel) (by decide +kernel) (Or.inr ⟨by rfl, rfl⟩) ?_
           simp only [Act.put, List.setIfInBounds_toArray, List.set_cons_zero, List.set_cons_succ])
        | (refine SeqS.take1 (v := ?_) (by first | assumption | trivial) (by kernel_rfl) (by decide +kernel) (by decide +kernel) (Or.inl ⟨by rfl, ?_⟩) ?_
           rotate_left
           focus
             intro w' hb'
             go_simp
             with_reducible rfl
           simp only [Act.put, List.setIfInBounds_toArray, List.set_cons_zero, List.set_cons_succ])
        | (refine SeqS.take1 (v := ?_) (by first | assumption | trivial) (by kernel_rfl) (by decide +kernel) (by decide +kernel) (Or.inl ⟨by rfl, ?_⟩) ?_
           rotate_left
           focus
             intro w' hb'
             have d0 := ha1 w'
             go_simp
             with_reducible rfl
           simp only [Act.put, List.setIfInBounds_toArray, List.set_cons_zero, List.set_cons_succ])
        | (refine SeqS.take1 (v := ?_) (by first | assumption | trivial) (by kernel_rfl) (by decide +kernel) (by decide +kernel) (Or.inl ⟨by rfl, ?_⟩) ?_
           rotate_left
           focus
             intro w' hb'
             have d0 := e1.out w' hb'
             go_simp
             with_reducible rfl
           simp only [Act.put, List.setIfInBounds_toArray, List.set_cons_zero, List.set_cons_succ])
        | (refine SeqS.take1 (v := undef) (by first | assumption | trivial) (by kernel_rfl) (by decide +kernel) (by decide +kernel) (Or.inr ⟨by rfl, rfl⟩) ?_
           simp only [Act.put, List.setIfInBounds_toArray, List.set_cons_zero, List.set_cons_succ])
        | (refine SeqS.take2 (v := ?_) (by first | assumption | trivial) (by kernel_rfl) (by decide +kernel) (by decide +kernel) (Or.inl ⟨by rfl, ?_⟩) ?_
           rotate_left
           focus
             intro w' hb'
             go_simp
             with_reducible rfl
           simp only [Act.put, List.setIfInBounds_toArray, List.set_cons_zero, List.set_cons_succ])
        | (refine SeqS.take2 (v := ?_) (by first | assumption | trivial) (by kernel_rfl) (by decide +kernel) (by decide +kernel) (Or.inl ⟨by rfl, ?_⟩) ?_
           rotate_left
           focus
             intro w' hb'
             have d0 := ha1 w'
             go_simp
             with_reducible rfl
           simp only [Act.put, List.setIfInBounds_toArray, List.set_cons_zero, List.set_cons_succ])
        | (refine SeqS.take2 (v := ?_) (by first | assumption | trivial) (by kernel_rfl) (by decide +kernel) (by decide +kernel) (Or.inl ⟨by rfl, ?_⟩) ?_
           rotate_left
           focus
             intro w' hb'
             have d0 := e1.out w' hb'
             go_simp
             with_reducible rfl
           simp only [Act.put, List.setIfInBounds_toArray, List.set_cons_zero, List.set_cons_succ])
        | (refine SeqS.take2 (v := undef) (by first | assumption | trivial) (by kernel_rfl) (by decide +kernel) (by decide +kernel) (Or.inr ⟨by rfl, rfl⟩) ?_
           simp only [Act.put, List.setIfInBounds_toArray, List.set_cons_zero, List.set_cons_succ]))
      refine SeqS.alone (by decide +kernel) (by rfl) (fun K hK => ?_)
      go_simp
      go_at_call 24
      refine (hen.out _ _ k5).mono ?_
      rintro e w6 ⟨rfl, b6⟩
      go_simp
      have S6 : Below w1.heap.size w1 w6 := S5.trans (b6.mono S5.size)
      refine hK _ _ S6 ?_
      clear hK K
      repeat (first
        | (refine SeqS.take (v := ?_) (by first | assumption | trivial) (by kernel_rfl) (by decide +kernel) (by decide +kernel) (Or.inl ⟨by rfl, ?_⟩) ?_
           rotate_left
           focus
             intro w' hb'
             go_simp
             with_reducible rfl
           simp only [Act.put, List.setIfInBounds_toArray, List.set_cons_zero, List.set_cons_succ])
        | (refine SeqS.take (v := ?_) (by first | assumption | trivial) (by kernel_rfl) (by decide +kernel) (by decide +kernel) (Or.inl ⟨by rfl, ?_⟩) ?_
           rotate_left
           focus
             intro w' hb'
             have d0 := ha1 w'
             go_simp
             with_reducible rfl
           simp only [Act.put, List.setIfInBounds_toArray, List.set_cons_zero, List.set_cons_succ])
        | (refine SeqS.take (v := ?_) (by first | assumption | trivial) (by kernel_rfl) (by decide +kernel) (by decide +kernel) (Or.inl ⟨by rfl, ?_⟩) ?_
           rotate_left
           focus
             intro w' hb'
             have d0 := ha2 w'
             go_simp
             with_reducible rfl
           simp only [Act.put, List.setIfInBounds_toArray, List.set_cons_zero, List.set_cons_succ])
        | (refine SeqS.take (v := undef) (by first | assumption | trivial) (by kernel_rfl) (by decide +kernel) (by decide +kernel) (Or.inr ⟨by rfl, rfl⟩) ?_
           simp only [Act.put, List.setIfInBounds_toArray, List.set_cons_zero, List.set_cons_succ])
        | (refine SeqS.take1 (v := ?_) (by first | assumption | trivial) (by kernel_rfl) (by decide +kernel) (by decide +kernel) (Or.inl ⟨by rfl, ?_⟩) ?_
           rotate_left
           focus
             intro w' hb'
             go_simp
             with_reducible rfl
           simp only [Act.put, List.setIfInBounds_toArray, List.set_cons_zero, List.set_cons_succ])
        | (refine SeqS.take1 (v := ?_) (by first | assumption | trivial) (by kernel_rfl) (by decide +kernel) (by decide +kernel) (Or.inl ⟨by rfl, ?_⟩) ?_
           rotate_left
           focus
             intro w' hb'
             have d0 := ha1 w'
             go_simp
             with_reducible rfl
           simp only [Act.put, List.setIfInBounds_toArray, List.set_cons_zero, List.set_cons_succ])
        | (refine SeqS.take1 (v := ?_) (by first | assumption | trivial) (by kernel_rfl) (by decide +kernel) (by decide +kernel) (Or.inl ⟨by rfl, ?_⟩) ?_
           rotate_left
           focus
             intro w' hb'
             have d0 := ha2 w'
             go_simp
             with_reducible rfl
           simp only [Act.put, List.setIfInBounds_toArray, List.set_cons_zero, List.set_cons_succ])
        | (refine SeqS.take1 (v := undef) (by first | assumption | trivial) (by kernel_rfl) (by decide +kernel) (by decide +kernel) (Or.inr ⟨by rfl, rfl⟩) ?_
           simp only [Act.put, List.setIfInBounds_toArray, List.set_cons_zero, List.set_cons_succ])
        | (refine SeqS.take2 (v := ?_) (by first | assumption | trivial) (by kernel_rfl) (by decide +kernel) (by decide +kernel) (Or.inl ⟨by rfl, ?_⟩) ?_
           rotate_left
           focus
             intro w' hb'
             go_simp
             with_reducible rfl
           simp only [Act.put, List.setIfInBounds_toArray, List.set_cons_zero, List.set_cons_succ])
        | (refine SeqS.take2 (v := ?_) (by first | assumption | trivial) (by kernel_rfl) (by decide +kernel) (by decide +kernel) (Or.inl ⟨by rfl, ?_⟩) ?_
           rotate_left
           focus
             intro w' hb'
             have d0 := ha1 w'
             go_simp
             with_reducible rfl
           simp only [Act.put, List.setIfInBounds_toArray, List.set_cons_zero, List.set_cons_succ])
        | (refine SeqS.take2 (v := ?_) (by first | assumption | trivial) (by kernel_rfl) (by decide +kernel) (by decide +kernel) (Or.inl ⟨by rfl, ?_⟩) ?_
           rotate_left
           focus
             intro w' hb'
             have d0 := ha2 w'
             go_simp
             with_reducible rfl
           simp only [Act.put, List.setIfInBounds_toArray, List.set_cons_zero, List.set_cons_succ])
        | (refine SeqS.take2 (v := undef) (by first | assumption | trivial) (by kernel_rfl) (by decide +kernel) (by decide +kernel) (Or.inr ⟨by rfl, rfl⟩) ?_
           simp only [Act.put, List.setIfInBounds_toArray, List.set_cons_zero, List.set_cons_succ]))
      refine SeqS.done (by decide +kernel) ?_
      have hk6 := hkH.out.1.keep S6 hkH.out.1.lt
      have hB6 := hkH.out.2.trans (S6.mono hkH.out.2.size)
      clear SD S3 S4 S5 S6 b3 b4 b5 b6 k3 k5 e0 e1 hkH hkn hen
      go_wp2_with ((with_reducible refine wpList_load_blk rfl 26 (.tmp 1) rfl ?_ hk6 rowRp hCl ?_); rfl)
      refine (hN.out w6).mono ?_
      rintro q w7 ⟨g, rfl, hA, hgV, b7⟩
      have hk7 := hk6.keep b7 hk6.lt
      have hB7 := hB6.trans (b7.mono hB6.size)
      have c1 := rp1 (hCH.out ▸ hk7)
      have haj := Lib.hid (hac.out w7 g hA)
      clear hk6 hB6 b7 hk7 hN hac hA hgV
      go_wp2_with fail
      go_loopw [3, 5] (fun v i wr => i = .int .i64 0 ∧ v = .string J0 ∧ wr = w7) (fun _ _ _ => 0)
      case atStart => exact ⟨rfl, rfl, rfl⟩
      case round =>
        obtain ⟨rfl, rfl, hwr⟩ := hrel
        have hwr' := hwr.symm
        subst hwr'
        go_wp2
        go_ret
        exact ⟨rfl, by first | exact hB7 | exact gH.out ▸ hB7⟩
end Go.Proofs.YtbiabjehdmddbaaGreatDoor
