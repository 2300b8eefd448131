/-
  Texts of stages that were proved on their own, joined: FpOne. Each begins with its own words.
-/
import Derived.Test.YtinmmhbiomcdoaaGreatDoorJVaLawN20
import Derived.Test.YtinmmhbiomcdoaaGreatDoorJVaLawN24
import Derived.Test.YtinmmhbiomcdoaaGreatDoorJVaLawN25
import Derived.Test.YtinmmhbiomcdoaaGreatDoorJVaLawN14

/-
  What frame's One comes to. New memory alone is written. Conditions: bytes below 256; at most 2^47 many.
-/
namespace Go.Proofs.YtinmmhbiomcdoaaGreatDoor
open Go.RowKit

theorem sl_to19 {n c : Nat} (a : Option Addr) (h : Nat) (hc : h ≤ c) (wx : World) : (Instr.sliceAt 34 (.slice a n c) none (some (.int .i64 (h : Int))) none).run Tryz.prog wx = .ok (.slice a h c) wx := by
  have he : Tryz.prog.elem 34 = 5 := by simp [Program.elem, Tryz.underlying34]
  rw [run_sliceAt_slice wx 34 _ _ _ _ (by rw [he]; exact Tryz.underlying34), run_slice_h wx 34 a n c (by rw [he]; exact Tryz.underlying34) .i64 h (by omega) (by omega)]
  cases hq : Tryz.prog.info? 5 with
  | none => have := sizeU8s; simp [hq] at this
  | some i =>
    have h1 : i.size = 1 := by have := sizeU8s; simpa [hq] using this
    have hz : (sizeOf (Tryz.prog.elem 34)).run Tryz.prog wx = .ok 1 wx := by rw [he]; simp [sizeOf, typeInfo, hq, h1]
    rw [hz]
    simp [Result.andThen, sliced]
    intro _
    cases a with
    | none => rfl
    | some x => cases x; simp [Addr.add]
theorem sl_in19 {n c : Nat} (a : Option Addr) (l h : Nat) (hlh : l ≤ h) (hc : h ≤ c) (wx : World) : (Instr.sliceAt 34 (.slice a n c) (some (.int .i64 (l : Int))) (some (.int .i64 (h : Int))) none).run Tryz.prog wx = .ok (.slice (cutAddr a c l) (h - l) (c - l)) wx :=
  run_cut2 34 5 Tryz.underlying34 sizeU8s wx a n c .i64 .i64 l h hlh hc
theorem ints_to19 {kd : IntKind} {w : World} {a : Option Addr} {n c : Nat} {xs : List Int} (h : Ints kd w a n c xs) {u : Nat} (hu : u ≤ n) : Ints kd w a u c (xs.take u) := by
  obtain ⟨h1, h2, h3⟩ := h
  refine ⟨by rw [List.length_take]; omega, by omega, ?_⟩
  rcases h3 with h0 | ⟨b, off, ha, hc⟩
  · exact .inl (by omega)
  · refine .inr ⟨b, off, ha, fun i hi => ?_⟩
    rw [hc i (by omega), List.getD_eq_getElem?_getD, List.getD_eq_getElem?_getD, List.getElem?_take_of_lt hi]
theorem ints_in19 {kd : IntKind} {w : World} {a : Option Addr} {n c : Nat} {xs : List Int} (h : Ints kd w a n c xs) (v : Nat) (hv : 8 + v ≤ n) : Ints kd w (cutAddr a c 8) v (c - 8) ((xs.drop 8).take v) := by
  have h1 := h.cut2 8 (8 + v) (by omega) hv
  rw [show 8 + v - 8 = v by omega] at h1
  exact h1
theorem one_parts19 {w : World} {a : Option Addr} {n c : Nat} {xs : List Int} (h : Ints .u8 w a n c xs) (v : Nat) (hv : 8 + v ≤ n) (t : TypeId) : Parts (w.alloc (.cells #[.slice a 4 c, .slice (cutAddr a c 8) v (c - 8)] t)) (some ⟨w.heap.size, 0, none⟩) 2 2 [xs.take 4, (xs.drop 8).take v] :=
  parts_two11 w a (cutAddr a c 8) 4 v c (c - 8) _ _ (ints_to19 h (by omega)) (ints_in19 h v hv) t
theorem parts_range19 {xs : List Int} (hr : ∀ x ∈ xs, 0 ≤ x ∧ x < 256) (v : Nat) : ∀ p ∈ ([xs.take 4, (xs.drop 8).take v] : List (List Int)), ∀ y ∈ p, 0 ≤ y ∧ y < 256 := by
  intro p hp y hy
  simp at hp
  rcases hp with rfl | rfl
  · exact hr y (List.mem_of_mem_take hy)
  · exact hr y (List.mem_of_mem_drop (List.mem_of_mem_take hy))
theorem parts_len19 (xs : List Int) (v : Nat) (hv : (v : Int) ≤ 65536) : 2 + ([xs.take 4, (xs.drop 8).take v] : List (List Int)).flatten.length ≤ 1000000 := by
  have h1 : (xs.take 4).length ≤ 4 := by rw [List.length_take]; omega
  have h2 : ((xs.drop 8).take v).length ≤ v := by rw [List.length_take]; omega
  simp only [List.flatten_cons, List.flatten_nil, List.length_append, List.length_nil]
  omega
/-- The two slices' block, and what they point to. -/
theorem parts_blk19 {w : World} {G : Nat} {a : Option Addr} {n c v : Nat} {t : TypeId} {xs : List Int} (hk : Blk w G t [.slice a 4 c, .slice (cutAddr a c 8) v (c - 8)]) (hI : Ints .u8 w a n c xs) (hv : 8 + v ≤ n) : Parts w (some ⟨G, 0, none⟩) 2 2 [xs.take 4, (xs.drop 8).take v] :=
  Parts.of_blk hk rfl (fun i hi => by
    rcases i with _ | _ | i
    · exact ⟨a, 4, c, rfl, ints_to19 hI (by omega)⟩
    · exact ⟨_, v, _, rfl, ints_in19 hI v hv⟩
    · omega)
/-- What One ends in. -/
def OneEnd (xs : List Int) (w : World) (q : Ending) (w' : World) : Prop := ∃ b d, q = .returned (.tuple #[.slice b (oneF xs).1.length d, .int .i64 ((oneF xs).2.1 : Int), .int .i64 (oneF xs).2.2]) ∧ w'.ownsRow w.heap.size 5 1 (.slice b (oneF xs).1.length d) (oneF xs).1.length ((oneF xs).1.map (Value.int .u8)) ∧ Below w.heap.size w w'

set_option maxRecDepth 100000 in
set_option maxHeartbeats 4000000 in
theorem fOne_any (a : Option Addr) (n c : Nat) (xs : List Int) (w : World) (hG : Glob11 w) (hI : Ints .u8 w a n c xs) (hr : ∀ x ∈ xs, 0 ≤ x ∧ x < 256) (hn : n ≤ 140737488355328) :
    Calls Tryz.prog 132 #[.slice a n c] w (OneEnd xs w) := by
  have hl := hI.len
  have hcl := hI.2.1
  have hs := one_split hr
  rw [hl] at hs
  have h8r : ∀ x ∈ xs.take 8, 0 ≤ x ∧ x < 256 := fun x hx => hr x (List.mem_of_mem_take hx)
  have hIH := Lib.hid hI
  have hGH := Lib.hid hG
  have hrH := Lib.hid hr
  have hni : (n : Int) ≤ 140737488355328 := by omega
  by_cases h8 : n ≤ 8
  · have h8i : (n : Int) ≤ 8 := by omega
    have s12 : ∀ wx : World, (Instr.sliceAt 34 (.slice a n c) none (some (.int .i64 (n : Int))) none).run Tryz.prog wx = .ok (.slice a n c) wx := fun wx => sl_to19 a n hcl wx
    have hNew := pNew_any a n c (xs.take 8) w (by rw [List.take_of_length_le (by omega)]; exact hI) h8r (by omega)
    clear hI hG hr hn h8r hl
    go_enter Tryz.func132, Tryz.ntmps132
    go_wp2_with fail
    refine hNew.mono ?_
    rintro q w1 ⟨g, F, rfl, hR1, hF1, b1⟩
    have hc := pCount_any 4 65536 (by decide) hR1
    clear hNew hR1
    rcases hs with ⟨p, e, E, hcnt, hE, hbad, hone⟩ | ⟨v, hv1, hv2, hcnt, hsh, hone⟩ | ⟨v, S, hv1, hv2, hcnt, hle, hnum, hS, hsum, hne, heq⟩
    · rw [hcnt] at hc
      have honeH := Lib.hid hone
      have hEH := Lib.hid hE
      have hbadH := Lib.hid hbad
      clear hcnt hone hE hbad
      go_wp2_with fail
      refine hc.mono ?_
      rintro q w2 ⟨rfl, hR2, m2⟩
      have hB2 := b1.trans (m2.below hF1 b1.size)
      have hf := pFail_any 4 hR2
      rw [hbadH.out] at hf
      clear hc m2 hR2 b1
      go_wp2_with fail
      refine hf.mono ?_
      rintro q wf ⟨rfl, hRf, mf⟩
      have hB3 := hB2.trans (mf.below hF1 hB2.size)
      have hf := pFail_any 2 hRf
      rw [show badOf E 2 = E from if_neg hEH.out] at hf
      clear mf hRf hB2
      go_wp2_with fail
      refine hf.mono ?_
      rintro q wf ⟨rfl, hRf, mf⟩
      have hB4 := hB3.trans (mf.below hF1 hB3.size)
      have hf := pFail_any 9 hRf
      rw [show badOf E 9 = E from if_neg hEH.out] at hf
      clear mf hRf hB3
      go_wp2_with fail
      refine hf.mono ?_
      rintro q wf ⟨rfl, hRf, mf⟩
      have hB := hB4.trans (mf.below hF1 hB4.size)
      have hR := hRf
      clear hf mf hRf hB4
      have he := pErr_any hR
      go_wp2_with fail
      refine he.mono ?_
      rintro q w9 ⟨rfl, b9⟩
      have hB9 := hB.trans (b9.mono hB.size)
      clear he b9 hB hR
      go_wp2
      go_ret3
      exact ⟨none, 0, by rw [honeH.out]; rfl, by rw [honeH.out]; exact World.ownsRow_nil _ _ _ _, hB9⟩
    · rw [hcnt] at hc
      have honeH := Lib.hid hone
      have hv0 : ¬ (v : Int) = 0 := by omega
      have hvb : (v : Int) ≤ 65536 := by omega
      have hv9 : ¬ v = 0 := by omega
      have hshi : (n : Int) < 8 + (v : Int) := by omega
      clear hcnt hone hv1 hv2 hsh
      go_wp2_with fail
      refine hc.mono ?_
      rintro q w2 ⟨rfl, hR2, m2⟩
      have hB2 := b1.trans (m2.below hF1 b1.size)
      have hf := pFail_any 2 hR2
      rw [show badOf 0 2 = 2 by rfl] at hf
      clear hc m2 hR2 b1
      go_wp2_with fail
      refine hf.mono ?_
      rintro q wf ⟨rfl, hRf, mf⟩
      have hB3 := hB2.trans (mf.below hF1 hB2.size)
      have hf := pFail_any 9 hRf
      rw [show badOf 2 9 = 2 by rfl] at hf
      clear mf hRf hB2
      go_wp2_with fail
      refine hf.mono ?_
      rintro q wf ⟨rfl, hRf, mf⟩
      have hB := hB3.trans (mf.below hF1 hB3.size)
      have hR := hRf
      clear hf mf hRf hB3
      have he := pErr_any hR
      go_wp2_with fail
      refine he.mono ?_
      rintro q w9 ⟨rfl, b9⟩
      have hB9 := hB.trans (b9.mono hB.size)
      clear he b9 hB hR
      go_wp2
      go_ret3
      exact ⟨none, 0, by rw [honeH.out]; rfl, by rw [honeH.out]; exact World.ownsRow_nil _ _ _ _, hB9⟩
    · exfalso
      omega
  · have h8i : ¬ (n : Int) ≤ 8 := by omega
    have s12 : ∀ wx : World, (Instr.sliceAt 34 (.slice a n c) none (some (.int .i64 8)) none).run Tryz.prog wx = .ok (.slice a 8 c) wx := fun wx => sl_to19 a 8 (by omega) wx
    have hNew := pNew_any a 8 c (xs.take 8) w (ints_to19 hI (by omega)) h8r (by decide)
    clear hI hG hr hn h8r hl
    go_enter Tryz.func132, Tryz.ntmps132
    go_wp2_with fail
    refine hNew.mono ?_
    rintro q w1 ⟨g, F, rfl, hR1, hF1, b1⟩
    have hc := pCount_any 4 65536 (by decide) hR1
    clear hNew hR1
    rcases hs with ⟨p, e, E, hcnt, hE, hbad, hone⟩ | ⟨v, hv1, hv2, hcnt, hsh, hone⟩ | ⟨v, S, hv1, hv2, hcnt, hle, hnum, hS, hsum, hne, heq⟩
    · rw [hcnt] at hc
      have honeH := Lib.hid hone
      have hEH := Lib.hid hE
      have hbadH := Lib.hid hbad
      clear hcnt hone hE hbad
      go_wp2_with fail
      refine hc.mono ?_
      rintro q w2 ⟨rfl, hR2, m2⟩
      have hB2 := b1.trans (m2.below hF1 b1.size)
      have hf := pFail_any 4 hR2
      rw [hbadH.out] at hf
      clear hc m2 hR2 b1
      go_wp2_with fail
      refine hf.mono ?_
      rintro q wf ⟨rfl, hRf, mf⟩
      have hB3 := hB2.trans (mf.below hF1 hB2.size)
      have hf := pFail_any 2 hRf
      rw [show badOf E 2 = E from if_neg hEH.out] at hf
      clear mf hRf hB2
      go_wp2_with fail
      refine hf.mono ?_
      rintro q wf ⟨rfl, hRf, mf⟩
      have hB4 := hB3.trans (mf.below hF1 hB3.size)
      have hf := pFail_any 9 hRf
      rw [show badOf E 9 = E from if_neg hEH.out] at hf
      clear mf hRf hB3
      go_wp2_with fail
      refine hf.mono ?_
      rintro q wf ⟨rfl, hRf, mf⟩
      have hB := hB4.trans (mf.below hF1 hB4.size)
      have hR := hRf
      clear hf mf hRf hB4
      have he := pErr_any hR
      go_wp2_with fail
      refine he.mono ?_
      rintro q w9 ⟨rfl, b9⟩
      have hB9 := hB.trans (b9.mono hB.size)
      clear he b9 hB hR
      go_wp2
      go_ret3
      exact ⟨none, 0, by rw [honeH.out]; rfl, by rw [honeH.out]; exact World.ownsRow_nil _ _ _ _, hB9⟩
    · rw [hcnt] at hc
      have honeH := Lib.hid hone
      have hv0 : ¬ (v : Int) = 0 := by omega
      have hvb : (v : Int) ≤ 65536 := by omega
      have hv9 : ¬ v = 0 := by omega
      have hshi : (n : Int) < 8 + (v : Int) := by omega
      clear hcnt hone hv1 hv2 hsh
      go_wp2_with fail
      refine hc.mono ?_
      rintro q w2 ⟨rfl, hR2, m2⟩
      have hB2 := b1.trans (m2.below hF1 b1.size)
      have hf := pFail_any 2 hR2
      rw [show badOf 0 2 = 2 by rfl] at hf
      clear hc m2 hR2 b1
      go_wp2_with fail
      refine hf.mono ?_
      rintro q wf ⟨rfl, hRf, mf⟩
      have hB3 := hB2.trans (mf.below hF1 hB2.size)
      have hf := pFail_any 9 hRf
      rw [show badOf 2 9 = 2 by rfl] at hf
      clear mf hRf hB2
      go_wp2_with fail
      refine hf.mono ?_
      rintro q wf ⟨rfl, hRf, mf⟩
      have hB := hB3.trans (mf.below hF1 hB3.size)
      have hR := hRf
      clear hf mf hRf hB3
      have he := pErr_any hR
      go_wp2_with fail
      refine he.mono ?_
      rintro q w9 ⟨rfl, b9⟩
      have hB9 := hB.trans (b9.mono hB.size)
      clear he b9 hB hR
      go_wp2
      go_ret3
      exact ⟨none, 0, by rw [honeH.out]; rfl, by rw [honeH.out]; exact World.ownsRow_nil _ _ _ _, hB9⟩
    · rw [hcnt] at hc
      have hv0 : ¬ (v : Int) = 0 := by omega
      have hvb : (v : Int) ≤ 65536 := by omega
      have hv9 : ¬ v = 0 := by omega
      have hshi : ¬ (n : Int) < 8 + (v : Int) := by omega
      have s30 : ∀ wx : World, (Instr.sliceAt 34 (.slice a n c) none (some (.int .i64 4)) none).run Tryz.prog wx = .ok (.slice a 4 c) wx := fun wx => sl_to19 a 4 (by omega) wx
      have s33 : ∀ wx : World, (Instr.sliceAt 34 (.slice a n c) (some (.int .i64 8)) (some (.int .i64 (8 + (v : Int)))) none).run Tryz.prog wx = .ok (.slice (cutAddr a c 8) v (c - 8)) wx := fun wx => by
        have h := sl_in19 (n := n) (c := c) a 8 (8 + v) (by omega) (by omega) wx
        rw [show 8 + v - 8 = v by omega] at h
        exact h
      obtain ⟨V, hV⟩ : ∃ V, sumF ((xs.drop 8).take v) = V := ⟨_, rfl⟩
      have hVr := sumF_range ((xs.drop 8).take v)
      rw [hV] at hsum hne heq hVr
      have v64 : IntKind.u64.wrap V = V := by rw [IntKind.wrap_u64]; omega
      have hneH := Lib.hid hne
      have heqH := Lib.hid heq
      have hnumH := Lib.hid hnum
      have hsumH := Lib.hid hsum
      have hv2H := Lib.hid hv2
      have hleH := Lib.hid hle
      clear hcnt hne heq hV hVr hnum hsum hv1 hv2 hle hS
      go_wp2_with fail
      refine hc.mono ?_
      rintro q w2 ⟨rfl, hR2, m2⟩
      have hB2 := b1.trans (m2.below hF1 b1.size)
      clear hc m2 b1
      go_wp2_with fail
      have b3 : Below w.heap.size w w2.drew := hB2.drew
      have hRW : RdAt F w2.drew g (xs.take 8) 4 0 := hR2.keep (fun b _ => rfl) (Nat.le_refl _)
      obtain ⟨W, hW⟩ : ∃ W, w2.drew = W := ⟨_, rfl⟩
      refine region_seqS (fun w' => Below w.heap.size w w') (by kernel_rfl) b3 ?_
      simp only [pairs, Nat.reduceAdd]
      rw [hW] at b3 hRW
      rw [hW]
      clear hW hB2 hR2
      repeat (first
        | (refine SeqS.take (v := ?_) (by first | assumption | trivial) (by kernel_rfl) (by decide +kernel) (by decide +kernel) (Or.inl ⟨by rfl, ?_⟩) ?_
           rotate_left
           focus
             intro w' hb'
             go_simp
             with_reducible rfl
           simp only [Act.put, List.setIfInBounds_toArray, List.set_cons_zero, List.set_cons_succ])
        | (refine SeqS.take (v := ?_) (by first | assumption | trivial) (by kernel_rfl) (by decide +kernel) (by decide +kernel) (Or.inl ⟨by rfl, ?_⟩) ?_
           rotate_left
           focus
             intro w' hb'
             have d0 := s30 w'
             go_simp
             with_reducible rfl
           simp only [Act.put, List.setIfInBounds_toArray, List.set_cons_zero, List.set_cons_succ])
        | (refine SeqS.take (v := ?_) (by first | assumption | trivial) (by kernel_rfl) (by decide +kernel) (by decide +kernel) (Or.inl ⟨by rfl, ?_⟩) ?_
           rotate_left
           focus
             intro w' hb'
             have d0 := s33 w'
             go_simp
             with_reducible rfl
           simp only [Act.put, List.setIfInBounds_toArray, List.set_cons_zero, List.set_cons_succ])
        | (refine SeqS.take (v := undef) (by first | assumption | trivial) (by kernel_rfl) (by decide +kernel) (by decide +kernel) (Or.inr ⟨by rfl, rfl⟩) ?_
           simp only [Act.put, List.setIfInBounds_toArray, List.set_cons_zero, List.set_cons_succ])
        | (refine SeqS.take1 (v := ?_) (by first | assumption | trivial) (by kernel_rfl) (by decide +kernel) (by decide +kernel) (Or.inl ⟨by rfl, ?_⟩) ?_
           rotate_left
           focus
             intro w' hb'
             go_simp
             with_reducible rfl
           simp only [Act.put, List.setIfInBounds_toArray, List.set_cons_zero, List.set_cons_succ])
        | (refine SeqS.take1 (v := ?_) (by first | assumption | trivial) (by kernel_rfl) (by decide +kernel) (by decide +kernel) (Or.inl ⟨by rfl, ?_⟩) ?_
           rotate_left
           focus
             intro w' hb'
             have d0 := s30 w'
             go_simp
             with_reducible rfl
           simp only [Act.put, List.setIfInBounds_toArray, List.set_cons_zero, List.set_cons_succ])
        | (refine SeqS.take1 (v := ?_) (by first | assumption | trivial) (by kernel_rfl) (by decide +kernel) (by decide +kernel) (Or.inl ⟨by rfl, ?_⟩) ?_
           rotate_left
           focus
             intro w' hb'
             have d0 := s33 w'
             go_simp
             with_reducible rfl
           simp only [Act.put, List.setIfInBounds_toArray, List.set_cons_zero, List.set_cons_succ])
        | (refine SeqS.take1 (v := undef) (by first | assumption | trivial) (by kernel_rfl) (by decide +kernel) (by decide +kernel) (Or.inr ⟨by rfl, rfl⟩) ?_
           simp only [Act.put, List.setIfInBounds_toArray, List.set_cons_zero, List.set_cons_succ])
        | (refine SeqS.take2 (v := ?_) (by first | assumption | trivial) (by kernel_rfl) (by decide +kernel) (by decide +kernel) (Or.inl ⟨by rfl, ?_⟩) ?_
           rotate_left
           focus
             intro w' hb'
             go_simp
             with_reducible rfl
           simp only [Act.put, List.setIfInBounds_toArray, List.set_cons_zero, List.set_cons_succ])
        | (refine SeqS.take2 (v := ?_) (by first | assumption | trivial) (by kernel_rfl) (by decide +kernel) (by decide +kernel) (Or.inl ⟨by rfl, ?_⟩) ?_
           rotate_left
           focus
             intro w' hb'
             have d0 := s30 w'
             go_simp
             with_reducible rfl
           simp only [Act.put, List.setIfInBounds_toArray, List.set_cons_zero, List.set_cons_succ])
        | (refine SeqS.take2 (v := ?_) (by first | assumption | trivial) (by kernel_rfl) (by decide +kernel) (by decide +kernel) (Or.inl ⟨by rfl, ?_⟩) ?_
           rotate_left
           focus
             intro w' hb'
             have d0 := s33 w'
             go_simp
             with_reducible rfl
           simp only [Act.put, List.setIfInBounds_toArray, List.set_cons_zero, List.set_cons_succ])
        | (refine SeqS.take2 (v := undef) (by first | assumption | trivial) (by kernel_rfl) (by decide +kernel) (by decide +kernel) (Or.inr ⟨by rfl, rfl⟩) ?_
           simp only [Act.put, List.setIfInBounds_toArray, List.set_cons_zero, List.set_cons_succ])
        | (refine SeqS.take3 (v := ?_) (by first | assumption | trivial) (by kernel_rfl) (by decide +kernel) (by decide +kernel) (Or.inl ⟨by rfl, ?_⟩) ?_
           rotate_left
           focus
             intro w' hb'
             go_simp
             with_reducible rfl
           simp only [Act.put, List.setIfInBounds_toArray, List.set_cons_zero, List.set_cons_succ])
        | (refine SeqS.take3 (v := ?_) (by first | assumption | trivial) (by kernel_rfl) (by decide +kernel) (by decide +kernel) (Or.inl ⟨by rfl, ?_⟩) ?_
           rotate_left
           focus
             intro w' hb'
             have d0 := s30 w'
             go_simp
             with_reducible rfl
           simp only [Act.put, List.setIfInBounds_toArray, List.set_cons_zero, List.set_cons_succ])
        | (refine SeqS.take3 (v := ?_) (by first | assumption | trivial) (by kernel_rfl) (by decide +kernel) (by decide +kernel) (Or.inl ⟨by rfl, ?_⟩) ?_
           rotate_left
           focus
             intro w' hb'
             have d0 := s33 w'
             go_simp
             with_reducible rfl
           simp only [Act.put, List.setIfInBounds_toArray, List.set_cons_zero, List.set_cons_succ])
        | (refine SeqS.take3 (v := undef) (by first | assumption | trivial) (by kernel_rfl) (by decide +kernel) (by decide +kernel) (Or.inr ⟨by rfl, rfl⟩) ?_
           simp only [Act.put, List.setIfInBounds_toArray, List.set_cons_zero, List.set_cons_succ])
        | (refine SeqS.take4 (v := ?_) (by first | assumption | trivial) (by kernel_rfl) (by decide +kernel) (by decide +kernel) (Or.inl ⟨by rfl, ?_⟩) ?_
           rotate_left
           focus
             intro w' hb'
             go_simp
             with_reducible rfl
           simp only [Act.put, List.setIfInBounds_toArray, List.set_cons_zero, List.set_cons_succ])
        | (refine SeqS.take4 (v := ?_) (by first | assumption | trivial) (by kernel_rfl) (by decide +kernel) (by decide +kernel) (Or.inl ⟨by rfl, ?_⟩) ?_
           rotate_left
           focus
             intro w' hb'
             have d0 := s30 w'
             go_simp
             with_reducible rfl
           simp only [Act.put, List.setIfInBounds_toArray, List.set_cons_zero, List.set_cons_succ])
        | (refine SeqS.take4 (v := ?_) (by first | assumption | trivial) (by kernel_rfl) (by decide +kernel) (by decide +kernel) (Or.inl ⟨by rfl, ?_⟩) ?_
           rotate_left
           focus
             intro w' hb'
             have d0 := s33 w'
             go_simp
             with_reducible rfl
           simp only [Act.put, List.setIfInBounds_toArray, List.set_cons_zero, List.set_cons_succ])
        | (refine SeqS.take4 (v := undef) (by first | assumption | trivial) (by kernel_rfl) (by decide +kernel) (by decide +kernel) (Or.inr ⟨by rfl, rfl⟩) ?_
           simp only [Act.put, List.setIfInBounds_toArray, List.set_cons_zero, List.set_cons_succ]))
      have cn := pNum_any 4 hRW
      rw [hnumH.out] at cn
      refine SeqS.either (rs := [1, 7]) (by decide +kernel) ?_
      intro k hk
      simp only [List.mem_cons, List.not_mem_nil, or_false] at hk
      rcases hk with rfl | rfl
      · refine ⟨[], _, [_, _, _, _, _], rfl, by rfl, fun K1 hK => ?_⟩
        go_simp
        go_at_call 105
        refine cn.mono ?_
        rintro q w4 ⟨rfl, hR4, m4⟩
        go_simp
        have S4 := b3.trans (m4.below hF1 b3.size)
        refine hK _ _ S4 ?_
        clear hK K1 cn hRW m4 b3
        have hI4 := hIH.out.keep S4
        have S5 := S4.alloc S4.size (.cells #[.slice a 4 c, .slice (cutAddr a c 8) v (c - 8)] 34)
        have hP := one_parts19 hI4 v (by have := hleH.out; omega) 34
        refine SeqS.alone (by decide +kernel) (by rfl) (fun K1 hK => ?_)
        go_simp
        refine hK _ _ S5 ?_
        clear hK K1
        have hR5 := hR4.keep (fun b hb => Below.heap_alloc w4 (.cells #[.slice a 4 c, .slice (cutAddr a c 8) v (c - 8)] 34) b (hR4.lt b hb)) (by rw [size1]; exact Nat.le_succ _)
        have co := cOf_any _ 2 2 _ _ (hGH.out.keep S5 (Nat.le_refl _)) hP (parts_range19 hrH.out v) (parts_len19 xs v hvb)
        rw [hsumH.out] at co
        refine SeqS.alone (by decide +kernel) (by rfl) (fun K1 hK => ?_)
        go_simp
        go_at_call 123
        refine co.mono ?_
        rintro q w6 ⟨rfl, hw6⟩
        subst hw6
        go_simp
        refine hK _ _ S5 ?_
        clear hK K1 co hP hR4 S4 hI4
        obtain ⟨w7, hw7⟩ : ∃ w7, w4.alloc (.cells #[.slice a 4 c, .slice (cutAddr a c 8) v (c - 8)] 34) = w7 := ⟨_, rfl⟩
        rw [hw7] at S5 hR5
        rw [hw7]
        have S7 := S5
        have hR7 := hR5
        clear hw7 S5 hR5
        repeat (first
          | (refine SeqS.take (v := ?_) (by first | assumption | trivial) (by kernel_rfl) (by decide +kernel) (by decide +kernel) (Or.inl ⟨by rfl, ?_⟩) ?_
             rotate_left
             focus
               intro w' hb'
               go_simp
               with_reducible rfl
             simp only [Act.put, List.setIfInBounds_toArray, List.set_cons_zero, List.set_cons_succ])
          | (refine SeqS.take (v := undef) (by first | assumption | trivial) (by kernel_rfl) (by decide +kernel) (by decide +kernel) (Or.inr ⟨by rfl, rfl⟩) ?_
             simp only [Act.put, List.setIfInBounds_toArray, List.set_cons_zero, List.set_cons_succ])
          | (refine SeqS.take1 (v := ?_) (by first | assumption | trivial) (by kernel_rfl) (by decide +kernel) (by decide +kernel) (Or.inl ⟨by rfl, ?_⟩) ?_
             rotate_left
             focus
               intro w' hb'
               go_simp
               with_reducible rfl
             simp only [Act.put, List.setIfInBounds_toArray, List.set_cons_zero, List.set_cons_succ])
          | (refine SeqS.take1 (v := undef) (by first | assumption | trivial) (by kernel_rfl) (by decide +kernel) (by decide +kernel) (Or.inr ⟨by rfl, rfl⟩) ?_
             simp only [Act.put, List.setIfInBounds_toArray, List.set_cons_zero, List.set_cons_succ])
          | (refine SeqS.take2 (v := ?_) (by first | assumption | trivial) (by kernel_rfl) (by decide +kernel) (by decide +kernel) (Or.inl ⟨by rfl, ?_⟩) ?_
             rotate_left
             focus
               intro w' hb'
               go_simp
               with_reducible rfl
             simp only [Act.put, List.setIfInBounds_toArray, List.set_cons_zero, List.set_cons_succ])
          | (refine SeqS.take2 (v := undef) (by first | assumption | trivial) (by kernel_rfl) (by decide +kernel) (by decide +kernel) (Or.inr ⟨by rfl, rfl⟩) ?_
             simp only [Act.put, List.setIfInBounds_toArray, List.set_cons_zero, List.set_cons_succ]))
        refine SeqS.done (by decide +kernel) ?_
        have hn2 : v ≤ 4294967296 := by have := hv2H.out; omega
        have hI7 := hIH.out.keep S7
        have hI8 : Ints .u8 w7 (cutAddr a c 8) v (c - 8) ((xs.drop 8).take v) := by
          have h := hI7.cut2 8 (8 + v) (by omega) (by have := hleH.out; omega)
          rw [show 8 + v - 8 = v by omega] at h
          exact h
        obtain ⟨D, hD⟩ : ∃ D, decide (S = V) = D := ⟨_, rfl⟩
        cases D with
        | true =>
          have hSV : S = V := of_decide_eq_true hD
          have honeH := Lib.hid (heqH.out hSV)
          subst hSV
          have hcl := pClone_any _ v _ _ w7 hI8 hn2
          have hbl := hI8.len
          clear hD hR7 hI7
          go_wp2_with fail
          refine hcl.mono ?_
          rintro q w8 ⟨b', d', rfl, ho, b8⟩
          have hB8 := S7.trans (b8.mono S7.size)
          have ho8 := own_low9 ho S7.size
          clear hcl ho b8 S7 hI8
          go_wp2
          go_ret3
          refine ⟨b', d', ?_, ?_, hB8⟩
          · rw [honeH.out]
            show _ = Ending.returned (.tuple #[.slice b' ((xs.drop 8).take v).length d', .int .i64 ((8 + v : Nat) : Int), .int .i64 0])
            rw [hbl, show ((8 + v : Nat) : Int) = 8 + (v : Int) by omega]
            rfl
          · rw [honeH.out]
            show w8.ownsRow w.heap.size _ 1 (.slice b' ((xs.drop 8).take v).length d') ((xs.drop 8).take v).length _
            rw [hbl]
            exact ho8
        | false =>
          have hSV : ¬ S = V := of_decide_eq_false hD
          have honeH := Lib.hid (hneH.out hSV)
          clear hI7 hI8 hD
          have hf := pFail_any 9 hR7
          rw [show badOf 0 9 = 9 by rfl] at hf
          have hB0 := S7
          clear hR7 S7
          go_wp2_with fail
          refine hf.mono ?_
          rintro q wf ⟨rfl, hRf, mf⟩
          have hB := hB0.trans (mf.below hF1 hB0.size)
          have hR := hRf
          clear hf mf hRf hB0
          have he := pErr_any hR
          go_wp2_with fail
          refine he.mono ?_
          rintro q w9 ⟨rfl, b9⟩
          have hB9 := hB.trans (b9.mono hB.size)
          clear he b9 hB hR
          go_wp2
          go_ret3
          exact ⟨none, 0, by rw [honeH.out]; rfl, by rw [honeH.out]; exact World.ownsRow_nil _ _ _ _, hB9⟩
      · refine ⟨[_], _, [_, _, _, _], rfl, by rfl, fun K1 hK => ?_⟩
        go_simp
        have hIW := hIH.out.keep b3
        have S5 := b3.alloc b3.size (.cells #[.slice a 4 c, .slice (cutAddr a c 8) v (c - 8)] 34)
        have hP := Blk.new W 34 [.slice a 4 c, .slice (cutAddr a c 8) v (c - 8)]
        rw [show ([Value.slice a 4 c, .slice (cutAddr a c 8) v (c - 8)].toArray) = #[.slice a 4 c, .slice (cutAddr a c 8) v (c - 8)] from rfl] at hP
        refine hK _ _ S5 ?_
        clear hK K1
        have hR5 := hRW.keep (fun b hb => Below.heap_alloc W (.cells #[.slice a 4 c, .slice (cutAddr a c 8) v (c - 8)] 34) b (hRW.lt b hb)) (by rw [size1]; exact Nat.le_succ _)
        have hbw := hRW.lt
        obtain ⟨W5, hW5⟩ : ∃ w7, W.alloc (.cells #[.slice a 4 c, .slice (cutAddr a c 8) v (c - 8)] 34) = w7 := ⟨_, rfl⟩
        rw [hW5] at S5 hR5 hP
        rw [hW5]
        have cn := pNum_any 4 hR5
        rw [hnumH.out] at cn
        have hPF : ∀ b, F b → b < W.heap.size := hbw
        obtain ⟨G, hG⟩ : ∃ G, W.heap.size = G := ⟨_, rfl⟩
        have hGs : G < W5.heap.size := by rw [← hW5, size1, hG]; exact Nat.lt_succ_self _
        rw [hG] at hP hPF
        rw [hG]
        clear hW5 hIW hRW b3 hbw hG
        refine SeqS.alone (by decide +kernel) (by rfl) (fun K1 hK => ?_)
        go_simp
        go_at_call 105
        refine cn.mono ?_
        rintro q w6 ⟨rfl, hR6, m6⟩
        go_simp
        have S6 := S5.trans (m6.below hF1 S5.size)
        refine hK _ _ S6 ?_
        clear hK K1 cn hR5
        have hP6 : Parts w6 (some ⟨G, 0, none⟩) 2 2 [xs.take 4, (xs.drop 8).take v] := parts_blk19 ((m6.2 G hGs (fun hF => absurd (hPF G hF) (Nat.lt_irrefl _))).trans hP) (hIH.out.keep S6) (by have := hleH.out; omega)
        have co := cOf_any _ 2 2 _ _ (hGH.out.keep S6 (Nat.le_refl _)) hP6 (parts_range19 hrH.out v) (parts_len19 xs v hvb)
        rw [hsumH.out] at co
        refine SeqS.alone (by decide +kernel) (by rfl) (fun K1 hK => ?_)
        go_simp
        go_at_call 123
        refine co.mono ?_
        rintro q w7 ⟨rfl, hw7⟩
        subst hw7
        go_simp
        refine hK _ _ S6 ?_
        clear hK K1 co hP hP6 m6 S5
        have S7 := S6
        have hR7 := hR6
        clear S6 hR6
        obtain ⟨w7, hw7⟩ : ∃ w7, w6 = w7 := ⟨_, rfl⟩
        rw [hw7] at S7 hR7
        rw [hw7]
        clear hw7
        repeat (first
          | (refine SeqS.take (v := ?_) (by first | assumption | trivial) (by kernel_rfl) (by decide +kernel) (by decide +kernel) (Or.inl ⟨by rfl, ?_⟩) ?_
             rotate_left
             focus
               intro w' hb'
               go_simp
               with_reducible rfl
             simp only [Act.put, List.setIfInBounds_toArray, List.set_cons_zero, List.set_cons_succ])
          | (refine SeqS.take (v := undef) (by first | assumption | trivial) (by kernel_rfl) (by decide +kernel) (by decide +kernel) (Or.inr ⟨by rfl, rfl⟩) ?_
             simp only [Act.put, List.setIfInBounds_toArray, List.set_cons_zero, List.set_cons_succ])
          | (refine SeqS.take1 (v := ?_) (by first | assumption | trivial) (by kernel_rfl) (by decide +kernel) (by decide +kernel) (Or.inl ⟨by rfl, ?_⟩) ?_
             rotate_left
             focus
               intro w' hb'
               go_simp
               with_reducible rfl
             simp only [Act.put, List.setIfInBounds_toArray, List.set_cons_zero, List.set_cons_succ])
          | (refine SeqS.take1 (v := undef) (by first | assumption | trivial) (by kernel_rfl) (by decide +kernel) (by decide +kernel) (Or.inr ⟨by rfl, rfl⟩) ?_
             simp only [Act.put, List.setIfInBounds_toArray, List.set_cons_zero, List.set_cons_succ])
          | (refine SeqS.take2 (v := ?_) (by first | assumption | trivial) (by kernel_rfl) (by decide +kernel) (by decide +kernel) (Or.inl ⟨by rfl, ?_⟩) ?_
             rotate_left
             focus
               intro w' hb'
               go_simp
               with_reducible rfl
             simp only [Act.put, List.setIfInBounds_toArray, List.set_cons_zero, List.set_cons_succ])
          | (refine SeqS.take2 (v := undef) (by first | assumption | trivial) (by kernel_rfl) (by decide +kernel) (by decide +kernel) (Or.inr ⟨by rfl, rfl⟩) ?_
             simp only [Act.put, List.setIfInBounds_toArray, List.set_cons_zero, List.set_cons_succ]))
        refine SeqS.done (by decide +kernel) ?_
        have hn2 : v ≤ 4294967296 := by have := hv2H.out; omega
        have hI7 := hIH.out.keep S7
        have hI8 : Ints .u8 w7 (cutAddr a c 8) v (c - 8) ((xs.drop 8).take v) := by
          have h := hI7.cut2 8 (8 + v) (by omega) (by have := hleH.out; omega)
          rw [show 8 + v - 8 = v by omega] at h
          exact h
        obtain ⟨D, hD⟩ : ∃ D, decide (S = V) = D := ⟨_, rfl⟩
        cases D with
        | true =>
          have hSV : S = V := of_decide_eq_true hD
          have honeH := Lib.hid (heqH.out hSV)
          subst hSV
          have hcl := pClone_any _ v _ _ w7 hI8 hn2
          have hbl := hI8.len
          clear hD hR7 hI7
          go_wp2_with fail
          refine hcl.mono ?_
          rintro q w8 ⟨b', d', rfl, ho, b8⟩
          have hB8 := S7.trans (b8.mono S7.size)
          have ho8 := own_low9 ho S7.size
          clear hcl ho b8 S7 hI8
          go_wp2
          go_ret3
          refine ⟨b', d', ?_, ?_, hB8⟩
          · rw [honeH.out]
            show _ = Ending.returned (.tuple #[.slice b' ((xs.drop 8).take v).length d', .int .i64 ((8 + v : Nat) : Int), .int .i64 0])
            rw [hbl, show ((8 + v : Nat) : Int) = 8 + (v : Int) by omega]
            rfl
          · rw [honeH.out]
            show w8.ownsRow w.heap.size _ 1 (.slice b' ((xs.drop 8).take v).length d') ((xs.drop 8).take v).length _
            rw [hbl]
            exact ho8
        | false =>
          have hSV : ¬ S = V := of_decide_eq_false hD
          have honeH := Lib.hid (hneH.out hSV)
          clear hI7 hI8 hD
          have hf := pFail_any 9 hR7
          rw [show badOf 0 9 = 9 by rfl] at hf
          have hB0 := S7
          clear hR7 S7
          go_wp2_with fail
          refine hf.mono ?_
          rintro q wf ⟨rfl, hRf, mf⟩
          have hB := hB0.trans (mf.below hF1 hB0.size)
          have hR := hRf
          clear hf mf hRf hB0
          have he := pErr_any hR
          go_wp2_with fail
          refine he.mono ?_
          rintro q w9 ⟨rfl, b9⟩
          have hB9 := hB.trans (b9.mono hB.size)
          clear he b9 hB hR
          go_wp2
          go_ret3
          exact ⟨none, 0, by rw [honeH.out]; rfl, by rw [honeH.out]; exact World.ownsRow_nil _ _ _ _, hB9⟩
end Go.Proofs.YtinmmhbiomcdoaaGreatDoor
