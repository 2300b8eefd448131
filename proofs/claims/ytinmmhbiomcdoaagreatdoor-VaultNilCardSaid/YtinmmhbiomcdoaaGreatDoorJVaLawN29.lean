/-
  Texts of stages that were proved on their own, joined: SlMem, SlTell, SlPutP, SlLay, SlPuts, SlOpens, SlOwn. Each begins with its own words.
-/
import Derived.Test.YtinmmhbiomcdoaaGreatDoorJVaLawN16
import Derived.Test.YtinmmhbiomcdoaaGreatDoorJVaLawN17
import Derived.Test.YtinmmhbiomcdoaaGreatDoorJVaLawN26
import Derived.Test.YtinmmhbiomcdoaaGreatDoorJVaLawN25
import Derived.Test.YtinmmhbiomcdoaaGreatDoorJVaLawN20
import Derived.Test.YtinmmhbiomcdoaaGreatDoorJVaLawN28
import Derived.Test.YtinmmhbiomcdoaaGreatDoorJVaLawN24
import Derived.Test.YtinmmhbiomcdoaaGreatDoorJVaLawN19
import Derived.Test.YtinmmhbiomcdoaaGreatDoorJVaLawN15

/-
  Slots in memory, over the landed disk: what the function that tells what a file has, unmade, later, other, File, Turn and Get come to. New memory alone is written. Conditions: slots that Open made, of a disk that New made; fewer than 2^42 steps; the files hold bytes.
-/
namespace Go.Proofs.YtinmmhbiomcdoaaGreatDoor
open Go.RowKit

def slF (fb : Nat) : Value := .func (.func 131) #[] #[.pointer (some ⟨fb, 0, none⟩)]
def slS (g fb : Nat) (a b now : Int) : List Value := [.pointer (some ⟨g, 0, none⟩), .int .i64 a, .int .i64 b, .int .i64 now, slF fb]
/-- Slots that Open made. -/
structure SlotAt (w : World) (so g fb : Nat) (a b now : Int) : Prop where
  s : Blk w so 166 (slS g fb a b now)
  f : Blk w fb 25 [.pointer (some ⟨g, 0, none⟩)]
theorem SlotAt.keep {w w' : World} {so g fb : Nat} {a b now : Int} (h : SlotAt w so g fb a b now) (hb : Below w.heap.size w w') : SlotAt w' so g fb a b now := ⟨h.s.keep hb h.s.lt, h.f.keep hb h.f.lt⟩
theorem SlotAt.same {w w' : World} {so g fb : Nat} {a b now : Int} (h : SlotAt w so g fb a b now) (h1 : w'.heap[so]? = w.heap[so]?) (h2 : w'.heap[fb]? = w.heap[fb]?) : SlotAt w' so g fb a b now := ⟨h1.trans h.s, h2.trans h.f⟩
section
variable {w : World} {so g fb : Nat} {a b now : Int}
theorem SlotAt.c0 (h : SlotAt w so g fb a b now) : w.cell? ⟨so, 0, none⟩ = some (.pointer (some ⟨g, 0, none⟩)) := h.s.cell 0
theorem SlotAt.c1 (h : SlotAt w so g fb a b now) : w.cell? ⟨so, 1, none⟩ = some (.int .i64 a) := h.s.cell 1
theorem SlotAt.c2 (h : SlotAt w so g fb a b now) : w.cell? ⟨so, 2, none⟩ = some (.int .i64 b) := h.s.cell 2
theorem SlotAt.c3 (h : SlotAt w so g fb a b now) : w.cell? ⟨so, 3, none⟩ = some (.int .i64 now) := h.s.cell 3
theorem SlotAt.c4 (h : SlotAt w so g fb a b now) : w.cell? ⟨so, 4, none⟩ = some (.func (.func 131) #[] #[.pointer (some ⟨fb, 0, none⟩)]) := h.s.cell 4
theorem SlotAt.cf (h : SlotAt w so g fb a b now) : w.cell? ⟨fb, 0, none⟩ = some (.pointer (some ⟨g, 0, none⟩)) := h.f.cell 0
end
theorem eqFunc21 (b : Nat) (w : World) : Sem.run Tryz.prog (binOp BinOp.eql 164 (.func (.func 131) #[] #[.pointer (some ⟨b, 0, none⟩)]) .nilFunc) w = .ok (.bool false) w := by kernel_rfl

theorem rd8_few {BD : List Int} (h : BD.length < 8) : rdNum BD 0 0 8 = (0, 2, 0) := by
  have e : rdStep BD.length 0 0 8 = (0, 2, 0) := by
    unfold rdStep
    rw [if_neg (by decide), if_neg (by decide), if_pos (by omega)]
  unfold rdNum rdBytes
  rw [if_neg (by decide), e]
  rfl
theorem rd8_fit {BD : List Int} (h : 8 ≤ BD.length) : rdNum BD 0 0 8 = (8, 0, be (BD.take 8)) := by
  have e : rdStep BD.length 0 0 8 = (8, 0, 8) := by
    unfold rdStep
    rw [if_neg (by decide), if_neg (by decide), if_neg (by omega)]
    rfl
  unfold rdNum rdBytes
  rw [if_neg (by decide), e]
  rfl
theorem rd_rest {BD : List Int} (h : 8 ≤ BD.length) {M : Nat} (hM : BD.length - 8 = M) : rdStep BD.length 8 0 (M : Int) = (8 + M, 0, M) ∧ rdBytes BD 8 0 (M : Int) = BD.drop 8 := by
  have e : rdStep BD.length 8 0 (M : Int) = (8 + M, 0, M) := by
    unfold rdStep
    rw [if_neg (by decide), if_neg (by omega), if_neg (by omega)]
    rfl
  refine ⟨e, ?_⟩
  unfold rdBytes
  rw [e]
  show (BD.drop 8).take M = BD.drop 8
  exact List.take_of_length_le (by rw [List.length_drop]; omega)

set_option maxRecDepth 100000 in
set_option maxHeartbeats 4000000 in
theorem slHas_any {L : Nat → Nat} {P : Nat → Prop} {w : World} {g fb : Nat} {D : DkV} {T : Nat} {z : Int} (hf : w.cell? ⟨fb, 0, none⟩ = some (.pointer (some ⟨g, 0, none⟩))) (h : DkIs L P w g D) (hO : D.Ok T) (hD : D.By) (hz : z = -1 ∨ (0 ≤ z ∧ z < 3)) (hG : Glob11 w) {t : Int} {x : List Int} (ht : hasF D z = (t, x)) :
    Calls Tryz.prog 131 #[.int .i64 z, .pointer (some ⟨fb, 0, none⟩)] w fun q w' => ∃ a n c, q = .returned (.tuple #[.int .u64 t, .slice a n c]) ∧ w'.ownsRow w.heap.size 5 1 (.slice a n c) n (x.map (Value.int .u8)) ∧ x.length = n ∧ Below w.heap.size w w' := by
  obtain ⟨X, hX⟩ : ∃ X, readR D z = X := ⟨_, rfl⟩
  obtain ⟨N, hN⟩ : ∃ N, X.length = N := ⟨_, rfl⟩
  have hby : ∀ y ∈ X, isByte y := by rw [← hX]; exact read_by hD z
  have hle : N ≤ 65536 := by rw [← hN, ← hX]; exact read_len hO z
  have hob := oneF_by hby
  have hol := one_len X
  obtain ⟨BD, hBD⟩ : ∃ y, (oneF X).1 = y := ⟨_, rfl⟩
  obtain ⟨SZ, hSZ⟩ : ∃ y, (oneF X).2.1 = y := ⟨_, rfl⟩
  obtain ⟨E, hE⟩ : ∃ y, (oneF X).2.2 = y := ⟨_, rfl⟩
  rw [hBD] at hob hol
  have hcs := has_of ht (by rw [hX]; exact hBD) hob
  have hR := y_readn h hO hz hX hN
  obtain ⟨K, hK⟩ : ∃ K, BD.length = K := ⟨_, rfl⟩
  have cO := Lib.hid (fun W' (q : Below w.heap.size w W') (a : Option Addr) (e : Nat) (I : Ints .u8 W' a N e X) => (fOne_any a N e X W' (hG.keep q (Nat.le_refl _)) I hby (by omega)).mono fun q w2 hq => oneEnd_is (bd := BD) (sz := SZ) (e := E) hq hBD hSZ hE)
  rw [hK] at cO hol
  have KH := Lib.hid hK
  have obH := Lib.hid hob
  have csH := Lib.hid hcs
  clear h hO hD hz hG ht hX hN hBD hSZ hE hby hle hcs hob hK
  go_enter Tryz.func131, Tryz.ntmps131
  go_wp2_with fail
  refine hR.mono ?_
  rintro q w1 ⟨a1, c1, rfl, I1, b1⟩
  have cO1 := cO.out w1 b1 a1 c1 I1
  clear hR cO I1 hf
  go_wp2_with fail
  refine cO1.mono ?_
  rintro q w2 ⟨a2, c2, rfl, ho, b2⟩
  have B2 := b1.trans (b2.mono b1.size)
  have I2 := own_ints' ho
  have hN2 := pNew_any a2 K c2 BD w2 I2 obH.out (by omega)
  clear cO1 ho b1 b2
  go_wp2_with fail
  refine hN2.mono ?_
  rintro q w3 ⟨r, F, rfl, R3, hF3, b3⟩
  have B3 := B2.trans (b3.mono B2.size)
  have hF3 : ∀ b, F b → w.heap.size ≤ b := fun b hb => Nat.le_trans B2.size (hF3 b hb)
  have hN3 := pNum_any 8 R3
  clear hN2 I2 R3 b3 B2
  have B3H := Lib.hid B3
  have F3H := Lib.hid hF3
  clear B3 hF3
  rcases csH.out with ⟨h8, rfl, rfl⟩ | ⟨h8, hb0, rfl, rfl⟩ | ⟨h8, hb0, et, ex⟩
  · rw [rd8_few h8] at hN3
    clear csH h8
    go_wp2_with fail
    refine hN3.mono ?_
    rintro q w4 ⟨rfl, _, m4⟩
    have B4 := B3H.out.trans (m4.below F3H.out B3H.out.size)
    clear hN3 m4
    go_wp2
    go_ret2
    exact ⟨none, 0, 0, rfl, World.ownsRow_nil _ _ _ _, rfl, B4⟩
  · rw [rd8_fit h8, hb0] at hN3
    clear csH h8 hb0
    go_wp2_with fail
    refine hN3.mono ?_
    rintro q w4 ⟨rfl, _, m4⟩
    have B4 := B3H.out.trans (m4.below F3H.out B3H.out.size)
    clear hN3 m4
    go_wp2
    go_ret2
    exact ⟨none, 0, 0, rfl, World.ownsRow_nil _ _ _ _, rfl, B4⟩
  · rw [rd8_fit h8] at hN3
    obtain ⟨M, hM⟩ : ∃ M, BD.length - 8 = M := ⟨_, rfl⟩
    obtain ⟨rs, rb⟩ := rd_rest h8 hM
    have hdl : (BD.drop 8).length = M := by rw [List.length_drop]; exact hM
    have hML : (BD.length : Int) - (8 : Nat) = (M : Int) := by omega
    rw [← et] at hN3 hb0
    rw [← ex] at rb hdl
    have ht0 : ¬ t = 0 := by omega
    have rsH := Lib.hid rs
    have rbH := Lib.hid rb
    have hMLH := Lib.hid hML
    have hdlH := Lib.hid hdl
    clear csH h8 hb0 rs rb hM hML hdl et ex
    go_wp2_with fail
    refine hN3.mono ?_
    rintro q w4 ⟨rfl, R4, m4⟩
    have B4 := B3H.out.trans (m4.below F3H.out B3H.out.size)
    have hL4 := pLeft_any R4
    rw [hMLH.out] at hL4
    have R4H := Lib.hid R4
    clear hN3 m4 R4
    go_wp2_with fail
    refine hL4.mono ?_
    rintro q w5 ⟨rfl, k5, rfl⟩
    have q5 : Below w4.heap.size w4 (w4.drewN k5) := below_drewN (Below.refl _ _) k5
    have B5 := B4.trans (q5.mono B4.size)
    have R5 := R4H.out.keep (fun b hb => q5.block b (R4H.out.lt b hb)) q5.size
    have hB5 := pBytes_any (M : Int) R5
    rw [rsH.out, rbH.out] at hB5
    dsimp only at hB5
    obtain ⟨W5, hW5⟩ : ∃ W, w4.drewN k5 = W := ⟨_, rfl⟩
    rw [hW5] at hB5 B5
    rw [hW5]
    clear hL4 R5 q5 B4 R4H hW5
    go_wp2_with fail
    refine hB5.mono ?_
    rintro q w6 ⟨a6, c6, rfl, o6, _, _, m6⟩
    have B6 := B5.trans (m6.below F3H.out B5.size)
    clear hB5 m6
    go_wp2
    go_ret2
    exact ⟨_, _, _, rfl, own_weak o6 B5.size, hdlH.out, B6⟩

set_option maxRecDepth 100000 in
set_option maxHeartbeats 1000000 in
theorem slUnmade_any {w : World} {so g fb : Nat} {a b now : Int} (h : SlotAt w so g fb a b now) :
    Calls Tryz.prog 90 #[.pointer (some ⟨so, 0, none⟩)] w fun q w' => q = .returned (.bool false) ∧ w = w' := by
  have c4 := h.c4
  have heq := eqFunc21 fb
  clear h
  go_enter Tryz.func90, Tryz.ntmps90
  go_wp2
  go_ret
  exact ⟨rfl, rfl⟩

set_option maxRecDepth 100000 in
set_option maxHeartbeats 1000000 in
theorem slOther_any {w : World} {so g fb : Nat} {a b now : Int} (h : SlotAt w so g fb a b now) {z : Int} (hz : (if now = a then b else a) = z) :
    Calls Tryz.prog 92 #[.pointer (some ⟨so, 0, none⟩)] w fun q w' => q = .returned (.int .i64 z) ∧ Below w.heap.size w w' := by
  have b4 : Below w.heap.size w w.drew := (Below.refl _ _).drew
  have R1 := Lib.hid (fun w' (q : Below w.heap.size w w') => (h.keep q).c1)
  have R2 := Lib.hid (fun w' (q : Below w.heap.size w w') => (h.keep q).c2)
  have R3 := Lib.hid (fun w' (q : Below w.heap.size w w') => (h.keep q).c3)
  have c1 := R1.out _ b4
  have c2 := R2.out _ b4
  clear h
  by_cases hn : now = a
  · rw [if_pos hn] at hz
    subst hz
    subst hn
    have hnn : (now == now) = true := beq_self_eq_true now
    go_enter Tryz.func92, Tryz.ntmps92
    go_wp2_with fail
    refine region_seqS (fun w' => Below w.heap.size w w') (by kernel_rfl) b4 ?_
    simp only [pairs, Nat.reduceAdd]
    repeat (first
      | (refine SeqS.take (v := ?_) (by first | assumption | trivial) (by kernel_rfl) (by decide +kernel) (by decide +kernel) (Or.inl ⟨by rfl, ?_⟩) ?_
         rotate_left
         focus
           intro w' hb'
           go_simp
           with_reducible rfl
         simp only [Act.put, List.setIfInBounds_toArray, List.set_cons_zero, List.set_cons_succ])
      | (refine SeqS.take (v := ?_) (by first | assumption | trivial) (by kernel_rfl) (by decide +kernel) (by decide +kernel) (Or.inl ⟨by rfl, ?_⟩) ?_
         rotate_left
         focus
           intro w' hb'
           have d0 := R1.out w' hb'
           go_simp
           with_reducible rfl
         simp only [Act.put, List.setIfInBounds_toArray, List.set_cons_zero, List.set_cons_succ])
      | (refine SeqS.take (v := ?_) (by first | assumption | trivial) (by kernel_rfl) (by decide +kernel) (by decide +kernel) (Or.inl ⟨by rfl, ?_⟩) ?_
         rotate_left
         focus
           intro w' hb'
           have d0 := R3.out w' hb'
           go_simp
           with_reducible rfl
         simp only [Act.put, List.setIfInBounds_toArray, List.set_cons_zero, List.set_cons_succ])
      | (refine SeqS.take (v := undef) (by first | assumption | trivial) (by kernel_rfl) (by decide +kernel) (by decide +kernel) (Or.inr ⟨by rfl, rfl⟩) ?_
         simp only [Act.put, List.setIfInBounds_toArray, List.set_cons_zero, List.set_cons_succ])
      | (refine SeqS.take1 (v := ?_) (by first | assumption | trivial) (by kernel_rfl) (by decide +kernel) (by decide +kernel) (Or.inl ⟨by rfl, ?_⟩) ?_
         rotate_left
         focus
           intro w' hb'
           go_simp
           with_reducible rfl
         simp only [Act.put, List.setIfInBounds_toArray, List.set_cons_zero, List.set_cons_succ])
      | (refine SeqS.take1 (v := ?_) (by first | assumption | trivial) (by kernel_rfl) (by decide +kernel) (by decide +kernel) (Or.inl ⟨by rfl, ?_⟩) ?_
         rotate_left
         focus
           intro w' hb'
           have d0 := R1.out w' hb'
           go_simp
           with_reducible rfl
         simp only [Act.put, List.setIfInBounds_toArray, List.set_cons_zero, List.set_cons_succ])
      | (refine SeqS.take1 (v := ?_) (by first | assumption | trivial) (by kernel_rfl) (by decide +kernel) (by decide +kernel) (Or.inl ⟨by rfl, ?_⟩) ?_
         rotate_left
         focus
           intro w' hb'
           have d0 := R3.out w' hb'
           go_simp
           with_reducible rfl
         simp only [Act.put, List.setIfInBounds_toArray, List.set_cons_zero, List.set_cons_succ])
      | (refine SeqS.take1 (v := undef) (by first | assumption | trivial) (by kernel_rfl) (by decide +kernel) (by decide +kernel) (Or.inr ⟨by rfl, rfl⟩) ?_
         simp only [Act.put, List.setIfInBounds_toArray, List.set_cons_zero, List.set_cons_succ])
      | (refine SeqS.take2 (v := ?_) (by first | assumption | trivial) (by kernel_rfl) (by decide +kernel) (by decide +kernel) (Or.inl ⟨by rfl, ?_⟩) ?_
         rotate_left
         focus
           intro w' hb'
           go_simp
           with_reducible rfl
         simp only [Act.put, List.setIfInBounds_toArray, List.set_cons_zero, List.set_cons_succ])
      | (refine SeqS.take2 (v := ?_) (by first | assumption | trivial) (by kernel_rfl) (by decide +kernel) (by decide +kernel) (Or.inl ⟨by rfl, ?_⟩) ?_
         rotate_left
         focus
           intro w' hb'
           have d0 := R1.out w' hb'
           go_simp
           with_reducible rfl
         simp only [Act.put, List.setIfInBounds_toArray, List.set_cons_zero, List.set_cons_succ])
      | (refine SeqS.take2 (v := ?_) (by first | assumption | trivial) (by kernel_rfl) (by decide +kernel) (by decide +kernel) (Or.inl ⟨by rfl, ?_⟩) ?_
         rotate_left
         focus
           intro w' hb'
           have d0 := R3.out w' hb'
           go_simp
           with_reducible rfl
         simp only [Act.put, List.setIfInBounds_toArray, List.set_cons_zero, List.set_cons_succ])
      | (refine SeqS.take2 (v := undef) (by first | assumption | trivial) (by kernel_rfl) (by decide +kernel) (by decide +kernel) (Or.inr ⟨by rfl, rfl⟩) ?_
         simp only [Act.put, List.setIfInBounds_toArray, List.set_cons_zero, List.set_cons_succ]))
    refine SeqS.done (by decide +kernel) ?_
    go_wp2
    go_ret
    exact ⟨rfl, b4⟩
  · rw [if_neg hn] at hz
    subst hz
    have hnn : (now == a) = false := beq_eq_false_iff_ne.2 hn
    go_enter Tryz.func92, Tryz.ntmps92
    go_wp2_with fail
    refine region_seqS (fun w' => Below w.heap.size w w') (by kernel_rfl) b4 ?_
    simp only [pairs, Nat.reduceAdd]
    repeat (first
      | (refine SeqS.take (v := ?_) (by first | assumption | trivial) (by kernel_rfl) (by decide +kernel) (by decide +kernel) (Or.inl ⟨by rfl, ?_⟩) ?_
         rotate_left
         focus
           intro w' hb'
           go_simp
           with_reducible rfl
         simp only [Act.put, List.setIfInBounds_toArray, List.set_cons_zero, List.set_cons_succ])
      | (refine SeqS.take (v := ?_) (by first | assumption | trivial) (by kernel_rfl) (by decide +kernel) (by decide +kernel) (Or.inl ⟨by rfl, ?_⟩) ?_
         rotate_left
         focus
           intro w' hb'
           have d0 := R1.out w' hb'
           go_simp
           with_reducible rfl
         simp only [Act.put, List.setIfInBounds_toArray, List.set_cons_zero, List.set_cons_succ])
      | (refine SeqS.take (v := ?_) (by first | assumption | trivial) (by kernel_rfl) (by decide +kernel) (by decide +kernel) (Or.inl ⟨by rfl, ?_⟩) ?_
         rotate_left
         focus
           intro w' hb'
           have d0 := R3.out w' hb'
           go_simp
           with_reducible rfl
         simp only [Act.put, List.setIfInBounds_toArray, List.set_cons_zero, List.set_cons_succ])
      | (refine SeqS.take (v := undef) (by first | assumption | trivial) (by kernel_rfl) (by decide +kernel) (by decide +kernel) (Or.inr ⟨by rfl, rfl⟩) ?_
         simp only [Act.put, List.setIfInBounds_toArray, List.set_cons_zero, List.set_cons_succ])
      | (refine SeqS.take1 (v := ?_) (by first | assumption | trivial) (by kernel_rfl) (by decide +kernel) (by decide +kernel) (Or.inl ⟨by rfl, ?_⟩) ?_
         rotate_left
         focus
           intro w' hb'
           go_simp
           with_reducible rfl
         simp only [Act.put, List.setIfInBounds_toArray, List.set_cons_zero, List.set_cons_succ])
      | (refine SeqS.take1 (v := ?_) (by first | assumption | trivial) (by kernel_rfl) (by decide +kernel) (by decide +kernel) (Or.inl ⟨by rfl, ?_⟩) ?_
         rotate_left
         focus
           intro w' hb'
           have d0 := R1.out w' hb'
           go_simp
           with_reducible rfl
         simp only [Act.put, List.setIfInBounds_toArray, List.set_cons_zero, List.set_cons_succ])
      | (refine SeqS.take1 (v := ?_) (by first | assumption | trivial) (by kernel_rfl) (by decide +kernel) (by decide +kernel) (Or.inl ⟨by rfl, ?_⟩) ?_
         rotate_left
         focus
           intro w' hb'
           have d0 := R3.out w' hb'
           go_simp
           with_reducible rfl
         simp only [Act.put, List.setIfInBounds_toArray, List.set_cons_zero, List.set_cons_succ])
      | (refine SeqS.take1 (v := undef) (by first | assumption | trivial) (by kernel_rfl) (by decide +kernel) (by decide +kernel) (Or.inr ⟨by rfl, rfl⟩) ?_
         simp only [Act.put, List.setIfInBounds_toArray, List.set_cons_zero, List.set_cons_succ])
      | (refine SeqS.take2 (v := ?_) (by first | assumption | trivial) (by kernel_rfl) (by decide +kernel) (by decide +kernel) (Or.inl ⟨by rfl, ?_⟩) ?_
         rotate_left
         focus
           intro w' hb'
           go_simp
           with_reducible rfl
         simp only [Act.put, List.setIfInBounds_toArray, List.set_cons_zero, List.set_cons_succ])
      | (refine SeqS.take2 (v := ?_) (by first | assumption | trivial) (by kernel_rfl) (by decide +kernel) (by decide +kernel) (Or.inl ⟨by rfl, ?_⟩) ?_
         rotate_left
         focus
           intro w' hb'
           have d0 := R1.out w' hb'
           go_simp
           with_reducible rfl
         simp only [Act.put, List.setIfInBounds_toArray, List.set_cons_zero, List.set_cons_succ])
      | (refine SeqS.take2 (v := ?_) (by first | assumption | trivial) (by kernel_rfl) (by decide +kernel) (by decide +kernel) (Or.inl ⟨by rfl, ?_⟩) ?_
         rotate_left
         focus
           intro w' hb'
           have d0 := R3.out w' hb'
           go_simp
           with_reducible rfl
         simp only [Act.put, List.setIfInBounds_toArray, List.set_cons_zero, List.set_cons_succ])
      | (refine SeqS.take2 (v := undef) (by first | assumption | trivial) (by kernel_rfl) (by decide +kernel) (by decide +kernel) (Or.inr ⟨by rfl, rfl⟩) ?_
         simp only [Act.put, List.setIfInBounds_toArray, List.set_cons_zero, List.set_cons_succ]))
    refine SeqS.done (by decide +kernel) ?_
    go_wp2
    go_ret
    exact ⟨rfl, b4⟩
end Go.Proofs.YtinmmhbiomcdoaaGreatDoor

/-
  What slots' Turn and Get, and later, come to. New memory alone is written. Conditions: slots that Open made, of a disk that New made; fewer than 2^42 steps; the files hold bytes.
-/
namespace Go.Proofs.YtinmmhbiomcdoaaGreatDoor
open Go.RowKit

set_option maxRecDepth 100000 in
set_option maxHeartbeats 2000000 in
theorem slTurn_any {L : Nat → Nat} {P : Nat → Prop} {w : World} {so g fb : Nat} {a b now : Int} {D : DkV} {T : Nat} (hs : SlotAt w so g fb a b now) (h : DkIs L P w g D) (hO : D.Ok T) (hD : D.By) (hz : now = -1 ∨ (0 ≤ now ∧ now < 3)) (hG : Glob11 w) {t : Int} {x : List Int} (ht : hasF D now = (t, x)) :
    Calls Tryz.prog 91 #[.pointer (some ⟨so, 0, none⟩)] w fun q w' => q = .returned (.int .u64 t) ∧ Below w.heap.size w w' := by
  have hu := slUnmade_any hs
  have b4 : Below w.heap.size w w.drew := (Below.refl _ _).drew
  have R3 := Lib.hid (fun w' (q : Below w.heap.size w w') => (hs.keep q).c3)
  have R4 := Lib.hid (fun w' (q : Below w.heap.size w w') => (hs.keep q).c4)
  have CH := Lib.hid (fun w' (q : Below w.heap.size w w') => slHas_any (hs.keep q).cf (h.keep q) hO hD hz (hG.keep q (Nat.le_refl _)) ht)
  clear hs h hO hD hz hG ht
  go_enter Tryz.func91, Tryz.ntmps91
  go_wp2_with fail
  refine hu.mono ?_
  rintro q w1 ⟨rfl, rfl⟩
  clear hu
  go_wp2_with fail
  refine region_seqS (fun w' => Below w.heap.size w w') (by kernel_rfl) b4 ?_
  simp only [pairs, Nat.reduceAdd]
  repeat (first
    | (refine SeqS.take (v := ?_) (by first | assumption | trivial) (by kernel_rfl) (by decide +kernel) (by decide +kernel) (Or.inl ⟨by rfl, ?_⟩) ?_
       rotate_left
       focus
         intro w' hb'
         go_simp
         with_reducible rfl
       simp only [Act.put, List.setIfInBounds_toArray, List.set_cons_zero, List.set_cons_succ])
    | (refine SeqS.take (v := ?_) (by first | assumption | trivial) (by kernel_rfl) (by decide +kernel) (by decide +kernel) (Or.inl ⟨by rfl, ?_⟩) ?_
       rotate_left
       focus
         intro w' hb'
         have d0 := R3.out w' hb'
         go_simp
         with_reducible rfl
       simp only [Act.put, List.setIfInBounds_toArray, List.set_cons_zero, List.set_cons_succ])
    | (refine SeqS.take (v := ?_) (by first | assumption | trivial) (by kernel_rfl) (by decide +kernel) (by decide +kernel) (Or.inl ⟨by rfl, ?_⟩) ?_
       rotate_left
       focus
         intro w' hb'
         have d0 := R4.out w' hb'
         go_simp
         with_reducible rfl
       simp only [Act.put, List.setIfInBounds_toArray, List.set_cons_zero, List.set_cons_succ])
    | (refine SeqS.take (v := undef) (by first | assumption | trivial) (by kernel_rfl) (by decide +kernel) (by decide +kernel) (Or.inr ⟨by rfl, rfl⟩) ?_
       simp only [Act.put, List.setIfInBounds_toArray, List.set_cons_zero, List.set_cons_succ]))
  refine SeqS.alone (by decide +kernel) (by rfl) (fun K hK => ?_)
  go_simp
  go_at_call 131
  refine (CH.out _ b4).mono ?_
  rintro e w1 ⟨a1, n1, c1, rfl, _, _, b1⟩
  go_simp
  have S1 : Below w.heap.size w w1 := b4.trans (b1.mono b4.size)
  refine hK _ _ S1 ?_
  clear hK K
  repeat (first
    | (refine SeqS.take (v := ?_) (by first | assumption | trivial) (by kernel_rfl) (by decide +kernel) (by decide +kernel) (Or.inl ⟨by rfl, ?_⟩) ?_
       rotate_left
       focus
         intro w' hb'
         go_simp
         with_reducible rfl
       simp only [Act.put, List.setIfInBounds_toArray, List.set_cons_zero, List.set_cons_succ])
    | (refine SeqS.take (v := undef) (by first | assumption | trivial) (by kernel_rfl) (by decide +kernel) (by decide +kernel) (Or.inr ⟨by rfl, rfl⟩) ?_
       simp only [Act.put, List.setIfInBounds_toArray, List.set_cons_zero, List.set_cons_succ]))
  refine SeqS.done (by decide +kernel) ?_
  go_wp2
  go_ret
  exact ⟨rfl, S1⟩

set_option maxRecDepth 100000 in
set_option maxHeartbeats 2000000 in
theorem slGet_any {L : Nat → Nat} {P : Nat → Prop} {w : World} {so g fb : Nat} {a b now : Int} {D : DkV} {T : Nat} (hs : SlotAt w so g fb a b now) (h : DkIs L P w g D) (hO : D.Ok T) (hD : D.By) (hz : now = -1 ∨ (0 ≤ now ∧ now < 3)) (hG : Glob11 w) {t : Int} {x : List Int} (ht : hasF D now = (t, x)) {m : Bool} (hm : decide (0 < t) = m) :
    Calls Tryz.prog 65 #[.pointer (some ⟨so, 0, none⟩)] w fun q w' => ∃ a n c, q = .returned (.tuple #[.slice a n c, .bool m]) ∧ w'.ownsRow w.heap.size 5 1 (.slice a n c) n (x.map (Value.int .u8)) ∧ x.length = n ∧ Below w.heap.size w w' := by
  have hu := slUnmade_any hs
  have b4 : Below w.heap.size w w.drew := (Below.refl _ _).drew
  have R3 := Lib.hid (fun w' (q : Below w.heap.size w w') => (hs.keep q).c3)
  have R4 := Lib.hid (fun w' (q : Below w.heap.size w w') => (hs.keep q).c4)
  have CH := Lib.hid (fun w' (q : Below w.heap.size w w') => slHas_any (hs.keep q).cf (h.keep q) hO hD hz (hG.keep q (Nat.le_refl _)) ht)
  clear hs h hO hD hz hG ht
  go_enter Tryz.func65, Tryz.ntmps65
  go_wp2_with fail
  refine hu.mono ?_
  rintro q w1 ⟨rfl, rfl⟩
  clear hu
  go_wp2_with fail
  refine region_seqS (fun w' => Below w.heap.size w w') (by kernel_rfl) b4 ?_
  simp only [pairs, Nat.reduceAdd]
  repeat (first
    | (refine SeqS.take (v := ?_) (by first | assumption | trivial) (by kernel_rfl) (by decide +kernel) (by decide +kernel) (Or.inl ⟨by rfl, ?_⟩) ?_
       rotate_left
       focus
         intro w' hb'
         go_simp
         with_reducible rfl
       simp only [Act.put, List.setIfInBounds_toArray, List.set_cons_zero, List.set_cons_succ])
    | (refine SeqS.take (v := ?_) (by first | assumption | trivial) (by kernel_rfl) (by decide +kernel) (by decide +kernel) (Or.inl ⟨by rfl, ?_⟩) ?_
       rotate_left
       focus
         intro w' hb'
         have d0 := R3.out w' hb'
         go_simp
         with_reducible rfl
       simp only [Act.put, List.setIfInBounds_toArray, List.set_cons_zero, List.set_cons_succ])
    | (refine SeqS.take (v := ?_) (by first | assumption | trivial) (by kernel_rfl) (by decide +kernel) (by decide +kernel) (Or.inl ⟨by rfl, ?_⟩) ?_
       rotate_left
       focus
         intro w' hb'
         have d0 := R4.out w' hb'
         go_simp
         with_reducible rfl
       simp only [Act.put, List.setIfInBounds_toArray, List.set_cons_zero, List.set_cons_succ])
    | (refine SeqS.take (v := undef) (by first | assumption | trivial) (by kernel_rfl) (by decide +kernel) (by decide +kernel) (Or.inr ⟨by rfl, rfl⟩) ?_
       simp only [Act.put, List.setIfInBounds_toArray, List.set_cons_zero, List.set_cons_succ]))
  refine SeqS.alone (by decide +kernel) (by rfl) (fun K hK => ?_)
  go_simp
  go_at_call 131
  refine (CH.out _ b4).mono ?_
  rintro e w1 ⟨a1, n1, c1, rfl, o1, l1, b1⟩
  go_simp
  have S1 : Below w.heap.size w w1 := b4.trans (b1.mono b4.size)
  refine hK _ _ S1 ?_
  clear hK K
  have o2 := own_weak o1 b4.size
  have o2H := Lib.hid o2
  have l1H := Lib.hid l1
  clear o1 o2 l1
  repeat (first
    | (refine SeqS.take (v := ?_) (by first | assumption | trivial) (by kernel_rfl) (by decide +kernel) (by decide +kernel) (Or.inl ⟨by rfl, ?_⟩) ?_
       rotate_left
       focus
         intro w' hb'
         go_simp
         with_reducible rfl
       simp only [Act.put, List.setIfInBounds_toArray, List.set_cons_zero, List.set_cons_succ])
    | (refine SeqS.take (v := undef) (by first | assumption | trivial) (by kernel_rfl) (by decide +kernel) (by decide +kernel) (Or.inr ⟨by rfl, rfl⟩) ?_
       simp only [Act.put, List.setIfInBounds_toArray, List.set_cons_zero, List.set_cons_succ]))
  refine SeqS.done (by decide +kernel) ?_
  go_wp2
  go_ret2
  exact ⟨_, _, _, rfl, o2H.out, l1H.out, S1⟩

set_option maxRecDepth 100000 in
set_option maxHeartbeats 4000000 in
theorem slLater_any {L : Nat → Nat} {P : Nat → Prop} {w : World} {so g fb : Nat} {a b now : Int} {D : DkV} {T : Nat} (hs : SlotAt w so g fb a b now) (h : DkIs L P w g D) (hO : D.Ok T) (hD : D.By) (ha : 0 ≤ a ∧ a < 3) (hb : 0 ≤ b ∧ b < 3) (hG : Glob11 w) {z : Int} (hz : (opS D a b).now = z) :
    Calls Tryz.prog 112 #[.pointer (some ⟨so, 0, none⟩)] w fun q w' => q = .returned (.int .i64 z) ∧ Below w.heap.size w w' := by
  have b4 : Below w.heap.size w w.drew := (Below.refl _ _).drew
  have ta := has_turn hD ha.1
  have tb := has_turn hD hb.1
  have zn := op_now (D := D) (a := a) (b := b) ta.symm tb.symm
  rw [hz] at zn
  obtain ⟨t, x, hx⟩ : ∃ t x, hasF D a = (t, x) := ⟨_, _, rfl⟩
  obtain ⟨u, y, hy⟩ : ∃ t x, hasF D b = (t, x) := ⟨_, _, rfl⟩
  rw [hx, hy] at zn
  dsimp only at zn
  have R1 := Lib.hid (fun w' (q : Below w.heap.size w w') => (hs.keep q).c1)
  have R2 := Lib.hid (fun w' (q : Below w.heap.size w w') => (hs.keep q).c2)
  have R4 := Lib.hid (fun w' (q : Below w.heap.size w w') => (hs.keep q).c4)
  have CA := Lib.hid (fun w' (q : Below w.heap.size w w') => slHas_any (hs.keep q).cf (h.keep q) hO hD (.inr ha) (hG.keep q (Nat.le_refl _)) hx)
  have CB := Lib.hid (fun w' (q : Below w.heap.size w w') => slHas_any (hs.keep q).cf (h.keep q) hO hD (.inr hb) (hG.keep q (Nat.le_refl _)) hy)
  have znH := Lib.hid zn
  clear hs h hO hD ha hb hG hz ta tb hx hy zn
  go_enter Tryz.func112, Tryz.ntmps112
  go_wp2_with fail
  refine region_seqS (fun w' => Below w.heap.size w w') (by kernel_rfl) b4 ?_
  simp only [pairs, Nat.reduceAdd]
  repeat (first
    | (refine SeqS.take (v := ?_) (by first | assumption | trivial) (by kernel_rfl) (by decide +kernel) (by decide +kernel) (Or.inl ⟨by rfl, ?_⟩) ?_
       rotate_left
       focus
         intro w' hb'
         go_simp
         with_reducible rfl
       simp only [Act.put, List.setIfInBounds_toArray, List.set_cons_zero, List.set_cons_succ])
    | (refine SeqS.take (v := ?_) (by first | assumption | trivial) (by kernel_rfl) (by decide +kernel) (by decide +kernel) (Or.inl ⟨by rfl, ?_⟩) ?_
       rotate_left
       focus
         intro w' hb'
         have d0 := R1.out w' hb'
         go_simp
         with_reducible rfl
       simp only [Act.put, List.setIfInBounds_toArray, List.set_cons_zero, List.set_cons_succ])
    | (refine SeqS.take (v := ?_) (by first | assumption | trivial) (by kernel_rfl) (by decide +kernel) (by decide +kernel) (Or.inl ⟨by rfl, ?_⟩) ?_
       rotate_left
       focus
         intro w' hb'
         have d0 := R4.out w' hb'
         go_simp
         with_reducible rfl
       simp only [Act.put, List.setIfInBounds_toArray, List.set_cons_zero, List.set_cons_succ])
    | (refine SeqS.take (v := undef) (by first | assumption | trivial) (by kernel_rfl) (by decide +kernel) (by decide +kernel) (Or.inr ⟨by rfl, rfl⟩) ?_
       simp only [Act.put, List.setIfInBounds_toArray, List.set_cons_zero, List.set_cons_succ]))
  refine SeqS.alone (by decide +kernel) (by rfl) (fun K hK => ?_)
  go_simp
  go_at_call 131
  refine (CA.out _ b4).mono ?_
  rintro e w1 ⟨a1, n1, c1, rfl, _, _, b1⟩
  go_simp
  have S1 : Below w.heap.size w w1 := b4.trans (b1.mono b4.size)
  refine hK _ _ S1 ?_
  clear hK K
  repeat (first
    | (refine SeqS.take (v := ?_) (by first | assumption | trivial) (by kernel_rfl) (by decide +kernel) (by decide +kernel) (Or.inl ⟨by rfl, ?_⟩) ?_
       rotate_left
       focus
         intro w' hb'
         go_simp
         with_reducible rfl
       simp only [Act.put, List.setIfInBounds_toArray, List.set_cons_zero, List.set_cons_succ])
    | (refine SeqS.take (v := undef) (by first | assumption | trivial) (by kernel_rfl) (by decide +kernel) (by decide +kernel) (Or.inr ⟨by rfl, rfl⟩) ?_
       simp only [Act.put, List.setIfInBounds_toArray, List.set_cons_zero, List.set_cons_succ]))
  refine SeqS.done (by decide +kernel) ?_
  have S2 : Below w.heap.size w w1.drew := S1.drew
  clear b1 S1 CA
  go_wp2_with fail
  refine region_seqS (fun w' => Below w.heap.size w w') (by kernel_rfl) S2 ?_
  simp only [pairs, Nat.reduceAdd]
  repeat (first
    | (refine SeqS.take (v := ?_) (by first | assumption | trivial) (by kernel_rfl) (by decide +kernel) (by decide +kernel) (Or.inl ⟨by rfl, ?_⟩) ?_
       rotate_left
       focus
         intro w' hb'
         go_simp
         with_reducible rfl
       simp only [Act.put, List.setIfInBounds_toArray, List.set_cons_zero, List.set_cons_succ])
    | (refine SeqS.take (v := ?_) (by first | assumption | trivial) (by kernel_rfl) (by decide +kernel) (by decide +kernel) (Or.inl ⟨by rfl, ?_⟩) ?_
       rotate_left
       focus
         intro w' hb'
         have d0 := R2.out w' hb'
         go_simp
         with_reducible rfl
       simp only [Act.put, List.setIfInBounds_toArray, List.set_cons_zero, List.set_cons_succ])
    | (refine SeqS.take (v := ?_) (by first | assumption | trivial) (by kernel_rfl) (by decide +kernel) (by decide +kernel) (Or.inl ⟨by rfl, ?_⟩) ?_
       rotate_left
       focus
         intro w' hb'
         have d0 := R4.out w' hb'
         go_simp
         with_reducible rfl
       simp only [Act.put, List.setIfInBounds_toArray, List.set_cons_zero, List.set_cons_succ])
    | (refine SeqS.take (v := undef) (by first | assumption | trivial) (by kernel_rfl) (by decide +kernel) (by decide +kernel) (Or.inr ⟨by rfl, rfl⟩) ?_
       simp only [Act.put, List.setIfInBounds_toArray, List.set_cons_zero, List.set_cons_succ]))
  refine SeqS.alone (by decide +kernel) (by rfl) (fun K hK => ?_)
  go_simp
  go_at_call 131
  refine (CB.out _ S2).mono ?_
  rintro e w3 ⟨a3, n3, c3, rfl, _, _, b3⟩
  go_simp
  have S3 : Below w.heap.size w w3 := S2.trans (b3.mono S2.size)
  refine hK _ _ S3 ?_
  clear hK K
  repeat (first
    | (refine SeqS.take (v := ?_) (by first | assumption | trivial) (by kernel_rfl) (by decide +kernel) (by decide +kernel) (Or.inl ⟨by rfl, ?_⟩) ?_
       rotate_left
       focus
         intro w' hb'
         go_simp
         with_reducible rfl
       simp only [Act.put, List.setIfInBounds_toArray, List.set_cons_zero, List.set_cons_succ])
    | (refine SeqS.take (v := undef) (by first | assumption | trivial) (by kernel_rfl) (by decide +kernel) (by decide +kernel) (Or.inr ⟨by rfl, rfl⟩) ?_
       simp only [Act.put, List.setIfInBounds_toArray, List.set_cons_zero, List.set_cons_succ]))
  refine SeqS.done (by decide +kernel) ?_
  have k1 := R1.out _ S3
  have k2 := R2.out _ S3
  clear b3 CB R1 R2 R4
  by_cases h1 : t < u
  · have hz := znH.out
    rw [if_pos h1] at hz
    subst hz
    clear znH
    go_wp2
    go_ret
    exact ⟨rfl, S3⟩
  · by_cases h2 : 0 < t
    · have hz := znH.out
      rw [if_neg h1, if_pos h2] at hz
      subst hz
      clear znH
      go_wp2
      go_ret
      exact ⟨rfl, S3⟩
    · have hz := znH.out
      rw [if_neg h1, if_neg h2] at hz
      subst hz
      clear znH
      go_wp2
      go_ret
      exact ⟨rfl, S3⟩
end Go.Proofs.YtinmmhbiomcdoaaGreatDoor

/-
  What slots' empty and lay come to. The disk's own blocks are written, and new memory. Conditions: slots that Open made, of a disk that New made; fewer than 2^42 steps; at most 2^47 bytes.
-/
namespace Go.Proofs.YtinmmhbiomcdoaaGreatDoor
open Go.RowKit

set_option maxRecDepth 100000 in
set_option maxHeartbeats 4000000 in
theorem slEmpty_any {L : Nat → Nat} {P : Nat → Prop} {w : World} {so g fb : Nat} {a b now : Int} {D : DkV} {T : Nat} {z : Int} (hs : SlotAt w so g fb a b now) (h0 : L so = 0) (h : DkIs L P w g D) (hO : D.Ok T) (hT : T < 4398046511103) (hz : 0 ≤ z ∧ z < 3) :
    Calls Tryz.prog 93 #[.pointer (some ⟨so, 0, none⟩), .int .i64 z] w fun q w' => q = .returned (.int .i64 (clS D z).2) ∧ DkTo L P w g w' (clS D z).1 := by
  obtain ⟨N, hN⟩ : ∃ N, (heldR D z).length = N := ⟨_, rfl⟩
  obtain ⟨U, hU⟩ : ∃ U, (D.f z.toNat).units = U := ⟨_, rfl⟩
  unfold clS
  rw [hN, hU]
  have CZ := y_size h hO hz hN
  have CU := Lib.hid (fun w' (q : Below w.heap.size w w') => y_units (h.keep q) hO hz hU)
  have CC := Lib.hid (fun w' (q : Below w.heap.size w w') => dCut_any (file := z) (k := 0) (h.keep q) hO (by omega))
  have hok := ctD_ok hO z 0
  unfold keD
  obtain ⟨D1, e1, he⟩ : ∃ D1 e1, ctD D z 0 = (D1, e1) := ⟨_, _, rfl⟩
  rw [he] at CC hok ⊢
  dsimp only at CC hok ⊢
  have CS := Lib.hid (fun (L1 : Nat → Nat) (P1 : Nat → Prop) (w1 : World) (k : DkIs L1 P1 w1 g D1) => dSync_any (file := z) k hok (by omega))
  have kS := Lib.hid (fun w' (q : Below w.heap.size w w') => DkTo.stay h q)
  have vH := Lib.hid (fun w' (q : Below w.heap.size w w') => (Went.of_below q : Went L P w L P w'))
  have c0 := hs.c0
  have R0 := Lib.hid (fun w' (q : Below w.heap.size w w') => (hs.keep q).c0)
  have BS := Lib.hid (fun w' (q : Below w.heap.size w w') => (hs.keep q).s)
  have h0H := Lib.hid h0
  clear hs h hO hT hz hN hU he hok h0
  by_cases hn : N = 0
  case neg =>
    have hni : ¬ (N : Int) = 0 := by omega
    have hb : ((N : Int) == 0) = false := beq_eq_false_iff_ne.2 hni
    rw [if_pos (.inl (Nat.pos_of_ne_zero hn))]
    clear hn CU kS
    by_cases h1 : e1 = 0
    · subst h1
      rw [if_pos rfl]
      obtain ⟨D2, e2, he2⟩ : ∃ D2 e2, syD D1 z = (D2, e2) := ⟨_, _, rfl⟩
      rw [he2] at CS ⊢
      dsimp only at CS ⊢
      clear he2
      go_enter Tryz.func93, Tryz.ntmps93
      go_wp2_with fail
      refine CZ.mono ?_
      rintro q w1 ⟨rfl, b1⟩
      have k0 := R0.out w1 b1
      have s1 := BS.out w1 b1
      have CC1 := CC.out w1 b1
      have v1 := vH.out w1 b1
      clear CZ CC c0 R0 BS vH
      go_wp2_with fail
      refine CC1.mono ?_
      rintro q w2 ⟨rfl, L2, P2, k2, v2⟩
      have s2 : Blk w2 so 166 (slS g fb a b now) := (v2.at s1.lt h0H.out).trans s1
      have k2' : w2.cell? ⟨so, 0, none⟩ = some (.pointer (some ⟨g, 0, none⟩)) := s2.cell 0
      have CS2 := CS.out L2 P2 w2 k2
      clear CC1 CS s1 s2 k2
      go_wp2_with fail
      refine CS2.mono ?_
      rintro q w3 ⟨rfl, L3, P3, k3, v3⟩
      clear CS2
      go_wp2
      go_ret
      exact ⟨rfl, L3, P3, k3, (v1.trans v2).trans v3⟩
    · rw [if_neg h1]
      dsimp only
      go_enter Tryz.func93, Tryz.ntmps93
      go_wp2_with fail
      refine CZ.mono ?_
      rintro q w1 ⟨rfl, b1⟩
      have k0 := R0.out w1 b1
      have CC1 := CC.out w1 b1
      have v1 := vH.out w1 b1
      clear CZ CC c0 R0 BS vH CS
      go_wp2_with fail
      refine CC1.mono ?_
      rintro q w2 ⟨rfl, L2, P2, k2, v2⟩
      clear CC1
      go_wp2
      go_ret
      exact ⟨rfl, L2, P2, k2, v1.trans v2⟩
  case pos =>
    subst hn
    by_cases hu : U = 0
    · subst hu
      rw [if_neg (by decide)]
      dsimp only
      clear CC CS vH BS
      go_enter Tryz.func93, Tryz.ntmps93
      go_wp2_with fail
      refine CZ.mono ?_
      rintro q w1 ⟨rfl, b1⟩
      have k0 := R0.out w1 b1
      have CU1 := CU.out w1 b1
      clear CZ CU c0 R0
      go_wp2_with fail
      refine CU1.mono ?_
      rintro q w2 ⟨rfl, b2⟩
      have t2 := kS.out w2 (b1.trans (b2.mono b1.size))
      clear CU1
      go_wp2
      go_ret
      exact ⟨rfl, t2⟩
    · have hui : ¬ (U : Int) = 0 := by omega
      have hb : ((U : Int) == 0) = false := beq_eq_false_iff_ne.2 hui
      rw [if_pos (.inr (Nat.pos_of_ne_zero hu))]
      clear hu kS
      by_cases h1 : e1 = 0
      · subst h1
        rw [if_pos rfl]
        obtain ⟨D2, e2, he2⟩ : ∃ D2 e2, syD D1 z = (D2, e2) := ⟨_, _, rfl⟩
        rw [he2] at CS ⊢
        dsimp only at CS ⊢
        clear he2
        go_enter Tryz.func93, Tryz.ntmps93
        go_wp2_with fail
        refine CZ.mono ?_
        rintro q w0 ⟨rfl, b0⟩
        have k0 := R0.out w0 b0
        have CU0 := CU.out w0 b0
        clear CZ CU c0
        go_wp2_with fail
        refine CU0.mono ?_
        rintro q w1 ⟨rfl, b1⟩
        have b1 : Below w.heap.size w w1 := b0.trans (b1.mono b0.size)
        have k0 := R0.out w1 b1
        have s1 := BS.out w1 b1
        have CC1 := CC.out w1 b1
        have v1 := vH.out w1 b1
        clear CU0 CC R0 BS vH
        go_wp2_with fail
        refine CC1.mono ?_
        rintro q w2 ⟨rfl, L2, P2, k2, v2⟩
        have s2 : Blk w2 so 166 (slS g fb a b now) := (v2.at s1.lt h0H.out).trans s1
        have k2' : w2.cell? ⟨so, 0, none⟩ = some (.pointer (some ⟨g, 0, none⟩)) := s2.cell 0
        have CS2 := CS.out L2 P2 w2 k2
        clear CC1 CS s1 s2 k2
        go_wp2_with fail
        refine CS2.mono ?_
        rintro q w3 ⟨rfl, L3, P3, k3, v3⟩
        clear CS2
        go_wp2
        go_ret
        exact ⟨rfl, L3, P3, k3, (v1.trans v2).trans v3⟩
      · rw [if_neg h1]
        dsimp only
        go_enter Tryz.func93, Tryz.ntmps93
        go_wp2_with fail
        refine CZ.mono ?_
        rintro q w0 ⟨rfl, b0⟩
        have k0 := R0.out w0 b0
        have CU0 := CU.out w0 b0
        clear CZ CU c0
        go_wp2_with fail
        refine CU0.mono ?_
        rintro q w1 ⟨rfl, b1⟩
        have b1 : Below w.heap.size w w1 := b0.trans (b1.mono b0.size)
        have k0 := R0.out w1 b1
        have CC1 := CC.out w1 b1
        have v1 := vH.out w1 b1
        clear CU0 CC R0 BS vH CS
        go_wp2_with fail
        refine CC1.mono ?_
        rintro q w2 ⟨rfl, L2, P2, k2, v2⟩
        clear CC1
        go_wp2
        go_ret
        exact ⟨rfl, L2, P2, k2, v1.trans v2⟩
end Go.Proofs.YtinmmhbiomcdoaaGreatDoor

/-
  What slots' lay comes to. The disk's own blocks are written, and new memory. Conditions: slots that Open made, of a disk that New made; fewer than 2^42 steps; at most 65528 bytes.
-/
namespace Go.Proofs.YtinmmhbiomcdoaaGreatDoor
open Go.RowKit

theorem lay_num21 {n : Nat} (h : n ≤ 65528) : ∃ R : Int, (8 + (n : Int)) = R ∧ IntKind.i64.wrap R = R ∧ wrap64 R = R ∧ R = 8 + n := by
  refine ⟨8 + n, rfl, ?_, by unfold wrap64; omega, rfl⟩
  have h1 : (8 + (n : Int)) % 18446744073709551616 = 8 + n := by omega
  simp [IntKind.wrap, IntKind.signed, IntKind.bits, h1]
  omega

set_option maxRecDepth 100000 in
set_option maxHeartbeats 4000000 in
theorem slLay_any {L : Nat → Nat} {P : Nat → Prop} {w : World} {so g fb : Nat} {a b now : Int} {D : DkV} {T : Nat} {z t : Int} {p : Option Addr} {n c : Nat} {xs B : List Int} (hs : SlotAt w so g fb a b now) (h0 : L so = 0) (h : DkIs L P w g D) (hO : D.Ok T) (hT : T < 4398046511103) (hG : Glob11 w) (ht : 0 ≤ t ∧ t < 18446744073709551616) (hI : Ints .u8 w p n c xs) (hb : ∀ x ∈ xs, isByte x) (hn : n ≤ 65528) (hB : beL t 8 ++ xs = B) :
    Calls Tryz.prog 94 #[.pointer (some ⟨so, 0, none⟩), .int .i64 z, .int .u64 t, .slice p n c] w fun q w' => q = .returned (.int .i64 (prD D z B).2) ∧ DkTo L P w g w' (prD D z B).1 := by
  have hBl : B.length = 8 + n := by rw [← hB, List.length_append, beL_len, hI.len]
  have hBb : ∀ y ∈ B, isByte y := by
    intro y hy
    rw [← hB] at hy
    rcases List.mem_append.1 hy with h1 | h1
    · exact beL_range _ _ y h1
    · exact hb y h1
  have hno : ¬ (B.length < 1 ∨ 65536 < B.length) := by omega
  unfold prD
  rw [if_neg hno]
  have he : encF B = (frB B, 0) := by unfold encF; rw [if_neg hno]
  have cE := Lib.hid (fun (W : World) (q : Below w.heap.size w W) (p' : Option Addr) (c' : Nat) (I : Ints .u8 W p' (8 + n) c' B) => fEncode_any p' (8 + n) c' B W (hG.keep q (Nat.le_refl _)) I hBb (by omega))
  rw [he] at cE
  have hok := apD_ok hO z (frB B)
  obtain ⟨M, hM⟩ : ∃ M, frB B = M := ⟨_, rfl⟩
  rw [hM] at cE hok ⊢
  obtain ⟨N, hN⟩ : ∃ N, M.length = N := ⟨_, rfl⟩
  dsimp only at cE
  rw [hN] at cE
  have cA := Lib.hid (fun w' (q : Below w.heap.size w w') (a : Option Addr) (c : Nat) (I : Ints .u8 w' a N c M) => dAppend_any (file := z) (h.keep q) hO (by omega) I)
  obtain ⟨D1, e1, he1⟩ : ∃ D1 e1, apD D z M = (D1, e1) := ⟨_, _, rfl⟩
  rw [he1] at cA hok ⊢
  dsimp only at cA hok ⊢
  have cS := Lib.hid (fun (L1 : Nat → Nat) (P1 : Nat → Prop) (w1 : World) (k : DkIs L1 P1 w1 g D1) => dSync_any (file := z) k hok (by omega))
  have vH := Lib.hid (fun w' (q : Below w.heap.size w w') => (Went.of_below q : Went L P w L P w'))
  have R0 := Lib.hid (fun w' (q : Below w.heap.size w w') => (hs.keep q).c0)
  have BS := Lib.hid (fun w' (q : Below w.heap.size w w') => (hs.keep q).s)
  have h0H := Lib.hid h0
  have IH := Lib.hid (fun w' (q : Below w.heap.size w w') => hI.keep q)
  have IN := Lib.hid (show ∀ x, p = some x → 0 < n → x.block < w.heap.size from hI.isIn.2)
  obtain ⟨R, x0, x1, x2, hR⟩ := lay_num21 hn
  have hRH := Lib.hid hR
  have hnH := Lib.hid hn
  have hBH := Lib.hid hB
  have hBlH := Lib.hid hBl
  have htH := Lib.hid ht
  clear he hno hs h0 h hO hT hG hI hb hn hB hM hN hok he1 hBl hBb ht hR
  by_cases h1 : e1 = 0
  · subst h1
    rw [if_pos rfl]
    obtain ⟨D2, e2, he2⟩ : ∃ D2 e2, syD D1 z = (D2, e2) := ⟨_, _, rfl⟩
    rw [he2] at cS ⊢
    dsimp only at cS ⊢
    clear he2
    go_enter Tryz.func94, Tryz.ntmps94
    go_wp2_with fail
    refine (wNew_any R w (by have := hRH.out; have := hnH.out; omega)).mono ?_
    rintro q w2 ⟨we, F, rfl, hw2, hF2, b2⟩
    rw [show max R 0 = R by have := hRH.out; omega] at hw2
    have hD := We.start hw2
    clear hw2
    go_wp2_with fail
    refine (we_num hD t 8 ⟨by decide, by decide, by rw [show (256 : Int) ^ (8 : Int).toNat = 18446744073709551616 by decide]; exact htH.out.2⟩ htH.out.1 (by have := hRH.out; show ((0 : Nat) : Int) + 8 ≤ R; omega) (by decide)).mono ?_
    rintro q w3 ⟨rfl, hD3⟩
    rw [List.nil_append, show (8 : Int).toNat = 8 from rfl] at hD3
    clear hD
    go_wp2_with fail
    refine (we_bytes hD3 p n c xs (IH.out w2 b2) (fun x hx hx0 hf => absurd (IN.out x hx hx0) (Nat.not_lt.2 (hF2 _ hf))) (by rw [beL_len]; have := hRH.out; omega) (by rw [beL_len]; have := hnH.out; omega)).mono ?_
    rintro q w4 ⟨rfl, hD4⟩
    rw [hBH.out] at hD4
    have S4 := b2.trans (hD4.below hF2 b2.size)
    have hd := hD4.done (by rw [hBlH.out]; have := hnH.out; omega)
    rw [if_pos rfl, hBlH.out] at hd
    clear hD3 hD4
    go_wp2_with fail
    refine hd.mono ?_
    rintro q w5 ⟨p5, c5, rfl, o5, b5⟩
    have S5 := S4.trans (b5.mono S4.size)
    have hE := cE.out w5 S5 p5 c5 (own_ints' o5)
    clear hd cE o5 b5 S4 b2 hF2
    go_wp2_with fail
    refine hE.mono ?_
    rintro q w8 ⟨p8, c8, rfl, o8, b8⟩
    have S8 := S5.trans (b8.mono S5.size)
    have k8 := R0.out w8 S8
    have s8 := BS.out w8 S8
    have cA8 := cA.out w8 S8 p8 c8 (own_ints' o8)
    have v8 := vH.out w8 S8
    clear hE cA o8 b8 S5 R0 BS vH
    go_wp2_with fail
    refine cA8.mono ?_
    rintro q w9 ⟨rfl, L1, P1, k1, v1⟩
    have s9 : Blk w9 so 166 (slS g fb a b now) := (v1.at s8.lt h0H.out).trans s8
    have k9 : w9.cell? ⟨so, 0, none⟩ = some (.pointer (some ⟨g, 0, none⟩)) := s9.cell 0
    have cS9 := cS.out L1 P1 w9 k1
    clear cA8 cS k8 s8 s9 k1
    go_wp2_with fail
    refine cS9.mono ?_
    rintro q w10 ⟨rfl, L2, P2, k2, v2⟩
    clear cS9
    go_wp2
    go_ret
    exact ⟨rfl, L2, P2, k2, (v8.trans v1).trans v2⟩
  · rw [if_neg h1]
    dsimp only
    go_enter Tryz.func94, Tryz.ntmps94
    go_wp2_with fail
    refine (wNew_any R w (by have := hRH.out; have := hnH.out; omega)).mono ?_
    rintro q w2 ⟨we, F, rfl, hw2, hF2, b2⟩
    rw [show max R 0 = R by have := hRH.out; omega] at hw2
    have hD := We.start hw2
    clear hw2
    go_wp2_with fail
    refine (we_num hD t 8 ⟨by decide, by decide, by rw [show (256 : Int) ^ (8 : Int).toNat = 18446744073709551616 by decide]; exact htH.out.2⟩ htH.out.1 (by have := hRH.out; show ((0 : Nat) : Int) + 8 ≤ R; omega) (by decide)).mono ?_
    rintro q w3 ⟨rfl, hD3⟩
    rw [List.nil_append, show (8 : Int).toNat = 8 from rfl] at hD3
    clear hD
    go_wp2_with fail
    refine (we_bytes hD3 p n c xs (IH.out w2 b2) (fun x hx hx0 hf => absurd (IN.out x hx hx0) (Nat.not_lt.2 (hF2 _ hf))) (by rw [beL_len]; have := hRH.out; omega) (by rw [beL_len]; have := hnH.out; omega)).mono ?_
    rintro q w4 ⟨rfl, hD4⟩
    rw [hBH.out] at hD4
    have S4 := b2.trans (hD4.below hF2 b2.size)
    have hd := hD4.done (by rw [hBlH.out]; have := hnH.out; omega)
    rw [if_pos rfl, hBlH.out] at hd
    clear hD3 hD4
    go_wp2_with fail
    refine hd.mono ?_
    rintro q w5 ⟨p5, c5, rfl, o5, b5⟩
    have S5 := S4.trans (b5.mono S4.size)
    have hE := cE.out w5 S5 p5 c5 (own_ints' o5)
    clear hd cE o5 b5 S4 b2 hF2
    go_wp2_with fail
    refine hE.mono ?_
    rintro q w8 ⟨p8, c8, rfl, o8, b8⟩
    have S8 := S5.trans (b8.mono S5.size)
    have k8 := R0.out w8 S8
    have s8 := BS.out w8 S8
    have cA8 := cA.out w8 S8 p8 c8 (own_ints' o8)
    have v8 := vH.out w8 S8
    clear hE cA o8 b8 S5 R0 BS vH
    go_wp2_with fail
    clear s8 cS
    refine cA8.mono ?_
    rintro q w9 ⟨rfl, L1, P1, k1, v1⟩
    clear cA8 k8
    go_wp2
    go_ret
    exact ⟨rfl, L1, P1, k1, v8.trans v1⟩
end Go.Proofs.YtinmmhbiomcdoaaGreatDoor

/-
  What slots' Put comes to. The disk's own blocks are written, the slots' own, and new memory. Conditions: slots that Open made, of a disk that New made; fewer than 2^42 steps; the files hold bytes; the snapshot's block is not the disk's.
-/
namespace Go.Proofs.YtinmmhbiomcdoaaGreatDoor
open Go.RowKit

/-- Behind Put: the disk's blocks were written, then the slots' own, or not. -/
def PtTo (L : Nat → Nat) (P : Nat → Prop) (w : World) (so g : Nat) (w' : World) (D' : DkV) : Prop := ∃ w1 L' P', DkIs L' P' w1 g D' ∧ Went L P w L' P' w1 ∧ (w' = w1 ∨ w1.grownBy w' (some so))
theorem PtTo.of {L : Nat → Nat} {P : Nat → Prop} {w : World} {so g : Nat} {w' : World} {D' : DkV} (h : DkTo L P w g w' D') : PtTo L P w so g w' D' := by
  obtain ⟨L', P', h1, h2⟩ := h
  exact ⟨w', L', P', h1, h2, .inl rfl⟩
theorem went_slot {L L' : Nat → Nat} {P P' : Nat → Prop} {w w' : World} {so g fb : Nat} {a b now : Int} (h : Went L P w L' P' w') (hs : SlotAt w so g fb a b now) (h0 : L so = 0) (h1 : L fb = 0) : SlotAt w' so g fb a b now := hs.same (h.at hs.s.lt h0) (h.at hs.f.lt h1)
theorem went_ints {L L' : Nat → Nat} {P P' : Nat → Prop} {w w' : World} {k : IntKind} {a : Option Addr} {n c : Nat} {xs : List Int} (h : Went L P w L' P' w') (hI : Ints k w a n c xs) (h0 : ∀ x, a = some x → 0 < n → L x.block = 0) : Ints k w' a n c xs := by
  refine ⟨hI.1, hI.2.1, ?_⟩
  rcases hI.2.2 with hn | ⟨b, off, ha, hc⟩
  · exact .inl hn
  by_cases hn : n = 0
  · exact .inl hn
  refine .inr ⟨b, off, ha, fun i hi => ?_⟩
  have h1 := hc i hi
  have he : w'.heap[b]? = w.heap[b]? := h.at (World.block_lt_of_cell? w _ h1) (h0 _ ha (Nat.pos_of_ne_zero hn))
  unfold World.cell? at h1 ⊢
  rw [he]
  exact h1
theorem glob_went {L L' : Nat → Nat} {P P' : Nat → Prop} {w w' : World} (hG : Glob11 w) (h : Went L P w L' P' w') (h0 : L 3 = 0) : Glob11 w' := by
  intro i hi
  have h1 := hG i hi
  have he : w'.heap[3]? = w.heap[3]? := h.at hG.lt h0
  unfold World.cell? at h1 ⊢
  rw [he]
  exact h1
theorem max_u64 {t : Int} (ht : t + 1 ≠ 18446744073709551616) : ¬ t = 18446744073709551615 := by omega
theorem up_u64 {t : Int} (ht : 0 ≤ t ∧ t < 18446744073709551616) (h : t + 1 ≠ 18446744073709551616) : (t + 1) % 18446744073709551616 = t + 1 ∧ IntKind.u64.wrap (t + 1) = t + 1 := u64_id ⟨by omega, by omega⟩

set_option maxRecDepth 100000 in
set_option maxHeartbeats 4000000 in
theorem slPut_any {L : Nat → Nat} {P : Nat → Prop} {w : World} {so g fb : Nat} {D : DkV} {T : Nat} {s : SlV} {p : Option Addr} {n c : Nat} {xs : List Int} (hs : SlotAt w so g fb s.a s.b s.now) (h0 : L so = 0) (h1 : L fb = 0) (hne : so ≠ fb) (h : DkIs L P w g D) (hO : D.Ok T) (hT : T < 4398046511102) (hD : D.By) (hok : s.Ok) (hc : Cur D s) (hG : Glob11 w) (hgl : L 3 = 0) (hI : Ints .u8 w p n c xs) (hp : ∀ x, p = some x → 0 < n → L x.block = 0) (hb : ∀ x ∈ xs, isByte x) :
    Calls Tryz.prog 45 #[.pointer (some ⟨so, 0, none⟩), .slice p n c] w fun q w' => q = .returned (.int .i64 (ptS D s xs).2.2) ∧ PtTo L P w so g w' (ptS D s xs).1 ∧ SlotAt w' so g fb s.a s.b (ptS D s xs).2.1.now := by
  have hl := hI.len
  have hu := slUnmade_any hs
  have cT := slTurn_any hs h hO hD hok.now3 hG (has_cur hok hc)
  have hz : (if s.now = s.a then s.b else s.a) = s.to := rfl
  have hto := hok.to
  have ht := hok.t
  have kS := Lib.hid (fun w' (q : Below w.heap.size w w') => DkTo.stay h q)
  have sK := Lib.hid (fun w' (q : Below w.heap.size w w') => hs.keep q)
  unfold ptS
  by_cases hA : 65528 < xs.length
  · rw [if_pos (.inl hA)]
    dsimp only
    have hni : (65528 : Int) < (n : Int) := by omega
    clear hs h0 h1 h hO hT hD hok hc hG hgl hI hp hb hA hz hto ht hl
    go_enter Tryz.func45, Tryz.ntmps45
    go_wp2_with fail
    refine hu.mono ?_
    rintro q w1 ⟨rfl, rfl⟩
    clear hu
    go_wp2_with fail
    refine cT.mono ?_
    rintro q w2 ⟨rfl, b2⟩
    have t2 := kS.out w2 b2
    have s2 := sK.out w2 b2
    clear cT
    go_wp2
    go_ret
    exact ⟨rfl, PtTo.of t2, s2⟩
  by_cases hB : s.turn + 1 = 18446744073709551616
  · rw [if_pos (.inr hB)]
    dsimp only
    have hni : ¬ (65528 : Int) < (n : Int) := by omega
    have htt : s.turn = 18446744073709551615 := by omega
    rw [htt] at cT
    clear hs h0 h1 h hO hT hD hok hc hG hgl hI hp hb hA hz hto ht hl hB htt
    go_enter Tryz.func45, Tryz.ntmps45
    go_wp2_with fail
    refine hu.mono ?_
    rintro q w1 ⟨rfl, rfl⟩
    clear hu
    go_wp2_with fail
    refine cT.mono ?_
    rintro q w2 ⟨rfl, b2⟩
    have t2 := kS.out w2 b2
    have s2 := sK.out w2 b2
    clear cT
    go_wp2
    go_ret
    exact ⟨rfl, PtTo.of t2, s2⟩
  rw [if_neg (by omega)]
  have hni : ¬ (65528 : Int) < (n : Int) := by omega
  have htm := max_u64 hB
  have hnd : decide ((65528 : Int) < (n : Int)) = false := decide_eq_false hni
  have htb : (s.turn == 18446744073709551615) = false := beq_eq_false_iff_ne.2 htm
  obtain ⟨htu, htw⟩ := up_u64 ht hB
  have cO := Lib.hid (fun w' (q : Below w.heap.size w w') => slOther_any (hs.keep q) hz)
  have cE := Lib.hid (fun w' (q : Below w.heap.size w w') => slEmpty_any (z := s.to) (hs.keep q) h0 (h.keep q) hO (by omega) hto)
  have okE := clS_ok hO s.to
  have IH := Lib.hid (fun w' (q : Below w.heap.size w w') => hI.keep q)
  have vH := Lib.hid (fun w' (q : Below w.heap.size w w') => (Went.of_below q : Went L P w L P w'))
  have gH := Lib.hid (fun w' (q : Below w.heap.size w w') => hG.keep q (Nat.le_refl _))
  have tB : 0 ≤ s.turn + 1 ∧ s.turn + 1 < 18446744073709551616 := by omega
  obtain ⟨D1, e1, he⟩ : ∃ D1 e1, clS D s.to = (D1, e1) := ⟨_, _, rfl⟩
  rw [he] at cE okE ⊢
  dsimp only at cE okE ⊢
  have hnx : beL (s.turn + 1) 8 ++ xs = s.next xs := rfl
  obtain ⟨D2, e2, he2⟩ : ∃ D2 e2, prD D1 s.to (s.next xs) = (D2, e2) := ⟨_, _, rfl⟩
  have cL := Lib.hid (fun (L1 : Nat → Nat) (P1 : Nat → Prop) (w1 : World) (k : DkIs L1 P1 w1 g D1) (S1 : SlotAt w1 so g fb s.a s.b s.now) (l1 : L1 so = 0) (G1 : Glob11 w1) (I1 : Ints .u8 w1 p n c xs) => slLay_any (z := s.to) (t := s.turn + 1) S1 l1 k okE (by omega) G1 tB I1 hb (by omega) hnx)
  rw [he2] at cL ⊢
  dsimp only at cL ⊢
  have hpH := Lib.hid hp
  have h0H := Lib.hid h0
  have h1H := Lib.hid h1
  have hneH := Lib.hid hne
  have glH := Lib.hid hgl
  clear hs h0 h1 h hO hT hD hok hc hG hgl hI hp hb hA hz hto ht hl hB okE he he2 tB hnx hne
  obtain ⟨z, hzz⟩ : ∃ z, s.to = z := ⟨_, rfl⟩
  rw [hzz] at cO cE cL
  have hzH := Lib.hid hzz
  clear hzz
  by_cases h1 : e1 = 0
  case neg =>
    rw [if_pos h1]
    dsimp only
    go_enter Tryz.func45, Tryz.ntmps45
    go_wp2_with fail
    refine hu.mono ?_
    rintro q w1 ⟨rfl, rfl⟩
    clear hu
    go_wp2_with fail
    refine cT.mono ?_
    rintro q w2 ⟨rfl, b2⟩
    have cO2 := cO.out w2 b2
    clear cT cO
    go_wp2_with fail
    refine cO2.mono ?_
    rintro q w4 ⟨rfl, b3⟩
    have b4 := b2.trans (b3.mono b2.size)
    have s4 := sK.out w4 b4
    have v4 := vH.out w4 b4
    have I4 := IH.out w4 b4
    have cE4 := cE.out w4 b4
    clear cO2 cE b2 b3
    go_wp2_with fail
    refine cE4.mono ?_
    rintro q w5 ⟨rfl, L5, P5, k5, v5⟩
    clear cE4
    have S5 := went_slot v5 s4 h0H.out h1H.out
    have v6 := v4.trans v5
    clear s4 v4 v5
    go_wp2
    go_ret
    exact ⟨rfl, ⟨w5, L5, P5, k5, v6, .inl rfl⟩, S5⟩
  case pos =>
    subst h1
    rw [if_neg (by decide)]
    by_cases h2 : e2 = 0
    case neg =>
      rw [if_pos h2]
      dsimp only
      go_enter Tryz.func45, Tryz.ntmps45
      go_wp2_with fail
      refine hu.mono ?_
      rintro q w1 ⟨rfl, rfl⟩
      clear hu
      go_wp2_with fail
      refine cT.mono ?_
      rintro q w2 ⟨rfl, b2⟩
      have cO2 := cO.out w2 b2
      clear cT cO
      go_wp2_with fail
      refine cO2.mono ?_
      rintro q w4 ⟨rfl, b3⟩
      have b4 := b2.trans (b3.mono b2.size)
      have s4 := sK.out w4 b4
      have v4 := vH.out w4 b4
      have I4 := IH.out w4 b4
      have cE4 := cE.out w4 b4
      clear cO2 cE b2 b3
      go_wp2_with fail
      refine cE4.mono ?_
      rintro q w5 ⟨rfl, L5, P5, k5, v5⟩
      clear cE4
      have s5 := went_slot v5 s4 h0H.out h1H.out
      have l5 := (v5.l so s4.s.lt).trans h0H.out
      have m5 := (v5.l fb s4.f.lt).trans h1H.out
      have v6 := v4.trans v5
      have I5 := went_ints v5 I4 hpH.out
      have h5 := glob_went (gH.out w4 b4) v5 glH.out
      have cL5 := cL.out L5 P5 w5 k5 s5 l5 h5 I5
      clear s4 v4 v5 cL I4 I5 k5 gH b4
      go_wp2_with fail
      refine cL5.mono ?_
      rintro q w7 ⟨rfl, L7, P7, k7, v7⟩
      have S7 := went_slot v7 s5 l5 m5
      have v8 := v6.trans v7
      clear cL5 v7 v6 l5 m5
      clear s5 h5
      go_wp2
      go_ret
      exact ⟨rfl, ⟨w7, L7, P7, k7, v8, .inl rfl⟩, S7⟩
    case pos =>
      subst h2
      rw [if_neg (by decide)]
      dsimp only
      go_enter Tryz.func45, Tryz.ntmps45
      go_wp2_with fail
      refine hu.mono ?_
      rintro q w1 ⟨rfl, rfl⟩
      clear hu
      go_wp2_with fail
      refine cT.mono ?_
      rintro q w2 ⟨rfl, b2⟩
      have cO2 := cO.out w2 b2
      clear cT cO
      go_wp2_with fail
      refine cO2.mono ?_
      rintro q w4 ⟨rfl, b3⟩
      have b4 := b2.trans (b3.mono b2.size)
      have s4 := sK.out w4 b4
      have v4 := vH.out w4 b4
      have I4 := IH.out w4 b4
      have cE4 := cE.out w4 b4
      clear cO2 cE b2 b3
      go_wp2_with fail
      refine cE4.mono ?_
      rintro q w5 ⟨rfl, L5, P5, k5, v5⟩
      clear cE4
      have s5 := went_slot v5 s4 h0H.out h1H.out
      have l5 := (v5.l so s4.s.lt).trans h0H.out
      have m5 := (v5.l fb s4.f.lt).trans h1H.out
      have v6 := v4.trans v5
      have I5 := went_ints v5 I4 hpH.out
      have h5 := glob_went (gH.out w4 b4) v5 glH.out
      have cL5 := cL.out L5 P5 w5 k5 s5 l5 h5 I5
      clear s4 v4 v5 cL I4 I5 k5 gH b4
      go_wp2_with fail
      refine cL5.mono ?_
      rintro q w7 ⟨rfl, L7, P7, k7, v7⟩
      have S7 := went_slot v7 s5 l5 m5
      have v8 := v6.trans v7
      clear cL5 v7 v6 l5 m5
      clear s5 h5
      have f7 := S7.s.frozen 3
      have k7c := S7.c3
      have B8 : Blk (w7.setCell ⟨so, 3, none⟩ (.int .i64 z)) so 166 (slS g fb s.a s.b z) := S7.s.set 3 (.int .i64 z)
      have F8 : Blk (w7.setCell ⟨so, 3, none⟩ (.int .i64 z)) fb 25 [.pointer (some ⟨g, 0, none⟩)] := S7.f.far (p := ⟨so, 3, none⟩) (fun e => hneH.out e.symm) (.int .i64 z)
      have g8 := grown_setCell w7 so 3 (.int .i64 z)
      clear S7
      go_wp2
      go_ret
      exact ⟨rfl, ⟨w7, L7, P7, k7, v8, .inr g8⟩, ⟨by rw [hzH.out]; exact B8, F8⟩⟩
end Go.Proofs.YtinmmhbiomcdoaaGreatDoor

/-
  What slots' Open comes to. New memory alone is written. Conditions: a disk that New made (or one that no call made); fewer than 2^42 steps; the files hold bytes.
-/
namespace Go.Proofs.YtinmmhbiomcdoaaGreatDoor
open Go.RowKit

theorem built_slo (g fb : Nat) (a b : Int) : Tryz.prog.built 166 [(0, .pointer (some ⟨g, 0, none⟩)), (1, .int .i64 a), (2, .int .i64 b), (4, .func (.func 131) #[] #[.pointer (some ⟨fb, 0, none⟩)])] = some (slS g fb a b 0).toArray := by kernel_rfl

set_option maxRecDepth 100000 in
set_option maxHeartbeats 1000000 in
theorem slIsFile_any (w : World) (z : Int) {m : Bool} (hm : decide (0 ≤ z ∧ z < 3) = m) :
    Calls Tryz.prog 110 #[.int .i64 z] w fun q w' => q = .returned (.bool m) ∧ w = w' := by
  by_cases h0 : 0 ≤ z
  · by_cases h1 : z < 3
    · rw [decide_eq_true ⟨h0, h1⟩] at hm
      subst hm
      go_enter Tryz.func110, Tryz.ntmps110
      go_wp2
      go_ret
      exact ⟨rfl, rfl⟩
    · rw [decide_eq_false (fun h => h1 h.2)] at hm
      subst hm
      go_enter Tryz.func110, Tryz.ntmps110
      go_wp2
      go_ret
      exact ⟨rfl, rfl⟩
  · rw [decide_eq_false (fun h => h0 h.1)] at hm
    subst hm
    have h0' : z < 0 := by omega
    go_enter Tryz.func110, Tryz.ntmps110
    go_wp2
    go_ret
    exact ⟨rfl, rfl⟩

set_option maxRecDepth 100000 in
set_option maxHeartbeats 1000000 in
theorem slLook_any (w : World) (g : Nat) :
    Calls Tryz.prog 111 #[.pointer (some ⟨g, 0, none⟩)] w fun q w' => q = .returned (.func (.func 131) #[] #[.pointer (some ⟨w.heap.size, 0, none⟩)]) ∧ Blk w' w.heap.size 25 [.pointer (some ⟨g, 0, none⟩)] ∧ w'.heap.size = w.heap.size + 1 ∧ Below w.heap.size w w' := by
  have hmf : ∀ (fn : Fn) (first cap : Array Value) (w : World), (Instr.makeFunc fn first cap).run Tryz.prog w = .ok (.func fn first cap) w := fun _ _ _ _ => rfl
  have hb := below1 w (.cells #[.pointer (some ⟨g, 0, none⟩)] 25)
  have hk : Blk (w.alloc (.cells #[.pointer (some ⟨g, 0, none⟩)] 25)) w.heap.size 25 [.pointer (some ⟨g, 0, none⟩)] := Blk.new w 25 [.pointer (some ⟨g, 0, none⟩)]
  have hs := size1 w (.cells #[.pointer (some ⟨g, 0, none⟩)] 25)
  go_enter Tryz.func111, Tryz.ntmps111
  go_wp2
  go_ret
  exact ⟨rfl, hk, hs, hb⟩

set_option maxRecDepth 100000 in
set_option maxHeartbeats 4000000 in
theorem slOpen_any {L : Nat → Nat} {P : Nat → Prop} {w : World} {g : Nat} {D : DkV} {T : Nat} {a b : Int} (h : DkIs L P w g D) (hO : D.Ok T) (hD : D.By) (ha : 0 ≤ a ∧ a < 3) (hb : 0 ≤ b ∧ b < 3) (hab : a ≠ b) (hG : Glob11 w) (hd : D.down = false) {z : Int} (hz : (opS D a b).now = z) :
    Calls Tryz.prog 68 #[.pointer (some ⟨g, 0, none⟩), .int .i64 a, .int .i64 b] w fun q w' => ∃ so fb, q = .returned (.tuple #[.pointer (some ⟨so, 0, none⟩), .int .i64 0]) ∧ SlotAt w' so g fb a b z ∧ w.heap.size ≤ so ∧ w.heap.size ≤ fb ∧ so ≠ fb ∧ Below w.heap.size w w' := by
  have hr0 := hO.room
  obtain ⟨c0, _, c2⟩ := h.cells
  rw [hd] at c2
  have hC0 := dRoom_any c0 (by omega)
  have hC1 := dDown_any c0 (by omega) c2
  have hFa := slIsFile_any w a (decide_eq_true ha)
  have hFb := slIsFile_any w b (decide_eq_true hb)
  have hL := slLook_any w g
  have habb : (a == b) = false := beq_eq_false_iff_ne.2 hab
  have hr1 : ¬ D.room = 0 := by omega
  obtain ⟨r, hrr⟩ : ∃ r, D.room = r := ⟨_, rfl⟩
  rw [hrr] at hr1 hC0
  have CL := Lib.hid (fun w' (so fb : Nat) (q : Below w.heap.size w w') (S : SlotAt w' so g fb a b 0) => slLater_any S (h.keep q) hO hD ha hb (hG.keep q (Nat.le_refl _)) hz)
  clear h hO hD ha hb hab hG hd c0 c2 hr0 hrr hz
  go_enter Tryz.func68, Tryz.ntmps68
  go_wp2_with fail
  refine hC0.mono ?_
  rintro q w1 ⟨rfl, rfl⟩
  clear hC0
  go_wp2_with fail
  refine hFa.mono ?_
  rintro q w1 ⟨rfl, rfl⟩
  clear hFa
  go_wp2_with fail
  refine hFb.mono ?_
  rintro q w1 ⟨rfl, rfl⟩
  clear hFb
  go_wp2_with fail
  refine hC1.mono ?_
  rintro q w1 ⟨rfl, rfl⟩
  clear hC1
  go_wp2_with fail
  refine hL.mono ?_
  rintro q w1 ⟨rfl, f1, z1, b1⟩
  obtain ⟨fb, hfb⟩ : ∃ fb, w.heap.size = fb := ⟨_, rfl⟩
  rw [hfb] at f1 z1
  rw [hfb]
  have hbt := built_slo g fb a b
  have q2 := below1 w1 (.cells (slS g fb a b 0).toArray 166)
  have s2 : SlotAt (w1.alloc (.cells (slS g fb a b 0).toArray 166)) w1.heap.size g fb a b 0 := ⟨Blk.new w1 166 (slS g fb a b 0), f1.keep q2 f1.lt⟩
  have B2 := b1.trans (q2.mono b1.size)
  obtain ⟨C, hCC⟩ : ∃ C, slS g fb a b 0 = C := ⟨_, rfl⟩
  obtain ⟨V, hV⟩ : ∃ V, w1.alloc (.cells (slS g fb a b 0).toArray 166) = V := ⟨_, rfl⟩
  rw [hV] at s2 B2
  obtain ⟨so, hso⟩ : ∃ so, w1.heap.size = so := ⟨_, rfl⟩
  rw [hso] at s2 z1
  have hle := Lib.hid (show w.heap.size ≤ so ∧ w.heap.size ≤ fb ∧ so ≠ fb by omega)
  have c3 := CL.out V so fb B2 s2
  rw [hCC] at hbt hV
  have hVH := Lib.hid hV
  have hsoH := Lib.hid hso
  clear hL CL f1 z1 b1 q2 hfb hCC hV hso
  go_wp2_with (first
    | ((with_reducible refine build_row rfl 166 #[(0, .tmp 27), (1, .tmp 28), (2, .tmp 29), (4, .tmp 31)] rfl (cells := C.toArray) ?_ ?_); (refine Eq.trans (congrArg _ ?_) hbt; kernel_rfl))
    | ((with_reducible refine box_row rfl 166 (.tmp 32) rfl C rfl ?_); refine RowKit.Hid.out ?_))
  refine Lib.hid ?_
  rw [hVH.out, hsoH.out]
  clear hbt hVH hsoH
  go_wp2_with fail
  refine c3.mono ?_
  rintro q w3 ⟨rfl, b3⟩
  have s3 := s2.keep b3
  have B3 := B2.trans (b3.mono B2.size)
  have f3 := s3.s.frozen 3
  have k3 := s3.c3
  have S4 : Blk (w3.setCell ⟨so, 3, none⟩ (.int .i64 z)) so 166 (slS g fb a b z) := s3.s.set 3 (.int .i64 z)
  have F4 : Blk (w3.setCell ⟨so, 3, none⟩ (.int .i64 z)) fb 25 [.pointer (some ⟨g, 0, none⟩)] := s3.f.far (p := ⟨so, 3, none⟩) (fun e => hle.out.2.2 e.symm) (.int .i64 z)
  have B4 : Below w.heap.size w (w3.setCell ⟨so, 3, none⟩ (.int .i64 z)) := B3.setCell (p := ⟨so, 3, none⟩) hle.out.1 (.int .i64 z)
  clear c3 b3 s2 s3 B2 B3
  go_wp2
  go_ret2
  exact ⟨so, fb, rfl, ⟨S4, F4⟩, hle.out.1, hle.out.2.1, hle.out.2.2, B4⟩

set_option maxRecDepth 100000 in
set_option maxHeartbeats 4000000 in
theorem slOpen_arg {L : Nat → Nat} {P : Nat → Prop} {w : World} {g : Nat} {D : DkV} {T : Nat} {a b : Int} (h : DkIs L P w g D) (hO : D.Ok T) (hab : ¬ (0 ≤ a ∧ a < 3) ∨ ¬ (0 ≤ b ∧ b < 3) ∨ a = b) :
    Calls Tryz.prog 68 #[.pointer (some ⟨g, 0, none⟩), .int .i64 a, .int .i64 b] w fun q w' => q = .returned (.tuple #[.pointer none, .int .i64 1]) ∧ w = w' := by
  have hr0 := hO.room
  obtain ⟨c0, _, c2⟩ := h.cells
  have hC0 := dRoom_any c0 (by omega)
  have hr1 : ¬ D.room = 0 := by omega
  obtain ⟨r, hrr⟩ : ∃ r, D.room = r := ⟨_, rfl⟩
  rw [hrr] at hr1 hC0
  clear h hO c0 c2 hr0 hrr
  by_cases ha : 0 ≤ a ∧ a < 3
  · have hFa := slIsFile_any w a (decide_eq_true ha)
    by_cases hb : 0 ≤ b ∧ b < 3
    · have hFb := slIsFile_any w b (decide_eq_true hb)
      have habe : a = b := by omega
      subst habe
      clear hab ha hb
      go_enter Tryz.func68, Tryz.ntmps68
      go_wp2_with fail
      refine hC0.mono ?_
      rintro q w1 ⟨rfl, rfl⟩
      clear hC0
      go_wp2_with fail
      refine hFa.mono ?_
      rintro q w1 ⟨rfl, rfl⟩
      clear hFa
      go_wp2_with fail
      refine hFb.mono ?_
      rintro q w1 ⟨rfl, rfl⟩
      clear hFb
      go_wp2
      go_ret2
      exact ⟨rfl, rfl⟩
    · have hFb := slIsFile_any w b (decide_eq_false hb)
      clear hab ha hb
      go_enter Tryz.func68, Tryz.ntmps68
      go_wp2_with fail
      refine hC0.mono ?_
      rintro q w1 ⟨rfl, rfl⟩
      clear hC0
      go_wp2_with fail
      refine hFa.mono ?_
      rintro q w1 ⟨rfl, rfl⟩
      clear hFa
      go_wp2_with fail
      refine hFb.mono ?_
      rintro q w1 ⟨rfl, rfl⟩
      clear hFb
      go_wp2
      go_ret2
      exact ⟨rfl, rfl⟩
  · have hFa := slIsFile_any w a (decide_eq_false ha)
    clear hab ha
    go_enter Tryz.func68, Tryz.ntmps68
    go_wp2_with fail
    refine hC0.mono ?_
    rintro q w1 ⟨rfl, rfl⟩
    clear hC0
    go_wp2_with fail
    refine hFa.mono ?_
    rintro q w1 ⟨rfl, rfl⟩
    clear hFa
    go_wp2
    go_ret2
    exact ⟨rfl, rfl⟩

set_option maxRecDepth 100000 in
set_option maxHeartbeats 2000000 in
theorem slOpen_dead {w : World} {p : Option Addr} (a b : Int) (h : Dead w p) :
    Calls Tryz.prog 68 #[.pointer p, .int .i64 a, .int .i64 b] w fun q w' => q = .returned (.tuple #[.pointer none, .int .i64 7]) ∧ w = w' := by
  have hC0 := nRoom h
  clear h
  go_enter Tryz.func68, Tryz.ntmps68
  go_wp2_with fail
  refine hC0.mono ?_
  rintro q w1 ⟨rfl, rfl⟩
  clear hC0
  go_wp2
  go_ret2
  exact ⟨rfl, rfl⟩

/-! ### Slots that no call made -/
def DeadS (w : World) (p : Option Addr) : Prop := p = none ∨ ∃ r, p = some ⟨r, 0, none⟩ ∧ w.cell? ⟨r, 4, none⟩ = some .nilFunc

set_option maxRecDepth 100000 in
set_option maxHeartbeats 1000000 in
theorem zUnmadeS {w : World} {p : Option Addr} (h : DeadS w p) :
    Calls Tryz.prog 90 #[.pointer p] w fun q w' => q = .returned (.bool true) ∧ w = w' := by
  rcases h with rfl | ⟨r, rfl, hc⟩
  · go_enter Tryz.func90, Tryz.ntmps90
    go_wp2
    go_ret
    exact ⟨rfl, rfl⟩
  · have heq : ∀ w : World, Sem.run Tryz.prog (binOp BinOp.eql 164 .nilFunc .nilFunc) w = .ok (.bool true) w := fun w => by kernel_rfl
    go_enter Tryz.func90, Tryz.ntmps90
    go_wp2
    go_ret
    exact ⟨rfl, rfl⟩

set_option maxRecDepth 100000 in
set_option maxHeartbeats 1000000 in
theorem zGetS {w : World} {p : Option Addr} (h : DeadS w p) :
    Calls Tryz.prog 65 #[.pointer p] w fun q w' => q = .returned (.tuple #[.slice none 0 0, .bool false]) ∧ w = w' := by
  have hM := zUnmadeS h
  clear h
  go_enter Tryz.func65, Tryz.ntmps65
  go_wp2_with fail
  refine hM.mono ?_
  rintro q w1 ⟨rfl, rfl⟩
  go_wp2
  go_ret2
  exact ⟨rfl, rfl⟩

set_option maxRecDepth 100000 in
set_option maxHeartbeats 1000000 in
theorem zTurnS {w : World} {p : Option Addr} (h : DeadS w p) :
    Calls Tryz.prog 91 #[.pointer p] w fun q w' => q = .returned (.int .u64 0) ∧ w = w' := by
  have hM := zUnmadeS h
  clear h
  go_enter Tryz.func91, Tryz.ntmps91
  go_wp2_with fail
  refine hM.mono ?_
  rintro q w1 ⟨rfl, rfl⟩
  go_wp2
  go_ret
  exact ⟨rfl, rfl⟩

set_option maxRecDepth 100000 in
set_option maxHeartbeats 1000000 in
theorem zPutS {w : World} {p : Option Addr} (h : DeadS w p) (a : Option Addr) (n c : Nat) :
    Calls Tryz.prog 45 #[.pointer p, .slice a n c] w fun q w' => q = .returned (.int .i64 7) ∧ w = w' := by
  have hM := zUnmadeS h
  clear h
  go_enter Tryz.func45, Tryz.ntmps45
  go_wp2_with fail
  refine hM.mono ?_
  rintro q w1 ⟨rfl, rfl⟩
  go_wp2
  go_ret
  exact ⟨rfl, rfl⟩
end Go.Proofs.YtinmmhbiomcdoaaGreatDoor

/-
  Slots over a landed disk of the law's own: what a law's calls leave; the laws' own 'alive' (layer 21): the chapter's example. New memory is written, the disk's own and the slots'. Conditions: a disk that New made; fewer than 2^42 steps; the files hold bytes.
-/
namespace Go.Proofs.YtinmmhbiomcdoaaGreatDoor
open Go.RowKit

theorem op_ab (D : DkV) (a b : Int) : (opS D a b).a = a ∧ (opS D a b).b = b := by
  unfold opS
  split
  · exact ⟨rfl, rfl⟩
  · split <;> exact ⟨rfl, rfl⟩
theorem pt_ab (D : DkV) (s : SlV) (x : List Int) : (ptS D s x).2.1.a = s.a ∧ (ptS D s x).2.1.b = s.b := by
  unfold ptS
  split
  · exact ⟨rfl, rfl⟩
  split
  · exact ⟨rfl, rfl⟩
  split <;> exact ⟨rfl, rfl⟩
section
variable {E : Nat → Prop} {B : Nat} {w0 w : World} {g : Nat} {D D' : DkV} {T : Nat} {e : Int} {s s' : SlV} {so fb : Nat}

theorem os_open {a b : Int} (h : RyOwn E B w0 w g D) (hO : D.Ok T) (hD : D.By) (ha : 0 ≤ a ∧ a < 3) (hb : 0 ≤ b ∧ b < 3) (hab : a ≠ b) (hG : Glob11 w0) (hB : w0.heap.size ≤ B) (hd : D.down = false) (he : opS D a b = s) :
    Calls Tryz.prog 68 #[.pointer (some ⟨g, 0, none⟩), .int .i64 a, .int .i64 b] w fun q w' => ∃ so fb, q = .returned (.tuple #[.pointer (some ⟨so, 0, none⟩), .int .i64 0]) ∧ SlotAt w' so g fb s.a s.b s.now ∧ (so ≠ fb ∧ B ≤ so ∧ w.heap.size ≤ so ∧ w.heap.size ≤ fb) ∧ RyOwn (fun x => E x ∨ x = so ∨ x = fb) B w0 w' g D ∧ Below w.heap.size w w' := by
  obtain ⟨L, P, h1, h2, h3⟩ := h.is
  have hc := slOpen_any h1 hO hD ha hb hab (hG.keep h.b hB) hd (z := s.now) (by rw [he])
  have hab := op_ab D a b
  rw [he] at hab
  rw [hab.1, hab.2]
  refine hc.mono ?_
  rintro q w' ⟨so, fb, eq, hs, l1, l2, hne, hb⟩
  refine ⟨so, fb, eq, hs, ⟨hne, Nat.le_trans h.s l1, l1, l2⟩, h.keepE hb (fun x hx => ?_), hb⟩
  rcases hx with hx | hx | hx
  · exact .inl hx
  · subst hx; exact .inr ⟨l1, hs.s.lt⟩
  · subst hx; exact .inr ⟨l2, hs.f.lt⟩

theorem os_turn (h : RyOwn E B w0 w g D) (hs : SlotAt w so g fb s.a s.b s.now) (hO : D.Ok T) (hD : D.By) (hok : s.Ok) (hc : Cur D s) (hG : Glob11 w0) (hB : w0.heap.size ≤ B) {t : Int} (ht : s.turn = t) :
    Calls Tryz.prog 91 #[.pointer (some ⟨so, 0, none⟩)] w fun q w' => q = .returned (.int .u64 t) ∧ Below w.heap.size w w' := by
  obtain ⟨L, P, h1, h2, h3⟩ := h.is
  subst ht
  exact slTurn_any hs h1 hO hD hok.now3 (hG.keep h.b hB) (has_cur hok hc)

theorem os_get (h : RyOwn E B w0 w g D) (hs : SlotAt w so g fb s.a s.b s.now) (hO : D.Ok T) (hD : D.By) (hok : s.Ok) (hc : Cur D s) (hG : Glob11 w0) (hB : w0.heap.size ≤ B) {x : List Int} (hx : s.body = x) {n : Nat} (hn : x.length = n) {m : Bool} (hm : decide (0 < s.turn) = m) :
    Calls Tryz.prog 65 #[.pointer (some ⟨so, 0, none⟩)] w fun q w' => ∃ a c, q = .returned (.tuple #[.slice a n c, .bool m]) ∧ w'.ownsRow w.heap.size 5 1 (.slice a n c) n (x.map (Value.int .u8)) ∧ Below w.heap.size w w' := by
  obtain ⟨L, P, h1, h2, h3⟩ := h.is
  subst hx
  refine (slGet_any hs h1 hO hD hok.now3 (hG.keep h.b hB) (has_cur hok hc) hm).mono ?_
  rintro q w' ⟨a, k, c, eq, ho, hl, hb⟩
  have : k = n := by rw [← hl]; exact hn
  subst this
  exact ⟨a, c, eq, ho, hb⟩

theorem os_put {p : Option Addr} {n c : Nat} {xs : List Int} (h : RyOwn E B w0 w g D) (hs : SlotAt w so g fb s.a s.b s.now) (hE : E so ∧ E fb) (hne : so ≠ fb) (hBs : B ≤ so) (hO : D.Ok T) (hT : T < 4398046511102) (hD : D.By) (hok : s.Ok) (hc : Cur D s) (hG : Glob11 w0) (hB : w0.heap.size ≤ B) (hI : Ints .u8 w p n c xs) (hp : ∀ x, p = some x → 0 < n → x.block < B ∨ E x.block) (hb : ∀ x ∈ xs, isByte x) (he : ptS D s xs = (D', s', e)) :
    Calls Tryz.prog 45 #[.pointer (some ⟨so, 0, none⟩), .slice p n c] w fun q w' => q = .returned (.int .i64 e) ∧ RyOwn E B w0 w' g D' ∧ SlotAt w' so g fb s'.a s'.b s'.now ∧ ∀ b, E b → b ≠ so → w'.heap[b]? = w.heap[b]? := by
  obtain ⟨L, P, h1, h2, h3⟩ := h.is
  have low : ∀ b, b < B → L b = 0 := fun b hb => by
    by_cases h0 : L b = 0
    · exact h0
    · exact absurd (h2 b h0) (Nat.not_le.2 hb)
  have hgl : L 3 = 0 := low _ (Nat.lt_of_lt_of_le hG.lt hB)
  have hq := slPut_any hs (h3 so hE.1).2.1 (h3 fb hE.2).2.1 hne h1 hO hT hD hok hc (hG.keep h.b hB) hgl hI (fun x hx h0 => (hp x hx h0).elim (low _) (fun k => (h3 _ k).2.1)) hb
  have hab := pt_ab D s xs
  rw [he] at hq hab
  rw [hab.1, hab.2]
  refine hq.mono ?_
  rintro q w' ⟨eq, ⟨w1, L', P', k1, k2, k3⟩, k4⟩
  obtain ⟨j1, j2⟩ := ry_prog h.b h.s h2 h3 k1 k2
  rcases k3 with rfl | k3
  · exact ⟨eq, j1, k4, fun b hb _ => j2 b hb⟩
  · refine ⟨eq, j1.grown k3 hE.1 hBs, k4, fun b hb hn => ?_⟩
    exact (k3.block b (j1.lt b hb) (fun e => by injection e with e; exact hn e)).trans (j2 b hb)

end

/-! ### The chapter's example -/
theorem dk0_nf (M : Nat) (r : Int) (h : 3 * (M : Int) ≤ r) : Nf M (dk0 r) := ⟨rfl, rfl, h, Nat.zero_le _, Nat.zero_le _, Nat.zero_le _⟩
theorem op_dk0 (r a b : Int) : opS (dk0 r) a b = ⟨a, b, -1, 0, []⟩ := by
  have h : ∀ z : Int, heldR (dk0 r) z = [] := by
    intro z
    unfold heldR DkV.f
    split
    · rfl
    · split <;> rfl
  unfold opS
  rw [h a, h b, ldF_nil, if_neg (by decide), if_neg (by decide)]
theorem alive21_math : ∃ D1 D2 : DkV, ptS (dk0 100) ⟨1, 2, -1, 0, []⟩ [5] = (D1, ⟨1, 2, 1, 1, [5]⟩, 0) ∧ ptS D1 ⟨1, 2, 1, 1, [5]⟩ [6] = (D2, ⟨1, 2, 2, 2, [6]⟩, 0) ∧
    D1.Ok 2 ∧ D1.By ∧ D2.Ok 4 ∧ D2.By ∧ (SlV.Ok ⟨1, 2, -1, 0, []⟩) ∧ Cur (dk0 100) ⟨1, 2, -1, 0, []⟩ ∧ (SlV.Ok ⟨1, 2, 1, 1, [5]⟩) ∧ Cur D1 ⟨1, 2, 1, 1, [5]⟩ ∧ (SlV.Ok ⟨1, 2, 2, 2, [6]⟩) ∧ Cur D2 ⟨1, 2, 2, 2, [6]⟩ := by
  have by5 : ∀ y ∈ ([5] : List Int), isByte y := fun y hy => by rw [List.mem_singleton.1 hy]; exact ⟨by decide, by decide⟩
  have by6 : ∀ y ∈ ([6] : List Int), isByte y := fun y hy => by rw [List.mem_singleton.1 hy]; exact ⟨by decide, by decide⟩
  have k0 := opS_ok (D := dk0 100) (dk0_by 100) (a := 1) (b := 2) (by decide) (by decide) (by decide)
  have c0 := op_cur (D := dk0 100) (a := 1) (b := 2)
  rw [op_dk0] at k0 c0
  obtain ⟨D1, e1, n1⟩ := pt_nf (dk0_nf 17 100 (by decide)) k0 (x := [5]) (by decide) (by decide) (by decide)
  have o1 := ptS_ok (dk0_ok 100 (by decide)) ⟨1, 2, -1, 0, []⟩ [5]
  have y1 := ptS_by (dk0_by 100) ⟨1, 2, -1, 0, []⟩ by5
  have k1 := ptS_sl (D := dk0 100) k0 by5
  have c1 := pt_cur c0 k0 [5]
  have e1 : ptS (dk0 100) ⟨1, 2, -1, 0, []⟩ [5] = (D1, ⟨1, 2, 1, 1, [5]⟩, 0) := e1
  rw [e1] at o1 y1 k1 c1
  obtain ⟨D2, e2, n2⟩ := pt_nf n1 k1 (x := [6]) (by decide) (by decide) (by show (1 : Int) + 1 ≠ 18446744073709551616; decide)
  have o2 := ptS_ok o1 ⟨1, 2, 1, 1, [5]⟩ [6]
  have y2 := ptS_by y1 ⟨1, 2, 1, 1, [5]⟩ by6
  have k2 := ptS_sl (D := D1) k1 by6
  have c2 := pt_cur c1 k1 [6]
  have e2 : ptS D1 ⟨1, 2, 1, 1, [5]⟩ [6] = (D2, ⟨1, 2, 2, 2, [6]⟩, 0) := e2
  rw [e2] at o2 y2 k2 c2
  exact ⟨D1, D2, e1, e2, o1, y1, o2, y2, k0, c0, k1, c1, k2, c2⟩
theorem str6 : (strOfNums [6]).toList = [6] := by decide +kernel
end Go.Proofs.YtinmmhbiomcdoaaGreatDoor
