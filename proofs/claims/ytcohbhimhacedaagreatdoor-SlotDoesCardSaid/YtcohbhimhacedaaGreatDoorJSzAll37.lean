/-
  Texts of stages that were proved on their own, joined: SlSt1, SlSt4, SlStep, SlLaw. Each begins with its own words.
-/
import Derived.Test.YtcohbhimhacedaaGreatDoorSeqK
import Derived.Test.YtcohbhimhacedaaGreatDoorJSzAll36
import Derived.Test.YtcohbhimhacedaaGreatDoorJSzAll3

/-
  The law SlotDoes: its step, where the call is the disk's Append. New memory is written, the landed disk's own and the landed slots'. Conditions: the disks have at most 3518437208880 steps; the files hold bytes; the call's bytes are at most 2^47.
-/
namespace Go.Proofs.YtcohbhimhacedaaGreatDoor
open Go.RowKit

set_option maxRecDepth 100000 in
set_option maxHeartbeats 8000000 in
theorem step21_1 {E : Nat → Prop} {B : Nat} {w0 w : World} {g so fb : Nat} {cs sc : List Value} {D : DkV} {s : SlV} {T : Nat} {o : OpS} (h : T21 E B w0 w g cs sc D D s) (hS : SlotAt w so g fb s.a s.b s.now) (hE : E so ∧ E fb) (hne : so ≠ fb) (hBs : B ≤ so) (hO : D.Ok T) (hT : T ≤ 3518437208880) (hD : D.By) (hok : s.Ok) (hab : s.a = 1 ∧ s.b = 2) (hcu : Cur D s) (hG0 : Glob11 w0) (hB0 : w0.heap.size ≤ B) (hk : o.Ok w) (hbl : ∀ x, o.ba = some x → 0 < o.bn → x.block < B) (hbn : o.bn ≤ 140737488355328) (hkk : o.k = 1) :
    Calls Tryz.prog 12 #[.pointer (some ⟨g, 0, none⟩), .pointer (some ⟨so, 0, none⟩), .agg cs.toArray, .agg sc.toArray, .agg o.cells.toArray] w (StepTo E B w0 w g so T) := by
  have hl := h.two.ddc.l
  have ho1 := h.two.ddc.o
  have hBw := h.sz
  obtain ⟨hsl, hso⟩ := h.len
  have hrow : IsRow Tryz.prog 37 cs.length := by rw [hl]; exact rowDd
  have hrowS : IsRow Tryz.prog 46 sc.length := by rw [hsl]; exact rowSl
  obtain ⟨zs, hzs⟩ : ∃ zs, ddZ = zs := ⟨_, rfl⟩
  have hz := zeroDd
  have hzl := ddZ_len
  rw [hzs] at hz hzl
  obtain ⟨zS, hzS⟩ : ∃ zs, slZ = zs := ⟨_, rfl⟩
  have hzz := zeroSl
  have hzzl : slZ.length = 5 := rfl
  rw [hzS] at hzz hzzl
  obtain ⟨k, hk0⟩ : ∃ k, o.k = k := ⟨_, rfl⟩
  obtain ⟨N, hN0⟩ : ∃ N, o.n = N := ⟨_, rfl⟩
  obtain ⟨X, hX0⟩ : ∃ X, o.m = X := ⟨_, rfl⟩
  have z0 : o.cells[0]? = some (.int .i64 k) := by rw [← hk0]; rfl
  have z1 : o.cells[1]? = some (.int .i64 N) := by rw [← hN0]; rfl
  have z2 : o.cells[2]? = some (.int .i64 X) := by rw [← hX0]; rfl
  have z3 : o.cells[3]? = some (.slice o.ba o.bn o.bc) := rfl
  have hNr := hk.n
  rw [hN0] at hNr
  rw [hk0] at hkk
  obtain ⟨C, hC⟩ : ∃ C, o.cells = C := ⟨_, rfl⟩
  rw [hC] at z0 z1 z2 z3 ⊢
  obtain ⟨W, hW, b0, q0, hs0⟩ := Sb.start w cs sc C zs zS
  have ltE := h.lt
  have h3 : T21 (Fv E w.heap.size) B w0 W g cs sc D D s := h.keepE q0 (fun b hb => hb.imp id (fun hb => by rw [hs0]; omega))
  have S3 := hS.keep q0
  have kp3 : Kp E so w W := fun b hb _ => q0.block b (ltE b hb)
  obtain ⟨G, hG⟩ : ∃ G, w.heap.size = G := ⟨_, rfl⟩
  rw [hG] at b0 h3 ltE hs0 hBw
  have ltso : so < G := ltE so hE.1
  have ltfb : fb < G := ltE fb hE.2
  have hBG : B ≤ G := hBw
  have I0 := hk.b.keep q0
  have hbr := hk.br
  have c0 := (b0.o.cell 0).trans z0
  have WH := Lib.hid hW
  have GH := Lib.hid hG
  have OK := Lib.hid (show D.Ok T ∧ D.By ∧ s.Ok ∧ (s.a = 1 ∧ s.b = 2) ∧ Cur D s from ⟨hO, hD, hok, hab, hcu⟩)
  have TH := Lib.hid hT
  have HG := Lib.hid hG0
  have HB := Lib.hid hB0
  have LT := Lib.hid (show (∀ b, E b → b < G) ∧ so < G ∧ fb < G ∧ B ≤ G from ⟨ltE, ltso, ltfb, hBG⟩)
  have EH := Lib.hid hE
  have NE := Lib.hid (show so ≠ fb ∧ B ≤ so from ⟨hne, hBs⟩)
  have IH := Lib.hid I0
  have BR := Lib.hid (show (∀ z ∈ o.bs, 0 ≤ z ∧ z < 256) ∧ o.bn ≤ 140737488355328 ∧ ∀ x, o.ba = some x → 0 < o.bn → x.block < B from ⟨hbr, hbn, hbl⟩)
  have NR := Lib.hid hNr
  have h3H := Lib.hid h3
  have S3H := Lib.hid S3
  have b0H := Lib.hid b0
  have kp3H := Lib.hid kp3
  have Z1 := Lib.hid z1
  have Z2 := Lib.hid z2
  have Z3 := Lib.hid z3
  clear h hS hE hne hBs hO hT hD hok hab hcu hG0 hB0 hk hbl hbn hW hG q0 hs0 ltE ltso ltfb hBG I0 hbr h3 S3 kp3 z0 z1 z2 z3 hzs hzS hk0 hN0 hX0 hC hBw hNr b0
  go_enter Tryz.func12, Tryz.ntmps12
  go_wp2_with (first
    | ((with_reducible refine box_row rfl 37 (.tmp 2) rfl cs rfl ?_))
    | ((with_reducible refine box_row rfl 46 (.tmp 3) rfl sc rfl ?_))
    | ((with_reducible refine box_row rfl 51 (.tmp 4) rfl C rfl ?_))
    | (with_reducible refine wpList_alloc_blk rfl 37 rfl hz ?_)
    | (with_reducible refine wpList_alloc_blk rfl 46 rfl hzz ?_; refine RowKit.Hid.out ?_))
  refine Lib.hid ?_
  rw [WH.out]
  simp only [GH.out, Nat.add_assoc, Nat.reduceAdd]
  subst hkk
  obtain ⟨z, hz12, cw⟩ := which_any N
  have hz3 : 0 ≤ z ∧ z < 3 := by omega
  obtain ⟨D1, e, he⟩ : ∃ D1 e, apD D z o.bs = (D1, e) := ⟨_, _, rfl⟩
  have ok1 := apD_ok OK.out.1 z o.bs
  have by1 := apD_by OK.out.2.1 z o.bs BR.out.1
  have cu1 := ap_cur OK.out.2.2.2.2 OK.out.2.2.1 z o.bs
  rw [he] at ok1 by1 cu1
  dsimp only at ok1 by1 cu1
  have FN := Lib.hid (show D1.Ok (T + 1) ∧ D1.By ∧ s.Ok ∧ (s.a = 1 ∧ s.b = 2) ∧ Cur D1 s from ⟨ok1, by1, OK.out.2.2.1, OK.out.2.2.2.1, cu1⟩)
  have heH := Lib.hid he
  have dr3 : Below W.heap.size W W.drew := (Below.refl _ _).drew
  have cP := u_append z (h3H.out.keep dr3) OK.out.1 (by have := TH.out; omega) (IH.out.keep dr3) he
  have b0d := (b0H.out.keep dr3).o
  clear ok1 by1 cu1 he
  go_wp2_with fail
  refine region_seqS (fun w' => Blk w' (G + 2) 51 C) (by kernel_rfl) b0d ?_
  simp only [pairs, Nat.reduceAdd]
  repeat ((first
    | (refine SeqS.k0 (v := ?_) ?_ ?_; rotate_left; focus (intro w' hb'; go_simp; with_reducible rfl))
    | (refine SeqS.k0 (v := ?_) ?_ ?_; rotate_left; focus (intro w' hb'; have d0 := (hb'.cell 1).trans Z1.out; go_simp; with_reducible rfl))
    | (refine SeqS.k0 (v := ?_) ?_ ?_; rotate_left; focus (intro w' hb'; have d0 := (hb'.cell 3).trans Z3.out; go_simp; with_reducible rfl))
    | (refine SeqS.u0 ?_)
    | (refine SeqS.k1 (v := ?_) ?_ ?_; rotate_left; focus (intro w' hb'; go_simp; with_reducible rfl))
    | (refine SeqS.k1 (v := ?_) ?_ ?_; rotate_left; focus (intro w' hb'; have d0 := (hb'.cell 1).trans Z1.out; go_simp; with_reducible rfl))
    | (refine SeqS.k1 (v := ?_) ?_ ?_; rotate_left; focus (intro w' hb'; have d0 := (hb'.cell 3).trans Z3.out; go_simp; with_reducible rfl))
    | (refine SeqS.u1 ?_)
    | (refine SeqS.k2 (v := ?_) ?_ ?_; rotate_left; focus (intro w' hb'; go_simp; with_reducible rfl))
    | (refine SeqS.k2 (v := ?_) ?_ ?_; rotate_left; focus (intro w' hb'; have d0 := (hb'.cell 1).trans Z1.out; go_simp; with_reducible rfl))
    | (refine SeqS.k2 (v := ?_) ?_ ?_; rotate_left; focus (intro w' hb'; have d0 := (hb'.cell 3).trans Z3.out; go_simp; with_reducible rfl))
    | (refine SeqS.u2 ?_)); simp only [Act.put, List.setIfInBounds_toArray, List.set_cons_zero, List.set_cons_succ])
  refine SeqS.alone (by decide +kernel) (by rfl) (fun K hK => ?_)
  go_simp
  go_at_call 33
  refine (cw _).mono ?_
  rintro q wq ⟨rfl, rfl⟩
  go_simp
  refine hK _ _ b0d ?_
  clear hK K
  repeat ((first
    | (refine SeqS.k0 (v := ?_) ?_ ?_; rotate_left; focus (intro w' hb'; go_simp; with_reducible rfl))
    | (refine SeqS.u0 ?_)
    | (refine SeqS.k1 (v := ?_) ?_ ?_; rotate_left; focus (intro w' hb'; go_simp; with_reducible rfl))
    | (refine SeqS.u1 ?_)
    | (refine SeqS.k2 (v := ?_) ?_ ?_; rotate_left; focus (intro w' hb'; go_simp; with_reducible rfl))
    | (refine SeqS.u2 ?_)); simp only [Act.put, List.setIfInBounds_toArray, List.set_cons_zero, List.set_cons_succ])
  refine SeqS.alone (by decide +kernel) (by rfl) (fun K hK => ?_)
  go_simp
  go_at_call 7
  refine cP.mono ?_
  rintro q w4 ⟨rfl, h4, k4⟩
  go_simp
  have b4o : Blk w4 (G + 2) 51 C := k4.blk b0d (.inr ⟨by omega, by omega⟩)
  refine hK _ _ b4o ?_
  clear hK K cP b0d
  repeat ((first
    | (refine SeqS.k0 (v := ?_) ?_ ?_; rotate_left; focus (intro w' hb'; go_simp; with_reducible rfl))
    | (refine SeqS.u0 ?_)
    | (refine SeqS.k1 (v := ?_) ?_ ?_; rotate_left; focus (intro w' hb'; go_simp; with_reducible rfl))
    | (refine SeqS.u1 ?_)
    | (refine SeqS.k2 (v := ?_) ?_ ?_; rotate_left; focus (intro w' hb'; go_simp; with_reducible rfl))
    | (refine SeqS.u2 ?_)); simp only [Act.put, List.setIfInBounds_toArray, List.set_cons_zero, List.set_cons_succ])
  refine SeqS.done (by decide +kernel) ?_
  have dr4 : Below w4.heap.size w4 w4.drew := (Below.refl _ _).drew
  have h4H := Lib.hid (h4.keep dr4)
  have S4H := Lib.hid ((S3H.out.keep dr3).same (k4 so (.inl EH.out.1)) (k4 fb (.inl EH.out.2)) |>.keep dr4)
  have b4H := Lib.hid (((b0H.out.keep dr3).same (fun b h1 h2 => k4 b (.inr ⟨h1, h2⟩))).keep dr4)
  have kp4H := Lib.hid (((kp3H.out.below LT.out.1 (by have := b0H.out.size; omega) dr3).same (F := Fv E G) (fun b hb => .inl hb) (fun b hb _ => k4 b hb)).below LT.out.1 (by have := (b0H.out.keep dr3).same (W' := w4) (fun b h1 h2 => k4 b (.inr ⟨h1, h2⟩)); have := this.size; omega) dr4)
  have I4 := Lib.hid ((ints_below h3H.out.b h4.b IH.out BR.out.2.2).keep dr4)
  obtain ⟨w4d, hw4d⟩ : ∃ v, w4.drew = v := ⟨_, rfl⟩
  rw [hw4d] at h4H S4H b4H kp4H I4
  have D4 := Lib.hid hw4d
  have iv4 := And.intro b4H.out.x b4H.out.o
  clear h4 k4 dr4 hw4d
  clear dr3 h3H S3H b0H kp3H b4o c0
  go_wp2_with fail
  refine region_seqS (fun w' => Blk w' G 37 cs ∧ Blk w' (G + 2) 51 C) (by kernel_rfl) (by rw [D4.out]; exact iv4) ?_
  simp only [pairs, Nat.reduceAdd]
  rw [D4.out]
  repeat ((first
    | (refine SeqS.y0 (v := .agg (cs).toArray) (yields_blk (by rfl) 37 (.tmp 7) rfl rfl (fun w' h => h.1) (hrow)) ?_)
    | (refine SeqS.k0 (v := ?_) ?_ ?_; rotate_left; focus (intro w' hb'; go_simp; with_reducible rfl))
    | (refine SeqS.k0 (v := ?_) ?_ ?_; rotate_left; focus (intro w' hb'; have d0 := (hb'.2.cell 1).trans Z1.out; go_simp; with_reducible rfl))
    | (refine SeqS.k0 (v := ?_) ?_ ?_; rotate_left; focus (intro w' hb'; have d0 := (hb'.2.cell 3).trans Z3.out; go_simp; with_reducible rfl))
    | (refine SeqS.u0 ?_)
    | (refine SeqS.y1 (v := .agg (cs).toArray) (yields_blk (by rfl) 37 (.tmp 7) rfl rfl (fun w' h => h.1) (hrow)) ?_)
    | (refine SeqS.k1 (v := ?_) ?_ ?_; rotate_left; focus (intro w' hb'; go_simp; with_reducible rfl))
    | (refine SeqS.k1 (v := ?_) ?_ ?_; rotate_left; focus (intro w' hb'; have d0 := (hb'.2.cell 1).trans Z1.out; go_simp; with_reducible rfl))
    | (refine SeqS.k1 (v := ?_) ?_ ?_; rotate_left; focus (intro w' hb'; have d0 := (hb'.2.cell 3).trans Z3.out; go_simp; with_reducible rfl))
    | (refine SeqS.u1 ?_)
    | (refine SeqS.y2 (v := .agg (cs).toArray) (yields_blk (by rfl) 37 (.tmp 7) rfl rfl (fun w' h => h.1) (hrow)) ?_)
    | (refine SeqS.k2 (v := ?_) ?_ ?_; rotate_left; focus (intro w' hb'; go_simp; with_reducible rfl))
    | (refine SeqS.k2 (v := ?_) ?_ ?_; rotate_left; focus (intro w' hb'; have d0 := (hb'.2.cell 1).trans Z1.out; go_simp; with_reducible rfl))
    | (refine SeqS.k2 (v := ?_) ?_ ?_; rotate_left; focus (intro w' hb'; have d0 := (hb'.2.cell 3).trans Z3.out; go_simp; with_reducible rfl))
    | (refine SeqS.u2 ?_)); simp only [Act.put, List.setIfInBounds_toArray, List.set_cons_zero, List.set_cons_succ])
  refine SeqS.either (rs := [3, 10]) (by decide +kernel) ?_
  intro ox hox
  simp only [List.mem_cons, List.not_mem_nil, or_false] at hox
  rcases hox with rfl | rfl
  · refine ⟨[], _, [_, _, _, _, _, _, _], rfl, by rfl, fun K hK => ?_⟩
    go_simp
    go_at_call 33
    refine (cw _).mono ?_
    rintro q wq ⟨rfl, rfl⟩
    go_simp
    refine hK _ _ iv4 ?_
    clear hK K
    repeat ((first
      | (refine SeqS.k0 (v := ?_) ?_ ?_; rotate_left; focus (intro w' hb'; go_simp; with_reducible rfl))
      | (refine SeqS.u0 ?_)
      | (refine SeqS.k1 (v := ?_) ?_ ?_; rotate_left; focus (intro w' hb'; go_simp; with_reducible rfl))
      | (refine SeqS.u1 ?_)
      | (refine SeqS.k2 (v := ?_) ?_ ?_; rotate_left; focus (intro w' hb'; go_simp; with_reducible rfl))
      | (refine SeqS.u2 ?_)); simp only [Act.put, List.setIfInBounds_toArray, List.set_cons_zero, List.set_cons_succ])
    refine SeqS.either (rs := [6, 10]) (by decide +kernel) ?_
    intro ox hox
    simp only [List.mem_cons, List.not_mem_nil, or_false] at hox
    rcases hox with rfl | rfl
    · refine ⟨[], _, [_, _, _, _, _, _], rfl, by rfl, fun K hK => ?_⟩
      go_simp
      go_at_call 8
      have cQ := (v_append z h4H.out OK.out.1 (by have := TH.out; omega) I4.out BR.out.2.1 heH.out)
      refine cQ.mono ?_
      rintro q v5 ⟨cs1, rfl, hn5, qn5⟩
      go_simp
      have bn5 := Lib.hid (b4H.out.keep qn5)
      have Sn5 := Lib.hid (S4H.out.keep qn5)
      have kn5 := Lib.hid (kp4H.out.below LT.out.1 (by have := b4H.out.size; omega) qn5)
      have In5 := Lib.hid (I4.out.keep qn5)
      have hn5 := Lib.hid hn5
      have iv5 := And.intro bn5.out.x bn5.out.o
      refine hK _ _ iv5 ?_
      clear hK K cQ qn5
      repeat ((first
        | (refine SeqS.k0 (v := ?_) ?_ ?_; rotate_left; focus (intro w' hb'; go_simp; with_reducible rfl))
        | (refine SeqS.u0 ?_)
        | (refine SeqS.k1 (v := ?_) ?_ ?_; rotate_left; focus (intro w' hb'; go_simp; with_reducible rfl))
        | (refine SeqS.u1 ?_)
        | (refine SeqS.k2 (v := ?_) ?_ ?_; rotate_left; focus (intro w' hb'; go_simp; with_reducible rfl))
        | (refine SeqS.u2 ?_)); simp only [Act.put, List.setIfInBounds_toArray, List.set_cons_zero, List.set_cons_succ])
      refine SeqS.alone (by decide +kernel) (by rfl) (fun K hK => ?_)
      refine wp_alloc21 37 rfl hz ?_
      have qn6 := below1 v5 (.cells zs.toArray 37)
      have nm6 := Lib.hid (Blk.new v5 37 zs)
      have bn6 := Lib.hid (bn5.out.keep qn6)
      have Sn6 := Lib.hid (Sn5.out.keep qn6)
      have kn6 := Lib.hid (kn5.out.below LT.out.1 (by have := bn5.out.size; omega) qn6)
      have gM := bn5.out.size
      have hn6 : T21 (fun x => Fv E G x ∨ x = v5.heap.size) B w0 _ g _ sc D1 _ s := hn5.out.keepE qn6 (fun b hb => hb.imp id (fun hb => by rw [hb, size1]; exact ⟨Nat.le_refl _, Nat.lt_succ_self _⟩))
      obtain ⟨v6, hv6⟩ : ∃ V, v5.alloc (.cells zs.toArray 37) = V := ⟨_, rfl⟩
      obtain ⟨M, hM⟩ : ∃ M, v5.heap.size = M := ⟨_, rfl⟩
      rw [hv6, hM] at nm6 hn6
      rw [hv6] at bn6 Sn6 kn6
      rw [hM] at gM
      have hn6 := Lib.hid hn6
      have In6 := Lib.hid (In5.out.keep qn6)
      rw [hv6] at In6
      have iv6 := And.intro bn6.out.x bn6.out.o
      rw [hv6, hM]
      refine hK _ _ iv6 ?_
      clear hK K qn6 hv6 hM
      (try simp only [Act.put, List.setIfInBounds_toArray, List.set_cons_zero, List.set_cons_succ])
      repeat ((first
        | (refine SeqS.k0 (v := ?_) ?_ ?_; rotate_left; focus (intro w' hb'; go_simp; with_reducible rfl))
        | (refine SeqS.u0 ?_)
        | (refine SeqS.k1 (v := ?_) ?_ ?_; rotate_left; focus (intro w' hb'; go_simp; with_reducible rfl))
        | (refine SeqS.u1 ?_)
        | (refine SeqS.k2 (v := ?_) ?_ ?_; rotate_left; focus (intro w' hb'; go_simp; with_reducible rfl))
        | (refine SeqS.u2 ?_)); simp only [Act.put, List.setIfInBounds_toArray, List.set_cons_zero, List.set_cons_succ])
      refine SeqS.alone (by decide +kernel) (by rfl) (fun K1 hK => ?_)
      have l1 := hn6.out.two.ddc.l
      have o1 := hn6.out.two.ddc.o
      have row1 : IsRow Tryz.prog 37 cs1.length := by rw [l1]; exact rowDd
      refine wp_store_part 37 (.tmp 19) _ rfl rfl rfl nm6.out row1 (by rw [l1, hzl]; decide) o1 (fun w9 dB g9 => ?_)
      rw [overV_all _ _ (by rw [l1, hzl])] at dB
      have b9 := bn6.out.far g9 (by omega)
      have S9 := Sn6.out.far g9 (by have := LT.out.2.1; omega) (by have := LT.out.2.2.1; omega)
      have kp9 := kn6.out.grown LT.out.1 (by have := bn6.out.size; omega) g9 (by omega)
      have h9 := hn6.out.grown g9 (.inr rfl) (by have := LT.out.2.2.2; omega)
      refine hK _ _ ⟨b9.x, b9.o⟩ ?_
      have iv9 := And.intro b9.x b9.o
      clear hK K1
      repeat ((first
        | (refine SeqS.k0 (v := ?_) ?_ ?_; rotate_left; focus (intro w' hb'; go_simp; with_reducible rfl))
        | (refine SeqS.u0 ?_)
        | (refine SeqS.k1 (v := ?_) ?_ ?_; rotate_left; focus (intro w' hb'; go_simp; with_reducible rfl))
        | (refine SeqS.u1 ?_)
        | (refine SeqS.k2 (v := ?_) ?_ ?_; rotate_left; focus (intro w' hb'; go_simp; with_reducible rfl))
        | (refine SeqS.u2 ?_)); simp only [Act.put, List.setIfInBounds_toArray, List.set_cons_zero, List.set_cons_succ])
      refine SeqS.done (by decide +kernel) ?_
      have hee : (e == e) = true := beq_self_eq_true e
      obtain ⟨M1, rfl⟩ : ∃ m, m = M := ⟨_, rfl⟩
      obtain ⟨M2, hM2⟩ : ∃ m, G + 1 = m := ⟨_, rfl⟩
      obtain ⟨so1, rfl⟩ : ∃ m, m = so := ⟨_, rfl⟩
      obtain ⟨fb1, rfl⟩ : ∃ m, m = fb := ⟨_, rfl⟩
      obtain ⟨s1, rfl⟩ : ∃ m, m = s := ⟨_, rfl⟩
      obtain ⟨sc1, rfl⟩ : ∃ m, m = sc := ⟨_, rfl⟩
      have sB := b9.s
      have fin := FN.out
      have ne9 := NE.out
      have in3 : (fun x => Fv E G x ∨ x = M1) (G + 3) := .inl (.inr ⟨by omega, by omega⟩)
      have in4 : (fun x => Fv E G x ∨ x = M1) (G + 4) := .inl (.inr ⟨by omega, by omega⟩)
      have lsE : ∀ b, (E b ∨ b = so1 ∨ b = fb1) → (fun x => Fv E G x ∨ x = M1) b := fun b hb => .inl (.inl (hb.elim id (fun hb => hb.elim (fun e => e ▸ EH.out.1) (fun e => e ▸ EH.out.2))))
      have far : (M1 ≠ G + 3 ∧ M1 ≠ G + 4) ∧ (M2 ≠ G + 3 ∧ M2 ≠ G + 4) ∧ (so1 ≠ G + 3 ∧ so1 ≠ G + 4) ∧ (fb1 ≠ G + 3 ∧ fb1 ≠ G + 4) := by have := LT.out.2.1; have := LT.out.2.2.1; omega
      obtain ⟨f1, f2, ⟨f3, f4⟩, ⟨f5, f6⟩⟩ := far
      have far := And.intro f1 (And.intro f2 trivial)
      rw [hM2] at sB
      simp only [hM2]
      clear iv9 l1 o1 row1 FN g9 h4H S4H b4H kp4H hsl hso hrowS hM2

      have l1 := h9.two.ddc.l
      have o1 := h9.two.ddc.o
      have row1 : IsRow Tryz.prog 37 cs1.length := by rw [l1]; exact rowDd
      obtain ⟨ls1, os1⟩ := h9.len
      have rowS1 : IsRow Tryz.prog 46 sc1.length := by rw [ls1]; exact rowSl
      have dr : Below w9.heap.size w9 w9.drew := (Below.refl _ _).drew
      have bd := b9.keep dr
      have hd := h9.keep dr
      have Sd := S9.keep dr
      have dd := dB.keep dr dB.lt
      have sd := sB.keep dr sB.lt
      have kpd := kp9.below LT.out.1 (by have := b9.size; omega) dr
      obtain ⟨V9, hV9⟩ : ∃ V, w9.drew = V := ⟨_, rfl⟩
      rw [hV9] at bd hd Sd dd sd kpd
      have V9H := Lib.hid hV9
      have hdH := Lib.hid hd
      have SdH := Lib.hid Sd
      have kpdH := Lib.hid kpd
      clear b9 h9 S9 dB sB kp9 dr hV9 hd Sd kpd
      go_wp2_with fail
      refine region_seqS (fun w' => Blk w' M1 37 cs1 ∧ Blk w' M2 46 sc1) (by kernel_rfl) (by rw [V9H.out]; exact ⟨dd, sd⟩) ?_
      have iv := And.intro dd sd
      simp only [pairs, Nat.reduceAdd]
      rw [V9H.out]
      repeat ((first
        | (refine SeqS.y0 (v := .agg (cs1).toArray) (yields_blk (by rfl) 37 (.tmp 19) rfl rfl (fun w' h => h.1) (row1)) ?_)
        | (refine SeqS.y0 (v := .agg (sc1).toArray) (yields_blk (by rfl) 46 (.tmp 8) rfl rfl (fun w' h => h.2) (rowS1)) ?_)
        | (refine SeqS.k0 (v := ?_) ?_ ?_; rotate_left; focus (intro w' hb'; go_simp; with_reducible rfl))
        | (refine SeqS.u0 ?_)); simp only [Act.put, List.setIfInBounds_toArray, List.set_cons_zero, List.set_cons_succ])
      refine SeqS.alone (by decide +kernel) (by rfl) (fun K1 hK => ?_)
      refine wp_store_part 37 (.tmp 11) _ rfl rfl rfl bd.y row1 (by rw [l1, hzl]; decide) o1 (fun wa ba ga => ?_)
      rw [overV_all _ _ (by rw [l1, hzl])] at ba
      have ya := bd.sety ba ga
      have da := dd.grown ga (fun e => by injection e with e; exact far.1.1 e)
      have sa := sd.grown ga (fun e => by injection e with e; exact far.2.1.1 e)
      have ha := hdH.out.grown ga in3 (by have := LT.out.2.2.2; omega)
      have Sa := SdH.out.far ga (by omega) (by omega)
      have kpa := kpdH.out.grown LT.out.1 (by have := bd.size; omega) ga (by omega)
      refine hK _ _ ⟨da, sa⟩ ?_
      have haH := Lib.hid ha
      have SaH := Lib.hid Sa
      have kpaH := Lib.hid kpa
      clear hK K1 iv bd dd sd hdH SdH kpdH ha Sa kpa ba ga
      have iv := And.intro da sa
      repeat ((first
        | (refine SeqS.y0 (v := .agg (sc1).toArray) (yields_blk (by rfl) 46 (.tmp 8) rfl rfl (fun w' h => h.2) (rowS1)) ?_)
        | (refine SeqS.k0 (v := ?_) ?_ ?_; rotate_left; focus (intro w' hb'; go_simp; with_reducible rfl))
        | (refine SeqS.u0 ?_)); simp only [Act.put, List.setIfInBounds_toArray, List.set_cons_zero, List.set_cons_succ])
      refine SeqS.alone (by decide +kernel) (by rfl) (fun K2 hK => ?_)
      refine wp_store_part 46 (.tmp 12) _ rfl rfl rfl ya.z rowS1 (by rw [ls1, hzzl]; decide) os1 (fun wb bb gb => ?_)
      rw [overV_all _ _ (by rw [ls1, hzzl])] at bb
      have yb := ya.setz bb gb
      have db := da.grown gb (fun e => by injection e with e; exact far.1.2 e)
      have sb := sa.grown gb (fun e => by injection e with e; exact far.2.1.2 e)
      have hb := (haH.out.grown gb in4 (by have := LT.out.2.2.2; omega)).less lsE
      have Sb' := SaH.out.far gb (by omega) (by omega)
      have kpb := kpaH.out.grown LT.out.1 (by have := ya.size; omega) gb (by omega)
      refine hK _ _ ⟨db, sb⟩ ?_
      clear hK K2 iv ya da sa haH SaH kpaH bb gb
      have iv := And.intro db sb
      repeat ((first
        | (refine SeqS.k0 (v := ?_) ?_ ?_; rotate_left; focus (intro w' hb'; go_simp; with_reducible rfl))
        | (refine SeqS.u0 ?_)); simp only [Act.put, List.setIfInBounds_toArray, List.set_cons_zero, List.set_cons_succ])
      refine SeqS.done (by decide +kernel) ?_
      have yy := yb.y
      have zz := yb.z
      clear iv db sb yb
      go_wp2
      refine bodyPost_ret (results_tbbt21 rfl rfl yy row1 rfl zz rowS1) rfl ?_
      exact ⟨so1, fb1, cs1, sc1, D1, s1, rfl, fin, hb, Sb', ne9, kpb⟩
    · refine ⟨[_, _, _, _], _, [_, _], rfl, by rfl, fun K hK => ?_⟩
      refine wp_alloc21 37 rfl hz ?_
      have qn5 := below1 w4d (.cells zs.toArray 37)
      have nm5 := Lib.hid (Blk.new w4d 37 zs)
      have bn5 := Lib.hid (b4H.out.keep qn5)
      have Sn5 := Lib.hid (S4H.out.keep qn5)
      have kn5 := Lib.hid (kp4H.out.below LT.out.1 (by have := b4H.out.size; omega) qn5)
      have gM := b4H.out.size
      have hn5 : T21 (fun x => Fv E G x ∨ x = w4d.heap.size) B w0 _ g _ sc D1 _ s := h4H.out.keepE qn5 (fun b hb => hb.imp id (fun hb => by rw [hb, size1]; exact ⟨Nat.le_refl _, Nat.lt_succ_self _⟩))
      obtain ⟨v5, hv5⟩ : ∃ V, w4d.alloc (.cells zs.toArray 37) = V := ⟨_, rfl⟩
      obtain ⟨M, hM⟩ : ∃ M, w4d.heap.size = M := ⟨_, rfl⟩
      rw [hv5, hM] at nm5 hn5
      rw [hv5] at bn5 Sn5 kn5
      rw [hM] at gM
      have hn5 := Lib.hid hn5
      have In5 := Lib.hid (I4.out.keep qn5)
      rw [hv5] at In5
      have iv5 := And.intro bn5.out.x bn5.out.o
      rw [hv5, hM]
      refine hK _ _ iv5 ?_
      clear hK K qn5 hv5 hM
      (try simp only [Act.put, List.setIfInBounds_toArray, List.set_cons_zero, List.set_cons_succ])
      repeat ((first
        | (refine SeqS.k0 (v := ?_) ?_ ?_; rotate_left; focus (intro w' hb'; go_simp; with_reducible rfl))
        | (refine SeqS.u0 ?_)
        | (refine SeqS.k1 (v := ?_) ?_ ?_; rotate_left; focus (intro w' hb'; go_simp; with_reducible rfl))
        | (refine SeqS.u1 ?_)
        | (refine SeqS.k2 (v := ?_) ?_ ?_; rotate_left; focus (intro w' hb'; go_simp; with_reducible rfl))
        | (refine SeqS.u2 ?_)); simp only [Act.put, List.setIfInBounds_toArray, List.set_cons_zero, List.set_cons_succ])
      refine SeqS.alone (by decide +kernel) (by rfl) (fun K hK => ?_)
      go_simp
      go_at_call 8
      have cQ := (v_append z hn5.out OK.out.1 (by have := TH.out; omega) In5.out BR.out.2.1 heH.out)
      refine cQ.mono ?_
      rintro q v6 ⟨cs1, rfl, hn6, qn6⟩
      go_simp
      have bn6 := Lib.hid (bn5.out.keep qn6)
      have Sn6 := Lib.hid (Sn5.out.keep qn6)
      have kn6 := Lib.hid (kn5.out.below LT.out.1 (by have := bn5.out.size; omega) qn6)
      have nm6 := Lib.hid (nm5.out.keep qn6 nm5.out.lt)
      have In6 := Lib.hid (In5.out.keep qn6)
      have hn6 := Lib.hid hn6
      have iv6 := And.intro bn6.out.x bn6.out.o
      refine hK _ _ iv6 ?_
      clear hK K cQ qn6
      repeat ((first
        | (refine SeqS.k0 (v := ?_) ?_ ?_; rotate_left; focus (intro w' hb'; go_simp; with_reducible rfl))
        | (refine SeqS.u0 ?_)
        | (refine SeqS.k1 (v := ?_) ?_ ?_; rotate_left; focus (intro w' hb'; go_simp; with_reducible rfl))
        | (refine SeqS.u1 ?_)
        | (refine SeqS.k2 (v := ?_) ?_ ?_; rotate_left; focus (intro w' hb'; go_simp; with_reducible rfl))
        | (refine SeqS.u2 ?_)); simp only [Act.put, List.setIfInBounds_toArray, List.set_cons_zero, List.set_cons_succ])
      refine SeqS.alone (by decide +kernel) (by rfl) (fun K1 hK => ?_)
      have l1 := hn6.out.two.ddc.l
      have o1 := hn6.out.two.ddc.o
      have row1 : IsRow Tryz.prog 37 cs1.length := by rw [l1]; exact rowDd
      refine wp_store_part 37 (.tmp 19) _ rfl rfl rfl nm6.out row1 (by rw [l1, hzl]; decide) o1 (fun w9 dB g9 => ?_)
      rw [overV_all _ _ (by rw [l1, hzl])] at dB
      have b9 := bn6.out.far g9 (by omega)
      have S9 := Sn6.out.far g9 (by have := LT.out.2.1; omega) (by have := LT.out.2.2.1; omega)
      have kp9 := kn6.out.grown LT.out.1 (by have := bn6.out.size; omega) g9 (by omega)
      have h9 := hn6.out.grown g9 (.inr rfl) (by have := LT.out.2.2.2; omega)
      refine hK _ _ ⟨b9.x, b9.o⟩ ?_
      have iv9 := And.intro b9.x b9.o
      clear hK K1
      repeat ((first
        | (refine SeqS.k0 (v := ?_) ?_ ?_; rotate_left; focus (intro w' hb'; go_simp; with_reducible rfl))
        | (refine SeqS.u0 ?_)
        | (refine SeqS.k1 (v := ?_) ?_ ?_; rotate_left; focus (intro w' hb'; go_simp; with_reducible rfl))
        | (refine SeqS.u1 ?_)
        | (refine SeqS.k2 (v := ?_) ?_ ?_; rotate_left; focus (intro w' hb'; go_simp; with_reducible rfl))
        | (refine SeqS.u2 ?_)); simp only [Act.put, List.setIfInBounds_toArray, List.set_cons_zero, List.set_cons_succ])
      refine SeqS.done (by decide +kernel) ?_
      have hee : (e == e) = true := beq_self_eq_true e
      obtain ⟨M1, rfl⟩ : ∃ m, m = M := ⟨_, rfl⟩
      obtain ⟨M2, hM2⟩ : ∃ m, G + 1 = m := ⟨_, rfl⟩
      obtain ⟨so1, rfl⟩ : ∃ m, m = so := ⟨_, rfl⟩
      obtain ⟨fb1, rfl⟩ : ∃ m, m = fb := ⟨_, rfl⟩
      obtain ⟨s1, rfl⟩ : ∃ m, m = s := ⟨_, rfl⟩
      obtain ⟨sc1, rfl⟩ : ∃ m, m = sc := ⟨_, rfl⟩
      have sB := b9.s
      have fin := FN.out
      have ne9 := NE.out
      have in3 : (fun x => Fv E G x ∨ x = M1) (G + 3) := .inl (.inr ⟨by omega, by omega⟩)
      have in4 : (fun x => Fv E G x ∨ x = M1) (G + 4) := .inl (.inr ⟨by omega, by omega⟩)
      have lsE : ∀ b, (E b ∨ b = so1 ∨ b = fb1) → (fun x => Fv E G x ∨ x = M1) b := fun b hb => .inl (.inl (hb.elim id (fun hb => hb.elim (fun e => e ▸ EH.out.1) (fun e => e ▸ EH.out.2))))
      have far : (M1 ≠ G + 3 ∧ M1 ≠ G + 4) ∧ (M2 ≠ G + 3 ∧ M2 ≠ G + 4) ∧ (so1 ≠ G + 3 ∧ so1 ≠ G + 4) ∧ (fb1 ≠ G + 3 ∧ fb1 ≠ G + 4) := by have := LT.out.2.1; have := LT.out.2.2.1; omega
      obtain ⟨f1, f2, ⟨f3, f4⟩, ⟨f5, f6⟩⟩ := far
      have far := And.intro f1 (And.intro f2 trivial)
      rw [hM2] at sB
      simp only [hM2]
      clear iv9 l1 o1 row1 FN g9 h4H S4H b4H kp4H hsl hso hrowS hM2

      have l1 := h9.two.ddc.l
      have o1 := h9.two.ddc.o
      have row1 : IsRow Tryz.prog 37 cs1.length := by rw [l1]; exact rowDd
      obtain ⟨ls1, os1⟩ := h9.len
      have rowS1 : IsRow Tryz.prog 46 sc1.length := by rw [ls1]; exact rowSl
      have dr : Below w9.heap.size w9 w9.drew := (Below.refl _ _).drew
      have bd := b9.keep dr
      have hd := h9.keep dr
      have Sd := S9.keep dr
      have dd := dB.keep dr dB.lt
      have sd := sB.keep dr sB.lt
      have kpd := kp9.below LT.out.1 (by have := b9.size; omega) dr
      obtain ⟨V9, hV9⟩ : ∃ V, w9.drew = V := ⟨_, rfl⟩
      rw [hV9] at bd hd Sd dd sd kpd
      have V9H := Lib.hid hV9
      have hdH := Lib.hid hd
      have SdH := Lib.hid Sd
      have kpdH := Lib.hid kpd
      clear b9 h9 S9 dB sB kp9 dr hV9 hd Sd kpd
      go_wp2_with fail
      refine region_seqS (fun w' => Blk w' M1 37 cs1 ∧ Blk w' M2 46 sc1) (by kernel_rfl) (by rw [V9H.out]; exact ⟨dd, sd⟩) ?_
      have iv := And.intro dd sd
      simp only [pairs, Nat.reduceAdd]
      rw [V9H.out]
      repeat ((first
        | (refine SeqS.y0 (v := .agg (cs1).toArray) (yields_blk (by rfl) 37 (.tmp 19) rfl rfl (fun w' h => h.1) (row1)) ?_)
        | (refine SeqS.y0 (v := .agg (sc1).toArray) (yields_blk (by rfl) 46 (.tmp 8) rfl rfl (fun w' h => h.2) (rowS1)) ?_)
        | (refine SeqS.k0 (v := ?_) ?_ ?_; rotate_left; focus (intro w' hb'; go_simp; with_reducible rfl))
        | (refine SeqS.u0 ?_)); simp only [Act.put, List.setIfInBounds_toArray, List.set_cons_zero, List.set_cons_succ])
      refine SeqS.alone (by decide +kernel) (by rfl) (fun K1 hK => ?_)
      refine wp_store_part 37 (.tmp 11) _ rfl rfl rfl bd.y row1 (by rw [l1, hzl]; decide) o1 (fun wa ba ga => ?_)
      rw [overV_all _ _ (by rw [l1, hzl])] at ba
      have ya := bd.sety ba ga
      have da := dd.grown ga (fun e => by injection e with e; exact far.1.1 e)
      have sa := sd.grown ga (fun e => by injection e with e; exact far.2.1.1 e)
      have ha := hdH.out.grown ga in3 (by have := LT.out.2.2.2; omega)
      have Sa := SdH.out.far ga (by omega) (by omega)
      have kpa := kpdH.out.grown LT.out.1 (by have := bd.size; omega) ga (by omega)
      refine hK _ _ ⟨da, sa⟩ ?_
      have haH := Lib.hid ha
      have SaH := Lib.hid Sa
      have kpaH := Lib.hid kpa
      clear hK K1 iv bd dd sd hdH SdH kpdH ha Sa kpa ba ga
      have iv := And.intro da sa
      repeat ((first
        | (refine SeqS.y0 (v := .agg (sc1).toArray) (yields_blk (by rfl) 46 (.tmp 8) rfl rfl (fun w' h => h.2) (rowS1)) ?_)
        | (refine SeqS.k0 (v := ?_) ?_ ?_; rotate_left; focus (intro w' hb'; go_simp; with_reducible rfl))
        | (refine SeqS.u0 ?_)); simp only [Act.put, List.setIfInBounds_toArray, List.set_cons_zero, List.set_cons_succ])
      refine SeqS.alone (by decide +kernel) (by rfl) (fun K2 hK => ?_)
      refine wp_store_part 46 (.tmp 12) _ rfl rfl rfl ya.z rowS1 (by rw [ls1, hzzl]; decide) os1 (fun wb bb gb => ?_)
      rw [overV_all _ _ (by rw [ls1, hzzl])] at bb
      have yb := ya.setz bb gb
      have db := da.grown gb (fun e => by injection e with e; exact far.1.2 e)
      have sb := sa.grown gb (fun e => by injection e with e; exact far.2.1.2 e)
      have hb := (haH.out.grown gb in4 (by have := LT.out.2.2.2; omega)).less lsE
      have Sb' := SaH.out.far gb (by omega) (by omega)
      have kpb := kpaH.out.grown LT.out.1 (by have := ya.size; omega) gb (by omega)
      refine hK _ _ ⟨db, sb⟩ ?_
      clear hK K2 iv ya da sa haH SaH kpaH bb gb
      have iv := And.intro db sb
      repeat ((first
        | (refine SeqS.k0 (v := ?_) ?_ ?_; rotate_left; focus (intro w' hb'; go_simp; with_reducible rfl))
        | (refine SeqS.u0 ?_)); simp only [Act.put, List.setIfInBounds_toArray, List.set_cons_zero, List.set_cons_succ])
      refine SeqS.done (by decide +kernel) ?_
      have yy := yb.y
      have zz := yb.z
      clear iv db sb yb
      go_wp2
      refine bodyPost_ret (results_tbbt21 rfl rfl yy row1 rfl zz rowS1) rfl ?_
      exact ⟨so1, fb1, cs1, sc1, D1, s1, rfl, fin, hb, Sb', ne9, kpb⟩
  · refine ⟨[_, _, _, _, _], _, [_, _], rfl, by rfl, fun K hK => ?_⟩
    refine wp_alloc21 37 rfl hz ?_
    have qn5 := below1 w4d (.cells zs.toArray 37)
    have nm5 := Lib.hid (Blk.new w4d 37 zs)
    have bn5 := Lib.hid (b4H.out.keep qn5)
    have Sn5 := Lib.hid (S4H.out.keep qn5)
    have kn5 := Lib.hid (kp4H.out.below LT.out.1 (by have := b4H.out.size; omega) qn5)
    have gM := b4H.out.size
    have hn5 : T21 (fun x => Fv E G x ∨ x = w4d.heap.size) B w0 _ g _ sc D1 _ s := h4H.out.keepE qn5 (fun b hb => hb.imp id (fun hb => by rw [hb, size1]; exact ⟨Nat.le_refl _, Nat.lt_succ_self _⟩))
    obtain ⟨v5, hv5⟩ : ∃ V, w4d.alloc (.cells zs.toArray 37) = V := ⟨_, rfl⟩
    obtain ⟨M, hM⟩ : ∃ M, w4d.heap.size = M := ⟨_, rfl⟩
    rw [hv5, hM] at nm5 hn5
    rw [hv5] at bn5 Sn5 kn5
    rw [hM] at gM
    have hn5 := Lib.hid hn5
    have In5 := Lib.hid (I4.out.keep qn5)
    rw [hv5] at In5
    have iv5 := And.intro bn5.out.x bn5.out.o
    rw [hv5, hM]
    refine hK _ _ iv5 ?_
    clear hK K qn5 hv5 hM
    (try simp only [Act.put, List.setIfInBounds_toArray, List.set_cons_zero, List.set_cons_succ])
    repeat ((first
      | (refine SeqS.k0 (v := ?_) ?_ ?_; rotate_left; focus (intro w' hb'; go_simp; with_reducible rfl))
      | (refine SeqS.u0 ?_)
      | (refine SeqS.k1 (v := ?_) ?_ ?_; rotate_left; focus (intro w' hb'; go_simp; with_reducible rfl))
      | (refine SeqS.u1 ?_)
      | (refine SeqS.k2 (v := ?_) ?_ ?_; rotate_left; focus (intro w' hb'; go_simp; with_reducible rfl))
      | (refine SeqS.u2 ?_)); simp only [Act.put, List.setIfInBounds_toArray, List.set_cons_zero, List.set_cons_succ])
    refine SeqS.alone (by decide +kernel) (by rfl) (fun K hK => ?_)
    go_simp
    go_at_call 33
    refine (cw _).mono ?_
    rintro q wq ⟨rfl, rfl⟩
    go_simp
    refine hK _ _ iv5 ?_
    clear hK K
    repeat ((first
      | (refine SeqS.k0 (v := ?_) ?_ ?_; rotate_left; focus (intro w' hb'; go_simp; with_reducible rfl))
      | (refine SeqS.u0 ?_)
      | (refine SeqS.k1 (v := ?_) ?_ ?_; rotate_left; focus (intro w' hb'; go_simp; with_reducible rfl))
      | (refine SeqS.u1 ?_)
      | (refine SeqS.k2 (v := ?_) ?_ ?_; rotate_left; focus (intro w' hb'; go_simp; with_reducible rfl))
      | (refine SeqS.u2 ?_)); simp only [Act.put, List.setIfInBounds_toArray, List.set_cons_zero, List.set_cons_succ])
    refine SeqS.alone (by decide +kernel) (by rfl) (fun K hK => ?_)
    go_simp
    go_at_call 8
    have cQ := (v_append z hn5.out OK.out.1 (by have := TH.out; omega) In5.out BR.out.2.1 heH.out)
    refine cQ.mono ?_
    rintro q v6 ⟨cs1, rfl, hn6, qn6⟩
    go_simp
    have bn6 := Lib.hid (bn5.out.keep qn6)
    have Sn6 := Lib.hid (Sn5.out.keep qn6)
    have kn6 := Lib.hid (kn5.out.below LT.out.1 (by have := bn5.out.size; omega) qn6)
    have nm6 := Lib.hid (nm5.out.keep qn6 nm5.out.lt)
    have In6 := Lib.hid (In5.out.keep qn6)
    have hn6 := Lib.hid hn6
    have iv6 := And.intro bn6.out.x bn6.out.o
    refine hK _ _ iv6 ?_
    clear hK K cQ qn6
    repeat ((first
      | (refine SeqS.k0 (v := ?_) ?_ ?_; rotate_left; focus (intro w' hb'; go_simp; with_reducible rfl))
      | (refine SeqS.u0 ?_)
      | (refine SeqS.k1 (v := ?_) ?_ ?_; rotate_left; focus (intro w' hb'; go_simp; with_reducible rfl))
      | (refine SeqS.u1 ?_)
      | (refine SeqS.k2 (v := ?_) ?_ ?_; rotate_left; focus (intro w' hb'; go_simp; with_reducible rfl))
      | (refine SeqS.u2 ?_)); simp only [Act.put, List.setIfInBounds_toArray, List.set_cons_zero, List.set_cons_succ])
    refine SeqS.alone (by decide +kernel) (by rfl) (fun K1 hK => ?_)
    have l1 := hn6.out.two.ddc.l
    have o1 := hn6.out.two.ddc.o
    have row1 : IsRow Tryz.prog 37 cs1.length := by rw [l1]; exact rowDd
    refine wp_store_part 37 (.tmp 19) _ rfl rfl rfl nm6.out row1 (by rw [l1, hzl]; decide) o1 (fun w9 dB g9 => ?_)
    rw [overV_all _ _ (by rw [l1, hzl])] at dB
    have b9 := bn6.out.far g9 (by omega)
    have S9 := Sn6.out.far g9 (by have := LT.out.2.1; omega) (by have := LT.out.2.2.1; omega)
    have kp9 := kn6.out.grown LT.out.1 (by have := bn6.out.size; omega) g9 (by omega)
    have h9 := hn6.out.grown g9 (.inr rfl) (by have := LT.out.2.2.2; omega)
    refine hK _ _ ⟨b9.x, b9.o⟩ ?_
    have iv9 := And.intro b9.x b9.o
    clear hK K1
    repeat ((first
      | (refine SeqS.k0 (v := ?_) ?_ ?_; rotate_left; focus (intro w' hb'; go_simp; with_reducible rfl))
      | (refine SeqS.u0 ?_)
      | (refine SeqS.k1 (v := ?_) ?_ ?_; rotate_left; focus (intro w' hb'; go_simp; with_reducible rfl))
      | (refine SeqS.u1 ?_)
      | (refine SeqS.k2 (v := ?_) ?_ ?_; rotate_left; focus (intro w' hb'; go_simp; with_reducible rfl))
      | (refine SeqS.u2 ?_)); simp only [Act.put, List.setIfInBounds_toArray, List.set_cons_zero, List.set_cons_succ])
    refine SeqS.done (by decide +kernel) ?_
    have hee : (e == e) = true := beq_self_eq_true e
    obtain ⟨M1, rfl⟩ : ∃ m, m = M := ⟨_, rfl⟩
    obtain ⟨M2, hM2⟩ : ∃ m, G + 1 = m := ⟨_, rfl⟩
    obtain ⟨so1, rfl⟩ : ∃ m, m = so := ⟨_, rfl⟩
    obtain ⟨fb1, rfl⟩ : ∃ m, m = fb := ⟨_, rfl⟩
    obtain ⟨s1, rfl⟩ : ∃ m, m = s := ⟨_, rfl⟩
    obtain ⟨sc1, rfl⟩ : ∃ m, m = sc := ⟨_, rfl⟩
    have sB := b9.s
    have fin := FN.out
    have ne9 := NE.out
    have in3 : (fun x => Fv E G x ∨ x = M1) (G + 3) := .inl (.inr ⟨by omega, by omega⟩)
    have in4 : (fun x => Fv E G x ∨ x = M1) (G + 4) := .inl (.inr ⟨by omega, by omega⟩)
    have lsE : ∀ b, (E b ∨ b = so1 ∨ b = fb1) → (fun x => Fv E G x ∨ x = M1) b := fun b hb => .inl (.inl (hb.elim id (fun hb => hb.elim (fun e => e ▸ EH.out.1) (fun e => e ▸ EH.out.2))))
    have far : (M1 ≠ G + 3 ∧ M1 ≠ G + 4) ∧ (M2 ≠ G + 3 ∧ M2 ≠ G + 4) ∧ (so1 ≠ G + 3 ∧ so1 ≠ G + 4) ∧ (fb1 ≠ G + 3 ∧ fb1 ≠ G + 4) := by have := LT.out.2.1; have := LT.out.2.2.1; omega
    obtain ⟨f1, f2, ⟨f3, f4⟩, ⟨f5, f6⟩⟩ := far
    have far := And.intro f1 (And.intro f2 trivial)
    rw [hM2] at sB
    simp only [hM2]
    clear iv9 l1 o1 row1 FN g9 h4H S4H b4H kp4H hsl hso hrowS hM2

    have l1 := h9.two.ddc.l
    have o1 := h9.two.ddc.o
    have row1 : IsRow Tryz.prog 37 cs1.length := by rw [l1]; exact rowDd
    obtain ⟨ls1, os1⟩ := h9.len
    have rowS1 : IsRow Tryz.prog 46 sc1.length := by rw [ls1]; exact rowSl
    have dr : Below w9.heap.size w9 w9.drew := (Below.refl _ _).drew
    have bd := b9.keep dr
    have hd := h9.keep dr
    have Sd := S9.keep dr
    have dd := dB.keep dr dB.lt
    have sd := sB.keep dr sB.lt
    have kpd := kp9.below LT.out.1 (by have := b9.size; omega) dr
    obtain ⟨V9, hV9⟩ : ∃ V, w9.drew = V := ⟨_, rfl⟩
    rw [hV9] at bd hd Sd dd sd kpd
    have V9H := Lib.hid hV9
    have hdH := Lib.hid hd
    have SdH := Lib.hid Sd
    have kpdH := Lib.hid kpd
    clear b9 h9 S9 dB sB kp9 dr hV9 hd Sd kpd
    go_wp2_with fail
    refine region_seqS (fun w' => Blk w' M1 37 cs1 ∧ Blk w' M2 46 sc1) (by kernel_rfl) (by rw [V9H.out]; exact ⟨dd, sd⟩) ?_
    have iv := And.intro dd sd
    simp only [pairs, Nat.reduceAdd]
    rw [V9H.out]
    repeat ((first
      | (refine SeqS.y0 (v := .agg (cs1).toArray) (yields_blk (by rfl) 37 (.tmp 19) rfl rfl (fun w' h => h.1) (row1)) ?_)
      | (refine SeqS.y0 (v := .agg (sc1).toArray) (yields_blk (by rfl) 46 (.tmp 8) rfl rfl (fun w' h => h.2) (rowS1)) ?_)
      | (refine SeqS.k0 (v := ?_) ?_ ?_; rotate_left; focus (intro w' hb'; go_simp; with_reducible rfl))
      | (refine SeqS.u0 ?_)); simp only [Act.put, List.setIfInBounds_toArray, List.set_cons_zero, List.set_cons_succ])
    refine SeqS.alone (by decide +kernel) (by rfl) (fun K1 hK => ?_)
    refine wp_store_part 37 (.tmp 11) _ rfl rfl rfl bd.y row1 (by rw [l1, hzl]; decide) o1 (fun wa ba ga => ?_)
    rw [overV_all _ _ (by rw [l1, hzl])] at ba
    have ya := bd.sety ba ga
    have da := dd.grown ga (fun e => by injection e with e; exact far.1.1 e)
    have sa := sd.grown ga (fun e => by injection e with e; exact far.2.1.1 e)
    have ha := hdH.out.grown ga in3 (by have := LT.out.2.2.2; omega)
    have Sa := SdH.out.far ga (by omega) (by omega)
    have kpa := kpdH.out.grown LT.out.1 (by have := bd.size; omega) ga (by omega)
    refine hK _ _ ⟨da, sa⟩ ?_
    have haH := Lib.hid ha
    have SaH := Lib.hid Sa
    have kpaH := Lib.hid kpa
    clear hK K1 iv bd dd sd hdH SdH kpdH ha Sa kpa ba ga
    have iv := And.intro da sa
    repeat ((first
      | (refine SeqS.y0 (v := .agg (sc1).toArray) (yields_blk (by rfl) 46 (.tmp 8) rfl rfl (fun w' h => h.2) (rowS1)) ?_)
      | (refine SeqS.k0 (v := ?_) ?_ ?_; rotate_left; focus (intro w' hb'; go_simp; with_reducible rfl))
      | (refine SeqS.u0 ?_)); simp only [Act.put, List.setIfInBounds_toArray, List.set_cons_zero, List.set_cons_succ])
    refine SeqS.alone (by decide +kernel) (by rfl) (fun K2 hK => ?_)
    refine wp_store_part 46 (.tmp 12) _ rfl rfl rfl ya.z rowS1 (by rw [ls1, hzzl]; decide) os1 (fun wb bb gb => ?_)
    rw [overV_all _ _ (by rw [ls1, hzzl])] at bb
    have yb := ya.setz bb gb
    have db := da.grown gb (fun e => by injection e with e; exact far.1.2 e)
    have sb := sa.grown gb (fun e => by injection e with e; exact far.2.1.2 e)
    have hb := (haH.out.grown gb in4 (by have := LT.out.2.2.2; omega)).less lsE
    have Sb' := SaH.out.far gb (by omega) (by omega)
    have kpb := kpaH.out.grown LT.out.1 (by have := ya.size; omega) gb (by omega)
    refine hK _ _ ⟨db, sb⟩ ?_
    clear hK K2 iv ya da sa haH SaH kpaH bb gb
    have iv := And.intro db sb
    repeat ((first
      | (refine SeqS.k0 (v := ?_) ?_ ?_; rotate_left; focus (intro w' hb'; go_simp; with_reducible rfl))
      | (refine SeqS.u0 ?_)); simp only [Act.put, List.setIfInBounds_toArray, List.set_cons_zero, List.set_cons_succ])
    refine SeqS.done (by decide +kernel) ?_
    have yy := yb.y
    have zz := yb.z
    clear iv db sb yb
    go_wp2
    refine bodyPost_ret (results_tbbt21 rfl rfl yy row1 rfl zz rowS1) rfl ?_
    exact ⟨so1, fb1, cs1, sc1, D1, s1, rfl, fin, hb, Sb', ne9, kpb⟩
end Go.Proofs.YtcohbhimhacedaaGreatDoor

/-
  The law SlotDoes: its step, where the call is the disk's Sync. New memory is written, the landed disk's own and the landed slots'. Conditions: the disks have at most 3518437208880 steps; the files hold bytes; the call's bytes are at most 2^47.
-/
namespace Go.Proofs.YtcohbhimhacedaaGreatDoor
open Go.RowKit

set_option maxRecDepth 100000 in
set_option maxHeartbeats 8000000 in
theorem step21_4 {E : Nat → Prop} {B : Nat} {w0 w : World} {g so fb : Nat} {cs sc : List Value} {D : DkV} {s : SlV} {T : Nat} {o : OpS} (h : T21 E B w0 w g cs sc D D s) (hS : SlotAt w so g fb s.a s.b s.now) (hE : E so ∧ E fb) (hne : so ≠ fb) (hBs : B ≤ so) (hO : D.Ok T) (hT : T ≤ 3518437208880) (hD : D.By) (hok : s.Ok) (hab : s.a = 1 ∧ s.b = 2) (hcu : Cur D s) (hG0 : Glob11 w0) (hB0 : w0.heap.size ≤ B) (hk : o.Ok w) (hbl : ∀ x, o.ba = some x → 0 < o.bn → x.block < B) (hbn : o.bn ≤ 140737488355328) (hkk : o.k ≠ 0 ∧ o.k ≠ 1 ∧ o.k ≠ 2 ∧ o.k ≠ 3) :
    Calls Tryz.prog 12 #[.pointer (some ⟨g, 0, none⟩), .pointer (some ⟨so, 0, none⟩), .agg cs.toArray, .agg sc.toArray, .agg o.cells.toArray] w (StepTo E B w0 w g so T) := by
  have hl := h.two.ddc.l
  have ho1 := h.two.ddc.o
  have hBw := h.sz
  obtain ⟨hsl, hso⟩ := h.len
  have hrow : IsRow Tryz.prog 37 cs.length := by rw [hl]; exact rowDd
  have hrowS : IsRow Tryz.prog 46 sc.length := by rw [hsl]; exact rowSl
  obtain ⟨zs, hzs⟩ : ∃ zs, ddZ = zs := ⟨_, rfl⟩
  have hz := zeroDd
  have hzl := ddZ_len
  rw [hzs] at hz hzl
  obtain ⟨zS, hzS⟩ : ∃ zs, slZ = zs := ⟨_, rfl⟩
  have hzz := zeroSl
  have hzzl : slZ.length = 5 := rfl
  rw [hzS] at hzz hzzl
  obtain ⟨k, hk0⟩ : ∃ k, o.k = k := ⟨_, rfl⟩
  obtain ⟨N, hN0⟩ : ∃ N, o.n = N := ⟨_, rfl⟩
  obtain ⟨X, hX0⟩ : ∃ X, o.m = X := ⟨_, rfl⟩
  have z0 : o.cells[0]? = some (.int .i64 k) := by rw [← hk0]; rfl
  have z1 : o.cells[1]? = some (.int .i64 N) := by rw [← hN0]; rfl
  have z2 : o.cells[2]? = some (.int .i64 X) := by rw [← hX0]; rfl
  have z3 : o.cells[3]? = some (.slice o.ba o.bn o.bc) := rfl
  have hNr := hk.n
  rw [hN0] at hNr
  rw [hk0] at hkk
  obtain ⟨C, hC⟩ : ∃ C, o.cells = C := ⟨_, rfl⟩
  rw [hC] at z0 z1 z2 z3 ⊢
  obtain ⟨W, hW, b0, q0, hs0⟩ := Sb.start w cs sc C zs zS
  have ltE := h.lt
  have h3 : T21 (Fv E w.heap.size) B w0 W g cs sc D D s := h.keepE q0 (fun b hb => hb.imp id (fun hb => by rw [hs0]; omega))
  have S3 := hS.keep q0
  have kp3 : Kp E so w W := fun b hb _ => q0.block b (ltE b hb)
  obtain ⟨G, hG⟩ : ∃ G, w.heap.size = G := ⟨_, rfl⟩
  rw [hG] at b0 h3 ltE hs0 hBw
  have ltso : so < G := ltE so hE.1
  have ltfb : fb < G := ltE fb hE.2
  have hBG : B ≤ G := hBw
  have I0 := hk.b.keep q0
  have hbr := hk.br
  have c0 := (b0.o.cell 0).trans z0
  have WH := Lib.hid hW
  have GH := Lib.hid hG
  have OK := Lib.hid (show D.Ok T ∧ D.By ∧ s.Ok ∧ (s.a = 1 ∧ s.b = 2) ∧ Cur D s from ⟨hO, hD, hok, hab, hcu⟩)
  have TH := Lib.hid hT
  have HG := Lib.hid hG0
  have HB := Lib.hid hB0
  have LT := Lib.hid (show (∀ b, E b → b < G) ∧ so < G ∧ fb < G ∧ B ≤ G from ⟨ltE, ltso, ltfb, hBG⟩)
  have EH := Lib.hid hE
  have NE := Lib.hid (show so ≠ fb ∧ B ≤ so from ⟨hne, hBs⟩)
  have IH := Lib.hid I0
  have BR := Lib.hid (show (∀ z ∈ o.bs, 0 ≤ z ∧ z < 256) ∧ o.bn ≤ 140737488355328 ∧ ∀ x, o.ba = some x → 0 < o.bn → x.block < B from ⟨hbr, hbn, hbl⟩)
  have NR := Lib.hid hNr
  have h3H := Lib.hid h3
  have S3H := Lib.hid S3
  have b0H := Lib.hid b0
  have kp3H := Lib.hid kp3
  have Z1 := Lib.hid z1
  have Z2 := Lib.hid z2
  have Z3 := Lib.hid z3
  clear h hS hE hne hBs hO hT hD hok hab hcu hG0 hB0 hk hbl hbn hW hG q0 hs0 ltE ltso ltfb hBG I0 hbr h3 S3 kp3 z0 z1 z2 z3 hzs hzS hk0 hN0 hX0 hC hBw hNr b0
  go_enter Tryz.func12, Tryz.ntmps12
  go_wp2_with (first
    | ((with_reducible refine box_row rfl 37 (.tmp 2) rfl cs rfl ?_))
    | ((with_reducible refine box_row rfl 46 (.tmp 3) rfl sc rfl ?_))
    | ((with_reducible refine box_row rfl 51 (.tmp 4) rfl C rfl ?_))
    | (with_reducible refine wpList_alloc_blk rfl 37 rfl hz ?_)
    | (with_reducible refine wpList_alloc_blk rfl 46 rfl hzz ?_; refine RowKit.Hid.out ?_))
  refine Lib.hid ?_
  rw [WH.out]
  simp only [GH.out, Nat.add_assoc, Nat.reduceAdd]
  have hkb0 : (k == 0) = false := beq_eq_false_iff_ne.2 hkk.1
  have hkb1 : (k == 1) = false := beq_eq_false_iff_ne.2 hkk.2.1
  have hkb2 : (k == 2) = false := beq_eq_false_iff_ne.2 hkk.2.2.1
  have hkb3 : (k == 3) = false := beq_eq_false_iff_ne.2 hkk.2.2.2
  obtain ⟨hk0, hk1, hk2, hk3⟩ := hkk
  obtain ⟨z, hz12, cw⟩ := which_any N
  have hz3 : 0 ≤ z ∧ z < 3 := by omega
  obtain ⟨D1, e, he⟩ : ∃ D1 e, syD D z = (D1, e) := ⟨_, _, rfl⟩
  have ok1 := (syD_ok OK.out.1 z).more (Nat.le_succ T)
  have by1 := syD_by OK.out.2.1 z
  have cu1 := sy_cur OK.out.2.2.2.2 OK.out.2.2.1 z
  rw [he] at ok1 by1 cu1
  dsimp only at ok1 by1 cu1
  have FN := Lib.hid (show D1.Ok (T + 1) ∧ D1.By ∧ s.Ok ∧ (s.a = 1 ∧ s.b = 2) ∧ Cur D1 s from ⟨ok1, by1, OK.out.2.2.1, OK.out.2.2.2.1, cu1⟩)
  have heH := Lib.hid he
  have dr3 : Below W.heap.size W W := Below.refl _ _
  have cP := u_sync z h3H.out OK.out.1 (by have := TH.out; omega) he
  have c1 := (b0H.out.o.cell 1).trans Z1.out
  clear ok1 by1 cu1 he
  go_wp2_with fail
  refine (cw _).mono ?_
  rintro q wq ⟨rfl, rfl⟩
  go_wp2_with fail
  refine cP.mono ?_
  rintro q w4 ⟨rfl, h4, k4⟩
  have dr4 : Below w4.heap.size w4 w4.drew := (Below.refl _ _).drew
  have h4H := Lib.hid (h4.keep dr4)
  have S4H := Lib.hid ((S3H.out.keep dr3).same (k4 so (.inl EH.out.1)) (k4 fb (.inl EH.out.2)) |>.keep dr4)
  have b4H := Lib.hid (((b0H.out.keep dr3).same (fun b h1 h2 => k4 b (.inr ⟨h1, h2⟩))).keep dr4)
  have kp4H := Lib.hid (((kp3H.out.below LT.out.1 (by have := b0H.out.size; omega) dr3).same (F := Fv E G) (fun b hb => .inl hb) (fun b hb _ => k4 b hb)).below LT.out.1 (by have := (b0H.out.keep dr3).same (W' := w4) (fun b h1 h2 => k4 b (.inr ⟨h1, h2⟩)); have := this.size; omega) dr4)
  have I4 := Lib.hid ((ints_below h3H.out.b h4.b IH.out BR.out.2.2).keep dr4)
  obtain ⟨w4d, hw4d⟩ : ∃ v, w4.drew = v := ⟨_, rfl⟩
  rw [hw4d] at h4H S4H b4H kp4H I4
  have D4 := Lib.hid hw4d
  have iv4 := And.intro b4H.out.x b4H.out.o
  clear h4 k4 dr4 hw4d
  clear dr3 h3H S3H b0H kp3H c0 c1 cP
  go_wp2_with fail
  refine region_seqS (fun w' => Blk w' G 37 cs ∧ Blk w' (G + 2) 51 C) (by kernel_rfl) (by rw [D4.out]; exact iv4) ?_
  simp only [pairs, Nat.reduceAdd]
  rw [D4.out]
  repeat ((first
    | (refine SeqS.y0 (v := .agg (cs).toArray) (yields_blk (by rfl) 37 (.tmp 7) rfl rfl (fun w' h => h.1) (hrow)) ?_)
    | (refine SeqS.k0 (v := ?_) ?_ ?_; rotate_left; focus (intro w' hb'; go_simp; with_reducible rfl))
    | (refine SeqS.k0 (v := ?_) ?_ ?_; rotate_left; focus (intro w' hb'; have d0 := (hb'.2.cell 1).trans Z1.out; go_simp; with_reducible rfl))
    | (refine SeqS.u0 ?_)
    | (refine SeqS.y1 (v := .agg (cs).toArray) (yields_blk (by rfl) 37 (.tmp 7) rfl rfl (fun w' h => h.1) (hrow)) ?_)
    | (refine SeqS.k1 (v := ?_) ?_ ?_; rotate_left; focus (intro w' hb'; go_simp; with_reducible rfl))
    | (refine SeqS.k1 (v := ?_) ?_ ?_; rotate_left; focus (intro w' hb'; have d0 := (hb'.2.cell 1).trans Z1.out; go_simp; with_reducible rfl))
    | (refine SeqS.u1 ?_)
    | (refine SeqS.y2 (v := .agg (cs).toArray) (yields_blk (by rfl) 37 (.tmp 7) rfl rfl (fun w' h => h.1) (hrow)) ?_)
    | (refine SeqS.k2 (v := ?_) ?_ ?_; rotate_left; focus (intro w' hb'; go_simp; with_reducible rfl))
    | (refine SeqS.k2 (v := ?_) ?_ ?_; rotate_left; focus (intro w' hb'; have d0 := (hb'.2.cell 1).trans Z1.out; go_simp; with_reducible rfl))
    | (refine SeqS.u2 ?_)); simp only [Act.put, List.setIfInBounds_toArray, List.set_cons_zero, List.set_cons_succ])
  refine SeqS.either (rs := [3, 8]) (by decide +kernel) ?_
  intro ox hox
  simp only [List.mem_cons, List.not_mem_nil, or_false] at hox
  rcases hox with rfl | rfl
  · refine ⟨[], _, [_, _, _, _, _, _, _], rfl, by rfl, fun K hK => ?_⟩
    go_simp
    go_at_call 33
    refine (cw _).mono ?_
    rintro q wq ⟨rfl, rfl⟩
    go_simp
    refine hK _ _ iv4 ?_
    clear hK K
    repeat ((first
      | (refine SeqS.k0 (v := ?_) ?_ ?_; rotate_left; focus (intro w' hb'; go_simp; with_reducible rfl))
      | (refine SeqS.u0 ?_)
      | (refine SeqS.k1 (v := ?_) ?_ ?_; rotate_left; focus (intro w' hb'; go_simp; with_reducible rfl))
      | (refine SeqS.u1 ?_)
      | (refine SeqS.k2 (v := ?_) ?_ ?_; rotate_left; focus (intro w' hb'; go_simp; with_reducible rfl))
      | (refine SeqS.u2 ?_)); simp only [Act.put, List.setIfInBounds_toArray, List.set_cons_zero, List.set_cons_succ])
    refine SeqS.either (rs := [4, 8]) (by decide +kernel) ?_
    intro ox hox
    simp only [List.mem_cons, List.not_mem_nil, or_false] at hox
    rcases hox with rfl | rfl
    · refine ⟨[], _, [_, _, _, _, _, _], rfl, by rfl, fun K hK => ?_⟩
      go_simp
      go_at_call 39
      have cQ := (v_sync z h4H.out OK.out.1 (by have := TH.out; omega) heH.out)
      refine cQ.mono ?_
      rintro q v5 ⟨cs1, rfl, hn5, qn5⟩
      go_simp
      have bn5 := Lib.hid (b4H.out.keep qn5)
      have Sn5 := Lib.hid (S4H.out.keep qn5)
      have kn5 := Lib.hid (kp4H.out.below LT.out.1 (by have := b4H.out.size; omega) qn5)
      have In5 := Lib.hid (I4.out.keep qn5)
      have hn5 := Lib.hid hn5
      have iv5 := And.intro bn5.out.x bn5.out.o
      refine hK _ _ iv5 ?_
      clear hK K cQ qn5
      repeat ((first
        | (refine SeqS.k0 (v := ?_) ?_ ?_; rotate_left; focus (intro w' hb'; go_simp; with_reducible rfl))
        | (refine SeqS.u0 ?_)
        | (refine SeqS.k1 (v := ?_) ?_ ?_; rotate_left; focus (intro w' hb'; go_simp; with_reducible rfl))
        | (refine SeqS.u1 ?_)
        | (refine SeqS.k2 (v := ?_) ?_ ?_; rotate_left; focus (intro w' hb'; go_simp; with_reducible rfl))
        | (refine SeqS.u2 ?_)); simp only [Act.put, List.setIfInBounds_toArray, List.set_cons_zero, List.set_cons_succ])
      refine SeqS.alone (by decide +kernel) (by rfl) (fun K hK => ?_)
      refine wp_alloc21 37 rfl hz ?_
      have qn6 := below1 v5 (.cells zs.toArray 37)
      have nm6 := Lib.hid (Blk.new v5 37 zs)
      have bn6 := Lib.hid (bn5.out.keep qn6)
      have Sn6 := Lib.hid (Sn5.out.keep qn6)
      have kn6 := Lib.hid (kn5.out.below LT.out.1 (by have := bn5.out.size; omega) qn6)
      have gM := bn5.out.size
      have hn6 : T21 (fun x => Fv E G x ∨ x = v5.heap.size) B w0 _ g _ sc D1 _ s := hn5.out.keepE qn6 (fun b hb => hb.imp id (fun hb => by rw [hb, size1]; exact ⟨Nat.le_refl _, Nat.lt_succ_self _⟩))
      obtain ⟨v6, hv6⟩ : ∃ V, v5.alloc (.cells zs.toArray 37) = V := ⟨_, rfl⟩
      obtain ⟨M, hM⟩ : ∃ M, v5.heap.size = M := ⟨_, rfl⟩
      rw [hv6, hM] at nm6 hn6
      rw [hv6] at bn6 Sn6 kn6
      rw [hM] at gM
      have hn6 := Lib.hid hn6
      have In6 := Lib.hid (In5.out.keep qn6)
      rw [hv6] at In6
      have iv6 := And.intro bn6.out.x bn6.out.o
      rw [hv6, hM]
      refine hK _ _ iv6 ?_
      clear hK K qn6 hv6 hM
      (try simp only [Act.put, List.setIfInBounds_toArray, List.set_cons_zero, List.set_cons_succ])
      repeat ((first
        | (refine SeqS.k0 (v := ?_) ?_ ?_; rotate_left; focus (intro w' hb'; go_simp; with_reducible rfl))
        | (refine SeqS.u0 ?_)
        | (refine SeqS.k1 (v := ?_) ?_ ?_; rotate_left; focus (intro w' hb'; go_simp; with_reducible rfl))
        | (refine SeqS.u1 ?_)
        | (refine SeqS.k2 (v := ?_) ?_ ?_; rotate_left; focus (intro w' hb'; go_simp; with_reducible rfl))
        | (refine SeqS.u2 ?_)); simp only [Act.put, List.setIfInBounds_toArray, List.set_cons_zero, List.set_cons_succ])
      refine SeqS.alone (by decide +kernel) (by rfl) (fun K1 hK => ?_)
      have l1 := hn6.out.two.ddc.l
      have o1 := hn6.out.two.ddc.o
      have row1 : IsRow Tryz.prog 37 cs1.length := by rw [l1]; exact rowDd
      refine wp_store_part 37 (.tmp 26) _ rfl rfl rfl nm6.out row1 (by rw [l1, hzl]; decide) o1 (fun w9 dB g9 => ?_)
      rw [overV_all _ _ (by rw [l1, hzl])] at dB
      have b9 := bn6.out.far g9 (by omega)
      have S9 := Sn6.out.far g9 (by have := LT.out.2.1; omega) (by have := LT.out.2.2.1; omega)
      have kp9 := kn6.out.grown LT.out.1 (by have := bn6.out.size; omega) g9 (by omega)
      have h9 := hn6.out.grown g9 (.inr rfl) (by have := LT.out.2.2.2; omega)
      refine hK _ _ ⟨b9.x, b9.o⟩ ?_
      have iv9 := And.intro b9.x b9.o
      clear hK K1
      repeat ((first
        | (refine SeqS.k0 (v := ?_) ?_ ?_; rotate_left; focus (intro w' hb'; go_simp; with_reducible rfl))
        | (refine SeqS.u0 ?_)
        | (refine SeqS.k1 (v := ?_) ?_ ?_; rotate_left; focus (intro w' hb'; go_simp; with_reducible rfl))
        | (refine SeqS.u1 ?_)
        | (refine SeqS.k2 (v := ?_) ?_ ?_; rotate_left; focus (intro w' hb'; go_simp; with_reducible rfl))
        | (refine SeqS.u2 ?_)); simp only [Act.put, List.setIfInBounds_toArray, List.set_cons_zero, List.set_cons_succ])
      refine SeqS.done (by decide +kernel) ?_
      have hee : (e == e) = true := beq_self_eq_true e
      obtain ⟨M1, rfl⟩ : ∃ m, m = M := ⟨_, rfl⟩
      obtain ⟨M2, hM2⟩ : ∃ m, G + 1 = m := ⟨_, rfl⟩
      obtain ⟨so1, rfl⟩ : ∃ m, m = so := ⟨_, rfl⟩
      obtain ⟨fb1, rfl⟩ : ∃ m, m = fb := ⟨_, rfl⟩
      obtain ⟨s1, rfl⟩ : ∃ m, m = s := ⟨_, rfl⟩
      obtain ⟨sc1, rfl⟩ : ∃ m, m = sc := ⟨_, rfl⟩
      have sB := b9.s
      have fin := FN.out
      have ne9 := NE.out
      have in3 : (fun x => Fv E G x ∨ x = M1) (G + 3) := .inl (.inr ⟨by omega, by omega⟩)
      have in4 : (fun x => Fv E G x ∨ x = M1) (G + 4) := .inl (.inr ⟨by omega, by omega⟩)
      have lsE : ∀ b, (E b ∨ b = so1 ∨ b = fb1) → (fun x => Fv E G x ∨ x = M1) b := fun b hb => .inl (.inl (hb.elim id (fun hb => hb.elim (fun e => e ▸ EH.out.1) (fun e => e ▸ EH.out.2))))
      have far : (M1 ≠ G + 3 ∧ M1 ≠ G + 4) ∧ (M2 ≠ G + 3 ∧ M2 ≠ G + 4) ∧ (so1 ≠ G + 3 ∧ so1 ≠ G + 4) ∧ (fb1 ≠ G + 3 ∧ fb1 ≠ G + 4) := by have := LT.out.2.1; have := LT.out.2.2.1; omega
      obtain ⟨f1, f2, ⟨f3, f4⟩, ⟨f5, f6⟩⟩ := far
      have far := And.intro f1 (And.intro f2 trivial)
      rw [hM2] at sB
      simp only [hM2]
      clear iv9 l1 o1 row1 FN g9 h4H S4H b4H kp4H hsl hso hrowS hM2

      have l1 := h9.two.ddc.l
      have o1 := h9.two.ddc.o
      have row1 : IsRow Tryz.prog 37 cs1.length := by rw [l1]; exact rowDd
      obtain ⟨ls1, os1⟩ := h9.len
      have rowS1 : IsRow Tryz.prog 46 sc1.length := by rw [ls1]; exact rowSl
      have dr : Below w9.heap.size w9 w9.drew := (Below.refl _ _).drew
      have bd := b9.keep dr
      have hd := h9.keep dr
      have Sd := S9.keep dr
      have dd := dB.keep dr dB.lt
      have sd := sB.keep dr sB.lt
      have kpd := kp9.below LT.out.1 (by have := b9.size; omega) dr
      obtain ⟨V9, hV9⟩ : ∃ V, w9.drew = V := ⟨_, rfl⟩
      rw [hV9] at bd hd Sd dd sd kpd
      have V9H := Lib.hid hV9
      have hdH := Lib.hid hd
      have SdH := Lib.hid Sd
      have kpdH := Lib.hid kpd
      clear b9 h9 S9 dB sB kp9 dr hV9 hd Sd kpd
      go_wp2_with fail
      refine region_seqS (fun w' => Blk w' M1 37 cs1 ∧ Blk w' M2 46 sc1) (by kernel_rfl) (by rw [V9H.out]; exact ⟨dd, sd⟩) ?_
      have iv := And.intro dd sd
      simp only [pairs, Nat.reduceAdd]
      rw [V9H.out]
      repeat ((first
        | (refine SeqS.y0 (v := .agg (cs1).toArray) (yields_blk (by rfl) 37 (.tmp 26) rfl rfl (fun w' h => h.1) (row1)) ?_)
        | (refine SeqS.y0 (v := .agg (sc1).toArray) (yields_blk (by rfl) 46 (.tmp 8) rfl rfl (fun w' h => h.2) (rowS1)) ?_)
        | (refine SeqS.k0 (v := ?_) ?_ ?_; rotate_left; focus (intro w' hb'; go_simp; with_reducible rfl))
        | (refine SeqS.u0 ?_)); simp only [Act.put, List.setIfInBounds_toArray, List.set_cons_zero, List.set_cons_succ])
      refine SeqS.alone (by decide +kernel) (by rfl) (fun K1 hK => ?_)
      refine wp_store_part 37 (.tmp 11) _ rfl rfl rfl bd.y row1 (by rw [l1, hzl]; decide) o1 (fun wa ba ga => ?_)
      rw [overV_all _ _ (by rw [l1, hzl])] at ba
      have ya := bd.sety ba ga
      have da := dd.grown ga (fun e => by injection e with e; exact far.1.1 e)
      have sa := sd.grown ga (fun e => by injection e with e; exact far.2.1.1 e)
      have ha := hdH.out.grown ga in3 (by have := LT.out.2.2.2; omega)
      have Sa := SdH.out.far ga (by omega) (by omega)
      have kpa := kpdH.out.grown LT.out.1 (by have := bd.size; omega) ga (by omega)
      refine hK _ _ ⟨da, sa⟩ ?_
      have haH := Lib.hid ha
      have SaH := Lib.hid Sa
      have kpaH := Lib.hid kpa
      clear hK K1 iv bd dd sd hdH SdH kpdH ha Sa kpa ba ga
      have iv := And.intro da sa
      repeat ((first
        | (refine SeqS.y0 (v := .agg (sc1).toArray) (yields_blk (by rfl) 46 (.tmp 8) rfl rfl (fun w' h => h.2) (rowS1)) ?_)
        | (refine SeqS.k0 (v := ?_) ?_ ?_; rotate_left; focus (intro w' hb'; go_simp; with_reducible rfl))
        | (refine SeqS.u0 ?_)); simp only [Act.put, List.setIfInBounds_toArray, List.set_cons_zero, List.set_cons_succ])
      refine SeqS.alone (by decide +kernel) (by rfl) (fun K2 hK => ?_)
      refine wp_store_part 46 (.tmp 12) _ rfl rfl rfl ya.z rowS1 (by rw [ls1, hzzl]; decide) os1 (fun wb bb gb => ?_)
      rw [overV_all _ _ (by rw [ls1, hzzl])] at bb
      have yb := ya.setz bb gb
      have db := da.grown gb (fun e => by injection e with e; exact far.1.2 e)
      have sb := sa.grown gb (fun e => by injection e with e; exact far.2.1.2 e)
      have hb := (haH.out.grown gb in4 (by have := LT.out.2.2.2; omega)).less lsE
      have Sb' := SaH.out.far gb (by omega) (by omega)
      have kpb := kpaH.out.grown LT.out.1 (by have := ya.size; omega) gb (by omega)
      refine hK _ _ ⟨db, sb⟩ ?_
      clear hK K2 iv ya da sa haH SaH kpaH bb gb
      have iv := And.intro db sb
      repeat ((first
        | (refine SeqS.k0 (v := ?_) ?_ ?_; rotate_left; focus (intro w' hb'; go_simp; with_reducible rfl))
        | (refine SeqS.u0 ?_)); simp only [Act.put, List.setIfInBounds_toArray, List.set_cons_zero, List.set_cons_succ])
      refine SeqS.done (by decide +kernel) ?_
      have yy := yb.y
      have zz := yb.z
      clear iv db sb yb
      go_wp2
      refine bodyPost_ret (results_tbbt21 rfl rfl yy row1 rfl zz rowS1) rfl ?_
      exact ⟨so1, fb1, cs1, sc1, D1, s1, rfl, fin, hb, Sb', ne9, kpb⟩
    · refine ⟨[_, _, _, _], _, [_, _], rfl, by rfl, fun K hK => ?_⟩
      refine wp_alloc21 37 rfl hz ?_
      have qn5 := below1 w4d (.cells zs.toArray 37)
      have nm5 := Lib.hid (Blk.new w4d 37 zs)
      have bn5 := Lib.hid (b4H.out.keep qn5)
      have Sn5 := Lib.hid (S4H.out.keep qn5)
      have kn5 := Lib.hid (kp4H.out.below LT.out.1 (by have := b4H.out.size; omega) qn5)
      have gM := b4H.out.size
      have hn5 : T21 (fun x => Fv E G x ∨ x = w4d.heap.size) B w0 _ g _ sc D1 _ s := h4H.out.keepE qn5 (fun b hb => hb.imp id (fun hb => by rw [hb, size1]; exact ⟨Nat.le_refl _, Nat.lt_succ_self _⟩))
      obtain ⟨v5, hv5⟩ : ∃ V, w4d.alloc (.cells zs.toArray 37) = V := ⟨_, rfl⟩
      obtain ⟨M, hM⟩ : ∃ M, w4d.heap.size = M := ⟨_, rfl⟩
      rw [hv5, hM] at nm5 hn5
      rw [hv5] at bn5 Sn5 kn5
      rw [hM] at gM
      have hn5 := Lib.hid hn5
      have In5 := Lib.hid (I4.out.keep qn5)
      rw [hv5] at In5
      have iv5 := And.intro bn5.out.x bn5.out.o
      rw [hv5, hM]
      refine hK _ _ iv5 ?_
      clear hK K qn5 hv5 hM
      (try simp only [Act.put, List.setIfInBounds_toArray, List.set_cons_zero, List.set_cons_succ])
      repeat ((first
        | (refine SeqS.k0 (v := ?_) ?_ ?_; rotate_left; focus (intro w' hb'; go_simp; with_reducible rfl))
        | (refine SeqS.u0 ?_)
        | (refine SeqS.k1 (v := ?_) ?_ ?_; rotate_left; focus (intro w' hb'; go_simp; with_reducible rfl))
        | (refine SeqS.u1 ?_)
        | (refine SeqS.k2 (v := ?_) ?_ ?_; rotate_left; focus (intro w' hb'; go_simp; with_reducible rfl))
        | (refine SeqS.u2 ?_)); simp only [Act.put, List.setIfInBounds_toArray, List.set_cons_zero, List.set_cons_succ])
      refine SeqS.alone (by decide +kernel) (by rfl) (fun K hK => ?_)
      go_simp
      go_at_call 39
      have cQ := (v_sync z hn5.out OK.out.1 (by have := TH.out; omega) heH.out)
      refine cQ.mono ?_
      rintro q v6 ⟨cs1, rfl, hn6, qn6⟩
      go_simp
      have bn6 := Lib.hid (bn5.out.keep qn6)
      have Sn6 := Lib.hid (Sn5.out.keep qn6)
      have kn6 := Lib.hid (kn5.out.below LT.out.1 (by have := bn5.out.size; omega) qn6)
      have nm6 := Lib.hid (nm5.out.keep qn6 nm5.out.lt)
      have In6 := Lib.hid (In5.out.keep qn6)
      have hn6 := Lib.hid hn6
      have iv6 := And.intro bn6.out.x bn6.out.o
      refine hK _ _ iv6 ?_
      clear hK K cQ qn6
      repeat ((first
        | (refine SeqS.k0 (v := ?_) ?_ ?_; rotate_left; focus (intro w' hb'; go_simp; with_reducible rfl))
        | (refine SeqS.u0 ?_)
        | (refine SeqS.k1 (v := ?_) ?_ ?_; rotate_left; focus (intro w' hb'; go_simp; with_reducible rfl))
        | (refine SeqS.u1 ?_)
        | (refine SeqS.k2 (v := ?_) ?_ ?_; rotate_left; focus (intro w' hb'; go_simp; with_reducible rfl))
        | (refine SeqS.u2 ?_)); simp only [Act.put, List.setIfInBounds_toArray, List.set_cons_zero, List.set_cons_succ])
      refine SeqS.alone (by decide +kernel) (by rfl) (fun K1 hK => ?_)
      have l1 := hn6.out.two.ddc.l
      have o1 := hn6.out.two.ddc.o
      have row1 : IsRow Tryz.prog 37 cs1.length := by rw [l1]; exact rowDd
      refine wp_store_part 37 (.tmp 26) _ rfl rfl rfl nm6.out row1 (by rw [l1, hzl]; decide) o1 (fun w9 dB g9 => ?_)
      rw [overV_all _ _ (by rw [l1, hzl])] at dB
      have b9 := bn6.out.far g9 (by omega)
      have S9 := Sn6.out.far g9 (by have := LT.out.2.1; omega) (by have := LT.out.2.2.1; omega)
      have kp9 := kn6.out.grown LT.out.1 (by have := bn6.out.size; omega) g9 (by omega)
      have h9 := hn6.out.grown g9 (.inr rfl) (by have := LT.out.2.2.2; omega)
      refine hK _ _ ⟨b9.x, b9.o⟩ ?_
      have iv9 := And.intro b9.x b9.o
      clear hK K1
      repeat ((first
        | (refine SeqS.k0 (v := ?_) ?_ ?_; rotate_left; focus (intro w' hb'; go_simp; with_reducible rfl))
        | (refine SeqS.u0 ?_)
        | (refine SeqS.k1 (v := ?_) ?_ ?_; rotate_left; focus (intro w' hb'; go_simp; with_reducible rfl))
        | (refine SeqS.u1 ?_)
        | (refine SeqS.k2 (v := ?_) ?_ ?_; rotate_left; focus (intro w' hb'; go_simp; with_reducible rfl))
        | (refine SeqS.u2 ?_)); simp only [Act.put, List.setIfInBounds_toArray, List.set_cons_zero, List.set_cons_succ])
      refine SeqS.done (by decide +kernel) ?_
      have hee : (e == e) = true := beq_self_eq_true e
      obtain ⟨M1, rfl⟩ : ∃ m, m = M := ⟨_, rfl⟩
      obtain ⟨M2, hM2⟩ : ∃ m, G + 1 = m := ⟨_, rfl⟩
      obtain ⟨so1, rfl⟩ : ∃ m, m = so := ⟨_, rfl⟩
      obtain ⟨fb1, rfl⟩ : ∃ m, m = fb := ⟨_, rfl⟩
      obtain ⟨s1, rfl⟩ : ∃ m, m = s := ⟨_, rfl⟩
      obtain ⟨sc1, rfl⟩ : ∃ m, m = sc := ⟨_, rfl⟩
      have sB := b9.s
      have fin := FN.out
      have ne9 := NE.out
      have in3 : (fun x => Fv E G x ∨ x = M1) (G + 3) := .inl (.inr ⟨by omega, by omega⟩)
      have in4 : (fun x => Fv E G x ∨ x = M1) (G + 4) := .inl (.inr ⟨by omega, by omega⟩)
      have lsE : ∀ b, (E b ∨ b = so1 ∨ b = fb1) → (fun x => Fv E G x ∨ x = M1) b := fun b hb => .inl (.inl (hb.elim id (fun hb => hb.elim (fun e => e ▸ EH.out.1) (fun e => e ▸ EH.out.2))))
      have far : (M1 ≠ G + 3 ∧ M1 ≠ G + 4) ∧ (M2 ≠ G + 3 ∧ M2 ≠ G + 4) ∧ (so1 ≠ G + 3 ∧ so1 ≠ G + 4) ∧ (fb1 ≠ G + 3 ∧ fb1 ≠ G + 4) := by have := LT.out.2.1; have := LT.out.2.2.1; omega
      obtain ⟨f1, f2, ⟨f3, f4⟩, ⟨f5, f6⟩⟩ := far
      have far := And.intro f1 (And.intro f2 trivial)
      rw [hM2] at sB
      simp only [hM2]
      clear iv9 l1 o1 row1 FN g9 h4H S4H b4H kp4H hsl hso hrowS hM2

      have l1 := h9.two.ddc.l
      have o1 := h9.two.ddc.o
      have row1 : IsRow Tryz.prog 37 cs1.length := by rw [l1]; exact rowDd
      obtain ⟨ls1, os1⟩ := h9.len
      have rowS1 : IsRow Tryz.prog 46 sc1.length := by rw [ls1]; exact rowSl
      have dr : Below w9.heap.size w9 w9.drew := (Below.refl _ _).drew
      have bd := b9.keep dr
      have hd := h9.keep dr
      have Sd := S9.keep dr
      have dd := dB.keep dr dB.lt
      have sd := sB.keep dr sB.lt
      have kpd := kp9.below LT.out.1 (by have := b9.size; omega) dr
      obtain ⟨V9, hV9⟩ : ∃ V, w9.drew = V := ⟨_, rfl⟩
      rw [hV9] at bd hd Sd dd sd kpd
      have V9H := Lib.hid hV9
      have hdH := Lib.hid hd
      have SdH := Lib.hid Sd
      have kpdH := Lib.hid kpd
      clear b9 h9 S9 dB sB kp9 dr hV9 hd Sd kpd
      go_wp2_with fail
      refine region_seqS (fun w' => Blk w' M1 37 cs1 ∧ Blk w' M2 46 sc1) (by kernel_rfl) (by rw [V9H.out]; exact ⟨dd, sd⟩) ?_
      have iv := And.intro dd sd
      simp only [pairs, Nat.reduceAdd]
      rw [V9H.out]
      repeat ((first
        | (refine SeqS.y0 (v := .agg (cs1).toArray) (yields_blk (by rfl) 37 (.tmp 26) rfl rfl (fun w' h => h.1) (row1)) ?_)
        | (refine SeqS.y0 (v := .agg (sc1).toArray) (yields_blk (by rfl) 46 (.tmp 8) rfl rfl (fun w' h => h.2) (rowS1)) ?_)
        | (refine SeqS.k0 (v := ?_) ?_ ?_; rotate_left; focus (intro w' hb'; go_simp; with_reducible rfl))
        | (refine SeqS.u0 ?_)); simp only [Act.put, List.setIfInBounds_toArray, List.set_cons_zero, List.set_cons_succ])
      refine SeqS.alone (by decide +kernel) (by rfl) (fun K1 hK => ?_)
      refine wp_store_part 37 (.tmp 11) _ rfl rfl rfl bd.y row1 (by rw [l1, hzl]; decide) o1 (fun wa ba ga => ?_)
      rw [overV_all _ _ (by rw [l1, hzl])] at ba
      have ya := bd.sety ba ga
      have da := dd.grown ga (fun e => by injection e with e; exact far.1.1 e)
      have sa := sd.grown ga (fun e => by injection e with e; exact far.2.1.1 e)
      have ha := hdH.out.grown ga in3 (by have := LT.out.2.2.2; omega)
      have Sa := SdH.out.far ga (by omega) (by omega)
      have kpa := kpdH.out.grown LT.out.1 (by have := bd.size; omega) ga (by omega)
      refine hK _ _ ⟨da, sa⟩ ?_
      have haH := Lib.hid ha
      have SaH := Lib.hid Sa
      have kpaH := Lib.hid kpa
      clear hK K1 iv bd dd sd hdH SdH kpdH ha Sa kpa ba ga
      have iv := And.intro da sa
      repeat ((first
        | (refine SeqS.y0 (v := .agg (sc1).toArray) (yields_blk (by rfl) 46 (.tmp 8) rfl rfl (fun w' h => h.2) (rowS1)) ?_)
        | (refine SeqS.k0 (v := ?_) ?_ ?_; rotate_left; focus (intro w' hb'; go_simp; with_reducible rfl))
        | (refine SeqS.u0 ?_)); simp only [Act.put, List.setIfInBounds_toArray, List.set_cons_zero, List.set_cons_succ])
      refine SeqS.alone (by decide +kernel) (by rfl) (fun K2 hK => ?_)
      refine wp_store_part 46 (.tmp 12) _ rfl rfl rfl ya.z rowS1 (by rw [ls1, hzzl]; decide) os1 (fun wb bb gb => ?_)
      rw [overV_all _ _ (by rw [ls1, hzzl])] at bb
      have yb := ya.setz bb gb
      have db := da.grown gb (fun e => by injection e with e; exact far.1.2 e)
      have sb := sa.grown gb (fun e => by injection e with e; exact far.2.1.2 e)
      have hb := (haH.out.grown gb in4 (by have := LT.out.2.2.2; omega)).less lsE
      have Sb' := SaH.out.far gb (by omega) (by omega)
      have kpb := kpaH.out.grown LT.out.1 (by have := ya.size; omega) gb (by omega)
      refine hK _ _ ⟨db, sb⟩ ?_
      clear hK K2 iv ya da sa haH SaH kpaH bb gb
      have iv := And.intro db sb
      repeat ((first
        | (refine SeqS.k0 (v := ?_) ?_ ?_; rotate_left; focus (intro w' hb'; go_simp; with_reducible rfl))
        | (refine SeqS.u0 ?_)); simp only [Act.put, List.setIfInBounds_toArray, List.set_cons_zero, List.set_cons_succ])
      refine SeqS.done (by decide +kernel) ?_
      have yy := yb.y
      have zz := yb.z
      clear iv db sb yb
      go_wp2
      refine bodyPost_ret (results_tbbt21 rfl rfl yy row1 rfl zz rowS1) rfl ?_
      exact ⟨so1, fb1, cs1, sc1, D1, s1, rfl, fin, hb, Sb', ne9, kpb⟩
  · refine ⟨[_, _, _, _, _], _, [_, _], rfl, by rfl, fun K hK => ?_⟩
    refine wp_alloc21 37 rfl hz ?_
    have qn5 := below1 w4d (.cells zs.toArray 37)
    have nm5 := Lib.hid (Blk.new w4d 37 zs)
    have bn5 := Lib.hid (b4H.out.keep qn5)
    have Sn5 := Lib.hid (S4H.out.keep qn5)
    have kn5 := Lib.hid (kp4H.out.below LT.out.1 (by have := b4H.out.size; omega) qn5)
    have gM := b4H.out.size
    have hn5 : T21 (fun x => Fv E G x ∨ x = w4d.heap.size) B w0 _ g _ sc D1 _ s := h4H.out.keepE qn5 (fun b hb => hb.imp id (fun hb => by rw [hb, size1]; exact ⟨Nat.le_refl _, Nat.lt_succ_self _⟩))
    obtain ⟨v5, hv5⟩ : ∃ V, w4d.alloc (.cells zs.toArray 37) = V := ⟨_, rfl⟩
    obtain ⟨M, hM⟩ : ∃ M, w4d.heap.size = M := ⟨_, rfl⟩
    rw [hv5, hM] at nm5 hn5
    rw [hv5] at bn5 Sn5 kn5
    rw [hM] at gM
    have hn5 := Lib.hid hn5
    have In5 := Lib.hid (I4.out.keep qn5)
    rw [hv5] at In5
    have iv5 := And.intro bn5.out.x bn5.out.o
    rw [hv5, hM]
    refine hK _ _ iv5 ?_
    clear hK K qn5 hv5 hM
    (try simp only [Act.put, List.setIfInBounds_toArray, List.set_cons_zero, List.set_cons_succ])
    repeat ((first
      | (refine SeqS.k0 (v := ?_) ?_ ?_; rotate_left; focus (intro w' hb'; go_simp; with_reducible rfl))
      | (refine SeqS.u0 ?_)
      | (refine SeqS.k1 (v := ?_) ?_ ?_; rotate_left; focus (intro w' hb'; go_simp; with_reducible rfl))
      | (refine SeqS.u1 ?_)
      | (refine SeqS.k2 (v := ?_) ?_ ?_; rotate_left; focus (intro w' hb'; go_simp; with_reducible rfl))
      | (refine SeqS.u2 ?_)); simp only [Act.put, List.setIfInBounds_toArray, List.set_cons_zero, List.set_cons_succ])
    refine SeqS.alone (by decide +kernel) (by rfl) (fun K hK => ?_)
    go_simp
    go_at_call 33
    refine (cw _).mono ?_
    rintro q wq ⟨rfl, rfl⟩
    go_simp
    refine hK _ _ iv5 ?_
    clear hK K
    repeat ((first
      | (refine SeqS.k0 (v := ?_) ?_ ?_; rotate_left; focus (intro w' hb'; go_simp; with_reducible rfl))
      | (refine SeqS.u0 ?_)
      | (refine SeqS.k1 (v := ?_) ?_ ?_; rotate_left; focus (intro w' hb'; go_simp; with_reducible rfl))
      | (refine SeqS.u1 ?_)
      | (refine SeqS.k2 (v := ?_) ?_ ?_; rotate_left; focus (intro w' hb'; go_simp; with_reducible rfl))
      | (refine SeqS.u2 ?_)); simp only [Act.put, List.setIfInBounds_toArray, List.set_cons_zero, List.set_cons_succ])
    refine SeqS.alone (by decide +kernel) (by rfl) (fun K hK => ?_)
    go_simp
    go_at_call 39
    have cQ := (v_sync z hn5.out OK.out.1 (by have := TH.out; omega) heH.out)
    refine cQ.mono ?_
    rintro q v6 ⟨cs1, rfl, hn6, qn6⟩
    go_simp
    have bn6 := Lib.hid (bn5.out.keep qn6)
    have Sn6 := Lib.hid (Sn5.out.keep qn6)
    have kn6 := Lib.hid (kn5.out.below LT.out.1 (by have := bn5.out.size; omega) qn6)
    have nm6 := Lib.hid (nm5.out.keep qn6 nm5.out.lt)
    have In6 := Lib.hid (In5.out.keep qn6)
    have hn6 := Lib.hid hn6
    have iv6 := And.intro bn6.out.x bn6.out.o
    refine hK _ _ iv6 ?_
    clear hK K cQ qn6
    repeat ((first
      | (refine SeqS.k0 (v := ?_) ?_ ?_; rotate_left; focus (intro w' hb'; go_simp; with_reducible rfl))
      | (refine SeqS.u0 ?_)
      | (refine SeqS.k1 (v := ?_) ?_ ?_; rotate_left; focus (intro w' hb'; go_simp; with_reducible rfl))
      | (refine SeqS.u1 ?_)
      | (refine SeqS.k2 (v := ?_) ?_ ?_; rotate_left; focus (intro w' hb'; go_simp; with_reducible rfl))
      | (refine SeqS.u2 ?_)); simp only [Act.put, List.setIfInBounds_toArray, List.set_cons_zero, List.set_cons_succ])
    refine SeqS.alone (by decide +kernel) (by rfl) (fun K1 hK => ?_)
    have l1 := hn6.out.two.ddc.l
    have o1 := hn6.out.two.ddc.o
    have row1 : IsRow Tryz.prog 37 cs1.length := by rw [l1]; exact rowDd
    refine wp_store_part 37 (.tmp 26) _ rfl rfl rfl nm6.out row1 (by rw [l1, hzl]; decide) o1 (fun w9 dB g9 => ?_)
    rw [overV_all _ _ (by rw [l1, hzl])] at dB
    have b9 := bn6.out.far g9 (by omega)
    have S9 := Sn6.out.far g9 (by have := LT.out.2.1; omega) (by have := LT.out.2.2.1; omega)
    have kp9 := kn6.out.grown LT.out.1 (by have := bn6.out.size; omega) g9 (by omega)
    have h9 := hn6.out.grown g9 (.inr rfl) (by have := LT.out.2.2.2; omega)
    refine hK _ _ ⟨b9.x, b9.o⟩ ?_
    have iv9 := And.intro b9.x b9.o
    clear hK K1
    repeat ((first
      | (refine SeqS.k0 (v := ?_) ?_ ?_; rotate_left; focus (intro w' hb'; go_simp; with_reducible rfl))
      | (refine SeqS.u0 ?_)
      | (refine SeqS.k1 (v := ?_) ?_ ?_; rotate_left; focus (intro w' hb'; go_simp; with_reducible rfl))
      | (refine SeqS.u1 ?_)
      | (refine SeqS.k2 (v := ?_) ?_ ?_; rotate_left; focus (intro w' hb'; go_simp; with_reducible rfl))
      | (refine SeqS.u2 ?_)); simp only [Act.put, List.setIfInBounds_toArray, List.set_cons_zero, List.set_cons_succ])
    refine SeqS.done (by decide +kernel) ?_
    have hee : (e == e) = true := beq_self_eq_true e
    obtain ⟨M1, rfl⟩ : ∃ m, m = M := ⟨_, rfl⟩
    obtain ⟨M2, hM2⟩ : ∃ m, G + 1 = m := ⟨_, rfl⟩
    obtain ⟨so1, rfl⟩ : ∃ m, m = so := ⟨_, rfl⟩
    obtain ⟨fb1, rfl⟩ : ∃ m, m = fb := ⟨_, rfl⟩
    obtain ⟨s1, rfl⟩ : ∃ m, m = s := ⟨_, rfl⟩
    obtain ⟨sc1, rfl⟩ : ∃ m, m = sc := ⟨_, rfl⟩
    have sB := b9.s
    have fin := FN.out
    have ne9 := NE.out
    have in3 : (fun x => Fv E G x ∨ x = M1) (G + 3) := .inl (.inr ⟨by omega, by omega⟩)
    have in4 : (fun x => Fv E G x ∨ x = M1) (G + 4) := .inl (.inr ⟨by omega, by omega⟩)
    have lsE : ∀ b, (E b ∨ b = so1 ∨ b = fb1) → (fun x => Fv E G x ∨ x = M1) b := fun b hb => .inl (.inl (hb.elim id (fun hb => hb.elim (fun e => e ▸ EH.out.1) (fun e => e ▸ EH.out.2))))
    have far : (M1 ≠ G + 3 ∧ M1 ≠ G + 4) ∧ (M2 ≠ G + 3 ∧ M2 ≠ G + 4) ∧ (so1 ≠ G + 3 ∧ so1 ≠ G + 4) ∧ (fb1 ≠ G + 3 ∧ fb1 ≠ G + 4) := by have := LT.out.2.1; have := LT.out.2.2.1; omega
    obtain ⟨f1, f2, ⟨f3, f4⟩, ⟨f5, f6⟩⟩ := far
    have far := And.intro f1 (And.intro f2 trivial)
    rw [hM2] at sB
    simp only [hM2]
    clear iv9 l1 o1 row1 FN g9 h4H S4H b4H kp4H hsl hso hrowS hM2

    have l1 := h9.two.ddc.l
    have o1 := h9.two.ddc.o
    have row1 : IsRow Tryz.prog 37 cs1.length := by rw [l1]; exact rowDd
    obtain ⟨ls1, os1⟩ := h9.len
    have rowS1 : IsRow Tryz.prog 46 sc1.length := by rw [ls1]; exact rowSl
    have dr : Below w9.heap.size w9 w9.drew := (Below.refl _ _).drew
    have bd := b9.keep dr
    have hd := h9.keep dr
    have Sd := S9.keep dr
    have dd := dB.keep dr dB.lt
    have sd := sB.keep dr sB.lt
    have kpd := kp9.below LT.out.1 (by have := b9.size; omega) dr
    obtain ⟨V9, hV9⟩ : ∃ V, w9.drew = V := ⟨_, rfl⟩
    rw [hV9] at bd hd Sd dd sd kpd
    have V9H := Lib.hid hV9
    have hdH := Lib.hid hd
    have SdH := Lib.hid Sd
    have kpdH := Lib.hid kpd
    clear b9 h9 S9 dB sB kp9 dr hV9 hd Sd kpd
    go_wp2_with fail
    refine region_seqS (fun w' => Blk w' M1 37 cs1 ∧ Blk w' M2 46 sc1) (by kernel_rfl) (by rw [V9H.out]; exact ⟨dd, sd⟩) ?_
    have iv := And.intro dd sd
    simp only [pairs, Nat.reduceAdd]
    rw [V9H.out]
    repeat ((first
      | (refine SeqS.y0 (v := .agg (cs1).toArray) (yields_blk (by rfl) 37 (.tmp 26) rfl rfl (fun w' h => h.1) (row1)) ?_)
      | (refine SeqS.y0 (v := .agg (sc1).toArray) (yields_blk (by rfl) 46 (.tmp 8) rfl rfl (fun w' h => h.2) (rowS1)) ?_)
      | (refine SeqS.k0 (v := ?_) ?_ ?_; rotate_left; focus (intro w' hb'; go_simp; with_reducible rfl))
      | (refine SeqS.u0 ?_)); simp only [Act.put, List.setIfInBounds_toArray, List.set_cons_zero, List.set_cons_succ])
    refine SeqS.alone (by decide +kernel) (by rfl) (fun K1 hK => ?_)
    refine wp_store_part 37 (.tmp 11) _ rfl rfl rfl bd.y row1 (by rw [l1, hzl]; decide) o1 (fun wa ba ga => ?_)
    rw [overV_all _ _ (by rw [l1, hzl])] at ba
    have ya := bd.sety ba ga
    have da := dd.grown ga (fun e => by injection e with e; exact far.1.1 e)
    have sa := sd.grown ga (fun e => by injection e with e; exact far.2.1.1 e)
    have ha := hdH.out.grown ga in3 (by have := LT.out.2.2.2; omega)
    have Sa := SdH.out.far ga (by omega) (by omega)
    have kpa := kpdH.out.grown LT.out.1 (by have := bd.size; omega) ga (by omega)
    refine hK _ _ ⟨da, sa⟩ ?_
    have haH := Lib.hid ha
    have SaH := Lib.hid Sa
    have kpaH := Lib.hid kpa
    clear hK K1 iv bd dd sd hdH SdH kpdH ha Sa kpa ba ga
    have iv := And.intro da sa
    repeat ((first
      | (refine SeqS.y0 (v := .agg (sc1).toArray) (yields_blk (by rfl) 46 (.tmp 8) rfl rfl (fun w' h => h.2) (rowS1)) ?_)
      | (refine SeqS.k0 (v := ?_) ?_ ?_; rotate_left; focus (intro w' hb'; go_simp; with_reducible rfl))
      | (refine SeqS.u0 ?_)); simp only [Act.put, List.setIfInBounds_toArray, List.set_cons_zero, List.set_cons_succ])
    refine SeqS.alone (by decide +kernel) (by rfl) (fun K2 hK => ?_)
    refine wp_store_part 46 (.tmp 12) _ rfl rfl rfl ya.z rowS1 (by rw [ls1, hzzl]; decide) os1 (fun wb bb gb => ?_)
    rw [overV_all _ _ (by rw [ls1, hzzl])] at bb
    have yb := ya.setz bb gb
    have db := da.grown gb (fun e => by injection e with e; exact far.1.2 e)
    have sb := sa.grown gb (fun e => by injection e with e; exact far.2.1.2 e)
    have hb := (haH.out.grown gb in4 (by have := LT.out.2.2.2; omega)).less lsE
    have Sb' := SaH.out.far gb (by omega) (by omega)
    have kpb := kpaH.out.grown LT.out.1 (by have := ya.size; omega) gb (by omega)
    refine hK _ _ ⟨db, sb⟩ ?_
    clear hK K2 iv ya da sa haH SaH kpaH bb gb
    have iv := And.intro db sb
    repeat ((first
      | (refine SeqS.k0 (v := ?_) ?_ ?_; rotate_left; focus (intro w' hb'; go_simp; with_reducible rfl))
      | (refine SeqS.u0 ?_)); simp only [Act.put, List.setIfInBounds_toArray, List.set_cons_zero, List.set_cons_succ])
    refine SeqS.done (by decide +kernel) ?_
    have yy := yb.y
    have zz := yb.z
    clear iv db sb yb
    go_wp2
    refine bodyPost_ret (results_tbbt21 rfl rfl yy row1 rfl zz rowS1) rfl ?_
    exact ⟨so1, fb1, cs1, sc1, D1, s1, rfl, fin, hb, Sb', ne9, kpb⟩
end Go.Proofs.YtcohbhimhacedaaGreatDoor

/-
  The law SlotDoes: its step, whatever the call; small tells something. New memory is written, the landed disk's own and the landed slots'. Conditions: the disks have at most 3518437208880 steps; the files hold bytes; the calls are of the sizes that the rows' own reach gives.
-/
namespace Go.Proofs.YtcohbhimhacedaaGreatDoor
open Go.RowKit

theorem step21_any {E : Nat → Prop} {B : Nat} {w0 w : World} {g so fb : Nat} {cs sc : List Value} {D : DkV} {s : SlV} {T : Nat} {o : OpS} (h : T21 E B w0 w g cs sc D D s) (hS : SlotAt w so g fb s.a s.b s.now) (hE : E so ∧ E fb) (hne : so ≠ fb) (hBs : B ≤ so) (hO : D.Ok T) (hT : T ≤ 3518437208880) (hD : D.By) (hok : s.Ok) (hab : s.a = 1 ∧ s.b = 2) (hcu : Cur D s) (hG0 : Glob11 w0) (hB0 : w0.heap.size ≤ B) (hk : o.Ok w) (hbl : ∀ x, o.ba = some x → 0 < o.bn → x.block < B) (hbn : o.bn ≤ 140737488355328) :
    Calls Tryz.prog 12 #[.pointer (some ⟨g, 0, none⟩), .pointer (some ⟨so, 0, none⟩), .agg cs.toArray, .agg sc.toArray, .agg o.cells.toArray] w (StepTo E B w0 w g so T) := by
  by_cases k0 : o.k = 0
  · exact step21_0 h hS hE hne hBs hO hT hD hok hab hcu hG0 hB0 hk hbl hbn k0
  by_cases k1 : o.k = 1
  · exact step21_1 h hS hE hne hBs hO hT hD hok hab hcu hG0 hB0 hk hbl hbn k1
  by_cases k2 : o.k = 2
  · exact step21_2 h hS hE hne hBs hO hT hD hok hab hcu hG0 hB0 hk hbl hbn k2
  by_cases k3 : o.k = 3
  · exact step21_3 h hS hE hne hBs hO hT hD hok hab hcu hG0 hB0 hk hbl hbn k3
  · exact step21_4 h hS hE hne hBs hO hT hD hok hab hcu hG0 hB0 hk hbl hbn ⟨k0, k1, k2, k3⟩

def opZS : List Value := [.int .i64 0, .int .i64 0, .int .i64 0, .slice none 0 0]
set_option maxRecDepth 100000 in
theorem zeroOpS : Zero Tryz.prog 51 opZS := by unfold Zero; kernel_rfl
theorem sizeCaS : (Tryz.prog.info? 25).map (·.size) = some 4 := by kernel_rfl
theorem rowCaS : IsRow Tryz.prog 25 4 := IsRow.struct Tryz.underlying25 sizeCaS
def caC (R : Int) (a : Option Addr) (an ac : Nat) (b : Option Addr) (bn bc : Nat) (o : Option Addr) (n c : Nat) : List Value := [.int .i64 R, .slice a an ac, .slice b bn bc, .slice o n c]

set_option maxRecDepth 100000 in
set_option maxHeartbeats 2000000 in
theorem small21_any {w : World} {R : Int} {a b A : Option Addr} {an ac bn bc n c : Nat} {ops : List OpS} (hO : OpsS w A n c ops) (hn : n ≤ 2932031007402) (han : an ≤ 140737488355328) (hbn : bn ≤ 140737488355328) :
    Calls Tryz.prog 5 #[.agg (caC R a an ac b bn bc A n c).toArray] w fun q w' => ∃ v, q = .returned (.bool v) ∧ Below w.heap.size w w' := by
  have hZ := zeroOpS
  have hZl : opZS.length = 4 := rfl
  obtain ⟨ZL, hZL⟩ : ∃ z, opZS = z := ⟨_, rfl⟩
  rw [hZL] at hZ hZl
  obtain ⟨CC, hCC⟩ : ∃ z, caC R a an ac b bn bc A n c = z := ⟨_, rfl⟩
  have x1 : CC[1]? = some (.slice a an ac) := by rw [← hCC]; rfl
  have x2 : CC[2]? = some (.slice b bn bc) := by rw [← hCC]; rfl
  have x3 : CC[3]? = some (.slice A n c) := by rw [← hCC]; rfl
  rw [hCC]
  have q1 := below1 w (.cells CC.toArray 25)
  have B1 := Blk.new w 25 CC
  obtain ⟨W, hW⟩ : ∃ W, w.alloc (.cells CC.toArray 25) = W := ⟨_, rfl⟩
  rw [hW] at q1 B1
  have d1 := (B1.cell 1).trans x1
  have d2 := (B1.cell 2).trans x2
  have d3 := (B1.cell 3).trans x3
  have hnH := Lib.hid hn
  have hOH := Lib.hid (hO.keep q1)
  have qH := Lib.hid q1
  have WH := Lib.hid hW
  have hani : (an : Int) ≤ 140737488355328 := by omega
  have hbni : (bn : Int) ≤ 140737488355328 := by omega
  have hnni : (n : Int) ≤ 2932031007402 := by omega
  clear hZL hn han hbn hCC x1 x2 x3 q1 B1 hW hO
  go_enter Tryz.func5, Tryz.ntmps5
  go_wp2_with ((with_reducible refine box_row rfl 25 (.tmp 0) rfl CC rfl ?_); refine RowKit.Hid.out ?_)
  refine Lib.hid ?_
  rw [WH.out]
  go_wp2_with fail
  go_loopw [3, 20] (fun v i wr => ∃ (j : Nat) (V : Int), j ≤ n ∧ i = .int .i64 j ∧ v = .int .i64 V ∧ Below W.heap.size W wr) (fun _ i _ => n - (intOf i).toNat)
  case atStart => exact ⟨0, _, Nat.zero_le _, rfl, rfl, Below.refl _ _⟩
  case round =>
    clear d1 d2 d3
    obtain ⟨j, V, hj, rfl, rfl, hB⟩ := hrel
    by_cases hlt : j < n
    · have hji : (j : Int) < (n : Int) := by omega
      obtain ⟨bb, off, o, rfl, ho, hr, hk⟩ := (hOH.out.keep hB).get j hlt
      have hol : o.cells.length = 4 := rfl
      have hone := Lib.hid o.one
      have hIr : IsRow Tryz.prog 51 o.cells.length := rowOpS
      have h3 : o.cells[3]? = some (.slice o.ba o.bn o.bc) := rfl
      obtain ⟨C, hC⟩ : ∃ C, o.cells = C := ⟨_, rfl⟩
      rw [hC] at hr hol hone hIr h3
      have hnew := Blk.new wr 51 ZL
      have hB1 := hB.alloc hB.size (.cells ZL.toArray 51)
      have hltH := Lib.hid hlt
      clear hC hlt hj ho hk
      go_wp2_with (first
        | ((with_reducible refine wpList_load_part rfl 51 (.tmp 22) rfl ?_ C hr hIr ?_); rfl)
        | (with_reducible refine wpList_alloc_blk rfl 51 rfl hZ ?_)
        | (refine wpList_store_part (cs := C) rfl 51 (.tmp 5) (.tmp 23) rfl rfl rfl hnew hIr ?_ hone.out ?_
           (rw [hol, hZl]; decide)
           intro w5 hk5 hg5
           refine RowKit.Hid.out ?_))
      refine Lib.hid ?_
      rw [overV_all _ _ (by rw [hol, hZl])] at hk5
      have hB5 := hB1.trans (below_of_grown hg5 hB.size (by rw [size1]; omega))
      have c3 : w5.cell? ⟨wr.heap.size, 3, none⟩ = some (.slice o.ba o.bn o.bc) := (hk5.cell 3).trans h3
      clear hk5 hg5 hB1 hnew hr hB
      go_wp2
      exact ⟨⟨j + 1, _, by have := hltH.out; omega, by congr 1, rfl, hB5⟩, by simp only [intOf]; have := hltH.out; omega⟩
    · obtain rfl : j = n := by omega
      have hBz := qH.out.trans (hB.mono qH.out.size)
      clear hB
      go_wp2
      go_ret
      exact ⟨_, rfl, hBz⟩
end Go.Proofs.YtcohbhimhacedaaGreatDoor

/-
  The law SlotDoes: whatever is put, and wherever the disk goes down, each answer, the snapshot and what the disk holds are as the document says. New memory alone is written. Conditions: the calls are of the sizes that the rows' own reach gives.
-/
namespace Go.Proofs.YtcohbhimhacedaaGreatDoor
open Go.RowKit

def dd21 (r : Int) : List Value := ddC (rfC none 0 0 none 0 0) (rfC none 0 0 none 0 0) (rfC none 0 0 none 0 0) (dk0 r)
theorem built_dd21 (r : Int) : Tryz.prog.built 37 [(1, .int .i64 r)] = some (dd21 r).toArray := by kernel_rfl
theorem dd21_at (w : World) (r : Int) : RDisk (fun _ => False) w (dd21 r) (dk0 r) :=
  have h : RFile (fun _ => False) w (rfC none 0 0 none 0 0) ⟨[], []⟩ := ⟨none, 0, none, 0, rfl, ⟨rfl, Nat.le_refl _, .inl rfl⟩, fun _ _ h => absurd h (Nat.lt_irrefl 0), RSteps.empty _ _⟩
  ⟨_, _, _, rfl, h, h, h⟩
def s21 : SlV := ⟨1, 2, -1, 0, []⟩
theorem t21_of {B : Nat} {w0 w : World} {g : Nat} {r : Int} (h : DkOwn B w0 w g (dk0 r)) : T21 (fun _ => False) B w0 w g (dd21 r) (slC s21 none 0 0) (dk0 r) (dk0 r) s21 := by
  obtain ⟨L, P, h1, h2⟩ := h.is
  exact ⟨L, P, fun _ => False, ⟨h1, dd21_at w r, fun _ h => h.elim, h2, fun _ h => h.elim, h.b, h.s⟩, none, 0, 0, rfl, ⟨rfl, Nat.le_refl _, .inl rfl⟩, fun _ h _ => by cases h⟩
theorem ap_up {D : DkV} (hf : D.fuse = 0) (hd : D.down = false) (z : Int) (b : List Int) : (apD D z b).1.fuse = 0 ∧ (apD D z b).1.down = false := by
  unfold apD
  split
  · exact ⟨hf, hd⟩
  split
  · exact ⟨hf, hd⟩
  split
  · exact ⟨hf, hd⟩
  have hh := DkV.set_head D z.toNat ((D.f z.toNat).step (.put b))
  rw [burn_none (by rw [hh.2.1]; exact hf)]
  exact ⟨hh.2.1.trans hf, hh.2.2.trans hd⟩
theorem blk_ne {w : World} {g1 g2 : Nat} {t1 t2 : TypeId} {c1 c2 : List Value} (h1 : Blk w g1 t1 c1) (h2 : Blk w g2 t2 c2) (ht : t1 ≠ t2) : g1 ≠ g2 := by
  rintro rfl
  have h3 : w.heap[g1]? = some (.cells c1.toArray t1 (0, 0)) := h1
  have h4 : w.heap[g1]? = some (.cells c2.toArray t2 (0, 0)) := h2
  rw [h3] at h4
  injection h4 with h4
  injection h4 with _ e _
  exact ht e
theorem fall21 {j m : Nat} (h : j < m) : m - (intOf (.int .i64 ((j : Int) + 1))).toNat < m - (intOf (.int .i64 (j : Int))).toNat := by
  simp only [intOf]
  omega
def gS (V5 V8 so fb : Nat) : Nat → Prop := fun b => b = V5 ∨ b = V8 ∨ b = so ∨ b = fb


set_option maxRecDepth 100000 in
set_option maxHeartbeats 8000000 in
theorem law_sldoes (R : Int) (a : Option Addr) (an ac : Nat) (xa : List Int) (b : Option Addr) (bn bc : Nat) (xb : List Int) (oa : Option Addr) (m k : Nat) (ops : List OpS) (w : World) (hG : Glob11 w) (_ : (Lit.int .i64 R).wf = true)
    (hIa : Ints .u8 w a an ac xa ∧ ∀ z ∈ xa, 0 ≤ z ∧ z < 256) (hIb : Ints .u8 w b bn bc xb ∧ ∀ z ∈ xb, 0 ≤ z ∧ z < 256) (hO : OpsS w oa m k ops) (hsz : an ≤ 140737488355328 ∧ bn ≤ 140737488355328 ∧ m ≤ 2932031007402 ∧ ∀ o ∈ ops, o.bn ≤ 140737488355328) :
    Calls Tryz.prog 3 #[.agg #[.int .i64 R, .slice a an ac, .slice b bn bc, .slice oa m k]] w fun q w' => q = .returned (.bool true) ∧ Below w.heap.size w w' := by
  have hag : (#[.int .i64 R, .slice a an ac, .slice b bn bc, .slice oa m k] : Array Value) = (caC R a an ac b bn bc oa m k).toArray := rfl
  rw [hag]
  have hcl : (caC R a an ac b bn bc oa m k).length = 4 := rfl
  have x0 : (caC R a an ac b bn bc oa m k)[0]? = some (.int .i64 R) := rfl
  have x1 : (caC R a an ac b bn bc oa m k)[1]? = some (.slice a an ac) := rfl
  have x2 : (caC R a an ac b bn bc oa m k)[2]? = some (.slice b bn bc) := rfl
  have x3 : (caC R a an ac b bn bc oa m k)[3]? = some (.slice oa m k) := rfl
  have hsm := Lib.hid (fun (w' : World) (hO : OpsS w' oa m k ops) => small21_any (R := R) (a := a) (b := b) (an := an) (ac := ac) (bn := bn) (bc := bc) hO hsz.2.2.1 hsz.1 hsz.2.1)
  obtain ⟨CC, hCC⟩ : ∃ z, caC R a an ac b bn bc oa m k = z := ⟨_, rfl⟩
  rw [hCC] at hcl x0 x1 x2 x3 hsm
  rw [hCC]
  have hszH := Lib.hid hsz
  have hb0 := below1 w (.cells CC.toArray 25)
  have CB := Blk.new w 25 CC
  obtain ⟨W, hW⟩ : ∃ W1, w.alloc (.cells CC.toArray 25) = W1 := ⟨_, rfl⟩
  rw [hW] at hb0 CB
  have HG := Lib.hid hG
  have HGW := Lib.hid (hG.keep hb0 (Nat.le_refl _))
  have IA := Lib.hid (hIa.1.keep hb0)
  have IB := Lib.hid (hIb.1.keep hb0)
  have RA := Lib.hid (show (∀ z ∈ xa, 0 ≤ z ∧ z < 256) ∧ ∀ z ∈ xb, 0 ≤ z ∧ z < 256 from ⟨hIa.2, hIb.2⟩)
  have hO1 := Lib.hid (hO.keep hb0)
  have hWH := Lib.hid hW
  have hBLH := Lib.hid hb0
  obtain ⟨G0, hG0⟩ : ∃ G, w.heap.size = G := ⟨_, rfl⟩
  have G0H := Lib.hid hG0
  rw [hG0] at CB
  have d0 := (CB.cell 0).trans x0
  have CBH := Lib.hid CB
  have lowH := Lib.hid (show ∀ o ∈ ops, ∀ x, o.ba = some x → 0 < o.bn → x.block < W.heap.size from fun o ho x hx h0 => ((hO.keep hb0).ok o ho).b.isIn.2 x hx h0)
  clear hCC hag hIa hIb hO hsz hG hb0 hW hG0 CB
  go_enter Tryz.func3, Tryz.ntmps3
  go_wp2_with ((with_reducible refine box_row rfl 25 (.tmp 0) rfl CC rfl ?_); refine RowKit.Hid.out ?_)
  refine Lib.hid ?_
  rw [hWH.out, G0H.out]
  clear hWH G0H
  by_cases hR : R < 1 ∨ 65536 < R
  · have hN := dNew_no (w := W) R hR
    have hsm := hsm.out W hO1.out
    have CB := CBH.out
    clear hR
    go_wp2_with fail
    refine hN.mono ?_
    rintro q w3 ⟨rfl, rfl⟩
    clear hN
    go_wp2_with ((with_reducible refine wpList_load_blk rfl 25 (.tmp 1) rfl ?_ CB rowCaS hcl ?_); rfl)
    refine hsm.mono ?_
    rintro q w2 ⟨bb, rfl, b2⟩
    have hBL := hBLH.out.trans (b2.mono hBLH.out.size)
    clear hsm b2 d0 hO1 CB CBH
    cases bb
    · go_wp2_with fail
      refine (alive21_any _ (HG.out.keep hBL (Nat.le_refl _))).mono ?_
      rintro q wz ⟨rfl, bz⟩
      have hBz := hBL.trans (bz.mono hBL.size)
      clear bz hBL
      go_wp2
      go_ret
      exact ⟨rfl, hBz⟩
    · go_wp2_with fail
      refine (alive21_any _ (HG.out.keep hBL (Nat.le_refl _))).mono ?_
      rintro q wz ⟨rfl, bz⟩
      have hBz := hBL.trans (bz.mono hBL.size)
      clear bz hBL
      go_wp2
      go_ret
      exact ⟨rfl, hBz⟩
  have hR1 : ¬ R < 1 := fun h => hR (.inl h)
  have hR2 : ¬ 65536 < R := fun h => hR (.inr h)
  have hRR : 1 ≤ R ∧ R ≤ 65536 := ⟨Int.not_lt.1 hR1, Int.not_lt.1 hR2⟩
  have hN := new_own (w := W) R hRR
  have o0 := Lib.hid (dk0_ok R hRR)
  clear hR
  go_wp2_with fail
  refine hN.mono ?_
  rintro q w2 ⟨g, rfl, h2⟩
  have CB2 := CBH.out.keep h2.b CBH.out.lt
  have hsm2 := hsm.out w2 (hO1.out.keep h2.b)
  have t2 := Lib.hid (t21_of h2)
  clear hN h2 d0 hsm
  go_wp2_with ((with_reducible refine wpList_load_blk rfl 25 (.tmp 1) rfl ?_ CB2 rowCaS hcl ?_); rfl)
  refine hsm2.mono ?_
  rintro q w3 ⟨bb, rfl, b3⟩
  have t3 := t2.out.keep b3
  have CB3 := CB2.keep b3 CB2.lt
  clear hsm2 b3 t2 CB2
  cases bb
  · have hBL := hBLH.out.trans (t3.b.mono hBLH.out.size)
    clear t3 CB3 hO1
    go_wp2_with fail
    refine (alive21_any _ (HG.out.keep hBL (Nat.le_refl _))).mono ?_
    rintro q wz ⟨rfl, bz⟩
    have hBz := hBL.trans (bz.mono hBL.size)
    clear bz hBL
    go_wp2
    go_ret
    exact ⟨rfl, hBz⟩
  have d0 := (CB3.cell 0).trans x0
  have hbd := built_dd21 R
  have hdl : (dd21 R).length = 9 := rfl
  have hdo := t3.two.ddc.o
  obtain ⟨C0, hC0⟩ : ∃ C, dd21 R = C := ⟨_, rfl⟩
  rw [hC0] at hbd hdl t3 hdo
  obtain ⟨sz0, hsz0⟩ : ∃ C, slC s21 none 0 0 = C := ⟨_, rfl⟩
  rw [hsz0] at t3
  obtain ⟨zs, hzs⟩ : ∃ zs, ddZ = zs := ⟨_, rfl⟩
  have hz := zeroDd
  have hzl := ddZ_len
  rw [hzs] at hz hzl
  obtain ⟨zS, hzS⟩ : ∃ zs, slZ = zs := ⟨_, rfl⟩
  have hzz := zeroSl
  have hzzl : slZ.length = 5 := rfl
  rw [hzS] at hzz hzzl
  obtain ⟨zO, hzO⟩ : ∃ zs, opZS = zs := ⟨_, rfl⟩
  have hzo := zeroOpS
  have hzol : opZS.length = 4 := rfl
  rw [hzO] at hzo hzol
  have n5 := Blk.new w3 37 zs
  have q5 := below1 w3 (.cells zs.toArray 37)
  have s5H := Lib.hid (size1 w3 (.cells zs.toArray 37))
  have q5H := Lib.hid q5
  have t3H := Lib.hid t3
  have CB3H := Lib.hid CB3
  clear hC0 hzs hzS hzO q5 hsz0 t3 CB3
  go_wp2_with (first
    | ((with_reducible refine build_row rfl 37 #[(1, .tmp 31)] rfl (cells := C0.toArray) ?_ ?_); (refine Eq.trans (congrArg _ ?_) hbd; kernel_rfl))
    | (with_reducible refine wpList_alloc_blk rfl 37 rfl hz ?_)
    | (refine store_row rfl 37 (.tmp 5) _ rfl rfl rfl n5 rowDd hdl hzl hdo ?_
       intro w4 b5 g5
       refine RowKit.Hid.out ?_))
  refine Lib.hid ?_
  have q6 : Below w3.heap.size w3 w4 := q5H.out.trans (below_of_grown g5 (Nat.le_refl _) (by rw [s5H.out]; omega))
  have h4 : T21 (fun b => b = w3.heap.size) W.heap.size W w4 g C0 sz0 (dk0 R) (dk0 R) s21 := t3H.out.keepE q6 (fun b hb => .inr ⟨by omega, by rw [hb]; exact b5.lt⟩)
  have hBG := t3H.out.sz
  obtain ⟨V5, hV5⟩ : ∃ G, w3.heap.size = G := ⟨_, rfl⟩
  rw [hV5] at b5 h4 hBG
  rw [hV5]
  have BGH := Lib.hid hBG
  have CBw := Lib.hid (fun w' (q : Below W.heap.size W w') => CBH.out.keep q CBH.out.lt)
  have d1 := ((CBw.out w4 h4.b).cell 1).trans x1
  obtain ⟨D1, e1, he1⟩ : ∃ D1 e1, apD (dk0 R) 1 xa = (D1, e1) := ⟨_, _, rfl⟩
  have cA := u_append 1 h4 o0.out (by decide) (IA.out.keep h4.b) he1
  have ok1 := apD_ok o0.out 1 xa
  have by1 := apD_by (dk0_by R) 1 xa RA.out.1
  have up1 := ap_up (D := dk0 R) rfl rfl 1 xa
  rw [he1] at ok1 by1 up1
  dsimp only at ok1 by1 up1
  have OK1 := Lib.hid (show D1.Ok 1 ∧ D1.By ∧ D1.fuse = 0 ∧ D1.down = false from ⟨ok1, by1, up1⟩)
  have E1 := Lib.hid he1
  have b5H := Lib.hid b5
  clear g5 q6 t3H n5 hV5 s5H q5H d0 hbd h4 ok1 by1 up1 he1 hBG b5
  go_wp2_with fail
  refine cA.mono ?_
  rintro q w5 ⟨rfl, h5, s5⟩
  clear cA d1
  by_cases hz1 : e1 = 0
  case neg =>
    have hzb : (e1 == 0) = false := beq_eq_false_iff_ne.2 hz1
    have hBL := hBLH.out.trans (h5.b.mono hBLH.out.size)
    clear h5 s5 hO1
    go_wp2_with fail
    refine (alive21_any _ (HG.out.keep hBL (Nat.le_refl _))).mono ?_
    rintro q wz ⟨rfl, bz⟩
    have hBz := hBL.trans (bz.mono hBL.size)
    clear bz hBL
    go_wp2
    go_ret
    exact ⟨rfl, hBz⟩
  subst hz1
  have b5 := Lib.hid (s5.blk b5H.out rfl)
  have d2 := ((CBw.out w5 h5.b).cell 2).trans x2
  obtain ⟨D2, e2, he2⟩ : ∃ D2 e2, apD D1 2 xb = (D2, e2) := ⟨_, _, rfl⟩
  have cA := u_append 2 h5 OK1.out.1 (by decide) (IB.out.keep h5.b) he2
  have ok2 := apD_ok OK1.out.1 2 xb
  have by2 := apD_by OK1.out.2.1 2 xb RA.out.2
  have up2 := ap_up OK1.out.2.2.1 OK1.out.2.2.2 2 xb
  rw [he2] at ok2 by2 up2
  dsimp only at ok2 by2 up2
  obtain ⟨s1, hs1⟩ : ∃ s1, opS D2 1 2 = s1 := ⟨_, rfl⟩
  have sl1 := opS_ok (D := D2) by2 (a := 1) (b := 2) (by decide) (by decide) (by decide)
  have cu1 := op_cur (D := D2) (a := 1) (b := 2)
  have ab1 := op_ab D2 1 2
  rw [hs1] at sl1 cu1 ab1
  have FN := Lib.hid (show D2.Ok 2 ∧ D2.By ∧ s1.Ok ∧ (s1.a = 1 ∧ s1.b = 2) ∧ Cur D2 s1 from ⟨ok2, by2, sl1, ab1, cu1⟩)
  have OP := Lib.hid (show opS D2 1 2 = s1 ∧ D2.down = false from ⟨hs1, up2.2⟩)
  have E2 := Lib.hid he2
  clear ok2 by2 up2 he2 s5 h5 hs1 sl1 cu1 ab1 b5H
  go_wp2_with fail
  refine cA.mono ?_
  rintro q w6 ⟨rfl, h6, s6⟩
  clear cA d2
  by_cases hz2 : e2 = 0
  case neg =>
    have hzb : (e2 == 0) = false := beq_eq_false_iff_ne.2 hz2
    have hBL := hBLH.out.trans (h6.b.mono hBLH.out.size)
    clear h6 s6 hO1
    go_wp2_with fail
    refine (alive21_any _ (HG.out.keep hBL (Nat.le_refl _))).mono ?_
    rintro q wz ⟨rfl, bz⟩
    have hBz := hBL.trans (bz.mono hBL.size)
    clear bz hBL
    go_wp2
    go_ret
    exact ⟨rfl, hBz⟩
  subst hz2
  have b6 := s6.blk b5.out rfl
  have d1 := ((CBw.out w6 h6.b).cell 1).trans x1
  have cD := v_append 1 h6 o0.out (by decide) (IA.out.keep h6.b) hszH.out.1 E1.out
  clear s6 b5 h6
  go_wp2_with ((with_reducible refine wpList_load_blk rfl 37 (.tmp 5) rfl ?_ b6 rowDd hdl ?_); rfl)
  refine cD.mono ?_
  rintro q w7 ⟨cs7, rfl, h7, q7⟩
  have b7 := b6.keep q7 b6.lt
  have l7 := h7.two.ddc.l
  have o7 := h7.two.ddc.o
  clear cD q7 b6 d1
  go_wp2_with ((with_reducible refine store_row rfl 37 (.tmp 5) _ rfl ?_ ?_ b7 rowDd l7 hdl o7 ?_); rfl; rfl; intro w8 b8 g8; refine RowKit.Hid.out ?_)
  refine Lib.hid ?_
  have h8 := h7.grown g8 rfl BGH.out
  have d2 := ((CBw.out w8 h8.b).cell 2).trans x2
  have cD := v_append 2 h8 OK1.out.1 (by decide) (IB.out.keep h8.b) hszH.out.2.1 E2.out
  clear g8 b7 h7 h8 o7
  go_wp2_with ((with_reducible refine wpList_load_blk rfl 37 (.tmp 5) rfl ?_ b8 rowDd l7 ?_); rfl)
  refine cD.mono ?_
  rintro q w9 ⟨cs9, rfl, h9, q9⟩
  have b9 := b8.keep q9 b8.lt
  have l9 := h9.two.ddc.l
  have o9 := h9.two.ddc.o
  clear cD q9 b8 d2
  go_wp2_with ((with_reducible refine store_row rfl 37 (.tmp 5) _ rfl ?_ ?_ b9 rowDd l9 l7 o9 ?_); rfl; rfl; intro w10 b10 g10; refine RowKit.Hid.out ?_)
  refine Lib.hid ?_
  have h10 := h9.grown g10 rfl BGH.out
  have cO := u_open h10 FN.out.1 FN.out.2.1 HGW.out (Nat.le_refl _) OP.out.2 OP.out.1
  have b10H := Lib.hid b10
  clear g10 b9 h9 h10 l7 b10
  go_wp2_with fail
  refine cO.mono ?_
  rintro q w11 ⟨so, fb, rfl, S11, hh, h11, q11⟩
  have b11 := b10H.out.keep q11 b10H.out.lt
  have nes := And.intro hh.1 hh.2.1
  have cV := v_open h11 FN.out.1 (by decide) FN.out.2.1 OP.out.2 OP.out.1
  have S11H := Lib.hid S11
  clear cO q11 h11 S11 hh b10H
  go_wp2_with ((with_reducible refine wpList_load_blk rfl 37 (.tmp 5) rfl ?_ b11 rowDd l9 ?_); rfl)
  refine cV.mono ?_
  rintro q w12 ⟨sc1, rfl, h12, q12⟩
  obtain ⟨ls1, os1⟩ := h12.len
  have b12 := b11.keep q12 b11.lt
  have S12 := S11H.out.keep q12
  have sz12 := And.intro b12.lt (And.intro S12.s.lt S12.f.lt)
  have n12 := Blk.new w12 46 zS
  have q13 := below1 w12 (.cells zS.toArray 46)
  have b13 := Lib.hid (b12.keep q13 b12.lt)
  have S13 := Lib.hid (S12.keep q13)
  have h13 : T21 (fun x => (x = V5 ∨ x = so ∨ x = fb) ∨ x = w12.heap.size) W.heap.size W _ g cs9 sc1 D2 D2 s1 := h12.keepE q13 (fun b hb => hb.imp id (fun hb => by rw [hb, size1]; exact ⟨Nat.le_refl _, Nat.lt_succ_self _⟩))
  have zB := h12.sz
  obtain ⟨U, hU⟩ : ∃ V, w12.alloc (.cells zS.toArray 46) = V := ⟨_, rfl⟩
  rw [hU] at n12 b13 S13 h13
  have UH := Lib.hid hU
  obtain ⟨V8, hV8⟩ : ∃ M, w12.heap.size = M := ⟨_, rfl⟩
  rw [hV8] at n12 h13 sz12 zB
  have V8H := Lib.hid hV8
  have BG8 := Lib.hid zB
  have h13H := Lib.hid h13
  clear cV q12 h12 b12 S12 b11 S11H q13 hU hV8 h13 zB
  go_wp2_with (with_reducible refine wpList_alloc_blk rfl 46 rfl hzz ?_; refine RowKit.Hid.out ?_)
  refine Lib.hid ?_
  rw [UH.out]
  simp only [V8H.out]
  go_wp2_with ((refine store_row rfl 46 (.tmp 8) _ rfl rfl rfl n12 rowSl ls1 hzzl os1 ?_); intro w14 c14 g14; refine RowKit.Hid.out ?_)
  refine Lib.hid ?_
  have b14 := b13.out.grown g14 (fun e => by injection e; omega)
  have S14 := S13.out.far g14 (by omega) (by omega)
  have h14 := (h13H.out.grown g14 (.inr rfl) BG8.out).less (E' := gS V5 V8 so fb) (fun x hx => by
    rcases hx with hx | hx | hx | hx
    · exact .inl (.inl hx)
    · exact .inr hx
    · exact .inl (.inr (.inl hx))
    · exact .inl (.inr (.inr hx)))
  have cL := like21_any h14 S14 FN.out.1 (by decide) FN.out.2.1 FN.out.2.2.1 FN.out.2.2.2.2 HGW.out (Nat.le_refl _)
  have h14H := Lib.hid h14
  have S14H := Lib.hid S14
  clear n12 g14 b13 S13 h13H UH V8H sz12 h14 S14 os1
  go_wp2_with (first
    | ((with_reducible refine load_if rfl 37 (.tmp 5) rfl ?_ b14 rowDd l9 ?_); rfl)
    | ((with_reducible refine load_if rfl 46 (.tmp 8) rfl ?_ c14 rowSl ls1 ?_); rfl))
  refine cL.mono ?_
  rintro q w15 ⟨rfl, q15⟩
  have b15 := Lib.hid (b14.keep q15 b14.lt)
  have c15 := Lib.hid (c14.keep q15 c14.lt)
  have S15 := Lib.hid (S14H.out.keep q15)
  have h15 := Lib.hid (h14H.out.keep q15)
  have d3 := ((CBw.out w15 h15.out.b).cell 3).trans x3
  have nesH := Lib.hid nes
  clear cL q15 b14 c14 S14H h14H nes l9 ls1 o9 hdo hdl
  go_wp2_with fail
  go_loopw [6, 88] (fun rv i wr => ∃ (j so fb : Nat) (cs sc : List Value) (D : DkV) (s : SlV), j ≤ m ∧ i = .int .i64 (j : Int) ∧ rv = .pointer (some ⟨so, 0, none⟩) ∧ (D.Ok (j + 2) ∧ D.By ∧ s.Ok ∧ (s.a = 1 ∧ s.b = 2) ∧ Cur D s) ∧ SlotAt wr so g fb s.a s.b s.now ∧ (so ≠ fb ∧ W.heap.size ≤ so) ∧ T21 (gS V5 V8 so fb) W.heap.size W wr g cs sc D D s ∧ Blk wr V5 37 cs ∧ Blk wr V8 46 sc) (fun _ i _ => m - (intOf i).toNat)
  case atStart => exact ⟨0, so, fb, cs9, sc1, D2, s1, Nat.zero_le _, rfl, rfl, FN.out, S15.out, nesH.out, h15.out, b15.out, c15.out⟩
  case round =>
    clear h15 S15 b15 c15 nesH d3 FN OP E1 E2 OK1
    obtain ⟨j, so, fb, cs, sc, D, s, hj, rfl, rfl, hfin, hS, hne, hT, b0, c0⟩ := hrel
    by_cases hlt : j < m
    · have hji : (j : Int) < (m : Int) := Int.ofNat_lt.2 hlt
      have hjb : (m : Int) ≤ 2932031007402 := Int.ofNat_le.2 hszH.out.2.2.1
      obtain ⟨ob, off, o, rfl, ho, hr, hk⟩ := (hO1.out.keep hT.b).get j hlt
      have hmem := List.mem_of_getElem? ho
      have hol : o.cells.length = 4 := rfl
      have hone := Lib.hid o.one
      have hIr : IsRow Tryz.prog 51 o.cells.length := rowOpS
      have hnew := Blk.new wr 51 zO
      have qa := below1 wr (.cells zO.toArray 51)
      have sa := Lib.hid (size1 wr (.cells zO.toArray 51))
      have qaH := Lib.hid qa
      have hTH := Lib.hid hT
      have hSH := Lib.hid hS
      have b0H := Lib.hid b0
      have c0H := Lib.hid c0
      have kH := Lib.hid hk
      have JT := Lib.hid (show j + 2 ≤ 3518437208880 by have := hszH.out.2.2.1; omega)
      have SZ := Lib.hid (hszH.out.2.2.2 o hmem)
      have LW := Lib.hid (lowH.out o hmem)
      have FN := Lib.hid hfin
      have hltH := Lib.hid hlt
      have nesH := Lib.hid hne
      obtain ⟨C, hC⟩ : ∃ C, o.cells = C := ⟨_, rfl⟩
      rw [hC] at hr hol hone hIr
      have hCH := Lib.hid hC
      clear hC hlt hj ho hk hT hS b0 c0 hfin hne qa hmem
      go_wp2_with (first
        | ((with_reducible refine wpList_load_part rfl 51 (.tmp 90) rfl ?_ C hr hIr ?_); rfl)
        | (with_reducible refine wpList_alloc_blk rfl 51 rfl hzo ?_)
        | (refine wpList_store_part (cs := C) rfl 51 (.tmp 11) (.tmp 91) rfl rfl rfl hnew hIr ?_ hone.out ?_
           (rw [hol, hzol]; decide)
           intro w5 hk5 hg5
           refine RowKit.Hid.out ?_))
      refine Lib.hid ?_
      rw [overV_all _ _ (by rw [hol, hzol])] at hk5
      have q5 : Below wr.heap.size wr w5 := qaH.out.trans (below_of_grown hg5 (Nat.le_refl _) (by rw [sa.out]; omega))
      have h5 := hTH.out.keep q5
      have S5 := hSH.out.keep q5
      have b5 := b0H.out.keep q5 b0H.out.lt
      have c5 := c0H.out.keep q5 c0H.out.lt
      obtain ⟨lsc, _⟩ := h5.len
      have lcs := h5.two.ddc.l
      have cS := step21_any h5 S5 ⟨.inr (.inr (.inl rfl)), .inr (.inr (.inr rfl))⟩ nesH.out.1 nesH.out.2 FN.out.1 JT.out FN.out.2.1 FN.out.2.2.1 FN.out.2.2.2.1 FN.out.2.2.2.2 HGW.out (Nat.le_refl _) (kH.out.keep q5) LW.out SZ.out
      rw [hCH.out] at cS
      have n5 : V5 ≠ so ∧ V8 ≠ so := ⟨blk_ne b5 S5.s (by decide), blk_ne c5 S5.s (by decide)⟩
      have b5H := Lib.hid b5
      have c5H := Lib.hid c5
      clear hg5 hnew hr q5 h5 S5 sa qaH hTH hSH b0H c0H kH hone hIr
      go_wp2_with (first
        | ((with_reducible refine wpList_load_blk rfl 37 (.tmp 5) rfl ?_ b5 rowDd lcs ?_); rfl)
        | ((with_reducible refine wpList_load_blk rfl 46 (.tmp 8) rfl ?_ c5 rowSl lsc ?_); rfl)
        | ((with_reducible refine wpList_load_blk rfl 51 (.tmp 11) rfl ?_ hk5 rowOpS hol ?_); rfl))
      refine cS.mono ?_
      rintro q w6 ⟨so1, fb1, cs1, sc1, D1, s1, rfl, fin, h6, S6, ne6, kp6⟩
      have b6 : Blk w6 V5 37 cs := (kp6 V5 (.inl rfl) n5.1).trans b5H.out
      have c6 : Blk w6 V8 46 sc := (kp6 V8 (.inr (.inl rfl)) n5.2).trans c5H.out
      have l1 := h6.two.ddc.l
      have o1 := h6.two.ddc.o
      obtain ⟨ls1, os1⟩ := h6.len
      have row1 : IsRow Tryz.prog 37 cs1.length := by rw [l1]; exact rowDd
      have rowS1 : IsRow Tryz.prog 46 sc1.length := by rw [ls1]; exact rowSl
      have n1 : Blk ((w6.alloc (.cells zs.toArray 37)).alloc (.cells zS.toArray 46)) w6.heap.size 37 zs := (Blk.new w6 _ zs).alloc _
      have n2 : Blk ((w6.alloc (.cells zs.toArray 37)).alloc (.cells zS.toArray 46)) (w6.heap.size + 1) 46 zS := Blk.new1 w6 _ _ zS
      have q7 := below2 w6 (.cells zs.toArray 37) (.cells zS.toArray 46)
      have s7 : ((w6.alloc (.cells zs.toArray 37)).alloc (.cells zS.toArray 46)).heap.size = w6.heap.size + 2 := by rw [size1, size1]
      have lt6 : V5 < w6.heap.size ∧ V8 < w6.heap.size ∧ so1 < w6.heap.size ∧ fb1 < w6.heap.size := ⟨b6.lt, c6.lt, S6.s.lt, S6.f.lt⟩
      have ns6 : V5 ≠ V8 ∧ V5 ≠ so1 ∧ V5 ≠ fb1 ∧ V8 ≠ so1 ∧ V8 ≠ fb1 := ⟨blk_ne b6 c6 (by decide), blk_ne b6 S6.s (by decide), blk_ne b6 S6.f (by decide), blk_ne c6 S6.s (by decide), blk_ne c6 S6.f (by decide)⟩
      have b7 := b6.keep q7 b6.lt
      have c7 := c6.keep q7 c6.lt
      have S7 := S6.keep q7
      have h7 : T21 (fun x => (gS V5 V8 so fb x ∨ x = so1 ∨ x = fb1) ∨ (w6.heap.size ≤ x ∧ x ≤ w6.heap.size + 1)) W.heap.size W _ g cs1 sc1 D1 D1 s1 := h6.keepE q7 (fun b hb => hb.imp id (fun hb => by rw [s7]; omega))
      have zB := h6.sz
      obtain ⟨V, hV⟩ : ∃ V, (w6.alloc (.cells zs.toArray 37)).alloc (.cells zS.toArray 46) = V := ⟨_, rfl⟩
      rw [hV] at n1 n2 s7 b7 c7 S7 h7
      have VH := Lib.hid hV
      obtain ⟨M, hM⟩ : ∃ M, w6.heap.size = M := ⟨_, rfl⟩
      rw [hM] at n1 n2 s7 h7 lt6 zB
      have MH := Lib.hid hM
      have b7H := Lib.hid b7
      have c7H := Lib.hid c7
      have S7H := Lib.hid S7
      have h7H := Lib.hid h7
      have finH := Lib.hid fin
      have neH := Lib.hid ne6
      clear cS q7 h6 b6 c6 S6 kp6 b5 c5 b5H c5H n5 hV hM b7 c7 S7 h7 hk5 FN nesH fin ne6
      go_wp2_with (first
        | (with_reducible refine wpList_alloc_blk rfl 37 rfl hz ?_)
        | (with_reducible refine wpList_alloc_blk rfl 46 rfl hzz ?_; refine RowKit.Hid.out ?_))
      refine Lib.hid ?_
      rw [VH.out]
      simp only [MH.out]
      go_wp2_with ((refine store_row rfl 37 (.tmp 13) _ rfl rfl rfl n1 rowDd l1 hzl o1 ?_); intro w8 d8 g8; refine RowKit.Hid.out ?_)
      refine Lib.hid ?_
      have n2 := n2.grown g8 (fun e => by injection e; omega)
      have b8 := Lib.hid (b7H.out.grown g8 (fun e => by injection e; omega))
      have c8 := Lib.hid (c7H.out.grown g8 (fun e => by injection e; omega))
      have S8 := Lib.hid (S7H.out.far g8 (by omega) (by omega))
      have h8 := Lib.hid (h7H.out.grown g8 (.inr ⟨Nat.le_refl _, by omega⟩) zB)
      have s8 := g8.size
      clear n1 g8 b7H c7H S7H h7H
      go_wp2_with ((refine store_row rfl 46 (.tmp 14) _ rfl rfl rfl n2 rowSl ls1 hzzl os1 ?_); intro w9 e9 g9; refine RowKit.Hid.out ?_)
      refine Lib.hid ?_
      have d9 := d8.grown g9 (fun e => by injection e; omega)
      have dr : Below w9.heap.size w9 w9.drew := (Below.refl _ _).drew
      have d10 := d9.keep dr d9.lt
      have e10 := e9.keep dr e9.lt
      have b10 := (b8.out.grown g9 (fun e => by injection e; omega)).keep dr (b8.out.grown g9 (fun e => by injection e; omega)).lt
      have c10 := Lib.hid ((c8.out.grown g9 (fun e => by injection e; omega)).keep dr (c8.out.grown g9 (fun e => by injection e; omega)).lt)
      have S10 := Lib.hid ((S8.out.far g9 (by omega) (by omega)).keep dr)
      have h10 := Lib.hid ((h8.out.grown g9 (.inr ⟨by omega, Nat.le_refl _⟩) (by omega)).keep dr)
      obtain ⟨w9d, hw9⟩ : ∃ V, w9.drew = V := ⟨_, rfl⟩
      rw [hw9] at d10 e10 b10 c10 S10 h10
      have W9 := Lib.hid hw9
      clear n2 d8 g9 b8 c8 S8 h8 d9 e9 dr hw9 VH MH
      go_wp2_with fail
      refine region_seqS (fun w' => Blk w' M 37 cs1 ∧ Blk w' (M + 1) 46 sc1) (by kernel_rfl) (by rw [W9.out]; exact ⟨d10, e10⟩) ?_
      have iv := And.intro d10 e10
      simp only [pairs, Nat.reduceAdd]
      rw [W9.out]
      repeat ((first
        | (refine SeqS.y0 (v := .agg (cs1).toArray) (yields_blk (by rfl) 37 (.tmp 13) rfl rfl (fun w' h => h.1) (row1)) ?_)
        | (refine SeqS.y0 (v := .agg (sc1).toArray) (yields_blk (by rfl) 46 (.tmp 14) rfl rfl (fun w' h => h.2) (rowS1)) ?_)
        | (refine SeqS.k0 (v := ?_) ?_ ?_; rotate_left; focus (intro w' hb'; go_simp; with_reducible rfl))
        | (refine SeqS.u0 ?_)
        | (refine SeqS.y1 (v := .agg (cs1).toArray) (yields_blk (by rfl) 37 (.tmp 13) rfl rfl (fun w' h => h.1) (row1)) ?_)
        | (refine SeqS.y1 (v := .agg (sc1).toArray) (yields_blk (by rfl) 46 (.tmp 14) rfl rfl (fun w' h => h.2) (rowS1)) ?_)
        | (refine SeqS.k1 (v := ?_) ?_ ?_; rotate_left; focus (intro w' hb'; go_simp; with_reducible rfl))
        | (refine SeqS.u1 ?_)
        | (refine SeqS.y2 (v := .agg (cs1).toArray) (yields_blk (by rfl) 37 (.tmp 13) rfl rfl (fun w' h => h.1) (row1)) ?_)
        | (refine SeqS.y2 (v := .agg (sc1).toArray) (yields_blk (by rfl) 46 (.tmp 14) rfl rfl (fun w' h => h.2) (rowS1)) ?_)
        | (refine SeqS.k2 (v := ?_) ?_ ?_; rotate_left; focus (intro w' hb'; go_simp; with_reducible rfl))
        | (refine SeqS.u2 ?_)); simp only [Act.put, List.setIfInBounds_toArray, List.set_cons_zero, List.set_cons_succ])
      refine SeqS.alone (by decide +kernel) (by rfl) (fun K1 hK => ?_)
      refine wp_store_part 37 (.tmp 5) _ rfl rfl rfl b10 row1 (by rw [l1, lcs]; decide) o1 (fun wa ba ga => ?_)
      rw [overV_all _ _ (by rw [l1, lcs])] at ba
      have da := d10.grown ga (fun e => by injection e; omega)
      have ea := e10.grown ga (fun e => by injection e; omega)
      have ca := c10.out.grown ga (fun e => by injection e with e; exact ns6.1 e.symm)
      have Sa := Lib.hid (S10.out.far ga (fun e => ns6.2.1 e.symm) (fun e => ns6.2.2.1 e.symm))
      have ha := Lib.hid (h10.out.grown ga (.inl (.inl (.inl rfl))) BGH.out)
      refine hK _ _ ⟨da, ea⟩ ?_
      clear hK K1 iv d10 e10 b10 c10 S10 h10 ga
      have iv := And.intro da ea
      repeat ((first
        | (refine SeqS.y0 (v := .agg (sc1).toArray) (yields_blk (by rfl) 46 (.tmp 14) rfl rfl (fun w' h => h.2) (rowS1)) ?_)
        | (refine SeqS.k0 (v := ?_) ?_ ?_; rotate_left; focus (intro w' hb'; go_simp; with_reducible rfl))
        | (refine SeqS.u0 ?_)
        | (refine SeqS.y1 (v := .agg (sc1).toArray) (yields_blk (by rfl) 46 (.tmp 14) rfl rfl (fun w' h => h.2) (rowS1)) ?_)
        | (refine SeqS.k1 (v := ?_) ?_ ?_; rotate_left; focus (intro w' hb'; go_simp; with_reducible rfl))
        | (refine SeqS.u1 ?_)
        | (refine SeqS.y2 (v := .agg (sc1).toArray) (yields_blk (by rfl) 46 (.tmp 14) rfl rfl (fun w' h => h.2) (rowS1)) ?_)
        | (refine SeqS.k2 (v := ?_) ?_ ?_; rotate_left; focus (intro w' hb'; go_simp; with_reducible rfl))
        | (refine SeqS.u2 ?_)); simp only [Act.put, List.setIfInBounds_toArray, List.set_cons_zero, List.set_cons_succ])
      refine SeqS.alone (by decide +kernel) (by rfl) (fun K2 hK => ?_)
      refine wp_store_part 46 (.tmp 8) _ rfl rfl rfl ca rowS1 (by rw [ls1, lsc]; decide) os1 (fun wb cb gb => ?_)
      rw [overV_all _ _ (by rw [ls1, lsc])] at cb
      have db := da.grown gb (fun e => by injection e; omega)
      have eb := ea.grown gb (fun e => by injection e; omega)
      have bb := ba.grown gb (fun e => by injection e with e; exact ns6.1 e)
      have Sb' := Sa.out.far gb (fun e => ns6.2.2.2.1 e.symm) (fun e => ns6.2.2.2.2 e.symm)
      have hb := (ha.out.grown gb (.inl (.inl (.inr (.inl rfl)))) BG8.out).less (E' := gS V5 V8 so1 fb1) (fun x hx => by
        rcases hx with hx | hx | hx | hx
        · exact .inl (.inl (.inl hx))
        · exact .inl (.inl (.inr (.inl hx)))
        · exact .inl (.inr (.inl hx))
        · exact .inl (.inr (.inr hx)))
      refine hK _ _ ⟨db, eb⟩ ?_
      have iv2 := And.intro db eb
      have cL := like21_any hb Sb' finH.out.1 (by have := JT.out; omega) finH.out.2.1 finH.out.2.2.1 finH.out.2.2.2.2 HGW.out (Nat.le_refl _)
      have hbH := Lib.hid hb
      have SbH := Lib.hid Sb'
      clear hK K2 iv da ea ca ba Sa ha gb hb Sb'
      repeat ((first
        | (refine SeqS.k0 (v := ?_) ?_ ?_; rotate_left; focus (intro w' hb'; go_simp; with_reducible rfl))
        | (refine SeqS.u0 ?_)
        | (refine SeqS.k1 (v := ?_) ?_ ?_; rotate_left; focus (intro w' hb'; go_simp; with_reducible rfl))
        | (refine SeqS.u1 ?_)
        | (refine SeqS.k2 (v := ?_) ?_ ?_; rotate_left; focus (intro w' hb'; go_simp; with_reducible rfl))
        | (refine SeqS.u2 ?_)); simp only [Act.put, List.setIfInBounds_toArray, List.set_cons_zero, List.set_cons_succ])
      refine SeqS.done (by decide +kernel) ?_
      clear iv2 db eb
      go_wp2_with (first
        | ((with_reducible refine load_if rfl 37 (.tmp 5) rfl ?_ bb rowDd l1 ?_); rfl)
        | ((with_reducible refine load_if rfl 46 (.tmp 8) rfl ?_ cb rowSl ls1 ?_); rfl))
      refine cL.mono ?_
      rintro q wc ⟨rfl, qc⟩
      have bbc := bb.keep qc bb.lt
      have ccc := cb.keep qc cb.lt
      have Sc := SbH.out.keep qc
      have hc := hbH.out.keep qc
      clear cL qc bb cb SbH hbH
      go_wp2_with fail
      exact ⟨⟨j + 1, so1, fb1, cs1, sc1, D1, s1, hltH.out, by congr 1, rfl, finH.out, Sc, neH.out, hc, bbc, ccc⟩, fall21 hltH.out⟩
    · obtain rfl : j = m := Nat.le_antisymm hj (Nat.not_lt.1 hlt)
      have hBL := hBLH.out.trans (hT.b.mono hBLH.out.size)
      clear hT hS b0 c0 hfin
      go_wp2_with fail
      refine (alive21_any _ (HG.out.keep hBL (Nat.le_refl _))).mono ?_
      rintro q wz ⟨rfl, bz⟩
      have hBz := hBL.trans (bz.mono hBL.size)
      clear bz hBL
      go_wp2
      go_ret
      exact ⟨rfl, hBz⟩
end Go.Proofs.YtcohbhimhacedaaGreatDoor
