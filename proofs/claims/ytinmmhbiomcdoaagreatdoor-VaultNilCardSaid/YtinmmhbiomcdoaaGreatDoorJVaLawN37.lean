/-
  Texts of stages that were proved on their own, joined: VaOpen, VaSt, VaAlive. Each begins with its own words.
-/
import Derived.Test.YtinmmhbiomcdoaaGreatDoorJVaLawN35
import Derived.Test.YtinmmhbiomcdoaaGreatDoorJVaLawN36
import Derived.Test.YtinmmhbiomcdoaaGreatDoorJVaLawN16

/-
  A vault's Open. New memory is written, and the disk's own. Conditions: a disk that New made, and that is up (or one that no call made); fewer than 2^42 steps; the files hold bytes.
-/
namespace Go.Proofs.YtinmmhbiomcdoaaGreatDoor
open Go.RowKit

/-- An error that wraps the number k. -/
def ErrV (er : Value) (k : Int) : Prop := (∃ s, er = fault1 s k) ∨ ∃ s s2, er = fault2 s s2 k
/-- Behind Open: blocks N are new ones. -/
def VoTo (Hs : (Nat → Prop) → World → DkV → Prop) (E : Nat → Prop) (w w' : World) (N : Nat → Prop) (D' : DkV) : Prop :=
  (∀ b, N b → w.heap.size ≤ b) ∧ Hs (fun b => E b ∨ N b) w' D' ∧ w.heap.size ≤ w'.heap.size ∧ ∀ b, E b → w'.heap[b]? = w.heap[b]?
theorem VaIn.cut {V V' : Nat → Prop} {B : Nat} {w : World} {vo ro so fb g : Nat} {rv : Value} {v : VtV} (h : VaIn V B w vo ro so fb g rv v) (hV : ∀ b, V b → b < w.heap.size → V' b) : VaIn V' B w vo ro so fb g rv v := by
  refine ⟨h.o, h.r, h.s, ?_, ⟨hV _ h.vo.1 h.o.lt, h.vo.2⟩, hV _ h.vr h.r.lt, hV _ h.vs.1 h.s.s.lt, hV _ h.vs.2.1 h.s.f.lt, h.vs.2.2⟩
  obtain ⟨SL, ho, hr, hx⟩ := h.p
  refine ⟨SL, ho, fun b hb => hV _ (hr b hb) (ho.lt b hb).2, fun i hi => ?_⟩
  obtain ⟨a, n, c, h1, h2, h3⟩ := hx i hi
  exact ⟨a, n, c, h1, h2, fun x hx h0 => ⟨hV _ (h3 x hx h0).1 (h2.isIn.2 x hx h0), (h3 x hx h0).2⟩⟩
theorem VaIn.vaeq {V : Nat → Prop} {B : Nat} {w : World} {vo ro so fb g : Nat} {rv : Value} {v v' : VtV} (h : VaIn V B w vo ro so fb g rv v) (h1 : v.last = v'.last) (h2 : v.s.now = v'.s.now) (h3 : v.after = v'.after) : VaIn V B w vo ro so fb g rv v' :=
  ⟨h1 ▸ h.o, h.r, h2 ▸ h.s, h3 ▸ h.p, h.vo, h.vr, h.vs⟩
theorem VoTo.keep {Hs : (Nat → Prop) → World → DkV → Prop} {E N : Nat → Prop} {B : Nat} {w0 w w' w'' : World} {g : Nat} {D' : DkV} (H : Host Hs B w0 g) (h : VoTo Hs E w w' N D') (hb : Below w'.heap.size w' w'') : VoTo Hs E w w'' N D' :=
  ⟨h.1, H.keep h.2.1 hb, Nat.le_trans h.2.2.1 hb.size, fun b he => (hb.block b ((H.low h.2.1).2.2 b (.inl he))).trans (h.2.2.2 b he)⟩
theorem len_drop22 {L : List (List Int)} {k : Nat} (h : k < L.length) : L.drop k = L.getD k [] :: L.drop (k + 1) := by
  rw [List.drop_eq_getElem_cons h, List.getD_eq_getElem?_getD, List.getElem?_eq_getElem h]
  rfl
theorem goV_at {l : Int} {acc L : List (List Int)} {k : Nat} (h : k < L.length) : goV l acc (L.drop k) = if (L.getD k []).length < 9 then (4, l, acc) else if be ((L.getD k []).take 8) ≤ l then goV l acc (L.drop (k + 1)) else if be ((L.getD k []).take 8) ≠ l + 1 then (4, l, acc) else goV (be ((L.getD k []).take 8)) (acc ++ [(L.getD k []).drop 8]) (L.drop (k + 1)) := by
  rw [len_drop22 h, goV_cons]
theorem few_ps22 {D : DkV} {T : Nat} (hO : D.Ok T) {ps : List (List Int)} (hp : allF (heldR D 0) = ps) : ps.length ≤ 65536 := by
  have h1 := allF_len (heldR D 0)
  have h2 := numF_le (heldR D 0)
  have h3 := held_len hO 0
  rw [← hp, h1]
  omega
theorem long_ps22 {D : DkV} {ps : List (List Int)} (hp : allF (heldR D 0) = ps) : ∀ p ∈ ps, p.length ≤ 65536 := by
  intro p hpm
  rw [← hp] at hpm
  obtain ⟨k, hk, rfl⟩ := List.mem_map.1 hpm
  exact one_len _

set_option maxRecDepth 100000 in
set_option maxHeartbeats 8000000 in
theorem vaopen_any {Hs : (Nat → Prop) → World → DkV → Prop} {E : Nat → Prop} {B : Nat} {w0 w : World} {g : Nat} {D D' : DkV} {T : Nat} {v : VtV} {o : Addr} {e : Int} (H : Host Hs B w0 g) (h : Hs E w D) (hO : D.Ok T) (hT : T < 4398046511000) (hD : D.By) (hG : Glob22 o w0) (hB : w0.heap.size ≤ B) (hd : D.down = false) (he : opV D = (D', v, e)) :
    Calls Tryz.prog 33 #[.pointer (some ⟨g, 0, none⟩)] w fun q w' => ∃ N, VoTo Hs E w w' N D' ∧ ((e = 0 ∧ ∃ vo ro so fb rv, q = .returned (.tuple #[.pointer (some ⟨vo, 0, none⟩), .nilIface]) ∧ VaIn N B w' vo ro so fb g rv v) ∨ (e ≠ 0 ∧ ∃ er, q = .returned (.tuple #[.pointer none, er]) ∧ ErrV er e)) := by
  unfold opV at he
  rw [if_neg (by rw [hd]; decide)] at he
  obtain ⟨s, hs⟩ : ∃ s, opS D 1 2 = s := ⟨_, rfl⟩
  have hok := opS_ok hD (a := 1) (b := 2) (by decide) (by decide) (by decide)
  have hcu : Cur D (opS D 1 2) := op_cur
  have hab := op_ab22 D
  rw [hs] at he hok hcu hab
  have cS := h_slopen H h hO hD hG.h hB hd hs
  have hok1 := mdD_ok hO 0
  have hby1 := mdD_by hD 0
  have hcu1 : Cur (mdD D 0).1 s := hcu.roll hok hab (fun y hy hn => md_held hy hn)
  obtain ⟨D1, e1, hm1⟩ : ∃ D1 e1, mdD D 0 = (D1, e1) := ⟨_, _, rfl⟩
  rw [hm1] at he hok1 hby1 hcu1
  dsimp only at he hok1 hby1 hcu1
  have lo := Lib.hid (H.low h)
  by_cases h1 : e1 = 0
  case neg =>
    rw [if_pos h1] at he
    injection he with k1 he
    injection he with k2 k3
    subst k1; subst k2; subst k3
    have cR := Lib.hid (fun (E' : Nat → Prop) (w' : World) (h' : Hs E' w' D) => h_yopen_err H h' hO (by omega) hD hG.h hB hd hm1 h1)
    have bt := fun (S : ByteArray) => built_f1 S 26 (.int .i64 e1)
    have h1H := Lib.hid h1
    have neb : (e1 != 0) = true := bne_iff_ne.2 h1
    have HH := Lib.hid H
    have sEH := Lib.hid (fun w' (q : Below w.heap.size w w') => H.same h q)
    clear H h hO hT hD hG hB hd hs hok hcu hab hok1 hby1 hcu1 hm1
    go_enter Tryz.func33, Tryz.ntmps33
    go_wp2_with fail
    refine cS.mono ?_
    rintro q w1 ⟨so, fb, rfl, S1, ⟨hne, hBs, hz1, hz2⟩, h1', b1⟩
    have cR1 := cR.out _ w1 h1'
    have sE := sEH.out w1 b1
    have hzH := Lib.hid (show w.heap.size ≤ so ∧ w.heap.size ≤ fb from ⟨hz1, hz2⟩)
    have b1H := Lib.hid b1
    clear cS cR S1 hne hBs hz1 hz2 h1' b1
    go_wp2_with fail
    refine cR1.mono ?_
    rintro q w2 ⟨rfl, h2, s2, z2⟩
    have fin := Lib.hid (show VoTo Hs E w w2 (fun b => b = so ∨ b = fb) D1 from ⟨fun b hb => hb.elim (fun hb => hb ▸ hzH.out.1) (fun hb => hb ▸ hzH.out.2), h2, Nat.le_trans b1H.out.size z2, fun b hb => (s2 b (.inl hb)).trans (sE b hb)⟩)
    clear cR1 h2 s2 z2 sE
    go_wp2
    go_ret2
    exact ⟨_, fin.out, .inr ⟨h1H.out, _, rfl, .inl ⟨_, rfl⟩⟩⟩
  subst h1
  rw [if_neg (by decide)] at he
  obtain ⟨ps, hps⟩ : ∃ ps, allF (heldR D1 0) = ps := ⟨_, rfl⟩
  rw [hps] at he
  have hfew := few_ps22 hok1 hps
  have hlong := long_ps22 hps
  have hpb : ∀ p ∈ ps, ∀ y ∈ p, isByte y := by
    rw [← hps]
    exact allF_range ((hby1.f _).held)
  have cR := Lib.hid (fun (E' : Nat → Prop) (w' : World) (h' : Hs E' w' D) => h_yopen H h' hO (by omega) hD hG.h hB hd hm1)
  injection he with k1 he
  obtain ⟨L0, hL0⟩ : ∃ L, (if 0 < s.turn ∧ 8 ≤ s.body.length then be (s.body.take 8) else 0) = L := ⟨_, rfl⟩
  have hL0r : 0 ≤ L0 ∧ L0 < 18446744073709551616 := by
    rw [← hL0]
    split
    · exact be8_lim22 hok.bb 8 (Nat.le_refl _)
    · exact ⟨by decide, by decide⟩
  have cB := Lib.hid (fun (E' V : Nat → Prop) (w' : World) (vo ro so fb : Nat) (h' : Hs E' w' D1) (hV : VaIn V B w' vo ro so fb g (.slice none 0 0) ⟨s, 0, false, [], []⟩) => vaBegin_any H h' hV hab hok1 hby1 hok hcu1 hG hB rfl hL0)
  have cY := Lib.hid (fun (E' : Nat → Prop) (w' : World) (ro : Nat) (h' : Hs E' w' D1) (r' : RollAt w' ro g 0) => h_bodies H h' r' hok1 hby1 hG.h hB hps)
  have GW := Lib.hid (fun (w' : World) (q : Below B w0 w') => hG.keep q hB)
  have HH := Lib.hid H
  have sEH := Lib.hid (fun w' (q : Below w.heap.size w w') => H.same h q)
  have heH := Lib.hid he
  have fewH := Lib.hid hfew
  have longH := Lib.hid hlong
  have pbH := Lib.hid hpb
  have L0H := Lib.hid hL0
  have LrH := Lib.hid hL0r
  subst k1
  have btv : ∀ (ro so : Nat), Tryz.prog.built 80 [(0, .pointer (some ⟨ro, 0, none⟩)), (1, .pointer (some ⟨so, 0, none⟩))] = some (vaC ro so (.slice none 0 0) 0).toArray := fun ro so => by kernel_rfl
  clear H h hO hT hD hG hB hd hs hok hcu hab hok1 hby1 hcu1 hm1 he hps hlong hpb hL0 hL0r
  go_enter Tryz.func33, Tryz.ntmps33
  go_wp2_with fail
  refine cS.mono ?_
  rintro q w1 ⟨so, fb, rfl, S1, ⟨hne, hBs, hz1, hz2⟩, h1', b1⟩
  have cR1 := cR.out _ w1 h1'
  have sE := sEH.out w1 b1
  have fcH := Lib.hid (show so ≠ fb ∧ B ≤ so ∧ w.heap.size ≤ so ∧ w.heap.size ≤ fb from ⟨hne, hBs, hz1, hz2⟩)
  have b1H := Lib.hid b1
  have S1H := Lib.hid S1
  clear cS cR S1 hne hBs hz1 hz2 h1' b1
  go_wp2_with fail
  refine cR1.mono ?_
  rintro q w2 ⟨ro, rfl, R2, hzr, h2, s2, z2⟩
  have S2 := S1H.out.same (s2 so (.inr (.inl rfl))) (s2 fb (.inr (.inr rfl)))
  have sE2 : ∀ b, E b → w2.heap[b]? = w.heap[b]? := fun b hb => (s2 b (.inl hb)).trans (sE b hb)
  have zr : w.heap.size ≤ ro := Nat.le_trans b1H.out.size hzr
  have z2' := Nat.le_trans b1H.out.size z2
  have q3 := below1 w2 (.cells (vaC ro so (.slice none 0 0) 0).toArray 80)
  have O3 : Blk (w2.alloc (.cells (vaC ro so (.slice none 0 0) 0).toArray 80)) w2.heap.size 80 (vaC ro so (.slice none 0 0) 0) := Blk.new w2 _ _
  have h3 := HH.out.keepE (E' := fun b => ((E b ∨ b = so ∨ b = fb) ∨ b = ro) ∨ b = w2.heap.size) h2 q3 (fun b hb => hb.imp id (fun hb => by rw [hb, size1]; exact ⟨Nat.le_refl _, Nat.lt_succ_self _⟩))
  have lo3 := (HH.out.low h2).2.1
  have R3 := R2.keep q3
  have S3 := S2.keep q3
  have sE3 : ∀ b, E b → (w2.alloc (.cells (vaC ro so (.slice none 0 0) 0).toArray 80)).heap[b]? = w.heap[b]? := fun b hb => (q3.block b ((HH.out.low h2).2.2 b (.inl (.inl hb)))).trans (sE2 b hb)
  have z3 := Nat.le_trans z2' q3.size
  obtain ⟨vo, hvo⟩ : ∃ vo, w2.heap.size = vo := ⟨_, rfl⟩
  obtain ⟨W3, hW3⟩ : ∃ W, w2.alloc (.cells (vaC ro so (.slice none 0 0) 0).toArray 80) = W := ⟨_, rfl⟩
  obtain ⟨VC, hVC⟩ : ∃ C, vaC ro so (.slice none 0 0) 0 = C := ⟨_, rfl⟩
  have bt3 := btv ro so
  rw [hW3] at O3 h3 R3 S3 sE3 z3
  rw [hvo] at O3 h3 lo3 z2'
  have V3 : VaIn (fun b => b = vo ∨ b = ro ∨ b = so ∨ b = fb) B W3 vo ro so fb g (.slice none 0 0) ⟨s, 0, false, [], []⟩ := ⟨O3, R3, S3, RowV.nil _ _ _, ⟨.inl rfl, lo3⟩, .inr (.inl rfl), ⟨.inr (.inr (.inl rfl)), .inr (.inr (.inr rfl)), fcH.out.1, fcH.out.2.1⟩⟩
  have cB3 := cB.out _ _ W3 vo ro so fb h3 V3
  rw [hVC] at hW3 bt3
  have hW3H := Lib.hid hW3
  have hvoH := Lib.hid hvo
  have h3H := Lib.hid h3
  have sE3H := Lib.hid sE3
  have zH := Lib.hid (show w.heap.size ≤ vo ∧ w.heap.size ≤ ro ∧ w.heap.size ≤ W3.heap.size ∧ B ≤ vo from ⟨z2', zr, z3, lo3⟩)
  clear cR1 cB btv S2 sE2 zr z2' q3 O3 h3 lo3 R3 S3 sE3 z3 hvo hW3 V3 R2 hzr h2 s2 z2 sE hVC
  go_wp2_with (first
    | ((with_reducible refine build_row rfl 80 #[(0, .tmp 34), (1, .tmp 35)] rfl (cells := VC.toArray) ?_ ?_); (refine Eq.trans (congrArg _ ?_) bt3; kernel_rfl))
    | ((with_reducible refine box_row rfl 80 (.tmp 36) rfl VC rfl ?_); refine RowKit.Hid.out ?_))
  refine Lib.hid ?_
  rw [hW3H.out, hvoH.out]
  clear bt3 hW3H hvoH
  go_wp2_with fail
  refine cB3.mono ?_
  rintro q w4 ⟨hq, V4, m4⟩
  clear cB3
  have h4 := HH.out.movedE (E' := fun b => ((E b ∨ b = so ∨ b = fb) ∨ b = ro) ∨ b = vo) h3H.out m4 (fun b hb => by subst hb; exact ⟨.inr rfl, zH.out.2.2.2⟩) (fun _ h => .inl h)
  have sE4 : ∀ b, E b → w4.heap[b]? = w.heap[b]? := fun b hb => (m4.2 b ((HH.out.low h3H.out).2.2 b (.inl (.inl (.inl hb)))) (fun e => by
    have hlt : b < w.heap.size := lo.out.2.2 b hb
    have := zH.out.1
    omega)).trans (sE3H.out b hb)
  have z4 := Nat.le_trans zH.out.2.2.1 m4.size
  have nH := Lib.hid (show ∀ b, (b = vo ∨ b = ro ∨ b = so ∨ b = fb) → w.heap.size ≤ b from fun b hb => by
    rcases hb with rfl | rfl | rfl | rfl
    · exact zH.out.1
    · exact zH.out.2.1
    · exact fcH.out.2.2.1
    · exact fcH.out.2.2.2)
  rcases hq with ⟨⟨ht, h8⟩, s4, rfl⟩ | ⟨ht8, rfl⟩
  · have he := heH.out
    unfold mkV at he
    rw [if_pos ht, if_pos h8] at he
    injection he with k2 k3
    have e4 := Lib.hid k3.symm
    clear k2 k3
    have ne := neF22
    have bt4 := fun (S : ByteArray) (v : Value) => built_f1 S 132 v
    have fin := Lib.hid (show VoTo Hs E w w4 (fun b => b = vo ∨ b = ro ∨ b = so ∨ b = fb) D1 from ⟨nH.out, HH.out.less h4 (fun b hb => by
      rcases hb with hb | rfl | rfl | rfl | rfl
      · exact .inl (.inl (.inl hb))
      · exact .inr rfl
      · exact .inl (.inr rfl)
      · exact .inl (.inl (.inr (.inl rfl)))
      · exact .inl (.inl (.inr (.inr rfl)))), z4, sE4⟩)
    unfold fault1
    clear V4 m4 h4 sE4 z4 cY heH ht h8
    go_wp2
    go_ret2
    exact ⟨_, fin.out, .inr ⟨by rw [e4.out]; decide, _, rfl, .inr ⟨_, s4, by rw [e4.out]; rfl⟩⟩⟩
  have ne := neN22
  have ht8H := Lib.hid ht8
  have cY4 := cY.out _ w4 ro h4 V4.r
  have h4H := Lib.hid h4
  have V4H := Lib.hid V4
  have sE4H := Lib.hid sE4
  have z4H := Lib.hid z4
  clear m4 h4 sE4 z4 cY V4 ht8
  go_wp2_with fail
  refine cY4.mono ?_
  rintro q w5 ⟨bv, rfl, RO, b5⟩
  clear cY4
  have h5 := HH.out.keep h4H.out b5
  have V5 := V4H.out.keep b5
  have sE5 : ∀ b, E b → w5.heap[b]? = w.heap[b]? := fun b hb => (b5.block b ((HH.out.low h4H.out).2.2 b (.inl (.inl (.inl hb))))).trans (sE4H.out b hb)
  have z5 := Nat.le_trans z4H.out b5.size
  have lo5 := HH.out.low h5
  obtain ⟨ra, rc, rfl, hP5⟩ := RO.parts
  have ROH := Lib.hid RO
  have h5H := Lib.hid h5
  have hBw := Lib.hid lo5.1
  have sE5H := Lib.hid sE5
  have z5H := Lib.hid z5
  have lo5H := Lib.hid (show B ≤ w5.heap.size from lo5.2.1)
  have V5t := Lib.hid V5
  have V5 : VaIn (fun b => (b = vo ∨ b = ro ∨ b = so ∨ b = fb) ∨ w5.heap.size ≤ b) B w5 vo ro so fb g (.slice none 0 0) ⟨s, L0, false, [], []⟩ := V5.same (fun _ _ _ => rfl) (fun _ h => .inl h)
  obtain ⟨n, hn⟩ : ∃ n, ps.length = n := ⟨_, rfl⟩
  have hnH := Lib.hid hn
  -- the answer, wherever it is
  have fin := Lib.hid (show ∀ wr L (acc : List (List Int)) rv, VaIn (fun b => (b = vo ∨ b = ro ∨ b = so ∨ b = fb) ∨ w5.heap.size ≤ b) B wr vo ro so fb g rv ⟨s, L, false, [], acc⟩ → Moved (fun b => ((b = vo ∨ b = ro ∨ b = so ∨ b = fb) ∨ w5.heap.size ≤ b) ∧ B ≤ b) w5 wr → VoTo Hs E w wr (fun b => (b = vo ∨ b = ro ∨ b = so ∨ b = fb) ∨ (w5.heap.size ≤ b ∧ b < wr.heap.size)) D1 ∧ VaIn (fun b => (b = vo ∨ b = ro ∨ b = so ∨ b = fb) ∨ (w5.heap.size ≤ b ∧ b < wr.heap.size)) B wr vo ro so fb g rv ⟨s, L, false, [], acc⟩ from by
    intro wr L acc rv hVr hm
    refine ⟨⟨fun b hb => hb.elim (nH.out b) (fun hb => Nat.le_trans z5H.out hb.1), ?_, Nat.le_trans z5H.out hm.size, fun b hb => ?_⟩, hVr.cut (fun b hb hl => hb.imp id (fun hb => ⟨hb, hl⟩))⟩
    · have hm' : Moved (fun b => (b = vo ∨ b = ro ∨ b = so ∨ b = fb) ∧ B ≤ b) w5 wr := ⟨hm.1, fun b hl hn => hm.2 b hl (fun hf => hn ⟨hf.1.elim id (fun h => absurd hl (Nat.not_lt.2 h)), hf.2⟩)⟩
      refine HH.out.movedE h5H.out hm' (fun b hb => ⟨?_, hb.2⟩) (fun b hb => ?_)
      · rcases hb.1 with rfl | rfl | rfl | rfl
        · exact .inr rfl
        · exact .inl (.inr rfl)
        · exact .inl (.inl (.inr (.inl rfl)))
        · exact .inl (.inl (.inr (.inr rfl)))
      · rcases hb with hb | hb | hb
        · exact .inl (.inl (.inl (.inl hb)))
        · rcases hb with rfl | rfl | rfl | rfl
          · exact .inl (.inr rfl)
          · exact .inl (.inl (.inr rfl))
          · exact .inl (.inl (.inl (.inr (.inl rfl))))
          · exact .inl (.inl (.inl (.inr (.inr rfl))))
        · exact .inr hb
    · have hlt : b < w.heap.size := lo.out.2.2 b hb
      refine (hm.2 b (Nat.lt_of_lt_of_le hlt z5H.out) (fun hf => ?_)).trans (sE5H.out b hb)
      rcases hf.1 with hf | hf
      · exact absurd hlt (Nat.not_lt.2 (nH.out b hf))
      · exact absurd hlt (Nat.not_lt.2 (Nat.le_trans z5H.out hf)))
  have pstay := Lib.hid (show ∀ wr, Moved (fun b => ((b = vo ∨ b = ro ∨ b = so ∨ b = fb) ∨ w5.heap.size ≤ b) ∧ B ≤ b) w5 wr → Parts wr ra ps.length rc ps from by
    intro wr hm
    have ho5 := V5t.out
    have hst := ROH.out.stay (w' := wr) hm.size (fun b hl hb => hm.2 b hl (fun hf => ?_))
    · obtain ⟨a', c', e', hp⟩ := hst.parts
      injection e' with e1 _ e3
      subst e1; subst e3
      exact hp
    · have hty : ∃ cur t, w5.heap[b]? = some (.cells cur t (0, 0)) ∧ (t = 5 ∨ t = 34) := by
        rcases hb with hb | ⟨cur, t, h1, h2⟩
        · omega
        · exact ⟨cur, t, h1, h2.imp id (fun h => h.1)⟩
      obtain ⟨cur, t, h1, h2⟩ := hty
      rcases hf.1 with hf | hf
      · have key : ∀ t' cs, Blk w5 b t' cs → t' ≠ 5 → t' ≠ 34 → False := fun t' cs hb n1 n2 => by
          unfold Blk at hb
          rw [h1] at hb
          injection hb with hb
          injection hb with _ hb _
          rcases h2 with h2 | h2
          · exact n1 (hb.symm.trans h2)
          · exact n2 (hb.symm.trans h2)
        rcases hf with rfl | rfl | rfl | rfl
        · exact key _ _ ho5.o (by decide) (by decide)
        · exact key _ _ ho5.r (by decide) (by decide)
        · exact key _ _ ho5.s.s (by decide) (by decide)
        · exact key _ _ ho5.s.f (by decide) (by decide)
      · omega)
  rw [hn] at pstay hP5 ⊢
  have gos : goV L0 [] (ps.drop 0) = goV L0 [] ps := rfl
  have hnf : n ≤ 65536 := by rw [← hn]; exact hfew
  have gosH := Lib.hid gos
  clear RO b5 h5 sE5 z5 lo5 hP5 hn hfew gos
  go_wp2_with fail
  go_loopw [48] (fun i wr => ∃ (k : Nat) (L : Int) (acc : List (List Int)) (rv : Value), k ≤ n ∧ i = .int .i64 k ∧ VaIn (fun b => (b = vo ∨ b = ro ∨ b = so ∨ b = fb) ∨ w5.heap.size ≤ b) B wr vo ro so fb g rv ⟨s, L, false, [], acc⟩ ∧ Moved (fun b => ((b = vo ∨ b = ro ∨ b = so ∨ b = fb) ∨ w5.heap.size ≤ b) ∧ B ≤ b) w5 wr ∧ goV L acc (ps.drop k) = goV L0 [] ps ∧ (0 ≤ L ∧ L < 18446744073709551616) ∧ acc.length ≤ k) (fun i _ => n - (intOf i).toNat)
  case atStart => exact ⟨0, L0, [], _, Nat.zero_le _, rfl, V5, Moved.rfl', gosH.out, LrH.out, Nat.le_refl _⟩
  case round =>
    clear V5
    obtain ⟨k, L, acc, rv, hk, rfl, hVr, hm, hgo, hLr, hacc⟩ := hrel
    have hmk := heH.out
    have hmk2 : (⟨s, (goV L0 [] ps).2.1, v.some, v.body, (goV L0 [] ps).2.2⟩ : VtV) = v ∧ (goV L0 [] ps).1 = e := by
      unfold mkV at hmk
      have hL := L0H.out
      by_cases ht : 0 < s.turn
      · have h8 : ¬ s.body.length < 8 := fun h => ht8H.out ⟨ht, h⟩
        rw [if_pos ht, if_neg h8] at hmk
        rw [if_pos ⟨ht, by omega⟩] at hL
        rw [hL] at hmk
        injection hmk with m1 m2
        exact ⟨by rw [← m1], m2⟩
      · rw [if_neg ht] at hmk
        rw [if_neg (fun h => ht h.1)] at hL
        rw [← hL]
        injection hmk with m1 m2
        exact ⟨by rw [← m1], m2⟩
    by_cases hlt : k < n
    · have hlti : ((k : Nat) : Int) < (n : Int) := Int.ofNat_lt.2 hlt
      have hP := pstay.out wr hm
      obtain ⟨rb, rof, hra, hat⟩ := hP.at (Nat.lt_of_le_of_lt (Nat.zero_le _) hlt)
      obtain ⟨A, m, kk, hcell, hI⟩ := hat k hlt
      subst hra
      have hkl : k < ps.length := by rw [hnH.out]; exact hlt
      rw [goV_at hkl] at hgo
      have hpm : ps.getD k [] ∈ ps := by rw [List.getD_eq_getElem?_getD, List.getElem?_eq_getElem hkl]; exact List.getElem_mem hkl
      have pb := pbH.out _ hpm
      have pl := longH.out _ hpm
      obtain ⟨p, hp⟩ : ∃ p, ps.getD k [] = p := ⟨_, rfl⟩
      rw [hp] at hgo hI pb pl
      have hml := hI.len
      rw [hml] at hgo pl
      have Gr : Glob22 o wr := by
        have hlow := hm.below (B := B) (fun b hb => hb.2) lo5H.out
        exact GW.out wr (hBw.out.trans hlow)
      have hI : Ints .u8 wr A m kk p := hI
      have hrl : acc.length ≤ 100000 := by omega
      have hVn : ∀ b, wr.heap.size ≤ b → (b = vo ∨ b = ro ∨ b = so ∨ b = fb) ∨ w5.heap.size ≤ b := fun b hb => .inr (Nat.le_trans hm.size hb)
      have hBr : B ≤ wr.heap.size := Nat.le_trans lo5H.out hm.size
      have mH := Lib.hid hm
      have VrH := Lib.hid hVr
      have hltH := Lib.hid hlt
      have hgoH := Lib.hid hgo
      have hacH := Lib.hid hacc
      have hLrH := Lib.hid hLr
      have mk2H := Lib.hid hmk2
      by_cases h9 : m < 9
      · have cF := vaFollow_few (vo := vo) Gr hI pb (by omega) h9
        have h9H := Lib.hid h9
        have cI := Lib.hid (fun (s6 : ByteArray) (w' : World) => is22_form s6 4 o w')
        have OK := Lib.hid Gr.o
        have cT := Lib.hid (fun (_ : ByteArray) (w' : World) (q : Below wr.heap.size wr w') => itoa_any22 k w' (by omega) (Gr.keep q (Nat.le_refl _)).p)
        have neF := neF22
        have neb := ne
        clear hlt hk hVr hm hgo hLr hacc hmk hmk2 hP hat hI pb pl Gr hrl hVn hBr hpm hkl hp hml h9
        go_wp2_with fail
        refine cF.mono ?_
        rintro q w6 ⟨⟨s6, rfl⟩, b6⟩
        have cI6 := cI.out s6 w6
        have cT6 := cT.out s6 w6 b6
        have ko : w6.cell? ⟨0, 0, none⟩ = some (.iface 239 (.pointer (some o))) := (b6.cell (p := ⟨0, 0, none⟩) OK.out.lt).trans OK.out
        unfold fault1
        clear cF cI OK
        go_wp2_with fail
        refine cI6.mono ?_
        rintro q w7 ⟨rfl, b7⟩
        have B7 := b6.trans (b7.mono b6.size)
        have cT7 := cT.out s6 w7 B7
        clear cI6 cT6 cT ko neF
        go_wp2_with fail
        refine cT7.mono ?_
        rintro q w8 ⟨⟨s8, rfl, z8⟩, b8⟩
        have ad := fun W => run_string_add_sum (P := Tryz.prog) W ({ data := #[116, 104, 101, 32, 98, 111, 100, 121, 32] } : ByteArray) s8 (by show 9 + s8.size ≤ _; omega)
        obtain ⟨S8, hS8⟩ : ∃ S, ({ data := #[116, 104, 101, 32, 98, 111, 100, 121, 32] } : ByteArray) ++ s8 = S := ⟨_, rfl⟩
        rw [hS8] at ad
        have B8 := B7.trans (b8.mono B7.size)
        obtain ⟨f1, f2⟩ := fin.out w8 L acc rv (VrH.out.keep B8) (mH.out.then (Moved.of_below B8))
        have f1H := Lib.hid f1
        have bt8 := built_f1 S8 132 (.agg #[.string s6, .iface 26 (.int .i64 4)])
        clear cT7 b6 b7 b8 B7 B8 f1 f2 z8 hS8 fin
        go_wp2
        go_ret2
        have he4 : e = 4 := by
          have h := mk2H.out.2
          have h2 := hgoH.out
          rw [if_pos h9H.out] at h2
          rw [← h2] at h
          exact h.symm
        exact ⟨_, f1H.out, .inr ⟨by rw [he4]; decide, _, rfl, .inr ⟨_, s6, by rw [he4]; rfl⟩⟩⟩
      · have h9' : 9 ≤ m := by omega
        rw [if_neg h9] at hgo
        by_cases hle : be (p.take 8) ≤ L
        · have cF := vaFollow_over hVr Gr hI pb (by omega) h9' hle
          have hgo2 := Lib.hid (show goV L acc (ps.drop (k + 1)) = goV L0 [] ps by rw [← hgo, if_pos hle])
          have cI := Lib.hid (fun (s6 : ByteArray) (w' : World) => is22_over s6 o w')
          have neF := neF22
          have OK := Lib.hid Gr.o
          clear hlt hk hVr hm hgo hLr hacc hmk hmk2 hP hat hI pb pl Gr hrl hVn hBr hpm hkl hp hml h9 hle h9'
          go_wp2_with fail
          refine cF.mono ?_
          rintro q w6 ⟨⟨s6, rfl⟩, b6⟩
          have ko : w6.cell? ⟨0, 0, none⟩ = some (.iface 239 (.pointer (some o))) := (b6.cell (p := ⟨0, 0, none⟩) OK.out.lt).trans OK.out
          have cI6 := cI.out s6 w6
          unfold faultO
          clear cF cI OK
          go_wp2_with fail
          refine cI6.mono ?_
          rintro q w7 ⟨rfl, b7⟩
          have B7 := b6.trans (b7.mono b6.size)
          have V7 := VrH.out.keep B7
          have m7 := mH.out.then (Moved.of_below B7)
          clear cI6 b6 b7 B7 ko neF
          go_wp2
          exact ⟨⟨k + 1, L, acc, rv, hltH.out, by congr 1, V7, m7, hgo2.out, hLrH.out, by have := hacH.out; omega⟩, by simp only [intOf]; have := hltH.out; omega⟩
        · rw [if_neg hle] at hgo
          by_cases hN1 : be (p.take 8) = L + 1
          · have cF := vaFollow_next hVr hVn hBr Gr hI pb (by omega) h9' hLr.1 hrl hN1
            have hgo2 := Lib.hid (show goV (L + 1) (acc ++ [p.drop 8]) (ps.drop (k + 1)) = goV L0 [] ps by rw [← hgo, if_neg (fun h => h hN1), hN1])
            have hLr2 := Lib.hid (show 0 ≤ L + 1 ∧ L + 1 < 18446744073709551616 by rw [← hN1]; exact be8_lim22 pb 8 (Nat.le_refl _))
            have neN := neN22
            clear hlt hk hVr hm hgo hLr hacc hmk hmk2 hP hat hI pb pl Gr hrl hVn hBr hpm hkl hp hml h9 hle h9' hN1
            go_wp2_with fail
            refine cF.mono ?_
            rintro q w6 ⟨rfl, rv6, V6, m6⟩
            have m7 := mH.out.then (m6 : Moved _ wr w6)
            clear cF m6
            go_wp2
            exact ⟨⟨k + 1, L + 1, _, rv6, hltH.out, by congr 1, V6, m7, hgo2.out, hLr2.out, by rw [List.length_append]; have := hacH.out; show _ + 1 ≤ _; omega⟩, by simp only [intOf]; have := hltH.out; omega⟩
          · have cF := vaFollow_form hVr Gr hI pb (by omega) h9' hLr hle hN1
            have hN1H := Lib.hid hN1
            have cI := Lib.hid (fun (s6 : ByteArray) (w' : World) => is22_form s6 4 o w')
            have OK := Lib.hid Gr.o
            have cT := Lib.hid (fun (_ : ByteArray) (w' : World) (q : Below wr.heap.size wr w') => itoa_any22 k w' (by omega) (Gr.keep q (Nat.le_refl _)).p)
            have neF := neF22
            rw [if_pos hN1] at hgo
            have hgoH := Lib.hid hgo
            clear hlt hk hVr hm hgo hLr hacc hmk hmk2 hP hat hI pb pl Gr hrl hVn hBr hpm hkl hp hml h9 hle h9' hN1
            go_wp2_with fail
            refine cF.mono ?_
            rintro q w6 ⟨⟨s6, rfl⟩, b6⟩
            have cI6 := cI.out s6 w6
            have cT6 := cT.out s6 w6 b6
            have ko : w6.cell? ⟨0, 0, none⟩ = some (.iface 239 (.pointer (some o))) := (b6.cell (p := ⟨0, 0, none⟩) OK.out.lt).trans OK.out
            unfold fault1
            clear cF cI OK
            go_wp2_with fail
            refine cI6.mono ?_
            rintro q w7 ⟨rfl, b7⟩
            have B7 := b6.trans (b7.mono b6.size)
            have cT7 := cT.out s6 w7 B7
            clear cI6 cT6 cT ko neF
            go_wp2_with fail
            refine cT7.mono ?_
            rintro q w8 ⟨⟨s8, rfl, z8⟩, b8⟩
            have ad := fun W => run_string_add_sum (P := Tryz.prog) W ({ data := #[116, 104, 101, 32, 98, 111, 100, 121, 32] } : ByteArray) s8 (by show 9 + s8.size ≤ _; omega)
            obtain ⟨S8, hS8⟩ : ∃ S, ({ data := #[116, 104, 101, 32, 98, 111, 100, 121, 32] } : ByteArray) ++ s8 = S := ⟨_, rfl⟩
            rw [hS8] at ad
            have B8 := B7.trans (b8.mono B7.size)
            obtain ⟨f1, f2⟩ := fin.out w8 L acc rv (VrH.out.keep B8) (mH.out.then (Moved.of_below B8))
            have f1H := Lib.hid f1
            have bt8 := built_f1 S8 132 (.agg #[.string s6, .iface 26 (.int .i64 4)])
            clear cT7 b6 b7 b8 B7 B8 f1 f2 z8 hS8 fin
            go_wp2
            go_ret2
            have he4 : e = 4 := by
              have h := mk2H.out.2
              rw [← hgoH.out] at h
              exact h.symm
            exact ⟨_, f1H.out, .inr ⟨by rw [he4]; decide, _, rfl, .inr ⟨_, s6, by rw [he4]; rfl⟩⟩⟩
    · obtain rfl : k = n := by omega
      have hji : ¬ (k : Int) < (k : Int) := by omega
      have hdr : ps.drop k = [] := List.drop_of_length_le (by rw [hnH.out]; exact Nat.le_refl _)
      rw [hdr] at hgo
      have hgo : (0, L, acc) = goV L0 [] ps := hgo
      rw [← hgo] at hmk2
      obtain ⟨m1, m20⟩ := hmk2
      have m2 : (0 : Int) = e := m20
      obtain ⟨f1, f2⟩ := fin.out wr L acc rv hVr hm
      have f2' := f2.vaeq (v' := v) (by rw [← m1]) (by rw [← m1]) (by rw [← m1])
      have f1H := Lib.hid f1
      have f2H := Lib.hid f2'
      have m2H := Lib.hid m2
      clear hlt hk hVr hm hgo hLr hacc hmk m1 m2 m20 f1 f2 f2' hdr
      go_wp2
      go_ret2
      exact ⟨_, f1H.out, .inl ⟨m2H.out.symm, vo, rfl, ro, so, fb, rv, f2H.out⟩⟩

set_option maxRecDepth 100000 in
set_option maxHeartbeats 4000000 in
theorem vaOpen_any {Hs : (Nat → Prop) → World → DkV → Prop} {E : Nat → Prop} {B : Nat} {w0 w : World} {g : Nat} {D D' : DkV} {T : Nat} {v : VtV} {o : Addr} {e : Int} (H : Host Hs B w0 g) (h : Hs E w D) (hO : D.Ok T) (hT : T < 4398046511000) (hD : D.By) (hG : Glob22 o w0) (hB : w0.heap.size ≤ B) (hd : D.down = false) (he : opV D = (D', v, e)) :
    Calls Tryz.prog 10 #[.pointer (some ⟨g, 0, none⟩)] w fun q w' => ∃ N, VoTo Hs E w w' N D' ∧ ((e = 0 ∧ ∃ vo ro so fb rv, q = .returned (.tuple #[.pointer (some ⟨vo, 0, none⟩), .int .i64 0]) ∧ VaIn N B w' vo ro so fb g rv v) ∨ (e ≠ 0 ∧ q = .returned (.tuple #[.pointer none, .int .i64 e]))) := by
  have cO := vaopen_any H h hO hT hD hG hB hd he
  have HH := Lib.hid H
  have GH := Lib.hid (fun (E' : Nat → Prop) (w' : World) (h' : Hs E' w' D') => (H.gl h' hG hB).e)
  clear h hO hT hD hG hB hd he H
  go_enter Tryz.func10, Tryz.ntmps10
  go_wp2_with fail
  refine cO.mono ?_
  rintro q w1 ⟨N, ⟨n1, n2, n3, n4⟩, hq⟩
  clear cO
  have b2 := below1 w1 (.cells #[.int .i64 0] 26)
  have h2 := HH.out.keep n2 b2
  have kt : (w1.alloc (.cells #[.int .i64 0] 26)).cell? ⟨w1.heap.size, 0, none⟩ = some (.int .i64 0) := World.cell?_alloc_at (w := w1) #[.int .i64 0] 26 w1.heap.size 0 rfl
  have ft : (w1.alloc (.cells #[.int .i64 0] 26)).frozen? ⟨w1.heap.size, 0, none⟩ = false := World.frozen?_alloc_new _ _ _ _
  have e2 := GH.out _ _ h2
  have s4 : ∀ b, E b → (w1.alloc (.cells #[.int .i64 0] 26)).heap[b]? = w.heap[b]? := fun b hb => (b2.block b ((HH.out.low n2).2.2 b (.inl hb))).trans (n4 b hb)
  have z2 := Nat.le_trans n3 b2.size
  obtain ⟨W2, hW2⟩ : ∃ W, w1.alloc (.cells #[.int .i64 0] 26) = W := ⟨_, rfl⟩
  have s2 : W2.heap.size = w1.heap.size + 1 := by rw [← hW2]; exact size1 _ _
  have b2H := Lib.hid b2
  have hW2H := Lib.hid hW2
  rw [hW2] at h2 kt ft e2 s4 z2 b2H
  obtain ⟨t, ht⟩ : ∃ t, w1.heap.size = t := ⟨_, rfl⟩
  have htH := Lib.hid ht
  rcases hq with ⟨he0, vo, ro, so, fb, rv, rfl, hV⟩ | ⟨hne, er, rfl, hE⟩
  · have he0H := Lib.hid he0
    have fin := Lib.hid (show VoTo Hs E w W2 N D' ∧ VaIn N B W2 vo ro so fb g rv v from ⟨⟨n1, h2, z2, s4⟩, hV.keep b2H.out⟩)
    have ca := as_nil (.iface 98 (.pointer (some ⟨t, 0, none⟩))) W2
    clear n1 n2 n3 n4 b2 h2 kt ft e2 s4 z2 hW2 hV GH s2 ht he0
    go_wp2_with fail
    rw [hW2H.out, htH.out]
    refine ca.mono ?_
    rintro q w3 ⟨rfl, rfl⟩
    clear ca
    go_wp2
    go_ret2
    exact ⟨N, fin.out.1, .inl ⟨he0H.out, vo, ro, so, fb, rv, rfl, fin.out.2⟩⟩
  · have fin := Lib.hid (show ∀ w3, Below W2.heap.size W2 w3 → VoTo Hs E w (w3.setCell ⟨t, 0, none⟩ (.int .i64 e)) N D' from by
      intro w3 b3
      have h3 : Hs (fun b => (E b ∨ N b) ∨ b = t) W2 D' := by
        have := HH.out.keepE (E' := fun b => (E b ∨ N b) ∨ b = t) n2 b2 (fun b hb => hb.imp id (fun hb => by rw [hb, ← ht, size1]; exact ⟨Nat.le_refl _, Nat.lt_succ_self _⟩))
        rw [hW2] at this
        exact this
      have h4 := HH.out.keep h3 b3
      have hlo := (HH.out.low n2).2.1
      have h5 := HH.out.movedE (E' := fun b => E b ∨ N b) h4 (moved_set (F := fun b => b = t) rfl (grown_setCell w3 t 0 (.int .i64 e))) (fun b hb => by subst hb; exact ⟨.inr rfl, by rw [← ht]; exact hlo⟩) (fun b hb => .inl (.inl hb))
      refine ⟨n1, h5, Nat.le_trans z2 (Nat.le_trans b3.size (grown_setCell w3 t 0 (.int .i64 e)).size), fun b hb => ?_⟩
      have hlt : b < w1.heap.size := (HH.out.low n2).2.2 b (.inl hb)
      exact (((grown_setCell w3 t 0 (.int .i64 e)).block b (Nat.lt_of_lt_of_le (Nat.lt_of_lt_of_le hlt (by omega)) b3.size) (fun hh => by injection hh with hh; omega)).trans (b3.block b (by omega))).trans (s4 b hb))
    have kk := Lib.hid (show ∀ w3, Below W2.heap.size W2 w3 → (w3.setCell ⟨t, 0, none⟩ (.int .i64 e)).cell? ⟨t, 0, none⟩ = some (.int .i64 e) from by
      intro w3 b3
      have hb : Blk w3 t 26 [.int .i64 0] := by
        have : Blk W2 t 26 [.int .i64 0] := by rw [← hW2, ← ht]; exact Blk.new w1 26 [.int .i64 0]
        exact this.keep b3 this.lt
      exact (hb.set 0 (.int .i64 e)).cell 0)
    rw [ht] at kt ft
    have hneH := Lib.hid hne
    have b4H := Lib.hid (show ∀ (W : World), Below W.heap.size W W.drew from fun W => (Below.refl _ _).drew)
    rcases hE with ⟨s1, rfl⟩ | ⟨s1, s5, rfl⟩
    · have ca := as22_1 s1 e ⟨t, 0, none⟩ (.int .i64 0) W2 e2 kt ft
      clear n1 n2 n3 n4 b2 h2 kt ft e2 s4 z2 hW2 GH s2 ht hne
      unfold fault1
      go_wp2_with fail
      rw [hW2H.out, htH.out]
      refine ca.mono ?_
      rintro q w3 ⟨rfl, w4, b4, rfl⟩
      have k4 := kk.out w4 b4
      have f4 := fin.out w4 b4
      obtain ⟨W5, hW5⟩ : ∃ W, w4.setCell ⟨t, 0, none⟩ (.int .i64 e) = W := ⟨_, rfl⟩
      rw [hW5] at k4 f4
      rw [hW5]
      have f5 := Lib.hid (f4.keep HH.out (b4H.out W5))
      have k5 : W5.drew.cell? ⟨t, 0, none⟩ = some (.int .i64 e) := k4
      clear ca b4 hW5 fin kk f4
      go_wp2_with fail
      refine region_seqS (fun w' => w'.cell? ⟨t, 0, none⟩ = some (.int .i64 e)) (by kernel_rfl) k5 ?_
      simp only [pairs, Nat.reduceAdd]
      repeat (first
        | (refine SeqS.take (v := ?_) (by first | assumption | trivial) (by kernel_rfl) (by decide +kernel) (by decide +kernel) (Or.inl ⟨by rfl, ?_⟩) ?_
           rotate_left
           focus
             intro w' hb'
             go_simp
             with_reducible rfl
           simp only [Act.put, List.setIfInBounds_toArray, List.set_cons_zero, List.set_cons_succ])
        | (refine SeqS.take (v := ?_) (by first | assumption | trivial) (by kernel_rfl) (by decide +kernel) (by decide +kernel) (Or.inl ⟨by rfl, ?_⟩) ?_
           rotate_left
           focus
             intro w' hb'
             have d0 := hb'
             go_simp
             with_reducible rfl
           simp only [Act.put, List.setIfInBounds_toArray, List.set_cons_zero, List.set_cons_succ])
        | (refine SeqS.take (v := undef) (by first | assumption | trivial) (by kernel_rfl) (by decide +kernel) (by decide +kernel) (Or.inr ⟨by rfl, rfl⟩) ?_
           simp only [Act.put, List.setIfInBounds_toArray, List.set_cons_zero, List.set_cons_succ])
        | (refine SeqS.take1 (v := ?_) (by first | assumption | trivial) (by kernel_rfl) (by decide +kernel) (by decide +kernel) (Or.inl ⟨by rfl, ?_⟩) ?_
           rotate_left
           focus
             intro w' hb'
             go_simp
             with_reducible rfl
           simp only [Act.put, List.setIfInBounds_toArray, List.set_cons_zero, List.set_cons_succ])
        | (refine SeqS.take1 (v := ?_) (by first | assumption | trivial) (by kernel_rfl) (by decide +kernel) (by decide +kernel) (Or.inl ⟨by rfl, ?_⟩) ?_
           rotate_left
           focus
             intro w' hb'
             have d0 := hb'
             go_simp
             with_reducible rfl
           simp only [Act.put, List.setIfInBounds_toArray, List.set_cons_zero, List.set_cons_succ])
        | (refine SeqS.take1 (v := undef) (by first | assumption | trivial) (by kernel_rfl) (by decide +kernel) (by decide +kernel) (Or.inr ⟨by rfl, rfl⟩) ?_
           simp only [Act.put, List.setIfInBounds_toArray, List.set_cons_zero, List.set_cons_succ])
        | (refine SeqS.take2 (v := ?_) (by first | assumption | trivial) (by kernel_rfl) (by decide +kernel) (by decide +kernel) (Or.inl ⟨by rfl, ?_⟩) ?_
           rotate_left
           focus
             intro w' hb'
             go_simp
             with_reducible rfl
           simp only [Act.put, List.setIfInBounds_toArray, List.set_cons_zero, List.set_cons_succ])
        | (refine SeqS.take2 (v := ?_) (by first | assumption | trivial) (by kernel_rfl) (by decide +kernel) (by decide +kernel) (Or.inl ⟨by rfl, ?_⟩) ?_
           rotate_left
           focus
             intro w' hb'
             have d0 := hb'
             go_simp
             with_reducible rfl
           simp only [Act.put, List.setIfInBounds_toArray, List.set_cons_zero, List.set_cons_succ])
        | (refine SeqS.take2 (v := undef) (by first | assumption | trivial) (by kernel_rfl) (by decide +kernel) (by decide +kernel) (Or.inr ⟨by rfl, rfl⟩) ?_
           simp only [Act.put, List.setIfInBounds_toArray, List.set_cons_zero, List.set_cons_succ]))
      refine SeqS.done (by decide +kernel) ?_
      go_wp2
      go_ret2
      exact ⟨N, f5.out, .inr ⟨hneH.out, rfl⟩⟩
    · have ca := as22_2 s1 s5 e ⟨t, 0, none⟩ (.int .i64 0) W2 e2 kt ft
      clear n1 n2 n3 n4 b2 h2 kt ft e2 s4 z2 hW2 GH s2 ht hne
      unfold fault2 fault1
      go_wp2_with fail
      rw [hW2H.out, htH.out]
      refine ca.mono ?_
      rintro q w3 ⟨rfl, w4, b4, rfl⟩
      have k4 := kk.out w4 b4
      have f4 := fin.out w4 b4
      obtain ⟨W5, hW5⟩ : ∃ W, w4.setCell ⟨t, 0, none⟩ (.int .i64 e) = W := ⟨_, rfl⟩
      rw [hW5] at k4 f4
      rw [hW5]
      have f5 := Lib.hid (f4.keep HH.out (b4H.out W5))
      have k5 : W5.drew.cell? ⟨t, 0, none⟩ = some (.int .i64 e) := k4
      clear ca b4 hW5 fin kk f4
      go_wp2_with fail
      refine region_seqS (fun w' => w'.cell? ⟨t, 0, none⟩ = some (.int .i64 e)) (by kernel_rfl) k5 ?_
      simp only [pairs, Nat.reduceAdd]
      repeat (first
        | (refine SeqS.take (v := ?_) (by first | assumption | trivial) (by kernel_rfl) (by decide +kernel) (by decide +kernel) (Or.inl ⟨by rfl, ?_⟩) ?_
           rotate_left
           focus
             intro w' hb'
             go_simp
             with_reducible rfl
           simp only [Act.put, List.setIfInBounds_toArray, List.set_cons_zero, List.set_cons_succ])
        | (refine SeqS.take (v := ?_) (by first | assumption | trivial) (by kernel_rfl) (by decide +kernel) (by decide +kernel) (Or.inl ⟨by rfl, ?_⟩) ?_
           rotate_left
           focus
             intro w' hb'
             have d0 := hb'
             go_simp
             with_reducible rfl
           simp only [Act.put, List.setIfInBounds_toArray, List.set_cons_zero, List.set_cons_succ])
        | (refine SeqS.take (v := undef) (by first | assumption | trivial) (by kernel_rfl) (by decide +kernel) (by decide +kernel) (Or.inr ⟨by rfl, rfl⟩) ?_
           simp only [Act.put, List.setIfInBounds_toArray, List.set_cons_zero, List.set_cons_succ])
        | (refine SeqS.take1 (v := ?_) (by first | assumption | trivial) (by kernel_rfl) (by decide +kernel) (by decide +kernel) (Or.inl ⟨by rfl, ?_⟩) ?_
           rotate_left
           focus
             intro w' hb'
             go_simp
             with_reducible rfl
           simp only [Act.put, List.setIfInBounds_toArray, List.set_cons_zero, List.set_cons_succ])
        | (refine SeqS.take1 (v := ?_) (by first | assumption | trivial) (by kernel_rfl) (by decide +kernel) (by decide +kernel) (Or.inl ⟨by rfl, ?_⟩) ?_
           rotate_left
           focus
             intro w' hb'
             have d0 := hb'
             go_simp
             with_reducible rfl
           simp only [Act.put, List.setIfInBounds_toArray, List.set_cons_zero, List.set_cons_succ])
        | (refine SeqS.take1 (v := undef) (by first | assumption | trivial) (by kernel_rfl) (by decide +kernel) (by decide +kernel) (Or.inr ⟨by rfl, rfl⟩) ?_
           simp only [Act.put, List.setIfInBounds_toArray, List.set_cons_zero, List.set_cons_succ])
        | (refine SeqS.take2 (v := ?_) (by first | assumption | trivial) (by kernel_rfl) (by decide +kernel) (by decide +kernel) (Or.inl ⟨by rfl, ?_⟩) ?_
           rotate_left
           focus
             intro w' hb'
             go_simp
             with_reducible rfl
           simp only [Act.put, List.setIfInBounds_toArray, List.set_cons_zero, List.set_cons_succ])
        | (refine SeqS.take2 (v := ?_) (by first | assumption | trivial) (by kernel_rfl) (by decide +kernel) (by decide +kernel) (Or.inl ⟨by rfl, ?_⟩) ?_
           rotate_left
           focus
             intro w' hb'
             have d0 := hb'
             go_simp
             with_reducible rfl
           simp only [Act.put, List.setIfInBounds_toArray, List.set_cons_zero, List.set_cons_succ])
        | (refine SeqS.take2 (v := undef) (by first | assumption | trivial) (by kernel_rfl) (by decide +kernel) (by decide +kernel) (Or.inr ⟨by rfl, rfl⟩) ?_
           simp only [Act.put, List.setIfInBounds_toArray, List.set_cons_zero, List.set_cons_succ]))
      refine SeqS.done (by decide +kernel) ?_
      go_wp2
      go_ret2
      exact ⟨N, f5.out, .inr ⟨hneH.out, rfl⟩⟩
end Go.Proofs.YtinmmhbiomcdoaaGreatDoor

/-
  A vault over a landed disk, as a law holds it: what its calls leave, and what they leave of other blocks (X). New memory is written, the disk's own, and the vault's. Conditions: fewer than 2^42 steps; the files hold bytes; at most 100000 records.
-/
namespace Go.Proofs.YtinmmhbiomcdoaaGreatDoor
open Go.RowKit

/-- The vault v at vo, over the disk D at g; the blocks X are neither's. -/
def VaSt (Hs : (Nat → Prop) → World → DkV → Prop) (B : Nat) (w : World) (vo g : Nat) (D : DkV) (v : VtV) (X : Nat → Prop) : Prop :=
  ∃ (E V : Nat → Prop) (ro so fb : Nat) (rv : Value), Hs E w D ∧ VaIn V B w vo ro so fb g rv v ∧ (∀ b, V b → E b) ∧ ∀ b, X b → E b ∧ ¬ V b
section
variable {Hs : (Nat → Prop) → World → DkV → Prop} {X X' : Nat → Prop} {B : Nat} {w0 w w' : World} {g vo : Nat} {D D' : DkV} {T : Nat} {v v' : VtV} {o : Addr} {e : Int} {a : Option Addr} {n c : Nat} {x : List Int}
theorem VaSt.host (H : Host Hs B w0 g) (h : VaSt Hs B w vo g D v X) : Hs X w D := by
  obtain ⟨E, V, ro, so, fb, rv, h1, h2, h3, h4⟩ := h
  exact H.less h1 (fun b hb => (h4 b hb).1)
theorem VaSt.low (H : Host Hs B w0 g) (h : VaSt Hs B w vo g D v X) : Below B w0 w ∧ B ≤ w.heap.size ∧ ∀ b, X b → b < w.heap.size := H.low (h.host H)
theorem VaSt.more (H : Host Hs B w0 g) (h : VaSt Hs B w vo g D v X) (hb : Below w.heap.size w w') (hX : ∀ b, X' b → X b ∨ (w.heap.size ≤ b ∧ b < w'.heap.size)) : VaSt Hs B w' vo g D v X' := by
  obtain ⟨E, V, ro, so, fb, rv, h1, h2, h3, h4⟩ := h
  have lt := (H.low h1).2.2
  refine ⟨fun b => E b ∨ (w.heap.size ≤ b ∧ b < w'.heap.size), V, ro, so, fb, rv, H.keepE h1 hb (fun b hb => hb), h2.keep hb, fun b hb => .inl (h3 b hb), fun b hx => ?_⟩
  rcases hX b hx with hx | hx
  · exact ⟨.inl (h4 b hx).1, (h4 b hx).2⟩
  · exact ⟨.inr hx, fun hv => absurd (lt b (h3 b hv)) (Nat.not_lt.2 hx.1)⟩
theorem VaSt.keep (H : Host Hs B w0 g) (h : VaSt Hs B w vo g D v X) (hb : Below w.heap.size w w') : VaSt Hs B w' vo g D v X := h.more H hb (fun _ h => .inl h)
theorem VaSt.less (H : Host Hs B w0 g) (h : VaSt Hs B w vo g D v X) (hX : ∀ b, X' b → X b) : VaSt Hs B w vo g D v X' := h.more H (Below.refl _ _) (fun b hb => .inl (hX b hb))
theorem VaSt.moved (H : Host Hs B w0 g) (h : VaSt Hs B w vo g D v X) {F : Nat → Prop} (hm : Moved F w w') (hF : ∀ b, F b → X b ∧ B ≤ b) (hX : ∀ b, X' b → X b ∨ (w.heap.size ≤ b ∧ b < w'.heap.size)) : VaSt Hs B w' vo g D v X' := by
  obtain ⟨E, V, ro, so, fb, rv, h1, h2, h3, h4⟩ := h
  have lt := (H.low h1).2.2
  refine ⟨fun b => E b ∨ (w.heap.size ≤ b ∧ b < w'.heap.size), V, ro, so, fb, rv, H.movedE h1 hm (fun b hb => ⟨(h4 b (hF b hb).1).1, (hF b hb).2⟩) (fun b hb => hb), h2.same (fun b hv hl => hm.2 b hl (fun hf => (h4 b (hF b hf).1).2 hv)) (fun _ h => h), fun b hb => .inl (h3 b hb), fun b hx => ?_⟩
  rcases hX b hx with hx | hx
  · exact ⟨.inl (h4 b hx).1, (h4 b hx).2⟩
  · exact ⟨.inr hx, fun hv => absurd (lt b (h3 b hv)) (Nat.not_lt.2 hx.1)⟩
/-- Behind a call of the disk. -/
theorem VaSt.is (H : Host Hs B w0 g) (h : VaSt Hs B w vo g D v X) : ∃ L P, DkIs L P w g D ∧ (∀ b, L b ≠ 0 → B ≤ b) ∧ (∀ b, X b → L b = 0 ∧ ¬ P b) ∧ ∀ w' D', DkTo L P w g w' D' → VaSt Hs B w' vo g D' v X ∧ SameE X w w' ∧ w.heap.size ≤ w'.heap.size := by
  obtain ⟨E, V, ro, so, fb, rv, h1, h2, h3, h4⟩ := h
  obtain ⟨L, P, i1, i2, i3, i4⟩ := H.is h1
  refine ⟨L, P, i1, i2, fun b hb => i3 b (h4 b hb).1, fun w' D' ⟨L', P', k1, k2⟩ => ?_⟩
  obtain ⟨j1, j2⟩ := i4 E L' P' w' D' k1 k2 (fun _ h => .inl h)
  exact ⟨⟨E, V, ro, so, fb, rv, j1, h2.same (fun b hv _ => j2 b (h3 b hv)) (fun _ h => h), h3, h4⟩, fun b hb => j2 b (h4 b hb).1, k2.m.size⟩

theorem st_open (H : Host Hs B w0 g) (h : Hs X w D) (hO : D.Ok T) (hT : T < 4398046511000) (hD : D.By) (hG : Glob22 o w0) (hB : w0.heap.size ≤ B) (hd : D.down = false) (he : opV D = (D', v, e)) :
    Calls Tryz.prog 10 #[.pointer (some ⟨g, 0, none⟩)] w fun q w' => ((e = 0 ∧ ∃ vo, q = .returned (.tuple #[.pointer (some ⟨vo, 0, none⟩), .int .i64 0]) ∧ VaSt Hs B w' vo g D' v X) ∨ (e ≠ 0 ∧ q = .returned (.tuple #[.pointer none, .int .i64 e]) ∧ Hs X w' D')) ∧ SameE X w w' ∧ w.heap.size ≤ w'.heap.size := by
  have lt := (H.low h).2.2
  refine (vaOpen_any H h hO hT hD hG hB hd he).mono ?_
  rintro q w' ⟨N, ⟨n1, n2, n3, n4⟩, hq⟩
  refine ⟨?_, n4, n3⟩
  rcases hq with ⟨h0, vo, ro, so, fb, rv, hq, hV⟩ | ⟨h0, hq⟩
  · exact .inl ⟨h0, vo, hq, _, N, ro, so, fb, rv, n2, hV, fun _ h => .inr h, fun b hb => ⟨.inl hb, fun hn => absurd (lt b hb) (Nat.not_lt.2 (n1 b hn))⟩⟩
  · exact .inr ⟨h0, hq, H.less n2 (fun _ h => .inl h)⟩
theorem st_to (h : VaSt Hs B w vo g D v X) (H : Host Hs B w0 g) {q : Ending} {r : Int} (hh : ∃ E V ro so fb rv, Hs E w D ∧ VaIn V B w vo ro so fb g rv v ∧ (∀ b, V b → E b) ∧ (∀ b, X b → E b ∧ ¬ V b) ∧ q = .returned (.int .i64 r) ∧ VaTo Hs E V B w w' vo ro so fb g D' v') :
    q = .returned (.int .i64 r) ∧ VaSt Hs B w' vo g D' v' X ∧ SameE X w w' ∧ w.heap.size ≤ w'.heap.size := by
  obtain ⟨E, V, ro, so, fb, rv, h1, h2, h3, h4, hq, N, rv', n1, n2, n3, n4, n5⟩ := hh
  have lt := (h.low H).2.2
  exact ⟨hq, ⟨_, _, ro, so, fb, rv', n2, n3, fun b hb => hb.imp (h3 b) id, fun b hb => ⟨.inl (h4 b hb).1, fun hn => hn.elim (h4 b hb).2 (fun hn => absurd (lt b hb) (Nat.not_lt.2 (n1 b hn)))⟩⟩, fun b hb => n5 b (h4 b hb).1 (h4 b hb).2, n4⟩

theorem st_put (H : Host Hs B w0 g) (h : VaSt Hs B w vo g D v X) (hO : D.Ok T) (hT : T < 4398046511000) (hk : VtOk D v) (hG : Glob22 o w0) (hB : w0.heap.size ≤ B) (hI : Ints .u8 w a n c x) (hx : ∀ y ∈ x, isByte y) (hp : ∀ y, a = some y → 0 < n → y.block < B ∨ X y.block) (he : ptV D v x = (D', v', e)) :
    Calls Tryz.prog 12 #[.pointer (some ⟨vo, 0, none⟩), .slice a n c] w fun q w' => q = .returned (.int .i64 e) ∧ VaSt Hs B w' vo g D' v' X ∧ SameE X w w' ∧ w.heap.size ≤ w'.heap.size := by
  have h0 := h
  obtain ⟨E, V, ro, so, fb, rv, h1, h2, h3, h4⟩ := h
  exact (vaPut_any H h1 h2 h3 hO (by omega) hk hG hB hI hx (fun y hy h0 => (hp y hy h0).imp id (fun h => (h4 _ h).1)) (hk.few hO) he).mono fun q w' ⟨hq, ht⟩ => st_to h0 H ⟨E, V, ro, so, fb, rv, h1, h2, h3, h4, hq, ht⟩

theorem st_compact (H : Host Hs B w0 g) (h : VaSt Hs B w vo g D v X) (hO : D.Ok T) (hT : T < 4398046511000) (hD : D.By) (hk : VtOk D v) (hG : Glob22 o w0) (hB : w0.heap.size ≤ B) (hI : Ints .u8 w a n c x) (hx : ∀ y ∈ x, isByte y) (he : coV D v x = (D', v', e)) :
    Calls Tryz.prog 14 #[.pointer (some ⟨vo, 0, none⟩), .slice a n c] w fun q w' => q = .returned (.int .i64 e) ∧ VaSt Hs B w' vo g D' v' X ∧ SameE X w w' ∧ w.heap.size ≤ w'.heap.size := by
  have h0 := h
  obtain ⟨E, V, ro, so, fb, rv, h1, h2, h3, h4⟩ := h
  exact (vaCompact_any H h1 h2 h3 hO hT hD hk hG hB hI hx he).mono fun q w' ⟨hq, ht⟩ => st_to h0 H ⟨E, V, ro, so, fb, rv, h1, h2, h3, h4, hq, ht⟩

theorem st_snapshot (H : Host Hs B w0 g) (h : VaSt Hs B w vo g D v X) (hO : D.Ok T) (hD : D.By) (hk : VtOk D v) (hG : Glob22 o w0) (hB : w0.heap.size ≤ B) (hx : v.body = x) (hn : x.length = n) {m : Bool} (hm : v.some = m) :
    Calls Tryz.prog 29 #[.pointer (some ⟨vo, 0, none⟩)] w fun q w' => ∃ a c, q = .returned (.tuple #[.slice a n c, .bool m]) ∧ w'.ownsRow w.heap.size 5 1 (.slice a n c) n (x.map (Value.int .u8)) ∧ Below w.heap.size w w' := by
  obtain ⟨E, V, ro, so, fb, rv, h1, h2, h3, h4⟩ := h
  exact vaSnapshot_any H h1 h2 hO hD hk hG hB hx hn hm

theorem st_records (h : VaSt Hs B w vo g D v X) {ps : List (List Int)} (hp : v.after = ps) (hn : ps.length = n) (hm : n ≤ 4398046511104) (hx : ∀ p ∈ ps, p.length ≤ 4294967296) :
    Calls Tryz.prog 30 #[.pointer (some ⟨vo, 0, none⟩)] w fun q w' => ∃ a c, q = .returned (.slice a n c) ∧ PartsR (fun b => w.heap.size ≤ b) w' a n c ps ∧ Below w.heap.size w w' := by
  obtain ⟨E, V, ro, so, fb, rv, h1, h2, h3, h4⟩ := h
  exact vaRecords_any h2 hp hn hm hx

theorem st_next (h : VaSt Hs B w vo g D v X) {m : Int} (hm : (v.last + 1) % 18446744073709551616 = m) :
    Calls Tryz.prog 32 #[.pointer (some ⟨vo, 0, none⟩)] w fun q w' => q = .returned (.int .u64 m) ∧ w = w' := by
  obtain ⟨E, V, ro, so, fb, rv, h1, h2, h3, h4⟩ := h
  exact vaNext_any h2.c0 h2.c3 hm

theorem st_size (H : Host Hs B w0 g) (h : VaSt Hs B w vo g D v X) (hO : D.Ok T) {n : Nat} (hn : (heldR D 0).length = n) :
    Calls Tryz.prog 31 #[.pointer (some ⟨vo, 0, none⟩)] w fun q w' => q = .returned (.int .i64 (n : Int)) ∧ Below w.heap.size w w' := by
  obtain ⟨E, V, ro, so, fb, rv, h1, h2, h3, h4⟩ := h
  exact vaSize_any H h1 h2 hO hn
end
end Go.Proofs.YtinmmhbiomcdoaaGreatDoor

/-
  The laws' own 'alive' (layer 22): the chapter's example; vaults that no call made. New memory alone is written. No conditions beyond the row's own.
-/
namespace Go.Proofs.YtinmmhbiomcdoaaGreatDoor
open Go.RowKit

theorem k3_new (r f : Int) : opV (k3 1 r f false ⟨[], []⟩ ⟨[], []⟩ ⟨[], []⟩) = (k3 1 r f false ⟨[], []⟩ ⟨[], []⟩ ⟨[], []⟩, ⟨⟨1, 2, -1, 0, []⟩, 0, false, [], []⟩, 0) := by
  have h : ∀ z : Int, heldR (k3 1 r f false ⟨[], []⟩ ⟨[], []⟩ ⟨[], []⟩) z = [] := by
    intro z
    unfold heldR DkV.f
    split
    · rfl
    · split <;> rfl
  have hg := goodF_le []
  have hm : mdD (k3 1 r f false ⟨[], []⟩ ⟨[], []⟩ ⟨[], []⟩) 0 = (k3 1 r f false ⟨[], []⟩ ⟨[], []⟩ ⟨[], []⟩, 0) := by
    unfold mdD
    rw [h 0, if_neg (by show ¬ goodF [] < 0; omega), if_neg (by show ¬ 0 < 0; omega)]
  have ho : opS (k3 1 r f false ⟨[], []⟩ ⟨[], []⟩ ⟨[], []⟩) 1 2 = ⟨1, 2, -1, 0, []⟩ := by
    unfold opS
    rw [h 1, h 2, ldF_nil, if_neg (by decide), if_neg (by decide)]
  have ha : allF [] = [] := by
    have h1 := allF_len []
    have h2 := numF_le []
    have h3 : ([] : List Int).length = 0 := rfl
    exact List.length_eq_zero_iff.1 (by omega)
  unfold opV
  rw [hm, ho, if_neg (by rw [k3_head.2.2]; decide), if_neg (show ¬ ((0 : Int) ≠ 0) by decide)]
  dsimp only
  rw [h 0, ha]
  rfl
theorem by1 {n : Int} (h : 0 ≤ n ∧ n < 256) : ∀ y ∈ ([n] : List Int), isByte y := fun y hy => by rw [List.mem_singleton.1 hy]; exact h
theorem alive22_math : ∃ D0 D1 D2 D3 v0 v1 v2 v3, dk0 300 = D0 ∧ opV D0 = (D0, v0, 0) ∧ ptV D0 v0 [7] = (D1, v1, 0) ∧ coV D1 v1 [5] = (D2, v2, 0) ∧ ptV D2 v2 [8] = (D3, v3, 0) ∧
    (v0.after = [] ∧ v1.after = [[7]] ∧ v2.after = [] ∧ v3.after = [[8]] ∧ v3.some = true ∧ v3.body = [5] ∧ v3.last = 2) ∧
    (D0.Ok 0 ∧ D0.By ∧ D1.Ok 9 ∧ D1.By ∧ D2.Ok 9 ∧ D2.By ∧ D3.Ok 9 ∧ D3.By) ∧ (VtOk D0 v0 ∧ VtOk D1 v1 ∧ VtOk D2 v2 ∧ VtOk D3 v3) ∧ D0.down = false := by
  have e0 := k3_new 300 0
  have n7 := vnext_len ⟨⟨1, 2, -1, 0, []⟩, 0, false, [], []⟩ [7]
  have l7 : ([7] : List Int).length = 1 := rfl
  obtain ⟨K, hK, e1⟩ : ∃ K : List Int, K.length = 17 ∧ ptV (k3 1 300 0 false ⟨[], []⟩ ⟨[], []⟩ ⟨[], []⟩) ⟨⟨1, 2, -1, 0, []⟩, 0, false, [], []⟩ [7] = (k3 1 300 0 false ⟨K, []⟩ ⟨[], []⟩ ⟨[], []⟩, ⟨⟨1, 2, -1, 0, []⟩, 0 + 1, false, [], [] ++ [[7]]⟩, 0) := by
    rcases pr0 (z := 1) (r := 300) (f := 0) (K := []) (b := VtV.next ⟨⟨1, 2, -1, 0, []⟩, 0, false, [], []⟩ [7]) (v := ⟨[], []⟩) (u := ⟨[], []⟩) (by decide) (by omega) (by omega) (by rw [n7]; decide) with ⟨f2, a1, a2, a3, e2⟩ | ⟨b1, _⟩
    · obtain rfl := a3 rfl
      refine ⟨[] ++ frB (VtV.next ⟨⟨1, 2, -1, 0, []⟩, 0, false, [], []⟩ [7]), ?_, ?_⟩
      rotate_left
      · unfold ptV
        rw [if_neg (by rw [l7]; show ¬ (1 < 1 ∨ 60000 < 1 ∨ 18446744073709551614 ≤ (0 : Int)); omega), e2]
        dsimp only
        rw [if_neg (show ¬ ((0 : Int) ≠ 0) by decide)]
      · rw [List.nil_append, frB_len, n7]; rfl
    · omega
  have n5 := vsnap_len ⟨⟨1, 2, -1, 0, []⟩, 0 + 1, false, [], [] ++ [[7]]⟩ [5]
  have l5 : ([5] : List Int).length = 1 := rfl
  obtain ⟨V, hV, e2⟩ : ∃ V : List Int, V.length ≤ 30 ∧ coV (k3 1 300 0 false ⟨K, []⟩ ⟨[], []⟩ ⟨[], []⟩) ⟨⟨1, 2, -1, 0, []⟩, 0 + 1, false, [], [] ++ [[7]]⟩ [5] = (k3 1 300 0 false ⟨[], []⟩ ⟨V, []⟩ ⟨[], []⟩, ⟨⟨1, 2, 1, 0 + 1, VtV.snap ⟨⟨1, 2, -1, 0, []⟩, 0 + 1, false, [], [] ++ [[7]]⟩ [5]⟩, 0 + 1, true, [5], []⟩, 0) := by
    rcases pt3 (z := 1) (r := 300) (f := 0) (w := ⟨K, []⟩) (u := ⟨[], []⟩) (pb := []) (s := ⟨1, 2, -1, 0, []⟩) (x := VtV.snap ⟨⟨1, 2, -1, 0, []⟩, 0 + 1, false, [], [] ++ [[7]]⟩ [5]) (.inl rfl) (by decide) rfl ⟨by decide, by decide⟩ (by omega) (by rw [n5]; show ((K.length + (16 + (8 + 1)) + 0 : Nat) : Int) ≤ 300; omega) with ⟨f2, a1, a2, a3, e2⟩ | ⟨b1, _⟩
    · obtain rfl := a3 rfl
      rcases ke0 (z := 1) (r := 300) (f := 0) (K := K) (v := ⟨frT (0 + 1) (VtV.snap ⟨⟨1, 2, -1, 0, []⟩, 0 + 1, false, [], [] ++ [[7]]⟩ [5]), []⟩) (u := ⟨[], []⟩) (by decide) 0 (Nat.zero_le _) with ⟨f3, c1, c2, c3, e3⟩ | ⟨c1, _⟩
      · obtain rfl := c3 rfl
        have hT := frT_len (0 + 1) (VtV.snap ⟨⟨1, 2, -1, 0, []⟩, 0 + 1, false, [], [] ++ [[7]]⟩ [5])
        refine ⟨frT (0 + 1) (VtV.snap ⟨⟨1, 2, -1, 0, []⟩, 0 + 1, false, [], [] ++ [[7]]⟩ [5]), by omega, ?_⟩
        unfold coV
        rw [if_neg (by rw [l5]; decide), e2]
        dsimp only
        have e3' : keD (k3 1 300 0 false ⟨K, []⟩ ⟨frT (0 + 1) (VtV.snap ⟨⟨1, 2, -1, 0, []⟩, 0 + 1, false, [], [] ++ [[7]]⟩ [5]), []⟩ ⟨[], []⟩) 0 0 = _ := e3
        rw [if_neg (show ¬ ((0 : Int) ≠ 0) by decide), e3', List.take_zero]
      · omega
    · omega
  have n8 := vnext_len ⟨⟨1, 2, 1, 0 + 1, VtV.snap ⟨⟨1, 2, -1, 0, []⟩, 0 + 1, false, [], [] ++ [[7]]⟩ [5]⟩, 0 + 1, true, [5], []⟩ [8]
  have l8 : ([8] : List Int).length = 1 := rfl
  obtain ⟨D3, e3⟩ : ∃ D3, ptV (k3 1 300 0 false ⟨[], []⟩ ⟨V, []⟩ ⟨[], []⟩) ⟨⟨1, 2, 1, 0 + 1, VtV.snap ⟨⟨1, 2, -1, 0, []⟩, 0 + 1, false, [], [] ++ [[7]]⟩ [5]⟩, 0 + 1, true, [5], []⟩ [8] = (D3, ⟨⟨1, 2, 1, 0 + 1, VtV.snap ⟨⟨1, 2, -1, 0, []⟩, 0 + 1, false, [], [] ++ [[7]]⟩ [5]⟩, 0 + 1 + 1, true, [5], [] ++ [[8]]⟩, 0) := by
    rcases pr0 (z := 1) (r := 300) (f := 0) (K := []) (b := VtV.next ⟨⟨1, 2, 1, 0 + 1, VtV.snap ⟨⟨1, 2, -1, 0, []⟩, 0 + 1, false, [], [] ++ [[7]]⟩ [5]⟩, 0 + 1, true, [5], []⟩ [8]) (v := ⟨V, []⟩) (u := ⟨[], []⟩) (by decide) (by omega) (by omega) (by rw [n8]; show ((0 + (8 + (8 + 1)) + V.length + 0 : Nat) : Int) ≤ 300; omega) with ⟨f2, a1, a2, a3, e2⟩ | ⟨b1, _⟩
    · refine ⟨k3 1 300 f2 false ⟨[] ++ frB (VtV.next ⟨⟨1, 2, 1, 0 + 1, VtV.snap ⟨⟨1, 2, -1, 0, []⟩, 0 + 1, false, [], [] ++ [[7]]⟩ [5]⟩, 0 + 1, true, [5], []⟩ [8]), []⟩ ⟨V, []⟩ ⟨[], []⟩, ?_⟩
      unfold ptV
      rw [if_neg (by rw [l8]; show ¬ (1 < 1 ∨ 60000 < 1 ∨ 18446744073709551614 ≤ (0 + 1 : Int)); omega), e2]
      dsimp only
      rw [if_neg (show ¬ ((0 : Int) ≠ 0) by decide)]
    · omega
  have o0 := dk0_ok 300 (by decide)
  have y0 := dk0_by 300
  have hd0 : dk0 300 = k3 1 300 0 false ⟨[], []⟩ ⟨[], []⟩ ⟨[], []⟩ := rfl
  rw [hd0] at o0 y0
  obtain ⟨k0, d0⟩ := op_vok y0 e0
  have o1 := ptV_ok o0 ⟨⟨1, 2, -1, 0, []⟩, 0, false, [], []⟩ [7]
  have y1 := ptV_by y0 ⟨⟨1, 2, -1, 0, []⟩, 0, false, [], []⟩ (by1 (n := 7) (by decide))
  have k1 := pt_vok k0 e1
  rw [e1] at o1 y1
  have o2 := coV_ok o1 ⟨⟨1, 2, -1, 0, []⟩, 0 + 1, false, [], [] ++ [[7]]⟩ [5]
  have y2 := coV_by y1 ⟨⟨1, 2, -1, 0, []⟩, 0 + 1, false, [], [] ++ [[7]]⟩ (by1 (n := 5) (by decide))
  have k2 := co_vok k1 (by1 (n := 5) (by decide)) e2
  rw [e2] at o2 y2
  have o3 := ptV_ok o2 ⟨⟨1, 2, 1, 0 + 1, VtV.snap ⟨⟨1, 2, -1, 0, []⟩, 0 + 1, false, [], [] ++ [[7]]⟩ [5]⟩, 0 + 1, true, [5], []⟩ [8]
  have y3 := ptV_by y2 ⟨⟨1, 2, 1, 0 + 1, VtV.snap ⟨⟨1, 2, -1, 0, []⟩, 0 + 1, false, [], [] ++ [[7]]⟩ [5]⟩, 0 + 1, true, [5], []⟩ (by1 (n := 8) (by decide))
  have k3' := pt_vok k2 e3
  rw [e3] at o3 y3
  exact ⟨_, _, _, _, _, _, _, _, hd0, e0, e1, e2, e3, ⟨rfl, rfl, rfl, rfl, rfl, rfl, rfl⟩, ⟨o0, y0, o1.more (by decide), y1, o2.more (by decide), y2, o3.more (by decide), y3⟩, ⟨k0, k1, k2, k3'⟩, d0⟩
theorem str5 : (strOfNums [5]).toList = [5] := by decide +kernel
theorem str8 : (strOfNums [8]).toList = [8] := by decide +kernel

set_option maxRecDepth 100000 in
set_option maxHeartbeats 4000000 in
theorem alive22_any {o : Addr} (w : World) (hG : Glob22 o w) : Calls Tryz.prog 9 #[] w fun e w' => e = .returned (.bool true) ∧ Below w.heap.size w w' := by
  obtain ⟨D0, D1, D2, D3, v0, v1, v2, v3, e0, p0, p1, p2, p3, ⟨a0, a1, a2, a3, m3, x3, l3⟩, ⟨o0, y0, o1, y1, o2, y2, o3, y3⟩, ⟨k0, k1, k2, k3'⟩, d0⟩ := alive22_math
  have hN := o_new (w := w) 300 (by decide) 0
  rw [← kp0] at hN
  rw [e0] at hN
  obtain ⟨B, hB⟩ : ∃ B, w.heap.size = B := ⟨_, rfl⟩
  rw [hB] at hN
  have hBle : w.heap.size ≤ B := by omega
  have GH := Lib.hid hG
  have BH := Lib.hid hBle
  have BE := Lib.hid hB
  have cO := Lib.hid (fun (g : Nat) (w' : World) (h : RyOwn (fun _ => False) B w w' g D0) => st_open (ry_host B w g) h o0 (by decide) y0 hG hBle d0 p0)
  have cP1 := Lib.hid (fun (g vo : Nat) (w' : World) (X : Nat → Prop) (p : Addr) (h : VaSt (fun E w' D => RyOwn E B w w' g D) B w' vo g D0 v0 X) (I : Ints .u8 w' (some p) 1 1 [7]) (hx : X p.block) => st_put (ry_host B w g) h o0 (by decide) k0 hG hBle I (by1 (by decide)) (fun y hy _ => by injection hy with hy; rw [← hy]; exact .inr hx) p1)
  have cP2 := Lib.hid (fun (g vo : Nat) (w' : World) (X : Nat → Prop) (p : Addr) (h : VaSt (fun E w' D => RyOwn E B w w' g D) B w' vo g D1 v1 X) (I : Ints .u8 w' (some p) 1 1 [5]) => st_compact (ry_host B w g) h o1 (by decide) y1 k1 hG hBle I (by1 (by decide)) p2)
  have cP3 := Lib.hid (fun (g vo : Nat) (w' : World) (X : Nat → Prop) (p : Addr) (h : VaSt (fun E w' D => RyOwn E B w w' g D) B w' vo g D2 v2 X) (I : Ints .u8 w' (some p) 1 1 [8]) (hx : X p.block) => st_put (ry_host B w g) h o2 (by decide) k2 hG hBle I (by1 (by decide)) (fun y hy _ => by injection hy with hy; rw [← hy]; exact .inr hx) p3)
  have cS := Lib.hid (fun (g vo : Nat) (w' : World) (X : Nat → Prop) (h : VaSt (fun E w' D => RyOwn E B w w' g D) B w' vo g D3 v3 X) => st_snapshot (ry_host B w g) h o3 y3 k3' hG hBle x3 (n := 1) rfl m3)
  have cR := Lib.hid (fun (g vo : Nat) (w' : World) (X : Nat → Prop) (h : VaSt (fun E w' D => RyOwn E B w w' g D) B w' vo g D3 v3 X) => st_records h a3 (n := 1) rfl (by decide) (fun p hp => by rw [List.mem_singleton.1 hp]; decide))
  have cX := Lib.hid (fun (g vo : Nat) (w' : World) (X : Nat → Prop) (h : VaSt (fun E w' D => RyOwn E B w w' g D) B w' vo g D3 v3 X) => st_next h (m := 3) (by rw [l3]; decide))
  clear e0 p0 p1 p2 p3 a0 a1 a2 a3 m3 x3 l3 o0 y0 o1 y1 o2 y2 o3 y3 k0 k1 k2 k3' d0 hG hBle hB
  go_enter Tryz.func9, Tryz.ntmps9
  go_wp2_with fail
  refine hN.mono ?_
  rintro q w1 ⟨g, rfl, h1⟩
  have cO1 := cO.out g w1 h1
  clear hN h1 cO
  go_wp2_with fail
  refine cO1.mono ?_
  rintro q w2 ⟨hq, _, _⟩
  rcases hq with ⟨_, vo, rfl, h2⟩ | ⟨hne, _, _⟩
  case inr => exact absurd rfl hne
  clear cO1
  have b2 := below1 w2 (.cells #[.int .u8 7] 5)
  have I2 : Ints .u8 (w2.alloc (.cells #[.int .u8 7] 5)) (some ⟨w2.heap.size, 0, none⟩) 1 1 [7] := ints_new11 w2 .u8 5 (0, 0) [7] 1 rfl
  have c2 := cP1.out g vo _ _ ⟨w2.heap.size, 0, none⟩ (h2.more (X' := fun b => b = w2.heap.size) (ry_host B w g) b2 (fun b hb => .inr (by rw [hb, size1]; exact ⟨Nat.le_refl _, Nat.lt_succ_self _⟩))) I2 rfl
  clear h2 b2 I2 cP1
  go_wp2_with fail
  refine c2.mono ?_
  rintro q w3 ⟨rfl, h3, _, _⟩
  have b3 := below1 w3 (.cells #[.int .u8 5] 5)
  have I3 : Ints .u8 (w3.alloc (.cells #[.int .u8 5] 5)) (some ⟨w3.heap.size, 0, none⟩) 1 1 [5] := ints_new11 w3 .u8 5 (0, 0) [5] 1 rfl
  have c3 := cP2.out g vo _ _ ⟨w3.heap.size, 0, none⟩ (h3.keep (ry_host B w g) b3) I3
  clear h3 b3 I3 cP2 c2
  go_wp2_with fail
  refine c3.mono ?_
  rintro q w4 ⟨rfl, h4, _, _⟩
  have b4 := below1 w4 (.cells #[.int .u8 8] 5)
  have I4 : Ints .u8 (w4.alloc (.cells #[.int .u8 8] 5)) (some ⟨w4.heap.size, 0, none⟩) 1 1 [8] := ints_new11 w4 .u8 5 (0, 0) [8] 1 rfl
  have c4 := cP3.out g vo _ _ ⟨w4.heap.size, 0, none⟩ (h4.more (X' := fun b => b = w4.heap.size) (ry_host B w g) b4 (fun b hb => .inr (by rw [hb, size1]; exact ⟨Nat.le_refl _, Nat.lt_succ_self _⟩))) I4 rfl
  clear h4 b4 I4 cP3 c3
  go_wp2_with fail
  refine c4.mono ?_
  rintro q w5 ⟨rfl, h5, _, _⟩
  have c5 := cS.out g vo w5 _ h5
  clear c4 cS
  go_wp2_with fail
  refine c5.mono ?_
  rintro q w6 ⟨a6, d6, rfl, o6, b6⟩
  have h6 := h5.keep (ry_host B w g) b6
  have c6 := cR.out g vo w6 _ h6
  have I6 := Lib.hid (own_ints' o6)
  clear c5 cR h5 o6 b6
  go_wp2_with fail
  refine c6.mono ?_
  rintro q w7 ⟨a7, d7, rfl, P7, b7⟩
  have h7 := h6.keep (ry_host B w g) b7
  have c7 := cX.out g vo w7 _ h7
  have cv := (I6.out.keep b7).string (P := Tryz.prog) 34 9 5 Tryz.underlying34 Tryz.underlying5 Tryz.underlying9
  have hs5 := str5
  have hs8 := str8
  obtain ⟨rb, ro, rfl, hat⟩ := P7.parts.at (by decide)
  obtain ⟨A, m, kk, hcell, hI⟩ := hat 0 (by decide)
  have hI : Ints .u8 w7 A m kk [8] := hI
  have cv8 := hI.string (P := Tryz.prog) 34 9 5 Tryz.underlying34 Tryz.underlying5 Tryz.underlying9
  rw [Nat.add_zero] at hcell
  have hlo := (h7.low (ry_host B w g)).1
  rw [← BE.out] at hlo
  clear c6 cX h6 h7 b7 P7 hat hI
  go_wp2_with fail
  refine c7.mono ?_
  rintro q w8 ⟨rfl, rfl⟩
  clear c7
  go_wp2
  go_ret
  exact ⟨rfl, hlo⟩

/-! ### Vaults that no call made -/
def DeadV (w : World) (p : Option Addr) : Prop := p = none ∨ ∃ r, p = some ⟨r, 0, none⟩ ∧ w.cell? ⟨r, 0, none⟩ = some (.pointer none)
set_option maxRecDepth 100000 in
set_option maxHeartbeats 1000000 in
theorem zUnmadeV {w : World} {p : Option Addr} (h : DeadV w p) :
    Calls Tryz.prog 39 #[.pointer p] w fun q w' => q = .returned (.bool true) ∧ w = w' := by
  rcases h with rfl | ⟨r, rfl, hc⟩
  · go_enter Tryz.func39, Tryz.ntmps39
    go_wp2
    go_ret
    exact ⟨rfl, rfl⟩
  · go_enter Tryz.func39, Tryz.ntmps39
    go_wp2
    go_ret
    exact ⟨rfl, rfl⟩
set_option maxRecDepth 100000 in
set_option maxHeartbeats 1000000 in
theorem zSnapshotV {w : World} {p : Option Addr} (h : DeadV w p) :
    Calls Tryz.prog 29 #[.pointer p] w fun q w' => q = .returned (.tuple #[.slice none 0 0, .bool false]) ∧ w = w' := by
  have hM := zUnmadeV h
  clear h
  go_enter Tryz.func29, Tryz.ntmps29
  go_wp2_with fail
  refine hM.mono ?_
  rintro q w1 ⟨rfl, rfl⟩
  go_wp2
  go_ret2
  exact ⟨rfl, rfl⟩
set_option maxRecDepth 100000 in
set_option maxHeartbeats 1000000 in
theorem zRecordsV {w : World} {p : Option Addr} (h : DeadV w p) :
    Calls Tryz.prog 30 #[.pointer p] w fun q w' => q = .returned (.slice none 0 0) ∧ w = w' := by
  have hM := zUnmadeV h
  clear h
  go_enter Tryz.func30, Tryz.ntmps30
  go_wp2_with fail
  refine hM.mono ?_
  rintro q w1 ⟨rfl, rfl⟩
  go_wp2
  go_ret
  exact ⟨rfl, rfl⟩
set_option maxRecDepth 100000 in
set_option maxHeartbeats 1000000 in
theorem zSizeV {w : World} {p : Option Addr} (h : DeadV w p) :
    Calls Tryz.prog 31 #[.pointer p] w fun q w' => q = .returned (.int .i64 0) ∧ w = w' := by
  have hM := zUnmadeV h
  clear h
  go_enter Tryz.func31, Tryz.ntmps31
  go_wp2_with fail
  refine hM.mono ?_
  rintro q w1 ⟨rfl, rfl⟩
  go_wp2
  go_ret
  exact ⟨rfl, rfl⟩
set_option maxRecDepth 100000 in
set_option maxHeartbeats 1000000 in
theorem zNextV {w : World} {p : Option Addr} (h : DeadV w p) :
    Calls Tryz.prog 32 #[.pointer p] w fun q w' => q = .returned (.int .u64 0) ∧ w = w' := by
  have hM := zUnmadeV h
  clear h
  go_enter Tryz.func32, Tryz.ntmps32
  go_wp2_with fail
  refine hM.mono ?_
  rintro q w1 ⟨rfl, rfl⟩
  go_wp2
  go_ret
  exact ⟨rfl, rfl⟩
set_option maxRecDepth 100000 in
set_option maxHeartbeats 1000000 in
theorem zPutV {w : World} {p : Option Addr} (h : DeadV w p) (a : Option Addr) (n c : Nat) :
    Calls Tryz.prog 12 #[.pointer p, .slice a n c] w fun q w' => q = .returned (.int .i64 7) ∧ w = w' := by
  have hM := zUnmadeV h
  clear h
  go_enter Tryz.func12, Tryz.ntmps12
  go_wp2_with fail
  refine hM.mono ?_
  rintro q w1 ⟨rfl, rfl⟩
  go_wp2
  go_ret
  exact ⟨rfl, rfl⟩
set_option maxRecDepth 100000 in
set_option maxHeartbeats 1000000 in
theorem zCompactV {w : World} {p : Option Addr} (h : DeadV w p) (a : Option Addr) (n c : Nat) :
    Calls Tryz.prog 14 #[.pointer p, .slice a n c] w fun q w' => q = .returned (.int .i64 7) ∧ w = w' := by
  have hM := zUnmadeV h
  clear h
  go_enter Tryz.func14, Tryz.ntmps14
  go_wp2_with fail
  refine hM.mono ?_
  rintro q w1 ⟨rfl, rfl⟩
  go_wp2
  go_ret
  exact ⟨rfl, rfl⟩

set_option maxRecDepth 100000 in
set_option maxHeartbeats 2000000 in
theorem vaOpen_dead {o : Addr} {w : World} {p : Option Addr} (hG : Glob22 o w) (h : Dead w p) :
    Calls Tryz.prog 10 #[.pointer p] w fun q w' => q = .returned (.tuple #[.pointer none, .int .i64 7]) ∧ Below w.heap.size w w' := by
  have hC := slOpen_dead 1 2 h
  have bt := fun (S : ByteArray) => built_f1 S 26 (.int .i64 7)
  have hI : Calls Tryz.prog 33 #[.pointer p] w fun q w' => (∃ s, q = .returned (.tuple #[.pointer none, fault1 s 7])) ∧ w = w' := by
    clear hG h
    go_enter Tryz.func33, Tryz.ntmps33
    go_wp2_with fail
    refine hC.mono ?_
    rintro q w1 ⟨rfl, rfl⟩
    go_wp2
    go_ret2
    exact ⟨⟨_, rfl⟩, rfl⟩
  have b2 := below1 w (.cells #[.int .i64 0] 26)
  have kt : (w.alloc (.cells #[.int .i64 0] 26)).cell? ⟨w.heap.size, 0, none⟩ = some (.int .i64 0) := World.cell?_alloc_at (w := w) #[.int .i64 0] 26 w.heap.size 0 rfl
  have ft : (w.alloc (.cells #[.int .i64 0] 26)).frozen? ⟨w.heap.size, 0, none⟩ = false := World.frozen?_alloc_new _ _ _ _
  have e2 := (hG.keep b2 (Nat.le_refl _)).e
  have hB : Blk (w.alloc (.cells #[.int .i64 0] 26)) w.heap.size 26 [.int .i64 0] := Blk.new w 26 [.int .i64 0]
  obtain ⟨W2, hW2⟩ : ∃ W, w.alloc (.cells #[.int .i64 0] 26) = W := ⟨_, rfl⟩
  rw [hW2] at b2 kt ft e2 hB
  obtain ⟨t, ht⟩ : ∃ t, w.heap.size = t := ⟨_, rfl⟩
  have htH := Lib.hid ht
  have hW2H := Lib.hid hW2
  rw [ht] at kt ft hB
  have ca := Lib.hid (fun (s : ByteArray) => as22_1 s 7 ⟨t, 0, none⟩ (.int .i64 0) W2 e2 kt ft)
  have fin := Lib.hid (show ∀ w3, Below W2.heap.size W2 w3 → Below w.heap.size w (w3.setCell ⟨t, 0, none⟩ (.int .i64 7)).drew ∧ (w3.setCell ⟨t, 0, none⟩ (.int .i64 7)).drew.cell? ⟨t, 0, none⟩ = some (.int .i64 7) from by
    intro w3 b3
    have h3 := b2.trans (b3.mono b2.size)
    refine ⟨(h3.setCell (p := ⟨t, 0, none⟩) (by show w.heap.size ≤ t; rw [ht]; exact Nat.le_refl _) (.int .i64 7)).drew, ?_⟩
    exact ((hB.keep b3 hB.lt).set 0 (.int .i64 7)).cell 0)
  clear hC bt h hG b2 kt ft e2 hB ht hW2
  go_enter Tryz.func10, Tryz.ntmps10
  go_wp2_with fail
  refine hI.mono ?_
  rintro q w1 ⟨⟨s, rfl⟩, rfl⟩
  have ca1 := ca.out s
  unfold fault1
  clear hI ca
  go_wp2_with fail
  rw [hW2H.out, htH.out]
  refine ca1.mono ?_
  rintro q w3 ⟨rfl, w4, b4, rfl⟩
  obtain ⟨f4, k4⟩ := fin.out w4 b4
  obtain ⟨W5, hW5⟩ : ∃ W, w4.setCell ⟨t, 0, none⟩ (.int .i64 7) = W := ⟨_, rfl⟩
  rw [hW5] at k4 f4
  rw [hW5]
  have f5 := Lib.hid f4
  clear ca1 b4 hW5 fin f4
  go_wp2_with fail
  refine region_seqS (fun w' => w'.cell? ⟨t, 0, none⟩ = some (.int .i64 7)) (by kernel_rfl) k4 ?_
  simp only [pairs, Nat.reduceAdd]
  repeat (first
    | (refine SeqS.take (v := ?_) (by first | assumption | trivial) (by kernel_rfl) (by decide +kernel) (by decide +kernel) (Or.inl ⟨by rfl, ?_⟩) ?_
       rotate_left
       focus
         intro w' hb'
         go_simp
         with_reducible rfl
       simp only [Act.put, List.setIfInBounds_toArray, List.set_cons_zero, List.set_cons_succ])
    | (refine SeqS.take (v := ?_) (by first | assumption | trivial) (by kernel_rfl) (by decide +kernel) (by decide +kernel) (Or.inl ⟨by rfl, ?_⟩) ?_
       rotate_left
       focus
         intro w' hb'
         have d0 := hb'
         go_simp
         with_reducible rfl
       simp only [Act.put, List.setIfInBounds_toArray, List.set_cons_zero, List.set_cons_succ])
    | (refine SeqS.take (v := undef) (by first | assumption | trivial) (by kernel_rfl) (by decide +kernel) (by decide +kernel) (Or.inr ⟨by rfl, rfl⟩) ?_
       simp only [Act.put, List.setIfInBounds_toArray, List.set_cons_zero, List.set_cons_succ])
    | (refine SeqS.take1 (v := ?_) (by first | assumption | trivial) (by kernel_rfl) (by decide +kernel) (by decide +kernel) (Or.inl ⟨by rfl, ?_⟩) ?_
       rotate_left
       focus
         intro w' hb'
         go_simp
         with_reducible rfl
       simp only [Act.put, List.setIfInBounds_toArray, List.set_cons_zero, List.set_cons_succ])
    | (refine SeqS.take1 (v := ?_) (by first | assumption | trivial) (by kernel_rfl) (by decide +kernel) (by decide +kernel) (Or.inl ⟨by rfl, ?_⟩) ?_
       rotate_left
       focus
         intro w' hb'
         have d0 := hb'
         go_simp
         with_reducible rfl
       simp only [Act.put, List.setIfInBounds_toArray, List.set_cons_zero, List.set_cons_succ])
    | (refine SeqS.take1 (v := undef) (by first | assumption | trivial) (by kernel_rfl) (by decide +kernel) (by decide +kernel) (Or.inr ⟨by rfl, rfl⟩) ?_
       simp only [Act.put, List.setIfInBounds_toArray, List.set_cons_zero, List.set_cons_succ])
    | (refine SeqS.take2 (v := ?_) (by first | assumption | trivial) (by kernel_rfl) (by decide +kernel) (by decide +kernel) (Or.inl ⟨by rfl, ?_⟩) ?_
       rotate_left
       focus
         intro w' hb'
         go_simp
         with_reducible rfl
       simp only [Act.put, List.setIfInBounds_toArray, List.set_cons_zero, List.set_cons_succ])
    | (refine SeqS.take2 (v := ?_) (by first | assumption | trivial) (by kernel_rfl) (by decide +kernel) (by decide +kernel) (Or.inl ⟨by rfl, ?_⟩) ?_
       rotate_left
       focus
         intro w' hb'
         have d0 := hb'
         go_simp
         with_reducible rfl
       simp only [Act.put, List.setIfInBounds_toArray, List.set_cons_zero, List.set_cons_succ])
    | (refine SeqS.take2 (v := undef) (by first | assumption | trivial) (by kernel_rfl) (by decide +kernel) (by decide +kernel) (Or.inr ⟨by rfl, rfl⟩) ?_
       simp only [Act.put, List.setIfInBounds_toArray, List.set_cons_zero, List.set_cons_succ]))
  refine SeqS.done (by decide +kernel) ?_
  go_wp2
  go_ret2
  exact ⟨rfl, f5.out⟩
end Go.Proofs.YtinmmhbiomcdoaaGreatDoor
