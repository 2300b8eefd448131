/-
  Texts of stages that were proved on their own, joined: RzDoc, SlLoad, SlOpen, SlPd. Each begins with its own words.
-/
import Derived.Test.YtcohbhimhacedaaGreatDoorSeqK
import Derived.Test.YtcohbhimhacedaaGreatDoorJSzAll15
import Derived.Test.YtcohbhimhacedaaGreatDoorJSzAll32
import Derived.Test.YtcohbhimhacedaaGreatDoorJSzAll20
import Derived.Test.YtcohbhimhacedaaGreatDoorJSzAll3

/-
  The document's disk in a function of the document (layer 20): the parameter boxed at G, the answer's cell behind it; what the calls leave. New memory alone is written. Conditions: a disk with at most 3518437208882 steps a file.
-/
namespace Go.Proofs.YtcohbhimhacedaaGreatDoor
open Go.RowKit

/-- G: the boxed disk holds xs, G + 1: the answer's cell holds ys; the value cs is the disk D. -/
structure Doc (R0 : Nat → Prop) (w : World) (G : Nat) (W : World) (xs ys cs : List Value) (D : DkV) : Prop where
  x : Blk W G 37 xs
  y : Blk W (G + 1) 37 ys
  b : Below w.heap.size w W
  d : ∃ R, RDisk R W cs D ∧ ∀ b, R b → b < W.heap.size ∧ b ≠ G ∧ b ≠ G + 1 ∧ (R0 b ∨ w.heap.size ≤ b)
  g : w.heap.size = G
section
variable {R0 : Nat → Prop} {w W W' : World} {G : Nat} {xs ys cs cs' : List Value} {D D' : DkV} {T : Nat}
end

theorem z_holds {R : Nat → Prop} {w : World} {c : List Value} {v : FlV} (h : RFile R w c v) (ho : FOk v) {X : List Int} (hX : v.held = X) {N : Nat} (hN : X.length = N) :
    Calls Tryz.prog 30 #[.agg c.toArray] w fun q w' => ∃ b c, q = .returned (.slice b N c) ∧ Ints .u8 w' b N c X ∧ Below w.heap.size w w' := by
  subst hN; subst hX
  exact (fHolds_any h ho).mono fun q w' ⟨b, c, e, k, hb⟩ => ⟨b, c, e, own_ints' k, hb⟩

theorem z_units {R : Nat → Prop} {w : World} {c : List Value} {v : FlV} (h : RFile R w c v) (ho : FOk v) {N : Nat} (hN : v.units = N) :
    Calls Tryz.prog 59 #[.agg c.toArray] w fun q w' => q = .returned (.int .i64 (N : Int)) ∧ Below w.heap.size w w' := by
  have h1 := ho.u
  have h2 := ho.l
  subst hN
  exact fUnits_any h (by show ((v.units : Nat) : Int) < _; omega) (by omega)
end Go.Proofs.YtcohbhimhacedaaGreatDoor

/-
  The document's own slots (layer 21): Load, of each file. New memory alone is written. Conditions: a disk with fewer than 2^42 steps a file; the files hold bytes.
-/
namespace Go.Proofs.YtcohbhimhacedaaGreatDoor
open Go.RowKit

theorem held_len21 {D : DkV} {T : Nat} (hO : D.Ok T) (z : Int) : (heldR D z).length ≤ 65536 := Nat.le_trans (FlV.held_le _) (hO.f _).need
theorem be8_lim {xs : List Int} (hr : ∀ x ∈ xs, isByte x) (k : Nat) (hk : k ≤ 8) : 0 ≤ be (xs.take k) ∧ be (xs.take k) < 18446744073709551616 := by
  have h1 := be_fold (xs.take k) 0 (fun x hx => hr x (List.mem_of_mem_take hx)) (Int.le_refl 0)
  refine ⟨h1.1, Int.lt_of_lt_of_le h1.2 ?_⟩
  have hl : (xs.take k).length ≤ 8 := by rw [List.length_take]; omega
  rw [Int.zero_add, Int.one_mul]
  have : ∀ k, k ≤ 8 → (256 : Int) ^ k ≤ 18446744073709551616 := by decide
  exact this _ hl
theorem mul_lim {A u B : Int} (h : B = 256 * A + u) (hA : 0 ≤ A) (hu : 0 ≤ u ∧ u < 256) (hB : B < 18446744073709551616) : 0 ≤ 256 * A ∧ 256 * A < 18446744073709551616 := by omega

theorem cut_block21 {a : Option Addr} {c l : Nat} {y : Addr} (h : cutAddr a c l = some y) : ∃ y', a = some y' ∧ y'.block = y.block := by
  cases a with
  | none => simp [cutAddr] at h
  | some x =>
    unfold cutAddr at h
    by_cases e : c = l
    · rw [if_pos e] at h
      injection h with h
      exact ⟨x, rfl, by rw [h]⟩
    · rw [if_neg e, Option.map_some] at h
      injection h with h
      refine ⟨x, rfl, ?_⟩
      rw [← h]
      unfold Addr.add
      split <;> rfl

set_option maxRecDepth 100000 in
set_option maxHeartbeats 2000000 in
theorem r21Load_0 {R : Nat → Prop} {w : World} {cs : List Value} {D : DkV} {T : Nat} (h2 : RDisk R w cs D) (hO : D.Ok T) (hT : T ≤ 4398046511104) (hD : D.By) {t : Int} {x : List Int} (ht : ldF (heldR D 0) = (t, x)) :
    Calls Tryz.prog 28 #[.agg cs.toArray, .int .i64 0] w fun q w' => ∃ a n c, q = .returned (.tuple #[.int .u64 t, .slice a n c]) ∧ Ints .u8 w' a n c x ∧ (∀ y, a = some y → 0 < n → w.heap.size ≤ y.block) ∧ Below w.heap.size w w' := by
  have hby : ∀ x ∈ heldR D 0, isByte x := (hD.f _).held
  have hle := held_len21 hO 0
  have hfo := (hO.f 0).fok hT
  obtain ⟨f1, f2⟩ := h2.co 0 (by decide)
  have cl := f2.len
  obtain ⟨c, hc⟩ : ∃ c, fileC cs 0 = c := ⟨_, rfl⟩
  rw [hc] at f1 f2 cl
  have crow : IsRow Tryz.prog 34 c.length := by rw [cl]; exact rowRf
  have b1 := below1 w (.cells cs.toArray 37)
  have x1 := Blk.new w 37 cs
  obtain ⟨W, hW⟩ : ∃ W, w.alloc (.cells cs.toArray 37) = W := ⟨_, rfl⟩
  rw [hW] at b1 x1
  have fr : W.rangeAt w.heap.size 0 c := x1.range _ _ f1
  obtain ⟨X, hX⟩ : ∃ X, heldR D 0 = X := ⟨_, rfl⟩
  obtain ⟨N, hN⟩ : ∃ N, X.length = N := ⟨_, rfl⟩
  rw [hX] at hby hle ht
  rw [hN] at hle
  have hob := oneF_by hby
  obtain ⟨BD, hBD⟩ : ∃ y, (oneF X).1 = y := ⟨_, rfl⟩
  obtain ⟨SZ, hSZ⟩ : ∃ y, (oneF X).2.1 = y := ⟨_, rfl⟩
  obtain ⟨E, hE⟩ : ∃ y, (oneF X).2.2 = y := ⟨_, rfl⟩
  unfold ldF at ht
  rw [hBD, hE] at ht
  rw [hBD] at hob
  have cH := z_holds (f2.keep b1) hfo hX hN
  have cO := Lib.hid (fun W' (a : Option Addr) (e : Nat) (I : Ints .u8 W' a N e X) => (r19One_any a N e X W' I hby (by omega)).mono fun q w2 hq => oneEnd_is (bd := BD) (sz := SZ) (e := E) hq hBD hSZ hE)
  obtain ⟨L, hL⟩ : ∃ y, BD.length = y := ⟨_, rfl⟩
  have hLH := Lib.hid hL
  have hWH := Lib.hid hW
  have bH := Lib.hid b1
  have htH := Lib.hid ht
  have obH := Lib.hid hob
  obtain ⟨G, hG⟩ : ∃ G, w.heap.size = G := ⟨_, rfl⟩
  rw [hG] at fr
  have hGH := Lib.hid hG
  clear h2 hO hT hD hby hle hfo f1 f2 hc b1 x1 hX hN hW hG hBD hSZ hE hL ht hob
  go_enter Tryz.func28, Tryz.ntmps28
  go_wp2_with ((with_reducible refine box_row rfl 37 (.tmp 0) rfl cs rfl ?_); refine RowKit.Hid.out ?_)
  refine Lib.hid ?_
  rw [hWH.out, hGH.out]
  go_wp2_with ((with_reducible refine wpList_load_part rfl 34 (.tmp 14) rfl ?_ c fr crow ?_); rfl)
  refine cH.mono ?_
  rintro q W1 ⟨a1, c1, rfl, I1, q1⟩
  have cO1 := cO.out W1 a1 c1 I1
  have B1 := Lib.hid (bH.out.trans (q1.mono bH.out.size))
  clear cH cO I1 q1
  go_wp2_with fail
  refine cO1.mono ?_
  rintro q W2 ⟨a2, c2, rfl, ho, q2⟩
  have B2 := Lib.hid (B1.out.trans (q2.mono B1.out.size))
  have I2 := own_ints' ho
  have nw : ∀ y, a2 = some y → 0 < BD.length → w.heap.size ≤ y.block := fun y hy h0 => by
    rcases ho.2 with ⟨hv, _⟩ | ⟨g, cap, cur, hv, hg, _⟩
    · injection hv with _ e2 _
      omega
    · injection hv with e1 _ _
      rw [hy] at e1
      injection e1 with e1
      rw [e1]
      exact Nat.le_trans B1.out.size hg
  rw [hLH.out] at I2 nw
  rw [hLH.out]
  have NW := Lib.hid nw
  clear cO1 ho q2 nw
  by_cases hE0 : E = 0
  · subst hE0
    by_cases hL8 : (L : Int) < 8
    · have hres : (t, x) = ((0 : Int), ([] : List Int)) := by rw [← htH.out, if_pos (.inr (by have := hLH.out; omega))]
      injection hres with e1 e2
      subst e1; subst e2
      have B3 := B2.out
      clear I2
      go_wp2
      go_ret2
      exact ⟨none, 0, 0, rfl, ⟨rfl, Nat.le_refl _, .inl rfl⟩, (fun _ h => by cases h), B3⟩
    · have hres : (t, x) = (be (BD.take 8), BD.drop 8) := by rw [← htH.out, if_neg (by have := hLH.out; omega)]
      injection hres with e1 e2
      subst e1; subst e2
      obtain ⟨b, off, rfl, hat⟩ := I2.at (by omega)
      have hl8 : 8 ≤ L := by omega
      have sN : ∀ wx : World, (Instr.sliceAt 22 (.slice (some ⟨b, off, none⟩) L c2) (some (.int .i64 8)) none none).run Tryz.prog wx = .ok (.slice (cutAddr (some ⟨b, off, none⟩) c2 8) (L - 8) (c2 - 8)) wx := fun wx => run_cut 22 5 Tryz.underlying22 sizeU8s wx (some ⟨b, off, none⟩) L c2 .i64 8 hl8
      have I3 := Lib.hid (I2.cutAt 8 hl8)
      have hl8H := Lib.hid hl8
      have hLi : (8 : Int) ≤ (L : Int) := by omega
      clear I2 hl8 hL8
      go_wp2_with fail
      go_loopw [9, 10] (fun v i wr => ∃ k : Nat, k ≤ 8 ∧ i = .int .i64 k ∧ v = .int .u64 (be (BD.take k)) ∧ W2 = wr) (fun _ i _ => 8 - (intOf i).toNat)
      case atStart => exact ⟨0, by decide, rfl, rfl, rfl⟩
      case round =>
        obtain ⟨k, hk, rfl, rfl, rfl⟩ := hrel
        by_cases hlt : k < 8
        · have hki : (k : Int) < 8 := by omega
          have hkL : (k : Int) < (L : Int) := by omega
          have hkn : k < L := by omega
          have ck := hat k hkn
          have hst := be_take BD k (by rw [hLH.out]; exact hkn)
          have h1 := be8_lim obH.out k hk
          have h2 := be8_lim obH.out (k + 1) hlt
          have hx := getD_range (p := isByte) obH.out k (by rw [hLH.out]; exact hkn)
          obtain ⟨u, hu⟩ : ∃ u, BD.getD k 0 = u := ⟨_, rfl⟩
          obtain ⟨A0, hA0⟩ : ∃ u, be (BD.take k) = u := ⟨_, rfl⟩
          obtain ⟨A1, hA1⟩ : ∃ u, be (BD.take (k + 1)) = u := ⟨_, rfl⟩
          rw [hu] at ck hx hst
          rw [hA0] at h1 hst ⊢
          rw [hA1] at h2 hst
          have hx : 0 ≤ u ∧ u < 256 := hx
          obtain ⟨p1, p2⟩ := u64_id (mul_lim hst h1.1 hx h2.2)
          obtain ⟨p3, p4⟩ := u64_id (x := 256 * A0 + u) (by rw [← hst]; exact h2)
          obtain ⟨p5, p6⟩ := u64_id (x := u) ⟨hx.1, Int.lt_trans hx.2 (by decide)⟩
          have hstH := Lib.hid hst
          have hA1H := Lib.hid hA1
          have hltH := Lib.hid hlt
          clear hat hst hu hA0 hA1 h1 h2 hk hlt hx hkn
          go_wp2
          exact ⟨⟨k + 1, by have := hltH.out; omega, by congr 1, by rw [hA1H.out, hstH.out], by trivial⟩, by simp only [intOf]; have := hltH.out; omega⟩
        · obtain rfl : k = 8 := by omega
          have B3 := B2.out
          clear hat hlt hk
          go_wp2_with fail
          refine region_seqS (fun w' => True) (by kernel_rfl) trivial ?_
          simp only [pairs, Nat.reduceAdd]
          repeat ((first
            | (refine SeqS.k0 (v := ?_) ?_ ?_; rotate_left; focus (intro w' hb'; go_simp; with_reducible rfl))
            | (refine SeqS.k0 (v := ?_) ?_ ?_; rotate_left; focus (intro w' hb'; have d0 := sN w'; go_simp; with_reducible rfl))
            | (refine SeqS.u0 ?_)
            | (refine SeqS.k1 (v := ?_) ?_ ?_; rotate_left; focus (intro w' hb'; go_simp; with_reducible rfl))
            | (refine SeqS.k1 (v := ?_) ?_ ?_; rotate_left; focus (intro w' hb'; have d0 := sN w'; go_simp; with_reducible rfl))
            | (refine SeqS.u1 ?_)
            | (refine SeqS.k2 (v := ?_) ?_ ?_; rotate_left; focus (intro w' hb'; go_simp; with_reducible rfl))
            | (refine SeqS.k2 (v := ?_) ?_ ?_; rotate_left; focus (intro w' hb'; have d0 := sN w'; go_simp; with_reducible rfl))
            | (refine SeqS.u2 ?_)); simp only [Act.put, List.setIfInBounds_toArray, List.set_cons_zero, List.set_cons_succ])
          refine SeqS.done (by decide +kernel) ?_
          go_wp2
          go_ret2
          refine ⟨_, _, _, rfl, (I3.out.keep (Below.refl _ _).drew), fun y hy h0 => ?_, B3.drew⟩
          obtain ⟨y', hy', hb⟩ := cut_block21 hy
          exact hb ▸ NW.out y' hy' (by omega)
  · have hEb : (E != 0) = true := bne_iff_ne.2 hE0
    have hres : (t, x) = ((0 : Int), ([] : List Int)) := by rw [← htH.out, if_pos (.inl hE0)]
    injection hres with e1 e2
    subst e1; subst e2
    have B3 := B2.out
    clear I2
    go_wp2
    go_ret2
    exact ⟨none, 0, 0, rfl, ⟨rfl, Nat.le_refl _, .inl rfl⟩, (fun _ h => by cases h), B3⟩

set_option maxRecDepth 100000 in
set_option maxHeartbeats 2000000 in
theorem r21Load_1 {R : Nat → Prop} {w : World} {cs : List Value} {D : DkV} {T : Nat} (h2 : RDisk R w cs D) (hO : D.Ok T) (hT : T ≤ 4398046511104) (hD : D.By) {t : Int} {x : List Int} (ht : ldF (heldR D 1) = (t, x)) :
    Calls Tryz.prog 28 #[.agg cs.toArray, .int .i64 1] w fun q w' => ∃ a n c, q = .returned (.tuple #[.int .u64 t, .slice a n c]) ∧ Ints .u8 w' a n c x ∧ (∀ y, a = some y → 0 < n → w.heap.size ≤ y.block) ∧ Below w.heap.size w w' := by
  have hby : ∀ x ∈ heldR D 1, isByte x := (hD.f _).held
  have hle := held_len21 hO 1
  have hfo := (hO.f 1).fok hT
  obtain ⟨f1, f2⟩ := h2.co 1 (by decide)
  have cl := f2.len
  obtain ⟨c, hc⟩ : ∃ c, fileC cs 1 = c := ⟨_, rfl⟩
  rw [hc] at f1 f2 cl
  have crow : IsRow Tryz.prog 34 c.length := by rw [cl]; exact rowRf
  have b1 := below1 w (.cells cs.toArray 37)
  have x1 := Blk.new w 37 cs
  obtain ⟨W, hW⟩ : ∃ W, w.alloc (.cells cs.toArray 37) = W := ⟨_, rfl⟩
  rw [hW] at b1 x1
  have fr : W.rangeAt w.heap.size 2 c := x1.range _ _ f1
  obtain ⟨X, hX⟩ : ∃ X, heldR D 1 = X := ⟨_, rfl⟩
  obtain ⟨N, hN⟩ : ∃ N, X.length = N := ⟨_, rfl⟩
  rw [hX] at hby hle ht
  rw [hN] at hle
  have hob := oneF_by hby
  obtain ⟨BD, hBD⟩ : ∃ y, (oneF X).1 = y := ⟨_, rfl⟩
  obtain ⟨SZ, hSZ⟩ : ∃ y, (oneF X).2.1 = y := ⟨_, rfl⟩
  obtain ⟨E, hE⟩ : ∃ y, (oneF X).2.2 = y := ⟨_, rfl⟩
  unfold ldF at ht
  rw [hBD, hE] at ht
  rw [hBD] at hob
  have cH := z_holds (f2.keep b1) hfo hX hN
  have cO := Lib.hid (fun W' (a : Option Addr) (e : Nat) (I : Ints .u8 W' a N e X) => (r19One_any a N e X W' I hby (by omega)).mono fun q w2 hq => oneEnd_is (bd := BD) (sz := SZ) (e := E) hq hBD hSZ hE)
  obtain ⟨L, hL⟩ : ∃ y, BD.length = y := ⟨_, rfl⟩
  have hLH := Lib.hid hL
  have hWH := Lib.hid hW
  have bH := Lib.hid b1
  have htH := Lib.hid ht
  have obH := Lib.hid hob
  obtain ⟨G, hG⟩ : ∃ G, w.heap.size = G := ⟨_, rfl⟩
  rw [hG] at fr
  have hGH := Lib.hid hG
  clear h2 hO hT hD hby hle hfo f1 f2 hc b1 x1 hX hN hW hG hBD hSZ hE hL ht hob
  go_enter Tryz.func28, Tryz.ntmps28
  go_wp2_with ((with_reducible refine box_row rfl 37 (.tmp 0) rfl cs rfl ?_); refine RowKit.Hid.out ?_)
  refine Lib.hid ?_
  rw [hWH.out, hGH.out]
  go_wp2_with ((with_reducible refine wpList_load_part rfl 34 (.tmp 14) rfl ?_ c fr crow ?_); rfl)
  refine cH.mono ?_
  rintro q W1 ⟨a1, c1, rfl, I1, q1⟩
  have cO1 := cO.out W1 a1 c1 I1
  have B1 := Lib.hid (bH.out.trans (q1.mono bH.out.size))
  clear cH cO I1 q1
  go_wp2_with fail
  refine cO1.mono ?_
  rintro q W2 ⟨a2, c2, rfl, ho, q2⟩
  have B2 := Lib.hid (B1.out.trans (q2.mono B1.out.size))
  have I2 := own_ints' ho
  have nw : ∀ y, a2 = some y → 0 < BD.length → w.heap.size ≤ y.block := fun y hy h0 => by
    rcases ho.2 with ⟨hv, _⟩ | ⟨g, cap, cur, hv, hg, _⟩
    · injection hv with _ e2 _
      omega
    · injection hv with e1 _ _
      rw [hy] at e1
      injection e1 with e1
      rw [e1]
      exact Nat.le_trans B1.out.size hg
  rw [hLH.out] at I2 nw
  rw [hLH.out]
  have NW := Lib.hid nw
  clear cO1 ho q2 nw
  by_cases hE0 : E = 0
  · subst hE0
    by_cases hL8 : (L : Int) < 8
    · have hres : (t, x) = ((0 : Int), ([] : List Int)) := by rw [← htH.out, if_pos (.inr (by have := hLH.out; omega))]
      injection hres with e1 e2
      subst e1; subst e2
      have B3 := B2.out
      clear I2
      go_wp2
      go_ret2
      exact ⟨none, 0, 0, rfl, ⟨rfl, Nat.le_refl _, .inl rfl⟩, (fun _ h => by cases h), B3⟩
    · have hres : (t, x) = (be (BD.take 8), BD.drop 8) := by rw [← htH.out, if_neg (by have := hLH.out; omega)]
      injection hres with e1 e2
      subst e1; subst e2
      obtain ⟨b, off, rfl, hat⟩ := I2.at (by omega)
      have hl8 : 8 ≤ L := by omega
      have sN : ∀ wx : World, (Instr.sliceAt 22 (.slice (some ⟨b, off, none⟩) L c2) (some (.int .i64 8)) none none).run Tryz.prog wx = .ok (.slice (cutAddr (some ⟨b, off, none⟩) c2 8) (L - 8) (c2 - 8)) wx := fun wx => run_cut 22 5 Tryz.underlying22 sizeU8s wx (some ⟨b, off, none⟩) L c2 .i64 8 hl8
      have I3 := Lib.hid (I2.cutAt 8 hl8)
      have hl8H := Lib.hid hl8
      have hLi : (8 : Int) ≤ (L : Int) := by omega
      clear I2 hl8 hL8
      go_wp2_with fail
      go_loopw [9, 10] (fun v i wr => ∃ k : Nat, k ≤ 8 ∧ i = .int .i64 k ∧ v = .int .u64 (be (BD.take k)) ∧ W2 = wr) (fun _ i _ => 8 - (intOf i).toNat)
      case atStart => exact ⟨0, by decide, rfl, rfl, rfl⟩
      case round =>
        obtain ⟨k, hk, rfl, rfl, rfl⟩ := hrel
        by_cases hlt : k < 8
        · have hki : (k : Int) < 8 := by omega
          have hkL : (k : Int) < (L : Int) := by omega
          have hkn : k < L := by omega
          have ck := hat k hkn
          have hst := be_take BD k (by rw [hLH.out]; exact hkn)
          have h1 := be8_lim obH.out k hk
          have h2 := be8_lim obH.out (k + 1) hlt
          have hx := getD_range (p := isByte) obH.out k (by rw [hLH.out]; exact hkn)
          obtain ⟨u, hu⟩ : ∃ u, BD.getD k 0 = u := ⟨_, rfl⟩
          obtain ⟨A0, hA0⟩ : ∃ u, be (BD.take k) = u := ⟨_, rfl⟩
          obtain ⟨A1, hA1⟩ : ∃ u, be (BD.take (k + 1)) = u := ⟨_, rfl⟩
          rw [hu] at ck hx hst
          rw [hA0] at h1 hst ⊢
          rw [hA1] at h2 hst
          have hx : 0 ≤ u ∧ u < 256 := hx
          obtain ⟨p1, p2⟩ := u64_id (mul_lim hst h1.1 hx h2.2)
          obtain ⟨p3, p4⟩ := u64_id (x := 256 * A0 + u) (by rw [← hst]; exact h2)
          obtain ⟨p5, p6⟩ := u64_id (x := u) ⟨hx.1, Int.lt_trans hx.2 (by decide)⟩
          have hstH := Lib.hid hst
          have hA1H := Lib.hid hA1
          have hltH := Lib.hid hlt
          clear hat hst hu hA0 hA1 h1 h2 hk hlt hx hkn
          go_wp2
          exact ⟨⟨k + 1, by have := hltH.out; omega, by congr 1, by rw [hA1H.out, hstH.out], by trivial⟩, by simp only [intOf]; have := hltH.out; omega⟩
        · obtain rfl : k = 8 := by omega
          have B3 := B2.out
          clear hat hlt hk
          go_wp2_with fail
          refine region_seqS (fun w' => True) (by kernel_rfl) trivial ?_
          simp only [pairs, Nat.reduceAdd]
          repeat ((first
            | (refine SeqS.k0 (v := ?_) ?_ ?_; rotate_left; focus (intro w' hb'; go_simp; with_reducible rfl))
            | (refine SeqS.k0 (v := ?_) ?_ ?_; rotate_left; focus (intro w' hb'; have d0 := sN w'; go_simp; with_reducible rfl))
            | (refine SeqS.u0 ?_)
            | (refine SeqS.k1 (v := ?_) ?_ ?_; rotate_left; focus (intro w' hb'; go_simp; with_reducible rfl))
            | (refine SeqS.k1 (v := ?_) ?_ ?_; rotate_left; focus (intro w' hb'; have d0 := sN w'; go_simp; with_reducible rfl))
            | (refine SeqS.u1 ?_)
            | (refine SeqS.k2 (v := ?_) ?_ ?_; rotate_left; focus (intro w' hb'; go_simp; with_reducible rfl))
            | (refine SeqS.k2 (v := ?_) ?_ ?_; rotate_left; focus (intro w' hb'; have d0 := sN w'; go_simp; with_reducible rfl))
            | (refine SeqS.u2 ?_)); simp only [Act.put, List.setIfInBounds_toArray, List.set_cons_zero, List.set_cons_succ])
          refine SeqS.done (by decide +kernel) ?_
          go_wp2
          go_ret2
          refine ⟨_, _, _, rfl, (I3.out.keep (Below.refl _ _).drew), fun y hy h0 => ?_, B3.drew⟩
          obtain ⟨y', hy', hb⟩ := cut_block21 hy
          exact hb ▸ NW.out y' hy' (by omega)
  · have hEb : (E != 0) = true := bne_iff_ne.2 hE0
    have hres : (t, x) = ((0 : Int), ([] : List Int)) := by rw [← htH.out, if_pos (.inl hE0)]
    injection hres with e1 e2
    subst e1; subst e2
    have B3 := B2.out
    clear I2
    go_wp2
    go_ret2
    exact ⟨none, 0, 0, rfl, ⟨rfl, Nat.le_refl _, .inl rfl⟩, (fun _ h => by cases h), B3⟩

set_option maxRecDepth 100000 in
set_option maxHeartbeats 2000000 in
theorem r21Load_2 {R : Nat → Prop} {w : World} {cs : List Value} {D : DkV} {T : Nat} (h2 : RDisk R w cs D) (hO : D.Ok T) (hT : T ≤ 4398046511104) (hD : D.By) {t : Int} {x : List Int} (ht : ldF (heldR D 2) = (t, x)) :
    Calls Tryz.prog 28 #[.agg cs.toArray, .int .i64 2] w fun q w' => ∃ a n c, q = .returned (.tuple #[.int .u64 t, .slice a n c]) ∧ Ints .u8 w' a n c x ∧ (∀ y, a = some y → 0 < n → w.heap.size ≤ y.block) ∧ Below w.heap.size w w' := by
  have hby : ∀ x ∈ heldR D 2, isByte x := (hD.f _).held
  have hle := held_len21 hO 2
  have hfo := (hO.f 2).fok hT
  obtain ⟨f1, f2⟩ := h2.co 2 (by decide)
  have cl := f2.len
  obtain ⟨c, hc⟩ : ∃ c, fileC cs 2 = c := ⟨_, rfl⟩
  rw [hc] at f1 f2 cl
  have crow : IsRow Tryz.prog 34 c.length := by rw [cl]; exact rowRf
  have b1 := below1 w (.cells cs.toArray 37)
  have x1 := Blk.new w 37 cs
  obtain ⟨W, hW⟩ : ∃ W, w.alloc (.cells cs.toArray 37) = W := ⟨_, rfl⟩
  rw [hW] at b1 x1
  have fr : W.rangeAt w.heap.size 4 c := x1.range _ _ f1
  obtain ⟨X, hX⟩ : ∃ X, heldR D 2 = X := ⟨_, rfl⟩
  obtain ⟨N, hN⟩ : ∃ N, X.length = N := ⟨_, rfl⟩
  rw [hX] at hby hle ht
  rw [hN] at hle
  have hob := oneF_by hby
  obtain ⟨BD, hBD⟩ : ∃ y, (oneF X).1 = y := ⟨_, rfl⟩
  obtain ⟨SZ, hSZ⟩ : ∃ y, (oneF X).2.1 = y := ⟨_, rfl⟩
  obtain ⟨E, hE⟩ : ∃ y, (oneF X).2.2 = y := ⟨_, rfl⟩
  unfold ldF at ht
  rw [hBD, hE] at ht
  rw [hBD] at hob
  have cH := z_holds (f2.keep b1) hfo hX hN
  have cO := Lib.hid (fun W' (a : Option Addr) (e : Nat) (I : Ints .u8 W' a N e X) => (r19One_any a N e X W' I hby (by omega)).mono fun q w2 hq => oneEnd_is (bd := BD) (sz := SZ) (e := E) hq hBD hSZ hE)
  obtain ⟨L, hL⟩ : ∃ y, BD.length = y := ⟨_, rfl⟩
  have hLH := Lib.hid hL
  have hWH := Lib.hid hW
  have bH := Lib.hid b1
  have htH := Lib.hid ht
  have obH := Lib.hid hob
  obtain ⟨G, hG⟩ : ∃ G, w.heap.size = G := ⟨_, rfl⟩
  rw [hG] at fr
  have hGH := Lib.hid hG
  clear h2 hO hT hD hby hle hfo f1 f2 hc b1 x1 hX hN hW hG hBD hSZ hE hL ht hob
  go_enter Tryz.func28, Tryz.ntmps28
  go_wp2_with ((with_reducible refine box_row rfl 37 (.tmp 0) rfl cs rfl ?_); refine RowKit.Hid.out ?_)
  refine Lib.hid ?_
  rw [hWH.out, hGH.out]
  go_wp2_with ((with_reducible refine wpList_load_part rfl 34 (.tmp 14) rfl ?_ c fr crow ?_); rfl)
  refine cH.mono ?_
  rintro q W1 ⟨a1, c1, rfl, I1, q1⟩
  have cO1 := cO.out W1 a1 c1 I1
  have B1 := Lib.hid (bH.out.trans (q1.mono bH.out.size))
  clear cH cO I1 q1
  go_wp2_with fail
  refine cO1.mono ?_
  rintro q W2 ⟨a2, c2, rfl, ho, q2⟩
  have B2 := Lib.hid (B1.out.trans (q2.mono B1.out.size))
  have I2 := own_ints' ho
  have nw : ∀ y, a2 = some y → 0 < BD.length → w.heap.size ≤ y.block := fun y hy h0 => by
    rcases ho.2 with ⟨hv, _⟩ | ⟨g, cap, cur, hv, hg, _⟩
    · injection hv with _ e2 _
      omega
    · injection hv with e1 _ _
      rw [hy] at e1
      injection e1 with e1
      rw [e1]
      exact Nat.le_trans B1.out.size hg
  rw [hLH.out] at I2 nw
  rw [hLH.out]
  have NW := Lib.hid nw
  clear cO1 ho q2 nw
  by_cases hE0 : E = 0
  · subst hE0
    by_cases hL8 : (L : Int) < 8
    · have hres : (t, x) = ((0 : Int), ([] : List Int)) := by rw [← htH.out, if_pos (.inr (by have := hLH.out; omega))]
      injection hres with e1 e2
      subst e1; subst e2
      have B3 := B2.out
      clear I2
      go_wp2
      go_ret2
      exact ⟨none, 0, 0, rfl, ⟨rfl, Nat.le_refl _, .inl rfl⟩, (fun _ h => by cases h), B3⟩
    · have hres : (t, x) = (be (BD.take 8), BD.drop 8) := by rw [← htH.out, if_neg (by have := hLH.out; omega)]
      injection hres with e1 e2
      subst e1; subst e2
      obtain ⟨b, off, rfl, hat⟩ := I2.at (by omega)
      have hl8 : 8 ≤ L := by omega
      have sN : ∀ wx : World, (Instr.sliceAt 22 (.slice (some ⟨b, off, none⟩) L c2) (some (.int .i64 8)) none none).run Tryz.prog wx = .ok (.slice (cutAddr (some ⟨b, off, none⟩) c2 8) (L - 8) (c2 - 8)) wx := fun wx => run_cut 22 5 Tryz.underlying22 sizeU8s wx (some ⟨b, off, none⟩) L c2 .i64 8 hl8
      have I3 := Lib.hid (I2.cutAt 8 hl8)
      have hl8H := Lib.hid hl8
      have hLi : (8 : Int) ≤ (L : Int) := by omega
      clear I2 hl8 hL8
      go_wp2_with fail
      go_loopw [9, 10] (fun v i wr => ∃ k : Nat, k ≤ 8 ∧ i = .int .i64 k ∧ v = .int .u64 (be (BD.take k)) ∧ W2 = wr) (fun _ i _ => 8 - (intOf i).toNat)
      case atStart => exact ⟨0, by decide, rfl, rfl, rfl⟩
      case round =>
        obtain ⟨k, hk, rfl, rfl, rfl⟩ := hrel
        by_cases hlt : k < 8
        · have hki : (k : Int) < 8 := by omega
          have hkL : (k : Int) < (L : Int) := by omega
          have hkn : k < L := by omega
          have ck := hat k hkn
          have hst := be_take BD k (by rw [hLH.out]; exact hkn)
          have h1 := be8_lim obH.out k hk
          have h2 := be8_lim obH.out (k + 1) hlt
          have hx := getD_range (p := isByte) obH.out k (by rw [hLH.out]; exact hkn)
          obtain ⟨u, hu⟩ : ∃ u, BD.getD k 0 = u := ⟨_, rfl⟩
          obtain ⟨A0, hA0⟩ : ∃ u, be (BD.take k) = u := ⟨_, rfl⟩
          obtain ⟨A1, hA1⟩ : ∃ u, be (BD.take (k + 1)) = u := ⟨_, rfl⟩
          rw [hu] at ck hx hst
          rw [hA0] at h1 hst ⊢
          rw [hA1] at h2 hst
          have hx : 0 ≤ u ∧ u < 256 := hx
          obtain ⟨p1, p2⟩ := u64_id (mul_lim hst h1.1 hx h2.2)
          obtain ⟨p3, p4⟩ := u64_id (x := 256 * A0 + u) (by rw [← hst]; exact h2)
          obtain ⟨p5, p6⟩ := u64_id (x := u) ⟨hx.1, Int.lt_trans hx.2 (by decide)⟩
          have hstH := Lib.hid hst
          have hA1H := Lib.hid hA1
          have hltH := Lib.hid hlt
          clear hat hst hu hA0 hA1 h1 h2 hk hlt hx hkn
          go_wp2
          exact ⟨⟨k + 1, by have := hltH.out; omega, by congr 1, by rw [hA1H.out, hstH.out], by trivial⟩, by simp only [intOf]; have := hltH.out; omega⟩
        · obtain rfl : k = 8 := by omega
          have B3 := B2.out
          clear hat hlt hk
          go_wp2_with fail
          refine region_seqS (fun w' => True) (by kernel_rfl) trivial ?_
          simp only [pairs, Nat.reduceAdd]
          repeat ((first
            | (refine SeqS.k0 (v := ?_) ?_ ?_; rotate_left; focus (intro w' hb'; go_simp; with_reducible rfl))
            | (refine SeqS.k0 (v := ?_) ?_ ?_; rotate_left; focus (intro w' hb'; have d0 := sN w'; go_simp; with_reducible rfl))
            | (refine SeqS.u0 ?_)
            | (refine SeqS.k1 (v := ?_) ?_ ?_; rotate_left; focus (intro w' hb'; go_simp; with_reducible rfl))
            | (refine SeqS.k1 (v := ?_) ?_ ?_; rotate_left; focus (intro w' hb'; have d0 := sN w'; go_simp; with_reducible rfl))
            | (refine SeqS.u1 ?_)
            | (refine SeqS.k2 (v := ?_) ?_ ?_; rotate_left; focus (intro w' hb'; go_simp; with_reducible rfl))
            | (refine SeqS.k2 (v := ?_) ?_ ?_; rotate_left; focus (intro w' hb'; have d0 := sN w'; go_simp; with_reducible rfl))
            | (refine SeqS.u2 ?_)); simp only [Act.put, List.setIfInBounds_toArray, List.set_cons_zero, List.set_cons_succ])
          refine SeqS.done (by decide +kernel) ?_
          go_wp2
          go_ret2
          refine ⟨_, _, _, rfl, (I3.out.keep (Below.refl _ _).drew), fun y hy h0 => ?_, B3.drew⟩
          obtain ⟨y', hy', hb⟩ := cut_block21 hy
          exact hb ▸ NW.out y' hy' (by omega)
  · have hEb : (E != 0) = true := bne_iff_ne.2 hE0
    have hres : (t, x) = ((0 : Int), ([] : List Int)) := by rw [← htH.out, if_pos (.inl hE0)]
    injection hres with e1 e2
    subst e1; subst e2
    have B3 := B2.out
    clear I2
    go_wp2
    go_ret2
    exact ⟨none, 0, 0, rfl, ⟨rfl, Nat.le_refl _, .inl rfl⟩, (fun _ h => by cases h), B3⟩

end Go.Proofs.YtcohbhimhacedaaGreatDoor

/-
  The document's own slots (layer 21): Open, of the files 1 and 2. New memory alone is written. Conditions: a disk that is up, with at most 2^42 steps a file; the files hold bytes.
-/
namespace Go.Proofs.YtcohbhimhacedaaGreatDoor
open Go.RowKit

/-- The document's slots in memory: five cells, a snapshot that lies from B on. -/
def slC (s : SlV) (a : Option Addr) (n c : Nat) : List Value := [.int .i64 s.a, .int .i64 s.b, .int .i64 s.now, .int .u64 s.turn, .slice a n c]
def SlAt (w : World) (Q : Nat → Prop) (cs : List Value) (s : SlV) : Prop := ∃ a n c, cs = slC s a n c ∧ Ints .u8 w a n c s.body ∧ ∀ y, a = some y → 0 < n → Q y.block
def slZ : List Value := [.int .i64 0, .int .i64 0, .int .i64 0, .int .u64 0, .slice none 0 0]
set_option maxRecDepth 100000 in
theorem sizeSl : (Tryz.prog.info? 46).map (·.size) = some 5 := by kernel_rfl
theorem rowSl : IsRow Tryz.prog 46 5 := IsRow.struct Tryz.underlying46 sizeSl
set_option maxRecDepth 100000 in
theorem zeroSl : Zero Tryz.prog 46 slZ := by unfold Zero; kernel_rfl
theorem slC_len (s : SlV) (a : Option Addr) (n c : Nat) : (slC s a n c).length = 5 := rfl
theorem slC_one (s : SlV) (a : Option Addr) (n c : Nat) : ∀ v ∈ slC s a n c, v.oneCell' = true := by
  intro v hv
  simp [slC] at hv
  rcases hv with rfl | rfl | rfl | rfl | rfl <;> rfl
theorem SlAt.len {w : World} {Q : Nat → Prop} {cs : List Value} {s : SlV} (h : SlAt w Q cs s) : cs.length = 5 ∧ ∀ v ∈ cs, v.oneCell' = true := by
  obtain ⟨a, n, c, rfl, _, _⟩ := h
  exact ⟨rfl, slC_one s a n c⟩
theorem built_sl (x y z : Int) : Tryz.prog.built 46 [(0, .int .i64 x), (1, .int .i64 y), (2, .int .i64 z)] = some (slC ⟨x, y, z, 0, []⟩ none 0 0).toArray := by kernel_rfl
theorem set3 {w : World} {g : Nat} {t : TypeId} {a b c d e v2 v3 v4 : Value} (h : Blk w g t [a, b, c, d, e]) :
    Blk (((w.setCell ⟨g, 2, none⟩ v2).setCell ⟨g, 3, none⟩ v3).setCell ⟨g, 4, none⟩ v4) g t [a, b, v2, v3, v4] ∧ w.grownBy (((w.setCell ⟨g, 2, none⟩ v2).setCell ⟨g, 3, none⟩ v3).setCell ⟨g, 4, none⟩ v4) (some g) := by
  have g1 := grown_setCell w g 2 v2
  have g2 := grown_setCell (w.setCell ⟨g, 2, none⟩ v2) g 3 v3
  have g3 := grown_setCell ((w.setCell ⟨g, 2, none⟩ v2).setCell ⟨g, 3, none⟩ v3) g 4 v4
  have b1 : Blk (w.setCell ⟨g, 2, none⟩ v2) g t [a, b, v2, d, e] := h.set 2 v2
  have b2 : Blk ((w.setCell ⟨g, 2, none⟩ v2).setCell ⟨g, 3, none⟩ v3) g t [a, b, v2, v3, e] := b1.set 3 v3
  refine ⟨b2.set 4 v4, ⟨g3.os.trans (g2.os.trans g1.os), g3.tape.trans (g2.tape.trans g1.tape), g3.output.trans (g2.output.trans g1.output), Nat.le_trans g1.size (Nat.le_trans g2.size g3.size), fun k hk hn => ?_⟩⟩
  exact (g3.block k (Nat.lt_of_lt_of_le hk (Nat.le_trans g1.size g2.size)) hn).trans ((g2.block k (Nat.lt_of_lt_of_le hk g1.size) hn).trans (g1.block k hk hn))
/-- A slice that lies from B on stays, where blocks below B alone were written. -/
theorem ints_from {w w' : World} {B : Nat} {k : IntKind} {a : Option Addr} {n c : Nat} {xs : List Int} (h : Ints k w a n c xs) (hn : ∀ y, a = some y → 0 < n → B ≤ y.block) (hk : ∀ b, B ≤ b → b < w.heap.size → w'.heap[b]? = w.heap[b]?) : Ints k w' a n c xs := ints_inR (R := fun b => B ≤ b) h hn hk
theorem u64_pos {t : Int} (h : ¬ 0 < t) (h0 : 0 ≤ t) : t = 0 := by omega

set_option maxRecDepth 100000 in
set_option maxHeartbeats 4000000 in
theorem r21Open_12 {R : Nat → Prop} {w : World} {cs : List Value} {D : DkV} {T : Nat} (h2 : RDisk R w cs D) (hO : D.Ok T) (hT : T ≤ 4398046511104) (hD : D.By) (hd : D.down = false) :
    Calls Tryz.prog 10 #[.agg cs.toArray, .int .i64 1, .int .i64 2] w fun q w' => ∃ sc, q = .returned (.tuple #[.agg sc.toArray, .int .i64 0]) ∧ SlAt w' (fun b => w.heap.size ≤ b) sc (opS D 1 2) ∧ Below w.heap.size w w' := by
  have hr1 : ¬ D.room = 0 := by have := hO.room; omega
  have hddc := h2.ddc
  have hl := hddc.l
  obtain ⟨n, x, hn⟩ : ∃ n x, ldF (heldR D 1) = (n, x) := ⟨_, _, rfl⟩
  obtain ⟨m, y, hm⟩ : ∃ m y, ldF (heldR D 2) = (m, y) := ⟨_, _, rfl⟩
  have n0 := (ldF_ok (b := heldR D 1) (hD.f _).held).1
  rw [hn] at n0
  obtain ⟨ys, hys⟩ : ∃ ys, slZ = ys := ⟨_, rfl⟩
  have hz := zeroSl
  have hzl : slZ.length = 5 := rfl
  have hzo : ∀ v ∈ slZ, v.oneCell' = true := by intro v hv; simp [slZ] at hv; rcases hv with rfl | rfl | rfl <;> rfl
  rw [hys] at hz hzl
  have x1 := (Blk.new w 37 cs).alloc (.cells ys.toArray 46)
  have y1 : Blk ((w.alloc (.cells cs.toArray 37)).alloc (.cells ys.toArray 46)) (w.heap.size + 1) 46 ys := Blk.new1 w _ _ ys
  have B1 := below2 w (.cells cs.toArray 37) (.cells ys.toArray 46)
  obtain ⟨W, hW⟩ : ∃ W, (w.alloc (.cells cs.toArray 37)).alloc (.cells ys.toArray 46) = W := ⟨_, rfl⟩
  rw [hW] at x1 y1 B1
  obtain ⟨C0, hC0⟩ : ∃ C, slC ⟨1, 2, -1, 0, []⟩ none 0 0 = C := ⟨_, rfl⟩
  have hbd := built_sl 1 2 (-1)
  have c0l := slC_len ⟨1, 2, -1, 0, []⟩ none 0 0
  have c0o := slC_one ⟨1, 2, -1, 0, []⟩ none 0 0
  rw [hC0] at hbd c0l c0o
  have z2 := Blk.new W 46 ys
  have q2 := below1 W (.cells ys.toArray 46)
  have s2 := size1 W (.cells ys.toArray 46)
  obtain ⟨G, hG⟩ : ∃ G, w.heap.size = G := ⟨_, rfl⟩
  rw [hG] at x1 y1
  have e6 := x1.cell 6
  have e8 := x1.cell 8
  rw [hddc.r] at e6
  rw [hddc.d, hd] at e8
  obtain ⟨r, hr⟩ : ∃ r, D.room = r := ⟨_, rfl⟩
  rw [hr] at e6 hr1
  have L1 := Lib.hid (fun w' (q : Below w.heap.size w w') => r21Load_1 (h2.keep q) hO hT hD hn)
  have L2 := Lib.hid (fun w' (q : Below w.heap.size w w') => r21Load_2 (h2.keep q) hO hT hD hm)
  have hop : opS D 1 2 = if n < m then ⟨1, 2, 2, m, y⟩ else if 0 < n then ⟨1, 2, 1, n, x⟩ else ⟨1, 2, -1, 0, []⟩ := by unfold opS; rw [hn, hm]
  obtain ⟨SV, hSV⟩ : ∃ s, opS D 1 2 = s := ⟨_, rfl⟩
  rw [hSV] at hop ⊢
  have hopH := Lib.hid hop
  have hWH := Lib.hid hW
  have hGH := Lib.hid hG
  have BH := Lib.hid B1
  have q2H := Lib.hid q2
  have s2H := Lib.hid s2
  have x1H := Lib.hid x1
  have y1H := Lib.hid y1
  have n0H := Lib.hid n0
  have C0H := Lib.hid hC0
  clear h2 hO hT hD hd hddc hn hm hys hW hG hr B1 q2 s2 hSV hop n0 hC0 x1 y1
  go_enter Tryz.func10, Tryz.ntmps10
  go_wp2_with ((with_reducible refine box_row rfl 37 (.tmp 0) rfl cs rfl ?_); refine RowKit.Hid.out ?_)
  refine Lib.hid ?_
  refine wpList_alloc_blk rfl 46 rfl hz ?_
  rw [hWH.out, size1, hGH.out]
  go_wp2_with (first
    | ((with_reducible refine build_row rfl 46 #[(0, .tmp 40), (1, .tmp 41), (2, .const (.int .i64 (-1)))] rfl (cells := C0.toArray) ?_ ?_); (refine Eq.trans (congrArg _ ?_) hbd; kernel_rfl))
    | (with_reducible refine wpList_alloc_blk rfl 46 rfl hz ?_)
    | (refine store_row rfl 46 (.tmp 8) _ rfl rfl rfl z2 rowSl c0l hzl c0o ?_
       intro W3 z3 g3
       refine RowKit.Hid.out ?_))
  refine Lib.hid ?_
  have Q3 : Below W.heap.size W W3 := q2H.out.trans (below_of_grown g3 (Nat.le_refl _) (by rw [s2H.out]; omega))
  have x3 := x1H.out.keep Q3 x1H.out.lt
  have y3 := y1H.out.keep Q3 y1H.out.lt
  have B3 := BH.out.trans (Q3.mono BH.out.size)
  have zG : G + 1 < W.heap.size := y1H.out.lt
  obtain ⟨Z, hZ⟩ : ∃ Z, W.heap.size = Z := ⟨_, rfl⟩
  rw [hZ] at z3 zG
  rw [hZ]
  have l1 := L1.out W3 B3
  have B3H := Lib.hid B3
  have zGH := Lib.hid zG
  clear z2 g3 Q3 q2H s2H hZ hbd c0l c0o L1 B3 e6 e8 hr1 x1H y1H BH
  go_wp2_with ((with_reducible refine wpList_load_blk rfl 37 (.tmp 3) rfl ?_ x3 rowDd hl ?_); rfl)
  refine l1.mono ?_
  rintro q W4 ⟨a1, n1, c1, rfl, I1, N1, q4⟩
  have x4 := x3.keep q4 x3.lt
  have y4 := y3.keep q4 y3.lt
  have z4 := z3.keep q4 z3.lt
  have B4 := B3H.out.trans (q4.mono B3H.out.size)
  have l2 := L2.out W4 B4
  have z3lt := z3.lt
  have s34 := q4.size
  have B4H := Lib.hid B4
  have I1H := Lib.hid I1
  have Zlt := Lib.hid (show Z < W3.heap.size from z3lt)
  clear l1 q4 x3 y3 z3 B3H I1 B4 L2 z3lt
  go_wp2_with ((with_reducible refine wpList_load_blk rfl 37 (.tmp 3) rfl ?_ x4 rowDd hl ?_); rfl)
  refine l2.mono ?_
  rintro q W6 ⟨a2, n2, c2, rfl, I2, N2, q6⟩
  have y6 := y4.keep q6 y4.lt
  have z6 := z4.keep q6 z4.lt
  have B6 := B4H.out.trans (q6.mono B4H.out.size)
  have J1 := I1H.out.keep q6
  rw [← C0H.out] at z6
  have hz6 : Blk W6 Z 46 [.int .i64 1, .int .i64 2, .int .i64 (-1), .int .u64 0, .slice none 0 0] := z6
  have lt3 := Zlt.out
  have lt4 : Z < W4.heap.size := Nat.lt_of_lt_of_le lt3 s34
  have zG := zGH.out
  have gw : w.heap.size ≤ G := by rw [hGH.out]; exact Nat.le_refl _
  have J1H := Lib.hid J1
  have J2H := Lib.hid I2
  have N1H := Lib.hid N1
  have N2H := Lib.hid N2
  have B6H := Lib.hid B6
  have y6H := Lib.hid y6
  have w3H := Lib.hid (show w.heap.size ≤ W3.heap.size ∧ w.heap.size ≤ W4.heap.size from ⟨by omega, by omega⟩)
  have ltH := Lib.hid (show Z < W3.heap.size ∧ Z < W4.heap.size ∧ G + 1 < Z ∧ w.heap.size ≤ G from ⟨lt3, lt4, zG, gw⟩)
  clear l2 q6 x4 y4 z4 B4H I1H J1 I2 N1 N2 B6 y6 z6 lt3 lt4 zG gw s34 Zlt zGH C0H
  by_cases hn0 : 0 < n
  · by_cases hnm : n < m
    · obtain ⟨zA, gA⟩ := set3 (v2 := .int .i64 1) (v3 := .int .u64 n) (v4 := .slice a1 n1 c1) hz6
      obtain ⟨z7, gB⟩ := set3 (v2 := .int .i64 2) (v3 := .int .u64 m) (v4 := .slice a2 n2 c2) zA
      have gs : W6.grownBy _ (some Z) := ⟨gB.os.trans gA.os, gB.tape.trans gA.tape, gB.output.trans gA.output, Nat.le_trans gA.size gB.size, fun b hb hn => (gB.block b (Nat.lt_of_lt_of_le hb gA.size) hn).trans (gA.block b hb hn)⟩
      have z7 : Blk _ Z 46 (slC ⟨1, 2, 2, m, y⟩ a2 n2 c2) := z7
      have hSV := hopH.out
      rw [if_pos hnm] at hSV
      subst hSV
      have y7 := y6H.out.grown gs (fun e => by injection e; have := ltH.out; omega)
      have B7 := B6H.out.grown gs B6H.out.size (fun q hq => by injection hq with hq; have := ltH.out; omega)
      obtain ⟨lt3, lt4, zG, gw⟩ := ltH.out
      have f2 := hz6.frozen 2
      have f3 := hz6.frozen 3
      have f4 := hz6.frozen 4
      have k2 : W6.cell? ⟨Z, 2, none⟩ = some (.int .i64 (-1)) := hz6.cell 2
      have k3 : W6.cell? ⟨Z, 3, none⟩ = some (.int .u64 0) := hz6.cell 3
      have k4 : W6.cell? ⟨Z, 4, none⟩ = some (.slice none 0 0) := hz6.cell 4
      go_wp2_with (first
        | ((with_reducible refine wpList_load_blk rfl 46 (.tmp 8) rfl ?_ z7 rowSl rfl ?_); rfl)
        | ((with_reducible refine store_row rfl 46 (.tmp 6) _ rfl ?_ ?_ y7 rowSl rfl hzl (slC_one ⟨1, 2, 2, m, y⟩ a2 n2 c2) ?_); rfl; rfl; intro W8 b8 g8; refine RowKit.Hid.out ?_))
      refine Lib.hid ?_
      have B8 := B7.grown g8 B7.size (fun q hq => by injection hq with hq; rw [← hq, ← hGH.out]; exact Nat.le_succ _)
      have I8 := ints_from (w' := W8) J2H.out N2H.out (fun b h1 h2 => (g8.block b (Nat.lt_of_lt_of_le h2 gs.size) (fun e => by injection e with e; omega)).trans (gs.block b h2 (fun e => by injection e with e; omega)))
      clear g8 z7 y7
      go_wp2
      refine bodyPost_ret (results_bt18 rfl rfl b8 (by rw [slC_len]; exact rowSl)) rfl ?_
      exact ⟨_, rfl, ⟨a2, n2, c2, rfl, I8, (fun v hv h0 => Nat.le_trans w3H.out.2 (N2H.out v hv h0))⟩, B8⟩
    · obtain ⟨z7, gs⟩ := set3 (v2 := .int .i64 1) (v3 := .int .u64 n) (v4 := .slice a1 n1 c1) hz6
      have z7 : Blk _ Z 46 (slC ⟨1, 2, 1, n, x⟩ a1 n1 c1) := z7
      have hSV := hopH.out
      rw [if_neg hnm, if_pos hn0] at hSV
      subst hSV
      have y7 := y6H.out.grown gs (fun e => by injection e; have := ltH.out; omega)
      have B7 := B6H.out.grown gs B6H.out.size (fun q hq => by injection hq with hq; have := ltH.out; omega)
      obtain ⟨lt3, lt4, zG, gw⟩ := ltH.out
      have f2 := hz6.frozen 2
      have f3 := hz6.frozen 3
      have f4 := hz6.frozen 4
      have k2 : W6.cell? ⟨Z, 2, none⟩ = some (.int .i64 (-1)) := hz6.cell 2
      have k3 : W6.cell? ⟨Z, 3, none⟩ = some (.int .u64 0) := hz6.cell 3
      have k4 : W6.cell? ⟨Z, 4, none⟩ = some (.slice none 0 0) := hz6.cell 4
      go_wp2_with (first
        | ((with_reducible refine wpList_load_blk rfl 46 (.tmp 8) rfl ?_ z7 rowSl rfl ?_); rfl)
        | ((with_reducible refine store_row rfl 46 (.tmp 6) _ rfl ?_ ?_ y7 rowSl rfl hzl (slC_one ⟨1, 2, 1, n, x⟩ a1 n1 c1) ?_); rfl; rfl; intro W8 b8 g8; refine RowKit.Hid.out ?_))
      refine Lib.hid ?_
      have B8 := B7.grown g8 B7.size (fun q hq => by injection hq with hq; rw [← hq, ← hGH.out]; exact Nat.le_succ _)
      have I8 := ints_from (w' := W8) J1H.out N1H.out (fun b h1 h2 => (g8.block b (Nat.lt_of_lt_of_le h2 gs.size) (fun e => by injection e with e; omega)).trans (gs.block b h2 (fun e => by injection e with e; omega)))
      clear g8 z7 y7
      go_wp2
      refine bodyPost_ret (results_bt18 rfl rfl b8 (by rw [slC_len]; exact rowSl)) rfl ?_
      exact ⟨_, rfl, ⟨a1, n1, c1, rfl, I8, (fun v hv h0 => Nat.le_trans w3H.out.1 (N1H.out v hv h0))⟩, B8⟩
  · have hn00 := u64_pos hn0 n0H.out
    by_cases hnm : n < m
    · obtain ⟨z7, gs⟩ := set3 (v2 := .int .i64 2) (v3 := .int .u64 m) (v4 := .slice a2 n2 c2) hz6
      have z7 : Blk _ Z 46 (slC ⟨1, 2, 2, m, y⟩ a2 n2 c2) := z7
      have hSV := hopH.out
      rw [if_pos hnm] at hSV
      subst hSV
      have y7 := y6H.out.grown gs (fun e => by injection e; have := ltH.out; omega)
      have B7 := B6H.out.grown gs B6H.out.size (fun q hq => by injection hq with hq; have := ltH.out; omega)
      obtain ⟨lt3, lt4, zG, gw⟩ := ltH.out
      have f2 := hz6.frozen 2
      have f3 := hz6.frozen 3
      have f4 := hz6.frozen 4
      have k2 : W6.cell? ⟨Z, 2, none⟩ = some (.int .i64 (-1)) := hz6.cell 2
      have k3 : W6.cell? ⟨Z, 3, none⟩ = some (.int .u64 0) := hz6.cell 3
      have k4 : W6.cell? ⟨Z, 4, none⟩ = some (.slice none 0 0) := hz6.cell 4
      go_wp2_with (first
        | ((with_reducible refine wpList_load_blk rfl 46 (.tmp 8) rfl ?_ z7 rowSl rfl ?_); rfl)
        | ((with_reducible refine store_row rfl 46 (.tmp 6) _ rfl ?_ ?_ y7 rowSl rfl hzl (slC_one ⟨1, 2, 2, m, y⟩ a2 n2 c2) ?_); rfl; rfl; intro W8 b8 g8; refine RowKit.Hid.out ?_))
      refine Lib.hid ?_
      have B8 := B7.grown g8 B7.size (fun q hq => by injection hq with hq; rw [← hq, ← hGH.out]; exact Nat.le_succ _)
      have I8 := ints_from (w' := W8) J2H.out N2H.out (fun b h1 h2 => (g8.block b (Nat.lt_of_lt_of_le h2 gs.size) (fun e => by injection e with e; omega)).trans (gs.block b h2 (fun e => by injection e with e; omega)))
      clear g8 z7 y7
      go_wp2
      refine bodyPost_ret (results_bt18 rfl rfl b8 (by rw [slC_len]; exact rowSl)) rfl ?_
      exact ⟨_, rfl, ⟨a2, n2, c2, rfl, I8, (fun v hv h0 => Nat.le_trans w3H.out.2 (N2H.out v hv h0))⟩, B8⟩
    · have gs : W6.grownBy W6 (some Z) := ⟨rfl, rfl, rfl, Nat.le_refl _, fun _ _ _ => rfl⟩
      have z7 : Blk W6 Z 46 (slC ⟨1, 2, -1, 0, []⟩ none 0 0) := hz6
      have hSV := hopH.out
      rw [if_neg hnm, if_neg hn0] at hSV
      subst hSV
      have y7 := y6H.out.grown gs (fun e => by injection e; have := ltH.out; omega)
      have B7 := B6H.out.grown gs B6H.out.size (fun q hq => by injection hq with hq; have := ltH.out; omega)
      obtain ⟨lt3, lt4, zG, gw⟩ := ltH.out
      have f2 := hz6.frozen 2
      have f3 := hz6.frozen 3
      have f4 := hz6.frozen 4
      have k2 : W6.cell? ⟨Z, 2, none⟩ = some (.int .i64 (-1)) := hz6.cell 2
      have k3 : W6.cell? ⟨Z, 3, none⟩ = some (.int .u64 0) := hz6.cell 3
      have k4 : W6.cell? ⟨Z, 4, none⟩ = some (.slice none 0 0) := hz6.cell 4
      go_wp2_with (first
        | ((with_reducible refine wpList_load_blk rfl 46 (.tmp 8) rfl ?_ z7 rowSl rfl ?_); rfl)
        | ((with_reducible refine store_row rfl 46 (.tmp 6) _ rfl ?_ ?_ y7 rowSl rfl hzl (slC_one ⟨1, 2, -1, 0, []⟩ none 0 0) ?_); rfl; rfl; intro W8 b8 g8; refine RowKit.Hid.out ?_))
      refine Lib.hid ?_
      have B8 := B7.grown g8 B7.size (fun q hq => by injection hq with hq; rw [← hq, ← hGH.out]; exact Nat.le_succ _)
      have I8 := ints_from (w' := W8) (show Ints .u8 W6 none 0 0 [] from ⟨rfl, Nat.le_refl _, .inl rfl⟩) (B := W4.heap.size) (fun _ h => by cases h) (fun b h1 h2 => (g8.block b (Nat.lt_of_lt_of_le h2 gs.size) (fun e => by injection e with e; omega)).trans (gs.block b h2 (fun e => by injection e with e; omega)))
      clear g8 z7 y7
      go_wp2
      refine bodyPost_ret (results_bt18 rfl rfl b8 (by rw [slC_len]; exact rowSl)) rfl ?_
      exact ⟨_, rfl, ⟨none, 0, 0, rfl, I8, (fun _ h => by cases h)⟩, B8⟩
end Go.Proofs.YtcohbhimhacedaaGreatDoor

/-
  The document's disk and slots in its Put (layer 21): both boxed at G and G + 1, the answers' cells behind them; what the calls leave. New memory alone is written. Conditions: a disk with at most 3518437208882 steps a file.
-/
namespace Go.Proofs.YtcohbhimhacedaaGreatDoor
open Go.RowKit

theorem results_bbt21 {P : Program} {fn : Func} {p p2 u : Tmp} {ty ty2 : TypeId} (h : fn.results = #[.cell p ty, .cell p2 ty2, .tmp u]) {tmps : Array Value} {w : World} {g g2 : Nat} {t t2 : TypeId} {cs cs2 : List Value}
    (hp : tmps.getD p undef = .pointer (some ⟨g, 0, none⟩)) (hg : Blk w g t cs) (hr : IsRow P ty cs.length) (hp2 : tmps.getD p2 undef = .pointer (some ⟨g2, 0, none⟩)) (hg2 : Blk w g2 t2 cs2) (hr2 : IsRow P ty2 cs2.length) : (results fn tmps).run P w = .ok (.tuple #[.agg cs.toArray, .agg cs2.toArray, tmps.getD u undef]) w := by
  obtain ⟨⟨d, hu, hd⟩, hi⟩ := hr
  obtain ⟨⟨d2, hu2, hd2⟩, hi2⟩ := hr2
  have h1 := run_loadVar_mid (P := P) w g 0 ty cs d (hg.range 0 cs (fun j v hj => by simpa using hj)) hu hd hi
  have h2 := run_loadVar_mid (P := P) w g2 0 ty2 cs2 d2 (hg2.range 0 cs2 (fun j v hj => by simpa using hj)) hu2 hd2 hi2
  have hp' : tmps[p]?.getD undef = .pointer (some ⟨g, 0, none⟩) := by simpa using hp
  have hp2' : tmps[p2]?.getD undef = .pointer (some ⟨g2, 0, none⟩) := by simpa using hp2
  simp [results, h, hp', hp2', asAddr, h1, h2]

/-- G: the boxed disk holds xs, G + 1: the boxed slots ss, G + 2 and G + 3: the answers' cells; the value cs is the disk D. -/
structure Pd (R0 : Nat → Prop) (w : World) (G : Nat) (W : World) (xs ss ys zs cs : List Value) (D : DkV) : Prop where
  x : Blk W G 37 xs
  s : Blk W (G + 1) 46 ss
  y : Blk W (G + 2) 37 ys
  z : Blk W (G + 3) 46 zs
  b : Below w.heap.size w W
  d : ∃ R, RDisk R W cs D ∧ ∀ b, R b → b < W.heap.size ∧ ¬ (G ≤ b ∧ b ≤ G + 3) ∧ (R0 b ∨ w.heap.size ≤ b)
  g : w.heap.size = G
theorem Pd.start {R0 : Nat → Prop} {w : World} {cs ss : List Value} {D : DkV} (ys zs : List Value) (h : RDisk R0 w cs D) (hR : ∀ b, R0 b → b < w.heap.size) :
    Pd R0 w w.heap.size ((((w.alloc (.cells cs.toArray 37)).alloc (.cells ss.toArray 46)).alloc (.cells ys.toArray 37)).alloc (.cells zs.toArray 46)) cs ss ys zs cs D := by
  have b1 := below2 w (.cells cs.toArray 37) (.cells ss.toArray 46)
  have x1 : Blk ((w.alloc (.cells cs.toArray 37)).alloc (.cells ss.toArray 46)) w.heap.size 37 cs := (Blk.new w _ cs).alloc _
  have s1 : Blk ((w.alloc (.cells cs.toArray 37)).alloc (.cells ss.toArray 46)) (w.heap.size + 1) 46 ss := Blk.new1 w _ _ ss
  have z1 : ((w.alloc (.cells cs.toArray 37)).alloc (.cells ss.toArray 46)).heap.size = w.heap.size + 2 := by rw [size1, size1]
  obtain ⟨V, hV⟩ : ∃ V, (w.alloc (.cells cs.toArray 37)).alloc (.cells ss.toArray 46) = V := ⟨_, rfl⟩
  rw [hV] at b1 x1 s1 z1 ⊢
  have b2 := below2 V (.cells ys.toArray 37) (.cells zs.toArray 46)
  have y2 : Blk ((V.alloc (.cells ys.toArray 37)).alloc (.cells zs.toArray 46)) V.heap.size 37 ys := (Blk.new V _ ys).alloc _
  have z2 : Blk ((V.alloc (.cells ys.toArray 37)).alloc (.cells zs.toArray 46)) (V.heap.size + 1) 46 zs := Blk.new1 V _ _ zs
  rw [z1] at y2 z2
  have B := b1.trans (b2.mono b1.size)
  refine ⟨x1.keep b2 x1.lt, s1.keep b2 s1.lt, y2, z2, B, ⟨R0, h.keep B, fun b k => ?_⟩, rfl⟩
  have := hR b k
  exact ⟨Nat.lt_of_lt_of_le this B.size, by omega, .inl k⟩
section
variable {R0 : Nat → Prop} {w W W' : World} {G : Nat} {xs ss ys zs cs cs' vs : List Value} {D D' : DkV} {T : Nat}
theorem Pd.keep (h : Pd R0 w G W xs ss ys zs cs D) (hb : Below W.heap.size W W') : Pd R0 w G W' xs ss ys zs cs D := by
  obtain ⟨R, h1, h2⟩ := h.d
  exact ⟨h.x.keep hb h.x.lt, h.s.keep hb h.s.lt, h.y.keep hb h.y.lt, h.z.keep hb h.z.lt, h.b.trans (hb.mono h.b.size), ⟨R, h1.keep hb, fun b k => ⟨Nat.lt_of_lt_of_le (h2 b k).1 hb.size, (h2 b k).2⟩⟩, h.g⟩
theorem Pd.next (h : Pd R0 w G W xs ss ys zs cs D) {R : Nat → Prop} (hR : ∀ b, R b → b < W.heap.size ∧ ¬ (G ≤ b ∧ b ≤ G + 3) ∧ (R0 b ∨ w.heap.size ≤ b)) (k : RDisk (fun b => R b ∨ W.heap.size ≤ b) W' cs' D') (hb : Below W.heap.size W W') : Pd R0 w G W' xs ss ys zs cs' D' := by
  have h1 := h.z.lt
  have h2 := h.b.size
  refine ⟨h.x.keep hb h.x.lt, h.s.keep hb h.s.lt, h.y.keep hb h.y.lt, h.z.keep hb h.z.lt, h.b.trans (hb.mono h.b.size), ⟨_, k.lt, fun b hn => ⟨hn.2, ?_⟩⟩, h.g⟩
  rcases hn.1 with hn | hn
  · exact (hR b hn).2
  · exact ⟨by omega, .inr (by omega)⟩
/-- One of the four blocks was written. -/
theorem Pd.wrote (h : Pd R0 w G W xs ss ys zs cs D) {g : Nat} (hg : W.grownBy W' (some g)) (hG : G ≤ g ∧ g ≤ G + 3) : Below w.heap.size w W' ∧ ∃ R, RDisk R W' cs D ∧ ∀ b, R b → b < W'.heap.size ∧ ¬ (G ≤ b ∧ b ≤ G + 3) ∧ (R0 b ∨ w.heap.size ≤ b) := by
  obtain ⟨R, h1, h2⟩ := h.d
  exact ⟨h.b.grown hg h.b.size (fun q hq => by injection hq with hq; rw [← hq, h.g]; exact hG.1), R, h1.same (fun b hb hl => hg.block b hl (fun e => by injection e with e; exact (h2 b hb).2.1 (e ▸ hG))) (fun _ h => h), fun b k => ⟨Nat.lt_of_lt_of_le (h2 b k).1 hg.size, (h2 b k).2⟩⟩
theorem Pd.setx (h : Pd R0 w G W xs ss ys zs cs D) (hb : Blk W' G 37 vs) (hg : W.grownBy W' (some G)) : Pd R0 w G W' vs ss ys zs cs D := by
  obtain ⟨b, d⟩ := h.wrote hg ⟨Nat.le_refl _, by omega⟩
  exact ⟨hb, h.s.grown hg (fun e => by injection e; omega), h.y.grown hg (fun e => by injection e; omega), h.z.grown hg (fun e => by injection e; omega), b, d, h.g⟩
theorem Pd.sets (h : Pd R0 w G W xs ss ys zs cs D) (hb : Blk W' (G + 1) 46 vs) (hg : W.grownBy W' (some (G + 1))) : Pd R0 w G W' xs vs ys zs cs D := by
  obtain ⟨b, d⟩ := h.wrote hg ⟨by omega, by omega⟩
  exact ⟨h.x.grown hg (fun e => by injection e; omega), hb, h.y.grown hg (fun e => by injection e; omega), h.z.grown hg (fun e => by injection e; omega), b, d, h.g⟩
theorem Pd.sety (h : Pd R0 w G W xs ss ys zs cs D) (hb : Blk W' (G + 2) 37 vs) (hg : W.grownBy W' (some (G + 2))) : Pd R0 w G W' xs ss vs zs cs D := by
  obtain ⟨b, d⟩ := h.wrote hg ⟨by omega, by omega⟩
  exact ⟨h.x.grown hg (fun e => by injection e; omega), h.s.grown hg (fun e => by injection e; omega), hb, h.z.grown hg (fun e => by injection e; omega), b, d, h.g⟩
theorem Pd.setz (h : Pd R0 w G W xs ss ys zs cs D) (hb : Blk W' (G + 3) 46 vs) (hg : W.grownBy W' (some (G + 3))) : Pd R0 w G W' xs ss ys vs cs D := by
  obtain ⟨b, d⟩ := h.wrote hg ⟨by omega, by omega⟩
  exact ⟨h.x.grown hg (fun e => by injection e; omega), h.s.grown hg (fun e => by injection e; omega), h.y.grown hg (fun e => by injection e; omega), hb, b, d, h.g⟩
theorem Pd.done (h : Pd R0 w G W xs ss ys zs cs D) : RDisk (fun b => R0 b ∨ w.heap.size ≤ b) W cs D ∧ Below w.heap.size w W := by
  obtain ⟨R, h1, h2⟩ := h.d
  exact ⟨h1.wide (fun b k => (h2 b k).2.2), h.b⟩
theorem Pd.ddc (h : Pd R0 w G W xs ss ys zs cs D) : DdC cs D.room D.fuse D.down := by
  obtain ⟨R, h1, _⟩ := h.d
  exact h1.ddc
theorem Pd.row (h : Pd R0 w G W xs ss ys zs cs D) : IsRow Tryz.prog 37 cs.length := by rw [h.ddc.l]; exact rowDd

theorem Pd.append (h : Pd R0 w G W xs ss ys zs cs D) (hO : D.Ok T) (hT : T ≤ 3518437208882) (file : Int) {a : Option Addr} {n c : Nat} {bs : List Int} (hI : Ints .u8 W a n c bs) (hn : n ≤ 140737488355328) {e : Int} (he : apD D file bs = (D', e)) :
    Calls Tryz.prog 8 #[.agg cs.toArray, .int .i64 file, .slice a n c] W fun q W' => ∃ cs', q = .returned (.tuple #[.agg cs'.toArray, .int .i64 e]) ∧ Pd R0 w G W' xs ss ys zs cs' D' := by
  obtain ⟨R, hd, hR⟩ := h.d
  have hc := fAppend_any file hd (fun b k => (hR b k).1) hO hT hI hn
  rw [he] at hc
  exact hc.mono fun q W' ⟨cs', eq, k, hb⟩ => ⟨cs', eq, h.next hR k hb⟩

theorem Pd.cut (h : Pd R0 w G W xs ss ys zs cs D) (hO : D.Ok T) (hT : T ≤ 3518437208882) (file n : Int) {e : Int} (he : ctD D file n = (D', e)) :
    Calls Tryz.prog 60 #[.agg cs.toArray, .int .i64 file, .int .i64 n] W fun q W' => ∃ cs', q = .returned (.tuple #[.agg cs'.toArray, .int .i64 e]) ∧ Pd R0 w G W' xs ss ys zs cs' D' := by
  obtain ⟨R, hd, hR⟩ := h.d
  have hc := fCut_any file n hd (fun b k => (hR b k).1) hO hT
  rw [he] at hc
  exact hc.mono fun q W' ⟨cs', eq, k, hb⟩ => ⟨cs', eq, h.next hR k hb⟩

theorem Pd.sync (h : Pd R0 w G W xs ss ys zs cs D) (hO : D.Ok T) (hT : T ≤ 4398046511104) (file : Int) {e : Int} (he : syD D file = (D', e)) :
    Calls Tryz.prog 39 #[.agg cs.toArray, .int .i64 file] W fun q W' => ∃ cs', q = .returned (.tuple #[.agg cs'.toArray, .int .i64 e]) ∧ Pd R0 w G W' xs ss ys zs cs' D' := by
  obtain ⟨R, hd, hR⟩ := h.d
  have hc := fSync_any file hd (fun b k => (hR b k).1) hO hT
  rw [he] at hc
  exact hc.mono fun q W' ⟨cs', eq, k, hb⟩ => ⟨cs', eq, h.next hR k hb⟩

theorem Pd.file (h : Pd R0 w G W cs ss ys zs cs D) (i : Nat) (hi : i < 3) : ∃ c R, W.rangeAt G (i * 2) c ∧ c.length = 2 ∧ RFile R W c (D.f i) := by
  obtain ⟨R, hd, _⟩ := h.d
  obtain ⟨h1, h2⟩ := hd.co i hi
  exact ⟨fileC cs i, R, h.x.range _ _ h1, h2.len, h2⟩

end
end Go.Proofs.YtcohbhimhacedaaGreatDoor
