/-
  Texts of stages that were proved on their own, joined: MsEncode, MrBytes. Each begins with its own words.
-/
import Derived.Test.YtgaelgpmmgjldaaJMsAll6
import Derived.Test.YtgaelgpmmgjldaaJMsAll8
import Derived.Test.YtgaelgpmmgjldaaAppends
import Derived.Test.YtgaelgpmmgjldaaJMsAll0

/-
  What message's Encode comes to. New memory alone is written. Conditions: the fields' ranges.
-/
namespace Go.Proofs.Ytgaelgpmmgjldaa
open Go.RowKit

/-- A writer of room R that has laid L, and no memory of before was written but its own. -/
def We (R : Int) (V : World) (F0 : Nat → Prop) (g : Nat) (w : World) (L : List Int) : Prop := ∃ F, WrAt F w g R L 0 ∧ Grows F0 F V ∧ Moved F0 V w
section
variable {R : Int} {V w : World} {F0 : Nat → Prop} {g : Nat} {L : List Int}
theorem We.start (h : WrAt F0 V g R L 0) : We R V F0 g V L := ⟨F0, h, grows_self, Moved.rfl'⟩
theorem We.blk {k : Nat} {t : TypeId} {cs : List Value} (h : We R V F0 g w L) (hk : Blk V k t cs) (hn : ¬ F0 k) : Blk w k t cs := by
  obtain ⟨_, _, _, hm⟩ := h
  exact (hm.2 k hk.lt hn).trans hk
theorem We.below {B : Nat} (h : We R V F0 g w L) (hF : ∀ b, F0 b → B ≤ b) (hB : B ≤ V.heap.size) : Below B V w := by
  obtain ⟨_, _, _, hm⟩ := h
  exact hm.below hF hB
theorem We.step {w' : World} {F F' : Nat → Prop} (hg : Grows F0 F V) (hm : Moved F0 V w) (hw : WrAt F' w' g R L 0) (hg' : Grows F F' w) (hm' : Moved F w w') : We R V F0 g w' L := by
  refine ⟨F', hw, fun b hb => ?_, ⟨hm.1.trans hm'.1, fun b hb hf => (hm'.2 b (Nat.lt_of_lt_of_le hb hm.size) (fun hF => ?_)).trans (hm.2 b hb hf)⟩⟩
  · rcases hg' b hb with h | h
    · exact hg b h
    · exact .inr (Nat.le_trans hm.size h)
  · rcases hg b hF with h | h
    · exact hf h
    · omega
theorem We.done (h : We R V F0 g w L) (hl : L.length ≤ 100000000) : Calls Try.prog 20 #[.pointer (some ⟨g, 0, none⟩)] w fun q w' => ∃ b c, q = .returned (.tuple #[.slice b (if (0 : Int) = 0 then L else []).length c, .int .i64 0]) ∧ w'.ownsRow w.heap.size 5 1 (.slice b (if (0 : Int) = 0 then L else []).length c) (if (0 : Int) = 0 then L else []).length ((if (0 : Int) = 0 then L else []).map (Value.int .u8)) ∧ Below w.heap.size w w' := by
  obtain ⟨_, hw, _, _⟩ := h
  exact wDone_any hw hl
theorem we_num (h : We R V F0 g w L) (N A : Int) (hf : fits N A) (hN : 0 ≤ N) (hl : (L.length : Int) + A ≤ R) (hm0 : L.length ≤ 80000000) :
    Calls Try.prog 17 #[.pointer (some ⟨g, 0, none⟩), .int .u64 N, .int .i64 A] w fun q w' => q = .returned (.tuple #[]) ∧ We R V F0 g w' (L ++ beL N A.toNat) := by
  obtain ⟨F, hw, hg, hm⟩ := h
  have h1 := hf.1
  refine (wNum_any hw N A hm0 hN).mono ?_
  rintro q w' ⟨F', rfl, hw', hg', hm'⟩
  have e : wrNum R L 0 N A = (L ++ beL N A.toNat, 0) := by
    unfold wrNum wrStep
    rw [if_pos hf, if_neg (by simp), if_neg (by rw [beL_len]; omega)]
  rw [e] at hw'
  exact ⟨rfl, We.step hg hm hw' hg' hm'⟩
theorem we_hint (h : We R V F0 g w L) (ys : List Int) (hy : ys.length = 16) (hl : (L.length : Int) + 16 ≤ R) (hm0 : L.length ≤ 80000000) :
    Calls Try.prog 18 #[.pointer (some ⟨g, 0, none⟩), .agg (ys.map (Value.int .u8)).toArray] w fun q w' => q = .returned (.tuple #[]) ∧ We R V F0 g w' (L ++ ys) := by
  obtain ⟨F, hw, hg, hm⟩ := h
  refine (wHint_any hw ys hy hm0).mono ?_
  rintro q w' ⟨F', rfl, hw', hg', hm'⟩
  have e : wrStep R L 0 ys = (L ++ ys, 0) := by
    unfold wrStep
    rw [if_neg (by simp), if_neg (by rw [hy]; omega)]
  rw [e] at hw'
  exact ⟨rfl, We.step hg hm hw' hg' hm'⟩
theorem we_bytes (h : We R V F0 g w L) (b : Option Addr) (m d : Nat) (ys : List Int) (hI : Ints .u8 V b m d ys) (hb : ∀ x, b = some x → 0 < m → ¬ F0 x.block) (hl : (L.length : Int) + m ≤ R) (hm0 : L.length + m ≤ 80000000) :
    Calls Try.prog 19 #[.pointer (some ⟨g, 0, none⟩), .slice b m d] w fun q w' => q = .returned (.tuple #[]) ∧ We R V F0 g w' (L ++ ys) := by
  obtain ⟨F, hw, hg, hm⟩ := h
  have hlt := hI.isIn.2
  refine (wBytes_any hw b m d ys (ints_still' hI hm hb) (fun x hx h0 hF => by
    rcases hg _ hF with h | h
    · exact hb x hx h0 h
    · have := hlt x hx h0; omega) hm0).mono ?_
  rintro q w' ⟨F', rfl, hw', hg', hm'⟩
  have e : wrStep R L 0 ys = (L ++ ys, 0) := by
    unfold wrStep
    have := hI.len
    rw [if_neg (by simp), if_neg (by omega)]
  rw [e] at hw'
  exact ⟨rfl, We.step hg hm hw' hg' hm'⟩
end
def encM (m : MsgV) : List Int × Int := if rightM m = true then (msgB m, 0) else ([], 1)
theorem beL_k {K : Int} (h : 0 ≤ K ∧ K < 256) : beL K 1 = [K] := by
  show [] ++ [K % 256] = _
  rw [List.nil_append, show K % 256 = K by omega]

set_option maxRecDepth 100000 in
set_option maxHeartbeats 2000000 in
theorem msEncode_any (K S Q O : Int) (H : List Int) (a : Option Addr) (n c : Nat) (xs : List Int) (w : World) (hM : MsgOk ⟨K, S, Q, O, H, xs⟩) (hI : Ints .u8 w a n c xs) :
    Calls Try.prog 7 #[.agg (msC K S Q O H a n c).toArray] w fun q w' => ∃ b d, q = .returned (.tuple #[.slice b (encM ⟨K, S, Q, O, H, xs⟩).1.length d, .int .i64 (encM ⟨K, S, Q, O, H, xs⟩).2]) ∧ Ints .u8 w' b (encM ⟨K, S, Q, O, H, xs⟩).1.length d (encM ⟨K, S, Q, O, H, xs⟩).1 ∧ Below w.heap.size w w' := by
  obtain ⟨hs, hq, ho, hl, hhr, hbr⟩ := hM
  dsimp only at hs hq ho hl hhr hbr
  have hR := Lib.hid (fun w' (h : Below w.heap.size w w') => msRight_any K S Q O H a n c xs w' hl (hI.keep h) hbr)
  have hCl := msC_len (K := K) (S := S) (Q := Q) (O := O) (a := a) (n := n) (c := c) hl
  obtain ⟨C, hC⟩ : ∃ C, msC K S Q O H a n c = C := ⟨_, rfl⟩
  rw [hC] at hR hCl ⊢
  have hCH := Lib.hid hC
  have hb := below1 w (.cells C.toArray 28)
  have hk : Blk (w.alloc (.cells C.toArray 28)) w.heap.size 28 C := Blk.new w _ C
  obtain ⟨W, hW⟩ : ∃ V, w.alloc (.cells C.toArray 28) = V := ⟨_, rfl⟩
  rw [hW] at hb hk
  obtain ⟨G, g9⟩ : ∃ G, w.heap.size = G := ⟨_, rfl⟩
  rw [g9] at hk
  have gH := Lib.hid g9
  have hln := hI.len
  unfold encM
  cases hr : rightM ⟨K, S, Q, O, H, xs⟩ with
  | false =>
    rw [hr] at hR
    rw [if_neg (by decide)]
    clear hr hC
    go_enter Try.func7, Try.ntmps7
    go_wp2_with ((with_reducible refine box_row rfl 28 (.tmp 0) rfl C ?_ ?_); rfl; refine RowKit.Hid.out ?_)
    refine Lib.hid ?_
    clear hW
    go_wp2_with ((with_reducible refine wpList_load_blk rfl 28 (.tmp 1) rfl ?_ hk rowMs hCl ?_); rfl)
    refine (hR.out W hb).mono ?_
    rintro q w1 ⟨rfl, b1⟩
    have hk1 := hk.keep b1 hk.lt
    have hS1 := hb.trans (b1.mono hb.size)
    clear hk hb b1 hR
    go_wp2
    go_ret2
    exact ⟨none, 0, rfl, ⟨rfl, Nat.le_refl _, .inl rfl⟩, hS1⟩
  | true =>
    rw [hr] at hR
    rw [if_pos rfl]
    have hR' := (rightM_iff _).1 hr
    clear hr hC
    have s64 : IntKind.u64.wrap S = S := by rw [IntKind.wrap_u64]; omega
    have q64 : IntKind.u64.wrap Q = Q := by rw [IntKind.wrap_u64]; omega
    have o64 : IntKind.u64.wrap O = O := by rw [IntKind.wrap_u64]; omega
    rcases hR' with ⟨k1, h1, h2, h3, h4, h5⟩ | ⟨k1, h1, h2⟩ | ⟨k1, h1, h2, h3, h4⟩
    · dsimp only at k1 h1 h2 h3 h4 h5
      subst k1
      have hm : msgB ⟨1, S, Q, O, H, xs⟩ = [1] ++ beL O 2 := rfl
      have hlen : (msgB ⟨1, S, Q, O, H, xs⟩).length ≤ 100000000 := by rw [hm, List.length_append, beL_len]; decide
      obtain ⟨M, hMM⟩ : ∃ M, msgB ⟨1, S, Q, O, H, xs⟩ = M := ⟨_, rfl⟩
      rw [hMM] at hm hlen
      rw [hMM]
      have hmH := Lib.hid hm
      clear hMM h1 h2 h4 h5 hhr hbr hm
      go_enter Try.func7, Try.ntmps7
      go_wp2_with ((with_reducible refine box_row rfl 28 (.tmp 0) rfl C ?_ ?_); rfl; refine RowKit.Hid.out ?_)
      refine Lib.hid ?_
      clear hW
      go_wp2_with ((with_reducible refine wpList_load_blk rfl 28 (.tmp 1) rfl ?_ hk rowMs hCl ?_); rfl)
      refine (hR.out W hb).mono ?_
      rintro q w1 ⟨rfl, b1⟩
      have hk1 := hk.keep b1 hk.lt
      have hS1 := hb.trans (b1.mono hb.size)
      clear hk hb b1 hR
      go_wp2_with fail
      refine (wNew_any 1027 w1 (by decide)).mono ?_
      rintro q w2 ⟨g, F, rfl, hw2, hF2, b2⟩
      rw [show max (1027 : Int) 0 = 1027 by decide] at hw2
      have hk2 := hk1.keep b2 hk1.lt
      have hS2 := hS1.trans (b2.mono hS1.size)
      have nG : ¬ F G := fun h => by have := hF2 _ h; have := hk1.lt; omega
      have hFl : ∀ b, F b → w.heap.size ≤ b := fun b hb => Nat.le_trans hS1.size (hF2 b hb)
      have hD := We.start hw2
      have hk2' := hk2
      rw [← hCH.out] at hk2'
      have c0 := ms0 hk2'
      clear b2 hF2 hw2 hk1 hS1 hk2'
      go_wp2_with fail
      refine (we_num hD 1 1 ⟨by decide, by decide, by decide⟩ (by decide) (by decide) (by decide)).mono ?_
      rintro q w3 ⟨rfl, hD3⟩
      rw [List.nil_append, show (1 : Int).toNat = 1 from rfl, beL_k (by decide)] at hD3
      have hk3 := hD3.blk hk2 nG
      rw [← hCH.out] at hk3
      have c0 := ms0 hk3
      have c3 := ms3 hk3
      clear hD
      go_wp2_with fail
      refine (we_num hD3 O 2 ⟨by decide, by decide, by show O < 65536; omega⟩ ho.1 (by decide) (by decide)).mono ?_
      rintro q w5 ⟨rfl, hW5⟩
      rw [show (2 : Int).toNat = 2 from rfl, ← hmH.out] at hW5
      have hS5 := hS2.trans (hW5.below hFl hS2.size)
      clear hD3 hk3 c0 c3
      have hd := hW5.done hlen
      rw [if_pos rfl] at hd
      clear hW5
      go_wp2_with fail
      refine hd.mono ?_
      rintro q w8 ⟨b, d, rfl, ho, b8⟩
      obtain ⟨b', d', hv, hJ⟩ := Ints.of_owns ho
      injection hv with e1 _ e2
      subst e1; subst e2
      go_wp2
      go_ret2
      exact ⟨b, d, rfl, hJ, hS5.trans (b8.mono hS5.size)⟩
    · dsimp only at k1 h1 h2
      subst k1
      have hm : msgB ⟨2, S, Q, O, H, xs⟩ = [2] ++ (beL S 4 ++ (beL Q 4 ++ (H ++ (beL (n : Int) 2 ++ xs)))) := by rw [← hln]; rfl
      have hlen : (msgB ⟨2, S, Q, O, H, xs⟩).length ≤ 100000000 := by rw [hm, List.length_append, List.length_append, List.length_append, List.length_append, List.length_append, beL_len, beL_len, beL_len, hl, hln]; simp only [List.length_cons, List.length_nil]; omega
      obtain ⟨M, hMM⟩ : ∃ M, msgB ⟨2, S, Q, O, H, xs⟩ = M := ⟨_, rfl⟩
      rw [hMM] at hm hlen
      rw [hMM]
      have hmH := Lib.hid hm
      have hn0 : n ≤ 1000 := by omega
      have n64 : IntKind.u64.wrap (n : Int) = (n : Int) := by rw [IntKind.wrap_u64]; omega
      have hnH := Lib.hid hn0
      have l4 : ∀ N : Int, (beL N 4).length = 4 := fun N => beL_len N 4
      have l2 : ∀ N : Int, (beL N 2).length = 2 := fun N => beL_len N 2
      have hX : IsRow Try.prog 25 (H.map (Value.int .u8)).length := by rw [List.length_map, hl]; exact rowHint9
      have hIn := hI.isIn.2
      have hIH := Lib.hid (fun w' (h : Below w.heap.size w w') => hI.keep h)
      clear hMM h1 h2 hhr hbr hm hn0 hI
      go_enter Try.func7, Try.ntmps7
      go_wp2_with ((with_reducible refine box_row rfl 28 (.tmp 0) rfl C ?_ ?_); rfl; refine RowKit.Hid.out ?_)
      refine Lib.hid ?_
      clear hW
      go_wp2_with ((with_reducible refine wpList_load_blk rfl 28 (.tmp 1) rfl ?_ hk rowMs hCl ?_); rfl)
      refine (hR.out W hb).mono ?_
      rintro q w1 ⟨rfl, b1⟩
      have hk1 := hk.keep b1 hk.lt
      have hS1 := hb.trans (b1.mono hb.size)
      clear hk hb b1 hR
      go_wp2_with fail
      refine (wNew_any 1027 w1 (by decide)).mono ?_
      rintro q w2 ⟨g, F, rfl, hw2, hF2, b2⟩
      rw [show max (1027 : Int) 0 = 1027 by decide] at hw2
      have hk2 := hk1.keep b2 hk1.lt
      have hS2 := hS1.trans (b2.mono hS1.size)
      have nG : ¬ F G := fun h => by have := hF2 _ h; have := hk1.lt; omega
      have hFl : ∀ b, F b → w.heap.size ≤ b := fun b hb => Nat.le_trans hS1.size (hF2 b hb)
      have hD := We.start hw2
      have hk2' := hk2
      rw [← hCH.out] at hk2'
      have c0 := ms0 hk2'
      clear b2 hF2 hw2 hk1 hS1 hk2'
      go_wp2_with fail
      have hIV := hIH.out w2 hS2
      have nI : ∀ x, a = some x → 0 < n → ¬ F x.block := fun x hx h0 hf => by have := hIn x hx h0; have := hFl _ hf; omega
      have hIVH := Lib.hid hIV
      clear hIV hIH hIn
      refine (we_num hD 2 1 ⟨by decide, by decide, by decide⟩ (by decide) (by decide) (by decide)).mono ?_
      rintro q w3 ⟨rfl, hD3⟩
      rw [List.nil_append, show (1 : Int).toNat = 1 from rfl, beL_k (by decide)] at hD3
      have hk3 := hD3.blk hk2 nG
      rw [← hCH.out] at hk3
      have c0 := ms0 hk3
      have c1 := ms1 hk3
      clear hD hk3
      go_wp2_with fail
      refine (we_num hD3 S 4 ⟨by decide, by decide, by show S < 4294967296; exact hs.2⟩ hs.1 (by decide) (by decide)).mono ?_
      rintro q w4 ⟨rfl, hD4⟩
      rw [show (4 : Int).toNat = 4 from rfl] at hD4
      have hk4 := hD4.blk hk2 nG
      rw [← hCH.out] at hk4
      have c2 := ms2 hk4
      clear hD3 hk4 c0 c1
      go_wp2_with fail
      refine (we_num hD4 Q 4 ⟨by decide, by decide, by show Q < 4294967296; exact hq.2⟩ hq.1 (by rw [List.length_append, l4]; decide) (by rw [List.length_append, l4]; decide)).mono ?_
      rintro q w5 ⟨rfl, hD5⟩
      rw [show (4 : Int).toNat = 4 from rfl] at hD5
      have hk5 := hD5.blk hk2 nG
      rw [← hCH.out] at hk5
      have c4 := ms4 hk5 hl
      clear hD4 hk5 c2
      go_wp2_with ((with_reducible refine wpList_load_part rfl 25 (.tmp 40) rfl ?_ (H.map (Value.int .u8)) c4 hX ?_); rfl)
      refine (we_hint hD5 H hl (by rw [List.length_append, List.length_append, l4, l4]; decide) (by rw [List.length_append, List.length_append, l4, l4]; decide)).mono ?_
      rintro q w6 ⟨rfl, hD6⟩
      have hk6 := hD6.blk hk2 nG
      rw [← hCH.out] at hk6
      have c5 := ms5 hk6 hl
      clear hD5 hk6 c4
      go_wp2_with fail
      refine (we_num hD6 (n : Int) 2 ⟨by decide, by decide, by show (n : Int) < 65536; have := hnH.out; omega⟩ (by omega) (by rw [List.length_append, List.length_append, List.length_append, l4, l4, hl]; decide) (by rw [List.length_append, List.length_append, List.length_append, l4, l4, hl]; decide)).mono ?_
      rintro q w7 ⟨rfl, hD7⟩
      rw [show (2 : Int).toNat = 2 from rfl] at hD7
      have hk7 := hD7.blk hk2 nG
      rw [← hCH.out] at hk7
      have c5 := ms5 hk7 hl
      clear hD6 hk7
      go_wp2_with fail
      refine (we_bytes hD7 a n c xs hIVH.out nI (by have := hnH.out; rw [List.length_append, List.length_append, List.length_append, List.length_append, l4, l4, l2, hl]; simp only [List.length_cons, List.length_nil]; omega) (by have := hnH.out; rw [List.length_append, List.length_append, List.length_append, List.length_append, l4, l4, l2, hl]; simp only [List.length_cons, List.length_nil]; omega)).mono ?_
      rintro q w5 ⟨rfl, hW5⟩
      rw [List.append_assoc, List.append_assoc, List.append_assoc, List.append_assoc, ← hmH.out] at hW5
      have hS5 := hS2.trans (hW5.below hFl hS2.size)
      clear hD7 c5
      have hd := hW5.done hlen
      rw [if_pos rfl] at hd
      clear hW5
      go_wp2_with fail
      refine hd.mono ?_
      rintro q w8 ⟨b, d, rfl, ho, b8⟩
      obtain ⟨b', d', hv, hJ⟩ := Ints.of_owns ho
      injection hv with e1 _ e2
      subst e1; subst e2
      go_wp2
      go_ret2
      exact ⟨b, d, rfl, hJ, hS5.trans (b8.mono hS5.size)⟩
    · dsimp only at k1 h1 h2 h3 h4
      have hm : msgB ⟨K, S, Q, O, H, xs⟩ = [K] ++ beL S 4 := msgB_one k1 S Q O H xs
      have hlen : (msgB ⟨K, S, Q, O, H, xs⟩).length ≤ 100000000 := by rw [hm, List.length_append, beL_len]; show 1 + 4 ≤ 100000000; decide
      obtain ⟨M, hMM⟩ : ∃ M, msgB ⟨K, S, Q, O, H, xs⟩ = M := ⟨_, rfl⟩
      rw [hMM] at hm hlen
      rw [hMM]
      have hmH := Lib.hid hm
      clear hMM h1 h2 h3 h4 hhr hbr hm
      rcases k1 with rfl | rfl
      · skip
        go_enter Try.func7, Try.ntmps7
        go_wp2_with ((with_reducible refine box_row rfl 28 (.tmp 0) rfl C ?_ ?_); rfl; refine RowKit.Hid.out ?_)
        refine Lib.hid ?_
        clear hW
        go_wp2_with ((with_reducible refine wpList_load_blk rfl 28 (.tmp 1) rfl ?_ hk rowMs hCl ?_); rfl)
        refine (hR.out W hb).mono ?_
        rintro q w1 ⟨rfl, b1⟩
        have hk1 := hk.keep b1 hk.lt
        have hS1 := hb.trans (b1.mono hb.size)
        clear hk hb b1 hR
        go_wp2_with fail
        refine (wNew_any 1027 w1 (by decide)).mono ?_
        rintro q w2 ⟨g, F, rfl, hw2, hF2, b2⟩
        rw [show max (1027 : Int) 0 = 1027 by decide] at hw2
        have hk2 := hk1.keep b2 hk1.lt
        have hS2 := hS1.trans (b2.mono hS1.size)
        have nG : ¬ F G := fun h => by have := hF2 _ h; have := hk1.lt; omega
        have hFl : ∀ b, F b → w.heap.size ≤ b := fun b hb => Nat.le_trans hS1.size (hF2 b hb)
        have hD := We.start hw2
        have hk2' := hk2
        rw [← hCH.out] at hk2'
        have c0 := ms0 hk2'
        clear b2 hF2 hw2 hk1 hS1 hk2'
        go_wp2_with fail
        refine (we_num hD _ 1 ⟨by decide, by decide, by decide⟩ (by decide) (by decide) (by decide)).mono ?_
        rintro q w3 ⟨rfl, hD3⟩
        rw [List.nil_append, show (1 : Int).toNat = 1 from rfl, beL_k (by decide)] at hD3
        have hk3 := hD3.blk hk2 nG
        rw [← hCH.out] at hk3
        have c0 := ms0 hk3
        have c1 := ms1 hk3
        clear hD
        go_wp2_with fail
        refine (we_num hD3 S 4 ⟨by decide, by decide, by show S < 4294967296; omega⟩ hs.1 (by decide) (by decide)).mono ?_
        rintro q w5 ⟨rfl, hW5⟩
        rw [show (4 : Int).toNat = 4 from rfl, ← hmH.out] at hW5
        have hS5 := hS2.trans (hW5.below hFl hS2.size)
        clear hD3 hk3 c0 c1
        have hd := hW5.done hlen
        rw [if_pos rfl] at hd
        clear hW5
        go_wp2_with fail
        refine hd.mono ?_
        rintro q w8 ⟨b, d, rfl, ho, b8⟩
        obtain ⟨b', d', hv, hJ⟩ := Ints.of_owns ho
        injection hv with e1 _ e2
        subst e1; subst e2
        go_wp2
        go_ret2
        exact ⟨b, d, rfl, hJ, hS5.trans (b8.mono hS5.size)⟩
      · skip
        go_enter Try.func7, Try.ntmps7
        go_wp2_with ((with_reducible refine box_row rfl 28 (.tmp 0) rfl C ?_ ?_); rfl; refine RowKit.Hid.out ?_)
        refine Lib.hid ?_
        clear hW
        go_wp2_with ((with_reducible refine wpList_load_blk rfl 28 (.tmp 1) rfl ?_ hk rowMs hCl ?_); rfl)
        refine (hR.out W hb).mono ?_
        rintro q w1 ⟨rfl, b1⟩
        have hk1 := hk.keep b1 hk.lt
        have hS1 := hb.trans (b1.mono hb.size)
        clear hk hb b1 hR
        go_wp2_with fail
        refine (wNew_any 1027 w1 (by decide)).mono ?_
        rintro q w2 ⟨g, F, rfl, hw2, hF2, b2⟩
        rw [show max (1027 : Int) 0 = 1027 by decide] at hw2
        have hk2 := hk1.keep b2 hk1.lt
        have hS2 := hS1.trans (b2.mono hS1.size)
        have nG : ¬ F G := fun h => by have := hF2 _ h; have := hk1.lt; omega
        have hFl : ∀ b, F b → w.heap.size ≤ b := fun b hb => Nat.le_trans hS1.size (hF2 b hb)
        have hD := We.start hw2
        have hk2' := hk2
        rw [← hCH.out] at hk2'
        have c0 := ms0 hk2'
        clear b2 hF2 hw2 hk1 hS1 hk2'
        go_wp2_with fail
        refine (we_num hD _ 1 ⟨by decide, by decide, by decide⟩ (by decide) (by decide) (by decide)).mono ?_
        rintro q w3 ⟨rfl, hD3⟩
        rw [List.nil_append, show (1 : Int).toNat = 1 from rfl, beL_k (by decide)] at hD3
        have hk3 := hD3.blk hk2 nG
        rw [← hCH.out] at hk3
        have c0 := ms0 hk3
        have c1 := ms1 hk3
        clear hD
        go_wp2_with fail
        refine (we_num hD3 S 4 ⟨by decide, by decide, by show S < 4294967296; omega⟩ hs.1 (by decide) (by decide)).mono ?_
        rintro q w5 ⟨rfl, hW5⟩
        rw [show (4 : Int).toNat = 4 from rfl, ← hmH.out] at hW5
        have hS5 := hS2.trans (hW5.below hFl hS2.size)
        clear hD3 hk3 c0 c1
        have hd := hW5.done hlen
        rw [if_pos rfl] at hd
        clear hW5
        go_wp2_with fail
        refine hd.mono ?_
        rintro q w8 ⟨b, d, rfl, ho, b8⟩
        obtain ⟨b', d', hv, hJ⟩ := Ints.of_owns ho
        injection hv with e1 _ e2
        subst e1; subst e2
        go_wp2
        go_ret2
        exact ⟨b, d, rfl, hJ, hS5.trans (b8.mono hS5.size)⟩
end Go.Proofs.Ytgaelgpmmgjldaa

/-
  The document's own Bytes and Encode of a message. New memory alone is written. Conditions: the fields' ranges. (Made by wip/tools/mk_mrbytes.py.)
-/
namespace Go.Proofs.Ytgaelgpmmgjldaa
open Go.RowKit

theorem own_made14 {w : World} {B : Nat} (x : Int) (hB : B ≤ w.heap.size) : (w.alloc (.cells #[.int .u8 x] 5)).ownsRow B 5 1 (.slice (some ⟨w.heap.size, 0, none⟩) 1 1) 1 (([x] : List Int).map (Value.int .u8)) :=
  ⟨rfl, .inr ⟨w.heap.size, 1, #[.int .u8 x], rfl, hB, heap_alloc_new w _, Nat.le_refl _, by unfold maxLen; decide, rfl, rfl⟩⟩
theorem owns_blk14 {w : World} {B s n g : Nat} {e t : TypeId} {v : Value} {xs cs : List Value} (h : w.ownsRow B e s v n xs) (k : Blk w g t cs) (he : t ≠ e) : some g ≠ v.ownBlock := by
  rcases h.2 with ⟨rfl, _⟩ | ⟨q, cap, cur, rfl, _, hq, _⟩
  · intro hb; cases hb
  · intro hb
    have hb : some g = some q := hb
    injection hb with hb
    subst hb
    unfold Blk at k
    rw [k] at hq
    injection hq with hq
    injection hq with _ h2 _
    exact he h2
theorem slice_all14 {P : Program} {t e : TypeId} {n g off : Nat} (hu : P.underlying t = some (.array n e)) (hs : (P.info? e).map (·.size) = some 1) (w : World) :
    (Instr.sliceAt t (.pointer (some ⟨g, off, none⟩)) none none none).run P w = .ok (.slice (some ⟨g, off, none⟩) n n) w := by
  have hn : P.arrayLen t = n := by simp [Program.arrayLen, hu]
  have he : P.elem t = e := by simp [Program.elem, hu]
  have hrun := run_sliceAt_array_all w t ⟨g, off, none⟩ (by rw [hn, he]; exact hu)
  have hsz : (sizeOf e).run P w = .ok 1 w := by
    cases hq : P.info? e with
    | none => simp [hq] at hs
    | some i => simp [sizeOf, typeInfo, hq, (by simpa [hq] using hs : i.size = 1)]
  rw [hn, he, hsz] at hrun
  rw [hrun]
  unfold slicedAt
  have : (⟨g, off, none⟩ : Addr).add (0 * 1) = ⟨g, off, none⟩ := by simp [Addr.add_mid]
  simp [this]
theorem hint_ints {w : World} {g : Nat} {K S Q O : Int} {H : List Int} {a : Option Addr} {n c : Nat} (h : Blk w g 28 (msC K S Q O H a n c)) (hl : H.length = 16) : Ints .u8 w (some ⟨g, 4, none⟩) 16 16 H :=
  ⟨hl, Nat.le_refl _, .inr ⟨g, 4, rfl, fun i hi => by
    have := ms4 h hl i (.int .u8 (H.getD i 0)) (by rw [List.getElem?_map, List.getD_eq_getElem?_getD, List.getElem?_eq_getElem (by omega)]; rfl)
    exact this⟩⟩

set_option maxRecDepth 100000 in
set_option maxHeartbeats 4000000 in
theorem r14Bytes_any (K S Q O : Int) (H : List Int) (a : Option Addr) (n c : Nat) (xs : List Int) (w : World) (hM : MsgOk ⟨K, S, Q, O, H, xs⟩) (hR : MsgRight ⟨K, S, Q, O, H, xs⟩) (hI : Ints .u8 w a n c xs) :
    Calls Try.prog 21 #[.agg (msC K S Q O H a n c).toArray] w fun q w' => ∃ b d, q = .returned (.slice b (msgB ⟨K, S, Q, O, H, xs⟩).length d) ∧ w'.ownsRow w.heap.size 5 1 (.slice b (msgB ⟨K, S, Q, O, H, xs⟩).length d) (msgB ⟨K, S, Q, O, H, xs⟩).length ((msgB ⟨K, S, Q, O, H, xs⟩).map (Value.int .u8)) ∧ Below w.heap.size w w' := by
  obtain ⟨hs, hq, ho, hl, hhr, hbr⟩ := hM
  dsimp only at hs hq ho hl hhr hbr
  obtain ⟨i0, hi, hz0, hz1, hz2⟩ := info_u8b
  have tp : 28 ≠ 5 := by decide
  obtain ⟨C, hC⟩ : ∃ C, msC K S Q O H a n c = C := ⟨_, rfl⟩
  have hCH := Lib.hid hC
  rw [hC]
  clear hC
  have hb := below1 w (.cells C.toArray 28)
  have hk : Blk (w.alloc (.cells C.toArray 28)) w.heap.size 28 C := Blk.new w _ C
  obtain ⟨W, hW⟩ : ∃ V, w.alloc (.cells C.toArray 28) = V := ⟨_, rfl⟩
  rw [hW] at hb hk
  obtain ⟨G, g9⟩ : ∃ G, w.heap.size = G := ⟨_, rfl⟩
  rw [g9] at hk
  have gH := Lib.hid g9
  have hk' := hk
  rw [← hCH.out] at hk'
  have c0 := ms0 hk'
  clear hk'
  have hln := hI.len
  have s64 : IntKind.u64.wrap S = S := by rw [IntKind.wrap_u64]; omega
  have q64 : IntKind.u64.wrap Q = Q := by rw [IntKind.wrap_u64]; omega
  have o64 : IntKind.u64.wrap O = O := by rw [IntKind.wrap_u64]; omega
  have l4 : ∀ N : Int, (beL N 4).length = 4 := fun N => beL_len N 4
  have l2 : ∀ N : Int, (beL N 2).length = 2 := fun N => beL_len N 2
  rcases hR with ⟨k1, h1, h2, h3, h4, h5⟩ | ⟨k1, h1, h2⟩ | ⟨k1, h1, h2, h3, h4⟩
  · skip
    dsimp only at k1
    subst k1
    have hm : msgB ⟨1, S, Q, O, H, xs⟩ = [1] ++ beL O 2 := rfl
    obtain ⟨M, hMM⟩ : ∃ M, msgB ⟨1, S, Q, O, H, xs⟩ = M := ⟨_, rfl⟩
    rw [hMM] at hm
    rw [hMM]
    have hmH := Lib.hid hm
    clear hm hMM
    obtain ⟨bs, hbs⟩ : ∃ bs, beL O 2 = bs := ⟨_, rfl⟩
    have hbl : bs.length = 2 := by rw [← hbs]; exact l2 O
    clear hI hhr hbr h1 h2 h3 h4 h5 hln
    go_enter Try.func21, Try.ntmps21
    go_wp2_with ((with_reducible refine box_row rfl 28 (.tmp 0) rfl C ?_ ?_); rfl; refine RowKit.Hid.out ?_)
    refine Lib.hid ?_
    clear hW
    have hk1 := hk.alloc (.cells #[.int .u8 1] 5)
    have hB1 := hb.alloc hb.size (.cells #[.int .u8 1] 5)
    have hO1 := own_made14 (w := W) (B := w.heap.size) (1) hb.size
    obtain ⟨w1, hw1⟩ : ∃ V, W.alloc (.cells #[.int .u8 1] 5) = V := ⟨_, rfl⟩
    rw [hw1] at hk1 hB1 hO1
    clear hk hb
    have hkc := hk1
    rw [← hCH.out] at hkc
    have c01 := ms0 hkc
    clear hkc
    have hkc := hk1
    rw [← hCH.out] at hkc
    have c3 := ms3 hkc
    clear hkc
    have hnum := rNumber_any (O) 2 w1 (by decide)
    have hnumH := Lib.hid hnum
    clear hnum
    go_wp2_with fail
    refine hnumH.out.mono ?_
    rintro q w1a ⟨nb, nc, rfl, ho3, b3⟩
    have hO1a := own_stay9 hO1 b3
    have hk1a := hk1.keep b3 hk1.lt
    have hB1a := hB1.trans (b3.mono hB1.size)
    obtain ⟨nb', nc', hv', hnI⟩ := Ints.of_owns ho3
    injection hv' with e5 _ e6
    subst e5; subst e6
    clear hnumH b3 ho3 hk1 hO1 hB1
    rw [hbs] at hnI
    rw [hbs] at hmH
    go_wp2_with (at_builtin; refine wpList_append_ints rfl (.tmp 11) (.tmp 15) 26 rfl w.heap.size 5 i0 (.int .u8 0) 1 Try.underlying26 hi hz0 hz1 hz2 rfl rfl hO1a rfl hnI ?_ ?_ hB1a.size ?_; (skip; unfold maxLen; omega); (skip; omega); intro v2 w2 hO2 hg2; refine RowKit.Hid.out ?_)
    refine Lib.hid ?_
    rw [← List.map_append] at hO2
    have hk2 := hk1a.grown hg2 (owns_blk14 hO1a hk1a tp)
    have hB2 := hB1a.grown hg2 hB1a.size (fun q hq => (hO1a.lt q hq).1)
    clear hk1a hB1a hO1a hg2
    clear hk2
    have hO9 : w2.ownsRow w.heap.size 5 1 v2 M.length (M.map (Value.int .u8)) := by
      have hlen := hO2.1
      rw [hmH.out]
      rw [List.length_map, Nat.mul_one] at hlen
      rw [hlen]
      exact hO2
    have hB9 := hB2
    clear hO2 hB2
    go_wp2
    go_ret
    obtain ⟨b, d, hv⟩ := own_slice32 hO9
    subst hv
    exact ⟨b, d, rfl, hO9, hB9⟩
  · skip
    dsimp only at k1 h2
    subst k1
    have hm : msgB ⟨2, S, Q, O, H, xs⟩ = [2] ++ (beL S 4 ++ (beL Q 4 ++ (H ++ (beL (n : Int) 2 ++ xs)))) := by rw [← hln]; rfl
    obtain ⟨M, hMM⟩ : ∃ M, msgB ⟨2, S, Q, O, H, xs⟩ = M := ⟨_, rfl⟩
    rw [hMM] at hm
    rw [hMM]
    have hmH := Lib.hid hm
    clear hm hMM
    obtain ⟨bs, hbs⟩ : ∃ bs, beL S 4 = bs := ⟨_, rfl⟩
    have hbl : bs.length = 4 := by rw [← hbs]; exact l4 S
    obtain ⟨bq, hbq⟩ : ∃ bs, beL Q 4 = bs := ⟨_, rfl⟩
    have hbql : bq.length = 4 := by rw [← hbq]; exact l4 Q
    obtain ⟨bn, hbn⟩ : ∃ bs, beL (n : Int) 2 = bs := ⟨_, rfl⟩
    have hbnl : bn.length = 2 := by rw [← hbn]; exact l2 n
    have hn0 : n ≤ 1000 := by omega
    have n64 : IntKind.u64.wrap (n : Int) = (n : Int) := by rw [IntKind.wrap_u64]; omega
    have hnH := Lib.hid hn0
    have hIH := Lib.hid (fun w' (h : Below w.heap.size w w') => hI.keep h)
    have hsA := fun w' => slice_all14 (P := Try.prog) (g := G) (off := 4) Try.underlying25 sizeU8s w'
    rw [hbs, hbq, hbn] at hmH
    clear hI hhr hbr h1 h2 hln hn0
    go_enter Try.func21, Try.ntmps21
    go_wp2_with ((with_reducible refine box_row rfl 28 (.tmp 0) rfl C ?_ ?_); rfl; refine RowKit.Hid.out ?_)
    refine Lib.hid ?_
    clear hW
    have hk1 := hk.alloc (.cells #[.int .u8 2] 5)
    have hB1 := hb.alloc hb.size (.cells #[.int .u8 2] 5)
    have hO1 := own_made14 (w := W) (B := w.heap.size) (2) hb.size
    obtain ⟨w1, hw1⟩ : ∃ V, W.alloc (.cells #[.int .u8 2] 5) = V := ⟨_, rfl⟩
    rw [hw1] at hk1 hB1 hO1
    clear hk hb
    have hkc := hk1
    rw [← hCH.out] at hkc
    have c01 := ms0 hkc
    clear hkc
    have hkc := hk1
    rw [← hCH.out] at hkc
    have c1 := ms1 hkc
    clear hkc
    have hnum := rNumber_any (S) 4 w1 (by decide)
    have hnumH := Lib.hid hnum
    clear hnum
    go_wp2_with fail
    refine hnumH.out.mono ?_
    rintro q w1a ⟨nb, nc, rfl, ho3, b3⟩
    have hO1a := own_stay9 hO1 b3
    have hk1a := hk1.keep b3 hk1.lt
    have hB1a := hB1.trans (b3.mono hB1.size)
    obtain ⟨nb', nc', hv', hnI⟩ := Ints.of_owns ho3
    injection hv' with e5 _ e6
    subst e5; subst e6
    clear hnumH b3 ho3 hk1 hO1 hB1
    rw [hbs] at hnI
    go_wp2_with (at_builtin; refine wpList_append_ints rfl (.tmp 17) (.tmp 21) 26 rfl w.heap.size 5 i0 (.int .u8 0) 1 Try.underlying26 hi hz0 hz1 hz2 rfl rfl hO1a rfl hnI ?_ ?_ hB1a.size ?_; (skip; unfold maxLen; omega); (skip; omega); intro v2 w2 hO2 hg2; refine RowKit.Hid.out ?_)
    refine Lib.hid ?_
    rw [← List.map_append] at hO2
    have hk2 := hk1a.grown hg2 (owns_blk14 hO1a hk1a tp)
    have hB2 := hB1a.grown hg2 hB1a.size (fun q hq => (hO1a.lt q hq).1)
    clear hk1a hB1a hO1a hg2
    clear c0 c1 hnI
    have hkc := hk2
    rw [← hCH.out] at hkc
    have c0 := ms0 hkc
    clear hkc
    have hkc := hk2
    rw [← hCH.out] at hkc
    have c2 := ms2 hkc
    clear hkc
    have hnum := rNumber_any (Q) 4 w2 (by decide)
    have hnumH := Lib.hid hnum
    clear hnum
    go_wp2_with fail
    refine hnumH.out.mono ?_
    rintro q w2a ⟨nb, nc, rfl, ho3, b3⟩
    have hO2a := own_stay9 hO2 b3
    have hk2a := hk2.keep b3 hk2.lt
    have hB2a := hB2.trans (b3.mono hB2.size)
    obtain ⟨nb', nc', hv', hnI⟩ := Ints.of_owns ho3
    injection hv' with e5 _ e6
    subst e5; subst e6
    clear hnumH b3 ho3 hk2 hO2 hB2
    rw [hbq] at hnI
    go_wp2_with (at_builtin; refine wpList_append_ints rfl (.tmp 26) (.tmp 30) 26 rfl w.heap.size 5 i0 (.int .u8 0) 1 Try.underlying26 hi hz0 hz1 hz2 rfl rfl hO2a rfl hnI ?_ ?_ hB2a.size ?_; (skip; unfold maxLen; omega); (skip; omega); intro v3 w3 hO3 hg3; refine RowKit.Hid.out ?_)
    refine Lib.hid ?_
    rw [← List.map_append] at hO3
    have hk3 := hk2a.grown hg3 (owns_blk14 hO2a hk2a tp)
    have hB3 := hB2a.grown hg3 hB2a.size (fun q hq => (hO2a.lt q hq).1)
    clear hk2a hB2a hO2a hg3
    clear c0 c2 hnI
    have hkc := hk3
    rw [← hCH.out] at hkc
    have hHI := hint_ints hkc hl
    clear hkc
    go_wp2_with (at_builtin; refine wpList_append_ints rfl (.tmp 32) (.tmp 34) 26 rfl w.heap.size 5 i0 (.int .u8 0) 1 Try.underlying26 hi hz0 hz1 hz2 rfl rfl hO3 rfl hHI ?_ ?_ hB3.size ?_; (skip; unfold maxLen; omega); (skip; omega); intro v4 w4 hO4 hg4; refine RowKit.Hid.out ?_)
    refine Lib.hid ?_
    rw [← List.map_append] at hO4
    have hk4 := hk3.grown hg4 (owns_blk14 hO3 hk3 tp)
    have hB4 := hB3.grown hg4 hB3.size (fun q hq => (hO3.lt q hq).1)
    clear hk3 hB3 hO3 hg4
    clear hHI
    have hkc := hk4
    rw [← hCH.out] at hkc
    have c5 := ms5 hkc hl
    clear hkc
    have hnum := rNumber_any ((n : Int)) 2 w4 (by decide)
    have hnumH := Lib.hid hnum
    clear hnum
    go_wp2_with fail
    refine hnumH.out.mono ?_
    rintro q w4a ⟨nb, nc, rfl, ho3, b3⟩
    have hO4a := own_stay9 hO4 b3
    have hk4a := hk4.keep b3 hk4.lt
    have hB4a := hB4.trans (b3.mono hB4.size)
    obtain ⟨nb', nc', hv', hnI⟩ := Ints.of_owns ho3
    injection hv' with e5 _ e6
    subst e5; subst e6
    clear hnumH b3 ho3 hk4 hO4 hB4
    rw [hbn] at hnI
    go_wp2_with (at_builtin; refine wpList_append_ints rfl (.tmp 36) (.tmp 41) 26 rfl w.heap.size 5 i0 (.int .u8 0) 1 Try.underlying26 hi hz0 hz1 hz2 rfl rfl hO4a rfl hnI ?_ ?_ hB4a.size ?_; (skip; unfold maxLen; omega); (skip; omega); intro v5 w5 hO5 hg5; refine RowKit.Hid.out ?_)
    refine Lib.hid ?_
    rw [← List.map_append] at hO5
    have hk5 := hk4a.grown hg5 (owns_blk14 hO4a hk4a tp)
    have hB5 := hB4a.grown hg5 hB4a.size (fun q hq => (hO4a.lt q hq).1)
    clear hk4a hB4a hO4a hg5
    clear c5 hnI
    have hkc := hk5
    rw [← hCH.out] at hkc
    have c5 := ms5 hkc hl
    clear hkc
    have hxI := hIH.out w5 hB5
    go_wp2_with (at_builtin; refine wpList_append_ints rfl (.tmp 43) (.tmp 45) 26 rfl w.heap.size 5 i0 (.int .u8 0) 1 Try.underlying26 hi hz0 hz1 hz2 rfl rfl hO5 rfl hxI ?_ ?_ hB5.size ?_; (have := hnH.out; unfold maxLen; omega); (have := hnH.out; omega); intro v6 w6 hO6 hg6; refine RowKit.Hid.out ?_)
    refine Lib.hid ?_
    rw [← List.map_append] at hO6
    have hk6 := hk5.grown hg6 (owns_blk14 hO5 hk5 tp)
    have hB6 := hB5.grown hg6 hB5.size (fun q hq => (hO5.lt q hq).1)
    clear hk5 hB5 hO5 hg6
    clear hk6 c5 hxI
    have hO9 : w6.ownsRow w.heap.size 5 1 v6 M.length (M.map (Value.int .u8)) := by
      rw [List.append_assoc, List.append_assoc, List.append_assoc, List.append_assoc] at hO6
      have hlen := hO6.1
      rw [hmH.out]
      rw [List.length_map, Nat.mul_one] at hlen
      rw [hlen]
      exact hO6
    have hB9 := hB6
    clear hO6 hB6
    go_wp2
    go_ret
    obtain ⟨b, d, hv⟩ := own_slice32 hO9
    subst hv
    exact ⟨b, d, rfl, hO9, hB9⟩
  · skip
    dsimp only at k1
    have hm : msgB ⟨K, S, Q, O, H, xs⟩ = [K] ++ beL S 4 := msgB_one k1 S Q O H xs
    obtain ⟨M, hMM⟩ : ∃ M, msgB ⟨K, S, Q, O, H, xs⟩ = M := ⟨_, rfl⟩
    rw [hMM] at hm
    rw [hMM]
    have hmH := Lib.hid hm
    clear hm hMM
    obtain ⟨bs, hbs⟩ : ∃ bs, beL S 4 = bs := ⟨_, rfl⟩
    have hbl : bs.length = 4 := by rw [← hbs]; exact l4 S
    clear hI hhr hbr h1 h2 h3 h4 hln
    rcases k1 with rfl | rfl
    · skip
      go_enter Try.func21, Try.ntmps21
      go_wp2_with ((with_reducible refine box_row rfl 28 (.tmp 0) rfl C ?_ ?_); rfl; refine RowKit.Hid.out ?_)
      refine Lib.hid ?_
      clear hW
      have hk1 := hk.alloc (.cells #[.int .u8 3] 5)
      have hB1 := hb.alloc hb.size (.cells #[.int .u8 3] 5)
      have hO1 := own_made14 (w := W) (B := w.heap.size) (3) hb.size
      obtain ⟨w1, hw1⟩ : ∃ V, W.alloc (.cells #[.int .u8 3] 5) = V := ⟨_, rfl⟩
      rw [hw1] at hk1 hB1 hO1
      clear hk hb
      have hkc := hk1
      rw [← hCH.out] at hkc
      have c01 := ms0 hkc
      clear hkc
      have hkc := hk1
      rw [← hCH.out] at hkc
      have c1 := ms1 hkc
      clear hkc
      have hnum := rNumber_any (S) 4 w1 (by decide)
      have hnumH := Lib.hid hnum
      clear hnum
      go_wp2_with fail
      refine hnumH.out.mono ?_
      rintro q w1a ⟨nb, nc, rfl, ho3, b3⟩
      have hO1a := own_stay9 hO1 b3
      have hk1a := hk1.keep b3 hk1.lt
      have hB1a := hB1.trans (b3.mono hB1.size)
      obtain ⟨nb', nc', hv', hnI⟩ := Ints.of_owns ho3
      injection hv' with e5 _ e6
      subst e5; subst e6
      clear hnumH b3 ho3 hk1 hO1 hB1
      rw [hbs] at hnI
      rw [hbs] at hmH
      go_wp2_with (at_builtin; refine wpList_append_ints rfl (.tmp 17) (.tmp 21) 26 rfl w.heap.size 5 i0 (.int .u8 0) 1 Try.underlying26 hi hz0 hz1 hz2 rfl rfl hO1a rfl hnI ?_ ?_ hB1a.size ?_; (skip; unfold maxLen; omega); (skip; omega); intro v2 w2 hO2 hg2; refine RowKit.Hid.out ?_)
      refine Lib.hid ?_
      rw [← List.map_append] at hO2
      have hk2 := hk1a.grown hg2 (owns_blk14 hO1a hk1a tp)
      have hB2 := hB1a.grown hg2 hB1a.size (fun q hq => (hO1a.lt q hq).1)
      clear hk1a hB1a hO1a hg2
      have hkc := hk2
      rw [← hCH.out] at hkc
      have c0 := ms0 hkc
      clear hkc
      clear hk2 c1
      have hO9 : w2.ownsRow w.heap.size 5 1 v2 M.length (M.map (Value.int .u8)) := by
        have hlen := hO2.1
        rw [hmH.out]
        rw [List.length_map, Nat.mul_one] at hlen
        rw [hlen]
        exact hO2
      have hB9 := hB2
      clear hO2 hB2
      go_wp2
      go_ret
      obtain ⟨b, d, hv⟩ := own_slice32 hO9
      subst hv
      exact ⟨b, d, rfl, hO9, hB9⟩
    · skip
      go_enter Try.func21, Try.ntmps21
      go_wp2_with ((with_reducible refine box_row rfl 28 (.tmp 0) rfl C ?_ ?_); rfl; refine RowKit.Hid.out ?_)
      refine Lib.hid ?_
      clear hW
      have hk1 := hk.alloc (.cells #[.int .u8 4] 5)
      have hB1 := hb.alloc hb.size (.cells #[.int .u8 4] 5)
      have hO1 := own_made14 (w := W) (B := w.heap.size) (4) hb.size
      obtain ⟨w1, hw1⟩ : ∃ V, W.alloc (.cells #[.int .u8 4] 5) = V := ⟨_, rfl⟩
      rw [hw1] at hk1 hB1 hO1
      clear hk hb
      have hkc := hk1
      rw [← hCH.out] at hkc
      have c01 := ms0 hkc
      clear hkc
      have hkc := hk1
      rw [← hCH.out] at hkc
      have c1 := ms1 hkc
      clear hkc
      have hnum := rNumber_any (S) 4 w1 (by decide)
      have hnumH := Lib.hid hnum
      clear hnum
      go_wp2_with fail
      refine hnumH.out.mono ?_
      rintro q w1a ⟨nb, nc, rfl, ho3, b3⟩
      have hO1a := own_stay9 hO1 b3
      have hk1a := hk1.keep b3 hk1.lt
      have hB1a := hB1.trans (b3.mono hB1.size)
      obtain ⟨nb', nc', hv', hnI⟩ := Ints.of_owns ho3
      injection hv' with e5 _ e6
      subst e5; subst e6
      clear hnumH b3 ho3 hk1 hO1 hB1
      rw [hbs] at hnI
      rw [hbs] at hmH
      go_wp2_with (at_builtin; refine wpList_append_ints rfl (.tmp 17) (.tmp 21) 26 rfl w.heap.size 5 i0 (.int .u8 0) 1 Try.underlying26 hi hz0 hz1 hz2 rfl rfl hO1a rfl hnI ?_ ?_ hB1a.size ?_; (skip; unfold maxLen; omega); (skip; omega); intro v2 w2 hO2 hg2; refine RowKit.Hid.out ?_)
      refine Lib.hid ?_
      rw [← List.map_append] at hO2
      have hk2 := hk1a.grown hg2 (owns_blk14 hO1a hk1a tp)
      have hB2 := hB1a.grown hg2 hB1a.size (fun q hq => (hO1a.lt q hq).1)
      clear hk1a hB1a hO1a hg2
      have hkc := hk2
      rw [← hCH.out] at hkc
      have c0 := ms0 hkc
      clear hkc
      clear hk2 c1
      have hO9 : w2.ownsRow w.heap.size 5 1 v2 M.length (M.map (Value.int .u8)) := by
        have hlen := hO2.1
        rw [hmH.out]
        rw [List.length_map, Nat.mul_one] at hlen
        rw [hlen]
        exact hO2
      have hB9 := hB2
      clear hO2 hB2
      go_wp2
      go_ret
      obtain ⟨b, d, hv⟩ := own_slice32 hO9
      subst hv
      exact ⟨b, d, rfl, hO9, hB9⟩

set_option maxRecDepth 100000 in
set_option maxHeartbeats 1000000 in
theorem r14Encode_any (K S Q O : Int) (H : List Int) (a : Option Addr) (n c : Nat) (xs : List Int) (w : World) (hM : MsgOk ⟨K, S, Q, O, H, xs⟩) (hI : Ints .u8 w a n c xs) :
    Calls Try.prog 8 #[.agg (msC K S Q O H a n c).toArray] w fun q w' => ∃ b d, q = .returned (.tuple #[.slice b (encM ⟨K, S, Q, O, H, xs⟩).1.length d, .int .i64 (encM ⟨K, S, Q, O, H, xs⟩).2]) ∧ Ints .u8 w' b (encM ⟨K, S, Q, O, H, xs⟩).1.length d (encM ⟨K, S, Q, O, H, xs⟩).1 ∧ Below w.heap.size w w' := by
  have hl := hM.hl
  dsimp only at hl
  have hRt := Lib.hid (fun w' => r14Right_any K S Q O H a n c xs w' hl hI.len)
  have hBt := Lib.hid (fun (hR : MsgRight ⟨K, S, Q, O, H, xs⟩) w' (h : Below w.heap.size w w') => r14Bytes_any K S Q O H a n c xs w' hM hR (hI.keep h))
  have hCl := msC_len (K := K) (S := S) (Q := Q) (O := O) (a := a) (n := n) (c := c) hl
  obtain ⟨C, hC⟩ : ∃ C, msC K S Q O H a n c = C := ⟨_, rfl⟩
  rw [hC] at hRt hBt hCl ⊢
  clear hC
  have hb := below1 w (.cells C.toArray 28)
  have hk : Blk (w.alloc (.cells C.toArray 28)) w.heap.size 28 C := Blk.new w _ C
  obtain ⟨W, hW⟩ : ∃ V, w.alloc (.cells C.toArray 28) = V := ⟨_, rfl⟩
  rw [hW] at hb hk
  obtain ⟨G, g9⟩ : ∃ G, w.heap.size = G := ⟨_, rfl⟩
  rw [g9] at hk
  unfold encM
  cases hr : rightM ⟨K, S, Q, O, H, xs⟩ with
  | false =>
    rw [hr] at hRt
    rw [if_neg (by decide)]
    clear hBt hI hM hr
    go_enter Try.func8, Try.ntmps8
    go_wp2_with ((with_reducible refine box_row rfl 28 (.tmp 0) rfl C ?_ ?_); rfl; refine RowKit.Hid.out ?_)
    refine Lib.hid ?_
    clear hW
    go_wp2_with ((with_reducible refine wpList_load_blk rfl 28 (.tmp 1) rfl ?_ hk rowMs hCl ?_); rfl)
    refine (hRt.out W).mono ?_
    rintro q w1 ⟨rfl, b1⟩
    have hB1 := hb.trans (b1.mono hb.size)
    go_wp2
    go_ret2
    exact ⟨none, 0, rfl, ⟨rfl, Nat.le_refl _, .inl rfl⟩, hB1⟩
  | true =>
    have hB := Lib.hid (hBt.out ((rightM_iff _).1 hr))
    rw [hr] at hRt
    rw [if_pos rfl]
    dsimp only
    obtain ⟨M, hM'⟩ : ∃ M, msgB ⟨K, S, Q, O, H, xs⟩ = M := ⟨_, rfl⟩
    rw [hM'] at hB
    rw [hM']
    clear hM' hBt hr hI hM
    go_enter Try.func8, Try.ntmps8
    go_wp2_with ((with_reducible refine box_row rfl 28 (.tmp 0) rfl C ?_ ?_); rfl; refine RowKit.Hid.out ?_)
    refine Lib.hid ?_
    clear hW
    go_wp2_with ((with_reducible refine wpList_load_blk rfl 28 (.tmp 1) rfl ?_ hk rowMs hCl ?_); rfl)
    refine (hRt.out W).mono ?_
    rintro q w1 ⟨rfl, b1⟩
    have hB1 := hb.trans (b1.mono hb.size)
    have hk1 := hk.keep b1 hk.lt
    clear hk hb b1 hRt
    go_wp2_with ((with_reducible refine wpList_load_blk rfl 28 (.tmp 1) rfl ?_ hk1 rowMs hCl ?_); rfl)
    refine (hB.out w1 hB1).mono ?_
    rintro q w2 ⟨b, d, rfl, ho, b2⟩
    obtain ⟨b', d', hv, hJ⟩ := Ints.of_owns ho
    injection hv with e1 _ e2
    subst e1; subst e2
    go_wp2
    go_ret2
    exact ⟨b, d, rfl, hJ, hB1.trans (b2.mono hB1.size)⟩
end Go.Proofs.Ytgaelgpmmgjldaa
