/-
  Texts of stages that were proved on their own, joined: KcBehind, KcDecode, BfDecOk, BkEncode, KcCopy, BkAlive, BkLawR, BkLawA. Each begins with its own words.
-/
import Derived.Test.YtaaflnmdaplfkaaJKcAll12
import Derived.Test.YtaaflnmdaplfkaaJKcAll10
import Derived.Test.YtaaflnmdaplfkaaJKcAll20
import Derived.Test.YtaaflnmdaplfkaaJKcAll22
import Derived.Test.YtaaflnmdaplfkaaJKcAll13
import Derived.Test.YtaaflnmdaplfkaaJKcAll11
import Derived.Test.YtaaflnmdaplfkaaJKcAll18
import Derived.Test.YtaaflnmdaplfkaaJKcAll16
import Derived.Test.YtaaflnmdaplfkaaSteps
import Derived.Test.YtaaflnmdaplfkaaJKcAll7
import Derived.Test.YtaaflnmdaplfkaaJKcAll0

/-
  What record's readBehind and readBlock come to. New memory alone is written, the reader's own, and the record that is read. Conditions: none but the reader's.
-/
namespace Go.Proofs.Ytaaflnmdaplfkaa
open Go.RowKit

theorem Moved.grownG {F : Nat → Prop} {w w5 w6 : World} {G : Nat} (m : Moved F w w5) (hg : w5.grownBy w6 (some G)) (hG : w.heap.size ≤ G) : Moved F w w6 :=
  ⟨m.1.trans ⟨hg.os, hg.tape, hg.output, hg.size, fun _ h => absurd h (Nat.not_lt_zero _)⟩, fun b hb hf => (hg.block b (Nat.lt_of_lt_of_le hb m.size) (fun e => by injection e with e; omega)).trans (m.2 b hb hf)⟩
theorem Moved.wide {F F' : Nat → Prop} {w w' : World} (m : Moved F w w') (h : ∀ b, F b → F' b) : Moved F' w w' := ⟨m.1, fun b hb hf => m.2 b hb (fun k => hf (h b k))⟩
theorem Moved.grownF {F : Nat → Prop} {w w5 w6 : World} {G : Nat} (m : Moved F w w5) (hg : w5.grownBy w6 (some G)) (hG : F G) : Moved F w w6 := m.then (moved_set hG hg)
/-- What the reader writes, and the record that is read. -/
def With (F : Nat → Prop) (N : Nat) : Nat → Prop := fun b => F b ∨ b = N
theorem RdAt.far {F : Nat → Prop} {w w' : World} {g N : Nat} {xs : List Int} {p : Nat} {e : Int} (h : RdAt F w g xs p e) (hg : w.grownBy w' (some N)) (hN : ¬ F N) : RdAt F w' g xs p e :=
  h.keep (fun b hb => hg.block b (h.lt b hb) (fun e => by injection e with e; subst e; exact hN hb)) hg.size
theorem u32_wrap {x : Int} (h : 0 ≤ x ∧ x < 4294967296) : IntKind.u32.wrap x = x := by rw [IntKind.wrap_u32]; omega

set_option maxRecDepth 100000 in
set_option maxHeartbeats 2000000 in
theorem kcBehind_open {F : Nat → Prop} {w : World} {g N : Nat} {xs : List Int} {p : Nat} {e : Int} (S : Int) (hR : RdAt F w g xs p e) (hN : Blk w N 33 (rcC 1 S 0 0 z16 none 0 0 z32 z32 none 0 0)) (nN : ¬ F N) :
    Calls Try.prog 28 #[.pointer (some ⟨g, 0, none⟩), .pointer (some ⟨N, 0, none⟩)] w fun q w' => q = .returned (.tuple #[]) ∧ RdAt F w' g xs (rdNum xs p e 1).1 (rdNum xs p e 1).2.1 ∧ Blk w' N 33 (rcC 1 S 0 (rdNum xs p e 1).2.2 z16 none 0 0 z32 z32 none 0 0) ∧ Moved (With F N) w w' := by
  have hv := num8 hR.range p e
  have c0 := rc0 hN
  have cn := pNum_any 1 hR
  obtain ⟨⟨p3, e3, o⟩, hq⟩ : ∃ q, rdNum xs p e 1 = q := ⟨_, rfl⟩
  rw [hq] at cn hv ⊢
  dsimp only at cn hv ⊢
  have o32 := u32_wrap (x := o) ⟨hv.1, by omega⟩
  have o32' : wrap32 o = o ∨ True := .inr trivial
  have hNH := Lib.hid (And.intro hN (And.intro nN hv))
  clear hq hN hR nN hv o32'
  go_enter Try.func28, Try.ntmps28
  go_wp2_with fail
  refine cn.mono ?_
  rintro r w2 ⟨rfl, hR2, hm2⟩
  have hN2 := blk_moved hNH.out.1 hm2 hNH.out.2.1
  have hNS := hN2.set 3 (.int .u32 o)
  rw [rcC_set3] at hNS
  have d3 := rc3 hN2
  have f3 := hN2.frozen 3
  have hRS := hR2.far (grown_setCell w2 N 3 (.int .u32 o)) hNH.out.2.1
  have hmS : Moved (With F N) w (w2.setCell ⟨N, 3, none⟩ (.int .u32 o)) := (hm2.wide (fun b h => .inl h)).grownF (grown_setCell w2 N 3 _) (.inr rfl)
  have hE := Lib.hid (And.intro hRS (And.intro hNS hmS))
  clear cn c0 hR2 hm2 hN2 hNS hRS hmS
  go_wp2
  go_end0
  exact ⟨rfl, hE.out⟩

set_option maxRecDepth 100000 in
set_option maxHeartbeats 2000000 in
theorem kcBehind_close {w : World} {g N : Nat} (S : Int) (hN : Blk w N 33 (rcC 4 S 0 0 z16 none 0 0 z32 z32 none 0 0)) :
    Calls Try.prog 28 #[.pointer (some ⟨g, 0, none⟩), .pointer (some ⟨N, 0, none⟩)] w fun q w' => q = .returned (.tuple #[]) ∧ w = w' := by
  have c0 := rc0 hN
  clear hN
  go_enter Try.func28, Try.ntmps28
  go_wp2
  go_end0
  exact ⟨rfl, rfl⟩

set_option maxRecDepth 100000 in
set_option maxHeartbeats 4000000 in
theorem kcBehind_upload {F : Nat → Prop} {w : World} {g N : Nat} {xs : List Int} {p : Nat} {e : Int} (S : Int) (hR : RdAt F w g xs p e) (hN : Blk w N 33 (rcC 2 S 0 0 z16 none 0 0 z32 z32 none 0 0)) (nN : ¬ F N)
    {p3 : Nat} {e3 Q : Int} (hq3 : rdNum xs p e 4 = (p3, e3, Q)) {p4 : Nat} {e4 : Int} {m4 : Nat} (hq4 : rdStep xs.length p3 e3 16 = (p4, e4, m4)) {H : List Int} (hH : padTo 16 (rdBytes xs p3 e3 16) = H) (hl : H.length = 16)
    {A : Int} (hA : min ((xs.length : Int) - (p4 : Int)) 600 = A) {p5 : Nat} {e5 : Int} {k : Nat} (hq5 : rdStep xs.length p4 e4 A = (p5, e5, k)) {ys : List Int} (hY : rdBytes xs p4 e4 A = ys) :
    Calls Try.prog 28 #[.pointer (some ⟨g, 0, none⟩), .pointer (some ⟨N, 0, none⟩)] w fun q w' => ∃ a c, q = .returned (.tuple #[]) ∧ RdAt F w' g xs p5 e5 ∧ Blk w' N 33 (rcC 2 S Q 0 H a k c z32 z32 none 0 0) ∧ Ints .u8 w' a k c ys ∧ (∀ x, a = some x → w.heap.size ≤ x.block ∧ ¬ F x.block ∧ x.block ≠ N) ∧ Moved (With F N) w w' := by
  have hv := num32 hR.range p e
  rw [hq3] at hv
  dsimp only at hv
  have c0 := rc0 hN
  have cn := pNum_any 4 hR
  rw [hq3] at cn
  dsimp only at cn
  have o32 := u32_wrap hv
  have x4 := rcC_over4 (K := 2) (S := S) (Q := Q) (O := 0) (H := z16) (a := none) (n := 0) (c := 0) (h := z32) (p := z32) (b := none) (m := 0) (d := 0) H rfl hl
  have x5 := fun a n' c => rcC_set5 (K := 2) (S := S) (Q := Q) (O := 0) (H := H) (a := none) (n := 0) (c := 0) (h := z32) (p := z32) (b := none) (m := 0) (d := 0) hl a n' c
  have hrX := rowHint_of hl
  have hXl : (H.map (Value.int .u8)).length = 16 := by rw [List.length_map, hl]
  have hX1 := u8_one H
  have hE1l := rcC_len (K := 2) (S := S) (Q := Q) (O := 0) (H := z16) (a := none) (n := 0) (c := 0) (h := z32) (p := z32) (b := none) (m := 0) (d := 0) rfl rfl rfl
  have f5 := Lib.hid (fun w' g (k : Blk w' g 33 (rcC 2 S Q 0 H none 0 0 z32 z32 none 0 0)) => rc5 k hl)
  obtain ⟨E1, hE1e⟩ : ∃ E, rcC 2 S Q 0 z16 none 0 0 z32 z32 none 0 0 = E := ⟨_, rfl⟩
  obtain ⟨X, hX⟩ : ∃ X, H.map (Value.int .u8) = X := ⟨_, rfl⟩
  rw [hX] at x4 hrX hXl hX1
  rw [hE1e] at x4 hE1l
  have hs := Lib.hid (And.intro hE1e (And.intro x4 (And.intro x5 (And.intro hH hX))))
  have hNH := Lib.hid (And.intro hN (And.intro nN hv))
  have hqH := Lib.hid (And.intro hq4 (And.intro hq5 hY))
  have hAH := Lib.hid hA
  clear hq3 hN hR hE1e x4 x5 hX hv nN hq4 hq5 hY hH hl hA
  go_enter Try.func28, Try.ntmps28
  go_wp2_with fail
  refine cn.mono ?_
  rintro r w2 ⟨rfl, hR2, hm2⟩
  have hN2 := blk_moved hNH.out.1 hm2 hNH.out.2.1
  have hNS := hN2.set 2 (.int .u32 Q)
  rw [rcC_set2, hs.out.1] at hNS
  have d2 := rc2 hN2
  have g2 := hN2.frozen 2
  have hRS := hR2.far (grown_setCell w2 N 2 (.int .u32 Q)) hNH.out.2.1
  have hmS : Moved (With F N) w (w2.setCell ⟨N, 2, none⟩ (.int .u32 Q)) := (hm2.wide (fun b h => .inl h)).grownF (grown_setCell w2 N 2 _) (.inr rfl)
  have hE := Lib.hid (And.intro hRS (And.intro hNS hmS))
  clear cn c0 hR2 hm2 hN2 hNS hRS hmS
  go_wp2_with fail
  clear d2 g2
  obtain ⟨w3, hw3⟩ : ∃ W, w2.setCell ⟨N, 2, none⟩ (.int .u32 Q) = W := ⟨_, rfl⟩
  rw [hw3] at hE ⊢
  clear hw3
  obtain ⟨hR3, hN3, hM3⟩ := hE.out
  have cn := pHint_any hR3
  rw [hs.out.2.2.2.1, hqH.out.1, hs.out.2.2.2.2] at cn
  dsimp only at cn
  clear hE hR3
  refine cn.mono ?_
  rintro r w4 ⟨rfl, hR4, hm4⟩
  have hN4 := blk_moved hN3 hm4 hNH.out.2.1
  have hM4 := hM3.then (hm4.wide (fun b h => .inl h))
  clear cn hN3 hM3 hm4
  go_wp2_with ((with_reducible refine wpList_store_part (off := 4) rfl 25 (.tmp 28) (.tmp 26) rfl ?_ ?_ hN4 hrX ?_ hX1 ?_); rfl; rfl; (rw [hXl, hE1l]; decide); refine RowKit.Hid.out ?_)
  refine Lib.hid ?_
  intro w5 hN5 hg5
  try rw [hs.out.2.1] at hN5
  have hR5 := hR4.far hg5 hNH.out.2.1
  have hM5 := hM4.grownF hg5 (.inr rfl)
  clear hR4 hN4 hM4 hg5
  have cl := pLeft_any hR5
  go_wp2_with fail
  refine cl.mono ?_
  rintro r w6 ⟨rfl, qd, rfl⟩
  have b6 : Below w5.heap.size w5 (w5.drewN qd) := below_drewN (Below.refl _ _) qd
  have hN6 := hN5.keep b6 hN5.lt
  have hR6 := hR5.keep (fun b hb => b6.block b (hR5.lt b hb)) b6.size
  have hM6 := hM5.then (Moved.of_below b6)
  obtain ⟨V6, hV6⟩ : ∃ W, w5.drewN qd = W := ⟨_, rfl⟩
  rw [hV6] at hN6 hR6 hM6 ⊢
  clear cl hN5 hR5 hM5 b6 hV6
  have hwi := hR6.within
  by_cases hm : (xs.length : Int) - (p4 : Int) ≤ 600
  · have hA1 : A = (xs.length : Int) - (p4 : Int) := by have := hAH.out; omega
    subst hA1
    have hwiH := Lib.hid hwi
    clear hAH hwi
    have cb := pBytes_any ((xs.length : Int) - (p4 : Int)) hR6
    rw [hqH.out.2.1, hqH.out.2.2] at cb
    dsimp only at cb
    go_wp2_with fail
    refine cb.mono ?_
    rintro r w7 ⟨a7, c7, rfl, ho7, hF7, hR7, hm7⟩
    have hN7 := blk_moved hN6 hm7 hNH.out.2.1
    have hM7 := hM6.then (hm7.wide (fun b h => .inl h))
    have hI7 := Ints.of_owns ho7
    have hlt7 : ∀ x, a7 = some x → V6.heap.size ≤ x.block ∧ x.block < w7.heap.size := fun x hx => ho7.lt x.block (by rw [hx]; rfl)
    have hsep : ∀ x, a7 = some x → w.heap.size ≤ x.block ∧ ¬ F x.block ∧ x.block ≠ N := fun x hx => by
      have := hlt7 x hx
      have h1 := hM6.size
      have h2 := hN6.lt
      exact ⟨by omega, hF7 x hx, by omega⟩
    have hNS := hN7.set 20 (.slice a7 k c7)
    rw [hs.out.2.2.1] at hNS
    have d5 := f5.out w7 N hN7
    have g5 := hN7.frozen 20
    have hgS := grown_setCell w7 N 20 (.slice a7 k c7)
    have hRS := hR7.far hgS hNH.out.2.1
    have hMS := hM7.grownF hgS (.inr rfl)
    obtain ⟨a', c', hv', hI7⟩ := hI7
    injection hv' with e1 _ e2
    subst e1; subst e2
    have hIS := hI7.grown hgS (fun x hx _ => (hsep x hx).2.2)
    have hE := Lib.hid (And.intro hRS (And.intro hNS (And.intro hIS (And.intro hsep hMS))))
    clear cb hN6 hR6 hM6 ho7 hF7 hR7 hm7 hN7 hM7 hI7 hlt7 hsep hNS hgS hRS hMS hIS
    go_wp2
    go_end0
    exact ⟨a7, c7, rfl, hE.out⟩
  · have hA1 : A = 600 := by have := hAH.out; omega
    subst hA1
    have hwiH := Lib.hid hwi
    clear hAH hwi
    have cb := pBytes_any 600 hR6
    rw [hqH.out.2.1, hqH.out.2.2] at cb
    dsimp only at cb
    go_wp2_with fail
    refine cb.mono ?_
    rintro r w7 ⟨a7, c7, rfl, ho7, hF7, hR7, hm7⟩
    have hN7 := blk_moved hN6 hm7 hNH.out.2.1
    have hM7 := hM6.then (hm7.wide (fun b h => .inl h))
    have hI7 := Ints.of_owns ho7
    have hlt7 : ∀ x, a7 = some x → V6.heap.size ≤ x.block ∧ x.block < w7.heap.size := fun x hx => ho7.lt x.block (by rw [hx]; rfl)
    have hsep : ∀ x, a7 = some x → w.heap.size ≤ x.block ∧ ¬ F x.block ∧ x.block ≠ N := fun x hx => by
      have := hlt7 x hx
      have h1 := hM6.size
      have h2 := hN6.lt
      exact ⟨by omega, hF7 x hx, by omega⟩
    have hNS := hN7.set 20 (.slice a7 k c7)
    rw [hs.out.2.2.1] at hNS
    have d5 := f5.out w7 N hN7
    have g5 := hN7.frozen 20
    have hgS := grown_setCell w7 N 20 (.slice a7 k c7)
    have hRS := hR7.far hgS hNH.out.2.1
    have hMS := hM7.grownF hgS (.inr rfl)
    obtain ⟨a', c', hv', hI7⟩ := hI7
    injection hv' with e1 _ e2
    subst e1; subst e2
    have hIS := hI7.grown hgS (fun x hx _ => (hsep x hx).2.2)
    have hE := Lib.hid (And.intro hRS (And.intro hNS (And.intro hIS (And.intro hsep hMS))))
    clear cb hN6 hR6 hM6 ho7 hF7 hR7 hm7 hN7 hM7 hI7 hlt7 hsep hNS hgS hRS hMS hIS
    go_wp2
    go_end0
    exact ⟨a7, c7, rfl, hE.out⟩

set_option maxRecDepth 100000 in
set_option maxHeartbeats 4000000 in
theorem kcReadBlock_any {F : Nat → Prop} {w : World} {g : Nat} {xs : List Int} {p : Nat} (hR : RdAt F w g xs p 0) :
    Calls Try.prog 29 #[.pointer (some ⟨g, 0, none⟩)] w fun q w' => ∃ b d, q = .returned (.agg (bC (decK (xs.drop p)).1 b d).toArray) ∧ IdsAt w' b (decK (xs.drop p)).1.n d (decK (xs.drop p)).1.ids ∧ (∀ x, b = some x → w.heap.size ≤ x.block ∧ ¬ F x.block) ∧ RdAt F w' g xs xs.length (decK (xs.drop p)).2 ∧ Moved F w w' := by
  have hrg := hR.range
  have hmo := hR.most
  have hwi := hR.within
  obtain ⟨k, hk⟩ : ∃ k : Nat, xs.length - p = k := ⟨_, rfl⟩
  have hki : (xs.length : Int) - (p : Int) = (k : Int) := by omega
  have hst : rdStep xs.length p 0 (k : Int) = (xs.length, 0, k) := by
    rw [rdStep_fits (by omega) (by omega), Int.toNat_natCast]
    rw [show p + k = xs.length by omega]
  have hby : rdBytes xs p 0 (k : Int) = xs.drop p := by
    unfold rdBytes
    rw [hst]
    exact List.take_of_length_le (by show (xs.drop p).length ≤ k; rw [List.length_drop]; omega)
  have hok : okB (xs.drop p) := okB_drop hrg p
  have hDc := decK_ok hok
  have hDl := fun b d => bkC_len (a := b) (n := (decK (xs.drop p)).1.n) (c := d) hDc.1 hDc.2.1
  have hD1 := fun b d => bkC_one (decK (xs.drop p)).1.hash (decK (xs.drop p)).1.parent b (decK (xs.drop p)).1.n d
  have hdec := Lib.hid (fun w' a c (hI : Ints .u8 w' a k c (xs.drop p)) => bkDecode_any a k c (xs.drop p) w' hI hok (by omega))
  unfold DecEndB at hdec
  obtain ⟨⟨B, e⟩, hq⟩ : ∃ q, decK (xs.drop p) = q := ⟨_, rfl⟩
  rw [hq] at hDl hD1 hdec ⊢
  dsimp only at hDl hD1 hdec ⊢
  obtain ⟨D, hD⟩ : ∃ D : Option Addr → Nat → List Value, ∀ b d, bC B b d = D b d := ⟨_, fun _ _ => rfl⟩
  have hDl := fun b d => show (D b d).length = 65 by rw [← hD]; exact hDl b d
  have hD1 := fun b d => show ∀ v ∈ D b d, v.oneCell' = true by rw [← hD]; exact hD1 b d
  simp only [hD] at hdec ⊢
  have hdec := Lib.hid hdec.out
  obtain ⟨Z, hZ⟩ : ∃ Z, bkC z32 z32 none 0 0 = Z := ⟨_, rfl⟩
  have hZ0 : Zero Try.prog 31 Z := by rw [← hZ]; exact zeroBk
  have hZl : Z.length = 65 := by rw [← hZ]; exact bkC_len rfl rfl
  have hb := below1 w (.cells Z.toArray 31)
  have hk0 : Blk (w.alloc (.cells Z.toArray 31)) w.heap.size 31 Z := Blk.new w _ _
  have nG : ¬ F w.heap.size := fun h => Nat.lt_irrefl _ (hR.lt _ h)
  have hR0 := hR.keep (w' := w.alloc (.cells Z.toArray 31)) (fun b hf => hb.block b (hR.lt b hf)) hb.size
  have hlt := Lib.hid hR.lt
  obtain ⟨V, hV⟩ : ∃ V, w.alloc (.cells Z.toArray 31) = V := ⟨_, rfl⟩
  rw [hV] at hb hk0 hR0
  obtain ⟨G, g9⟩ : ∃ G, w.heap.size = G := ⟨_, rfl⟩
  rw [g9] at hk0 nG
  have gH := Lib.hid g9
  have nGH := Lib.hid nG
  have hstH := Lib.hid (And.intro hst hby)
  have hM0 := Moved.of_below (F := F) hb
  clear hZ hD hq hR hrg hmo hwi hk hst hby hok hDc nG hb
  have cl := pLeft_any hR0
  rw [hki] at cl
  go_enter Try.func29, Try.ntmps29
  go_wp2_with ((with_reducible refine wpList_alloc_blk rfl 31 rfl hZ0 ?_); refine RowKit.Hid.out ?_)
  refine Lib.hid ?_
  clear hV g9
  go_wp2_with fail
  refine cl.mono ?_
  rintro r w1 ⟨rfl, qd, rfl⟩
  have b1 : Below V.heap.size V (V.drewN qd) := below_drewN (Below.refl _ _) qd
  have hk1 := hk0.keep b1 hk0.lt
  have hR1 := hR0.keep (fun b hb => b1.block b (hR0.lt b hb)) b1.size
  have hM1 := hM0.then (Moved.of_below b1)
  obtain ⟨V1, hV1⟩ : ∃ W, V.drewN qd = W := ⟨_, rfl⟩
  rw [hV1] at hk1 hR1 hM1 ⊢
  clear cl hk0 hR0 hM0 b1 hV1
  have cb := pBytes_any (k : Int) hR1
  rw [hstH.out.1, hstH.out.2] at cb
  dsimp only at cb
  go_wp2_with fail
  refine cb.mono ?_
  rintro r w2 ⟨a2, c2, rfl, ho2, hF2, hR2, hm2⟩
  have hk2 := blk_moved hk1 hm2 nGH.out
  have hM2 := hM1.then hm2
  obtain ⟨a', c', hv', hI2⟩ := Ints.of_owns ho2
  injection hv' with e1 _ e2
  subst e1; subst e2
  have cd := hdec.out w2 a2 c2 hI2
  have lo1 := Lib.hid hM1.size
  clear cb hk1 hR1 hM1 hm2 ho2 hF2 hI2 hdec
  go_wp2_with fail
  refine cd.mono ?_
  rintro r w3 ⟨b3, d3, rfl, hT3, hlo3, b3'⟩
  have hk3 := hk2.keep b3' hk2.lt
  have hR3 := hR2.keep (fun b hb => b3'.block b (hR2.lt b hb)) b3'.size
  have hM3 := hM2.then (Moved.of_below b3')
  have hl3 := hDl b3 d3
  have ho3 := hD1 b3 d3
  have hsep : ∀ x, b3 = some x → w.heap.size ≤ x.block ∧ ¬ F x.block ∧ x.block ≠ G := fun x hx => by
    have h1 := hlo3 x hx
    have h2 := hM2.size
    have h3 := hk2.lt
    exact ⟨by omega, fun hf => by have := hlt.out _ hf; omega, by omega⟩
  have hin3 : ∀ x, b3 = some x → 0 < B.n → x.block < w3.heap.size := fun x hx h0 => by
    rcases hT3.2.2 with h1 | ⟨b', off, ha, hc⟩
    · omega
    · rw [ha] at hx
      injection hx with hx
      subst hx
      exact World.block_lt_of_cell? w3 _ (hc 0 (by omega))
  obtain ⟨C3, hC3⟩ : ∃ C, D b3 d3 = C := ⟨_, rfl⟩
  rw [hC3] at hl3 ho3
  have hC3H := Lib.hid hC3
  have hsepH := Lib.hid (And.intro hsep hin3)
  clear cd hk2 hR2 hM2 hlo3 b3' hsep hin3
  go_wp2_with ((with_reducible refine wpList_alloc_blk rfl 31 rfl hZ0 ?_); refine RowKit.Hid.out ?_)
  refine Lib.hid ?_
  try simp only [Act.put, List.setIfInBounds_toArray, List.set_cons_zero, List.set_cons_succ]
  try simp only [hC3]
  clear hC3
  have bA := below1 w3 (.cells Z.toArray 31)
  have hkA := hk3.keep bA hk3.lt
  have hRA := hR3.keep (fun b hb => bA.block b (hR3.lt b hb)) bA.size
  have hNA := Blk.new w3 31 Z
  have hTA := hT3.keep bA
  have hMA := hM3.then (Moved.of_below bA)
  have l1 := hk3.lt
  have l2 := hM3.size
  have l3 : ¬ F w3.heap.size := fun hf => Nat.lt_irrefl _ (hR3.lt _ hf)
  have l4 := hsepH.out.2
  obtain ⟨N, hN⟩ : ∃ N, w3.heap.size = N := ⟨_, rfl⟩
  rw [hN] at hNA l1 l2 l3 l4 ⊢
  obtain ⟨U, hU⟩ : ∃ W, w3.alloc (.cells Z.toArray 31) = W := ⟨_, rfl⟩
  rw [hU] at hkA hRA hNA hTA hMA ⊢
  clear hk3 hR3 hT3 hM3 bA hN hU
  refine store_row rfl 31 (.tmp 3) (.tmp 11) rfl rfl rfl hNA rowBk hl3 hZl ho3 ?_
  intro w4 hN4 hg4
  have hk4 := hkA.grown hg4 (fun e => by injection e with e; omega)
  have hR4 := hRA.far hg4 l3
  have hM4 := hMA.grownG hg4 l2
  have hT4 : IdsAt w4 b3 B.n d3 B.ids := by
    refine ⟨hTA.1, hTA.2.1, ?_⟩
    rcases hTA.2.2 with h0 | ⟨b', off, ha, hc⟩
    · exact .inl h0
    · by_cases h0 : B.n = 0
      · exact .inl h0
      · exact .inr ⟨b', off, ha, fun i hi => hg4.cell (hc i hi) (fun e => by injection e with e; have := l4 ⟨b', off, none⟩ ha (Nat.pos_of_ne_zero h0); rw [e] at this; exact Nat.lt_irrefl _ this)⟩
  have hnl := Lib.hid l3
  have hnG := Lib.hid l1
  clear hkA hRA hNA hTA hMA hg4 l1 l2 l3 l4
  have cf := pFail_any e hR4
  rw [show badOf 0 e = e from if_pos rfl] at cf
  go_wp2_with fail
  refine cf.mono ?_
  rintro r w5 ⟨rfl, hR5, hm5⟩
  have hk5 := blk_moved hk4 hm5 nGH.out
  have hN5 := blk_moved hN4 hm5 hnl.out
  have hM5 := hM4.then hm5
  have hT5 := ids_stay hT4 hm5 (fun x hx _ => (hsepH.out.1 x hx).2.1)
  clear cf hk4 hN4 hR4 hM4 hT4 hm5
  go_wp2_with ((with_reducible refine wpList_load_blk rfl 31 (.tmp 3) rfl ?_ hN5 rowBk hl3 ?_); rfl; refine RowKit.Hid.out ?_)
  refine Lib.hid ?_
  try simp only [Act.put, List.setIfInBounds_toArray, List.set_cons_zero, List.set_cons_succ]
  refine store_row rfl 31 (.tmp 2) (.tmp 16) rfl rfl rfl hk5 rowBk hl3 hZl ho3 ?_
  intro w6 hk6 hg6
  have hrC : IsRow Try.prog 31 C3.length := rowBk_of hl3
  go_wp2_with fail
  refine bodyPost_ret (results_blk rfl rfl hk6 hrC) rfl ?_
  refine ⟨b3, d3, ?_, ?_, fun x hx => ⟨(hsepH.out.1 x hx).1, (hsepH.out.1 x hx).2.1⟩, hR5.far hg6 nGH.out, hM5.grownG hg6 (by have := gH.out; omega)⟩
  · rw [← hC3H.out]
  · refine ⟨hT5.1, hT5.2.1, ?_⟩
    rcases hT5.2.2 with h0 | ⟨b', off, ha, hc⟩
    · exact .inl h0
    · exact .inr ⟨b', off, ha, fun i hi => hg6.cell (hc i hi) (fun e => by injection e with e; exact (hsepH.out.1 ⟨b', off, none⟩ ha).2.2 e)⟩
end Go.Proofs.Ytaaflnmdaplfkaa

/-
  What record's Decode comes to. New memory alone is written. Conditions: bytes below 256, at most a million. (Made by wip/tools/mk_kcdecode.py.)
-/
namespace Go.Proofs.Ytaaflnmdaplfkaa
open Go.RowKit

/-- What a decoding ends with. -/
def DecEndR (xs : List Int) (w : World) (q : Ending) (w' : World) : Prop := ∃ a c b d, q = .returned (.tuple #[.agg (rC (decRec xs).1 a c b d).toArray, .int .i64 (decRec xs).2]) ∧ RecAt w' (decRec xs).1 a c b d ∧ (∀ x, a = some x → w.heap.size ≤ x.block) ∧ (∀ x, b = some x → w.heap.size ≤ x.block) ∧ Below w.heap.size w w'

set_option maxRecDepth 100000 in
set_option maxHeartbeats 2000000 in
theorem kcDecode_other (a : Option Addr) (n c : Nat) (xs : List Int) (w : World) (hI : Ints .u8 w a n c xs) (hr : okB xs) (hn : n ≤ 1000000) (hk0 : ¬ (kindOf xs = 1 ∨ kindOf xs = 2 ∨ kindOf xs = 4 ∨ kindOf xs = 5 ∨ kindOf xs = 6)) :
    Calls Try.prog 12 #[.slice a n c] w (DecEndR xs w) := by
  have hln := hI.len
  obtain ⟨Z, hZ⟩ : ∃ Z, rC noRec none 0 none 0 = Z := ⟨_, rfl⟩
  have hZ0 : Zero Try.prog 33 Z := by rw [← hZ]; exact zeroRc
  have hZl : Z.length = 86 := by rw [← hZ]; exact rC_len noRec_ok _ _ _ _
  have hZ1 : ∀ v ∈ Z, v.oneCell' = true := by rw [← hZ]; exact rC_one _ _ _ _ _
  have hbt0 : Try.prog.built 33 [] = some Z.toArray := by rw [← hZ]; exact built_rc0
  have hZH := Lib.hid hZ
  clear hZ
  have hb := below1 w (.cells Z.toArray 33)
  have hk : Blk (w.alloc (.cells Z.toArray 33)) w.heap.size 33 Z := Blk.new w _ _
  obtain ⟨V, hV⟩ : ∃ V, w.alloc (.cells Z.toArray 33) = V := ⟨_, rfl⟩
  rw [hV] at hb hk
  have hnew := Lib.hid (pNew_any a n c xs V (hI.keep hb) hr hn)
  obtain ⟨G, g9⟩ : ∃ G, w.heap.size = G := ⟨_, rfl⟩
  rw [g9] at hk
  have gH := Lib.hid g9
  obtain ⟨⟨P1, E1, k⟩, hq1⟩ : ∃ q, rdNum xs 0 0 1 = q := ⟨_, rfl⟩
  have hkd : kindOf xs = k := by unfold kindOf; rw [hq1]
  have hkr := kindOf_range hr
  rw [hkd] at hkr
  have k64 : wrap64 k = k := by unfold wrap64; omega
  have k64' : IntKind.i64.wrap k = k := by rw [IntKind.wrap_i64]; omega
  have hbt := built_rc1 k
  have hBl := rcC_len (K := k) (S := 0) (Q := 0) (O := 0) (H := z16) (a := none) (n := 0) (c := 0) (h := z32) (p := z32) (b := none) (m := 0) (d := 0) rfl rfl rfl
  have hB1' := rcC_one (K := k) (S := 0) (Q := 0) (O := 0) (H := z16) (a := none) (n := 0) (c := 0) (h := z32) (p := z32) (b := none) (m := 0) (d := 0)
  obtain ⟨B, hB⟩ : ∃ B, rcC k 0 0 0 z16 none 0 0 z32 z32 none 0 0 = B := ⟨_, rfl⟩
  have hBH := Lib.hid hB
  rw [hB] at hbt hBl hB1'
  clear hB
  obtain ⟨E, hE0, hbad, hend0⟩ := decRec_other hk0
  have hdk := Lib.hid hend0
  rw [hkd] at hk0
  rw [hq1] at hbad
  dsimp only at hbad
  have n1 : (k == 1) = false := beq_false_of_ne (by omega)
  have n2 : (k == 2) = false := beq_false_of_ne (by omega)
  have n4 : (k == 4) = false := beq_false_of_ne (by omega)
  have n5 : (k == 5) = false := beq_false_of_ne (by omega)
  have n6 : (k == 6) = false := beq_false_of_ne (by omega)
  have hdn : doneOf xs.length (P1 : Int) E = E := doneOf_bad hE0
  clear hkr hkd hk0 hr hI hn hend0 hln
  go_enter Try.func12, Try.ntmps12
  go_wp2_with ((with_reducible refine wpList_alloc_blk rfl 33 rfl hZ0 ?_); refine RowKit.Hid.out ?_)
  refine Lib.hid ?_
  clear hV
  go_wp2_with fail
  refine hnew.out.mono ?_
  rintro r w1 ⟨g, F, rfl, hR1, hF1, b1⟩
  have hG1 := hk.keep b1 hk.lt
  have hB1 := hb.trans (b1.mono hb.size)
  have nG : Hid (¬ F G) := Lib.hid (fun h => by have := hF1 _ h; have := hk.lt; omega)
  have hFg : Hid (∀ b, F b → w.heap.size ≤ b) := Lib.hid (fun b hb' => Nat.le_trans hb.size (hF1 b hb'))
  clear hk hb b1 hnew hF1
  have cn := pNum_any 1 hR1
  rw [hq1] at cn
  dsimp only at cn
  clear hR1
  go_wp2_with fail
  refine cn.mono ?_
  rintro r w2 ⟨rfl, hR2, hm2⟩
  have hG2 := blk_moved hG1 hm2 nG.out
  have hB2 := hB1.trans (hm2.below hFg.out hB1.size)
  clear cn hG1 hB1 hm2
  go_wp2_with ((with_reducible refine build_row rfl 33 #[(0, .tmp 11)] rfl (cells := B.toArray) ?_ ?_); (refine Eq.trans (congrArg _ ?_) hbt; kernel_rfl); refine RowKit.Hid.out ?_)
  refine Lib.hid ?_
  refine wpList_alloc_blk rfl 33 rfl hZ0 ?_
  try simp only [Act.put, List.setIfInBounds_toArray, List.set_cons_zero, List.set_cons_succ]
  have hGA := hG2.alloc (.cells Z.toArray 33)
  have hNA := Blk.new w2 33 Z
  have hBA := hB2.alloc hB2.size (.cells Z.toArray 33)
  have hnG : G < w2.heap.size := hG2.lt
  have hRA := hR2.keep (w' := w2.alloc (.cells Z.toArray 33)) (fun b hb => Below.heap_alloc w2 _ b (hR2.lt b hb)) (by rw [size1]; omega)
  have nN0 : ¬ F w2.heap.size := fun h => Nat.lt_irrefl _ (hR2.lt _ h)
  obtain ⟨N, hN⟩ : ∃ N, w2.heap.size = N := ⟨_, rfl⟩
  rw [hN] at hNA hnG nN0 ⊢
  have nN := Lib.hid nN0
  have nGN := Lib.hid hnG
  obtain ⟨U, hU⟩ : ∃ W, w2.alloc (.cells Z.toArray 33) = W := ⟨_, rfl⟩
  rw [hU] at hGA hNA hBA hRA ⊢
  clear hR2 hG2 hB2 hN hU nN0
  refine store_row rfl 33 (.tmp 5) (.tmp 12) rfl rfl rfl hNA rowRc hBl hZl hB1' ?_
  intro w3 hN3 hg3
  rw [← hBH.out] at hN3
  have hG3 := hGA.grown hg3 (fun e => by injection e with e; omega)
  have hR3 := hRA.far hg3 nN.out
  have hB3 := hBA.grown hg3 hBA.size (fun q hq => by injection hq with hq; have := gH.out; have := nGN.out; omega)
  have c0 := rc0 hN3
  have hFW : Hid (∀ b, With F N b → w.heap.size ≤ b) := Lib.hid (fun b hb' => by
    rcases hb' with h | h
    · exact hFg.out b h
    · have := gH.out; have := nGN.out; omega)
  have nGW : Hid (¬ With F N G) := Lib.hid (fun hb' => by
    rcases hb' with h | h
    · exact nG.out h
    · have := nGN.out; omega)
  clear hGA hNA hBA hRA hg3 hnG g9
  have cf := pFail_any 4 hR3
  rw [hbad] at cf
  clear hR3 hbad
  go_wp2_with fail
  refine cf.mono ?_
  rintro r w8 ⟨rfl, hR8, hm8⟩
  have hG8 := blk_moved hG3 hm8 nG.out
  have hB8 := hB3.trans (hm8.below hFg.out hB3.size)
  clear cf hN3 hG3 hB3 hm8 c0
  have cd := pDone_any hR8
  rw [hdn] at cd
  clear hR8
  go_wp2_with fail
  refine cd.mono ?_
  rintro r w9 ⟨rfl, b9⟩
  have hG9 := hG8.keep b9 hG8.lt
  have hB9 := hB8.trans (b9.mono hB8.size)
  have hnz : ¬ E = 0 := hE0
  have hnb : (E != 0) = true := bne_iff_ne.2 hE0
  clear cd hG8 hB8 b9
  go_wp2_with ((with_reducible refine build_row rfl 33 #[] rfl (cells := Z.toArray) ?_ ?_); (refine Eq.trans (congrArg _ ?_) hbt0; kernel_rfl); refine RowKit.Hid.out ?_)
  refine Lib.hid ?_
  refine wpList_mv rfl (.tmp 6) rfl rfl ?_
  try simp only [Act.put, List.setIfInBounds_toArray, List.set_cons_zero, List.set_cons_succ]
  refine store_row rfl 33 (.tmp 2) (.tmp 44) rfl rfl rfl hG9 rowRc hZl hZl hZ1 ?_
  intro wY hGY hgY
  have hrZ : IsRow Try.prog 33 Z.length := rowRc_of hZl
  have hBY := hB9.grown hgY hB9.size (fun q hq => by injection hq with hq; have := gH.out; omega)
  go_wp2_with fail
  refine bodyPost_ret (results_blk_tmp rfl rfl hGY hrZ) rfl ?_
  unfold DecEndR
  rw [hdk.out]
  exact ⟨none, 0, none, 0, by rw [← hZH.out]; rfl, recAt_nil wY 0 0, (fun x hx => by cases hx), (fun x hx => by cases hx), hBY⟩

set_option maxRecDepth 100000 in
set_option maxHeartbeats 2000000 in
theorem kcDecode_close (a : Option Addr) (n c : Nat) (xs : List Int) (w : World) (hI : Ints .u8 w a n c xs) (hr : okB xs) (hn : n ≤ 1000000) (hk0 : kindOf xs = 4) :
    Calls Try.prog 12 #[.slice a n c] w (DecEndR xs w) := by
  have hln := hI.len
  obtain ⟨Z, hZ⟩ : ∃ Z, rC noRec none 0 none 0 = Z := ⟨_, rfl⟩
  have hZ0 : Zero Try.prog 33 Z := by rw [← hZ]; exact zeroRc
  have hZl : Z.length = 86 := by rw [← hZ]; exact rC_len noRec_ok _ _ _ _
  have hZ1 : ∀ v ∈ Z, v.oneCell' = true := by rw [← hZ]; exact rC_one _ _ _ _ _
  have hbt0 : Try.prog.built 33 [] = some Z.toArray := by rw [← hZ]; exact built_rc0
  have hZH := Lib.hid hZ
  clear hZ
  have hb := below1 w (.cells Z.toArray 33)
  have hk : Blk (w.alloc (.cells Z.toArray 33)) w.heap.size 33 Z := Blk.new w _ _
  obtain ⟨V, hV⟩ : ∃ V, w.alloc (.cells Z.toArray 33) = V := ⟨_, rfl⟩
  rw [hV] at hb hk
  have hnew := Lib.hid (pNew_any a n c xs V (hI.keep hb) hr hn)
  obtain ⟨G, g9⟩ : ∃ G, w.heap.size = G := ⟨_, rfl⟩
  rw [g9] at hk
  have gH := Lib.hid g9
  obtain ⟨⟨P1, E1, k⟩, hq1⟩ : ∃ q, rdNum xs 0 0 1 = q := ⟨_, rfl⟩
  have hkd : kindOf xs = k := by unfold kindOf; rw [hq1]
  have hkr := kindOf_range hr
  rw [hkd] at hkr
  have k64 : wrap64 k = k := by unfold wrap64; omega
  have k64' : IntKind.i64.wrap k = k := by rw [IntKind.wrap_i64]; omega
  have hbt := built_rc1 k
  have hBl := rcC_len (K := k) (S := 0) (Q := 0) (O := 0) (H := z16) (a := none) (n := 0) (c := 0) (h := z32) (p := z32) (b := none) (m := 0) (d := 0) rfl rfl rfl
  have hB1' := rcC_one (K := k) (S := 0) (Q := 0) (O := 0) (H := z16) (a := none) (n := 0) (c := 0) (h := z32) (p := z32) (b := none) (m := 0) (d := 0)
  obtain ⟨B, hB⟩ : ∃ B, rcC k 0 0 0 z16 none 0 0 z32 z32 none 0 0 = B := ⟨_, rfl⟩
  have hBH := Lib.hid hB
  rw [hB] at hbt hBl hB1'
  clear hB
  rw [hkd] at hk0
  obtain rfl := hk0
  obtain ⟨E, hdn, hbad0, hgood0⟩ := decRec_close hr hkd
  have hsr := num32 hr P1 E1
  unfold rdOne at hdn hgood0
  rw [hq1] at hdn hgood0
  dsimp only at hdn hgood0
  obtain ⟨⟨p2, e2, s⟩, hq2⟩ : ∃ q, rdNum xs P1 E1 4 = q := ⟨_, rfl⟩
  rw [hq2] at hdn hgood0 hsr
  dsimp only at hdn hgood0 hsr
  have s32 := u32_wrap hsr
  obtain ⟨rd, hrd⟩ : ∃ rd : RecV, ⟨⟨4, s, 0, 0, z16, []⟩, noBlk⟩ = rd := ⟨_, rfl⟩
  have hok : RecOk rd := by rw [← hrd]; exact ⟨ok_msg hsr zero_ok zero_ok rfl z16_range okB_nil, noBlk_ok⟩
  have hrt : rightRec rd = true := by rw [← hrd]; exact right_4 s
  have hnn : rd.b.n ≤ 100000 := by rw [← hrd]; exact Nat.zero_le _
  rw [hrd] at hgood0
  have hgood := Lib.hid (fun e : E = 0 => And.intro hok (And.intro hnn (show decRec xs = if rightRec rd = true then (rd, 0) else (noRec, 4) by rw [hrt, if_pos rfl]; exact hgood0 e)))
  have hbad := Lib.hid hbad0
  have hDq : rC rd none 0 none 0 = rcC 4 s 0 0 z16 none 0 0 z32 z32 none 0 0 := by rw [← hrd]; rfl
  have hat := fun w' => show RecAt w' rd none 0 none 0 by rw [← hrd]; exact ⟨⟨rfl, Nat.le_refl _, .inl rfl⟩, ⟨rfl, Nat.le_refl _, .inl rfl⟩⟩
  have hDl := rC_len hok none 0 none 0
  have hD1 := rC_one rd none 0 none 0
  obtain ⟨D, hD⟩ : ∃ D, rC rd none 0 none 0 = D := ⟨_, rfl⟩
  rw [hD] at hDq hDl hD1
  have hDcH := Lib.hid hDq
  have hDe := Lib.hid hD
  have hlo := Lib.hid (And.intro (fun x hx => by cases hx) (fun x hx => by cases hx) : (∀ x : Addr, none = some x → w.heap.size ≤ x.block ∧ x.block ≠ G) ∧ (∀ x : Addr, none = some x → w.heap.size ≤ x.block ∧ x.block ≠ G))
  have hatH := Lib.hid hat
  clear hkr hkd hr hI hn hln hsr hok hrt hnn hrd hD hat hDq hbad0 hgood0
  go_enter Try.func12, Try.ntmps12
  go_wp2_with ((with_reducible refine wpList_alloc_blk rfl 33 rfl hZ0 ?_); refine RowKit.Hid.out ?_)
  refine Lib.hid ?_
  clear hV
  go_wp2_with fail
  refine hnew.out.mono ?_
  rintro r w1 ⟨g, F, rfl, hR1, hF1, b1⟩
  have hG1 := hk.keep b1 hk.lt
  have hB1 := hb.trans (b1.mono hb.size)
  have nG : Hid (¬ F G) := Lib.hid (fun h => by have := hF1 _ h; have := hk.lt; omega)
  have hFg : Hid (∀ b, F b → w.heap.size ≤ b) := Lib.hid (fun b hb' => Nat.le_trans hb.size (hF1 b hb'))
  clear hk hb b1 hnew hF1
  have cn := pNum_any 1 hR1
  rw [hq1] at cn
  dsimp only at cn
  clear hR1
  go_wp2_with fail
  refine cn.mono ?_
  rintro r w2 ⟨rfl, hR2, hm2⟩
  have hG2 := blk_moved hG1 hm2 nG.out
  have hB2 := hB1.trans (hm2.below hFg.out hB1.size)
  clear cn hG1 hB1 hm2
  go_wp2_with ((with_reducible refine build_row rfl 33 #[(0, .tmp 11)] rfl (cells := B.toArray) ?_ ?_); (refine Eq.trans (congrArg _ ?_) hbt; kernel_rfl); refine RowKit.Hid.out ?_)
  refine Lib.hid ?_
  refine wpList_alloc_blk rfl 33 rfl hZ0 ?_
  try simp only [Act.put, List.setIfInBounds_toArray, List.set_cons_zero, List.set_cons_succ]
  have hGA := hG2.alloc (.cells Z.toArray 33)
  have hNA := Blk.new w2 33 Z
  have hBA := hB2.alloc hB2.size (.cells Z.toArray 33)
  have hnG : G < w2.heap.size := hG2.lt
  have hRA := hR2.keep (w' := w2.alloc (.cells Z.toArray 33)) (fun b hb => Below.heap_alloc w2 _ b (hR2.lt b hb)) (by rw [size1]; omega)
  have nN0 : ¬ F w2.heap.size := fun h => Nat.lt_irrefl _ (hR2.lt _ h)
  obtain ⟨N, hN⟩ : ∃ N, w2.heap.size = N := ⟨_, rfl⟩
  rw [hN] at hNA hnG nN0 ⊢
  have nN := Lib.hid nN0
  have nGN := Lib.hid hnG
  obtain ⟨U, hU⟩ : ∃ W, w2.alloc (.cells Z.toArray 33) = W := ⟨_, rfl⟩
  rw [hU] at hGA hNA hBA hRA ⊢
  clear hR2 hG2 hB2 hN hU nN0
  refine store_row rfl 33 (.tmp 5) (.tmp 12) rfl rfl rfl hNA rowRc hBl hZl hB1' ?_
  intro w3 hN3 hg3
  rw [← hBH.out] at hN3
  have hG3 := hGA.grown hg3 (fun e => by injection e with e; omega)
  have hR3 := hRA.far hg3 nN.out
  have hB3 := hBA.grown hg3 hBA.size (fun q hq => by injection hq with hq; have := gH.out; have := nGN.out; omega)
  have c0 := rc0 hN3
  have hFW : Hid (∀ b, With F N b → w.heap.size ≤ b) := Lib.hid (fun b hb' => by
    rcases hb' with h | h
    · exact hFg.out b h
    · have := gH.out; have := nGN.out; omega)
  have nGW : Hid (¬ With F N G) := Lib.hid (fun hb' => by
    rcases hb' with h | h
    · exact nG.out h
    · have := nGN.out; omega)
  clear hGA hNA hBA hRA hg3 hnG g9
  have cn := pNum_any 4 hR3
  rw [hq2] at cn
  dsimp only at cn
  clear hR3
  go_wp2_with fail
  refine cn.mono ?_
  rintro r w4 ⟨rfl, hR4, hm4⟩
  have hN4 := blk_moved hN3 hm4 nN.out
  have hG4 := blk_moved hG3 hm4 nG.out
  have hB4 := hB3.trans (hm4.below hFg.out hB3.size)
  have hNS := hN4.set 1 (.int .u32 s)
  rw [rcC_set1] at hNS
  have d1' := rc1 hN4
  have g1' := hN4.frozen 1
  have hgS := grown_setCell w4 N 1 (.int .u32 s)
  have hRS := hR4.far hgS nN.out
  have hGS := hG4.grown hgS (fun e => by injection e with e; have := nGN.out; omega)
  have hBS := hB4.grown hgS hB4.size (fun q hq => by injection hq with hq; have := gH.out; have := nGN.out; omega)
  have hE := Lib.hid (And.intro hRS (And.intro hNS (And.intro hGS hBS)))
  clear cn c0 hN3 hG3 hB3 hm4 hR4 hN4 hG4 hB4 hNS hgS hRS hGS hBS
  go_wp2_with fail
  clear d1' g1'
  obtain ⟨w5, hw5⟩ : ∃ W, w4.setCell ⟨N, 1, none⟩ (.int .u32 s) = W := ⟨_, rfl⟩
  rw [hw5] at hE ⊢
  clear hw5
  obtain ⟨hR5, hN5, hG5, hB5⟩ := hE.out
  clear hE
  refine (kcBehind_close (g := g) s hN5).mono ?_
  rintro r w8 ⟨rfl, rfl⟩
  have hAt8 := hatH.out w5
  have hN8 : Blk w5 N 33 D := by rw [hDcH.out]; exact hN5
  have hR8 := hR5
  have hG8 := hG5
  have hB8 := hB5
  clear hR5 hN5 hG5 hB5 hatH
  have cd := pDone_any hR8
  rw [hdn] at cd
  clear hR8
  go_wp2_with fail
  refine cd.mono ?_
  rintro r w9 ⟨rfl, b9⟩
  have hG9 := hG8.keep b9 hG8.lt
  have hN9 := hN8.keep b9 hN8.lt
  have hAt9 := hAt8.keep b9
  have hB9 := hB8.trans (b9.mono hB8.size)
  clear cd hG8 hN8 hAt8 hB8 b9
  by_cases hE0 : E = 0
  · subst hE0
    obtain ⟨hok, hnn, hdk⟩ := hgood.out rfl
    have cr := kcRight_any rd none none 0 0 w9 hok hAt9 hnn
    rw [hDe.out] at cr
    obtain ⟨K, hK⟩ : ∃ K, rightRec rd = K := ⟨_, rfl⟩
    rw [hK] at cr hdk
    have hdk := Lib.hid hdk
    have hAH := Lib.hid hAt9
    clear hbad hgood hok hnn hK hAt9
    go_wp2_with ((with_reducible refine wpList_load_blk rfl 33 (.tmp 5) rfl ?_ hN9 rowRc hDl ?_); rfl)
    refine cr.mono ?_
    rintro r w10 ⟨rfl, b10⟩
    have hG10 := hG9.keep b10 hG9.lt
    have hN10 := hN9.keep b10 hN9.lt
    have hAt10 := Lib.hid (hAH.out.keep b10)
    have hnone0 := hB9.trans (b10.mono hB9.size)
    clear cr hG9 hN9 hB9 hAH b10
    cases K with
    | true =>
      go_wp2_with ((with_reducible refine wpList_load_blk rfl 33 (.tmp 5) rfl ?_ hN10 rowRc hDl ?_); rfl; refine RowKit.Hid.out ?_)
      refine Lib.hid ?_
      try simp only [Act.put, List.setIfInBounds_toArray, List.set_cons_zero, List.set_cons_succ]
      refine store_row rfl 33 (.tmp 2) (.tmp 50) rfl rfl rfl hG10 rowRc hDl hZl hD1 ?_
      intro wY hGY hgY
      have hrC : IsRow Try.prog 33 D.length := rowRc_of hDl
      have hBY := hnone0.grown hgY hnone0.size (fun q hq => by injection hq with hq; have := gH.out; omega)
      go_wp2_with fail
      refine bodyPost_ret (results_blk_tmp rfl rfl hGY hrC) rfl ?_
      unfold DecEndR
      rw [hdk.out]
      try rw [if_pos rfl]
      refine ⟨none, 0, none, 0, ?_, ⟨hAt10.out.1.grown hgY (fun x hx _ => (hlo.out.1 x hx).2), ?_⟩, fun x hx => (hlo.out.1 x hx).1, fun x hx => (hlo.out.2 x hx).1, hBY⟩
      · rw [← hDe.out]; rfl
      refine ⟨hAt10.out.2.1, hAt10.out.2.2.1, ?_⟩
      rcases hAt10.out.2.2.2 with h0 | ⟨b', off, ha, hc⟩
      · exact .inl h0
      · exact .inr ⟨b', off, ha, fun i hi => hgY.cell (hc i hi) (fun e => by injection e with e; exact (hlo.out.2 ⟨b', off, none⟩ ha).2 e)⟩
    | false =>
      go_wp2_with ((with_reducible refine build_row rfl 33 #[] rfl (cells := Z.toArray) ?_ ?_); (refine Eq.trans (congrArg _ ?_) hbt0; kernel_rfl); refine RowKit.Hid.out ?_)
      refine Lib.hid ?_
      try simp only [Act.put, List.setIfInBounds_toArray, List.set_cons_zero, List.set_cons_succ]
      refine store_row rfl 33 (.tmp 2) (.tmp 49) rfl rfl rfl hG10 rowRc hZl hZl hZ1 ?_
      intro wY hGY hgY
      have hrZ : IsRow Try.prog 33 Z.length := rowRc_of hZl
      have hBY := hnone0.grown hgY hnone0.size (fun q hq => by injection hq with hq; have := gH.out; omega)
      go_wp2_with fail
      refine bodyPost_ret (results_blk_tmp rfl rfl hGY hrZ) rfl ?_
      unfold DecEndR
      rw [hdk.out]
      try rw [if_neg (by decide)]
      exact ⟨none, 0, none, 0, by rw [← hZH.out]; rfl, recAt_nil wY 0 0, (fun x hx => by cases hx), (fun x hx => by cases hx), hBY⟩
  · have hdk := Lib.hid (hbad.out hE0)
    have hnz : ¬ E = 0 := hE0
    have hnb : (E != 0) = true := bne_iff_ne.2 hE0
    clear hN9 hAt9 hbad hgood
    go_wp2_with ((with_reducible refine build_row rfl 33 #[] rfl (cells := Z.toArray) ?_ ?_); (refine Eq.trans (congrArg _ ?_) hbt0; kernel_rfl); refine RowKit.Hid.out ?_)
    refine Lib.hid ?_
    refine wpList_mv rfl (.tmp 6) rfl rfl ?_
    try simp only [Act.put, List.setIfInBounds_toArray, List.set_cons_zero, List.set_cons_succ]
    refine store_row rfl 33 (.tmp 2) (.tmp 44) rfl rfl rfl hG9 rowRc hZl hZl hZ1 ?_
    intro wY hGY hgY
    have hrZ : IsRow Try.prog 33 Z.length := rowRc_of hZl
    have hBY := hB9.grown hgY hB9.size (fun q hq => by injection hq with hq; have := gH.out; omega)
    go_wp2_with fail
    refine bodyPost_ret (results_blk_tmp rfl rfl hGY hrZ) rfl ?_
    unfold DecEndR
    rw [hdk.out]
    exact ⟨none, 0, none, 0, by rw [← hZH.out]; rfl, recAt_nil wY 0 0, (fun x hx => by cases hx), (fun x hx => by cases hx), hBY⟩

set_option maxRecDepth 100000 in
set_option maxHeartbeats 2000000 in
theorem kcDecode_open (a : Option Addr) (n c : Nat) (xs : List Int) (w : World) (hI : Ints .u8 w a n c xs) (hr : okB xs) (hn : n ≤ 1000000) (hk0 : kindOf xs = 1) :
    Calls Try.prog 12 #[.slice a n c] w (DecEndR xs w) := by
  have hln := hI.len
  obtain ⟨Z, hZ⟩ : ∃ Z, rC noRec none 0 none 0 = Z := ⟨_, rfl⟩
  have hZ0 : Zero Try.prog 33 Z := by rw [← hZ]; exact zeroRc
  have hZl : Z.length = 86 := by rw [← hZ]; exact rC_len noRec_ok _ _ _ _
  have hZ1 : ∀ v ∈ Z, v.oneCell' = true := by rw [← hZ]; exact rC_one _ _ _ _ _
  have hbt0 : Try.prog.built 33 [] = some Z.toArray := by rw [← hZ]; exact built_rc0
  have hZH := Lib.hid hZ
  clear hZ
  have hb := below1 w (.cells Z.toArray 33)
  have hk : Blk (w.alloc (.cells Z.toArray 33)) w.heap.size 33 Z := Blk.new w _ _
  obtain ⟨V, hV⟩ : ∃ V, w.alloc (.cells Z.toArray 33) = V := ⟨_, rfl⟩
  rw [hV] at hb hk
  have hnew := Lib.hid (pNew_any a n c xs V (hI.keep hb) hr hn)
  obtain ⟨G, g9⟩ : ∃ G, w.heap.size = G := ⟨_, rfl⟩
  rw [g9] at hk
  have gH := Lib.hid g9
  obtain ⟨⟨P1, E1, k⟩, hq1⟩ : ∃ q, rdNum xs 0 0 1 = q := ⟨_, rfl⟩
  have hkd : kindOf xs = k := by unfold kindOf; rw [hq1]
  have hkr := kindOf_range hr
  rw [hkd] at hkr
  have k64 : wrap64 k = k := by unfold wrap64; omega
  have k64' : IntKind.i64.wrap k = k := by rw [IntKind.wrap_i64]; omega
  have hbt := built_rc1 k
  have hBl := rcC_len (K := k) (S := 0) (Q := 0) (O := 0) (H := z16) (a := none) (n := 0) (c := 0) (h := z32) (p := z32) (b := none) (m := 0) (d := 0) rfl rfl rfl
  have hB1' := rcC_one (K := k) (S := 0) (Q := 0) (O := 0) (H := z16) (a := none) (n := 0) (c := 0) (h := z32) (p := z32) (b := none) (m := 0) (d := 0)
  obtain ⟨B, hB⟩ : ∃ B, rcC k 0 0 0 z16 none 0 0 z32 z32 none 0 0 = B := ⟨_, rfl⟩
  have hBH := Lib.hid hB
  rw [hB] at hbt hBl hB1'
  clear hB
  rw [hkd] at hk0
  obtain rfl := hk0
  obtain ⟨E, hdn, hbad0, hgood0⟩ := decRec_open hr hkd
  have hsr := num32 hr P1 E1
  unfold krO rdOne at hdn hgood0
  rw [hq1] at hdn hgood0
  dsimp only at hdn hgood0
  obtain ⟨⟨p2, e2, s⟩, hq2⟩ : ∃ q, rdNum xs P1 E1 4 = q := ⟨_, rfl⟩
  rw [hq2] at hdn hgood0 hsr
  dsimp only at hdn hgood0 hsr
  have hor := num8 hr p2 e2
  obtain ⟨⟨p3, e3, o⟩, hq3⟩ : ∃ q, rdNum xs p2 e2 1 = q := ⟨_, rfl⟩
  rw [hq3] at hdn hgood0 hor
  dsimp only at hdn hgood0 hor
  have s32 := u32_wrap hsr
  obtain ⟨rd, hrd⟩ : ∃ rd : RecV, ⟨⟨1, s, 0, o, z16, []⟩, noBlk⟩ = rd := ⟨_, rfl⟩
  have hok : RecOk rd := by rw [← hrd]; exact ⟨ok_msg hsr zero_ok ⟨hor.1, by omega⟩ rfl z16_range okB_nil, noBlk_ok⟩
  have hnn : rd.b.n ≤ 100000 := by rw [← hrd]; exact Nat.zero_le _
  rw [hrd] at hgood0
  have hgood := Lib.hid (fun e : E = 0 => And.intro hok (And.intro hnn (hgood0 e)))
  have hbad := Lib.hid hbad0
  have hDq : rC rd none 0 none 0 = rcC 1 s 0 o z16 none 0 0 z32 z32 none 0 0 := by rw [← hrd]; rfl
  have hat := fun w' => show RecAt w' rd none 0 none 0 by rw [← hrd]; exact ⟨⟨rfl, Nat.le_refl _, .inl rfl⟩, ⟨rfl, Nat.le_refl _, .inl rfl⟩⟩
  have hDl := rC_len hok none 0 none 0
  have hD1 := rC_one rd none 0 none 0
  obtain ⟨D, hD⟩ : ∃ D, rC rd none 0 none 0 = D := ⟨_, rfl⟩
  rw [hD] at hDq hDl hD1
  have hDcH := Lib.hid hDq
  have hDe := Lib.hid hD
  have hlo := Lib.hid (And.intro (fun x hx => by cases hx) (fun x hx => by cases hx) : (∀ x : Addr, none = some x → w.heap.size ≤ x.block ∧ x.block ≠ G) ∧ (∀ x : Addr, none = some x → w.heap.size ≤ x.block ∧ x.block ≠ G))
  have hatH := Lib.hid hat
  have hq3H := Lib.hid hq3
  clear hkr hkd hr hI hn hln hsr hok hor hnn hrd hD hat hDq hbad0 hgood0 hq3
  go_enter Try.func12, Try.ntmps12
  go_wp2_with ((with_reducible refine wpList_alloc_blk rfl 33 rfl hZ0 ?_); refine RowKit.Hid.out ?_)
  refine Lib.hid ?_
  clear hV
  go_wp2_with fail
  refine hnew.out.mono ?_
  rintro r w1 ⟨g, F, rfl, hR1, hF1, b1⟩
  have hG1 := hk.keep b1 hk.lt
  have hB1 := hb.trans (b1.mono hb.size)
  have nG : Hid (¬ F G) := Lib.hid (fun h => by have := hF1 _ h; have := hk.lt; omega)
  have hFg : Hid (∀ b, F b → w.heap.size ≤ b) := Lib.hid (fun b hb' => Nat.le_trans hb.size (hF1 b hb'))
  clear hk hb b1 hnew hF1
  have cn := pNum_any 1 hR1
  rw [hq1] at cn
  dsimp only at cn
  clear hR1
  go_wp2_with fail
  refine cn.mono ?_
  rintro r w2 ⟨rfl, hR2, hm2⟩
  have hG2 := blk_moved hG1 hm2 nG.out
  have hB2 := hB1.trans (hm2.below hFg.out hB1.size)
  clear cn hG1 hB1 hm2
  go_wp2_with ((with_reducible refine build_row rfl 33 #[(0, .tmp 11)] rfl (cells := B.toArray) ?_ ?_); (refine Eq.trans (congrArg _ ?_) hbt; kernel_rfl); refine RowKit.Hid.out ?_)
  refine Lib.hid ?_
  refine wpList_alloc_blk rfl 33 rfl hZ0 ?_
  try simp only [Act.put, List.setIfInBounds_toArray, List.set_cons_zero, List.set_cons_succ]
  have hGA := hG2.alloc (.cells Z.toArray 33)
  have hNA := Blk.new w2 33 Z
  have hBA := hB2.alloc hB2.size (.cells Z.toArray 33)
  have hnG : G < w2.heap.size := hG2.lt
  have hRA := hR2.keep (w' := w2.alloc (.cells Z.toArray 33)) (fun b hb => Below.heap_alloc w2 _ b (hR2.lt b hb)) (by rw [size1]; omega)
  have nN0 : ¬ F w2.heap.size := fun h => Nat.lt_irrefl _ (hR2.lt _ h)
  obtain ⟨N, hN⟩ : ∃ N, w2.heap.size = N := ⟨_, rfl⟩
  rw [hN] at hNA hnG nN0 ⊢
  have nN := Lib.hid nN0
  have nGN := Lib.hid hnG
  obtain ⟨U, hU⟩ : ∃ W, w2.alloc (.cells Z.toArray 33) = W := ⟨_, rfl⟩
  rw [hU] at hGA hNA hBA hRA ⊢
  clear hR2 hG2 hB2 hN hU nN0
  refine store_row rfl 33 (.tmp 5) (.tmp 12) rfl rfl rfl hNA rowRc hBl hZl hB1' ?_
  intro w3 hN3 hg3
  rw [← hBH.out] at hN3
  have hG3 := hGA.grown hg3 (fun e => by injection e with e; omega)
  have hR3 := hRA.far hg3 nN.out
  have hB3 := hBA.grown hg3 hBA.size (fun q hq => by injection hq with hq; have := gH.out; have := nGN.out; omega)
  have c0 := rc0 hN3
  have hFW : Hid (∀ b, With F N b → w.heap.size ≤ b) := Lib.hid (fun b hb' => by
    rcases hb' with h | h
    · exact hFg.out b h
    · have := gH.out; have := nGN.out; omega)
  have nGW : Hid (¬ With F N G) := Lib.hid (fun hb' => by
    rcases hb' with h | h
    · exact nG.out h
    · have := nGN.out; omega)
  clear hGA hNA hBA hRA hg3 hnG g9
  have cn := pNum_any 4 hR3
  rw [hq2] at cn
  dsimp only at cn
  clear hR3
  go_wp2_with fail
  refine cn.mono ?_
  rintro r w4 ⟨rfl, hR4, hm4⟩
  have hN4 := blk_moved hN3 hm4 nN.out
  have hG4 := blk_moved hG3 hm4 nG.out
  have hB4 := hB3.trans (hm4.below hFg.out hB3.size)
  have hNS := hN4.set 1 (.int .u32 s)
  rw [rcC_set1] at hNS
  have d1' := rc1 hN4
  have g1' := hN4.frozen 1
  have hgS := grown_setCell w4 N 1 (.int .u32 s)
  have hRS := hR4.far hgS nN.out
  have hGS := hG4.grown hgS (fun e => by injection e with e; have := nGN.out; omega)
  have hBS := hB4.grown hgS hB4.size (fun q hq => by injection hq with hq; have := gH.out; have := nGN.out; omega)
  have hE := Lib.hid (And.intro hRS (And.intro hNS (And.intro hGS hBS)))
  clear cn c0 hN3 hG3 hB3 hm4 hR4 hN4 hG4 hB4 hNS hgS hRS hGS hBS
  go_wp2_with fail
  clear d1' g1'
  obtain ⟨w5, hw5⟩ : ∃ W, w4.setCell ⟨N, 1, none⟩ (.int .u32 s) = W := ⟨_, rfl⟩
  rw [hw5] at hE ⊢
  clear hw5
  obtain ⟨hR5, hN5, hG5, hB5⟩ := hE.out
  clear hE
  have cb := kcBehind_open s hR5 hN5 nN.out
  rw [hq3H.out] at cb
  dsimp only at cb
  refine cb.mono ?_
  rintro r w8 ⟨rfl, hR8, hN8', hm8⟩
  have hN8 : Blk w8 N 33 D := by rw [hDcH.out]; exact hN8'
  have hG8 := blk_moved hG5 hm8 nGW.out
  have hB8 := hB5.trans (hm8.below hFW.out hB5.size)
  have hAt8 := hatH.out w8
  clear cb hR5 hN5 hG5 hB5 hatH hN8' hm8
  have cd := pDone_any hR8
  rw [hdn] at cd
  clear hR8
  go_wp2_with fail
  refine cd.mono ?_
  rintro r w9 ⟨rfl, b9⟩
  have hG9 := hG8.keep b9 hG8.lt
  have hN9 := hN8.keep b9 hN8.lt
  have hAt9 := hAt8.keep b9
  have hB9 := hB8.trans (b9.mono hB8.size)
  clear cd hG8 hN8 hAt8 hB8 b9
  by_cases hE0 : E = 0
  · subst hE0
    obtain ⟨hok, hnn, hdk⟩ := hgood.out rfl
    have cr := kcRight_any rd none none 0 0 w9 hok hAt9 hnn
    rw [hDe.out] at cr
    obtain ⟨K, hK⟩ : ∃ K, rightRec rd = K := ⟨_, rfl⟩
    rw [hK] at cr hdk
    have hdk := Lib.hid hdk
    have hAH := Lib.hid hAt9
    clear hbad hgood hok hnn hK hAt9
    go_wp2_with ((with_reducible refine wpList_load_blk rfl 33 (.tmp 5) rfl ?_ hN9 rowRc hDl ?_); rfl)
    refine cr.mono ?_
    rintro r w10 ⟨rfl, b10⟩
    have hG10 := hG9.keep b10 hG9.lt
    have hN10 := hN9.keep b10 hN9.lt
    have hAt10 := Lib.hid (hAH.out.keep b10)
    have hnone0 := hB9.trans (b10.mono hB9.size)
    clear cr hG9 hN9 hB9 hAH b10
    cases K with
    | true =>
      go_wp2_with ((with_reducible refine wpList_load_blk rfl 33 (.tmp 5) rfl ?_ hN10 rowRc hDl ?_); rfl; refine RowKit.Hid.out ?_)
      refine Lib.hid ?_
      try simp only [Act.put, List.setIfInBounds_toArray, List.set_cons_zero, List.set_cons_succ]
      refine store_row rfl 33 (.tmp 2) (.tmp 50) rfl rfl rfl hG10 rowRc hDl hZl hD1 ?_
      intro wY hGY hgY
      have hrC : IsRow Try.prog 33 D.length := rowRc_of hDl
      have hBY := hnone0.grown hgY hnone0.size (fun q hq => by injection hq with hq; have := gH.out; omega)
      go_wp2_with fail
      refine bodyPost_ret (results_blk_tmp rfl rfl hGY hrC) rfl ?_
      unfold DecEndR
      rw [hdk.out]
      try rw [if_pos rfl]
      refine ⟨none, 0, none, 0, ?_, ⟨hAt10.out.1.grown hgY (fun x hx _ => (hlo.out.1 x hx).2), ?_⟩, fun x hx => (hlo.out.1 x hx).1, fun x hx => (hlo.out.2 x hx).1, hBY⟩
      · rw [← hDe.out]; rfl
      refine ⟨hAt10.out.2.1, hAt10.out.2.2.1, ?_⟩
      rcases hAt10.out.2.2.2 with h0 | ⟨b', off, ha, hc⟩
      · exact .inl h0
      · exact .inr ⟨b', off, ha, fun i hi => hgY.cell (hc i hi) (fun e => by injection e with e; exact (hlo.out.2 ⟨b', off, none⟩ ha).2 e)⟩
    | false =>
      go_wp2_with ((with_reducible refine build_row rfl 33 #[] rfl (cells := Z.toArray) ?_ ?_); (refine Eq.trans (congrArg _ ?_) hbt0; kernel_rfl); refine RowKit.Hid.out ?_)
      refine Lib.hid ?_
      try simp only [Act.put, List.setIfInBounds_toArray, List.set_cons_zero, List.set_cons_succ]
      refine store_row rfl 33 (.tmp 2) (.tmp 49) rfl rfl rfl hG10 rowRc hZl hZl hZ1 ?_
      intro wY hGY hgY
      have hrZ : IsRow Try.prog 33 Z.length := rowRc_of hZl
      have hBY := hnone0.grown hgY hnone0.size (fun q hq => by injection hq with hq; have := gH.out; omega)
      go_wp2_with fail
      refine bodyPost_ret (results_blk_tmp rfl rfl hGY hrZ) rfl ?_
      unfold DecEndR
      rw [hdk.out]
      try rw [if_neg (by decide)]
      exact ⟨none, 0, none, 0, by rw [← hZH.out]; rfl, recAt_nil wY 0 0, (fun x hx => by cases hx), (fun x hx => by cases hx), hBY⟩
  · have hdk := Lib.hid (hbad.out hE0)
    have hnz : ¬ E = 0 := hE0
    have hnb : (E != 0) = true := bne_iff_ne.2 hE0
    clear hN9 hAt9 hbad hgood
    go_wp2_with ((with_reducible refine build_row rfl 33 #[] rfl (cells := Z.toArray) ?_ ?_); (refine Eq.trans (congrArg _ ?_) hbt0; kernel_rfl); refine RowKit.Hid.out ?_)
    refine Lib.hid ?_
    refine wpList_mv rfl (.tmp 6) rfl rfl ?_
    try simp only [Act.put, List.setIfInBounds_toArray, List.set_cons_zero, List.set_cons_succ]
    refine store_row rfl 33 (.tmp 2) (.tmp 44) rfl rfl rfl hG9 rowRc hZl hZl hZ1 ?_
    intro wY hGY hgY
    have hrZ : IsRow Try.prog 33 Z.length := rowRc_of hZl
    have hBY := hB9.grown hgY hB9.size (fun q hq => by injection hq with hq; have := gH.out; omega)
    go_wp2_with fail
    refine bodyPost_ret (results_blk_tmp rfl rfl hGY hrZ) rfl ?_
    unfold DecEndR
    rw [hdk.out]
    exact ⟨none, 0, none, 0, by rw [← hZH.out]; rfl, recAt_nil wY 0 0, (fun x hx => by cases hx), (fun x hx => by cases hx), hBY⟩

set_option maxRecDepth 100000 in
set_option maxHeartbeats 2000000 in
theorem kcDecode_disc (a : Option Addr) (n c : Nat) (xs : List Int) (w : World) (hI : Ints .u8 w a n c xs) (hr : okB xs) (hn : n ≤ 1000000) (hk0 : kindOf xs = 6) :
    Calls Try.prog 12 #[.slice a n c] w (DecEndR xs w) := by
  have hln := hI.len
  obtain ⟨Z, hZ⟩ : ∃ Z, rC noRec none 0 none 0 = Z := ⟨_, rfl⟩
  have hZ0 : Zero Try.prog 33 Z := by rw [← hZ]; exact zeroRc
  have hZl : Z.length = 86 := by rw [← hZ]; exact rC_len noRec_ok _ _ _ _
  have hZ1 : ∀ v ∈ Z, v.oneCell' = true := by rw [← hZ]; exact rC_one _ _ _ _ _
  have hbt0 : Try.prog.built 33 [] = some Z.toArray := by rw [← hZ]; exact built_rc0
  have hZH := Lib.hid hZ
  clear hZ
  have hb := below1 w (.cells Z.toArray 33)
  have hk : Blk (w.alloc (.cells Z.toArray 33)) w.heap.size 33 Z := Blk.new w _ _
  obtain ⟨V, hV⟩ : ∃ V, w.alloc (.cells Z.toArray 33) = V := ⟨_, rfl⟩
  rw [hV] at hb hk
  have hnew := Lib.hid (pNew_any a n c xs V (hI.keep hb) hr hn)
  obtain ⟨G, g9⟩ : ∃ G, w.heap.size = G := ⟨_, rfl⟩
  rw [g9] at hk
  have gH := Lib.hid g9
  obtain ⟨⟨P1, E1, k⟩, hq1⟩ : ∃ q, rdNum xs 0 0 1 = q := ⟨_, rfl⟩
  have hkd : kindOf xs = k := by unfold kindOf; rw [hq1]
  have hkr := kindOf_range hr
  rw [hkd] at hkr
  have k64 : wrap64 k = k := by unfold wrap64; omega
  have k64' : IntKind.i64.wrap k = k := by rw [IntKind.wrap_i64]; omega
  have hbt := built_rc1 k
  have hBl := rcC_len (K := k) (S := 0) (Q := 0) (O := 0) (H := z16) (a := none) (n := 0) (c := 0) (h := z32) (p := z32) (b := none) (m := 0) (d := 0) rfl rfl rfl
  have hB1' := rcC_one (K := k) (S := 0) (Q := 0) (O := 0) (H := z16) (a := none) (n := 0) (c := 0) (h := z32) (p := z32) (b := none) (m := 0) (d := 0)
  obtain ⟨B, hB⟩ : ∃ B, rcC k 0 0 0 z16 none 0 0 z32 z32 none 0 0 = B := ⟨_, rfl⟩
  have hBH := Lib.hid hB
  rw [hB] at hbt hBl hB1'
  clear hB
  rw [hkd] at hk0
  obtain rfl := hk0
  obtain ⟨E, hdn, hbad0, hgood0⟩ := decRec_disc hr hkd
  have hhl := krH_len xs
  unfold krD at hdn
  rw [hq1] at hdn
  dsimp only at hdn
  obtain ⟨Hh, hHh⟩ : ∃ h, krH xs = h := ⟨_, rfl⟩
  rw [hHh] at hgood0 hhl
  unfold krH at hHh
  rw [hq1] at hHh
  dsimp only at hHh
  obtain ⟨⟨p2, e2, m2⟩, hq2⟩ : ∃ q, rdStep xs.length P1 E1 32 = q := ⟨_, rfl⟩
  rw [hq2] at hdn
  dsimp only at hdn
  obtain ⟨rd, hrd⟩ : ∃ rd : RecV, ⟨⟨6, 0, 0, 0, z16, []⟩, ⟨Hh, z32, 0, []⟩⟩ = rd := ⟨_, rfl⟩
  have hok : okB Hh → RecOk rd := fun h => by rw [← hrd]; exact ⟨ok_msg zero_ok zero_ok zero_ok rfl z16_range okB_nil, ⟨hhl, rfl, rfl, h, z32_ok, okB_nil⟩⟩
  have hrt : rightRec rd = true := by rw [← hrd]; exact right_6 Hh
  have hnn : rd.b.n ≤ 100000 := by rw [← hrd]; exact Nat.zero_le _
  rw [hrd] at hgood0
  have hgood := Lib.hid (fun e : E = 0 => And.intro (hok (hgood0 e).1) (And.intro hnn (show decRec xs = if rightRec rd = true then (rd, 0) else (noRec, 4) by rw [hrt, if_pos rfl]; exact (hgood0 e).2)))
  have hbad := Lib.hid hbad0
  have hDq : rC rd none 0 none 0 = rcC 6 0 0 0 z16 none 0 0 Hh z32 none 0 0 := by rw [← hrd]; rfl
  have hat := fun w' => show RecAt w' rd none 0 none 0 by rw [← hrd]; exact ⟨⟨rfl, Nat.le_refl _, .inl rfl⟩, ⟨rfl, Nat.le_refl _, .inl rfl⟩⟩
  have hDl := rcC_len (K := 6) (S := 0) (Q := 0) (O := 0) (H := z16) (a := none) (n := 0) (c := 0) (h := Hh) (p := z32) (b := none) (m := 0) (d := 0) rfl hhl rfl
  have hD1 := rC_one rd none 0 none 0
  have x7 := rcC_over7 (K := 6) (S := 0) (Q := 0) (O := 0) (H := z16) (a := none) (n := 0) (c := 0) (h := z32) (p := z32) (b := none) (m := 0) (d := 0) rfl rfl Hh hhl
  have hB86 := hBl
  rw [← hDq] at hDl x7
  obtain ⟨D, hD⟩ : ∃ D, rC rd none 0 none 0 = D := ⟨_, rfl⟩
  rw [hD] at hDl hD1 x7
  rw [hBH.out] at x7
  have hDe := Lib.hid hD
  have hlo := Lib.hid (And.intro (fun x hx => by cases hx) (fun x hx => by cases hx) : (∀ x : Addr, none = some x → w.heap.size ≤ x.block ∧ x.block ≠ G) ∧ (∀ x : Addr, none = some x → w.heap.size ≤ x.block ∧ x.block ≠ G))
  have hatH := Lib.hid hat
  have hXl : (Hh.map (Value.int .u8)).length = 32 := by rw [List.length_map, hhl]
  have hX1 := u8_one Hh
  have hrX := rowId_of hhl
  obtain ⟨X, hX⟩ : ∃ X, Hh.map (Value.int .u8) = X := ⟨_, rfl⟩
  rw [hX] at hXl hX1 hrX x7
  have x7H := Lib.hid x7
  have hsH := Lib.hid (And.intro hHh (And.intro hq2 hX))
  clear hkr hkd hr hI hn hln hok hrt hnn hrd hD hat hDq hbad0 hgood0 hHh hX x7 hq2 hhl
  go_enter Try.func12, Try.ntmps12
  go_wp2_with ((with_reducible refine wpList_alloc_blk rfl 33 rfl hZ0 ?_); refine RowKit.Hid.out ?_)
  refine Lib.hid ?_
  clear hV
  go_wp2_with fail
  refine hnew.out.mono ?_
  rintro r w1 ⟨g, F, rfl, hR1, hF1, b1⟩
  have hG1 := hk.keep b1 hk.lt
  have hB1 := hb.trans (b1.mono hb.size)
  have nG : Hid (¬ F G) := Lib.hid (fun h => by have := hF1 _ h; have := hk.lt; omega)
  have hFg : Hid (∀ b, F b → w.heap.size ≤ b) := Lib.hid (fun b hb' => Nat.le_trans hb.size (hF1 b hb'))
  clear hk hb b1 hnew hF1
  have cn := pNum_any 1 hR1
  rw [hq1] at cn
  dsimp only at cn
  clear hR1
  go_wp2_with fail
  refine cn.mono ?_
  rintro r w2 ⟨rfl, hR2, hm2⟩
  have hG2 := blk_moved hG1 hm2 nG.out
  have hB2 := hB1.trans (hm2.below hFg.out hB1.size)
  clear cn hG1 hB1 hm2
  go_wp2_with ((with_reducible refine build_row rfl 33 #[(0, .tmp 11)] rfl (cells := B.toArray) ?_ ?_); (refine Eq.trans (congrArg _ ?_) hbt; kernel_rfl); refine RowKit.Hid.out ?_)
  refine Lib.hid ?_
  refine wpList_alloc_blk rfl 33 rfl hZ0 ?_
  try simp only [Act.put, List.setIfInBounds_toArray, List.set_cons_zero, List.set_cons_succ]
  have hGA := hG2.alloc (.cells Z.toArray 33)
  have hNA := Blk.new w2 33 Z
  have hBA := hB2.alloc hB2.size (.cells Z.toArray 33)
  have hnG : G < w2.heap.size := hG2.lt
  have hRA := hR2.keep (w' := w2.alloc (.cells Z.toArray 33)) (fun b hb => Below.heap_alloc w2 _ b (hR2.lt b hb)) (by rw [size1]; omega)
  have nN0 : ¬ F w2.heap.size := fun h => Nat.lt_irrefl _ (hR2.lt _ h)
  obtain ⟨N, hN⟩ : ∃ N, w2.heap.size = N := ⟨_, rfl⟩
  rw [hN] at hNA hnG nN0 ⊢
  have nN := Lib.hid nN0
  have nGN := Lib.hid hnG
  obtain ⟨U, hU⟩ : ∃ W, w2.alloc (.cells Z.toArray 33) = W := ⟨_, rfl⟩
  rw [hU] at hGA hNA hBA hRA ⊢
  clear hR2 hG2 hB2 hN hU nN0
  refine store_row rfl 33 (.tmp 5) (.tmp 12) rfl rfl rfl hNA rowRc hBl hZl hB1' ?_
  intro w3 hN3 hg3
  rw [← hBH.out] at hN3
  have hG3 := hGA.grown hg3 (fun e => by injection e with e; omega)
  have hR3 := hRA.far hg3 nN.out
  have hB3 := hBA.grown hg3 hBA.size (fun q hq => by injection hq with hq; have := gH.out; have := nGN.out; omega)
  have c0 := rc0 hN3
  have hFW : Hid (∀ b, With F N b → w.heap.size ≤ b) := Lib.hid (fun b hb' => by
    rcases hb' with h | h
    · exact hFg.out b h
    · have := gH.out; have := nGN.out; omega)
  have nGW : Hid (¬ With F N G) := Lib.hid (fun hb' => by
    rcases hb' with h | h
    · exact nG.out h
    · have := nGN.out; omega)
  clear hGA hNA hBA hRA hg3 hnG g9
  have cn := pId_any hR3
  rw [hsH.out.1, hsH.out.2.1, hsH.out.2.2] at cn
  dsimp only at cn
  clear hR3
  go_wp2_with fail
  refine cn.mono ?_
  rintro r w4 ⟨rfl, hR4, hm4⟩
  have hN4 := blk_moved hN3 hm4 nN.out
  have hG4 := blk_moved hG3 hm4 nG.out
  have hB4 := hB3.trans (hm4.below hFg.out hB3.size)
  rw [hBH.out] at hN4
  clear cn c0 hN3 hG3 hB3 hm4
  go_wp2_with ((with_reducible refine wpList_store_part (off := 21) rfl 28 (.tmp 37) (.tmp 35) rfl ?_ ?_ hN4 hrX ?_ hX1 ?_); rfl; rfl; (rw [hXl, hBl]; decide); refine RowKit.Hid.out ?_)
  refine Lib.hid ?_
  intro w8 hN8 hg8
  try rw [x7H.out] at hN8
  have hR8 := hR4.far hg8 nN.out
  have hG8 := hG4.grown hg8 (fun e => by injection e with e; have := nGN.out; omega)
  have hB8 := hB4.grown hg8 hB4.size (fun q hq => by injection hq with hq; have := gH.out; have := nGN.out; omega)
  have hAt8 := hatH.out w8
  clear hR4 hN4 hG4 hB4 hg8 hatH
  have cd := pDone_any hR8
  rw [hdn] at cd
  clear hR8
  go_wp2_with fail
  refine cd.mono ?_
  rintro r w9 ⟨rfl, b9⟩
  have hG9 := hG8.keep b9 hG8.lt
  have hN9 := hN8.keep b9 hN8.lt
  have hAt9 := hAt8.keep b9
  have hB9 := hB8.trans (b9.mono hB8.size)
  clear cd hG8 hN8 hAt8 hB8 b9
  by_cases hE0 : E = 0
  · subst hE0
    obtain ⟨hok, hnn, hdk⟩ := hgood.out rfl
    have cr := kcRight_any rd none none 0 0 w9 hok hAt9 hnn
    rw [hDe.out] at cr
    obtain ⟨K, hK⟩ : ∃ K, rightRec rd = K := ⟨_, rfl⟩
    rw [hK] at cr hdk
    have hdk := Lib.hid hdk
    have hAH := Lib.hid hAt9
    clear hbad hgood hok hnn hK hAt9
    go_wp2_with ((with_reducible refine wpList_load_blk rfl 33 (.tmp 5) rfl ?_ hN9 rowRc hDl ?_); rfl)
    refine cr.mono ?_
    rintro r w10 ⟨rfl, b10⟩
    have hG10 := hG9.keep b10 hG9.lt
    have hN10 := hN9.keep b10 hN9.lt
    have hAt10 := Lib.hid (hAH.out.keep b10)
    have hnone0 := hB9.trans (b10.mono hB9.size)
    clear cr hG9 hN9 hB9 hAH b10
    cases K with
    | true =>
      go_wp2_with ((with_reducible refine wpList_load_blk rfl 33 (.tmp 5) rfl ?_ hN10 rowRc hDl ?_); rfl; refine RowKit.Hid.out ?_)
      refine Lib.hid ?_
      try simp only [Act.put, List.setIfInBounds_toArray, List.set_cons_zero, List.set_cons_succ]
      refine store_row rfl 33 (.tmp 2) (.tmp 50) rfl rfl rfl hG10 rowRc hDl hZl hD1 ?_
      intro wY hGY hgY
      have hrC : IsRow Try.prog 33 D.length := rowRc_of hDl
      have hBY := hnone0.grown hgY hnone0.size (fun q hq => by injection hq with hq; have := gH.out; omega)
      go_wp2_with fail
      refine bodyPost_ret (results_blk_tmp rfl rfl hGY hrC) rfl ?_
      unfold DecEndR
      rw [hdk.out]
      try rw [if_pos rfl]
      refine ⟨none, 0, none, 0, ?_, ⟨hAt10.out.1.grown hgY (fun x hx _ => (hlo.out.1 x hx).2), ?_⟩, fun x hx => (hlo.out.1 x hx).1, fun x hx => (hlo.out.2 x hx).1, hBY⟩
      · rw [← hDe.out]; rfl
      refine ⟨hAt10.out.2.1, hAt10.out.2.2.1, ?_⟩
      rcases hAt10.out.2.2.2 with h0 | ⟨b', off, ha, hc⟩
      · exact .inl h0
      · exact .inr ⟨b', off, ha, fun i hi => hgY.cell (hc i hi) (fun e => by injection e with e; exact (hlo.out.2 ⟨b', off, none⟩ ha).2 e)⟩
    | false =>
      go_wp2_with ((with_reducible refine build_row rfl 33 #[] rfl (cells := Z.toArray) ?_ ?_); (refine Eq.trans (congrArg _ ?_) hbt0; kernel_rfl); refine RowKit.Hid.out ?_)
      refine Lib.hid ?_
      try simp only [Act.put, List.setIfInBounds_toArray, List.set_cons_zero, List.set_cons_succ]
      refine store_row rfl 33 (.tmp 2) (.tmp 49) rfl rfl rfl hG10 rowRc hZl hZl hZ1 ?_
      intro wY hGY hgY
      have hrZ : IsRow Try.prog 33 Z.length := rowRc_of hZl
      have hBY := hnone0.grown hgY hnone0.size (fun q hq => by injection hq with hq; have := gH.out; omega)
      go_wp2_with fail
      refine bodyPost_ret (results_blk_tmp rfl rfl hGY hrZ) rfl ?_
      unfold DecEndR
      rw [hdk.out]
      try rw [if_neg (by decide)]
      exact ⟨none, 0, none, 0, by rw [← hZH.out]; rfl, recAt_nil wY 0 0, (fun x hx => by cases hx), (fun x hx => by cases hx), hBY⟩
  · have hdk := Lib.hid (hbad.out hE0)
    have hnz : ¬ E = 0 := hE0
    have hnb : (E != 0) = true := bne_iff_ne.2 hE0
    clear hN9 hAt9 hbad hgood
    go_wp2_with ((with_reducible refine build_row rfl 33 #[] rfl (cells := Z.toArray) ?_ ?_); (refine Eq.trans (congrArg _ ?_) hbt0; kernel_rfl); refine RowKit.Hid.out ?_)
    refine Lib.hid ?_
    refine wpList_mv rfl (.tmp 6) rfl rfl ?_
    try simp only [Act.put, List.setIfInBounds_toArray, List.set_cons_zero, List.set_cons_succ]
    refine store_row rfl 33 (.tmp 2) (.tmp 44) rfl rfl rfl hG9 rowRc hZl hZl hZ1 ?_
    intro wY hGY hgY
    have hrZ : IsRow Try.prog 33 Z.length := rowRc_of hZl
    have hBY := hB9.grown hgY hB9.size (fun q hq => by injection hq with hq; have := gH.out; omega)
    go_wp2_with fail
    refine bodyPost_ret (results_blk_tmp rfl rfl hGY hrZ) rfl ?_
    unfold DecEndR
    rw [hdk.out]
    exact ⟨none, 0, none, 0, by rw [← hZH.out]; rfl, recAt_nil wY 0 0, (fun x hx => by cases hx), (fun x hx => by cases hx), hBY⟩

set_option maxRecDepth 100000 in
set_option maxHeartbeats 2000000 in
theorem kcDecode_conn (a : Option Addr) (n c : Nat) (xs : List Int) (w : World) (hI : Ints .u8 w a n c xs) (hr : okB xs) (hn : n ≤ 1000000) (hk0 : kindOf xs = 5) :
    Calls Try.prog 12 #[.slice a n c] w (DecEndR xs w) := by
  have hln := hI.len
  obtain ⟨Z, hZ⟩ : ∃ Z, rC noRec none 0 none 0 = Z := ⟨_, rfl⟩
  have hZ0 : Zero Try.prog 33 Z := by rw [← hZ]; exact zeroRc
  have hZl : Z.length = 86 := by rw [← hZ]; exact rC_len noRec_ok _ _ _ _
  have hZ1 : ∀ v ∈ Z, v.oneCell' = true := by rw [← hZ]; exact rC_one _ _ _ _ _
  have hbt0 : Try.prog.built 33 [] = some Z.toArray := by rw [← hZ]; exact built_rc0
  have hZH := Lib.hid hZ
  clear hZ
  have hb := below1 w (.cells Z.toArray 33)
  have hk : Blk (w.alloc (.cells Z.toArray 33)) w.heap.size 33 Z := Blk.new w _ _
  obtain ⟨V, hV⟩ : ∃ V, w.alloc (.cells Z.toArray 33) = V := ⟨_, rfl⟩
  rw [hV] at hb hk
  have hnew := Lib.hid (pNew_any a n c xs V (hI.keep hb) hr hn)
  obtain ⟨G, g9⟩ : ∃ G, w.heap.size = G := ⟨_, rfl⟩
  rw [g9] at hk
  have gH := Lib.hid g9
  obtain ⟨⟨P1, E1, k⟩, hq1⟩ : ∃ q, rdNum xs 0 0 1 = q := ⟨_, rfl⟩
  have hkd : kindOf xs = k := by unfold kindOf; rw [hq1]
  have hkr := kindOf_range hr
  rw [hkd] at hkr
  have k64 : wrap64 k = k := by unfold wrap64; omega
  have k64' : IntKind.i64.wrap k = k := by rw [IntKind.wrap_i64]; omega
  have hbt := built_rc1 k
  have hBl := rcC_len (K := k) (S := 0) (Q := 0) (O := 0) (H := z16) (a := none) (n := 0) (c := 0) (h := z32) (p := z32) (b := none) (m := 0) (d := 0) rfl rfl rfl
  have hB1' := rcC_one (K := k) (S := 0) (Q := 0) (O := 0) (H := z16) (a := none) (n := 0) (c := 0) (h := z32) (p := z32) (b := none) (m := 0) (d := 0)
  obtain ⟨B, hB⟩ : ∃ B, rcC k 0 0 0 z16 none 0 0 z32 z32 none 0 0 = B := ⟨_, rfl⟩
  have hBH := Lib.hid hB
  rw [hB] at hbt hBl hB1'
  clear hB
  rw [hkd] at hk0
  obtain rfl := hk0
  obtain ⟨hP1, hE1, hx1, hbad0, hgood0⟩ := decRec_conn hkd
  rw [hq1] at hP1 hE1
  dsimp only at hP1 hE1
  subst hP1; subst hE1
  have hdok := decK_ok (okB_drop hr 1)
  have hdn0 : (decK (xs.drop 1)).2 = 0 → (decK (xs.drop 1)).1.n ≤ 100000 := fun e => by have := rightK_le (enc_dec (okB_drop hr 1) e).2.1; omega
  obtain ⟨⟨Bv, E⟩, hq2⟩ : ∃ q, decK (xs.drop 1) = q := ⟨_, rfl⟩
  have hdrt : E = 0 → rightK Bv = true := fun e => by have := (enc_dec (okB_drop hr 1) (by rw [hq2]; exact e)).2.1; rw [hq2] at this; exact this
  rw [hq2] at hbad0 hgood0 hdok hdn0
  dsimp only at hbad0 hgood0 hdok hdn0
  have hdn : doneOf xs.length (xs.length : Int) E = E := by
    by_cases he : E = 0
    · rw [he, doneOf_ok, if_neg (Nat.lt_irrefl _)]
    · exact doneOf_bad he
  obtain ⟨rd, hrd⟩ : ∃ rd : RecV, ⟨⟨5, 0, 0, 0, z16, []⟩, Bv⟩ = rd := ⟨_, rfl⟩
  have hok : RecOk rd := by rw [← hrd]; exact ⟨ok_msg zero_ok zero_ok zero_ok rfl z16_range okB_nil, hdok⟩
  have hrt : E = 0 → rightRec rd = true := fun e => by rw [← hrd]; exact right_5 Bv (hdrt e)
  have hnn : E = 0 → rd.b.n ≤ 100000 := fun e => by rw [← hrd]; exact hdn0 e
  rw [hrd] at hgood0
  have hgood := Lib.hid (fun e : E = 0 => And.intro hok (And.intro (hnn e) (show decRec xs = if rightRec rd = true then (rd, 0) else (noRec, 4) by rw [hrt e, if_pos rfl]; exact hgood0 e)))
  have hbad := Lib.hid hbad0
  have hat := fun w' b d => show IdsAt w' b Bv.n d Bv.ids → RecAt w' rd none 0 b d by rw [← hrd]; exact fun h => ⟨⟨rfl, Nat.le_refl _, .inl rfl⟩, h⟩
  have hDl := fun b d => rC_len hok none 0 b d
  have hD1 := fun b d => rC_one rd none 0 b d
  have x6 := fun b d => rcC_over6 (K := 5) (S := 0) (Q := 0) (O := 0) (H := z16) (a := none) (n := 0) (c := 0) (h := z32) (p := z32) (b := none) (m := 0) (d := 0) rfl rfl rfl Bv.hash Bv.parent b Bv.n d hdok.1 hdok.2.1
  have hXl := fun b d => bkC_len (a := b) (n := Bv.n) (c := d) hdok.1 hdok.2.1
  have hX1 := fun b d => bkC_one Bv.hash Bv.parent b Bv.n d
  have hDq : ∀ b d, rcC 5 0 0 0 z16 none 0 0 Bv.hash Bv.parent b Bv.n d = rC rd none 0 b d := fun b d => by rw [← hrd]; rfl
  obtain ⟨Dd, hDd⟩ : ∃ D : Option Addr → Nat → List Value, ∀ b d, rC rd none 0 b d = D b d := ⟨_, fun _ _ => rfl⟩
  obtain ⟨Xx, hXx⟩ : ∃ D : Option Addr → Nat → List Value, ∀ b d, bC Bv b d = D b d := ⟨_, fun _ _ => rfl⟩
  have hDl := fun b d => show (Dd b d).length = 86 by rw [← hDd]; exact hDl b d
  have hD1 := fun b d => show ∀ v ∈ Dd b d, v.oneCell' = true by rw [← hDd]; exact hD1 b d
  have hXl := fun b d => show (Xx b d).length = 65 by rw [← hXx]; exact hXl b d
  have hX1 := fun b d => show ∀ v ∈ Xx b d, v.oneCell' = true by rw [← hXx]; exact hX1 b d
  have x6 := fun b d => show overV B 21 (Xx b d) = Dd b d by rw [← hXx, ← hDd, ← hDq, ← hBH.out]; exact x6 b d
  have hDlF := Lib.hid hDl
  have hD1F := Lib.hid hD1
  have hXlF := Lib.hid hXl
  have hX1F := Lib.hid hX1
  have hDdH := Lib.hid hDd
  have hatH := Lib.hid hat
  have x6H := Lib.hid x6
  have hsH := Lib.hid (And.intro hq2 hXx)
  clear hkr hkd hr hI hn hln hok hrt hnn hrd hat hDq hbad0 hgood0 hDd hXx hDl hD1 hXl hX1 x6 hq2 hdok hdn0 hdrt hx1
  go_enter Try.func12, Try.ntmps12
  go_wp2_with ((with_reducible refine wpList_alloc_blk rfl 33 rfl hZ0 ?_); refine RowKit.Hid.out ?_)
  refine Lib.hid ?_
  clear hV
  go_wp2_with fail
  refine hnew.out.mono ?_
  rintro r w1 ⟨g, F, rfl, hR1, hF1, b1⟩
  have hG1 := hk.keep b1 hk.lt
  have hB1 := hb.trans (b1.mono hb.size)
  have nG : Hid (¬ F G) := Lib.hid (fun h => by have := hF1 _ h; have := hk.lt; omega)
  have hFg : Hid (∀ b, F b → w.heap.size ≤ b) := Lib.hid (fun b hb' => Nat.le_trans hb.size (hF1 b hb'))
  clear hk hb b1 hnew hF1
  have cn := pNum_any 1 hR1
  rw [hq1] at cn
  dsimp only at cn
  clear hR1
  go_wp2_with fail
  refine cn.mono ?_
  rintro r w2 ⟨rfl, hR2, hm2⟩
  have hG2 := blk_moved hG1 hm2 nG.out
  have hB2 := hB1.trans (hm2.below hFg.out hB1.size)
  clear cn hG1 hB1 hm2
  go_wp2_with ((with_reducible refine build_row rfl 33 #[(0, .tmp 11)] rfl (cells := B.toArray) ?_ ?_); (refine Eq.trans (congrArg _ ?_) hbt; kernel_rfl); refine RowKit.Hid.out ?_)
  refine Lib.hid ?_
  refine wpList_alloc_blk rfl 33 rfl hZ0 ?_
  try simp only [Act.put, List.setIfInBounds_toArray, List.set_cons_zero, List.set_cons_succ]
  have hGA := hG2.alloc (.cells Z.toArray 33)
  have hNA := Blk.new w2 33 Z
  have hBA := hB2.alloc hB2.size (.cells Z.toArray 33)
  have hnG : G < w2.heap.size := hG2.lt
  have hRA := hR2.keep (w' := w2.alloc (.cells Z.toArray 33)) (fun b hb => Below.heap_alloc w2 _ b (hR2.lt b hb)) (by rw [size1]; omega)
  have nN0 : ¬ F w2.heap.size := fun h => Nat.lt_irrefl _ (hR2.lt _ h)
  obtain ⟨N, hN⟩ : ∃ N, w2.heap.size = N := ⟨_, rfl⟩
  rw [hN] at hNA hnG nN0 ⊢
  have nN := Lib.hid nN0
  have nGN := Lib.hid hnG
  obtain ⟨U, hU⟩ : ∃ W, w2.alloc (.cells Z.toArray 33) = W := ⟨_, rfl⟩
  rw [hU] at hGA hNA hBA hRA ⊢
  clear hR2 hG2 hB2 hN hU nN0
  refine store_row rfl 33 (.tmp 5) (.tmp 12) rfl rfl rfl hNA rowRc hBl hZl hB1' ?_
  intro w3 hN3 hg3
  rw [← hBH.out] at hN3
  have hG3 := hGA.grown hg3 (fun e => by injection e with e; omega)
  have hR3 := hRA.far hg3 nN.out
  have hB3 := hBA.grown hg3 hBA.size (fun q hq => by injection hq with hq; have := gH.out; have := nGN.out; omega)
  have c0 := rc0 hN3
  have hFW : Hid (∀ b, With F N b → w.heap.size ≤ b) := Lib.hid (fun b hb' => by
    rcases hb' with h | h
    · exact hFg.out b h
    · have := gH.out; have := nGN.out; omega)
  have nGW : Hid (¬ With F N G) := Lib.hid (fun hb' => by
    rcases hb' with h | h
    · exact nG.out h
    · have := nGN.out; omega)
  clear hGA hNA hBA hRA hg3 hnG g9
  have cb := kcReadBlock_any hR3
  rw [hsH.out.1] at cb
  dsimp only at cb
  simp only [hsH.out.2] at cb
  clear hR3
  go_wp2_with fail
  refine cb.mono ?_
  rintro r w4 ⟨b7, d7, rfl, hT4, hlo4, hR4, hm4⟩
  have hN4 := blk_moved hN3 hm4 nN.out
  have hG4 := blk_moved hG3 hm4 nG.out
  have hB4 := hB3.trans (hm4.below hFg.out hB3.size)
  rw [hBH.out] at hN4
  have hGl := hG3.lt
  have hNl := hN3.lt
  have hws := hB3.size
  have hsep : ∀ x, b7 = some x → w.heap.size ≤ x.block ∧ x.block ≠ G ∧ x.block ≠ N := fun x hx => by
    have := (hlo4 x hx).1
    exact ⟨by omega, by omega, by omega⟩
  have hXl := hXlF.out b7 d7
  have hX1 := hX1F.out b7 d7
  have hDl := hDlF.out b7 d7
  have hD1 := hD1F.out b7 d7
  have hx6 := Lib.hid (x6H.out b7 d7)
  have hDe := hDdH.out b7 d7
  have hat := hatH.out
  obtain ⟨X, hX⟩ : ∃ X, Xx b7 d7 = X := ⟨_, rfl⟩
  rw [hX] at hXl hX1 hx6 ⊢
  have hrX : IsRow Try.prog 31 X.length := rowBk_of hXl
  obtain ⟨D, hD⟩ : ∃ X, Dd b7 d7 = X := ⟨_, rfl⟩
  rw [hD] at hDl hD1 hx6 hDe
  have hDe := Lib.hid hDe
  have hsepH := Lib.hid hsep
  have hatH := Lib.hid hat
  clear cb c0 hN3 hG3 hB3 hm4 hGl hNl hws hsep hlo4 hX hD hat hDlF hD1F hXlF hX1F hDdH x6H
  go_wp2_with ((with_reducible refine wpList_store_part (off := 21) rfl 31 (.tmp 33) (.tmp 32) rfl ?_ ?_ hN4 hrX ?_ hX1 ?_); rfl; rfl; (rw [hXl, hBl]; decide); refine RowKit.Hid.out ?_)
  refine Lib.hid ?_
  intro w8 hN8 hg8
  try rw [hx6.out] at hN8
  have hR8 := hR4.far hg8 nN.out
  have hG8 := hG4.grown hg8 (fun e => by injection e with e; have := nGN.out; omega)
  have hB8 := hB4.grown hg8 hB4.size (fun q hq => by injection hq with hq; have := gH.out; have := nGN.out; omega)
  have hT8 : IdsAt w8 b7 Bv.n d7 Bv.ids := by
    refine ⟨hT4.1, hT4.2.1, ?_⟩
    rcases hT4.2.2 with h0 | ⟨b', off, ha, hc⟩
    · exact .inl h0
    · exact .inr ⟨b', off, ha, fun i hi => hg8.cell (hc i hi) (fun e => by injection e with e; exact (hsepH.out ⟨b', off, none⟩ ha).2.2 e)⟩
  have hAt8 := hatH.out w8 b7 d7 hT8
  have hlo : Hid ((∀ x : Addr, none = some x → w.heap.size ≤ x.block ∧ x.block ≠ G) ∧ (∀ x : Addr, b7 = some x → w.heap.size ≤ x.block ∧ x.block ≠ G)) := Lib.hid (And.intro (fun x hx => by cases hx) (fun x hx => ⟨(hsepH.out x hx).1, (hsepH.out x hx).2.1⟩))
  clear hR4 hN4 hG4 hB4 hT4 hg8 hatH hT8
  have cd := pDone_any hR8
  rw [hdn] at cd
  clear hR8
  go_wp2_with fail
  refine cd.mono ?_
  rintro r w9 ⟨rfl, b9⟩
  have hG9 := hG8.keep b9 hG8.lt
  have hN9 := hN8.keep b9 hN8.lt
  have hAt9 := hAt8.keep b9
  have hB9 := hB8.trans (b9.mono hB8.size)
  clear cd hG8 hN8 hAt8 hB8 b9
  by_cases hE0 : E = 0
  · subst hE0
    obtain ⟨hok, hnn, hdk⟩ := hgood.out rfl
    have cr := kcRight_any rd none b7 0 d7 w9 hok hAt9 hnn
    rw [hDe.out] at cr
    obtain ⟨K, hK⟩ : ∃ K, rightRec rd = K := ⟨_, rfl⟩
    rw [hK] at cr hdk
    have hdk := Lib.hid hdk
    have hAH := Lib.hid hAt9
    clear hbad hgood hok hnn hK hAt9
    go_wp2_with ((with_reducible refine wpList_load_blk rfl 33 (.tmp 5) rfl ?_ hN9 rowRc hDl ?_); rfl)
    refine cr.mono ?_
    rintro r w10 ⟨rfl, b10⟩
    have hG10 := hG9.keep b10 hG9.lt
    have hN10 := hN9.keep b10 hN9.lt
    have hAt10 := Lib.hid (hAH.out.keep b10)
    have hb70 := hB9.trans (b10.mono hB9.size)
    clear cr hG9 hN9 hB9 hAH b10
    cases K with
    | true =>
      go_wp2_with ((with_reducible refine wpList_load_blk rfl 33 (.tmp 5) rfl ?_ hN10 rowRc hDl ?_); rfl; refine RowKit.Hid.out ?_)
      refine Lib.hid ?_
      try simp only [Act.put, List.setIfInBounds_toArray, List.set_cons_zero, List.set_cons_succ]
      refine store_row rfl 33 (.tmp 2) (.tmp 50) rfl rfl rfl hG10 rowRc hDl hZl hD1 ?_
      intro wY hGY hgY
      have hrC : IsRow Try.prog 33 D.length := rowRc_of hDl
      have hBY := hb70.grown hgY hb70.size (fun q hq => by injection hq with hq; have := gH.out; omega)
      go_wp2_with fail
      refine bodyPost_ret (results_blk_tmp rfl rfl hGY hrC) rfl ?_
      unfold DecEndR
      rw [hdk.out]
      try rw [if_pos rfl]
      refine ⟨none, 0, b7, d7, ?_, ⟨hAt10.out.1.grown hgY (fun x hx _ => (hlo.out.1 x hx).2), ?_⟩, fun x hx => (hlo.out.1 x hx).1, fun x hx => (hlo.out.2 x hx).1, hBY⟩
      · rw [← hDe.out]; rfl
      refine ⟨hAt10.out.2.1, hAt10.out.2.2.1, ?_⟩
      rcases hAt10.out.2.2.2 with h0 | ⟨b', off, ha, hc⟩
      · exact .inl h0
      · exact .inr ⟨b', off, ha, fun i hi => hgY.cell (hc i hi) (fun e => by injection e with e; exact (hlo.out.2 ⟨b', off, none⟩ ha).2 e)⟩
    | false =>
      go_wp2_with ((with_reducible refine build_row rfl 33 #[] rfl (cells := Z.toArray) ?_ ?_); (refine Eq.trans (congrArg _ ?_) hbt0; kernel_rfl); refine RowKit.Hid.out ?_)
      refine Lib.hid ?_
      try simp only [Act.put, List.setIfInBounds_toArray, List.set_cons_zero, List.set_cons_succ]
      refine store_row rfl 33 (.tmp 2) (.tmp 49) rfl rfl rfl hG10 rowRc hZl hZl hZ1 ?_
      intro wY hGY hgY
      have hrZ : IsRow Try.prog 33 Z.length := rowRc_of hZl
      have hBY := hb70.grown hgY hb70.size (fun q hq => by injection hq with hq; have := gH.out; omega)
      go_wp2_with fail
      refine bodyPost_ret (results_blk_tmp rfl rfl hGY hrZ) rfl ?_
      unfold DecEndR
      rw [hdk.out]
      try rw [if_neg (by decide)]
      exact ⟨none, 0, none, 0, by rw [← hZH.out]; rfl, recAt_nil wY 0 0, (fun x hx => by cases hx), (fun x hx => by cases hx), hBY⟩
  · have hdk := Lib.hid (hbad.out hE0)
    have hnz : ¬ E = 0 := hE0
    have hnb : (E != 0) = true := bne_iff_ne.2 hE0
    clear hN9 hAt9 hbad hgood
    go_wp2_with ((with_reducible refine build_row rfl 33 #[] rfl (cells := Z.toArray) ?_ ?_); (refine Eq.trans (congrArg _ ?_) hbt0; kernel_rfl); refine RowKit.Hid.out ?_)
    refine Lib.hid ?_
    refine wpList_mv rfl (.tmp 6) rfl rfl ?_
    try simp only [Act.put, List.setIfInBounds_toArray, List.set_cons_zero, List.set_cons_succ]
    refine store_row rfl 33 (.tmp 2) (.tmp 44) rfl rfl rfl hG9 rowRc hZl hZl hZ1 ?_
    intro wY hGY hgY
    have hrZ : IsRow Try.prog 33 Z.length := rowRc_of hZl
    have hBY := hB9.grown hgY hB9.size (fun q hq => by injection hq with hq; have := gH.out; omega)
    go_wp2_with fail
    refine bodyPost_ret (results_blk_tmp rfl rfl hGY hrZ) rfl ?_
    unfold DecEndR
    rw [hdk.out]
    exact ⟨none, 0, none, 0, by rw [← hZH.out]; rfl, recAt_nil wY 0 0, (fun x hx => by cases hx), (fun x hx => by cases hx), hBY⟩

set_option maxRecDepth 100000 in
set_option maxHeartbeats 2000000 in
theorem kcDecode_upload (a : Option Addr) (n c : Nat) (xs : List Int) (w : World) (hI : Ints .u8 w a n c xs) (hr : okB xs) (hn : n ≤ 1000000) (hk0 : kindOf xs = 2) :
    Calls Try.prog 12 #[.slice a n c] w (DecEndR xs w) := by
  have hln := hI.len
  obtain ⟨Z, hZ⟩ : ∃ Z, rC noRec none 0 none 0 = Z := ⟨_, rfl⟩
  have hZ0 : Zero Try.prog 33 Z := by rw [← hZ]; exact zeroRc
  have hZl : Z.length = 86 := by rw [← hZ]; exact rC_len noRec_ok _ _ _ _
  have hZ1 : ∀ v ∈ Z, v.oneCell' = true := by rw [← hZ]; exact rC_one _ _ _ _ _
  have hbt0 : Try.prog.built 33 [] = some Z.toArray := by rw [← hZ]; exact built_rc0
  have hZH := Lib.hid hZ
  clear hZ
  have hb := below1 w (.cells Z.toArray 33)
  have hk : Blk (w.alloc (.cells Z.toArray 33)) w.heap.size 33 Z := Blk.new w _ _
  obtain ⟨V, hV⟩ : ∃ V, w.alloc (.cells Z.toArray 33) = V := ⟨_, rfl⟩
  rw [hV] at hb hk
  have hnew := Lib.hid (pNew_any a n c xs V (hI.keep hb) hr hn)
  obtain ⟨G, g9⟩ : ∃ G, w.heap.size = G := ⟨_, rfl⟩
  rw [g9] at hk
  have gH := Lib.hid g9
  obtain ⟨⟨P1, E1, k⟩, hq1⟩ : ∃ q, rdNum xs 0 0 1 = q := ⟨_, rfl⟩
  have hkd : kindOf xs = k := by unfold kindOf; rw [hq1]
  have hkr := kindOf_range hr
  rw [hkd] at hkr
  have k64 : wrap64 k = k := by unfold wrap64; omega
  have k64' : IntKind.i64.wrap k = k := by rw [IntKind.wrap_i64]; omega
  have hbt := built_rc1 k
  have hBl := rcC_len (K := k) (S := 0) (Q := 0) (O := 0) (H := z16) (a := none) (n := 0) (c := 0) (h := z32) (p := z32) (b := none) (m := 0) (d := 0) rfl rfl rfl
  have hB1' := rcC_one (K := k) (S := 0) (Q := 0) (O := 0) (H := z16) (a := none) (n := 0) (c := 0) (h := z32) (p := z32) (b := none) (m := 0) (d := 0)
  obtain ⟨B, hB⟩ : ∃ B, rcC k 0 0 0 z16 none 0 0 z32 z32 none 0 0 = B := ⟨_, rfl⟩
  have hBH := Lib.hid hB
  rw [hB] at hbt hBl hB1'
  clear hB
  rw [hkd] at hk0
  obtain rfl := hk0
  obtain ⟨E, hdn, hbad0, hgood0⟩ := decRec_upload hr hkd
  have hsr := num32 hr P1 E1
  have hyok := krB_ok hr
  have hhl := upH_len (xs := xs)
  obtain ⟨A, hA⟩ : ∃ A, krA xs = A := ⟨_, rfl⟩
  obtain ⟨ys, hys⟩ : ∃ A, krB xs = A := ⟨_, rfl⟩
  obtain ⟨Hh, hHh⟩ : ∃ A, upH xs = A := ⟨_, rfl⟩
  rw [hys, hHh] at hgood0
  rw [hys] at hyok
  rw [hHh] at hhl
  unfold krU at hdn
  unfold krB at hys
  rw [hA] at hdn hys
  unfold krA at hA
  unfold up4 at hdn hys hA
  unfold upH at hHh
  unfold up3 rdOne at hdn hgood0 hys hA hHh
  rw [hq1] at hdn hgood0 hys hA hHh
  dsimp only at hdn hgood0 hys hA hHh
  obtain ⟨⟨p2, e2, s⟩, hq2⟩ : ∃ q, rdNum xs P1 E1 4 = q := ⟨_, rfl⟩
  rw [hq2] at hdn hgood0 hsr hys hA hHh
  dsimp only at hdn hgood0 hsr hys hA hHh
  have hQr := num32 hr p2 e2
  obtain ⟨⟨p3, e3, Q⟩, hq3⟩ : ∃ q, rdNum xs p2 e2 4 = q := ⟨_, rfl⟩
  rw [hq3] at hdn hgood0 hQr hys hA hHh
  dsimp only at hdn hgood0 hQr hys hA hHh
  obtain ⟨⟨p4, e4, m4⟩, hq4⟩ : ∃ q, rdStep xs.length p3 e3 16 = q := ⟨_, rfl⟩
  rw [hq4] at hdn hys hA
  dsimp only at hdn hys hA
  obtain ⟨⟨p5, e5, k5⟩, hq5⟩ : ∃ q, rdStep xs.length p4 e4 A = q := ⟨_, rfl⟩
  rw [hq5] at hdn
  dsimp only at hdn
  have s32 := u32_wrap hsr
  obtain ⟨rd, hrd⟩ : ∃ rd : RecV, ⟨⟨2, s, Q, 0, Hh, ys⟩, noBlk⟩ = rd := ⟨_, rfl⟩
  have hok : okB Hh → RecOk rd := fun h => by rw [← hrd]; exact ⟨ok_msg hsr hQr zero_ok hhl h hyok, noBlk_ok⟩
  have hrt : ys.length ≤ 600 → rightRec rd = true := fun h => by rw [← hrd]; exact right_2 s Q Hh ys h
  have hnn : rd.b.n ≤ 100000 := by rw [← hrd]; exact Nat.zero_le _
  rw [hrd] at hgood0
  have hgood := Lib.hid (fun e : E = 0 => And.intro (hok (hgood0 e).1) (And.intro hnn (show decRec xs = if rightRec rd = true then (rd, 0) else (noRec, 4) by rw [hrt (hgood0 e).2.1, if_pos rfl]; exact (hgood0 e).2.2)))
  have hbad := Lib.hid hbad0
  have hat := Lib.hid (fun w' a c => show Ints .u8 w' a ys.length c ys → RecAt w' rd a c none 0 by rw [← hrd]; exact fun h => ⟨h, ⟨rfl, Nat.le_refl _, .inl rfl⟩⟩)
  have hDlF := Lib.hid (fun a n c => rcC_len (K := 2) (S := s) (Q := Q) (O := 0) (H := Hh) (a := a) (n := n) (c := c) (h := z32) (p := z32) (b := none) (m := 0) (d := 0) hhl rfl rfl)
  have hDq := Lib.hid (fun a c => show rC rd a c none 0 = rcC 2 s Q 0 Hh a ys.length c z32 z32 none 0 0 by rw [← hrd]; rfl)
  have hqs := Lib.hid (And.intro hq3 (And.intro hq4 (And.intro hHh (And.intro hhl (And.intro hA (And.intro hq5 hys))))))
  clear hkr hkd hr hI hn hln hsr hQr hok hrt hnn hrd hbad0 hgood0 hq3 hq4 hHh hhl hA hq5 hys hyok
  go_enter Try.func12, Try.ntmps12
  go_wp2_with ((with_reducible refine wpList_alloc_blk rfl 33 rfl hZ0 ?_); refine RowKit.Hid.out ?_)
  refine Lib.hid ?_
  clear hV
  go_wp2_with fail
  refine hnew.out.mono ?_
  rintro r w1 ⟨g, F, rfl, hR1, hF1, b1⟩
  have hG1 := hk.keep b1 hk.lt
  have hB1 := hb.trans (b1.mono hb.size)
  have nG : Hid (¬ F G) := Lib.hid (fun h => by have := hF1 _ h; have := hk.lt; omega)
  have hFg : Hid (∀ b, F b → w.heap.size ≤ b) := Lib.hid (fun b hb' => Nat.le_trans hb.size (hF1 b hb'))
  clear hk hb b1 hnew hF1
  have cn := pNum_any 1 hR1
  rw [hq1] at cn
  dsimp only at cn
  clear hR1
  go_wp2_with fail
  refine cn.mono ?_
  rintro r w2 ⟨rfl, hR2, hm2⟩
  have hG2 := blk_moved hG1 hm2 nG.out
  have hB2 := hB1.trans (hm2.below hFg.out hB1.size)
  clear cn hG1 hB1 hm2
  go_wp2_with ((with_reducible refine build_row rfl 33 #[(0, .tmp 11)] rfl (cells := B.toArray) ?_ ?_); (refine Eq.trans (congrArg _ ?_) hbt; kernel_rfl); refine RowKit.Hid.out ?_)
  refine Lib.hid ?_
  refine wpList_alloc_blk rfl 33 rfl hZ0 ?_
  try simp only [Act.put, List.setIfInBounds_toArray, List.set_cons_zero, List.set_cons_succ]
  have hGA := hG2.alloc (.cells Z.toArray 33)
  have hNA := Blk.new w2 33 Z
  have hBA := hB2.alloc hB2.size (.cells Z.toArray 33)
  have hnG : G < w2.heap.size := hG2.lt
  have hRA := hR2.keep (w' := w2.alloc (.cells Z.toArray 33)) (fun b hb => Below.heap_alloc w2 _ b (hR2.lt b hb)) (by rw [size1]; omega)
  have nN0 : ¬ F w2.heap.size := fun h => Nat.lt_irrefl _ (hR2.lt _ h)
  obtain ⟨N, hN⟩ : ∃ N, w2.heap.size = N := ⟨_, rfl⟩
  rw [hN] at hNA hnG nN0 ⊢
  have nN := Lib.hid nN0
  have nGN := Lib.hid hnG
  obtain ⟨U, hU⟩ : ∃ W, w2.alloc (.cells Z.toArray 33) = W := ⟨_, rfl⟩
  rw [hU] at hGA hNA hBA hRA ⊢
  clear hR2 hG2 hB2 hN hU nN0
  refine store_row rfl 33 (.tmp 5) (.tmp 12) rfl rfl rfl hNA rowRc hBl hZl hB1' ?_
  intro w3 hN3 hg3
  rw [← hBH.out] at hN3
  have hG3 := hGA.grown hg3 (fun e => by injection e with e; omega)
  have hR3 := hRA.far hg3 nN.out
  have hB3 := hBA.grown hg3 hBA.size (fun q hq => by injection hq with hq; have := gH.out; have := nGN.out; omega)
  have c0 := rc0 hN3
  have hFW : Hid (∀ b, With F N b → w.heap.size ≤ b) := Lib.hid (fun b hb' => by
    rcases hb' with h | h
    · exact hFg.out b h
    · have := gH.out; have := nGN.out; omega)
  have nGW : Hid (¬ With F N G) := Lib.hid (fun hb' => by
    rcases hb' with h | h
    · exact nG.out h
    · have := nGN.out; omega)
  clear hGA hNA hBA hRA hg3 hnG g9
  have cn := pNum_any 4 hR3
  rw [hq2] at cn
  dsimp only at cn
  clear hR3
  go_wp2_with fail
  refine cn.mono ?_
  rintro r w4 ⟨rfl, hR4, hm4⟩
  have hN4 := blk_moved hN3 hm4 nN.out
  have hG4 := blk_moved hG3 hm4 nG.out
  have hB4 := hB3.trans (hm4.below hFg.out hB3.size)
  have hNS := hN4.set 1 (.int .u32 s)
  rw [rcC_set1] at hNS
  have d1' := rc1 hN4
  have g1' := hN4.frozen 1
  have hgS := grown_setCell w4 N 1 (.int .u32 s)
  have hRS := hR4.far hgS nN.out
  have hGS := hG4.grown hgS (fun e => by injection e with e; have := nGN.out; omega)
  have hBS := hB4.grown hgS hB4.size (fun q hq => by injection hq with hq; have := gH.out; have := nGN.out; omega)
  have hE := Lib.hid (And.intro hRS (And.intro hNS (And.intro hGS hBS)))
  clear cn c0 hN3 hG3 hB3 hm4 hR4 hN4 hG4 hB4 hNS hgS hRS hGS hBS
  go_wp2_with fail
  clear d1' g1'
  obtain ⟨w5, hw5⟩ : ∃ W, w4.setCell ⟨N, 1, none⟩ (.int .u32 s) = W := ⟨_, rfl⟩
  rw [hw5] at hE ⊢
  clear hw5
  obtain ⟨hR5, hN5, hG5, hB5⟩ := hE.out
  clear hE
  have cb := kcBehind_upload s hR5 hN5 nN.out hqs.out.1 hqs.out.2.1 hqs.out.2.2.1 hqs.out.2.2.2.1 hqs.out.2.2.2.2.1 hqs.out.2.2.2.2.2.1 hqs.out.2.2.2.2.2.2
  refine cb.mono ?_
  rintro r w8 ⟨a7, c7, rfl, hR8, hN8, hI8, hsep, hm8⟩
  obtain rfl := hI8.len
  have hG8 := blk_moved hG5 hm8 nGW.out
  have hB8 := hB5.trans (hm8.below hFW.out hB5.size)
  have hAt8 := hat.out w8 a7 c7 hI8
  have hDl := hDlF.out a7 ys.length c7
  have hDe := hDq.out a7 c7
  rw [← hDe] at hN8 hDl
  have hD1 := rC_one rd a7 c7 none 0
  have hGl := hG5.lt
  have hws := hB5.size
  have hlo : Hid ((∀ x : Addr, a7 = some x → w.heap.size ≤ x.block ∧ x.block ≠ G) ∧ (∀ x : Addr, none = some x → w.heap.size ≤ x.block ∧ x.block ≠ G)) := Lib.hid (And.intro (fun x hx => by have := (hsep x hx).1; exact ⟨by omega, by omega⟩) (fun x hx => by cases hx))
  obtain ⟨D, hD⟩ : ∃ X, rC rd a7 c7 none 0 = X := ⟨_, rfl⟩
  rw [hD] at hDl hD1 hN8
  clear hDe
  have hDe := Lib.hid hD
  clear cb hR5 hN5 hG5 hB5 hI8 hsep hm8 hGl hws hD hDlF hDq hqs hat
  have cd := pDone_any hR8
  rw [hdn] at cd
  clear hR8
  go_wp2_with fail
  refine cd.mono ?_
  rintro r w9 ⟨rfl, b9⟩
  have hG9 := hG8.keep b9 hG8.lt
  have hN9 := hN8.keep b9 hN8.lt
  have hAt9 := hAt8.keep b9
  have hB9 := hB8.trans (b9.mono hB8.size)
  clear cd hG8 hN8 hAt8 hB8 b9
  by_cases hE0 : E = 0
  · subst hE0
    obtain ⟨hok, hnn, hdk⟩ := hgood.out rfl
    have cr := kcRight_any rd a7 none c7 0 w9 hok hAt9 hnn
    rw [hDe.out] at cr
    obtain ⟨K, hK⟩ : ∃ K, rightRec rd = K := ⟨_, rfl⟩
    rw [hK] at cr hdk
    have hdk := Lib.hid hdk
    have hAH := Lib.hid hAt9
    clear hbad hgood hok hnn hK hAt9
    go_wp2_with ((with_reducible refine wpList_load_blk rfl 33 (.tmp 5) rfl ?_ hN9 rowRc hDl ?_); rfl)
    refine cr.mono ?_
    rintro r w10 ⟨rfl, b10⟩
    have hG10 := hG9.keep b10 hG9.lt
    have hN10 := hN9.keep b10 hN9.lt
    have hAt10 := Lib.hid (hAH.out.keep b10)
    have hnone0 := hB9.trans (b10.mono hB9.size)
    clear cr hG9 hN9 hB9 hAH b10
    cases K with
    | true =>
      go_wp2_with ((with_reducible refine wpList_load_blk rfl 33 (.tmp 5) rfl ?_ hN10 rowRc hDl ?_); rfl; refine RowKit.Hid.out ?_)
      refine Lib.hid ?_
      try simp only [Act.put, List.setIfInBounds_toArray, List.set_cons_zero, List.set_cons_succ]
      refine store_row rfl 33 (.tmp 2) (.tmp 50) rfl rfl rfl hG10 rowRc hDl hZl hD1 ?_
      intro wY hGY hgY
      have hrC : IsRow Try.prog 33 D.length := rowRc_of hDl
      have hBY := hnone0.grown hgY hnone0.size (fun q hq => by injection hq with hq; have := gH.out; omega)
      go_wp2_with fail
      refine bodyPost_ret (results_blk_tmp rfl rfl hGY hrC) rfl ?_
      unfold DecEndR
      rw [hdk.out]
      try rw [if_pos rfl]
      refine ⟨a7, c7, none, 0, ?_, ⟨hAt10.out.1.grown hgY (fun x hx _ => (hlo.out.1 x hx).2), ?_⟩, fun x hx => (hlo.out.1 x hx).1, fun x hx => (hlo.out.2 x hx).1, hBY⟩
      · rw [← hDe.out]; rfl
      refine ⟨hAt10.out.2.1, hAt10.out.2.2.1, ?_⟩
      rcases hAt10.out.2.2.2 with h0 | ⟨b', off, ha, hc⟩
      · exact .inl h0
      · exact .inr ⟨b', off, ha, fun i hi => hgY.cell (hc i hi) (fun e => by injection e with e; exact (hlo.out.2 ⟨b', off, none⟩ ha).2 e)⟩
    | false =>
      go_wp2_with ((with_reducible refine build_row rfl 33 #[] rfl (cells := Z.toArray) ?_ ?_); (refine Eq.trans (congrArg _ ?_) hbt0; kernel_rfl); refine RowKit.Hid.out ?_)
      refine Lib.hid ?_
      try simp only [Act.put, List.setIfInBounds_toArray, List.set_cons_zero, List.set_cons_succ]
      refine store_row rfl 33 (.tmp 2) (.tmp 49) rfl rfl rfl hG10 rowRc hZl hZl hZ1 ?_
      intro wY hGY hgY
      have hrZ : IsRow Try.prog 33 Z.length := rowRc_of hZl
      have hBY := hnone0.grown hgY hnone0.size (fun q hq => by injection hq with hq; have := gH.out; omega)
      go_wp2_with fail
      refine bodyPost_ret (results_blk_tmp rfl rfl hGY hrZ) rfl ?_
      unfold DecEndR
      rw [hdk.out]
      try rw [if_neg (by decide)]
      exact ⟨none, 0, none, 0, by rw [← hZH.out]; rfl, recAt_nil wY 0 0, (fun x hx => by cases hx), (fun x hx => by cases hx), hBY⟩
  · have hdk := Lib.hid (hbad.out hE0)
    have hnz : ¬ E = 0 := hE0
    have hnb : (E != 0) = true := bne_iff_ne.2 hE0
    clear hN9 hAt9 hbad hgood
    go_wp2_with ((with_reducible refine build_row rfl 33 #[] rfl (cells := Z.toArray) ?_ ?_); (refine Eq.trans (congrArg _ ?_) hbt0; kernel_rfl); refine RowKit.Hid.out ?_)
    refine Lib.hid ?_
    refine wpList_mv rfl (.tmp 6) rfl rfl ?_
    try simp only [Act.put, List.setIfInBounds_toArray, List.set_cons_zero, List.set_cons_succ]
    refine store_row rfl 33 (.tmp 2) (.tmp 44) rfl rfl rfl hG9 rowRc hZl hZl hZ1 ?_
    intro wY hGY hgY
    have hrZ : IsRow Try.prog 33 Z.length := rowRc_of hZl
    have hBY := hB9.grown hgY hB9.size (fun q hq => by injection hq with hq; have := gH.out; omega)
    go_wp2_with fail
    refine bodyPost_ret (results_blk_tmp rfl rfl hGY hrZ) rfl ?_
    unfold DecEndR
    rw [hdk.out]
    exact ⟨none, 0, none, 0, by rw [← hZH.out]; rfl, recAt_nil wY 0 0, (fun x hx => by cases hx), (fun x hx => by cases hx), hBY⟩

theorem kcDecode_any (a : Option Addr) (n c : Nat) (xs : List Int) (w : World) (hI : Ints .u8 w a n c xs) (hr : okB xs) (hn : n ≤ 1000000) :
    Calls Try.prog 12 #[.slice a n c] w (DecEndR xs w) := by
  by_cases h1 : kindOf xs = 1
  · exact kcDecode_open a n c xs w hI hr hn h1
  by_cases h2 : kindOf xs = 2
  · exact kcDecode_upload a n c xs w hI hr hn h2
  by_cases h4 : kindOf xs = 4
  · exact kcDecode_close a n c xs w hI hr hn h4
  by_cases h5 : kindOf xs = 5
  · exact kcDecode_conn a n c xs w hI hr hn h5
  by_cases h6 : kindOf xs = 6
  · exact kcDecode_disc a n c xs w hI hr hn h6
  exact kcDecode_other a n c xs w hI hr hn (by omega)
end Go.Proofs.Ytaaflnmdaplfkaa

/-
  The document's own Decode of a block, whole. New memory alone is written. Conditions: bytes below 256, at most a million.
-/
namespace Go.Proofs.Ytaaflnmdaplfkaa
open Go.RowKit

set_option maxRecDepth 100000 in
set_option maxHeartbeats 4000000 in
theorem r16Decode_ok (b off : Nat) (n c : Nat) (xs : List Int) (M : Nat) (w : World) (hI : Ints .u8 w (some ⟨b, off, none⟩) n c xs) (hNe : xs.getD 64 0 = (M : Int)) (h32 : M ≤ 32) (hs : n = 65 + 32 * M) :
    Calls Try.prog 33 #[.slice (some ⟨b, off, none⟩) n c] w (DecEndB xs w) := by
  have hln := hI.len
  obtain ⟨Z, hZ⟩ : ∃ Z, bkC z32 z32 none 0 0 = Z := ⟨_, rfl⟩
  have hZ0 : Zero Try.prog 31 Z := by rw [← hZ]; exact zeroBk
  have hZl : Z.length = 65 := by rw [← hZ]; exact bkC_len rfl rfl
  have hZ1 : ∀ v ∈ Z, v.oneCell' = true := by rw [← hZ]; exact bkC_one _ _ _ _ _
  have hbt0 : Try.prog.built 31 [] = some Z.toArray := by rw [← hZ]; exact built_bk0
  have hZH := Lib.hid hZ
  clear hZ
  have hb := below1 w (.cells Z.toArray 31)
  have hk : Blk (w.alloc (.cells Z.toArray 31)) w.heap.size 31 Z := Blk.new w _ _
  obtain ⟨V, hV⟩ : ∃ V, w.alloc (.cells Z.toArray 31) = V := ⟨_, rfl⟩
  rw [hV] at hb hk
  obtain ⟨G, g9⟩ : ∃ G, w.heap.size = G := ⟨_, rfl⟩
  rw [g9] at hk
  have hIH := Lib.hid hI
  clear hI
  have h65i : ¬ (n : Int) < 65 := by omega
  have h32i : ¬ (32 : Int) < (M : Int) := by omega
  have hMi : (M : Int) ≤ 32 := by omega
  have hsi : ¬ (n : Int) < 65 + 32 * (M : Int) := by omega
  have hli : ¬ 65 + 32 * (M : Int) < (n : Int) := by omega
  have hMH := Lib.hid h32
  have hnH := Lib.hid hs
  obtain ⟨i0, hi, hz0, hz1, hz2⟩ := info_id9
  have hdk : decK xs = if rightK (blkOf xs M) = true then (blkOf xs M, 0) else (noBlk, 4) := by unfold decK; rw [if_neg (by omega), hNe, if_neg (by omega), Int.toNat_natCast, if_neg (by omega), if_neg (by omega)]
  have hH : (xs.take 32).length = 32 := by rw [List.length_take]; omega
  have hP : ((xs.drop 32).take 32).length = 32 := by rw [List.length_take, List.length_drop]; omega
  have hzl : (xs.drop 65).length = 32 * M := by rw [List.length_drop]; omega
  have hid := fun (p : Nat) w' (h : Below w.heap.size w w') (hp : p + 32 ≤ n) => r16id_any (some ⟨b, off, none⟩) n c xs p w' (hIH.out.keep h) hp (by omega)
  have hlp := Lib.hid (fun (p : Nat) (hp : p + 32 ≤ n) => show (((xs.drop p).take 32).map (Value.int .u8)).length = 32 by rw [List.length_map, List.length_take, List.length_drop]; omega)
  have hop := Lib.hid (fun (p : Nat) => u8_one ((xs.drop p).take 32))
  obtain ⟨D, hD⟩ : ∃ D : Option Addr → Nat → Nat → List Value, ∀ b j d, bkC (xs.take 32) ((xs.drop 32).take 32) b j d = D b j d := ⟨_, fun _ _ _ => rfl⟩
  have hDl := Lib.hid (fun b j d => show (D b j d).length = 65 by rw [← hD]; exact bkC_len hH hP)
  have hD1 := Lib.hid (fun b j d => show ∀ v ∈ D b j d, v.oneCell' = true by rw [← hD]; exact bkC_one _ _ _ _ _)
  have hset := Lib.hid (fun b j d b' j' d' => show (D b j d).set 64 (.slice b' j' d') = D b' j' d' by rw [← hD, ← hD]; exact bkC_set hH hP b' j' d')
  have hc64 := Lib.hid (fun w' g b j d (h : Blk w' g 31 (D b j d)) => show w'.cell? ⟨g, 64, none⟩ = some (.slice b j d) by rw [← hD] at h; exact bk2 h hH hP)
  obtain ⟨K, hK⟩ : ∃ K, rightK (blkOf xs M) = K := ⟨_, rfl⟩
  rw [hK] at hdk
  have hRt := Lib.hid (fun tb td w' (hT : IdsAt w' tb M td (xs.drop 65)) => show Calls Try.prog 25 #[.agg (D tb M td).toArray] w' fun q w'' => q = .returned (.bool K) ∧ Below w'.heap.size w' w'' by
    have := r16Right_any (xs.take 32) ((xs.drop 32).take 32) tb M td (xs.drop 65) w' hH hP hT (by omega)
    rw [hD, show rightK ⟨xs.take 32, (xs.drop 32).take 32, M, xs.drop 65⟩ = K from hK] at this
    exact this)
  have hcells := Lib.hid (fun tb td => show D tb M td = bC (blkOf xs M) tb td by rw [← hD]; rfl)
  have hbt2 : Try.prog.built 31 [(0, .agg ((xs.take 32).map (Value.int .u8)).toArray), (1, .agg (((xs.drop 32).take 32).map (Value.int .u8)).toArray)] = some (D none 0 0).toArray := by rw [← hD]; exact built_bk2 _ _ hH hP
  have h0 : ∀ w', Below w.heap.size w w' → Calls Try.prog 58 #[.slice (some ⟨b, off, none⟩) n c, .int .i64 0] w' fun e w'' => e = .returned (.agg ((xs.take 32).map (Value.int .u8)).toArray) ∧ Below w'.heap.size w' w'' := fun w' h => by
    have := hid 0 w' h (by omega)
    rw [List.drop_zero] at this
    exact this
  have h1 : ∀ w', Below w.heap.size w w' → Calls Try.prog 58 #[.slice (some ⟨b, off, none⟩) n c, .int .i64 32] w' fun e w'' => e = .returned (.agg (((xs.drop 32).take 32).map (Value.int .u8)).toArray) ∧ Below w'.heap.size w' w'' := fun w' h => hid 32 w' h (by omega)
  have hidH := Lib.hid hid
  obtain ⟨X0, hX0⟩ : ∃ X, (xs.take 32).map (Value.int .u8) = X := ⟨_, rfl⟩
  obtain ⟨X1, hX1⟩ : ∃ X, ((xs.drop 32).take 32).map (Value.int .u8) = X := ⟨_, rfl⟩
  rw [hX0] at hbt2 h0
  rw [hX1] at hbt2 h1
  have h0H := Lib.hid h0
  have h1H := Lib.hid h1
  obtain ⟨C, hC⟩ : ∃ C, D none 0 0 = C := ⟨_, rfl⟩
  rw [hC] at hbt2
  have hCl : C.length = 65 := by rw [← hC]; exact hDl.out _ _ _
  have hC1 : ∀ v ∈ C, v.oneCell' = true := by rw [← hC]; exact hD1.out _ _ _
  have hCH := Lib.hid hC
  have hdkT := Lib.hid (fun h : K = true => show decK xs = (blkOf xs M, 0) by rw [hdk, if_pos h])
  have hdkF := Lib.hid (fun h : K = false => show decK xs = (noBlk, 4) by rw [hdk, if_neg (by rw [h]; decide)])
  have hzH := Lib.hid hzl
  have hstep := Lib.hid (fun j => show ((xs.drop 65).take (32 * (j + 1))).map (Value.int .u8) = ((xs.drop 65).take (32 * j)).map (Value.int .u8) ++ ((xs.drop (65 + 32 * j)).take 32).map (Value.int .u8) by rw [take_step, List.map_append]; unfold idP; rw [List.drop_drop])
  have hNeH := hNe
  clear hid h0 h1 hX0 hX1 hC hdk hK hH hP hzl hD h32 hs hln
  go_enter Try.func33, Try.ntmps33
  go_wp2_with (first
    | ((with_reducible refine wpList_alloc_blk rfl 31 rfl hZ0 ?_))
    | ((with_reducible refine build_row rfl 31 #[] rfl (cells := Z.toArray) ?_ ?_); (refine Eq.trans (congrArg _ ?_) hbt0; kernel_rfl); refine RowKit.Hid.out ?_))
  refine Lib.hid ?_
  refine wpList_alloc_blk rfl 31 rfl hZ0 ?_
  try simp only [Act.put, List.setIfInBounds_toArray, List.set_cons_zero, List.set_cons_succ]
  try simp only [hV]
  have hGA := hk.alloc (.cells Z.toArray 31)
  have hNA := Blk.new V 31 Z
  have hBA := hb.alloc hb.size (.cells Z.toArray 31)
  have hnG : G < V.heap.size := hk.lt
  obtain ⟨N, hN⟩ : ∃ N, V.heap.size = N := ⟨_, rfl⟩
  rw [hN] at hNA hnG
  try rw [hN]
  have nGN := Lib.hid hnG
  obtain ⟨U, hU⟩ : ∃ W, V.alloc (.cells Z.toArray 31) = W := ⟨_, rfl⟩
  rw [hU] at hGA hNA hBA
  try rw [hU]
  have gH := Lib.hid g9
  clear hk hb hN hU hnG hV g9
  refine store_row rfl 31 (.tmp 4) (.tmp 8) rfl rfl rfl hNA rowBk hZl hZl hZ1 ?_
  intro w1 hN1 hg1
  have hG1 := hGA.grown hg1 (fun e => by injection e with e; have := nGN.out; omega)
  have hB1 := hBA.grown hg1 hBA.size (fun q hq => by injection hq with hq; have := nGN.out; have := gH.out; omega)
  clear hGA hNA hBA hg1
  have hI1 := hIH.out.keep hB1
  obtain ⟨_, _, h0 | ⟨b', off', hab, hat⟩⟩ := hI1
  · omega
  injection hab with hab
  injection hab with hb1 hb2
  subst hb1; subst hb2
  have c64 := hat 64 (by omega)
  rw [hNe] at c64
  clear hat
  clear hNe hNeH
  go_wp2_with fail
  refine (h0H.out w1 hB1).mono ?_
  rintro q w2 ⟨rfl, b2⟩
  have hG2 := hG1.keep b2 hG1.lt
  have hN2 := hN1.keep b2 hN1.lt
  have hB2 := hB1.trans (b2.mono hB1.size)
  clear h0H hG1 hN1 hB1 b2 c64
  go_wp2_with fail
  refine (h1H.out w2 hB2).mono ?_
  rintro q w3 ⟨rfl, b3⟩
  have hG3 := hG2.keep b3 hG2.lt
  have hN3 := hN2.keep b3 hN2.lt
  have hB3 := hB2.trans (b3.mono hB2.size)
  clear h1H hG2 hN2 hB2 b3
  go_wp2_with ((with_reducible refine build_row rfl 31 #[(0, .tmp 35), (1, .tmp 37)] rfl (cells := C.toArray) ?_ ?_); (refine Eq.trans (congrArg _ ?_) hbt2; kernel_rfl); refine RowKit.Hid.out ?_)
  refine Lib.hid ?_
  refine wpList_alloc_blk rfl 31 rfl hZ0 ?_
  try simp only [Act.put, List.setIfInBounds_toArray, List.set_cons_zero, List.set_cons_succ]
  have hGA := hG3.alloc (.cells Z.toArray 31)
  have hNA := hN3.alloc (.cells Z.toArray 31)
  have hOA := Blk.new w3 31 Z
  have hBA := hB3.alloc hB3.size (.cells Z.toArray 31)
  have l1 : G < w3.heap.size := hG3.lt
  have l2 : N < w3.heap.size := hN3.lt
  have l3 : w.heap.size ≤ w3.heap.size := hB3.size
  obtain ⟨O, hO⟩ : ∃ N, w3.heap.size = N := ⟨_, rfl⟩
  rw [hO] at hOA l1 l2 l3 ⊢
  have nGO := Lib.hid l1
  have nNO := Lib.hid l2
  have hwO := Lib.hid l3
  obtain ⟨U, hU⟩ : ∃ W, w3.alloc (.cells Z.toArray 31) = W := ⟨_, rfl⟩
  rw [hU] at hGA hNA hOA hBA ⊢
  clear hG3 hN3 hB3 hO hU l1 l2 l3
  refine store_row rfl 31 (.tmp 6) (.tmp 38) rfl rfl rfl hOA rowBk hCl hZl hC1 ?_
  intro w4 hO4 hg4
  have hG4 := hGA.grown hg4 (fun e => by injection e with e; have := nGO.out; omega)
  have hN4 := hNA.grown hg4 (fun e => by injection e with e; have := nNO.out; omega)
  have hB4 := hBA.grown hg4 hBA.size (fun q hq => by injection hq with hq; have := hwO.out; omega)
  rw [← hCH.out] at hO4
  clear hGA hNA hOA hBA hg4
  go_wp2
  go_loopw [7] (fun i wr => ∃ j : Nat, j ≤ M ∧ i = .int .i64 j ∧ ∃ tb td, Blk wr O 31 (D tb j td) ∧ wr.ownsRow (O + 1) 28 32 (.slice tb j td) j (((xs.drop 65).take (32 * j)).map (Value.int .u8)) ∧ Blk wr N 31 Z ∧ Blk wr G 31 Z ∧ Below w.heap.size w wr) (fun i _ => M - (intOf i).toNat)
  case atStart => exact ⟨0, Nat.zero_le _, rfl, none, 0, hO4, World.ownsRow_nil _ _ _ _, hN4, hG4, hB4⟩
  case round =>
    clear hO4 hN4 hG4 hB4
    obtain ⟨j, hj, rfl, tb, td, hO0, hown0, hN0, hG0, hB0⟩ := hrel
    by_cases hlt : j < M
    · have hji : (j : Int) < (M : Int) := by omega
      have hltH := Lib.hid hlt
      have hp32 : 65 + 32 * j + 32 ≤ n := by have := hnH.out; omega
      obtain ⟨p, hp⟩ : ∃ p : Nat, 65 + 32 * j = p := ⟨_, rfl⟩
      have hstH := Lib.hid (hstep.out j)
      rw [hp] at hp32 hstH
      have hpi : (65 : Int) + ((32 * j : Nat) : Int) = (p : Int) := by omega
      obtain ⟨m, hm⟩ : ∃ m : Nat, 32 * j = m := ⟨_, rfl⟩
      have hmi : (32 : Int) * (j : Int) = (m : Int) := by omega
      rw [hm] at hpi
      have e1 : wrap64 ((32 : Int) * (j : Int)) = (m : Int) := by rw [hmi]; unfold wrap64; have := hMH.out; omega
      have e1' : IntKind.i64.wrap ((32 : Int) * (j : Int)) = (m : Int) := by rw [IntKind.wrap_i64, hmi]; have := hMH.out; omega
      have e3 : wrap64 ((65 : Int) + (m : Int)) = (p : Int) := by rw [hpi]; unfold wrap64; have := hMH.out; omega
      have e3' : IntKind.i64.wrap ((65 : Int) + (m : Int)) = (p : Int) := by rw [IntKind.wrap_i64, hpi]; have := hMH.out; omega
      have hlY := hlp.out p hp32
      have hY1 := hop.out p
      have hc := fun w' (h : Below w.heap.size w w') => hidH.out p w' h hp32
      obtain ⟨Y, hY⟩ : ∃ X, ((xs.drop p).take 32).map (Value.int .u8) = X := ⟨_, rfl⟩
      rw [hY] at hlY hY1 hc hstH
      have hlYH := Lib.hid hlY
      have hY1H := Lib.hid hY1
      obtain ⟨V, hV⟩ : ∃ V, wr.drew = V := ⟨_, rfl⟩
      have hOV : Blk V O 31 (D tb j td) := by rw [← hV]; exact hO0
      have hNV : Blk V N 31 Z := by rw [← hV]; exact hN0
      have hGV : Blk V G 31 Z := by rw [← hV]; exact hG0
      have hBV : Below w.heap.size w V := by rw [← hV]; exact Below.drew hB0
      have hWV : V.ownsRow (O + 1) 28 32 (.slice tb j td) j (((xs.drop 65).take (32 * j)).map (Value.int .u8)) := by rw [← hV]; exact own_stay9 hown0 (Below.drew (Below.refl _ _))
      have c0 := hc64.out _ _ _ _ _ hOV
      have hcH := Lib.hid (hc V hBV)
      have hKH := Lib.hid (And.intro hOV (And.intro hWV (And.intro hNV (And.intro hGV hBV))))
      clear hlt hj hp hm hmi hpi hlY hY1 hc hY hO0 hown0 hN0 hG0 hB0 hOV hNV hGV hBV hWV
      go_wp2_with fail
      refine region_seqS (fun _ => True) (by kernel_rfl) trivial ?_
      simp only [pairs, Nat.reduceAdd]
      try rw [hV]
      clear hV
      repeat (first
        | (refine SeqS.take (v := ?_) (by first | assumption | trivial) (by kernel_rfl) (by decide +kernel) (by decide +kernel) (Or.inl ⟨by rfl, ?_⟩) ?_
           rotate_left
           focus
             intro w' hb'
             go_simp
             with_reducible rfl
           simp only [Act.put, List.setIfInBounds_toArray, List.set_cons_zero, List.set_cons_succ])
        | (refine SeqS.take (v := ?_) (by first | assumption | trivial) (by kernel_rfl) (by decide +kernel) (by decide +kernel) (Or.inl ⟨by rfl, ?_⟩) ?_
           rotate_left
           focus
             intro w' hb'
             have d0 := e1
             go_simp
             with_reducible rfl
           simp only [Act.put, List.setIfInBounds_toArray, List.set_cons_zero, List.set_cons_succ])
        | (refine SeqS.take (v := ?_) (by first | assumption | trivial) (by kernel_rfl) (by decide +kernel) (by decide +kernel) (Or.inl ⟨by rfl, ?_⟩) ?_
           rotate_left
           focus
             intro w' hb'
             have d0 := e3
             go_simp
             with_reducible rfl
           simp only [Act.put, List.setIfInBounds_toArray, List.set_cons_zero, List.set_cons_succ])
        | (refine SeqS.take (v := undef) (by first | assumption | trivial) (by kernel_rfl) (by decide +kernel) (by decide +kernel) (Or.inr ⟨by rfl, rfl⟩) ?_
           simp only [Act.put, List.setIfInBounds_toArray, List.set_cons_zero, List.set_cons_succ])
        | (refine SeqS.take1 (v := ?_) (by first | assumption | trivial) (by kernel_rfl) (by decide +kernel) (by decide +kernel) (Or.inl ⟨by rfl, ?_⟩) ?_
           rotate_left
           focus
             intro w' hb'
             go_simp
             with_reducible rfl
           simp only [Act.put, List.setIfInBounds_toArray, List.set_cons_zero, List.set_cons_succ])
        | (refine SeqS.take1 (v := ?_) (by first | assumption | trivial) (by kernel_rfl) (by decide +kernel) (by decide +kernel) (Or.inl ⟨by rfl, ?_⟩) ?_
           rotate_left
           focus
             intro w' hb'
             have d0 := e1
             go_simp
             with_reducible rfl
           simp only [Act.put, List.setIfInBounds_toArray, List.set_cons_zero, List.set_cons_succ])
        | (refine SeqS.take1 (v := ?_) (by first | assumption | trivial) (by kernel_rfl) (by decide +kernel) (by decide +kernel) (Or.inl ⟨by rfl, ?_⟩) ?_
           rotate_left
           focus
             intro w' hb'
             have d0 := e3
             go_simp
             with_reducible rfl
           simp only [Act.put, List.setIfInBounds_toArray, List.set_cons_zero, List.set_cons_succ])
        | (refine SeqS.take1 (v := undef) (by first | assumption | trivial) (by kernel_rfl) (by decide +kernel) (by decide +kernel) (Or.inr ⟨by rfl, rfl⟩) ?_
           simp only [Act.put, List.setIfInBounds_toArray, List.set_cons_zero, List.set_cons_succ])
        | (refine SeqS.take2 (v := ?_) (by first | assumption | trivial) (by kernel_rfl) (by decide +kernel) (by decide +kernel) (Or.inl ⟨by rfl, ?_⟩) ?_
           rotate_left
           focus
             intro w' hb'
             go_simp
             with_reducible rfl
           simp only [Act.put, List.setIfInBounds_toArray, List.set_cons_zero, List.set_cons_succ])
        | (refine SeqS.take2 (v := ?_) (by first | assumption | trivial) (by kernel_rfl) (by decide +kernel) (by decide +kernel) (Or.inl ⟨by rfl, ?_⟩) ?_
           rotate_left
           focus
             intro w' hb'
             have d0 := e1
             go_simp
             with_reducible rfl
           simp only [Act.put, List.setIfInBounds_toArray, List.set_cons_zero, List.set_cons_succ])
        | (refine SeqS.take2 (v := ?_) (by first | assumption | trivial) (by kernel_rfl) (by decide +kernel) (by decide +kernel) (Or.inl ⟨by rfl, ?_⟩) ?_
           rotate_left
           focus
             intro w' hb'
             have d0 := e3
             go_simp
             with_reducible rfl
           simp only [Act.put, List.setIfInBounds_toArray, List.set_cons_zero, List.set_cons_succ])
        | (refine SeqS.take2 (v := undef) (by first | assumption | trivial) (by kernel_rfl) (by decide +kernel) (by decide +kernel) (Or.inr ⟨by rfl, rfl⟩) ?_
           simp only [Act.put, List.setIfInBounds_toArray, List.set_cons_zero, List.set_cons_succ])
        | (refine SeqS.take3 (v := ?_) (by first | assumption | trivial) (by kernel_rfl) (by decide +kernel) (by decide +kernel) (Or.inl ⟨by rfl, ?_⟩) ?_
           rotate_left
           focus
             intro w' hb'
             go_simp
             with_reducible rfl
           simp only [Act.put, List.setIfInBounds_toArray, List.set_cons_zero, List.set_cons_succ])
        | (refine SeqS.take3 (v := ?_) (by first | assumption | trivial) (by kernel_rfl) (by decide +kernel) (by decide +kernel) (Or.inl ⟨by rfl, ?_⟩) ?_
           rotate_left
           focus
             intro w' hb'
             have d0 := e1
             go_simp
             with_reducible rfl
           simp only [Act.put, List.setIfInBounds_toArray, List.set_cons_zero, List.set_cons_succ])
        | (refine SeqS.take3 (v := ?_) (by first | assumption | trivial) (by kernel_rfl) (by decide +kernel) (by decide +kernel) (Or.inl ⟨by rfl, ?_⟩) ?_
           rotate_left
           focus
             intro w' hb'
             have d0 := e3
             go_simp
             with_reducible rfl
           simp only [Act.put, List.setIfInBounds_toArray, List.set_cons_zero, List.set_cons_succ])
        | (refine SeqS.take3 (v := undef) (by first | assumption | trivial) (by kernel_rfl) (by decide +kernel) (by decide +kernel) (Or.inr ⟨by rfl, rfl⟩) ?_
           simp only [Act.put, List.setIfInBounds_toArray, List.set_cons_zero, List.set_cons_succ])
        | (refine SeqS.take4 (v := ?_) (by first | assumption | trivial) (by kernel_rfl) (by decide +kernel) (by decide +kernel) (Or.inl ⟨by rfl, ?_⟩) ?_
           rotate_left
           focus
             intro w' hb'
             go_simp
             with_reducible rfl
           simp only [Act.put, List.setIfInBounds_toArray, List.set_cons_zero, List.set_cons_succ])
        | (refine SeqS.take4 (v := ?_) (by first | assumption | trivial) (by kernel_rfl) (by decide +kernel) (by decide +kernel) (Or.inl ⟨by rfl, ?_⟩) ?_
           rotate_left
           focus
             intro w' hb'
             have d0 := e1
             go_simp
             with_reducible rfl
           simp only [Act.put, List.setIfInBounds_toArray, List.set_cons_zero, List.set_cons_succ])
        | (refine SeqS.take4 (v := ?_) (by first | assumption | trivial) (by kernel_rfl) (by decide +kernel) (by decide +kernel) (Or.inl ⟨by rfl, ?_⟩) ?_
           rotate_left
           focus
             intro w' hb'
             have d0 := e3
             go_simp
             with_reducible rfl
           simp only [Act.put, List.setIfInBounds_toArray, List.set_cons_zero, List.set_cons_succ])
        | (refine SeqS.take4 (v := undef) (by first | assumption | trivial) (by kernel_rfl) (by decide +kernel) (by decide +kernel) (Or.inr ⟨by rfl, rfl⟩) ?_
           simp only [Act.put, List.setIfInBounds_toArray, List.set_cons_zero, List.set_cons_succ]))
      refine SeqS.either (rs := [1, 6]) (by decide +kernel) ?_
      intro k hk
      simp only [List.mem_cons, List.not_mem_nil, or_false] at hk
      rcases hk with rfl | rfl
      · refine ⟨[], _, [_, _, _, _, _], rfl, by rfl, fun K5 hK5 => ?_⟩
        go_simp
        refine hK5 _ _ trivial ?_
        clear hK5 K5 c0
        try simp only [Act.put, List.setIfInBounds_toArray, List.set_cons_zero, List.set_cons_succ]
        refine SeqS.alone (by decide +kernel) (by rfl) (fun K6 hK6 => ?_)
        go_simp
        go_at_call 58
        refine hcH.out.mono ?_
        rintro e w3 ⟨rfl, b3⟩
        go_simp
        have bb : Below V.heap.size V w3 := b3
        have hO3 := hKH.out.1.keep bb hKH.out.1.lt
        have own3 := own_stay9 hKH.out.2.1 bb
        have hN3 := hKH.out.2.2.1.keep bb hKH.out.2.2.1.lt
        have hG3 := hKH.out.2.2.2.1.keep bb hKH.out.2.2.2.1.lt
        have hB3 := hKH.out.2.2.2.2.trans (bb.mono hKH.out.2.2.2.2.size)
        clear b3 bb hcH hKH
        have c3 := hc64.out _ _ _ _ _ hO3
        have own4H := Lib.hid (own3.alloc (.cells Y.toArray 28))
        have hnewH := Lib.hid (Blk.new w3 28 Y)
        have hO4 := hO3.alloc (.cells Y.toArray 28)
        have c4 := hc64.out _ _ _ _ _ hO4
        have hO4H := Lib.hid hO4
        have hN4H := Lib.hid (hN3.alloc (.cells Y.toArray 28))
        have hG4H := Lib.hid (hG3.alloc (.cells Y.toArray 28))
        have hB4H := Lib.hid (hB3.alloc hB3.size (.cells Y.toArray 28))
        have hszH := Lib.hid (show O + 1 ≤ (w3.alloc (.cells Y.toArray 28)).heap.size by rw [size1]; exact Nat.le_succ_of_le hO3.lt)
        clear hO4 hO3 hN3 hG3 hB3 own3
        refine hK6 _ _ trivial ?_
        clear hK6 K6
        try simp only [Act.put, List.setIfInBounds_toArray, List.set_cons_zero, List.set_cons_succ]
        refine SeqS.alone (by decide +kernel) (by rfl) (fun K7 hK7 => ?_)
        refine wp_buildSlice 29 28 1 #[(0, .tmp 50)] rfl Y.toArray i0 _ Try.underlying29 hi hz0 (by rw [hz1]; decide) (by rw [hz1]; decide) (fill_id i0 _ hz1 Y hlYH.out _ (by rw [Array.toList_map]; rfl)) ?_
        refine hK7 _ _ trivial ?_
        clear hK7 K7
        try simp only [Act.put, List.setIfInBounds_toArray, List.set_cons_zero, List.set_cons_succ]
        refine SeqS.alone (by decide +kernel) (by rfl) (fun K8 hK8 => ?_)
        refine wp_append_own _ (.tmp 45) (.tmp 51) 29 rfl (O + 1) 28 i0 _ 32 32 Try.underlying29 hi hz0 hz1 hz2 (by simp [Value.cells]) (by decide) _ _ _ rfl own4H.out ⟨w3.heap.size, 0, none⟩ 1 1 Y rfl hlYH.out ?c1 hY1H.out ?c3 ?c4 ?c5 ?_
        case c1 =>
          intro t u ht
          rw [add_at9, hnewH.out.cell]
          exact ht
        case c3 => have := hltH.out; have := hMH.out; unfold maxLen; omega
        case c4 => have := hltH.out; have := hMH.out; omega
        case c5 => exact hszH.out
        intro v5 W5 hown5 hg5 _
        obtain ⟨b5, d5, hv5⟩ := own_slice32 hown5
        subst hv5
        have hO5 := hO4H.out.grown hg5 (owns_blk16 own4H.out hO4H.out (by decide))
        have hN5 := hN4H.out.grown hg5 (owns_blk16 own4H.out hN4H.out (by decide))
        have hG5 := hG4H.out.grown hg5 (owns_blk16 own4H.out hG4H.out (by decide))
        have hB5 := hB4H.out.grown hg5 hB4H.out.size (fun q hq => by have := (own4H.out.lt q hq).1; have := hwO.out; omega)
        have f5 := hO5.frozen 64
        have c5 := hc64.out _ _ _ _ _ hO5
        have hsetO := hO5.set 64 (.slice b5 (j + 1) d5)
        rw [hset.out] at hsetO
        have gS := grown_setCell W5 O 64 (.slice b5 (j + 1) d5)
        have hownS := own_far9 hown5 gS (Nat.lt_succ_self O)
        have hNS := hN5.grown gS (fun e => by injection e with e; have := nNO.out; omega)
        have hGS := hG5.grown gS (fun e => by injection e with e; have := nGO.out; omega)
        have hBS := hB5.setCell (p := ⟨O, 64, none⟩) (by show w.heap.size ≤ O; exact hwO.out) (.slice b5 (j + 1) d5)
        rw [← hstH.out] at hownS
        have RH := Lib.hid (And.intro hsetO (And.intro hownS (And.intro hNS (And.intro hGS hBS))))
        clear hO5 hN5 hG5 hB5 hsetO gS hownS hNS hGS hBS hown5 hg5
        refine hK8 _ _ trivial ?_
        clear hK8 K8
        try simp only [Act.put, List.setIfInBounds_toArray, List.set_cons_zero, List.set_cons_succ]
        refine SeqS.alone (by decide +kernel) (by rfl) (fun K9 hK9 => ?_)
        go_simp
        refine hK9 _ _ trivial ?_
        clear hK9 K9
        try simp only [Act.put, List.setIfInBounds_toArray, List.set_cons_zero, List.set_cons_succ]
        refine SeqS.alone (by decide +kernel) (by rfl) (fun K9 hK9 => ?_)
        go_simp
        refine hK9 _ _ trivial ?_
        clear hK9 K9
        refine SeqS.done (by decide +kernel) ?_
        go_wp2
        exact ⟨⟨j + 1, by have := hltH.out; omega, by congr 1, b5, d5, RH.out.1, RH.out.2.1, RH.out.2.2.1, RH.out.2.2.2.1, RH.out.2.2.2.2⟩, by simp only [intOf]; have := hltH.out; omega⟩
      · refine ⟨[_], _, [_, _, _, _], rfl, by rfl, fun K5 hK5 => ?_⟩
        go_simp
        go_at_call 58
        refine hcH.out.mono ?_
        rintro e w3 ⟨rfl, b3⟩
        go_simp
        have bb : Below V.heap.size V w3 := b3
        have hO3 := hKH.out.1.keep bb hKH.out.1.lt
        have own3 := own_stay9 hKH.out.2.1 bb
        have hN3 := hKH.out.2.2.1.keep bb hKH.out.2.2.1.lt
        have hG3 := hKH.out.2.2.2.1.keep bb hKH.out.2.2.2.1.lt
        have hB3 := hKH.out.2.2.2.2.trans (bb.mono hKH.out.2.2.2.2.size)
        clear b3 bb hcH hKH
        have c3 := hc64.out _ _ _ _ _ hO3
        have own4H := Lib.hid (own3.alloc (.cells Y.toArray 28))
        have hnewH := Lib.hid (Blk.new w3 28 Y)
        have hO4 := hO3.alloc (.cells Y.toArray 28)
        have c4 := hc64.out _ _ _ _ _ hO4
        have hO4H := Lib.hid hO4
        have hN4H := Lib.hid (hN3.alloc (.cells Y.toArray 28))
        have hG4H := Lib.hid (hG3.alloc (.cells Y.toArray 28))
        have hB4H := Lib.hid (hB3.alloc hB3.size (.cells Y.toArray 28))
        have hszH := Lib.hid (show O + 1 ≤ (w3.alloc (.cells Y.toArray 28)).heap.size by rw [size1]; exact Nat.le_succ_of_le hO3.lt)
        clear hO4 hO3 hN3 hG3 hB3 own3
        refine hK5 _ _ trivial ?_
        clear hK5 K5 c0
        try simp only [Act.put, List.setIfInBounds_toArray, List.set_cons_zero, List.set_cons_succ]
        refine SeqS.either (rs := [1, 7]) (by decide +kernel) ?_
        intro k hk
        simp only [List.mem_cons, List.not_mem_nil, or_false] at hk
        rcases hk with rfl | rfl
        · refine ⟨[], _, [_, _, _, _], rfl, by rfl, fun K6 hK6 => ?_⟩
          go_simp
          refine hK6 _ _ trivial ?_
          clear hK6 K6
          try simp only [Act.put, List.setIfInBounds_toArray, List.set_cons_zero, List.set_cons_succ]
          refine SeqS.alone (by decide +kernel) (by rfl) (fun K7 hK7 => ?_)
          refine wp_buildSlice 29 28 1 #[(0, .tmp 50)] rfl Y.toArray i0 _ Try.underlying29 hi hz0 (by rw [hz1]; decide) (by rw [hz1]; decide) (fill_id i0 _ hz1 Y hlYH.out _ (by rw [Array.toList_map]; rfl)) ?_
          refine hK7 _ _ trivial ?_
          clear hK7 K7
          try simp only [Act.put, List.setIfInBounds_toArray, List.set_cons_zero, List.set_cons_succ]
          refine SeqS.alone (by decide +kernel) (by rfl) (fun K8 hK8 => ?_)
          refine wp_append_own _ (.tmp 45) (.tmp 51) 29 rfl (O + 1) 28 i0 _ 32 32 Try.underlying29 hi hz0 hz1 hz2 (by simp [Value.cells]) (by decide) _ _ _ rfl own4H.out ⟨w3.heap.size, 0, none⟩ 1 1 Y rfl hlYH.out ?c1 hY1H.out ?c3 ?c4 ?c5 ?_
          case c1 =>
            intro t u ht
            rw [add_at9, hnewH.out.cell]
            exact ht
          case c3 => have := hltH.out; have := hMH.out; unfold maxLen; omega
          case c4 => have := hltH.out; have := hMH.out; omega
          case c5 => exact hszH.out
          intro v5 W5 hown5 hg5 _
          obtain ⟨b5, d5, hv5⟩ := own_slice32 hown5
          subst hv5
          have hO5 := hO4H.out.grown hg5 (owns_blk16 own4H.out hO4H.out (by decide))
          have hN5 := hN4H.out.grown hg5 (owns_blk16 own4H.out hN4H.out (by decide))
          have hG5 := hG4H.out.grown hg5 (owns_blk16 own4H.out hG4H.out (by decide))
          have hB5 := hB4H.out.grown hg5 hB4H.out.size (fun q hq => by have := (own4H.out.lt q hq).1; have := hwO.out; omega)
          have f5 := hO5.frozen 64
          have c5 := hc64.out _ _ _ _ _ hO5
          have hsetO := hO5.set 64 (.slice b5 (j + 1) d5)
          rw [hset.out] at hsetO
          have gS := grown_setCell W5 O 64 (.slice b5 (j + 1) d5)
          have hownS := own_far9 hown5 gS (Nat.lt_succ_self O)
          have hNS := hN5.grown gS (fun e => by injection e with e; have := nNO.out; omega)
          have hGS := hG5.grown gS (fun e => by injection e with e; have := nGO.out; omega)
          have hBS := hB5.setCell (p := ⟨O, 64, none⟩) (by show w.heap.size ≤ O; exact hwO.out) (.slice b5 (j + 1) d5)
          rw [← hstH.out] at hownS
          have RH := Lib.hid (And.intro hsetO (And.intro hownS (And.intro hNS (And.intro hGS hBS))))
          clear hO5 hN5 hG5 hB5 hsetO gS hownS hNS hGS hBS hown5 hg5
          refine hK8 _ _ trivial ?_
          clear hK8 K8
          try simp only [Act.put, List.setIfInBounds_toArray, List.set_cons_zero, List.set_cons_succ]
          refine SeqS.alone (by decide +kernel) (by rfl) (fun K9 hK9 => ?_)
          go_simp
          refine hK9 _ _ trivial ?_
          clear hK9 K9
          try simp only [Act.put, List.setIfInBounds_toArray, List.set_cons_zero, List.set_cons_succ]
          refine SeqS.alone (by decide +kernel) (by rfl) (fun K9 hK9 => ?_)
          go_simp
          refine hK9 _ _ trivial ?_
          clear hK9 K9
          refine SeqS.done (by decide +kernel) ?_
          go_wp2
          exact ⟨⟨j + 1, by have := hltH.out; omega, by congr 1, b5, d5, RH.out.1, RH.out.2.1, RH.out.2.2.1, RH.out.2.2.2.1, RH.out.2.2.2.2⟩, by simp only [intOf]; have := hltH.out; omega⟩
        · refine ⟨[_], _, [_, _, _], rfl, by rfl, fun K6 hK6 => ?_⟩
          refine wp_buildSlice 29 28 1 #[(0, .tmp 50)] rfl Y.toArray i0 _ Try.underlying29 hi hz0 (by rw [hz1]; decide) (by rw [hz1]; decide) (fill_id i0 _ hz1 Y hlYH.out _ (by rw [Array.toList_map]; rfl)) ?_
          refine hK6 _ _ trivial ?_
          clear hK6 K6
          try simp only [Act.put, List.setIfInBounds_toArray, List.set_cons_zero, List.set_cons_succ]
          refine SeqS.alone (by decide +kernel) (by rfl) (fun K7 hK7 => ?_)
          go_simp
          refine hK7 _ _ trivial ?_
          clear hK7 K7
          try simp only [Act.put, List.setIfInBounds_toArray, List.set_cons_zero, List.set_cons_succ]
          refine SeqS.alone (by decide +kernel) (by rfl) (fun K8 hK8 => ?_)
          refine wp_append_own _ (.tmp 45) (.tmp 51) 29 rfl (O + 1) 28 i0 _ 32 32 Try.underlying29 hi hz0 hz1 hz2 (by simp [Value.cells]) (by decide) _ _ _ rfl own4H.out ⟨w3.heap.size, 0, none⟩ 1 1 Y rfl hlYH.out ?c1 hY1H.out ?c3 ?c4 ?c5 ?_
          case c1 =>
            intro t u ht
            rw [add_at9, hnewH.out.cell]
            exact ht
          case c3 => have := hltH.out; have := hMH.out; unfold maxLen; omega
          case c4 => have := hltH.out; have := hMH.out; omega
          case c5 => exact hszH.out
          intro v5 W5 hown5 hg5 _
          obtain ⟨b5, d5, hv5⟩ := own_slice32 hown5
          subst hv5
          have hO5 := hO4H.out.grown hg5 (owns_blk16 own4H.out hO4H.out (by decide))
          have hN5 := hN4H.out.grown hg5 (owns_blk16 own4H.out hN4H.out (by decide))
          have hG5 := hG4H.out.grown hg5 (owns_blk16 own4H.out hG4H.out (by decide))
          have hB5 := hB4H.out.grown hg5 hB4H.out.size (fun q hq => by have := (own4H.out.lt q hq).1; have := hwO.out; omega)
          have f5 := hO5.frozen 64
          have c5 := hc64.out _ _ _ _ _ hO5
          have hsetO := hO5.set 64 (.slice b5 (j + 1) d5)
          rw [hset.out] at hsetO
          have gS := grown_setCell W5 O 64 (.slice b5 (j + 1) d5)
          have hownS := own_far9 hown5 gS (Nat.lt_succ_self O)
          have hNS := hN5.grown gS (fun e => by injection e with e; have := nNO.out; omega)
          have hGS := hG5.grown gS (fun e => by injection e with e; have := nGO.out; omega)
          have hBS := hB5.setCell (p := ⟨O, 64, none⟩) (by show w.heap.size ≤ O; exact hwO.out) (.slice b5 (j + 1) d5)
          rw [← hstH.out] at hownS
          have RH := Lib.hid (And.intro hsetO (And.intro hownS (And.intro hNS (And.intro hGS hBS))))
          clear hO5 hN5 hG5 hB5 hsetO gS hownS hNS hGS hBS hown5 hg5
          refine hK8 _ _ trivial ?_
          clear hK8 K8
          try simp only [Act.put, List.setIfInBounds_toArray, List.set_cons_zero, List.set_cons_succ]
          refine SeqS.alone (by decide +kernel) (by rfl) (fun K9 hK9 => ?_)
          go_simp
          refine hK9 _ _ trivial ?_
          clear hK9 K9
          try simp only [Act.put, List.setIfInBounds_toArray, List.set_cons_zero, List.set_cons_succ]
          refine SeqS.alone (by decide +kernel) (by rfl) (fun K9 hK9 => ?_)
          go_simp
          refine hK9 _ _ trivial ?_
          clear hK9 K9
          refine SeqS.done (by decide +kernel) ?_
          go_wp2
          exact ⟨⟨j + 1, by have := hltH.out; omega, by congr 1, b5, d5, RH.out.1, RH.out.2.1, RH.out.2.2.1, RH.out.2.2.2.1, RH.out.2.2.2.2⟩, by simp only [intOf]; have := hltH.out; omega⟩
    · obtain rfl : M = j := by omega
      have hji : ¬ (M : Int) < (M : Int) := by omega
      rw [take_ids hzH.out] at hown0
      have hT := IdsAt.of_owns hown0
      have hlo := Lib.hid (show ∀ x, tb = some x → w.heap.size ≤ x.block ∧ x.block ≠ G from fun x hx => by have := (hown0.lt x.block (by rw [hx]; rfl)).1; have := hwO.out; have := nGO.out; exact ⟨by omega, by omega⟩)
      have hDl0 := hDl.out tb M td
      have hD10 := hD1.out tb M td
      have hR0 := fun w' (h : Below wr.heap.size wr w') => hRt.out tb td w' (hT.keep h)
      have hcl0 := Lib.hid (hcells.out tb td)
      obtain ⟨C9, hC9⟩ : ∃ C, D tb M td = C := ⟨_, rfl⟩
      rw [hC9] at hO0 hDl0 hD10 hR0 hcl0
      have hR0H := Lib.hid hR0
      clear hlt hj hown0 hC9 hR0
      go_wp2_with ((with_reducible refine wpList_load_blk rfl 31 (.tmp 6) rfl ?_ hO0 rowBk hDl0 ?_); rfl)
      refine (hR0H.out wr (Below.refl _ _)).mono ?_
      rintro q w9 ⟨rfl, b9⟩
      have hO9 := hO0.keep b9 hO0.lt
      have hN9 := hN0.keep b9 hN0.lt
      have hG9 := hG0.keep b9 hG0.lt
      have hB9 := hB0.trans (b9.mono hB0.size)
      have hT9 := hT.keep b9
      clear hO0 hN0 hG0 hB0 hT b9 hR0H
      cases K with
      | true =>
        go_wp2_with ((with_reducible refine wpList_load_blk rfl 31 (.tmp 6) rfl ?_ hO9 rowBk hDl0 ?_); rfl; refine RowKit.Hid.out ?_)
        refine Lib.hid ?_
        try simp only [Act.put, List.setIfInBounds_toArray, List.set_cons_zero, List.set_cons_succ]
        refine store_row rfl 31 (.tmp 2) (.tmp 58) rfl rfl rfl hG9 rowBk hDl0 hZl hD10 ?_
        intro wY hGY hgY
        have hrC : IsRow Try.prog 31 C9.length := by rw [hDl0]; exact rowBk
        have hBY := hB9.grown hgY hB9.size (fun q hq => by injection hq with hq; have := gH.out; omega)
        have hTY : IdsAt wY tb M td (xs.drop 65) := by
          refine ⟨hT9.1, hT9.2.1, ?_⟩
          rcases hT9.2.2 with h0 | ⟨b', off, ha, hc⟩
          · exact .inl h0
          · exact .inr ⟨b', off, ha, fun i hi => hgY.cell (hc i hi) (fun e => by injection e with e; exact (hlo.out _ ha).2 e)⟩
        go_wp2_with fail
        refine bodyPost_ret (results_blk_tmp rfl rfl hGY hrC) rfl ?_
        unfold DecEndB
        rw [hdkT.out (by first | exact rfl | trivial)]
        exact ⟨tb, td, by rw [hcl0.out]; rfl, hTY, fun x hx => (hlo.out x hx).1, hBY⟩
      | false =>
        go_wp2_with ((with_reducible refine wpList_load_blk rfl 31 (.tmp 4) rfl ?_ hN9 rowBk hZl ?_); rfl; refine RowKit.Hid.out ?_)
        refine Lib.hid ?_
        try simp only [Act.put, List.setIfInBounds_toArray, List.set_cons_zero, List.set_cons_succ]
        refine store_row rfl 31 (.tmp 2) (.tmp 57) rfl rfl rfl hG9 rowBk hZl hZl hZ1 ?_
        intro wY hGY hgY
        have hrZ : IsRow Try.prog 31 Z.length := by rw [hZl]; exact rowBk
        have hBY := hB9.grown hgY hB9.size (fun q hq => by injection hq with hq; have := gH.out; omega)
        go_wp2_with fail
        refine bodyPost_ret (results_blk_tmp rfl rfl hGY hrZ) rfl ?_
        unfold DecEndB
        rw [hdkF.out (by first | exact rfl | trivial)]
        exact ⟨none, 0, by rw [← hZH.out]; rfl, ids_nil _, (fun x hx => by cases hx), hBY⟩

theorem r16Decode_any (a : Option Addr) (n c : Nat) (xs : List Int) (w : World) (hI : Ints .u8 w a n c xs) (hr : okB xs) :
    Calls Try.prog 33 #[.slice a n c] w (DecEndB xs w) := by
  have hln := hI.len
  by_cases h65 : n < 65
  · exact r16Decode_few a n c xs w hI h65
  obtain ⟨b, off, rfl, _⟩ := hI.at (by omega)
  have hb : 0 ≤ xs.getD 64 0 ∧ xs.getD 64 0 < 256 := by
    rw [List.getD_eq_getElem?_getD, List.getElem?_eq_getElem (by omega)]
    exact hr _ (List.getElem_mem (by omega))
  obtain ⟨M, hM⟩ : ∃ M : Nat, xs.getD 64 0 = (M : Int) := ⟨(xs.getD 64 0).toNat, by omega⟩
  by_cases h32 : 32 < M
  · exact r16Decode_many b off n c xs M w hI h65 hM (by omega) h32
  by_cases hs : n < 65 + 32 * M
  · exact r16Decode_short b off n c xs M w hI h65 hM (by omega) hs
  by_cases hl : 65 + 32 * M < n
  · exact r16Decode_long b off n c xs M w hI h65 hM (by omega) hl
  exact r16Decode_ok b off n c xs M w hI hM (by omega) (by omega)
end Go.Proofs.Ytaaflnmdaplfkaa

/-
  What block's Encode comes to. New memory alone is written. Conditions: the fields' ranges, at most a hundred thousand ids.
-/
namespace Go.Proofs.Ytaaflnmdaplfkaa
open Go.RowKit

set_option maxRecDepth 100000 in
set_option maxHeartbeats 2000000 in
theorem bkEncode_any (H P : List Int) (a : Option Addr) (n c : Nat) (zs : List Int) (w : World) (hK : BlkOk ⟨H, P, n, zs⟩) (hT : IdsAt w a n c zs) (hn : n ≤ 100000) :
    Calls Try.prog 64 #[.agg (bkC H P a n c).toArray] w fun q w' => ∃ b d, q = .returned (.tuple #[.slice b (encK ⟨H, P, n, zs⟩).1.length d, .int .i64 (encK ⟨H, P, n, zs⟩).2]) ∧ Ints .u8 w' b (encK ⟨H, P, n, zs⟩).1.length d (encK ⟨H, P, n, zs⟩).1 ∧ (∀ x, b = some x → 0 < (encK ⟨H, P, n, zs⟩).1.length → w.heap.size ≤ x.block) ∧ Below w.heap.size w w' := by
  obtain ⟨hH, hP, hZ, hHo, hPo, hZo⟩ := id hK
  dsimp only at hH hP hZ hHo hPo hZo
  have hR := Lib.hid (fun w' (h : Below w.heap.size w w') => bkRight_any H P a n c zs w' hH hP (hT.keep h) hZo hn)
  have hCl := bkC_len (a := a) (n := n) (c := c) hH hP
  have e0 := Lib.hid (fun w' g (h : Blk w' g 31 (bkC H P a n c)) => bk0 h)
  have e1 := Lib.hid (fun w' g (h : Blk w' g 31 (bkC H P a n c)) => bk1 h hH)
  have e2 := Lib.hid (fun w' g (h : Blk w' g 31 (bkC H P a n c)) => bk2 h hH hP)
  have hrH := rowId_of hH
  have hrP := rowId_of hP
  obtain ⟨C, hC⟩ : ∃ C, bkC H P a n c = C := ⟨_, rfl⟩
  rw [hC] at hR hCl e0 e1 e2
  rw [hC]
  have hb := below1 w (.cells C.toArray 31)
  have hk : Blk (w.alloc (.cells C.toArray 31)) w.heap.size 31 C := Blk.new w _ C
  obtain ⟨W, hW⟩ : ∃ V, w.alloc (.cells C.toArray 31) = V := ⟨_, rfl⟩
  rw [hW] at hb hk
  obtain ⟨G, g9⟩ : ∃ G, w.heap.size = G := ⟨_, rfl⟩
  rw [g9] at hk
  have gH := Lib.hid g9
  have hTH := Lib.hid hT
  unfold encK
  cases hr : rightK ⟨H, P, n, zs⟩ with
  | false =>
    rw [hr] at hR
    rw [if_neg (by decide)]
    clear hr hC hT
    go_enter Try.func64, Try.ntmps64
    go_wp2_with ((with_reducible refine box_row rfl 31 (.tmp 0) rfl C ?_ ?_); rfl; refine RowKit.Hid.out ?_)
    refine Lib.hid ?_
    clear hW
    go_wp2_with ((with_reducible refine wpList_load_blk rfl 31 (.tmp 1) rfl ?_ hk rowBk hCl ?_); rfl)
    refine (hR.out W hb).mono ?_
    rintro q w1 ⟨rfl, b1⟩
    have hk1 := hk.keep b1 hk.lt
    have hS1 := hb.trans (b1.mono hb.size)
    clear hk hb b1 hR
    go_wp2
    go_ret2
    exact ⟨none, 0, rfl, ⟨rfl, Nat.le_refl _, .inl rfl⟩, (fun x h => by cases h), hS1⟩
  | true =>
    rw [hr] at hR
    rw [if_pos rfl]
    have hn32 := rightK_le hr
    dsimp only at hn32
    have n64 : IntKind.u64.wrap (n : Int) = (n : Int) := by rw [IntKind.wrap_u64]; omega
    have hlen := blkB_len hK
    have hm : blkB ⟨H, P, n, zs⟩ = (([] ++ H ++ P) ++ beL (n : Int) (1 : Int).toNat) ++ zs := by
      rw [show (1 : Int).toNat = 1 from rfl, beL_k ⟨by omega, by omega⟩]
      unfold blkB
      dsimp only
      rw [show (n : Int) % 256 = (n : Int) by omega]
      simp
    obtain ⟨M, hMM⟩ : ∃ M, blkB ⟨H, P, n, zs⟩ = M := ⟨_, rfl⟩
    rw [hMM] at hm hlen
    rw [hMM]
    dsimp only
    dsimp only at hlen
    have hlM : M.length ≤ 100000000 := by omega
    have hmH := Lib.hid hm
    have hnH := Lib.hid hn32
    clear hr hC hT hm hMM hK hlen
    go_enter Try.func64, Try.ntmps64
    go_wp2_with ((with_reducible refine box_row rfl 31 (.tmp 0) rfl C ?_ ?_); rfl; refine RowKit.Hid.out ?_)
    refine Lib.hid ?_
    clear hW
    go_wp2_with ((with_reducible refine wpList_load_blk rfl 31 (.tmp 1) rfl ?_ hk rowBk hCl ?_); rfl)
    refine (hR.out W hb).mono ?_
    rintro q w1 ⟨rfl, b1⟩
    have hk1 := hk.keep b1 hk.lt
    have hS1 := hb.trans (b1.mono hb.size)
    clear hk hb b1 hR
    go_wp2_with fail
    refine (wNew_any 1089 w1 (by decide)).mono ?_
    rintro q w2 ⟨g, F, rfl, hw2, hF2, b2⟩
    rw [show max (1089 : Int) 0 = 1089 by decide] at hw2
    have hk2 := hk1.keep b2 hk1.lt
    have hS2 := hS1.trans (b2.mono hS1.size)
    have nG : ¬ F G := fun h => by have := hF2 _ h; have := hk1.lt; omega
    have hFl : ∀ b, F b → w.heap.size ≤ b := fun b hb => Nat.le_trans hS1.size (hF2 b hb)
    have hT2 := hTH.out.keep hS2
    have hFT : ∀ x, a = some x → 0 < n → ¬ F x.block := fun x hx h0 hF => by
      rcases hTH.out.2.2 with h1 | ⟨b', off, ha, hc⟩
      · omega
      · rw [ha] at hx
        injection hx with hx
        subst hx
        have hq : b' < w.heap.size := World.block_lt_of_cell? w _ (hc 0 (by omega))
        exact absurd hq (Nat.not_lt.2 (hFl _ hF))
    have hD := We.start hw2
    have nGH := Lib.hid nG
    have hFlH := Lib.hid hFl
    have hTH2 := Lib.hid (And.intro hT2 hFT)
    have c0 := e0.out w2 G hk2
    obtain ⟨X0, hX0⟩ : ∃ C, H.map (Value.int .u8) = C := ⟨_, rfl⟩
    obtain ⟨X1, hX1⟩ : ∃ C, P.map (Value.int .u8) = C := ⟨_, rfl⟩
    rw [hX0] at c0 hrH e0
    rw [hX1] at hrP e1
    clear b2 hF2 hw2 hk1 hS1 nG hFl hT2 hFT
    go_wp2_with ((with_reducible refine wpList_load_part rfl 28 (.tmp 10) rfl ?_ X0 c0 hrH ?_); rfl)
    have cw := we_id hD H hH (by rw [List.length_nil]; decide) (by decide)
    rw [hX0] at cw
    refine cw.mono ?_
    rintro q w3 ⟨rfl, hD3⟩
    have hk3 := hD3.blk hk2 nGH.out
    have c1 := e1.out w3 G hk3
    clear hD c0 cw
    go_wp2_with ((with_reducible refine wpList_load_part rfl 28 (.tmp 14) rfl ?_ X1 c1 hrP ?_); rfl)
    have l1 : ([] ++ H : List Int).length = 32 := by rw [List.nil_append, hH]
    have cw := we_id hD3 P hP (by rw [l1]; decide) (by rw [l1]; decide)
    rw [hX1] at cw
    refine cw.mono ?_
    rintro q w4 ⟨rfl, hD4⟩
    have hk4 := hD4.blk hk2 nGH.out
    have c2 := e2.out w4 G hk4
    clear hD3 c1 cw hk3
    go_wp2_with fail
    have l2 : (([] ++ H) ++ P : List Int).length = 64 := by rw [List.length_append, l1, hP]
    refine (we_num hD4 (n : Int) 1 ⟨by decide, by decide, by show (n : Int) < 256; have := hnH.out; omega⟩ (by omega) (by rw [l2]; decide) (by rw [l2]; decide)).mono ?_
    rintro q w5 ⟨rfl, hD5⟩
    have hk5 := hD5.blk hk2 nGH.out
    have c2 := e2.out w5 G hk5
    clear hD4 hk4
    have l3 : ((([] ++ H) ++ P) ++ beL (n : Int) (1 : Int).toNat : List Int).length = 65 := by rw [List.length_append, l2, beL_len]; rfl
    go_wp2_with fail
    refine (we_ids hD5 a n c zs hTH2.out.1 hTH2.out.2 (by rw [l3]; have := hnH.out; omega) (by rw [l3]; have := hnH.out; omega)).mono ?_
    rintro q w6 ⟨rfl, hD6⟩
    rw [← hmH.out] at hD6
    have hS6 := hS2.trans (hD6.below hFlH.out hS2.size)
    clear hD5 hk5 c2
    have hd := hD6.done hlM
    rw [if_pos rfl] at hd
    clear hD6
    go_wp2_with fail
    refine hd.mono ?_
    rintro q w8 ⟨b, d, rfl, ho, b8⟩
    have hloc : ∀ x, b = some x → 0 < M.length → w.heap.size ≤ x.block := fun x hx _ => Nat.le_trans hS6.size (ho.lt x.block (by rw [hx]; rfl)).1
    obtain ⟨b', d', hv, hJ⟩ := Ints.of_owns ho
    injection hv with e1 _ e2
    subst e1; subst e2
    go_wp2
    go_ret2
    exact ⟨b, d, rfl, hJ, hloc, hS6.trans (b8.mono hS6.size)⟩
end Go.Proofs.Ytaaflnmdaplfkaa

/-
  What record's Copy comes to. New memory alone is written. Conditions: the fields' ranges; at most a hundred thousand ids, at most 2^32 bytes.
-/
namespace Go.Proofs.Ytaaflnmdaplfkaa
open Go.RowKit

set_option maxRecDepth 100000 in
set_option maxHeartbeats 2000000 in
theorem kcCopy_any (r : RecV) (a b : Option Addr) (c d : Nat) (w : World) (hr : RecOk r) (hI : RecAt w r a c b d) (hn : r.b.n ≤ 100000) (hx : r.m.blob.length ≤ 4294967296) :
    Calls Try.prog 15 #[.agg (rC r a c b d).toArray] w fun q w' => ∃ a' c' b' d', q = .returned (.agg (rC r a' c' b' d').toArray) ∧ w'.ownsRow w.heap.size 5 1 (.slice a' r.m.blob.length c') r.m.blob.length (r.m.blob.map (Value.int .u8)) ∧ w'.ownsRow w.heap.size 28 32 (.slice b' r.b.n d') r.b.n (r.b.ids.map (Value.int .u8)) ∧ (∀ x y, a' = some x → b' = some y → x.block < y.block) ∧ Below w.heap.size w w' := by
  obtain ⟨⟨K, S, Q, O, H, xs⟩, ⟨h, p, m, zs⟩⟩ := r
  obtain ⟨⟨_, _, _, hl, _, _⟩, ⟨hh, hp, _, _, _, _⟩⟩ := hr
  obtain ⟨hI, hT⟩ := hI
  unfold rC
  dsimp only at hl hh hp hI hT hn hx ⊢
  obtain ⟨n, hn1⟩ : ∃ n, xs.length = n := ⟨_, rfl⟩
  rw [hn1] at hI hx ⊢
  have hset := fun a' n' c' => rcC_set5 (K := K) (S := S) (Q := Q) (O := O) (a := a) (n := n) (c := c) (h := h) (p := p) (b := b) (m := m) (d := d) hl a' n' c'
  have hov := fun a' n' c' b' d' => rcC_over6 (K := K) (S := S) (Q := Q) (O := O) (a := a') (n := n') (c := c') (b := b) (m := m) (d := d) hl hh hp h p b' m d' hh hp
  have hone := fun a' n' c' b' d' => rcC_one (K := K) (S := S) (Q := Q) (O := O) (H := H) (a := a') (n := n') (c := c') (h := h) (p := p) (b := b') (m := m) (d := d')
  have hlen := fun a' n' c' b' d' => rcC_len (K := K) (S := S) (Q := Q) (O := O) (a := a') (n := n') (c := c') (b := b') (m := m) (d := d') hl hh hp
  have e5 := fun w' g (k : Blk w' g 33 (rcC K S Q O H a n c h p b m d)) => rc5 k hl
  have e6 := fun w' g a' c' (k : Blk w' g 33 (rcC K S Q O H a' n c' h p b m d)) => rc6 k hl
  obtain ⟨D, hD⟩ : ∃ D : Option Addr → Nat → Option Addr → Nat → List Value, ∀ a' c' b' d', rcC K S Q O H a' n c' h p b' m d' = D a' c' b' d' := ⟨_, fun _ _ _ _ => rfl⟩
  have hset := fun a' c' => show (D a c b d).set 20 (.slice a' n c') = D a' c' b d by rw [← hD, ← hD]; exact hset a' n c'
  have hov := fun a' c' b' d' => show overV (D a' c' b d) 21 (bkC h p b' m d') = D a' c' b' d' by rw [← hD, ← hD]; exact hov a' n c' b' d'
  have hone := fun a' c' b' d' => show ∀ v ∈ D a' c' b' d', v.oneCell' = true by rw [← hD]; exact hone a' n c' b' d'
  have hlen := fun a' c' b' d' => show (D a' c' b' d').length = 86 by rw [← hD]; exact hlen a' n c' b' d'
  have e5 := fun w' g (k : Blk w' g 33 (D a c b d)) => e5 w' g (by rw [hD]; exact k)
  have e6 := fun w' g a' c' (k : Blk w' g 33 (D a' c' b d)) => e6 w' g a' c' (by rw [hD]; exact k)
  have hUl := bkC_len (a := b) (n := m) (c := d) hh hp
  have hul := fun b' d' => bkC_len (a := b') (n := m) (c := d') hh hp
  have hu1 := fun b' d' => bkC_one h p b' m d'
  have hcp := fun w' (k : Below w.heap.size w w') => bkCopy_any h p b m d zs w' hh hp (hT.keep k) hn
  obtain ⟨U, hU⟩ : ∃ U, bkC h p b m d = U := ⟨_, rfl⟩
  obtain ⟨X, hX⟩ : ∃ X : Option Addr → Nat → List Value, ∀ b' d', bkC h p b' m d' = X b' d' := ⟨_, fun _ _ => rfl⟩
  simp only [hD]
  rw [hU] at e6 hUl hcp
  have hov := fun a' c' b' d' => show overV (D a' c' b d) 21 (X b' d') = D a' c' b' d' by rw [← hX]; exact hov a' c' b' d'
  have hul := fun b' d' => show (X b' d').length = 65 by rw [← hX]; exact hul b' d'
  have hu1 := fun b' d' => show ∀ v ∈ X b' d', v.oneCell' = true by rw [← hX]; exact hu1 b' d'
  simp only [hX] at hcp
  have hrU : IsRow Try.prog 31 U.length := rowBk_of hUl
  obtain ⟨C, hC⟩ : ∃ C, D a c b d = C := ⟨_, rfl⟩
  have hlC := hlen a c b d
  rw [hC] at hset hlC e5
  rw [hC]
  have hcpH := Lib.hid hcp
  have hset := Lib.hid hset
  have hov := Lib.hid hov
  have e6 := Lib.hid e6
  clear hC hD hU hX hT hcp hn hn1
  obtain ⟨Z, hZ⟩ : ∃ Z, rC noRec none 0 none 0 = Z := ⟨_, rfl⟩
  have hZ0 : Zero Try.prog 33 Z := by rw [← hZ]; exact zeroRc
  have hZl : Z.length = 86 := by rw [← hZ]; exact rC_len noRec_ok _ _ _ _
  clear hZ
  have hb := below2 w (.cells C.toArray 33) (.cells Z.toArray 33)
  have hk : Blk ((w.alloc (.cells C.toArray 33)).alloc (.cells Z.toArray 33)) w.heap.size 33 C := (Blk.new w _ C).alloc _
  have hk2 : Blk ((w.alloc (.cells C.toArray 33)).alloc (.cells Z.toArray 33)) (w.heap.size + 1) 33 Z := Blk.new1 w _ _ _
  obtain ⟨V, hV⟩ : ∃ V, (w.alloc (.cells C.toArray 33)).alloc (.cells Z.toArray 33) = V := ⟨_, rfl⟩
  rw [hV] at hb hk hk2
  have hcl := pClone_any a n c xs V (hI.keep hb) hx
  have hbH := Lib.hid hb
  clear hI hx hb
  obtain ⟨G, g9⟩ : ∃ G, w.heap.size = G := ⟨_, rfl⟩
  rw [g9] at hk hk2
  have c5 := e5 V G hk
  go_enter Try.func15, Try.ntmps15
  go_wp2_with (first
    | ((with_reducible refine box_row rfl 33 (.tmp 0) rfl C ?_ ?_); rfl)
    | ((with_reducible refine wpList_alloc_blk rfl 33 rfl hZ0 ?_); refine RowKit.Hid.out ?_))
  refine Lib.hid ?_
  go_wp2_with fail
  refine hcl.mono ?_
  rintro q w1 ⟨a1, c1, rfl, ho, b1⟩
  have gH := Lib.hid g9
  clear hcl c5 g9 hV
  have hk1 := hk.keep b1 hk.lt
  have hk21 := hk2.keep b1 hk2.lt
  have c5 := e5 w1 G hk1
  have f5 := hk1.frozen 20
  have hs1 := hset.out a1 c1
  have hB1 := hbH.out.trans (b1.mono hbH.out.size)
  have hkS : Blk (w1.setCell ⟨G, 20, none⟩ (.slice a1 n c1)) G 33 (D a1 c1 b d) := by
    have := hk1.set 20 (.slice a1 n c1)
    rw [hs1] at this
    exact this
  have hkZ : Blk (w1.setCell ⟨G, 20, none⟩ (.slice a1 n c1)) (G + 1) 33 Z := hk21.far (by show G + 1 ≠ G; omega) _
  have hBS : Below w.heap.size w (w1.setCell ⟨G, 20, none⟩ (.slice a1 n c1)) := hB1.setCell (p := ⟨G, 20, none⟩) (by show w.heap.size ≤ G; rw [gH.out]; exact Nat.le_refl _) _
  have oS : (w1.setCell ⟨G, 20, none⟩ (.slice a1 n c1)).ownsRow V.heap.size 5 1 (.slice a1 n c1) n (xs.map (Value.int .u8)) := own_far9 ho (grown_setCell w1 G 20 _) hk.lt
  have hVs := Lib.hid hk2.lt
  have c6 := e6.out _ G a1 c1 hkS
  have hlS := hlen a1 c1 b d
  obtain ⟨E, hE⟩ : ∃ E, D a1 c1 b d = E := ⟨_, rfl⟩
  have hov1 := hov.out a1 c1
  rw [hE] at hkS hlS hov1
  have hcp1 := Lib.hid (hcpH.out _ hBS)
  have hov1 := Lib.hid hov1
  have LS := Lib.hid (And.intro hkS (And.intro hkZ (And.intro hBS oS)))
  clear ho b1 hk1 hk21 hB1 hs1 hk hk2 hset e5 e6 hov hcpH hE hkS hkZ hBS oS
  go_wp2_with ((with_reducible refine wpList_load_part rfl 31 (.tmp 7) rfl ?_ U c6 hrU ?_); rfl)
  obtain ⟨W, hW⟩ : ∃ W, w1.setCell ⟨G, 20, none⟩ (.slice a1 n c1) = W := ⟨_, rfl⟩
  rw [hW] at hcp1 LS c6 ⊢
  refine hcp1.out.mono ?_
  rintro q w2 ⟨b2, d2, rfl, ho2, b2'⟩
  obtain ⟨hkS, hkZ, hBS, oS⟩ := LS.out
  have hk3 := hkS.keep b2' hkS.lt
  have hz3 := hkZ.keep b2' hkZ.lt
  have B3 := hBS.trans (b2'.mono hBS.size)
  have o3 := own_stay9 oS b2'
  have hx2 := hul b2 d2
  have hrX : IsRow Try.prog 31 (X b2 d2).length := rowBk_of hx2
  have hx21 := hu1 b2 d2
  have hov2 := hov1.out b2 d2
  obtain ⟨Y, hY⟩ : ∃ Y, X b2 d2 = Y := ⟨_, rfl⟩
  rw [hY] at hx2 hrX hx21 hov2 ⊢
  have hGW := Lib.hid hkS.lt
  have hGZ := Lib.hid hkZ.lt
  have lt1 : ∀ x, a1 = some x → V.heap.size ≤ x.block ∧ x.block < W.heap.size := fun x hx => oS.lt x.block (by rw [hx]; rfl)
  have lt2 : ∀ x, b2 = some x → W.heap.size ≤ x.block ∧ x.block < w2.heap.size := fun x hx => ho2.lt x.block (by rw [hx]; rfl)
  have hsep := Lib.hid (show ∀ x y, a1 = some x → b2 = some y → x.block < y.block from fun x y hx hy => by have := lt1 x hx; have := lt2 y hy; omega)
  have hov2 := Lib.hid hov2
  clear hkS hkZ hBS oS b2' LS hcp1 c6 hov1 hY hW lt1 lt2
  go_wp2_with ((with_reducible refine wpList_store_part (off := 21) rfl 31 (.tmp 10) (.tmp 9) rfl ?_ ?_ hk3 hrX ?_ hx21 ?_); rfl; rfl; (rw [hx2, hlS]; decide); refine RowKit.Hid.out ?_)
  refine Lib.hid ?_
  intro w4 hk4 hg4
  try rw [hov2.out] at hk4
  have hz4 := hz3.grown hg4 (fun e => by injection e with e; omega)
  have B4 := B3.grown hg4 B3.size (fun q hq => by injection hq with hq; have := gH.out; omega)
  have o4 := own_far9 o3 hg4 (by have := hVs.out; omega)
  have p4 := own_far9 ho2 hg4 hGW.out
  have hlD := hlen a1 c1 b2 d2
  have h1D := hone a1 c1 b2 d2
  clear hk3 hz3 B3 o3 ho2 hg4
  go_wp2_with ((with_reducible refine wpList_load_blk rfl 33 (.tmp 1) rfl ?_ hk4 rowRc hlD ?_); rfl; refine RowKit.Hid.out ?_)
  refine Lib.hid ?_
  refine store_row rfl 33 (.tmp 2) (.tmp 11) rfl rfl rfl hz4 rowRc hlD hZl h1D ?_
  intro w5 hb5 hg5
  have hr5 : IsRow Try.prog 33 (D a1 c1 b2 d2).length := by rw [hlD]; exact rowRc
  go_wp2_with fail
  refine bodyPost_ret (results_blk rfl rfl hb5 hr5) rfl ?_
  refine ⟨a1, c1, b2, d2, rfl, ?_, ?_, hsep.out, ?_⟩
  · have := own_far9 o4 hg5 hVs.out
    exact own_low9 this (by have := hbH.out.size; omega)
  · have := own_far9 p4 hg5 hGZ.out
    exact own_low9 this (by have := hbH.out.size; have := hGZ.out; have := gH.out; omega)
  · exact B4.grown hg5 B4.size (fun q hq => by injection hq with hq; have := gH.out; omega)
end Go.Proofs.Ytaaflnmdaplfkaa

/-
  The example that each law of layer 16 ends with. New memory alone is written. No conditions.
-/
namespace Go.Proofs.Ytaaflnmdaplfkaa
open Go.RowKit

section
variable {P : Program} {w : World} {ops : Array Oper} {rest : List Oper} {o : Oper} {a : Act} {Q : Exit → Act → World → Prop}
theorem buildSlice_if (hw : Region.wanted o (yielded ops a.tmps) = true) (t e : TypeId) (len : Nat) (parts : Array (Nat × Operand)) (ho : o.op = .buildSlice t len parts)
    (cells : Array Value) (ie : TypeInfo) (z : Value)
    (hu : P.underlying t = some (.slice e)) (hie : P.info? e = some ie) (hz : ie.zero = some z) (hsmall : ¬ len * ie.size > 2 ^ 24) (hpos : ¬ len * ie.size = 0)
    (hf : Instr.fill (fun i => some (i * ie.size, ie.size)) ((Array.range (len * ie.size)).map (z.cells[· % z.cells.size]!)) (parts.map fun (i, x) => (i, a.eval x)).toList = some cells)
    (h : wpList P ops Q rest (a.put o.dst (.slice (some ⟨w.heap.size, 0, none⟩) len len)) (w.alloc (.cells cells e))) : wpList P ops Q (o :: rest) a w := by
  refine wpList_step fun K hK => ?_
  rw [if_pos hw]
  exact wp_buildSlice t e len parts ho cells ie z hu hie hz hsmall hpos hf (hK _ _ h)
end

def idA : List Int := 1 :: List.replicate 31 0
def idB : List Int := 5 :: List.replicate 31 0
theorem built_idA : Try.prog.built 28 [(0, .int .u8 1)] = some (idA.map (Value.int .u8)).toArray := by kernel_rfl
theorem built_idB : Try.prog.built 28 [(0, .int .u8 5)] = some (idB.map (Value.int .u8)).toArray := by kernel_rfl
theorem okA : BlkOk ⟨idA, z32, 0, []⟩ := ⟨rfl, rfl, rfl, by unfold okB idA; decide, by unfold okB z32; decide, fun x h => by cases h⟩
theorem encA : encK ⟨idA, z32, 0, []⟩ = (idA ++ (z32 ++ [0]), 0) := by decide
theorem lenA : (idA ++ (z32 ++ [0]) : List Int).length = 65 := rfl
theorem hasB : hasL idB idB 1 = true := by decide
end Go.Proofs.Ytaaflnmdaplfkaa

/-
  The law BlockReads, by what the program's blocks and the document's own come to. New memory alone is written. Conditions: bytes below 256.
-/
namespace Go.Proofs.Ytaaflnmdaplfkaa
open Go.RowKit

theorem IdsAt.isIn {w : World} {a : Option Addr} {n c : Nat} {zs : List Int} (h : IdsAt w a n c zs) : ∀ x, a = some x → 0 < n → x.block < w.heap.size := fun x hx h0 => by
  rcases h.2.2 with h1 | ⟨b', off, ha, hc⟩
  · omega
  · rw [ha] at hx
    injection hx with hx
    subst hx
    exact World.block_lt_of_cell? w _ (hc 0 (by omega))
theorem IdsAt.grownR {w w' : World} {a : Option Addr} {n c : Nat} {zs : List Int} {row : Option Nat} (h : IdsAt w a n c zs) (hg : w.grownBy w' row) (hne : ∀ x, a = some x → 0 < n → some x.block ≠ row) : IdsAt w' a n c zs := by
  refine ⟨h.1, h.2.1, ?_⟩
  rcases h.2.2 with h0 | ⟨b', off, ha, hc⟩
  · exact .inl h0
  · by_cases h0 : n = 0
    · exact .inl h0
    · exact .inr ⟨b', off, ha, fun i hi => hg.cell (hc i hi) (show some b' ≠ row from hne ⟨b', off, none⟩ ha (by omega))⟩
theorem decK_n (xs : List Int) (hx : okB xs) : (decK xs).1.n ≤ 32 := by
  by_cases he : (decK xs).2 = 0
  · exact rightK_le (enc_dec hx he).2.1
  · rw [decK_bad he]; exact Nat.zero_le _
theorem str_same16 {xs : List Int} (hx : okB xs) : ((strOfNums xs).toList == (strOfNums xs).toList) = true := by
  have := str_eq hx hx
  rw [decide_eq_true rfl] at this
  exact this
end Go.Proofs.Ytaaflnmdaplfkaa

/-
  The law BlockAsks, by what the program's blocks and the document's own come to. New memory alone is written. Conditions: the fields' ranges.
-/
namespace Go.Proofs.Ytaaflnmdaplfkaa
open Go.RowKit

/-- Ids in a block of their own, whatever they are: the first byte of each. -/
def Bym (w : World) (a : Option Addr) (n c : Nat) : Prop := n ≤ c ∧ (n = 0 ∨ ∃ g cs, a = some ⟨g, 0, none⟩ ∧ Blk w g 28 cs ∧ ∀ i, i < n → ∃ v, cs[i * 32]? = some (.int .u8 v))
/-- The block of a slice that has ids. -/
def Atm (a : Option Addr) (n : Nat) (b : Nat) : Prop := 0 < n ∧ ∃ x, a = some x ∧ x.block = b
theorem Bym.of_owns {w : World} {B : Nat} {a : Option Addr} {n c : Nat} {xs : List Int} (h : w.ownsRow B 28 32 (.slice a n c) n (xs.map (Value.int .u8))) : Bym w a n c := by
  have hl : xs.length = n * 32 := by have := h.1; rw [List.length_map] at this; omega
  rcases h.2 with ⟨hv, hn⟩ | ⟨g, cap, cur, hv, _, hg, hnc, hsz, hcur, htk⟩
  · injection hv with _ _ h3
    exact ⟨by omega, .inl hn⟩
  · injection hv with h1 _ h3
    refine ⟨by omega, .inr ⟨g, cur.toList, h1, by simpa [Blk] using hg, fun i hi => ⟨xs.getD (i * 32) 0, ?_⟩⟩⟩
    rw [← List.getElem?_take_of_lt (show i * 32 < n * 32 by omega), htk]
    exact getElem?_mapInt .u8 xs (i * 32) (by omega)
theorem Bym.inc {w : World} {a : Option Addr} {n c : Nat} (h : Bym w a n c) (j : Nat) (hj : j < n) : ∃ g v, a = some ⟨g, 0, none⟩ ∧ w.cell? ⟨g, j * 32, none⟩ = some (.int .u8 v) ∧ w.frozen? ⟨g, j * 32, none⟩ = false ∧ ∀ u, Bym (w.setCell ⟨g, j * 32, none⟩ (.int .u8 u)) a n c ∧ Moved (Atm a n) w (w.setCell ⟨g, j * 32, none⟩ (.int .u8 u)) := by
  rcases h.2 with h0 | ⟨g, cs, ha, hb, hv⟩
  · omega
  · obtain ⟨v, hvj⟩ := hv j hj
    refine ⟨g, v, ha, (hb.cell (j * 32)).trans hvj, hb.frozen (j * 32), fun u => ⟨⟨h.1, .inr ⟨g, _, ha, hb.set (j * 32) _, fun i hi => ?_⟩⟩, moved_set ⟨by omega, _, ha, rfl⟩ (grown_setCell w g (j * 32) _)⟩⟩
    by_cases e : i = j
    · subst e
      exact ⟨u, by rw [List.getElem?_set_self (List.getElem?_eq_some_iff.1 hvj).1]⟩
    · obtain ⟨x, hx⟩ := hv i hi
      exact ⟨x, by rw [List.getElem?_set_ne (fun h => e (by omega))]; exact hx⟩
theorem Bym.grown {w w' : World} {a : Option Addr} {n c : Nat} {row : Option Nat} (h : Bym w a n c) (hg : w.grownBy w' row) (hne : ∀ b, Atm a n b → some b ≠ row) : Bym w' a n c := by
  refine ⟨h.1, ?_⟩
  rcases h.2 with h0 | ⟨g, cs, ha, hb, hv⟩
  · exact .inl h0
  · by_cases h0 : n = 0
    · exact .inl h0
    · exact .inr ⟨g, cs, ha, hb.grown hg (hne g ⟨by omega, _, ha, rfl⟩), hv⟩
theorem Bym.keep {w w' : World} {a : Option Addr} {n c : Nat} (h : Bym w a n c) (hb : Below w.heap.size w w') : Bym w' a n c := by
  refine ⟨h.1, ?_⟩
  rcases h.2 with h0 | ⟨g, cs, ha, hk, hv⟩
  · exact .inl h0
  · exact .inr ⟨g, cs, ha, hk.keep hb hk.lt, hv⟩
end Go.Proofs.Ytaaflnmdaplfkaa
