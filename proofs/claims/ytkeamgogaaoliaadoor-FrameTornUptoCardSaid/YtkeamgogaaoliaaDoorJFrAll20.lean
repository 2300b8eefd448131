/-
  Texts of stages that were proved on their own, joined: FrLawR. Each begins with its own words.
-/
import Derived.Test.YtkeamgogaaoliaaDoorJFrAll18
import Derived.Test.YtkeamgogaaoliaaDoorJFrAll19
import Derived.Test.YtkeamgogaaoliaaDoorJFrAll14

/-
  The law FrameReads: the first frame of any bytes, all of them, and a range over them that may break off. New memory alone is written. Conditions: the row's own.
-/
namespace Go.Proofs.YtkeamgogaaoliaaDoor
open Go.RowKit Go.Shelf
attribute [local go_sem] Oper.semAt_some

theorem body_nums19 {p bl j K n : Nat} (h : p + (8 + bl) ≤ n) (hn : n ≤ 2000) (hK : K ≤ 2000) (hj : j < K) : IntKind.i64.wrap ((p : Int) + (bl : Int)) = (p : Int) + (bl : Int) ∧ IntKind.i64.wrap ((p : Int) + (bl : Int) + 8) = (p : Int) + (bl : Int) + 8 ∧ IntKind.i64.wrap ((j : Int) + 1) = (j : Int) + 1 ∧ decide ((K : Int) ≤ (j : Int)) = false ∧ decide (K ≤ j) = false := by
  refine ⟨by rw [IntKind.wrap_i64]; omega, by rw [IntKind.wrap_i64]; omega, by rw [IntKind.wrap_i64]; omega, decide_eq_false (by omega), decide_eq_false (by omega)⟩
theorem nxt19 {q p bl : Nat} (h : q = p + (8 + bl)) : (q : Int) = (p : Int) + (bl : Int) + 8 := by omega
theorem mo_wrap19 {mo : Int} (h : 0 ≤ mo ∧ mo < 256) : wrap64 mo = mo ∧ IntKind.i64.wrap mo = mo := ⟨by unfold wrap64; omega, by rw [IntKind.wrap_i64]; omega⟩
theorem ne_row19 {A : Nat} {row : Option Nat} {Z : World} (hr : ∀ r, row = some r → A + 2 ≤ r ∧ ∃ o : Obj, Z.heap[r]? = some o ∧ o.isCells = false) : some A ≠ row ∧ some (A + 1) ≠ row ∧ ∀ k, row = some k → A ≤ k := by
  refine ⟨fun e => ?_, fun e => ?_, fun k hk => ?_⟩
  · have := (hr A e.symm).1; omega
  · have := (hr (A + 1) e.symm).1; omega
  · have := (hr k hk).1; omega
theorem eqFunc19 (b : Nat) (w : World) : Sem.run Tryd.prog (binOp BinOp.eql 37 (.func (.func 39) #[] #[.pointer (some ⟨b, 0, none⟩)]) .nilFunc) w = .ok (.bool false) w := by kernel_rfl

set_option maxRecDepth 100000 in
set_option maxHeartbeats 4000000 in
theorem reads19_any (a : Option Addr) (n c : Nat) (xs : List Int) (mo : Int) (w : World) (hG : Glob11 w) (hI : Ints .u8 w a n c xs) (hr : ∀ x ∈ xs, 0 ≤ x ∧ x < 256) (hmo : 0 ≤ mo ∧ mo < 256) :
    Calls Tryd.prog 4 #[.slice a n c, .int .u8 mo] w fun q w' => q = .returned (.bool true) ∧ Below w.heap.size w w' := by
  have heq := eqFunc19
  refine (callsIn_wide (n := 9)).1 (callsIn_of_wp_marks Tryd.func4 rfl trivial (wpIn_wide.2 ?_) rfl)
  simp only [Tryd.ntmps4, List.size_toArray, List.length_cons, List.length_nil, Nat.reduceAdd, Nat.reduceSub, Array.replicate_succ, Array.replicate_zero, List.push_toArray, List.append_toArray, List.nil_append, List.cons_append]
  obtain ⟨G, hGs⟩ : ∃ G, w.heap.size = G := ⟨_, rfl⟩
  obtain ⟨W1, hW1⟩ : ∃ W, (w.alloc (.cells #[.int .u8 mo] 5)).alloc (.cells #[.bool false] 4) = W := ⟨_, rfl⟩
  have hs1 : W1.heap.size = G + 2 := by rw [← hW1, ← hGs]; exact size2 w _ _
  have hb1 : Below G w W1 := by rw [← hW1, ← hGs]; exact below2 w _ _
  have km : Boxed W1 G 5 (.int .u8 mo) := by rw [← hW1, ← hGs]; exact (Boxed.new w _ _).alloc _
  have kr : Boxed W1 (G + 1) 4 (.bool false) := by
    rw [← hW1, ← hGs]
    have h := Boxed.new (w.alloc (.cells #[.int .u8 mo] 5)) 4 (.bool false)
    rw [size1] at h
    exact h
  have hI1 := hI.keep (by rw [hGs]; exact hb1)
  have hG1 := hG.keep hb1 (by rw [hGs]; exact Nat.le_refl _)
  have hl := hI.len
  by_cases hn : 2000 < n
  · have hni : (2000 : Int) < (n : Int) := by omega
    clear hI hr hn hG
    go_wp2_with fail
    refine (alive19_any _ hG1).mono ?_
    rintro q w2 ⟨rfl, b2⟩
    have k2 := kr.kept (grown_of_below b2 none) (by simp)
    have cr := k2.cell
    have fr := k2.frozen
    have hc5 := (k2.set (.bool true)).cell
    have hB2 : Below G w (w2.setCell ⟨G + 1, 0, none⟩ (.bool true)) := (hb1.trans (b2.mono (by omega))).setCell (p := ⟨G + 1, 0, none⟩) (Nat.le_succ G) _
    clear b2 k2
    go_wp2_with fail
    refine ⟨.bool true, by simp [results, Tryd.f4, go_sem, hc5], rfl, ?_⟩
    rw [hGs]
    exact hB2
  · have hni : ¬ (2000 : Int) < (n : Int) := by omega
    obtain ⟨K, hF⟩ := fr_ex xs
    have hp1 := fOne_any a n c xs W1 hG1 hI1 hr (by omega)
    have hp2 := fun w' (h : Below W1.heap.size W1 w') => r19One_any a n c xs w' (hI1.keep h) hr (by omega)
    have hp3 := fun w' (h : Below W1.heap.size W1 w') => fScan_any a n c xs K hF w' (hG1.keep h (Nat.le_refl _)) (hI1.keep h) hr (by omega)
    have hp4 := fun w' (h : Below W1.heap.size W1 w') => r19Scan_any a n c xs K hF w' (hI1.keep h) hr (by omega)
    have hp5 := fun w' (h : Below W1.heap.size W1 w') => fAll_any a n c xs w' (hI1.keep h) (by omega)
    have hor : ∀ x ∈ (oneF xs).1, 0 ≤ x ∧ x < 256 := by
      have h := bodyF_range hr 0
      exact h
    obtain ⟨⟨Y, S, E⟩, hY⟩ : ∃ o, oneF xs = o := ⟨_, rfl⟩
    have hYH := Lib.hid hY
    rw [hY] at hor
    dsimp only at hor
    obtain ⟨P, hP⟩ : ∃ P, atF xs K = P := ⟨_, rfl⟩
    rw [hP] at hp3 hp4
    have hFH := Lib.hid hF
    have hrH := Lib.hid hr
    have hGH := Lib.hid hG
    have hlH := Lib.hid hl
    have hnH := Lib.hid (show n ≤ 2000 by omega)
    have hPH := Lib.hid hP
    have hGsH := Lib.hid hGs
    obtain ⟨yl, hyl⟩ : ∃ yl, Y.length = yl := ⟨_, rfl⟩
    have hylH := Lib.hid hyl
    clear hI hn hG hY hP hF hr hl hyl
    go_wp2_with fail
    refine hp1.mono ?_
    intro q w2 hq
    obtain ⟨x, xd, rfl, ho2, b2⟩ := oneEnd_n hq hYH.out hylH.out
    obtain ⟨x', xd', hv, hIx⟩ := Ints.of_owns ho2
    injection hv with e1 _ e3
    subst e1; subst e3
    clear hp1 hq ho2
    go_wp2_with fail
    refine (hp2 w2 b2).mono ?_
    intro q w3 hq
    obtain ⟨y, yd, rfl, ho3, b3⟩ := oneEnd_n hq hYH.out hylH.out
    obtain ⟨y', yd', hv, hIy⟩ := Ints.of_owns ho3
    injection hv with e1 _ e3
    subst e1; subst e3
    have b3' := b2.trans (b3.mono b2.size)
    have hIx3 := hIx.keep b3
    clear hp2 hq ho3 b3 b2 hIx
    go_wp2_with fail
    refine (hp3 w3 b3').mono ?_
    rintro q w4 ⟨lv, rfl, hlr, b4⟩
    obtain ⟨la, lc, rfl, _⟩ := hlr.parts
    rw [bodiesF_len] at hlr ⊢
    have hIx4 := hIx3.keep b4
    have hIy4 := hIy.keep b4
    have b4' := b3'.trans (b4.mono b3'.size)
    obtain ⟨L, hLs⟩ : ∃ L, w4.heap.size = L := ⟨_, rfl⟩
    have b5 := below1 w4 (.cells #[.slice la K lc] 32)
    have kl : Boxed (w4.alloc (.cells #[.slice la K lc] 32)) L 32 (.slice la K lc) := by rw [← hLs]; exact Boxed.new w4 _ _
    obtain ⟨w5, hw5⟩ : ∃ W, w4.alloc (.cells #[.slice la K lc] 32) = W := ⟨_, rfl⟩
    rw [hw5] at b5 kl
    have hs5 : w5.heap.size = L + 1 := by rw [← hw5, ← hLs]; exact size1 w4 _
    have hlr5 := hlr.keep b5
    have hIx5 := hIx4.keep b5
    have hIy5 := hIy4.keep b5
    have b5' := b4'.trans (b5.mono b4'.size)
    clear hp3 b4 hIx3 hIy hlr hIx4 hIy4 b5 b3' b4'
    go_wp2_with fail
    refine (hp4 w5 b5').mono ?_
    rintro q w6 ⟨kv, rfl, hkr, b6⟩
    obtain ⟨ka, kc, rfl, hkP⟩ := hkr.parts
    have hlr6 := hlr5.keep b6
    obtain ⟨la', lc', hlv, hlP⟩ := hlr6.parts
    injection hlv with e1 e2 e3
    subst e1; subst e3
    clear e2
    rw [bodiesF_len] at hkP hlP ⊢
    have kl6 := kl.kept (grown_of_below b6 none) (by simp)
    have cl6 := kl6.cell
    have hS1 := (hIx5.keep b6).string (P := Tryd.prog) 22 9 5 Tryd.underlying22 Tryd.underlying5 Tryd.underlying9
    have hS2 := (hIy5.keep b6).string (P := Tryd.prog) 22 9 5 Tryd.underlying22 Tryd.underlying5 Tryd.underlying9
    have hsame := str_same19 hor
    have b6' := b5'.trans (b6.mono b5'.size)
    have hs6 : L + 1 ≤ w6.heap.size := by have := b6.size; omega
    have hK9 := (hFH.out.at (Nat.le_refl K)).1
    have hKn := (hFH.out.at (Nat.le_refl K)).2
    rw [hlH.out] at hKn
    have hKb := Lib.hid (show K ≤ 2000 by have := hnH.out; omega)
    have hsm := r19Same_any la ka K lc kc (bodiesF xs K) w6 hlP hkP (fun p hp => by
      unfold bodiesF at hp
      obtain ⟨k, _, rfl⟩ := List.mem_map.1 hp
      exact bodyF_range hrH.out k) (by have := hKb.out; omega)
    clear hp4 hkr hkP hlP hlr5 kl hIx5 hIy5 b6 b5' hs5 hw5 hLs hK9 hKn
    go_wp2_with fail
    refine hsm.mono ?_
    rintro q w7 ⟨rfl, b7⟩
    have b7' := b6'.trans (b7.mono b6'.size)
    have hlr7 := hlr6.keep b7
    have kl7 := kl6.kept (grown_of_below b7 none) (by simp)
    have hs7 := Nat.le_trans hs6 b7.size
    clear hsm hS1 hS2 hsame cl6 hlr6 kl6 hs6 b6' b7
    go_wp2_with fail
    refine (hp5 w7 b7').mono ?_
    rintro q w8 ⟨b, d, B1, rfl, kB, hB1, hIb, hbl, b8⟩
    have b8' := b7'.trans (b8.mono b7'.size)
    have hlr8 := hlr7.keep b8
    have kl8 := kl7.kept (grown_of_below b8 none) (by simp)
    have hs8 : B1 < w8.heap.size := kB.lt
    obtain ⟨A, hA⟩ : ∃ A, w8.heap.size = A := ⟨_, rfl⟩
    obtain ⟨W0, hW0⟩ : ∃ W, (w8.alloc (.cells #[.int .i64 0] 3)).alloc (.cells #[.int .i64 0] 3) = W := ⟨_, rfl⟩
    have hs0 : W0.heap.size = A + 2 := by rw [← hW0, ← hA]; exact size2 w8 _ _
    have hb0 : Below A w8 W0 := by rw [← hW0, ← hA]; exact below2 w8 _ _
    have k0 : Boxed W0 A 3 (.int .i64 0) := by rw [← hW0, ← hA]; exact (Boxed.new w8 _ _).alloc _
    have k1 : Boxed W0 (A + 1) 3 (.int .i64 0) := by
      rw [← hW0, ← hA]
      have h := Boxed.new (w8.alloc (.cells #[.int .i64 0] 3)) 3 (.int .i64 0)
      rw [size1] at h
      exact h
    clear hp5 hlr7 kl7 b7' b8
    have c0 := k0.cell
    have f0 := k0.frozen
    have k0' := k0.set (.int .i64 0)
    have k1' := k1.kept (grownBy_setCell' W0 A (.int .i64 0)) (by intro e; injection e with e; omega)
    have c1 := k1'.cell
    have f1 := k1'.frozen
    have k0'' := k0'.kept (grownBy_setCell' (W0.setCell ⟨A, 0, none⟩ (.int .i64 0)) (A + 1) (.int .i64 0)) (by intro e; injection e with e; omega)
    have k1'' := k1'.set (.int .i64 0)
    have hb1' : Below A w8 ((W0.setCell ⟨A, 0, none⟩ (.int .i64 0)).setCell ⟨A + 1, 0, none⟩ (.int .i64 0)) := (hb0.setCell (p := ⟨A, 0, none⟩) (Nat.le_refl A) _).setCell (p := ⟨A + 1, 0, none⟩) (Nat.le_succ A) _
    have hs2 : ((W0.setCell ⟨A, 0, none⟩ (.int .i64 0)).setCell ⟨A + 1, 0, none⟩ (.int .i64 0)).heap.size = A + 2 := by rw [← hs0]; exact Nat.le_antisymm (by simp [World.setCell]) (by simp [World.setCell])
    obtain ⟨X, hX⟩ : ∃ X, (W0.setCell ⟨A, 0, none⟩ (.int .i64 0)).setCell ⟨A + 1, 0, none⟩ (.int .i64 0) = X := ⟨_, rfl⟩
    rw [hX] at k0'' k1'' hb1' hs2
    clear k0 k1 k0' k1' hb0 hs0
    go_wp2_with fail
    clear c0 f0 c1 f1 hX hW0
    have km8 := km.kept (grown_of_below b8' none) (by simp)
    have kr8 := kr.kept (grown_of_below b8' none) (by simp)
    have hG8 := hG1.keep b8' (Nat.le_refl _)
    have hB8 : Below G w w8 := hb1.trans (b8'.mono (by rw [hs1]; exact Nat.le_add_right _ _))
    have hbX : Below w8.heap.size w8 X := by rw [hA]; exact hb1'
    have hsee := frames_sees (9 - 1) (by omega) B1 b n d xs K X hFH.out (Nat.lt_of_lt_of_le hs8 hbX.size) ((kB.keep hbX hs8).cell 0) (hIb.keep hbX) hrH.out (Nat.le_trans hnH.out (by decide)) (hG8.keep hbX (Nat.le_refl _))
    have hAH := Lib.hid hA
    have hGA : G + 1 < A := by rw [← hA]; exact kr8.lt
    have hLA : L < A := by rw [← hA]; exact kl8.lt
    have hBA : B1 < X.heap.size := Nat.lt_of_lt_of_le hs8 hbX.size
    have hA8 : A ≤ w8.heap.size := by rw [hA]; exact Nat.le_refl _
    clear km kr hG1 hI1 hb1 hs1 hW1 hbX hA hs8 hs7 b8' hGs
    refine (wpIn_wide (n := 9)).1 ?_
    refine wpIn_rangeFunc_sees rfl (by omega) (gf := 39) (lb := #[.pointer (some ⟨B1, 0, none⟩)]) rfl trivial (enters_of Tryd.func39 (by kernel_rfl) rfl) hsee KeptF.t (KeptF.b hBA) (Below.refl _ _) (fun _ => rfl)
      (fun pre W => Below A w8 W ∧ Boxed W A 3 (.int .i64 ((atF xs pre.length : Nat) : Int)) ∧ Boxed W (A + 1) 3 (.int .i64 (pre.length : Int)) ∧ (pre.length : Int) ≤ mo ∧ pre.length ≤ K)
      (fun q _ W => q = .exit 0 ∧ Below A w8 W ∧ Boxed W (A + 1) 3 (.int .i64 mo) ∧ mo < (K : Int))
      (fun pre X Z row h hg hr => by
        rw [hs2] at hr
        obtain ⟨n1, n2, n3⟩ := ne_row19 hr
        exact ⟨h.1.grown hg (Nat.le_trans hA8 h.1.size) n3, h.2.1.kept hg n1, h.2.2.1.kept hg n2, h.2.2.2⟩)
      (fun q pre X Z row h hg hr => by
        rw [hs2] at hr
        obtain ⟨n1, n2, n3⟩ := ne_row19 hr
        exact ⟨h.1, h.2.1.grown hg (Nat.le_trans hA8 h.2.1.size) n3, h.2.2.1.kept hg n2, h.2.2.2⟩)
      (fun pre => seesK_own19 xs _ pre) ⟨hb1', k0'', k1'', hmo.1, Nat.zero_le _⟩
      (fun z => { tmps := #[(.slice a n c : Value), .int .u8 mo, undef, .pointer (some ⟨G, 0, none⟩), .pointer (some ⟨G + 1, 0, none⟩), .slice x yl xd, .int .i64 ((S : Nat) : Int), .int .i64 E, .slice y yl yd, .int .i64 ((S : Nat) : Int), .int .i64 E, .pointer (some ⟨L, 0, none⟩), .int .i64 ((P : Nat) : Int), .slice ka K kc, .int .i64 ((P : Nat) : Int), .func (.func 39) #[] #[.pointer (some ⟨B1, 0, none⟩)], .pointer (some ⟨A, 0, none⟩), .pointer (some ⟨A + 1, 0, none⟩), .int .i64 ((atF xs z.k : Nat) : Int), .slice z.b (bodyF xs z.k).length z.d, .slice a n c, .int .i64 ((n : Nat) : Int), .bool false, undef, .tuple #[.slice x yl xd, .int .i64 ((S : Nat) : Int), .int .i64 E], .slice a n c, .tuple #[.slice x yl xd, .int .i64 ((S : Nat) : Int), .int .i64 E], .slice x yl xd, .int .i64 ((S : Nat) : Int), .int .i64 E, .tuple #[.slice y yl yd, .int .i64 ((S : Nat) : Int), .int .i64 E], .slice a n c, .tuple #[.slice y yl yd, .int .i64 ((S : Nat) : Int), .int .i64 E], .slice y yl yd, .int .i64 ((S : Nat) : Int), .int .i64 E, .tuple #[.slice la K lc, .int .i64 ((P : Nat) : Int)], .slice a n c, .tuple #[.slice la K lc, .int .i64 ((P : Nat) : Int)], .slice la K lc, .int .i64 ((P : Nat) : Int), .tuple #[.slice ka K kc, .int .i64 ((P : Nat) : Int)], .slice a n c, .tuple #[.slice ka K kc, .int .i64 ((P : Nat) : Int)], .slice ka K kc, .int .i64 ((P : Nat) : Int), .slice x yl xd, .string (strOfNums Y), .slice y yl yd, .string (strOfNums Y), .bool false, .bool false, .int .i64 ((S : Nat) : Int), .int .i64 ((S : Nat) : Int), .bool false, .bool false, .bool false, .int .i64 E, .int .i64 E, .bool false, .bool false, .bool false, .slice la K lc, .slice ka K kc, .bool true, .bool false, .bool false, .bool false, .int .i64 ((P : Nat) : Int), .int .i64 ((P : Nat) : Int), .bool false, .bool false, .slice a n c, .func (.func 39) #[] #[.pointer (some ⟨B1, 0, none⟩)], .func (.func 39) #[] #[.pointer (some ⟨B1, 0, none⟩)], .bool false, .func (.func 39) #[] #[.pointer (some ⟨B1, 0, none⟩)], .int .i64 ((atF xs z.k : Nat) : Int), .slice z.b (bodyF xs z.k).length z.d, undef, undef, undef, undef, undef, undef, undef, undef, undef, undef, undef, undef, undef, undef, undef, undef, undef, undef, undef, undef, undef, undef, undef, undef, undef, undef, undef, undef, undef, undef, undef, undef, undef, undef, undef, undef, undef, undef, undef, undef], defers := [] }) ?assign ?body ?done ?stop
    case assign =>
      intro l x W K hK
      dsimp only [encFI]
      gi_wp2
      exact hK
    case body =>
      rintro l pre x W ⟨hB, hat, hi, hmj, _⟩ ⟨hxk, hx⟩ hpl
      obtain ⟨k, xb, xe⟩ := x
      dsimp only at hxk hx ⊢
      subst hxk
      unfold SeesF at hx
      dsimp only at hx
      obtain ⟨j, hj⟩ : ∃ j, pre.length = j := ⟨_, rfl⟩
      have hlen1 := Lib.hid (show ∀ z : FI, (pre ++ [z]).length = j + 1 from fun z => by rw [List.length_append, hj]; rfl)
      rw [hj] at hat hi hmj hpl hx ⊢
      clear hj
      have hBw : Below w8.heap.size w8 W := by rw [hAH.out]; exact hB
      have hm := km8.kept (grown_of_below hBw none) (by simp)
      have cm := hm.cell
      have ci := hi.cell
      have hjK : (j : Int) < (K : Int) := Int.ofNat_lt.2 hpl
      obtain ⟨hw8m, hw8n⟩ := mo_wrap19 hmo
      by_cases hlt : (j : Int) < mo
      · have hge : ¬ mo ≤ (j : Int) := by omega
        have hlw := kl8.kept (grown_of_below hBw none) (by simp)
        have hrow := hlr8.keep hBw
        obtain ⟨la', lc', hlv, hlP⟩ := hrow.parts
        injection hlv with e1 e2 e3
        subst e1; subst e3
        clear e2
        rw [bodiesF_len] at hlP
        obtain ⟨rb, ro, hla, hce⟩ := hlP.at (Nat.lt_of_le_of_lt (Nat.zero_le _) hpl)
        subst hla
        obtain ⟨ea, en, ec, cel, hIe⟩ := hce j hpl
        have hge2 : (bodiesF xs K).getD j [] = bodyF xs j := by rw [List.getD_eq_getElem?_getD, bodiesF_at _ _ _ hpl]; rfl
        rw [hge2] at hIe
        have hbd := hFH.out.body hpl
        have hbr := bodyF_range hrH.out j
        have hen := hIe.len
        have hsm := str_same19 hbr
        obtain ⟨p, hp⟩ : ∃ p, atF xs j = p := ⟨_, rfl⟩
        obtain ⟨BD, hBD⟩ : ∃ b, bodyF xs j = b := ⟨_, rfl⟩
        obtain ⟨bl, hbl'⟩ : ∃ b, BD.length = b := ⟨_, rfl⟩
        rw [hBD] at hIe hbd hsm hx hen ⊢
        rw [hp] at hat hbd ⊢
        rw [hbl'] at hx hbd hen ⊢
        subst hen
        have hnxt := Lib.hid (nxt19 hbd.2.2.1)
        have hpn := hbd.2.2.2
        rw [hbd.2.2.1, hlH.out] at hpn
        obtain ⟨hwa, hwb, hwc, gKj, gKn⟩ := body_nums19 hpn hnH.out hKb.out hpl
        have gi := Lib.hid (fun w' (h : Below W.heap.size W w') => (hi.kept (grown_of_below h none) (by simp)).cell)
        have ga := Lib.hid (fun w' (h : Below W.heap.size W w') => (hat.kept (grown_of_below h none) (by simp)).cell)
        have gl := Lib.hid (fun w' (h : Below W.heap.size W w') => (hlw.kept (grown_of_below h none) (by simp)).cell)
        have ge := Lib.hid (fun w' (h : Below W.heap.size W w') => (show w'.cell? ⟨rb, ro + j, none⟩ = some (.slice ea bl ec) by rw [h.cell (World.block_lt_of_cell? W _ cel)]; exact cel))
        have s1 := Lib.hid (fun w' (h : Below W.heap.size W w') => (hx.1.keep h).string (P := Tryd.prog) 22 9 5 Tryd.underlying22 Tryd.underlying5 Tryd.underlying9)
        have s2 := Lib.hid (fun w' (h : Below W.heap.size W w') => (hIe.keep h).string (P := Tryd.prog) 22 9 5 Tryd.underlying22 Tryd.underlying5 Tryd.underlying9)
        have gpp : ((p : Int) != (p : Int)) = false := by simp
        have hltH := Lib.hid hlt
        have hplH := Lib.hid hpl
        clear hlt hBD hbl' hp hbd hbr hrow hlP hce cel hIe hge2 hm hlw hpn hx
        gi_wp2
        refine region_seqS_in (fun w' => Below W.heap.size W w') (by kernel_rfl) (by decide +kernel) ?hq ?_
        case hq =>
          rintro ⟨_, _, h⟩
          exact h
        simp only [pairs, Nat.reduceAdd]
        have b0 : Below W.heap.size W W.drew := (Below.refl _ _).drew
        repeat (first
          | (refine SeqS.take (v := ?_) (by first | assumption | trivial) (by kernel_rfl) (by decide +kernel) (by decide +kernel) (Or.inl ⟨by rfl, ?_⟩) ?_
             rotate_left
             focus
               intro w' hb'
               go_simp
               with_reducible rfl
             simp only [Act.put, List.setIfInBounds_toArray, List.set_cons_zero, List.set_cons_succ])
          | (refine SeqS.take (v := ?_) (by first | assumption | trivial) (by kernel_rfl) (by decide +kernel) (by decide +kernel) (Or.inl ⟨by rfl, ?_⟩) ?_
             rotate_left
             focus
               intro w' hb'
               have d0 := gi.out w' hb'
               go_simp
               with_reducible rfl
             simp only [Act.put, List.setIfInBounds_toArray, List.set_cons_zero, List.set_cons_succ])
          | (refine SeqS.take (v := ?_) (by first | assumption | trivial) (by kernel_rfl) (by decide +kernel) (by decide +kernel) (Or.inl ⟨by rfl, ?_⟩) ?_
             rotate_left
             focus
               intro w' hb'
               have d0 := ga.out w' hb'
               go_simp
               with_reducible rfl
             simp only [Act.put, List.setIfInBounds_toArray, List.set_cons_zero, List.set_cons_succ])
          | (refine SeqS.take (v := ?_) (by first | assumption | trivial) (by kernel_rfl) (by decide +kernel) (by decide +kernel) (Or.inl ⟨by rfl, ?_⟩) ?_
             rotate_left
             focus
               intro w' hb'
               have d0 := gl.out w' hb'
               go_simp
               with_reducible rfl
             simp only [Act.put, List.setIfInBounds_toArray, List.set_cons_zero, List.set_cons_succ])
          | (refine SeqS.take (v := ?_) (by first | assumption | trivial) (by kernel_rfl) (by decide +kernel) (by decide +kernel) (Or.inl ⟨by rfl, ?_⟩) ?_
             rotate_left
             focus
               intro w' hb'
               have d0 := ge.out w' hb'
               go_simp
               with_reducible rfl
             simp only [Act.put, List.setIfInBounds_toArray, List.set_cons_zero, List.set_cons_succ])
          | (refine SeqS.take (v := ?_) (by first | assumption | trivial) (by kernel_rfl) (by decide +kernel) (by decide +kernel) (Or.inl ⟨by rfl, ?_⟩) ?_
             rotate_left
             focus
               intro w' hb'
               have d0 := s1.out w' hb'
               go_simp
               with_reducible rfl
             simp only [Act.put, List.setIfInBounds_toArray, List.set_cons_zero, List.set_cons_succ])
          | (refine SeqS.take (v := ?_) (by first | assumption | trivial) (by kernel_rfl) (by decide +kernel) (by decide +kernel) (Or.inl ⟨by rfl, ?_⟩) ?_
             rotate_left
             focus
               intro w' hb'
               have d0 := s2.out w' hb'
               go_simp
               with_reducible rfl
             simp only [Act.put, List.setIfInBounds_toArray, List.set_cons_zero, List.set_cons_succ])
          | (refine SeqS.take (v := undef) (by first | assumption | trivial) (by kernel_rfl) (by decide +kernel) (by decide +kernel) (Or.inr ⟨by rfl, rfl⟩) ?_
             simp only [Act.put, List.setIfInBounds_toArray, List.set_cons_zero, List.set_cons_succ])
          | (refine SeqS.take1 (v := ?_) (by first | assumption | trivial) (by kernel_rfl) (by decide +kernel) (by decide +kernel) (Or.inl ⟨by rfl, ?_⟩) ?_
             rotate_left
             focus
               intro w' hb'
               go_simp
               with_reducible rfl
             simp only [Act.put, List.setIfInBounds_toArray, List.set_cons_zero, List.set_cons_succ])
          | (refine SeqS.take1 (v := ?_) (by first | assumption | trivial) (by kernel_rfl) (by decide +kernel) (by decide +kernel) (Or.inl ⟨by rfl, ?_⟩) ?_
             rotate_left
             focus
               intro w' hb'
               have d0 := gi.out w' hb'
               go_simp
               with_reducible rfl
             simp only [Act.put, List.setIfInBounds_toArray, List.set_cons_zero, List.set_cons_succ])
          | (refine SeqS.take1 (v := ?_) (by first | assumption | trivial) (by kernel_rfl) (by decide +kernel) (by decide +kernel) (Or.inl ⟨by rfl, ?_⟩) ?_
             rotate_left
             focus
               intro w' hb'
               have d0 := ga.out w' hb'
               go_simp
               with_reducible rfl
             simp only [Act.put, List.setIfInBounds_toArray, List.set_cons_zero, List.set_cons_succ])
          | (refine SeqS.take1 (v := ?_) (by first | assumption | trivial) (by kernel_rfl) (by decide +kernel) (by decide +kernel) (Or.inl ⟨by rfl, ?_⟩) ?_
             rotate_left
             focus
               intro w' hb'
               have d0 := gl.out w' hb'
               go_simp
               with_reducible rfl
             simp only [Act.put, List.setIfInBounds_toArray, List.set_cons_zero, List.set_cons_succ])
          | (refine SeqS.take1 (v := ?_) (by first | assumption | trivial) (by kernel_rfl) (by decide +kernel) (by decide +kernel) (Or.inl ⟨by rfl, ?_⟩) ?_
             rotate_left
             focus
               intro w' hb'
               have d0 := ge.out w' hb'
               go_simp
               with_reducible rfl
             simp only [Act.put, List.setIfInBounds_toArray, List.set_cons_zero, List.set_cons_succ])
          | (refine SeqS.take1 (v := ?_) (by first | assumption | trivial) (by kernel_rfl) (by decide +kernel) (by decide +kernel) (Or.inl ⟨by rfl, ?_⟩) ?_
             rotate_left
             focus
               intro w' hb'
               have d0 := s1.out w' hb'
               go_simp
               with_reducible rfl
             simp only [Act.put, List.setIfInBounds_toArray, List.set_cons_zero, List.set_cons_succ])
          | (refine SeqS.take1 (v := ?_) (by first | assumption | trivial) (by kernel_rfl) (by decide +kernel) (by decide +kernel) (Or.inl ⟨by rfl, ?_⟩) ?_
             rotate_left
             focus
               intro w' hb'
               have d0 := s2.out w' hb'
               go_simp
               with_reducible rfl
             simp only [Act.put, List.setIfInBounds_toArray, List.set_cons_zero, List.set_cons_succ])
          | (refine SeqS.take1 (v := undef) (by first | assumption | trivial) (by kernel_rfl) (by decide +kernel) (by decide +kernel) (Or.inr ⟨by rfl, rfl⟩) ?_
             simp only [Act.put, List.setIfInBounds_toArray, List.set_cons_zero, List.set_cons_succ])
          | (refine SeqS.take2 (v := ?_) (by first | assumption | trivial) (by kernel_rfl) (by decide +kernel) (by decide +kernel) (Or.inl ⟨by rfl, ?_⟩) ?_
             rotate_left
             focus
               intro w' hb'
               go_simp
               with_reducible rfl
             simp only [Act.put, List.setIfInBounds_toArray, List.set_cons_zero, List.set_cons_succ])
          | (refine SeqS.take2 (v := ?_) (by first | assumption | trivial) (by kernel_rfl) (by decide +kernel) (by decide +kernel) (Or.inl ⟨by rfl, ?_⟩) ?_
             rotate_left
             focus
               intro w' hb'
               have d0 := gi.out w' hb'
               go_simp
               with_reducible rfl
             simp only [Act.put, List.setIfInBounds_toArray, List.set_cons_zero, List.set_cons_succ])
          | (refine SeqS.take2 (v := ?_) (by first | assumption | trivial) (by kernel_rfl) (by decide +kernel) (by decide +kernel) (Or.inl ⟨by rfl, ?_⟩) ?_
             rotate_left
             focus
               intro w' hb'
               have d0 := ga.out w' hb'
               go_simp
               with_reducible rfl
             simp only [Act.put, List.setIfInBounds_toArray, List.set_cons_zero, List.set_cons_succ])
          | (refine SeqS.take2 (v := ?_) (by first | assumption | trivial) (by kernel_rfl) (by decide +kernel) (by decide +kernel) (Or.inl ⟨by rfl, ?_⟩) ?_
             rotate_left
             focus
               intro w' hb'
               have d0 := gl.out w' hb'
               go_simp
               with_reducible rfl
             simp only [Act.put, List.setIfInBounds_toArray, List.set_cons_zero, List.set_cons_succ])
          | (refine SeqS.take2 (v := ?_) (by first | assumption | trivial) (by kernel_rfl) (by decide +kernel) (by decide +kernel) (Or.inl ⟨by rfl, ?_⟩) ?_
             rotate_left
             focus
               intro w' hb'
               have d0 := ge.out w' hb'
               go_simp
               with_reducible rfl
             simp only [Act.put, List.setIfInBounds_toArray, List.set_cons_zero, List.set_cons_succ])
          | (refine SeqS.take2 (v := ?_) (by first | assumption | trivial) (by kernel_rfl) (by decide +kernel) (by decide +kernel) (Or.inl ⟨by rfl, ?_⟩) ?_
             rotate_left
             focus
               intro w' hb'
               have d0 := s1.out w' hb'
               go_simp
               with_reducible rfl
             simp only [Act.put, List.setIfInBounds_toArray, List.set_cons_zero, List.set_cons_succ])
          | (refine SeqS.take2 (v := ?_) (by first | assumption | trivial) (by kernel_rfl) (by decide +kernel) (by decide +kernel) (Or.inl ⟨by rfl, ?_⟩) ?_
             rotate_left
             focus
               intro w' hb'
               have d0 := s2.out w' hb'
               go_simp
               with_reducible rfl
             simp only [Act.put, List.setIfInBounds_toArray, List.set_cons_zero, List.set_cons_succ])
          | (refine SeqS.take2 (v := undef) (by first | assumption | trivial) (by kernel_rfl) (by decide +kernel) (by decide +kernel) (Or.inr ⟨by rfl, rfl⟩) ?_
             simp only [Act.put, List.setIfInBounds_toArray, List.set_cons_zero, List.set_cons_succ])
          | (refine SeqS.take3 (v := ?_) (by first | assumption | trivial) (by kernel_rfl) (by decide +kernel) (by decide +kernel) (Or.inl ⟨by rfl, ?_⟩) ?_
             rotate_left
             focus
               intro w' hb'
               go_simp
               with_reducible rfl
             simp only [Act.put, List.setIfInBounds_toArray, List.set_cons_zero, List.set_cons_succ])
          | (refine SeqS.take3 (v := ?_) (by first | assumption | trivial) (by kernel_rfl) (by decide +kernel) (by decide +kernel) (Or.inl ⟨by rfl, ?_⟩) ?_
             rotate_left
             focus
               intro w' hb'
               have d0 := gi.out w' hb'
               go_simp
               with_reducible rfl
             simp only [Act.put, List.setIfInBounds_toArray, List.set_cons_zero, List.set_cons_succ])
          | (refine SeqS.take3 (v := ?_) (by first | assumption | trivial) (by kernel_rfl) (by decide +kernel) (by decide +kernel) (Or.inl ⟨by rfl, ?_⟩) ?_
             rotate_left
             focus
               intro w' hb'
               have d0 := ga.out w' hb'
               go_simp
               with_reducible rfl
             simp only [Act.put, List.setIfInBounds_toArray, List.set_cons_zero, List.set_cons_succ])
          | (refine SeqS.take3 (v := ?_) (by first | assumption | trivial) (by kernel_rfl) (by decide +kernel) (by decide +kernel) (Or.inl ⟨by rfl, ?_⟩) ?_
             rotate_left
             focus
               intro w' hb'
               have d0 := gl.out w' hb'
               go_simp
               with_reducible rfl
             simp only [Act.put, List.setIfInBounds_toArray, List.set_cons_zero, List.set_cons_succ])
          | (refine SeqS.take3 (v := ?_) (by first | assumption | trivial) (by kernel_rfl) (by decide +kernel) (by decide +kernel) (Or.inl ⟨by rfl, ?_⟩) ?_
             rotate_left
             focus
               intro w' hb'
               have d0 := ge.out w' hb'
               go_simp
               with_reducible rfl
             simp only [Act.put, List.setIfInBounds_toArray, List.set_cons_zero, List.set_cons_succ])
          | (refine SeqS.take3 (v := ?_) (by first | assumption | trivial) (by kernel_rfl) (by decide +kernel) (by decide +kernel) (Or.inl ⟨by rfl, ?_⟩) ?_
             rotate_left
             focus
               intro w' hb'
               have d0 := s1.out w' hb'
               go_simp
               with_reducible rfl
             simp only [Act.put, List.setIfInBounds_toArray, List.set_cons_zero, List.set_cons_succ])
          | (refine SeqS.take3 (v := ?_) (by first | assumption | trivial) (by kernel_rfl) (by decide +kernel) (by decide +kernel) (Or.inl ⟨by rfl, ?_⟩) ?_
             rotate_left
             focus
               intro w' hb'
               have d0 := s2.out w' hb'
               go_simp
               with_reducible rfl
             simp only [Act.put, List.setIfInBounds_toArray, List.set_cons_zero, List.set_cons_succ])
          | (refine SeqS.take3 (v := undef) (by first | assumption | trivial) (by kernel_rfl) (by decide +kernel) (by decide +kernel) (Or.inr ⟨by rfl, rfl⟩) ?_
             simp only [Act.put, List.setIfInBounds_toArray, List.set_cons_zero, List.set_cons_succ])
          | (refine SeqS.take4 (v := ?_) (by first | assumption | trivial) (by kernel_rfl) (by decide +kernel) (by decide +kernel) (Or.inl ⟨by rfl, ?_⟩) ?_
             rotate_left
             focus
               intro w' hb'
               go_simp
               with_reducible rfl
             simp only [Act.put, List.setIfInBounds_toArray, List.set_cons_zero, List.set_cons_succ])
          | (refine SeqS.take4 (v := ?_) (by first | assumption | trivial) (by kernel_rfl) (by decide +kernel) (by decide +kernel) (Or.inl ⟨by rfl, ?_⟩) ?_
             rotate_left
             focus
               intro w' hb'
               have d0 := gi.out w' hb'
               go_simp
               with_reducible rfl
             simp only [Act.put, List.setIfInBounds_toArray, List.set_cons_zero, List.set_cons_succ])
          | (refine SeqS.take4 (v := ?_) (by first | assumption | trivial) (by kernel_rfl) (by decide +kernel) (by decide +kernel) (Or.inl ⟨by rfl, ?_⟩) ?_
             rotate_left
             focus
               intro w' hb'
               have d0 := ga.out w' hb'
               go_simp
               with_reducible rfl
             simp only [Act.put, List.setIfInBounds_toArray, List.set_cons_zero, List.set_cons_succ])
          | (refine SeqS.take4 (v := ?_) (by first | assumption | trivial) (by kernel_rfl) (by decide +kernel) (by decide +kernel) (Or.inl ⟨by rfl, ?_⟩) ?_
             rotate_left
             focus
               intro w' hb'
               have d0 := gl.out w' hb'
               go_simp
               with_reducible rfl
             simp only [Act.put, List.setIfInBounds_toArray, List.set_cons_zero, List.set_cons_succ])
          | (refine SeqS.take4 (v := ?_) (by first | assumption | trivial) (by kernel_rfl) (by decide +kernel) (by decide +kernel) (Or.inl ⟨by rfl, ?_⟩) ?_
             rotate_left
             focus
               intro w' hb'
               have d0 := ge.out w' hb'
               go_simp
               with_reducible rfl
             simp only [Act.put, List.setIfInBounds_toArray, List.set_cons_zero, List.set_cons_succ])
          | (refine SeqS.take4 (v := ?_) (by first | assumption | trivial) (by kernel_rfl) (by decide +kernel) (by decide +kernel) (Or.inl ⟨by rfl, ?_⟩) ?_
             rotate_left
             focus
               intro w' hb'
               have d0 := s1.out w' hb'
               go_simp
               with_reducible rfl
             simp only [Act.put, List.setIfInBounds_toArray, List.set_cons_zero, List.set_cons_succ])
          | (refine SeqS.take4 (v := ?_) (by first | assumption | trivial) (by kernel_rfl) (by decide +kernel) (by decide +kernel) (Or.inl ⟨by rfl, ?_⟩) ?_
             rotate_left
             focus
               intro w' hb'
               have d0 := s2.out w' hb'
               go_simp
               with_reducible rfl
             simp only [Act.put, List.setIfInBounds_toArray, List.set_cons_zero, List.set_cons_succ])
          | (refine SeqS.take4 (v := undef) (by first | assumption | trivial) (by kernel_rfl) (by decide +kernel) (by decide +kernel) (Or.inr ⟨by rfl, rfl⟩) ?_
             simp only [Act.put, List.setIfInBounds_toArray, List.set_cons_zero, List.set_cons_succ])
          | (refine SeqS.take5 (v := ?_) (by first | assumption | trivial) (by kernel_rfl) (by decide +kernel) (by decide +kernel) (Or.inl ⟨by rfl, ?_⟩) ?_
             rotate_left
             focus
               intro w' hb'
               go_simp
               with_reducible rfl
             simp only [Act.put, List.setIfInBounds_toArray, List.set_cons_zero, List.set_cons_succ])
          | (refine SeqS.take5 (v := ?_) (by first | assumption | trivial) (by kernel_rfl) (by decide +kernel) (by decide +kernel) (Or.inl ⟨by rfl, ?_⟩) ?_
             rotate_left
             focus
               intro w' hb'
               have d0 := gi.out w' hb'
               go_simp
               with_reducible rfl
             simp only [Act.put, List.setIfInBounds_toArray, List.set_cons_zero, List.set_cons_succ])
          | (refine SeqS.take5 (v := ?_) (by first | assumption | trivial) (by kernel_rfl) (by decide +kernel) (by decide +kernel) (Or.inl ⟨by rfl, ?_⟩) ?_
             rotate_left
             focus
               intro w' hb'
               have d0 := ga.out w' hb'
               go_simp
               with_reducible rfl
             simp only [Act.put, List.setIfInBounds_toArray, List.set_cons_zero, List.set_cons_succ])
          | (refine SeqS.take5 (v := ?_) (by first | assumption | trivial) (by kernel_rfl) (by decide +kernel) (by decide +kernel) (Or.inl ⟨by rfl, ?_⟩) ?_
             rotate_left
             focus
               intro w' hb'
               have d0 := gl.out w' hb'
               go_simp
               with_reducible rfl
             simp only [Act.put, List.setIfInBounds_toArray, List.set_cons_zero, List.set_cons_succ])
          | (refine SeqS.take5 (v := ?_) (by first | assumption | trivial) (by kernel_rfl) (by decide +kernel) (by decide +kernel) (Or.inl ⟨by rfl, ?_⟩) ?_
             rotate_left
             focus
               intro w' hb'
               have d0 := ge.out w' hb'
               go_simp
               with_reducible rfl
             simp only [Act.put, List.setIfInBounds_toArray, List.set_cons_zero, List.set_cons_succ])
          | (refine SeqS.take5 (v := ?_) (by first | assumption | trivial) (by kernel_rfl) (by decide +kernel) (by decide +kernel) (Or.inl ⟨by rfl, ?_⟩) ?_
             rotate_left
             focus
               intro w' hb'
               have d0 := s1.out w' hb'
               go_simp
               with_reducible rfl
             simp only [Act.put, List.setIfInBounds_toArray, List.set_cons_zero, List.set_cons_succ])
          | (refine SeqS.take5 (v := ?_) (by first | assumption | trivial) (by kernel_rfl) (by decide +kernel) (by decide +kernel) (Or.inl ⟨by rfl, ?_⟩) ?_
             rotate_left
             focus
               intro w' hb'
               have d0 := s2.out w' hb'
               go_simp
               with_reducible rfl
             simp only [Act.put, List.setIfInBounds_toArray, List.set_cons_zero, List.set_cons_succ])
          | (refine SeqS.take5 (v := undef) (by first | assumption | trivial) (by kernel_rfl) (by decide +kernel) (by decide +kernel) (Or.inr ⟨by rfl, rfl⟩) ?_
             simp only [Act.put, List.setIfInBounds_toArray, List.set_cons_zero, List.set_cons_succ])
          | (refine SeqS.take6 (v := ?_) (by first | assumption | trivial) (by kernel_rfl) (by decide +kernel) (by decide +kernel) (Or.inl ⟨by rfl, ?_⟩) ?_
             rotate_left
             focus
               intro w' hb'
               go_simp
               with_reducible rfl
             simp only [Act.put, List.setIfInBounds_toArray, List.set_cons_zero, List.set_cons_succ])
          | (refine SeqS.take6 (v := ?_) (by first | assumption | trivial) (by kernel_rfl) (by decide +kernel) (by decide +kernel) (Or.inl ⟨by rfl, ?_⟩) ?_
             rotate_left
             focus
               intro w' hb'
               have d0 := gi.out w' hb'
               go_simp
               with_reducible rfl
             simp only [Act.put, List.setIfInBounds_toArray, List.set_cons_zero, List.set_cons_succ])
          | (refine SeqS.take6 (v := ?_) (by first | assumption | trivial) (by kernel_rfl) (by decide +kernel) (by decide +kernel) (Or.inl ⟨by rfl, ?_⟩) ?_
             rotate_left
             focus
               intro w' hb'
               have d0 := ga.out w' hb'
               go_simp
               with_reducible rfl
             simp only [Act.put, List.setIfInBounds_toArray, List.set_cons_zero, List.set_cons_succ])
          | (refine SeqS.take6 (v := ?_) (by first | assumption | trivial) (by kernel_rfl) (by decide +kernel) (by decide +kernel) (Or.inl ⟨by rfl, ?_⟩) ?_
             rotate_left
             focus
               intro w' hb'
               have d0 := gl.out w' hb'
               go_simp
               with_reducible rfl
             simp only [Act.put, List.setIfInBounds_toArray, List.set_cons_zero, List.set_cons_succ])
          | (refine SeqS.take6 (v := ?_) (by first | assumption | trivial) (by kernel_rfl) (by decide +kernel) (by decide +kernel) (Or.inl ⟨by rfl, ?_⟩) ?_
             rotate_left
             focus
               intro w' hb'
               have d0 := ge.out w' hb'
               go_simp
               with_reducible rfl
             simp only [Act.put, List.setIfInBounds_toArray, List.set_cons_zero, List.set_cons_succ])
          | (refine SeqS.take6 (v := ?_) (by first | assumption | trivial) (by kernel_rfl) (by decide +kernel) (by decide +kernel) (Or.inl ⟨by rfl, ?_⟩) ?_
             rotate_left
             focus
               intro w' hb'
               have d0 := s1.out w' hb'
               go_simp
               with_reducible rfl
             simp only [Act.put, List.setIfInBounds_toArray, List.set_cons_zero, List.set_cons_succ])
          | (refine SeqS.take6 (v := ?_) (by first | assumption | trivial) (by kernel_rfl) (by decide +kernel) (by decide +kernel) (Or.inl ⟨by rfl, ?_⟩) ?_
             rotate_left
             focus
               intro w' hb'
               have d0 := s2.out w' hb'
               go_simp
               with_reducible rfl
             simp only [Act.put, List.setIfInBounds_toArray, List.set_cons_zero, List.set_cons_succ])
          | (refine SeqS.take6 (v := undef) (by first | assumption | trivial) (by kernel_rfl) (by decide +kernel) (by decide +kernel) (Or.inr ⟨by rfl, rfl⟩) ?_
             simp only [Act.put, List.setIfInBounds_toArray, List.set_cons_zero, List.set_cons_succ]))
        refine SeqS.done (by decide +kernel) ?_
        clear gi ga gl ge s1 s2 b0 gKj gKn gpp hsm
        gi_wp2
        refine region_seqS_in (fun _ => True) (by kernel_rfl) (by decide +kernel) ?hq ?_
        case hq =>
          rintro ⟨_, _, h⟩
          exact h
        simp only [pairs, Nat.reduceAdd]
        obtain ⟨V, hV⟩ : ∃ V, W.drew.drew = V := ⟨_, rfl⟩
        have hatV : Boxed V A 3 (.int .i64 (p : Int)) := by rw [← hV]; exact hat
        have hiV : Boxed V (A + 1) 3 (.int .i64 (j : Int)) := by rw [← hV]; exact hi
        have hBV : Below A w8 V := by rw [← hV]; exact hB.drew.drew
        have hVH := Lib.hid hV
        have hBA8 : B1 < w8.heap.size := kB.lt
        rw [hV]
        have catV := hatV.cell
        have ciV := hiV.cell
        have faV := hatV.frozen
        have fiV := hiV.frozen
        have hi1 := hiV.kept (grownBy_setCell' V A (.int .i64 ((p : Int) + (bl : Int) + 8))) (by intro e; injection e with e; exact absurd e (Nat.ne_of_gt (Nat.lt_succ_self A)))
        have ci1 := hi1.cell
        have fi1 := hi1.frozen
        have tr : True := trivial
        clear hV hat hi hi1 cm ci
        repeat (first
          | (refine SeqS.take (v := ?_) (by first | assumption | trivial) (by kernel_rfl) (by decide +kernel) (by decide +kernel) (Or.inl ⟨by rfl, ?_⟩) ?_
             rotate_left
             focus
               intro w' hb'
               go_simp
               with_reducible rfl
             simp only [Act.put, List.setIfInBounds_toArray, List.set_cons_zero, List.set_cons_succ])
          | (refine SeqS.take (v := undef) (by first | assumption | trivial) (by kernel_rfl) (by decide +kernel) (by decide +kernel) (Or.inr ⟨by rfl, rfl⟩) ?_
             simp only [Act.put, List.setIfInBounds_toArray, List.set_cons_zero, List.set_cons_succ])
          | (refine SeqS.take1 (v := ?_) (by first | assumption | trivial) (by kernel_rfl) (by decide +kernel) (by decide +kernel) (Or.inl ⟨by rfl, ?_⟩) ?_
             rotate_left
             focus
               intro w' hb'
               go_simp
               with_reducible rfl
             simp only [Act.put, List.setIfInBounds_toArray, List.set_cons_zero, List.set_cons_succ])
          | (refine SeqS.take1 (v := undef) (by first | assumption | trivial) (by kernel_rfl) (by decide +kernel) (by decide +kernel) (Or.inr ⟨by rfl, rfl⟩) ?_
             simp only [Act.put, List.setIfInBounds_toArray, List.set_cons_zero, List.set_cons_succ])
          | (refine SeqS.take2 (v := ?_) (by first | assumption | trivial) (by kernel_rfl) (by decide +kernel) (by decide +kernel) (Or.inl ⟨by rfl, ?_⟩) ?_
             rotate_left
             focus
               intro w' hb'
               go_simp
               with_reducible rfl
             simp only [Act.put, List.setIfInBounds_toArray, List.set_cons_zero, List.set_cons_succ])
          | (refine SeqS.take2 (v := undef) (by first | assumption | trivial) (by kernel_rfl) (by decide +kernel) (by decide +kernel) (Or.inr ⟨by rfl, rfl⟩) ?_
             simp only [Act.put, List.setIfInBounds_toArray, List.set_cons_zero, List.set_cons_succ]))
        refine SeqS.either (rs := [0, 5]) (by decide +kernel) ?_
        intro k hk
        simp only [List.mem_cons, List.not_mem_nil, or_false] at hk
        rcases hk with rfl | rfl
        · refine ⟨[], _, [_, _, _, _, _, _], rfl, by rfl, fun K1 hK => ?_⟩
          go_simp
          refine hK _ _ trivial ?_
          clear hK K1
          repeat (first
            | (refine SeqS.take (v := ?_) (by first | assumption | trivial) (by kernel_rfl) (by decide +kernel) (by decide +kernel) (Or.inl ⟨by rfl, ?_⟩) ?_
               rotate_left
               focus
                 intro w' hb'
                 go_simp
                 with_reducible rfl
               simp only [Act.put, List.setIfInBounds_toArray, List.set_cons_zero, List.set_cons_succ])
            | (refine SeqS.take (v := undef) (by first | assumption | trivial) (by kernel_rfl) (by decide +kernel) (by decide +kernel) (Or.inr ⟨by rfl, rfl⟩) ?_
               simp only [Act.put, List.setIfInBounds_toArray, List.set_cons_zero, List.set_cons_succ])
            | (refine SeqS.take1 (v := ?_) (by first | assumption | trivial) (by kernel_rfl) (by decide +kernel) (by decide +kernel) (Or.inl ⟨by rfl, ?_⟩) ?_
               rotate_left
               focus
                 intro w' hb'
                 go_simp
                 with_reducible rfl
               simp only [Act.put, List.setIfInBounds_toArray, List.set_cons_zero, List.set_cons_succ])
            | (refine SeqS.take1 (v := undef) (by first | assumption | trivial) (by kernel_rfl) (by decide +kernel) (by decide +kernel) (Or.inr ⟨by rfl, rfl⟩) ?_
               simp only [Act.put, List.setIfInBounds_toArray, List.set_cons_zero, List.set_cons_succ])
            | (refine SeqS.take2 (v := ?_) (by first | assumption | trivial) (by kernel_rfl) (by decide +kernel) (by decide +kernel) (Or.inl ⟨by rfl, ?_⟩) ?_
               rotate_left
               focus
                 intro w' hb'
                 go_simp
                 with_reducible rfl
               simp only [Act.put, List.setIfInBounds_toArray, List.set_cons_zero, List.set_cons_succ])
            | (refine SeqS.take2 (v := undef) (by first | assumption | trivial) (by kernel_rfl) (by decide +kernel) (by decide +kernel) (Or.inr ⟨by rfl, rfl⟩) ?_
               simp only [Act.put, List.setIfInBounds_toArray, List.set_cons_zero, List.set_cons_succ]))
          refine SeqS.either (rs := [5, 7]) (by decide +kernel) ?_
          intro k hk
          simp only [List.mem_cons, List.not_mem_nil, or_false] at hk
          rcases hk with rfl | rfl
          · refine ⟨[], _, [_, _, _], rfl, by rfl, fun K1 hK => ?_⟩
            go_simp
            refine hK _ _ trivial ?_
            clear hK K1
            repeat (first
              | (refine SeqS.take (v := ?_) (by first | assumption | trivial) (by kernel_rfl) (by decide +kernel) (by decide +kernel) (Or.inl ⟨by rfl, ?_⟩) ?_
                 rotate_left
                 focus
                   intro w' hb'
                   go_simp
                   with_reducible rfl
                 simp only [Act.put, List.setIfInBounds_toArray, List.set_cons_zero, List.set_cons_succ])
              | (refine SeqS.take (v := undef) (by first | assumption | trivial) (by kernel_rfl) (by decide +kernel) (by decide +kernel) (Or.inr ⟨by rfl, rfl⟩) ?_
                 simp only [Act.put, List.setIfInBounds_toArray, List.set_cons_zero, List.set_cons_succ])
              | (refine SeqS.take1 (v := ?_) (by first | assumption | trivial) (by kernel_rfl) (by decide +kernel) (by decide +kernel) (Or.inl ⟨by rfl, ?_⟩) ?_
                 rotate_left
                 focus
                   intro w' hb'
                   go_simp
                   with_reducible rfl
                 simp only [Act.put, List.setIfInBounds_toArray, List.set_cons_zero, List.set_cons_succ])
              | (refine SeqS.take1 (v := undef) (by first | assumption | trivial) (by kernel_rfl) (by decide +kernel) (by decide +kernel) (Or.inr ⟨by rfl, rfl⟩) ?_
                 simp only [Act.put, List.setIfInBounds_toArray, List.set_cons_zero, List.set_cons_succ])
              | (refine SeqS.take2 (v := ?_) (by first | assumption | trivial) (by kernel_rfl) (by decide +kernel) (by decide +kernel) (Or.inl ⟨by rfl, ?_⟩) ?_
                 rotate_left
                 focus
                   intro w' hb'
                   go_simp
                   with_reducible rfl
                 simp only [Act.put, List.setIfInBounds_toArray, List.set_cons_zero, List.set_cons_succ])
              | (refine SeqS.take2 (v := undef) (by first | assumption | trivial) (by kernel_rfl) (by decide +kernel) (by decide +kernel) (Or.inr ⟨by rfl, rfl⟩) ?_
                 simp only [Act.put, List.setIfInBounds_toArray, List.set_cons_zero, List.set_cons_succ]))
            refine SeqS.alone (by decide +kernel) (by rfl) (fun K1 hK => ?_)
            go_simp
            refine hK _ _ trivial ?_
            clear hK K1
            refine SeqS.alone (by decide +kernel) (by rfl) (fun K1 hK => ?_)
            go_simp
            refine hK _ _ trivial ?_
            clear hK K1
            refine SeqS.done (by decide +kernel) ?_
            have hk7 : KeepsOthers W V := KeepsOthers.of_grownBy (row := none) (by rw [← hVH.out]; exact grown_drew (grown_drew (grown_refl W none))) (fun j o h => by cases h)
            have hB7 : Below A w8 ((V.setCell ⟨A, 0, none⟩ (.int .i64 ((p : Int) + (bl : Int) + 8))).setCell ⟨A + 1, 0, none⟩ (.int .i64 ((j : Int) + 1))) := ((hBV.setCell (p := ⟨A, 0, none⟩) (Nat.le_refl A) _).setCell (p := ⟨A + 1, 0, none⟩) (Nat.le_succ A) _)
            have hBw7 : Below w8.heap.size w8 ((V.setCell ⟨A, 0, none⟩ (.int .i64 ((p : Int) + (bl : Int) + 8))).setCell ⟨A + 1, 0, none⟩ (.int .i64 ((j : Int) + 1))) := by rw [hAH.out]; exact hB7
            refine ⟨((hk7.trans (KeepsOthers.setCell _ _ _)).trans (KeepsOthers.setCell _ _ _)).from _, ⟨?_, fun _ => hIb.keep hBw7, fun _ => hG8.keep hBw7 (Nat.le_refl _)⟩, hB7, ?_, ?_, ?_, ?_⟩
            · exact (hBw7.block B1 hBA8).trans (hBw.block B1 hBA8).symm
            · rw [hlen1.out, hnxt.out]
              exact (hatV.set _).kept (grownBy_setCell' _ (A + 1) _) (by intro e; injection e with e; exact absurd e (Nat.ne_of_lt (Nat.lt_succ_self A)))
            · rw [hlen1.out]
              exact (hiV.kept (grownBy_setCell' V A _) (by intro e; injection e with e; exact absurd e (Nat.ne_of_gt (Nat.lt_succ_self A)))).set _
            · rw [hlen1.out]
              have := hltH.out
              push_cast
              omega
            · rw [hlen1.out]
              exact hplH.out
          · refine ⟨[_, _], _, [_], rfl, by rfl, fun K1 hK => ?_⟩
            go_simp
            refine hK _ _ trivial ?_
            clear hK K1
            refine SeqS.alone (by decide +kernel) (by rfl) (fun K1 hK => ?_)
            go_simp
            refine hK _ _ trivial ?_
            clear hK K1
            repeat (first
              | (refine SeqS.take (v := ?_) (by first | assumption | trivial) (by kernel_rfl) (by decide +kernel) (by decide +kernel) (Or.inl ⟨by rfl, ?_⟩) ?_
                 rotate_left
                 focus
                   intro w' hb'
                   go_simp
                   with_reducible rfl
                 simp only [Act.put, List.setIfInBounds_toArray, List.set_cons_zero, List.set_cons_succ])
              | (refine SeqS.take (v := undef) (by first | assumption | trivial) (by kernel_rfl) (by decide +kernel) (by decide +kernel) (Or.inr ⟨by rfl, rfl⟩) ?_
                 simp only [Act.put, List.setIfInBounds_toArray, List.set_cons_zero, List.set_cons_succ])
              | (refine SeqS.take1 (v := ?_) (by first | assumption | trivial) (by kernel_rfl) (by decide +kernel) (by decide +kernel) (Or.inl ⟨by rfl, ?_⟩) ?_
                 rotate_left
                 focus
                   intro w' hb'
                   go_simp
                   with_reducible rfl
                 simp only [Act.put, List.setIfInBounds_toArray, List.set_cons_zero, List.set_cons_succ])
              | (refine SeqS.take1 (v := undef) (by first | assumption | trivial) (by kernel_rfl) (by decide +kernel) (by decide +kernel) (Or.inr ⟨by rfl, rfl⟩) ?_
                 simp only [Act.put, List.setIfInBounds_toArray, List.set_cons_zero, List.set_cons_succ])
              | (refine SeqS.take2 (v := ?_) (by first | assumption | trivial) (by kernel_rfl) (by decide +kernel) (by decide +kernel) (Or.inl ⟨by rfl, ?_⟩) ?_
                 rotate_left
                 focus
                   intro w' hb'
                   go_simp
                   with_reducible rfl
                 simp only [Act.put, List.setIfInBounds_toArray, List.set_cons_zero, List.set_cons_succ])
              | (refine SeqS.take2 (v := undef) (by first | assumption | trivial) (by kernel_rfl) (by decide +kernel) (by decide +kernel) (Or.inr ⟨by rfl, rfl⟩) ?_
                 simp only [Act.put, List.setIfInBounds_toArray, List.set_cons_zero, List.set_cons_succ]))
            refine SeqS.alone (by decide +kernel) (by rfl) (fun K1 hK => ?_)
            go_simp
            refine hK _ _ trivial ?_
            clear hK K1
            refine SeqS.done (by decide +kernel) ?_
            have hk7 : KeepsOthers W V := KeepsOthers.of_grownBy (row := none) (by rw [← hVH.out]; exact grown_drew (grown_drew (grown_refl W none))) (fun j o h => by cases h)
            have hB7 : Below A w8 ((V.setCell ⟨A, 0, none⟩ (.int .i64 ((p : Int) + (bl : Int) + 8))).setCell ⟨A + 1, 0, none⟩ (.int .i64 ((j : Int) + 1))) := ((hBV.setCell (p := ⟨A, 0, none⟩) (Nat.le_refl A) _).setCell (p := ⟨A + 1, 0, none⟩) (Nat.le_succ A) _)
            have hBw7 : Below w8.heap.size w8 ((V.setCell ⟨A, 0, none⟩ (.int .i64 ((p : Int) + (bl : Int) + 8))).setCell ⟨A + 1, 0, none⟩ (.int .i64 ((j : Int) + 1))) := by rw [hAH.out]; exact hB7
            refine ⟨((hk7.trans (KeepsOthers.setCell _ _ _)).trans (KeepsOthers.setCell _ _ _)).from _, ⟨?_, fun _ => hIb.keep hBw7, fun _ => hG8.keep hBw7 (Nat.le_refl _)⟩, hB7, ?_, ?_, ?_, ?_⟩
            · exact (hBw7.block B1 hBA8).trans (hBw.block B1 hBA8).symm
            · rw [hlen1.out, hnxt.out]
              exact (hatV.set _).kept (grownBy_setCell' _ (A + 1) _) (by intro e; injection e with e; exact absurd e (Nat.ne_of_lt (Nat.lt_succ_self A)))
            · rw [hlen1.out]
              exact (hiV.kept (grownBy_setCell' V A _) (by intro e; injection e with e; exact absurd e (Nat.ne_of_gt (Nat.lt_succ_self A)))).set _
            · rw [hlen1.out]
              have := hltH.out
              push_cast
              omega
            · rw [hlen1.out]
              exact hplH.out
        · refine ⟨[_, _, _], _, [_, _, _], rfl, by rfl, fun K1 hK => ?_⟩
          go_simp
          refine hK _ _ trivial ?_
          clear hK K1
          repeat (first
            | (refine SeqS.take (v := ?_) (by first | assumption | trivial) (by kernel_rfl) (by decide +kernel) (by decide +kernel) (Or.inl ⟨by rfl, ?_⟩) ?_
               rotate_left
               focus
                 intro w' hb'
                 go_simp
                 with_reducible rfl
               simp only [Act.put, List.setIfInBounds_toArray, List.set_cons_zero, List.set_cons_succ])
            | (refine SeqS.take (v := undef) (by first | assumption | trivial) (by kernel_rfl) (by decide +kernel) (by decide +kernel) (Or.inr ⟨by rfl, rfl⟩) ?_
               simp only [Act.put, List.setIfInBounds_toArray, List.set_cons_zero, List.set_cons_succ])
            | (refine SeqS.take1 (v := ?_) (by first | assumption | trivial) (by kernel_rfl) (by decide +kernel) (by decide +kernel) (Or.inl ⟨by rfl, ?_⟩) ?_
               rotate_left
               focus
                 intro w' hb'
                 go_simp
                 with_reducible rfl
               simp only [Act.put, List.setIfInBounds_toArray, List.set_cons_zero, List.set_cons_succ])
            | (refine SeqS.take1 (v := undef) (by first | assumption | trivial) (by kernel_rfl) (by decide +kernel) (by decide +kernel) (Or.inr ⟨by rfl, rfl⟩) ?_
               simp only [Act.put, List.setIfInBounds_toArray, List.set_cons_zero, List.set_cons_succ])
            | (refine SeqS.take2 (v := ?_) (by first | assumption | trivial) (by kernel_rfl) (by decide +kernel) (by decide +kernel) (Or.inl ⟨by rfl, ?_⟩) ?_
               rotate_left
               focus
                 intro w' hb'
                 go_simp
                 with_reducible rfl
               simp only [Act.put, List.setIfInBounds_toArray, List.set_cons_zero, List.set_cons_succ])
            | (refine SeqS.take2 (v := undef) (by first | assumption | trivial) (by kernel_rfl) (by decide +kernel) (by decide +kernel) (Or.inr ⟨by rfl, rfl⟩) ?_
               simp only [Act.put, List.setIfInBounds_toArray, List.set_cons_zero, List.set_cons_succ])
            | (refine SeqS.take3 (v := ?_) (by first | assumption | trivial) (by kernel_rfl) (by decide +kernel) (by decide +kernel) (Or.inl ⟨by rfl, ?_⟩) ?_
               rotate_left
               focus
                 intro w' hb'
                 go_simp
                 with_reducible rfl
               simp only [Act.put, List.setIfInBounds_toArray, List.set_cons_zero, List.set_cons_succ])
            | (refine SeqS.take3 (v := undef) (by first | assumption | trivial) (by kernel_rfl) (by decide +kernel) (by decide +kernel) (Or.inr ⟨by rfl, rfl⟩) ?_
               simp only [Act.put, List.setIfInBounds_toArray, List.set_cons_zero, List.set_cons_succ]))
          refine SeqS.alone (by decide +kernel) (by rfl) (fun K1 hK => ?_)
          go_simp
          refine hK _ _ trivial ?_
          clear hK K1
          repeat (first
            | (refine SeqS.take (v := ?_) (by first | assumption | trivial) (by kernel_rfl) (by decide +kernel) (by decide +kernel) (Or.inl ⟨by rfl, ?_⟩) ?_
               rotate_left
               focus
                 intro w' hb'
                 go_simp
                 with_reducible rfl
               simp only [Act.put, List.setIfInBounds_toArray, List.set_cons_zero, List.set_cons_succ])
            | (refine SeqS.take (v := undef) (by first | assumption | trivial) (by kernel_rfl) (by decide +kernel) (by decide +kernel) (Or.inr ⟨by rfl, rfl⟩) ?_
               simp only [Act.put, List.setIfInBounds_toArray, List.set_cons_zero, List.set_cons_succ])
            | (refine SeqS.take1 (v := ?_) (by first | assumption | trivial) (by kernel_rfl) (by decide +kernel) (by decide +kernel) (Or.inl ⟨by rfl, ?_⟩) ?_
               rotate_left
               focus
                 intro w' hb'
                 go_simp
                 with_reducible rfl
               simp only [Act.put, List.setIfInBounds_toArray, List.set_cons_zero, List.set_cons_succ])
            | (refine SeqS.take1 (v := undef) (by first | assumption | trivial) (by kernel_rfl) (by decide +kernel) (by decide +kernel) (Or.inr ⟨by rfl, rfl⟩) ?_
               simp only [Act.put, List.setIfInBounds_toArray, List.set_cons_zero, List.set_cons_succ])
            | (refine SeqS.take2 (v := ?_) (by first | assumption | trivial) (by kernel_rfl) (by decide +kernel) (by decide +kernel) (Or.inl ⟨by rfl, ?_⟩) ?_
               rotate_left
               focus
                 intro w' hb'
                 go_simp
                 with_reducible rfl
               simp only [Act.put, List.setIfInBounds_toArray, List.set_cons_zero, List.set_cons_succ])
            | (refine SeqS.take2 (v := undef) (by first | assumption | trivial) (by kernel_rfl) (by decide +kernel) (by decide +kernel) (Or.inr ⟨by rfl, rfl⟩) ?_
               simp only [Act.put, List.setIfInBounds_toArray, List.set_cons_zero, List.set_cons_succ]))
          refine SeqS.alone (by decide +kernel) (by rfl) (fun K1 hK => ?_)
          go_simp
          refine hK _ _ trivial ?_
          clear hK K1
          refine SeqS.alone (by decide +kernel) (by rfl) (fun K1 hK => ?_)
          go_simp
          refine hK _ _ trivial ?_
          clear hK K1
          refine SeqS.done (by decide +kernel) ?_
          have hk7 : KeepsOthers W V := KeepsOthers.of_grownBy (row := none) (by rw [← hVH.out]; exact grown_drew (grown_drew (grown_refl W none))) (fun j o h => by cases h)
          have hB7 : Below A w8 ((V.setCell ⟨A, 0, none⟩ (.int .i64 ((p : Int) + (bl : Int) + 8))).setCell ⟨A + 1, 0, none⟩ (.int .i64 ((j : Int) + 1))) := ((hBV.setCell (p := ⟨A, 0, none⟩) (Nat.le_refl A) _).setCell (p := ⟨A + 1, 0, none⟩) (Nat.le_succ A) _)
          have hBw7 : Below w8.heap.size w8 ((V.setCell ⟨A, 0, none⟩ (.int .i64 ((p : Int) + (bl : Int) + 8))).setCell ⟨A + 1, 0, none⟩ (.int .i64 ((j : Int) + 1))) := by rw [hAH.out]; exact hB7
          refine ⟨((hk7.trans (KeepsOthers.setCell _ _ _)).trans (KeepsOthers.setCell _ _ _)).from _, ⟨?_, fun _ => hIb.keep hBw7, fun _ => hG8.keep hBw7 (Nat.le_refl _)⟩, hB7, ?_, ?_, ?_, ?_⟩
          · exact (hBw7.block B1 hBA8).trans (hBw.block B1 hBA8).symm
          · rw [hlen1.out, hnxt.out]
            exact (hatV.set _).kept (grownBy_setCell' _ (A + 1) _) (by intro e; injection e with e; exact absurd e (Nat.ne_of_lt (Nat.lt_succ_self A)))
          · rw [hlen1.out]
            exact (hiV.kept (grownBy_setCell' V A _) (by intro e; injection e with e; exact absurd e (Nat.ne_of_gt (Nat.lt_succ_self A)))).set _
          · rw [hlen1.out]
            have := hltH.out
            push_cast
            omega
          · rw [hlen1.out]
            exact hplH.out
      · obtain rfl : mo = (j : Int) := by omega
        have hge : (j : Int) ≤ (j : Int) := by omega
        gi_wp2
        first
          | exact ⟨KeepsFrom.refl _ _, rfl, hB, hi⟩
          | exact ⟨KeepsFrom.refl _ _, rfl, hB, hi, hjK⟩
    case done =>
      rintro D ys W hD hS ⟨hB, _, hi, hmj, _⟩ hK
      have hyl : ys.length = K := by rw [← List.length_map (f := FI.k), hS, List.length_range]
      rw [hyl] at hi hmj
      have hmin : min (K : Int) mo = (K : Int) := Int.min_eq_left hmj
      clear hS hyl
      have hDl : D < W.heap.size := (Array.getElem?_eq_some_iff.1 hK).1
      have hBw : Below w8.heap.size w8 W := by rw [hAH.out]; exact hB
      have cm := (km8.kept (grown_of_below hBw none) (by simp)).cell
      have cl := (kl8.kept (grown_of_below hBw none) (by simp)).cell
      have ci := hi.cell
      obtain ⟨hw8m, hw8n⟩ := mo_wrap19 hmo
      have hal := alive19_any W (hG8.keep hBw (Nat.le_refl _))
      have kr2 := kr8.kept (grown_of_below hBw none) (by simp)
      go_wp2_with fail
      refine hal.mono ?_
      rintro e W3 ⟨rfl, b3⟩
      have kr3 := kr2.kept (grown_of_below b3 none) (by simp)
      have cr := kr3.cell
      have fr := kr3.frozen
      have kr4 := kr3.set (.bool true)
      have hK' := (KeepsOthers.setCell W3 ⟨G + 1, 0, none⟩ (.bool true)).same D _ ((b3.block D hDl).trans hK) rfl
      have hc5 := cell_kept kr4.cell (grownBy_putObj' _ D (.deferred none)) (fun r e => by cases e; exact ⟨_, hK', rfl⟩)
      have hGA2 : G ≤ A := Nat.le_of_lt (Nat.lt_of_succ_lt hGA)
      have hBf : Below G w (W3.setCell ⟨G + 1, 0, none⟩ (.bool true)) := ((hB8.trans (hB.mono hGA2)).trans (b3.mono (Nat.le_trans hGA2 (Nat.le_trans hA8 hB.size)))).setCell (p := ⟨G + 1, 0, none⟩) (Nat.le_succ G) _
      have hBz := hBf.trans (belowK_b (w := X) (Nat.le_trans hGA2 (by rw [hs2]; exact Nat.le_add_right _ _)) _ D _ (.deferred none) hD hK' rfl rfl)
      clear hal kr2 kr3 kr4 hBf hBw cm cl ci hi b3
      go_wp2
      refine ⟨by simp, .inl ⟨_, _, rfl, run_takeDeferred hK', ?_⟩⟩
      refine ⟨.bool true, by simp [results, Tryd.f4, go_sem, hc5], rfl, ?_⟩
      rw [hGsH.out]
      exact hBz
    case stop =>
      rintro D q pre W hD _ ⟨rfl, hB, hi, hmK⟩ hK
      have hmin : min (K : Int) mo = mo := Int.min_eq_right (Int.le_of_lt hmK)
      refine wpIn_wide.2 ?_
      have hDl : D < W.heap.size := (Array.getElem?_eq_some_iff.1 hK).1
      have hBw : Below w8.heap.size w8 W := by rw [hAH.out]; exact hB
      have cm := (km8.kept (grown_of_below hBw none) (by simp)).cell
      have cl := (kl8.kept (grown_of_below hBw none) (by simp)).cell
      have ci := hi.cell
      obtain ⟨hw8m, hw8n⟩ := mo_wrap19 hmo
      have hal := alive19_any W (hG8.keep hBw (Nat.le_refl _))
      have kr2 := kr8.kept (grown_of_below hBw none) (by simp)
      go_wp2_with fail
      refine hal.mono ?_
      rintro e W3 ⟨rfl, b3⟩
      have kr3 := kr2.kept (grown_of_below b3 none) (by simp)
      have cr := kr3.cell
      have fr := kr3.frozen
      have kr4 := kr3.set (.bool true)
      have hK' := (KeepsOthers.setCell W3 ⟨G + 1, 0, none⟩ (.bool true)).same D _ ((b3.block D hDl).trans hK) rfl
      have hc5 := cell_kept kr4.cell (grownBy_putObj' _ D (.deferred none)) (fun r e => by cases e; exact ⟨_, hK', rfl⟩)
      have hGA2 : G ≤ A := Nat.le_of_lt (Nat.lt_of_succ_lt hGA)
      have hBf : Below G w (W3.setCell ⟨G + 1, 0, none⟩ (.bool true)) := ((hB8.trans (hB.mono hGA2)).trans (b3.mono (Nat.le_trans hGA2 (Nat.le_trans hA8 hB.size)))).setCell (p := ⟨G + 1, 0, none⟩) (Nat.le_succ G) _
      have hBz := hBf.trans (belowK_b (w := X) (Nat.le_trans hGA2 (by rw [hs2]; exact Nat.le_add_right _ _)) _ D _ (.deferred none) hD hK' rfl rfl)
      clear hal kr2 kr3 kr4 hBf hBw cm cl ci hi b3
      go_wp2
      refine ⟨by simp, .inl ⟨_, _, rfl, run_takeDeferred hK', ?_⟩⟩
      refine ⟨.bool true, by simp [results, Tryd.f4, go_sem, hc5], rfl, ?_⟩
      rw [hGsH.out]
      exact hBz
end Go.Proofs.YtkeamgogaaoliaaDoor
