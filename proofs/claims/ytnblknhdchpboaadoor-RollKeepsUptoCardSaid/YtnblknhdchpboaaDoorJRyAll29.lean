/-
  Texts of stages that were proved on their own, joined: RyKeep, RyLawK. Each begins with its own words.
-/
import Derived.Test.YtnblknhdchpboaaDoorJRyAll27
import Derived.Test.YtnblknhdchpboaaDoorJRyAll28

/-
  The law RollKeeps, on lists: what a disk holds behind some Appends of which one may have let it go down, and behind a crash. No Go function is spoken of.
-/
namespace Go.Proofs.YtnblknhdchpboaaDoor
open Go.RowKit

/-- Behind the first j bodies: those that were told, the one in flight (none: no byte), the disk. -/
structure KpS (ps : List (List Int)) (j : Nat) (told : List (List Int)) (lb : List Int) (D : DkV) : Prop where
  bod : Bodied told
  byt : ∀ b ∈ told, ∀ x ∈ b, isByte x
  cnt : told.length ≤ j
  st : (lb = [] ∧ ∃ f, 0 ≤ f ∧ f < 30 ∧ D = kpD 65536 f false 1 (whole told) ∧ (flat told).length ≤ 8 * j + (ps.take j).flatten.length) ∨
    (1 ≤ lb.length ∧ lb.length ≤ 1000 ∧ (∀ x ∈ lb, isByte x) ∧ D = kpD 65536 0 true 1 ⟨flat told, [.put (frB lb)]⟩ ∧ (flat told).length + (frB lb).length ≤ 8 * j + (ps.take j).flatten.length)
theorem flat_take20 (ps : List (List Int)) (j : Nat) (hj : j < ps.length) : (ps.take (j + 1)).flatten.length = (ps.take j).flatten.length + (ps.getD j []).length := by
  have e : ps.take (j + 1) = ps.take j ++ [ps[j]] := by rw [List.take_add_one, List.getElem?_eq_getElem hj]; rfl
  have g : ps.getD j [] = ps[j] := by rw [List.getD_eq_getElem?_getD, List.getElem?_eq_getElem hj]; rfl
  rw [e, g, List.flatten_append, List.length_append, List.flatten_singleton]
theorem flat_take_le20 (ps : List (List Int)) (j : Nat) : (ps.take j).flatten.length ≤ ps.flatten.length := by
  have h := congrArg (fun l : List (List Int) => l.flatten.length) (List.take_append_drop j ps)
  simp only [List.flatten_append, List.length_append] at h
  omega
theorem kp_start (ps : List (List Int)) (F : Int) (h0 : 0 ≤ F) (h1 : F < 30) : KpS ps 0 [] [] (kpD 65536 F false 1 (whole [])) :=
  ⟨bod0, fun _ h => absurd h (List.not_mem_nil), Nat.le_refl _, .inl ⟨rfl, F, h0, h1, rfl, Nat.zero_le _⟩⟩
theorem KpS.ok {ps : List (List Int)} {j : Nat} {told : List (List Int)} {lb : List Int} {D : DkV} (h : KpS ps j told lb D) (hj : j ≤ ps.length) (hf : ps.length + ps.flatten.length ≤ 1000) : D.Ok 1 ∧ D.By := by
  have hl := flat_take_le20 ps j
  rcases h.st with ⟨_, f, f0, f1, rfl, hn⟩ | ⟨l1, l2, lb, rfl, hn⟩
  · exact ⟨ok_whole (by decide) (by decide) (by omega) _ (by omega), by_whole h.byt⟩
  · refine ⟨kp_ok (by decide) (by decide) (by decide) ⟨⟨trivial, trivial⟩, Nat.le_refl _, by rw [flight_units, frB_len]; omega, by rw [flight_need]; omega⟩ (by rw [flight_need]; omega), kp_by ⟨flat_by h.byt, fun s hs => ?_⟩⟩
    rw [List.mem_singleton.1 hs]
    exact frB_range lb
/-- One more body. -/
theorem kp_step {ps : List (List Int)} {j : Nat} {told : List (List Int)} {lb p : List Int} {D : DkV} (h : KpS ps j told lb D) (hj : j < ps.length) (hp : ps.getD j [] = p) (hr : ∀ x ∈ p, isByte x) (hf : ps.length + ps.flatten.length ≤ 1000) :
    ∃ D' e, prD D 1 p = (D', e) ∧ ((e = 0 ∧ 1 ≤ p.length ∧ lb = [] ∧ KpS ps (j + 1) (told ++ [p]) [] D') ∨ (e = 18 ∧ lb = [] ∧ KpS ps (j + 1) told p D' ∧ 1 ≤ p.length) ∨ (e = 18 ∧ 1 ≤ lb.length ∧ KpS ps (j + 1) told lb D') ∨ (e = 1 ∧ p.length = 0 ∧ KpS ps (j + 1) told lb D')) := by
  have hl := flat_take_le20 ps (j + 1)
  have hs := flat_take20 ps j hj
  rw [hp] at hs
  have hc := h.cnt
  by_cases h0 : p.length < 1
  · have hp0 : p.length = 0 := by omega
    refine ⟨D, 1, pr_none (.inl h0), .inr (.inr (.inr ⟨rfl, hp0, ⟨h.bod, h.byt, by omega, ?_⟩⟩))⟩
    rcases h.st with ⟨e0, f, f0, f1, e1, hn⟩ | ⟨l1, l2, l3, e1, hn⟩
    · exact .inl ⟨e0, f, f0, f1, e1, by omega⟩
    · exact .inr ⟨l1, l2, l3, e1, by omega⟩
  have h1 : 1 ≤ p.length := by omega
  have h2 : p.length ≤ 65536 := by omega
  have hfl := frB_len p
  rcases h.st with ⟨e0, f, f0, f1, rfl, hn⟩ | ⟨l1, l2, l3, rfl, hn⟩
  · have hpr := pr_kp (r := 65536) (f := f) (z := 1) (by decide) told p h1 h2 (by omega) f0
    by_cases hff : f = 1 ∨ f = 2
    · rw [if_pos hff] at hpr
      exact ⟨_, _, hpr, .inr (.inl ⟨rfl, e0, ⟨h.bod, h.byt, by omega, .inr ⟨h1, by omega, hr, rfl, by omega⟩⟩, h1⟩)⟩
    · rw [if_neg hff] at hpr
      refine ⟨_, _, hpr, .inl ⟨rfl, h1, e0, ⟨h.bod.snoc h1 h2, ?_, by rw [List.length_append, List.length_singleton]; omega, .inl ⟨rfl, _, by omega, by omega, rfl, ?_⟩⟩⟩⟩
      · intro b hb
        rcases List.mem_append.1 hb with hb | hb
        · exact h.byt b hb
        · rw [List.mem_singleton.1 hb]; exact hr
      · rw [flat_snoc, List.length_append]
        omega
  · have hpr := pr_kp_down (r := 65536) (f := 0) (z := 1) (by decide) ⟨flat told, [.put (frB lb)]⟩ p h1 h2
    exact ⟨_, _, hpr, .inr (.inr (.inl ⟨rfl, l1, ⟨h.bod, h.byt, by omega, .inr ⟨l1, l2, l3, rfl, by omega⟩⟩⟩))⟩
/-- Behind a crash, and Open. -/
theorem kp_end {ps : List (List Int)} {told : List (List Int)} {lb : List Int} {D : DkV} (h : KpS ps ps.length told lb D) (hf : ps.length + ps.flatten.length ≤ 1000) (U : Int) :
    ∃ D2 D3 D4 L', crD D [0, U] = D2 ∧ D2.down = false ∧ mdD D2 1 = (D3, 0) ∧ prD D3 1 [1] = (D4, 0) ∧ allF (heldR D3 1) = L' ∧ ((L' = told) ∨ (1 ≤ lb.length ∧ L' = told ++ [lb])) ∧ (∀ b ∈ L', ∀ x ∈ b, isByte x) ∧ D2.Ok 1 ∧ D2.By ∧ D3.Ok 2 ∧ D3.By := by
  have hl := flat_take_le20 ps ps.length
  obtain ⟨hO, hB⟩ := h.ok (Nat.le_refl _) hf
  have hO2 := crD_ok hO [0, U]
  have hB2 := crD_by hB [0, U]
  have hO3 := mdD_ok hO2 1
  have hB3 := mdD_by hB2 1
  have key : ∀ L', Bodied L' → (∀ b ∈ L', ∀ x ∈ b, isByte x) → (flat L').length ≤ 9000 → mdD (crD D [0, U]) 1 = (kpD 65536 0 false 1 (whole L'), 0) → (crD D [0, U]).down = false → ((L' = told) ∨ (1 ≤ lb.length ∧ L' = told ++ [lb])) →
      ∃ D2 D3 D4 L', crD D [0, U] = D2 ∧ D2.down = false ∧ mdD D2 1 = (D3, 0) ∧ prD D3 1 [1] = (D4, 0) ∧ allF (heldR D3 1) = L' ∧ ((L' = told) ∨ (1 ≤ lb.length ∧ L' = told ++ [lb])) ∧ (∀ b ∈ L', ∀ x ∈ b, isByte x) ∧ D2.Ok 1 ∧ D2.By ∧ D3.Ok 2 ∧ D3.By := by
    intro L' hL hy hn hm hd ho
    have hpr := pr_kp (r := 65536) (f := 0) (z := 1) (by decide) L' [1] (by decide) (by decide) (by rw [frB_len]; show ((_ + (8 + 1) : Nat) : Int) ≤ _; omega) (by decide)
    rw [if_neg (by decide)] at hpr
    rw [hm] at hO3 hB3
    exact ⟨_, _, _, L', rfl, hd, hm, hpr, (body_of (z := 1) (by decide) L' hL).1, ho, hy, hO2, hB2, hO3, hB3⟩
  rcases h.st with ⟨e0, f, f0, f1, rfl, hn⟩ | ⟨l1, l2, l3, rfl, hn⟩
  · have hc := whole_cr (r := 65536) (f := f) (d := false) (z := 1) (by decide) told [0, U]
    rw [hc] at key ⊢
    exact key told h.bod h.byt (by omega) (md_whole (z := 1) (by decide) told h.bod) kp_head.2.2 (.inl rfl)
  · obtain ⟨u, hc⟩ := flight_cr (r := 65536) (f := 0) (d := true) (z := 1) (by decide) (flat told) (frB lb) [0, U]
    obtain ⟨L', hL, hm⟩ := md_torn (r := 65536) (z := 1) (by decide) told h.bod lb l1 (by omega) u
    rw [hc] at key ⊢
    have hfl := frB_len lb
    rcases hL with rfl | rfl
    · exact key _ h.bod h.byt (by omega) hm kp_head.2.2 (.inl rfl)
    · refine key _ (h.bod.snoc l1 (by omega)) ?_ (by rw [flat_snoc, List.length_append]; omega) hm kp_head.2.2 (.inr ⟨l1, rfl⟩)
      intro b hb
      rcases List.mem_append.1 hb with hb | hb
      · exact h.byt b hb
      · rw [List.mem_singleton.1 hb]; exact l3
theorem rem30 {t : Int} (ht : 0 ≤ t ∧ t < 256) : ∃ F : Int, t.tmod 30 = F ∧ 0 ≤ F ∧ F < 30 ∧ IntKind.u8.wrap F = F ∧ wrap64 F = F := by
  refine ⟨t % 30, Int.tmod_eq_emod_of_nonneg ht.1, by omega, by omega, ?_, by unfold wrap64; omega⟩
  simp [IntKind.wrap, IntKind.signed, IntKind.bits]
  omega

theorem RyOwn.grownE {E E' : Nat → Prop} {B : Nat} {w0 w w' : World} {g : Nat} {D : DkV} {row : Option Nat} (h : RyOwn E B w0 w g D) (hg : w.grownBy w' row) (hG : ∀ G, row = some G → E G ∧ B ≤ G) (hE : ∀ b, E' b → E b ∨ (w.heap.size ≤ b ∧ b < w'.heap.size)) : RyOwn E' B w0 w' g D := by
  obtain ⟨L, P, h1, h2, h3⟩ := h.is
  obtain ⟨l1, l2⟩ := dk_lt h1
  have hs := hg.size
  have hm : Moved (fun b => some b = row) w w' := ⟨⟨hg.os, hg.tape, hg.output, hg.size, fun _ h => absurd h (Nat.not_lt_zero _)⟩, fun b hb hn => hg.block b hb hn⟩
  obtain ⟨x0, x1, x2, h1⟩ := h1
  refine ⟨⟨L, P, ⟨x0, x1, x2, h1.far hm (fun b hb e => ?_)⟩, h2, fun b he => ?_⟩, h.b.grown hg h.s (fun q hq => (hG q hq).2), Nat.le_trans h.s hs⟩
  · have hGb := h3 b (hG b e.symm).1
    exact hb.elim (fun h => h hGb.2.1) hGb.2.2
  · rcases hE b he with he | he
    · exact ⟨Nat.lt_of_lt_of_le (h3 b he).1 hs, (h3 b he).2⟩
    · refine ⟨he.2, ?_, fun hp => absurd (l2 b hp) (Nat.not_lt.2 he.1)⟩
      by_cases h0 : L b = 0
      · exact h0
      · exact absurd (l1 b h0) (Nat.not_lt.2 he.1)
theorem WantO.kept {w w1 w2 : World} {B : Nat} {v : Value} {ps : List (List Int)} (h : WantO w w1 B v ps) (hk : ∀ b, v.ownBlock = some b → w2.heap[b]? = w1.heap[b]?) : WantO w w2 B v ps := by
  obtain ⟨SL, ho, hx⟩ := h
  exact ⟨SL, own_same ho hk, hx⟩
end Go.Proofs.YtnblknhdchpboaaDoor

/-
  The law RollKeeps: its walk. New memory alone is written. Conditions: parts and bytes are at most a hundred million.
-/
namespace Go.Proofs.YtnblknhdchpboaaDoor
open Go.RowKit

theorem roll_ne {w : World} {ro g : Nat} {z : Int} {B n : Nat} {v : Value} {xs : List Value} (hr : RollAt w ro g z) (ho : w.ownsRow B 33 1 v n xs) : v.ownBlock ≠ some ro := by
  intro hv
  rcases ho.2 with ⟨e, _⟩ | ⟨g1, _, cur, e, _, hg, _⟩
  · rw [e] at hv; cases hv
  · rw [e] at hv
    injection hv with hv
    have hv : g1 = ro := hv
    subst hv
    have hr' : w.heap[g1]? = some (.cells (roC g z).toArray 51 (0, 0)) := hr
    rw [hg] at hr'
    injection hr' with hr'
    injection hr' with _ e2 _
    exact absurd e2 (by decide)
theorem sizeSl20 : (Tryd.prog.info? 33).map (·.size) = some 1 := by kernel_rfl
theorem rows_to20 {n c : Nat} (a : Option Addr) (h : Nat) (hc : h ≤ c) (wx : World) : (Instr.sliceAt 22 (.slice a n c) none (some (.int .i64 (h : Int))) none).run Tryd.prog wx = .ok (.slice a h c) wx := by
  have he : Tryd.prog.elem 22 = 33 := by simp [Program.elem, Tryd.underlying22]
  rw [run_sliceAt_slice wx 22 _ _ _ _ (by rw [he]; exact Tryd.underlying22), run_slice_h wx 22 a n c (by rw [he]; exact Tryd.underlying22) .i64 h (by omega) (by omega)]
  cases hq : Tryd.prog.info? 33 with
  | none => have := sizeSl20; simp [hq] at this
  | some i =>
    have h1 : i.size = 1 := by have := sizeSl20; simpa [hq] using this
    have hz : (sizeOf (Tryd.prog.elem 22)).run Tryd.prog wx = .ok 1 wx := by rw [he]; simp [sizeOf, typeInfo, hq, h1]
    rw [hz]
    simp [Result.andThen, sliced]
    intro _
    cases a with
    | none => rfl
    | some x => cases x; simp [Addr.add]
theorem i64_up {K : Nat} (h : K ≤ 1000) : IntKind.i64.wrap ((K : Int) + 1) = (K : Int) + 1 := by
  have h1 : ((K : Int) + 1) % 18446744073709551616 = (K : Int) + 1 := by omega
  have h2 : ¬ ((K : Int) + 1) ≥ 9223372036854775808 := by omega
  simp [IntKind.wrap, IntKind.signed, IntKind.bits, h1]
  omega
theorem w64_up {K : Nat} (h : K ≤ 1000) : wrap64 ((K : Int) + 1) = (K : Int) + 1 := by unfold wrap64; omega
theorem last_elem {w : World} {a : Option Addr} {n c : Nat} {told : List (List Int)} {lb : List Int} (P : Parts w a n c (told ++ [lb])) {K : Nat} (hK : told.length = K) :
    ∃ b off A l e, a = some ⟨b, off, none⟩ ∧ w.cell? ⟨b, off + K, none⟩ = some (.slice A l e) ∧ Ints .u8 w A l e lb ∧ Parts w a K c told ∧ n = K + 1 ∧ K ≤ c := by
  have hl := P.len
  rw [List.length_append, List.length_singleton, hK] at hl
  obtain ⟨b, off, ha, hc⟩ := P.at (by omega)
  obtain ⟨A, l, e, h1, h2⟩ := hc K (by omega)
  have hg : (told ++ [lb]).getD K [] = lb := by
    rw [List.getD_eq_getElem?_getD, List.getElem?_append_right (by omega), hK, Nat.sub_self]
    rfl
  rw [hg] at h2
  have ht := P.take K (by omega)
  rw [List.take_append_of_le_length (by omega), List.take_of_length_le (by omega)] at ht
  exact ⟨b, off, A, l, e, ha, h1, h2, ht, hl.symm, by have := P.2.1; omega⟩
def tE (ro : Nat) (v : Value) : Nat → Prop := fun b => b = ro ∨ v.ownBlock = some b

set_option maxRecDepth 100000 in
set_option maxHeartbeats 4000000 in
theorem keeps20_any (a : Option Addr) (n c : Nat) (ps : List (List Int)) (t u : Int) (w : World) (hG : Glob11 w) (hP : Parts w a n c ps) (hr : ∀ p ∈ ps, ∀ y ∈ p, 0 ≤ y ∧ y < 256) (hm : n + ps.flatten.length ≤ 100000000) (ht : 0 ≤ t ∧ t < 256) (hu : 0 ≤ u ∧ u < 256) :
    Calls Tryd.prog 3 #[.slice a n c, .int .u8 t, .int .u8 u] w fun q w' => q = .returned (.bool true) ∧ Below w.heap.size w w' := by
  obtain ⟨i1, ji, jz0, jz1, jz2⟩ := info_sl19
  have hBL : Below w.heap.size w w := Below.refl _ _
  have hF := refFew_any a n c ps w hP (by omega) (by omega) 1000 1000 rfl
  by_cases hf : n + ps.flatten.length ≤ 1000
  case neg =>
    rw [decide_eq_false hf] at hF
    clear hP hr hm ht hu hf
    go_enter Tryd.func3, Tryd.ntmps3
    go_wp2_with fail
    refine hF.mono ?_
    rintro q w1 ⟨rfl, rfl⟩
    go_wp2_with fail
    refine (alive20_any _ (hG.keep hBL (Nat.le_refl _))).mono ?_
    rintro q wz ⟨rfl, bz⟩
    have hBz := hBL.trans (bz.mono hBL.size)
    clear bz hBL
    go_wp2
    go_ret
    exact ⟨rfl, hBz⟩
  rw [decide_eq_true hf] at hF
  have hpl := hP.len
  obtain ⟨F, hFt, F0, F1, fu, fw⟩ := rem30 ht
  have uw : wrap64 u = u := by unfold wrap64; omega
  have hN := o_new (w := w) 65536 (by decide) 1
  have hN : Calls Tryd.prog 8 #[.int .i64 65536] w fun q w' => ∃ g, q = .returned (.tuple #[.pointer (some ⟨g, 0, none⟩), .int .i64 0]) ∧ RyOwn (fun _ => False) w.heap.size w w' g (kpD 65536 0 false 1 (whole [])) := hN
  have e0 := md_whole (r := 65536) (f := 0) (z := 1) (by decide) [] bod0
  have e1 : armD (kpD 65536 0 false 1 (whole [])) F = kpD 65536 F false 1 (whole []) := by rw [kp_arm, show max F 0 = F by omega]
  have o0 : (kpD 65536 0 false 1 (whole [])).Ok 0 := ok_whole (by decide) (by decide) (by decide) [] (by decide)
  have b0 : (kpD 65536 0 false 1 (whole [])).By := by_whole (fun _ h => absurd h (List.not_mem_nil))
  have ks := kp_start ps F F0 F1
  obtain ⟨DA, hA⟩ : ∃ D, kpD 65536 0 false 1 (whole []) = D := ⟨_, rfl⟩
  obtain ⟨DB, hB⟩ : ∃ D, kpD 65536 F false 1 (whole []) = D := ⟨_, rfl⟩
  rw [hA] at hN e0 e1 o0 b0
  rw [hB] at e1 ks
  have d0 : DA.down = false := by rw [← hA]; exact kp_head.2.2
  have hfp : ps.length + ps.flatten.length ≤ 1000 := by omega
  obtain ⟨B, hBe⟩ : ∃ B, w.heap.size = B := ⟨_, rfl⟩
  have hBle : w.heap.size ≤ B := by omega
  rw [hBe] at hN
  have HBe := Lib.hid hBe
  have HB := Lib.hid hBle
  have HG := Lib.hid hG
  have HP := Lib.hid hP
  have Hr := Lib.hid hr
  have He0 := Lib.hid e0
  have He1 := Lib.hid e1
  have Ho0 := Lib.hid o0
  have Hb0 := Lib.hid b0
  have Hd0 := Lib.hid d0
  have Hks := Lib.hid ks
  have Hfp := Lib.hid hfp
  have Hpl := Lib.hid hpl
  have hni : (n : Int) ≤ 1000 := by omega
  have HBL := Lib.hid hBL
  clear hG hP hr hm hf hpl ht hu hA hB hBe hBle e0 e1 o0 b0 d0 ks hfp hBL F0 F1
  go_enter Tryd.func3, Tryd.ntmps3
  go_wp2_with fail
  refine hF.mono ?_
  rintro q w0 ⟨rfl, rfl⟩
  clear hF
  go_wp2_with fail
  refine hN.mono ?_
  rintro q w1 ⟨g, rfl, h1⟩
  have c1 := o_open (z := 1) h1 Ho0.out (by decide) Hb0.out (by decide) HG.out HB.out Hd0.out He0.out
  clear hN h1
  go_wp2_with fail
  refine c1.mono ?_
  rintro q w2 ⟨ro, rfl, r2, h2, _⟩
  have c2 := o_arm F h2 Ho0.out He1.out
  have H2 := Lib.hid r2
  clear c1 h2 r2
  go_wp2_with fail
  refine c2.mono ?_
  rintro q w3 ⟨rfl, h3, s3⟩
  have r3 : RollAt w3 ro g 1 := s3.blk H2.out (.inr rfl)
  have H3 := Lib.hid h3
  have R3 := Lib.hid r3
  have b3 := below1 w3 (.cells #[] 5)
  have h4 : RyOwn (tE ro (.slice none 0 0)) B w _ g DB := h3.keepE b3 (fun b hb => .inl (hb.elim (fun h => .inr h) (fun h => by cases h)))
  have r4 := r3.keep b3
  obtain ⟨la0, hla0⟩ : ∃ la : Option Addr, some ⟨w3.heap.size, 0, none⟩ = la := ⟨_, rfl⟩
  clear c2 h3 s3 r3 H2 H3 R3 b3
  go_wp2_with fail
  go_loopw [11, 12, 49] (fun tv lv i wr => ∃ (j : Nat) (told : List (List Int)) (lb : List Int) (D : DkV) (la : Option Addr) (ln lc : Nat) (v : Value), v = tv ∧ j ≤ n ∧ i = .int .i64 (j : Int) ∧ lv = .slice la ln lc ∧ Ints .u8 w la ln lc lb ∧ KpS ps j told lb D ∧ WantO w wr B v told ∧ RollAt wr ro g 1 ∧ RyOwn (tE ro v) B w wr g D) (fun _ _ i _ => n - (intOf i).toNat)
  case atStart => exact ⟨0, [], [], DB, _, 0, 0, _, rfl, Nat.zero_le _, rfl, rfl, ⟨rfl, Nat.le_refl _, .inl rfl⟩, Hks.out, ⟨[], World.ownsRow_nil _ _ _ _, fun i hi => by cases hi⟩, r4, h4⟩
  case round =>
    clear h4 r4
    obtain ⟨j, told, lb, D, la, ln, lc, tv, rfl, hj, rfl, rfl, hIl, hK, hW, hR, hT⟩ := hrel
    by_cases hlt : j < n
    · have hji : (j : Int) < (n : Int) := Int.ofNat_lt.2 hlt
      obtain ⟨rb, rof, hra, hat⟩ := HP.out.at (Nat.lt_of_le_of_lt (Nat.zero_le _) hlt)
      obtain ⟨A, l, e, cel, hIx⟩ := hat j hlt
      have hTb := hT.b
      rw [← HBe.out] at hTb
      have cel' : wr.cell? ⟨rb, rof + j, none⟩ = some (.slice A l e) := by rw [hTb.cell (World.block_lt_of_cell? w _ cel)]; exact cel
      have hpr := getD_mem_range Hr.out j
      obtain ⟨p, hp⟩ : ∃ p, ps.getD j [] = p := ⟨_, rfl⟩
      rw [hp] at hIx hpr
      have hjl : j < ps.length := by rw [Hpl.out]; exact hlt
      obtain ⟨D', e', hpe, hcase⟩ := kp_step hK hjl hp hpr Hfp.out
      obtain ⟨hO, hBy⟩ := hK.ok (Nat.le_of_lt hjl) Hfp.out
      have hll := hIx.len
      have hle : p.length ≤ 1000 := by
        have := len_mem19 (getD_mem19 (L := ps) (j := j) hjl)
        rw [hp] at this
        have := Hfp.out
        omega
      have ca := o_put (z := 1) hT hR (.inl rfl) hO (by decide) HG.out HB.out (hIx.keep hTb) hpr (by omega) hpe
      have hKc := hK.cnt
      have hltH := Lib.hid hlt
      have RH := Lib.hid hR
      have WH := Lib.hid hW
      have IlH := Lib.hid hIl
      have IxH := Lib.hid hIx
      subst hra
      clear hj hlt hat cel hTb hp hjl hpe hO hBy hK hT hR hW hle hIl
      rcases hcase with ⟨rfl, hp1, rfl, hK'⟩ | ⟨rfl, rfl, hK', hp1⟩ | ⟨rfl, hlb, hK'⟩ | ⟨rfl, hp0, hK'⟩
      · have KH := Lib.hid hK'
        have hfw : told.length + 1 ≤ maxLen ∧ (told.length + 1) * 24 ≤ 140737488355328 := torn_cnt19 (show n ≤ 1000 by omega) (Nat.le_of_lt hltH.out) hKc
        have FW := Lib.hid hfw
        clear hK' hll hp1 hIx hKc hfw hpr
        go_wp2_with fail
        refine ca.mono ?_
        rintro q w4 ⟨rfl, h4, s4⟩
        have r4 : RollAt w4 ro g 1 := s4.blk RH.out (.inl rfl)
        obtain ⟨SL, hW4, hx⟩ := WH.out.kept (fun b hb => s4 b (.inr hb))
        have hW5 := hW4.alloc (.cells #[.slice A l e] 33)
        have b5 := below1 w4 (.cells #[.slice A l e] 33)
        have H5 := Lib.hid (h4.keep b5)
        have R5 := Lib.hid (r4.keep b5)
        have S5 := Lib.hid b5.size
        have HS := Lib.hid (h4.s)
        clear ca h4 s4 r4 hW4 b5
        go_wp2_with (at_builtin; refine wpList_append_lies _ rfl (.tmp 58) (.tmp 60) 22 rfl B 33 i1 (.slice none 0 0) 1 24 Tryd.underlying22 ji jz0 jz1 jz2 rfl (by decide) _ _ _ rfl hW5 ⟨w4.heap.size, 0, none⟩ 1 1 [.slice A l e] rfl rfl ?c1 ?c2 (by decide) ?c3 ?c4 ?c5 (w4.heap.size + 1) ?c6 ?_)
        case c1 =>
          intro t u ht
          rcases t with _ | t
          · obtain rfl : u = .slice A l e := by simpa using ht.symm
            exact World.cell?_alloc_at (w := w4) #[.slice A l e] 33 w4.heap.size 0 rfl
          · simp at ht
        case c2 => simp [Value.oneCell']
        case c3 => exact FW.out.1
        case c4 => exact FW.out.2
        case c5 => exact Nat.le_trans HS.out S5.out
        case c6 => exact size1 w4 _
        intro gN cap w6 hW6 hg6 hlie hlt6
        have h6 : RyOwn (tE ro (.slice (some ⟨gN, 0, none⟩) (told.length + 1) cap)) B w w6 g D' := H5.out.grownE hg6 (fun G hG => ⟨.inr hG, (hW5.lt G hG).1⟩) (fun b hb => by
          rcases hb with hb | hb
          · exact .inl (.inl hb)
          · injection hb with hb
            have hb : gN = b := hb
            subst hb
            rcases hlie with h | h
            · exact .inl (.inr h)
            · refine .inr ⟨by rw [size1, h]; exact Nat.le_refl _, hlt6⟩)
        have r6 : RollAt w6 ro g 1 := (hg6.block ro R5.out.lt (fun e => roll_ne R5.out hW5 e.symm)).trans R5.out
        have hSl := hW5.1
        rw [Nat.mul_one] at hSl
        have hx6 := want_snoc hSl hx IxH.out
        have hW7 : WantO w w6 B (.slice (some ⟨gN, 0, none⟩) (told.length + 1) cap) (told ++ [p]) := ⟨_, by rw [List.length_append]; exact hW6, hx6⟩
        clear hW5 hg6 hlie hlt6 hW6 hSl hx hx6
        go_wp2
        exact ⟨⟨j + 1, told ++ [p], [], D', la, ln, lc, _, rfl, hltH.out, by congr 1, rfl, IlH.out, KH.out, hW7, r6, h6⟩, by simp only [intOf]; have := hltH.out; omega⟩
      · have hl0 : ln = 0 := IlH.out.len.symm
        subst hl0
        have KH := Lib.hid hK'
        clear hK' hll hp1 hIx hKc hpr
        go_wp2_with fail
        refine ca.mono ?_
        rintro q w4 ⟨rfl, h4, s4⟩
        have r4 : RollAt w4 ro g 1 := s4.blk RH.out (.inl rfl)
        have hW4 := WH.out.kept (fun b hb => s4 b (.inr hb))
        clear ca s4
        go_wp2
        exact ⟨⟨j + 1, told, p, D', A, l, e, _, rfl, hltH.out, by congr 1, rfl, IxH.out, KH.out, hW4, r4, h4⟩, by simp only [intOf]; have := hltH.out; omega⟩
      · have hl0 : ¬ (ln : Int) = 0 := by have := IlH.out.len; omega
        have KH := Lib.hid hK'
        clear hK' hll hIx hKc hpr hlb
        go_wp2_with fail
        refine ca.mono ?_
        rintro q w4 ⟨rfl, h4, s4⟩
        have r4 : RollAt w4 ro g 1 := s4.blk RH.out (.inl rfl)
        have hW4 := WH.out.kept (fun b hb => s4 b (.inr hb))
        clear ca s4
        go_wp2
        exact ⟨⟨j + 1, told, lb, D', la, ln, lc, _, rfl, hltH.out, by congr 1, rfl, IlH.out, KH.out, hW4, r4, h4⟩, by simp only [intOf]; have := hltH.out; omega⟩
      · have hl0 : l = 0 := by omega
        subst hl0
        have KH := Lib.hid hK'
        clear hK' hll hIx hKc hpr hp0
        go_wp2_with fail
        refine ca.mono ?_
        rintro q w4 ⟨rfl, h4, s4⟩
        have r4 : RollAt w4 ro g 1 := s4.blk RH.out (.inl rfl)
        have hW4 := WH.out.kept (fun b hb => s4 b (.inr hb))
        clear ca s4
        go_wp2
        exact ⟨⟨j + 1, told, lb, D', la, ln, lc, _, rfl, hltH.out, by congr 1, rfl, IlH.out, KH.out, hW4, r4, h4⟩, by simp only [intOf]; have := hltH.out; omega⟩
    · obtain rfl : j = n := Nat.le_antisymm hj (Nat.not_lt.1 hlt)
      have hKn : KpS ps ps.length told lb D := by rw [Hpl.out]; exact hK
      obtain ⟨D2, D3, D4, L', k1, k2, k3, k4, k5, k6, k7, k8, k9, k10, k11⟩ := kp_end hKn Hfp.out u
      obtain ⟨hO, hBy⟩ := hKn.ok (Nat.le_refl _) Hfp.out
      have hcn := hK.cnt
      have hKi : told.length ≤ 1000 := by omega
      have bc := below1 wr (.cells #[.int .i64 0, .int .i64 u] 3)
      have Ic := row_ints wr 3 .i64 [0, u]
      have hc : RyOwn (fun b => tE ro tv b ∨ b = wr.heap.size) B w _ g D := hT.keepE bc (fun b hb => hb.imp id (fun hb => by rw [hb, size1]; omega))
      have c5 := o_crash hc hO (by decide) Ic (fun x hx _ => by injection hx with hx; rw [← hx]; exact .inr rfl) k1
      have HW := Lib.hid (hW.kept (fun b hb => bc.block b (hT.lt b (.inr hb))))
      have K2 := Lib.hid k2
      have K3 := Lib.hid k3
      have K4 := Lib.hid k4
      have K5 := Lib.hid k5
      have K6 := Lib.hid k6
      have K7 := Lib.hid k7
      have K8 := Lib.hid k8
      have K9 := Lib.hid k9
      have K10 := Lib.hid k10
      have K11 := Lib.hid k11
      have HIl := Lib.hid hIl
      have HKi := Lib.hid hKi
      clear hKn k1 k2 k3 k4 k5 k6 k7 k8 k9 k10 k11 hO hBy hcn hKi bc Ic hc hT hR hW hK hIl hlt hj
      go_wp2_with fail
      refine c5.mono ?_
      rintro q w5 ⟨rfl, h5, s5⟩
      have HW := Lib.hid (HW.out.kept (fun b hb => s5 b (.inl (.inr hb))))
      have c6 := o_open (z := 1) h5 K8.out (by decide) K9.out (by decide) HG.out HB.out K2.out K3.out
      clear c5 h5 s5
      go_wp2_with fail
      refine c6.mono ?_
      rintro q w6 ⟨ro6, rfl, r6, h6, s6⟩
      have HW := Lib.hid (HW.out.kept (fun b hb => s6 b (.inl (.inr hb))))
      have c7 := o_bodies (z := 1) h6 r6 K10.out K11.out (by decide) HG.out HB.out K5.out
      have H6 := Lib.hid h6
      have R6 := Lib.hid r6
      clear c6 h6 r6 s6
      go_wp2_with fail
      refine c7.mono ?_
      rintro q w7 ⟨v7, rfl, R7, b7⟩
      have hW7 := HW.out.kept (fun b hb => b7.block b (H6.out.lt b (.inl (.inl (.inr hb)))))
      have H7 := Lib.hid (H6.out.keep b7)
      have R7b := Lib.hid (R6.out.keep b7)
      have hB7 := H7.out.b
      rw [← HBe.out] at hB7
      obtain ⟨a7, c7', e7, P7⟩ := R7.parts
      obtain ⟨at', ct, et, PT⟩ := hW7.parts hB7
      subst e7; subst et
      obtain ⟨K, hK⟩ : ∃ K, told.length = K := ⟨_, rfl⟩
      have HI7 := Lib.hid (HIl.out.keep hB7)
      rw [hK] at PT HKi
      rw [hK]
      have S7 : Below w7.heap.size w7 w7.drew := (Below.refl _ _).drew
      have x1 := i64_up HKi.out
      have x2 := w64_up HKi.out
      clear c7 b7 R7 hW7 HW hB7 hFt fu fw uw
      rcases K6.out with hL | ⟨hlb, hL⟩
      · have PP : Parts w7 a7 K c7' told := by rw [hL, hK] at P7; exact P7
        rw [hL, hK]
        have hLH := Lib.hid hL
        clear P7 hL
        have PPH := Lib.hid PP
        have PTH := Lib.hid PT
        have x3 : ((K : Int) == (K : Int) + 1) = false := beq_eq_false_iff_ne.2 (by omega)
        have HK := Lib.hid hK
        clear PP PT hK
        go_wp2_with fail
        refine region_seqS (fun w' => Below w7.heap.size w7 w') (by kernel_rfl) S7 ?_
        simp only [pairs, Nat.reduceAdd]
        repeat (first
          | (refine SeqS.take (v := ?_) (by first | assumption | trivial) (by kernel_rfl) (by decide +kernel) (by decide +kernel) (Or.inl ⟨by rfl, ?_⟩) ?_
             rotate_left
             focus
               intro w' hb'
               go_simp
               with_reducible rfl
             simp only [Act.put, List.setIfInBounds_toArray, List.set_cons_zero, List.set_cons_succ])
          | (refine SeqS.take (v := undef) (by first | assumption | trivial) (by kernel_rfl) (by decide +kernel) (by decide +kernel) (Or.inr ⟨by rfl, rfl⟩) ?_
             simp only [Act.put, List.setIfInBounds_toArray, List.set_cons_zero, List.set_cons_succ])
          | (refine SeqS.take1 (v := ?_) (by first | assumption | trivial) (by kernel_rfl) (by decide +kernel) (by decide +kernel) (Or.inl ⟨by rfl, ?_⟩) ?_
             rotate_left
             focus
               intro w' hb'
               go_simp
               with_reducible rfl
             simp only [Act.put, List.setIfInBounds_toArray, List.set_cons_zero, List.set_cons_succ])
          | (refine SeqS.take1 (v := undef) (by first | assumption | trivial) (by kernel_rfl) (by decide +kernel) (by decide +kernel) (Or.inr ⟨by rfl, rfl⟩) ?_
             simp only [Act.put, List.setIfInBounds_toArray, List.set_cons_zero, List.set_cons_succ])
          | (refine SeqS.take2 (v := ?_) (by first | assumption | trivial) (by kernel_rfl) (by decide +kernel) (by decide +kernel) (Or.inl ⟨by rfl, ?_⟩) ?_
             rotate_left
             focus
               intro w' hb'
               go_simp
               with_reducible rfl
             simp only [Act.put, List.setIfInBounds_toArray, List.set_cons_zero, List.set_cons_succ])
          | (refine SeqS.take2 (v := undef) (by first | assumption | trivial) (by kernel_rfl) (by decide +kernel) (by decide +kernel) (Or.inr ⟨by rfl, rfl⟩) ?_
             simp only [Act.put, List.setIfInBounds_toArray, List.set_cons_zero, List.set_cons_succ])
          | (refine SeqS.take3 (v := ?_) (by first | assumption | trivial) (by kernel_rfl) (by decide +kernel) (by decide +kernel) (Or.inl ⟨by rfl, ?_⟩) ?_
             rotate_left
             focus
               intro w' hb'
               go_simp
               with_reducible rfl
             simp only [Act.put, List.setIfInBounds_toArray, List.set_cons_zero, List.set_cons_succ])
          | (refine SeqS.take3 (v := undef) (by first | assumption | trivial) (by kernel_rfl) (by decide +kernel) (by decide +kernel) (Or.inr ⟨by rfl, rfl⟩) ?_
             simp only [Act.put, List.setIfInBounds_toArray, List.set_cons_zero, List.set_cons_succ])
          | (refine SeqS.take4 (v := ?_) (by first | assumption | trivial) (by kernel_rfl) (by decide +kernel) (by decide +kernel) (Or.inl ⟨by rfl, ?_⟩) ?_
             rotate_left
             focus
               intro w' hb'
               go_simp
               with_reducible rfl
             simp only [Act.put, List.setIfInBounds_toArray, List.set_cons_zero, List.set_cons_succ])
          | (refine SeqS.take4 (v := undef) (by first | assumption | trivial) (by kernel_rfl) (by decide +kernel) (by decide +kernel) (Or.inr ⟨by rfl, rfl⟩) ?_
             simp only [Act.put, List.setIfInBounds_toArray, List.set_cons_zero, List.set_cons_succ]))
        refine SeqS.done (by decide +kernel) ?_
        have PPH := Lib.hid (PPH.out.keep S7)
        have PTH := Lib.hid (PTH.out.keep S7)
        have HR := Lib.hid (show ∀ p ∈ told, ∀ y ∈ p, 0 ≤ y ∧ y < 256 from fun p hp => K7.out p (by rw [hLH.out]; exact hp))
        clear HK
        have c8 := r19Same_any a7 at' K c7' ct told w7.drew PPH.out PTH.out HR.out (Nat.le_trans HKi.out (by decide))
        have H8 := Lib.hid (H7.out.keep S7)
        have R8 := Lib.hid (R7b.out.keep S7)
        clear S7 x1 x2 x3
        go_wp2_with fail
        refine c8.mono ?_
        rintro q w8 ⟨rfl, b8⟩
        have b9 := below1 w8 (.cells #[.int .u8 1] 5)
        have I9 : Ints .u8 (w8.alloc (.cells #[.int .u8 1] 5)) (some ⟨w8.heap.size, 0, none⟩) 1 1 [1] := ints_new11 w8 .u8 5 (0, 0) [1] 1 rfl
        have h9 := (H8.out.keep b8).keep b9
        have r9 := (R8.out.keep b8).keep b9
        have c9 := o_put (z := 1) h9 r9 (.inr rfl) K10.out (by decide) HG.out HB.out I9 (by intro x hx; rw [List.mem_singleton.1 hx]; exact ⟨by decide, by decide⟩) (by decide) K4.out
        clear c8 b8 b9 I9 h9 r9
        go_wp2_with fail
        refine c9.mono ?_
        rintro q w10 ⟨rfl, h10, _⟩
        have hBz := h10.b
        rw [← HBe.out] at hBz
        have hal := alive20_any w10 (HG.out.keep hBz (Nat.le_refl _))
        clear c9 h10
        go_wp2_with fail
        refine hal.mono ?_
        rintro q wz ⟨rfl, bz⟩
        have hBq := hBz.trans (bz.mono hBz.size)
        clear hal bz hBz
        go_wp2
        go_ret
        exact ⟨rfl, hBq⟩
      · rw [hL] at P7
        obtain ⟨b, off, A, l, e, rfl, cel, hIx, PP, hn1, hkc⟩ := last_elem P7 hK
        rw [hL, hn1]
        have hln := HI7.out.len
        have x3 : (((K + 1 : Nat) : Int) == (K : Int) + 1) = true := beq_iff_eq.2 (Int.natCast_succ K)
        have x4 : decide ((0 : Int) < (ln : Int)) = true := decide_eq_true (Int.natCast_pos.2 (by rw [← hln]; exact hlb))
        have x6 : decide (0 < ln) = true := decide_eq_true (by rw [← hln]; exact hlb)
        have x5 : (K : Int) < ((K + 1 : Nat) : Int) := Int.ofNat_lt.2 (Nat.lt_succ_self K)
        obtain ⟨M, hM⟩ : ∃ M, K + 1 = M := ⟨_, rfl⟩
        rw [hM] at x3 x5 ⊢
        have hLH := Lib.hid hL
        have PPH := Lib.hid PP
        have PTH := Lib.hid PT
        obtain ⟨sb, hsb⟩ : ∃ s, strOfNums lb = s := ⟨_, rfl⟩
        have C1 := Lib.hid (fun w' (q : Below w7.heap.size w7 w') => hIx.string' (P := Tryd.prog) 33 9 5 Tryd.underlying33 Tryd.underlying5 Tryd.underlying9 q)
        have C2 := Lib.hid (fun w' (q : Below w7.heap.size w7 w') => HI7.out.string' (P := Tryd.prog) 33 9 5 Tryd.underlying33 Tryd.underlying5 Tryd.underlying9 q)
        rw [hsb] at C1 C2
        have CE := Lib.hid (fun w' (q : Below w7.heap.size w7 w') => (show w'.cell? ⟨b, off + K, none⟩ = some (.slice A l e) by rw [q.cell (World.block_lt_of_cell? w7 _ cel)]; exact cel))
        have hss : (sb.toList == sb.toList) = true := beq_self_eq_true _
        have HT := Lib.hid (fun wx => rows_to20 (n := M) (c := c7') (some ⟨b, off, none⟩) K hkc wx)
        clear P7 PP PT hK hL hn1 hkc hln hlb hsb hIx cel hM
        go_wp2_with fail
        refine region_seqS (fun w' => Below w7.heap.size w7 w') (by kernel_rfl) S7 ?_
        simp only [pairs, Nat.reduceAdd]
        repeat (first
          | (refine SeqS.take (v := ?_) (by first | assumption | trivial) (by kernel_rfl) (by decide +kernel) (by decide +kernel) (Or.inl ⟨by rfl, ?_⟩) ?_
             rotate_left
             focus
               intro w' hb'
               go_simp
               with_reducible rfl
             simp only [Act.put, List.setIfInBounds_toArray, List.set_cons_zero, List.set_cons_succ])
          | (refine SeqS.take (v := ?_) (by first | assumption | trivial) (by kernel_rfl) (by decide +kernel) (by decide +kernel) (Or.inl ⟨by rfl, ?_⟩) ?_
             rotate_left
             focus
               intro w' hb'
               have d0 := CE.out w' hb'
               go_simp
               with_reducible rfl
             simp only [Act.put, List.setIfInBounds_toArray, List.set_cons_zero, List.set_cons_succ])
          | (refine SeqS.take (v := ?_) (by first | assumption | trivial) (by kernel_rfl) (by decide +kernel) (by decide +kernel) (Or.inl ⟨by rfl, ?_⟩) ?_
             rotate_left
             focus
               intro w' hb'
               have d0 := C1.out w' hb'
               go_simp
               with_reducible rfl
             simp only [Act.put, List.setIfInBounds_toArray, List.set_cons_zero, List.set_cons_succ])
          | (refine SeqS.take (v := ?_) (by first | assumption | trivial) (by kernel_rfl) (by decide +kernel) (by decide +kernel) (Or.inl ⟨by rfl, ?_⟩) ?_
             rotate_left
             focus
               intro w' hb'
               have d0 := C2.out w' hb'
               go_simp
               with_reducible rfl
             simp only [Act.put, List.setIfInBounds_toArray, List.set_cons_zero, List.set_cons_succ])
          | (refine SeqS.take (v := undef) (by first | assumption | trivial) (by kernel_rfl) (by decide +kernel) (by decide +kernel) (Or.inr ⟨by rfl, rfl⟩) ?_
             simp only [Act.put, List.setIfInBounds_toArray, List.set_cons_zero, List.set_cons_succ])
          | (refine SeqS.take1 (v := ?_) (by first | assumption | trivial) (by kernel_rfl) (by decide +kernel) (by decide +kernel) (Or.inl ⟨by rfl, ?_⟩) ?_
             rotate_left
             focus
               intro w' hb'
               go_simp
               with_reducible rfl
             simp only [Act.put, List.setIfInBounds_toArray, List.set_cons_zero, List.set_cons_succ])
          | (refine SeqS.take1 (v := ?_) (by first | assumption | trivial) (by kernel_rfl) (by decide +kernel) (by decide +kernel) (Or.inl ⟨by rfl, ?_⟩) ?_
             rotate_left
             focus
               intro w' hb'
               have d0 := CE.out w' hb'
               go_simp
               with_reducible rfl
             simp only [Act.put, List.setIfInBounds_toArray, List.set_cons_zero, List.set_cons_succ])
          | (refine SeqS.take1 (v := ?_) (by first | assumption | trivial) (by kernel_rfl) (by decide +kernel) (by decide +kernel) (Or.inl ⟨by rfl, ?_⟩) ?_
             rotate_left
             focus
               intro w' hb'
               have d0 := C1.out w' hb'
               go_simp
               with_reducible rfl
             simp only [Act.put, List.setIfInBounds_toArray, List.set_cons_zero, List.set_cons_succ])
          | (refine SeqS.take1 (v := ?_) (by first | assumption | trivial) (by kernel_rfl) (by decide +kernel) (by decide +kernel) (Or.inl ⟨by rfl, ?_⟩) ?_
             rotate_left
             focus
               intro w' hb'
               have d0 := C2.out w' hb'
               go_simp
               with_reducible rfl
             simp only [Act.put, List.setIfInBounds_toArray, List.set_cons_zero, List.set_cons_succ])
          | (refine SeqS.take1 (v := undef) (by first | assumption | trivial) (by kernel_rfl) (by decide +kernel) (by decide +kernel) (Or.inr ⟨by rfl, rfl⟩) ?_
             simp only [Act.put, List.setIfInBounds_toArray, List.set_cons_zero, List.set_cons_succ])
          | (refine SeqS.take2 (v := ?_) (by first | assumption | trivial) (by kernel_rfl) (by decide +kernel) (by decide +kernel) (Or.inl ⟨by rfl, ?_⟩) ?_
             rotate_left
             focus
               intro w' hb'
               go_simp
               with_reducible rfl
             simp only [Act.put, List.setIfInBounds_toArray, List.set_cons_zero, List.set_cons_succ])
          | (refine SeqS.take2 (v := ?_) (by first | assumption | trivial) (by kernel_rfl) (by decide +kernel) (by decide +kernel) (Or.inl ⟨by rfl, ?_⟩) ?_
             rotate_left
             focus
               intro w' hb'
               have d0 := CE.out w' hb'
               go_simp
               with_reducible rfl
             simp only [Act.put, List.setIfInBounds_toArray, List.set_cons_zero, List.set_cons_succ])
          | (refine SeqS.take2 (v := ?_) (by first | assumption | trivial) (by kernel_rfl) (by decide +kernel) (by decide +kernel) (Or.inl ⟨by rfl, ?_⟩) ?_
             rotate_left
             focus
               intro w' hb'
               have d0 := C1.out w' hb'
               go_simp
               with_reducible rfl
             simp only [Act.put, List.setIfInBounds_toArray, List.set_cons_zero, List.set_cons_succ])
          | (refine SeqS.take2 (v := ?_) (by first | assumption | trivial) (by kernel_rfl) (by decide +kernel) (by decide +kernel) (Or.inl ⟨by rfl, ?_⟩) ?_
             rotate_left
             focus
               intro w' hb'
               have d0 := C2.out w' hb'
               go_simp
               with_reducible rfl
             simp only [Act.put, List.setIfInBounds_toArray, List.set_cons_zero, List.set_cons_succ])
          | (refine SeqS.take2 (v := undef) (by first | assumption | trivial) (by kernel_rfl) (by decide +kernel) (by decide +kernel) (Or.inr ⟨by rfl, rfl⟩) ?_
             simp only [Act.put, List.setIfInBounds_toArray, List.set_cons_zero, List.set_cons_succ])
          | (refine SeqS.take3 (v := ?_) (by first | assumption | trivial) (by kernel_rfl) (by decide +kernel) (by decide +kernel) (Or.inl ⟨by rfl, ?_⟩) ?_
             rotate_left
             focus
               intro w' hb'
               go_simp
               with_reducible rfl
             simp only [Act.put, List.setIfInBounds_toArray, List.set_cons_zero, List.set_cons_succ])
          | (refine SeqS.take3 (v := ?_) (by first | assumption | trivial) (by kernel_rfl) (by decide +kernel) (by decide +kernel) (Or.inl ⟨by rfl, ?_⟩) ?_
             rotate_left
             focus
               intro w' hb'
               have d0 := CE.out w' hb'
               go_simp
               with_reducible rfl
             simp only [Act.put, List.setIfInBounds_toArray, List.set_cons_zero, List.set_cons_succ])
          | (refine SeqS.take3 (v := ?_) (by first | assumption | trivial) (by kernel_rfl) (by decide +kernel) (by decide +kernel) (Or.inl ⟨by rfl, ?_⟩) ?_
             rotate_left
             focus
               intro w' hb'
               have d0 := C1.out w' hb'
               go_simp
               with_reducible rfl
             simp only [Act.put, List.setIfInBounds_toArray, List.set_cons_zero, List.set_cons_succ])
          | (refine SeqS.take3 (v := ?_) (by first | assumption | trivial) (by kernel_rfl) (by decide +kernel) (by decide +kernel) (Or.inl ⟨by rfl, ?_⟩) ?_
             rotate_left
             focus
               intro w' hb'
               have d0 := C2.out w' hb'
               go_simp
               with_reducible rfl
             simp only [Act.put, List.setIfInBounds_toArray, List.set_cons_zero, List.set_cons_succ])
          | (refine SeqS.take3 (v := undef) (by first | assumption | trivial) (by kernel_rfl) (by decide +kernel) (by decide +kernel) (Or.inr ⟨by rfl, rfl⟩) ?_
             simp only [Act.put, List.setIfInBounds_toArray, List.set_cons_zero, List.set_cons_succ])
          | (refine SeqS.take4 (v := ?_) (by first | assumption | trivial) (by kernel_rfl) (by decide +kernel) (by decide +kernel) (Or.inl ⟨by rfl, ?_⟩) ?_
             rotate_left
             focus
               intro w' hb'
               go_simp
               with_reducible rfl
             simp only [Act.put, List.setIfInBounds_toArray, List.set_cons_zero, List.set_cons_succ])
          | (refine SeqS.take4 (v := ?_) (by first | assumption | trivial) (by kernel_rfl) (by decide +kernel) (by decide +kernel) (Or.inl ⟨by rfl, ?_⟩) ?_
             rotate_left
             focus
               intro w' hb'
               have d0 := CE.out w' hb'
               go_simp
               with_reducible rfl
             simp only [Act.put, List.setIfInBounds_toArray, List.set_cons_zero, List.set_cons_succ])
          | (refine SeqS.take4 (v := ?_) (by first | assumption | trivial) (by kernel_rfl) (by decide +kernel) (by decide +kernel) (Or.inl ⟨by rfl, ?_⟩) ?_
             rotate_left
             focus
               intro w' hb'
               have d0 := C1.out w' hb'
               go_simp
               with_reducible rfl
             simp only [Act.put, List.setIfInBounds_toArray, List.set_cons_zero, List.set_cons_succ])
          | (refine SeqS.take4 (v := ?_) (by first | assumption | trivial) (by kernel_rfl) (by decide +kernel) (by decide +kernel) (Or.inl ⟨by rfl, ?_⟩) ?_
             rotate_left
             focus
               intro w' hb'
               have d0 := C2.out w' hb'
               go_simp
               with_reducible rfl
             simp only [Act.put, List.setIfInBounds_toArray, List.set_cons_zero, List.set_cons_succ])
          | (refine SeqS.take4 (v := undef) (by first | assumption | trivial) (by kernel_rfl) (by decide +kernel) (by decide +kernel) (Or.inr ⟨by rfl, rfl⟩) ?_
             simp only [Act.put, List.setIfInBounds_toArray, List.set_cons_zero, List.set_cons_succ]))
        refine SeqS.done (by decide +kernel) ?_
        have PPH := Lib.hid (PPH.out.keep S7)
        have PTH := Lib.hid (PTH.out.keep S7)
        have HR := Lib.hid (show ∀ p ∈ told, ∀ y ∈ p, 0 ≤ y ∧ y < 256 from fun p hp => K7.out p (by rw [hLH.out]; exact List.mem_append.2 (.inl hp)))
        have hto := fun wx => HT.out wx
        obtain ⟨a7, ha7⟩ : ∃ a7 : Option Addr, some ⟨b, off, none⟩ = a7 := ⟨_, rfl⟩
        rw [ha7] at PPH hto ⊢
        clear C1 C2 CE HT x4 x5 x6 ha7
        have c8 := r19Same_any a7 at' K c7' ct told w7.drew PPH.out PTH.out HR.out (Nat.le_trans HKi.out (by decide))
        have H8 := Lib.hid (H7.out.keep S7)
        have R8 := Lib.hid (R7b.out.keep S7)
        clear S7 x1 x2 x3
        go_wp2_with fail
        refine c8.mono ?_
        rintro q w8 ⟨rfl, b8⟩
        have b9 := below1 w8 (.cells #[.int .u8 1] 5)
        have I9 : Ints .u8 (w8.alloc (.cells #[.int .u8 1] 5)) (some ⟨w8.heap.size, 0, none⟩) 1 1 [1] := ints_new11 w8 .u8 5 (0, 0) [1] 1 rfl
        have h9 := (H8.out.keep b8).keep b9
        have r9 := (R8.out.keep b8).keep b9
        have c9 := o_put (z := 1) h9 r9 (.inr rfl) K10.out (by decide) HG.out HB.out I9 (by intro x hx; rw [List.mem_singleton.1 hx]; exact ⟨by decide, by decide⟩) (by decide) K4.out
        clear c8 b8 b9 I9 h9 r9
        go_wp2_with fail
        refine c9.mono ?_
        rintro q w10 ⟨rfl, h10, _⟩
        have hBz := h10.b
        rw [← HBe.out] at hBz
        have hal := alive20_any w10 (HG.out.keep hBz (Nat.le_refl _))
        clear c9 h10
        go_wp2_with fail
        refine hal.mono ?_
        rintro q wz ⟨rfl, bz⟩
        have hBq := hBz.trans (bz.mono hBz.size)
        clear hal bz hBz
        go_wp2
        go_ret
        exact ⟨rfl, hBq⟩
end Go.Proofs.YtnblknhdchpboaaDoor
