/-
  Texts of stages that were proved on their own, joined: FpIter, FpScan. Each begins with its own words.
-/
import Derived.Test.YtinmmhbiomcdoaaGreatDoorJVaLawN30
import Derived.Test.YtinmmhbiomcdoaaGreatDoorJVaLawN28
import Derived.ChangeKeysEq
import Derived.Test.YtinmmhbiomcdoaaGreatDoorJVaLawN14
import Derived.Maps.AppendAt

/-
  Frames gone through by a range over a function: what frames and All hand back, and the function itself, for every loop's body that keeps the bytes. New memory alone is written. Conditions: bytes below 256; at most 2^30 - 2^26 many.
-/
namespace Go.Proofs.YtinmmhbiomcdoaaGreatDoor
open Go.RowKit Go.Shelf
attribute [local go_sem] Oper.semAt_some

set_option maxRecDepth 100000 in
set_option maxHeartbeats 400000 in
theorem fFrames_any (a : Option Addr) (n c : Nat) (w : World) :
    Calls Tryz.prog 133 #[.slice a n c] w fun e w' => e = .returned (.func (.func 143) #[] #[.pointer (some ⟨w.heap.size, 0, none⟩)]) ∧ w' = w.alloc (.cells #[.slice a n c] 34) := by
  go_enter Tryz.func133, Tryz.ntmps133
  go_wp2
  go_ret
  exact ⟨rfl, rfl⟩

/-- A frame that was found: its number, and where its body was laid. -/
structure FI where
  k : Nat
  b : Option Addr
  d : Nat
def encFI (xs : List Int) (x : FI) : Array Value := #[.int .i64 ((atF xs x.k : Nat) : Int), .slice x.b (bodyF xs x.k).length x.d]
def SeesF (xs : List Int) (x : FI) (W : World) : Prop := ElemAt W 0 x.b (bodyF xs x.k).length x.d (bodyF xs x.k)
/-- What a round keeps: the function's own variable, the bytes, the table. -/
def KeptF (B1 : Nat) (a : Option Addr) (n c : Nat) (xs : List Int) (W W' : World) : Prop := W'.heap[B1]? = W.heap[B1]? ∧ (Ints .u8 W a n c xs → Ints .u8 W' a n c xs) ∧ (Glob11 W → Glob11 W')
theorem KeptF.t {B1 : Nat} {a : Option Addr} {n c : Nat} {xs : List Int} {A B C : World} (h : KeptF B1 a n c xs A B) (k : KeptF B1 a n c xs B C) : KeptF B1 a n c xs A C := ⟨k.1.trans h.1, fun x => k.2.1 (h.2.1 x), fun x => k.2.2 (h.2.2 x)⟩
theorem ints_own19 {k : IntKind} {a : Option Addr} {n c : Nat} {xs : List Int} {β : Type} : Own (fun (_ : β) W => Ints k W a n c xs) := by
  intro s X Z row h hg hr
  refine ⟨h.1, h.2.1, ?_⟩
  rcases h.2.2 with h0 | ⟨b, off, ha, hc⟩
  · exact .inl h0
  · exact .inr ⟨b, off, ha, fun i hi => cell_kept (hc i hi) hg hr⟩
theorem glob_own19 {β : Type} : Own (fun (_ : β) W => Glob11 W) := fun _ _ _ _ h hg hr => fun i hi => cell_kept (h i hi) hg hr
theorem KeptF.b {B1 : Nat} {a : Option Addr} {n c : Nat} {xs : List Int} {w : World} (h1 : B1 < w.heap.size) (W : World) (l : Nat) (o o' : Obj) (hl : w.heap.size ≤ l) (h : W.heap[l]? = some o) (ho : o.isCells = false) (_ : o.isWalk = false) : KeptF B1 a n c xs W (W.putObj l o') :=
  ⟨World.putObj_heap_other (by omega), fun k => ints_own19 (β := Unit) () _ _ _ k (grownBy_putObj' W l o') (fun r e => by cases e; exact ⟨o, h, ho⟩), fun k => glob_own19 (β := Unit) () _ _ _ k (grownBy_putObj' W l o') (fun r e => by cases e; exact ⟨o, h, ho⟩)⟩
theorem sees_own19 (xs : List Int) : Own (SeesF xs) := by
  intro x X Z row h hg hr
  refine ElemAt.stay h hg.size fun b hb h2 => hg.block b hb fun e => ?_
  obtain ⟨o, ho, hc⟩ := hr b e.symm
  rcases h2 with h2 | ⟨cur, h2⟩
  · omega
  · rw [h2] at ho
    injection ho with ho
    rw [← ho] at hc
    cases hc

theorem cell_of_two19 {W W' : World} {B : Nat} (h : W'.heap[B]? = W.heap[B]?) (v : Value) (hv : W.cell? ⟨B, 0, none⟩ = some v) : W'.cell? ⟨B, 0, none⟩ = some v := by
  rw [← hv]
  simp only [World.cell?, h]

theorem seesK_own19 (xs : List Int) (B : Nat) (pre : List FI) : OwnFrom B (fun x W => x.k = pre.length ∧ SeesF xs x W) := fun x X Z row h hg hr => ⟨h.1, sees_own19 xs x X Z row h.2 hg (fun r e => (hr r e).2)⟩

set_option maxRecDepth 100000 in
set_option maxHeartbeats 2000000 in
theorem frames_sees (n : Nat) (hn : 1 ≤ n) (B1 : Nat) (a : Option Addr) (m c : Nat) (xs : List Int) (K : Nat) (w : World) (hF : Fr xs K) (h1 : B1 < w.heap.size) (c1 : w.cell? ⟨B1, 0, none⟩ = some (.slice a m c)) (hI : Ints .u8 w a m c xs) (hr : ∀ x ∈ xs, 0 ≤ x ∧ x < 256) (hm : m ≤ 1000000000) (hG : Glob11 w) :
    SeqSees Fence.wide n Tryz.prog 143 #[.pointer (some ⟨B1, 0, none⟩)] (encFI xs) (fun pre x W => x.k = pre.length ∧ SeesF xs x W) (KeptF B1 a m c xs) (fun ys => ys.map FI.k = List.range K) (fun pre => ∃ k, k ≤ K ∧ pre.map FI.k = List.range k) K w := fun l J Jx W hW hJa _ hY h0 => by
  have d1 := (hW.cell (p := ⟨B1, 0, none⟩) h1).trans c1
  have IW := hI.keep hW
  have GW := hG.keep hW (Nat.le_refl _)
  have hl := hI.len
  have hFH := Lib.hid hF
  have hrH := Lib.hid hr
  have hnH := Lib.hid hm
  have hlH := Lib.hid hl
  clear c1 h1 hI hG hF hr hm hl hW
  refine callsIn_of_wp Tryz.func143 rfl trivial ?_ rfl
  simp only [Tryz.ntmps143, List.size_toArray, List.length_cons, List.length_nil, Nat.reduceAdd, Nat.reduceSub, Array.replicate_succ, Array.replicate_zero, List.push_toArray, List.append_toArray, List.nil_append, List.cons_append]
  gi_wp2
  gi_loopw [3] (fun i wm => ∃ (k : Nat) (pre : List FI), k ≤ K ∧ i = .int .i64 ((atF xs k : Nat) : Int) ∧ pre.map FI.k = List.range k ∧ J pre wm ∧ wm.cell? ⟨B1, 0, none⟩ = some (.slice a m c) ∧ Ints .u8 wm a m c xs ∧ Glob11 wm) (fun i _ => m + 1 - (intOf i).toNat)
  case atStart => exact ⟨0, [], Nat.zero_le _, rfl, rfl, h0, d1, IW, GW⟩
  case round =>
    clear d1 IW GW h0
    obtain ⟨k, pre, hk, rfl, hpre, hJ, e1, hI, hG⟩ := hrel
    have hpl : pre.length = k := by rw [← List.length_map (f := FI.k), hpre, List.length_range]
    have hat := (hFH.out.at hk).2
    rw [hlH.out] at hat
    obtain ⟨P, hP⟩ : ∃ P, atF xs k = P := ⟨_, rfl⟩
    have hone := fOne_any (cutAddr a c P) (m - P) (c - P) (xs.drop P) wr hG (hI.cutAt P (by omega)) (fun x hx => hrH.out x (List.mem_of_mem_drop hx)) (by have := hnH.out; omega)
    have sN : ∀ wx : World, (Instr.sliceAt 34 (.slice a m c) (some (.int .i64 (P : Int))) none none).run Tryz.prog wx = .ok (.slice (cutAddr a c P) (m - P) (c - P)) wx := fun wx => run_cut 34 5 Tryz.underlying34 sizeU8s wx a m c .i64 P (by omega)
    obtain ⟨BD, hBD⟩ : ∃ b, bodyF xs k = b := ⟨_, rfl⟩
    obtain ⟨E, hE⟩ : ∃ b, errF xs k = b := ⟨_, rfl⟩
    obtain ⟨SZ, hSZ⟩ : ∃ b, (oneF (xs.drop P)).2.1 = b := ⟨_, rfl⟩
    have hone2 := Lib.hid (fun q w' (h : OneEnd (xs.drop P) wr q w') => oneEnd_is (bd := BD) (sz := SZ) (e := E) h (by rw [← hP]; exact hBD) hSZ (by rw [← hP]; exact hE))
    have hPs := Lib.hid (show atF xs (k + 1) = P + SZ by rw [← hSZ, ← hP]; rfl)
    rw [hP] at hat ⊢
    have hPi : (P : Int) ≤ (m : Int) := by omega
    by_cases hlt : k < K
    · obtain rfl : E = 0 := by rw [← hE]; exact hFH.out.ok k hlt
      have hnx := (hFH.out.at (k := k + 1) hlt).2
      have hbd := (hFH.out.body hlt)
      rw [hPs.out, hlH.out] at hnx
      have hsw : wrap64 ((P : Int) + (SZ : Int)) = (P : Int) + (SZ : Int) := wrap_sum19 P SZ (Nat.le_trans hnx hnH.out)
      have hb9 := hbd.2.2.1
      rw [hPs.out, hP] at hb9
      have hms := Lib.hid (meas19 m P SZ (pos19 hb9) hnx)
      have hltH := Lib.hid hlt
      have hplH := Lib.hid hpl
      have hBDH := Lib.hid hBD
      have hPH := Lib.hid hP
      have hpreH := Lib.hid hpre
      clear hBD hE hSZ hP hbd hnx hlt hk hb9 hpl hpre
      gi_wp2_with fail
      refine ⟨trivial, (callsIn_wide.2 hone).mono ?_⟩
      intro q w2 hq
      obtain ⟨b, d, rfl, ho, b2⟩ := hone2.out q w2 hq
      have hel : ElemAt w2 0 b BD.length d BD := ElemAt.of_owns ho
      have hJ2 := hJa pre wr w2 none hJ (grown_of_below b2 none) (fun r hr => by cases hr)
      have e2 : w2.cell? ⟨B1, 0, none⟩ = some (.slice a m c) := (b2.cell (World.block_lt_of_cell? wr _ e1)).trans e1
      have hI2 := hI.keep b2
      have hG2 := hG.keep b2 (Nat.le_refl _)
      obtain ⟨fn, tmps, assign, body, hyl, hR⟩ := hY pre ⟨k, b, d⟩ w2 hJ2 ⟨hplH.out.symm, by unfold SeesF; dsimp only; rw [hBDH.out]; exact hel⟩ (by rw [hplH.out]; exact hltH.out)
      dsimp only [encFI] at hyl
      rw [hPH.out, hBDH.out] at hyl
      clear hone hone2 hq ho b2 hJ hI hG e1 hel hJ2
      gi_wp2
      refine hR.mono ?_
      rintro e W3 (⟨rfl, hJ3, hk3⟩ | ⟨rfl, hJx3⟩)
      · have e3 := cell_of_two19 hk3.1 _ e2
        have hI3 := hk3.2.1 hI2
        have hG3 := hk3.2.2 hG2
        clear e2 hI2 hG2 hR hyl hk3
        gi_wp2
        go_roundw
        case rel => exact ⟨k + 1, pre ++ [⟨k, b, d⟩], hltH.out, by rw [hPs.out]; congr 1, by rw [List.map_append, hpreH.out, List.range_succ]; rfl, hJ3, e3, hI3, hG3⟩
        case measure =>
          rw [hsw]
          exact hms.out
      · gi_wp2
        refine bodyPost_ret (results_none rfl _ _ _) rfl ?_
        exact ⟨⟨_, rfl⟩, .inr ⟨_, ⟨k + 1, hltH.out, by rw [List.map_append, hpreH.out, List.range_succ]; rfl⟩, hJx3⟩⟩
    · obtain rfl : k = K := by omega
      have hE0 : ¬ E = 0 := by rw [← hE]; exact hFH.out.stop
      have hEb : (E != 0) = true := bne_iff_ne.2 hE0
      clear hBD hE hSZ hP hlt hk
      gi_wp2_with fail
      refine ⟨trivial, (callsIn_wide.2 hone).mono ?_⟩
      intro q w2 hq
      obtain ⟨b, d, rfl, ho, b2⟩ := hone2.out q w2 hq
      have hJ2 := hJa pre wr w2 none hJ (grown_of_below b2 none) (fun r hr => by cases hr)
      clear hone hone2 hq ho b2 hJ hI hG e1
      gi_wp2
      refine ⟨fun _ h => (by cases h), ?_⟩
      gi_wp2
      refine bodyPost_ret (results_none rfl _ _ _) rfl ?_
      exact ⟨⟨_, rfl⟩, .inl ⟨pre, hpre, hJ2⟩⟩
end Go.Proofs.YtinmmhbiomcdoaaGreatDoor

/-
  What frame's All and Scan come to. New memory alone is written. Conditions: bytes below 256; at most 10^9 many.
-/
namespace Go.Proofs.YtinmmhbiomcdoaaGreatDoor
open Go.RowKit Go.Shelf
attribute [local go_sem] Oper.semAt_some

theorem atF_any (xs : List Int) : ∀ k, atF xs k ≤ xs.length
  | 0 => Nat.zero_le _
  | k + 1 => by
    have ih := atF_any xs k
    show atF xs k + (oneF (xs.drop (atF xs k))).2.1 ≤ _
    by_cases h : (oneF (xs.drop (atF xs k))).2.2 = 0
    · have := (oneF_ok h).2.2.2.1
      rw [List.length_drop] at this
      omega
    · rw [(oneF_bad h).2]
      omega
theorem bodyF_any (xs : List Int) (k : Nat) : (bodyF xs k).length ≤ xs.length := by
  unfold bodyF
  by_cases h : (oneF (xs.drop (atF xs k))).2.2 = 0
  · have h1 := (oneF_ok h).2.2.2.1
    have h2 := (oneF_ok h).1
    rw [List.length_drop] at h1
    omega
  · rw [(oneF_bad h).1]
    exact Nat.zero_le _
/-- The end that Scan tells. -/
def endF (xs : List Int) (pre : List FI) : Int :=
  match pre.getLast? with
  | none => 0
  | some x => ((atF xs x.k : Nat) : Int) + (8 + ((bodyF xs x.k).length : Int))
theorem endF_snoc (xs : List Int) (pre : List FI) (x : FI) : endF xs (pre ++ [x]) = ((atF xs x.k : Nat) : Int) + (8 + ((bodyF xs x.k).length : Int)) := by
  unfold endF
  rw [List.getLast?_append]
  rfl
theorem endF_done {xs : List Int} {K : Nat} (hF : Fr xs K) {ys : List FI} (h : ys.map FI.k = List.range K) : endF xs ys = ((atF xs K : Nat) : Int) := by
  rcases List.eq_nil_or_concat ys with rfl | ⟨zs, x, rfl⟩
  · have : K = 0 := by
      have := congrArg List.length h
      simpa using this.symm
    subst this
    rfl
  · rw [List.concat_eq_append] at h ⊢
    rw [endF_snoc]
    cases K with
    | zero => simp at h
    | succ K =>
      rw [List.map_append, List.range_succ] at h
      have h2 := List.append_inj_right' h rfl
      injection h2 with h2 _
      rw [h2, atF_succ (hF.ok K (Nat.lt_succ_self K))]
      omega
theorem bodies_done {xs : List Int} {K : Nat} {ys : List FI} (h : ys.map FI.k = List.range K) : ys.map (fun x => bodyF xs x.k) = bodiesF xs K := by
  unfold bodiesF
  rw [← h, List.map_map]
  rfl
/-- A store into a variable of another type. -/
theorem RowsO.box {w : World} {B : Nat} {v : Value} {ps : List (List Int)} (h : RowsO w B 0 v ps) {g : Nat} {t : TypeId} {u : Value} (hb : Boxed w g t u) (h1 : t ≠ 5) (h2 : t ≠ 34) (u' : Value) : RowsO (w.setCell ⟨g, 0, none⟩ u') B 0 v ps := by
  refine h.stay (grownBy_setCell' w g u').size fun b hlt hx => Below.heap_setCell w _ u' b fun e => ?_
  have e' : b = g := e
  subst e'
  rcases hx with hx | ⟨cur, t', hx, ht⟩
  · omega
  · rw [show w.heap[b]? = _ from hb] at hx
    injection hx with hx
    injection hx with _ hx _
    rcases ht with ht | ⟨ht, _⟩
    · exact h1 (hx.trans ht)
    · exact h2 (hx.trans ht)
theorem rows_own19 {β : Type} (B : Nat) (v : Value) (f : β → List (List Int)) : Own (fun s W => RowsO W B 0 v (f s)) := by
  intro s X Z row h hg hr
  refine h.stay hg.size fun b hb h2 => hg.block b hb fun e => ?_
  obtain ⟨o, ho, hc⟩ := hr b e.symm
  rcases h2 with h2 | ⟨cur, t, h2, _⟩
  · omega
  · rw [h2] at ho
    injection ho with ho
    rw [← ho] at hc
    cases hc
theorem len_few19 {k K n : Nat} (h : k < K) (hK : 9 * K ≤ n) (hn : n ≤ 1000000000) : k + 1 ≤ maxLen ∧ (k + 1) * 24 ≤ 140737488355328 := by
  unfold maxLen
  omega
theorem wrap_end19 (p l n : Nat) (hp : p ≤ n) (hl : l ≤ n) (hn : n ≤ 1000000000) : wrap64 ((p : Int) + (8 + (l : Int))) = (p : Int) + (8 + (l : Int)) := by unfold wrap64; omega

/-- What Scan's loop has made. -/
structure ScanI (xs : List Int) (G : Nat) (w : World) (pre : List FI) (W : World) : Prop where
  row : ∃ v, Boxed W G 44 v ∧ RowsO W (G + 3) 0 v (pre.map fun x => bodyF xs x.k)
  fin : Boxed W (G + 1) 3 (.int .i64 (endF xs pre))
  b : Below G w W
  s : G + 3 ≤ W.heap.size
theorem ScanI.own {xs : List Int} {G : Nat} {w : World} : OwnFrom (G + 3) (ScanI xs G w) := by
  intro pre X Z row h hg hr
  obtain ⟨⟨v, hv, hx⟩, hf, hb, hs⟩ := h
  have hne : ∀ k, k < G + 3 → some k ≠ row := fun k hk e => by have := (hr k e.symm).1; omega
  refine ⟨⟨v, hv.kept hg (hne _ (by omega)), rows_own19 (G + 3) v (fun pre : List FI => pre.map fun x => bodyF xs x.k) pre X Z row hx hg (fun r e => (hr r e).2)⟩, hf.kept hg (hne _ (by omega)), hb.grown hg (by have := hb.size; omega) (fun k hk => by have := (hr k hk).1; omega), Nat.le_trans hs hg.size⟩

set_option maxRecDepth 100000 in
set_option maxHeartbeats 4000000 in
theorem fScan_any (a : Option Addr) (n c : Nat) (xs : List Int) (K : Nat) (hF : Fr xs K) (w : World) (hG0 : Glob11 w) (hI : Ints .u8 w a n c xs) (hr : ∀ x ∈ xs, 0 ≤ x ∧ x < 256) (hn : n ≤ 1000000000) :
    Calls Tryz.prog 114 #[.slice a n c] w fun q w' => ∃ v, q = .returned (.tuple #[v, .int .i64 ((atF xs K : Nat) : Int)]) ∧ RowsO w' w.heap.size 0 v (bodiesF xs K) ∧ Below w.heap.size w w' := by
  obtain ⟨i1, ji, jz0, jz1, jz2⟩ := info_sl19
  have hl := hI.len
  have hK9 := (hF.at (Nat.le_refl K)).1
  have hKn := (hF.at (Nat.le_refl K)).2
  have hat := fun k => atF_any xs k
  have hbd := fun k => bodyF_any xs k
  rw [hl] at hKn hat hbd
  have hIH := Lib.hid hI
  have hGH := Lib.hid hG0
  have hFH := Lib.hid hF
  have hrH := Lib.hid hr
  have hnH := Lib.hid hn
  have hKH := Lib.hid (Nat.le_trans hK9 hKn)
  have hatH := Lib.hid hat
  have hbdH := Lib.hid hbd
  clear hI hG0 hF hr hn hl hK9 hKn hat hbd
  refine (callsIn_wide (n := 9)).1 (callsIn_of_wp_marks Tryz.func114 rfl trivial (wpIn_wide.2 ?_) rfl)
  simp only [Tryz.ntmps114, List.size_toArray, List.length_cons, List.length_nil, Nat.reduceAdd, Nat.reduceSub, Array.replicate_succ, Array.replicate_zero, List.push_toArray, List.append_toArray, List.nil_append, List.cons_append]
  go_wp2_with fail
  refine (fFrames_any a n c _).mono ?_
  rintro q W1 ⟨rfl, hW1⟩
  obtain ⟨G, hG⟩ : ∃ G, w.heap.size = G := ⟨_, rfl⟩
  obtain ⟨W0, hW0⟩ : ∃ W0, ((w.alloc (.cells #[.slice none 0 0] 44)).alloc (.cells #[.int .i64 0] 3)).alloc (.cells #[.slice a n c] 34) = W0 := ⟨_, rfl⟩
  have hs0 : W0.heap.size = G + 3 := by rw [← hW0, ← hG]; exact size3 w _ _ _
  have hb0 : Below G w W0 := by rw [← hW0, ← hG]; exact below3 w _ _ _
  have k0 : Boxed W0 G 44 (.slice none 0 0) := by rw [← hW0, ← hG]; exact ((Boxed.new w _ _).alloc _).alloc _
  have k1 : Boxed W0 (G + 1) 3 (.int .i64 0) := by
    rw [← hW0, ← hG]
    have h := Boxed.new (w.alloc (.cells #[.slice none 0 0] 44)) 3 (.int .i64 0)
    rw [size1] at h
    exact h.alloc _
  have k2 : Boxed W0 (G + 1 + 1) 34 (.slice a n c) := by
    rw [← hW0, ← hG]
    have h := Boxed.new ((w.alloc (.cells #[.slice none 0 0] 44)).alloc (.cells #[.int .i64 0] 3)) 34 (.slice a n c)
    rw [size2] at h
    exact h
  rw [hW0] at hW1
  subst hW1
  go_wp2_with fail
  have hIW : Ints .u8 W1 a n c xs := hIH.out.keep (by rw [hG]; exact hb0)
  have hGW : Glob11 W1 := hGH.out.keep hb0 (by rw [hG]; exact Nat.le_refl _)
  have hsee := frames_sees (9 - 1) (by omega) (G + 1 + 1) a n c xs K W1 hFH.out (by omega) k2.cell hIW hrH.out hnH.out hGW
  have hGs := Lib.hid hG
  clear hIW hGW hW0 hG
  refine (wpIn_wide (n := 9)).1 ?_
  refine wpIn_rangeFunc_sees rfl (by omega) (gf := 143) (lb := #[.pointer (some ⟨G + 1 + 1, 0, none⟩)]) rfl trivial (enters_of Tryz.func143 (by kernel_rfl) rfl) hsee KeptF.t (KeptF.b (by omega)) (Below.refl _ _) (fun _ => rfl)
    (ScanI xs G w) (fun _ _ _ => False) (by rw [hs0]; exact ScanI.own) (fun _ _ _ _ _ hs _ _ => hs) (fun pre => seesK_own19 xs _ pre)
    ⟨⟨_, k0, RowsO.nil _ _ _⟩, k1, hb0, by omega⟩
    (fun x => { tmps := #[.slice a n c, undef, .slice none 0 0, .int .i64 0, .pointer (some ⟨G, 0, none⟩), .pointer (some ⟨G + 1, 0, none⟩), .int .i64 ((atF xs x.k : Nat) : Int), .slice x.b (bodyF xs x.k).length x.d, .slice a n c, .func (.func 143) #[] #[.pointer (some ⟨G + 1 + 1, 0, none⟩)], .int .i64 ((atF xs x.k : Nat) : Int), .slice x.b (bodyF xs x.k).length x.d, undef, undef, undef, undef, undef, undef, undef, undef, undef, undef], defers := [] }) ?assign ?body ?done ?stop
  case assign =>
    intro l x W K hK
    dsimp only [encFI]
    gi_wp2
    exact hK
  case body =>
    rintro l pre x W ⟨⟨v, hv, hrow⟩, hf, hB, hs⟩ ⟨_, hx⟩ hpl
    obtain ⟨hw1, hw2⟩ := len_few19 hpl hKH.out hnH.out
    have hwe := wrap_end19 (atF xs x.k) (bodyF xs x.k).length n (hatH.out _) (hbdH.out _) hnH.out
    have hwl : (bodyF xs x.k).length ≤ 140737488355328 := Nat.le_trans (hbdH.out _) (Nat.le_trans hnH.out (by decide))
    have hend := Lib.hid (endF_snoc xs pre x)
    have hmap := Lib.hid (show (pre ++ [x]).map (fun x => bodyF xs x.k) = pre.map (fun x => bodyF xs x.k) ++ [bodyF xs x.k] by simp)
    unfold SeesF at hx
    obtain ⟨k, b, d⟩ := x
    dsimp only at hx hwe hwl hend hmap ⊢
    obtain ⟨P, hP⟩ : ∃ P, atF xs k = P := ⟨_, rfl⟩
    obtain ⟨Y, hY⟩ : ∃ Y, bodyF xs k = Y := ⟨_, rfl⟩
    rw [hP, hY] at hwe hend ⊢
    rw [hY] at hx hwl hmap
    clear hP hY
    obtain ⟨SL, ho, hxs⟩ := hrow
    rw [List.length_map] at ho hxs
    have ho3 := ho.alloc (.cells #[.slice b Y.length d] 34)
    have hg3 := World.grownBy_alloc W (.cells #[.slice b Y.length d] 34) none
    have hel3 := hx.stay hg3.size (fun q hq _ => hg3.block q hq (by simp))
    have hxs3 : ∀ i, i < pre.length → ∃ a n c, SL[i]? = some (.slice a n c) ∧ ElemAt (W.alloc (.cells #[.slice b Y.length d] 34)) 0 a n c ((pre.map fun x => bodyF xs x.k).getD i []) := fun i hi => by
      obtain ⟨a', n', c', h1, h2⟩ := hxs i hi
      exact ⟨a', n', c', h1, h2.stay hg3.size (fun q hq _ => hg3.block q hq (by simp))⟩
    have hs3 : G + 3 ≤ (W.alloc (.cells #[.slice b Y.length d] 34)).heap.size := Nat.le_trans hs hg3.size
    have hcv := hv.cell
    clear hg3 hx hxs
    gi_wp2_with (gi_at_builtin; refine wpListIn_append_own _ rfl _ _ 44 rfl (G + 3) 34 i1 (.slice none 0 0) 1 24 Tryz.underlying44 ji jz0 jz1 jz2 rfl (by decide) _ _ _ rfl ho3 ⟨W.heap.size, 0, none⟩ 1 1 [.slice b Y.length d] rfl rfl (cell_one_new _ _ _) (by simp [Value.oneCell']) hw1 hw2 hs3 ?_; intro v5 W5 hown5 hg5 _; refine RowKit.Hid.out ?_)
    refine Lib.hid ?_
    obtain ⟨g', cap', rfl⟩ := ownsRow_succ hown5
    obtain ⟨hv1, hv2, hr2, hk2, hb2⟩ := hv.appended (by decide) (own_low9 ho (show G ≤ G + 3 by omega)) (by omega) (Nat.le_refl G) (own_low9 hown5 (show G ≤ G + 3 by omega)) hg5
    have hR5 : RowsO W5 (G + 3) 0 _ ((pre.map fun x => bodyF xs x.k) ++ [Y]) := RowsO.snoc (Nat.zero_le _) (by rw [List.length_map]; exact ho3) (by rw [List.length_map]; exact hxs3) hg5 hel3 (by rw [List.length_map]; exact hown5)
    have hf5 := (hf.alloc (.cells #[.slice b Y.length d] 34)).kept hg5 (hf.not_row (by decide) ho)
    have q5 : W5.heap[G + 1 + 1]? = W.heap[G + 1 + 1]? := (hg5.block (G + 1 + 1) (by omega) (fun e => by have := (ho.lt _ e.symm).1; omega)).trans (Below.heap_alloc W _ _ (by omega))
    have cv := hv1.cell
    have fv := hv1.frozen
    have hR6 := hR5.box hv1 (by decide) (by decide) (.slice (some ⟨g', 0, none⟩) (pre.length + 1) cap')
    have hf6 := hf5.kept (grownBy_setCell' W5 G (.slice (some ⟨g', 0, none⟩) (pre.length + 1) cap')) (by intro e; injection e with e; omega)
    have q6 : (W5.setCell ⟨G, 0, none⟩ (.slice (some ⟨g', 0, none⟩) (pre.length + 1) cap')).heap[G + 1 + 1]? = W.heap[G + 1 + 1]? := (Below.heap_setCell W5 ⟨G, 0, none⟩ _ (G + 1 + 1) (by dsimp only; omega)).trans q5
    have cf := hf6.cell
    have ff := hf6.frozen
    have hs5 : G + 3 ≤ (W5.setCell ⟨G, 0, none⟩ (.slice (some ⟨g', 0, none⟩) (pre.length + 1) cap')).heap.size := Nat.le_trans hs hk2.size
    clear hown5 hg5 ho3 hxs3 hel3 hs3 ho hR5 hf5 q5 hv hf hcv hr2
    obtain ⟨W6, hW6⟩ : ∃ W6, W5.setCell ⟨G, 0, none⟩ (.slice (some ⟨g', 0, none⟩) (pre.length + 1) cap') = W6 := ⟨_, rfl⟩
    rw [hW6] at hR6 hf6 q6 cf ff hv2 hk2 hb2 hs5
    gi_wp2_with fail
    refine ⟨trivial, (CallsIn.inRound l (callsIn_wide.2 (fSize_any b Y.length d W6 hwl))).mono ?_⟩
    rintro e w' ⟨rfl, rfl⟩
    gi_wp2
    have hB6 := hB.trans hb2
    have hB7 : Below G w (W6.setCell ⟨G + 1, 0, none⟩ (.int .i64 ((P : Int) + (8 + (Y.length : Int))))) := hB6.setCell (p := ⟨G + 1, 0, none⟩) (Nat.le_succ G) _
    refine ⟨(hk2.trans (KeepsOthers.setCell _ _ _)).from _, ⟨(Below.heap_setCell W6 ⟨G + 1, 0, none⟩ _ (G + 1 + 1) (by dsimp only; omega)).trans q6, fun _ => hIH.out.keep (by rw [hGs.out]; exact hB7), fun _ => hGH.out.keep hB7 (by rw [hGs.out]; exact Nat.le_refl _)⟩, ⟨_, hv2.kept (grownBy_setCell' W6 (G + 1) _) (by intro e; injection e with e; omega), ?_⟩, ?_, hB7, Nat.le_trans hs5 (grownBy_setCell' W6 (G + 1) _).size⟩
    · rw [hmap.out]
      exact hR6.box hf6 (by decide) (by decide) _
    · rw [hend.out]
      exact hf6.set _
  case done =>
    rintro D ys W hD hS ⟨⟨v, hv, hrow⟩, hf, hB, hs⟩ hK
    have hDl : D < W.heap.size := (Array.getElem?_eq_some_iff.1 hK).1
    rw [bodies_done hS] at hrow
    rw [endF_done hFH.out hS] at hf
    obtain ⟨a', c', rfl, _⟩ := hrow.parts
    have f0 := Lib.hid (fun w' (h : Below W.heap.size W w') => (hv.kept (grown_of_below h none) (by simp)).cell)
    have f1 := Lib.hid (fun w' (h : Below W.heap.size W w') => (hf.kept (grown_of_below h none) (by simp)).cell)
    go_wp2_with fail
    refine region_seqS (fun w' => Below W.heap.size W w') (by kernel_rfl) (Below.refl _ _).drew ?_
    simp only [pairs, Nat.reduceAdd]
    have b0 : Below W.heap.size W W.drew := (Below.refl _ _).drew
    repeat (first
      | (refine SeqS.take (v := ?_) (by first | assumption | trivial) (by kernel_rfl) (by decide +kernel) (by decide +kernel) (Or.inl ⟨by rfl, ?_⟩) ?_
         rotate_left
         focus
           intro w' hb'
           go_simp
           with_reducible rfl
         simp only [Act.put, List.setIfInBounds_toArray, List.set_cons_zero, List.set_cons_succ])
      | (refine SeqS.take (v := ?_) (by first | assumption | trivial) (by kernel_rfl) (by decide +kernel) (by decide +kernel) (Or.inl ⟨by rfl, ?_⟩) ?_
         rotate_left
         focus
           intro w' hb'
           have d0 := f0.out w' hb'
           go_simp
           with_reducible rfl
         simp only [Act.put, List.setIfInBounds_toArray, List.set_cons_zero, List.set_cons_succ])
      | (refine SeqS.take (v := ?_) (by first | assumption | trivial) (by kernel_rfl) (by decide +kernel) (by decide +kernel) (Or.inl ⟨by rfl, ?_⟩) ?_
         rotate_left
         focus
           intro w' hb'
           have d0 := f1.out w' hb'
           go_simp
           with_reducible rfl
         simp only [Act.put, List.setIfInBounds_toArray, List.set_cons_zero, List.set_cons_succ])
      | (refine SeqS.take (v := undef) (by first | assumption | trivial) (by kernel_rfl) (by decide +kernel) (by decide +kernel) (Or.inr ⟨by rfl, rfl⟩) ?_
         simp only [Act.put, List.setIfInBounds_toArray, List.set_cons_zero, List.set_cons_succ])
      | (refine SeqS.take1 (v := ?_) (by first | assumption | trivial) (by kernel_rfl) (by decide +kernel) (by decide +kernel) (Or.inl ⟨by rfl, ?_⟩) ?_
         rotate_left
         focus
           intro w' hb'
           go_simp
           with_reducible rfl
         simp only [Act.put, List.setIfInBounds_toArray, List.set_cons_zero, List.set_cons_succ])
      | (refine SeqS.take1 (v := ?_) (by first | assumption | trivial) (by kernel_rfl) (by decide +kernel) (by decide +kernel) (Or.inl ⟨by rfl, ?_⟩) ?_
         rotate_left
         focus
           intro w' hb'
           have d0 := f0.out w' hb'
           go_simp
           with_reducible rfl
         simp only [Act.put, List.setIfInBounds_toArray, List.set_cons_zero, List.set_cons_succ])
      | (refine SeqS.take1 (v := ?_) (by first | assumption | trivial) (by kernel_rfl) (by decide +kernel) (by decide +kernel) (Or.inl ⟨by rfl, ?_⟩) ?_
         rotate_left
         focus
           intro w' hb'
           have d0 := f1.out w' hb'
           go_simp
           with_reducible rfl
         simp only [Act.put, List.setIfInBounds_toArray, List.set_cons_zero, List.set_cons_succ])
      | (refine SeqS.take1 (v := undef) (by first | assumption | trivial) (by kernel_rfl) (by decide +kernel) (by decide +kernel) (Or.inr ⟨by rfl, rfl⟩) ?_
         simp only [Act.put, List.setIfInBounds_toArray, List.set_cons_zero, List.set_cons_succ])
      | (refine SeqS.take2 (v := ?_) (by first | assumption | trivial) (by kernel_rfl) (by decide +kernel) (by decide +kernel) (Or.inl ⟨by rfl, ?_⟩) ?_
         rotate_left
         focus
           intro w' hb'
           go_simp
           with_reducible rfl
         simp only [Act.put, List.setIfInBounds_toArray, List.set_cons_zero, List.set_cons_succ])
      | (refine SeqS.take2 (v := ?_) (by first | assumption | trivial) (by kernel_rfl) (by decide +kernel) (by decide +kernel) (Or.inl ⟨by rfl, ?_⟩) ?_
         rotate_left
         focus
           intro w' hb'
           have d0 := f0.out w' hb'
           go_simp
           with_reducible rfl
         simp only [Act.put, List.setIfInBounds_toArray, List.set_cons_zero, List.set_cons_succ])
      | (refine SeqS.take2 (v := ?_) (by first | assumption | trivial) (by kernel_rfl) (by decide +kernel) (by decide +kernel) (Or.inl ⟨by rfl, ?_⟩) ?_
         rotate_left
         focus
           intro w' hb'
           have d0 := f1.out w' hb'
           go_simp
           with_reducible rfl
         simp only [Act.put, List.setIfInBounds_toArray, List.set_cons_zero, List.set_cons_succ])
      | (refine SeqS.take2 (v := undef) (by first | assumption | trivial) (by kernel_rfl) (by decide +kernel) (by decide +kernel) (Or.inr ⟨by rfl, rfl⟩) ?_
         simp only [Act.put, List.setIfInBounds_toArray, List.set_cons_zero, List.set_cons_succ])
      | (refine SeqS.take3 (v := ?_) (by first | assumption | trivial) (by kernel_rfl) (by decide +kernel) (by decide +kernel) (Or.inl ⟨by rfl, ?_⟩) ?_
         rotate_left
         focus
           intro w' hb'
           go_simp
           with_reducible rfl
         simp only [Act.put, List.setIfInBounds_toArray, List.set_cons_zero, List.set_cons_succ])
      | (refine SeqS.take3 (v := ?_) (by first | assumption | trivial) (by kernel_rfl) (by decide +kernel) (by decide +kernel) (Or.inl ⟨by rfl, ?_⟩) ?_
         rotate_left
         focus
           intro w' hb'
           have d0 := f0.out w' hb'
           go_simp
           with_reducible rfl
         simp only [Act.put, List.setIfInBounds_toArray, List.set_cons_zero, List.set_cons_succ])
      | (refine SeqS.take3 (v := ?_) (by first | assumption | trivial) (by kernel_rfl) (by decide +kernel) (by decide +kernel) (Or.inl ⟨by rfl, ?_⟩) ?_
         rotate_left
         focus
           intro w' hb'
           have d0 := f1.out w' hb'
           go_simp
           with_reducible rfl
         simp only [Act.put, List.setIfInBounds_toArray, List.set_cons_zero, List.set_cons_succ])
      | (refine SeqS.take3 (v := undef) (by first | assumption | trivial) (by kernel_rfl) (by decide +kernel) (by decide +kernel) (Or.inr ⟨by rfl, rfl⟩) ?_
         simp only [Act.put, List.setIfInBounds_toArray, List.set_cons_zero, List.set_cons_succ]))
    refine SeqS.done (by decide +kernel) ?_
    have hK2 : W.drew.heap[D]? = some (.deferred (some [])) := hK
    have hrow2 : RowsO (W.drew.putObj D (.deferred none)) G 0 _ _ := (rows_own19 (β := Unit) (G + 3) _ (fun _ => bodiesF xs K) () _ _ _ (hrow.keep b0) (grownBy_putObj' W.drew D (.deferred none)) (fun r e => by cases e; exact ⟨_, hK2, rfl⟩)).low (show G ≤ G + 3 by omega)
    have hB2 : Below G w (W.drew.putObj D (.deferred none)) := hB.drew.trans (belowK_b (w := W1) (by omega) W.drew D _ _ hD hK2 rfl rfl)
    clear f0 f1 hrow hv hf hK
    go_wp2
    refine ⟨by simp, .inl ⟨_, _, rfl, run_takeDeferred hK2, ?_⟩⟩
    refine ⟨_, results_tmp2 rfl _ _ _, ?_⟩
    rw [hGs.out]
    exact ⟨_, rfl, hrow2, hB2⟩
  case stop =>
    rintro D c pre W _ _ h _
    exact h.elim
end Go.Proofs.YtinmmhbiomcdoaaGreatDoor
