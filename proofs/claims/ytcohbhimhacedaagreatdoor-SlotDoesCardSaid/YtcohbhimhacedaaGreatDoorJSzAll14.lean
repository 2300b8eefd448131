/-
  Texts of stages that were proved on their own, joined: DfPut, DfCalls, DfSync, DfCrash. Each begins with its own words.
-/
import Derived.Test.YtcohbhimhacedaaGreatDoorSeqK
import Derived.Test.YtcohbhimhacedaaGreatDoorJSzAll13
import Derived.Test.YtcohbhimhacedaaGreatDoorJSzAll4

/-
  The document's own Do, Append and Cut (layer 18), whatever comes of them. New memory alone is written. Conditions: a disk with at most 3518437208882 steps a file; at most 2^47 bytes.
-/
namespace Go.Proofs.YtcohbhimhacedaaGreatDoor
open Go.RowKit

theorem fok_set {D : DkV} {T : Nat} (hO : D.Ok T) (hT : T ≤ 4398046511104) (i : Nat) {v : FlV} (hv : FOk v) : FOk (D.set i v).f0 ∧ FOk (D.set i v).f1 ∧ FOk (D.set i v).f2 := by
  have h0 := hO.o0.fok hT
  have h1 := hO.o1.fok hT
  have h2 := hO.o2.fok hT
  unfold DkV.set
  split
  · exact ⟨hv, h1, h2⟩
  · split
    · exact ⟨h0, hv, h2⟩
    · exact ⟨h0, h1, hv⟩
theorem fok_step {v : FlV} {T : Nat} (hO : v.Ok T) (hT : T ≤ 4398046511104) (s : StV) (hs : s.ok v.held) (hn : (s.all v.held).length ≤ 140737488420864) (hu : s.units ≤ 140737488355328) : FOk (v.step s) := by
  refine ⟨(okF_snoc v.S v.K s).2 ⟨hO.ok, hs⟩, Nat.le_trans (kept_le v.K v.S) hO.need, ?_, ?_, ?_⟩
  · rw [FlV.step_need]; have := hO.need; omega
  · rw [FlV.step_units]; have := hO.un; omega
  · have := hO.len; show (v.S ++ [s]).length ≤ _; rw [List.length_append]; simp only [List.length_singleton]; omega
def Answers (R : Nat → Prop) (w : World) (q : Ending) (w' : World) (r : DkV × Int) : Prop := ∃ cs, q = .returned (.tuple #[.agg cs.toArray, .int .i64 r.2]) ∧ RDisk (fun b => R b ∨ w.heap.size ≤ b) w' cs r.1 ∧ Below w.heap.size w w'
theorem fuse_set {D : DkV} {T : Nat} (hO : D.Ok T) (i : Nat) (v : FlV) : 0 ≤ (D.set i v).fuse ∧ (D.set i v).fuse < 9223372036854775808 := by
  rw [(DkV.set_head D i v).2.1]
  exact hO.fuse

theorem fDoPut {R : Nat → Prop} {w : World} {cs sc : List Value} {D : DkV} {T : Nat} {A : Option Addr} {C : Nat} {xs : List Int} (file : Int) (h2 : RDisk R w cs D) (hRl : ∀ b, R b → b < w.heap.size) (hO : D.Ok T) (hT : T ≤ 3518437208882) (hsc : stC (.put xs) A C = sc) (hst : RStep R w (stC (.put xs) A C) (.put xs)) (hx : xs.length ≤ 140737488355328) :
    Calls Tryz.prog 22 #[.agg cs.toArray, .int .i64 file, .agg sc.toArray] w fun q w' => Answers R w q w' (apD D file xs) := by
  have stay : ∀ (e : Int) (q : Ending) (w' : World), (q = .returned (.tuple #[.agg cs.toArray, .int .i64 e]) ∧ Below w.heap.size w w') → Answers R w q w' (D, e) := fun e q w' h => ⟨cs, h.1, (h2.keep h.2).wide (fun b hb => .inl hb), h.2⟩
  rcases file_cases file with hf | ⟨i, hi, rfl⟩
  · refine (fDo_no h2.ddc file hf).mono fun q w' h => ?_
    unfold apD
    rw [if_pos hf]
    exact stay 1 q w' h
  unfold apD
  rw [if_neg (noFile_nat hi), Int.toNat_natCast]
  by_cases hd : D.down = true
  · have hdd := h2.ddc
    rw [hd] at hdd
    refine (fDoPut_down hdd hi hsc).mono fun q w' h => ?_
    rw [if_pos hd]
    exact stay 18 q w' h
  have hd0 : D.down = false := by simpa using hd
  rw [if_neg hd]
  have hoi := hO.f i
  have hh := FlV.held_le (D.f i)
  have hnd := hoi.need
  obtain ⟨o0, o1, o2⟩ := fok_set hO (by omega) i (fok_step hoi (by omega) (.put xs) trivial (by rw [put_len]; omega) hx)
  have hlS : (D.f i).S.length ≤ 3518437208882 := by have := hoi.len; omega
  by_cases hroom : D.room < ((D.set i ((D.f i).step (.put xs))).used : Int)
  · rw [if_pos hroom]
    exact (fDoPut_full h2 hi hd0 hsc hst hlS o0 o1 o2 hroom).mono fun q w' h => stay 17 q w' h
  · rw [if_neg hroom]
    exact (fDoPut_ok h2 hi hd0 hsc hst hlS o0 o1 o2 (fuse_set hO i _) hRl hroom).mono fun q w' h => h
theorem fDoCut {R : Nat → Prop} {w : World} {cs sc : List Value} {D : DkV} {T : Nat} (file n : Int) (h2 : RDisk R w cs D) (hRl : ∀ b, R b → b < w.heap.size) (hO : D.Ok T) (hT : T ≤ 3518437208882) (hsc : [.bool true, .int .i64 n, .slice none 0 0] = sc) :
    Calls Tryz.prog 22 #[.agg cs.toArray, .int .i64 file, .agg sc.toArray] w fun q w' => Answers R w q w' (ctD D file n) := by
  have stay : ∀ (e : Int) (q : Ending) (w' : World), (q = .returned (.tuple #[.agg cs.toArray, .int .i64 e]) ∧ Below w.heap.size w w') → Answers R w q w' (D, e) := fun e q w' h => ⟨cs, h.1, (h2.keep h.2).wide (fun b hb => .inl hb), h.2⟩
  rcases file_cases file with hf | ⟨i, hi, rfl⟩
  · refine (fDo_no h2.ddc file hf).mono fun q w' h => ?_
    unfold ctD
    rw [if_pos (.inl hf)]
    exact stay 1 q w' h
  unfold ctD
  rw [Int.toNat_natCast]
  have hoi := hO.f i
  have hfo := hoi.fok (by omega)
  by_cases hneg : n < 0
  · refine (fDoCut_neg h2.ddc hi hsc hneg).mono fun q w' h => ?_
    rw [if_pos (.inr (.inl hneg))]
    exact stay 1 q w' h
  by_cases hlong : ((D.f i).held.length : Int) < n
  · refine (fDoCut_long h2 hi hfo hsc hneg hlong).mono fun q w' h => ?_
    rw [if_pos (.inr (.inr hlong))]
    exact stay 1 q w' h
  rw [if_neg (fun e => e.elim (noFile_nat hi) (fun e => e.elim hneg hlong))]
  by_cases hd : D.down = true
  · refine (fDoCut_down h2 hi hfo hd hsc hneg hlong).mono fun q w' h => ?_
    rw [if_pos hd]
    exact stay 18 q w' h
  have hd0 : D.down = false := by simpa using hd
  rw [if_neg hd]
  obtain ⟨k, rfl⟩ : ∃ k : Nat, n = (k : Int) := ⟨n.toNat, by omega⟩
  rw [Int.toNat_natCast]
  have hh := FlV.held_le (D.f i)
  have hnd := hoi.need
  have hcl := cut_len k (D.f i).held
  obtain ⟨o0, o1, o2⟩ := fok_set hO (by omega) i (fok_step hoi (by omega) (.cut k) (by show k ≤ _; omega) (by omega) (by simp [StV.units]))
  have hlS : (D.f i).S.length ≤ 3518437208882 := by have := hoi.len; omega
  have hroom : ¬ D.room < ((D.set i ((D.f i).step (.cut k))).used : Int) := by
    have h1 := DkV.set_used D i ((D.f i).step (.cut k))
    have h3 := FlV.step_need (D.f i) (.cut k)
    have h4 := hO.used
    omega
  exact (fDoCut_ok (A := none) (C := 0) h2 hi hd0 hsc ⟨none, 0, rfl, trivial⟩ hlS o0 o1 o2 (fuse_set hO i _) hRl hroom hfo hlong).mono fun q w' h => h
end Go.Proofs.YtcohbhimhacedaaGreatDoor

/-
  The document's own Append, Cut, Sync and Arm (layer 18). New memory alone is written. Conditions: a disk with at most 3518437208882 steps a file; at most 2^47 bytes.
-/
namespace Go.Proofs.YtcohbhimhacedaaGreatDoor
open Go.RowKit

theorem built_cut (n : Int) : Tryz.prog.built 75 [(0, .bool true), (1, .int .i64 n)] = some #[.bool true, .int .i64 n, .slice none 0 0] := by kernel_rfl


set_option maxRecDepth 100000 in
set_option maxHeartbeats 2000000 in
theorem fAppend_any {R : Nat → Prop} {w : World} {cs : List Value} {D : DkV} {T : Nat} {a : Option Addr} {n c : Nat} {bs : List Int} (file : Int) (h2 : RDisk R w cs D) (hRl : ∀ b, R b → b < w.heap.size) (hO : D.Ok T) (hT : T ≤ 3518437208882) (hI : Ints .u8 w a n c bs) (hn : n ≤ 140737488355328) :
    Calls Tryz.prog 8 #[.agg cs.toArray, .int .i64 file, .slice a n c] w fun q w' => Answers R w q w' (apD D file bs) := by
  obtain ⟨i0, hi, hz0, hz1, hz2⟩ := info_u8b
  have hdc := h2.ddc
  have hl := hdc.l
  have hrow : IsRow Tryz.prog 37 cs.length := by rw [hl]; exact rowDd
  obtain ⟨zs, hzs⟩ : ∃ zs, ddZ = zs := ⟨_, rfl⟩
  have hz := zeroDd
  have hzl := ddZ_len
  rw [hzs] at hz hzl
  have hb1 := Blk.new w 37 cs
  have hb2 : Blk ((w.alloc (.cells cs.toArray 37)).alloc (.cells zs.toArray 37)) (w.heap.size + 1) 37 zs := Blk.new1 w _ _ zs
  have hk2 := hb1.alloc (.cells zs.toArray 37)
  have hB2 := below2 w (.cells cs.toArray 37) (.cells zs.toArray 37)
  obtain ⟨W, hW⟩ : ∃ W, (w.alloc (.cells cs.toArray 37)).alloc (.cells zs.toArray 37) = W := ⟨_, rfl⟩
  rw [hW] at hb2 hk2 hB2
  obtain ⟨G, hG⟩ : ∃ G, w.heap.size = G := ⟨_, rfl⟩
  rw [hG] at hb2 hk2
  have hWH := Lib.hid hW
  have hGH := Lib.hid hG
  have hBH := Lib.hid hB2
  have hdcH := Lib.hid hdc
  clear hb1 hzs hW hG hB2 hdc
  obtain ⟨V, hV⟩ : ∃ V, W.drew = V := ⟨_, rfl⟩
  have kb1 : Blk V G 37 cs := by rw [← hV]; exact hk2
  have kb2 : Blk V (G + 1) 37 zs := by rw [← hV]; exact hb2
  have kB : Below w.heap.size w V := by rw [← hV]; exact hBH.out.drew
  have hVH := Lib.hid hV
  have bV : Below (G + 1) V V := Below.refl _ _
  have hIV := hI.keep kB
  have q3 : Below V.heap.size V (V.alloc (.cells #[] 5)) := below1 _ _
  have own0 : (V.alloc (.cells #[] 5)).ownsRow V.heap.size 5 1 (.slice (some ⟨V.heap.size, 0, none⟩) 0 0) 0 [] := World.ownsRow_made V #[] 0 (Nat.le_refl _) (Nat.zero_le _) rfl
  have h8c := Lib.hid (fun (w' : World) (q : Below (G + 1) V w') => kb1.keep q (Nat.lt_succ_self G))
  have hlt2 := kb2.lt
  have I3 := hIV.keep q3
  obtain ⟨V2, hV2⟩ : ∃ V2, V.alloc (.cells #[] 5) = V2 := ⟨_, rfl⟩
  rw [hV2] at q3 own0 I3
  obtain ⟨M, hM⟩ : ∃ M, V.heap.size = M := ⟨_, rfl⟩
  have hV2H := Lib.hid hV2
  have hMH := Lib.hid hM
  rw [hM] at own0 q3
  have hsM : M ≤ V2.heap.size := by rw [← hM]; exact q3.size
  clear hV hM hV2 hIV hb2 hk2
  have hbl := hI.len
  have hblH := Lib.hid hbl
  clear hbl
  go_enter Tryz.func8, Tryz.ntmps8
  go_wp2_with ((with_reducible refine box_row rfl 37 (.tmp 0) rfl cs rfl ?_); refine RowKit.Hid.out ?_)
  refine Lib.hid ?_
  refine wpList_alloc_blk rfl 37 rfl hz ?_
  rw [hWH.out, size1, hGH.out]
  go_wp2_with fail
  refine region_seqS (fun w' => Below (G + 1) V w') (by kernel_rfl) (by rw [hVH.out]; exact bV) ?_
  simp only [pairs, Nat.reduceAdd]
  rw [hVH.out]
  repeat ((first
    | (refine SeqS.y0 (v := .agg (cs).toArray) (yields_blk (by rfl) 37 (.tmp 3) rfl rfl (fun w' h => h8c.out w' h) (hrow)) ?_)
    | (refine SeqS.k0 (v := ?_) ?_ ?_; rotate_left; focus (intro w' hb'; go_simp; with_reducible rfl))
    | (refine SeqS.u0 ?_)
    | (refine SeqS.y1 (v := .agg (cs).toArray) (yields_blk (by rfl) 37 (.tmp 3) rfl rfl (fun w' h => h8c.out w' h) (hrow)) ?_)
    | (refine SeqS.k1 (v := ?_) ?_ ?_; rotate_left; focus (intro w' hb'; go_simp; with_reducible rfl))
    | (refine SeqS.u1 ?_)
    | (refine SeqS.y2 (v := .agg (cs).toArray) (yields_blk (by rfl) 37 (.tmp 3) rfl rfl (fun w' h => h8c.out w' h) (hrow)) ?_)
    | (refine SeqS.k2 (v := ?_) ?_ ?_; rotate_left; focus (intro w' hb'; go_simp; with_reducible rfl))
    | (refine SeqS.u2 ?_)); simp only [Act.put, List.setIfInBounds_toArray, List.set_cons_zero, List.set_cons_succ])
  refine SeqS.alone (by decide +kernel) (by rfl) (fun K5 hK5 => ?_)
  go_simp
  rw [hV2H.out, hMH.out]
  have S2 : Below (G + 1) V V2 := q3.mono (by have := hMH.out; omega)
  refine hK5 _ _ S2 ?_
  clear hK5 K5
  (try simp only [Act.put, List.setIfInBounds_toArray, List.set_cons_zero, List.set_cons_succ])
  refine SeqS.alone (by decide +kernel) (by rfl) (fun K5 hK5 => ?_)
  refine wp_append_ints (.tmp 10) (.tmp 11) 22 rfl M 5 i0 (.int .u8 0) 1 Tryz.underlying22 hi hz0 hz1 hz2 rfl rfl own0 rfl I3 ?_ ?_ hsM ?_
  · unfold maxLen; omega
  · omega
  intro v4 w4 own4 g4
  rw [Nat.zero_add, List.nil_append] at own4
  have hex : ∃ a4 c4, v4 = .slice a4 n c4 := own_slice own4
  obtain ⟨a4, c4, hv4⟩ := hex
  subst hv4
  have S4 : Below M V w4 := q3.grown g4 hsM (fun q hq => by injection hq with hq; rw [← hq]; exact Nat.le_refl _)
  have S4' : Below (G + 1) V w4 := S4.mono (by have := hMH.out; omega)
  refine hK5 _ _ S4' ?_
  clear hK5 K5
  (try simp only [Act.put, List.setIfInBounds_toArray, List.set_cons_zero, List.set_cons_succ])
  repeat ((first
    | (refine SeqS.k0 (v := ?_) ?_ ?_; rotate_left; focus (intro w' hb'; go_simp; with_reducible rfl))
    | (refine SeqS.u0 ?_)
    | (refine SeqS.k1 (v := ?_) ?_ ?_; rotate_left; focus (intro w' hb'; go_simp; with_reducible rfl))
    | (refine SeqS.u1 ?_)
    | (refine SeqS.k2 (v := ?_) ?_ ?_; rotate_left; focus (intro w' hb'; go_simp; with_reducible rfl))
    | (refine SeqS.u2 ?_)); simp only [Act.put, List.setIfInBounds_toArray, List.set_cons_zero, List.set_cons_succ])
  have hB4 : Below w.heap.size w w4 := kB.trans (S4.mono (by have := hMH.out; have := kB.size; omega))
  have I4 := own_ints' own4
  have x1 := kb1.keep S4 (by have := hMH.out; omega)
  have x2 := kb2.keep S4 (by have := hMH.out; omega)
  have hD4 := h2.keep hB4
  have hwM : w.heap.size ≤ M := by have := hMH.out; have := kB.size; omega
  have hA4 : ∀ x, a4 = some x → M ≤ x.block ∧ x.block < w4.heap.size := fun x hx => own4.lt x.block (by rw [hx]; rfl)
  have hDo := fDoPut (R := fun b => (R b ∨ M ≤ b) ∧ b < w4.heap.size) (w := w4) (A := a4) (C := c4) (xs := bs) (sc := stC (.put bs) a4 c4) file (h2.same (fun b _ hl => hB4.block b hl) (fun b hb => ⟨.inl hb, by have := hRl b hb; have := hB4.size; omega⟩)) (fun b hb => hb.2) hO hT rfl ⟨a4, c4, rfl, by rw [hblH.out]; exact I4, fun x hx _ => ⟨.inr (hA4 x hx).1, (hA4 x hx).2⟩⟩ (by rw [hblH.out]; exact hn)
  have hstc : (stC (.put bs) a4 c4).toArray = #[.bool false, .int .i64 0, .slice a4 n c4] := by rw [← hblH.out]; rfl
  rw [hstc] at hDo
  refine SeqS.alone (by decide +kernel) (by rfl) (fun K5 hK5 => ?_)
  go_simp
  go_at_call 22
  refine hDo.mono ?_
  rintro q w6 ⟨cs6, rfl, hD6, hB6⟩
  go_simp
  have S6 : Below (G + 1) V w6 := S4'.trans (hB6.mono (by have := S4'.size; have := hMH.out; omega))
  refine hK5 _ _ S6 ?_
  clear hK5 K5
  (try simp only [Act.put, List.setIfInBounds_toArray, List.set_cons_zero, List.set_cons_succ])
  have x2 := x2.keep hB6 x2.lt
  have yB := hB4.trans (hB6.mono hB4.size)
  have hl6 := hD6.ddc.l
  have ho6 := hD6.ddc.o
  have row6 : IsRow Tryz.prog 37 cs6.length := by rw [hl6]; exact rowDd
  repeat ((first
    | (refine SeqS.k0 (v := ?_) ?_ ?_; rotate_left; focus (intro w' hb'; go_simp; with_reducible rfl))
    | (refine SeqS.u0 ?_)
    | (refine SeqS.k1 (v := ?_) ?_ ?_; rotate_left; focus (intro w' hb'; go_simp; with_reducible rfl))
    | (refine SeqS.u1 ?_)
    | (refine SeqS.k2 (v := ?_) ?_ ?_; rotate_left; focus (intro w' hb'; go_simp; with_reducible rfl))
    | (refine SeqS.u2 ?_)); simp only [Act.put, List.setIfInBounds_toArray, List.set_cons_zero, List.set_cons_succ])
  refine SeqS.alone (by decide +kernel) (by rfl) (fun K5 hK5 => ?_)
  refine wp_store_part 37 (.tmp 6) (.tmp 15) rfl rfl rfl x2 row6 (by rw [hl6, hzl]; decide) ho6 (fun w7 hb7 hg7 => ?_)
  rw [overV_all _ _ (by rw [hl6, hzl])] at hb7
  have S7 : Below (G + 1) V w7 := S6.grown hg7 (by have := S6.size; omega) (fun q hq => by injection hq with hq; omega)
  have yB7 := yB.grown hg7 yB.size (fun q hq => by injection hq with hq; rw [← hq, ← hGH.out]; omega)
  have hD7 := hD6.same (R' := fun b => R b ∨ w.heap.size ≤ b) (w' := w7) (fun b hb hl => hg7.block b hl (fun e => by
    injection e with e
    have hh := hMH.out
    have hg := hGH.out
    rcases hb with ⟨hb | hb, _⟩ | hb
    · have := hRl b hb; omega
    · omega
    · have := hB4.size; have := S4.size; omega)) (fun b hb => by
    rcases hb with ⟨hb | hb, _⟩ | hb
    · exact .inl hb
    · exact .inr (by omega)
    · exact .inr (by have := hB4.size; omega))
  refine hK5 _ _ S7 ?_
  clear hK5 K5 hD6 x2 hg7 yB
  repeat ((first
    | (refine SeqS.k0 (v := ?_) ?_ ?_; rotate_left; focus (intro w' hb'; go_simp; with_reducible rfl))
    | (refine SeqS.u0 ?_)
    | (refine SeqS.k1 (v := ?_) ?_ ?_; rotate_left; focus (intro w' hb'; go_simp; with_reducible rfl))
    | (refine SeqS.u1 ?_)
    | (refine SeqS.k2 (v := ?_) ?_ ?_; rotate_left; focus (intro w' hb'; go_simp; with_reducible rfl))
    | (refine SeqS.u2 ?_)); simp only [Act.put, List.setIfInBounds_toArray, List.set_cons_zero, List.set_cons_succ])
  refine SeqS.done (by decide +kernel) ?_
  go_wp2
  refine bodyPost_ret (results_bt18 rfl rfl hb7 row6) rfl ?_
  exact ⟨cs6, rfl, hD7, yB7⟩

set_option maxRecDepth 100000 in
set_option maxHeartbeats 2000000 in
theorem fCut_any {R : Nat → Prop} {w : World} {cs : List Value} {D : DkV} {T : Nat} (file n : Int) (h2 : RDisk R w cs D) (hRl : ∀ b, R b → b < w.heap.size) (hO : D.Ok T) (hT : T ≤ 3518437208882) :
    Calls Tryz.prog 60 #[.agg cs.toArray, .int .i64 file, .int .i64 n] w fun q w' => Answers R w q w' (ctD D file n) := by
  have hdc := h2.ddc
  have hl := hdc.l
  have hrow : IsRow Tryz.prog 37 cs.length := by rw [hl]; exact rowDd
  obtain ⟨zs, hzs⟩ : ∃ zs, ddZ = zs := ⟨_, rfl⟩
  have hz := zeroDd
  have hzl := ddZ_len
  rw [hzs] at hz hzl
  have hb1 := Blk.new w 37 cs
  have hb2 : Blk ((w.alloc (.cells cs.toArray 37)).alloc (.cells zs.toArray 37)) (w.heap.size + 1) 37 zs := Blk.new1 w _ _ zs
  have hk2 := hb1.alloc (.cells zs.toArray 37)
  have hB2 := below2 w (.cells cs.toArray 37) (.cells zs.toArray 37)
  obtain ⟨W, hW⟩ : ∃ W, (w.alloc (.cells cs.toArray 37)).alloc (.cells zs.toArray 37) = W := ⟨_, rfl⟩
  rw [hW] at hb2 hk2 hB2
  obtain ⟨G, hG⟩ : ∃ G, w.heap.size = G := ⟨_, rfl⟩
  rw [hG] at hb2 hk2
  have hWH := Lib.hid hW
  have hGH := Lib.hid hG
  have hBH := Lib.hid hB2
  have hdcH := Lib.hid hdc
  clear hb1 hzs hW hG hB2 hdc
  have hDo := fDoCut (w := W) (sc := [.bool true, .int .i64 n, .slice none 0 0]) file n (h2.keep hBH.out) (fun b hb => by have := hRl b hb; have := hBH.out.size; omega) hO hT rfl
  have hstc : ([.bool true, .int .i64 n, .slice none 0 0] : List Value).toArray = #[.bool true, .int .i64 n, .slice none 0 0] := rfl
  have hbt := built_cut n
  go_enter Tryz.func60, Tryz.ntmps60
  go_wp2_with ((with_reducible refine box_row rfl 37 (.tmp 0) rfl cs rfl ?_); refine RowKit.Hid.out ?_)
  refine Lib.hid ?_
  refine wpList_alloc_blk rfl 37 rfl hz ?_
  rw [hWH.out, size1, hGH.out]
  go_wp2_with ((with_reducible refine wpList_load_blk rfl 37 (.tmp 3) rfl ?_ hk2 rowDd hl ?_); rfl)
  refine hDo.mono ?_
  rintro q w6 ⟨cs6, rfl, hD6, hB6⟩
  have x2 := hb2.keep hB6 hb2.lt
  have yB := hBH.out.trans (hB6.mono hBH.out.size)
  have hl6 := hD6.ddc.l
  have ho6 := hD6.ddc.o
  have row6 : IsRow Tryz.prog 37 cs6.length := by rw [hl6]; exact rowDd
  have hlt := hb2.lt
  clear hk2 hb2 hDo
  go_wp2_with ((with_reducible refine store_row rfl 37 (.tmp 6) _ rfl ?_ ?_ x2 rowDd hl6 hzl ho6 ?_); rfl; rfl; intro w7 hb7 hg7)
  have yB7 := yB.grown hg7 yB.size (fun q hq => by injection hq with hq; rw [← hq, ← hGH.out]; omega)
  have hD7 := hD6.same (R' := fun b => R b ∨ w.heap.size ≤ b) (w' := w7) (fun b hb hl => hg7.block b hl (fun e => by
    injection e with e
    have hg := hGH.out
    rcases hb with hb | hb
    · have := hRl b hb; omega
    · omega)) (fun b hb => by
    rcases hb with hb | hb
    · exact .inl hb
    · exact .inr (by have := hBH.out.size; omega))
  clear hD6 x2 hg7 yB
  go_wp2
  refine bodyPost_ret (results_bt18 rfl rfl hb7 row6) rfl ?_
  exact ⟨cs6, rfl, hD7, yB7⟩
end Go.Proofs.YtcohbhimhacedaaGreatDoor

/-
  The document's own Sync (layer 18). New memory alone is written. Conditions: a disk with at most 3518437208882 steps a file.
-/
namespace Go.Proofs.YtcohbhimhacedaaGreatDoor
open Go.RowKit

theorem built_kept (a : Option Addr) (n c : Nat) : Tryz.prog.built 34 [(0, .slice a n c)] = some (rfC a n c none 0 0).toArray := by kernel_rfl

set_option maxRecDepth 100000 in
set_option maxHeartbeats 2000000 in
theorem fSync_any {R : Nat → Prop} {w : World} {cs : List Value} {D : DkV} {T : Nat} (file : Int) (h2 : RDisk R w cs D) (hRl : ∀ b, R b → b < w.heap.size) (hO : D.Ok T) (hT : T ≤ 4398046511104) :
    Calls Tryz.prog 39 #[.agg cs.toArray, .int .i64 file] w fun q w' => Answers R w q w' (syD D file) := by
  have hdc := h2.ddc
  have hl := hdc.l
  have hrow : IsRow Tryz.prog 37 cs.length := by rw [hl]; exact rowDd
  obtain ⟨zs, hzs⟩ : ∃ zs, ddZ = zs := ⟨_, rfl⟩
  have hz := zeroDd
  have hzl := ddZ_len
  rw [hzs] at hz hzl
  have hb1 := Blk.new w 37 cs
  have hb2 : Blk ((w.alloc (.cells cs.toArray 37)).alloc (.cells zs.toArray 37)) (w.heap.size + 1) 37 zs := Blk.new1 w _ _ zs
  have hk2 := hb1.alloc (.cells zs.toArray 37)
  have hB2 := below2 w (.cells cs.toArray 37) (.cells zs.toArray 37)
  obtain ⟨W, hW⟩ : ∃ W, (w.alloc (.cells cs.toArray 37)).alloc (.cells zs.toArray 37) = W := ⟨_, rfl⟩
  rw [hW] at hb2 hk2 hB2
  obtain ⟨G, hG⟩ : ∃ G, w.heap.size = G := ⟨_, rfl⟩
  rw [hG] at hb2 hk2
  have hWH := Lib.hid hW
  have hGH := Lib.hid hG
  have hBH := Lib.hid hB2
  have hdcH := Lib.hid hdc
  clear hb1 hzs hW hG hB2 hdc
  have e8 := hk2.cell 8
  rw [hdcH.out.d] at e8
  rcases file_cases file with hf | ⟨i, hi, rfl⟩
  · unfold syD
    rw [if_pos hf]
    by_cases h0 : file < 0
    · clear hf
      go_enter Tryz.func39, Tryz.ntmps39
      go_wp2_with ((with_reducible refine box_row rfl 37 (.tmp 0) rfl cs rfl ?_); refine RowKit.Hid.out ?_)
      refine Lib.hid ?_
      refine wpList_alloc_blk rfl 37 rfl hz ?_
      rw [hWH.out, size1, hGH.out]
      go_wp2_with ((with_reducible refine wpList_load_blk rfl 37 (.tmp 2) rfl ?_ hk2 rowDd hl ?_); rfl; refine RowKit.Hid.out ?_)
      refine Lib.hid ?_
      refine store_row rfl 37 (.tmp 4) _ rfl rfl rfl hb2 rowDd hl hzl hdcH.out.o ?_
      intro w5 hb5 hg5
      have hB5 := hBH.out.grown hg5 hBH.out.size (fun q hq => by injection hq with hq; rw [← hq, ← hGH.out]; omega)
      have hD5 := h2.keep hB5
      clear hk2 hb2 hg5
      go_wp2
      refine bodyPost_ret (results_bt18 rfl rfl hb5 hrow) rfl ?_
      exact ⟨cs, rfl, hD5.wide (fun b hb => .inl hb), hB5⟩
    · have h3 : 2 < file := by rcases hf with h | h <;> omega
      clear hf
      go_enter Tryz.func39, Tryz.ntmps39
      go_wp2_with ((with_reducible refine box_row rfl 37 (.tmp 0) rfl cs rfl ?_); refine RowKit.Hid.out ?_)
      refine Lib.hid ?_
      refine wpList_alloc_blk rfl 37 rfl hz ?_
      rw [hWH.out, size1, hGH.out]
      go_wp2_with ((with_reducible refine wpList_load_blk rfl 37 (.tmp 2) rfl ?_ hk2 rowDd hl ?_); rfl; refine RowKit.Hid.out ?_)
      refine Lib.hid ?_
      refine store_row rfl 37 (.tmp 4) _ rfl rfl rfl hb2 rowDd hl hzl hdcH.out.o ?_
      intro w5 hb5 hg5
      have hB5 := hBH.out.grown hg5 hBH.out.size (fun q hq => by injection hq with hq; rw [← hq, ← hGH.out]; omega)
      have hD5 := h2.keep hB5
      clear hk2 hb2 hg5
      go_wp2
      refine bodyPost_ret (results_bt18 rfl rfl hb5 hrow) rfl ?_
      exact ⟨cs, rfl, hD5.wide (fun b hb => .inl hb), hB5⟩
  have hi0 : ¬ (i : Int) < 0 := by omega
  have hi2 : ¬ 2 < (i : Int) := by omega
  unfold syD
  rw [if_neg (noFile_nat hi), Int.toNat_natCast]
  by_cases hd : D.down = true
  · rw [if_pos hd]
    rw [hd] at e8
    go_enter Tryz.func39, Tryz.ntmps39
    go_wp2_with ((with_reducible refine box_row rfl 37 (.tmp 0) rfl cs rfl ?_); refine RowKit.Hid.out ?_)
    refine Lib.hid ?_
    refine wpList_alloc_blk rfl 37 rfl hz ?_
    rw [hWH.out, size1, hGH.out]
    go_wp2_with ((with_reducible refine wpList_load_blk rfl 37 (.tmp 2) rfl ?_ hk2 rowDd hl ?_); rfl; refine RowKit.Hid.out ?_)
    refine Lib.hid ?_
    refine store_row rfl 37 (.tmp 4) _ rfl rfl rfl hb2 rowDd hl hzl hdcH.out.o ?_
    intro w5 hb5 hg5
    have hB5 := hBH.out.grown hg5 hBH.out.size (fun q hq => by injection hq with hq; rw [← hq, ← hGH.out]; omega)
    have hD5 := h2.keep hB5
    clear hk2 hb2 hg5
    go_wp2
    refine bodyPost_ret (results_bt18 rfl rfl hb5 hrow) rfl ?_
    exact ⟨cs, rfl, hD5.wide (fun b hb => .inl hb), hB5⟩
  have hd0 : D.down = false := by simpa using hd
  rw [if_neg hd]
  rw [hd0] at e8
  have hBu := fBurn_any (w := W) hdcH.out hO.fuse.2
  have hDb := (h2.keep hBH.out).burn hO.fuse.1
  obtain ⟨cs1, hcs1⟩ : ∃ c, burnC cs D.fuse = c := ⟨_, rfl⟩
  rw [hcs1] at hBu hDb
  have hl1 := hDb.ddc.l
  have ho1 := hDb.ddc.o
  have h81 := hDb.ddc.d
  have row1 : IsRow Tryz.prog 37 cs1.length := by rw [hl1]; exact rowDd
  have hfi : D.burn.f i = D.f i := by unfold DkV.burn; split <;> rfl
  have hfo := (hO.f i).fok (by omega)
  by_cases hb : D.burn.down = true
  · rw [if_pos hb]
    rw [hb] at h81
    have hE : (if D.burn.down = true then (18 : Int) else 0) = 18 := if_pos hb
    have hEH := Lib.hid hE
    clear hcs1 hE hfi
    go_enter Tryz.func39, Tryz.ntmps39
    go_wp2_with ((with_reducible refine box_row rfl 37 (.tmp 0) rfl cs rfl ?_); refine RowKit.Hid.out ?_)
    refine Lib.hid ?_
    refine wpList_alloc_blk rfl 37 rfl hz ?_
    rw [hWH.out, size1, hGH.out]
    go_wp2_with ((with_reducible refine wpList_load_blk rfl 37 (.tmp 2) rfl ?_ hk2 rowDd hl ?_); rfl)
    refine hBu.mono ?_
    rintro q w13 ⟨rfl, b13⟩
    have x1 := hk2.keep b13 hk2.lt
    have x3 := hb2.keep b13 hb2.lt
    have xB := hBH.out.trans (b13.mono hBH.out.size)
    have xD := hDb.keep b13
    refine RowKit.Hid.out ?_
    refine Lib.hid ?_
    clear b13 hBu hk2 hb2 hDb
    go_wp2_with ((with_reducible refine store_row rfl 37 (.tmp 2) _ rfl ?_ ?_ x1 rowDd hl1 hl ho1 ?_); rfl; rfl; intro w14 b8 g8; refine RowKit.Hid.out ?_)
    refine Lib.hid ?_
    have x3 := x3.grown g8 (fun e => by injection e; omega)
    have xB := xB.grown g8 xB.size (fun q hq => by injection hq with hq; rw [← hq, ← hGH.out]; exact Nat.le_refl _)
    have xD := xD.same (R' := R) (w' := w14) (fun b hb hl => g8.block b hl (fun e => by injection e with e; have := hRl b hb; have := hGH.out; omega)) (fun b hb => hb)
    have e81 := b8.cell 8
    rw [h81] at e81
    clear x1 g8
    obtain ⟨wz, hwz⟩ : ∃ wz, w14 = wz := ⟨_, rfl⟩
    rw [hwz] at b8 x3 xB xD e81 ⊢
    clear hwz
    obtain ⟨cs2, hcs2⟩ : ∃ c, cs1 = c := ⟨_, rfl⟩
    rw [hcs2] at b8 xD hl1 ho1 row1
    have hl2 := hl1
    have ho2 := ho1
    have row2 := row1
    have yB := xB
    have xDb := xD
    have hR2 : ∀ b, R b → b ≠ G + 1 := fun b hb => by have := hRl b hb; have := hGH.out; omega
    have hR2w : ∀ b, R b → R b ∨ w.heap.size ≤ b := fun b hb => .inl hb
    clear hcs2 xD xB
    go_wp2_with fail
    obtain ⟨V10, hV10⟩ : ∃ V, wz.drew = V := ⟨_, rfl⟩
    have b8 : Blk V10 G 37 cs2 := by rw [← hV10]; exact b8
    have x3 : Blk V10 (G + 1) 37 zs := by rw [← hV10]; exact x3
    have yB : Below w.heap.size w V10 := by rw [← hV10]; exact yB.drew
    have xDb : RDisk (R) V10 cs2 (D.burn) := by rw [← hV10]; exact xDb.keep (Below.drew (Below.refl _ _))
    have hAn := fAnswer_any (w := V10) xDb.ddc
    rw [hEH.out] at hAn
    refine region_seqS (fun w' => Blk w' G 37 cs2) (by kernel_rfl) (by rw [hV10]; exact b8) ?_
    simp only [pairs, Nat.reduceAdd]
    rw [hV10]
    clear hV10
    repeat ((first
      | (refine SeqS.y0 (v := .agg (cs2).toArray) (yields_blk (by rfl) 37 (.tmp 2) rfl rfl (fun w' h => h) (row2)) ?_)
      | (refine SeqS.k0 (v := ?_) ?_ ?_; rotate_left; focus (intro w' hb'; go_simp; with_reducible rfl))
      | (refine SeqS.u0 ?_)
      | (refine SeqS.y1 (v := .agg (cs2).toArray) (yields_blk (by rfl) 37 (.tmp 2) rfl rfl (fun w' h => h) (row2)) ?_)
      | (refine SeqS.k1 (v := ?_) ?_ ?_; rotate_left; focus (intro w' hb'; go_simp; with_reducible rfl))
      | (refine SeqS.u1 ?_)
      | (refine SeqS.y2 (v := .agg (cs2).toArray) (yields_blk (by rfl) 37 (.tmp 2) rfl rfl (fun w' h => h) (row2)) ?_)
      | (refine SeqS.k2 (v := ?_) ?_ ?_; rotate_left; focus (intro w' hb'; go_simp; with_reducible rfl))
      | (refine SeqS.u2 ?_)); simp only [Act.put, List.setIfInBounds_toArray, List.set_cons_zero, List.set_cons_succ])
    refine SeqS.alone (by decide +kernel) (by rfl) (fun K5 hK5 => ?_)
    go_simp
    go_at_call 49
    refine hAn.mono ?_
    rintro q w16 ⟨rfl, b16⟩
    go_simp
    have S16 := b8.keep b16 b8.lt
    have x3 := x3.keep b16 x3.lt
    have yB := yB.trans (b16.mono yB.size)
    have xDb := xDb.keep b16
    refine hK5 _ _ S16 ?_
    clear hK5 K5 b8 b16 hAn
    (try simp only [Act.put, List.setIfInBounds_toArray, List.set_cons_zero, List.set_cons_succ])
    refine SeqS.alone (by decide +kernel) (by rfl) (fun K5 hK5 => ?_)
    refine wp_store_part 37 (.tmp 4) (.tmp 30) rfl rfl rfl x3 row2 (by rw [hl2, hzl]; decide) ho2 (fun w17 hb17 hg17 => ?_)
    rw [overV_all _ _ (by rw [hl2, hzl])] at hb17
    have S17 := S16.grown hg17 (fun e => by injection e; omega)
    have yB := yB.grown hg17 yB.size (fun q hq => by injection hq with hq; rw [← hq, ← hGH.out]; omega)
    have xDb := xDb.same (R' := fun b => R b ∨ w.heap.size ≤ b) (w' := w17) (fun b hb hl => hg17.block b hl (fun e => by injection e with e; exact hR2 b hb e)) hR2w
    refine hK5 _ _ S17 ?_
    clear hK5 K5 S16 x3 hg17
    repeat ((first
      | (refine SeqS.k0 (v := ?_) ?_ ?_; rotate_left; focus (intro w' hb'; go_simp; with_reducible rfl))
      | (refine SeqS.u0 ?_)
      | (refine SeqS.k1 (v := ?_) ?_ ?_; rotate_left; focus (intro w' hb'; go_simp; with_reducible rfl))
      | (refine SeqS.u1 ?_)
      | (refine SeqS.k2 (v := ?_) ?_ ?_; rotate_left; focus (intro w' hb'; go_simp; with_reducible rfl))
      | (refine SeqS.u2 ?_)); simp only [Act.put, List.setIfInBounds_toArray, List.set_cons_zero, List.set_cons_succ])
    refine SeqS.done (by decide +kernel) ?_
    go_wp2
    refine bodyPost_ret (results_bt18 rfl rfl hb17 row2) rfl ?_
    exact ⟨cs2, rfl, xDb, yB⟩

  · rw [if_neg hb]
    have hb0 : D.burn.down = false := by simpa using hb
    rw [hb0] at h81
    have hdn : (D.burn.set i ⟨(D.f i).held, []⟩).down = false := by rw [(DkV.set_head D.burn i _).2.2]; exact hb0
    have hE : (if (D.burn.set i ⟨(D.f i).held, []⟩).down = true then (18 : Int) else 0) = 0 := by rw [hdn]; rfl
    have hEH := Lib.hid hE
    have hfiH := Lib.hid hfi
    clear hcs1 hE hfi hdn
    go_enter Tryz.func39, Tryz.ntmps39
    go_wp2_with ((with_reducible refine box_row rfl 37 (.tmp 0) rfl cs rfl ?_); refine RowKit.Hid.out ?_)
    refine Lib.hid ?_
    refine wpList_alloc_blk rfl 37 rfl hz ?_
    rw [hWH.out, size1, hGH.out]
    go_wp2_with ((with_reducible refine wpList_load_blk rfl 37 (.tmp 2) rfl ?_ hk2 rowDd hl ?_); rfl)
    refine hBu.mono ?_
    rintro q w13 ⟨rfl, b13⟩
    have x1 := hk2.keep b13 hk2.lt
    have x3 := hb2.keep b13 hb2.lt
    have xB := hBH.out.trans (b13.mono hBH.out.size)
    have xD := hDb.keep b13
    refine RowKit.Hid.out ?_
    refine Lib.hid ?_
    clear b13 hBu hk2 hb2 hDb
    go_wp2_with ((with_reducible refine store_row rfl 37 (.tmp 2) _ rfl ?_ ?_ x1 rowDd hl1 hl ho1 ?_); rfl; rfl; intro w14 b8 g8; refine RowKit.Hid.out ?_)
    refine Lib.hid ?_
    have x3 := x3.grown g8 (fun e => by injection e; omega)
    have xB := xB.grown g8 xB.size (fun q hq => by injection hq with hq; rw [← hq, ← hGH.out]; exact Nat.le_refl _)
    have xD := xD.same (R' := R) (w' := w14) (fun b hb hl => g8.block b hl (fun e => by injection e with e; have := hRl b hb; have := hGH.out; omega)) (fun b hb => hb)
    have e81 := b8.cell 8
    rw [h81] at e81
    clear x1 g8
    obtain ⟨hco1, hco2⟩ := xD.co i hi
    obtain ⟨c2, hc2⟩ : ∃ c2, fileC cs1 i = c2 := ⟨_, rfl⟩
    rw [hc2] at hco1 hco2
    have hcl := hco2.len
    have hrow2 : IsRow Tryz.prog 34 c2.length := by rw [hcl]; exact rowRf
    have hra : w14.rangeAt G (i * 2) c2 := b8.range _ _ hco1
    have hHo := fHolds_any hco2 (by rw [hfiH.out]; exact hfo)
    rw [hfiH.out] at hHo
    have hi3 : (i : Int) < 3 := by omega
    clear hc2 hcl hco1 hco2
    go_wp2_with ((with_reducible refine wpList_load_part (off := i * 2) rfl 34 _ rfl rfl c2 hra hrow2 ?_))
    refine hHo.mono ?_
    rintro q w15 ⟨b9, c9, rfl, o9, b15⟩
    have hz14 : G + 1 < w14.heap.size := x3.lt
    have y1 := b8.keep b15 b8.lt
    have x3 := x3.keep b15 x3.lt
    have yB := xB.trans (b15.mono xB.size)
    have xD := xD.keep b15
    have hbt := built_kept b9 (D.f i).held.length c9
    have I9 := own_ints' o9
    have hA9 : ∀ x, b9 = some x → w14.heap.size ≤ x.block ∧ x.block < w15.heap.size := fun x hx => o9.lt x.block (by rw [hx]; rfl)
    have hl14 := b8.lt
    have hl14b := x3.lt
    have s14 := xB.size
    have fit : i * 2 + ([.slice b9 (D.f i).held.length c9, .slice none 0 0] : List Value).length ≤ cs1.length := by rw [hl1]; show i * 2 + 2 ≤ 9; omega
    have rowk : IsRow Tryz.prog 34 ([.slice b9 (D.f i).held.length c9, .slice none 0 0] : List Value).length := rowRf
    have onek : ∀ u ∈ ([.slice b9 (D.f i).held.length c9, .slice none 0 0] : List Value), u.oneCell' = true := by
      intro u hu
      simp only [List.mem_cons, List.not_mem_nil, or_false] at hu
      rcases hu with rfl | rfl <;> rfl
    clear hra hHo e81 b15 o9
    go_wp2_with (with_reducible refine wpList_store_part (off := i * 2) rfl 34 _ _ rfl rfl rfl y1 rowk fit onek ?_
                 intro wz b8 g20
                 refine RowKit.Hid.out ?_)
    refine Lib.hid ?_
    have x3 := x3.grown g20 (fun e => by injection e; omega)
    have yB := yB.grown g20 yB.size (fun q hq => by injection hq with hq; rw [← hq, ← hGH.out]; exact Nat.le_refl _)
    have hk20 : ∀ b, b < w15.heap.size → b ≠ G → wz.heap[b]? = w15.heap[b]? := fun b hb hn => g20.block b hb (fun e => by injection e with e; exact hn e)
    have xD := xD.same (R' := fun b => R b ∨ w14.heap.size ≤ b) (w' := wz) (fun b hb hl => hk20 b hl (fun e => by have := hRl b hb; have := hGH.out; omega)) (fun b hb => .inl hb)
    have xDb := xD.put i hi (v := ⟨(D.f i).held, []⟩) (c := rfC b9 (D.f i).held.length c9 none 0 0) ⟨b9, c9, none, 0, rfl, ints_same I9 (fun x hx => by have := hA9 x hx; exact hk20 _ this.2 (by omega)), fun x hx _ => .inr (hA9 x hx).1, RSteps.empty _ _⟩ rfl
    obtain ⟨cs2, hcs2⟩ : ∃ c, overV cs1 (i * 2) (rfC b9 (D.f i).held.length c9 none 0 0) = c := ⟨_, rfl⟩
    have b8 : Blk wz G 37 (overV cs1 (i * 2) (rfC b9 (D.f i).held.length c9 none 0 0)) := b8
    rw [hcs2] at b8 xDb
    have hl2 := xDb.ddc.l
    have ho2 := xDb.ddc.o
    have row2 : IsRow Tryz.prog 37 cs2.length := by rw [hl2]; exact rowDd
    have hR2 : ∀ b, (R b ∨ w14.heap.size ≤ b) → b ≠ G + 1 := fun b hb => by
      rcases hb with hb | hb
      · have := hRl b hb; have := hGH.out; omega
      · omega
    have hR2w : ∀ b, (R b ∨ w14.heap.size ≤ b) → R b ∨ w.heap.size ≤ b := fun b hb => hb.imp id (fun h => by omega)
    clear hcs2 xD y1 g20 hk20 fit rowk onek I9 hA9 hbt
    go_wp2_with fail
    obtain ⟨V10, hV10⟩ : ∃ V, wz.drew = V := ⟨_, rfl⟩
    have b8 : Blk V10 G 37 cs2 := by rw [← hV10]; exact b8
    have x3 : Blk V10 (G + 1) 37 zs := by rw [← hV10]; exact x3
    have yB : Below w.heap.size w V10 := by rw [← hV10]; exact yB.drew
    have xDb : RDisk (fun b => R b ∨ w14.heap.size ≤ b) V10 cs2 (D.burn.set i ⟨(D.f i).held, []⟩) := by rw [← hV10]; exact xDb.keep (Below.drew (Below.refl _ _))
    have hAn := fAnswer_any (w := V10) xDb.ddc
    rw [hEH.out] at hAn
    refine region_seqS (fun w' => Blk w' G 37 cs2) (by kernel_rfl) (by rw [hV10]; exact b8) ?_
    simp only [pairs, Nat.reduceAdd]
    rw [hV10]
    clear hV10
    repeat ((first
      | (refine SeqS.y0 (v := .agg (cs2).toArray) (yields_blk (by rfl) 37 (.tmp 2) rfl rfl (fun w' h => h) (row2)) ?_)
      | (refine SeqS.k0 (v := ?_) ?_ ?_; rotate_left; focus (intro w' hb'; go_simp; with_reducible rfl))
      | (refine SeqS.u0 ?_)
      | (refine SeqS.y1 (v := .agg (cs2).toArray) (yields_blk (by rfl) 37 (.tmp 2) rfl rfl (fun w' h => h) (row2)) ?_)
      | (refine SeqS.k1 (v := ?_) ?_ ?_; rotate_left; focus (intro w' hb'; go_simp; with_reducible rfl))
      | (refine SeqS.u1 ?_)
      | (refine SeqS.y2 (v := .agg (cs2).toArray) (yields_blk (by rfl) 37 (.tmp 2) rfl rfl (fun w' h => h) (row2)) ?_)
      | (refine SeqS.k2 (v := ?_) ?_ ?_; rotate_left; focus (intro w' hb'; go_simp; with_reducible rfl))
      | (refine SeqS.u2 ?_)); simp only [Act.put, List.setIfInBounds_toArray, List.set_cons_zero, List.set_cons_succ])
    refine SeqS.alone (by decide +kernel) (by rfl) (fun K5 hK5 => ?_)
    go_simp
    go_at_call 49
    refine hAn.mono ?_
    rintro q w16 ⟨rfl, b16⟩
    go_simp
    have S16 := b8.keep b16 b8.lt
    have x3 := x3.keep b16 x3.lt
    have yB := yB.trans (b16.mono yB.size)
    have xDb := xDb.keep b16
    refine hK5 _ _ S16 ?_
    clear hK5 K5 b8 b16 hAn
    (try simp only [Act.put, List.setIfInBounds_toArray, List.set_cons_zero, List.set_cons_succ])
    refine SeqS.alone (by decide +kernel) (by rfl) (fun K5 hK5 => ?_)
    refine wp_store_part 37 (.tmp 4) (.tmp 30) rfl rfl rfl x3 row2 (by rw [hl2, hzl]; decide) ho2 (fun w17 hb17 hg17 => ?_)
    rw [overV_all _ _ (by rw [hl2, hzl])] at hb17
    have S17 := S16.grown hg17 (fun e => by injection e; omega)
    have yB := yB.grown hg17 yB.size (fun q hq => by injection hq with hq; rw [← hq, ← hGH.out]; omega)
    have xDb := xDb.same (R' := fun b => R b ∨ w.heap.size ≤ b) (w' := w17) (fun b hb hl => hg17.block b hl (fun e => by injection e with e; exact hR2 b hb e)) hR2w
    refine hK5 _ _ S17 ?_
    clear hK5 K5 S16 x3 hg17
    repeat ((first
      | (refine SeqS.k0 (v := ?_) ?_ ?_; rotate_left; focus (intro w' hb'; go_simp; with_reducible rfl))
      | (refine SeqS.u0 ?_)
      | (refine SeqS.k1 (v := ?_) ?_ ?_; rotate_left; focus (intro w' hb'; go_simp; with_reducible rfl))
      | (refine SeqS.u1 ?_)
      | (refine SeqS.k2 (v := ?_) ?_ ?_; rotate_left; focus (intro w' hb'; go_simp; with_reducible rfl))
      | (refine SeqS.u2 ?_)); simp only [Act.put, List.setIfInBounds_toArray, List.set_cons_zero, List.set_cons_succ])
    refine SeqS.done (by decide +kernel) ?_
    go_wp2
    refine bodyPost_ret (results_bt18 rfl rfl hb17 row2) rfl ?_
    exact ⟨cs2, rfl, xDb, yB⟩

end Go.Proofs.YtcohbhimhacedaaGreatDoor

/-
  The document's own Arm and Crash (layer 18). New memory alone is written. Conditions: a disk with at most 3518437208882 steps a file.
-/
namespace Go.Proofs.YtcohbhimhacedaaGreatDoor
open Go.RowKit

theorem crash_mod (z : Int) (U : Nat) (hU : U < 2305843009213693952) : ∃ M : Nat, M ≤ U ∧ (z % ((U : Int) + 1)).toNat = M ∧ ((z.tmod ((U : Int) + 1) = (M : Int) ∧ ¬ z.tmod ((U : Int) + 1) < 0) ∨ (z.tmod ((U : Int) + 1) < 0 ∧ wrap64 (z.tmod ((U : Int) + 1) + ((U : Int) + 1)) = (M : Int))) := by
  have hnn := Int.emod_nonneg z (show ((U : Int) + 1) ≠ 0 by omega)
  have hnl := Int.emod_lt_of_pos z (show (0 : Int) < (U : Int) + 1 by omega)
  have htm := Int.tmod_eq_emod (a := z) (b := (U : Int) + 1)
  obtain ⟨e, he⟩ : ∃ e, z % ((U : Int) + 1) = e := ⟨_, rfl⟩
  obtain ⟨t, ht⟩ : ∃ t, z.tmod ((U : Int) + 1) = t := ⟨_, rfl⟩
  rw [he] at hnn hnl htm
  rw [ht] at htm
  rw [he, ht]
  clear he ht
  have hna : ((U : Int) + 1).natAbs = U + 1 := by omega
  rw [hna] at htm
  refine ⟨e.toNat, by omega, rfl, ?_⟩
  split at htm
  · exact .inl ⟨by omega, by omega⟩
  · exact .inr ⟨by omega, by unfold wrap64; omega⟩
theorem crash_wrap (U : Nat) (hU : U < 2305843009213693952) : wrap64 ((U : Int) + 1) = (U : Int) + 1 ∧ ¬ (U : Int) + 1 = 0 := ⟨by unfold wrap64; omega, by omega⟩
def Becomes (R : Nat → Prop) (w : World) (q : Ending) (w' : World) (D : DkV) : Prop := ∃ cs, q = .returned (.agg cs.toArray) ∧ RDisk (fun b => R b ∨ w.heap.size ≤ b) w' cs D ∧ Below w.heap.size w w'

set_option maxRecDepth 100000 in
set_option maxHeartbeats 2000000 in
theorem fArm_any {R : Nat → Prop} {w : World} {cs : List Value} {D : DkV} (n : Int) (h2 : RDisk R w cs D) (hRl : ∀ b, R b → b < w.heap.size) :
    Calls Tryz.prog 35 #[.agg cs.toArray, .int .i64 n] w fun q w' => Becomes R w q w' (armD D n) := by
  have hdc := h2.ddc
  have hl := hdc.l
  have hrow : IsRow Tryz.prog 37 cs.length := by rw [hl]; exact rowDd
  obtain ⟨zs, hzs⟩ : ∃ zs, ddZ = zs := ⟨_, rfl⟩
  have hz := zeroDd
  have hzl := ddZ_len
  rw [hzs] at hz hzl
  have hb1 := Blk.new w 37 cs
  have hb2 : Blk ((w.alloc (.cells cs.toArray 37)).alloc (.cells zs.toArray 37)) (w.heap.size + 1) 37 zs := Blk.new1 w _ _ zs
  have hk2 := hb1.alloc (.cells zs.toArray 37)
  have hB2 := below2 w (.cells cs.toArray 37) (.cells zs.toArray 37)
  obtain ⟨W, hW⟩ : ∃ W, (w.alloc (.cells cs.toArray 37)).alloc (.cells zs.toArray 37) = W := ⟨_, rfl⟩
  rw [hW] at hb2 hk2 hB2
  obtain ⟨G, hG⟩ : ∃ G, w.heap.size = G := ⟨_, rfl⟩
  rw [hG] at hb2 hk2
  have hWH := Lib.hid hW
  have hGH := Lib.hid hG
  have hBH := Lib.hid hB2
  have hdcH := Lib.hid hdc
  clear hb1 hzs hW hG hB2 hdc
  have e7 := hk2.cell 7
  rw [hdcH.out.f] at e7
  have f7 := hk2.frozen 7
  have zR : ∀ b, R b → b ≠ G + 1 := fun b hb => by have := hRl b hb; have := hGH.out; omega
  have zRw : ∀ b, R b → R b ∨ w.heap.size ≤ b := fun b hb => .inl hb
  have B1 := hk2.set 7 (.int .i64 n)
  have g1 := grown_setCell W G 7 (.int .i64 n)
  have x2 := hb2.far (p := ⟨G, 7, none⟩) (by show G + 1 ≠ G; omega) (.int .i64 n)
  have hput : ∀ m : Int, ∀ c0 c1 c2 : List Value, c0.length = 2 → c1.length = 2 → c2.length = 2 → cs = ddC c0 c1 c2 D → cs.set 7 (.int .i64 m) = ddC c0 c1 c2 { D with fuse := m } := fun m c0 c1 c2 l0 l1 l2 hc => by rw [hc]; exact ddC_set7 D m l0 l1 l2
  have hne : ∀ b, R b → b ≠ G := fun b hb => by have := hRl b hb; have := hGH.out; omega
  by_cases hn : n < 0
  · have ha : armD D n = { D with fuse := 0 } := by unfold armD; rw [show max n 0 = 0 by omega]
    rw [ha]
    have e71 := B1.cell 7
    rw [List.getElem?_set_self (by omega)] at e71
    have f71 := B1.frozen 7
    have z1 := B1.set 7 (.int .i64 0)
    have z2 := x2.far (p := ⟨G, 7, none⟩) (by show G + 1 ≠ G; omega) (.int .i64 0)
    have gg := grown_trans g1 (grown_setCell _ G 7 (.int .i64 0))
    rw [List.set_set] at z1
    have zB := hBH.out.grown gg hBH.out.size (fun q hq => by injection hq with hq; rw [← hq, ← hGH.out]; exact Nat.le_refl _)
    have zD := ((h2.keep hBH.out).same (R' := R) (w' := (W.setCell ⟨G, 7, none⟩ (.int .i64 n)).setCell ⟨G, 7, none⟩ (.int .i64 0)) (fun b hb hl => gg.block b hl (fun e => by injection e with e; exact hne b hb e)) (fun _ h => h)).head (D' := { D with fuse := 0 }) rfl rfl rfl (hput 0)
    obtain ⟨c2, hc2⟩ : ∃ c, cs.set 7 (.int .i64 0) = c := ⟨_, rfl⟩
    rw [hc2] at z1 zD
    have zl := zD.ddc.l
    have zo := zD.ddc.o
    have zrow : IsRow Tryz.prog 37 c2.length := by rw [zl]; exact rowDd
    clear hc2 gg B1 g1 x2 hk2 hb2 ha hput
    go_enter Tryz.func35, Tryz.ntmps35
    go_wp2_with ((with_reducible refine box_row rfl 37 (.tmp 0) rfl cs rfl ?_); refine RowKit.Hid.out ?_)
    refine Lib.hid ?_
    refine wpList_alloc_blk rfl 37 rfl hz ?_
    rw [hWH.out, size1, hGH.out]
    go_wp2_with ((with_reducible refine wpList_load_blk rfl 37 (.tmp 2) rfl ?_ z1 rowDd zl ?_); rfl; refine RowKit.Hid.out ?_)
    refine Lib.hid ?_
    refine store_row rfl 37 (.tmp 4) _ rfl rfl rfl z2 rowDd zl hzl zo ?_
    intro w5 hb5 hg5
    have hB5 := zB.grown hg5 zB.size (fun q hq => by injection hq with hq; rw [← hq, ← hGH.out]; omega)
    have hD5 := zD.same (R' := fun b => R b ∨ w.heap.size ≤ b) (w' := w5) (fun b hb hl => hg5.block b hl (fun e => by injection e with e; exact zR b hb e)) zRw
    clear z1 z2 hg5
    go_wp2
    refine bodyPost_ret (results_blk rfl rfl hb5 zrow) rfl ?_
    exact ⟨_, rfl, hD5, hB5⟩
  · have ha : armD D n = { D with fuse := n } := by unfold armD; rw [show max n 0 = n by omega]
    rw [ha]
    have z1 := B1
    have z2 := x2
    have zB := hBH.out.grown g1 hBH.out.size (fun q hq => by injection hq with hq; rw [← hq, ← hGH.out]; exact Nat.le_refl _)
    have zD := ((h2.keep hBH.out).same (R' := R) (w' := W.setCell ⟨G, 7, none⟩ (.int .i64 n)) (fun b hb hl => g1.block b hl (fun e => by injection e with e; exact hne b hb e)) (fun _ h => h)).head (D' := { D with fuse := n }) rfl rfl rfl (hput n)
    obtain ⟨c2, hc2⟩ : ∃ c, cs.set 7 (.int .i64 n) = c := ⟨_, rfl⟩
    rw [hc2] at z1 zD
    have zl := zD.ddc.l
    have zo := zD.ddc.o
    have zrow : IsRow Tryz.prog 37 c2.length := by rw [zl]; exact rowDd
    clear hc2 B1 g1 x2 hk2 hb2 ha hput
    go_enter Tryz.func35, Tryz.ntmps35
    go_wp2_with ((with_reducible refine box_row rfl 37 (.tmp 0) rfl cs rfl ?_); refine RowKit.Hid.out ?_)
    refine Lib.hid ?_
    refine wpList_alloc_blk rfl 37 rfl hz ?_
    rw [hWH.out, size1, hGH.out]
    go_wp2_with ((with_reducible refine wpList_load_blk rfl 37 (.tmp 2) rfl ?_ z1 rowDd zl ?_); rfl; refine RowKit.Hid.out ?_)
    refine Lib.hid ?_
    refine store_row rfl 37 (.tmp 4) _ rfl rfl rfl z2 rowDd zl hzl zo ?_
    intro w5 hb5 hg5
    have hB5 := zB.grown hg5 zB.size (fun q hq => by injection hq with hq; rw [← hq, ← hGH.out]; omega)
    have hD5 := zD.same (R' := fun b => R b ∨ w.heap.size ≤ b) (w' := w5) (fun b hb hl => hg5.block b hl (fun e => by injection e with e; exact zR b hb e)) zRw
    clear z1 z2 hg5
    go_wp2
    refine bodyPost_ret (results_blk rfl rfl hb5 zrow) rfl ?_
    exact ⟨_, rfl, hD5, hB5⟩

set_option maxRecDepth 100000 in
set_option maxHeartbeats 4000000 in
theorem fCrash_any {R : Nat → Prop} {w : World} {cs : List Value} {D : DkV} {T : Nat} {a : Option Addr} {n c : Nat} {us : List Int} (h2 : RDisk R w cs D) (hRl : ∀ b, R b → b < w.heap.size) (hO : D.Ok T) (hT : T ≤ 4398046511104) (hI : Ints .i64 w a n c us) :
    Calls Tryz.prog 37 #[.agg cs.toArray, .slice a n c] w fun q w' => Becomes R w q w' (crD D us) := by
  have hdc := h2.ddc
  have hl := hdc.l
  have hrow : IsRow Tryz.prog 37 cs.length := by rw [hl]; exact rowDd
  obtain ⟨zs, hzs⟩ : ∃ zs, ddZ = zs := ⟨_, rfl⟩
  have hz := zeroDd
  have hzl := ddZ_len
  rw [hzs] at hz hzl
  have hb1 := Blk.new w 37 cs
  have hb2 : Blk ((w.alloc (.cells cs.toArray 37)).alloc (.cells zs.toArray 37)) (w.heap.size + 1) 37 zs := Blk.new1 w _ _ zs
  have hk2 := hb1.alloc (.cells zs.toArray 37)
  have hB2 := below2 w (.cells cs.toArray 37) (.cells zs.toArray 37)
  obtain ⟨W, hW⟩ : ∃ W, (w.alloc (.cells cs.toArray 37)).alloc (.cells zs.toArray 37) = W := ⟨_, rfl⟩
  rw [hW] at hb2 hk2 hB2
  obtain ⟨G, hG⟩ : ∃ G, w.heap.size = G := ⟨_, rfl⟩
  rw [hG] at hb2 hk2
  have hWH := Lib.hid hW
  have hGH := Lib.hid hG
  have hBH := Lib.hid hB2
  have hdcH := Lib.hid hdc
  clear hb1 hzs hW hG hB2 hdc
  have hlen := hI.len
  have hDW := (h2.keep hBH.out).wide (R' := fun b => R b ∨ w.heap.size + 2 ≤ b) (fun b hb => .inl hb)
  have hst0 : ∃ cs', Blk W G 37 cs' ∧ Blk W (G + 1) 37 zs ∧ RDisk (fun b => R b ∨ w.heap.size + 2 ≤ b) W cs' (crP D us 0) ∧ Below w.heap.size w W := ⟨cs, hk2, hb2, hDW, hBH.out⟩
  clear hk2 hb2 hDW
  go_enter Tryz.func37, Tryz.ntmps37
  go_wp2_with ((with_reducible refine box_row rfl 37 (.tmp 0) rfl cs rfl ?_); refine RowKit.Hid.out ?_)
  refine Lib.hid ?_
  refine wpList_alloc_blk rfl 37 rfl hz ?_
  rw [hWH.out, size1, hGH.out]
  go_wp2_with fail
  go_loopw [5] (fun i wr => ∃ (j : Nat) (csj : List Value), j ≤ 3 ∧ i = .int .i64 j ∧ Blk wr G 37 csj ∧ Blk wr (G + 1) 37 zs ∧ RDisk (fun b => R b ∨ w.heap.size + 2 ≤ b) wr csj (crP D us j) ∧ Below w.heap.size w wr) (fun i _ => 3 - (intOf i).toNat)
  case atStart =>
    obtain ⟨cs', k1, k2, k3, k4⟩ := hst0
    exact ⟨0, cs', Nat.zero_le _, rfl, k1, k2, k3, k4⟩
  case round =>
    clear hst0
    obtain ⟨j, csj, hj, rfl, y1, y2, yD, yB⟩ := hrel
    by_cases hlt3 : j < 3
    · have hji : (j : Int) < 3 := by omega
      have hlj := yD.ddc.l
      obtain ⟨hco1, hco2⟩ := yD.co j hlt3
      rw [crP_f D us j hlt3] at hco2
      have hfo := (hO.f j).fok (by omega)
      obtain ⟨c2, hc2⟩ : ∃ c2, fileC csj j = c2 := ⟨_, rfl⟩
      rw [hc2] at hco1 hco2
      have hcl := hco2.len
      have hrow2 : IsRow Tryz.prog 34 c2.length := by rw [hcl]; exact rowRf
      have yra : wr.rangeAt G (j * 2) c2 := y1.range _ _ hco1
      have yF := hco2
      have hDF := Lib.hid (fun (w' : World) (q : Below wr.heap.size wr w') => fDone_any (leftU (D.f j) us j) (yF.keep q) hfo.ok hfo.k hfo.n (by have := leftU_le (D.f j) us j; have := hfo.u; omega) (by have := hfo.l; omega))
      clear hc2 hcl hco2
      have hwj : wrap64 ((j : Int) + 1) = (j : Int) + 1 := by unfold wrap64; omega
      by_cases hjn : j < n
      · have hjn2 : (j : Int) < (n : Int) := by omega
        obtain ⟨b, off, rfl, hc⟩ := (hI.keep yB).at (by omega)
        have hcj := hc j hjn
        have hun := fUnits_any yF (by have := hfo.u; unfold FlV.units at this; omega) (by have := hfo.l; omega)
        have hlv : leftU (D.f j) us j = (us.getD j 0 % ((unitsL (D.f j).S : Int) + 1)).toNat := by unfold leftU FlV.units; rw [if_pos (by omega)]
        have hub : unitsL (D.f j).S < 2305843009213693952 := hfo.u
        obtain ⟨U, hU⟩ : ∃ U, unitsL (D.f j).S = U := ⟨_, rfl⟩
        rw [hU] at hun hlv hub
        obtain ⟨z, hz0⟩ : ∃ z, us.getD j 0 = z := ⟨_, rfl⟩
        rw [hz0] at hcj hlv
        have hcjX := fun (w' : World) (q : Below wr.heap.size wr w') => (q.cell (p := ⟨b, off + j, none⟩) (World.block_lt_of_cell? wr _ hcj)).trans hcj
        obtain ⟨hwU, hU0⟩ := crash_wrap U hub
        obtain ⟨M, _, hMe, hcase⟩ := crash_mod z U hub
        have hMM : leftU (D.f j) us j = M := hlv.trans hMe
        rw [hMM] at hDF
        clear hlv hU hz0 hc hMe hub hj hjn
        rcases hcase with ⟨htM, ht0⟩ | ⟨ht0, hsum⟩
        · go_wp2_with ((with_reducible refine wpList_load_part (off := j * 2) rfl 34 _ rfl rfl c2 yra hrow2 ?_))
          refine hun.mono ?_
          rintro q w4 ⟨rfl, b4⟩
          have y1 := y1.keep b4 y1.lt
          have y2 := y2.keep b4 y2.lt
          have yD := yD.keep b4
          have yB := yB.trans (b4.mono yB.size)
          have yra : w4.rangeAt G (j * 2) c2 := y1.range _ _ hco1
          have hcj := hcjX w4 b4
          have hDn := hDF.out w4 b4
          obtain ⟨X, hX⟩ : ∃ X, w4 = X := ⟨_, rfl⟩
          rw [hX] at y1 y2 yD yB yra hcj hDn ⊢
          clear hX b4 hcjX hun hDF
          go_wp2_with ((with_reducible refine wpList_load_part (off := j * 2) rfl 34 _ rfl rfl c2 yra hrow2 ?_))
          refine hDn.mono ?_
          rintro q w8 ⟨b9, c9, rfl, o9, b15⟩
          clear ht0 htM hwU hU0 hcj
          have I9 := own_ints' o9
          have hA9 : ∀ x, b9 = some x → X.heap.size ≤ x.block ∧ x.block < w8.heap.size := fun x hx => o9.lt x.block (by rw [hx]; rfl)
          have hz14 : G + 1 < X.heap.size := y2.lt
          have s8 := b15.size
          have y1 := y1.keep b15 y1.lt
          have y2 := y2.keep b15 y2.lt
          have yB := yB.trans (b15.mono yB.size)
          have yD := yD.keep b15
          obtain ⟨H, hH⟩ : ∃ H, doneL (D.f j).K (D.f j).S M = H := ⟨_, rfl⟩
          rw [hH] at I9
          have hHH := Lib.hid hH
          have hbt := built_kept b9 H.length c9
          have fit : j * 2 + ([.slice b9 H.length c9, .slice none 0 0] : List Value).length ≤ csj.length := by rw [hlj]; show j * 2 + 2 ≤ 9; omega
          have rowk : IsRow Tryz.prog 34 ([.slice b9 H.length c9, .slice none 0 0] : List Value).length := rowRf
          have onek : ∀ u ∈ ([.slice b9 H.length c9, .slice none 0 0] : List Value), u.oneCell' = true := by
            intro u hu
            simp only [List.mem_cons, List.not_mem_nil, or_false] at hu
            rcases hu with rfl | rfl <;> rfl
          (try rw [hH])
          clear yra hDn b15 o9 hH
          go_wp2_with (with_reducible refine wpList_store_part (off := j * 2) rfl 34 _ _ rfl rfl rfl y1 rowk fit onek ?_
                       intro wz b8 g20
                       refine RowKit.Hid.out ?_)
          refine Lib.hid ?_
          have y2 := y2.grown g20 (fun e => by injection e; omega)
          have yB := yB.grown g20 yB.size (fun q hq => by injection hq with hq; rw [← hq, ← hGH.out]; exact Nat.le_refl _)
          have hk20 : ∀ b, b < w8.heap.size → b ≠ G → wz.heap[b]? = w8.heap[b]? := fun b hb hn => g20.block b hb (fun e => by injection e with e; exact hn e)
          have yD := yD.same (R' := fun b => R b ∨ w.heap.size + 2 ≤ b) (w' := wz) (fun b hb hl => hk20 b hl (fun e => by
            have := hGH.out
            rcases hb with hb | hb
            · have := hRl b hb; omega
            · omega)) (fun _ h => h)
          have hset : (D.f j).settle (leftU (D.f j) us j) = ⟨H, []⟩ := by
            rw [hMM]
            show (⟨doneL (D.f j).K (D.f j).S _, []⟩ : FlV) = _
            rw [hHH.out]
          have xDb := yD.put j hlt3 (v := (D.f j).settle (leftU (D.f j) us j)) (c := rfC b9 H.length c9 none 0 0) ⟨b9, c9, none, 0, by rw [hset]; rfl, by
            have h9 := ints_same I9 (w' := wz) (fun x hx => by have := hA9 x hx; exact hk20 _ this.2 (by omega))
            rw [hset]
            exact h9, fun x hx _ => .inr (by have := (hA9 x hx).1; have := hGH.out; omega), by rw [hset]; exact RSteps.empty _ _⟩ rfl
          rw [crP_succ D us j hlt3] at xDb
          have b8' : Blk wz G 37 (overV csj (j * 2) (rfC b9 H.length c9 none 0 0)) := b8
          have allH := Lib.hid (And.intro b8' (And.intro y2 (And.intro xDb yB)))
          clear b8 b8' y2 xDb yB yD y1 g20 hk20 fit rowk onek I9 hA9 hbt
          go_wp2
          exact ⟨⟨j + 1, _, by omega, by congr 1, allH.out.1, allH.out.2.1, allH.out.2.2.1, allH.out.2.2.2⟩, by simp only [intOf]; omega⟩
        · go_wp2_with ((with_reducible refine wpList_load_part (off := j * 2) rfl 34 _ rfl rfl c2 yra hrow2 ?_))
          refine hun.mono ?_
          rintro q w4 ⟨rfl, b4⟩
          have y1 := y1.keep b4 y1.lt
          have y2 := y2.keep b4 y2.lt
          have yD := yD.keep b4
          have yB := yB.trans (b4.mono yB.size)
          have yra : w4.rangeAt G (j * 2) c2 := y1.range _ _ hco1
          have hcj := hcjX w4 b4
          have hDn := hDF.out w4 b4
          obtain ⟨X, hX⟩ : ∃ X, w4 = X := ⟨_, rfl⟩
          rw [hX] at y1 y2 yD yB yra hcj hDn ⊢
          clear hX b4 hcjX hun hDF
          go_wp2_with ((with_reducible refine wpList_load_part (off := j * 2) rfl 34 _ rfl rfl c2 yra hrow2 ?_))
          refine hDn.mono ?_
          rintro q w8 ⟨b9, c9, rfl, o9, b15⟩
          clear ht0 hsum hwU hU0 hcj
          have I9 := own_ints' o9
          have hA9 : ∀ x, b9 = some x → X.heap.size ≤ x.block ∧ x.block < w8.heap.size := fun x hx => o9.lt x.block (by rw [hx]; rfl)
          have hz14 : G + 1 < X.heap.size := y2.lt
          have s8 := b15.size
          have y1 := y1.keep b15 y1.lt
          have y2 := y2.keep b15 y2.lt
          have yB := yB.trans (b15.mono yB.size)
          have yD := yD.keep b15
          obtain ⟨H, hH⟩ : ∃ H, doneL (D.f j).K (D.f j).S M = H := ⟨_, rfl⟩
          rw [hH] at I9
          have hHH := Lib.hid hH
          have hbt := built_kept b9 H.length c9
          have fit : j * 2 + ([.slice b9 H.length c9, .slice none 0 0] : List Value).length ≤ csj.length := by rw [hlj]; show j * 2 + 2 ≤ 9; omega
          have rowk : IsRow Tryz.prog 34 ([.slice b9 H.length c9, .slice none 0 0] : List Value).length := rowRf
          have onek : ∀ u ∈ ([.slice b9 H.length c9, .slice none 0 0] : List Value), u.oneCell' = true := by
            intro u hu
            simp only [List.mem_cons, List.not_mem_nil, or_false] at hu
            rcases hu with rfl | rfl <;> rfl
          (try rw [hH])
          clear yra hDn b15 o9 hH
          go_wp2_with (with_reducible refine wpList_store_part (off := j * 2) rfl 34 _ _ rfl rfl rfl y1 rowk fit onek ?_
                       intro wz b8 g20
                       refine RowKit.Hid.out ?_)
          refine Lib.hid ?_
          have y2 := y2.grown g20 (fun e => by injection e; omega)
          have yB := yB.grown g20 yB.size (fun q hq => by injection hq with hq; rw [← hq, ← hGH.out]; exact Nat.le_refl _)
          have hk20 : ∀ b, b < w8.heap.size → b ≠ G → wz.heap[b]? = w8.heap[b]? := fun b hb hn => g20.block b hb (fun e => by injection e with e; exact hn e)
          have yD := yD.same (R' := fun b => R b ∨ w.heap.size + 2 ≤ b) (w' := wz) (fun b hb hl => hk20 b hl (fun e => by
            have := hGH.out
            rcases hb with hb | hb
            · have := hRl b hb; omega
            · omega)) (fun _ h => h)
          have hset : (D.f j).settle (leftU (D.f j) us j) = ⟨H, []⟩ := by
            rw [hMM]
            show (⟨doneL (D.f j).K (D.f j).S _, []⟩ : FlV) = _
            rw [hHH.out]
          have xDb := yD.put j hlt3 (v := (D.f j).settle (leftU (D.f j) us j)) (c := rfC b9 H.length c9 none 0 0) ⟨b9, c9, none, 0, by rw [hset]; rfl, by
            have h9 := ints_same I9 (w' := wz) (fun x hx => by have := hA9 x hx; exact hk20 _ this.2 (by omega))
            rw [hset]
            exact h9, fun x hx _ => .inr (by have := (hA9 x hx).1; have := hGH.out; omega), by rw [hset]; exact RSteps.empty _ _⟩ rfl
          rw [crP_succ D us j hlt3] at xDb
          have b8' : Blk wz G 37 (overV csj (j * 2) (rfC b9 H.length c9 none 0 0)) := b8
          have allH := Lib.hid (And.intro b8' (And.intro y2 (And.intro xDb yB)))
          clear b8 b8' y2 xDb yB yD y1 g20 hk20 fit rowk onek I9 hA9 hbt
          go_wp2
          exact ⟨⟨j + 1, _, by omega, by congr 1, allH.out.1, allH.out.2.1, allH.out.2.2.1, allH.out.2.2.2⟩, by simp only [intOf]; omega⟩
      · have hjn2 : ¬ (j : Int) < (n : Int) := by omega
        have hMM : leftU (D.f j) us j = 0 := by unfold leftU; rw [if_neg (by omega)]
        have hDn := hDF.out wr (Below.refl _ _)
        rw [hMM] at hDn
        obtain ⟨X, hX⟩ : ∃ X, wr = X := ⟨_, rfl⟩
        rw [hX] at y1 y2 yD yB yra hDn ⊢
        clear hX hDF hj
        go_wp2_with ((with_reducible refine wpList_load_part (off := j * 2) rfl 34 _ rfl rfl c2 yra hrow2 ?_))
        refine hDn.mono ?_
        rintro q w8 ⟨b9, c9, rfl, o9, b15⟩
        have I9 := own_ints' o9
        have hA9 : ∀ x, b9 = some x → X.heap.size ≤ x.block ∧ x.block < w8.heap.size := fun x hx => o9.lt x.block (by rw [hx]; rfl)
        have hz14 : G + 1 < X.heap.size := y2.lt
        have s8 := b15.size
        have y1 := y1.keep b15 y1.lt
        have y2 := y2.keep b15 y2.lt
        have yB := yB.trans (b15.mono yB.size)
        have yD := yD.keep b15
        obtain ⟨H, hH⟩ : ∃ H, doneL (D.f j).K (D.f j).S 0 = H := ⟨_, rfl⟩
        rw [hH] at I9
        have hHH := Lib.hid hH
        have hbt := built_kept b9 H.length c9
        have fit : j * 2 + ([.slice b9 H.length c9, .slice none 0 0] : List Value).length ≤ csj.length := by rw [hlj]; show j * 2 + 2 ≤ 9; omega
        have rowk : IsRow Tryz.prog 34 ([.slice b9 H.length c9, .slice none 0 0] : List Value).length := rowRf
        have onek : ∀ u ∈ ([.slice b9 H.length c9, .slice none 0 0] : List Value), u.oneCell' = true := by
          intro u hu
          simp only [List.mem_cons, List.not_mem_nil, or_false] at hu
          rcases hu with rfl | rfl <;> rfl
        (try rw [hH])
        clear yra hDn b15 o9 hH
        go_wp2_with (with_reducible refine wpList_store_part (off := j * 2) rfl 34 _ _ rfl rfl rfl y1 rowk fit onek ?_
                     intro wz b8 g20
                     refine RowKit.Hid.out ?_)
        refine Lib.hid ?_
        have y2 := y2.grown g20 (fun e => by injection e; omega)
        have yB := yB.grown g20 yB.size (fun q hq => by injection hq with hq; rw [← hq, ← hGH.out]; exact Nat.le_refl _)
        have hk20 : ∀ b, b < w8.heap.size → b ≠ G → wz.heap[b]? = w8.heap[b]? := fun b hb hn => g20.block b hb (fun e => by injection e with e; exact hn e)
        have yD := yD.same (R' := fun b => R b ∨ w.heap.size + 2 ≤ b) (w' := wz) (fun b hb hl => hk20 b hl (fun e => by
          have := hGH.out
          rcases hb with hb | hb
          · have := hRl b hb; omega
          · omega)) (fun _ h => h)
        have hset : (D.f j).settle (leftU (D.f j) us j) = ⟨H, []⟩ := by
          rw [hMM]
          show (⟨doneL (D.f j).K (D.f j).S _, []⟩ : FlV) = _
          rw [hHH.out]
        have xDb := yD.put j hlt3 (v := (D.f j).settle (leftU (D.f j) us j)) (c := rfC b9 H.length c9 none 0 0) ⟨b9, c9, none, 0, by rw [hset]; rfl, by
          have h9 := ints_same I9 (w' := wz) (fun x hx => by have := hA9 x hx; exact hk20 _ this.2 (by omega))
          rw [hset]
          exact h9, fun x hx _ => .inr (by have := (hA9 x hx).1; have := hGH.out; omega), by rw [hset]; exact RSteps.empty _ _⟩ rfl
        rw [crP_succ D us j hlt3] at xDb
        have b8' : Blk wz G 37 (overV csj (j * 2) (rfC b9 H.length c9 none 0 0)) := b8
        have allH := Lib.hid (And.intro b8' (And.intro y2 (And.intro xDb yB)))
        clear b8 b8' y2 xDb yB yD y1 g20 hk20 fit rowk onek I9 hA9 hbt
        go_wp2
        exact ⟨⟨j + 1, _, by omega, by congr 1, allH.out.1, allH.out.2.1, allH.out.2.2.1, allH.out.2.2.2⟩, by simp only [intOf]; omega⟩
    · obtain rfl : j = 3 := by omega
      have hji : ¬ ((3 : Nat) : Int) < 3 := by omega
      have hdj := yD.ddc
      have e7 := y1.cell 7
      rw [hdj.f] at e7
      have f7 := y1.frozen 7
      have B1 := y1.set 7 (.int .i64 0)
      have e81 := B1.cell 8
      rw [List.getElem?_set_ne (by decide), hdj.d] at e81
      have f81 := B1.frozen 8
      have z1 := B1.set 8 (.bool false)
      have z2 := (y2.far (p := ⟨G, 7, none⟩) (by show G + 1 ≠ G; omega) (.int .i64 0)).far (p := ⟨G, 8, none⟩) (by show G + 1 ≠ G; omega) (.bool false)
      have gg := grown_trans (grown_setCell wr G 7 (.int .i64 0)) (grown_setCell _ G 8 (.bool false))
      have zB := yB.grown gg yB.size (fun q hq => by injection hq with hq; rw [← hq, ← hGH.out]; exact Nat.le_refl _)
      have hne : ∀ b, (R b ∨ w.heap.size + 2 ≤ b) → b ≠ G := fun b hb => by
        have := hGH.out
        rcases hb with hb | hb
        · have := hRl b hb; omega
        · omega
      have zR : ∀ b, (R b ∨ w.heap.size + 2 ≤ b) → b ≠ G + 1 := fun b hb => by
        have := hGH.out
        rcases hb with hb | hb
        · have := hRl b hb; omega
        · omega
      have zRw : ∀ b, (R b ∨ w.heap.size + 2 ≤ b) → R b ∨ w.heap.size ≤ b := fun b hb => hb.imp id (fun h => by omega)
      have zD := (yD.same (R' := fun b => R b ∨ w.heap.size + 2 ≤ b) (w' := (wr.setCell ⟨G, 7, none⟩ (.int .i64 0)).setCell ⟨G, 8, none⟩ (.bool false)) (fun b hb hl => gg.block b hl (fun e => by injection e with e; exact hne b hb e)) (fun _ h => h)).head (cs' := (csj.set 7 (.int .i64 0)).set 8 (.bool false)) (D' := crD D us) rfl rfl rfl (fun c0 c1 c2 l0 l1 l2 hc => by rw [hc, ddC_set7 _ _ l0 l1 l2, ddC_set8 _ _ l0 l1 l2]; rfl)
      obtain ⟨c2, hc2⟩ : ∃ c, (csj.set 7 (.int .i64 0)).set 8 (.bool false) = c := ⟨_, rfl⟩
      rw [hc2] at z1 zD
      have zl := zD.ddc.l
      have zo := zD.ddc.o
      have zrow : IsRow Tryz.prog 37 c2.length := by rw [zl]; exact rowDd
      clear hc2 gg B1 y1 y2 yD yB hdj hj
      go_wp2_with ((with_reducible refine wpList_load_blk rfl 37 (.tmp 2) rfl ?_ z1 rowDd zl ?_); rfl; refine RowKit.Hid.out ?_)
      refine Lib.hid ?_
      refine store_row rfl 37 (.tmp 4) _ rfl rfl rfl z2 rowDd zl hzl zo ?_
      intro w5 hb5 hg5
      have hB5 := zB.grown hg5 zB.size (fun q hq => by injection hq with hq; rw [← hq, ← hGH.out]; omega)
      have hD5 := zD.same (R' := fun b => R b ∨ w.heap.size ≤ b) (w' := w5) (fun b hb hl => hg5.block b hl (fun e => by injection e with e; exact zR b hb e)) zRw
      clear z1 z2 hg5
      go_wp2
      refine bodyPost_ret (results_blk rfl rfl hb5 zrow) rfl ?_
      exact ⟨_, rfl, hD5, hB5⟩
end Go.Proofs.YtcohbhimhacedaaGreatDoor
