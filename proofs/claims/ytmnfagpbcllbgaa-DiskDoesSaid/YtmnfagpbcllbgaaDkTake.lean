/-
  What the landed file's take comes to: a step more. The disk's own block, what the file holds and its steps are written, and new memory. Conditions: a file of at most 65536 bytes, 2^42 steps.
-/
import Derived.Test.YtmnfagpbcllbgaaDkTakeF
import Derived.Test.YtmnfagpbcllbgaaSeqS
namespace Go.Proofs.Ytmnfagpbcllbgaa
open Go.RowKit

theorem ahead_put (v : Value) (w : World) : (nilAhead 210 83 v "mirador/disk.do").run Try.prog w = .ok (some false) w := by kernel_rfl
theorem ahead_cut (v : Value) (w : World) : (nilAhead 210 88 v "mirador/disk.do").run Try.prog w = .ok (some false) w := by kernel_rfl

set_option maxRecDepth 100000 in
set_option maxHeartbeats 2000000 in
theorem dTake_put {L : Nat → Nat} {P : Nat → Prop} {w : World} {i g o : Nat} {t : TypeId} {cs : List Value} {x : FaV} {v : FlV} {T : Nat} {a : Option Addr} {c : Nat} {xs : List Int} (hl : LabAt L P w) (hg1 : L g = 1) (hx : FlAt L P w i x v) (hb : Blk w g t cs) (hc : ∀ j u, (fC x v)[j]? = some u → cs[o + j]? = some u) (hO : v.Ok T) (hT : T < 4398046511104) (hI : Ints .u8 w a xs.length c xs) (hP : ∀ z, a = some z → P z.block) (hn : v.held.length + xs.length ≤ 65536) :
    Calls Try.prog 41 #[.pointer (some ⟨g, o, none⟩), .iface 83 (.slice a xs.length c)] w fun q w' => ∃ y L', q = .returned (.tuple #[]) ∧ Blk w' g t (overV cs o (fC y (v.step (.put xs)))) ∧ FlAt L' P w' i y (v.step (.put xs)) ∧ WentF i L P w L' P w' := by
  obtain ⟨i7, hi7, hz0, hz1, hz2⟩ := info_stp
  have hst : StAt P w (.iface 83 (.slice a xs.length c)) (.put xs) := ⟨a, c, rfl, hI, hP⟩
  have hU := uOf_any hst
  have hme := meth_put (.slice a xs.length c)
  have hna := ahead_put (.slice a xs.length c)
  have hgs := hb.lt
  obtain ⟨c0, c1, c2, c3, c4⟩ := fcells hb hc
  have hlen := hO.len
  have hun := hO.un
  have hnd := hO.need
  have hhl := FlV.held_le v
  have hfit : o + 5 ≤ cs.length := by
    have := (List.getElem?_eq_some_iff.1 (hc 4 _ rfl)).1
    omega
  obtain ⟨vs, hvo, hvs⟩ := hx.s.o
  have hvo1 : (w.alloc (.cells #[.iface 83 (.slice a xs.length c)] 76)).ownsRow 0 76 1 (.slice x.sa v.S.length x.sc) v.S.length vs := own_same hvo (fun b hb' => (below1 w _).block b (hvo.lt b hb').2)
  have hb1 : Blk (w.alloc (.cells #[.iface 83 (.slice a xs.length c)] 76)) g t cs := hb.alloc _
  have hB1 := below1 w (.cells #[.iface 83 (.slice a xs.length c)] 76)
  have hnews := cell_one_new w (.iface 83 (.slice a xs.length c)) 76
  have hone : ∀ u ∈ ([.iface 83 (.slice a xs.length c)] : List Value), u.oneCell' = true := by
    intro u hu
    simp only [List.mem_singleton] at hu
    rw [hu]
    exact hst.one
  obtain ⟨M, hM⟩ : ∃ M, v.S.length = M := ⟨_, rfl⟩
  rw [hM] at hvo1 c1
  have hMH := Lib.hid hM
  clear hM
  go_enter Try.func41, Try.ntmps41
  go_wp2_with fail
  refine hU.mono ?_
  rintro q w0 ⟨rfl, hw0⟩
  subst hw0
  go_wp2_with (at_builtin
               refine wpList_append_own_at _ rfl (.tmp 11) (.tmp 13) 55 rfl 0 76 i7 .nilIface 1 16 Try.underlying55 hi7 hz0 hz1 hz2 rfl (by decide) _ M vs rfl hvo1 ⟨w0.heap.size, 0, none⟩ 1 1 [.iface 83 (.slice a xs.length c)] rfl rfl hnews hone ?_ ?_ (Nat.zero_le _) ?_
               (have := hMH.out; unfold maxLen; omega)
               (have := hMH.out; omega)
               intro v2 w2 own2 g2 hnil2 hat2
               refine RowKit.Hid.out ?_)
  refine Lib.hid ?_
  have hex : ∃ a2 d2, v2 = .slice a2 (M + 1) d2 := own_slice own2
  obtain ⟨a2, d2, hv2⟩ := hex
  subst hv2
  have own2' := own2
  have hat2' : (Value.slice a2 (M + 1) d2).ownBlock = (Value.slice x.sa M x.sc).ownBlock ∨ (Value.slice a2 (M + 1) d2).ownBlock = some (w0.alloc (.cells #[.iface 83 (.slice a xs.length c)] 76)).heap.size := hat2
  have g2' : (w0.alloc (.cells #[.iface 83 (.slice a xs.length c)] 76)).grownBy w2 (Value.slice x.sa M x.sc).ownBlock := g2
  have hgne : some g ≠ (Value.slice x.sa M x.sc).ownBlock := fun e => by
    obtain ⟨z, hz, hzb⟩ := slice_block e.symm
    have h9 := hx.s.l z hz
    rw [hzb] at h9
    omega
  have hb2 : Blk w2 g t cs := hb1.grown g2' hgne
  have e1 := hb2.cell (o + 1)
  rw [hc 1 _ rfl] at e1
  have f1 := hb2.frozen (o + 1)
  have B3 := hb2.set (o + 1) (.slice a2 (M + 1) d2)
  have e4 := B3.cell (o + 4)
  rw [List.getElem?_set_ne (by omega), hc 4 _ rfl] at e4
  have f4 := B3.frozen (o + 4)
  have B4 := B3.set (o + 4) (.int .i64 ((v.units : Int) + (xs.length : Int)))
  obtain ⟨cs4, hcs4⟩ : ∃ c, (cs.set (o + 1) (.slice a2 (M + 1) d2)).set (o + 4) (.int .i64 ((v.units : Int) + (xs.length : Int))) = c := ⟨_, rfl⟩
  rw [hcs4] at B4
  have g4 : w2.grownBy ((w2.setCell ⟨g, o + 1, none⟩ (.slice a2 (M + 1) d2)).setCell ⟨g, o + 4, none⟩ (.int .i64 ((v.units : Int) + (xs.length : Int)))).drew (some g) := grown_drew (grown_trans (grown_setCell _ _ _ _) (grown_setCell _ _ _ _))
  have B4D : Blk ((w2.setCell ⟨g, o + 1, none⟩ (.slice a2 (M + 1) d2)).setCell ⟨g, o + 4, none⟩ (.int .i64 ((v.units : Int) + (xs.length : Int)))).drew g t cs4 := B4
  have hmid : ∀ b, b < w0.heap.size → L b ≠ 1 → L b ≠ 3 + 2 * i → ((w2.setCell ⟨g, o + 1, none⟩ (.slice a2 (M + 1) d2)).setCell ⟨g, o + 4, none⟩ (.int .i64 ((v.units : Int) + (xs.length : Int)))).drew.heap[b]? = w0.heap[b]? := fun b hb0 h1 h3 => by
    have hz1 := hB1.size
    have hz2 := g2'.size
    rw [g4.block b (by omega) (fun e => by injection e with e; exact h1 (e ▸ hg1)), g2'.block b (by omega) (fun e => by
      obtain ⟨z, hz, hzb⟩ := slice_block e.symm
      have h9 := hx.s.l z hz
      rw [hzb] at h9
      exact h3 h9), hB1.block b hb0]
  obtain ⟨V, hV⟩ : ∃ V, ((w2.setCell ⟨g, o + 1, none⟩ (.slice a2 (M + 1) d2)).setCell ⟨g, o + 4, none⟩ (.int .i64 ((v.units : Int) + (xs.length : Int)))).drew = V := ⟨_, rfl⟩
  rw [hV] at g4 B4D hmid
  have hVH := Lib.hid hV
  have hH4 : V.ownsRow 0 5 1 (.slice x.ha v.held.length x.hc) v.held.length (v.held.map (Value.int .u8)) := own_same hx.h.o (fun b hb => by
    obtain ⟨z, hz, hzb⟩ := slice_block hb
    have h9 := hx.h.l z hz
    rw [hzb] at h9
    exact hmid b (hl.l b (by omega)) (by omega) (by omega))
  have hI4 : Ints .u8 V a xs.length c xs := ints_same hI (fun z hz => by have h9 := hl.p _ (hP z hz); exact hmid _ h9.1 (by omega) (by omega))
  have hD := dPutDo_any hI4 hH4 xs.length (Nat.le_refl _) (by omega) (Nat.zero_le _)
  rw [List.take_length, ← StV.all_put, ← FlV.step_held] at hD
  have e2 := B4D.cell (o + 2)
  rw [← hcs4, List.getElem?_set_ne (by omega), List.getElem?_set_ne (by omega), hc 2 _ rfl] at e2
  have hlenV := own2.lt
  have hcs4H := Lib.hid hcs4
  have hcH := Lib.hid hc
  have ownH := Lib.hid own2'
  have hatH := Lib.hid hat2'
  have hxH := Lib.hid hx
  have hlH := Lib.hid hl
  have hstH := Lib.hid hst
  have hgrH := Lib.hid g2'
  have hBHH := Lib.hid hB1
  have huN : StV.units (.put xs) = xs.length := rfl
  clear hV hmid B4 g2 g2' hcs4 own2 own2' hat2 hat2' hvo hvo1 hnews hone c0 c1 c2 c3 c4 hb2 hnil2 hgne hb1 hB1 hU hi7 hz0 hz1 hz2 hb
  go_wp2_with fail
  refine region_seqS (fun _ => True) (by kernel_rfl) trivial ?_
  simp only [pairs, Nat.reduceAdd]
  rw [hVH.out]
  repeat (first
    | (refine SeqS.take (v := ?_) (by first | assumption | trivial) (by kernel_rfl) (by decide +kernel) (by decide +kernel) (Or.inl ⟨by rfl, ?_⟩) ?_
       rotate_left
       focus
         intro w' hb'
         go_simp
         with_reducible rfl
       simp only [Act.put, List.setIfInBounds_toArray, List.set_cons_zero, List.set_cons_succ])
    | (refine SeqS.take (v := ?_) (by first | assumption | trivial) (by kernel_rfl) (by decide +kernel) (by decide +kernel) (Or.inl ⟨by rfl, ?_⟩) ?_
       rotate_left
       focus
         intro w' hb'
         have d0 := hna
         go_simp
         with_reducible rfl
       simp only [Act.put, List.setIfInBounds_toArray, List.set_cons_zero, List.set_cons_succ])
    | (refine SeqS.take (v := undef) (by first | assumption | trivial) (by kernel_rfl) (by decide +kernel) (by decide +kernel) (Or.inr ⟨by rfl, rfl⟩) ?_
       simp only [Act.put, List.setIfInBounds_toArray, List.set_cons_zero, List.set_cons_succ])
    | (refine SeqS.take1 (v := ?_) (by first | assumption | trivial) (by kernel_rfl) (by decide +kernel) (by decide +kernel) (Or.inl ⟨by rfl, ?_⟩) ?_
       rotate_left
       focus
         intro w' hb'
         go_simp
         with_reducible rfl
       simp only [Act.put, List.setIfInBounds_toArray, List.set_cons_zero, List.set_cons_succ])
    | (refine SeqS.take1 (v := ?_) (by first | assumption | trivial) (by kernel_rfl) (by decide +kernel) (by decide +kernel) (Or.inl ⟨by rfl, ?_⟩) ?_
       rotate_left
       focus
         intro w' hb'
         have d0 := hna
         go_simp
         with_reducible rfl
       simp only [Act.put, List.setIfInBounds_toArray, List.set_cons_zero, List.set_cons_succ])
    | (refine SeqS.take1 (v := undef) (by first | assumption | trivial) (by kernel_rfl) (by decide +kernel) (by decide +kernel) (Or.inr ⟨by rfl, rfl⟩) ?_
       simp only [Act.put, List.setIfInBounds_toArray, List.set_cons_zero, List.set_cons_succ])
    | (refine SeqS.take2 (v := ?_) (by first | assumption | trivial) (by kernel_rfl) (by decide +kernel) (by decide +kernel) (Or.inl ⟨by rfl, ?_⟩) ?_
       rotate_left
       focus
         intro w' hb'
         go_simp
         with_reducible rfl
       simp only [Act.put, List.setIfInBounds_toArray, List.set_cons_zero, List.set_cons_succ])
    | (refine SeqS.take2 (v := ?_) (by first | assumption | trivial) (by kernel_rfl) (by decide +kernel) (by decide +kernel) (Or.inl ⟨by rfl, ?_⟩) ?_
       rotate_left
       focus
         intro w' hb'
         have d0 := hna
         go_simp
         with_reducible rfl
       simp only [Act.put, List.setIfInBounds_toArray, List.set_cons_zero, List.set_cons_succ])
    | (refine SeqS.take2 (v := undef) (by first | assumption | trivial) (by kernel_rfl) (by decide +kernel) (by decide +kernel) (Or.inr ⟨by rfl, rfl⟩) ?_
       simp only [Act.put, List.setIfInBounds_toArray, List.set_cons_zero, List.set_cons_succ])
    | (refine SeqS.take3 (v := ?_) (by first | assumption | trivial) (by kernel_rfl) (by decide +kernel) (by decide +kernel) (Or.inl ⟨by rfl, ?_⟩) ?_
       rotate_left
       focus
         intro w' hb'
         go_simp
         with_reducible rfl
       simp only [Act.put, List.setIfInBounds_toArray, List.set_cons_zero, List.set_cons_succ])
    | (refine SeqS.take3 (v := ?_) (by first | assumption | trivial) (by kernel_rfl) (by decide +kernel) (by decide +kernel) (Or.inl ⟨by rfl, ?_⟩) ?_
       rotate_left
       focus
         intro w' hb'
         have d0 := hna
         go_simp
         with_reducible rfl
       simp only [Act.put, List.setIfInBounds_toArray, List.set_cons_zero, List.set_cons_succ])
    | (refine SeqS.take3 (v := undef) (by first | assumption | trivial) (by kernel_rfl) (by decide +kernel) (by decide +kernel) (Or.inr ⟨by rfl, rfl⟩) ?_
       simp only [Act.put, List.setIfInBounds_toArray, List.set_cons_zero, List.set_cons_succ]))
  refine SeqS.alone (by decide +kernel) (by rfl) (fun K5 hK5 => ?_)
  go_simp
  refine hK5 _ _ trivial ?_
  clear hK5 K5
  (try simp only [Act.put, List.setIfInBounds_toArray, List.set_cons_zero, List.set_cons_succ])
  refine SeqS.alone (by decide +kernel) (by rfl) (fun K5 hK5 => ?_)
  go_simp
  refine hD.mono ?_
  rintro q w5 ⟨v5, rfl, hbc⟩
  go_simp
  have hbcH := Lib.hid hbc
  obtain ⟨a5, d5, hv5, own5, hat5⟩ := hbc.is
  have hlen5 := FlV.step_held v (.put xs)
  have hnd5 := FlV.step_need v (.put xs)
  rw [← hlen5] at hnd5
  obtain ⟨N5, hN5⟩ : ∃ N5, (v.step (.put xs)).held.length = N5 := ⟨_, rfl⟩
  rw [hN5] at hv5 hnd5
  subst hv5
  have hgne5 : some g ≠ (Value.slice x.ha v.held.length x.hc).ownBlock := fun e => by
    obtain ⟨z, hz, hzb⟩ := slice_block e.symm
    have h9 := hxH.out.h.l z hz
    rw [hzb] at h9
    omega
  have B5 : Blk w5 g t cs4 := B4D.grown hbc.gr hgne5
  have e5 := B5.cell (o + 2)
  rw [← hcs4H.out, List.getElem?_set_ne (by omega), List.getElem?_set_ne (by omega), hcH.out 2 _ rfl] at e5
  have f5 := B5.frozen (o + 2)
  have B6 := B5.set (o + 2) (.slice a5 N5 d5)
  have l4 : cs4.length = cs.length := by rw [← hcs4H.out, List.length_set, List.length_set]
  have e62 := B6.cell (o + 2)
  rw [List.getElem?_set_self (by rw [l4]; omega)] at e62
  have e63 := B6.cell (o + 3)
  rw [List.getElem?_set_ne (by omega), ← hcs4H.out, List.getElem?_set_ne (by omega), List.getElem?_set_ne (by omega), hcH.out 3 _ rfl] at e63
  have f63 := B6.frozen (o + 3)
  have hN5H := Lib.hid hN5
  have hnd5H := Lib.hid hnd5
  have B5H := Lib.hid B5
  clear hbc own5 hat5 hlen5 hgne5 hN5 hnd5 B5 l4
  refine hK5 _ _ trivial ?_
  clear hK5 K5
  (try simp only [Act.put, List.setIfInBounds_toArray, List.set_cons_zero, List.set_cons_succ])
  repeat (first
    | (refine SeqS.take (v := ?_) (by first | assumption | trivial) (by kernel_rfl) (by decide +kernel) (by decide +kernel) (Or.inl ⟨by rfl, ?_⟩) ?_
       rotate_left
       focus
         intro w' hb'
         go_simp
         with_reducible rfl
       simp only [Act.put, List.setIfInBounds_toArray, List.set_cons_zero, List.set_cons_succ])
    | (refine SeqS.take (v := undef) (by first | assumption | trivial) (by kernel_rfl) (by decide +kernel) (by decide +kernel) (Or.inr ⟨by rfl, rfl⟩) ?_
       simp only [Act.put, List.setIfInBounds_toArray, List.set_cons_zero, List.set_cons_succ])
    | (refine SeqS.take1 (v := ?_) (by first | assumption | trivial) (by kernel_rfl) (by decide +kernel) (by decide +kernel) (Or.inl ⟨by rfl, ?_⟩) ?_
       rotate_left
       focus
         intro w' hb'
         go_simp
         with_reducible rfl
       simp only [Act.put, List.setIfInBounds_toArray, List.set_cons_zero, List.set_cons_succ])
    | (refine SeqS.take1 (v := undef) (by first | assumption | trivial) (by kernel_rfl) (by decide +kernel) (by decide +kernel) (Or.inr ⟨by rfl, rfl⟩) ?_
       simp only [Act.put, List.setIfInBounds_toArray, List.set_cons_zero, List.set_cons_succ])
    | (refine SeqS.take2 (v := ?_) (by first | assumption | trivial) (by kernel_rfl) (by decide +kernel) (by decide +kernel) (Or.inl ⟨by rfl, ?_⟩) ?_
       rotate_left
       focus
         intro w' hb'
         go_simp
         with_reducible rfl
       simp only [Act.put, List.setIfInBounds_toArray, List.set_cons_zero, List.set_cons_succ])
    | (refine SeqS.take2 (v := undef) (by first | assumption | trivial) (by kernel_rfl) (by decide +kernel) (by decide +kernel) (Or.inr ⟨by rfl, rfl⟩) ?_
       simp only [Act.put, List.setIfInBounds_toArray, List.set_cons_zero, List.set_cons_succ]))
  refine SeqS.alone (by decide +kernel) (by rfl) (fun K5 hK5 => ?_)
  go_simp
  refine hK5 _ _ trivial ?_
  clear hK5 K5
  refine SeqS.done (by decide +kernel) ?_
  go_wp2_with fail
  have e62V : (w5.setCell ⟨g, o + 2, none⟩ (.slice a5 N5 d5)).drew.cell? ⟨g, o + 2, none⟩ = some (.slice a5 N5 d5) := e62
  have e63V : (w5.setCell ⟨g, o + 2, none⟩ (.slice a5 N5 d5)).drew.cell? ⟨g, o + 3, none⟩ = some (.int .i64 (v.need : Nat)) := e63
  have f63V : (w5.setCell ⟨g, o + 2, none⟩ (.slice a5 N5 d5)).drew.frozen? ⟨g, o + 3, none⟩ = false := f63
  have B6V : Blk (w5.setCell ⟨g, o + 2, none⟩ (.slice a5 N5 d5)).drew g t (cs4.set (o + 2) (.slice a5 N5 d5)) := B6
  have g6 : w5.grownBy (w5.setCell ⟨g, o + 2, none⟩ (.slice a5 N5 d5)).drew (some g) := grown_drew (grown_setCell _ _ _ _)
  obtain ⟨X, hX⟩ : ∃ X : Nat, (v.step (.put xs)).need = X := ⟨_, rfl⟩
  have B7 := B6V.set (o + 3) (.int .i64 (X : Int))
  have g7 := grown_trans g6 (grown_setCell _ g (o + 3) (.int .i64 (X : Int)))
  have hfin := take_fin hlH.out hg1 hxH.out hstH.out hvs hMH.out hBHH.out ownH.out hgrH.out hatH.out g4 hbcH.out g7
  have hun9 : (v.step (.put xs)).units = v.units + xs.length := FlV.step_units v (.put xs)
  rw [hX, hun9] at hfin
  have k9 := hcH.out 0 _ rfl
  have so9 := sets_over cs o (.slice x.ka v.K.length x.kc) (.slice a2 (M + 1) d2) (.slice a5 N5 d5) (.int .i64 (X : Int)) (.int .i64 ((v.units : Int) + (xs.length : Int))) hfit k9
  rw [hcs4H.out] at so9
  rw [so9] at B7
  obtain ⟨y, L', hy, hfy, hwy⟩ := hfin
  have hy2 : fC y (v.step (.put xs)) = [.slice x.ka v.K.length x.kc, .slice a2 (M + 1) d2, .slice a5 N5 d5, .int .i64 (X : Int), .int .i64 ((v.units : Int) + (xs.length : Int))] := by rw [hy]; congr 5
  rw [← hy2] at B7
  have hX2 := hnd5H.out
  rw [hX] at hX2
  obtain ⟨V6, hV6⟩ : ∃ V6, (w5.setCell ⟨g, o + 2, none⟩ (.slice a5 N5 d5)).drew = V6 := ⟨_, rfl⟩
  rw [hV6] at e62V e63V f63V B7 hfy hwy
  have hV6H := Lib.hid hV6
  have hB7H := Lib.hid B7
  have hfyH := Lib.hid hfy
  have hwyH := Lib.hid hwy
  clear hV6 B7 hfy hwy B6V g6 g7 e62 e63 f63 hX so9 k9 hy hy2 hun9 hbcH hD hH4 e1 f1 e2 e4 f4 B3 B4D e5 f5 B6 B5H hatH ownH hlH hgrH hBHH hcH hcs4H hN5H hnd5H hst hx hl hvs hMH hstH hxH hc hme hna hI hI4 hP hn
  have hmv : (if v.need < N5 then (N5 : Int) else (v.need : Int)) = (X : Int) := by split <;> omega
  clear hX2
  refine region_seqS (fun w' => w'.cell? ⟨g, o + 2, none⟩ = some (.slice a5 N5 d5)) (by kernel_rfl) (by rw [hV6H.out]; exact e62V) ?_
  simp only [pairs, Nat.reduceAdd]
  rw [hV6H.out]
  repeat (first
    | (refine SeqS.take (v := ?_) (by first | assumption | trivial) (by kernel_rfl) (by decide +kernel) (by decide +kernel) (Or.inl ⟨by rfl, ?_⟩) ?_
       rotate_left
       focus
         intro w' hb'
         go_simp
         with_reducible rfl
       simp only [Act.put, List.setIfInBounds_toArray, List.set_cons_zero, List.set_cons_succ])
    | (refine SeqS.take (v := ?_) (by first | assumption | trivial) (by kernel_rfl) (by decide +kernel) (by decide +kernel) (Or.inl ⟨by rfl, ?_⟩) ?_
       rotate_left
       focus
         intro w' hb'
         have d0 := hb'
         go_simp
         with_reducible rfl
       simp only [Act.put, List.setIfInBounds_toArray, List.set_cons_zero, List.set_cons_succ])
    | (refine SeqS.take (v := undef) (by first | assumption | trivial) (by kernel_rfl) (by decide +kernel) (by decide +kernel) (Or.inr ⟨by rfl, rfl⟩) ?_
       simp only [Act.put, List.setIfInBounds_toArray, List.set_cons_zero, List.set_cons_succ])
    | (refine SeqS.take1 (v := ?_) (by first | assumption | trivial) (by kernel_rfl) (by decide +kernel) (by decide +kernel) (Or.inl ⟨by rfl, ?_⟩) ?_
       rotate_left
       focus
         intro w' hb'
         go_simp
         with_reducible rfl
       simp only [Act.put, List.setIfInBounds_toArray, List.set_cons_zero, List.set_cons_succ])
    | (refine SeqS.take1 (v := ?_) (by first | assumption | trivial) (by kernel_rfl) (by decide +kernel) (by decide +kernel) (Or.inl ⟨by rfl, ?_⟩) ?_
       rotate_left
       focus
         intro w' hb'
         have d0 := hb'
         go_simp
         with_reducible rfl
       simp only [Act.put, List.setIfInBounds_toArray, List.set_cons_zero, List.set_cons_succ])
    | (refine SeqS.take1 (v := undef) (by first | assumption | trivial) (by kernel_rfl) (by decide +kernel) (by decide +kernel) (Or.inr ⟨by rfl, rfl⟩) ?_
       simp only [Act.put, List.setIfInBounds_toArray, List.set_cons_zero, List.set_cons_succ])
    | (refine SeqS.take2 (v := ?_) (by first | assumption | trivial) (by kernel_rfl) (by decide +kernel) (by decide +kernel) (Or.inl ⟨by rfl, ?_⟩) ?_
       rotate_left
       focus
         intro w' hb'
         go_simp
         with_reducible rfl
       simp only [Act.put, List.setIfInBounds_toArray, List.set_cons_zero, List.set_cons_succ])
    | (refine SeqS.take2 (v := ?_) (by first | assumption | trivial) (by kernel_rfl) (by decide +kernel) (by decide +kernel) (Or.inl ⟨by rfl, ?_⟩) ?_
       rotate_left
       focus
         intro w' hb'
         have d0 := hb'
         go_simp
         with_reducible rfl
       simp only [Act.put, List.setIfInBounds_toArray, List.set_cons_zero, List.set_cons_succ])
    | (refine SeqS.take2 (v := undef) (by first | assumption | trivial) (by kernel_rfl) (by decide +kernel) (by decide +kernel) (Or.inr ⟨by rfl, rfl⟩) ?_
       simp only [Act.put, List.setIfInBounds_toArray, List.set_cons_zero, List.set_cons_succ]))
  refine SeqS.alone (by decide +kernel) (by rfl) (fun K5 hK5 => ?_)
  go_simp
  refine hK5 _ _ e62V ?_
  clear hK5 K5
  (try simp only [Act.put, List.setIfInBounds_toArray, List.set_cons_zero, List.set_cons_succ])
  refine SeqS.alone (by decide +kernel) (by rfl) (fun K5 hK5 => ?_)
  go_simp
  (try rw [hmv])
  refine hK5 _ _ e62V ?_
  clear hK5 K5
  (try simp only [Act.put, List.setIfInBounds_toArray, List.set_cons_zero, List.set_cons_succ])
  repeat (first
    | (refine SeqS.take (v := ?_) (by first | assumption | trivial) (by kernel_rfl) (by decide +kernel) (by decide +kernel) (Or.inl ⟨by rfl, ?_⟩) ?_
       rotate_left
       focus
         intro w' hb'
         go_simp
         with_reducible rfl
       simp only [Act.put, List.setIfInBounds_toArray, List.set_cons_zero, List.set_cons_succ])
    | (refine SeqS.take (v := undef) (by first | assumption | trivial) (by kernel_rfl) (by decide +kernel) (by decide +kernel) (Or.inr ⟨by rfl, rfl⟩) ?_
       simp only [Act.put, List.setIfInBounds_toArray, List.set_cons_zero, List.set_cons_succ])
    | (refine SeqS.take1 (v := ?_) (by first | assumption | trivial) (by kernel_rfl) (by decide +kernel) (by decide +kernel) (Or.inl ⟨by rfl, ?_⟩) ?_
       rotate_left
       focus
         intro w' hb'
         go_simp
         with_reducible rfl
       simp only [Act.put, List.setIfInBounds_toArray, List.set_cons_zero, List.set_cons_succ])
    | (refine SeqS.take1 (v := undef) (by first | assumption | trivial) (by kernel_rfl) (by decide +kernel) (by decide +kernel) (Or.inr ⟨by rfl, rfl⟩) ?_
       simp only [Act.put, List.setIfInBounds_toArray, List.set_cons_zero, List.set_cons_succ])
    | (refine SeqS.take2 (v := ?_) (by first | assumption | trivial) (by kernel_rfl) (by decide +kernel) (by decide +kernel) (Or.inl ⟨by rfl, ?_⟩) ?_
       rotate_left
       focus
         intro w' hb'
         go_simp
         with_reducible rfl
       simp only [Act.put, List.setIfInBounds_toArray, List.set_cons_zero, List.set_cons_succ])
    | (refine SeqS.take2 (v := undef) (by first | assumption | trivial) (by kernel_rfl) (by decide +kernel) (by decide +kernel) (Or.inr ⟨by rfl, rfl⟩) ?_
       simp only [Act.put, List.setIfInBounds_toArray, List.set_cons_zero, List.set_cons_succ]))
  have e7 : (V6.setCell ⟨g, o + 3, none⟩ (.int .i64 (X : Int))).cell? ⟨g, o + 2, none⟩ = some (.slice a5 N5 d5) := by
    rw [World.cell?_setCell_other]
    · exact e62V
    · intro e
      injection e with _ e
      omega
  refine SeqS.alone (by decide +kernel) (by rfl) (fun K5 hK5 => ?_)
  go_simp
  refine hK5 _ _ e7 ?_
  clear hK5 K5
  refine SeqS.done (by decide +kernel) ?_
  (try simp only [Exit.inBlock, Exit.then])
  first
    | go_end0
    | refine bodyPost_ret (results_none rfl _ _ _) rfl ?_
  exact ⟨y, L', rfl, hB7H.out, hfyH.out, hwyH.out⟩

set_option maxRecDepth 100000 in
set_option maxHeartbeats 2000000 in
theorem dTake_cut {L : Nat → Nat} {P : Nat → Prop} {w : World} {i g o : Nat} {t : TypeId} {cs : List Value} {x : FaV} {v : FlV} {T : Nat} {k : Nat} (hl : LabAt L P w) (hg1 : L g = 1) (hx : FlAt L P w i x v) (hb : Blk w g t cs) (hc : ∀ j u, (fC x v)[j]? = some u → cs[o + j]? = some u) (hO : v.Ok T) (hT : T < 4398046511104) (hk : k ≤ v.held.length) :
    Calls Try.prog 41 #[.pointer (some ⟨g, o, none⟩), .iface 88 (.int .i64 (k : Int))] w fun q w' => ∃ y L', q = .returned (.tuple #[]) ∧ Blk w' g t (overV cs o (fC y (v.step (.cut k)))) ∧ FlAt L' P w' i y (v.step (.cut k)) ∧ WentF i L P w L' P w' := by
  obtain ⟨i7, hi7, hz0, hz1, hz2⟩ := info_stp
  have hst : StAt P w (.iface 88 (.int .i64 (k : Int))) (.cut k) := rfl
  have hU := uOf_any hst
  have hme := meth_cut (.int .i64 (k : Int))
  have hna := ahead_cut (.int .i64 (k : Int))
  have hgs := hb.lt
  obtain ⟨c0, c1, c2, c3, c4⟩ := fcells hb hc
  have hlen := hO.len
  have hun := hO.un
  have hnd := hO.need
  have hhl := FlV.held_le v
  have hfit : o + 5 ≤ cs.length := by
    have := (List.getElem?_eq_some_iff.1 (hc 4 _ rfl)).1
    omega
  obtain ⟨vs, hvo, hvs⟩ := hx.s.o
  have hvo1 : (w.alloc (.cells #[.iface 88 (.int .i64 (k : Int))] 76)).ownsRow 0 76 1 (.slice x.sa v.S.length x.sc) v.S.length vs := own_same hvo (fun b hb' => (below1 w _).block b (hvo.lt b hb').2)
  have hb1 : Blk (w.alloc (.cells #[.iface 88 (.int .i64 (k : Int))] 76)) g t cs := hb.alloc _
  have hB1 := below1 w (.cells #[.iface 88 (.int .i64 (k : Int))] 76)
  have hnews := cell_one_new w (.iface 88 (.int .i64 (k : Int))) 76
  have hone : ∀ u ∈ ([.iface 88 (.int .i64 (k : Int))] : List Value), u.oneCell' = true := by
    intro u hu
    simp only [List.mem_singleton] at hu
    rw [hu]
    exact hst.one
  obtain ⟨M, hM⟩ : ∃ M, v.S.length = M := ⟨_, rfl⟩
  rw [hM] at hvo1 c1
  have hMH := Lib.hid hM
  clear hM
  go_enter Try.func41, Try.ntmps41
  go_wp2_with fail
  refine hU.mono ?_
  rintro q w0 ⟨rfl, hw0⟩
  subst hw0
  go_wp2_with (at_builtin
               refine wpList_append_own_at _ rfl (.tmp 11) (.tmp 13) 55 rfl 0 76 i7 .nilIface 1 16 Try.underlying55 hi7 hz0 hz1 hz2 rfl (by decide) _ M vs rfl hvo1 ⟨w0.heap.size, 0, none⟩ 1 1 [.iface 88 (.int .i64 (k : Int))] rfl rfl hnews hone ?_ ?_ (Nat.zero_le _) ?_
               (have := hMH.out; unfold maxLen; omega)
               (have := hMH.out; omega)
               intro v2 w2 own2 g2 hnil2 hat2
               refine RowKit.Hid.out ?_)
  refine Lib.hid ?_
  have hex : ∃ a2 d2, v2 = .slice a2 (M + 1) d2 := own_slice own2
  obtain ⟨a2, d2, hv2⟩ := hex
  subst hv2
  have own2' := own2
  have hat2' : (Value.slice a2 (M + 1) d2).ownBlock = (Value.slice x.sa M x.sc).ownBlock ∨ (Value.slice a2 (M + 1) d2).ownBlock = some (w0.alloc (.cells #[.iface 88 (.int .i64 (k : Int))] 76)).heap.size := hat2
  have g2' : (w0.alloc (.cells #[.iface 88 (.int .i64 (k : Int))] 76)).grownBy w2 (Value.slice x.sa M x.sc).ownBlock := g2
  have hgne : some g ≠ (Value.slice x.sa M x.sc).ownBlock := fun e => by
    obtain ⟨z, hz, hzb⟩ := slice_block e.symm
    have h9 := hx.s.l z hz
    rw [hzb] at h9
    omega
  have hb2 : Blk w2 g t cs := hb1.grown g2' hgne
  have e1 := hb2.cell (o + 1)
  rw [hc 1 _ rfl] at e1
  have f1 := hb2.frozen (o + 1)
  have B3 := hb2.set (o + 1) (.slice a2 (M + 1) d2)
  have e4 := B3.cell (o + 4)
  rw [List.getElem?_set_ne (by omega), hc 4 _ rfl] at e4
  have f4 := B3.frozen (o + 4)
  have B4 := B3.set (o + 4) (.int .i64 ((v.units : Int) + 1))
  obtain ⟨cs4, hcs4⟩ : ∃ c, (cs.set (o + 1) (.slice a2 (M + 1) d2)).set (o + 4) (.int .i64 ((v.units : Int) + 1)) = c := ⟨_, rfl⟩
  rw [hcs4] at B4
  have g4 : w2.grownBy ((w2.setCell ⟨g, o + 1, none⟩ (.slice a2 (M + 1) d2)).setCell ⟨g, o + 4, none⟩ (.int .i64 ((v.units : Int) + 1))).drew (some g) := grown_drew (grown_trans (grown_setCell _ _ _ _) (grown_setCell _ _ _ _))
  have B4D : Blk ((w2.setCell ⟨g, o + 1, none⟩ (.slice a2 (M + 1) d2)).setCell ⟨g, o + 4, none⟩ (.int .i64 ((v.units : Int) + 1))).drew g t cs4 := B4
  have hmid : ∀ b, b < w0.heap.size → L b ≠ 1 → L b ≠ 3 + 2 * i → ((w2.setCell ⟨g, o + 1, none⟩ (.slice a2 (M + 1) d2)).setCell ⟨g, o + 4, none⟩ (.int .i64 ((v.units : Int) + 1))).drew.heap[b]? = w0.heap[b]? := fun b hb0 h1 h3 => by
    have hz1 := hB1.size
    have hz2 := g2'.size
    rw [g4.block b (by omega) (fun e => by injection e with e; exact h1 (e ▸ hg1)), g2'.block b (by omega) (fun e => by
      obtain ⟨z, hz, hzb⟩ := slice_block e.symm
      have h9 := hx.s.l z hz
      rw [hzb] at h9
      exact h3 h9), hB1.block b hb0]
  obtain ⟨V, hV⟩ : ∃ V, ((w2.setCell ⟨g, o + 1, none⟩ (.slice a2 (M + 1) d2)).setCell ⟨g, o + 4, none⟩ (.int .i64 ((v.units : Int) + 1))).drew = V := ⟨_, rfl⟩
  rw [hV] at g4 B4D hmid
  have hVH := Lib.hid hV
  have hH4 : V.ownsRow 0 5 1 (.slice x.ha v.held.length x.hc) v.held.length (v.held.map (Value.int .u8)) := own_same hx.h.o (fun b hb => by
    obtain ⟨z, hz, hzb⟩ := slice_block hb
    have h9 := hx.h.l z hz
    rw [hzb] at h9
    exact hmid b (hl.l b (by omega)) (by omega) (by omega))
  have hD := dCutDo_any (k := k) hH4 1 (fun _ => hk)
  rw [if_neg (by decide), ← StV.all_cut, ← FlV.step_held] at hD
  have e2 := B4D.cell (o + 2)
  rw [← hcs4, List.getElem?_set_ne (by omega), List.getElem?_set_ne (by omega), hc 2 _ rfl] at e2
  have hlenV := own2.lt
  have hcs4H := Lib.hid hcs4
  have hcH := Lib.hid hc
  have ownH := Lib.hid own2'
  have hatH := Lib.hid hat2'
  have hxH := Lib.hid hx
  have hlH := Lib.hid hl
  have hstH := Lib.hid hst
  have hgrH := Lib.hid g2'
  have hBHH := Lib.hid hB1
  have huN : StV.units (.cut k) = 1 := rfl
  clear hV hmid B4 g2 g2' hcs4 own2 own2' hat2 hat2' hvo hvo1 hnews hone c0 c1 c2 c3 c4 hb2 hnil2 hgne hb1 hB1 hU hi7 hz0 hz1 hz2 hb
  go_wp2_with fail
  refine region_seqS (fun _ => True) (by kernel_rfl) trivial ?_
  simp only [pairs, Nat.reduceAdd]
  rw [hVH.out]
  repeat (first
    | (refine SeqS.take (v := ?_) (by first | assumption | trivial) (by kernel_rfl) (by decide +kernel) (by decide +kernel) (Or.inl ⟨by rfl, ?_⟩) ?_
       rotate_left
       focus
         intro w' hb'
         go_simp
         with_reducible rfl
       simp only [Act.put, List.setIfInBounds_toArray, List.set_cons_zero, List.set_cons_succ])
    | (refine SeqS.take (v := ?_) (by first | assumption | trivial) (by kernel_rfl) (by decide +kernel) (by decide +kernel) (Or.inl ⟨by rfl, ?_⟩) ?_
       rotate_left
       focus
         intro w' hb'
         have d0 := hna
         go_simp
         with_reducible rfl
       simp only [Act.put, List.setIfInBounds_toArray, List.set_cons_zero, List.set_cons_succ])
    | (refine SeqS.take (v := undef) (by first | assumption | trivial) (by kernel_rfl) (by decide +kernel) (by decide +kernel) (Or.inr ⟨by rfl, rfl⟩) ?_
       simp only [Act.put, List.setIfInBounds_toArray, List.set_cons_zero, List.set_cons_succ])
    | (refine SeqS.take1 (v := ?_) (by first | assumption | trivial) (by kernel_rfl) (by decide +kernel) (by decide +kernel) (Or.inl ⟨by rfl, ?_⟩) ?_
       rotate_left
       focus
         intro w' hb'
         go_simp
         with_reducible rfl
       simp only [Act.put, List.setIfInBounds_toArray, List.set_cons_zero, List.set_cons_succ])
    | (refine SeqS.take1 (v := ?_) (by first | assumption | trivial) (by kernel_rfl) (by decide +kernel) (by decide +kernel) (Or.inl ⟨by rfl, ?_⟩) ?_
       rotate_left
       focus
         intro w' hb'
         have d0 := hna
         go_simp
         with_reducible rfl
       simp only [Act.put, List.setIfInBounds_toArray, List.set_cons_zero, List.set_cons_succ])
    | (refine SeqS.take1 (v := undef) (by first | assumption | trivial) (by kernel_rfl) (by decide +kernel) (by decide +kernel) (Or.inr ⟨by rfl, rfl⟩) ?_
       simp only [Act.put, List.setIfInBounds_toArray, List.set_cons_zero, List.set_cons_succ])
    | (refine SeqS.take2 (v := ?_) (by first | assumption | trivial) (by kernel_rfl) (by decide +kernel) (by decide +kernel) (Or.inl ⟨by rfl, ?_⟩) ?_
       rotate_left
       focus
         intro w' hb'
         go_simp
         with_reducible rfl
       simp only [Act.put, List.setIfInBounds_toArray, List.set_cons_zero, List.set_cons_succ])
    | (refine SeqS.take2 (v := ?_) (by first | assumption | trivial) (by kernel_rfl) (by decide +kernel) (by decide +kernel) (Or.inl ⟨by rfl, ?_⟩) ?_
       rotate_left
       focus
         intro w' hb'
         have d0 := hna
         go_simp
         with_reducible rfl
       simp only [Act.put, List.setIfInBounds_toArray, List.set_cons_zero, List.set_cons_succ])
    | (refine SeqS.take2 (v := undef) (by first | assumption | trivial) (by kernel_rfl) (by decide +kernel) (by decide +kernel) (Or.inr ⟨by rfl, rfl⟩) ?_
       simp only [Act.put, List.setIfInBounds_toArray, List.set_cons_zero, List.set_cons_succ])
    | (refine SeqS.take3 (v := ?_) (by first | assumption | trivial) (by kernel_rfl) (by decide +kernel) (by decide +kernel) (Or.inl ⟨by rfl, ?_⟩) ?_
       rotate_left
       focus
         intro w' hb'
         go_simp
         with_reducible rfl
       simp only [Act.put, List.setIfInBounds_toArray, List.set_cons_zero, List.set_cons_succ])
    | (refine SeqS.take3 (v := ?_) (by first | assumption | trivial) (by kernel_rfl) (by decide +kernel) (by decide +kernel) (Or.inl ⟨by rfl, ?_⟩) ?_
       rotate_left
       focus
         intro w' hb'
         have d0 := hna
         go_simp
         with_reducible rfl
       simp only [Act.put, List.setIfInBounds_toArray, List.set_cons_zero, List.set_cons_succ])
    | (refine SeqS.take3 (v := undef) (by first | assumption | trivial) (by kernel_rfl) (by decide +kernel) (by decide +kernel) (Or.inr ⟨by rfl, rfl⟩) ?_
       simp only [Act.put, List.setIfInBounds_toArray, List.set_cons_zero, List.set_cons_succ]))
  refine SeqS.alone (by decide +kernel) (by rfl) (fun K5 hK5 => ?_)
  go_simp
  refine hK5 _ _ trivial ?_
  clear hK5 K5
  (try simp only [Act.put, List.setIfInBounds_toArray, List.set_cons_zero, List.set_cons_succ])
  refine SeqS.alone (by decide +kernel) (by rfl) (fun K5 hK5 => ?_)
  go_simp
  refine hD.mono ?_
  rintro q w5 ⟨v5, rfl, hbc⟩
  go_simp
  have hbcH := Lib.hid hbc
  obtain ⟨a5, d5, hv5, own5, hat5⟩ := hbc.is
  have hlen5 := FlV.step_held v (.cut k)
  have hnd5 := FlV.step_need v (.cut k)
  rw [← hlen5] at hnd5
  obtain ⟨N5, hN5⟩ : ∃ N5, (v.step (.cut k)).held.length = N5 := ⟨_, rfl⟩
  rw [hN5] at hv5 hnd5
  subst hv5
  have hgne5 : some g ≠ (Value.slice x.ha v.held.length x.hc).ownBlock := fun e => by
    obtain ⟨z, hz, hzb⟩ := slice_block e.symm
    have h9 := hxH.out.h.l z hz
    rw [hzb] at h9
    omega
  have B5 : Blk w5 g t cs4 := B4D.grown hbc.gr hgne5
  have e5 := B5.cell (o + 2)
  rw [← hcs4H.out, List.getElem?_set_ne (by omega), List.getElem?_set_ne (by omega), hcH.out 2 _ rfl] at e5
  have f5 := B5.frozen (o + 2)
  have B6 := B5.set (o + 2) (.slice a5 N5 d5)
  have l4 : cs4.length = cs.length := by rw [← hcs4H.out, List.length_set, List.length_set]
  have e62 := B6.cell (o + 2)
  rw [List.getElem?_set_self (by rw [l4]; omega)] at e62
  have e63 := B6.cell (o + 3)
  rw [List.getElem?_set_ne (by omega), ← hcs4H.out, List.getElem?_set_ne (by omega), List.getElem?_set_ne (by omega), hcH.out 3 _ rfl] at e63
  have f63 := B6.frozen (o + 3)
  have hN5H := Lib.hid hN5
  have hnd5H := Lib.hid hnd5
  have B5H := Lib.hid B5
  clear hbc own5 hat5 hlen5 hgne5 hN5 hnd5 B5 l4
  refine hK5 _ _ trivial ?_
  clear hK5 K5
  (try simp only [Act.put, List.setIfInBounds_toArray, List.set_cons_zero, List.set_cons_succ])
  repeat (first
    | (refine SeqS.take (v := ?_) (by first | assumption | trivial) (by kernel_rfl) (by decide +kernel) (by decide +kernel) (Or.inl ⟨by rfl, ?_⟩) ?_
       rotate_left
       focus
         intro w' hb'
         go_simp
         with_reducible rfl
       simp only [Act.put, List.setIfInBounds_toArray, List.set_cons_zero, List.set_cons_succ])
    | (refine SeqS.take (v := undef) (by first | assumption | trivial) (by kernel_rfl) (by decide +kernel) (by decide +kernel) (Or.inr ⟨by rfl, rfl⟩) ?_
       simp only [Act.put, List.setIfInBounds_toArray, List.set_cons_zero, List.set_cons_succ])
    | (refine SeqS.take1 (v := ?_) (by first | assumption | trivial) (by kernel_rfl) (by decide +kernel) (by decide +kernel) (Or.inl ⟨by rfl, ?_⟩) ?_
       rotate_left
       focus
         intro w' hb'
         go_simp
         with_reducible rfl
       simp only [Act.put, List.setIfInBounds_toArray, List.set_cons_zero, List.set_cons_succ])
    | (refine SeqS.take1 (v := undef) (by first | assumption | trivial) (by kernel_rfl) (by decide +kernel) (by decide +kernel) (Or.inr ⟨by rfl, rfl⟩) ?_
       simp only [Act.put, List.setIfInBounds_toArray, List.set_cons_zero, List.set_cons_succ])
    | (refine SeqS.take2 (v := ?_) (by first | assumption | trivial) (by kernel_rfl) (by decide +kernel) (by decide +kernel) (Or.inl ⟨by rfl, ?_⟩) ?_
       rotate_left
       focus
         intro w' hb'
         go_simp
         with_reducible rfl
       simp only [Act.put, List.setIfInBounds_toArray, List.set_cons_zero, List.set_cons_succ])
    | (refine SeqS.take2 (v := undef) (by first | assumption | trivial) (by kernel_rfl) (by decide +kernel) (by decide +kernel) (Or.inr ⟨by rfl, rfl⟩) ?_
       simp only [Act.put, List.setIfInBounds_toArray, List.set_cons_zero, List.set_cons_succ]))
  refine SeqS.alone (by decide +kernel) (by rfl) (fun K5 hK5 => ?_)
  go_simp
  refine hK5 _ _ trivial ?_
  clear hK5 K5
  refine SeqS.done (by decide +kernel) ?_
  go_wp2_with fail
  have e62V : (w5.setCell ⟨g, o + 2, none⟩ (.slice a5 N5 d5)).drew.cell? ⟨g, o + 2, none⟩ = some (.slice a5 N5 d5) := e62
  have e63V : (w5.setCell ⟨g, o + 2, none⟩ (.slice a5 N5 d5)).drew.cell? ⟨g, o + 3, none⟩ = some (.int .i64 (v.need : Nat)) := e63
  have f63V : (w5.setCell ⟨g, o + 2, none⟩ (.slice a5 N5 d5)).drew.frozen? ⟨g, o + 3, none⟩ = false := f63
  have B6V : Blk (w5.setCell ⟨g, o + 2, none⟩ (.slice a5 N5 d5)).drew g t (cs4.set (o + 2) (.slice a5 N5 d5)) := B6
  have g6 : w5.grownBy (w5.setCell ⟨g, o + 2, none⟩ (.slice a5 N5 d5)).drew (some g) := grown_drew (grown_setCell _ _ _ _)
  obtain ⟨X, hX⟩ : ∃ X : Nat, (v.step (.cut k)).need = X := ⟨_, rfl⟩
  have B7 := B6V.set (o + 3) (.int .i64 (X : Int))
  have g7 := grown_trans g6 (grown_setCell _ g (o + 3) (.int .i64 (X : Int)))
  have hfin := take_fin hlH.out hg1 hxH.out hstH.out hvs hMH.out hBHH.out ownH.out hgrH.out hatH.out g4 hbcH.out g7
  have hun9 : (v.step (.cut k)).units = v.units + 1 := FlV.step_units v (.cut k)
  rw [hX, hun9] at hfin
  have k9 := hcH.out 0 _ rfl
  have so9 := sets_over cs o (.slice x.ka v.K.length x.kc) (.slice a2 (M + 1) d2) (.slice a5 N5 d5) (.int .i64 (X : Int)) (.int .i64 ((v.units : Int) + 1)) hfit k9
  rw [hcs4H.out] at so9
  rw [so9] at B7
  obtain ⟨y, L', hy, hfy, hwy⟩ := hfin
  have hy2 : fC y (v.step (.cut k)) = [.slice x.ka v.K.length x.kc, .slice a2 (M + 1) d2, .slice a5 N5 d5, .int .i64 (X : Int), .int .i64 ((v.units : Int) + 1)] := by rw [hy]; congr 5
  rw [← hy2] at B7
  have hX2 := hnd5H.out
  rw [hX] at hX2
  obtain ⟨V6, hV6⟩ : ∃ V6, (w5.setCell ⟨g, o + 2, none⟩ (.slice a5 N5 d5)).drew = V6 := ⟨_, rfl⟩
  rw [hV6] at e62V e63V f63V B7 hfy hwy
  have hV6H := Lib.hid hV6
  have hB7H := Lib.hid B7
  have hfyH := Lib.hid hfy
  have hwyH := Lib.hid hwy
  clear hV6 B7 hfy hwy B6V g6 g7 e62 e63 f63 hX so9 k9 hy hy2 hun9 hbcH hD hH4 e1 f1 e2 e4 f4 B3 B4D e5 f5 B6 B5H hatH ownH hlH hgrH hBHH hcH hcs4H hN5H hnd5H hst hx hl hvs hMH hstH hxH hc hme hna hk
  have hmv : (if v.need < N5 then (N5 : Int) else (v.need : Int)) = (X : Int) := by split <;> omega
  clear hX2
  refine region_seqS (fun w' => w'.cell? ⟨g, o + 2, none⟩ = some (.slice a5 N5 d5)) (by kernel_rfl) (by rw [hV6H.out]; exact e62V) ?_
  simp only [pairs, Nat.reduceAdd]
  rw [hV6H.out]
  repeat (first
    | (refine SeqS.take (v := ?_) (by first | assumption | trivial) (by kernel_rfl) (by decide +kernel) (by decide +kernel) (Or.inl ⟨by rfl, ?_⟩) ?_
       rotate_left
       focus
         intro w' hb'
         go_simp
         with_reducible rfl
       simp only [Act.put, List.setIfInBounds_toArray, List.set_cons_zero, List.set_cons_succ])
    | (refine SeqS.take (v := ?_) (by first | assumption | trivial) (by kernel_rfl) (by decide +kernel) (by decide +kernel) (Or.inl ⟨by rfl, ?_⟩) ?_
       rotate_left
       focus
         intro w' hb'
         have d0 := hb'
         go_simp
         with_reducible rfl
       simp only [Act.put, List.setIfInBounds_toArray, List.set_cons_zero, List.set_cons_succ])
    | (refine SeqS.take (v := undef) (by first | assumption | trivial) (by kernel_rfl) (by decide +kernel) (by decide +kernel) (Or.inr ⟨by rfl, rfl⟩) ?_
       simp only [Act.put, List.setIfInBounds_toArray, List.set_cons_zero, List.set_cons_succ])
    | (refine SeqS.take1 (v := ?_) (by first | assumption | trivial) (by kernel_rfl) (by decide +kernel) (by decide +kernel) (Or.inl ⟨by rfl, ?_⟩) ?_
       rotate_left
       focus
         intro w' hb'
         go_simp
         with_reducible rfl
       simp only [Act.put, List.setIfInBounds_toArray, List.set_cons_zero, List.set_cons_succ])
    | (refine SeqS.take1 (v := ?_) (by first | assumption | trivial) (by kernel_rfl) (by decide +kernel) (by decide +kernel) (Or.inl ⟨by rfl, ?_⟩) ?_
       rotate_left
       focus
         intro w' hb'
         have d0 := hb'
         go_simp
         with_reducible rfl
       simp only [Act.put, List.setIfInBounds_toArray, List.set_cons_zero, List.set_cons_succ])
    | (refine SeqS.take1 (v := undef) (by first | assumption | trivial) (by kernel_rfl) (by decide +kernel) (by decide +kernel) (Or.inr ⟨by rfl, rfl⟩) ?_
       simp only [Act.put, List.setIfInBounds_toArray, List.set_cons_zero, List.set_cons_succ])
    | (refine SeqS.take2 (v := ?_) (by first | assumption | trivial) (by kernel_rfl) (by decide +kernel) (by decide +kernel) (Or.inl ⟨by rfl, ?_⟩) ?_
       rotate_left
       focus
         intro w' hb'
         go_simp
         with_reducible rfl
       simp only [Act.put, List.setIfInBounds_toArray, List.set_cons_zero, List.set_cons_succ])
    | (refine SeqS.take2 (v := ?_) (by first | assumption | trivial) (by kernel_rfl) (by decide +kernel) (by decide +kernel) (Or.inl ⟨by rfl, ?_⟩) ?_
       rotate_left
       focus
         intro w' hb'
         have d0 := hb'
         go_simp
         with_reducible rfl
       simp only [Act.put, List.setIfInBounds_toArray, List.set_cons_zero, List.set_cons_succ])
    | (refine SeqS.take2 (v := undef) (by first | assumption | trivial) (by kernel_rfl) (by decide +kernel) (by decide +kernel) (Or.inr ⟨by rfl, rfl⟩) ?_
       simp only [Act.put, List.setIfInBounds_toArray, List.set_cons_zero, List.set_cons_succ]))
  refine SeqS.alone (by decide +kernel) (by rfl) (fun K5 hK5 => ?_)
  go_simp
  refine hK5 _ _ e62V ?_
  clear hK5 K5
  (try simp only [Act.put, List.setIfInBounds_toArray, List.set_cons_zero, List.set_cons_succ])
  refine SeqS.alone (by decide +kernel) (by rfl) (fun K5 hK5 => ?_)
  go_simp
  (try rw [hmv])
  refine hK5 _ _ e62V ?_
  clear hK5 K5
  (try simp only [Act.put, List.setIfInBounds_toArray, List.set_cons_zero, List.set_cons_succ])
  repeat (first
    | (refine SeqS.take (v := ?_) (by first | assumption | trivial) (by kernel_rfl) (by decide +kernel) (by decide +kernel) (Or.inl ⟨by rfl, ?_⟩) ?_
       rotate_left
       focus
         intro w' hb'
         go_simp
         with_reducible rfl
       simp only [Act.put, List.setIfInBounds_toArray, List.set_cons_zero, List.set_cons_succ])
    | (refine SeqS.take (v := undef) (by first | assumption | trivial) (by kernel_rfl) (by decide +kernel) (by decide +kernel) (Or.inr ⟨by rfl, rfl⟩) ?_
       simp only [Act.put, List.setIfInBounds_toArray, List.set_cons_zero, List.set_cons_succ])
    | (refine SeqS.take1 (v := ?_) (by first | assumption | trivial) (by kernel_rfl) (by decide +kernel) (by decide +kernel) (Or.inl ⟨by rfl, ?_⟩) ?_
       rotate_left
       focus
         intro w' hb'
         go_simp
         with_reducible rfl
       simp only [Act.put, List.setIfInBounds_toArray, List.set_cons_zero, List.set_cons_succ])
    | (refine SeqS.take1 (v := undef) (by first | assumption | trivial) (by kernel_rfl) (by decide +kernel) (by decide +kernel) (Or.inr ⟨by rfl, rfl⟩) ?_
       simp only [Act.put, List.setIfInBounds_toArray, List.set_cons_zero, List.set_cons_succ])
    | (refine SeqS.take2 (v := ?_) (by first | assumption | trivial) (by kernel_rfl) (by decide +kernel) (by decide +kernel) (Or.inl ⟨by rfl, ?_⟩) ?_
       rotate_left
       focus
         intro w' hb'
         go_simp
         with_reducible rfl
       simp only [Act.put, List.setIfInBounds_toArray, List.set_cons_zero, List.set_cons_succ])
    | (refine SeqS.take2 (v := undef) (by first | assumption | trivial) (by kernel_rfl) (by decide +kernel) (by decide +kernel) (Or.inr ⟨by rfl, rfl⟩) ?_
       simp only [Act.put, List.setIfInBounds_toArray, List.set_cons_zero, List.set_cons_succ]))
  have e7 : (V6.setCell ⟨g, o + 3, none⟩ (.int .i64 (X : Int))).cell? ⟨g, o + 2, none⟩ = some (.slice a5 N5 d5) := by
    rw [World.cell?_setCell_other]
    · exact e62V
    · intro e
      injection e with _ e
      omega
  refine SeqS.alone (by decide +kernel) (by rfl) (fun K5 hK5 => ?_)
  go_simp
  refine hK5 _ _ e7 ?_
  clear hK5 K5
  refine SeqS.done (by decide +kernel) ?_
  (try simp only [Exit.inBlock, Exit.then])
  first
    | go_end0
    | refine bodyPost_ret (results_none rfl _ _ _) rfl ?_
  exact ⟨y, L', rfl, hB7H.out, hfyH.out, hwyH.out⟩

end Go.Proofs.Ytmnfagpbcllbgaa
