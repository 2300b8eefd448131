/-
  What the landed disk's Append, Cut and Sync come to. The disk's own blocks are written, and new memory. Conditions: a disk that New made; fewer than 2^42 steps.
-/
import Derived.Test.YtmnfagpbcllbgaaDkWhole
namespace Go.Proofs.Ytmnfagpbcllbgaa
open Go.RowKit

theorem file_cases (file : Int) : noFile file ∨ ∃ i : Nat, i < 3 ∧ file = (i : Int) := by
  by_cases h : noFile file
  · exact .inl h
  · unfold noFile at h
    exact .inr ⟨file.toNat, by omega, by omega⟩
theorem noFile_nat {i : Nat} (hi : i < 3) : ¬ noFile (i : Int) := by unfold noFile; omega
theorem DkIs.cells {L : Nat → Nat} {P : Nat → Prop} {w : World} {g : Nat} {D : DkV} (h : DkIs L P w g D) :
    w.cell? ⟨g, 0, none⟩ = some (.int .i64 D.room) ∧ w.cell? ⟨g, 1, none⟩ = some (.int .i64 D.fuse) ∧ w.cell? ⟨g, 2, none⟩ = some (.bool D.down) := by
  obtain ⟨x0, x1, x2, h⟩ := h
  exact dcells h.b

set_option maxRecDepth 100000 in
set_option maxHeartbeats 1000000 in
theorem dAppend_any {L : Nat → Nat} {P : Nat → Prop} {w : World} {g : Nat} {D : DkV} {T : Nat} {file : Int} {a : Option Addr} {n c : Nat} {bs : List Int} (h : DkIs L P w g D) (hO : D.Ok T) (hT : T < 4398046511104) (hI : Ints .u8 w a n c bs) :
    Calls Try.prog 15 #[.pointer (some ⟨g, 0, none⟩), .int .i64 file, .slice a n c] w fun q w' => q = .returned (.int .i64 (apD D file bs).2) ∧ DkTo L P w g w' (apD D file bs).1 := by
  have hr := hO.room
  obtain ⟨c0, c1, c2⟩ := h.cells
  rcases file_cases file with hf | ⟨i, hi, rfl⟩
  · have hF := dFind_no c0 (by omega) file hf
    unfold apD
    rw [if_pos hf]
    have hst := DkTo.stay h (Below.refl _ _)
    clear hI h hO
    go_enter Try.func15, Try.ntmps15
    go_wp2_with fail
    refine hF.mono ?_
    rintro q w1 ⟨rfl, rfl⟩
    go_wp2
    go_ret
    exact ⟨rfl, hst⟩
  have hF := dFind_any c0 (by omega) i hi
  unfold apD
  rw [if_neg (noFile_nat hi), Int.toNat_natCast]
  cases hd : D.down with
  | true =>
    rw [if_pos rfl]
    have hst := DkTo.stay h (Below.refl _ _)
    rw [hd] at c2
    clear hI h hO hd
    go_enter Try.func15, Try.ntmps15
    go_wp2_with fail
    refine hF.mono ?_
    rintro q w1 ⟨rfl, rfl⟩
    go_wp2
    go_ret
    exact ⟨rfl, hst⟩
  | false =>
    rw [if_neg (by decide)]
    rw [hd] at c2
    have hS := dSpareD h hO i hi
    have hfit := spare_fits hO i bs
    have hlen := hI.len
    rw [hlen] at hfit
    obtain ⟨Sp, hSp⟩ : ∃ Sp : Int, ((D.f i).need : Int) - (D.f i).held.length + D.room - (D.used : Nat) = Sp := ⟨_, rfl⟩
    rw [hSp] at hS hfit
    by_cases hlt : Sp < (n : Int)
    · rw [if_pos (hfit.1 hlt)]
      have hst := fun w' hb => DkTo.stay (w' := w') h hb
      clear hI h hO hd hfit hSp
      go_enter Try.func15, Try.ntmps15
      go_wp2_with fail
      refine hF.mono ?_
      rintro q w1 ⟨rfl, rfl⟩
      go_wp2_with fail
      refine hS.mono ?_
      rintro q w2 ⟨rfl, hB⟩
      go_wp2
      go_ret
      exact ⟨rfl, hst w2 hB⟩
    · rw [if_neg (fun e => hlt (hfit.2 e))]
      have hn5 : n ≤ 65536 := by
        have h5 := FlV.held_le (D.f i)
        have h6 := (hO.f i).need
        have h8 : (D.f i).need ≤ D.used := by
          unfold DkV.f DkV.used
          split
          · omega
          · split <;> omega
        omega
      have hh5 : (D.f i).held.length + bs.length ≤ 65536 := by
        have h5 := FlV.held_le (D.f i)
        have h8 : (D.f i).need ≤ D.used := by
          unfold DkV.f DkV.used
          split
          · omega
          · split <;> omega
        omega
      obtain ⟨D1, hD1⟩ : ∃ D1, D.set i ((D.f i).step (.put bs)) = D1 := ⟨_, rfl⟩
      have hO1 := FlV.step_ok (hO.f i) (.put bs) trivial (by rw [put_len]; exact hh5) (by simp only [StV.units]; omega)
      have hu1 : (D1.used : Int) ≤ D.room := by
        rw [← hD1]
        have := mt hfit.2 hlt
        omega
      have hOO : D1.Ok (T + 1) := by
        rw [← hD1] at hu1 ⊢
        exact DkV.set_ok (hO.more (Nat.le_succ T)) i _ hO1 hu1
      have hd1 : D1.down = false := by rw [← hD1, (DkV.set_head D i _).2.2]; exact hd
      rw [hD1]
      have hOH := Lib.hid hO
      have hOOH := Lib.hid hOO
      have hdH := Lib.hid hd1
      have hDH := Lib.hid hD1
      have hlH := Lib.hid hlen
      have hnH := Lib.hid hn5
      have hhH := Lib.hid hh5
      clear hO hOO hd1 hD1 hlen hn5 hh5 hfit hSp hd hO1 hu1
      go_enter Try.func15, Try.ntmps15
      go_wp2_with fail
      refine hF.mono ?_
      rintro q w1 ⟨rfl, rfl⟩
      go_wp2_with fail
      refine hS.mono ?_
      rintro q w2 ⟨rfl, hB2⟩
      have hC := pClone_any a n c bs w2 (hI.keep hB2) (by have := hnH.out; omega)
      go_wp2_with fail
      refine hC.mono ?_
      rintro q w3 ⟨a3, c3, rfl, ho3, hB3⟩
      have hB13 := hB2.trans (hB3.mono hB2.size)
      have h3 : DkIs L (fun b => P b ∨ ∃ z, a3 = some z ∧ z.block = b) w3 g D := by
        obtain ⟨x0, x1, x2, h9⟩ := h.keep hB13
        obtain ⟨_, _, _, h8⟩ := h
        refine ⟨x0, x1, x2, h9.more (fun b hb => .inl hb) ?_⟩
        rintro b (hb | ⟨z, hz, hb⟩)
        · exact .inl hb
        · have h7 := ho3.lt b (by rw [hz, ← hb]; rfl)
          refine .inr ⟨h7.2, ?_⟩
          by_cases h0 : L b = 0
          · exact h0
          · have h6 := h8.lab.l b h0
            have := hB2.size
            omega
      have hW3 : Went L P w L (fun b => P b ∨ ∃ z, a3 = some z ∧ z.block = b) w3 := by
        refine ⟨Moved.of_below hB13, fun _ _ => rfl, fun _ h => .inl h, ?_⟩
        rintro b (hb | ⟨z, hz, hb⟩)
        · exact .inl hb
        · have h7 := ho3.lt b (by rw [hz, ← hb]; rfl)
          have := hB2.size
          exact .inr (by omega)
      have hI3 : Ints .u8 w3 a3 bs.length c3 bs := by rw [hlH.out]; exact own_ints' ho3
      have hTk := dTakePut h3 hOH.out hT i hi hI3 (fun z hz => .inr ⟨z, hz, rfl⟩) hhH.out
      rw [hDH.out, hlH.out] at hTk
      clear hI3 ho3 h3 hC hB13 hB3 hB2 hI h hS hF
      go_wp2_with fail
      refine hTk.mono ?_
      rintro q w4 ⟨rfl, L4, P4, h4, hW4⟩
      have hCt := dCountD h4 hOOH.out hdH.out
      go_wp2_with fail
      refine hCt.mono ?_
      rintro q w5 ⟨rfl, L5, P5, h5, hW5⟩
      go_wp2
      go_ret
      exact ⟨rfl, L5, P5, h5, hW3.trans (hW4.trans hW5)⟩

set_option maxRecDepth 100000 in
set_option maxHeartbeats 1000000 in
theorem dCut_any {L : Nat → Nat} {P : Nat → Prop} {w : World} {g : Nat} {D : DkV} {T : Nat} {file k : Int} (h : DkIs L P w g D) (hO : D.Ok T) (hT : T < 4398046511104) :
    Calls Try.prog 20 #[.pointer (some ⟨g, 0, none⟩), .int .i64 file, .int .i64 k] w fun q w' => q = .returned (.int .i64 (ctD D file k).2) ∧ DkTo L P w g w' (ctD D file k).1 := by
  have hr := hO.room
  obtain ⟨c0, c1, c2⟩ := h.cells
  rcases file_cases file with hf | ⟨i, hi, rfl⟩
  · have hF := dFind_no c0 (by omega) file hf
    unfold ctD
    rw [if_pos (.inl hf)]
    have hst := DkTo.stay h (Below.refl _ _)
    clear h hO
    go_enter Try.func20, Try.ntmps20
    go_wp2_with fail
    refine hF.mono ?_
    rintro q w1 ⟨rfl, rfl⟩
    go_wp2
    go_ret
    exact ⟨rfl, hst⟩
  have hF := dFind_any c0 (by omega) i hi
  obtain ⟨d2, hd2⟩ : ∃ x : FaV, w.cell? ⟨g, 3 + 5 * i + 2, none⟩ = some (.slice x.ha (D.f i).held.length x.hc) := by
    obtain ⟨x0, x1, x2, h9⟩ := h
    obtain ⟨x, hx, hc⟩ := h9.fl i hi
    exact ⟨x, (fcells h9.b hc).2.2.1⟩
  unfold ctD
  rw [Int.toNat_natCast]
  by_cases hbad : k < 0 ∨ ((D.f i).held.length : Int) < k
  · rw [if_pos (.inr hbad)]
    have hst := DkTo.stay h (Below.refl _ _)
    clear h hO
    by_cases hk0 : k < 0
    · go_enter Try.func20, Try.ntmps20
      go_wp2_with fail
      refine hF.mono ?_
      rintro q w1 ⟨rfl, rfl⟩
      go_wp2
      go_ret
      exact ⟨rfl, hst⟩
    · have hk1 : ((D.f i).held.length : Int) < k := by omega
      clear hbad
      go_enter Try.func20, Try.ntmps20
      go_wp2_with fail
      refine hF.mono ?_
      rintro q w1 ⟨rfl, rfl⟩
      go_wp2
      go_ret
      exact ⟨rfl, hst⟩
  obtain ⟨j, rfl⟩ : ∃ j : Nat, k = (j : Int) := ⟨k.toNat, by omega⟩
  have hj0 : ¬ (j : Int) < 0 := by omega
  have hj1 : ¬ ((D.f i).held.length : Int) < (j : Int) := by omega
  rw [if_neg (fun e => e.elim (noFile_nat hi) hbad), Int.toNat_natCast]
  clear hbad
  cases hd : D.down with
  | true =>
    rw [if_pos rfl]
    have hst := DkTo.stay h (Below.refl _ _)
    rw [hd] at c2
    clear h hO hd
    go_enter Try.func20, Try.ntmps20
    go_wp2_with fail
    refine hF.mono ?_
    rintro q w1 ⟨rfl, rfl⟩
    go_wp2
    go_ret
    exact ⟨rfl, hst⟩
  | false =>
    rw [if_neg (by decide)]
    rw [hd] at c2
    obtain ⟨D1, hD1⟩ : ∃ D1, D.set i ((D.f i).step (.cut j)) = D1 := ⟨_, rfl⟩
    have hjl : j ≤ (D.f i).held.length := by omega
    have hcl := cut_len j (D.f i).held
    have hh := FlV.held_le (D.f i)
    have hnd := (hO.f i).need
    have hO1 := FlV.step_ok (hO.f i) (.cut j) hjl (by omega) (by simp [StV.units])
    have hu1 : (D1.used : Int) ≤ D.room := by
      rw [← hD1]
      have h1 := DkV.set_used D i ((D.f i).step (.cut j))
      have h2 := FlV.step_need (D.f i) (.cut j)
      have h4 := hO.used
      omega
    have hOO : D1.Ok (T + 1) := by
      rw [← hD1] at hu1 ⊢
      exact DkV.set_ok (hO.more (Nat.le_succ T)) i _ hO1 hu1
    have hd1 : D1.down = false := by rw [← hD1, (DkV.set_head D i _).2.2]; exact hd
    have hTk := dTakeCut h hO hT i hi hjl
    rw [hD1] at hTk ⊢
    have hOOH := Lib.hid hOO
    have hdH := Lib.hid hd1
    clear hO hOO hd1 hD1 hd hO1 hu1 hjl hcl hh hnd h
    go_enter Try.func20, Try.ntmps20
    go_wp2_with fail
    refine hF.mono ?_
    rintro q w1 ⟨rfl, rfl⟩
    go_wp2_with fail
    refine hTk.mono ?_
    rintro q w4 ⟨rfl, L4, P4, h4, hW4⟩
    have hCt := dCountD h4 hOOH.out hdH.out
    go_wp2_with fail
    refine hCt.mono ?_
    rintro q w5 ⟨rfl, L5, P5, h5, hW5⟩
    go_wp2
    go_ret
    exact ⟨rfl, L5, P5, h5, hW4.trans hW5⟩

set_option maxRecDepth 100000 in
set_option maxHeartbeats 1000000 in
theorem dSync_any {L : Nat → Nat} {P : Nat → Prop} {w : World} {g : Nat} {D : DkV} {T : Nat} {file : Int} (h : DkIs L P w g D) (hO : D.Ok T) (hT : T ≤ 4398046511104) :
    Calls Try.prog 16 #[.pointer (some ⟨g, 0, none⟩), .int .i64 file] w fun q w' => q = .returned (.int .i64 (syD D file).2) ∧ DkTo L P w g w' (syD D file).1 := by
  have hr := hO.room
  obtain ⟨c0, c1, c2⟩ := h.cells
  rcases file_cases file with hf | ⟨i, hi, rfl⟩
  · have hF := dFind_no c0 (by omega) file hf
    unfold syD
    rw [if_pos hf]
    have hst := DkTo.stay h (Below.refl _ _)
    clear h hO
    go_enter Try.func16, Try.ntmps16
    go_wp2_with fail
    refine hF.mono ?_
    rintro q w1 ⟨rfl, rfl⟩
    go_wp2
    go_ret
    exact ⟨rfl, hst⟩
  have hF := dFind_any c0 (by omega) i hi
  unfold syD
  rw [if_neg (noFile_nat hi), Int.toNat_natCast]
  cases hd : D.down with
  | true =>
    rw [if_pos rfl]
    have hst := DkTo.stay h (Below.refl _ _)
    rw [hd] at c2
    clear h hO hd
    go_enter Try.func16, Try.ntmps16
    go_wp2_with fail
    refine hF.mono ?_
    rintro q w1 ⟨rfl, rfl⟩
    go_wp2
    go_ret
    exact ⟨rfl, hst⟩
  | false =>
    rw [if_neg (by decide)]
    rw [hd] at c2
    have hCt := dCountD h hO hd
    cases hb : D.burn.down with
    | true =>
      have ha : D.burn.ans = 18 := by unfold DkV.ans; rw [hb]; rfl
      rw [ha] at hCt
      rw [if_pos rfl]
      clear h hO hd hb ha
      go_enter Try.func16, Try.ntmps16
      go_wp2_with fail
      refine hF.mono ?_
      rintro q w1 ⟨rfl, rfl⟩
      go_wp2_with fail
      refine hCt.mono ?_
      rintro q w2 ⟨rfl, hTo⟩
      go_wp2
      go_ret
      exact ⟨rfl, hTo⟩
    | false =>
      have ha : D.burn.ans = 0 := by unfold DkV.ans; rw [hb]; rfl
      rw [ha] at hCt
      rw [if_neg (by decide)]
      have hOb := DkV.burn_ok hO
      have hfi : D.burn.f i = D.f i := by unfold DkV.burn; split <;> rfl
      have hset : (D.burn.f i).settle (D.burn.f i).units = ⟨(D.f i).held, []⟩ := by
        rw [hfi]
        unfold FlV.settle FlV.units FlV.held
        rw [doneL_all _ _ _ (Nat.le_refl _)]
      have hSt := fun (L2 : Nat → Nat) (P2 : Nat → Prop) (w2 : World) (h2 : DkIs L2 P2 w2 g D.burn) => dSettleD h2 hOb hT i hi (D.burn.f i).units (Nat.le_refl _)
      rw [hset] at hSt
      have hce := fun (L2 : Nat → Nat) (P2 : Nat → Prop) (w2 : World) (h2 : DkIs L2 P2 w2 g D.burn) => (show w2.cell? ⟨g, 3 + 5 * i + 4, none⟩ = some (.int .i64 ((D.burn.f i).units : Nat)) by
        obtain ⟨x0, x1, x2, h9⟩ := h2
        obtain ⟨x, hx, hc⟩ := h9.fl i hi
        exact (fcells h9.b hc).2.2.2.2)
      obtain ⟨U, hU⟩ : ∃ U, (D.burn.f i).units = U := ⟨_, rfl⟩
      rw [hU] at hSt hce
      have hSH := Lib.hid hSt
      have hcH := Lib.hid hce
      clear h hO hd hb ha hOb hfi hset hU hSt hce
      go_enter Try.func16, Try.ntmps16
      go_wp2_with fail
      refine hF.mono ?_
      rintro q w1 ⟨rfl, rfl⟩
      go_wp2_with fail
      refine hCt.mono ?_
      rintro q w2 ⟨rfl, L2, P2, h2, hW2⟩
      have e4 := hcH.out L2 P2 w2 h2
      have hS2 := hSH.out L2 P2 w2 h2
      clear hSH hcH
      go_wp2_with fail
      refine hS2.mono ?_
      rintro q w3 ⟨rfl, L3, P3, h3, hW3⟩
      go_wp2
      go_ret
      exact ⟨rfl, L3, P3, h3, hW2.trans hW3⟩
end Go.Proofs.Ytmnfagpbcllbgaa
