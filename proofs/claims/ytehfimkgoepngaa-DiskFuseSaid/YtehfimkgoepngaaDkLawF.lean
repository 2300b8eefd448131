/-
  The law DiskFuse: what a fuse does, through appends, cuts and syncs, and what a crash does then. New memory alone is written. No conditions beyond the row's own.
-/
import Derived.Test.YtehfimkgoepngaaDkAlive
namespace Go.Proofs.Ytehfimkgoepngaa
open Go.RowKit

def opF (D : DkV) (f m : Int) : DkV × Int := if m = 0 then apD D f [1] else if m = 1 then ctD D f 0 else syD D f
/-- A disk whose fuse was K, behind i steps. -/
structure Bn (K i : Nat) (D : DkV) : Prop where
  room : D.room = 65536
  fuse : D.fuse = ((K - i : Nat) : Int)
  down : D.down = decide (K ≤ i)
  ok : D.Ok i
  used : D.used ≤ i
theorem DkV.set_room (D : DkV) (i : Nat) (v : FlV) : (D.set i v).room = D.room ∧ (D.set i v).fuse = D.fuse ∧ (D.set i v).down = D.down := by
  unfold DkV.set
  split
  · exact ⟨rfl, rfl, rfl⟩
  · split <;> exact ⟨rfl, rfl, rfl⟩
theorem DkV.burn_used (D : DkV) : D.burn.used = D.used ∧ D.burn.room = D.room := by
  unfold DkV.burn
  split <;> exact ⟨rfl, rfl⟩
theorem burn_bn {K i : Nat} {D : DkV} (hd : ¬ K ≤ i) (hf : D.fuse = ((K - i : Nat) : Int)) : D.burn.fuse = ((K - (i + 1) : Nat) : Int) ∧ D.burn.down = decide (K ≤ i + 1) := by
  unfold DkV.burn
  rw [if_neg (by omega)]
  refine ⟨by simp only; omega, ?_⟩
  simp only
  by_cases h : K ≤ i + 1
  · rw [decide_eq_true h, decide_eq_true (by omega)]
  · rw [decide_eq_false h, decide_eq_false (by omega)]
theorem burn_ansK {K i : Nat} {D : DkV} (h : D.down = decide (K ≤ i)) : D.ans = if K ≤ i then 18 else 0 := by
  unfold DkV.ans
  rw [h]
  by_cases hk : K ≤ i
  · rw [if_pos (by simpa using hk), if_pos hk]
  · rw [if_neg (by simpa using hk), if_neg hk]
theorem bn_step {K i : Nat} {D : DkV} (h : Bn K i D) (hi : i ≤ 100) (f m : Int) (hf : 0 ≤ f ∧ f < 3) : Bn K (i + 1) (opF D f m).1 ∧ (opF D f m).2 = if K ≤ i + 1 then 18 else 0 := by
  have hno : ¬ noFile f := by unfold noFile; omega
  have hstay : K ≤ i → Bn K (i + 1) D := fun hk => ⟨h.room, by rw [h.fuse]; omega, by rw [h.down, decide_eq_true hk, decide_eq_true (by omega)], h.ok.more (by omega), by have := h.used; omega⟩
  have o1 := apD_ok h.ok f [1]
  have o2 := ctD_ok h.ok f 0
  have o3 := (syD_ok h.ok f).more (Nat.le_succ i)
  have hu := h.used
  have hr := h.room
  have hN := FlV.held_le (D.f f.toNat)
  unfold opF
  by_cases hk : K ≤ i
  · have hd : D.down = true := by rw [h.down, decide_eq_true hk]
    have e1 : apD D f [1] = (D, 18) := by unfold apD; rw [if_neg hno, if_pos hd]
    have e2 : ctD D f 0 = (D, 18) := by unfold ctD; rw [if_neg (fun hx => by rcases hx with hx | hx | hx; exact hno hx; omega; omega), if_pos hd]
    have e3 : syD D f = (D, 18) := by unfold syD; rw [if_neg hno, if_pos hd]
    rw [e1, e2, e3, ite_self, ite_self, if_pos (by omega)]
    exact ⟨hstay hk, rfl⟩
  · have hd : ¬ D.down = true := by rw [h.down]; simpa using hk
    split
    · have hq : ((D.set f.toNat ((D.f f.toNat).step (.put [1]))).used : Int) ≤ D.room := by
        have h1 := DkV.set_used D f.toNat ((D.f f.toNat).step (.put [1]))
        have h2 := FlV.step_need (D.f f.toNat) (.put [1])
        rw [put_len] at h2
        simp only [List.length_cons, List.length_nil] at h2
        omega
      have hq2 : (D.set f.toNat ((D.f f.toNat).step (.put [1]))).used ≤ i + 1 := by
        have h1 := DkV.set_used D f.toNat ((D.f f.toNat).step (.put [1]))
        have h2 := FlV.step_need (D.f f.toNat) (.put [1])
        rw [put_len] at h2
        simp only [List.length_cons, List.length_nil] at h2
        omega
      have e1 : apD D f [1] = ((D.set f.toNat ((D.f f.toNat).step (.put [1]))).burn, (D.set f.toNat ((D.f f.toNat).step (.put [1]))).burn.ans) := by
        unfold apD; rw [if_neg hno, if_neg hd, if_neg (by omega)]
      rw [e1] at o1 ⊢
      obtain ⟨s1, s2, s3⟩ := DkV.set_room D f.toNat ((D.f f.toNat).step (.put [1]))
      obtain ⟨b1, b2⟩ := burn_bn (D := D.set f.toNat ((D.f f.toNat).step (.put [1]))) hk (by rw [s2, h.fuse])
      obtain ⟨u1, u2⟩ := DkV.burn_used (D.set f.toNat ((D.f f.toNat).step (.put [1])))
      exact ⟨⟨by rw [u2, s1, hr], b1, b2, o1, by rw [u1]; exact hq2⟩, burn_ansK b2⟩
    · split
      · have hq2 : (D.set f.toNat ((D.f f.toNat).step (.cut (0 : Int).toNat))).used ≤ i + 1 := by
          have h1 := DkV.set_used D f.toNat ((D.f f.toNat).step (.cut (0 : Int).toNat))
          have h2 := FlV.step_need (D.f f.toNat) (.cut (0 : Int).toNat)
          have h3 := cut_len (0 : Int).toNat (D.f f.toNat).held
          omega
        have e2 : ctD D f 0 = ((D.set f.toNat ((D.f f.toNat).step (.cut (0 : Int).toNat))).burn, (D.set f.toNat ((D.f f.toNat).step (.cut (0 : Int).toNat))).burn.ans) := by
          unfold ctD; rw [if_neg (fun hx => by rcases hx with hx | hx | hx; exact hno hx; omega; omega), if_neg hd]
        rw [e2] at o2 ⊢
        obtain ⟨s1, s2, s3⟩ := DkV.set_room D f.toNat ((D.f f.toNat).step (.cut (0 : Int).toNat))
        obtain ⟨b1, b2⟩ := burn_bn (D := D.set f.toNat ((D.f f.toNat).step (.cut (0 : Int).toNat))) hk (by rw [s2, h.fuse])
        obtain ⟨u1, u2⟩ := DkV.burn_used (D.set f.toNat ((D.f f.toNat).step (.cut (0 : Int).toNat)))
        exact ⟨⟨by rw [u2, s1, hr], b1, b2, o2, by rw [u1]; exact hq2⟩, burn_ansK b2⟩
      · obtain ⟨b1, b2⟩ := burn_bn (D := D) hk h.fuse
        obtain ⟨u1, u2⟩ := DkV.burn_used D
        have e3 : syD D f = if D.burn.down = true then (D.burn, 18) else (D.burn.set f.toNat ⟨(D.f f.toNat).held, []⟩, 0) := by
          unfold syD; rw [if_neg hno, if_neg hd]
        rw [e3] at o3 ⊢
        by_cases h1 : K ≤ i + 1
        · have hdn : D.burn.down = true := by rw [b2]; simpa using h1
          rw [if_pos hdn] at o3 ⊢
          rw [if_pos h1]
          exact ⟨⟨by rw [u2, hr], b1, b2, o3, by rw [u1]; omega⟩, rfl⟩
        · have hdn : ¬ D.burn.down = true := by rw [b2]; simpa using h1
          rw [if_neg hdn] at o3 ⊢
          rw [if_neg h1]
          obtain ⟨s1, s2, s3⟩ := DkV.set_room D.burn f.toNat ⟨(D.f f.toNat).held, []⟩
          have h4 := DkV.set_used D.burn f.toNat ⟨(D.f f.toNat).held, []⟩
          have h5 : (FlV.need ⟨(D.f f.toNat).held, []⟩) = (D.f f.toNat).held.length := rfl
          have h6 : D.burn.f f.toNat = D.f f.toNat := by unfold DkV.burn; split <;> rfl
          rw [h6] at h4
          exact ⟨⟨by rw [s1, u2, hr], by rw [s2, b1], by rw [s3, b2], o3, show (D.burn.set f.toNat ⟨(D.f f.toNat).held, []⟩).used ≤ i + 1 by omega⟩, rfl⟩
theorem bn0 (K : Nat) (hK : 1 ≤ K ∧ K ≤ 20) : Bn K 0 (armD (dk0 65536) K) := by
  refine ⟨rfl, ?_, ?_, ?_, ?_⟩
  · show max (K : Int) 0 = _; omega
  · rw [decide_eq_false (by omega)]; rfl
  · exact armD_ok (dk0_ok 65536 (by decide)) K (by omega)
  · exact Nat.le_refl _
/-- Behind the crash an empty append is fine. -/
theorem bn_crash {K i : Nat} {D : DkV} (h : Bn K i D) (f : Int) (hf : 0 ≤ f ∧ f < 3) : (crD D []).down = false ∧ (apD (crD D []) f []).2 = 0 := by
  have hno : ¬ noFile f := by unfold noFile; omega
  refine ⟨rfl, ?_⟩
  have hO := crD_ok h.ok []
  have hu := hO.used
  have h1 := DkV.set_used (crD D []) f.toNat (((crD D []).f f.toNat).step (.put []))
  have h2 := FlV.step_need ((crD D []).f f.toNat) (.put [])
  have hN := FlV.held_le ((crD D []).f f.toNat)
  rw [put_len] at h2
  simp only [List.length_nil] at h2
  obtain ⟨s1, s2, s3⟩ := DkV.set_room (crD D []) f.toNat (((crD D []).f f.toNat).step (.put []))
  unfold apD
  have hz : ((crD D []).set f.toNat (((crD D []).f f.toNat).step (.put []))).fuse = 0 := s2
  have hd : ((crD D []).set f.toNat (((crD D []).f f.toNat).step (.put []))).down = false := s3
  rw [if_neg hno, if_neg (fun h => Bool.noConfusion h), if_neg (by omega)]
  unfold DkV.burn
  rw [if_pos hz]
  unfold DkV.ans
  rw [hd]
  rfl
set_option maxRecDepth 100000 in
set_option maxHeartbeats 2000000 in
theorem law_dkfuse (n f : Int) (a : Option Addr) (m c : Nat) (l : List Int) (w : World) (hn : (Lit.int .u8 n).wf = true) (hf : (Lit.int .u8 f).wf = true) (hl : Ints .u8 w a m c l) (hlr : ∀ x ∈ l, (Lit.int .u8 x).wf = true) (_ : c ≤ maxLen) :
    Calls Try.prog 6 #[.int .u8 n, .int .u8 f, .slice a m c] w fun q w' => q = .returned (.bool true) ∧ Below w.heap.size w w' := by
  have hnb : 0 ≤ n ∧ n < 256 := by
    simp [Lit.wf, IntKind.min, IntKind.max, IntKind.signed, IntKind.bits] at hn
    omega
  have hfb : 0 ≤ f ∧ f < 256 := by
    simp [Lit.wf, IntKind.min, IntKind.max, IntKind.signed, IntKind.bits] at hf
    omega
  clear hn hf
  obtain ⟨F, hF, hF3⟩ : ∃ F : Int, f % 3 = F ∧ 0 ≤ F ∧ F < 3 := ⟨_, rfl, by omega⟩
  obtain ⟨K, hK, hKb⟩ : ∃ K : Nat, 1 + n % 20 = (K : Int) ∧ 1 ≤ K ∧ K ≤ 20 := ⟨(1 + n % 20).toNat, by omega, by omega⟩
  have hN := new_own (w := w) 65536 (by decide)
  have hA := fun (w1 : World) (g : Nat) (h : DkOwn w.heap.size w w1 g (dk0 65536)) => own_arm (n := (K : Int)) h (dk0_ok 65536 (by decide))
  have hFH := Lib.hid hF
  have hKH := Lib.hid hK
  have hF3H := Lib.hid hF3
  have hKbH := Lib.hid hKb
  clear hF hK hF3 hKb
  go_enter Try.func6, Try.ntmps6
  go_wp2_with fail
  refine hN.mono ?_
  rintro q w1 ⟨g, rfl, h1⟩
  go_wp2_with fail
  rw [hKH.out]
  refine (hA w1 g h1).mono ?_
  rintro q w2 ⟨rfl, h2⟩
  have hB0 := bn0 K hKbH.out
  clear h1 hN hA
  go_wp2_with fail
  rw [hFH.out]
  go_loopw [11] (fun i wr => ∃ j : Nat, j ≤ m ∧ j ≤ 100 ∧ i = .int .i64 j ∧ ∃ D, Bn K j D ∧ DkOwn w.heap.size w wr g D) (fun i _ => 101 - (intOf i).toNat)
  case atStart => exact ⟨0, Nat.zero_le _, Nat.zero_le _, rfl, _, hB0, h2⟩
  case round =>
    clear h2 hB0
    obtain ⟨j, hjm, hj100, rfl, D, hBn, hO⟩ := hrel
    by_cases hlt : j < m
    · have hlti : (j : Int) < (m : Int) := by omega
      by_cases hl1 : j < 100
      · have hl1i : (j : Int) < 100 := by omega
        have hIr := hl.keep hO.b
        obtain ⟨b, off, rfl, hc⟩ := hIr.at (by omega)
        have hcj := hc j hlt
        obtain ⟨z, hz⟩ : ∃ z, l.getD j 0 = z := ⟨_, rfl⟩
        have hzb : 0 ≤ z ∧ z < 256 := by
          have h1 := hlr z (by rw [← hz, List.getD_eq_getElem?_getD, List.getElem?_eq_getElem (by have := hl.len; omega)]; exact List.getElem_mem _)
          simp [Lit.wf, IntKind.min, IntKind.max, IntKind.signed, IntKind.bits] at h1
          omega
        rw [hz] at hcj
        have hw1 : IntKind.i64.wrap ((j : Int) + 1) = (j : Int) + 1 := by rw [IntKind.wrap_i64]; omega
        have hst := bn_step hBn hj100 F (z % 3) hF3H.out
        have hOk := hBn.ok
        have hltH := Lib.hid hlt
        have hl1H := Lib.hid hl1
        clear hIr hc hz hlr hjm hj100 hlt hl1 hBn hl
        by_cases hm0 : z % 3 = 0
        · have b1 := below1 wr (.cells #[.int .u8 1] 5)
          have I1 := row_ints wr 5 .u8 [1]
          have c1 := own_append (file := F) (hO.keep b1) hOk (by omega) I1
          rw [hm0] at hst
          have hop : opF D F 0 = apD D F [1] := rfl
          rw [hop] at hst
          obtain ⟨D2, e, hde⟩ : ∃ D2 e, apD D F [1] = (D2, e) := ⟨_, _, rfl⟩
          rw [hde] at hst c1
          clear hop hde I1 b1 hO hOk
          go_wp2_with fail
          refine c1.mono ?_
          rintro q w3 ⟨rfl, h3⟩
          obtain ⟨hB3, he0⟩ := hst
          have he : e = if K ≤ j + 1 then 18 else 0 := he0
          clear he0
          obtain ⟨L3, P3, h4, _⟩ := h3.is
          obtain ⟨c0, cf, cd⟩ := h4.cells
          have hroom : D2.room = 65536 := hB3.room
          have hfuse : D2.fuse = ((K - (j + 1) : Nat) : Int) := hB3.fuse
          have hdown : D2.down = decide (K ≤ j + 1) := hB3.down
          rw [hroom] at c0
          rw [hfuse] at cf
          rw [hdown] at cd
          have hKb := hKbH.out
          have hw2 : IntKind.i64.wrap ((K : Int) - (j : Int)) = (K : Int) - (j : Int) := by rw [IntKind.wrap_i64]; have := hl1H.out; omega
          have hw3 : IntKind.i64.wrap ((K : Int) - (j : Int) - 1) = (K : Int) - (j : Int) - 1 := by rw [IntKind.wrap_i64]; have := hl1H.out; omega
          have hB3H := Lib.hid hB3
          have hw2H := Lib.hid hw2
          have hw3H := Lib.hid hw3
          clear hw2 hw3 c1 hB3 h4 hroom hfuse hdown
          by_cases hKj : K ≤ j + 1
          · have hKji : (K : Int) ≤ (j : Int) + 1 := by omega
            rw [if_pos hKj] at he
            rw [decide_eq_true hKj] at cd
            have hz2 : ((K - (j + 1) : Nat) : Int) = 0 := by omega
            rw [hz2] at cf
            have hDn := dDown_any c0 (by decide) cd
            have hFu := dFuse_any c0 (by decide) cf
            have hmxH := Lib.hid (show max ((K : Int) - (j : Int) - 1) 0 = 0 by omega)
            subst he
            clear c0 cf cd hKj hz2 hKb
            go_wp2_with fail
            refine hDn.mono ?_
            rintro q w4 ⟨rfl, rfl⟩
            go_wp2_with fail
            refine hFu.mono ?_
            rintro q w4 ⟨rfl, rfl⟩
            have hw2 := hw2H.out
            have hw3 := hw3H.out
            have hmx := hmxH.out
            go_wp2
            exact ⟨⟨j + 1, by have := hltH.out; omega, by have := hl1H.out; omega, by congr 1, D2, hB3H.out, h3⟩, by simp only [intOf]; have := hl1H.out; omega⟩
          · have hKji : ¬ (K : Int) ≤ (j : Int) + 1 := by omega
            rw [if_neg hKj] at he
            rw [decide_eq_false hKj] at cd
            have hz2 : ((K - (j + 1) : Nat) : Int) = (K : Int) - (j : Int) - 1 := by omega
            rw [hz2] at cf
            have hDn := dDown_any c0 (by decide) cd
            have hFu := dFuse_any c0 (by decide) cf
            have hmxH := Lib.hid (show max ((K : Int) - (j : Int) - 1) 0 = (K : Int) - (j : Int) - 1 by omega)
            subst he
            clear c0 cf cd hKj hz2 hKb
            go_wp2_with fail
            refine hDn.mono ?_
            rintro q w4 ⟨rfl, rfl⟩
            go_wp2_with fail
            refine hFu.mono ?_
            rintro q w4 ⟨rfl, rfl⟩
            have hw2 := hw2H.out
            have hw3 := hw3H.out
            have hmx := hmxH.out
            go_wp2
            all_goals first
              | exact ⟨⟨j + 1, by have := hltH.out; omega, by have := hl1H.out; omega, by congr 1, D2, hB3H.out, h3⟩, by simp only [intOf]; have := hl1H.out; omega⟩
              | (exfalso
                 rcases ‹(K : Int) ≤ (j : Int) + 1 ∨ _› with hx | hx
                 · omega
                 · rw [if_neg (by omega)] at hx
                   simp at hx)
        · by_cases hm1 : z % 3 = 1
          · have c1 := own_cut (file := F) (n := 0) hO hOk (by omega)
            rw [hm1] at hst
            have hop : opF D F 1 = ctD D F 0 := rfl
            rw [hop] at hst
            obtain ⟨D2, e, hde⟩ : ∃ D2 e, ctD D F 0 = (D2, e) := ⟨_, _, rfl⟩
            rw [hde] at hst c1
            clear hop hde hO hOk
            go_wp2_with fail
            refine c1.mono ?_
            rintro q w3 ⟨rfl, h3⟩
            obtain ⟨hB3, he0⟩ := hst
            have he : e = if K ≤ j + 1 then 18 else 0 := he0
            clear he0
            obtain ⟨L3, P3, h4, _⟩ := h3.is
            obtain ⟨c0, cf, cd⟩ := h4.cells
            have hroom : D2.room = 65536 := hB3.room
            have hfuse : D2.fuse = ((K - (j + 1) : Nat) : Int) := hB3.fuse
            have hdown : D2.down = decide (K ≤ j + 1) := hB3.down
            rw [hroom] at c0
            rw [hfuse] at cf
            rw [hdown] at cd
            have hKb := hKbH.out
            have hw2 : IntKind.i64.wrap ((K : Int) - (j : Int)) = (K : Int) - (j : Int) := by rw [IntKind.wrap_i64]; have := hl1H.out; omega
            have hw3 : IntKind.i64.wrap ((K : Int) - (j : Int) - 1) = (K : Int) - (j : Int) - 1 := by rw [IntKind.wrap_i64]; have := hl1H.out; omega
            have hB3H := Lib.hid hB3
            have hw2H := Lib.hid hw2
            have hw3H := Lib.hid hw3
            clear hw2 hw3 c1 hB3 h4 hroom hfuse hdown
            by_cases hKj : K ≤ j + 1
            · have hKji : (K : Int) ≤ (j : Int) + 1 := by omega
              rw [if_pos hKj] at he
              rw [decide_eq_true hKj] at cd
              have hz2 : ((K - (j + 1) : Nat) : Int) = 0 := by omega
              rw [hz2] at cf
              have hDn := dDown_any c0 (by decide) cd
              have hFu := dFuse_any c0 (by decide) cf
              have hmxH := Lib.hid (show max ((K : Int) - (j : Int) - 1) 0 = 0 by omega)
              subst he
              clear c0 cf cd hKj hz2 hKb
              go_wp2_with fail
              refine hDn.mono ?_
              rintro q w4 ⟨rfl, rfl⟩
              go_wp2_with fail
              refine hFu.mono ?_
              rintro q w4 ⟨rfl, rfl⟩
              have hw2 := hw2H.out
              have hw3 := hw3H.out
              have hmx := hmxH.out
              go_wp2
              exact ⟨⟨j + 1, by have := hltH.out; omega, by have := hl1H.out; omega, by congr 1, D2, hB3H.out, h3⟩, by simp only [intOf]; have := hl1H.out; omega⟩
            · have hKji : ¬ (K : Int) ≤ (j : Int) + 1 := by omega
              rw [if_neg hKj] at he
              rw [decide_eq_false hKj] at cd
              have hz2 : ((K - (j + 1) : Nat) : Int) = (K : Int) - (j : Int) - 1 := by omega
              rw [hz2] at cf
              have hDn := dDown_any c0 (by decide) cd
              have hFu := dFuse_any c0 (by decide) cf
              have hmxH := Lib.hid (show max ((K : Int) - (j : Int) - 1) 0 = (K : Int) - (j : Int) - 1 by omega)
              subst he
              clear c0 cf cd hKj hz2 hKb
              go_wp2_with fail
              refine hDn.mono ?_
              rintro q w4 ⟨rfl, rfl⟩
              go_wp2_with fail
              refine hFu.mono ?_
              rintro q w4 ⟨rfl, rfl⟩
              have hw2 := hw2H.out
              have hw3 := hw3H.out
              have hmx := hmxH.out
              go_wp2
              all_goals first
                | exact ⟨⟨j + 1, by have := hltH.out; omega, by have := hl1H.out; omega, by congr 1, D2, hB3H.out, h3⟩, by simp only [intOf]; have := hl1H.out; omega⟩
                | (exfalso
                   rcases ‹(K : Int) ≤ (j : Int) + 1 ∨ _› with hx | hx
                   · omega
                   · rw [if_neg (by omega)] at hx
                     simp at hx)
          · have hm2 : z % 3 = 2 := by omega
            have c1 := own_sync (file := F) hO hOk (by omega)
            rw [hm2] at hst
            have hop : opF D F 2 = syD D F := rfl
            rw [hop] at hst
            obtain ⟨D2, e, hde⟩ : ∃ D2 e, syD D F = (D2, e) := ⟨_, _, rfl⟩
            rw [hde] at hst c1
            clear hop hde hO hOk
            go_wp2_with fail
            refine c1.mono ?_
            rintro q w3 ⟨rfl, h3⟩
            obtain ⟨hB3, he0⟩ := hst
            have he : e = if K ≤ j + 1 then 18 else 0 := he0
            clear he0
            obtain ⟨L3, P3, h4, _⟩ := h3.is
            obtain ⟨c0, cf, cd⟩ := h4.cells
            have hroom : D2.room = 65536 := hB3.room
            have hfuse : D2.fuse = ((K - (j + 1) : Nat) : Int) := hB3.fuse
            have hdown : D2.down = decide (K ≤ j + 1) := hB3.down
            rw [hroom] at c0
            rw [hfuse] at cf
            rw [hdown] at cd
            have hKb := hKbH.out
            have hw2 : IntKind.i64.wrap ((K : Int) - (j : Int)) = (K : Int) - (j : Int) := by rw [IntKind.wrap_i64]; have := hl1H.out; omega
            have hw3 : IntKind.i64.wrap ((K : Int) - (j : Int) - 1) = (K : Int) - (j : Int) - 1 := by rw [IntKind.wrap_i64]; have := hl1H.out; omega
            have hB3H := Lib.hid hB3
            have hw2H := Lib.hid hw2
            have hw3H := Lib.hid hw3
            clear hw2 hw3 c1 hB3 h4 hroom hfuse hdown
            by_cases hKj : K ≤ j + 1
            · have hKji : (K : Int) ≤ (j : Int) + 1 := by omega
              rw [if_pos hKj] at he
              rw [decide_eq_true hKj] at cd
              have hz2 : ((K - (j + 1) : Nat) : Int) = 0 := by omega
              rw [hz2] at cf
              have hDn := dDown_any c0 (by decide) cd
              have hFu := dFuse_any c0 (by decide) cf
              have hmxH := Lib.hid (show max ((K : Int) - (j : Int) - 1) 0 = 0 by omega)
              subst he
              clear c0 cf cd hKj hz2 hKb
              go_wp2_with fail
              refine hDn.mono ?_
              rintro q w4 ⟨rfl, rfl⟩
              go_wp2_with fail
              refine hFu.mono ?_
              rintro q w4 ⟨rfl, rfl⟩
              have hw2 := hw2H.out
              have hw3 := hw3H.out
              have hmx := hmxH.out
              go_wp2
              exact ⟨⟨j + 1, by have := hltH.out; omega, by have := hl1H.out; omega, by congr 1, D2, hB3H.out, h3⟩, by simp only [intOf]; have := hl1H.out; omega⟩
            · have hKji : ¬ (K : Int) ≤ (j : Int) + 1 := by omega
              rw [if_neg hKj] at he
              rw [decide_eq_false hKj] at cd
              have hz2 : ((K - (j + 1) : Nat) : Int) = (K : Int) - (j : Int) - 1 := by omega
              rw [hz2] at cf
              have hDn := dDown_any c0 (by decide) cd
              have hFu := dFuse_any c0 (by decide) cf
              have hmxH := Lib.hid (show max ((K : Int) - (j : Int) - 1) 0 = (K : Int) - (j : Int) - 1 by omega)
              subst he
              clear c0 cf cd hKj hz2 hKb
              go_wp2_with fail
              refine hDn.mono ?_
              rintro q w4 ⟨rfl, rfl⟩
              go_wp2_with fail
              refine hFu.mono ?_
              rintro q w4 ⟨rfl, rfl⟩
              have hw2 := hw2H.out
              have hw3 := hw3H.out
              have hmx := hmxH.out
              go_wp2
              all_goals first
                | exact ⟨⟨j + 1, by have := hltH.out; omega, by have := hl1H.out; omega, by congr 1, D2, hB3H.out, h3⟩, by simp only [intOf]; have := hl1H.out; omega⟩
                | (exfalso
                   rcases ‹(K : Int) ≤ (j : Int) + 1 ∨ _› with hx | hx
                   · omega
                   · rw [if_neg (by omega)] at hx
                     simp at hx)
      · have hl1i : ¬ (j : Int) < 100 := by omega
        have I0 : Ints .i64 wr none 0 0 [] := ⟨rfl, Nat.le_refl _, .inl rfl⟩
        have c1 := own_crash hO (Below.refl _ _) hBn.ok (by omega) I0 (fun x hx _ => by cases hx)
        obtain ⟨q1, q2⟩ := bn_crash hBn F hF3H.out
        have o1 := crD_ok hBn.ok []
        have hr : (crD D []).room = 65536 := hBn.room
        obtain ⟨D2, hD2⟩ : ∃ D2, crD D [] = D2 := ⟨_, rfl⟩
        rw [hD2] at c1 q1 q2 o1 hr
        clear hO hBn I0 hl hlr hjm hD2
        have o1H := Lib.hid o1
        clear o1
        go_wp2_with fail
        refine c1.mono ?_
        rintro q w3 ⟨rfl, h3⟩
        obtain ⟨L3, P3, h4, _⟩ := h3.is
        obtain ⟨c0, cf, cd⟩ := h4.cells
        rw [hr] at c0
        rw [q1] at cd
        have hDn := dDown_any c0 (by decide) cd
        clear c0 cf cd h4 c1 hr q1
        go_wp2_with fail
        refine hDn.mono ?_
        rintro q w4 ⟨rfl, rfl⟩
        have I1 : Ints .u8 w3 none 0 0 [] := ⟨rfl, Nat.le_refl _, .inl rfl⟩
        have c2 := own_append (file := F) h3 o1H.out (by omega) I1
        rw [q2] at c2
        clear I1 h3 hDn q2
        go_wp2_with fail
        refine c2.mono ?_
        rintro q w5 ⟨rfl, h5⟩
        have hB5 := h5.b
        have hs5 := h5.s
        clear c2 h5
        go_wp2_with fail
        refine (alive18_any w5).mono ?_
        rintro q w6 ⟨rfl, b6⟩
        have hB6 := hB5.trans (b6.mono hs5)
        clear hB5 hs5 b6
        go_wp2
        go_ret
        exact ⟨rfl, hB6⟩
    · have hlti : ¬ (j : Int) < (m : Int) := by omega
      have I0 : Ints .i64 wr none 0 0 [] := ⟨rfl, Nat.le_refl _, .inl rfl⟩
      have c1 := own_crash hO (Below.refl _ _) hBn.ok (by omega) I0 (fun x hx _ => by cases hx)
      obtain ⟨q1, q2⟩ := bn_crash hBn F hF3H.out
      have o1 := crD_ok hBn.ok []
      have hr : (crD D []).room = 65536 := hBn.room
      obtain ⟨D2, hD2⟩ : ∃ D2, crD D [] = D2 := ⟨_, rfl⟩
      rw [hD2] at c1 q1 q2 o1 hr
      clear hO hBn I0 hl hlr hjm hD2
      have o1H := Lib.hid o1
      clear o1
      go_wp2_with fail
      refine c1.mono ?_
      rintro q w3 ⟨rfl, h3⟩
      obtain ⟨L3, P3, h4, _⟩ := h3.is
      obtain ⟨c0, cf, cd⟩ := h4.cells
      rw [hr] at c0
      rw [q1] at cd
      have hDn := dDown_any c0 (by decide) cd
      clear c0 cf cd h4 c1 hr q1
      go_wp2_with fail
      refine hDn.mono ?_
      rintro q w4 ⟨rfl, rfl⟩
      have I1 : Ints .u8 w3 none 0 0 [] := ⟨rfl, Nat.le_refl _, .inl rfl⟩
      have c2 := own_append (file := F) h3 o1H.out (by omega) I1
      rw [q2] at c2
      clear I1 h3 hDn q2
      go_wp2_with fail
      refine c2.mono ?_
      rintro q w5 ⟨rfl, h5⟩
      have hB5 := h5.b
      have hs5 := h5.s
      clear c2 h5
      go_wp2_with fail
      refine (alive18_any w5).mono ?_
      rintro q w6 ⟨rfl, b6⟩
      have hB6 := hB5.trans (b6.mono hs5)
      clear hB5 hs5 b6
      go_wp2
      go_ret
      exact ⟨rfl, hB6⟩
end Go.Proofs.Ytehfimkgoepngaa
