/-
  The document's own text of a number, and its reading of a text as a number (layer 12): Num, NumOf. Nothing is written. Conditions: numbers below 2^64, at most a million signs.
-/
import Derived.Test.YtbiabjehdmddbaaDoorHexNum
import Derived.Test.YtbiabjehdmddbaaDoorHexRef
namespace Go.Proofs.YtbiabjehdmddbaaDoor
open Go.RowKit

set_option maxRecDepth 100000 in
set_option maxHeartbeats 1000000 in
theorem rNum_any (n : Nat) : ∀ (w : World), n < 18446744073709551616 → Calls Tryd.prog 34 #[.int .u64 (n : Int)] w fun q w' => q = .returned (.string (strOfNums (numL n))) ∧ w = w' := by
  induction n using Nat.strongRecOn with
  | ind n ih =>
    intro w hn
    by_cases h : n < 10
    · have hh := rHalf_any n (by omega) w
      rw [numL_small h]
      rw [show sgn (n : Int) = 48 + (n : Int) from if_pos (by omega)] at hh
      obtain ⟨S, hS⟩ : ∃ S, strOfNums [48 + (n : Int)] = S := ⟨_, rfl⟩
      rw [hS] at hh ⊢
      have hni : (n : Int) < 10 := by omega
      clear ih hn h hS
      go_enter Tryd.func34, Tryd.ntmps34
      go_wp2_with fail
      refine hh.mono ?_
      rintro q w1 ⟨rfl, rfl⟩
      go_wp2
      go_ret
      exact ⟨rfl, rfl⟩
    · have hr := ih (n / 10) (by omega) w (by omega)
      have hh := rHalf_any (n % 10) (by omega) w
      rw [show sgn ((n % 10 : Nat) : Int) = 48 + ((n % 10 : Nat) : Int) from if_pos (by omega)] at hh
      rw [numL_big h, ← str_append]
      have hz := numL_size (n / 10) 19 (by omega)
      have z1 : (strOfNums (numL (n / 10))).size ≤ 20 := by rw [strOfNums_size]; omega
      obtain ⟨S, hS⟩ : ∃ S, strOfNums (numL (n / 10)) = S := ⟨_, rfl⟩
      obtain ⟨T, hT⟩ : ∃ T, strOfNums [48 + ((n % 10 : Nat) : Int)] = T := ⟨_, rfl⟩
      have z2 : T.size = 1 := by rw [← hT]; rfl
      rw [hS] at hr z1
      rw [hT] at hh
      rw [hS, hT]
      have k1 := fun w => run_string_add_sum (P := Tryd.prog) w S T (by omega)
      obtain ⟨A, hA⟩ : ∃ A, n / 10 = A := ⟨_, rfl⟩
      obtain ⟨B, hB⟩ : ∃ B, n % 10 = B := ⟨_, rfl⟩
      rw [hA] at hr
      rw [hB] at hh
      have e1 : (n : Int) / 10 = (A : Int) := by omega
      have e2 : (n : Int) % 10 = (B : Int) := by omega
      have hni : ¬ (n : Int) < 10 := by omega
      have hB10 : (B : Int) < 10 := by omega
      obtain ⟨N, hN⟩ : ∃ N : Int, (n : Int) = N := ⟨_, rfl⟩
      have q1 : N.tdiv 10 = (A : Int) := by rw [Int.tdiv_eq_ediv_of_nonneg (by omega)]; omega
      have q2 : N.tmod 10 = (B : Int) := by rw [Int.tmod_eq_emod_of_nonneg (by omega)]; omega
      have q3 : IntKind.u64.wrap (A : Int) = (A : Int) := by rw [IntKind.wrap_u64]; omega
      have q4 : IntKind.u64.wrap (B : Int) = (B : Int) := by rw [IntKind.wrap_u64]; omega
      have q5 : IntKind.i64.wrap (B : Int) = (B : Int) := by rw [IntKind.wrap_i64]; omega
      rw [hN] at e1 e2 hni ⊢
      clear ih hn h hS hT hA hB hz hN z1 z2
      go_enter Tryd.func34, Tryd.ntmps34
      go_wp2_with fail
      refine hr.mono ?_
      rintro q w1 ⟨rfl, rfl⟩
      go_wp2_with fail
      refine hh.mono ?_
      rintro q w1 ⟨rfl, rfl⟩
      go_wp2
      go_ret
      exact ⟨rfl, rfl⟩

theorem valL_take (ss : List Int) (j : Nat) (h : j < ss.length) : valL (ss.take (j + 1)) = 10 * valL (ss.take j) + (ss.getD j 0 - 48).toNat := by
  rw [List.take_succ_eq_append_getElem h, valL_snoc, List.getD_eq_getElem?_getD, List.getElem?_eq_getElem h]
  rfl
theorem valL_append (a b : List Int) : valL a ≤ valL (a ++ b) := by
  have h : valL (a ++ b) = b.foldl valF (valL a) := by unfold valL; rw [List.foldl_append]
  rw [h, valL_cons_fold]
  have := Nat.le_mul_of_pos_right (valL a) (Nat.pow_pos (n := b.length) (show 0 < 10 by decide))
  omega
theorem valL_take_le (ss : List Int) (j : Nat) : valL (ss.take j) ≤ valL ss := by
  have h := valL_append (ss.take j) (ss.drop j)
  rwa [List.take_append_drop] at h

set_option maxRecDepth 100000 in
set_option maxHeartbeats 2000000 in
theorem rNumOf_any (s : ByteArray) (m : Nat) (w : World) (hs : s.size ≤ 1000000) (hm : m < 18446744073709551616) :
    Calls Tryd.prog 20 #[.string s, .int .u64 (m : Int)] w fun q w' => q = .returned (.tuple #[.int .u64 ((unNum (numsOf s) m).1 : Int), .int .i64 (unNum (numsOf s) m).2]) ∧ w = w' := by
  have hl := numsOf_length s
  have hr := numsOf_range s
  have hix := fun i (h : i < s.size) w => str_index (P := Tryd.prog) s i h 9 Tryd.underlying9 w
  have hcmp := lex_str s (strOfNums (numL m))
  have heq := toList_nums s (strOfNums (numL m))
  rw [nums_str (numL_ok m)] at hcmp heq
  have htop := rNum_any m w hm
  have htl := numL_size m 19 (by omega)
  have hcm := canon_numL m
  have hvm := valL_numL m
  have htz : (strOfNums (numL m)).size = (numL m).length := strOfNums_size _
  obtain ⟨tt, htt⟩ : ∃ tt, numL m = tt := ⟨_, rfl⟩
  rw [htt] at hcmp heq htop htl hcm hvm htz
  obtain ⟨S, hS⟩ : ∃ S, strOfNums tt = S := ⟨_, rfl⟩
  rw [hS] at hcmp heq htop htz
  obtain ⟨ss, hss⟩ : ∃ ss, numsOf s = ss := ⟨_, rfl⟩
  rw [hss] at hl hr hix hcmp heq ⊢
  obtain ⟨N, hN⟩ : ∃ N, s.size = N := ⟨_, rfl⟩
  rw [hN] at hl hix hs
  obtain ⟨M, hM⟩ : ∃ M : Int, (m : Int) = M := ⟨_, rfl⟩
  rw [hM] at htop ⊢
  have hmH := Lib.hid hm
  have hMH := Lib.hid hM
  have hrH := Lib.hid hr
  clear hss htt hS hM hm hr
  by_cases h0 : ss = []
  · have hU := Lib.hid (unNum_bad (ss := ss) (m := m) (fun h => h.1 h0))
    have n0 : (N : Int) = 0 := by rw [h0] at hl; simp at hl; omega
    have n0b : ((N : Int) == 0) = true := by rw [n0]; rfl
    clear hix hcmp heq htop
    go_enter Tryd.func20, Tryd.ntmps20
    go_wp2
    go_ret2
    exact ⟨by rw [hU.out]; rfl, rfl⟩
  have hN0 : 0 < N := by rw [← hl]; exact List.length_pos_iff.2 h0
  have n0b : ((N : Int) == 0) = false := beq_false_of_ne (by omega)
  have hNI : (N : Int) ≤ 1000000 := by omega
  have hx0 := hix 0 hN0
  rw [show ((0 : Nat) : Int) = 0 from rfl] at hx0
  obtain ⟨c0, hc0⟩ : ∃ c0, ss.getD 0 0 = c0 := ⟨_, rfl⟩
  rw [hc0] at hx0
  have hixH := Lib.hid hix
  clear hix
  by_cases h1 : 1 < N ∧ c0 = 48
  · have hU := Lib.hid (unNum_bad (ss := ss) (m := m) (fun h => h.2.1 ⟨by omega, by rw [hc0]; exact h1.2⟩))
    have n1 : 1 < (N : Int) := by omega
    rw [h1.2] at hx0
    clear hcmp heq htop h1 hc0 hN0
    go_enter Tryd.func20, Tryd.ntmps20
    go_wp2
    go_ret2
    exact ⟨by rw [hU.out]; rfl, rfl⟩
  have h1' : ¬ (1 < ss.length ∧ ss.getD 0 0 = 48) := fun h => h1 ⟨by omega, by rw [← hc0]; exact h.2⟩
  have htzi : (S.size : Int) = (tt.length : Int) := by omega
  obtain ⟨T, hT⟩ : ∃ T, tt.length = T := ⟨_, rfl⟩
  rw [hT] at htz htl htzi
  obtain ⟨lx, hlx⟩ : ∃ lx, lexL ss tt = lx := ⟨_, rfl⟩
  obtain ⟨eq, heq'⟩ : ∃ eq, decide (ss = tt) = eq := ⟨_, rfl⟩
  rw [hlx] at hcmp
  rw [heq'] at heq
  have hgtr : ∀ w, (binOp .gtr 9 (.string s) (.string S)).run Tryd.prog w = .ok (.bool (!(lx || eq))) w := fun w => by simp [binOp, Op.stringOp, hcmp, heq]
  have hlxH := Lib.hid hlx
  have heqH := Lib.hid heq'
  have hvmH := Lib.hid hvm
  have hcmH := Lib.hid hcm
  have hTH := Lib.hid hT
  have hlH := Lib.hid hl
  clear hlx heq' htz hvm hcm hT hl
  by_cases n1 : 1 < N
  · have n1i : 1 < (N : Int) := by omega
    have c0b : (c0 == 48) = false := beq_false_of_ne (fun h => h1 ⟨n1, h⟩)
    clear h1 hc0 n1
    go_enter Tryd.func20, Tryd.ntmps20
    go_wp2_with fail
    go_loopw [6] (fun i wr => ∃ j : Nat, j ≤ N ∧ i = .int .i64 j ∧ digsL (ss.take j) ∧ wr = w) (fun i _ => N - (intOf i).toNat)
    case atStart => exact ⟨0, Nat.zero_le _, rfl, (fun c h => by cases h), rfl⟩
    case round =>
      obtain ⟨j, hj, rfl, hdig, hwr⟩ := hrel
      have hwr' := hwr.symm
      subst hwr'
      by_cases hlt : j < N
      · have hji : (j : Int) < (N : Int) := by omega
        have hxj := hixH.out j hlt
        obtain ⟨c, hc⟩ : ∃ c, ss.getD j 0 = c := ⟨_, rfl⟩
        have hmem : c ∈ ss := by rw [← hc, List.getD_eq_getElem?_getD, List.getElem?_eq_getElem (by have := hlH.out; omega)]; exact List.getElem_mem _
        have hcr := hrH.out c hmem
        rw [hc] at hxj
        by_cases hd : isDig c
        · have hds : digsL (ss.take (j + 1)) := by
            rw [List.take_succ_eq_append_getElem (by have := hlH.out; omega)]
            intro z hz
            rcases List.mem_append.1 hz with hz | hz
            · exact hdig z hz
            · rw [List.mem_singleton.1 hz]
              rw [List.getD_eq_getElem?_getD, List.getElem?_eq_getElem (by have := hlH.out; omega)] at hc
              have hc' : ss[j]'(by have := hlH.out; omega) = c := hc
              rw [hc']
              exact hd
          have hdsH := Lib.hid hds
          unfold isDig at hd
          have hd1 : ¬ c < 48 := by omega
          have hd2 : ¬ 57 < c := by omega
          have hltH := Lib.hid hlt
          clear hds hdig hlt hj hc hmem hd
          go_wp2
          exact ⟨⟨j + 1, by have := hltH.out; omega, by congr 1, hdsH.out, by trivial⟩, by simp only [intOf]; have := hltH.out; omega⟩
        · have hU := Lib.hid (unNum_bad (ss := ss) (m := m) (fun h => hd (h.2.2 c hmem)))
          unfold isDig at hd
          by_cases hd1 : c < 48
          · clear hdig hlt hj hc hmem hd
            go_wp2
            go_ret2
            exact ⟨by rw [hU.out]; rfl, rfl⟩
          · have hd2 : 57 < c := by omega
            clear hdig hlt hj hc hmem hd
            go_wp2
            go_ret2
            exact ⟨by rw [hU.out]; rfl, rfl⟩
      · obtain rfl : N = j := by omega
        have hji : ¬ (N : Int) < (N : Int) := by omega
        rw [List.take_of_length_le (by have := hlH.out; omega)] at hdig
        have hcs : canon ss := ⟨h0, h1', hdig⟩
        have hv := val_cmp hcs hcmH.out
        rw [hvmH.out, hlH.out, hTH.out] at hv
        clear hlt hj hdig
        by_cases t1 : T < N
        · have hgt := hv.1 (.inl t1)
          have hno := hgt
          have t1i : (T : Int) < (N : Int) := by omega
          clear hv
          have hU := Lib.hid (unNum_long (m := m) hcs hgt)
          clear hcs hgt hno
          go_wp2_with fail
          refine htop.mono ?_
          rintro q w1 ⟨rfl, rfl⟩
          go_wp2
          go_ret2
          exact ⟨by rw [hU.out]; rfl, rfl⟩
        have t1i : ¬ (T : Int) < (N : Int) := by omega
        by_cases t2 : N = T
        · have t2b : ((N : Int) == (T : Int)) = true := by rw [t2]; exact beq_self_eq_true _
          cases lx with
          | true =>
            have hno : ¬ m < valL ss := fun h => by
              rcases hv.2 h with h | ⟨_, h, _⟩
              · exact t1 h
              · exact h hlxH.out
            clear hv t2 t1
            have hU := Lib.hid (unNum_ok (m := m) hcs hno)
            have hvle := Lib.hid (show valL ss ≤ m by omega)
            have hdgH := Lib.hid hcs.2.2
            clear hcs hno
            go_wp2_with fail
            refine htop.mono ?_
            rintro q w1 ⟨rfl, rfl⟩
            go_wp2_with fail
            go_loopw [8, 9] (fun v i wr => ∃ j : Nat, j ≤ N ∧ i = .int .i64 j ∧ v = .int .u64 ((valL (ss.take j) : Nat) : Int) ∧ wr = w) (fun _ i _ => N - (intOf i).toNat)
            case atStart => exact ⟨0, Nat.zero_le _, rfl, rfl, rfl⟩
            case round =>
              obtain ⟨j, hj, rfl, rfl, hwr⟩ := hrel
              have hwr' := hwr.symm
              subst hwr'
              by_cases hlt : j < N
              · have hji : (j : Int) < (N : Int) := by omega
                have hxj := hixH.out j hlt
                have hst := valL_take ss j (by have := hlH.out; omega)
                have hle := valL_take_le ss (j + 1)
                have hdg := getD_range (p := isDig) hdgH.out j (by have := hlH.out; omega)
                obtain ⟨c, hc⟩ : ∃ c, ss.getD j 0 = c := ⟨_, rfl⟩
                rw [hc] at hxj hst hdg
                unfold isDig at hdg
                have hsti : ((valL (ss.take (j + 1)) : Nat) : Int) = 10 * ((valL (ss.take j) : Nat) : Int) + (c - 48) := by omega
                have hlim : ((valL (ss.take (j + 1)) : Nat) : Int) < 18446744073709551616 := by have := hvle.out; have := hmH.out; omega
                obtain ⟨x, hx⟩ : ∃ x : Int, ((valL (ss.take j) : Nat) : Int) = x := ⟨_, rfl⟩
                have hx0 : 0 ≤ x := by omega
                rw [hsti, hx] at hlim
                have hstH := Lib.hid hsti
                have hxH := Lib.hid hx
                have f1 : IntKind.u64.wrap (10 * x) = 10 * x := by rw [IntKind.wrap_u64]; omega
                have f2 : IntKind.u64.wrap (10 * x + (c - 48)) = 10 * x + (c - 48) := by rw [IntKind.wrap_u64]; omega
                have f3 : (c - 48) % 256 = c - 48 := by omega
                have f4 : 10 * x % 18446744073709551616 = 10 * x := by omega
                have f5 : (10 * x + (c - 48)) % 18446744073709551616 = 10 * x + (c - 48) := by omega
                have hltH := Lib.hid hlt
                rw [hx]
                clear hlt hj hst hle hc hx hsti
                go_wp2
                exact ⟨⟨j + 1, by have := hltH.out; omega, by congr 1, by rw [hstH.out, hxH.out], by trivial⟩, by simp only [intOf]; have := hltH.out; omega⟩
              · obtain rfl : N = j := by omega
                have hji : ¬ (N : Int) < (N : Int) := by omega
                rw [List.take_of_length_le (by have := hlH.out; omega)]
                clear hlt hj
                go_wp2
                go_ret2
                exact ⟨by rw [hU.out]; rfl, rfl⟩
          | false =>
            cases eq with
            | true =>
              have hno : ¬ m < valL ss := fun h => by
                rcases hv.2 h with h | ⟨_, _, h⟩
                · exact t1 h
                · exact h (of_decide_eq_true heqH.out)
              clear hv t2 t1
              have hU := Lib.hid (unNum_ok (m := m) hcs hno)
              have hvle := Lib.hid (show valL ss ≤ m by omega)
              have hdgH := Lib.hid hcs.2.2
              clear hcs hno
              go_wp2_with fail
              refine htop.mono ?_
              rintro q w1 ⟨rfl, rfl⟩
              go_wp2_with fail
              go_loopw [8, 9] (fun v i wr => ∃ j : Nat, j ≤ N ∧ i = .int .i64 j ∧ v = .int .u64 ((valL (ss.take j) : Nat) : Int) ∧ wr = w) (fun _ i _ => N - (intOf i).toNat)
              case atStart => exact ⟨0, Nat.zero_le _, rfl, rfl, rfl⟩
              case round =>
                obtain ⟨j, hj, rfl, rfl, hwr⟩ := hrel
                have hwr' := hwr.symm
                subst hwr'
                by_cases hlt : j < N
                · have hji : (j : Int) < (N : Int) := by omega
                  have hxj := hixH.out j hlt
                  have hst := valL_take ss j (by have := hlH.out; omega)
                  have hle := valL_take_le ss (j + 1)
                  have hdg := getD_range (p := isDig) hdgH.out j (by have := hlH.out; omega)
                  obtain ⟨c, hc⟩ : ∃ c, ss.getD j 0 = c := ⟨_, rfl⟩
                  rw [hc] at hxj hst hdg
                  unfold isDig at hdg
                  have hsti : ((valL (ss.take (j + 1)) : Nat) : Int) = 10 * ((valL (ss.take j) : Nat) : Int) + (c - 48) := by omega
                  have hlim : ((valL (ss.take (j + 1)) : Nat) : Int) < 18446744073709551616 := by have := hvle.out; have := hmH.out; omega
                  obtain ⟨x, hx⟩ : ∃ x : Int, ((valL (ss.take j) : Nat) : Int) = x := ⟨_, rfl⟩
                  have hx0 : 0 ≤ x := by omega
                  rw [hsti, hx] at hlim
                  have hstH := Lib.hid hsti
                  have hxH := Lib.hid hx
                  have f1 : IntKind.u64.wrap (10 * x) = 10 * x := by rw [IntKind.wrap_u64]; omega
                  have f2 : IntKind.u64.wrap (10 * x + (c - 48)) = 10 * x + (c - 48) := by rw [IntKind.wrap_u64]; omega
                  have f3 : (c - 48) % 256 = c - 48 := by omega
                  have f4 : 10 * x % 18446744073709551616 = 10 * x := by omega
                  have f5 : (10 * x + (c - 48)) % 18446744073709551616 = 10 * x + (c - 48) := by omega
                  have hltH := Lib.hid hlt
                  rw [hx]
                  clear hlt hj hst hle hc hx hsti
                  go_wp2
                  exact ⟨⟨j + 1, by have := hltH.out; omega, by congr 1, by rw [hstH.out, hxH.out], by trivial⟩, by simp only [intOf]; have := hltH.out; omega⟩
                · obtain rfl : N = j := by omega
                  have hji : ¬ (N : Int) < (N : Int) := by omega
                  rw [List.take_of_length_le (by have := hlH.out; omega)]
                  clear hlt hj
                  go_wp2
                  go_ret2
                  exact ⟨by rw [hU.out]; rfl, rfl⟩
            | false =>
              have hgt := hv.1 (.inr ⟨t2, by rw [hlxH.out]; exact Bool.false_ne_true, of_decide_eq_false heqH.out⟩)
              have hno := hgt
              clear hv t2 t1
              have hU := Lib.hid (unNum_long (m := m) hcs hgt)
              clear hcs hgt hno
              go_wp2_with fail
              refine htop.mono ?_
              rintro q w1 ⟨rfl, rfl⟩
              go_wp2
              go_ret2
              exact ⟨by rw [hU.out]; rfl, rfl⟩
        · have t2b : ((N : Int) == (T : Int)) = false := beq_false_of_ne (by omega)
          have hno : ¬ m < valL ss := fun h => by
            rcases hv.2 h with h | ⟨h, _, _⟩
            · exact t1 h
            · exact t2 h
          clear hv t2 t1
          have hU := Lib.hid (unNum_ok (m := m) hcs hno)
          have hvle := Lib.hid (show valL ss ≤ m by omega)
          have hdgH := Lib.hid hcs.2.2
          clear hcs hno
          go_wp2_with fail
          refine htop.mono ?_
          rintro q w1 ⟨rfl, rfl⟩
          go_wp2_with fail
          go_loopw [8, 9] (fun v i wr => ∃ j : Nat, j ≤ N ∧ i = .int .i64 j ∧ v = .int .u64 ((valL (ss.take j) : Nat) : Int) ∧ wr = w) (fun _ i _ => N - (intOf i).toNat)
          case atStart => exact ⟨0, Nat.zero_le _, rfl, rfl, rfl⟩
          case round =>
            obtain ⟨j, hj, rfl, rfl, hwr⟩ := hrel
            have hwr' := hwr.symm
            subst hwr'
            by_cases hlt : j < N
            · have hji : (j : Int) < (N : Int) := by omega
              have hxj := hixH.out j hlt
              have hst := valL_take ss j (by have := hlH.out; omega)
              have hle := valL_take_le ss (j + 1)
              have hdg := getD_range (p := isDig) hdgH.out j (by have := hlH.out; omega)
              obtain ⟨c, hc⟩ : ∃ c, ss.getD j 0 = c := ⟨_, rfl⟩
              rw [hc] at hxj hst hdg
              unfold isDig at hdg
              have hsti : ((valL (ss.take (j + 1)) : Nat) : Int) = 10 * ((valL (ss.take j) : Nat) : Int) + (c - 48) := by omega
              have hlim : ((valL (ss.take (j + 1)) : Nat) : Int) < 18446744073709551616 := by have := hvle.out; have := hmH.out; omega
              obtain ⟨x, hx⟩ : ∃ x : Int, ((valL (ss.take j) : Nat) : Int) = x := ⟨_, rfl⟩
              have hx0 : 0 ≤ x := by omega
              rw [hsti, hx] at hlim
              have hstH := Lib.hid hsti
              have hxH := Lib.hid hx
              have f1 : IntKind.u64.wrap (10 * x) = 10 * x := by rw [IntKind.wrap_u64]; omega
              have f2 : IntKind.u64.wrap (10 * x + (c - 48)) = 10 * x + (c - 48) := by rw [IntKind.wrap_u64]; omega
              have f3 : (c - 48) % 256 = c - 48 := by omega
              have f4 : 10 * x % 18446744073709551616 = 10 * x := by omega
              have f5 : (10 * x + (c - 48)) % 18446744073709551616 = 10 * x + (c - 48) := by omega
              have hltH := Lib.hid hlt
              rw [hx]
              clear hlt hj hst hle hc hx hsti
              go_wp2
              exact ⟨⟨j + 1, by have := hltH.out; omega, by congr 1, by rw [hstH.out, hxH.out], by trivial⟩, by simp only [intOf]; have := hltH.out; omega⟩
            · obtain rfl : N = j := by omega
              have hji : ¬ (N : Int) < (N : Int) := by omega
              rw [List.take_of_length_le (by have := hlH.out; omega)]
              clear hlt hj
              go_wp2
              go_ret2
              exact ⟨by rw [hU.out]; rfl, rfl⟩
  · have n1i : ¬ 1 < (N : Int) := by omega
    clear h1 hc0 n1 hx0
    go_enter Tryd.func20, Tryd.ntmps20
    go_wp2_with fail
    go_loopw [6] (fun i wr => ∃ j : Nat, j ≤ N ∧ i = .int .i64 j ∧ digsL (ss.take j) ∧ wr = w) (fun i _ => N - (intOf i).toNat)
    case atStart => exact ⟨0, Nat.zero_le _, rfl, (fun c h => by cases h), rfl⟩
    case round =>
      obtain ⟨j, hj, rfl, hdig, hwr⟩ := hrel
      have hwr' := hwr.symm
      subst hwr'
      by_cases hlt : j < N
      · have hji : (j : Int) < (N : Int) := by omega
        have hxj := hixH.out j hlt
        obtain ⟨c, hc⟩ : ∃ c, ss.getD j 0 = c := ⟨_, rfl⟩
        have hmem : c ∈ ss := by rw [← hc, List.getD_eq_getElem?_getD, List.getElem?_eq_getElem (by have := hlH.out; omega)]; exact List.getElem_mem _
        have hcr := hrH.out c hmem
        rw [hc] at hxj
        by_cases hd : isDig c
        · have hds : digsL (ss.take (j + 1)) := by
            rw [List.take_succ_eq_append_getElem (by have := hlH.out; omega)]
            intro z hz
            rcases List.mem_append.1 hz with hz | hz
            · exact hdig z hz
            · rw [List.mem_singleton.1 hz]
              rw [List.getD_eq_getElem?_getD, List.getElem?_eq_getElem (by have := hlH.out; omega)] at hc
              have hc' : ss[j]'(by have := hlH.out; omega) = c := hc
              rw [hc']
              exact hd
          have hdsH := Lib.hid hds
          unfold isDig at hd
          have hd1 : ¬ c < 48 := by omega
          have hd2 : ¬ 57 < c := by omega
          have hltH := Lib.hid hlt
          clear hds hdig hlt hj hc hmem hd
          go_wp2
          exact ⟨⟨j + 1, by have := hltH.out; omega, by congr 1, hdsH.out, by trivial⟩, by simp only [intOf]; have := hltH.out; omega⟩
        · have hU := Lib.hid (unNum_bad (ss := ss) (m := m) (fun h => hd (h.2.2 c hmem)))
          unfold isDig at hd
          by_cases hd1 : c < 48
          · clear hdig hlt hj hc hmem hd
            go_wp2
            go_ret2
            exact ⟨by rw [hU.out]; rfl, rfl⟩
          · have hd2 : 57 < c := by omega
            clear hdig hlt hj hc hmem hd
            go_wp2
            go_ret2
            exact ⟨by rw [hU.out]; rfl, rfl⟩
      · obtain rfl : N = j := by omega
        have hji : ¬ (N : Int) < (N : Int) := by omega
        rw [List.take_of_length_le (by have := hlH.out; omega)] at hdig
        have hcs : canon ss := ⟨h0, h1', hdig⟩
        have hv := val_cmp hcs hcmH.out
        rw [hvmH.out, hlH.out, hTH.out] at hv
        clear hlt hj hdig
        by_cases t1 : T < N
        · have hgt := hv.1 (.inl t1)
          have hno := hgt
          have t1i : (T : Int) < (N : Int) := by omega
          clear hv
          have hU := Lib.hid (unNum_long (m := m) hcs hgt)
          clear hcs hgt hno
          go_wp2_with fail
          refine htop.mono ?_
          rintro q w1 ⟨rfl, rfl⟩
          go_wp2
          go_ret2
          exact ⟨by rw [hU.out]; rfl, rfl⟩
        have t1i : ¬ (T : Int) < (N : Int) := by omega
        by_cases t2 : N = T
        · have t2b : ((N : Int) == (T : Int)) = true := by rw [t2]; exact beq_self_eq_true _
          cases lx with
          | true =>
            have hno : ¬ m < valL ss := fun h => by
              rcases hv.2 h with h | ⟨_, h, _⟩
              · exact t1 h
              · exact h hlxH.out
            clear hv t2 t1
            have hU := Lib.hid (unNum_ok (m := m) hcs hno)
            have hvle := Lib.hid (show valL ss ≤ m by omega)
            have hdgH := Lib.hid hcs.2.2
            clear hcs hno
            go_wp2_with fail
            refine htop.mono ?_
            rintro q w1 ⟨rfl, rfl⟩
            go_wp2_with fail
            go_loopw [8, 9] (fun v i wr => ∃ j : Nat, j ≤ N ∧ i = .int .i64 j ∧ v = .int .u64 ((valL (ss.take j) : Nat) : Int) ∧ wr = w) (fun _ i _ => N - (intOf i).toNat)
            case atStart => exact ⟨0, Nat.zero_le _, rfl, rfl, rfl⟩
            case round =>
              obtain ⟨j, hj, rfl, rfl, hwr⟩ := hrel
              have hwr' := hwr.symm
              subst hwr'
              by_cases hlt : j < N
              · have hji : (j : Int) < (N : Int) := by omega
                have hxj := hixH.out j hlt
                have hst := valL_take ss j (by have := hlH.out; omega)
                have hle := valL_take_le ss (j + 1)
                have hdg := getD_range (p := isDig) hdgH.out j (by have := hlH.out; omega)
                obtain ⟨c, hc⟩ : ∃ c, ss.getD j 0 = c := ⟨_, rfl⟩
                rw [hc] at hxj hst hdg
                unfold isDig at hdg
                have hsti : ((valL (ss.take (j + 1)) : Nat) : Int) = 10 * ((valL (ss.take j) : Nat) : Int) + (c - 48) := by omega
                have hlim : ((valL (ss.take (j + 1)) : Nat) : Int) < 18446744073709551616 := by have := hvle.out; have := hmH.out; omega
                obtain ⟨x, hx⟩ : ∃ x : Int, ((valL (ss.take j) : Nat) : Int) = x := ⟨_, rfl⟩
                have hx0 : 0 ≤ x := by omega
                rw [hsti, hx] at hlim
                have hstH := Lib.hid hsti
                have hxH := Lib.hid hx
                have f1 : IntKind.u64.wrap (10 * x) = 10 * x := by rw [IntKind.wrap_u64]; omega
                have f2 : IntKind.u64.wrap (10 * x + (c - 48)) = 10 * x + (c - 48) := by rw [IntKind.wrap_u64]; omega
                have f3 : (c - 48) % 256 = c - 48 := by omega
                have f4 : 10 * x % 18446744073709551616 = 10 * x := by omega
                have f5 : (10 * x + (c - 48)) % 18446744073709551616 = 10 * x + (c - 48) := by omega
                have hltH := Lib.hid hlt
                rw [hx]
                clear hlt hj hst hle hc hx hsti
                go_wp2
                exact ⟨⟨j + 1, by have := hltH.out; omega, by congr 1, by rw [hstH.out, hxH.out], by trivial⟩, by simp only [intOf]; have := hltH.out; omega⟩
              · obtain rfl : N = j := by omega
                have hji : ¬ (N : Int) < (N : Int) := by omega
                rw [List.take_of_length_le (by have := hlH.out; omega)]
                clear hlt hj
                go_wp2
                go_ret2
                exact ⟨by rw [hU.out]; rfl, rfl⟩
          | false =>
            cases eq with
            | true =>
              have hno : ¬ m < valL ss := fun h => by
                rcases hv.2 h with h | ⟨_, _, h⟩
                · exact t1 h
                · exact h (of_decide_eq_true heqH.out)
              clear hv t2 t1
              have hU := Lib.hid (unNum_ok (m := m) hcs hno)
              have hvle := Lib.hid (show valL ss ≤ m by omega)
              have hdgH := Lib.hid hcs.2.2
              clear hcs hno
              go_wp2_with fail
              refine htop.mono ?_
              rintro q w1 ⟨rfl, rfl⟩
              go_wp2_with fail
              go_loopw [8, 9] (fun v i wr => ∃ j : Nat, j ≤ N ∧ i = .int .i64 j ∧ v = .int .u64 ((valL (ss.take j) : Nat) : Int) ∧ wr = w) (fun _ i _ => N - (intOf i).toNat)
              case atStart => exact ⟨0, Nat.zero_le _, rfl, rfl, rfl⟩
              case round =>
                obtain ⟨j, hj, rfl, rfl, hwr⟩ := hrel
                have hwr' := hwr.symm
                subst hwr'
                by_cases hlt : j < N
                · have hji : (j : Int) < (N : Int) := by omega
                  have hxj := hixH.out j hlt
                  have hst := valL_take ss j (by have := hlH.out; omega)
                  have hle := valL_take_le ss (j + 1)
                  have hdg := getD_range (p := isDig) hdgH.out j (by have := hlH.out; omega)
                  obtain ⟨c, hc⟩ : ∃ c, ss.getD j 0 = c := ⟨_, rfl⟩
                  rw [hc] at hxj hst hdg
                  unfold isDig at hdg
                  have hsti : ((valL (ss.take (j + 1)) : Nat) : Int) = 10 * ((valL (ss.take j) : Nat) : Int) + (c - 48) := by omega
                  have hlim : ((valL (ss.take (j + 1)) : Nat) : Int) < 18446744073709551616 := by have := hvle.out; have := hmH.out; omega
                  obtain ⟨x, hx⟩ : ∃ x : Int, ((valL (ss.take j) : Nat) : Int) = x := ⟨_, rfl⟩
                  have hx0 : 0 ≤ x := by omega
                  rw [hsti, hx] at hlim
                  have hstH := Lib.hid hsti
                  have hxH := Lib.hid hx
                  have f1 : IntKind.u64.wrap (10 * x) = 10 * x := by rw [IntKind.wrap_u64]; omega
                  have f2 : IntKind.u64.wrap (10 * x + (c - 48)) = 10 * x + (c - 48) := by rw [IntKind.wrap_u64]; omega
                  have f3 : (c - 48) % 256 = c - 48 := by omega
                  have f4 : 10 * x % 18446744073709551616 = 10 * x := by omega
                  have f5 : (10 * x + (c - 48)) % 18446744073709551616 = 10 * x + (c - 48) := by omega
                  have hltH := Lib.hid hlt
                  rw [hx]
                  clear hlt hj hst hle hc hx hsti
                  go_wp2
                  exact ⟨⟨j + 1, by have := hltH.out; omega, by congr 1, by rw [hstH.out, hxH.out], by trivial⟩, by simp only [intOf]; have := hltH.out; omega⟩
                · obtain rfl : N = j := by omega
                  have hji : ¬ (N : Int) < (N : Int) := by omega
                  rw [List.take_of_length_le (by have := hlH.out; omega)]
                  clear hlt hj
                  go_wp2
                  go_ret2
                  exact ⟨by rw [hU.out]; rfl, rfl⟩
            | false =>
              have hgt := hv.1 (.inr ⟨t2, by rw [hlxH.out]; exact Bool.false_ne_true, of_decide_eq_false heqH.out⟩)
              have hno := hgt
              clear hv t2 t1
              have hU := Lib.hid (unNum_long (m := m) hcs hgt)
              clear hcs hgt hno
              go_wp2_with fail
              refine htop.mono ?_
              rintro q w1 ⟨rfl, rfl⟩
              go_wp2
              go_ret2
              exact ⟨by rw [hU.out]; rfl, rfl⟩
        · have t2b : ((N : Int) == (T : Int)) = false := beq_false_of_ne (by omega)
          have hno : ¬ m < valL ss := fun h => by
            rcases hv.2 h with h | ⟨h, _, _⟩
            · exact t1 h
            · exact t2 h
          clear hv t2 t1
          have hU := Lib.hid (unNum_ok (m := m) hcs hno)
          have hvle := Lib.hid (show valL ss ≤ m by omega)
          have hdgH := Lib.hid hcs.2.2
          clear hcs hno
          go_wp2_with fail
          refine htop.mono ?_
          rintro q w1 ⟨rfl, rfl⟩
          go_wp2_with fail
          go_loopw [8, 9] (fun v i wr => ∃ j : Nat, j ≤ N ∧ i = .int .i64 j ∧ v = .int .u64 ((valL (ss.take j) : Nat) : Int) ∧ wr = w) (fun _ i _ => N - (intOf i).toNat)
          case atStart => exact ⟨0, Nat.zero_le _, rfl, rfl, rfl⟩
          case round =>
            obtain ⟨j, hj, rfl, rfl, hwr⟩ := hrel
            have hwr' := hwr.symm
            subst hwr'
            by_cases hlt : j < N
            · have hji : (j : Int) < (N : Int) := by omega
              have hxj := hixH.out j hlt
              have hst := valL_take ss j (by have := hlH.out; omega)
              have hle := valL_take_le ss (j + 1)
              have hdg := getD_range (p := isDig) hdgH.out j (by have := hlH.out; omega)
              obtain ⟨c, hc⟩ : ∃ c, ss.getD j 0 = c := ⟨_, rfl⟩
              rw [hc] at hxj hst hdg
              unfold isDig at hdg
              have hsti : ((valL (ss.take (j + 1)) : Nat) : Int) = 10 * ((valL (ss.take j) : Nat) : Int) + (c - 48) := by omega
              have hlim : ((valL (ss.take (j + 1)) : Nat) : Int) < 18446744073709551616 := by have := hvle.out; have := hmH.out; omega
              obtain ⟨x, hx⟩ : ∃ x : Int, ((valL (ss.take j) : Nat) : Int) = x := ⟨_, rfl⟩
              have hx0 : 0 ≤ x := by omega
              rw [hsti, hx] at hlim
              have hstH := Lib.hid hsti
              have hxH := Lib.hid hx
              have f1 : IntKind.u64.wrap (10 * x) = 10 * x := by rw [IntKind.wrap_u64]; omega
              have f2 : IntKind.u64.wrap (10 * x + (c - 48)) = 10 * x + (c - 48) := by rw [IntKind.wrap_u64]; omega
              have f3 : (c - 48) % 256 = c - 48 := by omega
              have f4 : 10 * x % 18446744073709551616 = 10 * x := by omega
              have f5 : (10 * x + (c - 48)) % 18446744073709551616 = 10 * x + (c - 48) := by omega
              have hltH := Lib.hid hlt
              rw [hx]
              clear hlt hj hst hle hc hx hsti
              go_wp2
              exact ⟨⟨j + 1, by have := hltH.out; omega, by congr 1, by rw [hstH.out, hxH.out], by trivial⟩, by simp only [intOf]; have := hltH.out; omega⟩
            · obtain rfl : N = j := by omega
              have hji : ¬ (N : Int) < (N : Int) := by omega
              rw [List.take_of_length_le (by have := hlH.out; omega)]
              clear hlt hj
              go_wp2
              go_ret2
              exact ⟨by rw [hU.out]; rfl, rfl⟩
end Go.Proofs.YtbiabjehdmddbaaDoor