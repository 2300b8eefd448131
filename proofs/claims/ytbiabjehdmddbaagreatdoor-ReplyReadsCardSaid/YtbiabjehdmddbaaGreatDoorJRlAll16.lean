/-
  Texts of stages that were proved on their own, joined: HpDig, HpNumOf. Each begins with its own words.
-/
import Derived.Test.YtbiabjehdmddbaaGreatDoorJRlAll1
import Derived.Test.YtbiabjehdmddbaaGreatDoorJRlAll11
import Derived.StillTailTactics
import Derived.Laws.RangeAny
import Derived.Lib.OthersKept
import Derived.Test.YtbiabjehdmddbaaGreatDoorJRlAll12

/-
  What a sign stands for, as the program has it (layer 12): digit; the sign that stands at a place of a text, as a range over the text with runes tells it. Nothing is written. Conditions: a rune's number from 0 on.
-/
namespace Go.Proofs.YtbiabjehdmddbaaGreatDoor
open Go.RowKit

/-- The number that a sign stands for; 16, if it stands for none. -/
def digR (r : Int) : Int := if 97 ≤ r ∧ r ≤ 102 then r - 87 else if 48 ≤ r ∧ r ≤ 57 then r - 48 else 16
theorem digR_range (r : Int) : 0 ≤ digR r ∧ digR r ≤ 16 := by unfold digR; repeat' split <;> try omega

set_option maxRecDepth 100000 in
set_option maxHeartbeats 800000 in
theorem hDigit_any (r : Int) (h0 : 0 ≤ r) (h1 : r ≤ 2147483647) (w : World) : Calls Tryz.prog 57 #[.int .i32 r] w fun q w' => q = .returned (.int .u64 (digR r)) ∧ w = w' := by
  by_cases ha : 97 ≤ r
  · by_cases hb : r ≤ 102
    · rw [show digR r = r - 87 from if_pos ⟨ha, hb⟩]
      go_enter Tryz.func57, Tryz.ntmps57
      go_wp2
      go_ret
      refine ⟨?_, rfl⟩
      show Ending.returned (Value.int .u64 (r - 39 - 48)) = _
      congr 2; omega
    · rw [show digR r = 16 by unfold digR; rw [if_neg (by omega), if_neg (by omega)]]
      have hc : ¬ r ≤ 57 := by omega
      have hd : 48 ≤ r := by omega
      go_enter Tryz.func57, Tryz.ntmps57
      go_wp2
      go_ret
      exact ⟨rfl, rfl⟩
  · by_cases hb : 48 ≤ r
    · by_cases hc : r ≤ 57
      · rw [show digR r = r - 48 by unfold digR; rw [if_neg (by omega), if_pos ⟨hb, hc⟩]]
        go_enter Tryz.func57, Tryz.ntmps57
        go_wp2
        go_ret
        exact ⟨rfl, rfl⟩
      · rw [show digR r = 16 by unfold digR; rw [if_neg (by omega), if_neg (by omega)]]
        go_enter Tryz.func57, Tryz.ntmps57
        go_wp2
        go_ret
        exact ⟨rfl, rfl⟩
    · rw [show digR r = 16 by unfold digR; rw [if_neg (by omega), if_neg (by omega)]]
      go_enter Tryz.func57, Tryz.ntmps57
      go_wp2
      go_ret
      exact ⟨rfl, rfl⟩

/-- The sign at a place: a sign of one byte that stands for a half byte, or one that stands for none. -/
theorem sign_at (s : ByteArray) (i : Nat) (h : i < s.size) :
    (0 ≤ dig ((numsOf s).getD i 0) ∧ Utf8.decode s i = (((numsOf s).getD i 0).toNat, 1) ∧ digR (((Utf8.decode s i).1 : Nat) : Int) = dig ((numsOf s).getD i 0)) ∨
    (dig ((numsOf s).getD i 0) < 0 ∧ digR (((Utf8.decode s i).1 : Nat) : Int) = 16) := by
  have hc : (numsOf s).getD i 0 = ((s[i]'h).toNat : Int) := by
    have hl := numsOf_length s
    rw [List.getD_eq_getElem?_getD, List.getElem?_eq_getElem (by omega)]
    unfold numsOf
    rw [Option.getD_some, List.getElem_map]
    rfl
  rw [hc]
  obtain ⟨b, hb⟩ : ∃ b, (s[i]'h).toNat = b := ⟨_, rfl⟩
  by_cases ha : b < 128
  · have hd := decode_ascii s i h (by omega)
    rw [hd, hb]
    by_cases hg : 0 ≤ dig (b : Int)
    · left
      refine ⟨hg, by simp, ?_⟩
      unfold dig at hg ⊢
      unfold digR
      dsimp only
      repeat' split
      all_goals first | omega | (split at hg <;> (try split at hg) <;> omega)
    · right
      refine ⟨by omega, ?_⟩
      unfold dig at hg
      unfold digR
      dsimp only
      rw [if_neg, if_neg]
      · intro hx; rw [if_pos hx] at hg; omega
      · intro hx; rw [if_neg (by omega), if_pos hx] at hg; omega
  · right
    have hh := (decode_high s i h (by omega)).1
    rw [hb]
    refine ⟨?_, ?_⟩
    · unfold dig
      rw [if_neg (by omega), if_neg (by omega)]
      decide
    · unfold digR
      rw [if_neg (by omega), if_neg (by omega)]
end Go.Proofs.YtbiabjehdmddbaaGreatDoor

/-
  The program's reading of a text as a number (layer 12): NumOf. New memory alone is written. Conditions: at most three thousand signs, a bound below 2^64.
-/
namespace Go.Proofs.YtbiabjehdmddbaaGreatDoor
open Go.RowKit

set_option maxRecDepth 100000 in
set_option maxHeartbeats 2000000 in
theorem hNumOf_any (s : ByteArray) (m : Nat) (w : World) (hs : s.size ≤ 3000) (hm : m < 18446744073709551616) :
    Calls Tryz.prog 35 #[.string s, .int .u64 (m : Int)] w fun q w' => q = .returned (.tuple #[.int .u64 ((unNum (numsOf s) m).1 : Int), .int .i64 (unNum (numsOf s) m).2]) ∧ Below w.heap.size w w' := by
  have hl := numsOf_length s
  have heq0 := toList_nums s { data := #[] }
  have heq1 := toList_nums s { data := #[48] }
  rw [show numsOf { data := #[] } = [] by decide +kernel, show ({ data := #[] } : ByteArray).toList = [] by decide +kernel] at heq0
  rw [show numsOf { data := #[48] } = [48] by decide +kernel, show ({ data := #[48] } : ByteArray).toList = [48] by decide +kernel] at heq1
  have hix := fun i (h : i < s.size) w => str_index (P := Tryz.prog) s i h 9 Tryz.underlying9 w
  have hsg := sign_at s
  have hrr := fun i => decode_le s i
  obtain ⟨ss, hss⟩ : ∃ ss, numsOf s = ss := ⟨_, rfl⟩
  rw [hss] at hl heq0 heq1 hix ⊢
  rw [hss] at hsg
  obtain ⟨N, hN⟩ : ∃ N, s.size = N := ⟨_, rfl⟩
  rw [hN] at hl hs hix
  obtain ⟨M, hM⟩ : ∃ M : Int, (m : Int) = M := ⟨_, rfl⟩
  rw [hM]
  have hmH := Lib.hid hm
  have hMH := Lib.hid hM
  have hsgH := Lib.hid hsg
  clear hss hM hm hsg
  by_cases h0 : ss = []
  · have hU := Lib.hid (unNum_bad (ss := ss) (m := m) (fun h => h.1 h0))
    rw [decide_eq_true h0] at heq0
    clear hix heq1 hrr
    go_enter Tryz.func35, Tryz.ntmps35
    go_wp2
    go_ret2
    exact ⟨by rw [hU.out]; rfl, Below.refl _ _⟩
  rw [decide_eq_false h0] at heq0
  have hN0 : 0 < N := by rw [← hl]; exact List.length_pos_iff.2 h0
  have hx0 := hix 0 hN0
  rw [show ((0 : Nat) : Int) = 0 from rfl] at hx0
  have hM0 : 0 ≤ M := by have := hMH.out; omega
  obtain ⟨c0, hc0⟩ : ∃ c0, ss.getD 0 0 = c0 := ⟨_, rfl⟩
  rw [hc0] at hx0
  clear hix hN0
  by_cases h1 : c0 = 48
  · rw [h1] at hx0
    by_cases h2 : ss = [48]
    · rw [decide_eq_true h2] at heq1
      have h1' : ¬ (1 < ss.length ∧ ss.getD 0 0 = 48) := fun h => by rw [h2] at h; exact absurd h.1 (by decide)
      clear h1 h2 hc0
      go_enter Tryz.func35, Tryz.ntmps35
      go_wp2_with fail
      obtain ⟨IT, hIT⟩ : ∃ IT, w.heap.size = IT := ⟨_, rfl⟩
      have hit0 : (w.iter s 0).heap[IT]? = some (.stringIter s 0) := by rw [← hIT]; exact World.iter_heap w s 0
      have hB0 : Below IT w (w.iter s 0) := by rw [← hIT]; exact below1 w _
      rw [hIT]
      have hITH := Lib.hid hIT
      clear hIT
      go_loopw [6, 7] (fun nv ab wr => ∃ i : Nat, i ≤ N ∧ wr.heap[IT]? = some (.stringIter s i) ∧ Below IT w wr ∧ digsL (ss.take i) ∧ ((ab = .bool false ∧ nv = .int .u64 ((valL (ss.take i) : Nat) : Int) ∧ valL (ss.take i) ≤ m) ∨ (ab = .bool true ∧ (∃ z : Int, nv = .int .u64 z) ∧ m < valL (ss.take i)))) (fun _ _ wr => N - wr.iterPos IT)
      case atStart => exact ⟨0, Nat.zero_le _, hit0, hB0, (fun c h => by cases h), .inl ⟨rfl, rfl, Nat.zero_le _⟩⟩
      case round =>
        clear hit0 hB0
        obtain ⟨i, hiN, hit, hB, hdg, hor⟩ := hrel
        by_cases hlt : i < N
        · have hnx : ∀ ty, (Instr.next (.pointer (some ⟨IT, 0, none⟩)) true ty).run Tryz.prog wr = _ := fun ty => Lib.run_next_any_at wr IT s i ty hit (by omega)
          have hit2 := Lib.iterAt_heap wr IT s i (i + (Utf8.decode s i).2) hit
          have hB2 := Lib.below_iterAt hB (k := IT) (Nat.le_refl _) s (i + (Utf8.decode s i).2)
          have c1 := hDigit_any ((Utf8.decode s i).1 : Int) (by omega) (by have := hrr i; omega)
          obtain ⟨V, hV⟩ : ∃ V, wr.iterAt IT s (i + (Utf8.decode s i).2) = V := ⟨_, rfl⟩
          rw [hV] at hnx hit2 hB2
          have hsgi := hsgH.out i (by omega)
          have hst := valL_take ss i (by omega)
          have hmem : ss.getD i 0 ∈ ss := by rw [List.getD_eq_getElem?_getD, List.getElem?_eq_getElem (by omega)]; exact List.getElem_mem _
          obtain ⟨c, hc⟩ : ∃ c, ss.getD i 0 = c := ⟨_, rfl⟩
          rw [hc] at hsgi hst hmem
          by_cases hd : isDig c
          · obtain ⟨hde, hdr⟩ : Utf8.decode s i = (c.toNat, 1) ∧ digR (((Utf8.decode s i).1 : Nat) : Int) = c - 48 := by
              unfold isDig at hd
              have e : dig c = c - 48 := if_pos hd
              rcases hsgi with ⟨h1, h2, h3⟩ | ⟨h1, _⟩
              · exact ⟨h2, by rw [h3, e]⟩
              · omega
            have hds : digsL (ss.take (i + 1)) := by
              rw [List.take_succ_eq_append_getElem (by omega)]
              intro z hz
              rcases List.mem_append.1 hz with hz | hz
              · exact hdg z hz
              · rw [List.mem_singleton.1 hz]
                rw [List.getD_eq_getElem?_getD, List.getElem?_eq_getElem (by omega)] at hc
                have hc' : ss[i]'(by omega) = c := hc
                rw [hc']
                exact hd
            unfold isDig at hd
            rw [hdr] at c1
            rw [hde] at hit2
            obtain ⟨R, hR⟩ : ∃ R : Int, ((Utf8.decode s i).1 : Int) = R := ⟨_, rfl⟩
            rw [hR] at c1 hnx
            obtain ⟨D, hD⟩ : ∃ D : Nat, c - 48 = (D : Int) := ⟨(c - 48).toNat, by omega⟩
            have hst2 : valL (ss.take (i + 1)) = 10 * valL (ss.take i) + D := by rw [hst]; omega
            have hD9 : (D : Int) < 10 := by omega
            rw [hD] at c1
            obtain ⟨X, hX⟩ : ∃ X, valL (ss.take i) = X := ⟨_, rfl⟩
            rw [hX] at hor hst2
            have hitH := Lib.hid hit
            have hltH := Lib.hid hlt
            have hdsH := Lib.hid hds
            have hstH := Lib.hid hst2
            clear hsgi hst hmem hc hd hde hdr hR hV hD hX hds hdg hst2 hiN hit hlt hB
            rcases hor with ⟨rfl, rfl, hle⟩ | ⟨rfl, ⟨z, rfl⟩, hgt⟩
            · have hMX : (X : Int) ≤ M := by have := hMH.out; omega
              have hM64 : M < 18446744073709551616 := by have := hMH.out; have := hmH.out; omega
              by_cases b1 : M < (D : Int)
              · have hov := Lib.hid (show m < 10 * X + D by have := hMH.out; omega)
                clear hle hMX
                go_wp2_with fail
                refine (c1 V).mono ?_
                rintro q w2 ⟨rfl, rfl⟩
                go_wp2
                exact ⟨⟨i + 1, by have := hltH.out; omega, hit2, hB2, hdsH.out, .inr ⟨rfl, ⟨_, rfl⟩, by rw [hstH.out]; exact hov.out⟩⟩, by simp only [World.iterPos, hit2, hitH.out]; have := hltH.out; omega⟩
              · obtain ⟨Q, hQ⟩ : ∃ Q : Nat, (M - (D : Int)) / 10 = (Q : Int) := ⟨((M - (D : Int)) / 10).toNat, by omega⟩
                have hsub : IntKind.u64.wrap (M - (D : Int)) = M - (D : Int) := by rw [IntKind.wrap_u64]; omega
                by_cases b2 : Q < X
                · have b2i : (Q : Int) < (X : Int) := by omega
                  have hov := Lib.hid (show m < 10 * X + D by have := hMH.out; omega)
                  clear hle hMX b2
                  go_wp2_with fail
                  refine (c1 V).mono ?_
                  rintro q w2 ⟨rfl, rfl⟩
                  go_wp2
                  exact ⟨⟨i + 1, by have := hltH.out; omega, hit2, hB2, hdsH.out, .inr ⟨rfl, ⟨_, rfl⟩, by rw [hstH.out]; exact hov.out⟩⟩, by simp only [World.iterPos, hit2, hitH.out]; have := hltH.out; omega⟩
                · have b2i : ¬ (Q : Int) < (X : Int) := by omega
                  have hov := Lib.hid (show 10 * X + D ≤ m by have := hMH.out; omega)
                  have hlim : 10 * (X : Int) + (D : Int) < 18446744073709551616 := by have := hMH.out; have := hmH.out; omega
                  have f1 : IntKind.u64.wrap (10 * (X : Int)) = 10 * (X : Int) := by rw [IntKind.wrap_u64]; omega
                  have f2 : IntKind.u64.wrap (10 * (X : Int) + (D : Int)) = 10 * (X : Int) + (D : Int) := by rw [IntKind.wrap_u64]; omega
                  have f4 : 10 * (X : Int) % 18446744073709551616 = 10 * (X : Int) := by omega
                  have f5 : (10 * (X : Int) + (D : Int)) % 18446744073709551616 = 10 * (X : Int) + (D : Int) := by omega
                  have d1 : decide (M < (D : Int)) = false := decide_eq_false b1
                  have d2 : decide (Q < X) = false := decide_eq_false b2
                  clear hle hMX b2 hlim b1 b2i
                  go_wp2_with fail
                  refine (c1 V).mono ?_
                  rintro q w2 ⟨rfl, rfl⟩
                  go_wp2
                  exact ⟨⟨i + 1, by have := hltH.out; omega, hit2, hB2, hdsH.out, .inl ⟨rfl, by rw [hstH.out, Int.natCast_add, Int.natCast_mul]; rfl, by rw [hstH.out]; exact hov.out⟩⟩, by simp only [World.iterPos, hit2, hitH.out]; have := hltH.out; omega⟩
            · have hov := Lib.hid (show m < 10 * X + D by omega)
              clear hgt
              go_wp2_with fail
              refine (c1 V).mono ?_
              rintro q w2 ⟨rfl, rfl⟩
              go_wp2
              exact ⟨⟨i + 1, by have := hltH.out; omega, hit2, hB2, hdsH.out, .inr ⟨rfl, ⟨_, rfl⟩, by rw [hstH.out]; exact hov.out⟩⟩, by simp only [World.iterPos, hit2, hitH.out]; have := hltH.out; omega⟩
          · have hU := Lib.hid (unNum_bad (ss := ss) (m := m) (fun h => hd (h.2.2 c hmem)))
            have hD10 : 10 ≤ digR (((Utf8.decode s i).1 : Nat) : Int) := by
              unfold isDig at hd
              rcases hsgi with ⟨h1, _, h3⟩ | ⟨_, h3⟩
              · rw [h3]
                unfold dig at h1 ⊢
                rw [if_neg (by omega)] at h1 ⊢
                split at h1
                · rw [if_pos (by assumption)]; omega
                · omega
              · rw [h3]; decide
            obtain ⟨D, hD⟩ : ∃ D, digR (((Utf8.decode s i).1 : Nat) : Int) = D := ⟨_, rfl⟩
            rw [hD] at c1 hD10
            obtain ⟨R, hR⟩ : ∃ R : Int, ((Utf8.decode s i).1 : Int) = R := ⟨_, rfl⟩
            rw [hR] at c1 hnx
            clear hsgi hst hmem hc hd hD hR hV hdg hor hit hit2 hB
            go_wp2_with fail
            refine (c1 V).mono ?_
            rintro q w2 ⟨rfl, rfl⟩
            go_wp2
            go_ret2
            exact ⟨by rw [hU.out]; rfl, by rw [hITH.out]; exact hB2⟩
        · obtain rfl : i = N := by omega
          have hnx : ∀ ty, (Instr.next (.pointer (some ⟨IT, 0, none⟩)) true ty).run Tryz.prog wr = _ := fun ty => Lib.run_next_end_at wr IT s i ty hit (by omega)
          rw [List.take_of_length_le (by omega)] at hdg hor
          have hcs : canon ss := ⟨h0, h1', hdg⟩
          rcases hor with ⟨rfl, rfl, hle⟩ | ⟨rfl, ⟨z, rfl⟩, hgt⟩
          · have hU := Lib.hid (unNum_ok (m := m) hcs (by omega))
            clear hlt hcs hle hit hdg
            go_wp2
            go_ret2
            exact ⟨by rw [hU.out]; rfl, by rw [hITH.out]; exact hB⟩
          · have hU := Lib.hid (unNum_long (m := m) hcs hgt)
            clear hlt hcs hgt hit hdg
            go_wp2
            go_ret2
            exact ⟨by rw [hU.out]; rfl, by rw [hITH.out]; exact hB⟩
    · rw [decide_eq_false h2] at heq1
      have hU := Lib.hid (unNum_bad (ss := ss) (m := m) (fun h => h.2.1 ⟨by
        rcases ss with _ | ⟨a, _ | ⟨b, r⟩⟩
        · exact absurd rfl h0
        · exact absurd (show [a] = [48] by rw [show a = 48 from hc0.trans h1]) h2
        · simp, hc0.trans h1⟩))
      clear hrr
      go_enter Tryz.func35, Tryz.ntmps35
      go_wp2
      go_ret2
      exact ⟨by rw [hU.out]; rfl, Below.refl _ _⟩
  · have h1' : ¬ (1 < ss.length ∧ ss.getD 0 0 = 48) := fun h => h1 (hc0.symm.trans h.2)
    have c0b : (c0 == 48) = false := beq_false_of_ne h1
    clear h1 hc0 heq1
    go_enter Tryz.func35, Tryz.ntmps35
    go_wp2_with fail
    obtain ⟨IT, hIT⟩ : ∃ IT, w.heap.size = IT := ⟨_, rfl⟩
    have hit0 : (w.iter s 0).heap[IT]? = some (.stringIter s 0) := by rw [← hIT]; exact World.iter_heap w s 0
    have hB0 : Below IT w (w.iter s 0) := by rw [← hIT]; exact below1 w _
    rw [hIT]
    have hITH := Lib.hid hIT
    clear hIT
    go_loopw [6, 7] (fun nv ab wr => ∃ i : Nat, i ≤ N ∧ wr.heap[IT]? = some (.stringIter s i) ∧ Below IT w wr ∧ digsL (ss.take i) ∧ ((ab = .bool false ∧ nv = .int .u64 ((valL (ss.take i) : Nat) : Int) ∧ valL (ss.take i) ≤ m) ∨ (ab = .bool true ∧ (∃ z : Int, nv = .int .u64 z) ∧ m < valL (ss.take i)))) (fun _ _ wr => N - wr.iterPos IT)
    case atStart => exact ⟨0, Nat.zero_le _, hit0, hB0, (fun c h => by cases h), .inl ⟨rfl, rfl, Nat.zero_le _⟩⟩
    case round =>
      clear hit0 hB0
      obtain ⟨i, hiN, hit, hB, hdg, hor⟩ := hrel
      by_cases hlt : i < N
      · have hnx : ∀ ty, (Instr.next (.pointer (some ⟨IT, 0, none⟩)) true ty).run Tryz.prog wr = _ := fun ty => Lib.run_next_any_at wr IT s i ty hit (by omega)
        have hit2 := Lib.iterAt_heap wr IT s i (i + (Utf8.decode s i).2) hit
        have hB2 := Lib.below_iterAt hB (k := IT) (Nat.le_refl _) s (i + (Utf8.decode s i).2)
        have c1 := hDigit_any ((Utf8.decode s i).1 : Int) (by omega) (by have := hrr i; omega)
        obtain ⟨V, hV⟩ : ∃ V, wr.iterAt IT s (i + (Utf8.decode s i).2) = V := ⟨_, rfl⟩
        rw [hV] at hnx hit2 hB2
        have hsgi := hsgH.out i (by omega)
        have hst := valL_take ss i (by omega)
        have hmem : ss.getD i 0 ∈ ss := by rw [List.getD_eq_getElem?_getD, List.getElem?_eq_getElem (by omega)]; exact List.getElem_mem _
        obtain ⟨c, hc⟩ : ∃ c, ss.getD i 0 = c := ⟨_, rfl⟩
        rw [hc] at hsgi hst hmem
        by_cases hd : isDig c
        · obtain ⟨hde, hdr⟩ : Utf8.decode s i = (c.toNat, 1) ∧ digR (((Utf8.decode s i).1 : Nat) : Int) = c - 48 := by
            unfold isDig at hd
            have e : dig c = c - 48 := if_pos hd
            rcases hsgi with ⟨h1, h2, h3⟩ | ⟨h1, _⟩
            · exact ⟨h2, by rw [h3, e]⟩
            · omega
          have hds : digsL (ss.take (i + 1)) := by
            rw [List.take_succ_eq_append_getElem (by omega)]
            intro z hz
            rcases List.mem_append.1 hz with hz | hz
            · exact hdg z hz
            · rw [List.mem_singleton.1 hz]
              rw [List.getD_eq_getElem?_getD, List.getElem?_eq_getElem (by omega)] at hc
              have hc' : ss[i]'(by omega) = c := hc
              rw [hc']
              exact hd
          unfold isDig at hd
          rw [hdr] at c1
          rw [hde] at hit2
          obtain ⟨R, hR⟩ : ∃ R : Int, ((Utf8.decode s i).1 : Int) = R := ⟨_, rfl⟩
          rw [hR] at c1 hnx
          obtain ⟨D, hD⟩ : ∃ D : Nat, c - 48 = (D : Int) := ⟨(c - 48).toNat, by omega⟩
          have hst2 : valL (ss.take (i + 1)) = 10 * valL (ss.take i) + D := by rw [hst]; omega
          have hD9 : (D : Int) < 10 := by omega
          rw [hD] at c1
          obtain ⟨X, hX⟩ : ∃ X, valL (ss.take i) = X := ⟨_, rfl⟩
          rw [hX] at hor hst2
          have hitH := Lib.hid hit
          have hltH := Lib.hid hlt
          have hdsH := Lib.hid hds
          have hstH := Lib.hid hst2
          clear hsgi hst hmem hc hd hde hdr hR hV hD hX hds hdg hst2 hiN hit hlt hB
          rcases hor with ⟨rfl, rfl, hle⟩ | ⟨rfl, ⟨z, rfl⟩, hgt⟩
          · have hMX : (X : Int) ≤ M := by have := hMH.out; omega
            have hM64 : M < 18446744073709551616 := by have := hMH.out; have := hmH.out; omega
            by_cases b1 : M < (D : Int)
            · have hov := Lib.hid (show m < 10 * X + D by have := hMH.out; omega)
              clear hle hMX
              go_wp2_with fail
              refine (c1 V).mono ?_
              rintro q w2 ⟨rfl, rfl⟩
              go_wp2
              exact ⟨⟨i + 1, by have := hltH.out; omega, hit2, hB2, hdsH.out, .inr ⟨rfl, ⟨_, rfl⟩, by rw [hstH.out]; exact hov.out⟩⟩, by simp only [World.iterPos, hit2, hitH.out]; have := hltH.out; omega⟩
            · obtain ⟨Q, hQ⟩ : ∃ Q : Nat, (M - (D : Int)) / 10 = (Q : Int) := ⟨((M - (D : Int)) / 10).toNat, by omega⟩
              have hsub : IntKind.u64.wrap (M - (D : Int)) = M - (D : Int) := by rw [IntKind.wrap_u64]; omega
              by_cases b2 : Q < X
              · have b2i : (Q : Int) < (X : Int) := by omega
                have hov := Lib.hid (show m < 10 * X + D by have := hMH.out; omega)
                clear hle hMX b2
                go_wp2_with fail
                refine (c1 V).mono ?_
                rintro q w2 ⟨rfl, rfl⟩
                go_wp2
                exact ⟨⟨i + 1, by have := hltH.out; omega, hit2, hB2, hdsH.out, .inr ⟨rfl, ⟨_, rfl⟩, by rw [hstH.out]; exact hov.out⟩⟩, by simp only [World.iterPos, hit2, hitH.out]; have := hltH.out; omega⟩
              · have b2i : ¬ (Q : Int) < (X : Int) := by omega
                have hov := Lib.hid (show 10 * X + D ≤ m by have := hMH.out; omega)
                have hlim : 10 * (X : Int) + (D : Int) < 18446744073709551616 := by have := hMH.out; have := hmH.out; omega
                have f1 : IntKind.u64.wrap (10 * (X : Int)) = 10 * (X : Int) := by rw [IntKind.wrap_u64]; omega
                have f2 : IntKind.u64.wrap (10 * (X : Int) + (D : Int)) = 10 * (X : Int) + (D : Int) := by rw [IntKind.wrap_u64]; omega
                have f4 : 10 * (X : Int) % 18446744073709551616 = 10 * (X : Int) := by omega
                have f5 : (10 * (X : Int) + (D : Int)) % 18446744073709551616 = 10 * (X : Int) + (D : Int) := by omega
                have d1 : decide (M < (D : Int)) = false := decide_eq_false b1
                have d2 : decide (Q < X) = false := decide_eq_false b2
                clear hle hMX b2 hlim b1 b2i
                go_wp2_with fail
                refine (c1 V).mono ?_
                rintro q w2 ⟨rfl, rfl⟩
                go_wp2
                exact ⟨⟨i + 1, by have := hltH.out; omega, hit2, hB2, hdsH.out, .inl ⟨rfl, by rw [hstH.out, Int.natCast_add, Int.natCast_mul]; rfl, by rw [hstH.out]; exact hov.out⟩⟩, by simp only [World.iterPos, hit2, hitH.out]; have := hltH.out; omega⟩
          · have hov := Lib.hid (show m < 10 * X + D by omega)
            clear hgt
            go_wp2_with fail
            refine (c1 V).mono ?_
            rintro q w2 ⟨rfl, rfl⟩
            go_wp2
            exact ⟨⟨i + 1, by have := hltH.out; omega, hit2, hB2, hdsH.out, .inr ⟨rfl, ⟨_, rfl⟩, by rw [hstH.out]; exact hov.out⟩⟩, by simp only [World.iterPos, hit2, hitH.out]; have := hltH.out; omega⟩
        · have hU := Lib.hid (unNum_bad (ss := ss) (m := m) (fun h => hd (h.2.2 c hmem)))
          have hD10 : 10 ≤ digR (((Utf8.decode s i).1 : Nat) : Int) := by
            unfold isDig at hd
            rcases hsgi with ⟨h1, _, h3⟩ | ⟨_, h3⟩
            · rw [h3]
              unfold dig at h1 ⊢
              rw [if_neg (by omega)] at h1 ⊢
              split at h1
              · rw [if_pos (by assumption)]; omega
              · omega
            · rw [h3]; decide
          obtain ⟨D, hD⟩ : ∃ D, digR (((Utf8.decode s i).1 : Nat) : Int) = D := ⟨_, rfl⟩
          rw [hD] at c1 hD10
          obtain ⟨R, hR⟩ : ∃ R : Int, ((Utf8.decode s i).1 : Int) = R := ⟨_, rfl⟩
          rw [hR] at c1 hnx
          clear hsgi hst hmem hc hd hD hR hV hdg hor hit hit2 hB
          go_wp2_with fail
          refine (c1 V).mono ?_
          rintro q w2 ⟨rfl, rfl⟩
          go_wp2
          go_ret2
          exact ⟨by rw [hU.out]; rfl, by rw [hITH.out]; exact hB2⟩
      · obtain rfl : i = N := by omega
        have hnx : ∀ ty, (Instr.next (.pointer (some ⟨IT, 0, none⟩)) true ty).run Tryz.prog wr = _ := fun ty => Lib.run_next_end_at wr IT s i ty hit (by omega)
        rw [List.take_of_length_le (by omega)] at hdg hor
        have hcs : canon ss := ⟨h0, h1', hdg⟩
        rcases hor with ⟨rfl, rfl, hle⟩ | ⟨rfl, ⟨z, rfl⟩, hgt⟩
        · have hU := Lib.hid (unNum_ok (m := m) hcs (by omega))
          clear hlt hcs hle hit hdg
          go_wp2
          go_ret2
          exact ⟨by rw [hU.out]; rfl, by rw [hITH.out]; exact hB⟩
        · have hU := Lib.hid (unNum_long (m := m) hcs hgt)
          clear hlt hcs hgt hit hdg
          go_wp2
          go_ret2
          exact ⟨by rw [hU.out]; rfl, by rw [hITH.out]; exact hB⟩
end Go.Proofs.YtbiabjehdmddbaaGreatDoor
