/-
  What the document's own joining of parts, and its count of them, come to. Conditions: at most 2^32 bytes in all.
-/
import Derived.Test.YtcohbhimhacedaaDoorBlocks2
import Derived.Test.YtcohbhimhacedaaDoorParts
import Derived.Test.YtcohbhimhacedaaDoorWordBytes
namespace Go.Proofs.YtcohbhimhacedaaDoor
open Go.RowKit

set_option maxRecDepth 100000 in
set_option maxHeartbeats 800000 in
theorem refFew_any (a : Option Addr) (n cap : Nat) (ps : List (List Int)) (w : World) (hP : Parts w a n cap ps) (ht : ps.flatten.length ≤ 4294967296) (hn : n ≤ 4294967296) (M : Int) (most : Nat) (hM : M = (most : Int)) :
    Calls Tryd.prog 6 #[.slice a n cap, .int .i64 M] w fun e w' => e = .returned (.bool (decide (n + ps.flatten.length ≤ most))) ∧ w = w' := by
  have HMM := Lib.hid hM
  clear hM
  have hl := Lib.hid hP.len
  go_enter Tryd.func6, Tryd.ntmps6
  go_wp2_with fail
  go_loop [5, 6] (fun s i => ∃ k m : Nat, k ≤ n ∧ i = .int .i64 k ∧ s = .int .i64 m ∧ m = n + (ps.take k).flatten.length) (fun _ i => n - (intOf i).toNat)
  case atStart => exact ⟨0, n, Nat.zero_le _, rfl, rfl, rfl⟩
  case round =>
    obtain ⟨k, m0, hk, rfl, rfl, hm0⟩ := hrel
    have HM := Lib.hid hm0
    have hmb : m0 ≤ 8589934592 := by have := flatten_take_le ps k; omega
    clear hm0
    by_cases hlt : k < n
    · obtain ⟨b, off, rfl, hc⟩ := hP.at (by omega)
      obtain ⟨A, m, c, hck, hI⟩ := hc k hlt
      have SN := Lib.hid (flatten_snoc ps k (by rw [hl.out]; omega))
      have SL := Lib.hid (show n + (ps.take (k + 1)).flatten.length = m0 + m by rw [SN.out, List.length_append, hI.len, HM.out]; omega)
      have hmb1 : m ≤ 4294967296 := by
        have h1 := flatten_take_le ps (k + 1)
        rw [SN.out, List.length_append, hI.len] at h1
        omega
      clear hc hI
      go_wp2
      go_round
      case rel => exact ⟨k + 1, m0 + m, by omega, by go_num, by go_num, SL.out.symm⟩
      case measure => simp [intOf]; omega
    · have hend := Lib.hid (show ps.take k = ps from List.take_of_length_le (by rw [hl.out]; omega))
      have hge : (n : Int) ≤ (k : Int) := by omega
      go_wp2
      go_ret
      refine ⟨?_, rfl⟩
      have e : m0 = n + ps.flatten.length := by have := HM.out; rw [hend.out] at this; exact this
      have e2 : decide ((m0 : Int) ≤ M) = decide (n + ps.flatten.length ≤ most) := decide_eq_decide.2 (by have := HMM.out; omega)
      rw [List.length_flatten] at e2
      exact congrArg (fun b => Ending.returned (.bool b)) e2
end Go.Proofs.YtcohbhimhacedaaDoor
