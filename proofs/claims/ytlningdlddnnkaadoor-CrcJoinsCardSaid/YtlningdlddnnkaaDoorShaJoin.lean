/-
  What the document's own joining of parts, and its count of them, come to. Conditions: at most 2^32 bytes in all.
-/
import Derived.Test.YtlningdlddnnkaaDoorBlocks2
import Derived.Test.YtlningdlddnnkaaDoorParts
import Derived.Test.YtlningdlddnnkaaDoorWordBytes
namespace Go.Proofs.YtlningdlddnnkaaDoor
open Go.RowKit

set_option maxRecDepth 100000 in
set_option maxHeartbeats 800000 in
theorem refJoin_own (a : Option Addr) (n cap : Nat) (ps : List (List Int)) (w : World) (hP : Parts w a n cap ps) (ht : ps.flatten.length ≤ 4294967296) (hn : n ≤ 4294967296) :
    Calls Tryd.prog 9 #[.slice a n cap] w fun e w' => ∃ b c, e = .returned (.slice b ps.flatten.length c) ∧ Ints .u8 w' b ps.flatten.length c ps.flatten ∧ (∀ x, b = some x → w.heap.size ≤ x.block) ∧ Below w.heap.size w w' := by
  obtain ⟨i0, hi, hz0, hz1, hz2⟩ := info_parts infoU8
  have hl := Lib.hid hP.len
  go_enter Tryd.func9, Tryd.ntmps9
  go_wp2_with fail
  go_loopw [3, 4] (fun v i wr => ∃ k : Nat, k ≤ n ∧ i = .int .i64 k ∧ wr.ownsRow w.heap.size 5 1 v (ps.take k).flatten.length ((ps.take k).flatten.map (Value.int .u8)) ∧ Below w.heap.size w wr) (fun _ i _ => n - (intOf i).toNat)
  case atStart => exact ⟨0, Nat.zero_le _, rfl, World.ownsRow_nil _ _ _ _, Below.refl _ _⟩
  case round =>
    obtain ⟨k, hk, rfl, hown, hb⟩ := hrel
    by_cases hlt : k < n
    · obtain ⟨b, off, rfl, hc⟩ := hP.at (by omega)
      obtain ⟨A, m, c, hck, hI⟩ := hc k hlt
      have hckr : wr.cell? ⟨b, off + k, none⟩ = some (.slice A m c) := by rw [hb.cell (World.block_lt_of_cell? w _ hck)]; exact hck
      have hIr := hI.keep hb
      obtain ⟨L, hL⟩ : ∃ L, L = (ps.take k).flatten.length := ⟨_, rfl⟩
      have hL1 : L + m ≤ 4294967296 := by
        have h1 := flatten_take_le ps (k + 1)
        rw [flatten_snoc ps k (by rw [hl.out]; omega), List.length_append, hI.len] at h1
        omega
      have SN := Lib.hid (flatten_snoc ps k (by rw [hl.out]; omega))
      have SL := Lib.hid (show (ps.take (k + 1)).flatten.length = L + m by rw [SN.out, List.length_append, hI.len, hL])
      rw [← hL] at hown
      have HL := Lib.hid hL
      clear hL hc hck hI
      go_wp2_with (at_builtin; refine wpList_append_ints rfl (.tmp 11) (.tmp 15) 26 rfl w.heap.size 5 i0 (.int .u8 0) 1 Tryd.underlying26 hi hz0 hz1 hz2 rfl rfl hown rfl hIr ?_ ?_ hb.size ?_; (unfold maxLen; omega); omega; intro v' w1 hown1 hg1)
      have hown2 : w1.ownsRow w.heap.size 5 1 v' (ps.take (k + 1)).flatten.length ((ps.take (k + 1)).flatten.map (Value.int .u8)) := by
        rw [SL.out, SN.out, List.map_append]; exact hown1
      have hb1 : Below w.heap.size w w1 := hb.grown hg1 hb.size (fun q hq => (hown.lt q hq).1)
      clear hown1 hg1 hown
      go_wp2
      go_roundw
      case rel => exact ⟨k + 1, by omega, by go_num, hown2, hb1⟩
      case measure => simp [intOf]; omega
    · have hend := Lib.hid (show ps.take k = ps from List.take_of_length_le (by rw [hl.out]; omega))
      have hge : (n : Int) ≤ (k : Int) := by omega
      rw [hend.out] at hown
      go_wp2
      go_ret
      obtain ⟨b, c, rfl, hr⟩ := Ints.of_owns hown
      exact ⟨b, c, rfl, hr, fun x hx => (hown.lt x.block (by rw [hx]; rfl)).1, hb⟩
theorem refJoin_any (a : Option Addr) (n cap : Nat) (ps : List (List Int)) (w : World) (hP : Parts w a n cap ps) (ht : ps.flatten.length ≤ 4294967296) (hn : n ≤ 4294967296) :
    Calls Tryd.prog 9 #[.slice a n cap] w fun e w' => ∃ b c, e = .returned (.slice b ps.flatten.length c) ∧ Ints .u8 w' b ps.flatten.length c ps.flatten ∧ Below w.heap.size w w' :=
  (refJoin_own a n cap ps w hP ht hn).mono fun _ _ ⟨b, c, h1, h2, _, h3⟩ => ⟨b, c, h1, h2, h3⟩
set_option maxRecDepth 100000 in
set_option maxHeartbeats 800000 in
theorem refFew_any (a : Option Addr) (n cap : Nat) (ps : List (List Int)) (w : World) (hP : Parts w a n cap ps) (ht : ps.flatten.length ≤ 4294967296) (hn : n ≤ 4294967296) (M : Int) (most : Nat) (hM : M = (most : Int)) :
    Calls Tryd.prog 7 #[.slice a n cap, .int .i64 M] w fun e w' => e = .returned (.bool (decide (n + ps.flatten.length ≤ most))) ∧ w = w' := by
  have HMM := Lib.hid hM
  clear hM
  have hl := Lib.hid hP.len
  go_enter Tryd.func7, Tryd.ntmps7
  go_wp2_with fail
  go_loop [5, 6] (fun s i => ∃ k m : Nat, k ≤ n ∧ i = .int .i64 k ∧ s = .int .i64 m ∧ m = n + (ps.take k).flatten.length) (fun _ i => n - (intOf i).toNat)
  case atStart => exact ⟨0, n, Nat.zero_le _, rfl, rfl, rfl⟩
  case round =>
    obtain ⟨k, m0, hk, rfl, rfl, hm0⟩ := hrel
    have HM := Lib.hid hm0
    have hmb : m0 ≤ 8589934592 := by have := flatten_take_le ps k; omega
    clear hm0
    by_cases hlt : k < n
    · obtain ⟨b, off, rfl, hc⟩ := hP.at (by omega)
      obtain ⟨A, m, c, hck, hI⟩ := hc k hlt
      have SN := Lib.hid (flatten_snoc ps k (by rw [hl.out]; omega))
      have SL := Lib.hid (show n + (ps.take (k + 1)).flatten.length = m0 + m by rw [SN.out, List.length_append, hI.len, HM.out]; omega)
      have hmb1 : m ≤ 4294967296 := by
        have h1 := flatten_take_le ps (k + 1)
        rw [SN.out, List.length_append, hI.len] at h1
        omega
      clear hc hI
      go_wp2
      go_round
      case rel => exact ⟨k + 1, m0 + m, by omega, by go_num, by go_num, SL.out.symm⟩
      case measure => simp [intOf]; omega
    · have hend := Lib.hid (show ps.take k = ps from List.take_of_length_le (by rw [hl.out]; omega))
      have hge : (n : Int) ≤ (k : Int) := by omega
      go_wp2
      go_ret
      refine ⟨?_, rfl⟩
      have e : m0 = n + ps.flatten.length := by have := HM.out; rw [hend.out] at this; exact this
      have e2 : decide ((m0 : Int) ≤ M) = decide (n + ps.flatten.length ≤ most) := decide_eq_decide.2 (by have := HMM.out; omega)
      rw [List.length_flatten] at e2
      exact congrArg (fun b => Ending.returned (.bool b)) e2
end Go.Proofs.YtlningdlddnnkaaDoor
