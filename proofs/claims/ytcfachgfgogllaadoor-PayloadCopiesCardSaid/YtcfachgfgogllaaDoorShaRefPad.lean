/-
  What the document's own padded bytes come to. Conditions: at most 2^33 bytes.
-/
import Derived.Test.YtcfachgfgogllaaDoorBlocks2
import Derived.Test.YtcfachgfgogllaaDoorShaMath
import Derived.Test.YtcfachgfgogllaaDoorWordBytes
namespace Go.Proofs.YtcfachgfgogllaaDoor
open Go.RowKit

/-- The bytes of a length. -/
def lenL (n : Nat) : List Int := [8 * (n : Int) / 72057594037927936, 8 * (n : Int) / 281474976710656, 8 * (n : Int) / 1099511627776, 8 * (n : Int) / 4294967296, 8 * (n : Int) / 16777216 % 256, 8 * (n : Int) / 65536 % 256, 8 * (n : Int) / 256 % 256, 8 * (n : Int) % 256]
theorem lenBytes (n : Nat) (hn : n ≤ 8589934592) : bytesOf [8 * (n : Int) / 4294967296 % 4294967296, 8 * (n : Int) % 4294967296] = lenL n := by
  simp only [bytesOf, bytes4, List.flatMap_cons, List.flatMap_nil, List.append_nil, List.cons_append, List.nil_append, lenL]
  simp only [List.cons.injEq, and_true]
  omega
set_option maxRecDepth 100000 in
set_option maxHeartbeats 1600000 in
theorem refPadded_any (a : Option Addr) (n cap : Nat) (bs : List Int) (w : World) (h : Ints .u8 w a n cap bs) (hn : n ≤ 8589934592) :
    Calls Tryd.prog 52 #[.slice a n cap] w fun e w' => ∃ b m c, e = .returned (.slice b m c) ∧ Ints .u8 w' b m c (padded bs) ∧ Below w.heap.size w w' := by
  obtain ⟨i0, hi, hz0, hz1, hz2⟩ := info_parts infoU8
  have hl := Lib.hid h.len
  have e0 : ((w.alloc (.cells #[] 5))).ownsRow w.heap.size 5 1 (.slice (some ⟨w.heap.size, 0, none⟩) 0 0) 0 [] := World.ownsRow_made w #[] 0 (Nat.le_refl _) (Nat.zero_le _) (by simp)
  have hs1 := h.keep (below1 w (.cells #[] 5))
  have hbA := below1 w (.cells #[] 5)
  go_enter Tryd.func52, Tryd.ntmps52
  go_wp2_with (first
    | (at_builtin
       refine wpList_append_ints (v := .slice (some ⟨w.heap.size, 0, none⟩) 0 0) rfl (.tmp 6) (.tmp 7) 27 rfl w.heap.size 5 i0 (.int .u8 0) 1 Tryd.underlying27 hi hz0 hz1 hz2 rfl rfl e0 rfl hs1 ?_ ?_ hbA.size ?_
       (unfold maxLen; omega)
       omega
       intro v1 w1 hown1 hg1
       have hb1 : Below w.heap.size w w1 := hbA.grown hg1 hbA.size (fun q hq => by simp [Value.ownBlock] at hq; omega)
       rw [Nat.zero_add, List.nil_append] at hown1
       have hown1' := hown1.alloc (.cells #[.int .u8 128] 5)
       have hone := one_at w1 .u8 5 128
       have hb1' := hb1.alloc hb1.size (.cells #[.int .u8 128] 5)
       clear hg1)
    | (at_builtin
       refine wpList_append_ints rfl (.tmp 9) (.tmp 10) 27 rfl w.heap.size 5 i0 (.int .u8 0) 1 Tryd.underlying27 hi hz0 hz1 hz2 rfl rfl hown1' rfl hone ?_ ?_ hb1'.size ?_
       (unfold maxLen; omega)
       omega
       intro v2 w2 hown2 hg2))
  have hb2 : Below w.heap.size w w2 := hb1'.grown hg2 hb1'.size (fun q hq => (hown1'.lt q hq).1)
  clear hown1 hown1' hone hb1 hb1' hg2 e0 hs1 hbA
  go_wp2_with fail
  go_loopw [3] (fun v wr => ∃ m : Nat, m ≤ blanks n ∧ wr.ownsRow w.heap.size 5 1 v (n + 1 + m) ((bs ++ 128 :: List.replicate m 0).map (Value.int .u8)) ∧ Below w.heap.size w wr) (fun v _ => n + 1 + blanks n - (match v with | .slice _ l _ => l | _ => 0))
  case atStart => exact ⟨0, Nat.zero_le _, by simpa using hown2, hb2⟩
  case round =>
    obtain ⟨m, hm, hown, hb⟩ := hrel
    clear hown2 hb2
    obtain ⟨vb, vc, rfl⟩ := own_slice hown
    have hbl : blanks n < 64 := by unfold blanks; omega
    by_cases hlt : m < blanks n
    · have hne : ¬ (((n : Int) + 1 + (m : Int)) % 64 = 56) := by unfold blanks at hlt; omega
      have hne2 : (((n : Int) + 1 + (m : Int)) % 64 == 56) = false := by simpa using hne
      have hownA := hown.alloc (.cells #[.int .u8 0] 5)
      have hone := one_at wr .u8 5 0
      have hbA := hb.alloc hb.size (.cells #[.int .u8 0] 5)
      have n0 : (0 : Int) ≤ n := by omega
      have n1 : (n : Int) ≤ 8589934592 := by omega
      have m0 : (0 : Int) ≤ m := by omega
      have m1 : (m : Int) ≤ 64 := by omega
      go_wp2_with (at_builtin; refine wpList_append_ints rfl (.tmp 16) (.tmp 17) 27 rfl w.heap.size 5 i0 (.int .u8 0) 1 Tryd.underlying27 hi hz0 hz1 hz2 rfl rfl hownA rfl hone ?_ ?_ hbA.size ?_; (unfold maxLen; omega); omega; intro v3 w3 hown3 hg3)
      have hown4 : w3.ownsRow w.heap.size 5 1 v3 (n + 1 + (m + 1)) ((bs ++ 128 :: List.replicate (m + 1) 0).map (Value.int .u8)) := by
        rw [List.replicate_succ', ← List.cons_append, ← List.append_assoc, List.map_append]; exact hown3
      have hb4 : Below w.heap.size w w3 := hbA.grown hg3 hbA.size (fun q hq => (hownA.lt q hq).1)
      obtain ⟨vb3, vc3, rfl⟩ := own_slice hown4
      clear hown3 hg3 hownA hone hbA hown hne hne2
      go_roundw
      case rel => exact ⟨m + 1, by omega, hown4, hb4⟩
      case measure => simp; omega
    · have hBm : m = blanks n := by omega
      have heq : ((n : Int) + 1 + (m : Int)) % 64 = 56 := by unfold blanks at hBm; omega
      have heq2 : (((n : Int) + 1 + (m : Int)) % 64 == 56) = true := by simpa using heq
      have FIN := Lib.hid (show padded bs = bs ++ 128 :: List.replicate m 0 ++ lenL n by
        unfold padded padBehind; rw [hl.out, lenBytes n hn, hBm, List.append_assoc])
      clear hBm
      have n0 : (0 : Int) ≤ n := by omega
      have n1 : (n : Int) ≤ 8589934592 := by omega
      have m0 : (0 : Int) ≤ m := by omega
      have m1 : (m : Int) ≤ 64 := by omega
      go_wp2_with fail
      clear heq heq2
      go_loopw [3, 5] (fun v i wr => ∃ t : Nat, t ≤ 8 ∧ i = .int .i64 ((t : Int) - 1) ∧ wr.ownsRow w.heap.size 5 1 v (n + 1 + m + (8 - t)) ((bs ++ 128 :: List.replicate m 0 ++ (lenL n).take (8 - t)).map (Value.int .u8)) ∧ Below w.heap.size w wr) (fun _ i _ => (intOf i + 1).toNat)
      case atStart => exact ⟨8, Nat.le_refl _, rfl, by simpa using hown, hb⟩
      case round =>
        obtain ⟨t, ht, rfl, hown, hb⟩ := hrel
        by_cases hz : t = 0
        · subst hz
          rw [show ((0 : Nat) : Int) - 1 = -1 from rfl]
          go_wp2
          go_ret
          obtain ⟨rb, rc, rfl, hr⟩ := Ints.of_owns hown
          rw [show (lenL n).take (8 - 0) = lenL n from rfl, ← FIN.out] at hr
          exact ⟨rb, _, rc, rfl, hr, hb⟩
        · rcases (show t = 1 ∨ t = 2 ∨ t = 3 ∨ t = 4 ∨ t = 5 ∨ t = 6 ∨ t = 7 ∨ t = 8 from by omega) with rfl | rfl | rfl | rfl | rfl | rfl | rfl | rfl
          · rw [show ((1 : Nat) : Int) - 1 = 0 from rfl]
            go_wp2_with (at_builtin; refine wpList_append_ints rfl (.tmp 27) (.tmp 33) 27 rfl w.heap.size 5 i0 (.int .u8 0) 1 Tryd.underlying27 hi hz0 hz1 hz2 rfl rfl (hown.alloc _) rfl (one_at _ _ _ _) ?_ ?_ (by have := hb.size; simp; omega) ?_; (unfold maxLen; omega); omega; intro v3 w3 hown3 hg3)
            have hown4 : w3.ownsRow w.heap.size 5 1 v3 (n + 1 + m + (8 - 0)) ((bs ++ 128 :: List.replicate m 0 ++ (lenL n).take (8 - 0)).map (Value.int .u8)) := by
              have e : (lenL n).take (8 - 0) = (lenL n).take (8 - 1) ++ [(lenL n).getD (8 - 1) 0] := rfl
              rw [e, ← List.append_assoc, List.map_append]; exact hown3
            have hb4 : Below w.heap.size w w3 := (hb.alloc hb.size _).grown hg3 (by have := hb.size; simp; omega) (fun q hq => (hown.lt q hq).1)
            go_wp2
            go_roundw
            case rel => exact ⟨0, by omega, by go_num, hown4, hb4⟩
            case measure => simp [intOf]
          · rw [show ((2 : Nat) : Int) - 1 = 1 from rfl]
            go_wp2_with (at_builtin; refine wpList_append_ints rfl (.tmp 27) (.tmp 33) 27 rfl w.heap.size 5 i0 (.int .u8 0) 1 Tryd.underlying27 hi hz0 hz1 hz2 rfl rfl (hown.alloc _) rfl (one_at _ _ _ _) ?_ ?_ (by have := hb.size; simp; omega) ?_; (unfold maxLen; omega); omega; intro v3 w3 hown3 hg3)
            have hown4 : w3.ownsRow w.heap.size 5 1 v3 (n + 1 + m + (8 - 1)) ((bs ++ 128 :: List.replicate m 0 ++ (lenL n).take (8 - 1)).map (Value.int .u8)) := by
              have e : (lenL n).take (8 - 1) = (lenL n).take (8 - 2) ++ [(lenL n).getD (8 - 2) 0] := rfl
              rw [e, ← List.append_assoc, List.map_append]; exact hown3
            have hb4 : Below w.heap.size w w3 := (hb.alloc hb.size _).grown hg3 (by have := hb.size; simp; omega) (fun q hq => (hown.lt q hq).1)
            go_wp2
            go_roundw
            case rel => exact ⟨1, by omega, by go_num, hown4, hb4⟩
            case measure => simp [intOf]
          · rw [show ((3 : Nat) : Int) - 1 = 2 from rfl]
            go_wp2_with (at_builtin; refine wpList_append_ints rfl (.tmp 27) (.tmp 33) 27 rfl w.heap.size 5 i0 (.int .u8 0) 1 Tryd.underlying27 hi hz0 hz1 hz2 rfl rfl (hown.alloc _) rfl (one_at _ _ _ _) ?_ ?_ (by have := hb.size; simp; omega) ?_; (unfold maxLen; omega); omega; intro v3 w3 hown3 hg3)
            have hown4 : w3.ownsRow w.heap.size 5 1 v3 (n + 1 + m + (8 - 2)) ((bs ++ 128 :: List.replicate m 0 ++ (lenL n).take (8 - 2)).map (Value.int .u8)) := by
              have e : (lenL n).take (8 - 2) = (lenL n).take (8 - 3) ++ [(lenL n).getD (8 - 3) 0] := rfl
              rw [e, ← List.append_assoc, List.map_append]; exact hown3
            have hb4 : Below w.heap.size w w3 := (hb.alloc hb.size _).grown hg3 (by have := hb.size; simp; omega) (fun q hq => (hown.lt q hq).1)
            go_wp2
            go_roundw
            case rel => exact ⟨2, by omega, by go_num, hown4, hb4⟩
            case measure => simp [intOf]
          · rw [show ((4 : Nat) : Int) - 1 = 3 from rfl]
            go_wp2_with (at_builtin; refine wpList_append_ints rfl (.tmp 27) (.tmp 33) 27 rfl w.heap.size 5 i0 (.int .u8 0) 1 Tryd.underlying27 hi hz0 hz1 hz2 rfl rfl (hown.alloc _) rfl (one_at _ _ _ _) ?_ ?_ (by have := hb.size; simp; omega) ?_; (unfold maxLen; omega); omega; intro v3 w3 hown3 hg3)
            have hown4 : w3.ownsRow w.heap.size 5 1 v3 (n + 1 + m + (8 - 3)) ((bs ++ 128 :: List.replicate m 0 ++ (lenL n).take (8 - 3)).map (Value.int .u8)) := by
              have e : (lenL n).take (8 - 3) = (lenL n).take (8 - 4) ++ [(lenL n).getD (8 - 4) 0] := rfl
              rw [e, ← List.append_assoc, List.map_append]; exact hown3
            have hb4 : Below w.heap.size w w3 := (hb.alloc hb.size _).grown hg3 (by have := hb.size; simp; omega) (fun q hq => (hown.lt q hq).1)
            go_wp2
            go_roundw
            case rel => exact ⟨3, by omega, by go_num, hown4, hb4⟩
            case measure => simp [intOf]
          · rw [show ((5 : Nat) : Int) - 1 = 4 from rfl]
            go_wp2_with (at_builtin; refine wpList_append_ints rfl (.tmp 27) (.tmp 33) 27 rfl w.heap.size 5 i0 (.int .u8 0) 1 Tryd.underlying27 hi hz0 hz1 hz2 rfl rfl (hown.alloc _) rfl (one_at _ _ _ _) ?_ ?_ (by have := hb.size; simp; omega) ?_; (unfold maxLen; omega); omega; intro v3 w3 hown3 hg3)
            have hown4 : w3.ownsRow w.heap.size 5 1 v3 (n + 1 + m + (8 - 4)) ((bs ++ 128 :: List.replicate m 0 ++ (lenL n).take (8 - 4)).map (Value.int .u8)) := by
              have e : (lenL n).take (8 - 4) = (lenL n).take (8 - 5) ++ [(lenL n).getD (8 - 5) 0] := rfl
              rw [e, ← List.append_assoc, List.map_append]; exact hown3
            have hb4 : Below w.heap.size w w3 := (hb.alloc hb.size _).grown hg3 (by have := hb.size; simp; omega) (fun q hq => (hown.lt q hq).1)
            go_wp2
            go_roundw
            case rel => exact ⟨4, by omega, by go_num, hown4, hb4⟩
            case measure => simp [intOf]
          · rw [show ((6 : Nat) : Int) - 1 = 5 from rfl]
            go_wp2_with (at_builtin; refine wpList_append_ints rfl (.tmp 27) (.tmp 33) 27 rfl w.heap.size 5 i0 (.int .u8 0) 1 Tryd.underlying27 hi hz0 hz1 hz2 rfl rfl (hown.alloc _) rfl (one_at _ _ _ _) ?_ ?_ (by have := hb.size; simp; omega) ?_; (unfold maxLen; omega); omega; intro v3 w3 hown3 hg3)
            have hown4 : w3.ownsRow w.heap.size 5 1 v3 (n + 1 + m + (8 - 5)) ((bs ++ 128 :: List.replicate m 0 ++ (lenL n).take (8 - 5)).map (Value.int .u8)) := by
              have e : (lenL n).take (8 - 5) = (lenL n).take (8 - 6) ++ [(lenL n).getD (8 - 6) 0] := rfl
              rw [e, ← List.append_assoc, List.map_append]; exact hown3
            have hb4 : Below w.heap.size w w3 := (hb.alloc hb.size _).grown hg3 (by have := hb.size; simp; omega) (fun q hq => (hown.lt q hq).1)
            go_wp2
            go_roundw
            case rel => exact ⟨5, by omega, by go_num, hown4, hb4⟩
            case measure => simp [intOf]
          · rw [show ((7 : Nat) : Int) - 1 = 6 from rfl]
            go_wp2_with (at_builtin; refine wpList_append_ints rfl (.tmp 27) (.tmp 33) 27 rfl w.heap.size 5 i0 (.int .u8 0) 1 Tryd.underlying27 hi hz0 hz1 hz2 rfl rfl (hown.alloc _) rfl (one_at _ _ _ _) ?_ ?_ (by have := hb.size; simp; omega) ?_; (unfold maxLen; omega); omega; intro v3 w3 hown3 hg3)
            have hown4 : w3.ownsRow w.heap.size 5 1 v3 (n + 1 + m + (8 - 6)) ((bs ++ 128 :: List.replicate m 0 ++ (lenL n).take (8 - 6)).map (Value.int .u8)) := by
              have e : (lenL n).take (8 - 6) = (lenL n).take (8 - 7) ++ [(lenL n).getD (8 - 7) 0] := rfl
              rw [e, ← List.append_assoc, List.map_append]; exact hown3
            have hb4 : Below w.heap.size w w3 := (hb.alloc hb.size _).grown hg3 (by have := hb.size; simp; omega) (fun q hq => (hown.lt q hq).1)
            go_wp2
            go_roundw
            case rel => exact ⟨6, by omega, by go_num, hown4, hb4⟩
            case measure => simp [intOf]
          · rw [show ((8 : Nat) : Int) - 1 = 7 from rfl]
            go_wp2_with (at_builtin; refine wpList_append_ints rfl (.tmp 27) (.tmp 33) 27 rfl w.heap.size 5 i0 (.int .u8 0) 1 Tryd.underlying27 hi hz0 hz1 hz2 rfl rfl (hown.alloc _) rfl (one_at _ _ _ _) ?_ ?_ (by have := hb.size; simp; omega) ?_; (unfold maxLen; omega); omega; intro v3 w3 hown3 hg3)
            have hown4 : w3.ownsRow w.heap.size 5 1 v3 (n + 1 + m + (8 - 7)) ((bs ++ 128 :: List.replicate m 0 ++ (lenL n).take (8 - 7)).map (Value.int .u8)) := by
              have e : (lenL n).take (8 - 7) = (lenL n).take (8 - 8) ++ [(lenL n).getD (8 - 8) 0] := rfl
              rw [e, ← List.append_assoc, List.map_append]; exact hown3
            have hb4 : Below w.heap.size w w3 := (hb.alloc hb.size _).grown hg3 (by have := hb.size; simp; omega) (fun q hq => (hown.lt q hq).1)
            go_wp2
            go_roundw
            case rel => exact ⟨7, by omega, by go_num, hown4, hb4⟩
            case measure => simp [intOf]
end Go.Proofs.YtcfachgfgogllaaDoor
