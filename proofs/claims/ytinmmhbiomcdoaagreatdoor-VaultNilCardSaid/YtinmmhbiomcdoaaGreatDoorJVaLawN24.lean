/-
  Texts of stages that were proved on their own, joined: FpEncode. Each begins with its own words.
-/
import Derived.Test.YtinmmhbiomcdoaaGreatDoorJVaLawN6
import Derived.Test.YtinmmhbiomcdoaaGreatDoorJVaLawN23
import Derived.Test.YtinmmhbiomcdoaaGreatDoorJVaLawN22
import Derived.Test.YtinmmhbiomcdoaaGreatDoorJVaLawN19

/-
  What frame's Size and Encode come to. New memory alone is written. Conditions: bytes below 256; the bytes are at most 2^47 many.
-/
namespace Go.Proofs.YtinmmhbiomcdoaaGreatDoor
open Go.RowKit

/-- Encode, of numbers. -/
def encF (xs : List Int) : List Int × Int := if xs.length < 1 ∨ 65536 < xs.length then ([], 1) else (frB xs, 0)
set_option maxRecDepth 100000 in
theorem fSize_any (a : Option Addr) (n c : Nat) (w : World) (hn : n ≤ 140737488355328) :
    Calls Tryz.prog 122 #[.slice a n c] w fun q w' => q = .returned (.int .i64 (8 + (n : Int))) ∧ w = w' := by
  have h8 : wrap64 (8 + (n : Int)) = 8 + (n : Int) := by unfold wrap64; omega
  go_enter Tryz.func122, Tryz.ntmps122
  go_wp2
  go_ret
  exact ⟨rfl, rfl⟩

set_option maxRecDepth 100000 in
set_option maxHeartbeats 2000000 in
theorem fEncode_any (a : Option Addr) (n c : Nat) (xs : List Int) (w : World) (hG : Glob11 w) (hI : Ints .u8 w a n c xs) (hr : ∀ x ∈ xs, 0 ≤ x ∧ x < 256) (hn : n ≤ 140737488355328) :
    Calls Tryz.prog 84 #[.slice a n c] w fun q w' => ∃ b d, q = .returned (.tuple #[.slice b (encF xs).1.length d, .int .i64 (encF xs).2]) ∧ w'.ownsRow w.heap.size 5 1 (.slice b (encF xs).1.length d) (encF xs).1.length ((encF xs).1.map (Value.int .u8)) ∧ Below w.heap.size w w' := by
  have hl := hI.len
  unfold encF
  rw [hl]
  by_cases hb : n < 1 ∨ 65536 < n
  · rw [if_pos hb]
    clear hI hr hG
    go_enter Tryz.func84, Tryz.ntmps84
    by_cases h0 : n = 0
    · subst h0
      go_wp2
      go_ret2
      exact ⟨none, 0, rfl, World.ownsRow_nil _ _ _ _, Below.refl _ _⟩
    · have h1 : (65536 : Int) < (n : Int) := by omega
      go_wp2
      go_ret2
      exact ⟨none, 0, rfl, World.ownsRow_nil _ _ _ _, Below.refl _ _⟩
  · rw [if_neg hb]
    have h0 : ¬ n = 0 := by omega
    have h1 : ¬ (65536 : Int) < (n : Int) := by omega
    have hS := fun w' => fSize_any a n c w' hn
    have n64 : IntKind.u64.wrap (n : Int) = (n : Int) := by rw [IntKind.wrap_u64]; omega
    have hfl := frB_len xs
    rw [hl] at hfl
    have hm : frB xs = (([] ++ beL (n : Int) (4 : Int).toNat) ++ beL (sumF xs) (4 : Int).toNat) ++ xs := by
      unfold frB
      rw [hl, List.nil_append, List.append_assoc]
      rfl
    have hsum : nv (crcOf 0#32 (bvs ([beL (n : Int) 4, xs] : List (List Int)).flatten)) = sumF xs := by
      unfold sumF
      rw [hl]
      simp
    have hsr := sumF_range xs
    obtain ⟨V, hV⟩ : ∃ V, sumF xs = V := ⟨_, rfl⟩
    rw [hV] at hm hsum hsr
    obtain ⟨M, hM⟩ : ∃ M, frB xs = M := ⟨_, rfl⟩
    rw [hM] at hm hfl
    rw [hM]
    dsimp only
    have v64 : IntKind.u64.wrap V = V := by rw [IntKind.wrap_u64]; omega
    have hmH := Lib.hid hm
    have hlM : M.length ≤ 100000000 := by omega
    have hIH := Lib.hid hI
    have hsumH := Lib.hid hsum
    have hn16 := Lib.hid (show n ≤ 65536 by omega)
    have hlH := Lib.hid hl
    have hV0 := Lib.hid hsr
    clear hb hm hI hM hV hsum hl hn hsr hfl
    go_enter Tryz.func84, Tryz.ntmps84
    go_wp2_with fail
    refine (hS w).mono ?_
    rintro q w1 ⟨rfl, rfl⟩
    go_wp2_with fail
    refine (wNew_any (8 + (n : Int)) w (by have := hn16.out; omega)).mono ?_
    rintro q w2 ⟨g, F, rfl, hw2, hF2, b2⟩
    rw [show max (8 + (n : Int)) 0 = 8 + (n : Int) by omega] at hw2
    have hI2 := hIH.out.keep b2
    have hFx : ∀ x, a = some x → 0 < n → ¬ F x.block := fun x hx h0 hF => by have := hIH.out.isIn.2 x hx h0; have := hF2 _ hF; omega
    have hD := We.start hw2
    have hFH := Lib.hid hFx
    have hF2H := Lib.hid hF2
    have b2H := Lib.hid b2
    have hI2H := Lib.hid hI2
    clear hw2 hF2 b2 hFx hI2 hS
    go_wp2_with fail
    refine (we_num hD (n : Int) 4 ⟨by decide, by decide, by show (n : Int) < 256 ^ 4; rw [pow256_4]; have := hn16.out; omega⟩ (by omega) (by rw [List.length_nil]; omega) (by decide)).mono ?_
    rintro q w3 ⟨rfl, hD3⟩
    have l1 : ([] ++ beL (n : Int) (4 : Int).toNat : List Int).length = 4 := by rw [List.nil_append, beL_len]; rfl
    have hd := hD3.done (by rw [l1]; decide)
    rw [if_pos rfl, l1] at hd
    clear hD
    go_wp2_with fail
    refine hd.mono ?_
    rintro q w4 ⟨b, d, rfl, ho, b4⟩
    have hD4 := hD3.keep b4
    have hB4 := b2H.out.trans ((hD4.below (fun k hk => hF2H.out k hk) b2H.out.size).mono (Nat.le_refl _))
    obtain ⟨a', c', hv, hJ⟩ := Ints.of_owns ho
    injection hv with e1 e2 e3
    subst e1; subst e3
    have hP := parts_two11 w4 b a 4 n d c _ xs hJ (hIH.out.keep hB4) 34
    rw [show ([] ++ beL (n : Int) (4 : Int).toNat : List Int) = beL (n : Int) 4 by rfl] at hP
    have b5 := below1 w4 (.cells #[.slice b 4 d, .slice a n c] 34)
    have hc := cOf_any _ 2 2 _ _ (hG.keep (hB4.trans (b5.mono hB4.size)) (Nat.le_refl _)) hP (by
      intro p hp
      simp at hp
      rcases hp with rfl | rfl
      · exact beL_range _ _
      · exact hr) (by simp [beL_len, hlH.out]; have := hn16.out; omega)
    rw [hsumH.out] at hc
    have hD5 := hD4.keep b5
    clear hD3 hd hJ hP ho hD4
    go_wp2_with fail
    refine hc.mono ?_
    rintro q w6 ⟨rfl, hw6⟩
    subst hw6
    clear hc
    go_wp2_with fail
    refine (we_num hD5 V 4 ⟨by decide, by decide, by show V < 256 ^ 4; rw [pow256_4]; exact hV0.out.2⟩ hV0.out.1 (by rw [l1]; omega) (by rw [l1]; decide)).mono ?_
    rintro q w7 ⟨rfl, hD7⟩
    have l2 : (([] ++ beL (n : Int) (4 : Int).toNat) ++ beL V (4 : Int).toNat : List Int).length = 8 := by rw [List.length_append, l1, beL_len]; rfl
    clear hD5
    go_wp2_with fail
    refine (we_bytes hD7 a n c xs hI2H.out hFH.out (by rw [l2]; omega) (by rw [l2]; have := hn16.out; omega)).mono ?_
    rintro q w8 ⟨rfl, hD8⟩
    rw [← hmH.out] at hD8
    have hB8 := b2H.out.trans ((hD8.below (fun k hk => hF2H.out k hk) b2H.out.size).mono (Nat.le_refl _))
    have hd := hD8.done hlM
    rw [if_pos rfl] at hd
    clear hD7 hD8
    go_wp2_with fail
    refine hd.mono ?_
    rintro q w9 ⟨b', d', rfl, ho, b9⟩
    clear hd
    go_wp2
    go_ret2
    exact ⟨b', d', rfl, own_low9 ho hB8.size, hB8.trans (b9.mono hB8.size)⟩
end Go.Proofs.YtinmmhbiomcdoaaGreatDoor
