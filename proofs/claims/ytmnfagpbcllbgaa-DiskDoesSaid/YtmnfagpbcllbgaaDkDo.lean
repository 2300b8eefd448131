/-
  What the landed steps' do comes to: bytes put to the end of a row of the call's own, or a cut. That row's block alone is written, or new memory. Conditions: at most 2^46 bytes.
-/
import Derived.Test.YtmnfagpbcllbgaaDkStep
import Derived.Test.YtmnfagpbcllbgaaAppendTx
namespace Go.Proofs.Ytmnfagpbcllbgaa
open Go.RowKit

/-- What a row of the call's own has become: in its own block, or in a new one. -/
structure Became (B : Nat) (w : World) (A : Option Addr) (n C : Nat) (w' : World) (q : Value) (ys : List Int) : Prop where
  is : ∃ A' C', q = .slice A' ys.length C' ∧ w'.ownsRow B 5 1 (.slice A' ys.length C') ys.length (ys.map (Value.int .u8)) ∧ ∀ x, A' = some x → (∃ y, A = some y ∧ y.block = x.block) ∨ x.block = w.heap.size
  gr : w.grownBy w' (Value.slice A n C).ownBlock

set_option maxRecDepth 100000 in
set_option maxHeartbeats 800000 in
theorem dPutDo_any {B : Nat} {w : World} {a A : Option Addr} {m c n C : Nat} {xs ys : List Int} (hI : Ints .u8 w a m c ys) (ho : w.ownsRow B 5 1 (.slice A n C) n (xs.map (Value.int .u8))) (u : Nat) (hu : u ≤ m) (hn : n + u ≤ 70368744177664) (hB : B ≤ w.heap.size) :
    Calls Try.prog 66 #[.slice a m c, .slice A n C, .int .i64 (u : Int)] w fun q w' => ∃ v, q = .returned v ∧ Became B w A n C w' v (xs ++ ys.take u) := by
  obtain ⟨i0, hi, hz0, hz1, hz2⟩ := info_u8b
  have hc := hI.2.1
  have hcut := run_cutHi (P := Try.prog) 83 5 Try.underlying83 (by kernel_rfl) a m c .i64 u (by omega)
  have hJ := hI.upTo u hu
  have hyl : (xs ++ ys.take u).length = n + u := by
    have := ho.1
    rw [List.length_map, Nat.mul_one] at this
    rw [List.length_append, List.length_take, hI.len]
    omega
  have hylH := Lib.hid hyl
  clear hI hc hyl
  go_enter Try.func66, Try.ntmps66
  go_wp2_with (at_builtin
               refine wpList_append_ints_tx rfl (.tmp 7) (.tmp 10) 31 83 5 rfl B 5 i0 (.int .u8 0) 1 Try.underlying31 Try.underlying83 hi hz0 hz1 hz2 rfl rfl ho rfl hJ ?_ ?_ hB ?_
               (unfold maxLen; omega)
               (omega)
               intro v5 w5 own5 g5 hat5
               refine RowKit.Hid.out ?_)
  refine Lib.hid ?_
  have hex : ∃ a5 c5, v5 = .slice a5 (n + u) c5 := own_slice own5
  obtain ⟨a5, c5, hv5⟩ := hex
  rw [hv5] at own5 hat5 ⊢
  rw [← List.map_append] at own5
  go_wp2
  go_ret
  refine ⟨_, rfl, ⟨a5, c5, by rw [hylH.out]; rfl, by rw [hylH.out]; exact own5, fun x hx => ?_⟩, g5⟩
  subst hx
  rcases hat5 with h | h
  · refine .inl ?_
    cases A with
    | none => cases h
    | some y => exact ⟨y, rfl, by injection h with h; exact h.symm⟩
  · exact .inr (by injection h)

set_option maxRecDepth 100000 in
set_option maxHeartbeats 800000 in
theorem dCutDo_any {B : Nat} {w : World} {A : Option Addr} {n C k : Nat} {xs : List Int} (ho : w.ownsRow B 5 1 (.slice A n C) n (xs.map (Value.int .u8))) (u : Nat) (hk : 0 < u → k ≤ n) :
    Calls Try.prog 67 #[.int .i64 (k : Int), .slice A n C, .int .i64 (u : Int)] w fun q w' => ∃ v, q = .returned v ∧ Became B w A n C w' v (if u = 0 then xs else xs.take k) := by
  have hl : xs.length = n := by have := ho.1; simpa using this
  have hnC : n ≤ C := by
    rcases ho.2 with ⟨hv, h0⟩ | ⟨g, cap, cur, hv, _, _, hnc, _⟩
    · omega
    · injection hv with _ _ h3; omega
  by_cases h0 : u = 0
  · subst h0
    rw [if_pos rfl]
    have hlH := Lib.hid hl
    clear hl
    go_enter Try.func67, Try.ntmps67
    go_wp2
    go_ret
    exact ⟨_, rfl, ⟨A, C, by rw [hlH.out]; rfl, by rw [hlH.out]; exact ho, fun x hx => .inl ⟨x, hx, rfl⟩⟩, grown_refl _ _⟩
  · rw [if_neg h0]
    have hk' := hk (by omega)
    have hcut := run_cutHi (P := Try.prog) 31 5 Try.underlying31 (by kernel_rfl) A n C .i64 k (by omega)
    have hu0 : ¬ (u : Int) = 0 := by omega
    have hO := own_upTo ho k hk'
    rw [← List.map_take] at hO
    have hl2 : (xs.take k).length = k := by rw [List.length_take]; omega
    have hlH := Lib.hid hl2
    clear hl hk hl2 ho
    go_enter Try.func67, Try.ntmps67
    go_wp2
    go_ret
    exact ⟨_, rfl, ⟨A, C, by rw [hlH.out]; rfl, by rw [hlH.out]; exact hO, fun x hx => .inl ⟨x, hx, rfl⟩⟩, grown_refl _ _⟩
end Go.Proofs.Ytmnfagpbcllbgaa
