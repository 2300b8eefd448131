/-
  The document's own bytes of a number (layer 9). New memory alone is written. Conditions: a width from 0 to 8; the number is below 2^64.
-/
import Derived.Test.YtlbhpicebefpnaaRdModel
namespace Go.Proofs.Ytlbhpicebefpnaa
open Go.RowKit

/-- The lowest k bytes of a number, the highest first. -/
def beL (n : Int) : Nat → List Int
  | 0 => []
  | k + 1 => beL (n / 256) k ++ [n % 256]
theorem beL_len (n : Int) : ∀ k, (beL n k).length = k
  | 0 => rfl
  | k + 1 => by rw [beL, List.length_append, beL_len (n / 256) k]; rfl
theorem beL_range : ∀ (k : Nat) (n : Int), ∀ x ∈ beL n k, 0 ≤ x ∧ x < 256
  | 0, n, x, h => by simp [beL] at h
  | k + 1, n, x, h => by
    rw [beL, List.mem_append] at h
    rcases h with h | h
    · exact beL_range k _ x h
    · have := List.mem_singleton.1 h; omega
theorem be_beL : ∀ (k : Nat) (n : Int), 0 ≤ n → n < 256 ^ k → be (beL n k) = n
  | 0, n, h0, h1 => by
    have h2 : n = 0 := by simp at h1; omega
    rw [h2]; rfl
  | k + 1, n, h0, h1 => by
    rw [beL, be_snoc, be_beL k (n / 256) (by omega) (by rw [Int.pow_succ] at h1; omega)]
    omega
/-- Byte by byte from the top: the first j bytes of the k. -/
theorem beL_take : ∀ (k : Nat) (n : Int) (j : Nat), j < k → (beL n k).take (j + 1) = (beL n k).take j ++ [n / 256 ^ (k - 1 - j) % 256] := by
  intro k
  induction k with
  | zero => intro n j h; omega
  | succ k ih =>
    intro n j h
    rw [beL]
    by_cases hj : j < k
    · have e1 : (beL (n / 256) k ++ [n % 256]).take (j + 1) = (beL (n / 256) k).take (j + 1) := List.take_append_of_le_length (by rw [beL_len]; omega)
      have e2 : (beL (n / 256) k ++ [n % 256]).take j = (beL (n / 256) k).take j := List.take_append_of_le_length (by rw [beL_len]; omega)
      rw [e1, e2, ih (n / 256) j hj]
      congr 2
      rw [Int.ediv_ediv_of_nonneg (by decide), Int.mul_comm, ← Int.pow_succ, show (k - 1 - j).succ = k + 1 - 1 - j by omega]
    · obtain rfl : j = k := by omega
      rw [List.take_of_length_le (by simp [beL_len]), List.take_append_of_le_length (by rw [beL_len]; exact Nat.le_refl _), List.take_of_length_le (by rw [beL_len]; exact Nat.le_refl _)]
      congr 2
      rw [show j + 1 - 1 - j = 0 by omega]
      simp

theorem info_u8b : ∃ i, Try.prog.info? 5 = some i ∧ i.zero = some (.int .u8 0) ∧ i.size = 1 ∧ i.bytes = 1 := by
  have h : (Try.prog.info? 5).map (fun i => (i.zero, i.size, i.bytes)) = some (some (.int .u8 0), 1, 1) := by kernel_rfl
  cases hq : Try.prog.info? 5 with
  | none => simp [hq] at h
  | some i => rw [hq] at h; simp at h; exact ⟨i, rfl, h.1, h.2.1, h.2.2⟩

set_option maxRecDepth 100000 in
set_option maxHeartbeats 1000000 in
theorem rNumber_any (n : Int) (k : Nat) (w : World) (hk : k ≤ 8) :
    Calls Try.prog 41 #[.int .u64 n, .int .i64 (k : Int)] w fun r w' => ∃ b c, r = .returned (.slice b k c) ∧ w'.ownsRow w.heap.size 5 1 (.slice b k c) k ((beL n k).map (Value.int .u8)) ∧ Below w.heap.size w w' := by
  obtain ⟨i0, hi, hz0, hz1, hz2⟩ := info_u8b
  have hk0 : wrap64 ((k : Int) - 1) = (k : Int) - 1 := by unfold wrap64; omega
  go_enter Try.func41, Try.ntmps41
  go_wp2
  go_loopw [5, 6] (fun v i wr => ∃ j : Nat, j ≤ k ∧ i = .int .i64 ((k : Int) - 1 - j) ∧ wr.ownsRow w.heap.size 5 1 v j (((beL n k).take j).map (Value.int .u8)) ∧ Below w.heap.size w wr) (fun _ i _ => (intOf i + 1).toNat)
  case atStart => exact ⟨0, Nat.zero_le _, by simp, World.ownsRow_nil _ _ _ _, Below.refl _ _⟩
  case round =>
    clear hk0
    obtain ⟨j, hj, rfl, hown, hb⟩ := hrel
    by_cases hlt : j < k
    · obtain ⟨I, hI⟩ : ∃ I : Int, (k : Int) - 1 - j = I := ⟨_, rfl⟩
      have hI0 : 0 ≤ I := by omega
      have hI8 : I ≤ 7 := by omega
      rw [hI]
      have hp : ∀ m : Nat, m ≤ 7 → (2 : Int) ^ (8 * m) = 256 ^ m := by decide
      have hx : n / 2 ^ (8 * I).toNat % 256 = n / 256 ^ (k - 1 - j) % 256 := by
        rw [show (8 * I).toNat = 8 * (k - 1 - j) by omega, hp _ (by omega)]
      obtain ⟨x, hxe⟩ : ∃ x, n / 2 ^ (8 * I).toNat % 256 = x := ⟨_, rfl⟩
      have hstep := beL_take k n j hlt
      rw [← hx, hxe] at hstep
      have hstepH := Lib.hid hstep
      have hIH := Lib.hid hI
      clear hI hp hx hstep
      go_wp2_with (at_builtin; refine wpList_append_own _ rfl _ _ 27 rfl w.heap.size 5 i0 (.int .u8 0) 1 1 Try.underlying27 hi hz0 hz1 hz2 rfl (by decide) _ _ _ rfl (hown.alloc _) ⟨wr.heap.size, 0, none⟩ 1 1 ([x].map (Value.int .u8)) rfl rfl ?c1 ?c2 ?c3 ?c4 ?c5 ?_)
      case c1 =>
        intro t u ht
        rcases t with _ | t
        · obtain rfl : u = .int .u8 x := by simpa using ht.symm
          exact World.cell?_alloc_at (w := wr) #[.int .u8 x] 5 wr.heap.size 0 rfl
        · simp at ht
      case c2 => simp [Value.oneCell']
      case c3 => unfold maxLen; omega
      case c4 => omega
      case c5 => have := hb.size; simp; omega
      intro v' w1 hown' hgrow _
      have hown1 : w1.ownsRow w.heap.size 5 1 v' (j + 1) (((beL n k).take (j + 1)).map (Value.int .u8)) := by
        rw [hstepH.out, List.map_append, List.map_take]; exact hown'
      have hb1 : Below w.heap.size w w1 := (hb.alloc hb.size _).grown hgrow (by have := hb.size; simp; omega) (fun j hj => (hown.lt j hj).1)
      clear hown' hgrow hown
      go_wp2
      refine ⟨⟨j + 1, by omega, ?_, hown1, hb1⟩, ?_⟩
      · have := hIH.out
        rw [← this]
        congr 1
        omega
      · simp only [intOf]
        omega
    · have hn : (k : Int) - 1 - j < 0 := by omega
      obtain rfl : j = k := by omega
      rw [List.take_of_length_le (by rw [beL_len]; exact Nat.le_refl _)] at hown
      go_wp2
      go_ret
      obtain ⟨b, c, hv⟩ := own_slice hown
      subst hv
      exact ⟨b, c, rfl, hown, hb⟩
end Go.Proofs.Ytlbhpicebefpnaa
