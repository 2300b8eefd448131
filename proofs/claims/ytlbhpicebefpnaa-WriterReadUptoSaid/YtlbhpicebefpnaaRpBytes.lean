/-
  What the program's 'next' comes to in every case, and Bytes. New memory and the reader alone are written. Conditions: those of a reader in memory.
-/
import Derived.Test.YtlbhpicebefpnaaRpNext
namespace Go.Proofs.Ytlbhpicebefpnaa
open Go.RowKit

/-- Place, fault and how many bytes, behind next. -/
def nx (n p : Nat) (e : Int) (may : Bool) (A : Int) (S : Nat) : Nat × Int × Nat :=
  if e ≠ 0 then (p, e, 0) else if may = false then (p, 1, 0) else if (((n - p) / S : Nat) : Int) < A then (p, 2, 0) else (p + A.toNat * S, 0, A.toNat * S)

theorem pNext_any {F : Nat → Prop} {w : World} {g : Nat} {xs : List Int} {p : Nat} {e : Int} (s : ByteArray) (may : Bool) (A : Int) (S : Nat) (h : RdAt F w g xs p e) (hS : 1 ≤ S) (hA : may = true → 0 ≤ A) :
    Calls Try.prog 35 #[.pointer (some ⟨g, 0, none⟩), .string s, .bool may, .int .i64 A, .int .i64 (S : Int)] w fun r w' => ∃ a c, r = .returned (.slice a (nx xs.length p e may A S).2.2 c) ∧ Ints .u8 w' a (nx xs.length p e may A S).2.2 c ((xs.drop p).take (nx xs.length p e may A S).2.2) ∧ (∀ x, a = some x → 0 < (nx xs.length p e may A S).2.2 → F x.block ∧ x.block ≠ g) ∧ RdAt F w' g xs (nx xs.length p e may A S).1 (nx xs.length p e may A S).2.1 ∧ Moved F w w' := by
  unfold nx
  by_cases he : e ≠ 0
  · rw [if_pos he]
    refine (pNext_bad s may A S he h).mono ?_
    rintro r w' ⟨rfl, rfl⟩
    exact ⟨none, 0, rfl, ⟨by simp, Nat.le_refl _, .inl rfl⟩, (fun _ hx => by cases hx), h, Moved.of_below (Below.refl _ _)⟩
  · rw [if_neg he]
    obtain rfl : e = 0 := by omega
    cases may with
    | false =>
      rw [if_pos rfl]
      refine (pNext_arg s A S h).mono ?_
      rintro r w' ⟨rfl, hR, hM⟩
      exact ⟨none, 0, rfl, ⟨by simp, Nat.le_refl _, .inl rfl⟩, (fun _ hx => by cases hx), hR, hM⟩
    | true =>
      rw [if_neg (by decide)]
      have hm := h.most
      have hw := h.within
      have hd : ((xs.length : Int) - p).tdiv (S : Int) = (((xs.length - p) / S : Nat) : Int) := by
        rw [show ((xs.length : Int) - p) = ((xs.length - p : Nat) : Int) by omega]
        exact (Int.ofNat_tdiv _ _).symm
      have hle : (xs.length - p) / S ≤ xs.length - p := Nat.div_le_self _ _
      have hQ : wrap64 (((xs.length : Int) - p).tdiv S) = (((xs.length - p) / S : Nat) : Int) := by
        rw [hd]
        obtain ⟨q, hq⟩ : ∃ q, (xs.length - p) / S = q := ⟨_, rfl⟩
        rw [hq] at hle ⊢
        unfold wrap64
        omega
      have hS0 : ¬ (S : Int) = 0 := by omega
      by_cases hq : (((xs.length - p) / S : Nat) : Int) < A
      · rw [if_pos hq]
        refine (pNext_short s A S _ h hS0 hQ hq).mono ?_
        rintro r w' ⟨rfl, hR, hM⟩
        exact ⟨none, 0, rfl, ⟨by simp, Nat.le_refl _, .inl rfl⟩, (fun _ hx => by cases hx), hR, hM⟩
      · rw [if_neg hq]
        have h0 := hA rfl
        obtain ⟨K, rfl⟩ : ∃ K : Nat, A = K := ⟨A.toNat, by omega⟩
        have hK : K * S ≤ xs.length - p := (Nat.le_div_iff_mul_le (by omega)).1 (by omega)
        have hW : wrap64 ((K : Int) * (S : Int)) = ((K * S : Nat) : Int) := by
          rw [← Int.natCast_mul]
          obtain ⟨q, hq⟩ : ∃ q, K * S = q := ⟨_, rfl⟩
          rw [hq] at hK ⊢
          unfold wrap64
          omega
        rw [Int.toNat_natCast]
        refine (pNext_ok s K S _ _ (K * S) h hS0 hQ hq hW rfl (by omega)).mono ?_
        rintro r w' ⟨a, c, rfl, hI, hx, hR, hM⟩
        exact ⟨a, c, rfl, hI, hx, hR, hM⟩

theorem nx_bytes (n p : Nat) (e A : Int) (hp : p ≤ n) : nx n p e (decide (0 ≤ A)) A 1 = rdStep n p e A := by
  unfold nx rdStep
  by_cases he : e ≠ 0
  · rw [if_pos he, if_pos he]
  · rw [if_neg he, if_neg he]
    by_cases h : A < 0
    · rw [if_pos h, if_pos (decide_eq_false (by omega))]
    · rw [if_neg h, if_neg (by rw [decide_eq_true (by omega)]; decide), Nat.div_one, Nat.mul_one]
      by_cases h2 : (n : Int) - p < A
      · rw [if_pos h2, if_pos (by omega)]
      · rw [if_neg h2, if_neg (by omega)]

theorem nx_one (n p : Nat) (e : Int) (S : Nat) (hp : p ≤ n) (hS : 1 ≤ S) : nx n p e true 1 S = rdStep n p e (S : Int) := by
  unfold nx rdStep
  by_cases he : e ≠ 0
  · rw [if_pos he, if_pos he]
  · rw [if_neg he, if_neg he, if_neg (by decide)]
    have h1 : (1 : Int).toNat * S = S := by rw [show (1 : Int).toNat = 1 from rfl, Nat.one_mul]
    rw [h1, Int.toNat_natCast]
    have h0 : ¬ (S : Int) < 0 := by omega
    by_cases h2 : (n : Int) - p < (S : Int)
    · have hd : (n - p) / S = 0 := Nat.div_eq_of_lt (by omega)
      rw [hd, if_pos (by decide), if_neg h0, if_pos h2]
    · have hd : 1 ≤ (n - p) / S := (Nat.le_div_iff_mul_le (by omega)).2 (by omega)
      obtain ⟨q, hq⟩ : ∃ q, (n - p) / S = q := ⟨_, rfl⟩
      rw [hq] at hd ⊢
      rw [if_neg (by omega), if_neg h0, if_neg h2]

theorem own_block {w : World} {B : Nat} {e : TypeId} {b : Option Addr} {n c m : Nat} {vs : List Value} (ho : w.ownsRow B e 1 (.slice b n c) m vs) {x : Addr} (hx : b = some x) : B ≤ x.block := (ho.lt x.block (by rw [hx]; rfl)).1

set_option maxRecDepth 100000 in
set_option maxHeartbeats 800000 in
theorem pBytes_any {F : Nat → Prop} {w : World} {g : Nat} {xs : List Int} {p : Nat} {e : Int} (A : Int) (h : RdAt F w g xs p e) :
    Calls Try.prog 22 #[.pointer (some ⟨g, 0, none⟩), .int .i64 A] w fun r w' => ∃ b c, r = .returned (.slice b (rdStep xs.length p e A).2.2 c) ∧ w'.ownsRow w.heap.size 5 1 (.slice b (rdStep xs.length p e A).2.2 c) (rdStep xs.length p e A).2.2 ((rdBytes xs p e A).map (Value.int .u8)) ∧ (∀ x, b = some x → ¬ F x.block) ∧ RdAt F w' g xs (rdStep xs.length p e A).1 (rdStep xs.length p e A).2.1 ∧ Moved F w w' := by
  have hc := pNext_any { data := #[98, 121, 116, 101, 115] } (decide (0 ≤ A)) A 1 h (Nat.le_refl _) (fun h => of_decide_eq_true h)
  have hw := h.within
  have hm := h.most
  rw [nx_bytes _ _ _ _ hw] at hc
  have hst := (rdStep_le (n := xs.length) e A hw).2
  unfold rdBytes
  obtain ⟨K, hK⟩ : ∃ K, (rdStep xs.length p e A).2.2 = K := ⟨_, rfl⟩
  obtain ⟨P, hP⟩ : ∃ P, (rdStep xs.length p e A).1 = P := ⟨_, rfl⟩
  obtain ⟨E, hE⟩ : ∃ E, (rdStep xs.length p e A).2.1 = E := ⟨_, rfl⟩
  rw [hK, hP, hE] at hc ⊢
  rw [hK] at hst
  obtain ⟨Y, hY⟩ : ∃ Y, (xs.drop p).take K = Y := ⟨_, rfl⟩
  rw [hY] at hc ⊢
  have hKm : K ≤ 4294967296 := by omega
  have hlt := Lib.hid h.lt
  clear hK hP hE hY hst hm hw h
  have hKH := Lib.hid hKm
  clear hKm
  go_enter Try.func22, Try.ntmps22
  go_wp2_with fail
  refine hc.mono ?_
  rintro r w1 ⟨a, c, rfl, hI, hx, hR, hM⟩
  clear hc hx
  go_wp2_with fail
  refine (pClone_any a K c Y w1 hI hKH.out).mono ?_
  rintro r w2 ⟨b, d, rfl, ho, b2⟩
  go_wp2
  go_ret
  have hs := hM.size
  refine ⟨b, d, rfl, own_low9 ho hs, fun x hx hf => ?_, hR.keep (fun k hk => b2.block k (hR.lt k hk)) b2.size, hM.then (Moved.of_below b2)⟩
  have h1 := own_block ho hx
  have h2 := hlt.out _ hf
  omega
end Go.Proofs.Ytlbhpicebefpnaa
