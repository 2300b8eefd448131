/-
  The program's text of an id (layer 12): bytes.TrimRight at the byte 0, IdText. New memory alone is written. Conditions: an id's bytes.
-/
import Derived.Test.YtnfjmhppajdmaaaDoorHpText
import Derived.Test.YtnfjmhppajdmaaaDoorHexRefI
namespace Go.Proofs.YtnfjmhppajdmaaaDoor
open Go.RowKit

/-- How many bytes are left where the bytes 0 at the end are cut off. -/
def cutZ (xs : List Int) : Nat → Nat
  | 0 => 0
  | n + 1 => if xs.getD n 0 = 0 then cutZ xs n else n + 1
theorem cutZ_le (xs : List Int) : ∀ n, cutZ xs n ≤ n
  | 0 => Nat.le_refl _
  | n + 1 => by
    unfold cutZ
    split
    · exact Nat.le_trans (cutZ_le xs n) (Nat.le_succ _)
    · exact Nat.le_refl _
theorem cutZ_cutN (xs : List Int) : ∀ n, 0 < n → cutN xs n = max (cutZ xs n) 1
  | n + 1, _ => by
    unfold cutN cutZ
    by_cases h : xs.getD n 0 = 0
    · rw [if_pos h]
      by_cases h0 : 0 < n
      · rw [if_pos ⟨h0, h⟩, cutZ_cutN xs n h0]
      · obtain rfl : n = 0 := by omega
        rw [if_neg (fun e => h0 e.1)]
        rfl
    · rw [if_neg (fun e => h e.2), if_neg h]
      omega
theorem cutZ_step {xs : List Int} {n : Nat} (h0 : 0 < n) (h : xs.getD (n - 1) 0 = 0) : cutZ xs n = cutZ xs (n - 1) := by
  obtain ⟨k, rfl⟩ : ∃ k, n = k + 1 := ⟨n - 1, by omega⟩
  exact if_pos h
theorem cutZ_stop {xs : List Int} {n : Nat} (h : ¬ (0 < n ∧ xs.getD (n - 1) 0 = 0)) : cutZ xs n = n := by
  cases n with
  | zero => rfl
  | succ k => exact if_neg (fun e => h ⟨by omega, e⟩)

set_option maxRecDepth 100000 in
set_option maxHeartbeats 1000000 in
theorem trimByte_any (g n c : Nat) (xs : List Int) (w : World) (hI : Ints .u8 w (some ⟨g, 0, none⟩) n c xs) (hn : n ≤ 3000) :
    Calls Tryd.prog 29 #[.slice (some ⟨g, 0, none⟩) n c, .int .u8 0] w fun q w' => q = .returned (.slice (some ⟨g, 0, none⟩) (cutZ xs n) c) ∧ w = w' := by
  go_enter Tryd.func29, Tryd.ntmps29
  go_wp2_with fail
  go_loopw [0] (fun v wr => ∃ k : Nat, k ≤ n ∧ v = .slice (some ⟨g, 0, none⟩) k c ∧ cutZ xs n = cutZ xs k ∧ wr = w) (fun v _ => match v with | .slice _ k _ => k | _ => 0)
  case atStart => exact ⟨n, Nat.le_refl _, rfl, rfl, rfl⟩
  case round =>
    obtain ⟨k, hk, rfl, hcut, hwr⟩ := hrel
    have hwr' := hwr.symm
    subst hwr'
    have hn32 : (k : Int) ≤ 3000 := by omega
    have hkc : (k : Int) ≤ (c : Int) := by have := hI.2.1; omega
    by_cases h0 : 0 < k
    · have h0i : (0 : Int) < (k : Int) := by omega
      obtain ⟨b, off, hgo, hcell⟩ := hI.at (by omega)
      injection hgo with hgo
      injection hgo with hb ho
      subst hb; subst ho
      have hc := hcell (k - 1) (by omega)
      rw [Nat.zero_add] at hc
      by_cases hz : xs.getD (k - 1) 0 = 0
      · rw [hz] at hc
        have hcutH := Lib.hid (hcut.trans (cutZ_step h0 hz))
        have h0H := Lib.hid h0
        have hkH := Lib.hid hk
        clear hcut hz hcell hI hn hk h0 hwr
        go_wp2
        refine ⟨⟨k - 1, by have := h0H.out; have := hkH.out; omega, by congr 1, hcutH.out, by trivial⟩, ?_⟩
        have := h0H.out
        show k - 1 < k
        omega
      · have hcz := Lib.hid (hcut.trans (cutZ_stop (fun h => hz h.2)))
        obtain ⟨v, hvv⟩ : ∃ v, xs.getD (k - 1) 0 = v := ⟨_, rfl⟩
        rw [hvv] at hc hz
        have hzb : (v == 0) = false := beq_false_of_ne hz
        clear hcut hvv hcell hI hn hk h0 hwr hz
        go_wp2
        go_ret
        exact ⟨by rw [hcz.out]; rfl, rfl⟩
    · obtain rfl : k = 0 := by omega
      have hcz := Lib.hid hcut
      have h0i : ¬ (0 : Int) < ((0 : Nat) : Int) := by omega
      clear hcut h0 hk hwr hn
      go_wp2
      go_ret
      exact ⟨by rw [hcz.out]; rfl, rfl⟩

set_option maxRecDepth 100000 in
set_option maxHeartbeats 1000000 in
theorem trimRight_any (g n c : Nat) (xs : List Int) (w : World) (hI : Ints .u8 w (some ⟨g, 0, none⟩) n c xs) (h0 : 0 < n) (hn : n ≤ 3000) :
    Calls Tryd.prog 25 #[.slice (some ⟨g, 0, none⟩) n c, .string { data := #[0] }] w fun q w' => q = .returned (.slice (some ⟨g, 0, none⟩) (cutZ xs n) c) ∧ w = w' := by
  have c1 := trimByte_any g n c xs w hI hn
  have h0i : ((n : Int) == 0) = false := beq_false_of_ne (by omega)
  clear hI h0 hn
  go_enter Tryd.func25, Tryd.ntmps25
  go_wp2_with fail
  refine c1.mono ?_
  rintro q w1 ⟨rfl, rfl⟩
  go_wp2
  go_ret
  exact ⟨rfl, rfl⟩

set_option maxRecDepth 100000 in
set_option maxHeartbeats 1000000 in
theorem hIdText_any (xs : List Int) (w : World) (hl : xs.length = 32) (hr : okB xs) :
    Calls Tryd.prog 11 #[.agg (xs.map (Value.int .u8)).toArray] w fun q w' => q = .returned (.string (strOfNums (idText xs))) ∧ Below w.heap.size w w' := by
  obtain ⟨G, hG⟩ : ∃ G, w.heap.size = G := ⟨_, rfl⟩
  have hk : Blk (w.alloc (.cells (xs.map (Value.int .u8)).toArray 30)) G 30 (xs.map (Value.int .u8)) := by rw [← hG]; exact Blk.new w _ _
  have hB := below1 w (.cells (xs.map (Value.int .u8)).toArray 30)
  have hz := cutZ_le xs 32
  have hcn := cutZ_cutN xs 32 (by decide)
  have hIx := blk_take hk hl (Nat.le_refl 32)
  rw [List.take_of_length_le (by omega)] at hIx
  have c1 := trimRight_any G 32 32 xs _ hIx (by decide) (by decide)
  have hIy := blk_take hk hl (cutN_le xs 32)
  have c2 := hText_any _ (cutN xs 32) 32 _ _ hIy (fun x hx => hr x (List.mem_of_mem_take hx)) (by have := cutN_le xs 32; omega)
  rw [show textL (xs.take (cutN xs 32)) = idText xs from rfl] at c2
  have hn32 := cutN_le xs 32
  have hn0 := cutN_pos xs 32 (by decide)
  obtain ⟨X, hX⟩ : ∃ X, xs.map (Value.int .u8) = X := ⟨_, rfl⟩
  obtain ⟨S, hS⟩ : ∃ S, strOfNums (idText xs) = S := ⟨_, rfl⟩
  obtain ⟨Z, hZ⟩ : ∃ Z, cutZ xs 32 = Z := ⟨_, rfl⟩
  obtain ⟨C, hC⟩ : ∃ C, cutN xs 32 = C := ⟨_, rfl⟩
  rw [hX] at hk hB c1 c2 ⊢
  rw [hS] at c2 ⊢
  rw [hZ] at c1 hcn hz
  rw [hC] at c2 hcn hn32 hn0
  have hsl := fun n (h : n ≤ 32) w => slice_to12 (P := Tryd.prog) (t := 30) (e := 5) (n := 32) (g := G) (off := 0) Tryd.underlying30 sizeU8s n h w
  have hs1 := hsl C hn32
  rw [show (C : Int) = max (Z : Int) 1 by omega] at hs1
  have hGH := Lib.hid hG
  clear hX hS hZ hC hIx hIy hsl hG hl hr
  go_enter Tryd.func11, Tryd.ntmps11
  go_wp2_with fail
  obtain ⟨V, hV⟩ : ∃ V, w.alloc (.cells X.toArray 30) = V := ⟨_, rfl⟩
  rw [hV] at hk hB c1 c2 ⊢
  rw [hGH.out]
  clear hV
  refine c1.mono ?_
  rintro q w1 ⟨rfl, rfl⟩
  clear c1
  clear hcn hn0 hn32 hz hk
  go_wp2_with fail
  refine c2.mono ?_
  rintro q w1 ⟨rfl, b1⟩
  go_wp2
  go_ret
  exact ⟨rfl, hB.trans (b1.mono hB.size)⟩
end Go.Proofs.YtnfjmhppajdmaaaDoor
