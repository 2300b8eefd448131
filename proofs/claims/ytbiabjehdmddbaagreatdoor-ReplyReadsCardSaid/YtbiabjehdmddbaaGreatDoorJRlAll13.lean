/-
  Texts of stages that were proved on their own, joined: HpNum. Each begins with its own words.
-/
import Derived.Test.YtbiabjehdmddbaaGreatDoorJRlAll8
import Derived.Test.YtbiabjehdmddbaaGreatDoorJRlAll1
import Derived.Test.YtbiabjehdmddbaaGreatDoorJRlAll12
import Derived.Lib.AppendIntMem

/-
  The program's text of a number (layer 12): strconv.FormatUint at base 10, Num. New memory alone is written. Conditions: a number below 2^64; the library's table of powers of ten as its text lays it.
-/
namespace Go.Proofs.YtbiabjehdmddbaaGreatDoor
open Go.RowKit

/-- What stands in the table of powers of ten. -/
def Pow12 (w : World) : Prop := Lib.TabIs Tryz.prog w "internal/strconv.uint64pow10" .u64 Lib.pow10Tab
theorem dec_num (n : Nat) : Lib.decDigits n = (numL n).map fun z => UInt8.ofNat z.toNat := by
  induction n using Nat.strongRecOn with
  | ind n ih =>
    by_cases h : n < 10
    · rw [Lib.decDigits, dif_pos h, numL_small h]
      show _ = [UInt8.ofNat (48 + (n : Int)).toNat]
      rw [show (48 + (n : Int)).toNat = 48 + n by omega]
    · rw [Lib.decDigits, dif_neg h, numL_big h, ih (n / 10) (by omega), List.map_append]
      congr 1
theorem dec_str (n : Nat) : (⟨(Lib.decDigits n).toArray⟩ : ByteArray) = strOfNums (numL n) := by rw [dec_num]; rfl
/-- The new block's bytes are a row of noughts. -/
theorem holds_zero0 (w : World) (T : TypeId) (nd : Nat) (hs : nd ≤ 24) : Go.Sort.Holds (fun (b : UInt8) => Value.int .u8 (b.toNat : Int)) (w.alloc (.cells Lib.zeros24 T)) w.heap.size 0 (Array.replicate nd (0 : UInt8)) := fun j hj => by
  have hj' : j < nd := by simpa using hj
  refine ⟨?_, World.frozen?_alloc_new _ _ _ _⟩
  rw [World.cell?_alloc_new, Nat.zero_add, Lib.zeros24_at _ (by omega), getElem!_pos _ j hj]
  simp
theorem below_put (w : World) (o : Obj) (dk : Array UInt8) (k : Nat) : Below w.heap.size w ((Go.Sort.putRow (fun (b : UInt8) => Value.int .u8 (b.toNat : Int)) (w.alloc o) w.heap.size 0 dk).drewN k) := by
  rw [Go.Sort.alloc_eq_grow]
  obtain ⟨os', _, e⟩ := Go.Sort.putRow_grow_new (fun (b : UInt8) => Value.int .u8 (b.toNat : Int)) w #[o] w.heap.size 0 dk (Nat.le_refl _)
  rw [e]
  exact Lib.below_grow w.heap.size w (Nat.le_refl _) k os'

set_option maxRecDepth 100000 in
set_option maxHeartbeats 1600000 in
theorem hFmt_any (n : Nat) (w : World) (hn : n < 18446744073709551616) (htab : Pow12 w) :
    Calls Tryz.prog 59 #[.int .u64 (n : Int), .int .i64 10] w fun q w' => q = .returned (.string (strOfNums (numL n))) ∧ Below w.heap.size w w' := by
  rw [← dec_str]
  by_cases h : n < 100
  · have c1 := num_small n h w
    have hni : (n : Int) < 100 := by omega
    obtain ⟨S, hS⟩ : ∃ S, (⟨(Lib.decDigits n).toArray⟩ : ByteArray) = S := ⟨_, rfl⟩
    rw [hS] at c1 ⊢
    clear hS h htab hn
    go_enter Tryz.func59, Tryz.ntmps59
    go_wp2_with fail
    refine c1.mono ?_
    rintro q w1 ⟨rfl, rfl⟩
    go_wp2
    go_ret
    exact ⟨rfl, Below.refl _ _⟩
  have hni : ¬ (n : Int) < 100 := by omega
  have hnd20 : Lib.nDigits n ≤ 20 := by have := Lib.numDigits_eq n (by omega) hn; split at this <;> omega
  have c1 := num_digits n (by omega) hn (w.alloc (.cells Lib.zeros24 107)) (Lib.tabIs_alloc htab _)
  have hH0 := holds_zero0 w 107 (Lib.nDigits n) (by omega)
  have c2 := num_format w.heap.size 0 24 n (Array.replicate (Lib.nDigits n) 0) (w.alloc (.cells Lib.zeros24 107)) hH0 (by rw [Array.size_replicate]; exact Lib.lt_pow_nDigits n) hn (by rw [Array.size_replicate]; omega)
  rw [Array.size_replicate] at c2
  have hsl := fun W => slice_to12 (P := Tryz.prog) (t := 107) (e := 5) (n := 24) (g := w.heap.size) (off := 0) Tryz.underlying107 sizeU8s (Lib.nDigits n) (by omega) W
  have HH0 := Lib.hid hH0
  have hnH := Lib.hid hn
  clear h htab hH0 hn hnd20
  go_enter Tryz.func59, Tryz.ntmps59
  go_wp2_with fail
  change Calls _ _ _ (w.alloc (.cells Lib.zeros24 107)) _
  refine c1.mono ?_
  rintro q w1 ⟨rfl, hw1⟩
  have hbp := below_put w (.cells Lib.zeros24 107)
  have hwl : w.heap.size < (w.alloc (.cells Lib.zeros24 107)).heap.size := by rw [size1]; omega
  obtain ⟨V, hV⟩ : ∃ V, w.alloc (.cells Lib.zeros24 107) = V := ⟨_, rfl⟩
  rw [hV] at hw1 c2 HH0 hbp hwl
  subst hw1
  clear hV c1
  go_wp2_with fail
  refine c2.mono ?_
  rintro q w2 ⟨rfl, k, v', dk, hw2, hF⟩
  have hb2 := hbp dk k
  rw [← hw2] at hb2
  have hcv : (convert 27 9 (.slice (some ⟨w.heap.size, 0, none⟩) (Lib.nDigits n) 24)).run Tryz.prog w2 = .ok (.string ⟨(Lib.decDigits n).toArray⟩) w2 := by
    have h := run_convert_bytes_back (P := Tryz.prog) w2 27 9 5 ⟨w.heap.size, 0, none⟩ 24 (Lib.decDigits n) Tryz.underlying27 Tryz.underlying5 Tryz.underlying9 (fun j hj => by
      rw [Lib.row_is_numeral hF j hj, Lib.add_plain, hw2, World.cell?_drewN]
      exact Go.Sort.cell?_putRow (fun (b : UInt8) => Value.int .u8 (b.toNat : Int)) _ w.heap.size 0 _ dk HH0.out (by rw [hF.size, Array.size_replicate]) j (by rw [hF.size]; rw [Lib.decDigits_length] at hj; exact hj))
    rw [Lib.decDigits_length] at h
    exact h
  have hF' := Lib.hid hF
  have hw2' := Lib.hid hw2
  clear hF hw2 c2 hbp
  go_wp2
  go_ret
  exact ⟨rfl, hb2⟩

set_option maxRecDepth 100000 in
set_option maxHeartbeats 800000 in
theorem hNum_any (n : Nat) (w : World) (hn : n < 18446744073709551616) (htab : Pow12 w) :
    Calls Tryz.prog 21 #[.int .u64 (n : Int)] w fun q w' => q = .returned (.string (strOfNums (numL n))) ∧ Below w.heap.size w w' := by
  have c1 := hFmt_any n w hn htab
  obtain ⟨S, hS⟩ : ∃ S, strOfNums (numL n) = S := ⟨_, rfl⟩
  rw [hS] at c1 ⊢
  clear hS htab hn
  go_enter Tryz.func21, Tryz.ntmps21
  go_wp2_with (first
    | (go_at_call 59; refine c1.mono ?_; rintro q w1 ⟨rfl, hb⟩; refine RowKit.Hid.out ?_)
    | go_in)
  refine Lib.hid ?_
  go_wp2
  go_ret
  exact ⟨rfl, hb⟩
end Go.Proofs.YtbiabjehdmddbaaGreatDoor
