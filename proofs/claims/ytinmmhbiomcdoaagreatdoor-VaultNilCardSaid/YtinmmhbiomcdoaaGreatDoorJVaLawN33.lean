/-
  Texts of stages that were proved on their own, joined: VaNum. Each begins with its own words.
-/
import Derived.Shelf.LaysM
import Derived.Shelf.Strconv.Itoa1
import Derived.Shelf.Strconv.Itoa2
import Derived.Shelf.Strconv.Itoa3
import Derived.Lib.ItoaMem
import Derived.Lib.AppendIntMem
import Derived.Lib.ItoaLen
import Derived.Test.YtinmmhbiomcdoaaGreatDoorBlocks
import Derived.Test.YtinmmhbiomcdoaaGreatDoorJVaLawN18

/-
  strconv.Itoa and strconv.FormatUint at base 10: some text. Each is the kit's contract over this program's numbers. New memory alone is written. Conditions: the library's table of powers of ten as its text lays it; a number below 2^64, an int that is not negative.
-/
namespace Go.Proofs.YtinmmhbiomcdoaaGreatDoor
open Go.Shelf Go.RowKit Go.Sort Go.Lib

def lays171_ren : Go.Shelf.Ren := ⟨fun | 129 => 150 | 171 => 74 | 243 => 118 | 246 => 135 | 283 => 144 | 284 => 145 | 285 => 146 | 286 => 147 | 317 => 149 | 318 => 151 | 319 => 152 | 320 => 153 | 337 => 154 | 338 => 155 | n => n, fun | 0 => 0 | 2 => 2 | 3 => 3 | 4 => 4 | 5 => 5 | 9 => 9 | 20 => 20 | 37 => 34 | 46 => 210 | 51 => 125 | 53 => 41 | 171 => 225 | 173 => 228 | 212 => 232 | 213 => 233 | 232 => 237 | 233 => 238 | n => n, fun | 17 => 2 | 18 => 4 | 19 => 5 | n => n⟩
theorem lays171 : Go.Proofs.LaysM.n171 Tryz.prog lays171_ren := {
  mixed := by kernel_rfl
  f129 := Tryz.func150.trans (congrArg some (by kernel_rfl))
  f171 := Tryz.func74.trans (congrArg some (by kernel_rfl))
  f243 := Tryz.func118.trans (congrArg some (by kernel_rfl))
  f246 := Tryz.func135.trans (congrArg some (by kernel_rfl))
  f283 := Tryz.func144.trans (congrArg some (by kernel_rfl))
  f284 := Tryz.func145.trans (congrArg some (by kernel_rfl))
  f285 := Tryz.func146.trans (congrArg some (by kernel_rfl))
  f286 := Tryz.func147.trans (congrArg some (by kernel_rfl))
  f317 := Tryz.func149.trans (congrArg some (by kernel_rfl))
  f318 := Tryz.func151.trans (congrArg some (by kernel_rfl))
  f319 := Tryz.func152.trans (congrArg some (by kernel_rfl))
  f320 := Tryz.func153.trans (congrArg some (by kernel_rfl))
  f337 := Tryz.func154.trans (congrArg some (by kernel_rfl))
  f338 := Tryz.func155.trans (congrArg some (by kernel_rfl))
  t0 := Tryz.underlying0
  a0 := Tryz.isAgg0
  z0 := Tryz.sizeOf0
  v0 := Tryz.zeroValue0
  t2 := Tryz.underlying2
  a2 := Tryz.isAgg2
  z2 := Tryz.sizeOf2
  v2 := Tryz.zeroValue2
  t3 := Tryz.underlying3
  a3 := Tryz.isAgg3
  z3 := Tryz.sizeOf3
  v3 := Tryz.zeroValue3
  t4 := Tryz.underlying4
  a4 := Tryz.isAgg4
  z4 := Tryz.sizeOf4
  v4 := Tryz.zeroValue4
  t5 := Tryz.underlying5
  a5 := Tryz.isAgg5
  z5 := Tryz.sizeOf5
  v5 := Tryz.zeroValue5
  t9 := Tryz.underlying9
  a9 := Tryz.isAgg9
  z9 := Tryz.sizeOf9
  v9 := Tryz.zeroValue9
  t20 := Tryz.underlying20
  a20 := Tryz.isAgg20
  z20 := Tryz.sizeOf20
  v20 := Tryz.zeroValue20
  t37 := Tryz.underlying34
  a37 := Tryz.isAgg34
  z37 := Tryz.sizeOf34
  v37 := Tryz.zeroValue34
  t46 := Tryz.underlying210
  a46 := Tryz.isAgg210
  z46 := Tryz.sizeOf210
  v46 := Tryz.zeroValue210
  t51 := Tryz.underlying125
  a51 := Tryz.isAgg125
  z51 := Tryz.sizeOf125
  v51 := Tryz.zeroValue125
  t53 := Tryz.underlying41
  a53 := Tryz.isAgg41
  z53 := Tryz.sizeOf41
  v53 := Tryz.zeroValue41
  t171 := Tryz.underlying225
  a171 := Tryz.isAgg225
  z171 := Tryz.sizeOf225
  v171 := Tryz.zeroValue225
  t173 := Tryz.underlying228
  a173 := Tryz.isAgg228
  z173 := Tryz.sizeOf228
  v173 := Tryz.zeroValue228
  t212 := Tryz.underlying232
  a212 := Tryz.isAgg232
  z212 := Tryz.sizeOf232
  v212 := Tryz.zeroValue232
  t213 := Tryz.underlying233
  a213 := Tryz.isAgg233
  z213 := Tryz.sizeOf233
  t232 := Tryz.underlying237
  a232 := Tryz.isAgg237
  z232 := Tryz.sizeOf237
  v232 := Tryz.zeroValue237
  t233 := Tryz.underlying238
  a233 := Tryz.isAgg238
  z233 := Tryz.sizeOf238
  v233 := Tryz.zeroValue238
  g17 := by kernel_rfl
  g18 := by kernel_rfl
  g19 := by kernel_rfl
  i0 := by kernel_rfl
  i2 := by kernel_rfl
  i3 := by kernel_rfl
  i4 := by kernel_rfl
  i5 := by kernel_rfl
  i9 := by kernel_rfl
  i20 := by kernel_rfl
  i37 := by kernel_rfl
  i46 := by kernel_rfl
  i51 := by kernel_rfl
  i53 := by kernel_rfl
  i171 := by kernel_rfl
  i173 := by kernel_rfl
  i212 := by kernel_rfl
  i232 := by kernel_rfl
  i233 := by kernel_rfl
  m17 := by kernel_rfl
  m18 := by kernel_rfl
  m19 := by kernel_rfl }

def lays283_ren : Go.Shelf.Ren := ⟨fun | 283 => 144 | n => n, fun | 3 => 3 | 4 => 4 | 9 => 9 | n => n, fun | n => n⟩
theorem lays283 : Go.Proofs.Lays.n283 Tryz.prog lays283_ren := {
  mixed := by kernel_rfl
  f283 := Tryz.func144.trans (congrArg some (by kernel_rfl))
  t3 := Tryz.underlying3
  a3 := Tryz.isAgg3
  z3 := Tryz.sizeOf3
  v3 := Tryz.zeroValue3
  t4 := Tryz.underlying4
  a4 := Tryz.isAgg4
  z4 := Tryz.sizeOf4
  v4 := Tryz.zeroValue4
  t9 := Tryz.underlying9
  a9 := Tryz.isAgg9
  z9 := Tryz.sizeOf9
  v9 := Tryz.zeroValue9 }

def lays284_ren : Go.Shelf.Ren := ⟨fun | 129 => 150 | 284 => 145 | 317 => 149 | 318 => 151 | n => n, fun | 0 => 0 | 3 => 3 | 4 => 4 | 5 => 5 | 9 => 9 | 46 => 210 | 53 => 41 | 212 => 232 | n => n, fun | 17 => 2 | n => n⟩
theorem lays284 : Go.Proofs.LaysM.n284 Tryz.prog lays284_ren := {
  mixed := by kernel_rfl
  f129 := Tryz.func150.trans (congrArg some (by kernel_rfl))
  f284 := Tryz.func145.trans (congrArg some (by kernel_rfl))
  f317 := Tryz.func149.trans (congrArg some (by kernel_rfl))
  f318 := Tryz.func151.trans (congrArg some (by kernel_rfl))
  t0 := Tryz.underlying0
  a0 := Tryz.isAgg0
  z0 := Tryz.sizeOf0
  v0 := Tryz.zeroValue0
  t3 := Tryz.underlying3
  a3 := Tryz.isAgg3
  z3 := Tryz.sizeOf3
  v3 := Tryz.zeroValue3
  t4 := Tryz.underlying4
  a4 := Tryz.isAgg4
  z4 := Tryz.sizeOf4
  v4 := Tryz.zeroValue4
  t5 := Tryz.underlying5
  a5 := Tryz.isAgg5
  z5 := Tryz.sizeOf5
  v5 := Tryz.zeroValue5
  t9 := Tryz.underlying9
  a9 := Tryz.isAgg9
  z9 := Tryz.sizeOf9
  v9 := Tryz.zeroValue9
  t46 := Tryz.underlying210
  a46 := Tryz.isAgg210
  z46 := Tryz.sizeOf210
  v46 := Tryz.zeroValue210
  t53 := Tryz.underlying41
  a53 := Tryz.isAgg41
  z53 := Tryz.sizeOf41
  v53 := Tryz.zeroValue41
  t212 := Tryz.underlying232
  a212 := Tryz.isAgg232
  z212 := Tryz.sizeOf232
  v212 := Tryz.zeroValue232
  g17 := by kernel_rfl
  i0 := by kernel_rfl
  i3 := by kernel_rfl
  i4 := by kernel_rfl
  i5 := by kernel_rfl
  i9 := by kernel_rfl
  i46 := by kernel_rfl
  i53 := by kernel_rfl
  i212 := by kernel_rfl
  m17 := by kernel_rfl }

def lays285_ren : Go.Shelf.Ren := ⟨fun | 285 => 146 | n => n, fun | 0 => 0 | 3 => 3 | 4 => 4 | 5 => 5 | 9 => 9 | 37 => 34 | 51 => 125 | 53 => 41 | n => n, fun | n => n⟩
theorem lays285 : Go.Proofs.Lays.n285 Tryz.prog lays285_ren := {
  mixed := by kernel_rfl
  f285 := Tryz.func146.trans (congrArg some (by kernel_rfl))
  t0 := Tryz.underlying0
  a0 := Tryz.isAgg0
  z0 := Tryz.sizeOf0
  v0 := Tryz.zeroValue0
  t3 := Tryz.underlying3
  a3 := Tryz.isAgg3
  z3 := Tryz.sizeOf3
  v3 := Tryz.zeroValue3
  t4 := Tryz.underlying4
  a4 := Tryz.isAgg4
  z4 := Tryz.sizeOf4
  v4 := Tryz.zeroValue4
  t5 := Tryz.underlying5
  a5 := Tryz.isAgg5
  z5 := Tryz.sizeOf5
  v5 := Tryz.zeroValue5
  t9 := Tryz.underlying9
  a9 := Tryz.isAgg9
  z9 := Tryz.sizeOf9
  v9 := Tryz.zeroValue9
  t37 := Tryz.underlying34
  a37 := Tryz.isAgg34
  z37 := Tryz.sizeOf34
  v37 := Tryz.zeroValue34
  t51 := Tryz.underlying125
  a51 := Tryz.isAgg125
  z51 := Tryz.sizeOf125
  v51 := Tryz.zeroValue125
  t53 := Tryz.underlying41
  a53 := Tryz.isAgg41
  z53 := Tryz.sizeOf41
  v53 := Tryz.zeroValue41 }
theorem num_small (i : Nat) (h : i < 100) (w : World) :
    Calls Tryz.prog 144 #[.int .i64 i] w fun e w' => e = .returned (.string ⟨(Lib.decDigits i).toArray⟩) ∧ w' = w := Any.internal_strconv_small lays283 i h w

theorem num_digits (u : Nat) (h1 : 1 ≤ u) (h2 : u < 18446744073709551616) (w : World) (htab : Lib.TabIs Tryz.prog w "internal/strconv.uint64pow10" .u64 Lib.pow10Tab) :
    Calls Tryz.prog 145 #[.int .u64 u] w fun e w' => e = .returned (.int .i64 (Lib.nDigits u)) ∧ w' = w := Any.internal_strconv_numDigits lays284 u h1 h2 w htab

theorem num_format (blk off cap : Nat) (u : Nat) (d : Array UInt8) (w : World) (hH : Holds (fun (b : UInt8) => Value.int .u8 (b.toNat : Int)) w blk off d) (hu : u < 10 ^ d.size) (hu64 : u < 18446744073709551616) (hsz : d.size < 4611686018427387904) :
    Calls Tryz.prog 146 #[.slice (some ⟨blk, off, none⟩) d.size cap, .int .u64 u] w fun e w' =>
      e = .returned (.tuple #[]) ∧ ∃ (n v' : Nat) (dk : Array UInt8), w' = (putRow (fun (b : UInt8) => Value.int .u8 (b.toNat : Int)) w blk off dk).drewN n ∧ FmtInv d.size u 0 v' dk := Any.internal_strconv_formatBase10 lays285 blk off cap u d w hH hu hu64 hsz

theorem slice_to12 {P : Program} {t e : TypeId} {n g off : Nat} (hu : P.underlying t = some (.array n e)) (hs : (P.info? e).map (·.size) = some 1) (h : Nat) (hh : h ≤ n) (w : World) :
    (Instr.sliceAt t (.pointer (some ⟨g, off, none⟩)) none (some (.int .i64 (h : Int))) none).run P w = .ok (.slice (some ⟨g, off, none⟩) h n) w := by
  have hn : P.arrayLen t = n := by simp [Program.arrayLen, hu]
  have he : P.elem t = e := by simp [Program.elem, hu]
  have hrun := run_sliceAt_array_h w t ⟨g, off, none⟩ (by rw [hn, he]; exact hu) .i64 (h : Int) (by omega) (by rw [hn]; omega)
  have hsz : (sizeOf e).run P w = .ok 1 w := by
    cases hq : P.info? e with
    | none => simp [hq] at hs
    | some i => simp [sizeOf, typeInfo, hq, (by simpa [hq] using hs : i.size = 1)]
  rw [hn, he, hsz] at hrun
  rw [hrun]
  unfold slicedAt
  have : (⟨g, off, none⟩ : Addr).add (0 * 1) = ⟨g, off, none⟩ := by simp [Addr.add_mid]
  simp [this]

/-- What stands in the table of powers of ten. -/
def Pow12 (w : World) : Prop := Lib.TabIs Tryz.prog w "internal/strconv.uint64pow10" .u64 Lib.pow10Tab
/-- The new block's bytes are a row of noughts. -/
theorem holds_zero0 (w : World) (T : TypeId) (nd : Nat) (hs : nd ≤ 24) : Go.Sort.Holds (fun (b : UInt8) => Value.int .u8 (b.toNat : Int)) (w.alloc (.cells Lib.zeros24 T)) w.heap.size 0 (Array.replicate nd (0 : UInt8)) := fun j hj => by
  have hj' : j < nd := by simpa using hj
  refine ⟨?_, World.frozen?_alloc_new _ _ _ _⟩
  rw [World.cell?_alloc_new, Nat.zero_add, Lib.zeros24_at _ (by omega), getElem!_pos _ j hj]
  simp
theorem below_put (w : World) (o : Obj) (dk : Array UInt8) (k : Nat) : Below w.heap.size w ((Go.Sort.putRow (fun (b : UInt8) => Value.int .u8 (b.toNat : Int)) (w.alloc o) w.heap.size 0 dk).drewN k) := by
  rw [Go.Sort.alloc_eq_grow]
  obtain ⟨os', _, e⟩ := Go.Sort.putRow_grow_new (fun (b : UInt8) => Value.int .u8 (b.toNat : Int)) w #[o] w.heap.size 0 dk (Nat.le_refl _)
  rw [e]
  exact Lib.below_grow w.heap.size w (Nat.le_refl _) k os'


set_option maxRecDepth 100000 in
set_option maxHeartbeats 1600000 in
theorem fmt_any22 (n : Nat) (w : World) (hn : n < 18446744073709551616) (htab : Pow12 w) :
    Calls Tryz.prog 134 #[.int .u64 (n : Int), .int .i64 10] w fun q w' => (∃ s, q = .returned (.string s) ∧ s.size ≤ 21) ∧ Below w.heap.size w w' := by
  have hsz : (⟨(Lib.decDigits n).toArray⟩ : ByteArray).size ≤ 21 := by
    show (Lib.decDigits n).length ≤ 21
    rw [Lib.decDigits_length]
    exact Nat.le_trans (Lib.nDigits_le20 n hn) (by decide)
  by_cases h : n < 100
  · have c1 := num_small n h w
    have hni : (n : Int) < 100 := by omega
    obtain ⟨S, hS⟩ : ∃ S, (⟨(Lib.decDigits n).toArray⟩ : ByteArray) = S := ⟨_, rfl⟩
    rw [hS] at c1 hsz
    clear hS h htab hn
    go_enter Tryz.func134, Tryz.ntmps134
    go_wp2_with fail
    refine c1.mono ?_
    rintro q w1 ⟨rfl, rfl⟩
    go_wp2
    go_ret
    exact ⟨⟨_, rfl, hsz⟩, Below.refl _ _⟩
  have hni : ¬ (n : Int) < 100 := by omega
  have hnd20 : Lib.nDigits n ≤ 20 := by have := Lib.numDigits_eq n (by omega) hn; split at this <;> omega
  have c1 := num_digits n (by omega) hn (w.alloc (.cells Lib.zeros24 225)) (Lib.tabIs_alloc htab _)
  have hH0 := holds_zero0 w 225 (Lib.nDigits n) (by omega)
  have c2 := num_format w.heap.size 0 24 n (Array.replicate (Lib.nDigits n) 0) (w.alloc (.cells Lib.zeros24 225)) hH0 (by rw [Array.size_replicate]; exact Lib.lt_pow_nDigits n) hn (by rw [Array.size_replicate]; omega)
  rw [Array.size_replicate] at c2
  have hsl := fun W => slice_to12 (P := Tryz.prog) (t := 225) (e := 5) (n := 24) (g := w.heap.size) (off := 0) Tryz.underlying225 sizeU8s (Lib.nDigits n) (by omega) W
  have HH0 := Lib.hid hH0
  have hnH := Lib.hid hn
  clear h htab hH0 hn hnd20
  go_enter Tryz.func134, Tryz.ntmps134
  go_wp2_with fail
  change Calls _ _ _ (w.alloc (.cells Lib.zeros24 225)) _
  refine c1.mono ?_
  rintro q w1 ⟨rfl, hw1⟩
  have hbp := below_put w (.cells Lib.zeros24 225)
  have hwl : w.heap.size < (w.alloc (.cells Lib.zeros24 225)).heap.size := by rw [size1]; omega
  obtain ⟨V, hV⟩ : ∃ V, w.alloc (.cells Lib.zeros24 225) = V := ⟨_, rfl⟩
  rw [hV] at hw1 c2 HH0 hbp hwl
  subst hw1
  clear hV c1
  go_wp2_with fail
  refine c2.mono ?_
  rintro q w2 ⟨rfl, k, v', dk, hw2, hF⟩
  have hb2 := hbp dk k
  rw [← hw2] at hb2
  have hcv : (convert 34 9 (.slice (some ⟨w.heap.size, 0, none⟩) (Lib.nDigits n) 24)).run Tryz.prog w2 = .ok (.string ⟨(Lib.decDigits n).toArray⟩) w2 := by
    have h := run_convert_bytes_back (P := Tryz.prog) w2 34 9 5 ⟨w.heap.size, 0, none⟩ 24 (Lib.decDigits n) Tryz.underlying34 Tryz.underlying5 Tryz.underlying9 (fun j hj => by
      rw [Lib.row_is_numeral hF j hj, Lib.add_plain, hw2, World.cell?_drewN]
      exact Go.Sort.cell?_putRow (fun (b : UInt8) => Value.int .u8 (b.toNat : Int)) _ w.heap.size 0 _ dk HH0.out (by rw [hF.size, Array.size_replicate]) j (by rw [hF.size]; rw [Lib.decDigits_length] at hj; exact hj))
    rw [Lib.decDigits_length] at h
    exact h
  have hF' := Lib.hid hF
  have hw2' := Lib.hid hw2
  clear hF hw2 c2 hbp
  go_wp2
  go_ret
  exact ⟨⟨_, rfl, hsz⟩, hb2⟩

set_option maxRecDepth 100000 in
set_option maxHeartbeats 800000 in
theorem fmtU_any22 (n : Int) (w : World) (hn : 0 ≤ n ∧ n < 18446744073709551616) (htab : Pow12 w) :
    Calls Tryz.prog 115 #[.int .u64 n, .int .i64 10] w fun q w' => (∃ s, q = .returned (.string s) ∧ s.size ≤ 21) ∧ Below w.heap.size w w' := by
  have c1 := fmt_any22 n.toNat w (by omega) htab
  rw [show ((n.toNat : Nat) : Int) = n by omega] at c1
  clear htab hn
  go_enter Tryz.func115, Tryz.ntmps115
  go_wp2_with fail
  refine c1.mono ?_
  rintro q w1 ⟨⟨s, rfl, hs⟩, hb⟩
  go_wp2
  go_ret
  exact ⟨⟨_, rfl, hs⟩, hb⟩

theorem itoa_any22 (n : Nat) (w : World) (hn : n < 9223372036854775808) (htab : Pow12 w) :
    Calls Tryz.prog 74 #[.int .i64 (n : Int)] w fun q w' => (∃ s, q = .returned (.string s) ∧ s.size ≤ 21) ∧ Below w.heap.size w w' :=
  (Any.strconv_Itoa lays171 (n : Int) (by omega) (by omega) w htab).mono fun q w' ⟨e, k, os, hw⟩ => ⟨⟨_, e, Lib.itoa_length_le (n : Int) (by omega) (by omega)⟩, by rw [hw]; exact Lib.below_grow w.heap.size w (Nat.le_refl _) k os⟩
end Go.Proofs.YtinmmhbiomcdoaaGreatDoor
