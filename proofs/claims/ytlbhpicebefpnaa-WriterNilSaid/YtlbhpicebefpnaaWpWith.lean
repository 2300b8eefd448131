/-
  The landed writer's Num, Bytes, Id, Hint, Ids and Fail, out of what its write comes to: each lays its parts in new memory and calls write. No conditions but those of the parts.
-/
import Derived.Test.YtlbhpicebefpnaaWpMem
import Derived.Test.YtlbhpicebefpnaaRdPad
import Derived.Test.YtlbhpicebefpnaaRwIds
import Derived.Test.YtlbhpicebefpnaaSteps
namespace Go.Proofs.Ytlbhpicebefpnaa
open Go.RowKit

theorem beL_cons : ∀ (j : Nat) (n : Int), beL n (j + 1) = (n / 256 ^ j % 256) :: beL n j
  | 0, n => by simp [beL]
  | j + 1, n => by
    rw [beL, beL_cons j (n / 256), Int.ediv_ediv_of_nonneg (by decide), Int.mul_comm, ← Int.pow_succ]
    rfl
theorem beL_tail (n : Int) (j : Nat) : ∀ d, ∃ l, l.length = d ∧ beL n (d + j) = l ++ beL n j
  | 0 => ⟨[], rfl, by simp⟩
  | d + 1 => by
    obtain ⟨l, hl, he⟩ := beL_tail n j d
    refine ⟨(n / 256 ^ (d + j) % 256) :: l, by simp [hl], ?_⟩
    rw [show d + 1 + j = d + j + 1 by omega, beL_cons, he]
    rfl
/-- A number's bytes, laid from the right into eight. -/
def laidN (n : Int) (j : Nat) : List Value := (List.replicate (8 - j) 0 ++ beL n j).map (Value.int .u8)
theorem laidN_len (n : Int) (j : Nat) (h : j ≤ 8) : (laidN n j).length = 8 := by simp [laidN, beL_len]; omega
theorem laidN_set (n : Int) (j q : Nat) (v : Int) (h : q + j = 7) (hv : v = n / 256 ^ j % 256) : (laidN n j).set q (.int .u8 v) = laidN n (j + 1) := by
  unfold laidN
  rw [beL_cons, show 8 - j = q + 1 by omega, show 8 - (j + 1) = q by omega, List.replicate_succ', List.append_assoc, hv]
  rw [← List.map_set]
  congr 1
  rw [List.set_append_right _ _ (by simp)]
  simp
theorem laidN_ints {w : World} {g : Nat} {t : TypeId} {n : Int} (h : Blk w g t (laidN n 8)) (K q : Nat) (hq : q + K = 8) : Ints .u8 w (some ⟨g, q, none⟩) K K (beL n K) := by
  refine ⟨beL_len n K, Nat.le_refl _, .inr ⟨g, q, rfl, fun i hi => ?_⟩⟩
  obtain ⟨l, hl, he⟩ := beL_tail n K q
  rw [hq] at he
  have hlen := beL_len n K
  rw [h.cell]
  unfold laidN
  rw [show 8 - 8 = 0 from rfl, List.replicate_zero, List.nil_append, he, List.getElem?_map, List.getElem?_append_right (by omega), hl, Nat.add_sub_cancel_left, List.getElem?_eq_getElem (by omega), List.getD_eq_getElem?_getD, List.getElem?_eq_getElem (by omega)]
  rfl
theorem num_cases (N A : Int) (hN : 0 ≤ N) : (fits N A ∧ ∃ K : Nat, A = (K : Int) ∧ 1 ≤ K ∧ K ≤ 8 ∧ N / 256 ^ K = 0) ∨ (¬ fits N A ∧ (A < 1 ∨ 8 < A ∨ (∃ K : Nat, A = (K : Int) ∧ 1 ≤ K ∧ K ≤ 8 ∧ ¬ N / 256 ^ K = 0))) := by
  have h256 : ∀ K : Nat, (0 : Int) < 256 ^ K := fun K => Int.pow_pos (by decide)
  by_cases hf : fits N A
  · obtain ⟨h1, h8, hp⟩ := id hf
    obtain ⟨K, rfl⟩ : ∃ K : Nat, A = (K : Int) := ⟨A.toNat, by omega⟩
    rw [Int.toNat_natCast] at hp
    exact .inl ⟨hf, K, rfl, by omega, by omega, Int.ediv_eq_zero_of_lt hN hp⟩
  · refine .inr ⟨hf, ?_⟩
    by_cases h1 : A < 1
    · exact .inl h1
    by_cases h8 : 8 < A
    · exact .inr (.inl h8)
    refine .inr (.inr ⟨A.toNat, by omega, by omega, by omega, fun h0 => hf ⟨by omega, by omega, ?_⟩⟩)
    have hq := Int.lt_mul_ediv_self_add (x := N) (h256 A.toNat)
    rw [h0] at hq
    omega
theorem pow_256 (j : Nat) : (2 : Int) ^ (8 * j) = 256 ^ j := by
  rw [Int.pow_mul]
  rfl
theorem zero8 : Zero Try.prog 70 (List.replicate 8 (Value.int .u8 0)) := by unfold Zero; kernel_rfl
/-- A variable that is an array, sliced from a place on. -/
theorem wpList_arr_from {P : Program} {w : World} {ops : Array Oper} {rest : List Oper} {o : Oper} {a : Act} {Q : Exit → Act → World → Prop} (hgd : o.guard = none) (ty e : TypeId) (n l : Nat) (x y : Operand) (ho : o.op = .slice ty x (some y) none none)
    (hu : P.underlying ty = some (.array n e)) (hs : (P.info? e).map (·.size) = some 1) {g : Nat} (hx : a.eval x = .pointer (some ⟨g, 0, none⟩)) {z : Int} (hy : a.eval y = .int .i64 z) (hz : z = (l : Int)) (hl : l < n)
    (h : wpList P ops Q rest (a.put o.dst (.slice (some ⟨g, l, none⟩) (n - l) (n - l))) w) : wpList P ops Q (o :: rest) a w := by
  subst hz
  refine wpList_plain hgd fun K hK => ?_
  have hn : P.arrayLen ty = n := by simp [Program.arrayLen, hu]
  have he : P.elem ty = e := by simp [Program.elem, hu]
  have hrun := run_sliceAt_array_l w ty ⟨g, 0, none⟩ (by rw [hn, he]; exact hu) .i64 (l : Int) (by omega) (by rw [hn]; omega)
  have hsz : (sizeOf e).run P w = .ok 1 w := by
    cases hq : P.info? e with
    | none => simp [hq] at hs
    | some i => simp [sizeOf, typeInfo, hq, (by simpa [hq] using hs : i.size = 1)]
  rw [hn, he, hsz] at hrun
  unfold Oper.wp
  simp only [execOp, ho, hx, hy, Option.map_none, Option.map_some, Sem.run_bind, hrun, Result.andThen_ok, Sem.run_pure, Oper.upon]
  refine hK _ _ ?_
  have e1 : slicedAt ⟨g, 0, none⟩ (l : Int).toNat n n 1 = .slice (some ⟨g, l, none⟩) (n - l) (n - l) := by
    unfold slicedAt
    rw [Int.toNat_natCast, if_neg (by omega)]
    have : (⟨g, 0, none⟩ : Addr).add (l * 1) = ⟨g, l, none⟩ := by simp [Addr.add_mid]
    rw [this]
  rw [e1]; exact h

/-- An array in memory, wherever it lies, sliced whole. -/
theorem wpList_arr_at {P : Program} {w : World} {ops : Array Oper} {rest : List Oper} {o : Oper} {a : Act} {Q : Exit → Act → World → Prop} (hgd : o.guard = none) (ty e : TypeId) (n : Nat) (x : Operand) (ho : o.op = .slice ty x none none none)
    (hu : P.underlying ty = some (.array n e)) (hs : (P.info? e).map (·.size) = some 1) {g off : Nat} (hx : a.eval x = .pointer (some ⟨g, off, none⟩))
    (h : wpList P ops Q rest (a.put o.dst (.slice (some ⟨g, off, none⟩) n n)) w) : wpList P ops Q (o :: rest) a w := by
  refine wpList_plain hgd fun K hK => ?_
  have hn : P.arrayLen ty = n := by simp [Program.arrayLen, hu]
  have he : P.elem ty = e := by simp [Program.elem, hu]
  have hrun := run_sliceAt_array_all w ty ⟨g, off, none⟩ (by rw [hn, he]; exact hu)
  have hsz : (sizeOf e).run P w = .ok 1 w := by
    cases hq : P.info? e with
    | none => simp [hq] at hs
    | some i => simp [sizeOf, typeInfo, hq, (by simpa [hq] using hs : i.size = 1)]
  rw [hn, he, hsz] at hrun
  unfold Oper.wp
  simp only [execOp, ho, hx, Option.map_none, Sem.run_bind, hrun, Result.andThen_ok, Sem.run_pure, Oper.upon]
  refine hK _ _ ?_
  have e1 : slicedAt ⟨g, off, none⟩ 0 n n 1 = .slice (some ⟨g, off, none⟩) n n := by
    unfold slicedAt
    have : (⟨g, off, none⟩ : Addr).add (0 * 1) = ⟨g, off, none⟩ := by simp [Addr.add_mid]
    rw [this]; simp
  rw [e1]; exact h
set_option maxRecDepth 100000 in
set_option maxHeartbeats 1000000 in
theorem num_arg_with {w : World} {p : Option Addr} {Post : World → Prop} (N A : Int) (hA : A < 1 ∨ 8 < A ∨ (∃ K : Nat, A = (K : Int) ∧ 1 ≤ K ∧ K ≤ 8 ∧ ¬ N / 256 ^ K = 0))
    (CP : Calls Try.prog 34 #[.pointer p, .int .i64 1, .slice none 0 0] w fun q w' => q = .returned (.tuple #[]) ∧ Post w') :
    Calls Try.prog 15 #[.pointer p, .int .u64 N, .int .i64 A] w fun q w' => q = .returned (.tuple #[]) ∧ Post w' := by
  rcases hA with hA | hA | ⟨K, rfl, h1, h8, hN⟩
  · have hA0 : A < 1 := hA
    go_enter Try.func15, Try.ntmps15
    go_wp2_with fail
    refine CP.mono ?_
    rintro q w1 ⟨rfl, hw⟩
    go_wp2
    first
      | go_end0
      | refine bodyPost_ret (results_none rfl _ _ _) rfl ?_
    exact ⟨rfl, hw⟩
  · have hA1 : ¬ A < 1 := by omega
    go_enter Try.func15, Try.ntmps15
    go_wp2_with fail
    refine CP.mono ?_
    rintro q w1 ⟨rfl, hw⟩
    go_wp2
    first
      | go_end0
      | refine bodyPost_ret (results_none rfl _ _ _) rfl ?_
    exact ⟨rfl, hw⟩
  · have hA1 : ¬ (K : Int) < 1 := by omega
    have hA8 : ¬ 8 < (K : Int) := by omega
    have hwk : wrap64 (8 * (K : Int)) = 8 * K := by unfold wrap64; omega
    have hN1 : ¬ N / 2 ^ (8 * (K : Int)).toNat = 0 := by rw [show (8 * (K : Int)).toNat = 8 * K by omega, pow_256]; exact hN
    have hN2 : ¬ N / 2 ^ (8 * K) = 0 := by rw [pow_256]; exact hN
    go_enter Try.func15, Try.ntmps15
    go_wp2_with fail
    refine CP.mono ?_
    rintro q w1 ⟨rfl, hw⟩
    go_wp2
    first
      | go_end0
      | refine bodyPost_ret (results_none rfl _ _ _) rfl ?_
    exact ⟨rfl, hw⟩

set_option maxRecDepth 100000 in
set_option maxHeartbeats 1000000 in
theorem num_fits_with {w : World} {p : Option Addr} {Post : World → Prop} (N : Int) (K : Nat) (h1 : 1 ≤ K) (h8 : K ≤ 8) (hN : N / 256 ^ K = 0)
    (CP : ∀ W, Blk W w.heap.size 70 (laidN N 8) → Below w.heap.size w W → Calls Try.prog 34 #[.pointer p, .int .i64 0, .slice (some ⟨W.heap.size, 0, none⟩) 1 1] (W.alloc (.cells #[.slice (some ⟨w.heap.size, 8 - K, none⟩) K K] 27)) fun q w' => q = .returned (.tuple #[]) ∧ Post w') :
    Calls Try.prog 15 #[.pointer p, .int .u64 N, .int .i64 (K : Int)] w fun q w' => q = .returned (.tuple #[]) ∧ Post w' := by
  have hA1 : ¬ (K : Int) < 1 := by omega
  have hA8 : ¬ 8 < (K : Int) := by omega
  have hwk : wrap64 (8 * (K : Int)) = 8 * K := by unfold wrap64; omega
  have hN1 : N / 2 ^ (8 * (K : Int)).toNat = 0 := by rw [show (8 * (K : Int)).toNat = 8 * K by omega, pow_256]; exact hN
  have hN2 : N / 2 ^ (8 * K) = 0 := by rw [pow_256]; exact hN
  obtain ⟨Q, hQ⟩ : ∃ Q, 8 - K = Q := ⟨_, rfl⟩
  have hQw : wrap64 (8 - (K : Int)) = (Q : Int) := by unfold wrap64; omega
  have hQ8 : Q < 8 := by omega
  have hQc := Lib.hid (show 8 - (K : Int) = (Q : Int) by omega)
  have hQK : Q + K = 8 := by omega
  have hKQ : 8 - Q = K := by omega
  obtain ⟨G, hG⟩ : ∃ G, w.heap.size = G := ⟨_, rfl⟩
  rw [hG, hQ] at CP
  have CPH := Lib.hid CP
  clear CP hN
  have hZZ : Zero Try.prog 70 (laidN N 0) := zero8
  have hGH := Lib.hid hG
  clear hG
  go_enter Try.func15, Try.ntmps15
  go_wp2_with (with_reducible refine wpList_alloc_blk rfl 70 rfl hZZ ?_; refine RowKit.Hid.out ?_)
  refine Lib.hid ?_
  have hb0 : Blk (w.alloc (.cells (laidN N 0).toArray 70)) G 70 (laidN N 0) := by rw [← hGH.out]; exact Blk.new w _ _
  have hB0 : Below G w (w.alloc (.cells (laidN N 0).toArray 70)) := by rw [← hGH.out]; exact below1 w _
  obtain ⟨V, hV⟩ : ∃ V, w.alloc (.cells (laidN N 0).toArray 70) = V := ⟨_, rfl⟩
  rw [hV] at hb0 hB0 ⊢
  rw [hGH.out]
  clear hV hZZ
  go_wp2_with fail
  go_loopw [23] (fun i wr => ∃ j : Nat, j ≤ 8 ∧ i = .int .i64 j ∧ Blk wr G 70 (laidN N j) ∧ Below G w wr) (fun i _ => 8 - (intOf i).toNat)
  case atStart => exact ⟨0, Nat.zero_le _, rfl, hb0, hB0⟩
  case round =>
    clear hb0 hB0
    obtain ⟨j, hj, rfl, hb, hB⟩ := hrel
    by_cases hlt : j < 8
    · have hji : (j : Int) < 8 := by omega
      have hjw : wrap64 (8 * (j : Int)) = 8 * j := by unfold wrap64; omega
      have hl := laidN_len N j (by omega)
      obtain ⟨v0, hc⟩ : ∃ v0, wr.cell? ⟨G, 7 - j, none⟩ = some v0 := ⟨_, (hb.cell (7 - j)).trans (List.getElem?_eq_getElem (by omega))⟩
      have hf := hb.frozen (7 - j)
      have hset := laidN_set N j (7 - j) (N / 2 ^ (8 * j) % 256) (by omega) (by rw [pow_256])
      have hb2 := hb.set (7 - j) (.int .u8 (N / 2 ^ (8 * j) % 256))
      rw [hset] at hb2
      have hB2 := hB.setCell (p := ⟨G, 7 - j, none⟩) (Nat.le_refl _) (.int .u8 (N / 2 ^ (8 * j) % 256))
      have hltH := Lib.hid hlt
      clear hlt hl hset hb hB
      go_wp2
      exact ⟨⟨j + 1, by have := hltH.out; omega, by congr 1, hb2, hB2⟩, by simp only [intOf]; have := hltH.out; omega⟩
    · obtain rfl : j = 8 := by omega
      have hji : ¬ ((8 : Nat) : Int) < 8 := by omega
      clear hlt hj
      go_wp2_with (refine wpList_arr_from rfl 70 5 8 Q (.tmp 6) (.tmp 37) rfl Try.underlying70 sizeU8s rfl rfl hQc.out hQ8 ?_)
      refine (CPH.out wr hb hB).mono ?_
      rintro q w1 ⟨rfl, hw⟩
      go_wp2
      first
        | go_end0
        | refine bodyPost_ret (results_none rfl _ _ _) rfl ?_
      exact ⟨rfl, hw⟩

set_option maxRecDepth 100000 in
set_option maxHeartbeats 1000000 in
theorem bytes_with {w : World} {p : Option Addr} {Post : World → Prop} (b : Option Addr) (m d : Nat)
    (CP : Calls Try.prog 34 #[.pointer p, .int .i64 0, .slice (some ⟨w.heap.size, 0, none⟩) 1 1] (w.alloc (.cells #[.slice b m d] 27)) fun q w' => q = .returned (.tuple #[]) ∧ Post w') :
    Calls Try.prog 17 #[.pointer p, .slice b m d] w fun q w' => q = .returned (.tuple #[]) ∧ Post w' := by
  go_enter Try.func17, Try.ntmps17
  go_wp2_with fail
  refine CP.mono ?_
  rintro q w1 ⟨rfl, hw⟩
  go_wp2
  first
    | go_end0
    | refine bodyPost_ret (results_none rfl _ _ _) rfl ?_
  exact ⟨rfl, hw⟩

set_option maxRecDepth 100000 in
set_option maxHeartbeats 1000000 in
theorem id_with {w : World} {p : Option Addr} {Post : World → Prop} (L : List Value)
    (CP : Calls Try.prog 34 #[.pointer p, .int .i64 0, .slice (some ⟨w.heap.size + 1, 0, none⟩) 1 1] ((w.alloc (.cells L.toArray 34)).alloc (.cells #[.slice (some ⟨w.heap.size, 0, none⟩) 32 32] 27)) fun q w' => q = .returned (.tuple #[]) ∧ Post w') :
    Calls Try.prog 16 #[.pointer p, .agg L.toArray] w fun q w' => q = .returned (.tuple #[]) ∧ Post w' := by
  go_enter Try.func16, Try.ntmps16
  go_wp2_with (refine wpList_arr rfl 34 5 32 (.tmp 3) rfl Try.underlying34 sizeU8s rfl ?_)
  refine CP.mono ?_
  rintro q w1 ⟨rfl, hw⟩
  go_wp2
  first
    | go_end0
    | refine bodyPost_ret (results_none rfl _ _ _) rfl ?_
  exact ⟨rfl, hw⟩

set_option maxRecDepth 100000 in
set_option maxHeartbeats 1000000 in
theorem hint_with {w : World} {p : Option Addr} {Post : World → Prop} (L : List Value)
    (CP : Calls Try.prog 34 #[.pointer p, .int .i64 0, .slice (some ⟨w.heap.size + 1, 0, none⟩) 1 1] ((w.alloc (.cells L.toArray 65)).alloc (.cells #[.slice (some ⟨w.heap.size, 0, none⟩) 16 16] 27)) fun q w' => q = .returned (.tuple #[]) ∧ Post w') :
    Calls Try.prog 30 #[.pointer p, .agg L.toArray] w fun q w' => q = .returned (.tuple #[]) ∧ Post w' := by
  go_enter Try.func30, Try.ntmps30
  go_wp2_with (refine wpList_arr rfl 65 5 16 (.tmp 3) rfl Try.underlying65 sizeU8s rfl ?_)
  refine CP.mono ?_
  rintro q w1 ⟨rfl, hw⟩
  go_wp2
  first
    | go_end0
    | refine bodyPost_ret (results_none rfl _ _ _) rfl ?_
  exact ⟨rfl, hw⟩

set_option maxRecDepth 100000 in
set_option maxHeartbeats 1000000 in
theorem fail_with {w : World} {p : Option Addr} {Post : World → Prop} (x : Int)
    (CP : Calls Try.prog 34 #[.pointer p, .int .i64 x, .slice none 0 0] w fun q w' => q = .returned (.tuple #[]) ∧ Post w') :
    Calls Try.prog 27 #[.pointer p, .int .i64 x] w fun q w' => q = .returned (.tuple #[]) ∧ Post w' := by
  go_enter Try.func27, Try.ntmps27
  go_wp2_with fail
  refine CP.mono ?_
  rintro q w1 ⟨rfl, hw⟩
  go_wp2
  first
    | go_end0
    | refine bodyPost_ret (results_none rfl _ _ _) rfl ?_
  exact ⟨rfl, hw⟩

/-- The ids' own bytes, each id's a part. -/
def idParts (b : Option Addr) (m : Nat) : List Value := (List.range m).map fun i => .slice (b.map fun x => ⟨x.block, x.off + i * 32, none⟩) 32 32
theorem idParts_len (b : Option Addr) (m : Nat) : (idParts b m).length = m := by simp [idParts]
theorem idParts_set (b : Nat) (off m j : Nat) (h : j < m) : (idParts (some ⟨b, off, none⟩) j ++ List.replicate (m - j) (Value.slice none 0 0)).set j (.slice (some ⟨b, off + j * 32, none⟩) 32 32) = idParts (some ⟨b, off, none⟩) (j + 1) ++ List.replicate (m - (j + 1)) (Value.slice none 0 0) := by
  rw [List.set_append_right _ _ (by rw [idParts_len]; exact Nat.le_refl _), idParts_len, Nat.sub_self, show m - j = (m - (j + 1)) + 1 by omega, List.replicate_succ, List.set_cons_zero]
  unfold idParts
  rw [List.range_succ, List.map_append, List.append_assoc]
  rfl
theorem info_sl : ∃ i, Try.prog.info? 27 = some i ∧ i.zero = some (.slice none 0 0) ∧ i.size = 1 ∧ i.bytes = 24 := by
  have h : (Try.prog.info? 27).map (fun i => (i.zero, i.size, i.bytes)) = some (some (.slice none 0 0), 1, 24) := by kernel_rfl
  cases hq : Try.prog.info? 27 with
  | none => simp [hq] at h
  | some i => rw [hq] at h; simp at h; exact ⟨i, rfl, h.1, h.2.1, h.2.2⟩

set_option maxRecDepth 100000 in
set_option maxHeartbeats 1000000 in
theorem ids_with {w : World} {p : Option Addr} {Post : World → Prop} (b : Option Addr) (m d : Nat) (hb : m = 0 ∨ ∃ lb lo, b = some ⟨lb, lo, none⟩) (hd : m ≤ d) (hm : m ≤ 4398046511104)
    (CP : ∀ W, Blk W w.heap.size 27 (idParts b m) → Below w.heap.size w W → Calls Try.prog 34 #[.pointer p, .int .i64 0, .slice (some ⟨w.heap.size, 0, none⟩) m m] W fun q w' => q = .returned (.tuple #[]) ∧ Post w') :
    Calls Try.prog 18 #[.pointer p, .slice b m d] w fun q w' => q = .returned (.tuple #[]) ∧ Post w' := by
  obtain ⟨i0, hi, hz0, hz1, hz2⟩ := info_sl
  obtain ⟨G, hG⟩ : ∃ G, w.heap.size = G := ⟨_, rfl⟩
  rw [hG] at CP
  have CPH := Lib.hid CP
  clear CP
  have hGH := Lib.hid hG
  have hmH := Lib.hid hm
  clear hG
  go_enter Try.func18, Try.ntmps18
  go_wp2_with (at_make; refine wpList_make_two rfl (.tmp 7) (.tmp 7) 71 rfl w.heap.size 27 i0 (.slice none 0 0) Try.underlying71 hi hz0 hz1 rfl rfl rfl (n := m) (C := m) rfl rfl (Nat.le_refl _) ?_ ?_ (Nat.le_refl _) ?_; (rw [hz2]; omega); (unfold maxLen; omega); intro v1 own1 hk1 g1; refine RowKit.Hid.out ?_)
  refine Lib.hid ?_
  have hB1 : Below G w v1 := (Below.refl _ _).grown g1 (by rw [hGH.out]; exact Nat.le_refl _) (by simp)
  rw [hGH.out] at hk1 ⊢
  clear own1 g1
  go_wp2_with fail
  go_loopw [11] (fun i wr => ∃ j : Nat, j ≤ m ∧ i = .int .i64 j ∧ Blk wr G 27 (idParts b j ++ List.replicate (m - j) (Value.slice none 0 0)) ∧ Below G w wr) (fun i _ => m - (intOf i).toNat)
  case atStart => exact ⟨0, Nat.zero_le _, rfl, hk1, hB1⟩
  case round =>
    clear hk1 hB1
    obtain ⟨j, hj, rfl, hk, hB⟩ := hrel
    by_cases hlt : j < m
    · have hji : (j : Int) < (m : Int) := by omega
      obtain ⟨lb, lo, rfl⟩ : ∃ lb lo, b = some ⟨lb, lo, none⟩ := by
        rcases hb with h0 | h
        · omega
        · exact h
      obtain ⟨v0, hc⟩ : ∃ v0, wr.cell? ⟨G, j, none⟩ = some v0 := ⟨_, (hk.cell j).trans (List.getElem?_eq_getElem (by rw [List.length_append, idParts_len, List.length_replicate]; omega))⟩
      have hf := hk.frozen j
      have hk2 := hk.set j (.slice (some ⟨lb, lo + j * 32, none⟩) 32 32)
      rw [idParts_set lb lo m j hlt] at hk2
      have hB2 := hB.setCell (p := ⟨G, j, none⟩) (Nat.le_refl _) (.slice (some ⟨lb, lo + j * 32, none⟩) 32 32)
      have hltH := Lib.hid hlt
      clear hlt hk hB hj
      go_wp2_with (refine wpList_arr_at rfl 34 5 32 (.tmp 18) rfl Try.underlying34 sizeU8s rfl ?_)
      exact ⟨⟨j + 1, by have := hltH.out; omega, by congr 1, hk2, hB2⟩, by simp only [intOf]; have := hltH.out; omega⟩
    · obtain rfl : j = m := by omega
      have hji : ¬ (j : Int) < (j : Int) := by omega
      rw [Nat.sub_self, List.replicate_zero, List.append_nil] at hk
      clear hlt hj
      go_wp2_with fail
      refine (CPH.out wr hk hB).mono ?_
      rintro q w1 ⟨rfl, hw⟩
      go_wp2
      first
        | go_end0
        | refine bodyPost_ret (results_none rfl _ _ _) rfl ?_
      exact ⟨rfl, hw⟩
end Go.Proofs.Ytlbhpicebefpnaa
