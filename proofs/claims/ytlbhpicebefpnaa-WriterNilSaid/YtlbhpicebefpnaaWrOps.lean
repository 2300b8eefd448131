/-
  The calls that the laws of layer 10 are handed, in memory ('OpV', 'OpsAt'), and whether they are too many ('small'). New memory alone is written. Conditions: their bytes together are no more than a million.
-/
import Derived.Test.YtlbhpicebefpnaaRwIds
namespace Go.Proofs.Ytlbhpicebefpnaa
open Go.RowKit

/-- One call: its kind, its numbers, its bytes, its id, its ids. -/
structure OpV where
  k : Int
  A : Int
  N : Int
  ba : Option Addr
  bn : Nat
  bc : Nat
  bs : List Int
  id : List Int
  la : Option Addr
  ln : Nat
  lc : Nat
  ls : List Int
def OpV.cells (o : OpV) : List Value := [.int .i64 o.k, .int .i64 o.A, .int .u64 o.N, .slice o.ba o.bn o.bc] ++ (o.id.map (Value.int .u8) ++ [.slice o.la o.ln o.lc])
structure OpV.Ok (w : World) (o : OpV) : Prop where
  b : Ints .u8 w o.ba o.bn o.bc o.bs
  br : ∀ x ∈ o.bs, 0 ≤ x ∧ x < 256
  il : o.id.length = 32
  ir : ∀ x ∈ o.id, 0 ≤ x ∧ x < 256
  l : IdsAt w o.la o.ln o.lc o.ls
  lr : ∀ x ∈ o.ls, 0 ≤ x ∧ x < 256
  hA : -9223372036854775808 ≤ o.A ∧ o.A < 9223372036854775808
  hN : 0 ≤ o.N ∧ o.N < 18446744073709551616
theorem OpV.Ok.keep {w w' : World} {o : OpV} (h : o.Ok w) (hb : Below w.heap.size w w') : o.Ok w' := ⟨h.b.keep hb, h.br, h.il, h.ir, h.l.keep hb, h.lr, h.hA, h.hN⟩
theorem OpV.len {o : OpV} (h : o.id.length = 32) : o.cells.length = 37 := by simp [OpV.cells, h]
theorem OpV.at0 (o : OpV) : o.cells[0]? = some (.int .i64 o.k) := rfl
theorem OpV.at1 (o : OpV) : o.cells[1]? = some (.int .i64 o.A) := rfl
theorem OpV.at2 (o : OpV) : o.cells[2]? = some (.int .u64 o.N) := rfl
theorem OpV.at3 (o : OpV) : o.cells[3]? = some (.slice o.ba o.bn o.bc) := rfl
theorem OpV.at36 {o : OpV} (h : o.id.length = 32) : o.cells[36]? = some (.slice o.la o.ln o.lc) := by
  unfold OpV.cells
  rw [List.getElem?_append_right (by simp), List.getElem?_append_right (by simp [h])]
  simp [h]
theorem OpV.one (o : OpV) : ∀ v ∈ o.cells, v.oneCell' = true := by
  intro v hv
  unfold OpV.cells at hv
  simp only [List.mem_append, List.mem_cons, List.not_mem_nil, or_false, List.mem_map] at hv
  rcases hv with (rfl | rfl | rfl | rfl) | (⟨x, _, rfl⟩ | rfl) <;> rfl
def OpsAt (w : World) (a : Option Addr) (m k : Nat) (ops : List OpV) : Prop :=
  ops.length = m ∧ m ≤ k ∧ (m = 0 ∨ ∃ b off, a = some ⟨b, off, none⟩ ∧ ∀ i o, ops[i]? = some o → w.rangeAt b (off + i * 37) o.cells) ∧ ∀ o ∈ ops, o.Ok w
theorem OpsAt.keep {w w' : World} {a : Option Addr} {m k : Nat} {ops : List OpV} (h : OpsAt w a m k ops) (hb : Below w.heap.size w w') : OpsAt w' a m k ops := by
  refine ⟨h.1, h.2.1, ?_, fun o ho => (h.2.2.2 o ho).keep hb⟩
  rcases h.2.2.1 with h0 | ⟨b, off, ha, hc⟩
  · exact .inl h0
  · exact .inr ⟨b, off, ha, fun i o hi j v hj => by
      have h1 := hc i o hi j v hj
      rw [hb.cell (World.block_lt_of_cell? w _ h1)]
      exact h1⟩
theorem OpsAt.get {w : World} {a : Option Addr} {m k : Nat} {ops : List OpV} (h : OpsAt w a m k ops) (i : Nat) (hi : i < m) : ∃ b off o, a = some ⟨b, off, none⟩ ∧ ops[i]? = some o ∧ w.rangeAt b (off + i * 37) o.cells ∧ o.Ok w := by
  obtain ⟨o, ho⟩ : ∃ o, ops[i]? = some o := ⟨ops[i]'(by rw [h.1]; exact hi), List.getElem?_eq_getElem (by rw [h.1]; exact hi)⟩
  rcases h.2.2.1 with h0 | ⟨b, off, ha, hc⟩
  · omega
  · exact ⟨b, off, o, ha, ho, hc i o ho, h.2.2.2 o (List.mem_of_getElem? ho)⟩

/-- How many bytes and ids' bytes a call has, and calls have. -/
def OpV.wt (o : OpV) : Nat := o.bn + 32 * o.ln
def wts (ops : List OpV) : Nat := (ops.map OpV.wt).foldl (· + ·) 0
theorem wts_take (ops : List OpV) (i : Nat) (o : OpV) (h : ops[i]? = some o) : wts (ops.take (i + 1)) = wts (ops.take i) + o.wt := by
  obtain ⟨hi, he⟩ := List.getElem?_eq_some_iff.1 h
  unfold wts
  rw [List.take_succ_eq_append_getElem hi, List.map_append, List.foldl_append, he]
  rfl
theorem wts_fold (l : List Nat) (z : Nat) : l.foldl (· + ·) z = z + l.foldl (· + ·) 0 := by
  induction l generalizing z with
  | nil => simp
  | cons x l ih => rw [List.foldl_cons, List.foldl_cons, ih, ih (0 + x)]; omega
theorem wts_le (ops : List OpV) (i : Nat) : wts (ops.take i) ≤ wts ops := by
  have h : wts ops = wts (ops.take i) + wts (ops.drop i) := by
    unfold wts
    conv => lhs; rw [← List.take_append_drop i ops, List.map_append, List.foldl_append, wts_fold]
  omega
theorem wt_le {ops : List OpV} {i : Nat} {o : OpV} (h : ops[i]? = some o) : wts (ops.take i) + o.wt ≤ wts ops := by
  rw [← wts_take ops i o h]
  exact wts_le ops (i + 1)

theorem sizeOp : (Try.prog.info? 37).map (·.size) = some 37 := by kernel_rfl
theorem rowOp : IsRow Try.prog 37 37 := IsRow.struct Try.underlying37 sizeOp
theorem zeroOp : ∃ ZL : List Value, Zero Try.prog 37 ZL ∧ ZL.length = 37 := ⟨[.int .i64 0, .int .i64 0, .int .u64 0, .slice none 0 0] ++ (List.replicate 32 (Value.int .u8 0) ++ [.slice none 0 0]), by unfold Zero; kernel_rfl, by simp⟩

set_option maxRecDepth 100000 in
set_option maxHeartbeats 1000000 in
theorem small_any (a : Option Addr) (m k : Nat) (ops : List OpV) (w : World) (hO : OpsAt w a m k ops) (hm : m + wts ops ≤ 100000000) :
    Calls Try.prog 6 #[.slice a m k] w fun q w' => q = .returned (.bool (decide ((m : Int) + (wts ops : Int) ≤ 5000))) ∧ Below w.heap.size w w' := by
  obtain ⟨ZL, hZZ, hZl⟩ := zeroOp
  have hmH := Lib.hid hm
  have hOH := Lib.hid hO
  clear hm hO
  go_enter Try.func6, Try.ntmps6
  go_wp2_with fail
  go_loopw [3, 10] (fun v i wr => ∃ j : Nat, j ≤ m ∧ i = .int .i64 j ∧ v = .int .i64 ((m + wts (ops.take j) : Nat) : Int) ∧ Below w.heap.size w wr) (fun _ i _ => m - (intOf i).toNat)
  case atStart => exact ⟨0, Nat.zero_le _, rfl, rfl, Below.refl _ _⟩
  case round =>
    obtain ⟨j, hj, rfl, rfl, hB⟩ := hrel
    by_cases hlt : j < m
    · have hji : (j : Int) < (m : Int) := by omega
      obtain ⟨b, off, o, rfl, ho, hr, hk⟩ := (hOH.out.keep hB).get j hlt
      have hstep := Lib.hid (wts_take ops j o ho)
      have hle := wt_le ho
      have hol := OpV.len hk.il
      have hIr : IsRow Try.prog 37 o.cells.length := by rw [hol]; exact rowOp
      obtain ⟨C, hC⟩ : ∃ C, o.cells = C := ⟨_, rfl⟩
      have h3 : C[3]? = some (.slice o.ba o.bn o.bc) := by rw [← hC]; exact o.at3
      have h36 : C[36]? = some (.slice o.la o.ln o.lc) := by rw [← hC]; exact OpV.at36 hk.il
      have hone := Lib.hid (o.one)
      rw [hC] at hr hIr hol hone
      obtain ⟨T, hT⟩ : ∃ T, m + wts (ops.take j) = T := ⟨_, rfl⟩
      obtain ⟨nb, hnb⟩ : ∃ nb, o.bn = nb := ⟨_, rfl⟩
      obtain ⟨nl, hnl⟩ : ∃ nl, o.ln = nl := ⟨_, rfl⟩
      rw [hnb] at h3
      rw [hnl] at h36
      have hwt : o.wt = nb + 32 * nl := by unfold OpV.wt; rw [hnb, hnl]
      have hsum : T + nb + 32 * nl ≤ 100000000 := by have := hmH.out; omega
      have hltH := Lib.hid hlt
      have hTH := Lib.hid hT
      have hwH := Lib.hid hwt
      rw [hT]
      have hnew := Blk.new wr 37 ZL
      have hB1 := hB.alloc hB.size (.cells ZL.toArray 37)
      clear hT hnb hnl hwt hlt hj hle hC ho hk
      go_wp2_with (first
        | ((with_reducible refine wpList_load_part rfl 37 (.tmp 12) rfl ?_ C hr hIr ?_); rfl)
        | (with_reducible refine wpList_alloc_blk rfl 37 rfl hZZ ?_)
        | (refine wpList_store_part (cs := C) rfl 37 (.tmp 5) (.tmp 13) rfl rfl rfl hnew hIr ?_ hone.out ?_
           (rw [hol, hZl]; decide)
           intro w5 hk5 hg5
           refine RowKit.Hid.out ?_))
      refine Lib.hid ?_
      rw [overV_all _ _ (by rw [hol, hZl])] at hk5
      have hB5 := hB1.trans (below_of_grown hg5 hB.size (by rw [size1]; omega))
      have c3 : w5.cell? ⟨wr.heap.size, 3, none⟩ = some (.slice o.ba nb o.bc) := (hk5.cell 3).trans h3
      have c36 : w5.cell? ⟨wr.heap.size, 36, none⟩ = some (.slice o.la nl o.lc) := (hk5.cell 36).trans h36
      clear hk5 hg5 hB1 hnew hr hB
      have hnm : (m : Int) ≤ 100000000 := by have := hmH.out; omega
      have hsi : (T : Int) + (nb : Int) + 32 * (nl : Int) ≤ 100000000 := by omega
      clear hsum
      go_wp2
      refine ⟨⟨j + 1, by have := hltH.out; omega, by congr 1, ?_, hB5⟩, by simp only [intOf]; have := hltH.out; omega⟩
      congr 1
      have h1 := hstep.out
      have h2 := hwH.out
      have h3 := hTH.out
      omega
    · obtain rfl : j = m := by omega
      have hji : ¬ (j : Int) < (j : Int) := by omega
      rw [List.take_of_length_le (by rw [hOH.out.1]; exact Nat.le_refl _)]
      obtain ⟨T, hT⟩ : ∃ T : Nat, j + wts ops = T := ⟨_, rfl⟩
      have hTi := Lib.hid (show ((j : Int) + (wts ops : Int)) = (T : Int) by omega)
      rw [hT]
      clear hT hlt hj
      go_wp2
      go_ret
      exact ⟨by rw [hTi.out]; rfl, hB⟩
end Go.Proofs.Ytlbhpicebefpnaa
