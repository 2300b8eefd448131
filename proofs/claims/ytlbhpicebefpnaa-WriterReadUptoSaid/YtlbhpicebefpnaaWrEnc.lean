/-
  What the law WriterRead lays, and that it is read as it was laid: the bytes of calls ('encOf'), what room does ('Laid'), what a reader tells of them ('op_reads'). No Go function is spoken of.
-/
import Derived.Test.YtlbhpicebefpnaaWrOps
import Derived.Test.YtlbhpicebefpnaaRdModel
import Derived.Test.YtlbhpicebefpnaaRdIds
namespace Go.Proofs.Ytlbhpicebefpnaa
open Go.RowKit

def encOp (o : OpV) : List Int := beL o.N 8 ++ (o.id ++ (beL o.bn 4 ++ (o.bs ++ (beL o.ln 2 ++ o.ls))))
def encOf (ops : List OpV) : List Int := (ops.map encOp).flatten
theorem enc_take (ops : List OpV) (j : Nat) (o : OpV) (h : ops[j]? = some o) : encOf (ops.take (j + 1)) = encOf (ops.take j) ++ encOp o := by
  obtain ⟨hi, he⟩ := List.getElem?_eq_some_iff.1 h
  unfold encOf
  rw [List.take_succ_eq_append_getElem hi, List.map_append, List.flatten_append, he]
  simp
theorem enc_split (ops : List OpV) (j : Nat) (o : OpV) (h : ops[j]? = some o) : ∃ T, encOf ops = encOf (ops.take j) ++ (encOp o ++ T) := by
  refine ⟨encOf (ops.drop (j + 1)), ?_⟩
  rw [← List.append_assoc, ← enc_take ops j o h]
  unfold encOf
  rw [← List.flatten_append, ← List.map_append, List.take_append_drop]
theorem encOp_len {w : World} {o : OpV} (h : o.Ok w) : (encOp o).length = 46 + o.wt := by
  have hb := h.b.len
  have hl := h.l.1
  have hi := h.il
  unfold encOp OpV.wt
  simp only [List.length_append, beL_len]
  omega
theorem enc_len {w : World} : ∀ ops : List OpV, (∀ o ∈ ops, o.Ok w) → (encOf ops).length = 46 * ops.length + wts ops
  | [], _ => rfl
  | o :: l, h => by
    have h1 := enc_len l (fun x hx => h x (List.mem_cons_of_mem _ hx))
    have h2 := encOp_len (h o (List.mem_cons_self ..))
    have h3 : wts (o :: l) = o.wt + wts l := by
      unfold wts
      rw [List.map_cons, List.foldl_cons, wts_fold]
      omega
    unfold encOf at h1 ⊢
    rw [List.map_cons, List.flatten_cons, List.length_append, h1, h2, h3, List.length_cons]
    omega
theorem encOp_range {w : World} {o : OpV} (h : o.Ok w) : ∀ x ∈ encOp o, 0 ≤ x ∧ x < 256 := by
  intro x hx
  unfold encOp at hx
  simp only [List.mem_append] at hx
  rcases hx with hx | hx | hx | hx | hx | hx
  · exact beL_range _ _ x hx
  · exact h.ir x hx
  · exact beL_range _ _ x hx
  · exact h.br x hx
  · exact beL_range _ _ x hx
  · exact h.lr x hx
theorem enc_range {w : World} {ops : List OpV} (h : ∀ o ∈ ops, o.Ok w) : ∀ x ∈ encOf ops, 0 ≤ x ∧ x < 256 := by
  intro x hx
  unfold encOf at hx
  obtain ⟨l, hl, hx⟩ := List.mem_flatten.1 hx
  obtain ⟨o, ho, rfl⟩ := List.mem_map.1 hl
  exact encOp_range (h o ho) x hx

/-- What was laid of L, where there is room for so many bytes. -/
def Laid (r : Nat) (xs : List Int) (e : Int) (L : List Int) : Prop := xs.length ≤ r ∧ ((e = 0 ∧ xs = L) ∨ (e = 3 ∧ r < L.length))
theorem Laid.step {r : Nat} {xs : List Int} {e : Int} {L : List Int} (h : Laid r xs e L) (ys : List Int) : Laid r (wrStep r xs e ys).1 (wrStep r xs e ys).2 (L ++ ys) := by
  obtain ⟨hl, ⟨h1, h2⟩ | ⟨h1, h2⟩⟩ := h
  · unfold wrStep
    rw [if_neg (by simp [h1])]
    split
    · exact ⟨hl, .inr ⟨rfl, by rw [List.length_append, ← h2]; omega⟩⟩
    · exact ⟨by simp only [List.length_append]; omega, .inl ⟨rfl, by rw [h2]⟩⟩
  · unfold wrStep
    rw [if_pos (by rw [h1]; decide)]
    exact ⟨hl, .inr ⟨h1, by rw [List.length_append]; omega⟩⟩
theorem Laid.num {r : Nat} {xs : List Int} {e : Int} {L : List Int} (h : Laid r xs e L) {N A : Int} (hf : fits N A) : Laid r (wrNum r xs e N A).1 (wrNum r xs e N A).2 (L ++ beL N A.toNat) := by
  unfold wrNum
  rw [if_pos hf]
  exact h.step _

theorem rd_step_at (P Y T : List Int) (n : Nat) (hn : Y.length = n) : rdStep (P ++ (Y ++ T)).length P.length 0 (n : Int) = (P.length + n, 0, n) := by
  unfold rdStep
  rw [if_neg (by decide), if_neg (by omega), if_neg (by simp only [List.length_append]; omega), Int.toNat_natCast]
theorem rd_bytes_at (P Y T : List Int) (n : Nat) (hn : Y.length = n) : rdBytes (P ++ (Y ++ T)) P.length 0 (n : Int) = Y := by
  unfold rdBytes
  rw [rd_step_at P Y T n hn]
  simp [← hn]
theorem rd_num_at (P T : List Int) (N : Int) (k : Nat) (hk : 1 ≤ k ∧ k ≤ 8) (h0 : 0 ≤ N) (h1 : N < 256 ^ k) : rdNum (P ++ (beL N k ++ T)) P.length 0 (k : Int) = (P.length + k, 0, N) := by
  unfold rdNum
  rw [if_neg (by omega), rd_step_at P (beL N k) T k (beL_len N k), rd_bytes_at P (beL N k) T k (beL_len N k), be_beL k N h0 h1]
theorem rd_count_at (P T : List Int) (N : Int) (k : Nat) (M : Int) (hk : 1 ≤ k ∧ k ≤ 8) (h0 : 0 ≤ N) (h1 : N < 256 ^ k) (hM : N ≤ M) : rdCount (P ++ (beL N k ++ T)) P.length 0 (k : Int) M = (P.length + k, 0, N) := by
  unfold rdCount
  rw [rd_num_at P T N k hk h0 h1]
  simp only [ne_eq, not_true_eq_false, if_false]
  rw [if_neg (by omega)]
theorem rd_ids_at (P Y T : List Int) (n : Nat) (hn : Y.length = 32 * n) : rdIds (P ++ (Y ++ T)).length P.length 0 (n : Int) = (P.length + 32 * n, 0, n) := by
  unfold rdIds
  rw [if_neg (by decide), if_neg (by omega), if_neg (by simp only [List.length_append]; omega), Int.toNat_natCast]

theorem op_reads (ops : List OpV) (j : Nat) (o : OpV) {w : World} (ho : ops[j]? = some o) (hk : o.Ok w) (hb : o.bn ≤ 5000) (hl : o.ln ≤ 5000) : ∃ p1 p2 p3 p4 p5 : Nat,
    rdNum (encOf ops) (encOf (ops.take j)).length 0 8 = (p1, 0, o.N) ∧
    (rdStep (encOf ops).length p1 0 32 = (p2, 0, 32) ∧ rdBytes (encOf ops) p1 0 32 = o.id) ∧
    rdCount (encOf ops) p2 0 4 5000 = (p3, 0, (o.bn : Int)) ∧
    (rdStep (encOf ops).length p3 0 (o.bn : Int) = (p4, 0, o.bn) ∧ rdBytes (encOf ops) p3 0 (o.bn : Int) = o.bs) ∧
    rdCount (encOf ops) p4 0 2 5000 = (p5, 0, (o.ln : Int)) ∧
    (rdIds (encOf ops).length p5 0 (o.ln : Int) = ((encOf (ops.take (j + 1))).length, 0, o.ln) ∧ ((encOf ops).drop p5).take (32 * o.ln) = o.ls) := by
  obtain ⟨T, hT⟩ := enc_split ops j o ho
  have hlen := enc_take ops j o ho
  obtain ⟨P, hP⟩ : ∃ P, encOf (ops.take j) = P := ⟨_, rfl⟩
  rw [hP] at hT hlen ⊢
  have hbl := hk.b.len
  have hll := hk.l.1
  unfold encOp at hT hlen
  simp only [List.append_assoc] at hT
  have e1 : encOf ops = (P ++ beL o.N 8) ++ (o.id ++ (beL o.bn 4 ++ (o.bs ++ (beL o.ln 2 ++ (o.ls ++ T))))) := by rw [hT]; simp only [List.append_assoc]
  have e2 : encOf ops = (P ++ beL o.N 8 ++ o.id) ++ (beL o.bn 4 ++ (o.bs ++ (beL o.ln 2 ++ (o.ls ++ T)))) := by rw [hT]; simp only [List.append_assoc]
  have e3 : encOf ops = (P ++ beL o.N 8 ++ o.id ++ beL o.bn 4) ++ (o.bs ++ (beL o.ln 2 ++ (o.ls ++ T))) := by rw [hT]; simp only [List.append_assoc]
  have e4 : encOf ops = (P ++ beL o.N 8 ++ o.id ++ beL o.bn 4 ++ o.bs) ++ (beL o.ln 2 ++ (o.ls ++ T)) := by rw [hT]; simp only [List.append_assoc]
  have e5 : encOf ops = (P ++ beL o.N 8 ++ o.id ++ beL o.bn 4 ++ o.bs ++ beL o.ln 2) ++ (o.ls ++ T) := by rw [hT]; simp only [List.append_assoc]
  have hp1 : (P ++ beL o.N 8).length = P.length + 8 := by rw [List.length_append, beL_len]
  have hp2 : (P ++ beL o.N 8 ++ o.id).length = P.length + 8 + 32 := by rw [List.length_append, hp1, hk.il]
  have hp3 : (P ++ beL o.N 8 ++ o.id ++ beL o.bn 4).length = P.length + 8 + 32 + 4 := by rw [List.length_append, hp2, beL_len]
  have hp4 : (P ++ beL o.N 8 ++ o.id ++ beL o.bn 4 ++ o.bs).length = P.length + 8 + 32 + 4 + o.bn := by rw [List.length_append, hp3, hbl]
  have hp5 : (P ++ beL o.N 8 ++ o.id ++ beL o.bn 4 ++ o.bs ++ beL o.ln 2).length = P.length + 8 + 32 + 4 + o.bn + 2 := by rw [List.length_append, hp4, beL_len]
  refine ⟨P.length + 8, P.length + 8 + 32, P.length + 8 + 32 + 4, P.length + 8 + 32 + 4 + o.bn, P.length + 8 + 32 + 4 + o.bn + 2, ?_, ⟨?_, ?_⟩, ?_, ⟨?_, ?_⟩, ?_, ⟨?_, ?_⟩⟩
  · rw [hT]; exact rd_num_at P _ o.N 8 (by decide) hk.hN.1 hk.hN.2
  · have h := rd_step_at (P ++ beL o.N 8) o.id (beL o.bn 4 ++ (o.bs ++ (beL o.ln 2 ++ (o.ls ++ T)))) 32 hk.il
    rw [← e1, hp1] at h; exact h
  · have h := rd_bytes_at (P ++ beL o.N 8) o.id (beL o.bn 4 ++ (o.bs ++ (beL o.ln 2 ++ (o.ls ++ T)))) 32 hk.il
    rw [← e1, hp1] at h; exact h
  · have h := rd_count_at (P ++ beL o.N 8 ++ o.id) (o.bs ++ (beL o.ln 2 ++ (o.ls ++ T))) (o.bn : Int) 4 5000 (by decide) (by omega) (by omega) (by omega)
    rw [← e2, hp2] at h; exact h
  · have h := rd_step_at (P ++ beL o.N 8 ++ o.id ++ beL o.bn 4) o.bs (beL o.ln 2 ++ (o.ls ++ T)) o.bn hbl
    rw [← e3, hp3] at h; exact h
  · have h := rd_bytes_at (P ++ beL o.N 8 ++ o.id ++ beL o.bn 4) o.bs (beL o.ln 2 ++ (o.ls ++ T)) o.bn hbl
    rw [← e3, hp3] at h; exact h
  · have h := rd_count_at (P ++ beL o.N 8 ++ o.id ++ beL o.bn 4 ++ o.bs) (o.ls ++ T) (o.ln : Int) 2 5000 (by decide) (by omega) (by omega) (by omega)
    rw [← e4, hp4] at h; exact h
  · have h := rd_ids_at (P ++ beL o.N 8 ++ o.id ++ beL o.bn 4 ++ o.bs ++ beL o.ln 2) o.ls T o.ln hll
    rw [← e5, hp5] at h
    rw [h, hlen]
    simp only [List.length_append, beL_len, hk.il, hbl, hll]
    congr 1
    omega
  · have h : (encOf ops).drop (P.length + 8 + 32 + 4 + o.bn + 2) = o.ls ++ T := by
      rw [e5, ← hp5, List.drop_left]
    rw [h, ← hll, List.take_left]
end Go.Proofs.Ytlbhpicebefpnaa
