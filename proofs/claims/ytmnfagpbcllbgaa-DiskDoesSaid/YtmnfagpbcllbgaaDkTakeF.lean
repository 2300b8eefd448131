/-
  What becomes of a file by a step more: a lemma on memory behind the walk. No Go function is spoken of. No conditions.
-/
import Derived.Test.YtmnfagpbcllbgaaDkSets
namespace Go.Proofs.Ytmnfagpbcllbgaa
open Go.RowKit

/-- Only blocks of F, and new ones, were written: from one block's row. -/
theorem moved_row {F : Nat → Prop} {w w' : World} {r : Option Nat} (h : w.grownBy w' r) (hF : ∀ b, r = some b → F b) : Moved F w w' :=
  ⟨⟨h.os, h.tape, h.output, h.size, fun _ h => absurd h (Nat.not_lt_zero _)⟩, fun b hb hn => h.block b hb (fun e => hn (hF b e.symm))⟩
theorem Moved.wide {F G : Nat → Prop} {w w' : World} (h : Moved F w w') (hG : ∀ b, b < w.heap.size → F b → G b) : Moved G w w' := ⟨h.1, fun b hb hn => h.2 b hb (fun hf => hn (hG b hb hf))⟩
/-- Behind a first step, where new blocks may have come. -/
theorem Moved.next {F : Nat → Prop} {w w1 w2 : World} (m1 : Moved F w w1) (m2 : Moved (fun b => F b ∨ w.heap.size ≤ b) w1 w2) : Moved F w w2 :=
  ⟨m1.1.trans m2.1, fun b hb hf => (m2.2 b (Nat.lt_of_lt_of_le hb m1.size) (fun h => h.elim hf (fun h => by omega))).trans (m1.2 b hb hf)⟩
theorem take_fin {L : Nat → Nat} {P : Nat → Prop} {w0 w1 w2 w4 w5 w7 : World} {i g : Nat} {x : FaV} {v : FlV} {s : StV} {sv v5 : Value} {vs : List Value} {a2 : Option Addr} {c2 M n : Nat} (hl : LabAt L P w0) (hg1 : L g = 1) (hx : FlAt L P w0 i x v) (hst : StAt P w0 sv s) (hvs : StsAt P w0 vs v.S) (hM : v.S.length = M)
    (hB1 : Below w0.heap.size w0 w1) (own2 : w2.ownsRow 0 76 1 (.slice a2 (M + 1) c2) (M + 1) (vs ++ [sv])) (g2 : w1.grownBy w2 (Value.slice x.sa M x.sc).ownBlock) (hat2 : (Value.slice a2 (M + 1) c2).ownBlock = (Value.slice x.sa M x.sc).ownBlock ∨ (Value.slice a2 (M + 1) c2).ownBlock = some w1.heap.size)
    (g4 : w2.grownBy w4 (some g)) (hbc : Became 0 w4 x.ha n x.hc w5 v5 (v.step s).held) (g7 : w5.grownBy w7 (some g)) :
    ∃ y L', fC y (v.step s) = [.slice x.ka v.K.length x.kc, .slice a2 (M + 1) c2, v5, .int .i64 ((v.step s).need : Nat), .int .i64 ((v.step s).units : Nat)] ∧ FlAt L' P w7 i y (v.step s) ∧ WentF i L P w0 L' P w7 := by
  obtain ⟨a5, c5, rfl, own5, hat5⟩ := hbc.is
  have hgr5 := hbc.gr
  have hgl : g < w0.heap.size := hl.l g (by omega)
  have hs1 := hB1.size
  have hs2 := g2.size
  have hs4 := g4.size
  have hs5 := hgr5.size
  have hs7 := g7.size
  have hSb : ∀ b, (Value.slice x.sa M x.sc).ownBlock = some b → L b = 3 + 2 * i ∧ b < w0.heap.size := fun b hb => by
    obtain ⟨z, hz, hzb⟩ := slice_block hb
    have h1 := hx.s.l z hz
    rw [hzb] at h1
    exact ⟨h1, hl.l b (by omega)⟩
  have hHb : ∀ b, (Value.slice x.ha n x.hc).ownBlock = some b → L b = 2 + 2 * i ∧ b < w0.heap.size := fun b hb => by
    obtain ⟨z, hz, hzb⟩ := slice_block hb
    have h1 := hx.h.l z hz
    rw [hzb] at h1
    exact ⟨h1, hl.l b (by omega)⟩
  have k2 : ∀ b, b < w0.heap.size → L b ≠ 3 + 2 * i → w2.heap[b]? = w0.heap[b]? := fun b hb hn => by
    rw [g2.block b (by omega) (fun e => hn (hSb b e.symm).1), hB1.block b hb]
  have k4 : ∀ b, b < w2.heap.size → b ≠ g → w4.heap[b]? = w2.heap[b]? := fun b hb hn => g4.block b hb (fun e => by injection e with e; exact hn e)
  have k5 : ∀ b, b < w4.heap.size → L b ≠ 2 + 2 * i → w5.heap[b]? = w4.heap[b]? := fun b hb hn => hgr5.block b hb (fun e => hn (hHb b e.symm).1)
  have k7 : ∀ b, b < w5.heap.size → b ≠ g → w7.heap[b]? = w5.heap[b]? := fun b hb hn => g7.block b hb (fun e => by injection e with e; exact hn e)
  have h2 : ∀ z, a2 = some z → z.block < w2.heap.size ∧ ((z.block < w0.heap.size ∧ L z.block = 3 + 2 * i) ∨ (w0.heap.size ≤ z.block)) := fun z hz => by
    have e : (Value.slice a2 (M + 1) c2).ownBlock = some z.block := by rw [hz]; rfl
    refine ⟨(own2.lt z.block e).2, ?_⟩
    rcases hat2 with h | h
    · rw [e] at h
      have := hSb z.block h.symm
      exact .inl ⟨this.2, this.1⟩
    · rw [e] at h
      injection h with h
      exact .inr (by omega)
  have h5 : ∀ z, a5 = some z → z.block < w5.heap.size ∧ ((z.block < w0.heap.size ∧ L z.block = 2 + 2 * i) ∨ (w4.heap.size ≤ z.block)) := fun z hz => by
    refine ⟨(own5.lt z.block (by rw [hz]; rfl)).2, ?_⟩
    rcases hat5 z hz with ⟨y, hy, hyb⟩ | h
    · have h1 := hx.h.l y hy
      rw [hyb] at h1
      exact .inl ⟨hl.l _ (by omega), h1⟩
    · exact .inr (by omega)
  have hL0 : ∀ b, w0.heap.size ≤ b → L b = 0 := fun b hb => by
    by_cases h0 : L b = 0
    · exact h0
    · have := hl.l b h0; omega
  have hLL : ∀ b, b < w0.heap.size → lab1 (lab1 L a2 (3 + 2 * i)) a5 (2 + 2 * i) b = L b := fun b hb => by
    rcases lab1_or (lab1 L a2 (3 + 2 * i)) (a := a5) (2 + 2 * i) b with ⟨z, hz, hzb⟩ | he
    · rw [← hzb, lab1_at _ _ hz]
      have := h5 z hz
      rcases this.2 with h | h
      · exact h.2.symm
      · omega
    · rw [he]
      rcases lab1_or L (a := a2) (3 + 2 * i) b with ⟨z, hz, hzb⟩ | he
      · rw [← hzb, lab1_at _ _ hz]
        have := h2 z hz
        rcases this.2 with h | h
        · exact h.2.symm
        · omega
      · exact he
  have hPk : ∀ b, P b → w7.heap[b]? = w0.heap[b]? := fun b hb => by
    have := hl.p b hb
    have hbg : b ≠ g := fun e => by rw [e] at this; omega
    rw [k7 b (by omega) hbg, k5 b (by omega) (by omega), k4 b (by omega) hbg, k2 b (by omega) (by omega)]
  refine ⟨⟨x.ka, x.kc, a2, c2, a5, c5⟩, lab1 (lab1 L a2 (3 + 2 * i)) a5 (2 + 2 * i), ?_, ⟨hx.k.same hPk (fun _ h => h), ⟨⟨vs ++ [sv], ?_, (hvs.snoc hst).same hPk (fun _ h => h)⟩, ?_⟩, ⟨?_, fun z hz => lab1_at _ _ hz⟩⟩, ⟨⟨⟨?_, ?_, ?_, by omega, fun _ h => absurd h (Nat.not_lt_zero _)⟩, ?_⟩, hLL, fun _ h => h, fun _ h => .inl h, ?_, ?_⟩⟩
  · have hlen : (v.step s).S.length = M + 1 := by show (v.S ++ [s]).length = _; rw [List.length_append, hM]; rfl
    show [Value.slice x.ka v.K.length x.kc, .slice a2 (v.step s).S.length c2, .slice a5 (v.step s).held.length c5, _, _] = _
    rw [hlen]
  · have hlen : (v.step s).S.length = M + 1 := by show (v.S ++ [s]).length = _; rw [List.length_append, hM]; rfl
    show w7.ownsRow 0 _ 1 (.slice a2 (v.step s).S.length c2) (v.step s).S.length (vs ++ [sv])
    rw [hlen]
    refine own_same own2 (fun b hb => ?_)
    obtain ⟨z, hz, hzb⟩ := slice_block hb
    have := h2 z hz
    rw [hzb] at this
    have hbg : b ≠ g := fun e => by subst e; rcases this.2 with h | h <;> omega
    have hb2 : L b ≠ 2 + 2 * i := by
      rcases this.2 with h | h
      · omega
      · rw [hL0 b h]; omega
    rw [k7 b (by omega) hbg, k5 b (by omega) hb2, k4 b (by omega) hbg]
  · intro z hz
    rw [lab1_ne _ _ _ (fun y hy e => ?_), lab1_at _ _ hz]
    have q2 := h2 z hz
    have q5 := h5 y hy
    rw [e] at q5
    rcases q2.2 with p2 | p2 <;> rcases q5.2 with p5 | p5 <;> omega
  · refine own_same own5 (fun b hb => ?_)
    obtain ⟨z, hz, hzb⟩ := slice_block hb
    have := h5 z hz
    rw [hzb] at this
    exact k7 b this.1 (fun e => by subst e; rcases this.2 with h | h <;> omega)
  · exact g7.os.trans (hgr5.os.trans (g4.os.trans (g2.os.trans hB1.os)))
  · exact g7.tape.trans (hgr5.tape.trans (g4.tape.trans (g2.tape.trans hB1.tape)))
  · exact g7.output.trans (hgr5.output.trans (g4.output.trans (g2.output.trans hB1.output)))
  · intro b hb hn
    have hn1 : L b ≠ 1 := fun e => hn (.inl e)
    have hn2 : L b ≠ 2 + 2 * i := fun e => hn (.inr (.inl e))
    have hn3 : L b ≠ 3 + 2 * i := fun e => hn (.inr (.inr e))
    have hbg : b ≠ g := fun e => hn1 (e ▸ hg1)
    rw [k7 b (by omega) hbg, k5 b (by omega) hn2, k4 b (by omega) hbg, k2 b hb hn3]
  · intro b hb
    rcases lab1_or (lab1 L a2 (3 + 2 * i)) (a := a5) (2 + 2 * i) b with ⟨z, hz, hzb⟩ | he
    · have := (h5 z hz).1; omega
    · rw [he] at hb
      rcases lab1_or L (a := a2) (3 + 2 * i) b with ⟨z, hz, hzb⟩ | he
      · have := (h2 z hz).1; omega
      · rw [he] at hb
        have := hl.l b hb; omega
  · intro b hb
    have := hl.p b hb
    exact ⟨by omega, by rw [hLL b this.1]; exact this.2⟩
end Go.Proofs.Ytmnfagpbcllbgaa
