/-
  Texts of stages that were proved on their own, joined: DfMem. Each begins with its own words.
-/
import Derived.Test.YtmnfagpbcllbgaaDkMath
import Derived.Test.YtmnfagpbcllbgaaAppendTx
import Derived.Test.YtmnfagpbcllbgaaRowOps

/-
  The document's disk in memory (layer 18): its steps, files and a disk as values; R: the blocks that they lie in. No Go function is spoken of. No conditions.
-/
namespace Go.Proofs.Ytmnfagpbcllbgaa
open Go.RowKit

def stC (s : StV) (a : Option Addr) (c : Nat) : List Value := match s with
  | .put xs => [.bool false, .int .i64 0, .slice a xs.length c]
  | .cut n => [.bool true, .int .i64 (n : Int), .slice none 0 0]
/-- A slice in R. -/
def InR (R : Nat → Prop) (a : Option Addr) (n : Nat) : Prop := ∀ x, a = some x → 0 < n → R x.block
def RStep (R : Nat → Prop) (w : World) (vals : List Value) (s : StV) : Prop := ∃ a c, vals = stC s a c ∧ (match s with | .put xs => Ints .u8 w a xs.length c xs ∧ InR R a xs.length | .cut _ => True)
def RSteps (R : Nat → Prop) (w : World) (a : Option Addr) (c : Nat) (S : List StV) : Prop :=
  S.length ≤ c ∧ (S.length = 0 ∨ ∃ b off, a = some ⟨b, off, none⟩ ∧ R b ∧ ∀ (i : Nat) (s : StV), S[i]? = some s → ∃ vals, w.rangeAt b (off + i * 3) vals ∧ RStep R w vals s)
def rfC (ka : Option Addr) (kn kc : Nat) (sa : Option Addr) (sn sc : Nat) : List Value := [.slice ka kn kc, .slice sa sn sc]
def RFile (R : Nat → Prop) (w : World) (cs : List Value) (v : FlV) : Prop :=
  ∃ ka kc sa sc, cs = rfC ka v.K.length kc sa v.S.length sc ∧ Ints .u8 w ka v.K.length kc v.K ∧ InR R ka v.K.length ∧ RSteps R w sa sc v.S
def ddC (c0 c1 c2 : List Value) (D : DkV) : List Value := c0 ++ (c1 ++ (c2 ++ [.int .i64 D.room, .int .i64 D.fuse, .bool D.down]))
def RDisk (R : Nat → Prop) (w : World) (cs : List Value) (D : DkV) : Prop := ∃ c0 c1 c2, cs = ddC c0 c1 c2 D ∧ RFile R w c0 D.f0 ∧ RFile R w c1 D.f1 ∧ RFile R w c2 D.f2

/-! ### What stays -/
theorem ints_inR {R : Nat → Prop} {k : IntKind} {w w' : World} {a : Option Addr} {n c : Nat} {xs : List Int} (h : Ints k w a n c xs) (hr : InR R a n) (hk : ∀ b, R b → b < w.heap.size → w'.heap[b]? = w.heap[b]?) : Ints k w' a n c xs := by
  refine ⟨h.1, h.2.1, ?_⟩
  rcases h.2.2 with h0 | ⟨b, off, ha, hc⟩
  · exact .inl h0
  · by_cases hn : n = 0
    · exact .inl hn
    · refine .inr ⟨b, off, ha, fun i hi => ?_⟩
      have h1 := hc i hi
      have h2 := hk b (hr _ ha (by omega)) (World.block_lt_of_cell? w _ h1)
      unfold World.cell? at h1 ⊢
      rw [h2]
      exact h1
theorem RStep.same {R R' : Nat → Prop} {w w' : World} {vals : List Value} {s : StV} (h : RStep R w vals s) (hk : ∀ b, R b → b < w.heap.size → w'.heap[b]? = w.heap[b]?) (hr : ∀ b, R b → R' b) : RStep R' w' vals s := by
  obtain ⟨a, c, hv, hs⟩ := h
  refine ⟨a, c, hv, ?_⟩
  cases s with
  | put xs => exact ⟨ints_inR hs.1 hs.2 hk, fun x hx hn => hr _ (hs.2 x hx hn)⟩
  | cut n => trivial
theorem RSteps.same {R R' : Nat → Prop} {w w' : World} {a : Option Addr} {c : Nat} {S : List StV} (h : RSteps R w a c S) (hk : ∀ b, R b → b < w.heap.size → w'.heap[b]? = w.heap[b]?) (hr : ∀ b, R b → R' b) : RSteps R' w' a c S := by
  refine ⟨h.1, ?_⟩
  rcases h.2 with h0 | ⟨b, off, ha, hb, hc⟩
  · exact .inl h0
  · refine .inr ⟨b, off, ha, hr b hb, fun i s hs => ?_⟩
    obtain ⟨vals, h1, h2⟩ := hc i s hs
    refine ⟨vals, fun j v hj => ?_, h2.same hk hr⟩
    have h3 := h1 j v hj
    have h4 := hk b hb (World.block_lt_of_cell? w _ h3)
    unfold World.cell? at h3 ⊢
    rw [h4]
    exact h3
theorem RFile.same {R R' : Nat → Prop} {w w' : World} {cs : List Value} {v : FlV} (h : RFile R w cs v) (hk : ∀ b, R b → b < w.heap.size → w'.heap[b]? = w.heap[b]?) (hr : ∀ b, R b → R' b) : RFile R' w' cs v := by
  obtain ⟨ka, kc, sa, sc, hc, h1, h2, h3⟩ := h
  exact ⟨ka, kc, sa, sc, hc, ints_inR h1 h2 hk, fun x hx hn => hr _ (h2 x hx hn), h3.same hk hr⟩
theorem RDisk.same {R R' : Nat → Prop} {w w' : World} {cs : List Value} {D : DkV} (h : RDisk R w cs D) (hk : ∀ b, R b → b < w.heap.size → w'.heap[b]? = w.heap[b]?) (hr : ∀ b, R b → R' b) : RDisk R' w' cs D := by
  obtain ⟨c0, c1, c2, hc, h0, h1, h2⟩ := h
  exact ⟨c0, c1, c2, hc, h0.same hk hr, h1.same hk hr, h2.same hk hr⟩
theorem RSteps.keep {R : Nat → Prop} {w w' : World} {a : Option Addr} {c : Nat} {S : List StV} (h : RSteps R w a c S) (hb : Below w.heap.size w w') : RSteps R w' a c S := h.same (fun b _ hl => hb.block b hl) (fun _ h => h)
theorem RFile.keep {R : Nat → Prop} {w w' : World} {cs : List Value} {v : FlV} (h : RFile R w cs v) (hb : Below w.heap.size w w') : RFile R w' cs v := h.same (fun b _ hl => hb.block b hl) (fun _ h => h)
theorem RDisk.keep {R : Nat → Prop} {w w' : World} {cs : List Value} {D : DkV} (h : RDisk R w cs D) (hb : Below w.heap.size w w') : RDisk R w' cs D := h.same (fun b _ hl => hb.block b hl) (fun _ h => h)
theorem RDisk.wide {R R' : Nat → Prop} {w : World} {cs : List Value} {D : DkV} (h : RDisk R w cs D) (hr : ∀ b, R b → R' b) : RDisk R' w cs D := h.same (fun _ _ _ => rfl) hr
theorem RFile.wide {R R' : Nat → Prop} {w : World} {cs : List Value} {v : FlV} (h : RFile R w cs v) (hr : ∀ b, R b → R' b) : RFile R' w cs v := h.same (fun _ _ _ => rfl) hr
theorem RSteps.get {R : Nat → Prop} {w : World} {a : Option Addr} {c : Nat} {S : List StV} (h : RSteps R w a c S) (j : Nat) (hj : j < S.length) : ∃ b off s A C, a = some ⟨b, off, none⟩ ∧ S[j]? = some s ∧ w.rangeAt b (off + j * 3) (stC s A C) ∧ RStep R w (stC s A C) s := by
  rcases h.2 with h0 | ⟨b, off, ha, hb, hc⟩
  · omega
  · obtain ⟨vals, h1, h2⟩ := hc j _ (List.getElem?_eq_getElem hj)
    obtain ⟨A, C, hv, h3⟩ := h2
    subst hv
    exact ⟨b, off, _, A, C, ha, List.getElem?_eq_getElem hj, h1, A, C, rfl, h3⟩
theorem RSteps.take {R : Nat → Prop} {w : World} {a : Option Addr} {c : Nat} {S : List StV} (h : RSteps R w a c S) (j : Nat) : RSteps R w a c (S.take j) := by
  have hl : (S.take j).length ≤ S.length := by rw [List.length_take]; omega
  refine ⟨Nat.le_trans hl h.1, ?_⟩
  rcases h.2 with h0 | ⟨b, off, ha, hb, hc⟩
  · exact .inl (by omega)
  · refine .inr ⟨b, off, ha, hb, fun i s hs => hc i s ?_⟩
    have hi := (List.getElem?_eq_some_iff.1 hs).1
    rw [List.length_take] at hi
    rw [List.getElem?_take_of_lt (by omega)] at hs
    exact hs
theorem RSteps.empty {R : Nat → Prop} {w : World} (a : Option Addr) (c : Nat) : RSteps R w a c [] := ⟨Nat.zero_le _, .inl rfl⟩
/-- A block known whole is none that holds a row of other elements. -/
theorem ne_row {w : World} {B : Nat} {e t : TypeId} {size : Nat} {v : Value} {n : Nat} {vs cs : List Value} {g : Nat} (h : w.ownsRow B e size v n vs) (hk : Blk w g t cs) (ht : t ≠ e) : some g ≠ v.ownBlock := by
  intro hg
  rcases h.2 with ⟨rfl, _⟩ | ⟨g', cap, cur, rfl, _, hb, _⟩
  · cases hg
  · injection hg with hg
    have hg' : g = g' := hg
    subst hg'
    unfold Blk at hk
    rw [hk] at hb
    injection hb with hb
    injection hb with _ hb
    exact ht hb
theorem own_stay9x {w w' : World} {b : Nat} {e : TypeId} {v : Value} {n : Nat} {xs : List Value} (h : w.ownsRow b e 1 v n xs) (hb : Below w.heap.size w w') : w'.ownsRow b e 1 v n xs := own_same h (fun q hq => hb.block q (h.lt q hq).2)
theorem rowRf : IsRow Try.prog 34 2 := by
  refine ⟨?_, by kernel_rfl⟩
  have h : (Try.prog.underlying 34).map (·.isRow) = some true := by kernel_rfl
  cases hq : Try.prog.underlying 34 with
  | none => simp [hq] at h
  | some d => rw [hq] at h; simp at h; exact ⟨d, rfl, h⟩
theorem rowRs : IsRow Try.prog 87 3 := by
  refine ⟨?_, by kernel_rfl⟩
  have h : (Try.prog.underlying 87).map (·.isRow) = some true := by kernel_rfl
  cases hq : Try.prog.underlying 87 with
  | none => simp [hq] at h
  | some d => rw [hq] at h; simp at h; exact ⟨d, rfl, h⟩
theorem rowDd : IsRow Try.prog 37 9 := by
  refine ⟨?_, by kernel_rfl⟩
  have h : (Try.prog.underlying 37).map (·.isRow) = some true := by kernel_rfl
  cases hq : Try.prog.underlying 37 with
  | none => simp [hq] at h
  | some d => rw [hq] at h; simp at h; exact ⟨d, rfl, h⟩
theorem stC_len (s : StV) (a : Option Addr) (c : Nat) : (stC s a c).length = 3 := by cases s <;> rfl
theorem stC_one (s : StV) (a : Option Addr) (c : Nat) : ∀ u ∈ stC s a c, u.oneCell' = true := by
  intro u hu
  cases s with
  | put xs =>
    simp only [stC, List.mem_cons, List.not_mem_nil, or_false] at hu
    rcases hu with rfl | rfl | rfl <;> rfl
  | cut n =>
    simp only [stC, List.mem_cons, List.not_mem_nil, or_false] at hu
    rcases hu with rfl | rfl | rfl <;> rfl

set_option maxRecDepth 100000 in
set_option maxHeartbeats 1000000 in
theorem fUnits_any {R : Nat → Prop} {w : World} {cs : List Value} {v : FlV} (h : RFile R w cs v) (hU : (unitsL v.S : Int) < 4611686018427387904) (hN : v.S.length < 4611686018427387904) :
    Calls Try.prog 28 #[.agg cs.toArray] w fun q w' => q = .returned (.int .i64 (unitsL v.S : Nat)) ∧ Below w.heap.size w w' := by
  obtain ⟨ka, kc, sa, sc, hcs, _, _, hS⟩ := h
  have hb1 := Blk.new w 34 cs
  have hB1 := below1 w (.cells cs.toArray 34)
  obtain ⟨W, hW⟩ : ∃ W, w.alloc (.cells cs.toArray 34) = W := ⟨_, rfl⟩
  rw [hW] at hb1 hB1
  obtain ⟨G, hG⟩ : ∃ G, w.heap.size = G := ⟨_, rfl⟩
  rw [hG] at hb1
  have e1 := hb1.cell 1
  rw [hcs] at e1
  have e1' : W.cell? ⟨G, 1, none⟩ = some (.slice sa v.S.length sc) := e1
  have hSW := hS.keep hB1
  obtain ⟨N, hNN⟩ : ∃ N, v.S.length = N := ⟨_, rfl⟩
  rw [hNN] at e1' hN
  have hNH := Lib.hid hNN
  have hGH := Lib.hid hG
  have hUH := Lib.hid hU
  clear e1 hcs hNN hb1 hU
  go_enter Try.func28, Try.ntmps28
  go_wp2_with ((with_reducible refine box_row rfl 34 (.tmp 0) rfl cs rfl ?_); refine RowKit.Hid.out ?_)
  refine Lib.hid ?_
  (try rw [hW])
  (try rw [hG])
  clear hW hG
  go_wp2_with fail
  go_loopw [3, 4] (fun n i wr => ∃ j : Nat, j ≤ N ∧ i = .int .i64 j ∧ n = .int .i64 ((unitsL (v.S.take j) : Nat) : Int) ∧ wr = W) (fun _ i _ => N - (intOf i).toNat)
  case atStart => exact ⟨0, Nat.zero_le _, rfl, rfl, rfl⟩
  case round =>
    obtain ⟨j, hj, rfl, rfl, hwr⟩ := hrel
    subst hwr
    by_cases hlt : j < N
    · have hji : (j : Int) < (N : Int) := by omega
      obtain ⟨b, off, s, A, C, rfl, hSj, hr, _⟩ := hSW.get j (by rw [hNH.out]; exact hlt)
      have hun := unitsL_take v.S j s hSj
      have hul := unitsL_take_le v.S (j + 1)
      have d0 := hr 0
      have d2 := hr 2
      obtain ⟨U, hU⟩ : ∃ U, unitsL (v.S.take j) = U := ⟨_, rfl⟩
      rw [hU] at hun ⊢
      have hunH := Lib.hid hun
      have hltH := Lib.hid hlt
      have hwj : wrap64 ((j : Int) + 1) = (j : Int) + 1 := by unfold wrap64; omega
      cases s with
      | put xs =>
        have d0' : wr.cell? ⟨b, off + j * 3, none⟩ = some (.bool false) := d0 _ rfl
        have d2' : wr.cell? ⟨b, off + j * 3 + 2, none⟩ = some (.slice A xs.length C) := d2 _ rfl
        have hwu : wrap64 ((U : Int) + (xs.length : Int)) = (U : Int) + (xs.length : Int) := by
          have := hUH.out
          have h9 : (StV.put xs).units = xs.length := rfl
          unfold wrap64; omega
        clear hr d0 d2 hun hul hU hlt hj hSj
        go_wp2
        exact ⟨⟨j + 1, by have := hltH.out; omega, by congr 1, by have := hunH.out; rw [this, hwu]; rfl, by trivial⟩, by simp only [intOf]; have := hltH.out; omega⟩
      | cut k =>
        have d0' : wr.cell? ⟨b, off + j * 3, none⟩ = some (.bool true) := d0 _ rfl
        have hwu : wrap64 ((U : Int) + 1) = (U : Int) + 1 := by
          have := hUH.out
          have h9 : (StV.cut k).units = 1 := rfl
          unfold wrap64; omega
        clear hr d0 d2 hun hul hU hlt hj hSj
        go_wp2
        exact ⟨⟨j + 1, by have := hltH.out; omega, by congr 1, by have := hunH.out; rw [this, hwu]; rfl, by trivial⟩, by simp only [intOf]; have := hltH.out; omega⟩
    · obtain rfl : j = N := by omega
      have hji : ¬ (j : Int) < (j : Int) := by omega
      rw [List.take_of_length_le (by rw [hNH.out]; exact Nat.le_refl _)]
      clear hlt hj
      go_wp2
      go_ret
      exact ⟨rfl, hB1⟩
end Go.Proofs.Ytmnfagpbcllbgaa
