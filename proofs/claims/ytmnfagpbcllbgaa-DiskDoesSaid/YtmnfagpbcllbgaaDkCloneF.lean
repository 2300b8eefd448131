/-
  slices.Clone of steps; what becomes of a disk's clone, file by file: a lemma on memory behind the walk. New memory alone is written. Conditions: at most 2^42 steps.
-/
import Derived.Test.YtmnfagpbcllbgaaDkCrash
namespace Go.Proofs.Ytmnfagpbcllbgaa
open Go.RowKit

theorem pNoneS (cap : Nat) (w : World) : Sem.run Try.prog (binOp BinOp.eql 55 (.slice none 0 cap) (.slice none 0 0)) w = .ok (.bool true) w := by kernel_rfl
theorem pSomeS (x : Addr) (n cap : Nat) (w : World) : Sem.run Try.prog (binOp BinOp.eql 55 (.slice (some x) n cap) (.slice none 0 0)) w = .ok (.bool false) w := by kernel_rfl
theorem StsAt.one {P : Nat → Prop} {w : World} {vs : List Value} {S : List StV} (h : StsAt P w vs S) : ∀ v ∈ vs, v.oneCell' = true := by
  intro v hv
  obtain ⟨i, hi, rfl⟩ := List.getElem_of_mem hv
  obtain ⟨u, h1, h2⟩ := h.2 i _ (List.getElem?_eq_getElem (by rw [← h.1]; exact hi))
  rw [List.getElem?_eq_getElem hi] at h1
  injection h1 with h1
  rw [h1]
  exact h2.one

set_option maxRecDepth 100000 in
set_option maxHeartbeats 800000 in
theorem dCloneS_any {P : Nat → Prop} {w w0 : World} {B : Nat} {a : Option Addr} {n c : Nat} {vs : List Value} {S : List StV} (h : w.ownsRow B 76 1 (.slice a n c) n vs) (hs : StsAt P w0 vs S) (hn : n ≤ 4398046511104) :
    Calls Try.prog 35 #[.slice a n c] w fun q w' => ∃ b d, q = .returned (.slice b n d) ∧ w'.ownsRow w.heap.size 76 1 (.slice b n d) n vs ∧ Below w.heap.size w w' := by
  obtain ⟨i7, hi7, hz0, hz1, hz2⟩ := info_stp
  have hone := hs.one
  have hnH := Lib.hid hn
  clear hn hs
  go_enter Try.func35, Try.ntmps35
  rcases h.2 with ⟨hv, h0⟩ | ⟨g, cap, cur, hv, hbg, hg, hnc, hcm, hcs, ht⟩
  · injection hv with h1 h2 h3
    subst h1; subst h0; subst h3
    have hvs : vs = [] := List.eq_nil_of_length_eq_zero (by simpa using h.1)
    subst hvs
    have heq := pNoneS 0
    clear h
    go_wp2
    go_ret
    exact ⟨none, 0, rfl, World.ownsRow_nil _ _ _ _, Below.refl _ _⟩
  · injection hv with h1 h2 h3
    subst h1; subst h3
    have q3 : Below w.heap.size w (w.alloc (.cells #[] 76)) := below1 _ _
    have heq := pSomeS ⟨g, 0, none⟩ n c
    have hl : vs.length = n := by have := h.1; simpa using this
    have hnews : ∀ j u, vs[j]? = some u → (w.alloc (.cells #[] 76)).cell? ((⟨g, 0, none⟩ : Addr).add j) = some u := fun j u hu => by
      have hj : j < n := by have := (List.getElem?_eq_some_iff.1 hu).1; omega
      have hc := h.cellAt j (by omega)
      rw [hu] at hc
      have ha : ((⟨g, 0, none⟩ : Addr).add j) = ⟨g, j, none⟩ := by
        unfold Addr.add
        simp
        omega
      rw [ha, q3.cell (World.block_lt_of_cell? w _ hc)]
      exact hc
    have hl1 : vs.length = n * 1 := by omega
    clear h ht hcs hcm hnc hbg hg hl
    go_wp2_with (at_builtin
                 refine wpList_append_own_at _ rfl (.tmp 5) (.tmp 6) 55 rfl w.heap.size 76 i7 .nilIface 1 16 Try.underlying55 hi7 hz0 hz1 hz2 rfl (by decide) _ 0 [] rfl (World.ownsRow_made w #[] 0 (Nat.le_refl _) (Nat.zero_le _) rfl) ⟨g, 0, none⟩ n c vs rfl hl1 hnews hone ?_ ?_ q3.size ?_
                 (have := hnH.out; unfold maxLen; omega)
                 (have := hnH.out; omega)
                 intro v4 w4 hown4 hg4 _ _
                 refine RowKit.Hid.out ?_)
    refine Lib.hid ?_
    rw [List.nil_append, Nat.zero_add] at hown4
    have hex : ∃ b d, v4 = .slice b n d := own_slice hown4
    obtain ⟨b, d, hv4⟩ := hex
    rw [hv4] at hown4 ⊢
    have hB : Below w.heap.size w w4 := q3.grown hg4 q3.size (fun q hq => by injection hq with hq; rw [← hq]; exact Nat.le_refl _)
    go_wp2
    go_ret
    exact ⟨b, d, rfl, hown4, hB⟩

/-- A clone of which the first j files are its own. -/
structure ClSt (P : Nat → Prop) (w : World) (D : DkV) (x : Nat → FaV) (gc j : Nat) (wr : World) (y : Nat → FaV) (Lr : Nat → Nat) (Pr : Nat → Prop) : Prop where
  b : Blk wr gc 60 (dC D (y 0) (y 1) (y 2))
  g : Lr gc = 1
  lab : LabAt Lr Pr wr
  own : ∀ i, i < j → FlAt Lr Pr wr i (y i) (D.f i)
  rest : ∀ i, j ≤ i → y i = x i
  bel : Below w.heap.size w wr
  lo : ∀ b, Lr b ≠ 0 → w.heap.size ≤ b
  p : ∀ b, P b → Pr b
  q : ∀ b, Pr b → P b ∨ w.heap.size ≤ b
def yset (y : Nat → FaV) (j : Nat) (z : FaV) : Nat → FaV := fun i => if i = j then z else y i
theorem cl_cells (D : DkV) (y : Nat → FaV) (j : Nat) (hj : j < 3) (z : FaV) :
    (((dC D (y 0) (y 1) (y 2)).set (3 + 5 * j) (.slice z.ka (D.f j).K.length z.kc)).set (3 + 5 * j + 1) (.slice z.sa (D.f j).S.length z.sc)).set (3 + 5 * j + 2) (.slice z.ha (D.f j).held.length z.hc) = dC D (yset y j z 0) (yset y j z 1) (yset y j z 2) := by
  match j, hj with
  | 0, _ => rfl
  | 1, _ => rfl
  | 2, _ => rfl
theorem clone_fin {P : Nat → Prop} {w wr w1 w2 w3 w4 w5 w6 : World} {D : DkV} {x : Nat → FaV} {gc j : Nat} {y : Nat → FaV} {Lr : Nat → Nat} {Pr : Nat → Prop} {b1 b2 b3 : Option Addr} {d1 d2 d3 : Nat} {vs : List Value} (hj : j < 3) (h : ClSt P w D x gc j wr y Lr Pr) (hP : ∀ b, P b → b < w.heap.size)
    (B1 : Below wr.heap.size wr w1) (o1 : w1.ownsRow wr.heap.size 5 1 (.slice b1 (D.f j).K.length d1) (D.f j).K.length ((D.f j).K.map (Value.int .u8))) (g2 : w1.grownBy w2 (some gc))
    (B3 : Below w2.heap.size w2 w3) (o3 : w3.ownsRow w2.heap.size 76 1 (.slice b2 (D.f j).S.length d2) (D.f j).S.length vs) (hvs : StsAt P w vs (D.f j).S) (g4 : w3.grownBy w4 (some gc))
    (B5 : Below w4.heap.size w4 w5) (o5 : w5.ownsRow w4.heap.size 5 1 (.slice b3 (D.f j).held.length d3) (D.f j).held.length ((D.f j).held.map (Value.int .u8))) (g6 : w5.grownBy w6 (some gc))
    (hb : Blk w6 gc 60 (dC D (yset y j ⟨b1, d1, b2, d2, b3, d3⟩ 0) (yset y j ⟨b1, d1, b2, d2, b3, d3⟩ 1) (yset y j ⟨b1, d1, b2, d2, b3, d3⟩ 2))) :
    ∃ y' L' P', ClSt P w D x gc (j + 1) w6 y' L' P' := by
  have s0 := h.bel.size
  have s1 := B1.size
  have s2 := g2.size
  have s3 := B3.size
  have s4 := g4.size
  have s5 := B5.size
  have s6 := g6.size
  have hgc := h.b.lt
  have hgl : w.heap.size ≤ gc := h.lo gc (by rw [h.g]; decide)
  have K : ∀ {v v' : World} {r : Nat}, v.grownBy v' (some r) → ∀ b, b < v.heap.size → b ≠ r → v'.heap[b]? = v.heap[b]? := fun hg b hb hn => hg.block b hb (fun e => by injection e with e; exact hn e)
  have k1 : ∀ b, b < w1.heap.size → b ≠ gc → w6.heap[b]? = w1.heap[b]? := fun b hb hn => by
    rw [K g6 b (by omega) hn, B5.block b (by omega), K g4 b (by omega) hn, B3.block b (by omega), K g2 b (by omega) hn]
  have kr : ∀ b, b < wr.heap.size → b ≠ gc → w6.heap[b]? = wr.heap[b]? := fun b hb hn => by
    rw [k1 b (by omega) hn, B1.block b hb]
  have k3 : ∀ b, b < w3.heap.size → b ≠ gc → w6.heap[b]? = w3.heap[b]? := fun b hb hn => by
    rw [K g6 b (by omega) hn, B5.block b (by omega), K g4 b (by omega) hn]
  have k5 : ∀ b, b < w5.heap.size → b ≠ gc → w6.heap[b]? = w5.heap[b]? := fun b hb hn => K g6 b hb hn
  have h1 : ∀ z, b1 = some z → wr.heap.size ≤ z.block ∧ z.block < w1.heap.size := fun z hz => o1.lt z.block (by rw [hz]; rfl)
  have h2 : ∀ z, b2 = some z → w2.heap.size ≤ z.block ∧ z.block < w3.heap.size := fun z hz => o3.lt z.block (by rw [hz]; rfl)
  have h3 : ∀ z, b3 = some z → w4.heap.size ≤ z.block ∧ z.block < w5.heap.size := fun z hz => o5.lt z.block (by rw [hz]; rfl)
  have hL0 : ∀ b, wr.heap.size ≤ b → Lr b = 0 := fun b hb => by
    by_cases h0 : Lr b = 0
    · exact h0
    · have := h.lab.l b h0; omega
  have hLL : ∀ b, b < w1.heap.size → lab1 (lab1 Lr b2 (3 + 2 * j)) b3 (2 + 2 * j) b = Lr b := fun b hb => by
    rw [lab1_ne _ _ _ (fun z hz => by have := h3 z hz; omega), lab1_ne _ _ _ (fun z hz => by have := h2 z hz; omega)]
  have hgP : ∀ b, Pr b → b ≠ gc := fun b hb e => by
    have := (h.lab.p b hb).2
    rw [e, h.g] at this
    omega
  refine ⟨yset y j ⟨b1, d1, b2, d2, b3, d3⟩, lab1 (lab1 Lr b2 (3 + 2 * j)) b3 (2 + 2 * j), fun b => Pr b ∨ ∃ z, b1 = some z ∧ z.block = b, hb, ?_, ⟨?_, ?_⟩, ?_, ?_, ?_, ?_, fun b hb => .inl (h.p b hb), ?_⟩
  · rw [hLL gc (by omega)]; exact h.g
  · intro b hb
    rcases lab1_or (lab1 Lr b2 (3 + 2 * j)) (a := b3) (2 + 2 * j) b with ⟨z, hz, hzb⟩ | he
    · have := h3 z hz; omega
    · rw [he] at hb
      rcases lab1_or Lr (a := b2) (3 + 2 * j) b with ⟨z, hz, hzb⟩ | he
      · have := h2 z hz; omega
      · rw [he] at hb
        have := h.lab.l b hb; omega
  · rintro b (hb | ⟨z, hz, hzb⟩)
    · have := h.lab.p b hb
      exact ⟨by omega, by rw [hLL b (by omega)]; exact this.2⟩
    · have := h1 z hz
      exact ⟨by omega, by rw [hLL b (by omega)]; exact hL0 b (by omega)⟩
  · intro i hi
    by_cases hij : i = j
    · subst hij
      have hy : yset y i ⟨b1, d1, b2, d2, b3, d3⟩ i = ⟨b1, d1, b2, d2, b3, d3⟩ := if_pos rfl
      rw [hy]
      refine ⟨⟨ints_same (own_ints' o1) (fun z hz => ?_), fun z hz => .inr ⟨z, hz, rfl⟩⟩, ⟨⟨vs, own_same (own_weak o3 (Nat.zero_le _)) (fun b hb => ?_), hvs.same (fun b hb => ?_) (fun b hb => .inl (h.p b hb))⟩, fun z hz => ?_⟩, ⟨own_same (own_weak o5 (Nat.zero_le _)) (fun b hb => ?_), fun z hz => lab1_at _ _ hz⟩⟩
      · have := h1 z hz
        exact k1 _ this.2 (by omega)
      · obtain ⟨z, hz, hzb⟩ := slice_block hb
        have := h2 z hz
        exact k3 b (by omega) (by omega)
      · have := hP b hb
        rw [kr b (by omega) (hgP b (h.p b hb)), h.bel.block b this]
      · rw [lab1_ne _ _ _ (fun u hu e => by have := h3 u hu; have := h2 z hz; omega), lab1_at _ _ hz]
      · obtain ⟨z, hz, hzb⟩ := slice_block hb
        have := h3 z hz
        exact k5 b (by omega) (by omega)
    · have hy : yset y j ⟨b1, d1, b2, d2, b3, d3⟩ i = y i := if_neg hij
      rw [hy]
      refine (h.own i (by omega)).same (fun b hb => ?_) (fun b hb => .inl hb) (fun b hb => hLL b (by have := h.lab.l b (by unfold isF at hb; omega); omega))
      rcases hb with hb | hb
      · exact kr b (h.lab.p b hb).1 (hgP b hb)
      · exact kr b (h.lab.l b (by unfold isF at hb; omega)) (fun e => by rw [e, h.g] at hb; unfold isF at hb; omega)
  · intro i hi
    have hy : yset y j ⟨b1, d1, b2, d2, b3, d3⟩ i = y i := if_neg (by omega)
    rw [hy]
    exact h.rest i (by omega)
  · refine ⟨?_, ?_, ?_, by omega, fun b hb => ?_⟩
    · exact g6.os.trans (B5.os.trans (g4.os.trans (B3.os.trans (g2.os.trans (B1.os.trans h.bel.os)))))
    · exact g6.tape.trans (B5.tape.trans (g4.tape.trans (B3.tape.trans (g2.tape.trans (B1.tape.trans h.bel.tape)))))
    · exact g6.output.trans (B5.output.trans (g4.output.trans (B3.output.trans (g2.output.trans (B1.output.trans h.bel.output)))))
    · rw [kr b (by omega) (by omega), h.bel.block b hb]
  · intro b hb
    rcases lab1_or (lab1 Lr b2 (3 + 2 * j)) (a := b3) (2 + 2 * j) b with ⟨z, hz, hzb⟩ | he
    · have := h3 z hz; omega
    · rw [he] at hb
      rcases lab1_or Lr (a := b2) (3 + 2 * j) b with ⟨z, hz, hzb⟩ | he
      · have := h2 z hz; omega
      · rw [he] at hb
        exact h.lo b hb
  · rintro b (hb | ⟨z, hz, hzb⟩)
    · exact h.q b hb
    · have := h1 z hz
      exact .inr (by omega)
end Go.Proofs.Ytmnfagpbcllbgaa
