/-
  Texts of stages that were proved on their own, joined: Sees. Each begins with its own words.
-/
import Derived.RangeFuncNested
import Derived.RangeFuncBound
import Derived.RangeFuncCalls
import Derived.RangeFuncLeaves
import Derived.Shelf.Abstract
import Derived.WalkKit
import Derived.OwnWalkIn
import Derived.TacticsInMore
import Derived.LoopNIn
import Derived.LoopIn

/-
  A range over a function whose iterator hands over what lies in new memory: its contract tells the round of each value what lies where it points ('R'), and the loop's law hands that on to the body. Built over the kit's rule for the statement and for one round.
-/
namespace Go.Proofs.YtinmmhbiomcdoaaGreatDoor
open Go.RowKit

/-- The iterator's contract: at each call of yield 'R pre x' holds of the world, pre having come. -/
def SeqSees {α : Type} (F : Fence) (n : Nat) (P : Program) (gf : Nat) (lb : Array Value) (encs : α → Array Value) (R : List α → α → World → Prop) (Kp : World → World → Prop) (S Sp : List α → Prop) (N : Nat) (w : World) : Prop :=
  ∀ (l : Nat) (J Jx : List α → World → Prop) (W : World), Below w.heap.size w W → AbidesFrom W.heap.size J → AbidesFrom W.heap.size Jx →
    (∀ pre x V, J pre V → R pre x V → pre.length < N → YieldAt F (n - 1) P l (encs x) V fun e V' =>
      (e = .returned (.bool true) ∧ J (pre ++ [x]) V' ∧ Kp V V') ∨ (e = .returned (.bool false) ∧ Jx (pre ++ [x]) V')) →
    J [] W → CallsIn F n P gf (#[.func (.yield l) #[] #[]] ++ lb) W fun e V => (∃ v, e = .returned v) ∧ ((∃ xs, S xs ∧ J xs V) ∨ ∃ pre, Sp pre ∧ Jx pre V)

section
variable {F : Fence} {n : Nat} {P : Program}

/-- The loop's two blocks: the round's deferred calls (none) at B, its record behind it. -/
def Book (B : Nat) (r : Loop) (W : World) : Prop := W.heap[B + 1]? = some (.loop r) ∧ W.heap[B]? = some (.deferred (some []))
theorem Book.lt {B : Nat} {r : Loop} {W : World} (h : Book B r W) : B + 1 < W.heap.size := (Array.getElem?_eq_some_iff.1 h.1).1
theorem Book.put {B : Nat} {r : Loop} {W : World} (h : Book B r W) (r' : Loop) : Book B r' (W.putObj (B + 1) (.loop r')) :=
  ⟨World.putObj_heap_same h.lt, (World.putObj_heap_other (Nat.ne_of_lt (Nat.lt_succ_self B))).trans h.2⟩
theorem Book.from {B : Nat} {r : Loop} {W W' : World} (h : Book B r W) (hk : KeepsFrom B W W') : Book B r W' :=
  ⟨hk.same _ _ (Nat.le_succ B) h.1 rfl, hk.same _ _ (Nat.le_refl B) h.2 rfl⟩
theorem Book.abides {B : Nat} {r : Loop} {W W' : World} {row : Option Nat} (h : Book B r W) (hg : W.grownBy W' row) (hr : ∀ k, row = some k → ∃ o : Obj, W.heap[k]? = some o ∧ o.isWalk = true) : Book B r W' :=
  ⟨(grownBy_keeps hg hr h.1 rfl).trans h.1, (grownBy_keeps hg hr h.2 rfl).trans h.2⟩

theorem wpIn_rangeFunc_sees {α : Type} {g : Operand} {ps : Array Tmp} {assign body : Code} {Q : Exit → Act → World → Prop} {a : Act} {w : World} (hro : F.round = none) (h1 : 1 ≤ n) {gf : Nat} {lb : Array Value}
    (hg : a.eval g = .func (.func gf) #[] lb) (hFg : F.fn gf) (eg : ∀ args w, (callFunc gf args).run P w = .ok (.enter gf args) w) {encs : α → Array Value} {R : List α → α → World → Prop} {Kp : World → World → Prop} {S Sp : List α → Prop} {N : Nat} {w0 : World}
    (hseq : SeqSees F (n - 1) P gf lb encs R Kp S Sp N w0) (hKt : ∀ {A B C : World}, Kp A B → Kp B C → Kp A C)
    (hKb : ∀ (W : World) (l : Nat) (o o' : Obj), w.heap.size ≤ l → W.heap[l]? = some o → o.isCells = false → o.isWalk = false → Kp W (W.putObj l o')) (hb0 : Below w0.heap.size w0 w) (hps : ∀ x, (encs x).size = ps.size)
    (I : List α → World → Prop) (Ix : Code → List α → World → Prop) (hI : OwnFrom w.heap.size I) (hIx : ∀ c, OwnFrom w.heap.size (Ix c)) (hR : ∀ pre, OwnFrom w.heap.size (R pre)) (h0 : I [] w) (a₁ : α → Act)
    (hassign : ∀ (l : Nat) (x : α) (W : World) (K : Act → World → Prop), K (a₁ x) W → assign.wpIn (F.inRound l) (n - 1 - 1) P (Exit.then K (fun _ _ _ => False)) { tmps := (ps.zip (encs x)).foldl (fun t (p, v) => t.setIfInBounds p v) a.tmps, defers := [] } W)
    (hbody : ∀ (l : Nat) (pre : List α) (x : α) (W : World), I pre W → R pre x W → pre.length < N → body.wpIn (F.inRound l) (n - 1 - 1) P (ownPostG w.heap.size Kp I Ix (pre ++ [x]) W) (a₁ x) W)
    (hdone : ∀ (D : Nat) (xs : List α) (W : World), w.heap.size ≤ D → S xs → I xs W → W.heap[D]? = some (.deferred (some [])) → Q .normal { a with defers := { target := .collected D, args := #[] } :: a.defers } W)
    (hstop : ∀ (D : Nat) (c : Code) (pre : List α) (W : World), w.heap.size ≤ D → Sp pre → Ix c pre W → W.heap[D]? = some (.deferred (some [])) → c.wpIn F n P Q { a with defers := { target := .collected D, args := #[] } :: a.defers } W) :
    (Code.rangeFunc g ps assign body).wpIn F n P Q a w := by
  obtain ⟨B, hB⟩ : ∃ B, w.heap.size = B := ⟨_, rfl⟩
  rw [hB] at hKb hI hIx hR hbody hdone hstop
  refine wpIn_rangeFunc fun fn hfn => ?_
  obtain ⟨rc, hrc⟩ : ∃ rc : LoopState → Option Code → Loop, ∀ s p, rc s p = { state := s, pending := p, fn := fn, tmps := a.tmps, params := ps, assign := assign, body := body, defers := B } := ⟨_, fun _ _ => rfl⟩
  have turn : ∀ s p s' p', ({ rc s p with state := s', pending := p' } : Loop) = rc s' p' := fun s p s' p' => by rw [hrc, hrc]
  have busy : ∀ s p s', ({ rc s p with state := s' } : Loop) = rc s' p := fun s p s' => by rw [hrc, hrc]
  obtain ⟨X, hX⟩ : ∃ X, (w.alloc (.deferred (some []))).alloc (.loop (rc .ready none)) = X := ⟨_, rfl⟩
  have hXb : Book B (rc .ready none) X := by
    rw [← hX, ← hB]
    refine ⟨?_, (Below.heap_alloc _ _ _ (by simp)).trans (World.alloc_heap_new w _)⟩
    have h := World.alloc_heap_new (w.alloc (.deferred (some []))) (.loop (rc .ready none))
    rwa [World.size_alloc] at h
  have hXI : I [] X := by
    rw [← hX]
    exact hI.alloc _ (hI.alloc _ h0)
  have hXw : Below w0.heap.size w0 X := by
    rw [← hX]
    exact hb0.trans ((((Below.refl _ w).alloc (Nat.le_refl _) _).alloc (by simp) _).mono hb0.size)
  have hXs : B ≤ X.heap.size := Nat.le_of_lt (Nat.lt_of_succ_lt hXb.lt)
  have cells : ∀ {V : World} {row : Option Nat}, (∀ k, row = some k → X.heap.size ≤ k ∧ ∃ o : Obj, V.heap[k]? = some o ∧ o.isWalk = true) → ∀ k, row = some k → B ≤ k ∧ ∃ o : Obj, V.heap[k]? = some o ∧ o.isCells = false := fun hr k e => by
    obtain ⟨hk, o, ho, hw⟩ := hr k e
    exact ⟨Nat.le_trans hXs hk, o, ho, Obj.not_cells_of_walk hw⟩
  have hend : ∀ (j : Option Code) (s : LoopState) (V : World), s ≠ .busy → Book B (rc s j) V → ∃ V', (Instr.endLoop (B + 1)).run P V = .ok j V' ∧ V' = V.putObj (B + 1) (.loop (rc .exhausted j)) := fun j s V hs hb => by
    have h := run_endLoop (P := P) hb.1 (by rw [hrc]; exact hs)
    rw [busy] at h
    have hp : (rc s j).pending = j := by rw [hrc]
    rw [hp] at h
    exact ⟨_, h, rfl⟩
  have henter : (Instr.enterLoop fn a.tmps ps assign body F.round).run P w = .ok (B + 1, [{ target := .collected B, args := #[] }]) X := by
    rw [hro, ← hX, hrc, ← hB]
    exact run_enterLoop_outer fn a.tmps ps assign body
  refine ⟨B + 1, _, X, { target := .fn (.func gf) lb, args := #[.func (.yield (B + 1)) #[] #[]] }, X, gf, #[.func (.yield (B + 1)) #[] #[]] ++ lb, X, henter, ?_, fun f' hf' => ?_, ?_, fun _ => h1, ?_⟩
  · simp only [resolve, hg]
    simp [go_sem]
  · simp [Target.leads] at hf'
    subst hf'
    exact hFg
  · simp [invoke, go_sem, eg]
  · refine (hseq (B + 1) (fun pre V => I pre V ∧ Book B (rc .ready none) V) (fun pre V => ∃ c, Ix c pre V ∧ Book B (rc .done (some c)) V) X hXw ?_ ?_ ?_ ⟨hXI, hXb⟩).mono ?_
    · exact fun s V V' row hs hgr hr => ⟨hI s V V' row hs.1 hgr (cells hr), hs.2.abides hgr fun k e => (hr k e).2⟩
    · exact fun s V V' row ⟨c, hc, hb⟩ hgr hr => ⟨c, hIx c s V V' row hc hgr (cells hr), hb.abides hgr fun k e => (hr k e).2⟩
    · intro pre x V hJ hx hlen
      have hy := run_yield (P := P) (args := encs x) hJ.2.1 (by rw [hrc]; exact hps x)
      have htm : (rc .ready none).tmps = a.tmps ∧ (rc .ready none).params = ps ∧ (rc .ready none).assign = assign ∧ (rc .ready none).body = body ∧ (rc .ready none).fn = fn := by rw [hrc]; exact ⟨rfl, rfl, rfl, rfl, rfl⟩
      rw [htm.1, htm.2.1, htm.2.2.1, htm.2.2.2.1, htm.2.2.2.2] at hy
      have hbeg := run_beginRound (P := P) hJ.2.1 (by rw [hrc])
      rw [busy] at hbeg
      obtain ⟨V1, hV1⟩ : ∃ V1, V.putObj (B + 1) (.loop (rc .busy none)) = V1 := ⟨_, rfl⟩
      rw [hV1] at hbeg
      have hb1 : Book B (rc .busy none) V1 := by rw [← hV1]; exact hJ.2.put _
      have hI1 : I pre V1 := by rw [← hV1]; exact hI.putObj _ hJ.1 (Nat.le_succ B) hJ.2.1 rfl
      have hR1 : R pre x V1 := by rw [← hV1]; exact (hR pre).putObj _ hx (Nat.le_succ B) hJ.2.1 rfl
      have hK1 : Kp V V1 := by rw [← hV1]; exact hKb V (B + 1) _ _ (Nat.le_succ B) hJ.2.1 rfl rfl
      have last : ∀ (j : Option Code) (V3 : World), Book B (rc .busy none) V3 → (Instr.endRound (B + 1) j).run P V3 = .ok (.bool j.isNone) (V3.putObj (B + 1) (.loop (rc (if j.isNone then .ready else .done) j))) := fun j V3 hb3 => by
        have h := run_endRound (P := P) j hb3.1
        rwa [turn] at h
      refine ⟨fn, _, assign, body, hy, roundIn_of_wpIn hfn (hassign _ x V _ ⟨V1, hbeg, wpIn_mono (hbody _ pre x V1 hI1 hR1 hlen) ?_⟩)⟩
      intro e a3 V3 hp
      cases e with
      | normal =>
        have hb3 := hb1.from hp.1
        exact ⟨_, _, last none V3 hb3, .inl ⟨rfl, ⟨hI.putObj _ hp.2.2 (Nat.le_succ B) hb3.1 rfl, hb3.put _⟩, hKt (hKt hK1 hp.2.1) (hKb V3 (B + 1) _ _ (Nat.le_succ B) hb3.1 rfl rfl)⟩⟩
      | ret =>
        have hb3 := hb1.from hp.1
        exact ⟨_, _, last (some .ret) V3 hb3, .inr ⟨rfl, _, (hIx _).putObj _ hp.2 (Nat.le_succ B) hb3.1 rfl, hb3.put _⟩⟩
      | exit id =>
        have hb3 := hb1.from hp.1
        exact ⟨_, _, last (some (.exit id)) V3 hb3, .inr ⟨rfl, _, (hIx _).putObj _ hp.2 (Nat.le_succ B) hb3.1 rfl, hb3.put _⟩⟩
      | goto t =>
        have hb3 := hb1.from hp.1
        exact ⟨_, _, last (some (.goto t)) V3 hb3, .inr ⟨rfl, _, (hIx _).putObj _ hp.2 (Nat.le_succ B) hb3.1 rfl, hb3.put _⟩⟩
      | panic ch => exact hp.elim
      | outgrown => exact hp.elim
    · rintro e V ⟨⟨v, rfl⟩, ⟨xs, hS, hi, hb⟩ | ⟨pre, hSp, c, hi, hb⟩⟩
      · obtain ⟨V', he, hV'⟩ := hend none .ready V (by simp) hb
        refine ⟨none, V', he, ?_⟩
        rw [hV']
        exact hdone B xs _ (Nat.le_refl _) hS (hI.putObj _ hi (Nat.le_succ B) hb.1 rfl) (hb.put _).2
      · obtain ⟨V', he, hV'⟩ := hend (some c) .done V (by simp) hb
        refine ⟨some c, V', he, ?_⟩
        rw [hV']
        exact hstop B c pre _ (Nat.le_refl _) hSp ((hIx c).putObj _ hi (Nat.le_succ B) hb.1 rfl) (hb.put _).2
end
end Go.Proofs.YtinmmhbiomcdoaaGreatDoor
