/-
  Texts of stages that were proved on their own, joined: RoundSeq. Each begins with its own words.
-/
import Derived.Test.YtkeamgogaaoliaaDoorSeqS
import Derived.RangeFuncNested
import Derived.RangeFuncCalls
import Derived.OrdersIn
import Derived.TacticsIn

/-
  A region that draws its order in a round of a loop over a function, walked as anywhere (XSeqS), where it defers nothing. Laws about the model's own words; no Go function is spoken of. No conditions but those that each row names.
-/
namespace Go.Proofs.YtkeamgogaaoliaaDoor
open Go.RowKit

theorem rowsIn_wide9 {n : Nat} {P : Program} {row : String} {args : Array Value} {w : World} {R : Value → World → Prop} (h : Rows P row args w R) : RowsIn Fence.wide n P row args w R :=
  fun c cs _ => let ⟨v, w', r, s⟩ := h c cs; ⟨v, w', r, stepsIn_wide.2 s⟩
def noDefer (o : Oper) : Bool := match o.op with | .defer _ => false | _ => true
theorem noDefer_ne {o : Oper} (h : noDefer o = true) : ∀ c, o.op ≠ .defer c := by
  intro c hc
  unfold noDefer at h
  rw [hc] at h
  cases h
theorem oper_in {ln n : Nat} {P : Program} {o : Oper} {a : Act} {w : World} {K : Act → World → Prop} {Q : Exit → Act → World → Prop} (hd : noDefer o = true) (h : o.wp P a w K Q) : o.wpIn (Fence.wide.inRound ln) n P a w K Q := by
  refine ⟨fun _ _ => trivial, ?_⟩
  rw [Fence.inRound_round, Oper.semAt_some ln a.eval o (noDefer_ne hd)]
  unfold Oper.wp at h
  generalize (execOp a.eval o).run P w = r at h ⊢
  cases r with
  | ok x w' =>
    cases x with
    | value v => exact h
    | skip => exact h
    | defer d => exact h
    | enter f args => exact ⟨fun hn => by simp [Fence.wide] at hn, CallsIn.inRound ln (callsIn_wide.2 h)⟩
    | row row args => exact ⟨fun hn => by simp [Fence.wide] at hn, rowsIn_wide9 h⟩
    | _ => exact h.elim
  | halt x w' =>
    cases x with
    | panic v => exact h
    | _ => exact h.elim
theorem op_in {ln n : Nat} {P : Program} {ops : Array Oper} {i : Nat} {a : Act} {w : World} {K K' : Act → World → Prop} {Q : Exit → Act → World → Prop} (hd : ops.toList.all noDefer = true) (hq : ¬ LetsOut Q) (hK : ∀ a w, K a w → K' a w) (h : wpOp P ops Q i K a w) : wpOpIn (Fence.wide.inRound ln) n P ops Q i K' a w := by
  unfold wpOp at h
  unfold wpOpIn
  cases ho : ops[i]? with
  | none => rw [ho] at h; exact hK _ _ h
  | some o =>
    rw [ho] at h
    have hdo : noDefer o = true := by
      obtain ⟨hi, he⟩ := Array.getElem?_eq_some_iff.1 ho
      exact List.all_eq_true.1 hd o (by rw [← he]; exact Array.getElem_mem_toList hi)
    simp only at h ⊢
    split
    · rename_i hw
      rw [if_pos hw] at h
      rcases h with h | h
      · exact Oper.wpIn_mono hK (oper_in hdo h)
      · exact absurd h.2 hq
    · rename_i hw
      rw [if_neg hw] at h
      exact ⟨fun _ _ => trivial, hK _ _ h⟩
theorem any_in {ln n : Nat} {P : Program} {md : Region.Mode} {ops : Array Oper} {Q : Exit → Act → World → Prop} (hd : ops.toList.all noDefer = true) (hq : ¬ LetsOut Q) : ∀ (fuel : Nat) (listed : Array Bool) (a : Act) (w : World), wpAny P md ops Q fuel listed a w → wpAnyIn (Fence.wide.inRound ln) n P md ops Q fuel listed a w
  | 0, _, _, _, h => h
  | fuel + 1, _, _, _, h => ⟨h.1, fun i hi => op_in hd hq (fun a w hh => any_in hd hq fuel _ a w hh) (h.2 i hi)⟩
theorem region_seqS_in {ln n : Nat} {P : Program} {Q : Exit → Act → World → Prop} (S : World → Prop) {id : Nat} {l : List Oper} {a : Act} {w : World} (hm : P.follows .mixedOrders = true) (hd : l.all noDefer = true) (hq : ¬ LetsOut Q)
    (h : SeqS P .any l.toArray Q S (pairs 0 l) (Array.replicate l.toArray.size false) a w.drew) : (Code.region id l.toArray true).wpIn (Fence.wide.inRound ln) n P Q a w := by
  have h1 := h (fun p hp => by
    obtain ⟨j, h1, h2⟩ := pairs_get l 0 p hp
    rw [h1, Nat.zero_add]; simpa using h2)
  rw [pairs_length] at h1
  have h2 : wpAny P .any l.toArray (NoPanic Q) l.toArray.size (Array.replicate l.toArray.size false) a w.drew := wpAny_of_held _ _ _ _ (by simpa using h1)
  have h3 : (Code.region id l.toArray true).wpIn (Fence.wide.inRound ln) n P (NoPanic Q) a w := wpIn_region_any hm (any_in (Q := NoPanic Q) (ops := l.toArray) hd (fun ⟨a, w, h⟩ => hq ⟨a, w, h⟩) _ _ _ _ h2)
  exact wpIn_mono h3 NoPanic.imp
end Go.Proofs.YtkeamgogaaoliaaDoor
