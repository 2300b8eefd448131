/-
  Texts of stages that were proved on their own, joined: PayProg. Each begins with its own words.
-/
import Derived.Test.YtcfachgfgogllaaDoorJPayAll1
import Derived.Test.YtcfachgfgogllaaDoorJPayAll2
import Derived.Test.YtcfachgfgogllaaDoorShaTake

/-
  What a program's payloads (layer 13) come to, as a structure ('PayProg'): a row of contracts. Conditions: bytes below 256, fees below 2^32; where hashes are taken, or copies made, at most a thousand tiers of at most a thousand bytes; at most ten thousand bytes are decoded.
-/
namespace Go.Proofs.YtcfachgfgogllaaDoor
open Go.RowKit

/-- What Encode tells: bytes, and an error. -/
def encL (ts : List Tier) : List Int × Int := if rightB ts = true then (payB ts, 0) else ([], 1)
/-- The ids of tiers, one behind the other. -/
def idsL (ts : List Tier) : List Int := ts.flatMap fun t => shaSum t.2
/-- The first tier with an id. -/
def findL (ts : List Tier) (x : List Int) : Nat × Bool := match ts.findIdx? (fun t => decide (shaSum t.2 = x)) with
  | some i => (i, true)
  | none => (0, false)
/-- Tiers that a law speaks of: few, and small. -/
def Small (ts : List Tier) : Prop := ts.length ≤ 1000 ∧ ∀ t ∈ ts, t.2.length ≤ 1000
theorem findL_none {ts : List Tier} {x : List Int} (h : ∀ t ∈ ts, shaSum t.2 ≠ x) : findL ts x = (0, false) := by
  unfold findL
  rw [List.findIdx?_eq_none_iff.2 (fun t ht => decide_eq_false (h t ht))]
theorem findL_some {ts : List Tier} {x : List Int} {i : Nat} {t : Tier} (hi : ts[i]? = some t) (he : shaSum t.2 = x) (h : ∀ u ∈ ts.take i, shaSum u.2 ≠ x) : findL ts x = (i, true) := by
  unfold findL
  have hlt := (List.getElem?_eq_some_iff.1 hi).1
  have h1 : ts.findIdx? (fun t => decide (shaSum t.2 = x)) = some i := by
    rw [List.findIdx?_eq_some_iff_getElem]
    refine ⟨hlt, ?_, fun j hj => ?_⟩
    · rw [List.getElem?_eq_getElem hlt] at hi
      injection hi with hi
      rw [hi]
      exact decide_eq_true he
    · have hm : ts[j]'(by omega) ∈ ts.take i := by
        rw [List.mem_take_iff_getElem]
        exact ⟨j, by omega, rfl⟩
      have := h _ hm
      simpa using this
  rw [h1]

structure PayProg where
  right : ∀ (a : Option Addr) (n c : Nat) (ts : List Tier) (w : World), TiersAt w a n c ts → (∀ t ∈ ts, Ranged t) → n ≤ maxLen →
    Calls Tryd.prog 11 #[.agg #[.slice a n c]] w fun q w' => q = .returned (.bool (rightB ts)) ∧ Below w.heap.size w w'
  encode : ∀ (a : Option Addr) (n c : Nat) (ts : List Tier) (w : World), TiersAt w a n c ts → (∀ t ∈ ts, Ranged t) → n ≤ maxLen →
    Calls Tryd.prog 9 #[.agg #[.slice a n c]] w fun q w' => ∃ b d, q = .returned (.tuple #[.slice b (encL ts).1.length d, .int .i64 (encL ts).2]) ∧ Ints .u8 w' b (encL ts).1.length d (encL ts).1 ∧ Below w.heap.size w w'
  decode : ∀ (a : Option Addr) (n c : Nat) (xs : List Int) (w : World), Ints .u8 w a n c xs → (∀ x ∈ xs, 0 ≤ x ∧ x < 256) → n ≤ 10000 →
    Calls Tryd.prog 13 #[.slice a n c] w fun q w' => ∃ b d, q = .returned (.tuple #[.agg #[.slice b (decP xs).1.length d], .int .i64 (decP xs).2]) ∧ TiersAt w' b (decP xs).1.length d (decP xs).1 ∧ Below w.heap.size w w'
  txid : ∀ (a : Option Addr) (n c : Nat) (xs : List Int) (w : World), Glob w → Ints .u8 w a n c xs → (∀ x ∈ xs, 0 ≤ x ∧ x < 256) → n ≤ 1000 →
    Calls Tryd.prog 18 #[.slice a n c] w fun q w' => q = .returned (.agg ((shaSum xs).map (Value.int .u8)).toArray) ∧ Below w.heap.size w w'
  ids : ∀ (a : Option Addr) (n c : Nat) (ts : List Tier) (w : World), Glob w → TiersAt w a n c ts → (∀ t ∈ ts, Ranged t) → Small ts →
    Calls Tryd.prog 16 #[.agg #[.slice a n c]] w fun q w' => ∃ b d, q = .returned (.slice b n d) ∧ IdsAt w' b n d (idsL ts) ∧ Below w.heap.size w w'
  find : ∀ (a : Option Addr) (n c : Nat) (ts : List Tier) (x : List Int) (w : World), Glob w → TiersAt w a n c ts → (∀ t ∈ ts, Ranged t) → Small ts → x.length = 32 →
    Calls Tryd.prog 19 #[.agg #[.slice a n c], .agg (x.map (Value.int .u8)).toArray] w fun q w' => q = .returned (.tuple #[.int .i64 ((findL ts x).1 : Int), .bool (findL ts x).2]) ∧ Below w.heap.size w w'
  same : ∀ (a : Option Addr) (n c : Nat) (ts : List Tier) (a' : Option Addr) (n' c' : Nat) (us : List Tier) (w : World), TiersAt w a n c ts → TiersAt w a' n' c' us → (∀ t ∈ ts, Ranged t) → (∀ t ∈ us, Ranged t) → n ≤ maxLen → n' ≤ maxLen →
    Calls Tryd.prog 22 #[.agg #[.slice a n c], .agg #[.slice a' n' c']] w fun q w' => q = .returned (.bool (decide (ts = us))) ∧ Below w.heap.size w w'
  copy : ∀ (a : Option Addr) (n c : Nat) (ts : List Tier) (w : World), TiersAt w a n c ts → (∀ t ∈ ts, Ranged t) → Small ts →
    Calls Tryd.prog 21 #[.agg #[.slice a n c]] w fun q w' => ∃ b d, q = .returned (.agg #[.slice b n d]) ∧ (n = 0 ∨ ∃ ps, Made w' w.heap.size (.slice b n d) n ts ps) ∧ Below w.heap.size w w'
end Go.Proofs.YtcfachgfgogllaaDoor
