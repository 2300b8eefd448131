/-
  Bytes in a block of their own that are written one by one. Laws about the model's own words; no Go function is spoken of.
-/
import Derived.Test.YtlbhpicebefpnaaRdMoved
namespace Go.Proofs.Ytlbhpicebefpnaa
open Go.RowKit

/-- Bytes in a block of their own, whatever they are. -/
def Bys (w : World) (a : Option Addr) (n c : Nat) : Prop := n ≤ c ∧ (n = 0 ∨ ∃ g cs, a = some ⟨g, 0, none⟩ ∧ Blk w g 5 cs ∧ ∀ i, i < n → ∃ v, cs[i]? = some (.int .u8 v))
theorem Bys.of_owns {w : World} {B : Nat} {a : Option Addr} {n c : Nat} {xs : List Int} (h : w.ownsRow B 5 1 (.slice a n c) n (xs.map (Value.int .u8))) : Bys w a n c := by
  have hl : xs.length = n := by have := h.1; simpa using this
  rcases h.2 with ⟨hv, hn⟩ | ⟨g, cap, cur, hv, _, hg, hnc, hsz, hcur, htk⟩
  · injection hv with _ _ h3
    exact ⟨by omega, .inl hn⟩
  · injection hv with h1 _ h3
    refine ⟨by omega, .inr ⟨g, cur.toList, h1, by simpa [Blk] using hg, fun i hi => ⟨xs.getD i 0, ?_⟩⟩⟩
    rw [Nat.mul_one] at htk
    rw [← List.getElem?_take_of_lt hi, htk]
    exact getElem?_mapInt .u8 xs i (by omega)
/-- The block of a slice that has bytes. -/
def At (a : Option Addr) (n : Nat) (b : Nat) : Prop := 0 < n ∧ ∃ x, a = some x ∧ x.block = b
theorem Bys.inc {w : World} {a : Option Addr} {n c : Nat} (h : Bys w a n c) (j : Nat) (hj : j < n) : ∃ g v, a = some ⟨g, 0, none⟩ ∧ w.cell? ⟨g, j, none⟩ = some (.int .u8 v) ∧ w.frozen? ⟨g, j, none⟩ = false ∧ ∀ u, Bys (w.setCell ⟨g, j, none⟩ (.int .u8 u)) a n c ∧ Moved (At a n) w (w.setCell ⟨g, j, none⟩ (.int .u8 u)) := by
  rcases h.2 with h0 | ⟨g, cs, ha, hb, hv⟩
  · omega
  · obtain ⟨v, hvj⟩ := hv j hj
    refine ⟨g, v, ha, (hb.cell j).trans hvj, hb.frozen j, fun u => ⟨⟨h.1, .inr ⟨g, _, ha, hb.set j _, fun i hi => ?_⟩⟩, moved_set ⟨by omega, _, ha, rfl⟩ (grown_setCell w g j _)⟩⟩
    by_cases e : i = j
    · subst e
      exact ⟨u, by rw [List.getElem?_set_self (List.getElem?_eq_some_iff.1 hvj).1]⟩
    · obtain ⟨x, hx⟩ := hv i hi
      exact ⟨x, by rw [List.getElem?_set_ne (fun h => e h.symm)]; exact hx⟩
theorem own_moved {F : Nat → Prop} {w w' : World} {B : Nat} {e : TypeId} {v : Value} {n : Nat} {vs : List Value} (h : w.ownsRow B e 1 v n vs) (hm : Moved F w w') (hF : ∀ b, v.ownBlock = some b → ¬ F b) : w'.ownsRow B e 1 v n vs := by
  refine ⟨h.1, ?_⟩
  rcases h.2 with h0 | ⟨g, cap, cur, hv, hb, hg, hr⟩
  · exact .inl h0
  · exact .inr ⟨g, cap, cur, hv, hb, (hm.2 g (Array.getElem?_eq_some_iff.1 hg).1 (hF g (by rw [hv]; rfl))).trans hg, hr⟩
theorem Bys.grown {w w' : World} {a : Option Addr} {n c : Nat} {row : Option Nat} (h : Bys w a n c) (hg : w.grownBy w' row) (hne : ∀ b, At a n b → some b ≠ row) : Bys w' a n c := by
  refine ⟨h.1, ?_⟩
  rcases h.2 with h0 | ⟨g, cs, ha, hb, hv⟩
  · exact .inl h0
  · by_cases h0 : n = 0
    · exact .inl h0
    · exact .inr ⟨g, cs, ha, hb.grown hg (hne g ⟨by omega, _, ha, rfl⟩), hv⟩
/-- Numbers do not stand in a block that holds none. -/
theorem Ints.ne_blk {w : World} {a : Option Addr} {n c : Nat} {xs : List Int} {Y : Nat} {T : TypeId} {cs : List Value} (h : Ints .u8 w a n c xs) (hY : Blk w Y T cs) (hn : ∀ v ∈ cs, ∀ z, v ≠ .int .u8 z) : ∀ x, a = some x → 0 < n → x.block ≠ Y := by
  intro x hx h0 he
  rcases h.2.2 with h1 | ⟨b, off, ha, hc⟩
  · omega
  · rw [hx] at ha
    injection ha with ha
    have h2 := hc 0 h0
    have hb : b = Y := by rw [← he, ha]
    subst hb
    rw [hY.cell] at h2
    exact hn _ (List.mem_of_getElem? h2) _ rfl
end Go.Proofs.Ytlbhpicebefpnaa
