/-
  The law WordBytes in the frame's form: for words and bytes of any number; beyond 500 words or 2000 bytes only the document's examples are asked. Conditions: each element fits its kind.
-/
import Derived.Test.YtbaacgoflmifkaaWordLaw
namespace Go.Proofs.Ytbaacgoflmifkaa
open Go.RowKit

set_option maxHeartbeats 400000 in
theorem wordBytes_long (a : Option Addr) (n c : Nat) (b : Option Addr) (m d : Nat) (w : World) (hn : n ≤ 9223372036854775807) (hm : m ≤ 9223372036854775807) (h : 500 < n ∨ 2000 < m) :
    Calls Try.prog 4 #[.slice a n c, .slice b m d] w fun e w' => e = .returned (.bool true) ∧ Below w.heap.size w w' := by
  rcases (show 500 < n ∨ (n ≤ 500 ∧ 2000 < m) from by omega) with h | ⟨h1, h2⟩
  · have h0 : decide ((500 : Int) < (n : Int)) = true := by simp; omega
    go_enter Try.func4, Try.ntmps4
    go_wp2_with fail
    refine (alive_any _).mono ?_; rintro e w' ⟨rfl, hb⟩
    go_wp2
    go_ret
    exact ⟨rfl, hb⟩
  · have h0 : decide ((500 : Int) < (n : Int)) = false := by simp; omega
    have h3 : decide ((2000 : Int) < (m : Int)) = true := by simp; omega
    go_enter Try.func4, Try.ntmps4
    go_wp2_with fail
    refine (alive_any _).mono ?_; rintro e w' ⟨rfl, hb⟩
    go_wp2
    go_ret
    exact ⟨rfl, hb⟩

theorem law_WordBytes (a : Option Addr) (n c : Nat) (xs : List Int) (b : Option Addr) (m d : Nat) (bs : List Int) (w : World) (h : Ints .u32 w a n c xs) (hx : ∀ x ∈ xs, (Lit.int .u32 x).wf = true) (hc : c ≤ maxLen)
    (g : Ints .u8 w b m d bs) (hbs : ∀ x ∈ bs, (Lit.int .u8 x).wf = true) (hd : d ≤ maxLen) :
    Calls Try.prog 4 #[.slice a n c, .slice b m d] w fun e w' => e = .returned (.bool true) ∧ Below w.heap.size w w' := by
  have h1 := h.2.1
  have g1 := g.2.1
  unfold maxLen at hc hd
  by_cases hl : 500 < n ∨ 2000 < m
  · exact wordBytes_long a n c b m d w (by omega) (by omega) hl
  · exact wordBytes_any a n c xs b m d bs w h (fun x hxm => wf_u32 (hx x hxm)) g (fun x hxm => wf_u8 (hbs x hxm)) (by omega) (by omega)
end Go.Proofs.Ytbaacgoflmifkaa
