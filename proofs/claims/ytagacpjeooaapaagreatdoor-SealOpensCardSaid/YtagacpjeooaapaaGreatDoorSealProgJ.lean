/-
  What package seal's calls come to, as the laws' texts ask it ('SealProg'), and so both laws of layer 8. New memory alone is written. Conditions: bytes below 256; the package's variables of sha hold the constants and the starts, errors' own variable its handle.
-/
import Derived.Test.YtagacpjeooaapaaGreatDoorJSealProg15
import Derived.Test.YtagacpjeooaapaaGreatDoorJSealProg17
import Derived.Test.YtagacpjeooaapaaGreatDoorJSealProg19
namespace Go.Proofs.YtagacpjeooaapaaGreatDoor
open Go.RowKit

theorem fits_new (id : Nat → Nat) (ka kb : Option Addr) (b o kac kbc m n cap : Nat) (f : Nat → Nat) (w : World) (hG : Glob w) (hB : Ints .u8 w kb 32 kbc (sealB id)) (hf : By f) (hI : Ints .u8 w (some ⟨b, o, none⟩) n cap (bytesL n f)) (hmn : m + 32 = n) (hn : n ≤ 100000) (ok : Bool) (hok : decide (bytesL 32 (fun i => f (m + i)) = sealT id m f) = ok) :
    Calls Tryz.prog 46 #[.agg #[.slice ka 32 kac, .slice kb 32 kbc], .slice (some ⟨b, o, none⟩) n cap] (w.alloc (.cells #[.slice ka 32 kac, .slice kb 32 kbc] 36)) fun e w' => e = .returned (.bool ok) ∧ Below (w.heap.size + 1) (w.alloc (.cells #[.slice ka 32 kac, .slice kb 32 kbc] 36)) w' := by
  have b1 := below1 w (.cells #[.slice ka 32 kac, .slice kb 32 kbc] 36)
  have h := fits_any id ka kb b o kac kbc m n cap f _ (hG.keep b1 (Nat.le_refl _)) (hB.keep b1) hf (hI.keep b1) hmn hn ok hok
  rw [size1] at h
  exact h

theorem prog_opens (id : Nat → Nat) (a : Option Addr) (m cap : Nat) (f : Nat → Nat) (w : World) (hG : GE w) (hid : By id) (hf : By f) (hI : Ints .u8 w a (m + 32) cap (bytesL (m + 32) f)) (hm : m ≤ 568) (ht : sealT id m f = bytesL 32 (fun i => f (m + i))) :
    Calls Tryz.prog 13 #[.agg (rowN 32 id).toArray, .slice a (m + 32) cap] w fun e w' => ∃ b c, e = .returned (.tuple #[.slice b m c, .int .i64 0]) ∧ Ints .u8 w' b m c (bytesL m (sealM id f)) ∧ Below w.heap.size w w' := by
  obtain ⟨b, o, rfl, _⟩ := hI.at (by omega)
  refine open_ok id b o m (m + 32) cap f w hG.1 hG.2 hid hf hI rfl (by omega) (fun ka kac kb kbc w' hg _ hB hX => ?_)
  exact refuse_tag ka kb _ kac kbc (m + 32) cap w' (by omega) (by omega) true (fits_new id ka kb b o kac kbc m (m + 32) cap f w' hg hB hf hX rfl (by omega) true (decide_eq_true ht.symm))

theorem prog_shut (id : Nat → Nat) (a : Option Addr) (m cap : Nat) (f : Nat → Nat) (w : World) (hG : GE w) (hid : By id) (hf : By f) (hI : Ints .u8 w a (m + 32) cap (bytesL (m + 32) f)) (hm : m ≤ 568) (ht : sealT id m f ≠ bytesL 32 (fun i => f (m + i))) :
    Calls Tryz.prog 13 #[.agg (rowN 32 id).toArray, .slice a (m + 32) cap] w fun e w' => ∃ b c, e = .returned (.tuple #[.slice b 0 c, .int .i64 8]) ∧ Below w.heap.size w w' := by
  obtain ⟨b, o, rfl, _⟩ := hI.at (by omega)
  refine (open_err id (some ⟨b, o, none⟩) (m + 32) cap (fun v => Ints .u8 v (some ⟨b, o, none⟩) (m + 32) cap (bytesL (m + 32) f)) 8 w hG.1 hG.2 hid hI (fun _ _ h hb => h.keep hb) (fun ka kac kb kbc w' hg _ hB hX => ?_)).mono ?_
  · exact refuse_tag ka kb _ kac kbc (m + 32) cap w' (by omega) (by omega) false (fits_new id ka kb b o kac kbc m (m + 32) cap f w' hg hB hf hX rfl (by omega) false (decide_eq_false (fun h => ht h.symm)))
  · rintro e w' ⟨rfl, hb⟩
    exact ⟨none, 0, rfl, hb⟩

theorem sealProg : SealProg where
  room := room_any
  hint := fun id w _ => hint_any id w
  key := fun id w hG hid => key_any id w hG.1 hid
  long := fun id a n cap w _ hn _ => (seal_long id a n cap w hn).mono (by
    rintro e w' ⟨rfl, hb⟩
    exact ⟨none, 0, rfl, hb⟩)
  ok := fun id a n cap f w hG hid hf hI hn => (seal_ok id a n cap f w hG.1 hid hf hI hn).mono (by
    rintro e w' ⟨b, c, rfl, ho, hb⟩
    refine ⟨b, c, rfl, ?_, hb⟩
    obtain ⟨a', c', hv, hi⟩ := Ints.of_owns (xs := blobL id n f) (by unfold blobL; rw [List.map_append, bytesL_row]; exact ho)
    injection hv with h1 _ h2
    subst h1; subst h2
    exact hi)
  opens := prog_opens
  shut := prog_shut
  short := fun id a n cap w hG hid hn => (open_err id a n cap (fun _ => True) 2 w hG.1 hG.2 hid trivial (fun _ _ _ _ => trivial) (fun ka kac kb kbc w' _ _ _ _ => refuse_short ka kb a kac kbc n cap w' hn)).mono (by
    rintro e w' ⟨rfl, hb⟩
    exact ⟨none, 0, rfl, hb⟩)
  longer := fun id a n cap w hG hid hn _ => (open_err id a n cap (fun _ => True) 3 w hG.1 hG.2 hid trivial (fun _ _ _ _ => trivial) (fun ka kac kb kbc w' _ _ _ _ => refuse_long ka kb a kac kbc n cap w' hn)).mono (by
    rintro e w' ⟨rfl, hb⟩
    exact ⟨none, 0, rfl, hb⟩)

theorem law_SealSeals' (z0 : List Int) (a : Option Addr) (n c : Nat) (z : List Int) (w : World) (hG : Glob w ∧ ErrT w) (h0 : z0.length = 32) (w0 : ∀ x ∈ z0, (Lit.int .u8 x).wf = true) (hI : Ints .u8 w a n c z) (hw : ∀ x ∈ z, (Lit.int .u8 x).wf = true) (hc : c ≤ maxLen) :
    Calls Tryz.prog 3 #[.agg (z0.map (Value.int .u8)).toArray, .slice a n c] w fun e w' => e = .returned (.bool true) ∧ Below w.heap.size w w' :=
  law_SealSeals sealProg z0 a n c z w hG h0 w0 hI hw hc
theorem law_SealOpens' (z0 : List Int) (a : Option Addr) (n c : Nat) (z : List Int) (w : World) (hG : Glob w ∧ ErrT w) (h0 : z0.length = 32) (w0 : ∀ x ∈ z0, (Lit.int .u8 x).wf = true) (hI : Ints .u8 w a n c z) (hw : ∀ x ∈ z, (Lit.int .u8 x).wf = true) (hc : c ≤ maxLen) :
    Calls Tryz.prog 4 #[.agg (z0.map (Value.int .u8)).toArray, .slice a n c] w fun e w' => e = .returned (.bool true) ∧ Below w.heap.size w w' :=
  law_SealOpens sealProg z0 a n c z w hG h0 w0 hI hw hc
end Go.Proofs.YtagacpjeooaapaaGreatDoor
