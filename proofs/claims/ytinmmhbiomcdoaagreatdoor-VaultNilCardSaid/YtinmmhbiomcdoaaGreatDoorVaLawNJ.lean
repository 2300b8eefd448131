/-
  The law VaultNil: of a disk that is nil there is no vault; a vault that is nil, and one that no call made, keeps nothing. New memory alone is written. No conditions beyond the row's own.
-/
import Derived.Test.YtinmmhbiomcdoaaGreatDoorJVaLawN37
import Derived.Test.YtinmmhbiomcdoaaGreatDoorJVaLawN16
namespace Go.Proofs.YtinmmhbiomcdoaaGreatDoor
open Go.RowKit

def vaO : List Value := [.pointer none, .pointer none, .slice none 0 0, .int .u64 0]
set_option maxRecDepth 100000 in
theorem zeroVao : Zero Tryz.prog 80 vaO := by unfold Zero; kernel_rfl

set_option maxRecDepth 100000 in
set_option maxHeartbeats 4000000 in
theorem law_vanil (a : Option Addr) (n c : Nat) (z : List Int) (w : World) (hG : ∃ o, Glob22 o w) (_ : Ints .u8 w a n c z) (_ : ∀ x ∈ z, (Lit.int .u8 x).wf = true) (_ : c ≤ maxLen) :
    Calls Tryz.prog 6 #[.slice a n c] w fun q w' => q = .returned (.bool true) ∧ Below w.heap.size w w' := by
  obtain ⟨o, hG⟩ := hG
  have hO := vaOpen_dead hG (p := none) (.inl rfl)
  have HG := Lib.hid hG
  have hR : ∀ w : World, DeadV w none := fun _ => .inl rfl
  have ry := zeroVao
  have ry0 : vaO[0]? = some (.pointer none) := by rfl
  obtain ⟨rs, hrs⟩ : ∃ rs, vaO = rs := ⟨_, rfl⟩
  rw [hrs] at ry ry0
  clear hG hrs
  go_enter Tryz.func6, Tryz.ntmps6
  go_wp2_with fail
  refine hO.mono ?_
  rintro q w4 ⟨rfl, B4⟩
  clear hO
  have hE : DeadV (w4.alloc (.cells rs.toArray 80)) (some ⟨w4.heap.size, 0, none⟩) := .inr ⟨_, rfl, ((Blk.new w4 80 rs).cell 0).trans ry0⟩
  have q5 := below1 w4 (.cells rs.toArray 80)
  have B5 := B4.trans (q5.mono B4.size)
  obtain ⟨V, hV⟩ : ∃ V, w4.alloc (.cells rs.toArray 80) = V := ⟨_, rfl⟩
  rw [hV] at hE B5
  have hVH := Lib.hid hV
  obtain ⟨p2, hp2⟩ : ∃ p : Option Addr, some ⟨w4.heap.size, 0, none⟩ = p := ⟨_, rfl⟩
  rw [hp2] at hE
  have hp2H := Lib.hid hp2
  have hal := alive22_any V (HG.out.keep B5 (Nat.le_refl _))
  have B5H := Lib.hid B5
  clear B5 hV hp2 q5 B4
  go_wp2_with (with_reducible refine wpList_alloc_blk rfl 80 rfl ry ?_
               refine RowKit.Hid.out ?_)
  refine Lib.hid ?_
  rw [hVH.out, hp2H.out]
  clear hVH hp2H ry ry0
  go_wp2_with fail
  refine (zSnapshotV (hR _)).mono ?_
  rintro q w1 ⟨rfl, rfl⟩
  go_wp2_with fail
  refine (zSnapshotV hE).mono ?_
  rintro q w1 ⟨rfl, rfl⟩
  go_wp2_with fail
  refine (zRecordsV (hR _)).mono ?_
  rintro q w1 ⟨rfl, rfl⟩
  go_wp2_with fail
  refine (zRecordsV hE).mono ?_
  rintro q w1 ⟨rfl, rfl⟩
  go_wp2_with fail
  refine (zSizeV (hR _)).mono ?_
  rintro q w1 ⟨rfl, rfl⟩
  go_wp2_with fail
  refine (zSizeV hE).mono ?_
  rintro q w1 ⟨rfl, rfl⟩
  go_wp2_with fail
  refine (zNextV (hR _)).mono ?_
  rintro q w1 ⟨rfl, rfl⟩
  go_wp2_with fail
  refine (zNextV hE).mono ?_
  rintro q w1 ⟨rfl, rfl⟩
  go_wp2_with fail
  refine (zPutV (hR _) a n c).mono ?_
  rintro q w1 ⟨rfl, rfl⟩
  go_wp2_with fail
  refine (zPutV hE a n c).mono ?_
  rintro q w1 ⟨rfl, rfl⟩
  go_wp2_with fail
  refine (zCompactV (hR _) a n c).mono ?_
  rintro q w1 ⟨rfl, rfl⟩
  go_wp2_with fail
  refine (zCompactV hE a n c).mono ?_
  rintro q w1 ⟨rfl, rfl⟩
  go_wp2_with fail
  refine hal.mono ?_
  rintro q wz ⟨rfl, bz⟩
  have hBz := B5H.out.trans (bz.mono B5H.out.size)
  clear hal bz B5H
  go_wp2
  go_ret
  exact ⟨rfl, hBz⟩
end Go.Proofs.YtinmmhbiomcdoaaGreatDoor
