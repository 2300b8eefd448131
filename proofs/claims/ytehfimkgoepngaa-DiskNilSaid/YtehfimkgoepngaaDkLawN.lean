/-
  The law DiskNil: a nil disk, and one that no call made, through every method. New memory alone is written. No conditions beyond the row's own.
-/
import Derived.Test.YtehfimkgoepngaaDkNil
namespace Go.Proofs.Ytehfimkgoepngaa
open Go.RowKit

set_option maxRecDepth 100000 in
set_option maxHeartbeats 2000000 in
theorem law_dknil (i : Int) (a : Option Addr) (n c : Nat) (z : List Int) (w : World) (_ : (Lit.int .i64 i).wf = true) (_ : Ints .u8 w a n c z) (_ : ∀ x ∈ z, (Lit.int .u8 x).wf = true) (_ : c ≤ maxLen) :
    Calls Try.prog 7 #[.int .i64 i, .slice a n c] w fun q w' => q = .returned (.bool true) ∧ Below w.heap.size w w' := by
  have hz := zeroDk
  have hz0 : (dC (dk0 0) fa0 fa0 fa0)[0]? = some (.int .i64 0) := by rfl
  obtain ⟨zs, hzs⟩ : ∃ zs, dC (dk0 0) fa0 fa0 fa0 = zs := ⟨_, rfl⟩
  rw [hzs] at hz hz0
  clear hzs
  have hB := below1 w (.cells zs.toArray 64)
  have hD : Dead (w.alloc (.cells zs.toArray 64)) (some ⟨w.heap.size, 0, none⟩) := .inr ⟨_, rfl, ((Blk.new w 64 zs).cell 0).trans hz0⟩
  obtain ⟨W, hW⟩ : ∃ W, w.alloc (.cells zs.toArray 64) = W := ⟨_, rfl⟩
  rw [hW] at hB hD
  have hWH := Lib.hid hW
  obtain ⟨p, hp⟩ : ∃ p : Option Addr, some ⟨w.heap.size, 0, none⟩ = p := ⟨_, rfl⟩
  rw [hp] at hD
  have hpH := Lib.hid hp
  have hN : ∀ w : World, Dead w none := fun _ => .inl rfl
  clear hp hW
  have b1 := below1 W (.cells #[.int .i64 5] 3)
  go_enter Try.func7, Try.ntmps7
  go_wp2_with (with_reducible refine wpList_alloc_blk rfl 64 rfl hz ?_
               refine RowKit.Hid.out ?_)
  refine Lib.hid ?_
  rw [hWH.out, hpH.out]
  go_wp2_with fail
  refine (nArm (hN _) 5).mono ?_
  rintro q w1 ⟨rfl, rfl⟩
  go_wp2_with fail
  refine (nArm hD 5).mono ?_
  rintro q w1 ⟨rfl, rfl⟩
  go_wp2_with fail
  refine (nCrash (hN _) _ _ _).mono ?_
  rintro q w1 ⟨rfl, rfl⟩
  have hD1 := hD.keep b1
  have b2 := below1 (W.alloc (.cells #[.int .i64 5] 3)) (.cells #[.int .i64 5] 3)
  have hB2 := hB.trans ((b1.trans (b2.mono b1.size)).mono hB.size)
  have hD2 := hD1.keep b2
  clear hB hD b1
  go_wp2_with fail
  refine (nCrash hD2 _ _ _).mono ?_
  rintro q w3 ⟨rfl, rfl⟩
  clear hD1 b2
  generalize (W.alloc (.cells #[.int .i64 5] 3)).alloc (.cells #[.int .i64 5] 3) = V at *
  go_wp2_with fail
  refine (nAppend (hN _) i a n c).mono ?_
  rintro q w3 ⟨rfl, rfl⟩
  go_wp2_with fail
  refine (nAppend hD2 i a n c).mono ?_
  rintro q w3 ⟨rfl, rfl⟩
  go_wp2_with fail
  refine (nCut (hN _) i 0).mono ?_
  rintro q w3 ⟨rfl, rfl⟩
  go_wp2_with fail
  refine (nSync hD2 i).mono ?_
  rintro q w3 ⟨rfl, rfl⟩
  go_wp2_with fail
  refine (nRead (hN _) i).mono ?_
  rintro q w4 ⟨rfl, b4⟩
  have hD4 := hD2.keep b4
  have hB4 := hB2.trans (b4.mono hB2.size)
  clear hB2 hD2 b4
  go_wp2_with fail
  refine (nKept hD4 i).mono ?_
  rintro q w5 ⟨rfl, b5⟩
  have hD5 := hD4.keep b5
  have hB5 := hB4.trans (b5.mono hB4.size)
  clear hB4 hD4 b5
  go_wp2_with fail
  refine (nSize (hN _) i).mono ?_
  rintro q w6 ⟨rfl, b6⟩
  have hD6 := hD5.keep b6
  have hB6 := hB5.trans (b6.mono hB5.size)
  clear hB5 hD5 b6
  go_wp2_with fail
  refine (nUnits hD6 i).mono ?_
  rintro q w7 ⟨rfl, b7⟩
  have hD7 := hD6.keep b7
  have hB7 := hB6.trans (b7.mono hB6.size)
  clear hB6 hD6 b7
  go_wp2_with fail
  refine (nUsed (hN _)).mono ?_
  rintro q w3 ⟨rfl, rfl⟩
  go_wp2_with fail
  refine (nRoom hD7).mono ?_
  rintro q w3 ⟨rfl, rfl⟩
  go_wp2_with fail
  refine (nFuse (hN _)).mono ?_
  rintro q w3 ⟨rfl, rfl⟩
  go_wp2_with fail
  refine (nFuse hD7).mono ?_
  rintro q w3 ⟨rfl, rfl⟩
  go_wp2_with fail
  refine (nDown (hN _)).mono ?_
  rintro q w3 ⟨rfl, rfl⟩
  go_wp2_with fail
  refine (nDown hD7).mono ?_
  rintro q w3 ⟨rfl, rfl⟩
  go_wp2_with fail
  refine (nClone (hN _)).mono ?_
  rintro q w3 ⟨rfl, rfl⟩
  go_wp2_with fail
  refine (nClone hD7).mono ?_
  rintro q w3 ⟨rfl, rfl⟩
  go_wp2_with fail
  refine (alive18_any _).mono ?_
  rintro q w8 ⟨rfl, b8⟩
  have hB8 := hB7.trans (b8.mono hB7.size)
  clear hB7 hD7 b8
  go_wp2
  go_ret
  exact ⟨rfl, hB8⟩
end Go.Proofs.Ytehfimkgoepngaa
