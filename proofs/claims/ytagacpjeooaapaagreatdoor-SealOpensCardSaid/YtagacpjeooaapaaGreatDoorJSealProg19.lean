/-
  Texts of stages that were proved on their own, joined: SealOpen. Each begins with its own words.
-/
import Derived.Test.YtagacpjeooaapaaGreatDoorJSealProg17
import Derived.Test.YtagacpjeooaapaaGreatDoorJSealProg16
import Derived.Test.YtagacpjeooaapaaGreatDoorJSealProg18

/-
  What package seal's Open comes to: the document's own words. New memory alone is written. Conditions: bytes below 256; the package's variables of sha hold the constants and the starts, errors' own variable its handle.
-/
namespace Go.Proofs.YtagacpjeooaapaaGreatDoor
open Go.RowKit

set_option maxRecDepth 100000 in
set_option maxHeartbeats 1000000 in
theorem open_err (id : Nat → Nat) (a : Option Addr) (n cap : Nat) (S : World → Prop) (er : Int) (w : World) (hG : Glob w) (hT : ErrT w) (hid : By id) (hI : S w) (kp : ∀ v v', S v → Below v.heap.size v v' → S v')
    (RF : ∀ ka kac kb kbc w', Glob w' → Ints .u8 w' ka 32 kac (sealA id) → Ints .u8 w' kb 32 kbc (sealB id) → S w' → Calls Tryz.prog 24 #[.agg #[.slice ka 32 kac, .slice kb 32 kbc], .slice a n cap] w' fun e w'' => e = .returned (.iface 86 (.agg #[.int .i64 er])) ∧ Below w'.heap.size w' w'') :
    Calls Tryz.prog 13 #[.agg (rowN 32 id).toArray, .slice a n cap] w fun e w' => e = .returned (.tuple #[.slice none 0 0, .int .i64 er]) ∧ Below w.heap.size w w' := by
  obtain ⟨g, hg⟩ : ∃ g, w.heap.size = g := ⟨_, rfl⟩
  have hx0 : Blk (w.alloc (.cells (rowN 32 id).toArray 23)) w.heap.size 23 (rowN 32 id) := Blk.new w _ _
  have hB0 := below1 w (.cells (rowN 32 id).toArray 23)
  obtain ⟨W0, hW0⟩ : ∃ W0, w.alloc (.cells (rowN 32 id).toArray 23) = W0 := ⟨_, rfl⟩
  rw [hW0] at hx0 hB0
  have hI0 : S W0 := kp _ _ hI hB0
  have KP := Lib.hid kp
  clear kp
  have hG0 : Glob W0 := hG.keep hB0 (Nat.le_refl _)
  have hT0 : ErrT W0 := hT.keep hB0 (World.block_lt_of_cell? w _ hT)
  go_enter Tryz.func13, Tryz.ntmps13
  go_wp2_with ((with_reducible refine wpList_box_blk rfl 23 (.tmp 0) rfl (rowN 32 id) ?_ ?_); rfl; refine RowKit.Hid.out ?_)
  refine Lib.hid ?_
  rw [hg] at hx0 hB0
  have hgH := Lib.hid hg
  clear hW0 hg
  clear hI hG hT
  have RH := Lib.hid RF
  clear RF
  go_wp2_with ((refine wpList_load_blk rfl 23 (.tmp 2) rfl ?_ hx0 rowId (rowN_len 32 id) ?_); rfl)
  refine (partsOf_any id W0 hG0 hid).mono ?_
  rintro e w1 ⟨ka, kac, kb', kbc, rfl, hA, hBk, b1⟩
  have hI1 := KP.out _ _ hI0 b1
  have hG1 := hG0.keep b1 (Nat.le_refl _)
  have hT1 := hT0.keep b1 (World.block_lt_of_cell? W0 _ hT0)
  have hB1 := hB0.trans (b1.mono (Nat.le_of_lt hx0.lt))
  have hg1 : g ≤ w1.heap.size := Nat.le_trans (Nat.le_of_lt hx0.lt) b1.size
  clear hx0 hB0 hI0 b1 hG0 hT0
  obtain ⟨w3, hw3⟩ : ∃ w3, (w1.alloc (.cells #[.slice ka 32 kac, .slice kb' 32 kbc] 36)).alloc (.cells #[.int .i64 0] 26) = w3 := ⟨_, rfl⟩
  obtain ⟨k, hk⟩ : ∃ k, w1.heap.size = k := ⟨_, rfl⟩
  have b3 : Below w1.heap.size w1 w3 := by rw [← hw3]; exact below2 w1 _ _
  have hk3 : Blk w3 k 36 [.slice ka 32 kac, .slice kb' 32 kbc] := by rw [← hw3, ← hk]; exact (Blk.new w1 36 [.slice ka 32 kac, .slice kb' 32 kbc]).alloc _
  have hy3 : Blk w3 (k + 1) 26 [.int .i64 0] := by rw [← hw3, ← hk]; exact Blk.new1 w1 _ _ [.int .i64 0]
  have hA3 := hA.keep b3
  have hBk3 := hBk.keep b3
  have hI3 := KP.out _ _ hI1 b3
  have hG3 := hG1.keep b3 (Nat.le_refl _)
  have hT3 := hT1.keep b3 (World.block_lt_of_cell? w1 _ hT1)
  have hB3 := hB1.trans (b3.mono hg1)
  have hg3 : g ≤ w3.heap.size := Nat.le_trans hg1 b3.size
  have hgk : g ≤ k := by rw [← hk]; exact hg1
  clear hA hBk hI1 hG1 hT1 hB1 hg1 b3
  go_wp2_with ((refine wpList_load_blk rfl 36 (.tmp 6) rfl ?_ hk3 rowParts rfl ?_); rfl)
  clear hw3 hk
  refine (RH.out ka kac kb' kbc w3 hG3 hA3 hBk3 hI3).mono ?_
  rintro e w4 ⟨rfl, b4⟩
  have hy4 := hy3.keep b4 hy3.lt
  have hT4 := hT3.keep b4 (World.block_lt_of_cell? w3 _ hT3)
  have hB4 := hB3.trans (b4.mono hg3)
  have hg4 := Nat.le_trans hg3 b4.size
  have z4 : w4.frozen? ⟨k + 1, 0, none⟩ = false := Blk.frozen hy4 0
  have c4 : w4.cell? ⟨k + 1, 0, none⟩ = some (.int .i64 0) := hy4.cell 0
  clear hA3 hBk3 hI3 hG3 hT3 hB3 hg3 hk3 hy3 b4 RH
  go_wp2_with fail
  refine (as_hit er ⟨k + 1, 0, none⟩ (.int .i64 0) w4 hT4 c4 z4).mono ?_
  rintro e w6 ⟨rfl, w5, b5, rfl⟩
  have hy5 := (hy4.keep b5 hy4.lt).set 0 (.int .i64 er)
  have c5 : (w5.setCell ⟨k + 1, 0, none⟩ (.int .i64 er)).cell? ⟨k + 1, 0, none⟩ = some (.int .i64 er) := hy5.cell 0
  have hB5 := Lib.hid ((hB4.trans (b5.mono hg4)).setCell (p := ⟨k + 1, 0, none⟩) (show g ≤ k + 1 by omega) (.int .i64 er))
  obtain ⟨w6, hw6⟩ : ∃ w6, w5.setCell ⟨k + 1, 0, none⟩ (.int .i64 er) = w6 := ⟨_, rfl⟩
  rw [hw6] at c5 hB5 ⊢
  clear hy4 hT4 hB4 hg4 z4 c4 b5 hy5 hw6
  have c6 : w6.drew.cell? ⟨k + 1, 0, none⟩ = some (.int .i64 er) := c5
  go_wp2_with fail
  refine region_seqS (fun w' => w' = w6.drew) (by kernel_rfl) rfl ?_
  simp only [pairs, Nat.reduceAdd]
  repeat (first
    | (refine SeqS.take (v := ?_) (by first | assumption | trivial) (by kernel_rfl) (by decide +kernel) (by decide +kernel) (Or.inl ⟨by rfl, ?_⟩) ?_
       rotate_left
       focus
         intro w' hb'
         go_simp
         with_reducible rfl
       simp only [Act.put, List.setIfInBounds_toArray, List.set_cons_zero, List.set_cons_succ])
    | (refine SeqS.take (v := ?_) (by first | assumption | trivial) (by kernel_rfl) (by decide +kernel) (by decide +kernel) (Or.inl ⟨by rfl, ?_⟩) ?_
       rotate_left
       focus
         intro w' hb'
         (subst hb')
         go_simp
         with_reducible rfl
       simp only [Act.put, List.setIfInBounds_toArray, List.set_cons_zero, List.set_cons_succ])
    | (refine SeqS.take (v := undef) (by first | assumption | trivial) (by kernel_rfl) (by decide +kernel) (by decide +kernel) (Or.inr ⟨by rfl, rfl⟩) ?_
       simp only [Act.put, List.setIfInBounds_toArray, List.set_cons_zero, List.set_cons_succ])
    | (refine SeqS.take1 (v := ?_) (by first | assumption | trivial) (by kernel_rfl) (by decide +kernel) (by decide +kernel) (Or.inl ⟨by rfl, ?_⟩) ?_
       rotate_left
       focus
         intro w' hb'
         go_simp
         with_reducible rfl
       simp only [Act.put, List.setIfInBounds_toArray, List.set_cons_zero, List.set_cons_succ])
    | (refine SeqS.take1 (v := ?_) (by first | assumption | trivial) (by kernel_rfl) (by decide +kernel) (by decide +kernel) (Or.inl ⟨by rfl, ?_⟩) ?_
       rotate_left
       focus
         intro w' hb'
         (subst hb')
         go_simp
         with_reducible rfl
       simp only [Act.put, List.setIfInBounds_toArray, List.set_cons_zero, List.set_cons_succ])
    | (refine SeqS.take1 (v := undef) (by first | assumption | trivial) (by kernel_rfl) (by decide +kernel) (by decide +kernel) (Or.inr ⟨by rfl, rfl⟩) ?_
       simp only [Act.put, List.setIfInBounds_toArray, List.set_cons_zero, List.set_cons_succ])
    | (refine SeqS.take2 (v := ?_) (by first | assumption | trivial) (by kernel_rfl) (by decide +kernel) (by decide +kernel) (Or.inl ⟨by rfl, ?_⟩) ?_
       rotate_left
       focus
         intro w' hb'
         go_simp
         with_reducible rfl
       simp only [Act.put, List.setIfInBounds_toArray, List.set_cons_zero, List.set_cons_succ])
    | (refine SeqS.take2 (v := ?_) (by first | assumption | trivial) (by kernel_rfl) (by decide +kernel) (by decide +kernel) (Or.inl ⟨by rfl, ?_⟩) ?_
       rotate_left
       focus
         intro w' hb'
         (subst hb')
         go_simp
         with_reducible rfl
       simp only [Act.put, List.setIfInBounds_toArray, List.set_cons_zero, List.set_cons_succ])
    | (refine SeqS.take2 (v := undef) (by first | assumption | trivial) (by kernel_rfl) (by decide +kernel) (by decide +kernel) (Or.inr ⟨by rfl, rfl⟩) ?_
       simp only [Act.put, List.setIfInBounds_toArray, List.set_cons_zero, List.set_cons_succ]))
  refine SeqS.done (by decide +kernel) ?_
  go_wp2
  go_ret2
  refine ⟨rfl, ?_⟩
  rw [hgH.out]
  exact Below.drew hB5.out

set_option maxRecDepth 100000 in
set_option maxHeartbeats 1000000 in
theorem open_ok (id : Nat → Nat) (b o m n cap : Nat) (f : Nat → Nat) (w : World) (hG : Glob w) (hT : ErrT w) (hid : By id) (hf : By f) (hI : Ints .u8 w (some ⟨b, o, none⟩) n cap (bytesL n f)) (hmn : m + 32 = n) (hn : n ≤ 600)
    (RF : ∀ ka kac kb kbc w', Glob w' → Ints .u8 w' ka 32 kac (sealA id) → Ints .u8 w' kb 32 kbc (sealB id) → Ints .u8 w' (some ⟨b, o, none⟩) n cap (bytesL n f) → Calls Tryz.prog 24 #[.agg #[.slice ka 32 kac, .slice kb 32 kbc], .slice (some ⟨b, o, none⟩) n cap] w' fun e w'' => e = .returned .nilIface ∧ Below w'.heap.size w' w'') :
    Calls Tryz.prog 13 #[.agg (rowN 32 id).toArray, .slice (some ⟨b, o, none⟩) n cap] w fun e w' => ∃ b c, e = .returned (.tuple #[.slice b m c, .int .i64 0]) ∧ Ints .u8 w' b m c (bytesL m (sealM id f)) ∧ Below w.heap.size w w' := by
  obtain ⟨g, hg⟩ : ∃ g, w.heap.size = g := ⟨_, rfl⟩
  have hx0 : Blk (w.alloc (.cells (rowN 32 id).toArray 23)) w.heap.size 23 (rowN 32 id) := Blk.new w _ _
  have hB0 := below1 w (.cells (rowN 32 id).toArray 23)
  obtain ⟨W0, hW0⟩ : ∃ W0, w.alloc (.cells (rowN 32 id).toArray 23) = W0 := ⟨_, rfl⟩
  rw [hW0] at hx0 hB0
  have hI0 : Ints .u8 W0 (some ⟨b, o, none⟩) n cap (bytesL n f) := hI.keep hB0
  have KP := Lib.hid (show ∀ v v', Ints .u8 v (some ⟨b, o, none⟩) n cap (bytesL n f) → Below v.heap.size v v' → Ints .u8 v' (some ⟨b, o, none⟩) n cap (bytesL n f) from fun _ _ h hb => h.keep hb)
  have hG0 : Glob W0 := hG.keep hB0 (Nat.le_refl _)
  have hT0 : ErrT W0 := hT.keep hB0 (World.block_lt_of_cell? w _ hT)
  have hmH := Lib.hid hmn
  have hnH := Lib.hid hn
  go_enter Tryz.func13, Tryz.ntmps13
  go_wp2_with ((with_reducible refine wpList_box_blk rfl 23 (.tmp 0) rfl (rowN 32 id) ?_ ?_); rfl; refine RowKit.Hid.out ?_)
  refine Lib.hid ?_
  rw [hg] at hx0 hB0
  have hgH := Lib.hid hg
  clear hW0 hg
  clear hI hG hT hmn hn
  have RH := Lib.hid RF
  clear RF
  go_wp2_with ((refine wpList_load_blk rfl 23 (.tmp 2) rfl ?_ hx0 rowId (rowN_len 32 id) ?_); rfl)
  refine (partsOf_any id W0 hG0 hid).mono ?_
  rintro e w1 ⟨ka, kac, kb', kbc, rfl, hA, hBk, b1⟩
  have hI1 := KP.out _ _ hI0 b1
  have hG1 := hG0.keep b1 (Nat.le_refl _)
  have hT1 := hT0.keep b1 (World.block_lt_of_cell? W0 _ hT0)
  have hB1 := hB0.trans (b1.mono (Nat.le_of_lt hx0.lt))
  have hg1 : g ≤ w1.heap.size := Nat.le_trans (Nat.le_of_lt hx0.lt) b1.size
  clear hx0 hB0 hI0 b1 hG0 hT0
  obtain ⟨w3, hw3⟩ : ∃ w3, (w1.alloc (.cells #[.slice ka 32 kac, .slice kb' 32 kbc] 36)).alloc (.cells #[.int .i64 0] 26) = w3 := ⟨_, rfl⟩
  obtain ⟨k, hk⟩ : ∃ k, w1.heap.size = k := ⟨_, rfl⟩
  have b3 : Below w1.heap.size w1 w3 := by rw [← hw3]; exact below2 w1 _ _
  have hk3 : Blk w3 k 36 [.slice ka 32 kac, .slice kb' 32 kbc] := by rw [← hw3, ← hk]; exact (Blk.new w1 36 [.slice ka 32 kac, .slice kb' 32 kbc]).alloc _
  have hy3 : Blk w3 (k + 1) 26 [.int .i64 0] := by rw [← hw3, ← hk]; exact Blk.new1 w1 _ _ [.int .i64 0]
  have hA3 := hA.keep b3
  have hBk3 := hBk.keep b3
  have hI3 := KP.out _ _ hI1 b3
  have hG3 := hG1.keep b3 (Nat.le_refl _)
  have hT3 := hT1.keep b3 (World.block_lt_of_cell? w1 _ hT1)
  have hB3 := hB1.trans (b3.mono hg1)
  have hg3 : g ≤ w3.heap.size := Nat.le_trans hg1 b3.size
  have hgk : g ≤ k := by rw [← hk]; exact hg1
  clear hA hBk hI1 hG1 hT1 hB1 hg1 b3
  go_wp2_with ((refine wpList_load_blk rfl 36 (.tmp 6) rfl ?_ hk3 rowParts rfl ?_); rfl)
  clear hw3 hk
  refine (RH.out ka kac kb' kbc w3 hG3 hA3 hBk3 hI3).mono ?_
  rintro e w4 ⟨rfl, b4⟩
  have hk4 := hk3.keep b4 hk3.lt
  have hA4 := hA3.keep b4
  have hI4 := hI3.keep b4
  have hB4 := hB3.trans (b4.mono hg3)
  have hg4 := Nat.le_trans hg3 b4.size
  clear hA3 hBk3 hI3 hG3 hT3 hB3 hg3 hk3 hy3 b4 RH
  go_wp2_with fail
  refine (as_nil _ _).mono ?_
  rintro e w' ⟨rfl, rfl⟩
  go_wp2_with fail
  refine (cut_any b o m n cap w4 hmH.out hI4.2.1 (by have := hnH.out; omega)).mono ?_
  rintro e w5 ⟨rfl, b5⟩
  have hk5 := hk4.keep b5 hk4.lt
  have hA5 := hA4.keep b5
  have hI5 : Ints .u8 w5 (some ⟨b, o, none⟩) m cap (bytesL m f) := by
    have h := (hI4.keep b5).upto m (by have := hmH.out; omega)
    have h2 := bytes_cut n f 0 m (by have := hmH.out; omega)
    rw [List.drop_zero, show (fun i => f (0 + i)) = f by funext i; rw [Nat.zero_add]] at h2
    rw [h2] at h
    exact h
  have hB5 := Lib.hid (hB4.trans (b5.mono hg4))
  have hg5 := Lib.hid (Nat.le_trans hg4 b5.size)
  clear hk4 hA4 hI4 hB4 hg4 b5
  go_wp2_with ((refine wpList_load_blk rfl 36 (.tmp 6) rfl ?_ hk5 rowParts rfl ?_); rfl)
  refine (masked_any id ka kb' _ kac kbc m cap f w5 hA5 hf hI5 (by have := hmH.out; have := hnH.out; omega)).mono ?_
  rintro e w6 ⟨xb, xc, rfl, ho, b6⟩
  have hXi := own_intsL ho
  have hB6 := Lib.hid (hB5.out.trans (b6.mono hg5.out))
  clear ho b6 hB5 hk5 hA5 hI5
  go_wp2
  go_ret2
  refine ⟨xb, xc, rfl, hXi, ?_⟩
  rw [hgH.out]
  exact hB6.out
end Go.Proofs.YtagacpjeooaapaaGreatDoor
