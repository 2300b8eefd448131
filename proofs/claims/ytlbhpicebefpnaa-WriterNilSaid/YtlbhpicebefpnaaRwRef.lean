/-
  The document's own writer (layer 10): New, Fail, Bytes, Done. New memory alone is written. Conditions: at most a million bytes, where bytes are laid.
-/
import Derived.Test.YtlbhpicebefpnaaRdMoved
import Derived.RegionTactic
import Derived.ChangeAlike
import Derived.Deep.QuietTactic
import Derived.BigQuiet
namespace Go.Proofs.Ytlbhpicebefpnaa
open Go.RowKit

theorem sizeWr : (Try.prog.info? 30).map (·.size) = some 3 := by kernel_rfl
theorem rowWr : IsRow Try.prog 30 3 := IsRow.struct Try.underlying30 sizeWr
/-- The writer as the document's words have it. -/
def wrC (r : Int) (a : Option Addr) (n c : Nat) (e : Int) : List Value := [.int .i64 r, .slice a n c, .int .i64 e]
theorem wr_new1 (w : World) (o : Obj) (r : Int) (a : Option Addr) (n c : Nat) (e : Int) : Blk ((w.alloc o).alloc (.cells #[.int .i64 r, .slice a n c, .int .i64 e] 30)) (w.heap.size + 1) 30 (wrC r a n c e) := Blk.new1 w o _ _

set_option maxRecDepth 100000 in
set_option maxHeartbeats 1000000 in
theorem rwFail_any (r : Int) (a : Option Addr) (n c : Nat) (e x : Int) (w : World) :
    Calls Try.prog 32 #[.agg #[.int .i64 r, .slice a n c, .int .i64 e], .int .i64 x] w fun q w' => q = .returned (.agg #[.int .i64 r, .slice a n c, .int .i64 (badOf e x)]) ∧ Below w.heap.size w w' := by
  unfold badOf
  by_cases h : e = 0
  · subst h
    rw [if_pos rfl]
    go_enter Try.func32, Try.ntmps32
    go_wp2
    refine bodyPost_ret (results_blk rfl rfl (wr_new1 _ _ _ _ _ _ _) rowWr) rfl ?_
    exact ⟨rfl, below2 w _ _⟩
  · rw [if_neg h]
    go_enter Try.func32, Try.ntmps32
    go_wp2
    refine bodyPost_ret (results_blk rfl rfl (wr_new1 _ _ _ _ _ _ _) rowWr) rfl ?_
    exact ⟨rfl, below2 w _ _⟩

set_option maxRecDepth 100000 in
set_option maxHeartbeats 1000000 in
theorem rwNew_any (r : Int) (w : World) :
    Calls Try.prog 9 #[.int .i64 r] w fun q w' => q = .returned (.agg #[.int .i64 (max r 0), .slice none 0 0, .int .i64 0]) ∧ Below w.heap.size w w' := by
  by_cases h : r < 0
  · rw [show max r 0 = 0 by omega]
    go_enter Try.func9, Try.ntmps9
    go_wp2
    refine bodyPost_ret (results_blk rfl rfl (Blk.new w 30 (wrC 0 none 0 0 0)) rowWr) rfl ?_
    exact ⟨rfl, below1 w _⟩
  · rw [show max r 0 = r by omega]
    go_enter Try.func9, Try.ntmps9
    go_wp2
    refine bodyPost_ret (results_blk rfl rfl (Blk.new w 30 (wrC r none 0 0 0)) rowWr) rfl ?_
    exact ⟨rfl, below1 w _⟩

set_option maxRecDepth 100000 in
set_option maxHeartbeats 1000000 in
theorem rwDone_any (r : Int) (a : Option Addr) (n c : Nat) (e : Int) (w : World) :
    Calls Try.prog 12 #[.agg #[.int .i64 r, .slice a n c, .int .i64 e]] w fun q w' => q = .returned (.tuple #[if e = 0 then .slice a n c else .slice none 0 0, .int .i64 e]) ∧ Below w.heap.size w w' := by
  by_cases h : e = 0
  · subst h
    rw [if_pos rfl]
    go_enter Try.func12, Try.ntmps12
    go_wp2
    go_ret2
    exact ⟨rfl, below1 w _⟩
  · rw [if_neg h]
    go_enter Try.func12, Try.ntmps12
    go_wp2
    go_quiet (fail)
    go_wp2
    go_ret2
    exact ⟨rfl, below_drewN (below1 w _) _⟩

set_option maxRecDepth 100000 in
set_option maxHeartbeats 1000000 in
theorem rwBytes_bad (r : Int) (a b : Option Addr) (n c m d : Nat) (e : Int) (w : World) (h : e ≠ 0) :
    Calls Try.prog 29 #[.agg #[.int .i64 r, .slice a n c, .int .i64 e], .slice b m d] w fun q w' => q = .returned (.agg #[.int .i64 r, .slice a n c, .int .i64 e]) ∧ Below w.heap.size w w' := by
  go_enter Try.func29, Try.ntmps29
  go_wp2
  refine bodyPost_ret (results_blk rfl rfl (wr_new1 _ _ _ _ _ _ _) rowWr) rfl ?_
  exact ⟨rfl, below2 w _ _⟩

set_option maxRecDepth 100000 in
set_option maxHeartbeats 1000000 in
theorem rwBytes_long (r : Int) (a b : Option Addr) (n c m d : Nat) (w : World) (hm : n + m ≤ 100000000) (h : r < ((n : Int) + m)) :
    Calls Try.prog 29 #[.agg #[.int .i64 r, .slice a n c, .int .i64 0], .slice b m d] w fun q w' => q = .returned (.agg #[.int .i64 r, .slice a n c, .int .i64 3]) ∧ Below w.heap.size w w' := by
  have h1 : (n : Int) + (m : Int) ≤ 100000000 := by omega
  go_enter Try.func29, Try.ntmps29
  go_wp2_with fail
  obtain ⟨V, hV⟩ : ∃ V, (w.alloc (.cells #[.int .i64 r, .slice a n c, .int .i64 0] 30)).alloc (.cells #[.int .i64 0, .slice none 0 0, .int .i64 0] 30) = V := ⟨_, rfl⟩
  have hx : Blk V w.heap.size 30 (wrC r a n c 0) := by rw [← hV]; exact (Blk.new w _ (wrC r a n c 0)).alloc _
  have hr : Blk V (w.heap.size + 1) 30 (wrC 0 none 0 0 0) := by rw [← hV]; exact Blk.new1 w _ _ (wrC 0 none 0 0 0)
  have hB : Below w.heap.size w V := by rw [← hV]; exact below2 w _ _
  rw [hV]
  clear hV
  refine (rwFail_any r a n c 0 3 V).mono ?_
  rintro q w2 ⟨rfl, b2⟩
  have hr2 := hr.keep b2 hr.lt
  have hB2 := hB.trans (b2.mono (Nat.le_of_lt hx.lt))
  rw [show badOf 0 3 = 3 from rfl]
  go_wp2_with (refine wpList_store_part (cur := wrC 0 none 0 0 0) (cs := wrC r a n c 3) rfl 30 (.tmp 4) (.tmp 19) rfl rfl rfl hr2 rowWr (by simp [wrC]) (by simp [wrC, Value.oneCell']) ?_; intro w9 hR9 hg9)
  have hR9 := hR9.cast (overV_all _ _ (by rfl))
  (try simp only [Exit.inBlock, Exit.then])
  refine bodyPost_ret (results_blk rfl rfl hR9 rowWr) rfl ?_
  exact ⟨rfl, hB2.trans (below_of_grown hg9 (Nat.le_succ _) hr2.lt)⟩

set_option maxRecDepth 100000 in
set_option maxHeartbeats 1000000 in
theorem rwBytes_ok (r : Int) (a b : Option Addr) (n c m d : Nat) (xs ys : List Int) (w : World) (hI : Ints .u8 w a n c xs) (hJ : Ints .u8 w b m d ys) (hm : n + m ≤ 100000000) (h : ¬ r < ((n : Int) + m)) :
    Calls Try.prog 29 #[.agg #[.int .i64 r, .slice a n c, .int .i64 0], .slice b m d] w fun q w' => ∃ a' c', q = .returned (.agg #[.int .i64 r, .slice a' (n + m) c', .int .i64 0]) ∧ w'.ownsRow w.heap.size 5 1 (.slice a' (n + m) c') (n + m) ((xs ++ ys).map (Value.int .u8)) ∧ Below w.heap.size w w' := by
  have h1 : (n : Int) + (m : Int) ≤ 100000000 := by omega
  have hmH := Lib.hid hm
  obtain ⟨i0, hi, hz0, hz1, hz2⟩ := info_u8b
  clear hm
  go_enter Try.func29, Try.ntmps29
  go_wp2_with (at_builtin; refine RowKit.Hid.out ?_)
  refine Lib.hid ?_
  obtain ⟨G, hG⟩ : ∃ G, w.heap.size = G := ⟨_, rfl⟩
  obtain ⟨V, hV⟩ : ∃ V, ((w.alloc (.cells #[.int .i64 r, .slice a n c, .int .i64 0] 30)).alloc (.cells #[.int .i64 0, .slice none 0 0, .int .i64 0] 30)) = V := ⟨_, rfl⟩
  have hx : Blk V G 30 (wrC r a n c 0) := by rw [← hV, ← hG]; exact (Blk.new w _ (wrC r a n c 0)).alloc _
  have hr : Blk V (G + 1) 30 (wrC 0 none 0 0 0) := by rw [← hV, ← hG]; exact Blk.new1 w _ _ (wrC 0 none 0 0 0)
  have hB : Below G w V := by rw [← hV, ← hG]; exact below2 w _ _
  have hs : V.heap.size = G + 2 := by rw [← hV, ← hG]; exact size2 w _ _
  have q3 : Below (G + 2) V (V.alloc (.cells #[] 5)) := by rw [← hs]; exact below1 V _
  have hB3 : Below G w (V.alloc (.cells #[] 5)) := hB.trans (q3.mono (by omega))
  have I3 : Ints .u8 (V.alloc (.cells #[] 5)) a n c xs := hI.keep (by rw [hG]; exact hB3)
  have J3 : Ints .u8 (V.alloc (.cells #[] 5)) b m d ys := hJ.keep (by rw [hG]; exact hB3)
  have hx3 := hx.alloc (.cells #[] 5)
  have hr3 := hr.alloc (.cells #[] 5)
  have own3 : (V.alloc (.cells #[] 5)).ownsRow (G + 2) 5 1 (.slice (some ⟨w.heap.size + 1 + 1, 0, none⟩) 0 0) 0 [] := by
    have h := World.ownsRow_made (base := G + 2) (e := 5) (size := 1) V #[] 0 (by omega) (Nat.zero_le _) rfl
    rw [hs] at h
    rw [hG]
    exact h
  have hs3 : G + 2 ≤ (V.alloc (.cells #[] 5)).heap.size := by rw [size1]; omega
  obtain ⟨W3, hW3⟩ : ∃ W3, V.alloc (.cells #[] 5) = W3 := ⟨_, rfl⟩
  rw [hV, hW3]
  rw [hW3] at own3 hx3 hr3 I3 J3 hB3 hs3
  have hGH := Lib.hid hG
  have hIH := Lib.hid hI.len
  clear hV hW3 hB q3 hx hr hs hI J3
  refine wpList_append_ints rfl (.tmp 20) (.tmp 22) 27 rfl (G + 2) 5 i0 (.int .u8 0) 1 Try.underlying27 hi hz0 hz1 hz2 rfl rfl own3 rfl I3 ?_ ?_ hs3 ?_
  · have := hmH.out; unfold maxLen; omega
  · have := hmH.out; omega
  intro v4 w4 own4 g4
  rw [List.nil_append, Nat.zero_add] at own4
  have hB4 : Below G w w4 := hB3.grown g4 (by omega) (fun k hk => by have := (own3.lt k hk).1; omega)
  have J4 : Ints .u8 w4 b m d ys := hJ.keep (by rw [hG]; exact hB4)
  have hx4 := hx3.grown g4 (fun e => by have := (own3.lt G e.symm).1; omega)
  have hr4 := hr3.grown g4 (fun e => by have := (own3.lt (G + 1) e.symm).1; omega)
  have hs4 : G + 2 ≤ w4.heap.size := Nat.le_trans hs3 g4.size
  have hsl4 : ∃ a4 c4, v4 = .slice a4 n c4 := own_slice own4
  obtain ⟨a4, c4, hv4⟩ := hsl4
  rw [hv4] at own4 ⊢
  clear g4 hB3 own3 hx3 hr3 hs3 hv4 hG
  go_wp2_with (at_builtin
               refine wpList_append_ints rfl (.tmp 23) (.tmp 24) 27 rfl (G + 2) 5 i0 (.int .u8 0) 1 Try.underlying27 hi hz0 hz1 hz2 rfl rfl own4 rfl J4 ?_ ?_ hs4 ?_
               (have := hmH.out; unfold maxLen; omega)
               (have := hmH.out; omega)
               intro v5 w5 own5 g5
               refine RowKit.Hid.out ?_)
  refine Lib.hid ?_
  rw [← List.map_append] at own5
  have hB5 : Below G w w5 := hB4.grown g5 (by omega) (fun k hk => by have := (own4.lt k hk).1; omega)
  have hx5 := hx4.grown g5 (fun e => by have := (own4.lt G e.symm).1; omega)
  have hr5 := hr4.grown g5 (fun e => by have := (own4.lt (G + 1) e.symm).1; omega)
  have hsl5 : ∃ a5 c5, v5 = .slice a5 (n + m) c5 := own_slice own5
  obtain ⟨a5, c5, hv5⟩ := hsl5
  rw [hv5] at own5 ⊢
  rw [hGH.out]
  have c1 : w5.cell? ⟨G, 1, none⟩ = some (.slice a n c) := hx5.cell 1
  have f1 := hx5.frozen 1
  have hxs := hx5.set 1 (.slice a5 (n + m) c5)
  have hrs := hr5.far (p := ⟨G, 1, none⟩) (by simp) (.slice a5 (n + m) c5)
  have hBs : Below G w (w5.setCell ⟨G, 1, none⟩ (.slice a5 (n + m) c5)) := hB5.setCell (p := ⟨G, 1, none⟩) (Nat.le_refl _) _
  have own6 := own_far9 own5 (grown_setCell w5 G 1 (.slice a5 (n + m) c5)) (by omega)
  have hxs := hxs.cast (cs' := wrC r a5 (n + m) c5 0) rfl
  clear g5 own4 J4 hx4 hr4 hs4 hB4 hv5
  go_wp2_with (first
    | ((refine wpList_load_blk rfl 30 (.tmp 2) rfl ?_ hxs rowWr rfl ?_); rfl)
    | (refine wpList_store_part (cur := wrC 0 none 0 0 0) (cs := wrC r a5 (n + m) c5 0) rfl 30 (.tmp 4) (.tmp 27) rfl rfl rfl hrs rowWr (by simp [wrC]) (by simp [wrC, Value.oneCell']) ?_; intro w9 hR9 hg9))
  have hR9 := hR9.cast (overV_all _ _ (by rfl))
  (try simp only [Exit.inBlock, Exit.then])
  refine bodyPost_ret (results_blk rfl rfl hR9 rowWr) rfl ?_
  have own9 := own_far9 own6 hg9 (by omega)
  refine ⟨a5, c5, rfl, ?_, ?_⟩
  · rw [hGH.out]
    exact own_low9 own9 (by omega)
  · rw [hGH.out]
    exact hBs.trans (below_of_grown hg9 (Nat.le_succ _) hrs.lt)
end Go.Proofs.Ytlbhpicebefpnaa
