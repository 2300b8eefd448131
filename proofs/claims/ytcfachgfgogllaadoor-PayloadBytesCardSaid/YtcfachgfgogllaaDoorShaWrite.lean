/-
  What Write of package sha comes to: the hash is told these bytes, behind all others. Conditions: the package's variables hold the constants and the starts; the bytes lie elsewhere than in the hash; at most 2^32 bytes in all.
-/
import Derived.Test.YtcfachgfgogllaaDoorShaHash
namespace Go.Proofs.YtcfachgfgogllaaDoor
open Go.RowKit

theorem sizeU8 : (Tryd.prog.info? 5).map (·.size) = some 1 := by kernel_rfl
def lenOf : Value → Nat | .slice _ n _ => n | _ => 0

/-- A state laid into a hash, word by word. -/
theorem set8 {w : World} {g : Nat} {t : TypeId} {S : S8} {rest : List Int} {n : Nat} (hB : Blk w g t (hcells S rest n)) (T : S8) :
    Blk ((((((((w.setCell ⟨g, 0, none⟩ (.int .u32 T.a)).setCell ⟨g, 1, none⟩ (.int .u32 T.b)).setCell ⟨g, 2, none⟩ (.int .u32 T.c)).setCell ⟨g, 3, none⟩ (.int .u32 T.d)).setCell ⟨g, 4, none⟩ (.int .u32 T.e)).setCell ⟨g, 5, none⟩ (.int .u32 T.f)).setCell ⟨g, 6, none⟩ (.int .u32 T.g)).setCell ⟨g, 7, none⟩ (.int .u32 T.h)) g t (hcells T rest n) ∧ w.grownBy ((((((((w.setCell ⟨g, 0, none⟩ (.int .u32 T.a)).setCell ⟨g, 1, none⟩ (.int .u32 T.b)).setCell ⟨g, 2, none⟩ (.int .u32 T.c)).setCell ⟨g, 3, none⟩ (.int .u32 T.d)).setCell ⟨g, 4, none⟩ (.int .u32 T.e)).setCell ⟨g, 5, none⟩ (.int .u32 T.f)).setCell ⟨g, 6, none⟩ (.int .u32 T.g)).setCell ⟨g, 7, none⟩ (.int .u32 T.h)) (some g) :=
  ⟨((((((((hB.set 0 (.int .u32 T.a)).set 1 (.int .u32 T.b)).set 2 (.int .u32 T.c)).set 3 (.int .u32 T.d)).set 4 (.int .u32 T.e)).set 5 (.int .u32 T.f)).set 6 (.int .u32 T.g)).set 7 (.int .u32 T.h)).cast rfl, grown_trans (grown_trans (grown_trans (grown_trans (grown_trans (grown_trans (grown_trans (grown_setCell w g 0 _) (grown_setCell _ g 1 _)) (grown_setCell _ g 2 _)) (grown_setCell _ g 3 _)) (grown_setCell _ g 4 _)) (grown_setCell _ g 5 _)) (grown_setCell _ g 6 _)) (grown_setCell _ g 7 _)⟩
theorem takeIn_out (s : S8) (a : Option Addr) (cap : Nat) (bs : List Int) (w : World) (hs : s.ok) (h : Ints .u8 w a 64 cap bs) (hx : ∀ x ∈ bs, 0 ≤ x ∧ x < 256) (hG : Glob w) (T : S8) (hT : T = take8 s bs) :
    Calls Tryd.prog 65 #[.agg #[.int .u32 s.a, .int .u32 s.b, .int .u32 s.c, .int .u32 s.d, .int .u32 s.e, .int .u32 s.f, .int .u32 s.g, .int .u32 s.h], .slice a 64 cap] w fun e w' => e = .returned (.agg #[.int .u32 T.a, .int .u32 T.b, .int .u32 T.c, .int .u32 T.d, .int .u32 T.e, .int .u32 T.f, .int .u32 T.g, .int .u32 T.h]) ∧ Below w.heap.size w w' := by
  subst hT
  exact takeIn_any s a cap bs w hs h hx hG

set_option maxRecDepth 100000 in
set_option maxHeartbeats 400000 in
theorem writeNil_any (a : Option Addr) (n cap : Nat) (w : World) : Calls Tryd.prog 56 #[.pointer none, .slice a n cap] w fun e w' => e = .returned (.int .i64 0) ∧ w = w' := by
  go_enter Tryd.func56, Tryd.ntmps56
  go_wp2
  go_ret
  exact ⟨rfl, rfl⟩

set_option maxRecDepth 100000 in
set_option maxHeartbeats 1600000 in
theorem write_any (g : Nat) (xs : List Int) (a : Option Addr) (n cap : Nat) (bs : List Int) (w : World) (hh : HashAt w g xs) (hG : Glob w) (h : Ints .u8 w a n cap bs) (hx : ∀ x ∈ bs, 0 ≤ x ∧ x < 256) (hne : ∀ x, a = some x → 0 < n → x.block ≠ g) (hn : xs.length + n ≤ 4294967296) :
    Calls Tryd.prog 56 #[.pointer (some ⟨g, 0, none⟩), .slice a n cap] w fun e w' => e = .returned (.int .i64 n) ∧ HashAt w' g (xs ++ bs) ∧ w.grownBy w' (some g) := by
  have hglt := hh.lt
  have HL := Lib.hid h.len
  go_enter Tryd.func56, Tryd.ntmps56
  go_wp2_with fail
  go_loopw [1] (fun s wr => ∃ (k m c : Nat) (A : Option Addr), k + m = n ∧ s = .slice A m c ∧ Ints .u8 wr A m c (bs.drop k) ∧ (∀ x, A = some x → 0 < m → x.block ≠ g) ∧ HashAt wr g (xs ++ bs.take k) ∧ w.grownBy wr (some g)) (fun s _ => lenOf s)
  case atStart => exact ⟨0, n, cap, a, by omega, rfl, h, hne, by simpa using hh, grown_refl _ _⟩
  case round =>
    obtain ⟨k, m, c, A, hkm, rfl, hA, hAne, hH, hg⟩ := hrel
    have hGr := hh.far hG hg
    by_cases hm : m = 0
    · have hend := Lib.hid (show bs.take k = bs from List.take_of_length_le (by rw [HL.out]; omega))
      have m1 : (m : Int) ≤ 0 := by omega
      go_wp2
      go_ret
      rw [hend.out] at hH
      exact ⟨rfl, hH, hg⟩
    · obtain ⟨ys, hys⟩ : ∃ ys, ys = xs ++ bs.take k := ⟨_, rfl⟩
      rw [← hys] at hH
      have hyl : ys.length = xs.length + k := by rw [hys, List.length_append, List.length_take, HL.out]; omega
      obtain ⟨rest, hT, hrr, hB, hk1, hk2⟩ := hH
      obtain ⟨L, hL⟩ : ∃ L, L = ys.length := ⟨_, rfl⟩
      obtain ⟨r, hr⟩ : ∃ r, r = L % 64 := ⟨_, rfl⟩
      obtain ⟨d, hd⟩ : ∃ d, d = min (64 - r) m := ⟨_, rfl⟩
      have hLb : L ≤ 4294967296 := by omega
      have hrl : r < 64 := by omega
      have hdm : d ≤ m := by omega
      have hd0 : 0 < d := by omega
      have hdr : r + d ≤ 64 := by omega
      have hlast : r + d = 64 ∨ (d = m ∧ r + d < 64) := by omega
      have cl := hB.cell 72
      rw [hcells_len _ _ _ hT.len, ← hL] at cl
      have hmod : (L : Int) % 64 = (r : Int) := by omega
      have htm : (L : Int).tmod 64 = (r : Int) := by rw [Int.tmod_eq_emod_of_nonneg (by omega)]; exact hmod
      obtain ⟨cs, hcs⟩ : ∃ cs, cs = (bs.drop k).take d := ⟨_, rfl⟩
      have hlc : cs.length = d := by rw [hcs, List.length_take, List.length_drop, HL.out]; omega
      have hcr : ∀ x ∈ cs, 0 ≤ x ∧ x < 256 := by rw [hcs]; exact fun x hxm => hx x (List.mem_of_mem_drop (List.mem_of_mem_take hxm))
      have CF : CopyFits wr.drew (some ⟨g, 8 + r, none⟩) A m (64 - r) g (8 + r) (hcells (chain8 ys (ys.length / 64)) rest ys.length).length (cs.map (Value.int .u8)) := by
        rw [hcs]
        exact (show Ints .u8 wr.drew A m c (bs.drop k) from hA.keep (Below.drew (Below.refl _ _))).copyFits (by rw [hd]; exact Nat.min_comm _ _) (fun _ => rfl) (by rw [hcells_length _ _ _ hT.len]; omega)
      have hnext : bs.take (k + d) = bs.take k ++ cs := by rw [hcs, List.take_add]
      have HNX := Lib.hid (show xs ++ bs.take (k + d) = ys ++ cs by rw [hnext, hys, List.append_assoc])
      have hov : overV (hcells (chain8 ys (ys.length / 64)) rest ys.length) (8 + r) (cs.map (Value.int .u8)) = hcells (chain8 ys (ys.length / 64)) (over rest r cs) L := by
        rw [hcells_over _ _ _ _ _ (by rw [hlc, hT.len]; omega), hL]
      have HOV := Lib.hid hov
      have HR2 : (over rest r cs).length = 64 := by rw [over_length _ _ _ (by rw [hlc, hT.len]; omega)]; exact hT.len
      have hrr2 : ∀ x ∈ over rest r cs, 0 ≤ x ∧ x < 256 := by
        intro x hxm
        unfold over at hxm
        rcases List.mem_append.1 hxm with hxm | hxm
        · exact hrr x (List.mem_of_mem_take hxm)
        · rcases List.mem_append.1 hxm with hxm | hxm
          · exact hcr x hxm
          · exact hrr x (List.mem_of_mem_drop hxm)
      have hr' : ys.length % 64 = r := by rw [hr, hL]
      have HPART := Lib.hid (fun (hp : r + d < 64) => (show Told (ys ++ cs) (over rest r cs) ∧ chain8 (ys ++ cs) ((ys ++ cs).length / 64) = chain8 ys (ys.length / 64) by
        have := hT.part (cs := cs) (by rw [hr', hlc]; exact hp); rwa [hr'] at this))
      have HFULL := Lib.hid (fun (hp : r + d = 64) => (show Told (ys ++ cs) (over rest r cs) ∧ chain8 (ys ++ cs) ((ys ++ cs).length / 64) = take8 (chain8 ys (ys.length / 64)) (over rest r cs) by
        have := hT.full (cs := cs) (by rw [hr', hlc]; exact hp); rwa [hr'] at this))
      have HLEN := Lib.hid (show (ys ++ cs).length = L + d by rw [List.length_append, hlc, hL])
      have okS := chain8_ok ys (ys.length / 64)
      obtain ⟨S, hS⟩ : ∃ S, S = chain8 ys (ys.length / 64) := ⟨_, rfl⟩
      obtain ⟨rest2, hr2⟩ : ∃ r2, r2 = over rest r cs := ⟨_, rfl⟩
      rw [← hS, ← hr2] at HPART HFULL HOV
      rw [← hS] at okS hB CF
      rw [← hr2] at HR2 hrr2
      have HLC := Lib.hid (show (cs.map (Value.int .u8)).length = d by rw [List.length_map]; exact hlc)
      have hfull : r + d = 64 → ((L : Int) + (d : Int)) % 64 = 0 := by omega
      have hpart : r + d < 64 → ((L : Int) + (d : Int)) % 64 ≠ 0 := by omega
      clear hr' hd hr hL hys hyl hcs hlc hnext hov hr2 hS hT hrr hcr
      have m0 : (0 : Int) < (m : Int) := by omega
      have d0' : (0 : Int) ≤ (d : Int) := by omega
      have d1' : (d : Int) ≤ 64 := by omega
      have L0' : (0 : Int) ≤ (L : Int) := by omega
      have L1' : (L : Int) ≤ 4294967296 := by omega
      have n64 : ¬ 64 = r := by omega
      have r0 : (r : Int) ≤ 64 := by omega
      have hadd : (⟨g, 8, none⟩ : Addr).add r = ⟨g, 8 + r, none⟩ := Addr.add_mid _ _ _
      go_wp2_with fail
      refine wp_region_still_tail 10 (by kernel_rfl) (by kernel_rfl) ?_
      simp only [List.take_succ_cons, List.take_zero, List.drop_succ_cons, List.drop_zero]
      repeat still_step
      refine wpStill_nil ?_
      change wpList _ _ _ _ _ wr.drew
      clear htm hmod n64 r0 hadd
      have hBd := hB.drew
      have HF := Lib.hid hfull
      have HP := Lib.hid hpart
      clear hfull hpart hB cl
      go_wp2_with (with_reducible refine wpList_copy_num rfl (.tmp 22) (.tmp 23) 27 27 rfl 5 Tryd.underlying27 sizeU8 rfl rfl hBd CF d HLC.out ?_)
      intro w2 hB2 hg2
      rw [HOV.out] at hB2
      have c2 := hB2.cell 72
      rw [hcells_len _ _ _ HR2] at c2
      have f2 := hB2.frozen 72
      have hB3 := hB2.set 72 (.int .u64 ((L : Int) + (d : Int)))
      rw [hcells_setLen' _ _ _ _ HR2] at hB3
      obtain ⟨w3, hw3⟩ : ∃ w3, w3 = w2.setCell ⟨g, 72, none⟩ (.int .u64 ((L : Int) + (d : Int))) := ⟨_, rfl⟩
      rw [← hw3] at hB3
      have HW3 := Lib.hid hw3
      have hg3 : w2.grownBy w3 (some g) := by rw [hw3]; exact grown_setCell _ _ _ _
      have hgw : wr.grownBy w3 (some g) := grown_trans (grown_trans (grown_drew (grown_refl _ _)) hg2) hg3
      have hGw : Glob w3 := hGr.grown hgw (by omega) (by omega)
      have hA3 := (hA.grown hgw hAne).cutAt d hdm
      have hA3ne : ∀ x, cutAddr A c d = some x → 0 < m - d → x.block ≠ g := by
        intro x hx0 hp
        obtain ⟨y, hy, hyb⟩ := cutAddr_block hx0
        rw [← hyb]; exact hAne y hy (by omega)
      have hdrop : (bs.drop k).drop d = bs.drop (k + d) := by rw [List.drop_drop]
      rw [hdrop] at hA3
      clear hw3 hdrop hA hBd hg2 hg3 CF hAne
      have c3 := hB3.cell 72
      rw [hcells_len' _ _ _ _ HR2] at c3
      rcases hlast with hl | ⟨hl1, hl2⟩
      · have hz := HF.out hl
        obtain ⟨hT', hch⟩ := HFULL.out hl
        have HCH := Lib.hid hch
        have HZ := Lib.hid hz
        clear hch hz HF HP HPART HFULL
        go_wp2_with ((with_reducible refine wpList_cut rfl 27 5 (.tmp 34) (.tmp 35) rfl Tryd.underlying27 sizeU8 (A := A) (m := m) (c := c) ?_ (k := .i64) (l := d) ?_ hdm ?_); rfl; rfl; rw [← HW3.out]; clear c2 f2 hB2; have hz := HZ.out)
        have cS : ∀ j, j < 8 → w3.cell? ⟨g, j, none⟩ = some (.int .u32 (S.list.getD j 0)) := fun j hj => by
          have := hcells_state S rest2 (L + d) j _ (getElem?_mapInt .u32 S.list j hj)
          rw [Nat.zero_add] at this
          rw [hB3.cell, this]
        have s0 := cS 0 (by omega)
        have s1 := cS 1 (by omega)
        have s2 := cS 2 (by omega)
        have s3 := cS 3 (by omega)
        have s4 := cS 4 (by omega)
        have s5 := cS 5 (by omega)
        have s6 := cS 6 (by omega)
        have s7 := cS 7 (by omega)
        simp only [S8.list, List.getD_cons_zero, List.getD_cons_succ] at s0 s1 s2 s3 s4 s5 s6 s7
        have hR3 : Ints .u8 w3.drew (some ⟨g, 8, none⟩) 64 64 rest2 := Ints.of_blk (hB3.drew) HR2 (Nat.le_refl _) (fun i hi => hcells_rest _ _ _ _ (by rw [HR2]; exact hi))
        have hGd : Glob w3.drew := hGw.keep (Below.drew (Below.refl _ _)) (Nat.le_refl _)
        clear cS hz
        obtain ⟨T, hTT⟩ : ∃ T, T = take8 S rest2 := ⟨_, rfl⟩
        have HT := Lib.hid hTT
        clear hTT
        have HR3 := Lib.hid hR3; have HGd := Lib.hid hGd
        clear hR3 hGd
        go_region_with ((go_at_call 65
                         refine (takeIn_out S (some ⟨g, 8, none⟩) 64 rest2 w3.drew okS HR3.out hrr2 HGd.out T HT.out).mono ?_
                         rintro e w4 ⟨rfl, hb4⟩
                         have hB4 := hB3.drew.keep hb4 hB3.lt
                         have cT : ∀ j, j < 8 → w4.cell? ⟨g, j, none⟩ = some (.int .u32 (S.list.getD j 0)) := fun j hj => by
                           have := hcells_state S rest2 (L + d) j _ (getElem?_mapInt .u32 S.list j hj)
                           rw [Nat.zero_add] at this
                           rw [hB4.cell, this]
                         have t0 := cT 0 (by omega)
                         have t1 := cT 1 (by omega)
                         have t2 := cT 2 (by omega)
                         have t3 := cT 3 (by omega)
                         have t4 := cT 4 (by omega)
                         have t5 := cT 5 (by omega)
                         have t6 := cT 6 (by omega)
                         have t7 := cT 7 (by omega)
                         have f0 := hB4.frozen 0
                         have f1 := hB4.frozen 1
                         have f2 := hB4.frozen 2
                         have f3 := hB4.frozen 3
                         have f4 := hB4.frozen 4
                         have f5 := hB4.frozen 5
                         have f6 := hB4.frozen 6
                         have f7 := hB4.frozen 7
                         simp only [S8.list, List.getD_cons_zero, List.getD_cons_succ] at t0 t1 t2 t3 t4 t5 t6 t7
                         clear cT s0 s1 s2 s3 s4 s5 s6 s7))
        go_wp2_with fail
        go_roundw
        case rel =>
          obtain ⟨hB5, hg5⟩ := set8 hB4 T
          have hg35 := grown_trans (grown_trans (grown_drew (grown_refl w3 (some g))) (grown_of_below hb4 _)) hg5
          exact ⟨k + d, m - d, c - d, cutAddr A c d, by omega, rfl, hA3.grown hg35 hA3ne, hA3ne, by rw [HNX.out]; exact ⟨rest2, hT', hrr2, by rw [HCH.out, HLEN.out, ← HT.out]; exact hB5, hk1, hk2⟩, grown_trans (grown_trans hg hgw) hg35⟩
        case measure => simp [lenOf]; omega
      · have hz : ((((L : Int) + (d : Int)) % 64 == 0) = false) := by simpa using HP.out hl2
        obtain ⟨hT', hch⟩ := HPART.out hl2
        have HCH := Lib.hid hch
        have HZ := Lib.hid hz
        clear hch hz HF HP HPART HFULL hl1 hl2
        go_wp2_with ((with_reducible refine wpList_cut rfl 27 5 (.tmp 34) (.tmp 35) rfl Tryd.underlying27 sizeU8 (A := A) (m := m) (c := c) ?_ (k := .i64) (l := d) ?_ hdm ?_); rfl; rfl; rw [← HW3.out]; clear c2 f2 hB2; have hz := HZ.out)
        go_roundw
        case rel => exact ⟨k + d, m - d, c - d, cutAddr A c d, by omega, rfl, hA3, hA3ne, by rw [HNX.out]; exact ⟨rest2, hT', hrr2, by rw [HCH.out, HLEN.out]; exact hB3, hk1, hk2⟩, grown_trans hg hgw⟩
        case measure => simp [lenOf]; omega
end Go.Proofs.YtcfachgfgogllaaDoor
