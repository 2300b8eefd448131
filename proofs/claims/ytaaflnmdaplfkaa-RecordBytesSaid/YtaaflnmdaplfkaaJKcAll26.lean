/-
  Texts of stages that were proved on their own, joined: KcEncode, KcEnc, KfDecodeU, KcAlive, KcLawR, KcLawB. Each begins with its own words.
-/
import Derived.Test.YtaaflnmdaplfkaaJKcAll25
import Derived.Test.YtaaflnmdaplfkaaJKcAll23
import Derived.Test.YtaaflnmdaplfkaaJKcAll20
import Derived.LoopN
import Derived.Test.YtaaflnmdaplfkaaJKcAll24
import Derived.Test.YtaaflnmdaplfkaaJKcAll18

/-
  What each part of a record writes, on a writer that has laid L. New memory alone is written, and the writer's own. Conditions: the fields' ranges; the room is not used up.
-/
namespace Go.Proofs.Ytaaflnmdaplfkaa
open Go.RowKit

theorem we_fail0 {R : Int} {V w : World} {F0 : Nat → Prop} {g : Nat} {L : List Int} (h : We R V F0 g w L) (hm0 : L.length ≤ 80000000) :
    Calls Try.prog 65 #[.pointer (some ⟨g, 0, none⟩), .int .i64 0] w fun q w' => q = .returned (.tuple #[]) ∧ We R V F0 g w' L := by
  obtain ⟨F, hw, hg, hm⟩ := h
  refine (wFail_any hw 0 (by omega)).mono ?_
  rintro q w' ⟨F', rfl, hw', hg', hm'⟩
  exact ⟨rfl, We.step hg hm hw' hg' hm'⟩
theorem We.rebase {R : Int} {V w W : World} {F0 : Nat → Prop} {g : Nat} {L : List Int} (hD : We R V F0 g w L) (hb : Below w.heap.size w W) :
    ∃ F, We R W F g W L ∧ (∀ b, F b → b < w.heap.size) ∧ Grows F0 F V ∧ Moved F0 V W ∧ ∀ w' L', We R W F g w' L' → We R V F0 g w' L' := by
  obtain ⟨F, hw, hg, hm⟩ := hD
  have hm1 : Moved F0 V W := hm.then (Moved.of_below hb)
  refine ⟨F, We.start (hw.keep (fun b hf => hb.block b (hw.lt b hf)) hb.size), hw.lt, hg, hm1, ?_⟩
  rintro w' L' ⟨F', hw', hg', hm'⟩
  exact We.step hg hm1 hw' hg' hm'

set_option maxRecDepth 100000 in
set_option maxHeartbeats 2000000 in
theorem kcSession_any (K S Q O : Int) (H : List Int) (a : Option Addr) (n c : Nat) (h p : List Int) (b : Option Addr) (m d : Nat) (w : World) (hl : H.length = 16) (hh : h.length = 32) (hp : p.length = 32) (hs : 0 ≤ S ∧ S < 4294967296) {R : Int} {V : World} {F0 : Nat → Prop} {g : Nat} {L : List Int} (hD : We R V F0 g w L) (hR : (L.length : Int) + 4 ≤ R) (hm0 : L.length ≤ 80000000) :
    Calls Try.prog 40 #[.agg (rcC K S Q O H a n c h p b m d).toArray, .pointer (some ⟨g, 0, none⟩)] w fun q w' => q = .returned (.tuple #[]) ∧ We R V F0 g w' (L ++ beL S 4) := by
  have hCl := rcC_len (K := K) (S := S) (Q := Q) (O := O) (a := a) (n := n) (c := c) (b := b) (m := m) (d := d) hl hh hp
  obtain ⟨C, hC⟩ : ∃ C, rcC K S Q O H a n c h p b m d = C := ⟨_, rfl⟩
  rw [hC] at hCl
  rw [hC]
  have hb := below1 w (.cells C.toArray 50)
  have hk : Blk (w.alloc (.cells C.toArray 50)) w.heap.size 50 C := Blk.new w _ C
  obtain ⟨V1, hV⟩ : ∃ V, w.alloc (.cells C.toArray 50) = V := ⟨_, rfl⟩
  rw [hV] at hb hk
  have hD1 := hD.keep hb
  rw [← hC] at hk
  have c1 := rc1 hk
  have s64 : IntKind.u64.wrap S = S := by rw [IntKind.wrap_u64]; omega
  have cw := we_num hD1 S 4 ⟨by decide, by decide, by show S < 4294967296; exact hs.2⟩ hs.1 hR hm0
  clear hC hk hb hD hD1
  go_enter Try.func40, Try.ntmps40
  go_wp2_with ((with_reducible refine box_row rfl 50 (.tmp 0) rfl C ?_ ?_); rfl; refine RowKit.Hid.out ?_)
  refine Lib.hid ?_
  clear hV
  go_wp2_with fail
  refine cw.mono ?_
  rintro q w2 ⟨rfl, hD2⟩
  go_wp2
  go_end0
  exact ⟨rfl, hD2⟩

set_option maxRecDepth 100000 in
set_option maxHeartbeats 2000000 in
theorem kcQuota_any (K S Q O : Int) (H : List Int) (a : Option Addr) (n c : Nat) (h p : List Int) (b : Option Addr) (m d : Nat) (w : World) (hl : H.length = 16) (hh : h.length = 32) (hp : p.length = 32) (ho : 0 ≤ O ∧ O < 256) {R : Int} {V : World} {F0 : Nat → Prop} {g : Nat} {L : List Int} (hD : We R V F0 g w L) (hR : (L.length : Int) + 1 ≤ R) (hm0 : L.length ≤ 80000000) :
    Calls Try.prog 41 #[.agg (rcC K S Q O H a n c h p b m d).toArray, .pointer (some ⟨g, 0, none⟩)] w fun q w' => q = .returned (.tuple #[]) ∧ We R V F0 g w' (L ++ beL O 1) := by
  have hCl := rcC_len (K := K) (S := S) (Q := Q) (O := O) (a := a) (n := n) (c := c) (b := b) (m := m) (d := d) hl hh hp
  obtain ⟨C, hC⟩ : ∃ C, rcC K S Q O H a n c h p b m d = C := ⟨_, rfl⟩
  rw [hC] at hCl
  rw [hC]
  have hb := below1 w (.cells C.toArray 50)
  have hk : Blk (w.alloc (.cells C.toArray 50)) w.heap.size 50 C := Blk.new w _ C
  obtain ⟨V1, hV⟩ : ∃ V, w.alloc (.cells C.toArray 50) = V := ⟨_, rfl⟩
  rw [hV] at hb hk
  have hD1 := hD.keep hb
  rw [← hC] at hk
  have c3 := rc3 hk
  have o64 : IntKind.u64.wrap O = O := by rw [IntKind.wrap_u64]; omega
  have cw := we_num hD1 O 1 ⟨by decide, by decide, by show O < 256; exact ho.2⟩ ho.1 hR hm0
  clear hC hk hb hD hD1
  go_enter Try.func41, Try.ntmps41
  go_wp2_with ((with_reducible refine box_row rfl 50 (.tmp 0) rfl C ?_ ?_); rfl; refine RowKit.Hid.out ?_)
  refine Lib.hid ?_
  clear hV
  go_wp2_with fail
  refine cw.mono ?_
  rintro q w2 ⟨rfl, hD2⟩
  go_wp2
  go_end0
  exact ⟨rfl, hD2⟩

set_option maxRecDepth 100000 in
set_option maxHeartbeats 2000000 in
theorem kcHash_any (K S Q O : Int) (H : List Int) (a : Option Addr) (n c : Nat) (h p : List Int) (b : Option Addr) (m d : Nat) (w : World) (hl : H.length = 16) (hh : h.length = 32) (hp : p.length = 32)  {R : Int} {V : World} {F0 : Nat → Prop} {g : Nat} {L : List Int} (hD : We R V F0 g w L) (hR : (L.length : Int) + 32 ≤ R) (hm0 : L.length ≤ 80000000) :
    Calls Try.prog 44 #[.agg (rcC K S Q O H a n c h p b m d).toArray, .pointer (some ⟨g, 0, none⟩)] w fun q w' => q = .returned (.tuple #[]) ∧ We R V F0 g w' (L ++ h) := by
  have hCl := rcC_len (K := K) (S := S) (Q := Q) (O := O) (a := a) (n := n) (c := c) (b := b) (m := m) (d := d) hl hh hp
  obtain ⟨C, hC⟩ : ∃ C, rcC K S Q O H a n c h p b m d = C := ⟨_, rfl⟩
  rw [hC] at hCl
  rw [hC]
  have hb := below1 w (.cells C.toArray 50)
  have hk : Blk (w.alloc (.cells C.toArray 50)) w.heap.size 50 C := Blk.new w _ C
  obtain ⟨V1, hV⟩ : ∃ V, w.alloc (.cells C.toArray 50) = V := ⟨_, rfl⟩
  rw [hV] at hb hk
  have hD1 := hD.keep hb
  rw [← hC] at hk
  have c7 := rc7 hk hl
  have hrX := rowId_of hh
  have cw := we_id hD1 h hh hR hm0
  obtain ⟨X, hX⟩ : ∃ X, h.map (Value.int .u8) = X := ⟨_, rfl⟩
  rw [hX] at c7 hrX cw
  clear hC hk hb hD hD1 hX
  go_enter Try.func44, Try.ntmps44
  go_wp2_with ((with_reducible refine box_row rfl 50 (.tmp 0) rfl C ?_ ?_); rfl; refine RowKit.Hid.out ?_)
  refine Lib.hid ?_
  clear hV
  go_wp2_with ((with_reducible refine wpList_load_part rfl 28 (.tmp 6) rfl ?_ X c7 hrX ?_); rfl)
  refine cw.mono ?_
  rintro q w2 ⟨rfl, hD2⟩
  go_wp2
  go_end0
  exact ⟨rfl, hD2⟩

set_option maxRecDepth 100000 in
set_option maxHeartbeats 2000000 in
theorem kcUpload_any (K S Q O : Int) (H : List Int) (a : Option Addr) (n c : Nat) (h p : List Int) (b : Option Addr) (m d : Nat) (w : World) (hl : H.length = 16) (hh : h.length = 32) (hp : p.length = 32) (hq : 0 ≤ Q ∧ Q < 4294967296) (xs : List Int) {R : Int} {V : World} {F0 : Nat → Prop} {g : Nat} {L : List Int} (hD : We R V F0 g w L)
    (hI : Ints .u8 V a n c xs) (hF : ∀ x, a = some x → 0 < n → ¬ F0 x.block) (hR : (L.length : Int) + (20 + n) ≤ R) (hm0 : L.length + (20 + n) ≤ 80000000) :
    Calls Try.prog 42 #[.agg (rcC K S Q O H a n c h p b m d).toArray, .pointer (some ⟨g, 0, none⟩)] w fun q w' => q = .returned (.tuple #[]) ∧ We R V F0 g w' (L ++ (beL Q 4 ++ (H ++ xs))) := by
  have hCl := rcC_len (K := K) (S := S) (Q := Q) (O := O) (a := a) (n := n) (c := c) (b := b) (m := m) (d := d) hl hh hp
  obtain ⟨C, hC⟩ : ∃ C, rcC K S Q O H a n c h p b m d = C := ⟨_, rfl⟩
  rw [hC] at hCl
  rw [hC]
  have hb := below1 w (.cells C.toArray 50)
  have hk : Blk (w.alloc (.cells C.toArray 50)) w.heap.size 50 C := Blk.new w _ C
  obtain ⟨V1, hV⟩ : ∃ V, w.alloc (.cells C.toArray 50) = V := ⟨_, rfl⟩
  rw [hV] at hb hk
  have hD1 := hD.keep hb
  rw [← hC] at hk
  obtain ⟨F, hW, hlt, hg, hm, hback⟩ := hD.rebase hb
  have hIn := hI.isIn.2
  have hIV := ints_still' hI hm hF
  have hFV : ∀ x, a = some x → 0 < n → ¬ F x.block := fun x hx h0 hf => by
    rcases hg _ hf with h | h
    · exact hF x hx h0 h
    · have := hIn x hx h0; omega
  have q64 : IntKind.u64.wrap Q = Q := by rw [IntKind.wrap_u64]; omega
  have hrX := rowHint_of hl
  have l4 : (L ++ beL Q 4).length = L.length + 4 := by rw [List.length_append, beL_len]
  have l5 : (L ++ beL Q 4 ++ H).length = L.length + 20 := by rw [List.length_append, l4, hl]
  have c2 := rc2 hk
  have nG : ¬ F w.heap.size := fun hf => by have := hlt _ hf; omega
  have e4 := Lib.hid (fun L' w' (k : We R V1 F g w' L') => rc4 (k.blk hk nG))
  have e5 := Lib.hid (fun L' w' (k : We R V1 F g w' L') => rc5 (k.blk hk nG) hl)
  have cw := we_num hW Q 4 ⟨by decide, by decide, by show Q < 4294967296; exact hq.2⟩ hq.1 (by omega) (by omega)
  obtain ⟨X, hX⟩ : ∃ X, H.map (Value.int .u8) = X := ⟨_, rfl⟩
  rw [hX] at e4 hrX
  have hXH := Lib.hid hX
  have hIH := Lib.hid (And.intro hIV hFV)
  have hbackH := Lib.hid hback
  have lens := Lib.hid (And.intro l4 l5)
  have hRH := Lib.hid (And.intro hR hm0)
  clear hC hk hb hD hD1 hX hback hIV hFV hIn hI hF hW hm hg hlt nG l4 l5 hR hm0
  go_enter Try.func42, Try.ntmps42
  go_wp2_with ((with_reducible refine box_row rfl 50 (.tmp 0) rfl C ?_ ?_); rfl; refine RowKit.Hid.out ?_)
  refine Lib.hid ?_
  clear hV
  go_wp2_with fail
  refine cw.mono ?_
  rintro q w2 ⟨rfl, hD2⟩
  have c4 := e4.out _ _ hD2
  clear cw c2
  go_wp2_with ((with_reducible refine wpList_load_part rfl 25 (.tmp 10) rfl ?_ X c4 hrX ?_); rfl)
  have cw := we_hint hD2 H hl (by have := lens.out.1; have := hRH.out.1; rw [show (4 : Int).toNat = 4 from rfl]; omega) (by have := lens.out.1; have := hRH.out.2; rw [show (4 : Int).toNat = 4 from rfl]; omega)
  rw [hXH.out] at cw
  refine cw.mono ?_
  rintro q w3 ⟨rfl, hD3⟩
  have c5 := e5.out _ _ hD3
  clear cw c4 hD2
  go_wp2_with fail
  have cw := we_bytes hD3 a n c xs hIH.out.1 hIH.out.2 (by have := lens.out.2; have := hRH.out.1; rw [show (4 : Int).toNat = 4 from rfl]; omega) (by have := lens.out.2; have := hRH.out.2; rw [show (4 : Int).toNat = 4 from rfl]; omega)
  refine cw.mono ?_
  rintro q w4 ⟨rfl, hD4⟩
  clear cw c5 hD3
  go_wp2
  go_end0
  refine ⟨rfl, hbackH.out _ _ ?_⟩
  rw [show (4 : Int).toNat = 4 from rfl, List.append_assoc, List.append_assoc] at hD4
  exact hD4

set_option maxRecDepth 100000 in
set_option maxHeartbeats 2000000 in
theorem kcBlock_any (K S Q O : Int) (H : List Int) (a : Option Addr) (n c : Nat) (h p : List Int) (b : Option Addr) (m d : Nat) (zs : List Int) (w : World) (hl : H.length = 16) (hK : BlkOk ⟨h, p, m, zs⟩) (hrt : rightK ⟨h, p, m, zs⟩ = true) {R : Int} {V : World} {F0 : Nat → Prop} {g : Nat} {L : List Int} (hD : We R V F0 g w L)
    (hT : IdsAt V b m d zs) (hF : ∀ x, b = some x → 0 < m → ¬ F0 x.block) (hR : (L.length : Int) + 1089 ≤ R) (hm0 : L.length ≤ 80000) :
    Calls Try.prog 43 #[.agg (rcC K S Q O H a n c h p b m d).toArray, .pointer (some ⟨g, 0, none⟩)] w fun q w' => q = .returned (.tuple #[]) ∧ We R V F0 g w' (L ++ blkB ⟨h, p, m, zs⟩) := by
  have hh : h.length = 32 := hK.1
  have hp : p.length = 32 := hK.2.1
  have hm32 : m ≤ 32 := rightK_le hrt
  have hbl := blkB_len hK
  have henc : encK ⟨h, p, m, zs⟩ = (blkB ⟨h, p, m, zs⟩, 0) := by unfold encK; rw [hrt]; rfl
  have hCl := rcC_len (K := K) (S := S) (Q := Q) (O := O) (a := a) (n := n) (c := c) (b := b) (m := m) (d := d) hl hh hp
  obtain ⟨C, hC⟩ : ∃ C, rcC K S Q O H a n c h p b m d = C := ⟨_, rfl⟩
  rw [hC] at hCl
  rw [hC]
  have hb := below1 w (.cells C.toArray 50)
  have hk : Blk (w.alloc (.cells C.toArray 50)) w.heap.size 50 C := Blk.new w _ C
  obtain ⟨V1, hV⟩ : ∃ V, w.alloc (.cells C.toArray 50) = V := ⟨_, rfl⟩
  rw [hV] at hb hk
  have hD1 := hD.keep hb
  rw [← hC] at hk
  obtain ⟨F, hW, hlt, hg, hm, hback⟩ := hD.rebase hb
  have hTV := ids_stay hT hm hF
  have c6 := rc6 hk hl
  have hUl := bkC_len (a := b) (n := m) (c := d) hh hp
  have en := bkEncode_any h p b m d zs V1 hK hTV (by omega)
  rw [henc] at en
  dsimp only at en hbl
  obtain ⟨U, hU⟩ : ∃ U, bkC h p b m d = U := ⟨_, rfl⟩
  obtain ⟨M, hM⟩ : ∃ M, blkB ⟨h, p, m, zs⟩ = M := ⟨_, rfl⟩
  rw [hU] at c6 hUl en
  rw [hM] at en hbl
  rw [hM]
  obtain ⟨k, hkl⟩ : ∃ k, M.length = k := ⟨_, rfl⟩
  rw [hkl] at en hbl
  have hrU : IsRow Try.prog 31 U.length := rowBk_of hUl
  have hbH := Lib.hid (And.intro hb hD)
  have hRH := Lib.hid (And.intro hR (And.intro hm0 (And.intro hm32 hbl)))
  clear hC hk hb hD hD1 hU hM hW hlt hg hm hback hTV hT hF henc hR hm0 hm32 hbl hK hrt
  go_enter Try.func43, Try.ntmps43
  go_wp2_with ((with_reducible refine box_row rfl 50 (.tmp 0) rfl C ?_ ?_); rfl; refine RowKit.Hid.out ?_)
  refine Lib.hid ?_
  clear hV
  go_wp2_with ((with_reducible refine wpList_load_part rfl 31 (.tmp 7) rfl ?_ U c6 hrU ?_); rfl)
  refine en.mono ?_
  rintro q w2 ⟨b2, d2, rfl, hI2, hlo2, b2'⟩
  obtain ⟨hb, hD⟩ := hbH.out
  obtain ⟨F, hW, hlt, hg, hm, hback⟩ := hD.rebase (hb.trans (b2'.mono hb.size))
  have hFV : ∀ x, b2 = some x → 0 < k → ¬ F x.block := fun x hx h0 hf => by
    have := hlo2 x hx h0
    have := hlt _ hf
    have := hb.size
    omega
  have cw := we_fail0 hW (by have := hRH.out.2.1; omega)
  have hIH := Lib.hid (And.intro hI2 hFV)
  have hbackH := Lib.hid hback
  clear en c6 hb hD hbH hW hlt hg hm hback hFV hI2 hlo2 b2'
  go_wp2_with fail
  refine cw.mono ?_
  rintro q w3 ⟨rfl, hD3⟩
  clear cw
  go_wp2_with fail
  have cw := we_bytes hD3 b2 k d2 M hIH.out.1 hIH.out.2 (by have := hRH.out; omega) (by have := hRH.out; omega)
  refine cw.mono ?_
  rintro q w4 ⟨rfl, hD4⟩
  clear cw hD3
  go_wp2
  go_end0
  exact ⟨rfl, hbackH.out _ _ hD4⟩
end Go.Proofs.Ytaaflnmdaplfkaa

/-
  What record's Encode comes to. New memory alone is written. Conditions: the fields' ranges; at most a hundred thousand ids.
-/
namespace Go.Proofs.Ytaaflnmdaplfkaa
open Go.RowKit

theorem IdsAt.isInE {w : World} {a : Option Addr} {n c : Nat} {zs : List Int} (h : IdsAt w a n c zs) : ∀ x, a = some x → 0 < n → x.block < w.heap.size := fun x hx h0 => by
  rcases h.2.2 with h1 | ⟨b', off, ha, hc⟩
  · omega
  · rw [ha] at hx
    injection hx with hx
    subst hx
    exact World.block_lt_of_cell? w _ (hc 0 (by omega))

set_option maxRecDepth 100000 in
set_option maxHeartbeats 4000000 in
theorem kcEncode_1 (S Q O : Int) (H xs h p : List Int) (m : Nat) (zs : List Int) (a b : Option Addr) (c d : Nat) (w : World) (hr : RecOk ⟨⟨1, S, Q, O, H, xs⟩, ⟨h, p, m, zs⟩⟩) (hI : RecAt w ⟨⟨1, S, Q, O, H, xs⟩, ⟨h, p, m, zs⟩⟩ a c b d) (hn : m ≤ 100000) (hrt : rightRec ⟨⟨1, S, Q, O, H, xs⟩, ⟨h, p, m, zs⟩⟩ = true) :
    Calls Try.prog 8 #[.agg (rC ⟨⟨1, S, Q, O, H, xs⟩, ⟨h, p, m, zs⟩⟩ a c b d).toArray] w fun q w' => ∃ b' d', q = .returned (.tuple #[.slice b' (recB ⟨⟨1, S, Q, O, H, xs⟩, ⟨h, p, m, zs⟩⟩).length d', .int .i64 0]) ∧ Ints .u8 w' b' (recB ⟨⟨1, S, Q, O, H, xs⟩, ⟨h, p, m, zs⟩⟩).length d' (recB ⟨⟨1, S, Q, O, H, xs⟩, ⟨h, p, m, zs⟩⟩) ∧ (∀ x, b' = some x → 0 < (recB ⟨⟨1, S, Q, O, H, xs⟩, ⟨h, p, m, zs⟩⟩).length → w.heap.size ≤ x.block) ∧ Below w.heap.size w w' := by
  have hR := fun w' (k : Below w.heap.size w w') => kcRight_any ⟨⟨1, S, Q, O, H, xs⟩, ⟨h, p, m, zs⟩⟩ a b c d w' hr (hI.keep k) hn
  rw [hrt] at hR
  have hlen := (recB_len hr hrt).2
  have hq : 1 ≤ O ∧ O ≤ 64 := by
    rcases right_cases hrt with ⟨s, o, e, h1, h2⟩ | ⟨s, q, g, x, e, _⟩ | ⟨s, e⟩ | ⟨b, e, _⟩ | ⟨g, e⟩
    · injection e with e _; injection e with _ _ _ e _ _; subst e; exact ⟨h1, h2⟩
    all_goals (injection e with e _; injection e with e _; exact absurd e (by decide))
  have hm := recB_1 S O Q H xs ⟨h, p, m, zs⟩
  rw [show O % 256 = O by omega] at hm
  have hoK := beL_k (K := O) ⟨by omega, by omega⟩
  obtain ⟨⟨hs, hqr, _, hl, _, _⟩, ⟨hh, hp, _, _, _, _⟩⟩ := hr
  obtain ⟨hI, hT⟩ := hI
  dsimp only at hs hqr hl hh hp hI hT
  unfold rC at hR ⊢
  dsimp only at hR ⊢
  obtain ⟨n, hnx⟩ : ∃ n, xs.length = n := ⟨_, rfl⟩
  rw [hnx] at hR hI ⊢
  have hCl := rcC_len (K := 1) (S := S) (Q := Q) (O := O) (a := a) (n := n) (c := c) (b := b) (m := m) (d := d) hl hh hp
  have e0 := Lib.hid (fun w' g (k : Blk w' g 33 (rcC 1 S Q O H a n c h p b m d)) => rc0 k)
  have hP := Lib.hid (fun w' => kcParts_1 1 S Q O H a n c h p b m d w' hl hh hp rfl)
  have ses := Lib.hid (fun (w' V : World) (F0 : Nat → Prop) (g : Nat) (L : List Int) (hD : We 1090 V F0 g w' L) (h1 : (L.length : Int) + 4 ≤ 1090) => kcSession_any 1 S Q O H a n c h p b m d w' hl hh hp hs hD h1 (by omega))
  have quo := Lib.hid (fun (w' V : World) (F0 : Nat → Prop) (g : Nat) (L : List Int) (hD : We 1090 V F0 g w' L) (h1 : (L.length : Int) + 1 ≤ 1090) => kcQuota_any 1 S Q O H a n c h p b m d w' hl hh hp ⟨by omega, by omega⟩ hD h1 (by omega))
  obtain ⟨C, hC⟩ : ∃ C, rcC 1 S Q O H a n c h p b m d = C := ⟨_, rfl⟩
  rw [hC] at hR hCl e0 hP ses quo
  rw [hC]
  have hR := Lib.hid hR
  obtain ⟨M, hMM⟩ : ∃ M, recB ⟨⟨1, S, Q, O, H, xs⟩, ⟨h, p, m, zs⟩⟩ = M := ⟨_, rfl⟩
  rw [hMM] at hm hlen
  rw [hMM]
  have hmH := Lib.hid hm
  have hlen : M.length ≤ 100000000 := by omega
  have hlen := Lib.hid hlen
  have hb := below1 w (.cells C.toArray 33)
  have hk : Blk (w.alloc (.cells C.toArray 33)) w.heap.size 33 C := Blk.new w _ C
  obtain ⟨W, hW⟩ : ∃ V, w.alloc (.cells C.toArray 33) = V := ⟨_, rfl⟩
  rw [hW] at hb hk
  obtain ⟨G, g9⟩ : ∃ G, w.heap.size = G := ⟨_, rfl⟩
  rw [g9] at hk
  have gH := Lib.hid g9
  have hIH := Lib.hid (And.intro hI hT)
  clear hC hMM hm hrt hI hT hn
  go_enter Try.func8, Try.ntmps8
  go_wp2_with ((with_reducible refine box_row rfl 33 (.tmp 0) rfl C ?_ ?_); rfl; refine RowKit.Hid.out ?_)
  refine Lib.hid ?_
  clear hW
  go_wp2_with ((with_reducible refine wpList_load_blk rfl 33 (.tmp 1) rfl ?_ hk rowRc hCl ?_); rfl)
  refine (hR.out W hb).mono ?_
  rintro q w1 ⟨rfl, b1⟩
  have hk1 := hk.keep b1 hk.lt
  have hS1 := hb.trans (b1.mono hb.size)
  clear hk hb b1 hR
  go_wp2_with fail
  refine (wNew_any 1090 w1 (by decide)).mono ?_
  rintro q w2 ⟨g, F, rfl, hw2, hF2, b2⟩
  rw [show max (1090 : Int) 0 = 1090 by decide] at hw2
  have hk2 := hk1.keep b2 hk1.lt
  have hS2 := hS1.trans (b2.mono hS1.size)
  have nG : ¬ F G := fun h => by have := hF2 _ h; have := hk1.lt; omega
  have hFl : ∀ b, F b → w.heap.size ≤ b := fun b hb => Nat.le_trans hS1.size (hF2 b hb)
  have hD := We.start hw2
  have c0 := e0.out w2 G hk2
  clear b2 hF2 hw2 hk1 hS1
  go_wp2_with fail
  refine (we_num hD _ 1 ⟨by decide, by decide, by decide⟩ (by decide) (by decide) (by decide)).mono ?_
  rintro q w3 ⟨rfl, hD3⟩
  rw [List.nil_append, show (1 : Int).toNat = 1 from rfl, beL_k (by decide)] at hD3
  have hk3 := hD3.blk hk2 nG
  clear hD c0
  go_wp2_with ((with_reducible refine wpList_load_blk rfl 33 (.tmp 1) rfl ?_ hk3 rowRc hCl ?_); rfl)
  refine (hP.out w3).mono ?_
  rintro q w4 ⟨gp, rfl, hQ4, hgp, b4⟩
  obtain ⟨F4, hD4, hlt4, hg4, hm4, hback4⟩ := hD3.rebase b4
  have nP : ¬ F4 gp := fun hf => by have := hlt4 _ hf; omega
  have hF4 : ∀ b, F4 b → w.heap.size ≤ b := fun b hb' => by
    rcases hg4 b hb' with h | h
    · exact hFl b h
    · exact Nat.le_trans hS2.size h
  have hS4 := hS2.trans (hm4.below hFl hS2.size)
  have q0 := hQ4.cell 0
  have q1 := hQ4.cell 1
  clear hD3 hk3 hk2 nG b4 hlt4
  clear hg4 hm4 hback4 hFl
  go_wp2
  refine wp_loop_rounds 3 ?_
  rw [rounds_succ]
  go_wp2_with fail
  refine (ses.out w4 _ _ g _ hD4 (by show (1 : Int) + 4 ≤ 1090; decide)).mono ?_
  rintro q w5 ⟨rfl, hD5⟩
  have q1 := (hD5.blk hQ4 nP).cell 1
  clear q0
  go_wp2
  rw [rounds_succ]
  go_wp2_with fail
  have l5 : (([1] : List Int) ++ beL S 4).length = 5 := by rw [List.length_append, beL_len]; rfl
  refine (quo.out w5 _ _ g _ hD5 (by rw [l5]; decide)).mono ?_
  rintro q w6 ⟨rfl, hW5⟩
  clear q1 hD5 l5
  rw [hoK, List.append_assoc, show ([1] : List Int) ++ (beL S 4 ++ [O]) = 1 :: (beL S 4 ++ [O]) from rfl, ← hmH.out] at hW5
  have hS5 := hS4.trans (hW5.below hF4 hS4.size)
  have hlen := hlen.out
  clear hS4 hD4 hQ4
  go_wp2
  rw [rounds_succ]
  go_wp2_with fail
  have hd := hW5.done hlen
  rw [if_pos rfl] at hd
  clear hW5
  go_wp2_with fail
  refine hd.mono ?_
  rintro q w8 ⟨b, d, rfl, ho, b8⟩
  obtain ⟨b', d', hv, hJ⟩ := Ints.of_owns ho
  injection hv with e1 _ e2
  subst e1; subst e2
  go_wp2
  go_ret2
  exact ⟨b, d, rfl, hJ, (fun x hx _ => Nat.le_trans hS5.size (ho.lt x.block (by rw [hx]; rfl)).1), hS5.trans (b8.mono hS5.size)⟩

set_option maxRecDepth 100000 in
set_option maxHeartbeats 4000000 in
theorem kcEncode_2 (S Q O : Int) (H xs h p : List Int) (m : Nat) (zs : List Int) (a b : Option Addr) (c d : Nat) (w : World) (hr : RecOk ⟨⟨2, S, Q, O, H, xs⟩, ⟨h, p, m, zs⟩⟩) (hI : RecAt w ⟨⟨2, S, Q, O, H, xs⟩, ⟨h, p, m, zs⟩⟩ a c b d) (hn : m ≤ 100000) (hrt : rightRec ⟨⟨2, S, Q, O, H, xs⟩, ⟨h, p, m, zs⟩⟩ = true) :
    Calls Try.prog 8 #[.agg (rC ⟨⟨2, S, Q, O, H, xs⟩, ⟨h, p, m, zs⟩⟩ a c b d).toArray] w fun q w' => ∃ b' d', q = .returned (.tuple #[.slice b' (recB ⟨⟨2, S, Q, O, H, xs⟩, ⟨h, p, m, zs⟩⟩).length d', .int .i64 0]) ∧ Ints .u8 w' b' (recB ⟨⟨2, S, Q, O, H, xs⟩, ⟨h, p, m, zs⟩⟩).length d' (recB ⟨⟨2, S, Q, O, H, xs⟩, ⟨h, p, m, zs⟩⟩) ∧ (∀ x, b' = some x → 0 < (recB ⟨⟨2, S, Q, O, H, xs⟩, ⟨h, p, m, zs⟩⟩).length → w.heap.size ≤ x.block) ∧ Below w.heap.size w w' := by
  have hR := fun w' (k : Below w.heap.size w w') => kcRight_any ⟨⟨2, S, Q, O, H, xs⟩, ⟨h, p, m, zs⟩⟩ a b c d w' hr (hI.keep k) hn
  rw [hrt] at hR
  have hlen := (recB_len hr hrt).2
  have hx6 : xs.length ≤ 600 := by
    rcases right_cases hrt with ⟨s, o, e, _⟩ | ⟨s, q, g, x, e, h1⟩ | ⟨s, e⟩ | ⟨b, e, _⟩ | ⟨g, e⟩
    · injection e with e _; injection e with e _; exact absurd e (by decide)
    · injection e with e _; injection e with _ _ _ _ _ e; subst e; exact h1
    all_goals (injection e with e _; injection e with e _; exact absurd e (by decide))
  have hm := recB_2 S O Q H xs ⟨h, p, m, zs⟩
  obtain ⟨⟨hs, hqr, _, hl, _, _⟩, ⟨hh, hp, _, _, _, _⟩⟩ := hr
  obtain ⟨hI, hT⟩ := hI
  dsimp only at hs hqr hl hh hp hI hT
  unfold rC at hR ⊢
  dsimp only at hR ⊢
  obtain ⟨n, hnx⟩ : ∃ n, xs.length = n := ⟨_, rfl⟩
  rw [hnx] at hR hI ⊢
  have hCl := rcC_len (K := 2) (S := S) (Q := Q) (O := O) (a := a) (n := n) (c := c) (b := b) (m := m) (d := d) hl hh hp
  have e0 := Lib.hid (fun w' g (k : Blk w' g 33 (rcC 2 S Q O H a n c h p b m d)) => rc0 k)
  have hP := Lib.hid (fun w' => kcParts_2 2 S Q O H a n c h p b m d w' hl hh hp rfl)
  have ses := Lib.hid (fun (w' V : World) (F0 : Nat → Prop) (g : Nat) (L : List Int) (hD : We 1090 V F0 g w' L) (h1 : (L.length : Int) + 4 ≤ 1090) => kcSession_any 2 S Q O H a n c h p b m d w' hl hh hp hs hD h1 (by omega))
  have upl := Lib.hid (fun (w' V : World) (F0 : Nat → Prop) (g : Nat) (L : List Int) (hD : We 1090 V F0 g w' L) (hI : Ints .u8 V a n c xs) (hF : ∀ x, a = some x → 0 < n → ¬ F0 x.block) (h1 : (L.length : Int) + (20 + n) ≤ 1090) => kcUpload_any 2 S Q O H a n c h p b m d w' hl hh hp hqr xs hD hI hF h1 (by omega))
  obtain ⟨C, hC⟩ : ∃ C, rcC 2 S Q O H a n c h p b m d = C := ⟨_, rfl⟩
  rw [hC] at hR hCl e0 hP ses upl
  rw [hC]
  have hR := Lib.hid hR
  obtain ⟨M, hMM⟩ : ∃ M, recB ⟨⟨2, S, Q, O, H, xs⟩, ⟨h, p, m, zs⟩⟩ = M := ⟨_, rfl⟩
  rw [hMM] at hm hlen
  rw [hMM]
  have hmH := Lib.hid hm
  have hlen : M.length ≤ 100000000 := by omega
  have hlen := Lib.hid hlen
  have hb := below1 w (.cells C.toArray 33)
  have hk : Blk (w.alloc (.cells C.toArray 33)) w.heap.size 33 C := Blk.new w _ C
  obtain ⟨W, hW⟩ : ∃ V, w.alloc (.cells C.toArray 33) = V := ⟨_, rfl⟩
  rw [hW] at hb hk
  obtain ⟨G, g9⟩ : ∃ G, w.heap.size = G := ⟨_, rfl⟩
  rw [g9] at hk
  have gH := Lib.hid g9
  have hIH := Lib.hid (And.intro hI hT)
  clear hC hMM hm hrt hI hT hn
  go_enter Try.func8, Try.ntmps8
  go_wp2_with ((with_reducible refine box_row rfl 33 (.tmp 0) rfl C ?_ ?_); rfl; refine RowKit.Hid.out ?_)
  refine Lib.hid ?_
  clear hW
  go_wp2_with ((with_reducible refine wpList_load_blk rfl 33 (.tmp 1) rfl ?_ hk rowRc hCl ?_); rfl)
  refine (hR.out W hb).mono ?_
  rintro q w1 ⟨rfl, b1⟩
  have hk1 := hk.keep b1 hk.lt
  have hS1 := hb.trans (b1.mono hb.size)
  clear hk hb b1 hR
  go_wp2_with fail
  refine (wNew_any 1090 w1 (by decide)).mono ?_
  rintro q w2 ⟨g, F, rfl, hw2, hF2, b2⟩
  rw [show max (1090 : Int) 0 = 1090 by decide] at hw2
  have hk2 := hk1.keep b2 hk1.lt
  have hS2 := hS1.trans (b2.mono hS1.size)
  have nG : ¬ F G := fun h => by have := hF2 _ h; have := hk1.lt; omega
  have hFl : ∀ b, F b → w.heap.size ≤ b := fun b hb => Nat.le_trans hS1.size (hF2 b hb)
  have hD := We.start hw2
  have c0 := e0.out w2 G hk2
  clear b2 hF2 hw2 hk1 hS1
  go_wp2_with fail
  refine (we_num hD _ 1 ⟨by decide, by decide, by decide⟩ (by decide) (by decide) (by decide)).mono ?_
  rintro q w3 ⟨rfl, hD3⟩
  rw [List.nil_append, show (1 : Int).toNat = 1 from rfl, beL_k (by decide)] at hD3
  have hk3 := hD3.blk hk2 nG
  clear hD c0
  go_wp2_with ((with_reducible refine wpList_load_blk rfl 33 (.tmp 1) rfl ?_ hk3 rowRc hCl ?_); rfl)
  refine (hP.out w3).mono ?_
  rintro q w4 ⟨gp, rfl, hQ4, hgp, b4⟩
  obtain ⟨F4, hD4, hlt4, hg4, hm4, hback4⟩ := hD3.rebase b4
  have nP : ¬ F4 gp := fun hf => by have := hlt4 _ hf; omega
  have hF4 : ∀ b, F4 b → w.heap.size ≤ b := fun b hb' => by
    rcases hg4 b hb' with h | h
    · exact hFl b h
    · exact Nat.le_trans hS2.size h
  have hS4 := hS2.trans (hm4.below hFl hS2.size)
  have q0 := hQ4.cell 0
  have q1 := hQ4.cell 1
  clear hD3 hk3 hk2 nG b4 hlt4
  have hI2 := hIH.out.1.keep hS2
  have hIn := hIH.out.1.isIn.2
  have hF2 : ∀ x, a = some x → 0 < n → ¬ F x.block := fun x hx h0 hf => by have := hIn x hx h0; have := hFl _ hf; omega
  have hIn2 := hI2.isIn.2
  have hI4 := ints_still' hI2 hm4 hF2
  have hF4' : ∀ x, a = some x → 0 < n → ¬ F4 x.block := fun x hx h0 hf => by
    rcases hg4 _ hf with h | h
    · exact hF2 x hx h0 h
    · have := hIn2 x hx h0; omega
  have hIFH := Lib.hid (And.intro hI4 hF4')
  clear hI2 hIn hF2 hIn2 hI4 hF4'
  clear hg4 hm4 hback4 hFl
  go_wp2
  refine wp_loop_rounds 3 ?_
  rw [rounds_succ]
  go_wp2_with fail
  refine (ses.out w4 _ _ g _ hD4 (by show (1 : Int) + 4 ≤ 1090; decide)).mono ?_
  rintro q w5 ⟨rfl, hD5⟩
  have q1 := (hD5.blk hQ4 nP).cell 1
  clear q0
  go_wp2
  rw [rounds_succ]
  go_wp2_with fail
  have l5 : (([2] : List Int) ++ beL S 4).length = 5 := by rw [List.length_append, beL_len]; rfl
  refine (upl.out w5 _ _ g _ hD5 hIFH.out.1 hIFH.out.2 (by rw [l5]; omega)).mono ?_
  rintro q w6 ⟨rfl, hW5⟩
  clear q1 hD5 l5
  rw [List.append_assoc, show ([2] : List Int) ++ (beL S 4 ++ (beL Q 4 ++ (H ++ xs))) = 2 :: (beL S 4 ++ (beL Q 4 ++ (H ++ xs))) from rfl, ← hmH.out] at hW5
  have hS5 := hS4.trans (hW5.below hF4 hS4.size)
  have hlen := hlen.out
  clear hS4 hD4 hQ4
  go_wp2
  rw [rounds_succ]
  go_wp2_with fail
  have hd := hW5.done hlen
  rw [if_pos rfl] at hd
  clear hW5
  go_wp2_with fail
  refine hd.mono ?_
  rintro q w8 ⟨b, d, rfl, ho, b8⟩
  obtain ⟨b', d', hv, hJ⟩ := Ints.of_owns ho
  injection hv with e1 _ e2
  subst e1; subst e2
  go_wp2
  go_ret2
  exact ⟨b, d, rfl, hJ, (fun x hx _ => Nat.le_trans hS5.size (ho.lt x.block (by rw [hx]; rfl)).1), hS5.trans (b8.mono hS5.size)⟩

set_option maxRecDepth 100000 in
set_option maxHeartbeats 4000000 in
theorem kcEncode_4 (S Q O : Int) (H xs h p : List Int) (m : Nat) (zs : List Int) (a b : Option Addr) (c d : Nat) (w : World) (hr : RecOk ⟨⟨4, S, Q, O, H, xs⟩, ⟨h, p, m, zs⟩⟩) (hI : RecAt w ⟨⟨4, S, Q, O, H, xs⟩, ⟨h, p, m, zs⟩⟩ a c b d) (hn : m ≤ 100000) (hrt : rightRec ⟨⟨4, S, Q, O, H, xs⟩, ⟨h, p, m, zs⟩⟩ = true) :
    Calls Try.prog 8 #[.agg (rC ⟨⟨4, S, Q, O, H, xs⟩, ⟨h, p, m, zs⟩⟩ a c b d).toArray] w fun q w' => ∃ b' d', q = .returned (.tuple #[.slice b' (recB ⟨⟨4, S, Q, O, H, xs⟩, ⟨h, p, m, zs⟩⟩).length d', .int .i64 0]) ∧ Ints .u8 w' b' (recB ⟨⟨4, S, Q, O, H, xs⟩, ⟨h, p, m, zs⟩⟩).length d' (recB ⟨⟨4, S, Q, O, H, xs⟩, ⟨h, p, m, zs⟩⟩) ∧ (∀ x, b' = some x → 0 < (recB ⟨⟨4, S, Q, O, H, xs⟩, ⟨h, p, m, zs⟩⟩).length → w.heap.size ≤ x.block) ∧ Below w.heap.size w w' := by
  have hR := fun w' (k : Below w.heap.size w w') => kcRight_any ⟨⟨4, S, Q, O, H, xs⟩, ⟨h, p, m, zs⟩⟩ a b c d w' hr (hI.keep k) hn
  rw [hrt] at hR
  have hlen := (recB_len hr hrt).2
  have hm := recB_4 S O Q H xs ⟨h, p, m, zs⟩
  obtain ⟨⟨hs, hqr, _, hl, _, _⟩, ⟨hh, hp, _, _, _, _⟩⟩ := hr
  obtain ⟨hI, hT⟩ := hI
  dsimp only at hs hqr hl hh hp hI hT
  unfold rC at hR ⊢
  dsimp only at hR ⊢
  obtain ⟨n, hnx⟩ : ∃ n, xs.length = n := ⟨_, rfl⟩
  rw [hnx] at hR hI ⊢
  have hCl := rcC_len (K := 4) (S := S) (Q := Q) (O := O) (a := a) (n := n) (c := c) (b := b) (m := m) (d := d) hl hh hp
  have e0 := Lib.hid (fun w' g (k : Blk w' g 33 (rcC 4 S Q O H a n c h p b m d)) => rc0 k)
  have hP := Lib.hid (fun w' => kcParts_4 4 S Q O H a n c h p b m d w' hl hh hp rfl)
  have ses := Lib.hid (fun (w' V : World) (F0 : Nat → Prop) (g : Nat) (L : List Int) (hD : We 1090 V F0 g w' L) (h1 : (L.length : Int) + 4 ≤ 1090) => kcSession_any 4 S Q O H a n c h p b m d w' hl hh hp hs hD h1 (by omega))
  obtain ⟨C, hC⟩ : ∃ C, rcC 4 S Q O H a n c h p b m d = C := ⟨_, rfl⟩
  rw [hC] at hR hCl e0 hP ses
  rw [hC]
  have hR := Lib.hid hR
  obtain ⟨M, hMM⟩ : ∃ M, recB ⟨⟨4, S, Q, O, H, xs⟩, ⟨h, p, m, zs⟩⟩ = M := ⟨_, rfl⟩
  rw [hMM] at hm hlen
  rw [hMM]
  have hmH := Lib.hid hm
  have hlen : M.length ≤ 100000000 := by omega
  have hlen := Lib.hid hlen
  have hb := below1 w (.cells C.toArray 33)
  have hk : Blk (w.alloc (.cells C.toArray 33)) w.heap.size 33 C := Blk.new w _ C
  obtain ⟨W, hW⟩ : ∃ V, w.alloc (.cells C.toArray 33) = V := ⟨_, rfl⟩
  rw [hW] at hb hk
  obtain ⟨G, g9⟩ : ∃ G, w.heap.size = G := ⟨_, rfl⟩
  rw [g9] at hk
  have gH := Lib.hid g9
  have hIH := Lib.hid (And.intro hI hT)
  clear hC hMM hm hrt hI hT hn
  go_enter Try.func8, Try.ntmps8
  go_wp2_with ((with_reducible refine box_row rfl 33 (.tmp 0) rfl C ?_ ?_); rfl; refine RowKit.Hid.out ?_)
  refine Lib.hid ?_
  clear hW
  go_wp2_with ((with_reducible refine wpList_load_blk rfl 33 (.tmp 1) rfl ?_ hk rowRc hCl ?_); rfl)
  refine (hR.out W hb).mono ?_
  rintro q w1 ⟨rfl, b1⟩
  have hk1 := hk.keep b1 hk.lt
  have hS1 := hb.trans (b1.mono hb.size)
  clear hk hb b1 hR
  go_wp2_with fail
  refine (wNew_any 1090 w1 (by decide)).mono ?_
  rintro q w2 ⟨g, F, rfl, hw2, hF2, b2⟩
  rw [show max (1090 : Int) 0 = 1090 by decide] at hw2
  have hk2 := hk1.keep b2 hk1.lt
  have hS2 := hS1.trans (b2.mono hS1.size)
  have nG : ¬ F G := fun h => by have := hF2 _ h; have := hk1.lt; omega
  have hFl : ∀ b, F b → w.heap.size ≤ b := fun b hb => Nat.le_trans hS1.size (hF2 b hb)
  have hD := We.start hw2
  have c0 := e0.out w2 G hk2
  clear b2 hF2 hw2 hk1 hS1
  go_wp2_with fail
  refine (we_num hD _ 1 ⟨by decide, by decide, by decide⟩ (by decide) (by decide) (by decide)).mono ?_
  rintro q w3 ⟨rfl, hD3⟩
  rw [List.nil_append, show (1 : Int).toNat = 1 from rfl, beL_k (by decide)] at hD3
  have hk3 := hD3.blk hk2 nG
  clear hD c0
  go_wp2_with ((with_reducible refine wpList_load_blk rfl 33 (.tmp 1) rfl ?_ hk3 rowRc hCl ?_); rfl)
  refine (hP.out w3).mono ?_
  rintro q w4 ⟨gp, rfl, hQ4, hgp, b4⟩
  obtain ⟨F4, hD4, hlt4, hg4, hm4, hback4⟩ := hD3.rebase b4
  have nP : ¬ F4 gp := fun hf => by have := hlt4 _ hf; omega
  have hF4 : ∀ b, F4 b → w.heap.size ≤ b := fun b hb' => by
    rcases hg4 b hb' with h | h
    · exact hFl b h
    · exact Nat.le_trans hS2.size h
  have hS4 := hS2.trans (hm4.below hFl hS2.size)
  have q0 := hQ4.cell 0
  have q1 := hQ4.cell 1
  clear hD3 hk3 hk2 nG b4 hlt4
  clear hg4 hm4 hback4 hFl
  go_wp2
  refine wp_loop_rounds 2 ?_
  rw [rounds_succ]
  go_wp2_with fail
  refine (ses.out w4 _ _ g _ hD4 (by show (1 : Int) + 4 ≤ 1090; decide)).mono ?_
  rintro q w6 ⟨rfl, hW5⟩
  clear q0 q1
  rw [show ([4] : List Int) ++ beL S 4 = 4 :: beL S 4 from rfl, ← hmH.out] at hW5
  have hS5 := hS4.trans (hW5.below hF4 hS4.size)
  have hlen := hlen.out
  clear hS4 hD4 hQ4
  go_wp2
  rw [rounds_succ]
  go_wp2_with fail
  have hd := hW5.done hlen
  rw [if_pos rfl] at hd
  clear hW5
  go_wp2_with fail
  refine hd.mono ?_
  rintro q w8 ⟨b, d, rfl, ho, b8⟩
  obtain ⟨b', d', hv, hJ⟩ := Ints.of_owns ho
  injection hv with e1 _ e2
  subst e1; subst e2
  go_wp2
  go_ret2
  exact ⟨b, d, rfl, hJ, (fun x hx _ => Nat.le_trans hS5.size (ho.lt x.block (by rw [hx]; rfl)).1), hS5.trans (b8.mono hS5.size)⟩

set_option maxRecDepth 100000 in
set_option maxHeartbeats 4000000 in
theorem kcEncode_5 (S Q O : Int) (H xs h p : List Int) (m : Nat) (zs : List Int) (a b : Option Addr) (c d : Nat) (w : World) (hr : RecOk ⟨⟨5, S, Q, O, H, xs⟩, ⟨h, p, m, zs⟩⟩) (hI : RecAt w ⟨⟨5, S, Q, O, H, xs⟩, ⟨h, p, m, zs⟩⟩ a c b d) (hn : m ≤ 100000) (hrt : rightRec ⟨⟨5, S, Q, O, H, xs⟩, ⟨h, p, m, zs⟩⟩ = true) :
    Calls Try.prog 8 #[.agg (rC ⟨⟨5, S, Q, O, H, xs⟩, ⟨h, p, m, zs⟩⟩ a c b d).toArray] w fun q w' => ∃ b' d', q = .returned (.tuple #[.slice b' (recB ⟨⟨5, S, Q, O, H, xs⟩, ⟨h, p, m, zs⟩⟩).length d', .int .i64 0]) ∧ Ints .u8 w' b' (recB ⟨⟨5, S, Q, O, H, xs⟩, ⟨h, p, m, zs⟩⟩).length d' (recB ⟨⟨5, S, Q, O, H, xs⟩, ⟨h, p, m, zs⟩⟩) ∧ (∀ x, b' = some x → 0 < (recB ⟨⟨5, S, Q, O, H, xs⟩, ⟨h, p, m, zs⟩⟩).length → w.heap.size ≤ x.block) ∧ Below w.heap.size w w' := by
  have hR := fun w' (k : Below w.heap.size w w') => kcRight_any ⟨⟨5, S, Q, O, H, xs⟩, ⟨h, p, m, zs⟩⟩ a b c d w' hr (hI.keep k) hn
  rw [hrt] at hR
  have hlen := (recB_len hr hrt).2
  have hkr : rightK ⟨h, p, m, zs⟩ = true := by
    rcases right_cases hrt with ⟨s, o, e, _⟩ | ⟨s, q, g, x, e, _⟩ | ⟨s, e⟩ | ⟨b, e, h1⟩ | ⟨g, e⟩
    · injection e with e _; injection e with e _; exact absurd e (by decide)
    · injection e with e _; injection e with e _; exact absurd e (by decide)
    · injection e with e _; injection e with e _; exact absurd e (by decide)
    · injection e with _ e; rw [e]; exact h1
    · injection e with e _; injection e with e _; exact absurd e (by decide)
  have hkO := hr.2
  have hm := recB_5 S O Q H xs ⟨h, p, m, zs⟩
  obtain ⟨⟨hs, hqr, _, hl, _, _⟩, ⟨hh, hp, _, _, _, _⟩⟩ := hr
  obtain ⟨hI, hT⟩ := hI
  dsimp only at hs hqr hl hh hp hI hT
  unfold rC at hR ⊢
  dsimp only at hR ⊢
  obtain ⟨n, hnx⟩ : ∃ n, xs.length = n := ⟨_, rfl⟩
  rw [hnx] at hR hI ⊢
  have hCl := rcC_len (K := 5) (S := S) (Q := Q) (O := O) (a := a) (n := n) (c := c) (b := b) (m := m) (d := d) hl hh hp
  have e0 := Lib.hid (fun w' g (k : Blk w' g 33 (rcC 5 S Q O H a n c h p b m d)) => rc0 k)
  have hP := Lib.hid (fun w' => kcParts_5 5 S Q O H a n c h p b m d w' hl hh hp rfl)
  have blo := Lib.hid (fun (w' V : World) (F0 : Nat → Prop) (g : Nat) (L : List Int) (hD : We 1090 V F0 g w' L) (hT : IdsAt V b m d zs) (hF : ∀ x, b = some x → 0 < m → ¬ F0 x.block) (h1 : (L.length : Int) + 1089 ≤ 1090) => kcBlock_any 5 S Q O H a n c h p b m d zs w' hl hkO hkr hD hT hF h1 (by omega))
  obtain ⟨C, hC⟩ : ∃ C, rcC 5 S Q O H a n c h p b m d = C := ⟨_, rfl⟩
  rw [hC] at hR hCl e0 hP blo
  rw [hC]
  have hR := Lib.hid hR
  obtain ⟨M, hMM⟩ : ∃ M, recB ⟨⟨5, S, Q, O, H, xs⟩, ⟨h, p, m, zs⟩⟩ = M := ⟨_, rfl⟩
  rw [hMM] at hm hlen
  rw [hMM]
  have hmH := Lib.hid hm
  have hlen : M.length ≤ 100000000 := by omega
  have hlen := Lib.hid hlen
  have hb := below1 w (.cells C.toArray 33)
  have hk : Blk (w.alloc (.cells C.toArray 33)) w.heap.size 33 C := Blk.new w _ C
  obtain ⟨W, hW⟩ : ∃ V, w.alloc (.cells C.toArray 33) = V := ⟨_, rfl⟩
  rw [hW] at hb hk
  obtain ⟨G, g9⟩ : ∃ G, w.heap.size = G := ⟨_, rfl⟩
  rw [g9] at hk
  have gH := Lib.hid g9
  have hIH := Lib.hid (And.intro hI hT)
  clear hC hMM hm hrt hI hT hn
  go_enter Try.func8, Try.ntmps8
  go_wp2_with ((with_reducible refine box_row rfl 33 (.tmp 0) rfl C ?_ ?_); rfl; refine RowKit.Hid.out ?_)
  refine Lib.hid ?_
  clear hW
  go_wp2_with ((with_reducible refine wpList_load_blk rfl 33 (.tmp 1) rfl ?_ hk rowRc hCl ?_); rfl)
  refine (hR.out W hb).mono ?_
  rintro q w1 ⟨rfl, b1⟩
  have hk1 := hk.keep b1 hk.lt
  have hS1 := hb.trans (b1.mono hb.size)
  clear hk hb b1 hR
  go_wp2_with fail
  refine (wNew_any 1090 w1 (by decide)).mono ?_
  rintro q w2 ⟨g, F, rfl, hw2, hF2, b2⟩
  rw [show max (1090 : Int) 0 = 1090 by decide] at hw2
  have hk2 := hk1.keep b2 hk1.lt
  have hS2 := hS1.trans (b2.mono hS1.size)
  have nG : ¬ F G := fun h => by have := hF2 _ h; have := hk1.lt; omega
  have hFl : ∀ b, F b → w.heap.size ≤ b := fun b hb => Nat.le_trans hS1.size (hF2 b hb)
  have hD := We.start hw2
  have c0 := e0.out w2 G hk2
  clear b2 hF2 hw2 hk1 hS1
  go_wp2_with fail
  refine (we_num hD _ 1 ⟨by decide, by decide, by decide⟩ (by decide) (by decide) (by decide)).mono ?_
  rintro q w3 ⟨rfl, hD3⟩
  rw [List.nil_append, show (1 : Int).toNat = 1 from rfl, beL_k (by decide)] at hD3
  have hk3 := hD3.blk hk2 nG
  clear hD c0
  go_wp2_with ((with_reducible refine wpList_load_blk rfl 33 (.tmp 1) rfl ?_ hk3 rowRc hCl ?_); rfl)
  refine (hP.out w3).mono ?_
  rintro q w4 ⟨gp, rfl, hQ4, hgp, b4⟩
  obtain ⟨F4, hD4, hlt4, hg4, hm4, hback4⟩ := hD3.rebase b4
  have nP : ¬ F4 gp := fun hf => by have := hlt4 _ hf; omega
  have hF4 : ∀ b, F4 b → w.heap.size ≤ b := fun b hb' => by
    rcases hg4 b hb' with h | h
    · exact hFl b h
    · exact Nat.le_trans hS2.size h
  have hS4 := hS2.trans (hm4.below hFl hS2.size)
  have q0 := hQ4.cell 0
  have q1 := hQ4.cell 1
  clear hD3 hk3 hk2 nG b4 hlt4
  have hT2 := hIH.out.2.keep hS2
  have hIn := hIH.out.2.isInE
  have hF2 : ∀ x, b = some x → 0 < m → ¬ F x.block := fun x hx h0 hf => by have := hIn x hx h0; have := hFl _ hf; omega
  have hIn2 := hT2.isInE
  have hT4 := ids_stay hT2 hm4 hF2
  have hF4' : ∀ x, b = some x → 0 < m → ¬ F4 x.block := fun x hx h0 hf => by
    rcases hg4 _ hf with h | h
    · exact hF2 x hx h0 h
    · have := hIn2 x hx h0; omega
  have hIFH := Lib.hid (And.intro hT4 hF4')
  clear hT2 hIn hF2 hIn2 hT4 hF4'
  clear hg4 hm4 hback4 hFl
  go_wp2
  refine wp_loop_rounds 2 ?_
  rw [rounds_succ]
  go_wp2_with fail
  refine (blo.out w4 _ _ g _ hD4 hIFH.out.1 hIFH.out.2 (by show (1 : Int) + 1089 ≤ 1090; decide)).mono ?_
  rintro q w6 ⟨rfl, hW5⟩
  clear q0 q1
  rw [show ([5] : List Int) ++ blkB ⟨h, p, m, zs⟩ = 5 :: blkB ⟨h, p, m, zs⟩ from rfl, ← hmH.out] at hW5
  have hS5 := hS4.trans (hW5.below hF4 hS4.size)
  have hlen := hlen.out
  clear hS4 hD4 hQ4
  go_wp2
  rw [rounds_succ]
  go_wp2_with fail
  have hd := hW5.done hlen
  rw [if_pos rfl] at hd
  clear hW5
  go_wp2_with fail
  refine hd.mono ?_
  rintro q w8 ⟨b, d, rfl, ho, b8⟩
  obtain ⟨b', d', hv, hJ⟩ := Ints.of_owns ho
  injection hv with e1 _ e2
  subst e1; subst e2
  go_wp2
  go_ret2
  exact ⟨b, d, rfl, hJ, (fun x hx _ => Nat.le_trans hS5.size (ho.lt x.block (by rw [hx]; rfl)).1), hS5.trans (b8.mono hS5.size)⟩

set_option maxRecDepth 100000 in
set_option maxHeartbeats 4000000 in
theorem kcEncode_6 (S Q O : Int) (H xs h p : List Int) (m : Nat) (zs : List Int) (a b : Option Addr) (c d : Nat) (w : World) (hr : RecOk ⟨⟨6, S, Q, O, H, xs⟩, ⟨h, p, m, zs⟩⟩) (hI : RecAt w ⟨⟨6, S, Q, O, H, xs⟩, ⟨h, p, m, zs⟩⟩ a c b d) (hn : m ≤ 100000) (hrt : rightRec ⟨⟨6, S, Q, O, H, xs⟩, ⟨h, p, m, zs⟩⟩ = true) :
    Calls Try.prog 8 #[.agg (rC ⟨⟨6, S, Q, O, H, xs⟩, ⟨h, p, m, zs⟩⟩ a c b d).toArray] w fun q w' => ∃ b' d', q = .returned (.tuple #[.slice b' (recB ⟨⟨6, S, Q, O, H, xs⟩, ⟨h, p, m, zs⟩⟩).length d', .int .i64 0]) ∧ Ints .u8 w' b' (recB ⟨⟨6, S, Q, O, H, xs⟩, ⟨h, p, m, zs⟩⟩).length d' (recB ⟨⟨6, S, Q, O, H, xs⟩, ⟨h, p, m, zs⟩⟩) ∧ (∀ x, b' = some x → 0 < (recB ⟨⟨6, S, Q, O, H, xs⟩, ⟨h, p, m, zs⟩⟩).length → w.heap.size ≤ x.block) ∧ Below w.heap.size w w' := by
  have hR := fun w' (k : Below w.heap.size w w') => kcRight_any ⟨⟨6, S, Q, O, H, xs⟩, ⟨h, p, m, zs⟩⟩ a b c d w' hr (hI.keep k) hn
  rw [hrt] at hR
  have hlen := (recB_len hr hrt).2
  have hm := recB_6 S O Q H xs ⟨h, p, m, zs⟩
  dsimp only at hm
  obtain ⟨⟨hs, hqr, _, hl, _, _⟩, ⟨hh, hp, _, _, _, _⟩⟩ := hr
  obtain ⟨hI, hT⟩ := hI
  dsimp only at hs hqr hl hh hp hI hT
  unfold rC at hR ⊢
  dsimp only at hR ⊢
  obtain ⟨n, hnx⟩ : ∃ n, xs.length = n := ⟨_, rfl⟩
  rw [hnx] at hR hI ⊢
  have hCl := rcC_len (K := 6) (S := S) (Q := Q) (O := O) (a := a) (n := n) (c := c) (b := b) (m := m) (d := d) hl hh hp
  have e0 := Lib.hid (fun w' g (k : Blk w' g 33 (rcC 6 S Q O H a n c h p b m d)) => rc0 k)
  have hP := Lib.hid (fun w' => kcParts_6 6 S Q O H a n c h p b m d w' hl hh hp rfl)
  have has := Lib.hid (fun (w' V : World) (F0 : Nat → Prop) (g : Nat) (L : List Int) (hD : We 1090 V F0 g w' L) (h1 : (L.length : Int) + 32 ≤ 1090) => kcHash_any 6 S Q O H a n c h p b m d w' hl hh hp hD h1 (by omega))
  obtain ⟨C, hC⟩ : ∃ C, rcC 6 S Q O H a n c h p b m d = C := ⟨_, rfl⟩
  rw [hC] at hR hCl e0 hP has
  rw [hC]
  have hR := Lib.hid hR
  obtain ⟨M, hMM⟩ : ∃ M, recB ⟨⟨6, S, Q, O, H, xs⟩, ⟨h, p, m, zs⟩⟩ = M := ⟨_, rfl⟩
  rw [hMM] at hm hlen
  rw [hMM]
  have hmH := Lib.hid hm
  have hlen : M.length ≤ 100000000 := by omega
  have hlen := Lib.hid hlen
  have hb := below1 w (.cells C.toArray 33)
  have hk : Blk (w.alloc (.cells C.toArray 33)) w.heap.size 33 C := Blk.new w _ C
  obtain ⟨W, hW⟩ : ∃ V, w.alloc (.cells C.toArray 33) = V := ⟨_, rfl⟩
  rw [hW] at hb hk
  obtain ⟨G, g9⟩ : ∃ G, w.heap.size = G := ⟨_, rfl⟩
  rw [g9] at hk
  have gH := Lib.hid g9
  have hIH := Lib.hid (And.intro hI hT)
  clear hC hMM hm hrt hI hT hn
  go_enter Try.func8, Try.ntmps8
  go_wp2_with ((with_reducible refine box_row rfl 33 (.tmp 0) rfl C ?_ ?_); rfl; refine RowKit.Hid.out ?_)
  refine Lib.hid ?_
  clear hW
  go_wp2_with ((with_reducible refine wpList_load_blk rfl 33 (.tmp 1) rfl ?_ hk rowRc hCl ?_); rfl)
  refine (hR.out W hb).mono ?_
  rintro q w1 ⟨rfl, b1⟩
  have hk1 := hk.keep b1 hk.lt
  have hS1 := hb.trans (b1.mono hb.size)
  clear hk hb b1 hR
  go_wp2_with fail
  refine (wNew_any 1090 w1 (by decide)).mono ?_
  rintro q w2 ⟨g, F, rfl, hw2, hF2, b2⟩
  rw [show max (1090 : Int) 0 = 1090 by decide] at hw2
  have hk2 := hk1.keep b2 hk1.lt
  have hS2 := hS1.trans (b2.mono hS1.size)
  have nG : ¬ F G := fun h => by have := hF2 _ h; have := hk1.lt; omega
  have hFl : ∀ b, F b → w.heap.size ≤ b := fun b hb => Nat.le_trans hS1.size (hF2 b hb)
  have hD := We.start hw2
  have c0 := e0.out w2 G hk2
  clear b2 hF2 hw2 hk1 hS1
  go_wp2_with fail
  refine (we_num hD _ 1 ⟨by decide, by decide, by decide⟩ (by decide) (by decide) (by decide)).mono ?_
  rintro q w3 ⟨rfl, hD3⟩
  rw [List.nil_append, show (1 : Int).toNat = 1 from rfl, beL_k (by decide)] at hD3
  have hk3 := hD3.blk hk2 nG
  clear hD c0
  go_wp2_with ((with_reducible refine wpList_load_blk rfl 33 (.tmp 1) rfl ?_ hk3 rowRc hCl ?_); rfl)
  refine (hP.out w3).mono ?_
  rintro q w4 ⟨gp, rfl, hQ4, hgp, b4⟩
  obtain ⟨F4, hD4, hlt4, hg4, hm4, hback4⟩ := hD3.rebase b4
  have nP : ¬ F4 gp := fun hf => by have := hlt4 _ hf; omega
  have hF4 : ∀ b, F4 b → w.heap.size ≤ b := fun b hb' => by
    rcases hg4 b hb' with h | h
    · exact hFl b h
    · exact Nat.le_trans hS2.size h
  have hS4 := hS2.trans (hm4.below hFl hS2.size)
  have q0 := hQ4.cell 0
  have q1 := hQ4.cell 1
  clear hD3 hk3 hk2 nG b4 hlt4
  clear hg4 hm4 hback4 hFl
  go_wp2
  refine wp_loop_rounds 2 ?_
  rw [rounds_succ]
  go_wp2_with fail
  refine (has.out w4 _ _ g _ hD4 (by show (1 : Int) + 32 ≤ 1090; decide)).mono ?_
  rintro q w6 ⟨rfl, hW5⟩
  clear q0 q1
  rw [show ([6] : List Int) ++ h = 6 :: h from rfl, ← hmH.out] at hW5
  have hS5 := hS4.trans (hW5.below hF4 hS4.size)
  have hlen := hlen.out
  clear hS4 hD4 hQ4
  go_wp2
  rw [rounds_succ]
  go_wp2_with fail
  have hd := hW5.done hlen
  rw [if_pos rfl] at hd
  clear hW5
  go_wp2_with fail
  refine hd.mono ?_
  rintro q w8 ⟨b, d, rfl, ho, b8⟩
  obtain ⟨b', d', hv, hJ⟩ := Ints.of_owns ho
  injection hv with e1 _ e2
  subst e1; subst e2
  go_wp2
  go_ret2
  exact ⟨b, d, rfl, hJ, (fun x hx _ => Nat.le_trans hS5.size (ho.lt x.block (by rw [hx]; rfl)).1), hS5.trans (b8.mono hS5.size)⟩

set_option maxRecDepth 100000 in
set_option maxHeartbeats 4000000 in
theorem kcEncode_no (r : RecV) (a b : Option Addr) (c d : Nat) (w : World) (hr : RecOk r) (hI : RecAt w r a c b d) (hn : r.b.n ≤ 100000) (hrt : rightRec r = false) :
    Calls Try.prog 8 #[.agg (rC r a c b d).toArray] w fun q w' => q = .returned (.tuple #[.slice none 0 0, .int .i64 1]) ∧ Below w.heap.size w w' := by
  have hR := fun w' (k : Below w.heap.size w w') => kcRight_any r a b c d w' hr (hI.keep k) hn
  rw [hrt] at hR
  have hCl := rC_len hr a c b d
  obtain ⟨C, hC⟩ : ∃ C, rC r a c b d = C := ⟨_, rfl⟩
  rw [hC] at hR hCl
  rw [hC]
  have hR := Lib.hid hR
  have hb := below1 w (.cells C.toArray 33)
  have hk : Blk (w.alloc (.cells C.toArray 33)) w.heap.size 33 C := Blk.new w _ C
  obtain ⟨W, hW⟩ : ∃ V, w.alloc (.cells C.toArray 33) = V := ⟨_, rfl⟩
  rw [hW] at hb hk
  obtain ⟨G, g9⟩ : ∃ G, w.heap.size = G := ⟨_, rfl⟩
  rw [g9] at hk
  clear hC hrt hI hn
  go_enter Try.func8, Try.ntmps8
  go_wp2_with ((with_reducible refine box_row rfl 33 (.tmp 0) rfl C ?_ ?_); rfl; refine RowKit.Hid.out ?_)
  refine Lib.hid ?_
  clear hW
  go_wp2_with ((with_reducible refine wpList_load_blk rfl 33 (.tmp 1) rfl ?_ hk rowRc hCl ?_); rfl)
  refine (hR.out W hb).mono ?_
  rintro q w1 ⟨rfl, b1⟩
  have hk1 := hk.keep b1 hk.lt
  have hS1 := hb.trans (b1.mono hb.size)
  clear hk hb b1 hR
  go_wp2
  go_ret2
  exact ⟨rfl, by first | exact hS1 | (rw [g9]; exact hS1) | (rw [← g9]; exact hS1)⟩

theorem kcEncode_any (r : RecV) (a b : Option Addr) (c d : Nat) (w : World) (hr : RecOk r) (hI : RecAt w r a c b d) (hn : r.b.n ≤ 100000) :
    Calls Try.prog 8 #[.agg (rC r a c b d).toArray] w fun q w' => ∃ b' d', q = .returned (.tuple #[.slice b' (encRec r).1.length d', .int .i64 (encRec r).2]) ∧ Ints .u8 w' b' (encRec r).1.length d' (encRec r).1 ∧ (∀ x, b' = some x → 0 < (encRec r).1.length → w.heap.size ≤ x.block) ∧ Below w.heap.size w w' := by
  unfold encRec
  cases hrt : rightRec r with
  | false =>
    rw [if_neg (by decide)]
    refine (kcEncode_no r a b c d w hr hI hn hrt).mono ?_
    rintro q w' ⟨rfl, hb⟩
    exact ⟨none, 0, rfl, ⟨rfl, Nat.le_refl _, .inl rfl⟩, (fun x h => by cases h), hb⟩
  | true =>
    rw [if_pos rfl]
    dsimp only
    obtain ⟨⟨K, S, Q, O, H, xs⟩, ⟨h, p, m, zs⟩⟩ := r
    have hK : K = 1 ∨ K = 2 ∨ K = 4 ∨ K = 5 ∨ K = 6 := by
      rcases right_cases hrt with ⟨s, o, e, _⟩ | ⟨s, q, g, x, e, _⟩ | ⟨s, e⟩ | ⟨b, e, _⟩ | ⟨g, e⟩
      all_goals (injection e with e _; injection e with e _; subst e; decide)
    rcases hK with rfl | rfl | rfl | rfl | rfl
    · exact kcEncode_1 S Q O H xs h p m zs a b c d w hr hI hn hrt
    · exact kcEncode_2 S Q O H xs h p m zs a b c d w hr hI hn hrt
    · exact kcEncode_4 S Q O H xs h p m zs a b c d w hr hI hn hrt
    · exact kcEncode_5 S Q O H xs h p m zs a b c d w hr hI hn hrt
    · exact kcEncode_6 S Q O H xs h p m zs a b c d w hr hI hn hrt
end Go.Proofs.Ytaaflnmdaplfkaa

/-
  The document's own Decode of a record: an Upload, a Connect, and any bytes. New memory alone is written. Conditions: bytes below 256, at most a million. (Made by wip/tools/mk_kfdecode.py.)
-/
namespace Go.Proofs.Ytaaflnmdaplfkaa
open Go.RowKit

set_option maxRecDepth 100000 in
set_option maxHeartbeats 4000000 in
theorem r17Decode_upload (a : Option Addr) (n c : Nat) (r : List Int) (w : World) (hI : Ints .u8 w a n c (2 :: r)) (hr : okB (2 :: r)) (hn : n ≤ 1000000)  :
    Calls Try.prog 14 #[.slice a n c] w (DecEndR (2 :: r) w) := by
  have hln := hI.len
  have hlr : r.length + 1 = n := hln
  have hcapH := Lib.hid hI.2.1
  have hnm0 : (n : Int) ≤ 1000000 := by omega
  obtain ⟨bb, off, rfl, _⟩ := hI.at (show 0 < n by omega)
  have hcell := Lib.hid (fun w' (h : Below w.heap.size w w') i (hi : i < n) => show w'.cell? ⟨bb, off + i, none⟩ = some (.int .u8 ((2 :: r).getD i 0)) from by
    obtain ⟨b', off', hae, hc⟩ := (hI.keep h).at (show 0 < n by omega)
    injection hae with hae
    injection hae with e1 e2 _
    subst e1; subst e2
    exact hc i hi)
  have hIH := Lib.hid (fun w' (h : Below w.heap.size w w') => hI.keep h)
  have hrr : okB r := fun x hx => hr x (List.mem_cons_of_mem _ hx)
  have hrrH := Lib.hid hrr
  have hnH := Lib.hid hlr
  have hni : ¬ (n : Int) < 1 := by omega
  have hbt := built_rc1 2
  have hBl := rcC_len (K := 2) (S := 0) (Q := 0) (O := 0) (H := z16) (a := none) (n := 0) (c := 0) (h := z32) (p := z32) (b := none) (m := 0) (d := 0) rfl rfl rfl
  have hB1' := rcC_one (K := 2) (S := 0) (Q := 0) (O := 0) (H := z16) (a := none) (n := 0) (c := 0) (h := z32) (p := z32) (b := none) (m := 0) (d := 0)
  obtain ⟨B, hB⟩ : ∃ B, rcC 2 0 0 0 z16 none 0 0 z32 z32 none 0 0 = B := ⟨_, rfl⟩
  have hBH := Lib.hid hB
  rw [hB] at hbt hBl hB1'
  clear hB
  obtain ⟨Z, hZ⟩ : ∃ Z, rC noRec none 0 none 0 = Z := ⟨_, rfl⟩
  have hZ0 : Zero Try.prog 33 Z := by rw [← hZ]; exact zeroRc
  have hZl : Z.length = 86 := by rw [← hZ]; exact rC_len noRec_ok _ _ _ _
  have hZ1 : ∀ v ∈ Z, v.oneCell' = true := by rw [← hZ]; exact rC_one _ _ _ _ _
  have hbt0 : Try.prog.built 33 [] = some Z.toArray := by rw [← hZ]; exact built_rc0
  have hZH := Lib.hid hZ
  clear hZ
  have hb := below1 w (.cells Z.toArray 33)
  have hk : Blk (w.alloc (.cells Z.toArray 33)) w.heap.size 33 Z := Blk.new w _ _
  obtain ⟨V, hV⟩ : ∃ V, w.alloc (.cells Z.toArray 33) = V := ⟨_, rfl⟩
  rw [hV] at hb hk
  obtain ⟨G, g9⟩ : ∃ G, w.heap.size = G := ⟨_, rfl⟩
  rw [g9] at hk
  have gH := Lib.hid g9
  unfold DecEndR

  have hshort : r.length < 24 → decRec (2 :: r) = (noRec, 2) := fun h => by rw [decRec, if_neg (by decide), if_neg (by decide), if_pos rfl, if_pos h]
  have hlong : 624 < r.length → decRec (2 :: r) = (noRec, 3) := fun h => by rw [decRec, if_neg (by decide), if_neg (by decide), if_pos rfl, if_neg (by omega), if_pos h]
  have hgood : 24 ≤ r.length → r.length ≤ 624 → decRec (2 :: r) = if rightRec ⟨⟨2, be (r.take 4), be ((r.drop 4).take 4), 0, (r.drop 8).take 16, r.drop 24⟩, noBlk⟩ = true then (⟨⟨2, be (r.take 4), be ((r.drop 4).take 4), 0, (r.drop 8).take 16, r.drop 24⟩, noBlk⟩, 0) else (noRec, 4) := fun h1 h2 => by
    rw [right_2 _ _ _ _ (by rw [List.length_drop]; omega), if_pos rfl, decRec, if_neg (by decide), if_neg (by decide), if_pos rfl, if_neg (by omega), if_neg (by omega)]

  by_cases hs : n < 25
  · have hsi : (n : Int) < 25 := by omega
    have hend := Lib.hid (hshort (by omega))
    clear hI hr hn hln hlr hrr hshort hlong hgood hs
    go_enter Try.func14, Try.ntmps14
    go_wp2_with ((with_reducible refine wpList_alloc_blk rfl 33 rfl hZ0 ?_); refine RowKit.Hid.out ?_)
    refine Lib.hid ?_
    clear hV g9
    go_wp2_with ((with_reducible refine build_row rfl 33 #[] rfl (cells := Z.toArray) ?_ ?_); (refine Eq.trans (congrArg _ ?_) hbt0; kernel_rfl); refine RowKit.Hid.out ?_)
    refine Lib.hid ?_
    refine wpList_alloc_blk rfl 33 rfl hZ0 ?_
    try simp only [Act.put, List.setIfInBounds_toArray, List.set_cons_zero, List.set_cons_succ]
    have hGA := hk.alloc (.cells Z.toArray 33)
    have hNA := Blk.new V 33 Z
    have hBA := hb.alloc hb.size (.cells Z.toArray 33)
    have hnG : G < V.heap.size := hk.lt
    obtain ⟨N0, hN⟩ : ∃ N, V.heap.size = N := ⟨_, rfl⟩
    rw [hN] at hNA hnG ⊢
    have nG0 := Lib.hid hnG
    obtain ⟨U, hU⟩ : ∃ W, V.alloc (.cells Z.toArray 33) = W := ⟨_, rfl⟩
    rw [hU] at hGA hNA hBA ⊢
    clear hk hb hN hU
    refine store_row rfl 33 (.tmp 4) (.tmp 12) rfl rfl rfl hNA rowRc hZl hZl hZ1 ?_
    intro w1 hz1 hg1
    have hG1 := hGA.grown hg1 (fun e => by injection e with e; omega)
    have hB1 := hBA.grown hg1 hBA.size (fun q hq => by injection hq with hq; have := gH.out; omega)
    clear hGA hNA hBA hg1 hnG

    have cb : w1.cell? ⟨bb, off, none⟩ = some (.int .u8 2) := by have := hcell.out w1 hB1 0 (by have := hnH.out; omega); rw [Nat.add_zero] at this; exact this
    go_wp2_with ((with_reducible refine build_row rfl 33 #[(0, .tmp 20)] rfl (cells := B.toArray) ?_ ?_); (refine Eq.trans (congrArg _ ?_) hbt; kernel_rfl); refine RowKit.Hid.out ?_)
    refine Lib.hid ?_
    refine wpList_alloc_blk rfl 33 rfl hZ0 ?_
    try simp only [Act.put, List.setIfInBounds_toArray, List.set_cons_zero, List.set_cons_succ]
    have hGA := hG1.alloc (.cells Z.toArray 33)
    have hzA := hz1.alloc (.cells Z.toArray 33)
    have hNA := Blk.new w1 33 Z
    have hBA := hB1.alloc hB1.size (.cells Z.toArray 33)
    have hn0 : N0 < w1.heap.size := hz1.lt
    obtain ⟨N, hN⟩ : ∃ N, w1.heap.size = N := ⟨_, rfl⟩
    rw [hN] at hNA hn0 ⊢
    have nGN := Lib.hid hn0
    obtain ⟨U1, hU⟩ : ∃ W, w1.alloc (.cells Z.toArray 33) = W := ⟨_, rfl⟩
    rw [hU] at hGA hzA hNA hBA ⊢
    clear hG1 hz1 hB1 hN hU cb
    refine store_row rfl 33 (.tmp 5) (.tmp 21) rfl rfl rfl hNA rowRc hBl hZl hB1' ?_
    intro w2 hN2 hg2
    have hG2 := hGA.grown hg2 (fun e => by injection e with e; have := nG0.out; omega)
    have hz2 := hzA.grown hg2 (fun e => by injection e with e; omega)
    have hB2 := hBA.grown hg2 hBA.size (fun q hq => by injection hq with hq; have := gH.out; have := nG0.out; omega)
    rw [← hBH.out] at hN2
    clear hGA hzA hNA hBA hg2 hn0

    have hG3 := hG2.alloc (.cells #[.int .i64 0, .int .i64 6, .int .i64 25, .int .i64 0, .int .i64 5, .int .i64 0, .int .i64 33] 3)
    have hz3 := hz2.alloc (.cells #[.int .i64 0, .int .i64 6, .int .i64 25, .int .i64 0, .int .i64 5, .int .i64 0, .int .i64 33] 3)
    have hN3 := hN2.alloc (.cells #[.int .i64 0, .int .i64 6, .int .i64 25, .int .i64 0, .int .i64 5, .int .i64 0, .int .i64 33] 3)
    have hM3 := Blk.new w2 3 [.int .i64 0, .int .i64 6, .int .i64 25, .int .i64 0, .int .i64 5, .int .i64 0, .int .i64 33]
    have hB3 := hB2.alloc hB2.size (.cells #[.int .i64 0, .int .i64 6, .int .i64 25, .int .i64 0, .int .i64 5, .int .i64 0, .int .i64 33] 3)
    have hnm : N < w2.heap.size := hN2.lt
    obtain ⟨M5, hM⟩ : ∃ N, w2.heap.size = N := ⟨_, rfl⟩
    obtain ⟨w3, hw3⟩ : ∃ W, w2.alloc (.cells #[.int .i64 0, .int .i64 6, .int .i64 25, .int .i64 0, .int .i64 5, .int .i64 0, .int .i64 33] 3) = W := ⟨_, rfl⟩
    rw [hw3] at hG3 hz3 hN3 hM3 hB3
    rw [hM] at hM3 hnm
    have nNM := Lib.hid hnm
    have c0 := rc0 hN2
    clear hG2 hz2 hB2 hnm
    have c0' := rc0 hN3
    have cs : w3.cell? ⟨M5, 2, none⟩ = some (.int .i64 25) := hM3.cell 2
    clear hM3 hN2

    go_wp2_with ((with_reducible refine wpList_load_blk rfl 33 (.tmp 4) rfl ?_ hz3 rowRc hZl ?_); rfl; refine RowKit.Hid.out ?_)
    refine Lib.hid ?_
    try simp only [Act.put, List.setIfInBounds_toArray, List.set_cons_zero, List.set_cons_succ]
    refine store_row rfl 33 (.tmp 2) (.tmp 62) rfl rfl rfl hG3 rowRc hZl hZl hZ1 ?_
    intro wY hGY hgY
    have hrZ : IsRow Try.prog 33 Z.length := rowRc_of hZl
    have hBY := hB3.grown hgY hB3.size (fun q hq => by injection hq with hq; have := gH.out; omega)
    go_wp2_with fail
    refine bodyPost_ret (results_blk_tmp rfl rfl hGY hrZ) rfl ?_
    rw [hend.out]
    exact ⟨none, 0, none, 0, by rw [← hZH.out]; rfl, recAt_nil wY 0 0, (fun x hx => by cases hx), (fun x hx => by cases hx), hBY⟩
  have hsi : ¬ (n : Int) < 25 := by omega
  have hnF := Lib.hid (show 25 ≤ n by omega)

  have hvr : 0 ≤ be (r.take 4) ∧ be (r.take 4) < 4294967296 := be4_range (okB_take hrr 4) (by rw [List.length_take]; omega)
  obtain ⟨v, hv⟩ : ∃ v, be (r.take 4) = v := ⟨_, rfl⟩
  have hvH := Lib.hid (show be ((r.drop 0).take 4) = v by rw [List.drop_zero]; exact hv)
  rw [hv] at hgood hvr

  have hur : 0 ≤ be ((r.drop 4).take 4) ∧ be ((r.drop 4).take 4) < 4294967296 := be4_range (okB_take (okB_drop hrr 4) 4) (by rw [List.length_take, List.length_drop]; omega)
  obtain ⟨u, hu⟩ : ∃ v, be ((r.drop 4).take 4) = v := ⟨_, rfl⟩
  have huH := Lib.hid hu
  rw [hu] at hgood hur
  have hhl : ((r.drop 8).take 16).length = 16 := by rw [List.length_take, List.length_drop]; omega
  have hhok : okB ((r.drop 8).take 16) := okB_take (okB_drop hrr 8) 16
  have HHg : ∀ j, j < 16 → (2 :: r).getD (9 + j) 0 = ((r.drop 8).take 16).getD j 0 := fun j hj => by
    have := getD_cut (xs := 2 :: r) (p := 9) hj
    exact this.symm
  obtain ⟨HH, hHH⟩ : ∃ h, (r.drop 8).take 16 = h := ⟨_, rfl⟩
  rw [hHH] at hgood hhl hhok HHg
  have HHg := Lib.hid HHg
  have HHl := Lib.hid hhl
  have hysl0 : (r.drop 24).length = n - 25 := by rw [List.length_drop]; omega
  have hyok : okB (r.drop 24) := okB_drop hrr 24
  obtain ⟨ys, hys⟩ : ∃ h, r.drop 24 = h := ⟨_, rfl⟩
  rw [hys] at hgood hysl0 hyok
  have hysH := Lib.hid (show (2 :: r).drop 25 = ys from hys)
  obtain ⟨L, hL⟩ : ∃ L, n - 25 = L := ⟨_, rfl⟩
  rw [hL] at hysl0
  have hLH := Lib.hid hL
  have hnL : (n : Int) = 25 + (L : Int) := by omega
  have e1 : wrap64 ((n : Int) - 25) = (L : Int) := by unfold wrap64; omega
  have e1' : IntKind.i64.wrap ((n : Int) - 25) = (L : Int) := by rw [IntKind.wrap_i64]; omega
  have hnLH := Lib.hid hnL
  clear hnL hv hu hHH hys hL hhl

  by_cases hm : 600 < L
  · have hmi : (600 : Int) < (L : Int) := by omega
    have hend := Lib.hid (hlong (by have := hLH.out; omega))
    clear hI hr hn hln hlr hrr hshort hlong hgood hs hm hysl0 hyok hhok hvr hur
    go_enter Try.func14, Try.ntmps14
    go_wp2_with ((with_reducible refine wpList_alloc_blk rfl 33 rfl hZ0 ?_); refine RowKit.Hid.out ?_)
    refine Lib.hid ?_
    clear hV g9
    go_wp2_with ((with_reducible refine build_row rfl 33 #[] rfl (cells := Z.toArray) ?_ ?_); (refine Eq.trans (congrArg _ ?_) hbt0; kernel_rfl); refine RowKit.Hid.out ?_)
    refine Lib.hid ?_
    refine wpList_alloc_blk rfl 33 rfl hZ0 ?_
    try simp only [Act.put, List.setIfInBounds_toArray, List.set_cons_zero, List.set_cons_succ]
    have hGA := hk.alloc (.cells Z.toArray 33)
    have hNA := Blk.new V 33 Z
    have hBA := hb.alloc hb.size (.cells Z.toArray 33)
    have hnG : G < V.heap.size := hk.lt
    obtain ⟨N0, hN⟩ : ∃ N, V.heap.size = N := ⟨_, rfl⟩
    rw [hN] at hNA hnG ⊢
    have nG0 := Lib.hid hnG
    obtain ⟨U, hU⟩ : ∃ W, V.alloc (.cells Z.toArray 33) = W := ⟨_, rfl⟩
    rw [hU] at hGA hNA hBA ⊢
    clear hk hb hN hU
    refine store_row rfl 33 (.tmp 4) (.tmp 12) rfl rfl rfl hNA rowRc hZl hZl hZ1 ?_
    intro w1 hz1 hg1
    have hG1 := hGA.grown hg1 (fun e => by injection e with e; omega)
    have hB1 := hBA.grown hg1 hBA.size (fun q hq => by injection hq with hq; have := gH.out; omega)
    clear hGA hNA hBA hg1 hnG

    have cb : w1.cell? ⟨bb, off, none⟩ = some (.int .u8 2) := by have := hcell.out w1 hB1 0 (by have := hnH.out; omega); rw [Nat.add_zero] at this; exact this
    go_wp2_with ((with_reducible refine build_row rfl 33 #[(0, .tmp 20)] rfl (cells := B.toArray) ?_ ?_); (refine Eq.trans (congrArg _ ?_) hbt; kernel_rfl); refine RowKit.Hid.out ?_)
    refine Lib.hid ?_
    refine wpList_alloc_blk rfl 33 rfl hZ0 ?_
    try simp only [Act.put, List.setIfInBounds_toArray, List.set_cons_zero, List.set_cons_succ]
    have hGA := hG1.alloc (.cells Z.toArray 33)
    have hzA := hz1.alloc (.cells Z.toArray 33)
    have hNA := Blk.new w1 33 Z
    have hBA := hB1.alloc hB1.size (.cells Z.toArray 33)
    have hn0 : N0 < w1.heap.size := hz1.lt
    obtain ⟨N, hN⟩ : ∃ N, w1.heap.size = N := ⟨_, rfl⟩
    rw [hN] at hNA hn0 ⊢
    have nGN := Lib.hid hn0
    obtain ⟨U1, hU⟩ : ∃ W, w1.alloc (.cells Z.toArray 33) = W := ⟨_, rfl⟩
    rw [hU] at hGA hzA hNA hBA ⊢
    clear hG1 hz1 hB1 hN hU cb
    refine store_row rfl 33 (.tmp 5) (.tmp 21) rfl rfl rfl hNA rowRc hBl hZl hB1' ?_
    intro w2 hN2 hg2
    have hG2 := hGA.grown hg2 (fun e => by injection e with e; have := nG0.out; omega)
    have hz2 := hzA.grown hg2 (fun e => by injection e with e; omega)
    have hB2 := hBA.grown hg2 hBA.size (fun q hq => by injection hq with hq; have := gH.out; have := nG0.out; omega)
    rw [← hBH.out] at hN2
    clear hGA hzA hNA hBA hg2 hn0

    have hG3 := hG2.alloc (.cells #[.int .i64 0, .int .i64 6, .int .i64 25, .int .i64 0, .int .i64 5, .int .i64 0, .int .i64 33] 3)
    have hz3 := hz2.alloc (.cells #[.int .i64 0, .int .i64 6, .int .i64 25, .int .i64 0, .int .i64 5, .int .i64 0, .int .i64 33] 3)
    have hN3 := hN2.alloc (.cells #[.int .i64 0, .int .i64 6, .int .i64 25, .int .i64 0, .int .i64 5, .int .i64 0, .int .i64 33] 3)
    have hM3 := Blk.new w2 3 [.int .i64 0, .int .i64 6, .int .i64 25, .int .i64 0, .int .i64 5, .int .i64 0, .int .i64 33]
    have hB3 := hB2.alloc hB2.size (.cells #[.int .i64 0, .int .i64 6, .int .i64 25, .int .i64 0, .int .i64 5, .int .i64 0, .int .i64 33] 3)
    have hnm : N < w2.heap.size := hN2.lt
    obtain ⟨M5, hM⟩ : ∃ N, w2.heap.size = N := ⟨_, rfl⟩
    obtain ⟨w3, hw3⟩ : ∃ W, w2.alloc (.cells #[.int .i64 0, .int .i64 6, .int .i64 25, .int .i64 0, .int .i64 5, .int .i64 0, .int .i64 33] 3) = W := ⟨_, rfl⟩
    rw [hw3] at hG3 hz3 hN3 hM3 hB3
    rw [hM] at hM3 hnm
    have nNM := Lib.hid hnm
    have c0 := rc0 hN2
    clear hG2 hz2 hB2 hnm
    have c0' := rc0 hN3
    have cs : w3.cell? ⟨M5, 2, none⟩ = some (.int .i64 25) := hM3.cell 2
    clear hM3 hN2

    have cv := r17Value_any (cutAddr (some ⟨bb, off, none⟩) c 1) 4 (c - 1) ((r.drop 0).take 4) w3 (by have := (hIH.out w3 hB3).cut2 1 5 (by decide) (by have := hnF.out; omega); exact this) (okB_take (okB_drop hrrH.out 0) 4) (by decide)
    rw [hvH.out] at cv
    have cvH := Lib.hid cv
    clear cv
    have hsl : ∀ wx : World, (Instr.sliceAt 26 (.slice (some ⟨bb, off, none⟩) n c) (some (.int .i64 1)) (some (.int .i64 5)) none).run Try.prog wx = .ok (.slice (cutAddr (some ⟨bb, off, none⟩) c 1) 4 (c - 1)) wx := sl_cut17 (n := n) (c := c) (some ⟨bb, off, none⟩) 1 5 (by decide) (by have := hnF.out; have := hcapH.out; omega)
    obtain ⟨A4, hA4⟩ : ∃ A, cutAddr (some ⟨bb, off, none⟩) c 1 = A := ⟨_, rfl⟩
    rw [hA4] at cvH hsl
    clear hA4
    go_wp2_with fail
    refine cvH.out.mono ?_
    rintro q wv ⟨rfl, hww⟩
    subst hww
    clear cvH hsl

    have d0 := rc1 hN3
    have f0 := hN3.frozen 1
    have hN5 : Blk (w3.setCell ⟨N, 1, none⟩ (.int .u32 v)) N 33 (rcC 2 v 0 0 z16 none 0 0 z32 z32 none 0 0) := by
      have h := hN3.set 1 (.int .u32 v)
      rw [rcC_set1] at h
      exact h
    have hG5 : Blk (w3.setCell ⟨N, 1, none⟩ (.int .u32 v)) G 33 Z := hG3.far (by show G ≠ N; have := nGN.out; have := nG0.out; omega) _
    have hz5 : Blk (w3.setCell ⟨N, 1, none⟩ (.int .u32 v)) N0 33 Z := hz3.far (by show N0 ≠ N; have := nGN.out; omega) _
    have hB5 : Below w.heap.size w (w3.setCell ⟨N, 1, none⟩ (.int .u32 v)) := hB3.setCell (p := ⟨N, 1, none⟩) (by show w.heap.size ≤ N; have := nGN.out; have := nG0.out; have := gH.out; omega) _
    obtain ⟨w5, hw5⟩ : ∃ W, w3.setCell ⟨N, 1, none⟩ (.int .u32 v) = W := ⟨_, rfl⟩
    rw [hw5] at hN5 hG5 hz5 hB5
    clear hN3 hG3 hz3 hB3

    have c05 := rc0 hN5

    have cv := r17Value_any (cutAddr (some ⟨bb, off, none⟩) c 5) 4 (c - 5) ((r.drop 4).take 4) w5 (by have := (hIH.out w5 hB5).cut2 5 9 (by decide) (by have := hnF.out; omega); exact this) (okB_take (okB_drop hrrH.out 4) 4) (by decide)
    rw [huH.out] at cv
    have cvH := Lib.hid cv
    clear cv
    have hsl : ∀ wx : World, (Instr.sliceAt 26 (.slice (some ⟨bb, off, none⟩) n c) (some (.int .i64 5)) (some (.int .i64 9)) none).run Try.prog wx = .ok (.slice (cutAddr (some ⟨bb, off, none⟩) c 5) 4 (c - 5)) wx := sl_cut17 (n := n) (c := c) (some ⟨bb, off, none⟩) 5 9 (by decide) (by have := hnF.out; have := hcapH.out; omega)
    obtain ⟨A4, hA4⟩ : ∃ A, cutAddr (some ⟨bb, off, none⟩) c 5 = A := ⟨_, rfl⟩
    rw [hA4] at cvH hsl
    clear hA4
    go_wp2_with fail
    refine cvH.out.mono ?_
    rintro q wv ⟨rfl, hww⟩
    subst hww
    clear cvH hsl

    have d0 := rc2 hN5
    have f0 := hN5.frozen 2
    have hN7 : Blk (w5.setCell ⟨N, 2, none⟩ (.int .u32 u)) N 33 (rcC 2 v u 0 z16 none 0 0 z32 z32 none 0 0) := by
      have h := hN5.set 2 (.int .u32 u)
      rw [rcC_set2] at h
      exact h
    have hG7 : Blk (w5.setCell ⟨N, 2, none⟩ (.int .u32 u)) G 33 Z := hG5.far (by show G ≠ N; have := nGN.out; have := nG0.out; omega) _
    have hz7 : Blk (w5.setCell ⟨N, 2, none⟩ (.int .u32 u)) N0 33 Z := hz5.far (by show N0 ≠ N; have := nGN.out; omega) _
    have hB7 : Below w.heap.size w (w5.setCell ⟨N, 2, none⟩ (.int .u32 u)) := hB5.setCell (p := ⟨N, 2, none⟩) (by show w.heap.size ≤ N; have := nGN.out; have := nG0.out; have := gH.out; omega) _
    obtain ⟨w7, hw7⟩ : ∃ W, w5.setCell ⟨N, 2, none⟩ (.int .u32 u) = W := ⟨_, rfl⟩
    rw [hw7] at hN7 hG7 hz7 hB7
    clear hN5 hG5 hz5 hB5

    have c07 := rc0 hN7
    clear c0 c0' cs

    go_wp2_with fail
    go_loopw [11] (fun i wr => ∃ j : Nat, j ≤ 16 ∧ i = .int .i64 j ∧ Blk wr N 33 (rcC 2 v u 0 (fil HH j) none 0 0 z32 z32 none 0 0) ∧ Blk wr G 33 Z ∧ Blk wr N0 33 Z ∧ Below w.heap.size w wr) (fun i _ => 16 - (intOf i).toNat)
    case atStart => exact ⟨0, Nat.zero_le _, rfl, by rw [fil_zero, HHl.out]; exact hN7, hG7, hz7, hB7⟩
    case round =>
      clear hN7 hG7 hz7 hB7
      obtain ⟨j, hjl, rfl, hNr, hGr, hzr, hBr⟩ := hrel
      by_cases hlt : j < 16
      · have hji : (j : Int) < 16 := by omega
        have hj9 : (9 : Int) + (j : Int) < (n : Int) := by have := hnF.out; omega
        have cb := hcell.out wr hBr (9 + j) (by have := hnF.out; omega)
        rw [HHg.out j hlt] at cb
        obtain ⟨x, hx⟩ : ∃ x, HH.getD j 0 = x := ⟨_, rfl⟩
        rw [hx] at cb
        have hjb : j < HH.length := by rw [HHl.out]; exact hlt
        have hst := fil_step hjb
        rw [hx] at hst
        have hfl := fil_len (l := HH) (j := j) (by omega)
        rw [HHl.out] at hfl
        have d0 := (rc4 hNr) j (.int .u8 0) (by rw [List.getElem?_map, fil_at hjb]; rfl)
        have f0 := hNr.frozen (4 + j)
        have hNs : Blk (wr.setCell ⟨N, 4 + j, none⟩ (.int .u8 x)) N 33 (rcC 2 v u 0 (fil HH (j + 1)) none 0 0 z32 z32 none 0 0) := by
          have h := hNr.set (4 + j) (.int .u8 x)
          rw [rcC_sethint hfl hlt, ← hst] at h
          exact h
        have hGs : Blk (wr.setCell ⟨N, 4 + j, none⟩ (.int .u8 x)) G 33 Z := hGr.far (by show G ≠ N; have := nGN.out; have := nG0.out; omega) _
        have hzs : Blk (wr.setCell ⟨N, 4 + j, none⟩ (.int .u8 x)) N0 33 Z := hzr.far (by show N0 ≠ N; have := nGN.out; omega) _
        have hBs : Below w.heap.size w (wr.setCell ⟨N, 4 + j, none⟩ (.int .u8 x)) := hBr.setCell (p := ⟨N, 4 + j, none⟩) (by show w.heap.size ≤ N; have := nGN.out; have := nG0.out; have := gH.out; omega) _
        have hltH := Lib.hid hlt
        clear hlt hjl hNr hGr hzr hBr hx hst hfl hjb
        go_wp2
        exact ⟨⟨j + 1, by have := hltH.out; omega, by congr 1, hNs, hGs, hzs, hBs⟩, by simp only [intOf]; have := hltH.out; omega⟩
      · obtain rfl : j = 16 := by omega
        have hji : ¬ ((16 : Nat) : Int) < 16 := by omega
        rw [fil_all HHl.out.symm] at hNr
        have c0r := rc0 hNr
        clear hlt hjl
        go_wp2_with ((with_reducible refine wpList_load_blk rfl 33 (.tmp 4) rfl ?_ hzr rowRc hZl ?_); rfl; refine RowKit.Hid.out ?_)
        refine Lib.hid ?_
        try simp only [Act.put, List.setIfInBounds_toArray, List.set_cons_zero, List.set_cons_succ]
        refine store_row rfl 33 (.tmp 2) (.tmp 115) rfl rfl rfl hGr rowRc hZl hZl hZ1 ?_
        intro wY hGY hgY
        have hrZ : IsRow Try.prog 33 Z.length := rowRc_of hZl
        have hBY := hBr.grown hgY hBr.size (fun q hq => by injection hq with hq; have := gH.out; omega)
        go_wp2_with fail
        refine bodyPost_ret (results_blk_tmp rfl rfl hGY hrZ) rfl ?_
        rw [hend.out]
        exact ⟨none, 0, none, 0, by rw [← hZH.out]; rfl, recAt_nil wY 0 0, (fun x hx => by cases hx), (fun x hx => by cases hx), hBY⟩
  have hmi : ¬ (600 : Int) < (L : Int) := by omega
  have hm6 := Lib.hid (show L ≤ 600 by omega)
  obtain ⟨i0, hi, hz0, hz1, hz2⟩ := info_u8b
  have hend := Lib.hid (hgood (by omega) (by have := hLH.out; omega))
  obtain ⟨rd, hrd⟩ : ∃ rd : RecV, ⟨⟨2, v, u, 0, HH, ys⟩, noBlk⟩ = rd := ⟨_, rfl⟩
  have hokH := Lib.hid (show RecOk rd by rw [← hrd]; exact ⟨ok_msg hvr hur zero_ok HHl.out hhok hyok, noBlk_ok⟩)
  have hnnH := Lib.hid (show rd.b.n ≤ 100000 by rw [← hrd]; exact Nat.zero_le _)
  rw [hrd] at hend
  have hrdH := Lib.hid hrd
  have hyl := Lib.hid hysl0
  clear hI hr hn hln hlr hrr hshort hlong hgood hs hm hysl0 hyok hhok hvr hur hrd

  go_enter Try.func14, Try.ntmps14
  go_wp2_with ((with_reducible refine wpList_alloc_blk rfl 33 rfl hZ0 ?_); refine RowKit.Hid.out ?_)
  refine Lib.hid ?_
  clear hV g9
  go_wp2_with ((with_reducible refine build_row rfl 33 #[] rfl (cells := Z.toArray) ?_ ?_); (refine Eq.trans (congrArg _ ?_) hbt0; kernel_rfl); refine RowKit.Hid.out ?_)
  refine Lib.hid ?_
  refine wpList_alloc_blk rfl 33 rfl hZ0 ?_
  try simp only [Act.put, List.setIfInBounds_toArray, List.set_cons_zero, List.set_cons_succ]
  have hGA := hk.alloc (.cells Z.toArray 33)
  have hNA := Blk.new V 33 Z
  have hBA := hb.alloc hb.size (.cells Z.toArray 33)
  have hnG : G < V.heap.size := hk.lt
  obtain ⟨N0, hN⟩ : ∃ N, V.heap.size = N := ⟨_, rfl⟩
  rw [hN] at hNA hnG ⊢
  have nG0 := Lib.hid hnG
  obtain ⟨U, hU⟩ : ∃ W, V.alloc (.cells Z.toArray 33) = W := ⟨_, rfl⟩
  rw [hU] at hGA hNA hBA ⊢
  clear hk hb hN hU
  refine store_row rfl 33 (.tmp 4) (.tmp 12) rfl rfl rfl hNA rowRc hZl hZl hZ1 ?_
  intro w1 hz1 hg1
  have hG1 := hGA.grown hg1 (fun e => by injection e with e; omega)
  have hB1 := hBA.grown hg1 hBA.size (fun q hq => by injection hq with hq; have := gH.out; omega)
  clear hGA hNA hBA hg1 hnG

  have cb : w1.cell? ⟨bb, off, none⟩ = some (.int .u8 2) := by have := hcell.out w1 hB1 0 (by have := hnH.out; omega); rw [Nat.add_zero] at this; exact this
  go_wp2_with ((with_reducible refine build_row rfl 33 #[(0, .tmp 20)] rfl (cells := B.toArray) ?_ ?_); (refine Eq.trans (congrArg _ ?_) hbt; kernel_rfl); refine RowKit.Hid.out ?_)
  refine Lib.hid ?_
  refine wpList_alloc_blk rfl 33 rfl hZ0 ?_
  try simp only [Act.put, List.setIfInBounds_toArray, List.set_cons_zero, List.set_cons_succ]
  have hGA := hG1.alloc (.cells Z.toArray 33)
  have hzA := hz1.alloc (.cells Z.toArray 33)
  have hNA := Blk.new w1 33 Z
  have hBA := hB1.alloc hB1.size (.cells Z.toArray 33)
  have hn0 : N0 < w1.heap.size := hz1.lt
  obtain ⟨N, hN⟩ : ∃ N, w1.heap.size = N := ⟨_, rfl⟩
  rw [hN] at hNA hn0 ⊢
  have nGN := Lib.hid hn0
  obtain ⟨U1, hU⟩ : ∃ W, w1.alloc (.cells Z.toArray 33) = W := ⟨_, rfl⟩
  rw [hU] at hGA hzA hNA hBA ⊢
  clear hG1 hz1 hB1 hN hU cb
  refine store_row rfl 33 (.tmp 5) (.tmp 21) rfl rfl rfl hNA rowRc hBl hZl hB1' ?_
  intro w2 hN2 hg2
  have hG2 := hGA.grown hg2 (fun e => by injection e with e; have := nG0.out; omega)
  have hz2 := hzA.grown hg2 (fun e => by injection e with e; omega)
  have hB2 := hBA.grown hg2 hBA.size (fun q hq => by injection hq with hq; have := gH.out; have := nG0.out; omega)
  rw [← hBH.out] at hN2
  clear hGA hzA hNA hBA hg2 hn0

  have hG3 := hG2.alloc (.cells #[.int .i64 0, .int .i64 6, .int .i64 25, .int .i64 0, .int .i64 5, .int .i64 0, .int .i64 33] 3)
  have hz3 := hz2.alloc (.cells #[.int .i64 0, .int .i64 6, .int .i64 25, .int .i64 0, .int .i64 5, .int .i64 0, .int .i64 33] 3)
  have hN3 := hN2.alloc (.cells #[.int .i64 0, .int .i64 6, .int .i64 25, .int .i64 0, .int .i64 5, .int .i64 0, .int .i64 33] 3)
  have hM3 := Blk.new w2 3 [.int .i64 0, .int .i64 6, .int .i64 25, .int .i64 0, .int .i64 5, .int .i64 0, .int .i64 33]
  have hB3 := hB2.alloc hB2.size (.cells #[.int .i64 0, .int .i64 6, .int .i64 25, .int .i64 0, .int .i64 5, .int .i64 0, .int .i64 33] 3)
  have hnm : N < w2.heap.size := hN2.lt
  obtain ⟨M5, hM⟩ : ∃ N, w2.heap.size = N := ⟨_, rfl⟩
  obtain ⟨w3, hw3⟩ : ∃ W, w2.alloc (.cells #[.int .i64 0, .int .i64 6, .int .i64 25, .int .i64 0, .int .i64 5, .int .i64 0, .int .i64 33] 3) = W := ⟨_, rfl⟩
  rw [hw3] at hG3 hz3 hN3 hM3 hB3
  rw [hM] at hM3 hnm
  have nNM := Lib.hid hnm
  have c0 := rc0 hN2
  clear hG2 hz2 hB2 hnm
  have c0' := rc0 hN3
  have cs : w3.cell? ⟨M5, 2, none⟩ = some (.int .i64 25) := hM3.cell 2
  clear hM3 hN2

  have cv := r17Value_any (cutAddr (some ⟨bb, off, none⟩) c 1) 4 (c - 1) ((r.drop 0).take 4) w3 (by have := (hIH.out w3 hB3).cut2 1 5 (by decide) (by have := hnF.out; omega); exact this) (okB_take (okB_drop hrrH.out 0) 4) (by decide)
  rw [hvH.out] at cv
  have cvH := Lib.hid cv
  clear cv
  have hsl : ∀ wx : World, (Instr.sliceAt 26 (.slice (some ⟨bb, off, none⟩) n c) (some (.int .i64 1)) (some (.int .i64 5)) none).run Try.prog wx = .ok (.slice (cutAddr (some ⟨bb, off, none⟩) c 1) 4 (c - 1)) wx := sl_cut17 (n := n) (c := c) (some ⟨bb, off, none⟩) 1 5 (by decide) (by have := hnF.out; have := hcapH.out; omega)
  obtain ⟨A4, hA4⟩ : ∃ A, cutAddr (some ⟨bb, off, none⟩) c 1 = A := ⟨_, rfl⟩
  rw [hA4] at cvH hsl
  clear hA4
  go_wp2_with fail
  refine cvH.out.mono ?_
  rintro q wv ⟨rfl, hww⟩
  subst hww
  clear cvH hsl

  have d0 := rc1 hN3
  have f0 := hN3.frozen 1
  have hN5 : Blk (w3.setCell ⟨N, 1, none⟩ (.int .u32 v)) N 33 (rcC 2 v 0 0 z16 none 0 0 z32 z32 none 0 0) := by
    have h := hN3.set 1 (.int .u32 v)
    rw [rcC_set1] at h
    exact h
  have hG5 : Blk (w3.setCell ⟨N, 1, none⟩ (.int .u32 v)) G 33 Z := hG3.far (by show G ≠ N; have := nGN.out; have := nG0.out; omega) _
  have hz5 : Blk (w3.setCell ⟨N, 1, none⟩ (.int .u32 v)) N0 33 Z := hz3.far (by show N0 ≠ N; have := nGN.out; omega) _
  have hB5 : Below w.heap.size w (w3.setCell ⟨N, 1, none⟩ (.int .u32 v)) := hB3.setCell (p := ⟨N, 1, none⟩) (by show w.heap.size ≤ N; have := nGN.out; have := nG0.out; have := gH.out; omega) _
  obtain ⟨w5, hw5⟩ : ∃ W, w3.setCell ⟨N, 1, none⟩ (.int .u32 v) = W := ⟨_, rfl⟩
  rw [hw5] at hN5 hG5 hz5 hB5
  clear hN3 hG3 hz3 hB3

  have c05 := rc0 hN5

  have cv := r17Value_any (cutAddr (some ⟨bb, off, none⟩) c 5) 4 (c - 5) ((r.drop 4).take 4) w5 (by have := (hIH.out w5 hB5).cut2 5 9 (by decide) (by have := hnF.out; omega); exact this) (okB_take (okB_drop hrrH.out 4) 4) (by decide)
  rw [huH.out] at cv
  have cvH := Lib.hid cv
  clear cv
  have hsl : ∀ wx : World, (Instr.sliceAt 26 (.slice (some ⟨bb, off, none⟩) n c) (some (.int .i64 5)) (some (.int .i64 9)) none).run Try.prog wx = .ok (.slice (cutAddr (some ⟨bb, off, none⟩) c 5) 4 (c - 5)) wx := sl_cut17 (n := n) (c := c) (some ⟨bb, off, none⟩) 5 9 (by decide) (by have := hnF.out; have := hcapH.out; omega)
  obtain ⟨A4, hA4⟩ : ∃ A, cutAddr (some ⟨bb, off, none⟩) c 5 = A := ⟨_, rfl⟩
  rw [hA4] at cvH hsl
  clear hA4
  go_wp2_with fail
  refine cvH.out.mono ?_
  rintro q wv ⟨rfl, hww⟩
  subst hww
  clear cvH hsl

  have d0 := rc2 hN5
  have f0 := hN5.frozen 2
  have hN7 : Blk (w5.setCell ⟨N, 2, none⟩ (.int .u32 u)) N 33 (rcC 2 v u 0 z16 none 0 0 z32 z32 none 0 0) := by
    have h := hN5.set 2 (.int .u32 u)
    rw [rcC_set2] at h
    exact h
  have hG7 : Blk (w5.setCell ⟨N, 2, none⟩ (.int .u32 u)) G 33 Z := hG5.far (by show G ≠ N; have := nGN.out; have := nG0.out; omega) _
  have hz7 : Blk (w5.setCell ⟨N, 2, none⟩ (.int .u32 u)) N0 33 Z := hz5.far (by show N0 ≠ N; have := nGN.out; omega) _
  have hB7 : Below w.heap.size w (w5.setCell ⟨N, 2, none⟩ (.int .u32 u)) := hB5.setCell (p := ⟨N, 2, none⟩) (by show w.heap.size ≤ N; have := nGN.out; have := nG0.out; have := gH.out; omega) _
  obtain ⟨w7, hw7⟩ : ∃ W, w5.setCell ⟨N, 2, none⟩ (.int .u32 u) = W := ⟨_, rfl⟩
  rw [hw7] at hN7 hG7 hz7 hB7
  clear hN5 hG5 hz5 hB5

  have c07 := rc0 hN7
  clear c0 c0' cs

  go_wp2_with fail
  go_loopw [11] (fun i wr => ∃ j : Nat, j ≤ 16 ∧ i = .int .i64 j ∧ Blk wr N 33 (rcC 2 v u 0 (fil HH j) none 0 0 z32 z32 none 0 0) ∧ Blk wr G 33 Z ∧ Blk wr N0 33 Z ∧ Below w.heap.size w wr) (fun i _ => 16 - (intOf i).toNat)
  case atStart => exact ⟨0, Nat.zero_le _, rfl, by rw [fil_zero, HHl.out]; exact hN7, hG7, hz7, hB7⟩
  case round =>
    clear hN7 hG7 hz7 hB7
    obtain ⟨j, hjl, rfl, hNr, hGr, hzr, hBr⟩ := hrel
    by_cases hlt : j < 16
    · have hji : (j : Int) < 16 := by omega
      have hj9 : (9 : Int) + (j : Int) < (n : Int) := by have := hnF.out; omega
      have cb := hcell.out wr hBr (9 + j) (by have := hnF.out; omega)
      rw [HHg.out j hlt] at cb
      obtain ⟨x, hx⟩ : ∃ x, HH.getD j 0 = x := ⟨_, rfl⟩
      rw [hx] at cb
      have hjb : j < HH.length := by rw [HHl.out]; exact hlt
      have hst := fil_step hjb
      rw [hx] at hst
      have hfl := fil_len (l := HH) (j := j) (by omega)
      rw [HHl.out] at hfl
      have d0 := (rc4 hNr) j (.int .u8 0) (by rw [List.getElem?_map, fil_at hjb]; rfl)
      have f0 := hNr.frozen (4 + j)
      have hNs : Blk (wr.setCell ⟨N, 4 + j, none⟩ (.int .u8 x)) N 33 (rcC 2 v u 0 (fil HH (j + 1)) none 0 0 z32 z32 none 0 0) := by
        have h := hNr.set (4 + j) (.int .u8 x)
        rw [rcC_sethint hfl hlt, ← hst] at h
        exact h
      have hGs : Blk (wr.setCell ⟨N, 4 + j, none⟩ (.int .u8 x)) G 33 Z := hGr.far (by show G ≠ N; have := nGN.out; have := nG0.out; omega) _
      have hzs : Blk (wr.setCell ⟨N, 4 + j, none⟩ (.int .u8 x)) N0 33 Z := hzr.far (by show N0 ≠ N; have := nGN.out; omega) _
      have hBs : Below w.heap.size w (wr.setCell ⟨N, 4 + j, none⟩ (.int .u8 x)) := hBr.setCell (p := ⟨N, 4 + j, none⟩) (by show w.heap.size ≤ N; have := nGN.out; have := nG0.out; have := gH.out; omega) _
      have hltH := Lib.hid hlt
      clear hlt hjl hNr hGr hzr hBr hx hst hfl hjb
      go_wp2
      exact ⟨⟨j + 1, by have := hltH.out; omega, by congr 1, hNs, hGs, hzs, hBs⟩, by simp only [intOf]; have := hltH.out; omega⟩
    · obtain rfl : j = 16 := by omega
      have hji : ¬ ((16 : Nat) : Int) < 16 := by omega
      rw [fil_all HHl.out.symm] at hNr
      have c0r := rc0 hNr
      clear hlt hjl
      have hIr := hIH.out wr hBr
      have hIc := hIr.cutAt 25 (by have := hnF.out; omega)
      rw [hysH.out, hLH.out] at hIc
      have hsl : ∀ wx : World, (Instr.sliceAt 26 (.slice (some ⟨bb, off, none⟩) n c) (some (.int .i64 25)) none none).run Try.prog wx = .ok (.slice (cutAddr (some ⟨bb, off, none⟩) c 25) L (c - 25)) wx := fun wx => by
        have h := sl_from17 (n := n) (c := c) (some ⟨bb, off, none⟩) 25 (by have := hnF.out; omega) wx
        rw [hLH.out] at h
        exact h
      obtain ⟨A9, hA9⟩ : ∃ A, cutAddr (some ⟨bb, off, none⟩) c 25 = A := ⟨_, rfl⟩
      rw [hA9] at hIc hsl
      have bE := below1 wr (.cells #[] 5)
      have hNE := hNr.keep bE hNr.lt
      have hGE := hGr.keep bE hGr.lt
      have hzE := hzr.keep bE hzr.lt
      have hBE := hBr.trans (bE.mono hBr.size)
      have hIE := Lib.hid (hIc.keep bE)
      have ownE := World.ownsRow_made (e := 5) (size := 1) wr #[] 0 (Nat.le_refl _) (Nat.zero_le _) rfl
      have hEs : wr.heap.size ≤ (wr.alloc (.cells #[] 5)).heap.size := by rw [size1]; omega
      have hNs := Lib.hid hNr.lt
      obtain ⟨R0, hR0⟩ : ∃ N, wr.heap.size = N := ⟨_, rfl⟩
      obtain ⟨wE, hwE⟩ : ∃ W, wr.alloc (.cells #[] 5) = W := ⟨_, rfl⟩
      rw [hwE] at hNE hGE hzE hBE hIE ownE hEs
      rw [hR0] at ownE hEs hNs
      clear hIr hIc hA9 bE hNr hGr hzr hBr
      go_wp2_with (at_builtin; refine wpList_append_ints rfl (.tmp 116) (.tmp 119) 26 rfl R0 5 i0 (.int .u8 0) 1 Try.underlying26 hi hz0 hz1 hz2 rfl rfl ownE rfl hIE.out ?_ ?_ hEs ?_; (have := hm6.out; unfold maxLen; omega); (have := hm6.out; omega); intro vB wB hOB hgB; refine RowKit.Hid.out ?_)
      refine Lib.hid ?_
      rw [List.nil_append, Nat.zero_add] at hOB
      have hslB : ∃ b d, vB = .slice b L d := own_slice32 hOB
      obtain ⟨b, d, hvB⟩ := hslB
      rw [hvB] at hOB ⊢
      have nb : ∀ k, k < R0 → some k ≠ (Value.slice (some ⟨R0, 0, none⟩) 0 0).ownBlock := fun k hk e => by injection e with e; have e : k = R0 := e; omega
      have hNB := hNE.grown hgB (nb N hNs.out)
      have hGB := hGE.grown hgB (nb G (by have := hNs.out; have := nGN.out; have := nG0.out; omega))
      have hzB := hzE.grown hgB (nb N0 (by have := hNs.out; have := nGN.out; omega))
      have hBB := hBE.grown hgB hBE.size (fun q hq => by injection hq with hq; have hq : R0 = q := hq; have := hNs.out; have := nGN.out; have := nG0.out; have := gH.out; omega)
      clear hNE hGE hzE hBE hIE hgB hvB hsl ownE hEs
      have d0 := rc5 hNB HHl.out
      have f0 := hNB.frozen 20
      have hN9 : Blk (wB.setCell ⟨N, 20, none⟩ (.slice b L d)) N 33 (rcC 2 v u 0 HH b L d z32 z32 none 0 0) := by
        have h := hNB.set 20 (.slice b L d)
        rw [rcC_set5 HHl.out] at h
        exact h
      have hG9 : Blk (wB.setCell ⟨N, 20, none⟩ (.slice b L d)) G 33 Z := hGB.far (by show G ≠ N; have := nGN.out; have := nG0.out; omega) _
      have hz9 : Blk (wB.setCell ⟨N, 20, none⟩ (.slice b L d)) N0 33 Z := hzB.far (by show N0 ≠ N; have := nGN.out; omega) _
      have hB9 : Below w.heap.size w (wB.setCell ⟨N, 20, none⟩ (.slice b L d)) := hBB.setCell (p := ⟨N, 20, none⟩) (by show w.heap.size ≤ N; have := nGN.out; have := nG0.out; have := gH.out; omega) _
      have hO9 : (wB.setCell ⟨N, 20, none⟩ (.slice b L d)).ownsRow R0 5 1 (.slice b L d) L (ys.map (Value.int .u8)) := own_far9 hOB (grown_setCell wB N 20 _) hNs.out
      obtain ⟨w9, hw9⟩ : ∃ W, wB.setCell ⟨N, 20, none⟩ (.slice b L d) = W := ⟨_, rfl⟩
      rw [hw9] at hN9 hG9 hz9 hB9 hO9
      have hlo9 : ∀ x, b = some x → R0 ≤ x.block := fun x hx => (hO9.lt x.block (by rw [hx]; rfl)).1
      obtain ⟨b', d', hv', hJ⟩ := Ints.of_owns hO9
      injection hv' with e5 _ e6
      subst e5; subst e6
      have hlo : Hid ((∀ x : Addr, b = some x → w.heap.size ≤ x.block ∧ x.block ≠ G) ∧ (∀ x : Addr, none = some x → w.heap.size ≤ x.block ∧ x.block ≠ G)) := Lib.hid (And.intro (fun x hx => by have := hlo9 x hx; have := hNs.out; have := nGN.out; have := nG0.out; have := gH.out; exact ⟨by omega, by omega⟩) (fun x hx => by cases hx))
      have hDq : rC rd b d none 0 = rcC 2 v u 0 HH b L d z32 z32 none 0 0 := by rw [← hrdH.out]; unfold rC; dsimp only; rw [hyl.out]; rfl
      have hDl := rcC_len (K := 2) (S := v) (Q := u) (O := 0) (H := HH) (a := b) (n := L) (c := d) (h := z32) (p := z32) (b := none) (m := 0) (d := 0) HHl.out rfl rfl
      have hD1 := rcC_one (K := 2) (S := v) (Q := u) (O := 0) (H := HH) (a := b) (n := L) (c := d) (h := z32) (p := z32) (b := none) (m := 0) (d := 0)
      have hAt : RecAt w9 rd b d none 0 := by rw [← hrdH.out]; refine ⟨?_, ⟨rfl, Nat.le_refl _, .inl rfl⟩⟩; dsimp only; rw [hyl.out]; exact hJ
      rw [← hDq] at hDl hD1 hN9
      obtain ⟨D, hD⟩ : ∃ D, rC rd b d none 0 = D := ⟨_, rfl⟩
      rw [hD] at hDl hD1
      have hDe := Lib.hid hD
      clear hNB hGB hzB hBB hOB hO9 hlo9 hJ hDq hD

      have cr := r17Right_any rd b none d 0 w9 hokH.out hAt hnnH.out
      rw [hDe.out] at cr
      obtain ⟨K', hK'⟩ : ∃ K, rightRec rd = K := ⟨_, rfl⟩
      rw [hK'] at cr
      have hdk := hend.out
      rw [hK'] at hdk
      have hdk := Lib.hid hdk
      have hAH := Lib.hid hAt
      rw [hDe.out] at hN9
      clear hend hK'
      go_wp2_with ((with_reducible refine wpList_load_blk rfl 33 (.tmp 5) rfl ?_ hN9 rowRc hDl ?_); rfl)
      refine cr.mono ?_
      rintro q wz ⟨rfl, bz⟩
      have hNx := hN9.keep bz hN9.lt
      have hGx := hG9.keep bz hG9.lt
      have hzx := hz9.keep bz hz9.lt
      have hBx := hB9.trans (bz.mono hB9.size)
      have hAx := Lib.hid (hAH.out.keep bz)
      clear cr hN9 hG9 hz9 hB9 bz hAH
      cases K' with
      | true =>
        go_wp2_with ((with_reducible refine wpList_load_blk rfl 33 (.tmp 5) rfl ?_ hNx rowRc hDl ?_); rfl; refine RowKit.Hid.out ?_)
        refine Lib.hid ?_
        try simp only [Act.put, List.setIfInBounds_toArray, List.set_cons_zero, List.set_cons_succ]
        refine store_row rfl 33 (.tmp 2) (.tmp 133) rfl rfl rfl hGx rowRc hDl hZl hD1 ?_
        intro wY hGY hgY
        have hrC : IsRow Try.prog 33 D.length := rowRc_of hDl
        have hBY := hBx.grown hgY hBx.size (fun q hq => by injection hq with hq; have := gH.out; omega)
        go_wp2_with fail
        refine bodyPost_ret (results_blk_tmp rfl rfl hGY hrC) rfl ?_
        rw [hdk.out]
        try rw [if_pos rfl]
        refine ⟨b, d, none, 0, ?_, ⟨hAx.out.1.grown hgY (fun x hx _ => (hlo.out.1 x hx).2), ?_⟩, fun x hx => (hlo.out.1 x hx).1, fun x hx => (hlo.out.2 x hx).1, hBY⟩
        · rw [← hDe.out]; rfl
        refine ⟨hAx.out.2.1, hAx.out.2.2.1, ?_⟩
        rcases hAx.out.2.2.2 with h0 | ⟨b', off, ha, hc⟩
        · exact .inl h0
        · exact .inr ⟨b', off, ha, fun i hi => hgY.cell (hc i hi) (fun e => by injection e with e; exact (hlo.out.2 ⟨b', off, none⟩ ha).2 e)⟩
      | false =>
        go_wp2_with ((with_reducible refine wpList_load_blk rfl 33 (.tmp 4) rfl ?_ hzx rowRc hZl ?_); rfl; refine RowKit.Hid.out ?_)
        refine Lib.hid ?_
        try simp only [Act.put, List.setIfInBounds_toArray, List.set_cons_zero, List.set_cons_succ]
        refine store_row rfl 33 (.tmp 2) (.tmp 132) rfl rfl rfl hGx rowRc hZl hZl hZ1 ?_
        intro wY hGY hgY
        have hrZ : IsRow Try.prog 33 Z.length := rowRc_of hZl
        have hBY := hBx.grown hgY hBx.size (fun q hq => by injection hq with hq; have := gH.out; omega)
        go_wp2_with fail
        refine bodyPost_ret (results_blk_tmp rfl rfl hGY hrZ) rfl ?_
        rw [hdk.out]
        try rw [if_neg (by decide)]
        exact ⟨none, 0, none, 0, by rw [← hZH.out]; rfl, recAt_nil wY 0 0, (fun x hx => by cases hx), (fun x hx => by cases hx), hBY⟩

set_option maxRecDepth 100000 in
set_option maxHeartbeats 4000000 in
theorem r17Decode_conn (a : Option Addr) (n c : Nat) (r : List Int) (w : World) (hI : Ints .u8 w a n c (5 :: r)) (hr : okB (5 :: r)) (hn : n ≤ 1000000)  :
    Calls Try.prog 14 #[.slice a n c] w (DecEndR (5 :: r) w) := by
  have hbad : (decK r).2 ≠ 0 → decRec (5 :: r) = (noRec, (decK r).2) := fun e => by rw [decRec, if_pos rfl, if_neg e]
  have hgood : (decK r).2 = 0 → decRec (5 :: r) = (⟨⟨5, 0, 0, 0, z16, []⟩, (decK r).1⟩, 0) := fun e => by rw [decRec, if_pos rfl, if_pos e]

  have hln := hI.len
  have hlr : r.length + 1 = n := hln
  have hcapH := Lib.hid hI.2.1
  have hnm0 : (n : Int) ≤ 1000000 := by omega
  obtain ⟨bb, off, rfl, _⟩ := hI.at (show 0 < n by omega)
  have hcell := Lib.hid (fun w' (h : Below w.heap.size w w') i (hi : i < n) => show w'.cell? ⟨bb, off + i, none⟩ = some (.int .u8 ((5 :: r).getD i 0)) from by
    obtain ⟨b', off', hae, hc⟩ := (hI.keep h).at (show 0 < n by omega)
    injection hae with hae
    injection hae with e1 e2 _
    subst e1; subst e2
    exact hc i hi)
  have hIH := Lib.hid (fun w' (h : Below w.heap.size w w') => hI.keep h)
  have hrr : okB r := fun x hx => hr x (List.mem_cons_of_mem _ hx)
  have hrrH := Lib.hid hrr
  have hnH := Lib.hid hlr
  have hni : ¬ (n : Int) < 1 := by omega
  have hbt := built_rc1 5
  have hBl := rcC_len (K := 5) (S := 0) (Q := 0) (O := 0) (H := z16) (a := none) (n := 0) (c := 0) (h := z32) (p := z32) (b := none) (m := 0) (d := 0) rfl rfl rfl
  have hB1' := rcC_one (K := 5) (S := 0) (Q := 0) (O := 0) (H := z16) (a := none) (n := 0) (c := 0) (h := z32) (p := z32) (b := none) (m := 0) (d := 0)
  obtain ⟨B, hB⟩ : ∃ B, rcC 5 0 0 0 z16 none 0 0 z32 z32 none 0 0 = B := ⟨_, rfl⟩
  have hBH := Lib.hid hB
  rw [hB] at hbt hBl hB1'
  clear hB
  obtain ⟨Z, hZ⟩ : ∃ Z, rC noRec none 0 none 0 = Z := ⟨_, rfl⟩
  have hZ0 : Zero Try.prog 33 Z := by rw [← hZ]; exact zeroRc
  have hZl : Z.length = 86 := by rw [← hZ]; exact rC_len noRec_ok _ _ _ _
  have hZ1 : ∀ v ∈ Z, v.oneCell' = true := by rw [← hZ]; exact rC_one _ _ _ _ _
  have hbt0 : Try.prog.built 33 [] = some Z.toArray := by rw [← hZ]; exact built_rc0
  have hZH := Lib.hid hZ
  clear hZ
  have hb := below1 w (.cells Z.toArray 33)
  have hk : Blk (w.alloc (.cells Z.toArray 33)) w.heap.size 33 Z := Blk.new w _ _
  obtain ⟨V, hV⟩ : ∃ V, w.alloc (.cells Z.toArray 33) = V := ⟨_, rfl⟩
  rw [hV] at hb hk
  obtain ⟨G, g9⟩ : ∃ G, w.heap.size = G := ⟨_, rfl⟩
  rw [g9] at hk
  have gH := Lib.hid g9
  unfold DecEndR

  have hdok := decK_ok hrr
  have hdec := Lib.hid (fun w' a c (hI : Ints .u8 w' a (n - 1) c r) => r16Decode_any a (n - 1) c r w' hI hrr)
  unfold DecEndB at hdec
  obtain ⟨⟨Bv, E⟩, hq2⟩ : ∃ q, decK r = q := ⟨_, rfl⟩
  rw [hq2] at hbad hgood hdok hdec
  dsimp only at hbad hgood hdok hdec
  obtain ⟨n1, hn1⟩ : ∃ k, n - 1 = k := ⟨_, rfl⟩
  rw [hn1] at hdec
  have hn1H := Lib.hid hn1
  have hDl := fun b d => rcC_len (K := 5) (S := 0) (Q := 0) (O := 0) (H := z16) (a := none) (n := 0) (c := 0) (b := b) (m := Bv.n) (d := d) rfl hdok.1 hdok.2.1
  have hD1 := fun b d => rcC_one (K := 5) (S := 0) (Q := 0) (O := 0) (H := z16) (a := none) (n := 0) (c := 0) (h := Bv.hash) (p := Bv.parent) (b := b) (m := Bv.n) (d := d)
  have x6 := fun b d => rcC_over6 (K := 5) (S := 0) (Q := 0) (O := 0) (H := z16) (a := none) (n := 0) (c := 0) (h := z32) (p := z32) (b := none) (m := 0) (d := 0) rfl rfl rfl Bv.hash Bv.parent b Bv.n d hdok.1 hdok.2.1
  have hXl := fun b d => bkC_len (a := b) (n := Bv.n) (c := d) hdok.1 hdok.2.1
  have hX1 := fun b d => bkC_one Bv.hash Bv.parent b Bv.n d
  obtain ⟨Dd, hDd⟩ : ∃ D : Option Addr → Nat → List Value, ∀ b d, rcC 5 0 0 0 z16 none 0 0 Bv.hash Bv.parent b Bv.n d = D b d := ⟨_, fun _ _ => rfl⟩
  obtain ⟨Xx, hXx⟩ : ∃ D : Option Addr → Nat → List Value, ∀ b d, bC Bv b d = D b d := ⟨_, fun _ _ => rfl⟩
  have hDl := fun b d => show (Dd b d).length = 86 by rw [← hDd]; exact hDl b d
  have hD1 := fun b d => show ∀ v ∈ Dd b d, v.oneCell' = true by rw [← hDd]; exact hD1 b d
  have hXl := fun b d => show (Xx b d).length = 65 by rw [← hXx]; exact hXl b d
  have hX1 := fun b d => show ∀ v ∈ Xx b d, v.oneCell' = true by rw [← hXx]; exact hX1 b d
  have x6 := fun b d => show overV (rcC 5 0 0 0 z16 none 0 0 z32 z32 none 0 0) 21 (Xx b d) = Dd b d by rw [← hXx, ← hDd]; exact x6 b d
  simp only [hXx] at hdec
  have hdecH := Lib.hid hdec.out
  have hDlF := Lib.hid hDl
  have hD1F := Lib.hid hD1
  have hXlF := Lib.hid hXl
  have hX1F := Lib.hid hX1
  have hDdH := Lib.hid hDd
  have x6H := Lib.hid x6
  have hbH := Lib.hid hbad
  have hgH := Lib.hid hgood
  obtain ⟨Zb, hZb⟩ : ∃ Z, bkC z32 z32 none 0 0 = Z := ⟨_, rfl⟩
  have hZb0 : Zero Try.prog 31 Zb := by rw [← hZb]; exact zeroBk
  have hZbl : Zb.length = 65 := by rw [← hZb]; exact bkC_len rfl rfl
  have hB5l := rcC_len (K := 5) (S := 0) (Q := 0) (O := 0) (H := z16) (a := none) (n := 0) (c := 0) (h := z32) (p := z32) (b := none) (m := 0) (d := 0) rfl rfl rfl
  clear hI hr hn hln hlr hrr hbad hgood hq2 hn1 hdok hDl hD1 hXl hX1 hDd hXx x6 hZb hdec

  go_enter Try.func14, Try.ntmps14
  go_wp2_with ((with_reducible refine wpList_alloc_blk rfl 33 rfl hZ0 ?_); refine RowKit.Hid.out ?_)
  refine Lib.hid ?_
  clear hV g9
  go_wp2_with ((with_reducible refine build_row rfl 33 #[] rfl (cells := Z.toArray) ?_ ?_); (refine Eq.trans (congrArg _ ?_) hbt0; kernel_rfl); refine RowKit.Hid.out ?_)
  refine Lib.hid ?_
  refine wpList_alloc_blk rfl 33 rfl hZ0 ?_
  try simp only [Act.put, List.setIfInBounds_toArray, List.set_cons_zero, List.set_cons_succ]
  have hGA := hk.alloc (.cells Z.toArray 33)
  have hNA := Blk.new V 33 Z
  have hBA := hb.alloc hb.size (.cells Z.toArray 33)
  have hnG : G < V.heap.size := hk.lt
  obtain ⟨N0, hN⟩ : ∃ N, V.heap.size = N := ⟨_, rfl⟩
  rw [hN] at hNA hnG ⊢
  have nG0 := Lib.hid hnG
  obtain ⟨U, hU⟩ : ∃ W, V.alloc (.cells Z.toArray 33) = W := ⟨_, rfl⟩
  rw [hU] at hGA hNA hBA ⊢
  clear hk hb hN hU
  refine store_row rfl 33 (.tmp 4) (.tmp 12) rfl rfl rfl hNA rowRc hZl hZl hZ1 ?_
  intro w1 hz1 hg1
  have hG1 := hGA.grown hg1 (fun e => by injection e with e; omega)
  have hB1 := hBA.grown hg1 hBA.size (fun q hq => by injection hq with hq; have := gH.out; omega)
  clear hGA hNA hBA hg1 hnG

  have cb : w1.cell? ⟨bb, off, none⟩ = some (.int .u8 5) := by have := hcell.out w1 hB1 0 (by have := hnH.out; omega); rw [Nat.add_zero] at this; exact this
  go_wp2_with ((with_reducible refine build_row rfl 33 #[(0, .tmp 20)] rfl (cells := B.toArray) ?_ ?_); (refine Eq.trans (congrArg _ ?_) hbt; kernel_rfl); refine RowKit.Hid.out ?_)
  refine Lib.hid ?_
  refine wpList_alloc_blk rfl 33 rfl hZ0 ?_
  try simp only [Act.put, List.setIfInBounds_toArray, List.set_cons_zero, List.set_cons_succ]
  have hGA := hG1.alloc (.cells Z.toArray 33)
  have hzA := hz1.alloc (.cells Z.toArray 33)
  have hNA := Blk.new w1 33 Z
  have hBA := hB1.alloc hB1.size (.cells Z.toArray 33)
  have hn0 : N0 < w1.heap.size := hz1.lt
  obtain ⟨N, hN⟩ : ∃ N, w1.heap.size = N := ⟨_, rfl⟩
  rw [hN] at hNA hn0 ⊢
  have nGN := Lib.hid hn0
  obtain ⟨U1, hU⟩ : ∃ W, w1.alloc (.cells Z.toArray 33) = W := ⟨_, rfl⟩
  rw [hU] at hGA hzA hNA hBA ⊢
  clear hG1 hz1 hB1 hN hU cb
  refine store_row rfl 33 (.tmp 5) (.tmp 21) rfl rfl rfl hNA rowRc hBl hZl hB1' ?_
  intro w2 hN2 hg2
  have hG2 := hGA.grown hg2 (fun e => by injection e with e; have := nG0.out; omega)
  have hz2 := hzA.grown hg2 (fun e => by injection e with e; omega)
  have hB2 := hBA.grown hg2 hBA.size (fun q hq => by injection hq with hq; have := gH.out; have := nG0.out; omega)
  rw [← hBH.out] at hN2
  clear hGA hzA hNA hBA hg2 hn0

  have c0 := rc0 hN2
  have hIc := Lib.hid (show Ints .u8 w2 (cutAddr (some ⟨bb, off, none⟩) c 1) n1 (c - 1) r from by have := (hIH.out w2 hB2).cutAt 1 (by have := hnH.out; omega); rw [hn1H.out] at this; exact this)
  have hsl : ∀ wx : World, (Instr.sliceAt 26 (.slice (some ⟨bb, off, none⟩) n c) (some (.int .i64 1)) none none).run Try.prog wx = .ok (.slice (cutAddr (some ⟨bb, off, none⟩) c 1) n1 (c - 1)) wx := fun wx => by
    have h := sl_from17 (n := n) (c := c) (some ⟨bb, off, none⟩) 1 (by have := hnH.out; omega) wx
    rw [hn1H.out] at h
    exact h
  obtain ⟨A9, hA9⟩ : ∃ A, cutAddr (some ⟨bb, off, none⟩) c 1 = A := ⟨_, rfl⟩
  rw [hA9] at hIc hsl
  have cd := hdecH.out w2 _ _ hIc.out
  clear hA9 hIc hdecH
  go_wp2_with fail
  refine cd.mono ?_
  rintro q w3 ⟨b7, d7, rfl, hT3, hlo3, b3⟩
  have hG3 := hG2.keep b3 hG2.lt
  have hz3 := hz2.keep b3 hz2.lt
  have hN3 := hN2.keep b3 hN2.lt
  have hB3 := hB2.trans (b3.mono hB2.size)
  have hN2l := hN2.lt
  have hin3 := hT3.isInE
  have hsep : ∀ x, b7 = some x → w.heap.size ≤ x.block ∧ x.block ≠ G ∧ x.block ≠ N := fun x hx => by
    have := hlo3 x hx
    have := hB2.size
    have := nGN.out
    have := nG0.out
    exact ⟨by omega, by omega, by omega⟩
  have hXl := hXlF.out b7 d7
  have hX1 := hX1F.out b7 d7
  have hDl := hDlF.out b7 d7
  have hD1 := hD1F.out b7 d7
  have hx6 := Lib.hid (x6H.out b7 d7)
  have hDd := Lib.hid (hDdH.out b7 d7)
  obtain ⟨X, hX⟩ : ∃ X, Xx b7 d7 = X := ⟨_, rfl⟩
  rw [hX] at hXl hX1 hx6 ⊢
  have hrX : IsRow Try.prog 31 X.length := rowBk_of hXl
  obtain ⟨D, hD⟩ : ∃ X, Dd b7 d7 = X := ⟨_, rfl⟩
  rw [hD] at hDl hD1 hx6 hDd
  clear cd c0 hsl hG2 hz2 hN2 hB2 hN2l hlo3 b3 hX hD hDlF hD1F hXlF hX1F hDdH x6H
  go_wp2_with ((with_reducible refine wpList_alloc_blk rfl 31 rfl hZb0 ?_); refine RowKit.Hid.out ?_)
  refine Lib.hid ?_
  try simp only [Act.put, List.setIfInBounds_toArray, List.set_cons_zero, List.set_cons_succ]
  have bA := below1 w3 (.cells Zb.toArray 31)
  have hGA := hG3.keep bA hG3.lt
  have hzA := hz3.keep bA hz3.lt
  have hNA := hN3.keep bA hN3.lt
  have hTA := hT3.keep bA
  have hBA := hB3.trans (bA.mono hB3.size)
  have hMA := Blk.new w3 31 Zb
  have l1 := hN3.lt
  have l2 := hB3.size
  obtain ⟨M, hM⟩ : ∃ N, w3.heap.size = N := ⟨_, rfl⟩
  rw [hM] at hMA l1 l2 hin3 ⊢
  obtain ⟨U2, hU2⟩ : ∃ W, w3.alloc (.cells Zb.toArray 31) = W := ⟨_, rfl⟩
  rw [hU2] at hGA hzA hNA hTA hBA hMA ⊢
  clear hG3 hz3 hN3 hT3 hB3 bA hM hU2
  refine store_row rfl 31 (.tmp 6) (.tmp 29) rfl rfl rfl hMA rowBk hXl hZbl hX1 ?_
  intro w4 hM4 hg4
  have hG4 := hGA.grown hg4 (fun e => by injection e with e; have := nGN.out; have := nG0.out; omega)
  have hz4 := hzA.grown hg4 (fun e => by injection e with e; have := nGN.out; omega)
  have hN4 := hNA.grown hg4 (fun e => by injection e with e; omega)
  have hB4 := hBA.grown hg4 hBA.size (fun q hq => by injection hq with hq; omega)
  have hT4 : IdsAt w4 b7 Bv.n d7 Bv.ids := by
    refine ⟨hTA.1, hTA.2.1, ?_⟩
    rcases hTA.2.2 with h0 | ⟨b', off, ha, hc⟩
    · exact .inl h0
    · by_cases h0 : Bv.n = 0
      · exact .inl h0
      · exact .inr ⟨b', off, ha, fun i hi => hg4.cell (hc i hi) (fun e => by injection e with e; have := hin3 ⟨b', off, none⟩ ha (Nat.pos_of_ne_zero h0); rw [e] at this; exact Nat.lt_irrefl _ this)⟩
  have hsepH := Lib.hid hsep
  clear hGA hzA hNA hTA hBA hMA hg4 l1 l2 hin3 hsep
  by_cases hE0 : E = 0
  · have hdk := Lib.hid (hgH.out hE0)
    subst hE0
    clear hbH hgH hz4
    go_wp2_with (first
      | ((with_reducible refine wpList_load_blk rfl 31 (.tmp 6) rfl ?_ hM4 rowBk hXl ?_); rfl)
      | ((with_reducible refine wpList_store_part (off := 21) rfl 31 (.tmp 36) (.tmp 35) rfl ?_ ?_ hN4 hrX ?_ hX1 ?_); rfl; rfl; (rw [hXl, hB5l]; decide); refine RowKit.Hid.out ?_))
    refine Lib.hid ?_
    intro w5 hN5 hg5
    try rw [hx6.out] at hN5
    have hG5 := hG4.grown hg5 (fun e => by injection e with e; have := nGN.out; have := nG0.out; omega)
    have hB5 := hB4.grown hg5 hB4.size (fun q hq => by injection hq with hq; have := gH.out; have := nGN.out; have := nG0.out; omega)
    have hT5 : IdsAt w5 b7 Bv.n d7 Bv.ids := by
      refine ⟨hT4.1, hT4.2.1, ?_⟩
      rcases hT4.2.2 with h0 | ⟨b', off, ha, hc⟩
      · exact .inl h0
      · exact .inr ⟨b', off, ha, fun i hi => hg5.cell (hc i hi) (fun e => by injection e with e; exact (hsepH.out ⟨b', off, none⟩ ha).2.2 e)⟩
    clear hG4 hN4 hM4 hB4 hT4 hg5
    go_wp2_with ((with_reducible refine wpList_load_blk rfl 33 (.tmp 5) rfl ?_ hN5 rowRc hDl ?_); rfl; refine RowKit.Hid.out ?_)
    refine Lib.hid ?_
    try simp only [Act.put, List.setIfInBounds_toArray, List.set_cons_zero, List.set_cons_succ]
    refine store_row rfl 33 (.tmp 2) (.tmp 37) rfl rfl rfl hG5 rowRc hDl hZl hD1 ?_
    intro wY hGY hgY
    have hrC : IsRow Try.prog 33 D.length := rowRc_of hDl
    have hBY := hB5.grown hgY hB5.size (fun q hq => by injection hq with hq; have := gH.out; omega)
    go_wp2_with fail
    refine bodyPost_ret (results_blk_tmp rfl rfl hGY hrC) rfl ?_
    rw [hdk.out]
    refine ⟨none, 0, b7, d7, ?_, ⟨⟨rfl, Nat.le_refl _, .inl rfl⟩, hT5.1, hT5.2.1, ?_⟩, (fun x hx => by cases hx), (fun x hx => (hsepH.out x hx).1), hBY⟩
    · rw [← hDd.out]; rfl
    rcases hT5.2.2 with h0 | ⟨b', off, ha, hc⟩
    · exact .inl h0
    · exact .inr ⟨b', off, ha, fun i hi => hgY.cell (hc i hi) (fun e => by injection e with e; exact (hsepH.out ⟨b', off, none⟩ ha).2.1 e)⟩
  · have hend := Lib.hid (hbH.out hE0)
    have hnz : ¬ E = 0 := hE0
    have hnb : (E != 0) = true := bne_iff_ne.2 hE0
    clear hbH hgH hN4 hM4 hT4
    go_wp2_with ((with_reducible refine wpList_load_blk rfl 33 (.tmp 4) rfl ?_ hz4 rowRc hZl ?_); rfl; refine RowKit.Hid.out ?_)
    refine Lib.hid ?_
    refine wpList_mv rfl (.tmp 7) rfl rfl ?_
    try simp only [Act.put, List.setIfInBounds_toArray, List.set_cons_zero, List.set_cons_succ]
    try simp only [Act.put, List.setIfInBounds_toArray, List.set_cons_zero, List.set_cons_succ]
    refine store_row rfl 33 (.tmp 2) (.tmp 33) rfl rfl rfl hG4 rowRc hZl hZl hZ1 ?_
    intro wY hGY hgY
    have hrZ : IsRow Try.prog 33 Z.length := rowRc_of hZl
    have hBY := hB4.grown hgY hB4.size (fun q hq => by injection hq with hq; have := gH.out; omega)
    go_wp2_with fail
    refine bodyPost_ret (results_blk_tmp rfl rfl hGY hrZ) rfl ?_
    rw [hend.out]
    exact ⟨none, 0, none, 0, by rw [← hZH.out]; rfl, recAt_nil wY 0 0, (fun x hx => by cases hx), (fun x hx => by cases hx), hBY⟩

theorem r17Decode_any (a : Option Addr) (n c : Nat) (xs : List Int) (w : World) (hI : Ints .u8 w a n c xs) (hr : okB xs) (hn : n ≤ 1000000) :
    Calls Try.prog 14 #[.slice a n c] w (DecEndR xs w) := by
  match xs, hI, hr with
  | [], hI, _ => exact r17Decode_nil a n c w hI
  | k :: r, hI, hr =>
    by_cases h1 : k = 1
    · subst h1; exact r17Decode_open a n c r w hI hr hn
    by_cases h2 : k = 2
    · subst h2; exact r17Decode_upload a n c r w hI hr hn
    by_cases h4 : k = 4
    · subst h4; exact r17Decode_close a n c r w hI hr hn
    by_cases h5 : k = 5
    · subst h5; exact r17Decode_conn a n c r w hI hr hn
    by_cases h6 : k = 6
    · subst h6; exact r17Decode_disc a n c r w hI hr hn
    exact r17Decode_other a n c k r w hI hr hn h1 h2 h4 h5 h6
end Go.Proofs.Ytaaflnmdaplfkaa

/-
  The example of layer 17's laws ('alive'). New memory alone is written. No conditions.
-/
namespace Go.Proofs.Ytaaflnmdaplfkaa
open Go.RowKit

def exA17 : RecV := ⟨⟨4, 3, 0, 0, z16, []⟩, noBlk⟩
theorem okEx17 : RecOk exA17 := ⟨ok_msg (by decide) zero_ok zero_ok rfl z16_range okB_nil, noBlk_ok⟩
theorem exEnc17 : encRec exA17 = ([4, 0, 0, 0, 3], 0) := by
  unfold encRec exA17
  rw [right_4]
  rfl
theorem exDec17 : decRec [1, 0, 0, 0, 3, 5] = (⟨⟨1, 3, 0, 5, z16, []⟩, noBlk⟩, 0) := rfl
theorem exStr17 : strOfNums [4, 0, 0, 0, 3] = { data := #[4, 0, 0, 0, 3] } := by decide +kernel

set_option maxRecDepth 100000 in
set_option maxHeartbeats 1600000 in
theorem alive17_any (w : World) : Calls Try.prog 7 #[] w fun e w' => e = .returned (.bool true) ∧ Below w.heap.size w w' := by
  have hE := kcEncode_any exA17 none none 0 0 w okEx17 ⟨⟨rfl, Nat.le_refl _, .inl rfl⟩, ⟨rfl, Nat.le_refl _, .inl rfl⟩⟩ (Nat.zero_le _)
  rw [exEnc17] at hE
  dsimp only [List.length_cons, List.length_nil] at hE
  have hbt := built_rcA
  rw [show rcC 4 3 0 0 z16 none 0 0 z32 z32 none 0 0 = rC exA17 none 0 none 0 from rfl] at hbt
  obtain ⟨B, hB⟩ : ∃ B, rC exA17 none 0 none 0 = B := ⟨_, rfl⟩
  rw [hB] at hE hbt
  have hEH := Lib.hid hE
  clear hE hB
  obtain ⟨Z, hZ⟩ : ∃ Z, rC noRec none 0 none 0 = Z := ⟨_, rfl⟩
  have hZ0 : Zero Try.prog 33 Z := by rw [← hZ]; exact zeroRc
  have hZl : Z.length = 86 := by rw [← hZ]; exact rC_len noRec_ok _ _ _ _
  clear hZ
  go_enter Try.func7, Try.ntmps7
  go_wp2_with ((with_reducible refine build_row rfl 33 #[(0, .const (.int .i64 4)), (1, .const (.int .u32 3))] rfl (cells := B.toArray) ?_ ?_); (refine Eq.trans (congrArg _ ?_) hbt; kernel_rfl); refine RowKit.Hid.out ?_)
  refine Lib.hid ?_
  go_wp2_with fail
  refine hEH.out.mono ?_
  rintro q w1 ⟨b, d, rfl, hI, -, b1⟩
  clear hEH
  have b2 := below1 w1 (.cells #[.int .u8 1, .int .u8 0, .int .u8 0, .int .u8 0, .int .u8 3, .int .u8 5] 5)
  have hI5 : Ints .u8 (w1.alloc (.cells #[.int .u8 1, .int .u8 0, .int .u8 0, .int .u8 0, .int .u8 3, .int .u8 5] 5)) (some ⟨w1.heap.size, 0, none⟩) 6 6 [1, 0, 0, 0, 3, 5] :=
    Ints.of_blk (Blk.new w1 5 [.int .u8 1, .int .u8 0, .int .u8 0, .int .u8 0, .int .u8 3, .int .u8 5]) rfl (Nat.le_refl _) (fun i hi => by
      match i, hi with
      | 0, _ => rfl
      | 1, _ => rfl
      | 2, _ => rfl
      | 3, _ => rfl
      | 4, _ => rfl
      | 5, _ => rfl)
  have hD := kcDecode_any _ 6 6 _ _ hI5 (by unfold okB; decide) (by decide)
  unfold DecEndR at hD
  rw [exDec17] at hD
  dsimp only at hD
  have hI2 := hI.keep b2
  have B2 := b1.trans (b2.mono b1.size)
  obtain ⟨W2, hW2⟩ : ∃ W, w1.alloc (.cells #[.int .u8 1, .int .u8 0, .int .u8 0, .int .u8 0, .int .u8 3, .int .u8 5] 5) = W := ⟨_, rfl⟩
  rw [hW2] at hD hI2 B2
  have hDH := Lib.hid hD
  clear hD hI5 hI b1 b2
  go_wp2_with fail
  refine hDH.out.mono ?_
  rintro q w3 ⟨a', c', b', d', rfl, -, -, -, b3⟩
  have hI3 := hI2.keep b3
  have B3 := B2.trans (b3.mono B2.size)
  have hl86 : (rC ⟨⟨1, 3, 0, 5, z16, []⟩, noBlk⟩ a' c' b' d').length = 86 := rcC_len rfl rfl rfl
  have hone := rC_one ⟨⟨1, 3, 0, 5, z16, []⟩, noBlk⟩ a' c' b' d'
  have e3 := Lib.hid (fun w' g (k : Blk w' g 33 (rC ⟨⟨1, 3, 0, 5, z16, []⟩, noBlk⟩ a' c' b' d')) => rc3 k)
  obtain ⟨D, hD⟩ : ∃ D, rC ⟨⟨1, 3, 0, 5, z16, []⟩, noBlk⟩ a' c' b' d' = D := ⟨_, rfl⟩
  rw [hD] at hl86 hone e3
  rw [hD]
  clear hDH hI2 B2 b3 hW2 hD
  go_wp2_with ((with_reducible refine wpList_alloc_blk rfl 33 rfl hZ0 ?_); refine RowKit.Hid.out ?_)
  refine Lib.hid ?_
  try simp only [Act.put, List.setIfInBounds_toArray, List.set_cons_zero, List.set_cons_succ]
  have hnA := Blk.new w3 33 Z
  have bA := below1 w3 (.cells Z.toArray 33)
  have hIA := hI3.keep bA
  have BA := B3.trans (bA.mono B3.size)
  have hBl := B3.size
  have hIn := hI3.isIn.2
  obtain ⟨N, hN⟩ : ∃ N, w3.heap.size = N := ⟨_, rfl⟩
  rw [hN] at hnA hBl hIn ⊢
  obtain ⟨U, hU⟩ : ∃ W, w3.alloc (.cells Z.toArray 33) = W := ⟨_, rfl⟩
  rw [hU] at hnA hIA BA ⊢
  clear hI3 B3 bA hN hU
  refine store_row rfl 33 (.tmp 3) (.tmp 13) rfl rfl rfl hnA rowRc hl86 hZl hone ?_
  intro w4 hn4 hg4
  have hI4 := hIA.grown hg4 (fun x hx h0 => by have := hIn x hx h0; omega)
  have B4 := BA.grown hg4 BA.size (fun q hq => by injection hq with hq; omega)
  have v1 := hI4.string (P := Try.prog) 26 9 5 Try.underlying26 Try.underlying5 Try.underlying9
  rw [exStr17] at v1
  have c3 := e3.out w4 N hn4
  clear hnA hIA BA hg4 hn4 hI4 hIn hl86 hone
  go_wp2
  go_ret
  exact ⟨rfl, B4⟩
end Go.Proofs.Ytaaflnmdaplfkaa

/-
  The law RecordReads, by what the program's records and the document's own come to. New memory alone is written. Conditions: bytes below 256.
-/
namespace Go.Proofs.Ytaaflnmdaplfkaa
open Go.RowKit

theorem RecAt.isIn {w : World} {r : RecV} {a b : Option Addr} {c d : Nat} (h : RecAt w r a c b d) : (∀ x, a = some x → 0 < r.m.blob.length → x.block < w.heap.size) ∧ (∀ x, b = some x → 0 < r.b.n → x.block < w.heap.size) := ⟨h.1.isIn.2, h.2.isInE⟩
theorem RecAt.far {w w' : World} {r : RecV} {a b : Option Addr} {c d g : Nat} (h : RecAt w r a c b d) (hg : w.grownBy w' (some g)) (h1 : ∀ x, a = some x → 0 < r.m.blob.length → x.block ≠ g) (h2 : ∀ x, b = some x → 0 < r.b.n → x.block ≠ g) : RecAt w' r a c b d := by
  refine ⟨h.1.grown hg h1, h.2.1, h.2.2.1, ?_⟩
  rcases h.2.2.2 with h0 | ⟨b', off, ha, hc⟩
  · exact .inl h0
  · by_cases h0 : r.b.n = 0
    · exact .inl h0
    · exact .inr ⟨b', off, ha, fun i hi => hg.cell (hc i hi) (fun e => by injection e with e; exact h2 ⟨b', off, none⟩ ha (Nat.pos_of_ne_zero h0) e)⟩
theorem rightRec_n {r : RecV} (h : rightRec r = true) : r.b.n ≤ 32 := by
  rcases right_cases h with ⟨s, o, rfl, _⟩ | ⟨s, q, g, x, rfl, _⟩ | ⟨s, rfl⟩ | ⟨b, rfl, hb⟩ | ⟨g, rfl⟩
  · exact Nat.zero_le _
  · exact Nat.zero_le _
  · exact Nat.zero_le _
  · exact rightK_le hb
  · exact Nat.zero_le _
theorem decRec_n {xs : List Int} (hx : okB xs) : (decRec xs).1.b.n ≤ 32 := by
  by_cases he : (decRec xs).2 = 0
  · exact rightRec_n (enc_decRec hx he).2.1
  · rw [decRec_bad he]; exact Nat.zero_le _
theorem str_same17 {xs : List Int} (hx : okB xs) : ((strOfNums xs).toList == (strOfNums xs).toList) = true := by
  have := str_eq hx hx
  rw [decide_eq_true rfl] at this
  exact this

set_option maxRecDepth 100000 in
set_option maxHeartbeats 4000000 in
theorem kcReads_any (a : Option Addr) (n c : Nat) (xs : List Int) (w : World) (hI : Ints .u8 w a n c xs) (hr : okB xs) :
    Calls Try.prog 4 #[.slice a n c] w fun q w' => q = .returned (.bool true) ∧ Below w.heap.size w w' := by
  by_cases hn : 3000 < n
  · have hni : (3000 : Int) < (n : Int) := by omega
    clear hI hr hn
    go_enter Try.func4, Try.ntmps4
    go_wp2_with fail
    refine (alive17_any w).mono ?_
    rintro q w1 ⟨rfl, b1⟩
    go_wp2
    go_ret
    exact ⟨rfl, b1⟩
  have hni : ¬ (3000 : Int) < (n : Int) := by omega
  have hpd := fun w' (h : Below w.heap.size w w') => kcDecode_any a n c xs w' (hI.keep h) hr (by omega)
  have hrd := fun w' (h : Below w.heap.size w w') => r17Decode_any a n c xs w' (hI.keep h) hr (by omega)
  unfold DecEndR at hpd hrd
  have hno := decRec_bad (b := xs)
  have hok := enc_decRec hr
  have hbk := decRec_ok hr
  have hk32 := decRec_n hr
  obtain ⟨Z, hZ⟩ : ∃ Z, rC noRec none 0 none 0 = Z := ⟨_, rfl⟩
  have hZ0 : Zero Try.prog 33 Z := by rw [← hZ]; exact zeroRc
  have hZl : Z.length = 86 := by rw [← hZ]; exact rC_len noRec_ok _ _ _ _
  have hbt0 : Try.prog.built 33 [] = some Z.toArray := by rw [← hZ]; exact built_rc0
  obtain ⟨⟨r, E⟩, hd⟩ : ∃ q, decRec xs = q := ⟨_, rfl⟩
  rw [hd] at hpd hrd hno hok hbk hk32
  dsimp only at hpd hrd hno hok hbk hk32
  obtain ⟨D, hD⟩ : ∃ D : Option Addr → Nat → Option Addr → Nat → List Value, ∀ a c b d, rC r a c b d = D a c b d := ⟨_, fun _ _ _ _ => rfl⟩
  have hDl := Lib.hid (fun a c b d => show (D a c b d).length = 86 by rw [← hD]; exact rC_len hbk _ _ _ _)
  have hD1 := Lib.hid (fun a c b d => show ∀ v ∈ D a c b d, v.oneCell' = true by rw [← hD]; exact rC_one _ _ _ _ _)
  have hsame := Lib.hid (fun a1 c1 b1 d1 a2 c2 b2 d2 w' (h1 : RecAt w' r a1 c1 b1 d1) (h2 : RecAt w' r a2 c2 b2 d2) => show Calls Try.prog 13 #[.agg (D a1 c1 b1 d1).toArray, .agg (D a2 c2 b2 d2).toArray] w' fun q w'' => q = .returned (.bool true) ∧ Below w'.heap.size w' w'' by
    have := r17Same_any r r a1 b1 a2 b2 c1 d1 c2 d2 w' hbk hbk h1 h2 (by omega)
    rw [sameRec_self, hD, hD] at this
    exact this)
  simp only [hD] at hpd hrd
  have hpd := Lib.hid hpd
  have hrd := Lib.hid hrd
  by_cases hE : E = 0
  · subst hE
    obtain ⟨_, hmr, hmb⟩ := hok rfl
    have he : encRec r = (xs, 0) := by unfold encRec; rw [hmr, if_pos rfl, hmb]
    have hst := str_same17 hr
    have hLn := hI.len
    have hen := Lib.hid (fun a1 c1 b1 d1 w' (h : RecAt w' r a1 c1 b1 d1) => show Calls Try.prog 8 #[.agg (D a1 c1 b1 d1).toArray] w' fun q w'' => ∃ b d, q = .returned (.tuple #[.slice b n d, .int .i64 0]) ∧ Ints .u8 w'' b n d xs ∧ Below w'.heap.size w' w'' by
      have := kcEncode_any r a1 b1 c1 d1 w' hbk h (by omega)
      rw [he, hD] at this
      dsimp only at this
      rw [hLn] at this
      exact this.mono fun q w'' ⟨b, d, e, hi, _, hb⟩ => ⟨b, d, e, hi, hb⟩)
    have hri := Lib.hid (fun a1 c1 b1 d1 w' (h : RecAt w' r a1 c1 b1 d1) => show Calls Try.prog 10 #[.agg (D a1 c1 b1 d1).toArray] w' fun q w'' => q = .returned (.bool true) ∧ Below w'.heap.size w' w'' by
      have := kcRight_any r a1 b1 c1 d1 w' hbk h (by omega)
      rw [hmr, hD] at this
      exact this)
    have hIH := Lib.hid (fun w' (h : Below w.heap.size w w') => hI.keep h)
    have cv := Lib.hid (fun (w' : World) (b : Option Addr) (k d : Nat) (zs : List Int) (h : Ints .u8 w' b k d zs) => h.string (P := Try.prog) 26 9 5 Try.underlying26 Try.underlying5 Try.underlying9)
    obtain ⟨SA, hSA⟩ : ∃ S, strOfNums xs = S := ⟨_, rfl⟩
    rw [hSA] at hst
    have hSAH := Lib.hid hSA
    clear hno hok hmb hmr he hd hI hr hn hLn hSA hbk hk32 hD hZ
    go_enter Try.func4, Try.ntmps4
    go_wp2_with fail
    refine (hpd.out w (Below.refl _ _)).mono ?_
    rintro q w1 ⟨a1, c1, b1, d1, rfl, hI1, -, -, B1⟩
    have hl1 := hDl.out a1 c1 b1 d1
    have ho1 := hD1.out a1 c1 b1 d1
    obtain ⟨C1, hC1⟩ : ∃ C, D a1 c1 b1 d1 = C := ⟨_, rfl⟩
    rw [hC1] at hl1 ho1
    have hC1H := Lib.hid hC1
    go_wp2_with ((with_reducible refine wpList_alloc_blk rfl 33 rfl hZ0 ?_); refine RowKit.Hid.out ?_)
    refine Lib.hid ?_
    try simp only [Act.put, List.setIfInBounds_toArray, List.set_cons_zero, List.set_cons_succ]
    try simp only [hC1]
    have hnA := Blk.new w1 33 Z
    have bA := below1 w1 (.cells Z.toArray 33)
    have hIA := hI1.keep bA
    have BA := B1.trans (bA.mono B1.size)
    have hwN := B1.size
    have hIn := hI1.isIn
    obtain ⟨N, hN⟩ : ∃ N, w1.heap.size = N := ⟨_, rfl⟩
    rw [hN] at hnA hwN hIn ⊢
    obtain ⟨U, hU⟩ : ∃ W, w1.alloc (.cells Z.toArray 33) = W := ⟨_, rfl⟩
    rw [hU] at hnA hIA BA ⊢
    clear hI1 B1 bA hN hU hC1
    refine store_row rfl 33 (.tmp 3) (.tmp 16) rfl rfl rfl hnA rowRc hl1 hZl ho1 ?_
    intro w2 hn2 hg2
    have hI2 := hIA.far hg2 (fun x hx h0 => by have := hIn.1 x hx h0; omega) (fun x hx h0 => by have := hIn.2 x hx h0; omega)
    have B2 := BA.grown hg2 BA.size (fun q hq => by injection hq with hq; omega)
    have hrdH := Lib.hid (hrd.out w2 B2)
    clear hnA hIA BA hg2 hIn
    go_wp2_with fail
    refine hrdH.out.mono ?_
    rintro q w3 ⟨a2, c2, b2, d2, rfl, hJ3, -, -, b3⟩
    have hI3 := hI2.keep b3
    have hn3 := hn2.keep b3 hn2.lt
    have B3 := B2.trans (b3.mono B2.size)
    have hl2 := hDl.out a2 c2 b2 d2
    have ho2 := hD1.out a2 c2 b2 d2
    obtain ⟨C2, hC2⟩ : ∃ C, D a2 c2 b2 d2 = C := ⟨_, rfl⟩
    rw [hC2] at hl2 ho2
    have hC2H := Lib.hid hC2
    clear hrdH hI2 hn2 B2 b3
    go_wp2_with ((with_reducible refine wpList_alloc_blk rfl 33 rfl hZ0 ?_); refine RowKit.Hid.out ?_)
    refine Lib.hid ?_
    try simp only [Act.put, List.setIfInBounds_toArray, List.set_cons_zero, List.set_cons_succ]
    try simp only [hC2]
    have hmA := Blk.new w3 33 Z
    have bA := below1 w3 (.cells Z.toArray 33)
    have hIA := hI3.keep bA
    have hJA := hJ3.keep bA
    have hnA := hn3.keep bA hn3.lt
    have BA := B3.trans (bA.mono B3.size)
    have hNM := hn3.lt
    have hIn := hI3.isIn
    have hJn := hJ3.isIn
    obtain ⟨M, hM⟩ : ∃ N, w3.heap.size = N := ⟨_, rfl⟩
    rw [hM] at hmA hNM hIn hJn ⊢
    obtain ⟨U, hU⟩ : ∃ W, w3.alloc (.cells Z.toArray 33) = W := ⟨_, rfl⟩
    rw [hU] at hmA hIA hJA hnA BA ⊢
    clear hI3 hJ3 hn3 B3 bA hM hU hC2
    refine store_row rfl 33 (.tmp 5) (.tmp 21) rfl rfl rfl hmA rowRc hl2 hZl ho2 ?_
    intro w4 hm4 hg4
    have hn4 := hnA.grown hg4 (fun e => by injection e with e; omega)
    have hI4 := hIA.far hg4 (fun x hx h0 => by have := hIn.1 x hx h0; omega) (fun x hx h0 => by have := hIn.2 x hx h0; omega)
    have hJ4 := hJA.far hg4 (fun x hx h0 => by have := hJn.1 x hx h0; omega) (fun x hx h0 => by have := hJn.2 x hx h0; omega)
    have B4 := BA.grown hg4 BA.size (fun q hq => by injection hq with hq; omega)
    have hsm := Lib.hid (hsame.out a1 c1 b1 d1 a2 c2 b2 d2 w4 hI4 hJ4)
    rw [hC1H.out, hC2H.out] at hsm
    clear hmA hnA hIA hJA BA hg4 hIn hJn hJ4
    go_wp2_with (first
      | ((with_reducible refine wpList_load_blk rfl 33 (.tmp 3) rfl ?_ hn4 rowRc hl1 ?_); rfl)
      | ((with_reducible refine wpList_load_blk rfl 33 (.tmp 5) rfl ?_ hm4 rowRc hl2 ?_); rfl))
    refine hsm.out.mono ?_
    rintro q w5 ⟨rfl, b5⟩
    have hn5 := hn4.keep b5 hn4.lt
    have hI5 := hI4.keep b5
    have B5 := B4.trans (b5.mono B4.size)
    clear hsm hn4 hm4 hI4 B4 b5 hl2 ho2
    have hen5 := Lib.hid (hen.out a1 c1 b1 d1 w5 hI5)
    rw [hC1H.out] at hen5
    go_wp2_with ((with_reducible refine wpList_load_blk rfl 33 (.tmp 3) rfl ?_ hn5 rowRc hl1 ?_); rfl)
    refine hen5.out.mono ?_
    rintro q w6 ⟨b6, d6, rfl, hJ6, bb6⟩
    have hn6 := hn5.keep bb6 hn5.lt
    have hI6 := hI5.keep bb6
    have B6 := B5.trans (bb6.mono B5.size)
    have v1 := cv.out w6 b6 n d6 xs hJ6
    have v2 := cv.out w6 a n c xs (hIH.out w6 B6)
    rw [hSAH.out] at v1 v2
    have hri6 := Lib.hid (hri.out a1 c1 b1 d1 w6 hI6)
    rw [hC1H.out] at hri6
    clear hen5 hn5 hI5 bb6 hJ6 B5
    go_wp2_with ((with_reducible refine load_if rfl 33 (.tmp 3) rfl ?_ hn6 rowRc hl1 ?_); rfl)
    refine hri6.out.mono ?_
    rintro q w7 ⟨rfl, b7⟩
    have B7 := B6.trans (b7.mono B6.size)
    clear hri6 hn6 hI6 B6 b7 v1 v2
    go_wp2_with fail
    refine (alive17_any w7).mono ?_
    rintro q w8 ⟨rfl, b8⟩
    go_wp2
    go_ret
    exact ⟨by first | rfl | simp, B7.trans (b8.mono B7.size)⟩
  · have hnb := hno hE
    have hEb : (E != 0) = true := bne_iff_ne.2 hE
    have hsz := Lib.hid (fun a1 c1 b1 d1 w' (h : RecAt w' r a1 c1 b1 d1) => show Calls Try.prog 13 #[.agg (D a1 c1 b1 d1).toArray, .agg Z.toArray] w' fun q w'' => q = .returned (.bool true) ∧ Below w'.heap.size w' w'' by
      have := hsame.out a1 c1 b1 d1 none 0 none 0 w' h (by rw [hnb]; exact recAt_nil w' 0 0)
      rw [← hD none 0 none 0, hnb, hZ] at this
      exact this)
    clear hno hok hd hI hr hn hbk hk32 hD hZ hnb
    go_enter Try.func4, Try.ntmps4
    go_wp2_with fail
    refine (hpd.out w (Below.refl _ _)).mono ?_
    rintro q w1 ⟨a1, c1, b1, d1, rfl, hI1, -, -, B1⟩
    have hl1 := hDl.out a1 c1 b1 d1
    have ho1 := hD1.out a1 c1 b1 d1
    obtain ⟨C1, hC1⟩ : ∃ C, D a1 c1 b1 d1 = C := ⟨_, rfl⟩
    rw [hC1] at hl1 ho1
    have hC1H := Lib.hid hC1
    go_wp2_with ((with_reducible refine wpList_alloc_blk rfl 33 rfl hZ0 ?_); refine RowKit.Hid.out ?_)
    refine Lib.hid ?_
    try simp only [Act.put, List.setIfInBounds_toArray, List.set_cons_zero, List.set_cons_succ]
    try simp only [hC1]
    have hnA := Blk.new w1 33 Z
    have bA := below1 w1 (.cells Z.toArray 33)
    have hIA := hI1.keep bA
    have BA := B1.trans (bA.mono B1.size)
    have hwN := B1.size
    have hIn := hI1.isIn
    obtain ⟨N, hN⟩ : ∃ N, w1.heap.size = N := ⟨_, rfl⟩
    rw [hN] at hnA hwN hIn ⊢
    obtain ⟨U, hU⟩ : ∃ W, w1.alloc (.cells Z.toArray 33) = W := ⟨_, rfl⟩
    rw [hU] at hnA hIA BA ⊢
    clear hI1 B1 bA hN hU hC1
    refine store_row rfl 33 (.tmp 3) (.tmp 16) rfl rfl rfl hnA rowRc hl1 hZl ho1 ?_
    intro w2 hn2 hg2
    have hI2 := hIA.far hg2 (fun x hx h0 => by have := hIn.1 x hx h0; omega) (fun x hx h0 => by have := hIn.2 x hx h0; omega)
    have B2 := BA.grown hg2 BA.size (fun q hq => by injection hq with hq; omega)
    have hrdH := Lib.hid (hrd.out w2 B2)
    clear hnA hIA BA hg2 hIn
    go_wp2_with fail
    refine hrdH.out.mono ?_
    rintro q w3 ⟨a2, c2, b2, d2, rfl, hJ3, -, -, b3⟩
    have hI3 := hI2.keep b3
    have hn3 := hn2.keep b3 hn2.lt
    have B3 := B2.trans (b3.mono B2.size)
    have hl2 := hDl.out a2 c2 b2 d2
    have ho2 := hD1.out a2 c2 b2 d2
    obtain ⟨C2, hC2⟩ : ∃ C, D a2 c2 b2 d2 = C := ⟨_, rfl⟩
    rw [hC2] at hl2 ho2
    have hC2H := Lib.hid hC2
    clear hrdH hI2 hn2 B2 b3
    go_wp2_with ((with_reducible refine wpList_alloc_blk rfl 33 rfl hZ0 ?_); refine RowKit.Hid.out ?_)
    refine Lib.hid ?_
    try simp only [Act.put, List.setIfInBounds_toArray, List.set_cons_zero, List.set_cons_succ]
    try simp only [hC2]
    have hmA := Blk.new w3 33 Z
    have bA := below1 w3 (.cells Z.toArray 33)
    have hIA := hI3.keep bA
    have hJA := hJ3.keep bA
    have hnA := hn3.keep bA hn3.lt
    have BA := B3.trans (bA.mono B3.size)
    have hNM := hn3.lt
    have hIn := hI3.isIn
    have hJn := hJ3.isIn
    obtain ⟨M, hM⟩ : ∃ N, w3.heap.size = N := ⟨_, rfl⟩
    rw [hM] at hmA hNM hIn hJn ⊢
    obtain ⟨U, hU⟩ : ∃ W, w3.alloc (.cells Z.toArray 33) = W := ⟨_, rfl⟩
    rw [hU] at hmA hIA hJA hnA BA ⊢
    clear hI3 hJ3 hn3 B3 bA hM hU hC2
    refine store_row rfl 33 (.tmp 5) (.tmp 21) rfl rfl rfl hmA rowRc hl2 hZl ho2 ?_
    intro w4 hm4 hg4
    have hn4 := hnA.grown hg4 (fun e => by injection e with e; omega)
    have hI4 := hIA.far hg4 (fun x hx h0 => by have := hIn.1 x hx h0; omega) (fun x hx h0 => by have := hIn.2 x hx h0; omega)
    have hJ4 := hJA.far hg4 (fun x hx h0 => by have := hJn.1 x hx h0; omega) (fun x hx h0 => by have := hJn.2 x hx h0; omega)
    have B4 := BA.grown hg4 BA.size (fun q hq => by injection hq with hq; omega)
    have hsm := Lib.hid (hsame.out a1 c1 b1 d1 a2 c2 b2 d2 w4 hI4 hJ4)
    rw [hC1H.out, hC2H.out] at hsm
    clear hmA hnA hIA hJA BA hg4 hIn hJn hJ4
    go_wp2_with (first
      | ((with_reducible refine wpList_load_blk rfl 33 (.tmp 3) rfl ?_ hn4 rowRc hl1 ?_); rfl)
      | ((with_reducible refine wpList_load_blk rfl 33 (.tmp 5) rfl ?_ hm4 rowRc hl2 ?_); rfl))
    refine hsm.out.mono ?_
    rintro q w5 ⟨rfl, b5⟩
    have hn5 := hn4.keep b5 hn4.lt
    have hI5 := hI4.keep b5
    have B5 := B4.trans (b5.mono B4.size)
    clear hsm hn4 hm4 hI4 B4 b5 hl2 ho2
    have hsz5 := Lib.hid (hsz.out a1 c1 b1 d1 w5 hI5)
    rw [hC1H.out] at hsz5
    go_wp2_with ((with_reducible refine wpList_load_blk rfl 33 (.tmp 3) rfl ?_ hn5 rowRc hl1 ?_); rfl; refine RowKit.Hid.out ?_)
    refine Lib.hid ?_
    try simp only [Act.put, List.setIfInBounds_toArray, List.set_cons_zero, List.set_cons_succ]
    go_wp2_with ((with_reducible refine build_row rfl 33 #[] rfl (cells := Z.toArray) ?_ ?_); (refine Eq.trans (congrArg _ ?_) hbt0; kernel_rfl))
    refine hsz5.out.mono ?_
    rintro q w7 ⟨rfl, b7⟩
    have B7 := B5.trans (b7.mono B5.size)
    clear hsz5 hn5 hI5 B5 b7
    go_wp2_with fail
    refine (alive17_any w7).mono ?_
    rintro q w8 ⟨rfl, b8⟩
    go_wp2
    go_ret
    exact ⟨by first | rfl | simp, B7.trans (b8.mono B7.size)⟩
end Go.Proofs.Ytaaflnmdaplfkaa

/-
  The law RecordBytes, by what the program's records and the document's own come to. New memory alone is written. Conditions: the fields' ranges.
-/
namespace Go.Proofs.Ytaaflnmdaplfkaa
open Go.RowKit

set_option maxRecDepth 100000 in
set_option maxHeartbeats 4000000 in
theorem kcBytes_many (r : RecV) (a b : Option Addr) (c d : Nat) (w : World) (hM : RecOk r) (h0 : ¬ (r.m.blob.length ≤ 2000 ∧ r.b.n ≤ 100)) :
    Calls Try.prog 3 #[.agg (rC r a c b d).toArray] w fun q w' => q = .returned (.bool true) ∧ Below w.heap.size w w' := by
  have hfew : (decide (r.m.blob.length ≤ 2000) && decide (r.b.n ≤ 100)) = false := by
    rw [← Bool.not_eq_true, Bool.and_eq_true, decide_eq_true_eq, decide_eq_true_eq]
    exact h0
  have hCl := rC_len hM a c b d
  have few := fun w' => r17Few_any r a b c d w' hM
  obtain ⟨C, hC⟩ : ∃ C, rC r a c b d = C := ⟨_, rfl⟩
  rw [hC] at hCl few
  have hrC : IsRow Try.prog 33 C.length := rowRc_of hCl
  have hb := below1 w (.cells C.toArray 33)
  have hk : Blk (w.alloc (.cells C.toArray 33)) w.heap.size 33 C := Blk.new w _ C
  obtain ⟨W, hW⟩ : ∃ V, w.alloc (.cells C.toArray 33) = V := ⟨_, rfl⟩
  rw [hW] at hb hk
  obtain ⟨G, g9⟩ : ∃ G, w.heap.size = G := ⟨_, rfl⟩
  rw [g9] at hk
  rw [hfew] at few
  rw [hC]
  have fewH := Lib.hid few
  clear few hM h0 hC hrC hfew
  go_enter Try.func3, Try.ntmps3
  go_wp2_with ((with_reducible refine box_row rfl 33 (.tmp 0) rfl C ?_ ?_); rfl; refine RowKit.Hid.out ?_)
  refine Lib.hid ?_
  clear hW
  go_wp2_with ((with_reducible refine wpList_load_blk rfl 33 (.tmp 1) rfl ?_ hk rowRc hCl ?_); rfl)
  refine (fewH.out W).mono ?_
  rintro q w0 ⟨rfl, b0⟩
  have hk := hk.keep b0 hk.lt
  have hb := hb.trans (b0.mono hb.size)
  clear fewH b0
  go_wp2_with fail
  refine (alive17_any w0).mono ?_
  rintro q w1 ⟨rfl, b1⟩
  go_wp2
  go_ret
  exact ⟨rfl, by first | exact hb.trans (b1.mono hb.size) | (rw [← g9]; exact hb.trans (b1.mono hb.size))⟩

set_option maxRecDepth 100000 in
set_option maxHeartbeats 4000000 in
theorem kcBytes_no (r : RecV) (a b : Option Addr) (c d : Nat) (w : World) (hM : RecOk r) (hI0 : RecAt w r a c b d) (hx : r.m.blob.length ≤ 2000) (hn : r.b.n ≤ 100) (hF : rightRec r = false) :
    Calls Try.prog 3 #[.agg (rC r a c b d).toArray] w fun q w' => q = .returned (.bool true) ∧ Below w.heap.size w w' := by
  have en := fun w' (h : Below w.heap.size w w') => (kcEncode_any r a b c d w' hM (hI0.keep h) (by omega)).mono fun q w'' (k : ∃ b' d', q = .returned (.tuple #[.slice b' (encRec r).1.length d', .int .i64 (encRec r).2]) ∧ Ints .u8 w'' b' (encRec r).1.length d' (encRec r).1 ∧ (∀ x, b' = some x → 0 < (encRec r).1.length → w'.heap.size ≤ x.block) ∧ Below w'.heap.size w' w'') => (let ⟨b', d', e, hi, _, hb⟩ := k; ⟨b', d', e, hi, hb⟩ : ∃ b' d', q = .returned (.tuple #[.slice b' (encRec r).1.length d', .int .i64 (encRec r).2]) ∧ Ints .u8 w'' b' (encRec r).1.length d' (encRec r).1 ∧ Below w'.heap.size w' w'')
  have re := fun w' (h : Below w.heap.size w w') => r17Encode_any r a b c d w' hM (hI0.keep h) (by omega) (by omega)
  have rg := fun w' (h : Below w.heap.size w w') => kcRight_any r a b c d w' hM (hI0.keep h) (by omega)
  have rr := fun w' (h : Below w.heap.size w w') => r17Right_any r a b c d w' hM (hI0.keep h) (by omega)
  have cv := Lib.hid (fun (w' : World) (b : Option Addr) (k d : Nat) (zs : List Int) (h : Ints .u8 w' b k d zs) => h.string (P := Try.prog) 26 9 5 Try.underlying26 Try.underlying5 Try.underlying9)
  have hCl := rC_len hM a c b d
  have few := fun w' => r17Few_any r a b c d w' hM
  obtain ⟨C, hC⟩ : ∃ C, rC r a c b d = C := ⟨_, rfl⟩
  rw [hC] at hCl few
  have hrC : IsRow Try.prog 33 C.length := rowRc_of hCl
  have hb := below1 w (.cells C.toArray 33)
  have hk : Blk (w.alloc (.cells C.toArray 33)) w.heap.size 33 C := Blk.new w _ C
  obtain ⟨W, hW⟩ : ∃ V, w.alloc (.cells C.toArray 33) = V := ⟨_, rfl⟩
  rw [hW] at hb hk
  obtain ⟨G, g9⟩ : ∃ G, w.heap.size = G := ⟨_, rfl⟩
  rw [g9] at hk
  rw [decide_eq_true hx, decide_eq_true hn, Bool.true_and] at few
  have he : encRec r = ([], 1) := by unfold encRec; rw [hF]; rfl
  rw [hC, he] at en re
  rw [hC, hF] at rg rr
  rw [hC]
  dsimp only [List.length_nil] at en re
  obtain ⟨P, hP⟩ : ∃ P : List Int, [] = P := ⟨_, rfl⟩
  obtain ⟨M, hMM⟩ : ∃ K : Nat, 0 = K := ⟨_, rfl⟩
  rw [hP, hMM] at en re
  have fewH := Lib.hid few
  have enH := Lib.hid en
  have reH := Lib.hid re
  have rgH := Lib.hid rg
  have rrH := Lib.hid rr
  have hMH := Lib.hid hMM
  clear few en re rg rr he hF hM hI0 hP hMM hC hx hn
  go_enter Try.func3, Try.ntmps3
  go_wp2_with ((with_reducible refine box_row rfl 33 (.tmp 0) rfl C ?_ ?_); rfl; refine RowKit.Hid.out ?_)
  refine Lib.hid ?_
  clear hW
  go_wp2_with ((with_reducible refine wpList_load_blk rfl 33 (.tmp 1) rfl ?_ hk rowRc hCl ?_); rfl)
  refine (fewH.out W).mono ?_
  rintro q w0 ⟨rfl, b0⟩
  have hk := hk.keep b0 hk.lt
  have hb := hb.trans (b0.mono hb.size)
  clear fewH b0
  go_wp2_with ((with_reducible refine wpList_load_blk rfl 33 (.tmp 1) rfl ?_ hk rowRc hCl ?_); rfl)
  refine (enH.out w0 hb).mono ?_
  rintro q w1 ⟨b, d, rfl, hI, b1⟩
  have hk1 := hk.keep b1 hk.lt
  have B1 := hb.trans (b1.mono hb.size)
  clear hk hb enH b1
  go_wp2_with ((with_reducible refine wpList_load_blk rfl 33 (.tmp 1) rfl ?_ hk1 rowRc hCl ?_); rfl)
  refine (reH.out w1 B1).mono ?_
  rintro q w2 ⟨b', d', rfl, hI', b2⟩
  have hk2 := hk1.keep b2 hk1.lt
  have hI2 := hI.keep b2
  have B2 := B1.trans (b2.mono B1.size)
  clear hk1 hI B1 b2 reH
  go_wp2_with fail
  have b3 : Below w2.heap.size w2 w2.drew := (Below.refl _ _).drew
  have KC := Lib.hid (fun w' (h : Below w2.heap.size w2 w') => hk2.keep h hk2.lt)
  have RG := Lib.hid (fun w' (h : Below w2.heap.size w2 w') => rgH.out w' (B2.trans (h.mono B2.size)))
  have RR := Lib.hid (fun w' (h : Below w2.heap.size w2 w') => rrH.out w' (B2.trans (h.mono B2.size)))
  have v1 := Lib.hid (fun w' (h : Below w2.heap.size w2 w') => cv.out w' b M d P (hI2.keep h))
  have v2 := Lib.hid (fun w' (h : Below w2.heap.size w2 w') => cv.out w' b' M d' P (hI'.keep h))
  have B2H := Lib.hid B2
  have I2H := Lib.hid hI2
  clear rgH rrH hI' B2 hk2 hI2
  refine region_seqS (fun w' => Below w2.heap.size w2 w') (by kernel_rfl) b3 ?_
  simp only [pairs, Nat.reduceAdd]
  repeat (first
    | (refine SeqS.take (v := .agg (C).toArray) (by first | assumption | trivial) (by kernel_rfl) (by decide +kernel) (by decide +kernel) (yields_blk (by rfl) 33 (.tmp 1) rfl rfl (fun w' h => KC.out w' h) (hrC)) ?_
       simp only [Act.put, List.setIfInBounds_toArray, List.set_cons_zero, List.set_cons_succ])
    | (refine SeqS.take (v := ?_) (by first | assumption | trivial) (by kernel_rfl) (by decide +kernel) (by decide +kernel) (Or.inl ⟨by rfl, ?_⟩) ?_
       rotate_left
       focus
         intro w' hb'
         go_simp
         with_reducible rfl
       simp only [Act.put, List.setIfInBounds_toArray, List.set_cons_zero, List.set_cons_succ])
    | (refine SeqS.take (v := undef) (by first | assumption | trivial) (by kernel_rfl) (by decide +kernel) (by decide +kernel) (Or.inr ⟨by rfl, rfl⟩) ?_
       simp only [Act.put, List.setIfInBounds_toArray, List.set_cons_zero, List.set_cons_succ])
    | (refine SeqS.take1 (v := .agg (C).toArray) (by first | assumption | trivial) (by kernel_rfl) (by decide +kernel) (by decide +kernel) (yields_blk (by rfl) 33 (.tmp 1) rfl rfl (fun w' h => KC.out w' h) (hrC)) ?_
       simp only [Act.put, List.setIfInBounds_toArray, List.set_cons_zero, List.set_cons_succ])
    | (refine SeqS.take1 (v := ?_) (by first | assumption | trivial) (by kernel_rfl) (by decide +kernel) (by decide +kernel) (Or.inl ⟨by rfl, ?_⟩) ?_
       rotate_left
       focus
         intro w' hb'
         go_simp
         with_reducible rfl
       simp only [Act.put, List.setIfInBounds_toArray, List.set_cons_zero, List.set_cons_succ])
    | (refine SeqS.take1 (v := undef) (by first | assumption | trivial) (by kernel_rfl) (by decide +kernel) (by decide +kernel) (Or.inr ⟨by rfl, rfl⟩) ?_
       simp only [Act.put, List.setIfInBounds_toArray, List.set_cons_zero, List.set_cons_succ])
    | (refine SeqS.take2 (v := .agg (C).toArray) (by first | assumption | trivial) (by kernel_rfl) (by decide +kernel) (by decide +kernel) (yields_blk (by rfl) 33 (.tmp 1) rfl rfl (fun w' h => KC.out w' h) (hrC)) ?_
       simp only [Act.put, List.setIfInBounds_toArray, List.set_cons_zero, List.set_cons_succ])
    | (refine SeqS.take2 (v := ?_) (by first | assumption | trivial) (by kernel_rfl) (by decide +kernel) (by decide +kernel) (Or.inl ⟨by rfl, ?_⟩) ?_
       rotate_left
       focus
         intro w' hb'
         go_simp
         with_reducible rfl
       simp only [Act.put, List.setIfInBounds_toArray, List.set_cons_zero, List.set_cons_succ])
    | (refine SeqS.take2 (v := undef) (by first | assumption | trivial) (by kernel_rfl) (by decide +kernel) (by decide +kernel) (Or.inr ⟨by rfl, rfl⟩) ?_
       simp only [Act.put, List.setIfInBounds_toArray, List.set_cons_zero, List.set_cons_succ]))
  refine SeqS.alone (by decide +kernel) (by rfl) (fun K hK => ?_)
  go_simp
  go_at_call 10
  refine (RG.out _ b3).mono ?_
  rintro e w5 ⟨rfl, b5⟩
  go_simp
  have S5 : Below w2.heap.size w2 w5 := b3.trans (b5.mono b3.size)
  refine hK _ _ S5 ?_
  clear hK K
  refine SeqS.alone (by decide +kernel) (by rfl) (fun K hK => ?_)
  go_simp
  go_at_call 11
  refine (RR.out _ S5).mono ?_
  rintro e w6 ⟨rfl, b6⟩
  go_simp
  have S6 : Below w2.heap.size w2 w6 := S5.trans (b6.mono S5.size)
  refine hK _ _ S6 ?_
  clear hK K
  repeat (first
    | (refine SeqS.take (v := ?_) (by first | assumption | trivial) (by kernel_rfl) (by decide +kernel) (by decide +kernel) (Or.inl ⟨by rfl, ?_⟩) ?_
       rotate_left
       focus
         intro w' hb'
         go_simp
         with_reducible rfl
       simp only [Act.put, List.setIfInBounds_toArray, List.set_cons_zero, List.set_cons_succ])
    | (refine SeqS.take (v := ?_) (by first | assumption | trivial) (by kernel_rfl) (by decide +kernel) (by decide +kernel) (Or.inl ⟨by rfl, ?_⟩) ?_
       rotate_left
       focus
         intro w' hb'
         have d0 := v1.out w' hb'
         go_simp
         with_reducible rfl
       simp only [Act.put, List.setIfInBounds_toArray, List.set_cons_zero, List.set_cons_succ])
    | (refine SeqS.take (v := ?_) (by first | assumption | trivial) (by kernel_rfl) (by decide +kernel) (by decide +kernel) (Or.inl ⟨by rfl, ?_⟩) ?_
       rotate_left
       focus
         intro w' hb'
         have d0 := v2.out w' hb'
         go_simp
         with_reducible rfl
       simp only [Act.put, List.setIfInBounds_toArray, List.set_cons_zero, List.set_cons_succ])
    | (refine SeqS.take (v := undef) (by first | assumption | trivial) (by kernel_rfl) (by decide +kernel) (by decide +kernel) (Or.inr ⟨by rfl, rfl⟩) ?_
       simp only [Act.put, List.setIfInBounds_toArray, List.set_cons_zero, List.set_cons_succ])
    | (refine SeqS.take1 (v := ?_) (by first | assumption | trivial) (by kernel_rfl) (by decide +kernel) (by decide +kernel) (Or.inl ⟨by rfl, ?_⟩) ?_
       rotate_left
       focus
         intro w' hb'
         go_simp
         with_reducible rfl
       simp only [Act.put, List.setIfInBounds_toArray, List.set_cons_zero, List.set_cons_succ])
    | (refine SeqS.take1 (v := ?_) (by first | assumption | trivial) (by kernel_rfl) (by decide +kernel) (by decide +kernel) (Or.inl ⟨by rfl, ?_⟩) ?_
       rotate_left
       focus
         intro w' hb'
         have d0 := v1.out w' hb'
         go_simp
         with_reducible rfl
       simp only [Act.put, List.setIfInBounds_toArray, List.set_cons_zero, List.set_cons_succ])
    | (refine SeqS.take1 (v := ?_) (by first | assumption | trivial) (by kernel_rfl) (by decide +kernel) (by decide +kernel) (Or.inl ⟨by rfl, ?_⟩) ?_
       rotate_left
       focus
         intro w' hb'
         have d0 := v2.out w' hb'
         go_simp
         with_reducible rfl
       simp only [Act.put, List.setIfInBounds_toArray, List.set_cons_zero, List.set_cons_succ])
    | (refine SeqS.take1 (v := undef) (by first | assumption | trivial) (by kernel_rfl) (by decide +kernel) (by decide +kernel) (Or.inr ⟨by rfl, rfl⟩) ?_
       simp only [Act.put, List.setIfInBounds_toArray, List.set_cons_zero, List.set_cons_succ])
    | (refine SeqS.take2 (v := ?_) (by first | assumption | trivial) (by kernel_rfl) (by decide +kernel) (by decide +kernel) (Or.inl ⟨by rfl, ?_⟩) ?_
       rotate_left
       focus
         intro w' hb'
         go_simp
         with_reducible rfl
       simp only [Act.put, List.setIfInBounds_toArray, List.set_cons_zero, List.set_cons_succ])
    | (refine SeqS.take2 (v := ?_) (by first | assumption | trivial) (by kernel_rfl) (by decide +kernel) (by decide +kernel) (Or.inl ⟨by rfl, ?_⟩) ?_
       rotate_left
       focus
         intro w' hb'
         have d0 := v1.out w' hb'
         go_simp
         with_reducible rfl
       simp only [Act.put, List.setIfInBounds_toArray, List.set_cons_zero, List.set_cons_succ])
    | (refine SeqS.take2 (v := ?_) (by first | assumption | trivial) (by kernel_rfl) (by decide +kernel) (by decide +kernel) (Or.inl ⟨by rfl, ?_⟩) ?_
       rotate_left
       focus
         intro w' hb'
         have d0 := v2.out w' hb'
         go_simp
         with_reducible rfl
       simp only [Act.put, List.setIfInBounds_toArray, List.set_cons_zero, List.set_cons_succ])
    | (refine SeqS.take2 (v := undef) (by first | assumption | trivial) (by kernel_rfl) (by decide +kernel) (by decide +kernel) (Or.inr ⟨by rfl, rfl⟩) ?_
       simp only [Act.put, List.setIfInBounds_toArray, List.set_cons_zero, List.set_cons_succ]))
  refine SeqS.done (by decide +kernel) ?_
  have B6 := B2H.out.trans (S6.mono B2H.out.size)
  have hP6 := I2H.out.keep S6
  have hG6 := KC.out w6 S6
  clear b3 b5 b6 S5 S6 RG RR v1 v2 KC B2H I2H
  obtain rfl := hMH.out
  go_wp2_with fail
  refine (alive17_any w6).mono ?_
  rintro q w7 ⟨rfl, b7⟩
  go_wp2
  go_ret
  exact ⟨rfl, B6.trans (b7.mono B6.size)⟩

set_option maxRecDepth 100000 in
set_option maxHeartbeats 4000000 in
theorem kcBytes_ok (r : RecV) (a b : Option Addr) (c d : Nat) (w : World) (hM : RecOk r) (hI0 : RecAt w r a c b d) (hx : r.m.blob.length ≤ 2000) (hn : r.b.n ≤ 100) (hF : rightRec r = true) :
    Calls Try.prog 3 #[.agg (rC r a c b d).toArray] w fun q w' => q = .returned (.bool true) ∧ Below w.heap.size w w' := by
  have en := fun w' (h : Below w.heap.size w w') => (kcEncode_any r a b c d w' hM (hI0.keep h) (by omega)).mono fun q w'' (k : ∃ b' d', q = .returned (.tuple #[.slice b' (encRec r).1.length d', .int .i64 (encRec r).2]) ∧ Ints .u8 w'' b' (encRec r).1.length d' (encRec r).1 ∧ (∀ x, b' = some x → 0 < (encRec r).1.length → w'.heap.size ≤ x.block) ∧ Below w'.heap.size w' w'') => (let ⟨b', d', e, hi, _, hb⟩ := k; ⟨b', d', e, hi, hb⟩ : ∃ b' d', q = .returned (.tuple #[.slice b' (encRec r).1.length d', .int .i64 (encRec r).2]) ∧ Ints .u8 w'' b' (encRec r).1.length d' (encRec r).1 ∧ Below w'.heap.size w' w'')
  have re := fun w' (h : Below w.heap.size w w') => r17Encode_any r a b c d w' hM (hI0.keep h) (by omega) (by omega)
  have rg := fun w' (h : Below w.heap.size w w') => kcRight_any r a b c d w' hM (hI0.keep h) (by omega)
  have rr := fun w' (h : Below w.heap.size w w') => r17Right_any r a b c d w' hM (hI0.keep h) (by omega)
  have cv := Lib.hid (fun (w' : World) (b : Option Addr) (k d : Nat) (zs : List Int) (h : Ints .u8 w' b k d zs) => h.string (P := Try.prog) 26 9 5 Try.underlying26 Try.underlying5 Try.underlying9)
  obtain ⟨Dc, hDc⟩ : ∃ D : Option Addr → Nat → Option Addr → Nat → List Value, ∀ a c b d, rC r a c b d = D a c b d := ⟨_, fun _ _ _ _ => rfl⟩
  have hDl := Lib.hid (fun a c b d => show (Dc a c b d).length = 86 by rw [← hDc]; exact rC_len hM _ _ _ _)
  have hD1 := Lib.hid (fun a c b d => show ∀ v ∈ Dc a c b d, v.oneCell' = true by rw [← hDc]; exact rC_one _ _ _ _ _)
  have sm := fun w' a1 c1 b1 d1 (h : Below w.heap.size w w') (hJ : RecAt w' r a1 c1 b1 d1) => show Calls Try.prog 13 #[.agg (rC r a c b d).toArray, .agg (Dc a1 c1 b1 d1).toArray] w' fun q w'' => q = .returned (.bool true) ∧ Below w'.heap.size w' w'' by
    have := r17Same_any r r a b a1 b1 c d c1 d1 w' hM hM (hI0.keep h) hJ (by omega)
    rw [sameRec_self, hDc a1 c1 b1 d1] at this
    exact this
  have hpr := recB_ok hM hF
  have hpl := recB_len hM hF
  have d1 := dec_encRec hM hF
  have he : encRec r = (recB r, 0) := by unfold encRec; rw [hF]; rfl
  rw [he] at en re
  rw [hF] at rg rr
  dsimp only at en re
  obtain ⟨P, hP⟩ : ∃ P : List Int, recB r = P := ⟨_, rfl⟩
  obtain ⟨M, hMM⟩ : ∃ M : Nat, P.length = M := ⟨_, rfl⟩
  rw [hP] at en re hpr hpl d1
  rw [hMM] at en re hpl
  have pd1 := fun w' b d (h : Ints .u8 w' b M d P) => kcDecode_any b M d P w' h hpr (by omega)
  unfold DecEndR at pd1
  rw [d1] at pd1
  dsimp only at pd1
  simp only [hDc] at pd1
  have hCl := rC_len hM a c b d
  have few := fun w' => r17Few_any r a b c d w' hM
  obtain ⟨C, hC⟩ : ∃ C, rC r a c b d = C := ⟨_, rfl⟩
  rw [hC] at hCl few
  have hrC : IsRow Try.prog 33 C.length := rowRc_of hCl
  have hb := below1 w (.cells C.toArray 33)
  have hk : Blk (w.alloc (.cells C.toArray 33)) w.heap.size 33 C := Blk.new w _ C
  obtain ⟨W, hW⟩ : ∃ V, w.alloc (.cells C.toArray 33) = V := ⟨_, rfl⟩
  rw [hW] at hb hk
  obtain ⟨G, g9⟩ : ∃ G, w.heap.size = G := ⟨_, rfl⟩
  rw [g9] at hk
  rw [decide_eq_true hx, decide_eq_true hn, Bool.true_and] at few
  rw [hC] at en re rg rr sm
  rw [hC]
  obtain ⟨Z, hZ⟩ : ∃ Z, rC noRec none 0 none 0 = Z := ⟨_, rfl⟩
  have hZ0 : Zero Try.prog 33 Z := by rw [← hZ]; exact zeroRc
  have hZl : Z.length = 86 := by rw [← hZ]; exact rC_len noRec_ok _ _ _ _
  have pd1H := Lib.hid pd1
  have fewH := Lib.hid few
  have enH := Lib.hid en
  have reH := Lib.hid re
  have rgH := Lib.hid rg
  have rrH := Lib.hid rr
  have smH := Lib.hid sm
  have hst := str_same17 hpr
  clear few en re rg rr he hF hM hI0 hP hx hn d1 hpr hpl pd1 hZ sm hMM hC hDc
  go_enter Try.func3, Try.ntmps3
  go_wp2_with ((with_reducible refine box_row rfl 33 (.tmp 0) rfl C ?_ ?_); rfl; refine RowKit.Hid.out ?_)
  refine Lib.hid ?_
  clear hW
  go_wp2_with ((with_reducible refine wpList_load_blk rfl 33 (.tmp 1) rfl ?_ hk rowRc hCl ?_); rfl)
  refine (fewH.out W).mono ?_
  rintro q w0 ⟨rfl, b0⟩
  have hk := hk.keep b0 hk.lt
  have hb := hb.trans (b0.mono hb.size)
  clear fewH b0
  go_wp2_with ((with_reducible refine wpList_load_blk rfl 33 (.tmp 1) rfl ?_ hk rowRc hCl ?_); rfl)
  refine (enH.out w0 hb).mono ?_
  rintro q w1 ⟨b, d, rfl, hI, b1⟩
  have hk1 := hk.keep b1 hk.lt
  have B1 := hb.trans (b1.mono hb.size)
  clear hk hb enH b1
  go_wp2_with ((with_reducible refine wpList_load_blk rfl 33 (.tmp 1) rfl ?_ hk1 rowRc hCl ?_); rfl)
  refine (reH.out w1 B1).mono ?_
  rintro q w2 ⟨b', d', rfl, hI', b2⟩
  have hk2 := hk1.keep b2 hk1.lt
  have hI2 := hI.keep b2
  have B2 := B1.trans (b2.mono B1.size)
  clear hk1 hI B1 b2 reH
  go_wp2_with fail
  have b3 : Below w2.heap.size w2 w2.drew := (Below.refl _ _).drew
  have KC := Lib.hid (fun w' (h : Below w2.heap.size w2 w') => hk2.keep h hk2.lt)
  have RG := Lib.hid (fun w' (h : Below w2.heap.size w2 w') => rgH.out w' (B2.trans (h.mono B2.size)))
  have RR := Lib.hid (fun w' (h : Below w2.heap.size w2 w') => rrH.out w' (B2.trans (h.mono B2.size)))
  have v1 := Lib.hid (fun w' (h : Below w2.heap.size w2 w') => cv.out w' b M d P (hI2.keep h))
  have v2 := Lib.hid (fun w' (h : Below w2.heap.size w2 w') => cv.out w' b' M d' P (hI'.keep h))
  have B2H := Lib.hid B2
  have I2H := Lib.hid hI2
  clear rgH rrH hI' B2 hk2 hI2
  refine region_seqS (fun w' => Below w2.heap.size w2 w') (by kernel_rfl) b3 ?_
  simp only [pairs, Nat.reduceAdd]
  repeat (first
    | (refine SeqS.take (v := .agg (C).toArray) (by first | assumption | trivial) (by kernel_rfl) (by decide +kernel) (by decide +kernel) (yields_blk (by rfl) 33 (.tmp 1) rfl rfl (fun w' h => KC.out w' h) (hrC)) ?_
       simp only [Act.put, List.setIfInBounds_toArray, List.set_cons_zero, List.set_cons_succ])
    | (refine SeqS.take (v := ?_) (by first | assumption | trivial) (by kernel_rfl) (by decide +kernel) (by decide +kernel) (Or.inl ⟨by rfl, ?_⟩) ?_
       rotate_left
       focus
         intro w' hb'
         go_simp
         with_reducible rfl
       simp only [Act.put, List.setIfInBounds_toArray, List.set_cons_zero, List.set_cons_succ])
    | (refine SeqS.take (v := undef) (by first | assumption | trivial) (by kernel_rfl) (by decide +kernel) (by decide +kernel) (Or.inr ⟨by rfl, rfl⟩) ?_
       simp only [Act.put, List.setIfInBounds_toArray, List.set_cons_zero, List.set_cons_succ])
    | (refine SeqS.take1 (v := .agg (C).toArray) (by first | assumption | trivial) (by kernel_rfl) (by decide +kernel) (by decide +kernel) (yields_blk (by rfl) 33 (.tmp 1) rfl rfl (fun w' h => KC.out w' h) (hrC)) ?_
       simp only [Act.put, List.setIfInBounds_toArray, List.set_cons_zero, List.set_cons_succ])
    | (refine SeqS.take1 (v := ?_) (by first | assumption | trivial) (by kernel_rfl) (by decide +kernel) (by decide +kernel) (Or.inl ⟨by rfl, ?_⟩) ?_
       rotate_left
       focus
         intro w' hb'
         go_simp
         with_reducible rfl
       simp only [Act.put, List.setIfInBounds_toArray, List.set_cons_zero, List.set_cons_succ])
    | (refine SeqS.take1 (v := undef) (by first | assumption | trivial) (by kernel_rfl) (by decide +kernel) (by decide +kernel) (Or.inr ⟨by rfl, rfl⟩) ?_
       simp only [Act.put, List.setIfInBounds_toArray, List.set_cons_zero, List.set_cons_succ])
    | (refine SeqS.take2 (v := .agg (C).toArray) (by first | assumption | trivial) (by kernel_rfl) (by decide +kernel) (by decide +kernel) (yields_blk (by rfl) 33 (.tmp 1) rfl rfl (fun w' h => KC.out w' h) (hrC)) ?_
       simp only [Act.put, List.setIfInBounds_toArray, List.set_cons_zero, List.set_cons_succ])
    | (refine SeqS.take2 (v := ?_) (by first | assumption | trivial) (by kernel_rfl) (by decide +kernel) (by decide +kernel) (Or.inl ⟨by rfl, ?_⟩) ?_
       rotate_left
       focus
         intro w' hb'
         go_simp
         with_reducible rfl
       simp only [Act.put, List.setIfInBounds_toArray, List.set_cons_zero, List.set_cons_succ])
    | (refine SeqS.take2 (v := undef) (by first | assumption | trivial) (by kernel_rfl) (by decide +kernel) (by decide +kernel) (Or.inr ⟨by rfl, rfl⟩) ?_
       simp only [Act.put, List.setIfInBounds_toArray, List.set_cons_zero, List.set_cons_succ]))
  refine SeqS.alone (by decide +kernel) (by rfl) (fun K hK => ?_)
  go_simp
  go_at_call 10
  refine (RG.out _ b3).mono ?_
  rintro e w5 ⟨rfl, b5⟩
  go_simp
  have S5 : Below w2.heap.size w2 w5 := b3.trans (b5.mono b3.size)
  refine hK _ _ S5 ?_
  clear hK K
  refine SeqS.alone (by decide +kernel) (by rfl) (fun K hK => ?_)
  go_simp
  go_at_call 11
  refine (RR.out _ S5).mono ?_
  rintro e w6 ⟨rfl, b6⟩
  go_simp
  have S6 : Below w2.heap.size w2 w6 := S5.trans (b6.mono S5.size)
  refine hK _ _ S6 ?_
  clear hK K
  repeat (first
    | (refine SeqS.take (v := ?_) (by first | assumption | trivial) (by kernel_rfl) (by decide +kernel) (by decide +kernel) (Or.inl ⟨by rfl, ?_⟩) ?_
       rotate_left
       focus
         intro w' hb'
         go_simp
         with_reducible rfl
       simp only [Act.put, List.setIfInBounds_toArray, List.set_cons_zero, List.set_cons_succ])
    | (refine SeqS.take (v := ?_) (by first | assumption | trivial) (by kernel_rfl) (by decide +kernel) (by decide +kernel) (Or.inl ⟨by rfl, ?_⟩) ?_
       rotate_left
       focus
         intro w' hb'
         have d0 := v1.out w' hb'
         go_simp
         with_reducible rfl
       simp only [Act.put, List.setIfInBounds_toArray, List.set_cons_zero, List.set_cons_succ])
    | (refine SeqS.take (v := ?_) (by first | assumption | trivial) (by kernel_rfl) (by decide +kernel) (by decide +kernel) (Or.inl ⟨by rfl, ?_⟩) ?_
       rotate_left
       focus
         intro w' hb'
         have d0 := v2.out w' hb'
         go_simp
         with_reducible rfl
       simp only [Act.put, List.setIfInBounds_toArray, List.set_cons_zero, List.set_cons_succ])
    | (refine SeqS.take (v := undef) (by first | assumption | trivial) (by kernel_rfl) (by decide +kernel) (by decide +kernel) (Or.inr ⟨by rfl, rfl⟩) ?_
       simp only [Act.put, List.setIfInBounds_toArray, List.set_cons_zero, List.set_cons_succ])
    | (refine SeqS.take1 (v := ?_) (by first | assumption | trivial) (by kernel_rfl) (by decide +kernel) (by decide +kernel) (Or.inl ⟨by rfl, ?_⟩) ?_
       rotate_left
       focus
         intro w' hb'
         go_simp
         with_reducible rfl
       simp only [Act.put, List.setIfInBounds_toArray, List.set_cons_zero, List.set_cons_succ])
    | (refine SeqS.take1 (v := ?_) (by first | assumption | trivial) (by kernel_rfl) (by decide +kernel) (by decide +kernel) (Or.inl ⟨by rfl, ?_⟩) ?_
       rotate_left
       focus
         intro w' hb'
         have d0 := v1.out w' hb'
         go_simp
         with_reducible rfl
       simp only [Act.put, List.setIfInBounds_toArray, List.set_cons_zero, List.set_cons_succ])
    | (refine SeqS.take1 (v := ?_) (by first | assumption | trivial) (by kernel_rfl) (by decide +kernel) (by decide +kernel) (Or.inl ⟨by rfl, ?_⟩) ?_
       rotate_left
       focus
         intro w' hb'
         have d0 := v2.out w' hb'
         go_simp
         with_reducible rfl
       simp only [Act.put, List.setIfInBounds_toArray, List.set_cons_zero, List.set_cons_succ])
    | (refine SeqS.take1 (v := undef) (by first | assumption | trivial) (by kernel_rfl) (by decide +kernel) (by decide +kernel) (Or.inr ⟨by rfl, rfl⟩) ?_
       simp only [Act.put, List.setIfInBounds_toArray, List.set_cons_zero, List.set_cons_succ])
    | (refine SeqS.take2 (v := ?_) (by first | assumption | trivial) (by kernel_rfl) (by decide +kernel) (by decide +kernel) (Or.inl ⟨by rfl, ?_⟩) ?_
       rotate_left
       focus
         intro w' hb'
         go_simp
         with_reducible rfl
       simp only [Act.put, List.setIfInBounds_toArray, List.set_cons_zero, List.set_cons_succ])
    | (refine SeqS.take2 (v := ?_) (by first | assumption | trivial) (by kernel_rfl) (by decide +kernel) (by decide +kernel) (Or.inl ⟨by rfl, ?_⟩) ?_
       rotate_left
       focus
         intro w' hb'
         have d0 := v1.out w' hb'
         go_simp
         with_reducible rfl
       simp only [Act.put, List.setIfInBounds_toArray, List.set_cons_zero, List.set_cons_succ])
    | (refine SeqS.take2 (v := ?_) (by first | assumption | trivial) (by kernel_rfl) (by decide +kernel) (by decide +kernel) (Or.inl ⟨by rfl, ?_⟩) ?_
       rotate_left
       focus
         intro w' hb'
         have d0 := v2.out w' hb'
         go_simp
         with_reducible rfl
       simp only [Act.put, List.setIfInBounds_toArray, List.set_cons_zero, List.set_cons_succ])
    | (refine SeqS.take2 (v := undef) (by first | assumption | trivial) (by kernel_rfl) (by decide +kernel) (by decide +kernel) (Or.inr ⟨by rfl, rfl⟩) ?_
       simp only [Act.put, List.setIfInBounds_toArray, List.set_cons_zero, List.set_cons_succ]))
  refine SeqS.done (by decide +kernel) ?_
  have B6 := B2H.out.trans (S6.mono B2H.out.size)
  have hP6 := I2H.out.keep S6
  have hG6 := KC.out w6 S6
  clear b3 b5 b6 S5 S6 RG RR v1 v2 KC B2H I2H
  have p1 := Lib.hid (pd1H.out w6 _ _ hP6)
  clear pd1H
  go_wp2_with fail
  refine p1.out.mono ?_
  rintro q w7 ⟨u, uc, ub, ud, rfl, hQ7, -, -, b7⟩
  have hG7 := hG6.keep b7 hG6.lt
  have B7 := B6.trans (b7.mono B6.size)
  have hl1 := hDl.out u uc ub ud
  have ho1 := hD1.out u uc ub ud
  obtain ⟨C1, hC1⟩ : ∃ C, Dc u uc ub ud = C := ⟨_, rfl⟩
  rw [hC1] at hl1 ho1
  have hC1H := Lib.hid hC1
  clear p1 hG6 hP6 B6 b7
  go_wp2_with ((with_reducible refine wpList_alloc_blk rfl 33 rfl hZ0 ?_); refine RowKit.Hid.out ?_)
  refine Lib.hid ?_
  try simp only [Act.put, List.setIfInBounds_toArray, List.set_cons_zero, List.set_cons_succ]
  try simp only [hC1]
  clear hC1
  have hNA := Blk.new w7 33 Z
  have bA := below1 w7 (.cells Z.toArray 33)
  have hGA := hG7.keep bA hG7.lt
  have hQA := hQ7.keep bA
  have BA := B7.trans (bA.mono B7.size)
  have hQn := hQ7.isIn
  have hGn := hG7.lt
  have hwN := B7.size
  obtain ⟨N, hN⟩ : ∃ N, w7.heap.size = N := ⟨_, rfl⟩
  rw [hN] at hNA hQn hGn hwN ⊢
  obtain ⟨U, hU⟩ : ∃ W, w7.alloc (.cells Z.toArray 33) = W := ⟨_, rfl⟩
  rw [hU] at hNA hGA hQA BA ⊢
  clear hG7 hQ7 B7 bA hN hU
  refine store_row rfl 33 (.tmp 7) (.tmp 51) rfl rfl rfl hNA rowRc hl1 hZl ho1 ?_
  intro w8 hN8 hg8
  have hG8 := hGA.grown hg8 (fun e => by injection e with e; omega)
  have hQ8 := hQA.far hg8 (fun x hx h0 => by have := hQn.1 x hx h0; omega) (fun x hx h0 => by have := hQn.2 x hx h0; omega)
  have B8 := BA.grown hg8 BA.size (fun q hq => by injection hq with hq; omega)
  have sm := Lib.hid (smH.out w8 u uc ub ud B8 hQ8)
  rw [hC1H.out] at sm
  clear hNA hGA hQA BA hg8 hQn hGn hwN hQ8 smH
  go_wp2_with (first
    | ((with_reducible refine load_if rfl 33 (.tmp 1) rfl ?_ hG8 rowRc hCl ?_); rfl)
    | ((with_reducible refine load_if rfl 33 (.tmp 7) rfl ?_ hN8 rowRc hl1 ?_); rfl))
  refine sm.out.mono ?_
  rintro q w9 ⟨rfl, b9⟩
  have B9 := B8.trans (b9.mono B8.size)
  clear sm hG8 hN8 B8 b9
  go_wp2_with fail
  refine (alive17_any w9).mono ?_
  rintro q w10 ⟨rfl, b10⟩
  go_wp2
  go_ret
  exact ⟨by first | rfl | simp, B9.trans (b10.mono B9.size)⟩

theorem kcBytes_any (r : RecV) (a b : Option Addr) (c d : Nat) (w : World) (hM : RecOk r) (hI : RecAt w r a c b d) :
    Calls Try.prog 3 #[.agg (rC r a c b d).toArray] w fun q w' => q = .returned (.bool true) ∧ Below w.heap.size w w' := by
  by_cases h0 : r.m.blob.length ≤ 2000 ∧ r.b.n ≤ 100
  · cases hF : rightRec r with
    | false => exact kcBytes_no r a b c d w hM hI h0.1 h0.2 hF
    | true => exact kcBytes_ok r a b c d w hM hI h0.1 h0.2 hF
  · exact kcBytes_many r a b c d w hM h0
end Go.Proofs.Ytaaflnmdaplfkaa
