/-
  Texts of stages that were proved on their own, joined: KcParts. Each begins with its own words.
-/
import Derived.Test.YtaaflnmdaplfkaaJKcAll10
import Derived.Test.YtaaflnmdaplfkaaJKcAll22
import Derived.FnLit

/-
  What the parts of a record that is written are: for each kind the method values in order. New memory alone is written. Conditions: a hint has 16 bytes, an id 32.
-/
namespace Go.Proofs.Ytaaflnmdaplfkaa
open Go.RowKit

set_option maxRecDepth 100000 in
set_option maxHeartbeats 4000000 in
theorem kcParts_1 (K S Q O : Int) (H : List Int) (a : Option Addr) (n c : Nat) (h p : List Int) (b : Option Addr) (m d : Nat) (w : World) (hl : H.length = 16) (hh : h.length = 32) (hp : p.length = 32) (hK : K = 1) :
    Calls Try.prog 20 #[.agg (rcC K S Q O H a n c h p b m d).toArray] w fun q w' => ∃ g, q = .returned (.slice (some ⟨g, 0, none⟩) 2 2) ∧ Blk w' g 52 [.func (.func 40) #[.agg (rcC K S Q O H a n c h p b m d).toArray] #[], .func (.func 41) #[.agg (rcC K S Q O H a n c h p b m d).toArray] #[]] ∧ w.heap.size ≤ g ∧ Below w.heap.size w w' := by
  obtain ⟨C, hC⟩ : ∃ C, rcC K S Q O H a n c h p b m d = C := ⟨_, rfl⟩
  have hCl := rcC_len (K := K) (S := S) (Q := Q) (O := O) (a := a) (n := n) (c := c) (b := b) (m := m) (d := d) hl hh hp
  have hb := below1 w (.cells C.toArray 50)
  have hk : Blk (w.alloc (.cells C.toArray 50)) w.heap.size 50 C := Blk.new w _ C
  obtain ⟨V, hV⟩ : ∃ V, w.alloc (.cells C.toArray 50) = V := ⟨_, rfl⟩
  rw [hV] at hb hk
  have hk' := hk
  rw [← hC] at hk'
  have c0 := rc0 hk'
  rw [hC] at hCl
  rw [hC]
  have hrC : IsRow Try.prog 50 C.length := rowKc_of hCl
  have hmf : ∀ (fn : Fn) (first cap : Array Value) (w : World), (Instr.makeFunc fn first cap).run Try.prog w = .ok (.func fn first cap) w := fun _ _ _ _ => rfl
  clear hk' hC
  subst hK
  go_enter Try.func20, Try.ntmps20
  go_wp2_with ((with_reducible refine box_row rfl 50 (.tmp 0) rfl C ?_ ?_); rfl; refine RowKit.Hid.out ?_)
  refine Lib.hid ?_
  clear hV
  go_wp2_with ((with_reducible refine wpList_load_blk rfl 50 (.tmp 1) rfl ?_ hk rowKc hCl ?_); rfl)
  have hB := Blk.new V 52 [.func (.func 40) #[.agg C.toArray] #[], .func (.func 41) #[.agg C.toArray] #[]]
  go_ret
  exact ⟨V.heap.size, rfl, hB, hb.size, hb.alloc hb.size _⟩

set_option maxRecDepth 100000 in
set_option maxHeartbeats 4000000 in
theorem kcParts_2 (K S Q O : Int) (H : List Int) (a : Option Addr) (n c : Nat) (h p : List Int) (b : Option Addr) (m d : Nat) (w : World) (hl : H.length = 16) (hh : h.length = 32) (hp : p.length = 32) (hK : K = 2) :
    Calls Try.prog 20 #[.agg (rcC K S Q O H a n c h p b m d).toArray] w fun q w' => ∃ g, q = .returned (.slice (some ⟨g, 0, none⟩) 2 2) ∧ Blk w' g 52 [.func (.func 40) #[.agg (rcC K S Q O H a n c h p b m d).toArray] #[], .func (.func 42) #[.agg (rcC K S Q O H a n c h p b m d).toArray] #[]] ∧ w.heap.size ≤ g ∧ Below w.heap.size w w' := by
  obtain ⟨C, hC⟩ : ∃ C, rcC K S Q O H a n c h p b m d = C := ⟨_, rfl⟩
  have hCl := rcC_len (K := K) (S := S) (Q := Q) (O := O) (a := a) (n := n) (c := c) (b := b) (m := m) (d := d) hl hh hp
  have hb := below1 w (.cells C.toArray 50)
  have hk : Blk (w.alloc (.cells C.toArray 50)) w.heap.size 50 C := Blk.new w _ C
  obtain ⟨V, hV⟩ : ∃ V, w.alloc (.cells C.toArray 50) = V := ⟨_, rfl⟩
  rw [hV] at hb hk
  have hk' := hk
  rw [← hC] at hk'
  have c0 := rc0 hk'
  rw [hC] at hCl
  rw [hC]
  have hrC : IsRow Try.prog 50 C.length := rowKc_of hCl
  have hmf : ∀ (fn : Fn) (first cap : Array Value) (w : World), (Instr.makeFunc fn first cap).run Try.prog w = .ok (.func fn first cap) w := fun _ _ _ _ => rfl
  clear hk' hC
  subst hK
  go_enter Try.func20, Try.ntmps20
  go_wp2_with ((with_reducible refine box_row rfl 50 (.tmp 0) rfl C ?_ ?_); rfl; refine RowKit.Hid.out ?_)
  refine Lib.hid ?_
  clear hV
  go_wp2_with ((with_reducible refine wpList_load_blk rfl 50 (.tmp 1) rfl ?_ hk rowKc hCl ?_); rfl)
  have hB := Blk.new V 52 [.func (.func 40) #[.agg C.toArray] #[], .func (.func 42) #[.agg C.toArray] #[]]
  go_ret
  exact ⟨V.heap.size, rfl, hB, hb.size, hb.alloc hb.size _⟩

set_option maxRecDepth 100000 in
set_option maxHeartbeats 4000000 in
theorem kcParts_4 (K S Q O : Int) (H : List Int) (a : Option Addr) (n c : Nat) (h p : List Int) (b : Option Addr) (m d : Nat) (w : World) (hl : H.length = 16) (hh : h.length = 32) (hp : p.length = 32) (hK : K = 4) :
    Calls Try.prog 20 #[.agg (rcC K S Q O H a n c h p b m d).toArray] w fun q w' => ∃ g, q = .returned (.slice (some ⟨g, 0, none⟩) 1 1) ∧ Blk w' g 52 [.func (.func 40) #[.agg (rcC K S Q O H a n c h p b m d).toArray] #[]] ∧ w.heap.size ≤ g ∧ Below w.heap.size w w' := by
  obtain ⟨C, hC⟩ : ∃ C, rcC K S Q O H a n c h p b m d = C := ⟨_, rfl⟩
  have hCl := rcC_len (K := K) (S := S) (Q := Q) (O := O) (a := a) (n := n) (c := c) (b := b) (m := m) (d := d) hl hh hp
  have hb := below1 w (.cells C.toArray 50)
  have hk : Blk (w.alloc (.cells C.toArray 50)) w.heap.size 50 C := Blk.new w _ C
  obtain ⟨V, hV⟩ : ∃ V, w.alloc (.cells C.toArray 50) = V := ⟨_, rfl⟩
  rw [hV] at hb hk
  have hk' := hk
  rw [← hC] at hk'
  have c0 := rc0 hk'
  rw [hC] at hCl
  rw [hC]
  have hrC : IsRow Try.prog 50 C.length := rowKc_of hCl
  have hmf : ∀ (fn : Fn) (first cap : Array Value) (w : World), (Instr.makeFunc fn first cap).run Try.prog w = .ok (.func fn first cap) w := fun _ _ _ _ => rfl
  clear hk' hC
  subst hK
  go_enter Try.func20, Try.ntmps20
  go_wp2_with ((with_reducible refine box_row rfl 50 (.tmp 0) rfl C ?_ ?_); rfl; refine RowKit.Hid.out ?_)
  refine Lib.hid ?_
  clear hV
  go_wp2_with ((with_reducible refine wpList_load_blk rfl 50 (.tmp 1) rfl ?_ hk rowKc hCl ?_); rfl)
  have hB := Blk.new V 52 [.func (.func 40) #[.agg C.toArray] #[]]
  go_ret
  exact ⟨V.heap.size, rfl, hB, hb.size, hb.alloc hb.size _⟩

set_option maxRecDepth 100000 in
set_option maxHeartbeats 4000000 in
theorem kcParts_5 (K S Q O : Int) (H : List Int) (a : Option Addr) (n c : Nat) (h p : List Int) (b : Option Addr) (m d : Nat) (w : World) (hl : H.length = 16) (hh : h.length = 32) (hp : p.length = 32) (hK : K = 5) :
    Calls Try.prog 20 #[.agg (rcC K S Q O H a n c h p b m d).toArray] w fun q w' => ∃ g, q = .returned (.slice (some ⟨g, 0, none⟩) 1 1) ∧ Blk w' g 52 [.func (.func 43) #[.agg (rcC K S Q O H a n c h p b m d).toArray] #[]] ∧ w.heap.size ≤ g ∧ Below w.heap.size w w' := by
  obtain ⟨C, hC⟩ : ∃ C, rcC K S Q O H a n c h p b m d = C := ⟨_, rfl⟩
  have hCl := rcC_len (K := K) (S := S) (Q := Q) (O := O) (a := a) (n := n) (c := c) (b := b) (m := m) (d := d) hl hh hp
  have hb := below1 w (.cells C.toArray 50)
  have hk : Blk (w.alloc (.cells C.toArray 50)) w.heap.size 50 C := Blk.new w _ C
  obtain ⟨V, hV⟩ : ∃ V, w.alloc (.cells C.toArray 50) = V := ⟨_, rfl⟩
  rw [hV] at hb hk
  have hk' := hk
  rw [← hC] at hk'
  have c0 := rc0 hk'
  rw [hC] at hCl
  rw [hC]
  have hrC : IsRow Try.prog 50 C.length := rowKc_of hCl
  have hmf : ∀ (fn : Fn) (first cap : Array Value) (w : World), (Instr.makeFunc fn first cap).run Try.prog w = .ok (.func fn first cap) w := fun _ _ _ _ => rfl
  clear hk' hC
  subst hK
  go_enter Try.func20, Try.ntmps20
  go_wp2_with ((with_reducible refine box_row rfl 50 (.tmp 0) rfl C ?_ ?_); rfl; refine RowKit.Hid.out ?_)
  refine Lib.hid ?_
  clear hV
  go_wp2_with ((with_reducible refine wpList_load_blk rfl 50 (.tmp 1) rfl ?_ hk rowKc hCl ?_); rfl)
  have hB := Blk.new V 52 [.func (.func 43) #[.agg C.toArray] #[]]
  go_ret
  exact ⟨V.heap.size, rfl, hB, hb.size, hb.alloc hb.size _⟩

set_option maxRecDepth 100000 in
set_option maxHeartbeats 4000000 in
theorem kcParts_6 (K S Q O : Int) (H : List Int) (a : Option Addr) (n c : Nat) (h p : List Int) (b : Option Addr) (m d : Nat) (w : World) (hl : H.length = 16) (hh : h.length = 32) (hp : p.length = 32) (hK : K = 6) :
    Calls Try.prog 20 #[.agg (rcC K S Q O H a n c h p b m d).toArray] w fun q w' => ∃ g, q = .returned (.slice (some ⟨g, 0, none⟩) 1 1) ∧ Blk w' g 52 [.func (.func 44) #[.agg (rcC K S Q O H a n c h p b m d).toArray] #[]] ∧ w.heap.size ≤ g ∧ Below w.heap.size w w' := by
  obtain ⟨C, hC⟩ : ∃ C, rcC K S Q O H a n c h p b m d = C := ⟨_, rfl⟩
  have hCl := rcC_len (K := K) (S := S) (Q := Q) (O := O) (a := a) (n := n) (c := c) (b := b) (m := m) (d := d) hl hh hp
  have hb := below1 w (.cells C.toArray 50)
  have hk : Blk (w.alloc (.cells C.toArray 50)) w.heap.size 50 C := Blk.new w _ C
  obtain ⟨V, hV⟩ : ∃ V, w.alloc (.cells C.toArray 50) = V := ⟨_, rfl⟩
  rw [hV] at hb hk
  have hk' := hk
  rw [← hC] at hk'
  have c0 := rc0 hk'
  rw [hC] at hCl
  rw [hC]
  have hrC : IsRow Try.prog 50 C.length := rowKc_of hCl
  have hmf : ∀ (fn : Fn) (first cap : Array Value) (w : World), (Instr.makeFunc fn first cap).run Try.prog w = .ok (.func fn first cap) w := fun _ _ _ _ => rfl
  clear hk' hC
  subst hK
  go_enter Try.func20, Try.ntmps20
  go_wp2_with ((with_reducible refine box_row rfl 50 (.tmp 0) rfl C ?_ ?_); rfl; refine RowKit.Hid.out ?_)
  refine Lib.hid ?_
  clear hV
  go_wp2_with ((with_reducible refine wpList_load_blk rfl 50 (.tmp 1) rfl ?_ hk rowKc hCl ?_); rfl)
  have hB := Blk.new V 52 [.func (.func 44) #[.agg C.toArray] #[]]
  go_ret
  exact ⟨V.heap.size, rfl, hB, hb.size, hb.alloc hb.size _⟩
end Go.Proofs.Ytaaflnmdaplfkaa
