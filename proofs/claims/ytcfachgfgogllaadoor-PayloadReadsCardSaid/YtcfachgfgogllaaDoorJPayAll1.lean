/-
  Texts of stages that were proved on their own, joined: RdIds, PayMade, RdSame, RdMoved, RdPad, PayMut, PayCop. Each begins with its own words.
-/
import Derived.Test.YtcfachgfgogllaaDoorJPayAll0
import Derived.Great.BuildSlice
import Derived.Test.YtcfachgfgogllaaDoorEqArr

/-
  The document's own ids (layer 9). New memory alone is written. Conditions: bytes below 256, at most a million; the place is within them.
-/
namespace Go.Proofs.YtcfachgfgogllaaDoor
open Go.RowKit

theorem fold_set9 (off : Nat) : ∀ (X : List Value) (s : Nat) (L : List Value), off + s + X.length ≤ L.length →
    (X.zipIdx s).foldl (fun (cs : Array Value) (p : Value × Nat) => cs.setIfInBounds (off + p.2) p.1) L.toArray = (L.take (off + s) ++ (X ++ L.drop (off + s + X.length))).toArray
  | [], s, L, _ => by simp
  | x :: X, s, L, h => by
    rw [List.zipIdx_cons, List.foldl_cons, List.setIfInBounds_toArray]
    rw [fold_set9 off X (s + 1) (L.set (off + s) x) (by rw [List.length_set]; simp only [List.length_cons] at h; omega)]
    congr 1
    simp only [List.length_cons] at h ⊢
    have h1 : (L.set (off + s) x).take (off + (s + 1)) = L.take (off + s) ++ [x] := by
      rw [show off + (s + 1) = off + s + 1 by omega, List.take_add_one, List.take_set_of_le (Nat.le_refl _), List.getElem?_set_self (by omega)]
      rfl
    have h2 : (L.set (off + s) x).drop (off + (s + 1) + X.length) = L.drop (off + s + (X.length + 1)) := by
      rw [List.drop_set_of_lt (by omega), show off + (s + 1) + X.length = off + s + (X.length + 1) by omega]
    rw [h1, h2]
    simp
theorem fill_one9 (place : Nat → Option (Nat × Nat)) (L : List Value) (i off size : Nat) (v : Value) (X : List Value) (rest : List (Nat × Value)) (hp : place i = some (off, size)) (hv : v.cells = X.toArray) (hs : X.length = size) (hf : off + X.length ≤ L.length) :
    Instr.fill place L.toArray ((i, v) :: rest) = Instr.fill place (L.take off ++ (X ++ L.drop (off + X.length))).toArray rest := by
  subst hs
  have h := fold_set9 off X 0 L (by omega)
  rw [Nat.add_zero] at h
  rw [Instr.fill, hp, hv, ← h]
  simp only [List.size_toArray, ne_eq, not_true_eq_false, decide_false, Bool.false_or, Array.zipIdx_toArray]
  rw [if_neg (by simp; omega)]
  simp
/-- A slice of one row: what it is built of. -/
theorem fill_row (place : Nat → Option (Nat × Nat)) (L XS : List Value) (n : Nat) (hp : place 0 = some (0, n)) (hX : XS.length = n) (hL : L.length = n) : Instr.fill place L.toArray [(0, .agg XS.toArray)] = some XS.toArray := by
  rw [fill_one9 place L 0 0 n (.agg XS.toArray) XS [] hp rfl hX (by omega), Instr.fill]
  rw [List.take_zero, List.nil_append, Nat.zero_add, hX, List.drop_of_length_le (by omega), List.append_nil]
theorem fill_id (i0 : TypeInfo) (z : Value) (hs : i0.size = 32) (XS : List Value) (hX : XS.length = 32) (ps : List (Nat × Value)) (hps : ps = [(0, .agg XS.toArray)]) : Instr.fill (fun i => some (i * i0.size, i0.size)) ((Array.range (1 * i0.size)).map (z.cells[· % z.cells.size]!)) ps = some XS.toArray := by
  rw [hs, hps]
  have h := fill_row (fun i => some (i * 32, 32)) ((Array.range (1 * 32)).map (z.cells[· % z.cells.size]!)).toList XS 32 rfl hX (by simp)
  rw [Array.toArray_toList] at h
  exact h
theorem ids_step (xs : List Int) (p j Q : Nat) (h : p + 32 * j = Q) : ((xs.drop p).take (32 * (j + 1))).map (Value.int .u8) = ((xs.drop p).take (32 * j)).map (Value.int .u8) ++ ((xs.drop Q).take 32).map (Value.int .u8) := by
  subst h
  rw [show 32 * (j + 1) = 32 * j + 32 by omega, List.take_add, List.map_append, List.drop_drop]
theorem own_stay9 {w w' : World} {b : Nat} {e : TypeId} {size : Nat} {v : Value} {n : Nat} {xs : List Value} (h : w.ownsRow b e size v n xs) (hb : Below w.heap.size w w') : w'.ownsRow b e size v n xs :=
  h.kept (grown_of_below hb none) (by cases hv : v.ownBlock <;> simp)
theorem own_far9 {w w' : World} {B g : Nat} {e : TypeId} {size : Nat} {v : Value} {n : Nat} {xs : List Value} (h : w.ownsRow B e size v n xs) (hg : w.grownBy w' (some g)) (hB : g < B) : w'.ownsRow B e size v n xs :=
  h.kept hg (by
    cases hv : v.ownBlock with
    | none => simp
    | some o =>
      have := (h.lt o hv).1
      simp only [ne_eq, Option.some.injEq]
      omega)
theorem add_at9 (b j : Nat) : (⟨b, 0, none⟩ : Addr).add j = ⟨b, j, none⟩ := by unfold Addr.add; split <;> simp_all
theorem own_slice32 {w : World} {base : Nat} {e : TypeId} {size : Nat} {v : Value} {n : Nat} {xs : List Value} (h : w.ownsRow base e size v n xs) : ∃ b c, v = .slice b n c := by
  rcases h.2 with ⟨rfl, rfl⟩ | ⟨g, cap, cur, rfl, _⟩
  · exact ⟨_, _, rfl⟩
  · exact ⟨_, _, rfl⟩
theorem own_low9 {w : World} {B B' : Nat} {e : TypeId} {size : Nat} {v : Value} {n : Nat} {xs : List Value} (h : w.ownsRow B e size v n xs) (hB : B' ≤ B) : w.ownsRow B' e size v n xs := by
  refine ⟨h.1, ?_⟩
  rcases h.2 with h0 | ⟨g, cap, cur, hv, hb, hr⟩
  · exact .inl h0
  · exact .inr ⟨g, cap, cur, hv, Nat.le_trans hB hb, hr⟩
theorem wrap_two (a b : Nat) (h : a + b ≤ 100000000) : wrap64 ((a : Int) + (b : Int)) = ((a + b : Nat) : Int) := by unfold wrap64; omega
theorem sizeId9 : (Tryd.prog.info? 36).map (·.size) = some 32 := by kernel_rfl
theorem rowId9 : IsRow Tryd.prog 36 32 := IsRow.array Tryd.underlying36 sizeId9
theorem info_id9 : ∃ i, Tryd.prog.info? 36 = some i ∧ i.zero = some (.agg (List.replicate 32 (Value.int .u8 0)).toArray) ∧ i.size = 32 ∧ i.bytes = 32 := by
  have h : (Tryd.prog.info? 36).map (fun i => (i.zero, i.size, i.bytes)) = some (some (.agg (List.replicate 32 (Value.int .u8 0)).toArray), 32, 32) := by kernel_rfl
  cases hq : Tryd.prog.info? 36 with
  | none => simp [hq] at h
  | some i => rw [hq] at h; simp at h; exact ⟨i, rfl, by simpa using h.1, h.2.1, h.2.2⟩
theorem zeroId9 : Zero Tryd.prog 36 (List.replicate 32 (Value.int .u8 0)) := by unfold Zero; kernel_rfl

/-- Place, fault and how many ids, behind Ids(A). -/
def rdIds (n p : Nat) (e A : Int) : Nat × Int × Nat :=
  if e ≠ 0 then (p, e, 0) else if A < 0 then (p, 1, 0) else if (((n - p) / 32 : Nat) : Int) < A then (p, 2, 0) else (p + 32 * A.toNat, 0, A.toNat)
theorem rdIds_le {n p : Nat} (e A : Int) (h : p ≤ n) : (rdIds n p e A).1 ≤ n ∧ 32 * (rdIds n p e A).2.2 ≤ n - p := by
  unfold rdIds
  split
  · exact ⟨h, Nat.zero_le _⟩
  split
  · exact ⟨h, Nat.zero_le _⟩
  split
  · exact ⟨h, Nat.zero_le _⟩
  · exact ⟨by simp only; omega, by simp only; omega⟩

/-- A slice of ids in memory: its bytes, one id behind the other. -/
def IdsAt (w : World) (a : Option Addr) (n cap : Nat) (zs : List Int) : Prop :=
  zs.length = 32 * n ∧ n ≤ cap ∧ (n = 0 ∨ ∃ b off, a = some ⟨b, off, none⟩ ∧ ∀ i, i < 32 * n → w.cell? ⟨b, off + i, none⟩ = some (.int .u8 (zs.getD i 0)))
theorem IdsAt.keep {w w' : World} {a : Option Addr} {n cap : Nat} {zs : List Int} (h : IdsAt w a n cap zs) (hb : Below w.heap.size w w') : IdsAt w' a n cap zs := by
  refine ⟨h.1, h.2.1, ?_⟩
  rcases h.2.2 with h0 | ⟨b, off, ha, hc⟩
  · exact .inl h0
  · exact .inr ⟨b, off, ha, fun i hi => by rw [hb.cell (World.block_lt_of_cell? w _ (hc i hi))]; exact hc i hi⟩
theorem IdsAt.of_owns {w : World} {B : Nat} {e : TypeId} {a : Option Addr} {n cap : Nat} {zs : List Int} (h : w.ownsRow B e 32 (.slice a n cap) n (zs.map (Value.int .u8))) : IdsAt w a n cap zs := by
  have hl : zs.length = 32 * n := by have := h.1; rw [List.length_map] at this; omega
  rcases h.2 with ⟨hv, hn⟩ | ⟨g, cap', cur, hv, _, hg, hnc, _, hsz, htk⟩
  · injection hv with _ _ h3
    exact ⟨hl, by omega, .inl hn⟩
  · injection hv with h1 _ h3
    subst h1; subst h3
    refine ⟨hl, hnc, .inr ⟨g, 0, rfl, fun i hi => ?_⟩⟩
    rw [Nat.zero_add]
    have h1 : (zs.map (Value.int .u8))[i]? = some (.int .u8 (zs.getD i 0)) := getElem?_mapInt .u8 zs i (by omega)
    rw [← htk, List.getElem?_take_of_lt (by omega)] at h1
    have h2 : cur[i]? = some (.int .u8 (zs.getD i 0)) := by simpa using h1
    rw [cell_of_row w g i cur e (0, 0) hg]
    exact h2
end Go.Proofs.YtcfachgfgogllaaDoor

/-
  Tiers that a call made itself ('Made'): a row of its own, and each tier's bytes in a row of its own; one tier more; what is read of them. No Go function is spoken of.
-/
namespace Go.Proofs.YtcfachgfgogllaaDoor
open Go.RowKit

/-- The cells of tiers whose bytes lie at these places. -/
def tcells : List Tier → List (Option Addr × Nat) → List Value
  | t :: r, p :: q => .int .u32 t.1 :: .slice p.1 t.2.length p.2 :: tcells r q
  | _, _ => []
theorem tcells_at : ∀ (ts : List Tier) (ps : List (Option Addr × Nat)) (i : Nat) (t : Tier) (p : Option Addr × Nat), ts[i]? = some t → ps[i]? = some p →
    (tcells ts ps)[i * 2]? = some (.int .u32 t.1) ∧ (tcells ts ps)[i * 2 + 1]? = some (.slice p.1 t.2.length p.2)
  | [], _, i, t, _, h, _ => by simp at h
  | _ :: _, [], i, _, p, _, h => by simp at h
  | x :: r, y :: q, 0, t, p, h, k => by
    obtain rfl : x = t := by simpa using h
    obtain rfl : y = p := by simpa using k
    exact ⟨rfl, rfl⟩
  | x :: r, y :: q, i + 1, t, p, h, k => by
    have := tcells_at r q i t p (by simpa using h) (by simpa using k)
    rw [show (i + 1) * 2 = i * 2 + 1 + 1 by omega]
    exact ⟨by rw [← this.1]; rfl, by rw [← this.2]; rfl⟩
theorem tcells_len : ∀ (ts : List Tier) (ps : List (Option Addr × Nat)), ps.length = ts.length → (tcells ts ps).length = ts.length * 2
  | [], _, _ => by simp [tcells]
  | _ :: _, [], h => by simp at h
  | x :: r, y :: q, h => by
    have := tcells_len r q (by simpa using h)
    simp only [tcells, List.length_cons, this]; omega
theorem tcells_append : ∀ (ts : List Tier) (ps : List (Option Addr × Nat)) (us : List Tier) (qs : List (Option Addr × Nat)), ps.length = ts.length → tcells (ts ++ us) (ps ++ qs) = tcells ts ps ++ tcells us qs
  | [], [], _, _, _ => rfl
  | [], _ :: _, _, _, h => by simp at h
  | _ :: _, [], _, _, h => by simp at h
  | x :: r, y :: q, us, qs, h => by
    show _ :: _ :: tcells (r ++ us) (q ++ qs) = _
    rw [tcells_append r q us qs (by simpa using h)]
    rfl
theorem tcells_one : ∀ (ts : List Tier) (ps : List (Option Addr × Nat)), ∀ v ∈ tcells ts ps, v.oneCell' = true
  | [], _, v, h => by simp [tcells] at h
  | _ :: _, [], v, h => by simp [tcells] at h
  | x :: r, y :: q, v, h => by
    rcases List.mem_cons.1 h with rfl | h
    · rfl
    rcases List.mem_cons.1 h with rfl | h
    · rfl
    exact tcells_one r q v h

/-- Two rows of unlike types lie in two blocks. -/
theorem owns_apart {w : World} {B B' s s' n n' : Nat} {e e' : TypeId} {v v' : Value} {xs xs' : List Value} (h : w.ownsRow B e s v n xs) (k : w.ownsRow B' e' s' v' n' xs') (he : e ≠ e') : v.ownBlock = none ∨ v.ownBlock ≠ v'.ownBlock := by
  rcases h.2 with ⟨rfl, _⟩ | ⟨g, cap, cur, rfl, _, hg, _⟩
  · exact .inl rfl
  · refine .inr fun hb => ?_
    rcases k.2 with ⟨rfl, _⟩ | ⟨g', cap', cur', rfl, _, hg', _⟩
    · cases hb
    · have hb : some g = some g' := hb
      injection hb with hb
      subst hb
      rw [hg] at hg'
      injection hg' with hg'
      injection hg' with _ h2 _
      exact he h2

def Inner (w : World) (B : Nat) (t : Tier) (p : Option Addr × Nat) : Prop := w.ownsRow B 5 1 (.slice p.1 t.2.length p.2) t.2.length (t.2.map (Value.int .u8))
structure Made (w : World) (B : Nat) (v : Value) (n : Nat) (ts : List Tier) (ps : List (Option Addr × Nat)) : Prop where
  len : ts.length = n
  lens : ps.length = ts.length
  row : w.ownsRow B 41 2 v n (tcells ts ps)
  each : ∀ (i : Nat) (t : Tier) (p : Option Addr × Nat), ts[i]? = some t → ps[i]? = some p → Inner w B t p
theorem Made.nil (w : World) (B : Nat) : Made w B (.slice none 0 0) 0 [] [] := ⟨rfl, rfl, World.ownsRow_nil _ _ _ _, fun i t p h => by simp at h⟩
theorem Made.keep {w w' : World} {B n : Nat} {v : Value} {ts : List Tier} {ps : List (Option Addr × Nat)} (h : Made w B v n ts ps) (hb : Below w.heap.size w w') : Made w' B v n ts ps :=
  ⟨h.len, h.lens, own_stay9 h.row hb, fun i t p ht hp => own_stay9 (h.each i t p ht hp) hb⟩
theorem Made.low {w : World} {B B' n : Nat} {v : Value} {ts : List Tier} {ps : List (Option Addr × Nat)} (h : Made w B v n ts ps) (hB : B' ≤ B) : Made w B' v n ts ps :=
  ⟨h.len, h.lens, own_low9 h.row hB, fun i t p ht hp => own_low9 (h.each i t p ht hp) hB⟩
theorem Made.slice {w : World} {B n : Nat} {v : Value} {ts : List Tier} {ps : List (Option Addr × Nat)} (h : Made w B v n ts ps) : ∃ b c, v = .slice b n c := own_slice32 h.row
/-- Memory below B was written, and new memory: what was made stays. -/
theorem Made.moved {w w' : World} {B n : Nat} {v : Value} {ts : List Tier} {ps : List (Option Addr × Nat)} (h : Made w B v n ts ps) (hk : ∀ b, B ≤ b → b < w.heap.size → w'.heap[b]? = w.heap[b]?) : Made w' B v n ts ps := by
  have one : ∀ {e : TypeId} {s m : Nat} {u : Value} {xs : List Value}, w.ownsRow B e s u m xs → w'.ownsRow B e s u m xs := by
    intro e s m u xs ho
    refine ⟨ho.1, ?_⟩
    rcases ho.2 with h0 | ⟨g, cap, cur, rfl, hb, hg, hr⟩
    · exact .inl h0
    · exact .inr ⟨g, cap, cur, rfl, hb, (hk g hb (Array.getElem?_eq_some_iff.1 hg).1).trans hg, hr⟩
  exact ⟨h.len, h.lens, one h.row, fun i t p ht hp => one (h.each i t p ht hp)⟩
/-- One tier more, by an append to the row. -/
theorem Made.snoc {w w' : World} {B n : Nat} {v v' : Value} {ts : List Tier} {ps : List (Option Addr × Nat)} {f : Int} {xs : List Int} {A : Option Addr} {L d : Nat} (h : Made w B v n ts ps) (hx : w.ownsRow B 5 1 (.slice A L d) L (xs.map (Value.int .u8)))
    (hrow : w'.ownsRow B 41 2 v' (n + 1) (tcells ts ps ++ [.int .u32 f, .slice A L d])) (hg : w.grownBy w' v.ownBlock) : Made w' B v' (n + 1) (ts ++ [(f, xs)]) (ps ++ [(A, d)]) := by
  have hL : xs.length = L := by have := hx.1; simpa using this
  have ht : 5 ≠ 41 := by decide
  refine ⟨by rw [List.length_append, h.len]; rfl, by rw [List.length_append, List.length_append, h.lens]; rfl, ?_, fun i t p hti hpi => ?_⟩
  · rw [tcells_append _ _ _ _ h.lens]
    simpa [tcells, hL] using hrow
  · have hpl := h.lens
    by_cases hi : i < ts.length
    · rw [List.getElem?_append_left hi] at hti
      rw [List.getElem?_append_left (by omega)] at hpi
      exact (h.each i t p hti hpi).kept hg (owns_apart (h.each i t p hti hpi) h.row ht)
    · have hlt := (List.getElem?_eq_some_iff.1 hti).1
      simp only [List.length_append, List.length_cons, List.length_nil] at hlt
      obtain rfl : i = ts.length := by omega
      rw [List.getElem?_append_right (Nat.le_refl _), Nat.sub_self] at hti
      rw [← hpl, List.getElem?_append_right (Nat.le_refl _), Nat.sub_self] at hpi
      obtain rfl : (f, xs) = t := by simpa using hti
      obtain rfl : (A, d) = p := by simpa using hpi
      show w'.ownsRow B 5 1 (.slice A xs.length d) xs.length (xs.map (Value.int .u8))
      rw [hL]
      exact hx.kept hg (owns_apart hx h.row ht)
theorem Made.cells {w : World} {B n c : Nat} {b : Option Addr} {ts : List Tier} {ps : List (Option Addr × Nat)} (h : Made w B (.slice b n c) n ts ps) (i : Nat) (hi : i < n) :
    ∃ g t p, b = some ⟨g, 0, none⟩ ∧ B ≤ g ∧ ts[i]? = some t ∧ ps[i]? = some p ∧ w.cell? ⟨g, i * 2, none⟩ = some (.int .u32 t.1) ∧ w.cell? ⟨g, i * 2 + 1, none⟩ = some (.slice p.1 t.2.length p.2) ∧ Inner w B t p := by
  have hl := h.len
  have hpl := h.lens
  obtain ⟨t, ht⟩ : ∃ t, ts[i]? = some t := ⟨ts[i]'(by omega), List.getElem?_eq_getElem (by omega)⟩
  obtain ⟨p, hp⟩ : ∃ p, ps[i]? = some p := ⟨ps[i]'(by omega), List.getElem?_eq_getElem (by omega)⟩
  rcases h.row.2 with ⟨_, hn⟩ | ⟨g, cap, cur, hv, hB, hg, _, _, _, htk⟩
  · omega
  · injection hv with hb _ _
    obtain ⟨h1, h2⟩ := tcells_at ts ps i t p ht hp
    have key : ∀ j u, (tcells ts ps)[j]? = some u → w.cell? ⟨g, j, none⟩ = some u := by
      intro j u hj
      rw [cell_of_row w g j cur 41 (0, 0) hg]
      rw [← htk, List.getElem?_take] at hj
      split at hj
      · simpa using hj
      · cases hj
    exact ⟨g, t, p, hb, hB, ht, hp, key _ _ h1, key _ _ h2, h.each i t p ht hp⟩
theorem Made.at {w : World} {B n c : Nat} {b : Option Addr} {ts : List Tier} {ps : List (Option Addr × Nat)} (h : Made w B (.slice b n c) n ts ps) : TiersAt w b n c ts := by
  refine ⟨h.len, ?_, ?_⟩
  · rcases h.row.2 with ⟨hv, hn⟩ | ⟨g, cap, cur, hv, _, _, hnc, _⟩
    · omega
    · injection hv with _ _ hc
      omega
  · by_cases h0 : n = 0
    · exact .inl h0
    · obtain ⟨g, _, _, hb, _⟩ := h.cells 0 (by omega)
      refine .inr ⟨g, 0, hb, fun i t ht => ?_⟩
      have hi : i < n := by have := (List.getElem?_eq_some_iff.1 ht).1; have := h.len; omega
      obtain ⟨g', t', p, hb', _, ht', hp, c0, c1, hin⟩ := h.cells i hi
      rw [hb] at hb'
      injection hb' with hb'
      injection hb' with hb' _
      subst hb'
      rw [ht] at ht'
      injection ht' with ht'
      subst ht'
      obtain ⟨A, d, hv, hI⟩ := Ints.of_owns hin
      refine ⟨p.1, p.2, fun j v hj => ?_, by injection hv with e1 _ e2; rw [e1, e2]; exact hI⟩
      rw [Nat.zero_add]
      rcases j with _ | _ | j
      · obtain rfl : _ = v := by simpa using hj
        exact c0
      · obtain rfl : _ = v := by simpa using hj
        exact c1
      · simp at hj
end Go.Proofs.YtcfachgfgogllaaDoor

/-
  The document's own comparison of ids (layer 9): of the same bytes it tells that they are the same. Nothing is written. Conditions: at most 40000 ids.
-/
namespace Go.Proofs.YtcfachgfgogllaaDoor
open Go.RowKit

theorem sizeU8s : (Tryd.prog.info? 5).map (·.size) = some 1 := by kernel_rfl
theorem noGuardIds : Tryd.prog.eqGuardType Tryd.prog.depth 36 = false := by kernel_rfl
theorem same_ids (xs : List Int) (h : xs.length = 32) (w : World) : (Op.equalIn 10000 36 (.agg (xs.map (Value.int .u8)).toArray) (.agg (xs.map (Value.int .u8)).toArray)).run Tryd.prog w = .ok true w := by
  have h := run_equalIn_ints (P := Tryd.prog) w 9998 36 5 32 .u8 Tryd.underlying36 Tryd.underlying5 sizeU8s xs xs h h
  rw [h]; simp
theorem ids_part {w : World} {b off n : Nat} {zs : List Int} (hl : zs.length = 32 * n) (hc : ∀ i, i < 32 * n → w.cell? ⟨b, off + i, none⟩ = some (.int .u8 (zs.getD i 0))) (i : Nat) (hi : i < n) :
    w.rangeAt b (off + 32 * i) (((zs.drop (32 * i)).take 32).map (Value.int .u8)) := fun j v hj => by
  have hlt : j < 32 := by
    rcases Nat.lt_or_ge j 32 with h | h
    · exact h
    · rw [List.getElem?_eq_none (by rw [List.length_map, List.length_take]; omega)] at hj; cases hj
  rw [Nat.add_assoc, hc (32 * i + j) (by omega)]
  rw [List.getElem?_map, List.getElem?_take_of_lt hlt, List.getElem?_drop, List.getElem?_eq_getElem (by omega)] at hj
  rw [← hj, List.getD_eq_getElem?_getD, List.getElem?_eq_getElem (by omega)]
  rfl
end Go.Proofs.YtcfachgfgogllaaDoor

/-
  What may have been written: the blocks of a set, and new ones ('Moved', 'Grows'); bytes with zeros behind them. No Go function is spoken of. No conditions.
-/
namespace Go.Proofs.YtcfachgfgogllaaDoor
open Go.RowKit

/-- Only the blocks of F, and new ones, may have been written. -/
def Moved (F : Nat → Prop) (w w' : World) : Prop := Below 0 w w' ∧ ∀ b, b < w.heap.size → ¬ F b → w'.heap[b]? = w.heap[b]?
theorem Moved.below {F : Nat → Prop} {w w' : World} {B : Nat} (h : Moved F w w') (hF : ∀ b, F b → B ≤ b) (hB : B ≤ w.heap.size) : Below B w w' :=
  ⟨h.1.os, h.1.tape, h.1.output, h.1.size, fun i hi => h.2 i (Nat.lt_of_lt_of_le hi hB) (fun hf => absurd (hF i hf) (Nat.not_le.2 hi))⟩
theorem Moved.of_below {F : Nat → Prop} {w w' : World} (h : Below w.heap.size w w') : Moved F w w' := ⟨h.mono (Nat.zero_le _), fun b hb _ => h.block b hb⟩
theorem Moved.size {F : Nat → Prop} {w w' : World} (h : Moved F w w') : w.heap.size ≤ w'.heap.size := h.1.size
/-- The blocks behind a call: those of before, and new ones. -/
def Grows (F F' : Nat → Prop) (w : World) : Prop := ∀ b, F' b → F b ∨ w.heap.size ≤ b
theorem Grows.low {F F' : Nat → Prop} {w : World} {B : Nat} (h : Grows F F' w) (hF : ∀ b, F b → B ≤ b) (hB : B ≤ w.heap.size) : ∀ b, F' b → B ≤ b := fun b hb => by
  rcases h b hb with h | h
  · exact hF b h
  · exact Nat.le_trans hB h

/-- Bytes, and zeros behind them: what an array of so many bytes holds of them. -/
def padTo (n : Nat) (l : List Int) : List Int := l ++ List.replicate (n - l.length) 0
theorem Moved.then {F : Nat → Prop} {w w1 w2 : World} (m1 : Moved F w w1) (m2 : Moved F w1 w2) : Moved F w w2 :=
  ⟨m1.1.trans m2.1, fun b hb hf => (m2.2 b (Nat.lt_of_lt_of_le hb m1.size) hf).trans (m1.2 b hb hf)⟩
theorem moved_set {F : Nat → Prop} {w w' : World} {g : Nat} (hF : F g) (hg : w.grownBy w' (some g)) : Moved F w w' :=
  ⟨⟨hg.os, hg.tape, hg.output, hg.size, fun _ h => absurd h (Nat.not_lt_zero _)⟩, fun b hb hf => hg.block b hb (fun e => by injection e with e; exact hf (e ▸ hF))⟩
theorem grows_self {F : Nat → Prop} {w : World} : Grows F F w := fun _ h => .inl h
theorem Moved.rfl' {F : Nat → Prop} {w : World} : Moved F w w := Moved.of_below (Below.refl _ _)
end Go.Proofs.YtcfachgfgogllaaDoor

/-
  A copy of bytes into an array of zeros; how many bytes are read at most; the type Hint's row. No conditions.
-/
namespace Go.Proofs.YtcfachgfgogllaaDoor
open Go.RowKit

theorem rdStep_cap (n p : Nat) (e A : Int) : (rdStep n p e A).2.2 ≤ A.toNat := by
  unfold rdStep
  split
  · exact Nat.zero_le _
  split
  · exact Nat.zero_le _
  split
  · exact Nat.zero_le _
  · exact Nat.le_refl _
theorem pad_over (N : Nat) (zs : List Int) (q : Nat) (hl : zs.length = q) (hq : q ≤ N) : overV (List.replicate N (Value.int .u8 0)) 0 ((zs.take q).map (Value.int .u8)) = (padTo N zs).map (Value.int .u8) := by
  subst hl
  unfold overV padTo
  rw [List.take_length]
  simp
theorem padTo_len {N : Nat} {zs : List Int} (h : zs.length ≤ N) : (padTo N zs).length = N := by unfold padTo; simp; omega

end Go.Proofs.YtcfachgfgogllaaDoor

/-
  Tiers that a call made itself, written later: a fee, or a byte of one of them: they stay tiers of as many bytes each. No Go function is spoken of.
-/
namespace Go.Proofs.YtcfachgfgogllaaDoor
open Go.RowKit

def lensOf (ts : List Tier) : List Nat := ts.map fun t => t.2.length
theorem lensOf_get {ts us : List Tier} (h : lensOf us = lensOf ts) {i : Nat} {t u : Tier} (ht : ts[i]? = some t) (hu : us[i]? = some u) : u.2.length = t.2.length := by
  have h1 : (lensOf us)[i]? = some u.2.length := by unfold lensOf; rw [List.getElem?_map, hu]; rfl
  have h2 : (lensOf ts)[i]? = some t.2.length := by unfold lensOf; rw [List.getElem?_map, ht]; rfl
  rw [h, h2] at h1
  injection h1 with h1
  exact h1.symm
theorem tcells_fee : ∀ (ts : List Tier) (ps : List (Option Addr × Nat)) (j : Nat) (t : Tier) (f : Int), ps.length = ts.length → ts[j]? = some t → (tcells ts ps).set (j * 2) (.int .u32 f) = tcells (ts.set j (f, t.2)) ps
  | [], _, j, t, _, _, h => by simp at h
  | _ :: _, [], _, _, _, h, _ => by simp at h
  | x :: r, y :: q, 0, t, f, _, ht => by
    obtain rfl : x = t := by simpa using ht
    rfl
  | x :: r, y :: q, j + 1, t, f, h, ht => by
    have := tcells_fee r q j t f (by simpa using h) (by simpa using ht)
    rw [show (j + 1) * 2 = j * 2 + 1 + 1 by omega]
    show _ :: _ :: (tcells r q).set (j * 2) _ = _ :: _ :: tcells (r.set j (f, t.2)) q
    rw [this]
theorem lensOf_set {ts : List Tier} {j : Nat} {t : Tier} (f : Int) (ht : ts[j]? = some t) : lensOf (ts.set j (f, t.2)) = lensOf ts := by
  unfold lensOf
  rw [List.map_set]
  apply List.ext_getElem?
  intro i
  rw [List.getElem?_set]
  split
  · rename_i hij
    subst hij
    rw [List.getElem?_map, ht]
    have := (List.getElem?_eq_some_iff.1 ht).1
    simp [this]
  · rfl
/-- A fee is written. -/
theorem Made.fee {w : World} {B n g c : Nat} {us : List Tier} {ps : List (Option Addr × Nat)} (h : Made w B (.slice (some ⟨g, 0, none⟩) n c) n us ps) {j : Nat} {t : Tier} (ht : us[j]? = some t) (f : Int) :
    Made (w.setCell ⟨g, j * 2, none⟩ (.int .u32 f)) B (.slice (some ⟨g, 0, none⟩) n c) n (us.set j (f, t.2)) ps := by
  have hst := h.row.stored (j * 2) (.int .u32 f)
  have hne : 5 ≠ 41 := by decide
  rw [tcells_fee us ps j t f h.lens ht] at hst
  refine ⟨by rw [List.length_set]; exact h.len, by rw [List.length_set]; exact h.lens, hst.1, fun i u p hu hp => ?_⟩
  by_cases hij : i = j
  · subst hij
    have hlt := (List.getElem?_eq_some_iff.1 ht).1
    obtain rfl : (f, t.2) = u := by rw [List.getElem?_set_self hlt] at hu; injection hu
    have h1 := h.each i t p ht hp
    exact h1.kept hst.2 (owns_apart h1 h.row hne)
  · rw [List.getElem?_set_ne (fun e => hij e.symm)] at hu
    have h1 := h.each i u p hu hp
    exact h1.kept hst.2 (owns_apart h1 h.row hne)

def mutT (g k : Nat) (z : Int) (t : Tier) (p : Option Addr × Nat) : Tier := (t.1, if p.1.map (·.block) = some g then t.2.set k z else t.2)
theorem mutT_len (g k : Nat) (z : Int) (t : Tier) (p : Option Addr × Nat) : (mutT g k z t p).2.length = t.2.length := by
  unfold mutT
  dsimp only
  split
  · rw [List.length_set]
  · rfl
theorem tcells_mut (g k : Nat) (z : Int) : ∀ (ts : List Tier) (ps : List (Option Addr × Nat)), tcells (List.zipWith (mutT g k z) ts ps) ps = tcells ts ps
  | [], _ => rfl
  | _ :: _, [] => rfl
  | x :: r, y :: q => by
    show Value.int .u32 x.1 :: .slice y.1 (mutT g k z x y).2.length y.2 :: tcells (List.zipWith (mutT g k z) r q) q = _
    rw [mutT_len, tcells_mut g k z r q]
    rfl
theorem lensOf_mut (g k : Nat) (z : Int) : ∀ (ts : List Tier) (ps : List (Option Addr × Nat)), ps.length = ts.length → lensOf (List.zipWith (mutT g k z) ts ps) = lensOf ts
  | [], _, _ => by simp [lensOf]
  | _ :: _, [], h => by simp at h
  | x :: r, y :: q, h => by
    show (mutT g k z x y).2.length :: lensOf (List.zipWith (mutT g k z) r q) = x.2.length :: lensOf r
    rw [mutT_len, lensOf_mut g k z r q (by simpa using h)]
/-- A byte is written. -/
theorem Made.byte {w : World} {B n c g d : Nat} {b : Option Addr} {us : List Tier} {ps : List (Option Addr × Nat)} (h : Made w B (.slice b n c) n us ps) {j : Nat} {t : Tier} (ht : us[j]? = some t) (hp : ps[j]? = some (some ⟨g, 0, none⟩, d)) (k : Nat) (z : Int) :
    Made (w.setCell ⟨g, k, none⟩ (.int .u8 z)) B (.slice b n c) n (List.zipWith (mutT g k z) us ps) ps := by
  have hne : 5 ≠ 41 := by decide
  have h0 : w.ownsRow B 5 1 (.slice (some ⟨g, 0, none⟩) t.2.length d) t.2.length (t.2.map (Value.int .u8)) := h.each j t _ ht hp
  have hg := (h0.stored k (.int .u8 z)).2
  refine ⟨by rw [List.length_zipWith, h.lens, Nat.min_self]; exact h.len, by rw [List.length_zipWith, h.lens, Nat.min_self], ?_, fun i u p hu hpi => ?_⟩
  · rw [tcells_mut]
    exact h.row.kept hg ((owns_apart h.row h0 (fun e => hne e.symm)))
  · rw [List.getElem?_zipWith, hpi] at hu
    cases hx : us[i]? with
    | none => rw [hx] at hu; cases hu
    | some x =>
      rw [hx] at hu
      obtain rfl : mutT g k z x p = u := by simpa using hu
      have h1 := h.each i x p hx hpi
      unfold Inner
      rw [mutT_len]
      by_cases hb : p.1.map (·.block) = some g
      · obtain ⟨p1, p2⟩ := p
        rcases h1.2 with ⟨hv, _⟩ | ⟨g', cap, cur, hv, _⟩
        · injection hv with hv _ _
          subst hv
          cases hb
        · injection hv with hv _ _
          dsimp only at hv
          subst hv
          have hb : some g' = some g := hb
          injection hb with hb
          subst hb
          have h2 := (World.ownsRow.stored (g := g') (cap := p2) h1 k (.int .u8 z)).1
          unfold mutT
          dsimp only
          rw [if_pos (show (Option.map (fun x : Addr => x.block) (some ⟨g', 0, none⟩)) = some g' from rfl), List.map_set]
          exact h2
      · unfold mutT
        dsimp only
        rw [if_neg hb]
        refine h1.kept hg (.inr fun e => hb ?_)
        obtain ⟨p1, p2⟩ := p
        cases p1 with
        | none => cases e
        | some ad => exact e
/-- Tiers at a slice that may hold none. -/
theorem tiers_made {w : World} {B n c : Nat} {b : Option Addr} {ts : List Tier} (h : n = 0 ∨ ∃ ps, Made w B (.slice b n c) n ts ps) : TiersAt w b n c ts ∨ n = 0 := by
  rcases h with h | ⟨ps, h⟩
  · exact .inr h
  · exact .inl h.at
end Go.Proofs.YtcfachgfgogllaaDoor

/-
  A copy of tiers that is written beside another one ('CopInv'): what stays of both. No Go function is spoken of.
-/
namespace Go.Proofs.YtcfachgfgogllaaDoor
open Go.RowKit

/-- Where things lie: the arguments' boxes below B, the copy's own blocks from B on below its box C, the other copy's box D and blocks (from M on) above. -/
structure CopAt (w0 : World) (A0 B C D M n : Nat) (b : Option Addr) (ps : List (Option Addr × Nat)) : Prop where
  a0 : A0 < B
  wb : w0.heap.size ≤ B
  cm : C < M
  cd : C < D
  own : ∀ g, b = some ⟨g, 0, none⟩ → 0 < n → g < C
  ins : ∀ (i : Nat) (p : Option Addr × Nat) (g : Nat), ps[i]? = some p → p.1 = some ⟨g, 0, none⟩ → g < C
structure CopInv (w0 w : World) (A0 B C D M n c d d2 : Nat) (a b b2 : Option Addr) (ts : List Tier) (ps ps2 : List (Option Addr × Nat)) : Prop where
  ka : Blk w A0 24 [.slice a n c]
  kc : Blk w C 24 [.slice b n d]
  kd : Blk w D 24 [.slice b2 n d2]
  cm : n = 0 ∨ ∃ us, Made w B (.slice b n d) n us ps ∧ lensOf us = lensOf ts
  dm : n = 0 ∨ Made w M (.slice b2 n d2) n ts ps2
  below : Below w0.heap.size w0 w
theorem CopInv.far {w0 w : World} {A0 B C D M n c d d2 : Nat} {a b b2 : Option Addr} {ts : List Tier} {ps ps2 : List (Option Addr × Nat)} (h : CopInv w0 w A0 B C D M n c d d2 a b b2 ts ps ps2) (H : CopAt w0 A0 B C D M n b ps)
    {x i : Nat} {u : Value} (hx : B ≤ x) (hc : x < C) (hm : ∃ us, Made (w.setCell ⟨x, i, none⟩ u) B (.slice b n d) n us ps ∧ lensOf us = lensOf ts) : CopInv w0 (w.setCell ⟨x, i, none⟩ u) A0 B C D M n c d d2 a b b2 ts ps ps2 := by
  have h1 := H.a0
  have h2 := H.cd
  have h3 := H.cm
  have h4 := H.wb
  refine ⟨h.ka.far (p := ⟨x, i, none⟩) (by show A0 ≠ x; omega) u, h.kc.far (p := ⟨x, i, none⟩) (by show C ≠ x; omega) u, h.kd.far (p := ⟨x, i, none⟩) (by show D ≠ x; omega) u, .inr hm, ?_, h.below.setCell (p := ⟨x, i, none⟩) (by show w0.heap.size ≤ x; omega) u⟩
  exact h.dm.imp id fun hd => hd.moved fun q hq _ => Below.heap_setCell w ⟨x, i, none⟩ u q (by show q ≠ x; omega)
/-- What is read of the copy's tier j, and what becomes of it when its fee is written. -/
theorem CopInv.fee {w0 w : World} {A0 B C D M n c d d2 : Nat} {a b b2 : Option Addr} {ts : List Tier} {ps ps2 : List (Option Addr × Nat)} (h : CopInv w0 w A0 B C D M n c d d2 a b b2 ts ps ps2) (H : CopAt w0 A0 B C D M n b ps) {j : Nat} (hj : j < n) :
    ∃ g f p, b = some ⟨g, 0, none⟩ ∧ ps[j]? = some p ∧ w.cell? ⟨g, j * 2, none⟩ = some (.int .u32 f) ∧ w.frozen? ⟨g, j * 2, none⟩ = false ∧ g ≠ C ∧
      ∀ f', CopInv w0 (w.setCell ⟨g, j * 2, none⟩ (.int .u32 f')) A0 B C D M n c d d2 a b b2 ts ps ps2 := by
  rcases h.cm with h0 | ⟨us, hM, hL⟩
  · omega
  obtain ⟨g, u, p, rfl, hB, hu, hp, c0, _, _⟩ := hM.cells j hj
  have hgC := H.own g rfl (by omega)
  refine ⟨g, u.1, p, rfl, hp, c0, hM.row.frozenAt (j * 2), by omega, fun f' => h.far H hB hgC ⟨us.set j (f', u.2), hM.fee hu f', by rw [lensOf_set f' hu]; exact hL⟩⟩
/-- What is read of the copy's tier j, and of its bytes, and what becomes of it when a byte is written. -/
theorem CopInv.bytes {w0 w : World} {A0 B C D M n c d d2 : Nat} {a b b2 : Option Addr} {ts : List Tier} {ps ps2 : List (Option Addr × Nat)} (h : CopInv w0 w A0 B C D M n c d d2 a b b2 ts ps ps2) {j : Nat} (hj : j < n) {t : Tier} (ht : ts[j]? = some t) {p : Option Addr × Nat} (hp : ps[j]? = some p) {g : Nat} (hb : b = some ⟨g, 0, none⟩) :
    w.cell? ⟨g, j * 2 + 1, none⟩ = some (.slice p.1 t.2.length p.2) := by
  rcases h.cm with h0 | ⟨us, hM, hL⟩
  · omega
  subst hb
  obtain ⟨g', u, p', hb', _, hu, hp', _, c1, _⟩ := hM.cells j hj
  injection hb' with hb'
  injection hb' with hb' _
  subst hb'
  rw [hp] at hp'
  injection hp' with hp'
  subst hp'
  rw [lensOf_get hL ht hu] at c1
  exact c1
theorem CopInv.byte {w0 w : World} {A0 B C D M n c d d2 : Nat} {a b b2 : Option Addr} {ts : List Tier} {ps ps2 : List (Option Addr × Nat)} (h : CopInv w0 w A0 B C D M n c d d2 a b b2 ts ps ps2) (H : CopAt w0 A0 B C D M n b ps) {j : Nat} (hj : j < n) {t : Tier} (ht : ts[j]? = some t) {p : Option Addr × Nat} (hp : ps[j]? = some p) {k : Nat} (hk : k < t.2.length) :
    ∃ x z, p.1 = some ⟨x, 0, none⟩ ∧ w.cell? ⟨x, k, none⟩ = some (.int .u8 z) ∧ w.frozen? ⟨x, k, none⟩ = false ∧
      ∀ z', CopInv w0 (w.setCell ⟨x, k, none⟩ (.int .u8 z')) A0 B C D M n c d d2 a b b2 ts ps ps2 := by
  rcases h.cm with h0 | ⟨us, hM, hL⟩
  · omega
  obtain ⟨g', u, p', hb', _, hu, hp', _, _, hin⟩ := hM.cells j hj
  rw [hp] at hp'
  injection hp' with hp'
  subst hp'
  have hlu := lensOf_get hL ht hu
  obtain ⟨p1, p2⟩ := p
  rcases hin.2 with ⟨_, h0⟩ | ⟨x, cap, cur, hv, hBx, hx⟩
  · omega
  injection hv with hv _ hc
  dsimp only at hv
  subst hv
  have hown : w.ownsRow B 5 1 (.slice (some ⟨x, 0, none⟩) u.2.length p2) u.2.length (u.2.map (Value.int .u8)) := hin
  have hxC := H.ins j _ x hp rfl
  have hcell := hown.cellAt k (by omega)
  rw [List.getElem?_map, List.getElem?_eq_getElem (by omega)] at hcell
  refine ⟨x, u.2[k]'(by omega), rfl, hcell, hown.frozenAt k, fun z' => h.far H hBx hxC ⟨_, hM.byte hu hp k z', ?_⟩⟩
  rw [lensOf_mut _ _ _ _ _ hM.lens]
  exact hL
end Go.Proofs.YtcfachgfgogllaaDoor
