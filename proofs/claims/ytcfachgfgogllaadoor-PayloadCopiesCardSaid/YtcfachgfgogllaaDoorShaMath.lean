/-
  The hash SHA-256 on lists of numbers: the four sums, the schedule, the rounds, a piece taken in, the padding, the hash of bytes; plain facts, no Go. No conditions but those that each row names.
-/
import Derived.Test.YtcfachgfgogllaaDoorWordMath
import Derived.Test.YtcfachgfgogllaaDoorSlices
namespace Go.Proofs.YtcfachgfgogllaaDoor

def bsig0 (x : Int) : Int := bits .xor .u32 (bits .xor .u32 (rotr x 2) (rotr x 13)) (rotr x 22)
def bsig1 (x : Int) : Int := bits .xor .u32 (bits .xor .u32 (rotr x 6) (rotr x 11)) (rotr x 25)
def ssig0 (x : Int) : Int := bits .xor .u32 (bits .xor .u32 (rotr x 7) (rotr x 18)) (x / 8)
def ssig1 (x : Int) : Int := bits .xor .u32 (bits .xor .u32 (rotr x 17) (rotr x 19)) (x / 1024)
theorem xor_lo (a b : Int) : 0 ≤ bits .xor .u32 a b := by rw [bits_xor]; exact nv_lo _
theorem xor_hi (a b : Int) : bits .xor .u32 a b < 4294967296 := by rw [bits_xor]; exact nv_hi _

def kW : List Int := [
  0x428a2f98, 0x71374491, 0xb5c0fbcf, 0xe9b5dba5, 0x3956c25b, 0x59f111f1, 0x923f82a4, 0xab1c5ed5,
  0xd807aa98, 0x12835b01, 0x243185be, 0x550c7dc3, 0x72be5d74, 0x80deb1fe, 0x9bdc06a7, 0xc19bf174,
  0xe49b69c1, 0xefbe4786, 0x0fc19dc6, 0x240ca1cc, 0x2de92c6f, 0x4a7484aa, 0x5cb0a9dc, 0x76f988da,
  0x983e5152, 0xa831c66d, 0xb00327c8, 0xbf597fc7, 0xc6e00bf3, 0xd5a79147, 0x06ca6351, 0x14292967,
  0x27b70a85, 0x2e1b2138, 0x4d2c6dfc, 0x53380d13, 0x650a7354, 0x766a0abb, 0x81c2c92e, 0x92722c85,
  0xa2bfe8a1, 0xa81a664b, 0xc24b8b70, 0xc76c51a3, 0xd192e819, 0xd6990624, 0xf40e3585, 0x106aa070,
  0x19a4c116, 0x1e376c08, 0x2748774c, 0x34b0bcb5, 0x391c0cb3, 0x4ed8aa4a, 0x5b9cca4f, 0x682e6ff3,
  0x748f82ee, 0x78a5636f, 0x84c87814, 0x8cc70208, 0x90befffa, 0xa4506ceb, 0xbef9a3f7, 0xc67178f2]
theorem kW_length : kW.length = 64 := rfl
theorem kW_range : ∀ x ∈ kW, 0 ≤ x ∧ x < 4294967296 := by decide +kernel

/-- The eight words of a state. -/
structure S8 where
  a : Int
  b : Int
  c : Int
  d : Int
  e : Int
  f : Int
  g : Int
  h : Int
def S8.list (s : S8) : List Int := [s.a, s.b, s.c, s.d, s.e, s.f, s.g, s.h]
def S8.ok (s : S8) : Prop := (0 ≤ s.a ∧ s.a < 4294967296) ∧ (0 ≤ s.b ∧ s.b < 4294967296) ∧ (0 ≤ s.c ∧ s.c < 4294967296) ∧ (0 ≤ s.d ∧ s.d < 4294967296) ∧ (0 ≤ s.e ∧ s.e < 4294967296) ∧ (0 ≤ s.f ∧ s.f < 4294967296) ∧ (0 ≤ s.g ∧ s.g < 4294967296) ∧ (0 ≤ s.h ∧ s.h < 4294967296)
def starts8 : S8 := ⟨0x6a09e667, 0xbb67ae85, 0x3c6ef372, 0xa54ff53a, 0x510e527f, 0x9b05688c, 0x1f83d9ab, 0x5be0cd19⟩
theorem starts8_ok : starts8.ok := by unfold S8.ok starts8; simp
theorem S8.ok_range {s : S8} (h : s.ok) : ∀ x ∈ s.list, 0 ≤ x ∧ x < 4294967296 := by
  unfold S8.ok at h
  unfold S8.list
  intro x hx
  simp only [List.mem_cons, List.not_mem_nil, or_false] at hx
  rcases hx with rfl | rfl | rfl | rfl | rfl | rfl | rfl | rfl <;> simp [h]

def tOne (s : S8) (k w : Int) : Int := (s.h + bsig1 s.e + choose s.e s.f s.g + k + w) % 4294967296
def tTwo (s : S8) : Int := (bsig0 s.a + major s.a s.b s.c) % 4294967296
def rnd (s : S8) (k w : Int) : S8 := ⟨(tOne s k w + tTwo s) % 4294967296, s.a, s.b, s.c, (s.d + tOne s k w) % 4294967296, s.e, s.f, s.g⟩
def rnds (s : S8) (ws : List Int) : Nat → S8
  | 0 => s
  | n + 1 => rnd (rnds s ws n) (kW.getD n 0) (ws.getD n 0)
theorem rnd_ok {s : S8} (h : s.ok) (k w : Int) : (rnd s k w).ok := by
  unfold S8.ok at h ⊢
  obtain ⟨h1, h2, h3, h4, h5, h6, h7, h8⟩ := h
  refine ⟨?_, h1, h2, h3, ?_, h5, h6, h7⟩ <;> (simp only [rnd]; omega)
theorem rnds_ok {s : S8} (h : s.ok) (ws : List Int) : ∀ n, (rnds s ws n).ok
  | 0 => h
  | n + 1 => rnd_ok (rnds_ok h ws n) _ _
def wd (l : List Int) (t : Nat) : Int := (ssig1 (l.getD (t - 2) 0) + l.getD (t - 7) 0 + ssig0 (l.getD (t - 15) 0) + l.getD (t - 16) 0) % 4294967296
def sch (ws : List Int) : Nat → List Int
  | 0 => ws
  | n + 1 => sch ws n ++ [wd (sch ws n) (16 + n)]
theorem sch_length (ws : List Int) (h : ws.length = 16) : ∀ n, (sch ws n).length = 16 + n
  | 0 => h
  | n + 1 => by simp [sch, sch_length ws h n]; omega
theorem sch_range (ws : List Int) (h : ∀ x ∈ ws, 0 ≤ x ∧ x < 4294967296) : ∀ n, ∀ x ∈ sch ws n, 0 ≤ x ∧ x < 4294967296
  | 0, x, hx => h x hx
  | n + 1, x, hx => by
    simp only [sch, List.mem_append, List.mem_singleton] at hx
    rcases hx with hx | rfl
    · exact sch_range ws h n x hx
    · unfold wd; omega
def add8 (s v : S8) : S8 := ⟨(s.a + v.a) % 4294967296, (s.b + v.b) % 4294967296, (s.c + v.c) % 4294967296, (s.d + v.d) % 4294967296, (s.e + v.e) % 4294967296, (s.f + v.f) % 4294967296, (s.g + v.g) % 4294967296, (s.h + v.h) % 4294967296⟩
theorem add8_ok (s v : S8) : (add8 s v).ok := by unfold S8.ok add8; simp only; omega
/-- What a state becomes of a piece. -/
def take8 (s : S8) (bs : List Int) : S8 := add8 s (rnds s (sch (wordsOf bs) 48) 64)
/-- The state behind the first n pieces. -/
def chain8 (bs : List Int) : Nat → S8
  | 0 => starts8
  | n + 1 => take8 (chain8 bs n) ((bs.drop (64 * n)).take 64)
theorem chain8_ok (bs : List Int) : ∀ n, (chain8 bs n).ok
  | 0 => starts8_ok
  | _ + 1 => add8_ok _ _
theorem chain8_append (bs cs : List Int) : ∀ n, 64 * n ≤ bs.length → chain8 (bs ++ cs) n = chain8 bs n
  | 0, _ => rfl
  | n + 1, h => by
    show take8 _ _ = take8 _ _
    rw [chain8_append bs cs n (by omega), List.drop_append_of_le_length (by omega), List.take_append_of_le_length (by rw [List.length_drop]; omega)]
def blanks (n : Nat) : Nat := (119 - n % 64) % 64
def padBehind (n : Nat) : List Int := (128 :: List.replicate (blanks n) 0) ++ bytesOf [8 * (n : Int) / 4294967296 % 4294967296, 8 * (n : Int) % 4294967296]
def padded (bs : List Int) : List Int := bs ++ padBehind bs.length
theorem padBehind_length (n : Nat) : (padBehind n).length = 9 + blanks n := by
  unfold padBehind; rw [List.length_append, bytesOf_length]; simp; omega
theorem padded_length (bs : List Int) : (padded bs).length = bs.length + 9 + blanks bs.length := by
  unfold padded; rw [List.length_append, padBehind_length]; omega
theorem padded_64 (bs : List Int) : (padded bs).length % 64 = 0 := by
  rw [padded_length]; unfold blanks; omega
/-- The hash of bytes. -/
def shaSum (bs : List Int) : List Int := bytesOf (chain8 (padded bs) ((padded bs).length / 64)).list
theorem shaSum_length (bs : List Int) : (shaSum bs).length = 32 := by unfold shaSum; rw [bytesOf_length]; rfl

theorem bytesOf_range (xs : List Int) (h : ∀ x ∈ xs, 0 ≤ x ∧ x < 4294967296) : ∀ x ∈ bytesOf xs, 0 ≤ x ∧ x < 256 := by
  intro y hy
  obtain ⟨x, hx, hxy⟩ := List.mem_flatMap.1 hy
  have := h x hx
  simp only [bytes4, List.mem_cons, List.not_mem_nil, or_false] at hxy
  omega
theorem wordsOf_range : ∀ (bs : List Int), (∀ x ∈ bs, 0 ≤ x ∧ x < 256) → ∀ x ∈ wordsOf bs, 0 ≤ x ∧ x < 4294967296
  | [], _, _, h => by simp [wordsOf] at h
  | [_], _, _, h => by simp [wordsOf] at h
  | [_, _], _, _, h => by simp [wordsOf] at h
  | [_, _, _], _, _, h => by simp [wordsOf] at h
  | a :: b :: c :: d :: r, hr, y, h => by
    rcases List.mem_cons.1 (show y ∈ word4 a b c d :: wordsOf r from h) with rfl | h
    · have ha := hr a (by simp)
      have hb := hr b (by simp)
      have hc := hr c (by simp)
      have hd := hr d (by simp)
      unfold word4; omega
    · exact wordsOf_range r (fun x hx => hr x (by simp [hx])) y h

/-! ### Bytes that come piece by piece -/
theorem wordsOf_len16 (bs : List Int) (h : bs.length = 64) : (wordsOf bs).length = 16 := by rw [wordsOf_length, h]

/-- Of xs all whole pieces are taken in, the others stand at the beginning of rest. -/
structure Told (xs rest : List Int) : Prop where
  len : rest.length = 64
  eq : rest.take (xs.length % 64) = xs.drop (64 * (xs.length / 64))

theorem told_nil (rest : List Int) (h : rest.length = 64) : Told [] rest := ⟨h, by simp⟩
/-- cs laid over rest from off on. -/
def over (rest : List Int) (off : Nat) (cs : List Int) : List Int := rest.take off ++ (cs ++ rest.drop (off + cs.length))
theorem over_length (rest : List Int) (off : Nat) (cs : List Int) (h : off + cs.length ≤ rest.length) : (over rest off cs).length = rest.length := by simp [over]; omega
theorem over_take (rest : List Int) (off : Nat) (cs : List Int) (h : off + cs.length ≤ rest.length) : (over rest off cs).take (off + cs.length) = rest.take off ++ cs := by
  unfold over
  rw [← List.append_assoc, List.take_append_of_le_length (by simp; omega)]
  exact List.take_of_length_le (by simp; omega)
theorem Told.part {xs rest cs : List Int} (h : Told xs rest) (hm : xs.length % 64 + cs.length < 64) : Told (xs ++ cs) (over rest (xs.length % 64) cs) ∧ chain8 (xs ++ cs) ((xs ++ cs).length / 64) = chain8 xs (xs.length / 64) := by
  have hl := h.len
  have e1 : (xs ++ cs).length / 64 = xs.length / 64 := by rw [List.length_append]; omega
  have e2 : (xs ++ cs).length % 64 = xs.length % 64 + cs.length := by rw [List.length_append]; omega
  refine ⟨⟨by rw [over_length _ _ _ (by omega)]; exact hl, ?_⟩, ?_⟩
  · rw [e1, e2, over_take _ _ _ (by omega), h.eq, List.drop_append_of_le_length (by omega)]
  · rw [e1, chain8_append _ _ _ (by omega)]
theorem Told.full {xs rest cs : List Int} (h : Told xs rest) (hm : xs.length % 64 + cs.length = 64) : Told (xs ++ cs) (over rest (xs.length % 64) cs) ∧ chain8 (xs ++ cs) ((xs ++ cs).length / 64) = take8 (chain8 xs (xs.length / 64)) (over rest (xs.length % 64) cs) := by
  have hl := h.len
  have e1 : (xs ++ cs).length / 64 = xs.length / 64 + 1 := by rw [List.length_append]; omega
  have e2 : (xs ++ cs).length % 64 = 0 := by rw [List.length_append]; omega
  have e3 : over rest (xs.length % 64) cs = xs.drop (64 * (xs.length / 64)) ++ cs := by
    rw [← h.eq, ← over_take rest _ cs (by omega), List.take_of_length_le]
    rw [over_length _ _ _ (by omega)]; omega
  refine ⟨⟨by rw [over_length _ _ _ (by omega)]; exact hl, ?_⟩, ?_⟩
  · rw [e1, e2, List.take_zero, List.drop_of_length_le (by rw [List.length_append]; omega)]
  · rw [e1]
    show take8 _ _ = take8 _ _
    rw [chain8_append _ _ _ (by omega), e3, List.drop_append_of_le_length (by omega), List.take_of_length_le]
    rw [List.length_append, List.length_drop]; omega
end Go.Proofs.YtcfachgfgogllaaDoor
