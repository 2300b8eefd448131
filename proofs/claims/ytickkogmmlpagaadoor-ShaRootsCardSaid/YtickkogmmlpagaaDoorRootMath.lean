/-
  Numbers by digits of 16 bits, as the document's own answer reckons with them: digits, product, comparison, the test of a root; the first 64 primes and how they are come to; and that each constant, each start passes the test for one whole part only. Plain facts, no Go.
-/
import Derived.Test.YtickkogmmlpagaaDoorShaMath
import Derived.Laws.Bits64
namespace Go.Proofs.YtickkogmmlpagaaDoor

def digitsOf (n : Int) : List Int := [n % 65536, n / 65536 % 65536, n / 65536 / 65536]
def mostOf (xs ys : List Int) : Nat → Bool
  | 0 => true
  | i + 1 => if xs.getD i 0 = ys.getD i 0 then mostOf xs ys i else decide (xs.getD i 0 < ys.getD i 0)
/-- One digit's sum: what lies there, a product, what is carried. -/
def mulAdd (o x y c : Int) : Int := (o + x * y + c) % 18446744073709551616
theorem mulAdd_eq (o x y c : Int) : IntKind.u64.wrap (IntKind.u64.wrap (o + IntKind.u64.wrap (x * y)) + c) = mulAdd o x y c := by
  unfold mulAdd
  generalize x * y = p
  simp only [IntKind.wrap_u64]
  omega
theorem mulAdd_lo (o x y c : Int) : 0 ≤ mulAdd o x y c := by unfold mulAdd; omega
theorem mulAdd_hi (o x y c : Int) : mulAdd o x y c < 18446744073709551616 := by unfold mulAdd; omega
/-- A row of digits times one digit x, added in from place i on; the first k are done. -/
def timesRow (x : Int) (ys : List Int) (i : Nat) (out : List Int) : Nat → List Int × Int
  | 0 => (out, 0)
  | k + 1 =>
    let s := timesRow x ys i out k
    let n := mulAdd (s.1.getD (i + k) 0) x (ys.getD k 0) s.2
    (s.1.set (i + k) (n % 65536), n / 65536)
def timesTo (xs ys : List Int) : Nat → List Int
  | 0 => List.replicate (xs.length + ys.length) 0
  | i + 1 =>
    let s := timesRow (xs.getD i 0) ys i (timesTo xs ys i) ys.length
    s.1.set (i + ys.length) s.2
def timesOf (xs ys : List Int) : List Int := timesTo xs ys xs.length
theorem timesRow_length (x : Int) (ys : List Int) (i : Nat) (out : List Int) : ∀ k, (timesRow x ys i out k).1.length = out.length
  | 0 => rfl
  | k + 1 => by simp only [timesRow, List.length_set]; exact timesRow_length x ys i out k
theorem timesTo_length (xs ys : List Int) : ∀ i, (timesTo xs ys i).length = xs.length + ys.length
  | 0 => by simp [timesTo]
  | i + 1 => by simp only [timesTo, List.length_set, timesRow_length]; exact timesTo_length xs ys i
/-- low times itself, k times more. -/
def powOf (low : List Int) : Nat → List Int
  | 0 => low
  | k + 1 => timesOf (powOf low k) low
theorem powOf_length (low : List Int) : ∀ k, (powOf low k).length = (k + 1) * low.length
  | 0 => by simp [powOf]
  | k + 1 => by simp only [powOf, timesOf, timesTo_length, powOf_length low k]; rw [Nat.add_mul (k + 1) 1]; omega
def topOf (p : Int) (k : Nat) : List Int := List.replicate (2 * k) 0 ++ [p]
def rootOf (n p : Int) (k : Nat) : Bool :=
  mostOf (powOf (digitsOf n) (k - 1)) (topOf p k) (3 * k) && !mostOf (powOf (digitsOf (n + 1)) (k - 1)) (topOf p k) (3 * k)

/-- The search for the next prime: a number and a divisor, step by step. -/
def seek (s : Nat × Nat) : Nat × Nat := if s.1 % s.2 = 0 then (s.1 + 1, 2) else (s.1, s.2 + 1)
def seekTo (n : Nat) : Nat → Nat × Nat
  | 0 => (n, 2)
  | j + 1 => seek (seekTo n j)
def seekEnd (n : Nat) : Nat → Nat → Nat
  | 0, j => j
  | f + 1, j => if (seekTo n j).2 * (seekTo n j).2 ≤ (seekTo n j).1 then seekEnd n f (j + 1) else j
def primes : List Nat := [1, 2, 3, 5, 7, 11, 13, 17, 19, 23, 29, 31, 37, 41, 43, 47, 53, 59, 61, 67, 71, 73, 79, 83, 89, 97, 101, 103, 107, 109, 113, 127, 131, 137, 139, 149, 151, 157, 163, 167, 173, 179, 181, 191, 193, 197, 199, 211, 223, 227, 229, 233, 239, 241, 251, 257, 263, 269, 271, 277, 281, 283, 293, 307, 311]
def prSteps (k : Nat) : Nat := seekEnd (primes.getD k 0 + 1) 200 0
def seekOk (k : Nat) : Bool :=
  (List.range (prSteps k)).all (fun j => decide ((seekTo (primes.getD k 0 + 1) j).2 * (seekTo (primes.getD k 0 + 1) j).2 ≤ (seekTo (primes.getD k 0 + 1) j).1) && decide (1 ≤ (seekTo (primes.getD k 0 + 1) j).2) && decide ((seekTo (primes.getD k 0 + 1) j).2 ≤ 400) && decide ((seekTo (primes.getD k 0 + 1) j).1 ≤ 400))
  && decide ((seekTo (primes.getD k 0 + 1) (prSteps k)).1 < (seekTo (primes.getD k 0 + 1) (prSteps k)).2 * (seekTo (primes.getD k 0 + 1) (prSteps k)).2)
  && decide ((seekTo (primes.getD k 0 + 1) (prSteps k)).2 ≤ 400)
  && decide ((seekTo (primes.getD k 0 + 1) (prSteps k)).1 = primes.getD (k + 1) 0)
theorem seek_all : (List.range 64).all seekOk = true := by decide +kernel

/-- How often the test is passed, over the whole parts 1 to t. -/
def goodOf (c s p : Int) (is : Bool) : Nat → Int
  | 0 => 0
  | t + 1 => goodOf c s p is t + (if rootOf (((t : Int) + 1) * 4294967296 + c) p 3 then 1 else 0) + (if is && rootOf (((t : Int) + 1) * 4294967296 + s) p 2 then 100 else 0)
def rootsOk (i : Nat) : Bool := decide (goodOf (kW.getD i 0) (if i < 8 then starts8.list.getD i 0 else 0) (primes.getD (i + 1) 0) (decide (i < 8)) 19 = if i < 8 then 101 else 1)
theorem roots_all : (List.range 64).all rootsOk = true := by decide +kernel
end Go.Proofs.YtickkogmmlpagaaDoor
