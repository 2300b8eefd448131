/-
  The landed reader is what the laws of layer 9 ask of a reader. No conditions.
-/
import Derived.Test.YtpobplkijfienaaRpIds
import Derived.Test.YtpobplkijfienaaRdNumbers
namespace Go.Proofs.Ytpobplkijfienaa
open Go.RowKit

def readerProg : ReaderProg where
  Gl := fun _ => True
  N := 0
  gl_le := fun _ => Nat.zero_le _
  gl_keep := fun _ _ => trivial
  Rd := RdAt
  lt := fun h => h.lt
  keep := fun h => h.keep
  new := fun a n c xs w _ hI hr hn => pNew_any a n c xs w hI hr hn
  num := fun F g xs p e A w _ h _ => (pNum_any A h).mono fun r w' ⟨hr, hR, hM⟩ => ⟨F, hr, hR, grows_self, hM⟩
  err := fun F g xs p e w _ h => pErr_any h
  place := fun F g xs p e w _ h => (pAt_any h).mono fun r w' ⟨hr, hw⟩ => ⟨hr, hw ▸ Below.refl _ _⟩
  left := fun F g xs p e w _ h => (pLeft_any h).mono fun r w' ⟨hr, q, hw⟩ => ⟨hr, by rw [hw]; exact below_drewN (Below.refl _ _) q⟩
  done := fun F g xs p e w _ h => pDone_any h
  fail := fun F g xs p e x w _ h => (pFail_any x h).mono fun r w' ⟨hr, hR, hM⟩ => ⟨F, hr, hR, grows_self, hM⟩
  count := fun F g xs p e A M w _ h _ hM9 => (pCount_any A M hM9 h).mono fun r w' ⟨hr, hR, hM⟩ => ⟨F, hr, hR, grows_self, hM⟩
  bytes := fun F g xs p e A w _ h _ => (pBytes_any A h).mono fun r w' ⟨b, c, hr, ho, hx, hR, hM⟩ => ⟨F, b, c, hr, ho, hx, hR, grows_self, hM⟩
  id := fun F g xs p e w _ h _ => (pId_any h).mono fun r w' ⟨hr, hR, hM⟩ => ⟨F, hr, hR, grows_self, hM⟩
  hint := fun F g xs p e w _ h _ => (pHint_any h).mono fun r w' ⟨hr, hR, hM⟩ => ⟨F, hr, hR, grows_self, hM⟩
  ids := fun F g xs p e A w _ h _ => (pIds_any A h).mono fun r w' ⟨b, c, hr, hI, hR, hM⟩ => ⟨F, b, c, hr, hI, hR, grows_self, hM⟩

/-- A number of any width, behind others, is read as it was. -/
theorem law_numbers (n m x : Int) (w : World) (wn : (Lit.int .u64 n).wf = true) (wm : (Lit.int .u64 m).wf = true) (wx : (Lit.int .u8 x).wf = true) :
    Calls Try.prog 5 #[.int .u64 n, .int .u64 m, .int .u8 x] w fun r w' => r = .returned (.bool true) ∧ Below w.heap.size w w' :=
  law_ReaderNumbers readerProg n m x w trivial wn wm wx
end Go.Proofs.Ytpobplkijfienaa
