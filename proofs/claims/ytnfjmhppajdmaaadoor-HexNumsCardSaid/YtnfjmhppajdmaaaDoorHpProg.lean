/-
  What the program's texts come to (layer 12), as the structure 'HexProg' asks. Conditions: the library's table of powers of ten as its text lays it.
-/
import Derived.Test.YtnfjmhppajdmaaaDoorHpGlob
import Derived.Test.YtnfjmhppajdmaaaDoorHpIdOf
import Derived.Test.YtnfjmhppajdmaaaDoorHpNumOf
import Derived.Test.YtnfjmhppajdmaaaDoorHexProg
namespace Go.Proofs.YtnfjmhppajdmaaaDoor
open Go.RowKit

def hexProg : HexProg where
  Gl := Pow12
  N := 1 + 1
  gl_le := fun h => h.le
  gl_keep := fun h hb => h.keep hb (Nat.le_refl _)
  text := fun a n c xs w _ hI hr hn => hText_any a n c xs w hI hr hn
  bytes := fun s w _ hs => (hBytes_any s w hs).mono fun _ _ ⟨b, c, h1, h2, _, h4⟩ => ⟨b, c, h1, h2, h4⟩
  idText := fun xs w _ hl hr => hIdText_any xs w hl hr
  idOf := fun s w _ hs => hIdOf_any s w hs
  num := fun n w hG hn => hNum_any n w hn hG
  numOf := fun s m w _ hs hm => hNumOf_any s m w hs hm
end Go.Proofs.YtnfjmhppajdmaaaDoor
