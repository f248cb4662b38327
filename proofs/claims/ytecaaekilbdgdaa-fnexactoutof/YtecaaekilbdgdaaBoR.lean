/- A truth value as a thing in memory. -/
import Derived.Test.YtecaaekilbdgdaaRep
namespace Go.Proofs.Ytecaaekilbdgdaa
open Go.RowKit

/-- A truth value. -/
def Rep.bool : Rep Bool where
  k := 1
  At _ cs b := cs = [.bool b]
  Own _ _ cs b := cs = [.bool b]
  len h := by rw [h]; rfl
  below h _ := h
  toAt h := h
  mono h _ := h
  frame h _ := h
  tight h := h
/-- What the laws store where a truth value is marked. -/
def mkB (m : Int) : Bool := (m % 3 == 0)

end Go.Proofs.Ytecaaekilbdgdaa
