/- A list of numbers, a number and a truth value that are told. -/
import Derived.Test.YtecaaekilbdgdaaGround
namespace Go.Proofs.Ytecaaekilbdgdaa
open Go.RowKit

def BoRet (e : Ending) (w' : World) (lo : Nat) (ok : Bool) (C : Int) (l : List Int) : Prop := ∃ r m d, e = .returned (.tuple #[.slice r m d, .int .i64 C, .bool ok]) ∧ l.length = m ∧ w'.ownsRow lo 3 1 (.slice r m d) m (l.map (.int .i64))

end Go.Proofs.Ytecaaekilbdgdaa
