/- szIntS in one form. -/
import Derived.Test.YtecaaekilbdgdaaIntS
import Derived.Test.YtecaaekilbdgdaaRepN
namespace Go.Proofs.Ytecaaekilbdgdaa
open Go.RowKit

theorem szInts_u (a : Option Addr) (n c : Nat) (l : Int) (w : World) (hn : n ≤ 9223372036854775807) (h0 : 0 ≤ l) (h1 : l ≤ 1048576) :
    Calls Try.prog 31 #[.slice a n c, .int .i64 l] w fun e w' => e = .returned (.int .i64 (leftOf l n)) ∧ Below w.heap.size w w' :=
  (szIntS_any a n c l w hn h0 h1).mono fun _ _ ⟨h1, h2⟩ => ⟨h1, by rw [h2]; exact Below.refl _ _⟩

end Go.Proofs.Ytecaaekilbdgdaa
