/- Slices of numbers that are alike are held equal. -/
import Derived.Test.YtecaaekilbdgdaaIntS
namespace Go.Proofs.Ytecaaekilbdgdaa
open Go.RowKit

theorem eqIntS_same (a a' : Option Addr) (n c c' : Nat) (zs : List Int) (w : World) (hz : zs.length = n) (hn : n ≤ 1048576) (ha : At w a zs) (ha' : At w a' zs) :
    Calls Try.prog 12 #[.slice a n c, .slice a' n c'] w fun e w' => e = .returned (.bool true) ∧ Below w.heap.size w w' :=
  (eqIntS_any a a' n n c c' zs zs w hz hz hn hn ha ha').mono fun _ _ ⟨h1, h2⟩ => ⟨by rw [h1, decide_eq_true rfl], h2⟩
end Go.Proofs.Ytecaaekilbdgdaa
