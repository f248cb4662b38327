/- Contracts of the laws' sz of Proc. -/
import Derived.Test.YthfndafgllcelaaPrG
import Derived.Test.YthfndafgllcelaaIntS
import Derived.Test.YthfndafgllcelaaSzU
namespace Go.Proofs.Ythfndafgllcelaa
open Go.RowKit

theorem szProcS_any (a : Option Addr) (n c : Nat) (xs : List TProc) (l : Int) (w : World) (_hz : xs.length = n) (hn : n ≤ 9223372036854775807) (h0 : 0 ≤ l) (h1 : l ≤ 1048576) (_ha : AtSl RProc w a xs) :
    Calls Try.prog 44 #[.slice a n c, .int .i64 l] w fun e w' => e = .returned (.int .i64 (leftOf l n)) ∧ Below w.heap.size w w' := by
  by_cases h : l < n
  · have h' : l - (n : Int) < 0 := by omega
    go_enter Try.func44, Try.ntmps44
    go_wp2
    go_ret
    exact ⟨ret_int (leftOf_no (by omega)).symm, Below.refl _ _⟩
  · have h' : ¬ l - (n : Int) < 0 := by omega
    go_enter Try.func44, Try.ntmps44
    go_wp2
    go_ret
    exact ⟨ret_int (by rw [leftOf_yes (by omega)]), Below.refl _ _⟩

end Go.Proofs.Ythfndafgllcelaa
