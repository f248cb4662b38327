/- Contracts of the laws' eqIntSS, markIntSS, heldIntSS over things in memory (without views). -/
import Derived.Test.YteggbamjfhbmfaaIntSS
import Derived.Test.YteggbamjfhbmfaaIntM
import Derived.Test.YteggbamjfhbmfaaIntsR
namespace Go.Proofs.Yteggbamjfhbmfaa
open Go.RowKit

theorem eqIntSS_same (a a' : Option Addr) (n c c' : Nat) (zs : List (List Int)) (w : World) (hz : zs.length = n) (hn : n ≤ 1048576) (hs : ∀ i, i < zs.length → (zs.getD i []).length ≤ 1048576) (ha : AtS w a zs) (ha' : AtS w a' zs) :
    Calls Try.prog 55 #[.slice a n c, .slice a' n c'] w fun e w' => e = .returned (.bool true) ∧ Below w.heap.size w w' :=
  (eqIntSS_any a a' n n c c' zs zs w hz hz hn hn hs hs ha ha').mono fun _ _ ⟨h1, h2⟩ => ⟨by rw [h1, decide_eq_true rfl], h2⟩

end Go.Proofs.Yteggbamjfhbmfaa
