/- Contract of the laws' markStats. -/
import Derived.Test.YteggbamjfhbmfaaSaE
namespace Go.Proofs.Yteggbamjfhbmfaa
open Go.RowKit

def smk (x : Sta) : Nat := x.1.length + tot x.2 x.2.length
theorem sta_small {hs : List Int} {xs : List (List Int)} {hn n : Nat} (h1 : hs.length = hn) (h2 : xs.length = n) (h : scost (hs, xs) ≤ 1048576) : hn ≤ 1048576 ∧ SmF xs n ∧ smk (hs, xs) ≤ 1048576 := by
  unfold scost at h
  unfold smk
  simp only at h ⊢
  subst h1 h2
  refine ⟨by omega, ⟨rfl, by omega⟩, by omega⟩
def mkSta (m : Int) (x : Sta) : Sta := (mkInts m x.1, mkPairs (m + x.1.length) x.2)
end Go.Proofs.Yteggbamjfhbmfaa
