/- Plain: what a list of rows tells of weights. -/
import Derived.Test.YtpnaoahlfhbbmaaPlainP
import Derived.Test.YtpnaoahlfhbbmaaKeyA
namespace Go.Proofs.Ytpnaoahlfhbbmaa

/-- What the arrays of a map of weights have in common: each is a good row's with so many cells. -/
def Keys (q : Nat) (S : List (List Int)) : Prop := ∀ a ∈ S, ∃ zs, good zs = true ∧ zs.length = q ∧ a = raised zs

/-- A list of rows that has just the weights of f. -/
structure Tells (q : Nat) (f : List Int → Int) (ts : List WRow) : Prop where
  rises : Rises ts
  noZero : NoZero ts
  rows : ∀ t ∈ ts, good t.1 = true ∧ t.1.length = q
  weight : ∀ zs, good zs = true → zs.length = q → wOf ts zs = f (raised zs)

end Go.Proofs.Ytpnaoahlfhbbmaa
