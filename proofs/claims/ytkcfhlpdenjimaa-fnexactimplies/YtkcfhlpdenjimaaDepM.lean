/- Contracts of the laws' markDepend, markDependS over things that are owned. -/
import Derived.Test.YtkcfhlpdenjimaaDepE
import Derived.Test.YtkcfhlpdenjimaaIntM
namespace Go.Proofs.Ytkcfhlpdenjimaa
open Go.RowKit

def mkDep (m : Int) (x : Dep) : Dep := (mkInts m x.1, mkInts (m + x.1.length) x.2)
def mkDeps (m : Int) (xs : List Dep) : List Dep := mkL mkDep dcost m xs

end Go.Proofs.Ytkcfhlpdenjimaa
