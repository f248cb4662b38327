/- Slices of numbers, marked, as things that are owned. -/
import Derived.Test.YtkcfhlpdenjimabMkL
namespace Go.Proofs.Ytkcfhlpdenjimab
open Go.RowKit

end Go.Proofs.Ytkcfhlpdenjimab
