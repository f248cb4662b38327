/- Slices of numbers, marked, as things that are owned. -/
import Derived.Test.YtkcfhlpdenjimaaMkL
namespace Go.Proofs.Ytkcfhlpdenjimaa
open Go.RowKit

end Go.Proofs.Ytkcfhlpdenjimaa
