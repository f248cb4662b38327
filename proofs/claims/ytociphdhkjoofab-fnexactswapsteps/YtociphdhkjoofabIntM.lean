/- Slices of numbers, marked, as things that are owned. -/
import Derived.Test.YtociphdhkjoofabMkL
namespace Go.Proofs.Ytociphdhkjoofab
open Go.RowKit

end Go.Proofs.Ytociphdhkjoofab
