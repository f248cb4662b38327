/- Contracts of spec.l1Compare, impl.compareArrays. -/
import Derived.Test.YtecaaekilbdgdaaArrayOf
namespace Go.Proofs.Ytecaaekilbdgdaa
open Go.RowKit

end Go.Proofs.Ytecaaekilbdgdaa
