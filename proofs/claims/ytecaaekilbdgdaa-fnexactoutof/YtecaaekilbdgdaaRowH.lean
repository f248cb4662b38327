/- Contracts of the laws' helpers over rows: szRow, toRow, eqRow. -/
import Derived.Test.YtecaaekilbdgdaaIntS
namespace Go.Proofs.Ytecaaekilbdgdaa
open Go.RowKit

end Go.Proofs.Ytecaaekilbdgdaa
