/- Contracts of impl.GoodRow and spec.GoodRow. -/
import Derived.Test.YtecaaekilbdgdaaRowH
import Derived.Test.YtecaaekilbdgdaaPlain
namespace Go.Proofs.Ytecaaekilbdgdaa
open Go.RowKit

end Go.Proofs.Ytecaaekilbdgdaa
