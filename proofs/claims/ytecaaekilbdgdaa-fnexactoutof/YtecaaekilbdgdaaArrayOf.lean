/- Contract of impl.arrayOf. -/
import Derived.Test.YtecaaekilbdgdaaGoodRow
import Derived.Test.YtecaaekilbdgdaaArrEq
namespace Go.Proofs.Ytecaaekilbdgdaa
open Go.RowKit

end Go.Proofs.Ytecaaekilbdgdaa
