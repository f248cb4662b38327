/- Contracts of tellingOf and implied. -/
import Derived.Test.YthliamoeplgblaaDoorCloI
namespace Go.Proofs.YthliamoeplgblaaDoor
open Go.RowKit

end Go.Proofs.YthliamoeplgblaaDoor
