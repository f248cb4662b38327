/- Contracts of impl.PickCells, spec.l1Columns, spec.l1Pick, spec.PickCells. -/
import Derived.Test.YthliamoeplgblaaDoorGoodRow
import Derived.Test.YthliamoeplgblaaDoorPlainPick
import Derived.Deep.AppendLies
import Derived.Deep.RegionLaw
namespace Go.Proofs.YthliamoeplgblaaDoor
open Go.RowKit

end Go.Proofs.YthliamoeplgblaaDoor
