/- Contracts of impl.goodColumns, impl.goodWeight, impl.goodWeighted, impl.GoodTable. -/
import Derived.Test.YtlfljfmhhnoinaaGoodRow
import Derived.Test.YtlfljfmhhnoinaaPlainT
import Derived.Test.YtlfljfmhhnoinaaCompare
namespace Go.Proofs.Ytlfljfmhhnoinaa
open Go.RowKit

end Go.Proofs.Ytlfljfmhhnoinaa
