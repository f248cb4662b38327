/- Slices of numbers, marked, as things that are owned. -/
import Derived.Test.YtjmgjmhoofbpjaaMkL
namespace Go.Proofs.Ytjmgjmhoofbpjaa
open Go.RowKit

end Go.Proofs.Ytjmgjmhoofbpjaa
