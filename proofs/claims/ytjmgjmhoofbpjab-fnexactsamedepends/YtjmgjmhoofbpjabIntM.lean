/- Slices of numbers, marked, as things that are owned. -/
import Derived.Test.YtjmgjmhoofbpjabMkL
namespace Go.Proofs.Ytjmgjmhoofbpjab
open Go.RowKit

end Go.Proofs.Ytjmgjmhoofbpjab
