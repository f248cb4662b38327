/- Contracts of tellingOf and implied. -/
import Derived.Test.YtjmgjmhoofbpjabDoorCloI
namespace Go.Proofs.YtjmgjmhoofbpjabDoor
open Go.RowKit

end Go.Proofs.YtjmgjmhoofbpjabDoor
