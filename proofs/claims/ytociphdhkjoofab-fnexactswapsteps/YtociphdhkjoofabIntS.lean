/- Contracts of the laws' helpers over slices of ints: szIntS, toIntS, eqIntS. -/
import Derived.Test.YtociphdhkjoofabRows
import Derived.Test.YtociphdhkjoofabGround
namespace Go.Proofs.Ytociphdhkjoofab
open Go.RowKit

theorem Try.infoInt : (Try.prog.info? 3).map (fun i => (i.zero, i.size, i.bytes)) = some (some (.int .i64 0), 1, 8) := by kernel_rfl

end Go.Proofs.Ytociphdhkjoofab
