/- Contracts of the laws' helpers over weighted rows: szWeighted, szWeightedS, szTable, toWeighted, toWeightedS, toTable. -/
import Derived.Test.YtecaaekilbdgdaaRowH
import Derived.Test.YtecaaekilbdgdaaGroundT
namespace Go.Proofs.Ytecaaekilbdgdaa
open Go.RowKit

/-- What szWeightedS takes: a slot a row, and the rows' cells. -/
theorem wtot_cells (ts : List WRow) (k : Nat) (h : k ≤ ts.length) : ∃ s : Nat, wtot ts k = k + s := ⟨wtot ts k - k, by have := wtot_len ts k h; omega⟩

end Go.Proofs.Ytecaaekilbdgdaa
