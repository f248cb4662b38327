/- Two tellings held equal. -/
import Derived.Test.YtjmgjmhoofbpjabDoorCovP
import Derived.Laws.StructEq
namespace Go.Proofs.YtjmgjmhoofbpjabDoor
open Go.RowKit

set_option maxRecDepth 100000 in
theorem eqTell (F D F' D' : Nat) (w : World) : (Op.equalIn 10000 46 (.agg #[.int .u64 (F : Int), .int .u64 (D : Int)]) (.agg #[.int .u64 (F' : Int), .int .u64 (D' : Int)])).run Tryd.prog w = .ok (((F : Int) == (F' : Int)) && ((D : Int) == (D' : Int))) w := by
  rw [run_equalIn_agg w 9999 46 _ _ (by kernel_rfl) (by kernel_rfl)]
  have hf : (Tryd.prog.fieldsOf 46) = (match Tryd.prog.underlying 46 with | some (.struct fs) => fs | _ => #[]) := by kernel_rfl
  rw [hf, Tryd.underlying46]
  simp [Op.eqFields, go_sem]
  by_cases h1 : (F : Int) = (F' : Int) <;> by_cases h2 : (D : Int) = (D' : Int) <;> simp [h1, h2]

end Go.Proofs.YtjmgjmhoofbpjabDoor
