/- What is told of clashes is small. -/
import Derived.Test.YtociphdhkjoofaaDoorCfI
import Derived.Test.YtociphdhkjoofaaDoorCfM
import Derived.Test.YtociphdhkjoofaaDoorKrU
namespace Go.Proofs.YtociphdhkjoofaaDoor
open Go.RowKit

theorem cn_small13 (xs : List TStep) : SmK (cnL13 xs) (cnL13 xs).length := by
  refine smK_of ?_ ?_
  · unfold cnL13
    split
    · rename_i h
      have := (cfO_six (xs := xs) (fun y hy => (gp_txn h y hy).2) xs.length).1
      rw [List.length_map]; unfold cfL; omega
    · simp
  · intro x hx
    unfold cnL13 at hx
    split at hx
    · obtain ⟨c, _, rfl⟩ := List.mem_map.1 hx
      exact bl_len c
    · simp at hx

end Go.Proofs.YtociphdhkjoofaaDoor
