/- Contracts of impl.goodColumns and impl.someColumns. -/
import Derived.Test.YthliamoeplgblaaDoorL1In
namespace Go.Proofs.YthliamoeplgblaaDoor
open Go.RowKit

theorem goodColumns_is (p : Int) (w : World) :
    Calls Tryd.prog 57 #[.int .i64 p] w fun e w' => e = .returned (.bool (decide (0 ≤ p) && decide (p ≤ 6))) ∧ w' = w := by
  by_cases h1 : 0 ≤ p
  · go_enter Tryd.func57, Tryd.ntmps57
    go_wp2
    go_ret
    exact ⟨by rw [decide_eq_true h1]; rfl, rfl⟩
  · go_enter Tryd.func57, Tryd.ntmps57
    go_wp2
    go_ret
    exact ⟨by rw [decide_eq_false (show ¬ 0 ≤ p by omega)]; rfl, rfl⟩
theorem someColumns_any (p : Int) (w : World) :
    Calls Tryd.prog 43 #[.int .i64 p] w fun e w' => e = .returned (.bool (decide (1 ≤ p) && decide (p ≤ 6))) ∧ w' = w := by
  by_cases h1 : 0 < p
  · go_enter Tryd.func43, Tryd.ntmps43
    go_wp2_with fail
    refine (goodColumns_is p _).mono ?_
    rintro e w1 ⟨rfl, rfl⟩
    rw [decide_eq_true (show 0 ≤ p by omega), Bool.true_and]
    go_wp2
    go_ret
    exact ⟨by rw [decide_eq_true (show 1 ≤ p by omega)]; rfl, rfl⟩
  · go_enter Tryd.func43, Tryd.ntmps43
    go_wp2
    go_ret
    exact ⟨by rw [decide_eq_false (show ¬ 1 ≤ p by omega)]; rfl, rfl⟩

end Go.Proofs.YthliamoeplgblaaDoor
