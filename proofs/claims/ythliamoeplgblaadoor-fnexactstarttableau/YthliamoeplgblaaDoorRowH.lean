/- Contracts of the laws' helpers over rows: szRow, toRow, eqRow. -/
import Derived.Test.YthliamoeplgblaaDoorIntS
namespace Go.Proofs.YthliamoeplgblaaDoor
open Go.RowKit

theorem eqRow_any (a a' : Option Addr) (n n' c c' : Nat) (zs zs' : List Int) (w : World) (hz : zs.length = n) (hz' : zs'.length = n') (hn : n ≤ 1048576) (hn' : n' ≤ 1048576) (ha : At w a zs) (ha' : At w a' zs') :
    Calls Tryd.prog 48 #[.agg #[.slice a n c], .agg #[.slice a' n' c']] w fun e w' => e = .returned (.bool (decide (zs = zs'))) ∧ Below w.heap.size w w' := by
  have HA := (ha.alloc (.cells #[.slice a n c] 47)).alloc (.cells #[.slice a' n' c'] 47)
  have HA' := (ha'.alloc (.cells #[.slice a n c] 47)).alloc (.cells #[.slice a' n' c'] 47)
  clear ha ha'
  have hd : ∀ d : Bool, decide (zs = zs') = d → Calls Tryd.prog 48 #[.agg #[.slice a n c], .agg #[.slice a' n' c']] w fun e w' => e = .returned (.bool d) ∧ Below w.heap.size w w' := by
    intro d hd
    have HD : Hid (decide (zs = zs') = d) := hd
    clear hd
    cases d
    all_goals
      go_enter Tryd.func48, Tryd.ntmps48
      go_wp2_with (go_at_call 27; refine (eqIntS_any _ _ _ _ _ _ zs zs' _ hz hz' hn hn' HA HA').mono ?_; rintro e w' ⟨rfl, hb⟩; rw [HD.out])
      go_ret
      exact ⟨rfl, (((Below.refl _ _).alloc (Nat.le_refl _) _).alloc (by simp) _).trans (hb.mono (by simp; omega))⟩
  exact hd _ rfl

end Go.Proofs.YthliamoeplgblaaDoor
