/- Contracts of the laws' helpers over rows: szRow, toRow, eqRow. -/
import Derived.Test.YthliamoeplgblaaIntS
namespace Go.Proofs.Ythliamoeplgblaa
open Go.RowKit

theorem szRow_any (a : Option Addr) (n c : Nat) (l : Int) (w : World) (hn : n ≤ 9223372036854775807) (h0 : 0 ≤ l) (h1 : l ≤ 1048576) :
    Calls Try.prog 57 #[.agg #[.slice a n c], .int .i64 l] w fun e w' => e = .returned (.int .i64 (if l < n then -1 else l - n)) ∧ Below w.heap.size w w' := by
  by_cases h : l < n
  · go_enter Try.func57, Try.ntmps57
    go_wp2_with (go_at_call 58; refine (szIntS_any _ _ _ _ _ hn h0 h1).mono ?_; rintro e w' ⟨rfl, rfl⟩; rw [if_pos h])
    go_ret
    exact ⟨by simp, (Below.refl _ _).alloc (Nat.le_refl _) _⟩
  · have h' : ¬ l - (n : Int) < 0 := by omega
    go_enter Try.func57, Try.ntmps57
    go_wp2_with (go_at_call 58; refine (szIntS_any _ _ _ _ _ hn h0 h1).mono ?_; rintro e w' ⟨rfl, rfl⟩; rw [if_neg h])
    go_ret
    exact ⟨by simp, (Below.refl _ _).alloc (Nat.le_refl _) _⟩

theorem toRow_any (a : Option Addr) (n c : Nat) (zs : List Int) (w : World) (hz : zs.length = n) (hn : n ≤ 1048576) (ha : At w a zs) :
    Calls Try.prog 63 #[.agg #[.slice a n c]] w fun e w' => ∃ g, e = .returned (.agg #[.slice (some ⟨g, 0, none⟩) n n]) ∧
      w'.ownsRow w.heap.size 3 1 (.slice (some ⟨g, 0, none⟩) n n) n (zs.map (.int .i64)) ∧ Below w.heap.size w w' := by
  go_enter Try.func63, Try.ntmps63
  go_wp2_with (go_at_call 64; refine (toIntS_any _ _ _ zs _ hz hn ?_).mono ?_)
  · exact ((ha.alloc _).alloc _).alloc _
  · rintro e w' ⟨rfl, hown, hb⟩
    obtain ⟨hc, hf⟩ := bcell hb
    have hz' : w.heap.size + 2 < w'.heap.size := by have := hb.size; simp at this; omega
    simp only [World.size_alloc] at hc hf
    go_wp2
    refine bodyPost_ret (v := .agg #[.slice (some ⟨w.heap.size + 1 + 1 + 1, 0, none⟩) n n]) (by simp [results, Try.results63, go_sem, hc]) rfl ⟨_, rfl, ?_, ?_⟩
    · simp only [World.size_alloc] at hown
      exact owns_mono (ownsRow_setCell_below (ownsRow_setCell_below hown (by simp) _) (by simp) _) (by omega)
    · exact ((((((Below.refl _ _).alloc (Nat.le_refl _) _).alloc (by simp) _).alloc (by simp; omega) _).trans (hb.mono (by simp; omega))).setCell (by simp; omega) _).setCell (by simp) _

theorem eqRow_any (a a' : Option Addr) (n n' c c' : Nat) (zs zs' : List Int) (w : World) (hz : zs.length = n) (hz' : zs'.length = n') (hn : n ≤ 1048576) (hn' : n' ≤ 1048576) (ha : At w a zs) (ha' : At w a' zs') :
    Calls Try.prog 68 #[.agg #[.slice a n c], .agg #[.slice a' n' c']] w fun e w' => e = .returned (.bool (decide (zs = zs'))) ∧ Below w.heap.size w w' := by
  have HA := (ha.alloc (.cells #[.slice a n c] 70)).alloc (.cells #[.slice a' n' c'] 70)
  have HA' := (ha'.alloc (.cells #[.slice a n c] 70)).alloc (.cells #[.slice a' n' c'] 70)
  clear ha ha'
  have hd : ∀ d : Bool, decide (zs = zs') = d → Calls Try.prog 68 #[.agg #[.slice a n c], .agg #[.slice a' n' c']] w fun e w' => e = .returned (.bool d) ∧ Below w.heap.size w w' := by
    intro d hd
    have HD : Hid (decide (zs = zs') = d) := hd
    clear hd
    cases d
    all_goals
      go_enter Try.func68, Try.ntmps68
      go_wp2_with (go_at_call 69; refine (eqIntS_any _ _ _ _ _ _ zs zs' _ hz hz' hn hn' HA HA').mono ?_; rintro e w' ⟨rfl, hb⟩; rw [HD.out])
      go_ret
      exact ⟨rfl, (((Below.refl _ _).alloc (Nat.le_refl _) _).alloc (by simp) _).trans (hb.mono (by simp; omega))⟩
  exact hd _ rfl

end Go.Proofs.Ythliamoeplgblaa
