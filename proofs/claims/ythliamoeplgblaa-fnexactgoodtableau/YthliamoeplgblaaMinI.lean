/- Contracts of slices.Min and slices.Max over numbers. -/
import Derived.Test.YthliamoeplgblaaRowH
namespace Go.Proofs.Ythliamoeplgblaa
open Go.RowKit

set_option maxHeartbeats 1000000 in
theorem minI_any (a : Option Addr) (n c : Nat) (zs : List Int) (w : World) (hz : zs.length = n) (hn : n ≤ 9223372036854775807) (h1 : 1 ≤ n) (ha : At w a zs) :
    Calls Try.prog 56 #[.slice a n c] w fun e w' => ∃ r : Int, e = .returned (.int .i64 r) ∧ (∀ j, j < n → r ≤ zs.getD j 0) ∧ (∃ j, j < n ∧ r = zs.getD j 0) ∧ w' = w := by
  obtain ⟨b, off, rfl, hb, hc⟩ := ha.some (by omega)
  clear ha
  have hn1 : ¬ (n : Int) < 1 := by omega
  have hc0 := hc 0 (by omega)
  rw [Nat.add_zero] at hc0
  go_enter Try.func56, Try.ntmps56
  go_wp2
  go_loop [3, 4] (fun m i => ∃ (k : Nat) (r : Int), 1 ≤ k ∧ k ≤ n ∧ i = .int .i64 k ∧ m = .int .i64 r ∧ (∀ j, j < k → r ≤ zs.getD j 0) ∧ ∃ j, j < k ∧ r = zs.getD j 0) (fun _ i => n - (intOf i).toNat)
  case atStart => exact ⟨1, _, Nat.le_refl _, h1, rfl, rfl, fun j hj => by (obtain rfl : j = 0 := by omega); exact Int.le_refl _, 0, by omega, rfl⟩
  case round =>
    clear hc0
    obtain ⟨k, r, hk1, hk, rfl, rfl, hall, hex⟩ := hrel
    by_cases hlt : k < n
    · have hcx := hc k (by omega)
      have hki : (k : Int) < (n : Int) := by omega
      have HA := Hid.mk hall
      have HE := Hid.mk hex
      have HX : Hid (∀ y, y = zs.getD k 0 → ∀ s : Int, (s = r ∧ r ≤ y ∨ s = y ∧ y ≤ r) → (∀ j, j < k + 1 → s ≤ zs.getD j 0) ∧ ∃ j, j < k + 1 ∧ s = zs.getD j 0) := fun y hy s hs => by
        obtain ⟨j0, hj0, e0⟩ := HE.out
        refine ⟨fun j hj => ?_, ?_⟩
        · by_cases e : j = k
          · subst e; rw [← hy]; omega
          · have := HA.out j (by omega); omega
        · rcases hs with ⟨h, _⟩ | ⟨h, _⟩
          · exact ⟨j0, by omega, h.trans e0⟩
          · exact ⟨k, by omega, h.trans hy⟩
      obtain ⟨y, hy⟩ : ∃ y, y = zs.getD k 0 := ⟨_, rfl⟩
      rw [← hy] at hcx
      have HY := Hid.mk hy
      clear hall hex hc hy
      by_cases hry : r ≤ y
      · go_wp2
        go_round
        case rel => exact ⟨k + 1, r, by omega, by omega, by go_num, by first | rfl | (simp; omega), HX.out y HY.out r (.inl ⟨rfl, hry⟩)⟩
        case measure => simp [intOf]; omega
      · go_wp2
        go_round
        case rel => exact ⟨k + 1, y, by omega, by omega, by go_num, by first | rfl | (simp; omega), HX.out y HY.out y (.inr ⟨rfl, by omega⟩)⟩
        case measure => simp [intOf]; omega
    · obtain rfl : k = n := by omega
      have HA := Hid.mk hall
      have HE := Hid.mk hex
      clear hall hex
      go_wp2
      go_ret
      exact ⟨r, rfl, HA.out, HE.out, rfl⟩

end Go.Proofs.Ythliamoeplgblaa
