/- Contracts of impl.isNoVariable, of slices.IndexFunc and slices.ContainsFunc at it. -/
import Derived.Test.YtipgepienagplaaQvP
namespace Go.Proofs.Ytipgepienagplaa
open Go.RowKit

theorem isNoVariable_any (x : Int) (w : World) :
    Calls Try.prog 132 #[.int .i64 x] w fun e w' => e = .returned (.bool (!vOk x)) ∧ w' = w := by
  by_cases h0 : x < 0
  · have hv : vOk x = false := by unfold vOk; rw [decide_eq_false (by omega)]; rfl
    rw [hv]
    go_enter Try.func132, Try.ntmps132
    go_wp2
    go_ret
    exact ⟨rfl, rfl⟩
  · by_cases h1 : x < 6
    · have hv : vOk x = true := vOk_iff.2 ⟨by omega, h1⟩
      have h2 : ¬ (6 : Int) ≤ x := by omega
      rw [hv]
      go_enter Try.func132, Try.ntmps132
      go_wp2
      go_ret
      exact ⟨ret_bool (by simp <;> omega), rfl⟩
    · have hv : vOk x = false := by unfold vOk; rw [decide_eq_false h1, Bool.and_false]
      rw [hv]
      go_enter Try.func132, Try.ntmps132
      go_wp2
      go_ret
      exact ⟨ret_bool (by simp <;> omega), rfl⟩


set_option maxHeartbeats 1000000 in
theorem indexNoVar_any (a : Option Addr) (n c : Nat) (zs : List Int) (w : World) (hz : zs.length = n) (hn : n ≤ 9223372036854775807) (ha : At w a zs) :
    Calls Try.prog 109 #[.slice a n c, .func (.func 132) #[] #[]] w fun e w' => ∃ k : Int, e = .returned (.int .i64 k) ∧ (zs.all vOk = true → k = -1) ∧ (zs.all vOk = false → 0 ≤ k) ∧ w' = w := by
  by_cases h0 : n = 0
  · subst h0
    obtain rfl := List.eq_nil_of_length_eq_zero hz
    go_enter Try.func109, Try.ntmps109
    go_wp2
    refine wp_loop_rounds 1 ?_
    rw [rounds_succ]
    go_wp2
    go_ret
    exact ⟨-1, rfl, fun _ => rfl, fun h => (by cases h), rfl⟩
  · obtain ⟨b, off, rfl, hb, hc⟩ := ha.some (by omega)
    clear ha
    go_enter Try.func109, Try.ntmps109
    go_wp2
    go_loopw [8] (fun i wr => ∃ (k : Nat), k ≤ n ∧ i = .int .i64 k ∧ zs.all vOk = (zs.drop k).all vOk ∧ wr = w) (fun i _ => n - (intOf i).toNat)
    case atStart => exact ⟨0, Nat.zero_le _, rfl, rfl, rfl⟩
    case round =>
      obtain ⟨k, hk, rfl, ht, rfl⟩ := hrel
      by_cases hlt : k < n
      · have hcx : wr.cell? ⟨b, off + k, none⟩ = some (.int .i64 (zs.getD k 0)) := hc k (by omega)
        have hd : zs.drop k = zs.getD k 0 :: zs.drop (k + 1) := by rw [List.drop_eq_getElem_cons (by omega)]; simp [List.getD, show k < zs.length by omega]
        rw [hd] at ht
        obtain ⟨y, hy⟩ : ∃ y, y = zs.getD k 0 := ⟨_, rfl⟩
        rw [← hy, List.all_cons] at ht
        rw [← hy] at hcx
        have HT := Hid.mk ht
        clear hc hy ht hd
        cases hr : vOk y with
        | false =>
          go_wp2_with fail
          refine (isNoVariable_any y wr).mono ?_
          rintro e w1 ⟨rfl, rfl⟩
          rw [hr]
          go_wp2
          go_ret
          exact ⟨k, rfl, fun h => (by rw [HT.out, hr] at h; cases h), fun _ => (by omega), rfl⟩
        | true =>
          go_wp2_with fail
          refine (isNoVariable_any y wr).mono ?_
          rintro e w1 ⟨rfl, rfl⟩
          rw [hr]
          go_wp2
          go_roundw
          case rel => exact ⟨k + 1, by omega, by go_num, by rw [HT.out, hr]; rfl, trivial⟩
          case measure => simp [intOf]; omega
      · rw [List.drop_of_length_le (by omega)] at ht
        have HT := Hid.mk ht
        clear ht
        go_wp2
        go_ret
        exact ⟨-1, rfl, fun _ => rfl, fun h => (by rw [HT.out] at h; cases h), rfl⟩

theorem noVars_any (a : Option Addr) (n c : Nat) (zs : List Int) (w : World) (hz : zs.length = n) (hn : n ≤ 9223372036854775807) (ha : At w a zs) :
    Calls Try.prog 131 #[.slice a n c, .func (.func 132) #[] #[]] w fun e w' => e = .returned (.bool (!zs.all vOk)) ∧ w' = w := by
  have HC := Hid.mk (indexNoVar_any a n c zs w hz hn ha)
  clear ha hz
  cases hr : zs.all vOk with
  | false =>
    rw [hr] at HC
    go_enter Try.func131, Try.ntmps131
    go_wp2_with fail
    refine HC.out.mono ?_
    rintro e w1 ⟨k, rfl, _, h2, rfl⟩
    have hk := h2 trivial
    go_wp2
    go_ret
    exact ⟨ret_bool (by simp <;> omega), rfl⟩
  | true =>
    rw [hr] at HC
    go_enter Try.func131, Try.ntmps131
    go_wp2_with fail
    refine HC.out.mono ?_
    rintro e w1 ⟨k, rfl, h1, _, rfl⟩
    obtain rfl := h1 trivial
    go_wp2
    go_ret
    exact ⟨rfl, rfl⟩

end Go.Proofs.Ytipgepienagplaa
