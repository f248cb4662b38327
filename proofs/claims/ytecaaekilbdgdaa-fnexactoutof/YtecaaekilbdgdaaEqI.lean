/- slices.Equal at ints. -/
import Derived.Test.YtecaaekilbdgdaaIntS
import Derived.Test.YtecaaekilbdgdaaArrEq
import Derived.BigQuiet
namespace Go.Proofs.Ytecaaekilbdgdaa
open Go.RowKit

set_option maxHeartbeats 1000000 in
theorem equalInts_any (a a' : Option Addr) (n n' c c' : Nat) (zs zs' : List Int) (w : World) (hz : zs.length = n) (hz' : zs'.length = n') (hn : n ≤ 1048576) (hn' : n' ≤ 1048576) (ha : At w a zs) (ha' : At w a' zs') :
    Calls Try.prog 38 #[.slice a n c, .slice a' n' c'] w fun e w' => e = .returned (.bool (decide (zs = zs'))) ∧ Below w.heap.size w w' := by
  by_cases hnn : n = n'
  · subst hnn
    by_cases h0 : n = 0
    · subst h0
      obtain rfl := List.eq_nil_of_length_eq_zero hz
      obtain rfl := List.eq_nil_of_length_eq_zero hz'
      go_enter Try.func38, Try.ntmps38
      go_wp2
      refine wp_loop_rounds 1 ?_
      rw [rounds_succ]
      go_wp2
      go_ret
      exact ⟨by simp, Below.refl _ _⟩
    · obtain ⟨b, off, rfl, hb, hc⟩ := ha.some (by omega)
      obtain ⟨b', off', rfl, hb', hc'⟩ := ha'.some (by omega)
      clear ha ha'
      go_enter Try.func38, Try.ntmps38
      go_wp2
      go_loopw [13] (fun i wr => ∃ (k : Nat), k ≤ n ∧ i = .int .i64 k ∧ zs.take k = zs'.take k ∧ Below w.heap.size w wr) (fun i _ => n - (intOf i).toNat)
      case atStart => exact ⟨0, Nat.zero_le _, rfl, rfl, Below.refl _ _⟩
      case round =>
        obtain ⟨k, hk, rfl, ht, hbw⟩ := hrel
        by_cases hlt : k < n
        · have hcx : wr.cell? ⟨b, off + k, none⟩ = some (.int .i64 (zs.getD k 0)) := (hbw.cell hb).trans (hc k (by omega))
          have hcy : wr.cell? ⟨b', off' + k, none⟩ = some (.int .i64 (zs'.getD k 0)) := (hbw.cell hb').trans (hc' k (by omega))
          have HT : Hid (zs.getD k 0 = zs'.getD k 0 → zs.take (k + 1) = zs'.take (k + 1)) := fun e => by
            rw [take_succ_getD zs k (by omega), take_succ_getD zs' k (by omega), ht, e]
          have HN : Hid (zs.getD k 0 ≠ zs'.getD k 0 → zs ≠ zs') := ne_of_getD
          obtain ⟨x, hx⟩ : ∃ x, x = zs.getD k 0 := ⟨_, rfl⟩
          obtain ⟨y, hy⟩ : ∃ y, y = zs'.getD k 0 := ⟨_, rfl⟩
          rw [← hx] at hcx HT HN
          rw [← hy] at hcy HT HN
          clear hx hy ht hc hc'
          go_wp2
          go_quiet (fail)
          go_wp2
          · have hne : x ≠ y := by simpa using ‹(x != y) = true›
            go_ret
            exact ⟨by simp [HN.out hne], below_drewN hbw _⟩
          · have he : x = y := by simpa using ‹(x != y) = false›
            go_roundw
            case rel => exact ⟨k + 1, by omega, by go_num, HT.out he, below_drewN hbw _⟩
            case measure => simp [intOf]; omega
        · go_wp2
          go_ret
          exact ⟨by simp [take_all_eq (by omega) (by omega) ht], hbw⟩
  · go_enter Try.func38, Try.ntmps38
    go_wp2
    go_ret
    exact ⟨by have : zs ≠ zs' := fun e => hnn (by rw [← hz, ← hz', e]); simp [this], Below.refl _ _⟩

end Go.Proofs.Ytecaaekilbdgdaa
