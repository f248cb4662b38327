/- Contracts of areRising and of the model's l1Some. -/
import Derived.Test.YteggbamjfhbmfaaRisP
import Derived.Test.YteggbamjfhbmfaaRows
namespace Go.Proofs.Yteggbamjfhbmfaa
open Go.RowKit

set_option maxHeartbeats 1000000 in
theorem areRising_any (a : Option Addr) (n c : Nat) (zs : List Int) (C : Int) (w : World) (hz : zs.length = n) (hn : n ≤ 9223372036854775807) (ha : At w a zs) :
    Calls Try.prog 82 #[.slice a n c, .int .i64 C] w fun e w' => e = .returned (.bool (ris C zs)) ∧ Below w.heap.size w w' := by
  by_cases h0 : n = 0
  · subst h0
    obtain rfl := List.eq_nil_of_length_eq_zero hz
    go_enter Try.func82, Try.ntmps82
    go_wp2
    refine wp_loop_rounds 1 ?_
    rw [rounds_succ]
    go_wp2
    go_ret
    exact ⟨rfl, Below.refl _ _⟩
  · obtain ⟨b, off, rfl, hb, hc⟩ := ha.some (by omega)
    clear ha
    go_enter Try.func82, Try.ntmps82
    go_wp2
    go_loopw [5, 10] (fun p i wr => ∃ (k : Nat) (q : Int), k ≤ n ∧ i = .int .i64 k ∧ p = .int .i64 q ∧ ris C zs = risB C q (zs.drop k) ∧ Below w.heap.size w wr) (fun _ i _ => n - (intOf i).toNat)
    case atStart => exact ⟨0, -1, Nat.zero_le _, rfl, rfl, rfl, Below.refl _ _⟩
    case round =>
      obtain ⟨k, q, hk, rfl, rfl, ht, hbw⟩ := hrel
      by_cases hlt : k < n
      · have hcx : wr.cell? ⟨b, off + k, none⟩ = some (.int .i64 (zs.getD k 0)) := (hbw.cell hb).trans (hc k (by omega))
        rw [risB_step _ _ _ _ (by omega)] at ht
        obtain ⟨x, hx⟩ : ∃ x, x = zs.getD k 0 := ⟨_, rfl⟩
        rw [← hx] at hcx ht
        have HT := Hid.mk ht
        clear hx ht hc
        by_cases c1 : x ≤ q
        · go_wp2
          go_ret
          exact ⟨by rw [HT.out, decide_eq_false (by omega : ¬ q < x)]; rfl, hbw⟩
        · by_cases c2 : C ≤ x
          · go_wp2
            go_ret
            exact ⟨by rw [HT.out, decide_eq_false (by omega : ¬ x < C)]; simp, hbw⟩
          · go_wp2
            go_roundw
            case rel => exact ⟨k + 1, x, by omega, by go_num, rfl, by rw [HT.out, decide_eq_true (by omega : q < x), decide_eq_true (by omega : x < C)]; rfl, hbw⟩
            case measure => simp [intOf]; omega
      · have HT := Hid.mk ht
        clear ht
        go_wp2
        go_ret
        exact ⟨by rw [HT.out, risB_done _ _ _ _ (by omega)]; rfl, hbw⟩

set_option maxHeartbeats 2000000 in
theorem l1Some_any (a : Option Addr) (n c : Nat) (zs : List Int) (C : Int) (w : World) (hz : zs.length = n) (hn : n ≤ 9223372036854775807) (ha : At w a zs) :
    Calls Try.prog 56 #[.slice a n c, .int .i64 C] w fun e w' => e = .returned (.bool (ris C zs)) ∧ Below w.heap.size w w' := by
  by_cases h0 : n = 0
  · subst h0
    obtain rfl := List.eq_nil_of_length_eq_zero hz
    go_enter Try.func56, Try.ntmps56
    go_wp2
    refine wp_loop_rounds 1 ?_
    rw [rounds_succ]
    go_wp2
    go_ret
    exact ⟨rfl, Below.refl _ _⟩
  · obtain ⟨b, off, rfl, hb, hc⟩ := ha.some (by omega)
    clear ha
    go_enter Try.func56, Try.ntmps56
    go_wp2
    go_loopw [9] (fun i wr => ∃ (k : Nat), k ≤ n ∧ i = .int .i64 k ∧ ris C zs = risB C (if k = 0 then -1 else zs.getD (k - 1) 0) (zs.drop k) ∧ (0 < k → 0 ≤ zs.getD (k - 1) 0) ∧ Below w.heap.size w wr) (fun i _ => n - (intOf i).toNat)
    case atStart => exact ⟨0, Nat.zero_le _, rfl, rfl, fun h => absurd h (by omega), Below.refl _ _⟩
    case round =>
      obtain ⟨k, hk, rfl, ht, hp, hbw⟩ := hrel
      by_cases hlt : k < n
      · have hcx : wr.cell? ⟨b, off + k, none⟩ = some (.int .i64 (zs.getD k 0)) := (hbw.cell hb).trans (hc k (by omega))
        rw [risB_step _ _ _ _ (by omega)] at ht
        obtain ⟨x, hx⟩ : ∃ x, x = zs.getD k 0 := ⟨_, rfl⟩
        have HX : Hid (zs.getD (k + 1 - 1) 0 = x) := by show _ = _; rw [Nat.add_sub_cancel, hx]
        rw [← hx] at hcx ht
        by_cases k0 : k = 0
        · rw [if_pos k0] at ht
          have HT := Hid.mk ht
          have HK := Hid.mk k0
          have hk0 : decide (0 < k) = false := decide_eq_false (by omega)
          have hk0' : ¬ (0 : Int) < (k : Int) := by omega
          clear hx ht hc hp k0
          by_cases c1 : x < 0
          · go_wp2
            go_ret
            exact ⟨by rw [HT.out, decide_eq_false (by omega : ¬ (-1 : Int) < x)]; rfl, hbw⟩
          · by_cases c2 : C ≤ x
            · go_wp2
              go_ret
              exact ⟨by rw [HT.out, decide_eq_false (by omega : ¬ x < C)]; simp, hbw⟩
            · go_wp2
              go_roundw
              case rel => exact ⟨k + 1, by omega, by go_num, by rw [HT.out, if_neg (by omega), HX.out, decide_eq_true (by omega : (-1 : Int) < x), decide_eq_true (by omega : x < C)]; rfl, fun _ => by rw [HX.out]; omega, hbw⟩
              case measure => simp [intOf]; omega
        · have hcp : wr.cell? ⟨b, off + (k - 1), none⟩ = some (.int .i64 (zs.getD (k - 1) 0)) := (hbw.cell hb).trans (hc (k - 1) (by omega))
          rw [if_neg k0] at ht
          have hp0 := hp (by omega)
          obtain ⟨q, hq⟩ : ∃ q, q = zs.getD (k - 1) 0 := ⟨_, rfl⟩
          rw [← hq] at hcp ht hp0
          have HT := Hid.mk ht
          have hk1 : 0 < k := by omega
          have hk1' : (0 : Int) < (k : Int) := by omega
          have hw : IntKind.i64.wrap ((k : Int) - 1) = ((k - 1 : Nat) : Int) := by rw [IntWalk.i64_in _ (by omega)]; omega
          have hkn : k - 1 < n := by omega
          clear hx ht hc hp hq k0
          by_cases c1 : x < 0
          · go_wp2
            go_ret
            exact ⟨by rw [HT.out, decide_eq_false (by omega : ¬ q < x)]; rfl, hbw⟩
          · by_cases c2 : C ≤ x
            · go_wp2
              go_ret
              exact ⟨by rw [HT.out, decide_eq_false (by omega : ¬ x < C)]; simp, hbw⟩
            · by_cases c3 : x ≤ q
              · go_wp2
                go_ret
                exact ⟨by rw [HT.out, decide_eq_false (by omega : ¬ q < x)]; rfl, hbw⟩
              · go_wp2
                go_roundw
                case rel => exact ⟨k + 1, by omega, by go_num, by rw [HT.out, if_neg (by omega), HX.out, decide_eq_true (by omega : q < x), decide_eq_true (by omega : x < C)]; rfl, fun _ => by rw [HX.out]; omega, hbw⟩
                case measure => simp [intOf]; omega
      · have HT := Hid.mk ht
        clear ht
        go_wp2
        go_ret
        exact ⟨by rw [HT.out, risB_done _ _ _ _ (by omega)]; rfl, hbw⟩

end Go.Proofs.Yteggbamjfhbmfaa
