/- Contracts of impl.arePairs, impl.sideOf, spec.l1Pairs. -/
import Derived.Test.YtagijnfiiifppabIntSS
import Derived.Test.YtagijnfiiifppabPlainJoin
import Derived.Deep.AppendLies
namespace Go.Proofs.Ytagijnfiiifppab
open Go.RowKit

set_option maxHeartbeats 1000000 in
theorem arePairs_any (a : Option Addr) (n c : Nat) (ps : List (List Int)) (w : World) (hz : ps.length = n) (hn : n ≤ 9223372036854775807) (ha : AtS w a ps) :
    Calls Try.prog 29 #[.slice a n c] w fun e w' => e = .returned (.bool (pairs2 ps)) ∧ w' = w := by
  by_cases h6 : n ≤ 6
  · by_cases h0 : n = 0
    · subst h0
      obtain rfl := List.eq_nil_of_length_eq_zero hz
      go_enter Try.func29, Try.ntmps29
      go_wp2
      refine wp_loop_rounds 1 ?_
      rw [rounds_succ]
      go_wp2
      go_ret
      exact ⟨ret_bool (by simp [pairs2]), rfl⟩
    · obtain ⟨b, off, rfl, hc⟩ := ha.some (by omega)
      clear ha
      go_enter Try.func29, Try.ntmps29
      go_wp2
      go_loop [10] (fun i => ∃ k : Nat, k ≤ n ∧ i = .int .i64 k ∧ ∀ j, j < k → (ps.getD j []).length = 2) (fun i => n - (intOf i).toNat)
      case atStart => exact ⟨0, Nat.zero_le _, rfl, fun j hj => by omega⟩
      case round =>
        obtain ⟨k, hk, rfl, hall⟩ := hrel
        by_cases hlt : k < n
        · obtain ⟨q, d, hcx, hm, _⟩ := hc k (by omega)
          have HN := Hid.mk (not_pairs2 (ps := ps) k (by omega))
          have HA := Hid.mk hall
          obtain ⟨m, hmm⟩ : ∃ m, (ps.getD k []).length = m := ⟨_, rfl⟩
          rw [hmm] at hcx HN hm
          have HM := Hid.mk hmm
          clear hmm hc hall
          by_cases h2 : m = 2
          · have h2' : ((m : Int) != 2) = false := by simp; omega
            have H2 := Hid.mk h2
            clear h2
            go_wp2
            go_round
            case rel =>
              refine ⟨k + 1, by omega, by go_num, fun j hj => ?_⟩
              by_cases e : j = k
              · subst e; exact HM.out.trans H2.out
              · exact HA.out j (by omega)
            case measure => simp [intOf]; omega
          · have h2' : ((m : Int) != 2) = true := by simp; omega
            go_wp2
            go_ret
            exact ⟨ret_bool (HN.out h2).symm, rfl⟩
        · have HP := Hid.mk (pairs2_of (ps := ps) (by omega) (fun k hk => hall k (by omega)))
          go_wp2
          go_ret
          exact ⟨ret_bool HP.out.symm, rfl⟩
  · go_enter Try.func29, Try.ntmps29
    go_wp2
    go_ret
    exact ⟨ret_bool (pairs2_long (by omega)).symm, rfl⟩

set_option maxHeartbeats 2000000 in
theorem sideOf_any (a : Option Addr) (n c : Nat) (ps : List (List Int)) (sd : Nat) (w : World) (hz : ps.length = n) (hp : pairs2 ps = true) (hsd : sd ≤ 1) (ha : AtS w a ps) :
    Calls Try.prog 30 #[.slice a n c, .int .i64 sd] w fun e w' => ∃ r d, e = .returned (.slice r n d) ∧ w'.ownsRow w.heap.size 3 1 (.slice r n d) n ((side ps sd).map (.int .i64)) ∧ Below w.heap.size w w' := by
  have h6 := pairs2_len hp
  have h2 := fun k hk => pairs2_at hp k hk
  obtain ⟨i0, hi, hz0, hz1, hz2⟩ := info_parts Try.infoInt
  clear hp
  go_enter Try.func30, Try.ntmps30
  go_wp2
  go_loopw [5, 10] (fun v i wr => ∃ (k : Nat) (r : Option Addr) (d : Nat), k ≤ n ∧ i = .int .i64 k ∧ v = .slice r k d ∧ wr.ownsRow w.heap.size 3 1 (.slice r k d) k ((side (ps.take k) sd).map (.int .i64)) ∧ Below w.heap.size w wr) (fun _ i _ => n - (intOf i).toNat)
  case atStart => exact ⟨0, none, 0, Nat.zero_le _, rfl, rfl, World.ownsRow_nil _ _ _ _, Below.refl _ _⟩
  case round =>
    obtain ⟨k, r, d, hk, rfl, rfl, hown, hbw⟩ := hrel
    by_cases hlt : k < n
    · obtain ⟨b, off, rfl, hc⟩ := (ha.below hbw).some (by omega)
      obtain ⟨q, d', hcx, _, hat⟩ := hc k (by omega)
      have HS := Hid.mk (side_take ps sd k (by omega))
      have hl2 := h2 k (by omega)
      obtain ⟨b', off', rfl, hb', hc'⟩ := hat.some (by omega)
      have hcy := hc' sd (by omega)
      rw [hl2] at hcx
      obtain ⟨y, hy⟩ : ∃ y, y = (ps.getD k []).getD sd 0 := ⟨_, rfl⟩
      rw [← hy] at hcy HS
      have hsi : (sd : Int) < 2 := by omega
      have z2 := hbw.size
      clear hc hc' hy hl2 h2
      go_wp2_with (at_builtin; refine wpList_append_lies _ rfl (.tmp 14) (.tmp 19) 22 rfl w.heap.size 3 i0 (.int .i64 0) 1 8 Try.underlying22 hi hz0 hz1 hz2 rfl (by decide) _ _ _ rfl (hown.alloc _) ⟨wr.heap.size, 0, none⟩ 1 1 [.int .i64 y] rfl rfl (news_at wr _ _) (by simp; rfl) (by decide) (by unfold maxLen; omega) (by omega) (by simp; omega) (wr.heap.size + 1) (by simp) ?_)
      intro g cap w1 hown1 hgrow _ _
      have HB := Hid.mk ((hbw.alloc z2 _).grown hgrow (by simp; omega) (fun j hj => (hown.lt j hj).1))
      have HO : Hid (w1.ownsRow w.heap.size 3 1 (.slice (some ⟨g, 0, none⟩) (k + 1) cap) (k + 1) ((side (ps.take (k + 1)) sd).map (.int .i64))) := by
        rw [HS.out, List.map_append]; exact hown1
      clear hown1 hgrow hown hcx hcy
      go_wp2
      go_roundw
      case rel => exact ⟨k + 1, _, _, by omega, by go_num, rfl, HO.out, HB.out⟩
      case measure => simp [intOf]; omega
    · obtain rfl : k = n := by omega
      rw [← hz, List.take_length, hz] at hown
      go_wp2
      go_ret
      exact ⟨r, d, rfl, hown, hbw⟩

set_option maxHeartbeats 4000000 in
theorem l1Pairs_any (a : Option Addr) (n c : Nat) (ps : List (List Int)) (na nb : Nat) (w : World) (hz : ps.length = n) (hn : n ≤ 9223372036854775807) (ha : AtS w a ps) :
    Calls Try.prog 27 #[.slice a n c, .int .i64 na, .int .i64 nb] w fun e w' => e = .returned (.bool (pairsOk ps na nb)) ∧ w' = w := by
  by_cases h0 : n = 0
  · subst h0
    obtain rfl := List.eq_nil_of_length_eq_zero hz
    go_enter Try.func27, Try.ntmps27
    go_wp2
    refine wp_loop_rounds 1 ?_
    rw [rounds_succ]
    go_wp2
    go_ret
    exact ⟨ret_bool (by simp [pairsOk]), rfl⟩
  · obtain ⟨b, off, rfl, hc⟩ := ha.some (by omega)
    clear ha
    go_enter Try.func27, Try.ntmps27
    go_wp2
    go_loop [11] (fun i => ∃ k : Nat, k ≤ n ∧ i = .int .i64 k ∧ ∀ j, j < k → (ps.getD j []).length = 2 ∧ (0 ≤ (ps.getD j []).getD 0 0 ∧ (ps.getD j []).getD 0 0 < na) ∧ (0 ≤ (ps.getD j []).getD 1 0 ∧ (ps.getD j []).getD 1 0 < nb)) (fun i => n - (intOf i).toNat)
    case atStart => exact ⟨0, Nat.zero_le _, rfl, fun j hj => by omega⟩
    case round =>
      obtain ⟨k, hk, rfl, hall⟩ := hrel
      by_cases hlt : k < n
      · obtain ⟨q, d, hcx, hm, hat⟩ := hc k (by omega)
        have HN := Hid.mk (not_pairsOk (ps := ps) (na := na) (nb := nb) k (by omega))
        have HA := Hid.mk hall
        have HS : Hid ((ps.getD k []).length = 2 → (0 ≤ (ps.getD k []).getD 0 0 ∧ (ps.getD k []).getD 0 0 < na) → (0 ≤ (ps.getD k []).getD 1 0 ∧ (ps.getD k []).getD 1 0 < nb) → ∀ j, j < k + 1 → (ps.getD j []).length = 2 ∧ (0 ≤ (ps.getD j []).getD 0 0 ∧ (ps.getD j []).getD 0 0 < na) ∧ (0 ≤ (ps.getD j []).getD 1 0 ∧ (ps.getD j []).getD 1 0 < nb)) := fun x1 x2 x3 j hj => by
          by_cases e : j = k
          · subst e; exact ⟨x1, x2, x3⟩
          · exact HA.out j (by omega)
        clear hc hall HA
        generalize ps.getD k [] = ys at *
        obtain ⟨m, hmm⟩ : ∃ m, ys.length = m := ⟨_, rfl⟩
        rw [hmm] at hcx HN HS hm
        by_cases h2 : m = 2
        · subst h2
          obtain ⟨b', off', rfl, hb', hc'⟩ := hat.some (by omega)
          have hx := hc' 0 (by omega)
          have hy := hc' 1 (by omega)
          rw [Nat.add_zero] at hx
          clear hmm hc' hat
          generalize ys.getD 0 0 = x at *
          generalize ys.getD 1 0 = y at *
          by_cases x0 : x < 0
          · go_wp2
            go_ret
            exact ⟨ret_bool (HN.out (by omega)).symm, rfl⟩
          by_cases x1 : (na : Int) ≤ x
          · go_wp2
            go_ret
            exact ⟨ret_bool (HN.out (by omega)).symm, rfl⟩
          by_cases y0 : y < 0
          · go_wp2
            go_ret
            exact ⟨ret_bool (HN.out (by omega)).symm, rfl⟩
          by_cases y1 : (nb : Int) ≤ y
          · go_wp2
            go_ret
            exact ⟨ret_bool (HN.out (by omega)).symm, rfl⟩
          · go_wp2
            go_round
            case rel => exact ⟨k + 1, by omega, by go_num, HS.out (by trivial) (by omega) (by omega)⟩
            case measure => simp [intOf]; omega
        · have h2' : ((m : Int) != 2) = true := by simp; omega
          clear hat hmm
          go_wp2
          go_ret
          exact ⟨ret_bool (HN.out (by omega)).symm, rfl⟩
      · by_cases h6 : n ≤ 6
        · have HG := Hid.mk (pairsOk_of (ps := ps) (na := na) (nb := nb) (by omega) (fun j hj => hall j (by omega)))
          clear hall hc
          go_wp2
          go_ret
          exact ⟨ret_bool (by rw [HG.out]; simp; omega), rfl⟩
        · have HG := Hid.mk (pairsOk_long (ps := ps) (na := na) (nb := nb) (by omega))
          clear hall hc
          go_wp2
          go_ret
          exact ⟨ret_bool (by rw [HG.out]; simp; omega), rfl⟩

end Go.Proofs.Ytagijnfiiifppab
