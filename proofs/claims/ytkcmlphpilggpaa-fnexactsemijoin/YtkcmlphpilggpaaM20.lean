/- Several texts of one proof, in build order: Pairs, SjK, GoodTI, SjX. -/
import Derived.Test.YtkcmlphpilggpaaM13
import Derived.Test.YtkcmlphpilggpaaM15
import Derived.Deep.AppendLies
import Derived.Test.YtkcmlphpilggpaaM19
import Derived.Test.YtkcmlphpilggpaaM18
import Derived.Test.YtkcmlphpilggpaaM6

/- Contracts of impl.arePairs, impl.sideOf, spec.l1Pairs. -/
namespace Go.Proofs.Ytkcmlphpilggpaa
open Go.RowKit

set_option maxHeartbeats 1000000 in
theorem arePairs_any (a : Option Addr) (n c : Nat) (ps : List (List Int)) (w : World) (hz : ps.length = n) (hn : n ≤ 9223372036854775807) (ha : AtS w a ps) :
    Calls Try.prog 77 #[.slice a n c] w fun e w' => e = .returned (.bool (pairs2 ps)) ∧ w' = w := by
  by_cases h6 : n ≤ 6
  · by_cases h0 : n = 0
    · subst h0
      obtain rfl := List.eq_nil_of_length_eq_zero hz
      go_enter Try.func77, Try.ntmps77
      go_wp2
      refine wp_loop_rounds 1 ?_
      rw [rounds_succ]
      go_wp2
      go_ret
      exact ⟨ret_bool (by simp [pairs2]), rfl⟩
    · obtain ⟨b, off, rfl, hc⟩ := ha.some (by omega)
      clear ha
      go_enter Try.func77, Try.ntmps77
      go_wp2
      go_loop [10] (fun i => ∃ k : Nat, k ≤ n ∧ i = .int .i64 k ∧ ∀ j, j < k → (ps.getD j []).length = 2) (fun i => n - (intOf i).toNat)
      case atStart => exact ⟨0, Nat.zero_le _, rfl, fun j hj => by omega⟩
      case round =>
        obtain ⟨k, hk, rfl, hall⟩ := hrel
        by_cases hlt : k < n
        · obtain ⟨q, d, hcx, hm, _⟩ := hc k (by omega)
          have HN := Hid.mk (not_pairs2 (ps := ps) k (by omega))
          have HA := Hid.mk hall
          obtain ⟨m, hmm⟩ : ∃ m, (ps.getD k []).length = m := ⟨_, rfl⟩
          rw [hmm] at hcx HN hm
          have HM := Hid.mk hmm
          clear hmm hc hall
          by_cases h2 : m = 2
          · have h2' : ((m : Int) != 2) = false := by simp; omega
            have H2 := Hid.mk h2
            clear h2
            go_wp2
            go_round
            case rel =>
              refine ⟨k + 1, by omega, by go_num, fun j hj => ?_⟩
              by_cases e : j = k
              · subst e; exact HM.out.trans H2.out
              · exact HA.out j (by omega)
            case measure => simp [intOf]; omega
          · have h2' : ((m : Int) != 2) = true := by simp; omega
            go_wp2
            go_ret
            exact ⟨ret_bool (HN.out h2).symm, rfl⟩
        · have HP := Hid.mk (pairs2_of (ps := ps) (by omega) (fun k hk => hall k (by omega)))
          go_wp2
          go_ret
          exact ⟨ret_bool HP.out.symm, rfl⟩
  · go_enter Try.func77, Try.ntmps77
    go_wp2
    go_ret
    exact ⟨ret_bool (pairs2_long (by omega)).symm, rfl⟩

set_option maxHeartbeats 2000000 in
theorem sideOf_any (a : Option Addr) (n c : Nat) (ps : List (List Int)) (sd : Nat) (w : World) (hz : ps.length = n) (hp : pairs2 ps = true) (hsd : sd ≤ 1) (ha : AtS w a ps) :
    Calls Try.prog 80 #[.slice a n c, .int .i64 sd] w fun e w' => ∃ r d, e = .returned (.slice r n d) ∧ w'.ownsRow w.heap.size 3 1 (.slice r n d) n ((side ps sd).map (.int .i64)) ∧ Below w.heap.size w w' := by
  have h6 := pairs2_len hp
  have h2 := fun k hk => pairs2_at hp k hk
  obtain ⟨i0, hi, hz0, hz1, hz2⟩ := info_parts Try.infoInt
  clear hp
  go_enter Try.func80, Try.ntmps80
  go_wp2
  go_loopw [5, 10] (fun v i wr => ∃ (k : Nat) (r : Option Addr) (d : Nat), k ≤ n ∧ i = .int .i64 k ∧ v = .slice r k d ∧ wr.ownsRow w.heap.size 3 1 (.slice r k d) k ((side (ps.take k) sd).map (.int .i64)) ∧ Below w.heap.size w wr) (fun _ i _ => n - (intOf i).toNat)
  case atStart => exact ⟨0, none, 0, Nat.zero_le _, rfl, rfl, World.ownsRow_nil _ _ _ _, Below.refl _ _⟩
  case round =>
    obtain ⟨k, r, d, hk, rfl, rfl, hown, hbw⟩ := hrel
    by_cases hlt : k < n
    · obtain ⟨b, off, rfl, hc⟩ := (ha.below hbw).some (by omega)
      obtain ⟨q, d', hcx, _, hat⟩ := hc k (by omega)
      have HS := Hid.mk (side_take ps sd k (by omega))
      have hl2 := h2 k (by omega)
      obtain ⟨b', off', rfl, hb', hc'⟩ := hat.some (by omega)
      have hcy := hc' sd (by omega)
      rw [hl2] at hcx
      obtain ⟨y, hy⟩ : ∃ y, y = (ps.getD k []).getD sd 0 := ⟨_, rfl⟩
      rw [← hy] at hcy HS
      have hsi : (sd : Int) < 2 := by omega
      have z2 := hbw.size
      clear hc hc' hy hl2 h2
      go_wp2_with (at_builtin; refine wpList_append_lies _ rfl (.tmp 14) (.tmp 19) 22 rfl w.heap.size 3 i0 (.int .i64 0) 1 8 Try.underlying22 hi hz0 hz1 hz2 rfl (by decide) _ _ _ rfl (hown.alloc _) ⟨wr.heap.size, 0, none⟩ 1 1 [.int .i64 y] rfl rfl (news_at wr _ _) (by simp; rfl) (by decide) (by unfold maxLen; omega) (by omega) (by simp; omega) (wr.heap.size + 1) (by simp) ?_)
      intro g cap w1 hown1 hgrow _ _
      have HB := Hid.mk ((hbw.alloc z2 _).grown hgrow (by simp; omega) (fun j hj => (hown.lt j hj).1))
      have HO : Hid (w1.ownsRow w.heap.size 3 1 (.slice (some ⟨g, 0, none⟩) (k + 1) cap) (k + 1) ((side (ps.take (k + 1)) sd).map (.int .i64))) := by
        rw [HS.out, List.map_append]; exact hown1
      clear hown1 hgrow hown hcx hcy
      go_wp2
      go_roundw
      case rel => exact ⟨k + 1, _, _, by omega, by go_num, rfl, HO.out, HB.out⟩
      case measure => simp [intOf]; omega
    · obtain rfl : k = n := by omega
      rw [← hz, List.take_length, hz] at hown
      go_wp2
      go_ret
      exact ⟨r, d, rfl, hown, hbw⟩

set_option maxHeartbeats 4000000 in
theorem l1Pairs_any (a : Option Addr) (n c : Nat) (ps : List (List Int)) (na nb : Nat) (w : World) (hz : ps.length = n) (hn : n ≤ 9223372036854775807) (ha : AtS w a ps) :
    Calls Try.prog 42 #[.slice a n c, .int .i64 na, .int .i64 nb] w fun e w' => e = .returned (.bool (pairsOk ps na nb)) ∧ w' = w := by
  by_cases h0 : n = 0
  · subst h0
    obtain rfl := List.eq_nil_of_length_eq_zero hz
    go_enter Try.func42, Try.ntmps42
    go_wp2
    refine wp_loop_rounds 1 ?_
    rw [rounds_succ]
    go_wp2
    go_ret
    exact ⟨ret_bool (by simp [pairsOk]), rfl⟩
  · obtain ⟨b, off, rfl, hc⟩ := ha.some (by omega)
    clear ha
    go_enter Try.func42, Try.ntmps42
    go_wp2
    go_loop [11] (fun i => ∃ k : Nat, k ≤ n ∧ i = .int .i64 k ∧ ∀ j, j < k → (ps.getD j []).length = 2 ∧ (0 ≤ (ps.getD j []).getD 0 0 ∧ (ps.getD j []).getD 0 0 < na) ∧ (0 ≤ (ps.getD j []).getD 1 0 ∧ (ps.getD j []).getD 1 0 < nb)) (fun i => n - (intOf i).toNat)
    case atStart => exact ⟨0, Nat.zero_le _, rfl, fun j hj => by omega⟩
    case round =>
      obtain ⟨k, hk, rfl, hall⟩ := hrel
      by_cases hlt : k < n
      · obtain ⟨q, d, hcx, hm, hat⟩ := hc k (by omega)
        have HN := Hid.mk (not_pairsOk (ps := ps) (na := na) (nb := nb) k (by omega))
        have HA := Hid.mk hall
        have HS : Hid ((ps.getD k []).length = 2 → (0 ≤ (ps.getD k []).getD 0 0 ∧ (ps.getD k []).getD 0 0 < na) → (0 ≤ (ps.getD k []).getD 1 0 ∧ (ps.getD k []).getD 1 0 < nb) → ∀ j, j < k + 1 → (ps.getD j []).length = 2 ∧ (0 ≤ (ps.getD j []).getD 0 0 ∧ (ps.getD j []).getD 0 0 < na) ∧ (0 ≤ (ps.getD j []).getD 1 0 ∧ (ps.getD j []).getD 1 0 < nb)) := fun x1 x2 x3 j hj => by
          by_cases e : j = k
          · subst e; exact ⟨x1, x2, x3⟩
          · exact HA.out j (by omega)
        clear hc hall HA
        generalize ps.getD k [] = ys at *
        obtain ⟨m, hmm⟩ : ∃ m, ys.length = m := ⟨_, rfl⟩
        rw [hmm] at hcx HN HS hm
        by_cases h2 : m = 2
        · subst h2
          obtain ⟨b', off', rfl, hb', hc'⟩ := hat.some (by omega)
          have hx := hc' 0 (by omega)
          have hy := hc' 1 (by omega)
          rw [Nat.add_zero] at hx
          clear hmm hc' hat
          generalize ys.getD 0 0 = x at *
          generalize ys.getD 1 0 = y at *
          by_cases x0 : x < 0
          · go_wp2
            go_ret
            exact ⟨ret_bool (HN.out (by omega)).symm, rfl⟩
          by_cases x1 : (na : Int) ≤ x
          · go_wp2
            go_ret
            exact ⟨ret_bool (HN.out (by omega)).symm, rfl⟩
          by_cases y0 : y < 0
          · go_wp2
            go_ret
            exact ⟨ret_bool (HN.out (by omega)).symm, rfl⟩
          by_cases y1 : (nb : Int) ≤ y
          · go_wp2
            go_ret
            exact ⟨ret_bool (HN.out (by omega)).symm, rfl⟩
          · go_wp2
            go_round
            case rel => exact ⟨k + 1, by omega, by go_num, HS.out (by trivial) (by omega) (by omega)⟩
            case measure => simp [intOf]; omega
        · have h2' : ((m : Int) != 2) = true := by simp; omega
          clear hat hmm
          go_wp2
          go_ret
          exact ⟨ret_bool (HN.out (by omega)).symm, rfl⟩
      · by_cases h6 : n ≤ 6
        · have HG := Hid.mk (pairsOk_of (ps := ps) (na := na) (nb := nb) (by omega) (fun j hj => hall j (by omega)))
          clear hall hc
          go_wp2
          go_ret
          exact ⟨ret_bool (by rw [HG.out]; simp; omega), rfl⟩
        · have HG := Hid.mk (pairsOk_long (ps := ps) (na := na) (nb := nb) (by omega))
          clear hall hc
          go_wp2
          go_ret
          exact ⟨ret_bool (by rw [HG.out]; simp; omega), rfl⟩

end Go.Proofs.Ytkcmlphpilggpaa

/- The contract of impl.suitPairs. -/
namespace Go.Proofs.Ytkcmlphpilggpaa
open Go.RowKit

theorem good_noughtsJ {q : Nat} (h6 : q ≤ 6) : good (List.replicate q 0) = true := by
  refine good_of (by simp; exact h6) fun k hk => ?_
  simp at hk
  simp [List.getD, hk]
theorem pick_noughtsJ {q : Nat} (h6 : q ≤ 6) (cols : List Int) : pickOk (List.replicate q 0) cols = colsOk cols q := by
  unfold pickOk
  rw [good_noughtsJ h6, List.length_replicate]; rfl

set_option maxRecDepth 100000 in
set_option maxHeartbeats 4000000 in
theorem suitPairs_any (a : Option Addr) (n c : Nat) (ps : List (List Int)) (q q' : Nat) (w : World) (hz : ps.length = n) (hn : n ≤ 1048576) (h6 : q ≤ 6) (h6' : q' ≤ 6) (ha : AtS w a ps) :
    Calls Try.prog 47 #[.slice a n c, .int .i64 q, .int .i64 q'] w fun e w' => e = .returned (.bool (pairsOk ps q q')) ∧ Below w.heap.size w w' := by
  have HS := Hid.mk (pairsOk_split ps q q')
  cases h2 : pairs2 ps with
  | false =>
    have HE : Hid (pairsOk ps q q' = false) := by show _ = _; rw [HS.out, h2]; rfl
    have H2 := Hid.mk h2
    clear h2
    go_enter Try.func47, Try.ntmps47
    go_wp2_with fail
    refine (arePairs_any _ _ _ ps _ hz (by omega) ha).mono ?_
    rintro e w1 ⟨rfl, rfl⟩
    rw [H2.out]
    go_wp2
    go_ret
    exact ⟨by rw [HE.out]; rfl, Below.refl _ _⟩
  | true =>
    have HE : Hid (pairsOk ps q q' = (colsOk (side ps 0) q && colsOk (side ps 1) q')) := by show _ = _; rw [HS.out, h2, Bool.true_and]
    have n6 := pairs2_len h2
    have H2 := Hid.mk h2
    clear h2
    go_enter Try.func47, Try.ntmps47
    go_wp2_with fail
    refine (arePairs_any _ _ _ ps _ hz (by omega) ha).mono ?_
    rintro e w1 ⟨rfl, rfl⟩
    rw [H2.out]
    go_wp2_with fail
    refine (noughts_any q _ h6).mono ?_
    rintro e w2 ⟨r2, d2, rfl, _, a2, hb2⟩
    go_wp2_with fail
    refine (sideOf_any _ _ _ ps 0 _ hz H2.out (by omega) (ha.below hb2)).mono ?_
    rintro e w3 ⟨r3, d3, rfl, o3, hb3⟩
    have B3 := hb2.trans (hb3.mono hb2.size)
    go_wp2_with fail
    refine (implPickCells _ _ _ _ _ _ (List.replicate q 0) (side ps 0) _ (by simp) (by rw [side_length]; exact hz) (by omega) (by omega) (a2.below hb3) (At.owned o3)).mono ?_
    rintro e w4 ⟨r4, m4, d4, rfl, hl4, o4, hb4⟩
    rw [pick_noughtsJ h6]
    have B4 := B3.trans (hb4.mono B3.size)
    obtain ⟨V, hV⟩ : ∃ V, V = w4.alloc (.cells #[.slice r4 m4 d4] 97) := ⟨_, rfl⟩
    have hbV : Below w4.heap.size w4 V := by rw [hV]; exact (Below.refl _ _).alloc (Nat.le_refl _) _
    have BV := B4.trans (hbV.mono B4.size)
    clear o3 o4 a2 hl4 hb2 hb3 hb4 B3 B4
    go_wp2_with fail
    rw [← hV]
    clear hV hbV
    refine (noughts_any q' _ h6').mono ?_
    rintro e w5 ⟨r5, d5, rfl, _, a5, hb5⟩
    have B5 := BV.trans (hb5.mono BV.size)
    go_wp2_with fail
    refine (sideOf_any _ _ _ ps 1 _ hz H2.out (by omega) (ha.below B5)).mono ?_
    rintro e w6 ⟨r6, d6, rfl, o6, hb6⟩
    have B6 := B5.trans (hb6.mono B5.size)
    go_wp2_with fail
    refine (implPickCells _ _ _ _ _ _ (List.replicate q' 0) (side ps 1) _ (by simp) (by rw [side_length]; exact hz) (by omega) (by omega) (a5.below hb6) (At.owned o6)).mono ?_
    rintro e w7 ⟨r7, m7, d7, rfl, hl7, o7, hb7⟩
    rw [pick_noughtsJ h6']
    have B7 := B6.trans (hb7.mono B6.size)
    have HB := Hid.mk (B7.alloc B7.size (.cells #[.slice r7 m7 d7] 97))
    clear o6 o7 a5 hl7 hb5 hb6 hb7 B5 B6 B7 BV
    cases hA : colsOk (side ps 0) q with
    | true =>
      rw [hA, Bool.true_and] at HE
      go_wp2
      go_ret
      exact ⟨by rw [HE.out]; rfl, HB.out⟩
    | false =>
      rw [hA, Bool.false_and] at HE
      go_wp2
      go_ret
      exact ⟨by rw [HE.out]; rfl, HB.out⟩

end Go.Proofs.Ytkcmlphpilggpaa

/- Contract of impl.GoodTable. -/
namespace Go.Proofs.Ytkcmlphpilggpaa
open Go.RowKit

set_option maxHeartbeats 4000000 in
theorem implGoodTable_any (a : Option Addr) (n c : Nat) (ts : List WRow) (p : Int) (w : World) (hz : ts.length = n) (hn : n ≤ 1048576) (ha : AtW w a ts) :
    Calls Try.prog 46 #[.agg #[.int .i64 p, .slice a n c]] w fun e w' => e = .returned (.bool (goodT p ts)) ∧ Below w.heap.size w w' := by
  have B0 : Below w.heap.size w (w.alloc (.cells #[.int .i64 p, .slice a n c] 47)) := (Below.refl _ _).alloc (Nat.le_refl _) _
  have HA := ha.below B0
  clear ha
  cases hi : inc p with
  | false =>
    have HI := Hid.mk hi
    clear hi
    go_enter Try.func46, Try.ntmps46
    go_wp2_with (go_at_call 73; refine (goodColumns_any _ _).mono ?_; rintro e w2 ⟨rfl, rfl⟩; rw [HI.out])
    go_ret
    exact ⟨ret_bool (goodT_col HI.out).symm, B0⟩
  | true =>
    have HI := Hid.mk hi
    clear hi
    by_cases h60 : n ≤ 60
    · cases hg : goodL p ts with
      | false =>
        have HG := Hid.mk hg
        clear hg
        go_enter Try.func46, Try.ntmps46
        go_wp2_with (first | (go_at_call 73; refine (goodColumns_any _ _).mono ?_; rintro e w2 ⟨rfl, rfl⟩; rw [HI.out]) | (go_at_call 74; refine (goodWeighted_any _ _ _ ts _ _ hz hn HA).mono ?_; rintro e w1 ⟨rfl, hb1⟩; rw [HG.out]))
        go_ret
        exact ⟨ret_bool (goodT_goodL HG.out).symm, B0.trans (hb1.mono B0.size)⟩
      | true =>
        have HG := Hid.mk hg
        clear hg
        have hL : ∀ k, k < n → goodW p (wat ts k) = true := fun k hk => goodL_at HG.out k (by omega)
        go_enter Try.func46, Try.ntmps46
        go_wp2_with (go_at_call 73; refine (goodColumns_any _ _).mono ?_; rintro e w2 ⟨rfl, rfl⟩; rw [HI.out])
        refine (goodWeighted_any _ _ _ ts _ _ hz hn HA).mono ?_
        rintro e w1 ⟨rfl, hb1⟩
        rw [HG.out]
        have B1 := B0.trans (hb1.mono B0.size)
        have ct := cell_later hb1 (pair1 w (.int .i64 p) (.slice a n c) 47)
        have HA1 := HA.below hb1
        clear hb1 HA B0
        go_wp2
        go_loopw [26] (fun i wr => ∃ (k : Nat), k ≤ n ∧ i = .int .i64 k ∧ (∀ j, j < k → stepB p ts j = true) ∧ Below w1.heap.size w1 wr) (fun i _ => n - (intOf i).toNat)
        case atStart => exact ⟨0, Nat.zero_le _, rfl, fun j hj => by omega, Below.refl _ _⟩
        case round =>
          obtain ⟨k, hk, rfl, hall, hbw⟩ := hrel
          have B2 := B1.trans (hbw.mono B1.size)
          by_cases hlt : k < n
          · obtain ⟨b, off, rfl, hc⟩ := (HA1.below hbw).some (by omega)
            obtain ⟨q, d, hcx, hwx, hm, hat⟩ := hc k (by omega)
            have hgk := goodW_cells (hL k hlt)
            have HN : Hid ((wat ts k).2 = 0 → goodT p ts = false) := fun h => goodT_not k (by omega) (stepB_zero h)
            have HC : Hid (k ≠ 0 → ¬ cmp (wat ts (k - 1)).1 (wat ts k).1 < 0 → goodT p ts = false) := fun h0 h => goodT_not k (by omega) (stepB_cmp h0 h)
            have HS : Hid ((wat ts k).2 ≠ 0 → (k = 0 ∨ cmp (wat ts (k - 1)).1 (wat ts k).1 < 0) → ∀ j, j < k + 1 → stepB p ts j = true) := fun h1 h2 j hj => by
              by_cases e : j = k
              · subst e; exact stepB_mk (hL j hlt) h1 h2
              · exact hall j (by omega)
            have ct2 := cell_later hbw ct
            have hki : (k : Int) < (n : Int) := by omega
            by_cases hk0 : k = 0
            · have HK := Hid.mk hk0
              have hnp : decide (0 < k) = false := decide_eq_false (by omega)
              generalize wat ts k = Y at *
              obtain ⟨ys, x⟩ := Y
              simp only at hcx hwx hat hm
              clear hc hall hat hgk hk0
              obtain ⟨m, hmm⟩ : ∃ m, ys.length = m := ⟨_, rfl⟩
              rw [hmm] at hcx hm
              clear hmm
              by_cases hx : x = 0
              · have hxx : (x == 0) = true := by simp [hx]
                have HX := Hid.mk hx
                clear hx
                go_wp2
                go_ret
                exact ⟨ret_bool (HN.out HX.out).symm, B2.alloc B2.size _⟩
              · have hxx : (x == 0) = false := by simp [hx]
                have HX := Hid.mk hx
                clear hx
                go_wp2
                go_quiet (fail)
                go_wp2
                go_roundw
                case rel => exact ⟨k + 1, by omega, by go_num, HS.out HX.out (.inl HK.out), below_drewN (hbw.alloc hbw.size _) _⟩
                case measure => simp [intOf]; omega
            · obtain ⟨q', d', hcx', _, _, hat'⟩ := hc (k - 1) (by omega)
              have hgk' := goodW_cells (hL (k - 1) (by omega))
              have hnp : 0 < k := by omega
              have hsub : IntKind.i64.wrap ((k : Int) - 1) = ((k - 1 : Nat) : Int) := (IntWalk.i64_in _ (by omega)).trans (by omega)
              have hlt1 : ((k - 1 : Nat) : Int) < (n : Int) := by omega
              obtain ⟨k', hk'⟩ : ∃ k', k' = k - 1 := ⟨_, rfl⟩
              have HK' := Hid.mk hk'
              rw [← hk'] at hcx' hat' hgk' hsub hlt1 HC HS
              generalize wat ts k = Y at *
              generalize wat ts k' = Y' at *
              obtain ⟨ys, x⟩ := Y
              obtain ⟨ys', x'⟩ := Y'
              simp only at hcx hwx hat hm hcx' hat' hgk hgk'
              have l1 := good_len hgk.1
              have l1' := good_len hgk'.1
              have HG1 := Hid.mk hgk.1
              have HG1' := Hid.mk hgk'.1
              clear hc hall hgk hgk' hk'
              obtain ⟨m, hmm⟩ : ∃ m, ys.length = m := ⟨_, rfl⟩
              obtain ⟨m', hmm'⟩ : ∃ m, ys'.length = m := ⟨_, rfl⟩
              rw [hmm] at hcx hm l1
              rw [hmm'] at hcx' l1'
              have HM := Hid.mk hmm
              have HM' := Hid.mk hmm'
              clear hmm hmm'
              by_cases hx : x = 0
              · have hxx : (x == 0) = true := by simp [hx]
                have HX := Hid.mk hx
                clear hx
                go_wp2
                go_ret
                exact ⟨ret_bool (HN.out HX.out).symm, B2.alloc B2.size _⟩
              · have hxx : (x == 0) = false := by simp [hx]
                have HX := Hid.mk hx
                clear hx
                have c1 := cell_later ((Below.refl wr.heap.size wr).alloc (Nat.le_refl _) (.cells #[.slice q m d, .int .i64 x] 99)) hcx'
                have c2 := cell_later ((Below.refl wr.heap.size wr).alloc (Nat.le_refl _) (.cells #[.slice q m d, .int .i64 x] 99)) ct2
                have c3 := pair0 wr (.slice q m d) (.int .i64 x) 99
                have HAx := hat.alloc (.cells #[.slice q m d, .int .i64 x] 99)
                have HAy := hat'.alloc (.cells #[.slice q m d, .int .i64 x] 99)
                have BW := B2.alloc B2.size (.cells #[.slice q m d, .int .i64 x] 99)
                have BV := hbw.alloc hbw.size (.cells #[.slice q m d, .int .i64 x] 99)
                obtain ⟨W, hW⟩ : ∃ W, W = wr.alloc (.cells #[.slice q m d, .int .i64 x] 99) := ⟨_, rfl⟩
                go_wp2
                rw [← hW] at c1 c2 c3 HAx HAy BW BV ⊢
                clear hW hcx hcx' hwx ct2 ct hat hat' HA1 hm
                go_region_held3 (fun w' => w'.cell? ⟨w.heap.size, 1, none⟩ = some (.slice (some ⟨b, off, none⟩) n c) ∧ w'.cell? ⟨b, off + k' * 2, none⟩ = some (.slice q' m' d') ∧ w'.cell? ⟨wr.heap.size, 0, none⟩ = some (.slice q m d)) (refine ⟨?_, ?_, ?_⟩ <;> assumption)
                  (first
                    | (go_at_call_of 76 (Value.slice q' m' d'); refine (arrayOf_any _ _ _ ys' _ HM'.out l1' (fun j hj => good_cell HG1'.out j (by have := HM'.out; omega)) HAy.drew).mono ?_; rintro e w2 ⟨y0, y1, y2, y3, y4, y5, rfl, hy, hb2⟩; have r1 := cell_later hb2 c1; have r2 := cell_later hb2 c2; have r3 := cell_later hb2 c3; have HAz := HAx.drew.below hb2)
                    | (go_at_call_of 76 (Value.slice q m d); refine (arrayOf_any _ _ _ ys _ HM.out l1 (fun j hj => good_cell HG1.out j (by have := HM.out; omega)) HAz).mono ?_; rintro e w3 ⟨x0, x1, x2, x3, x4, x5, rfl, hx, hb3⟩; have s1 := cell_later hb3 r1; have s2 := cell_later hb3 r2; have s3 := cell_later hb3 r3)
                    | (go_at_call 75; refine (compareArrays_any _ _ _ _ _ _ _ _ _ _ _ _ _ _ hy hx _).mono ?_; rintro e w4 ⟨rfl, hb4⟩; have v1 := cell_later hb4 s1; have v2 := cell_later hb4 s2; have v3 := cell_later hb4 s3))
                have B5 : Below w.heap.size w w4 := ((BW.drew.trans (hb2.mono BW.size)).trans (hb3.mono (by have := hb2.size; have := BW.size; simp only [drew_size] at *; omega))).trans (hb4.mono (by have := hb2.size; have := hb3.size; have := BW.size; simp only [drew_size] at *; omega))
                have V5 : Below w1.heap.size w1 w4 := ((BV.drew.trans (hb2.mono BV.size)).trans (hb3.mono (by have := hb2.size; have := BV.size; simp only [drew_size] at *; omega))).trans (hb4.mono (by have := hb2.size; have := hb3.size; have := BV.size; simp only [drew_size] at *; omega))
                have hcr := cmp_raised HG1'.out HG1.out
                rw [hy, hx] at hcr
                have hcm := cmp_range ys' ys
                clear hy hx hb2 hb3 hb4 r1 r2 r3 s1 s2 s3 v1 v2 v3 c1 c2 c3 HAz HAx HAy BW BV
                by_cases hlss : cmp ys' ys < 0
                · have hcc : (cmp [y0, y1, y2, y3, y4, y5] [x0, x1, x2, x3, x4, x5] != -1) = false := by rw [hcr, show cmp ys' ys = -1 by omega]; rfl
                  have HL := Hid.mk hlss
                  clear hcr hcm hlss
                  go_wp2
                  go_roundw
                  case rel => exact ⟨k + 1, by omega, by go_num, HS.out HX.out (.inr HL.out), V5⟩
                  case measure => simp [intOf]; omega
                · have hcc : (cmp [y0, y1, y2, y3, y4, y5] [x0, x1, x2, x3, x4, x5] != -1) = true := by
                    rw [hcr]
                    rcases hcm with h | h | h
                    · omega
                    · rw [h]; rfl
                    · rw [h]; rfl
                  have HL := Hid.mk hlss
                  clear hcr hcm hlss
                  go_wp2
                  go_ret
                  exact ⟨ret_bool (HC.out hk0 (by have := HL.out; omega)).symm, B5⟩
          · go_wp2
            go_ret
            exact ⟨ret_bool (goodT_of HI.out (by omega) (fun j hj => hall j (by omega))).symm, B2⟩
    · go_enter Try.func46, Try.ntmps46
      go_wp2_with (go_at_call 73; refine (goodColumns_any _ _).mono ?_; rintro e w2 ⟨rfl, rfl⟩; rw [HI.out])
      go_ret
      exact ⟨ret_bool (goodT_len (by omega)).symm, B0⟩

end Go.Proofs.Ytkcmlphpilggpaa

/- The contract of impl.SemiJoin. -/
namespace Go.Proofs.Ytkcmlphpilggpaa
open Go.RowKit Go.Shelf

def sjB (p p' : Int) (ts ts' : List WRow) (ps : List (List Int)) : Bool := goodT p ts && (goodT p' ts' && pairsOk ps p.toNat p'.toNat)
theorem sjB_a {p p' : Int} {ts ts' : List WRow} {ps : List (List Int)} (h : goodT p ts = false) : sjB p p' ts ts' ps = false := by simp [sjB, h]
theorem sjB_b {p p' : Int} {ts ts' : List WRow} {ps : List (List Int)} (h : goodT p' ts' = false) : sjB p p' ts ts' ps = false := by simp [sjB, h]
theorem sjB_yes {q q' : Nat} {ts ts' : List WRow} {ps : List (List Int)} (h : goodT q ts = true) (h' : goodT q' ts' = true) : sjB q q' ts ts' ps = pairsOk ps q q' := by simp [sjB, h, h']
theorem sjB_goodT {p p' : Int} {ts ts' : List WRow} {ps : List (List Int)} (h : sjB p p' ts ts' ps = true) : goodT p (semiW ts ts' ps) = true := by
  simp only [sjB, Bool.and_eq_true] at h
  exact semiW_good h.1

set_option maxRecDepth 100000 in
set_option maxHeartbeats 8000000 in
theorem implSemiJoin (a a' ap : Option Addr) (n n' np c c' cp : Nat) (ts ts' : List WRow) (ps : List (List Int)) (p p' : Int) (w : World) (hz : ts.length = n) (hz' : ts'.length = n') (hzp : ps.length = np) (hn : n ≤ 1048576) (hn' : n' ≤ 1048576) (hnp : np ≤ 1048576) (ha : AtM w a ts) (ha' : AtM w a' ts') (hap : AtS w ap ps) :
    Calls Try.prog 20 #[.agg #[.int .i64 p, .slice a n c], .agg #[.int .i64 p', .slice a' n' c'], .slice ap np cp] w fun e w' => TabAns e w' w.heap.size (sjB p p' ts ts' ps) p (semiW ts ts' ps) ∧ Below w.heap.size w w' := by
  obtain ⟨W, hW⟩ : ∃ W, W = ((w.alloc (.cells #[.int .i64 p, .slice a n c] 47)).alloc (.cells #[.int .i64 p', .slice a' n' c'] 47)).alloc (.cells #[.int .i64 0, .slice none 0 0] 47) := ⟨_, rfl⟩
  have zW : W.heap.size = w.heap.size + 1 + 1 + 1 := by rw [hW]; simp
  have B0 : Below w.heap.size w W := by rw [hW]; exact (((Below.refl _ _).alloc (Nat.le_refl _) _).alloc (by simp) _).alloc (by simp; omega) _
  have c0 : W.cell? ⟨w.heap.size, 0, none⟩ = some (.int .i64 p) := by rw [hW]; exact alloc_keeps (alloc_keeps (pair0 w _ _ _) _) _
  have c1 : W.cell? ⟨w.heap.size, 1, none⟩ = some (.slice a n c) := by rw [hW]; exact alloc_keeps (alloc_keeps (pair1 w _ _ _) _) _
  have b1 : W.cell? ⟨w.heap.size + 1, 1, none⟩ = some (.slice a' n' c') := by rw [hW]; refine alloc_keeps ?_ _; have := pair1 (w.alloc (.cells #[.int .i64 p, .slice a n c] 47)) (.int .i64 p') (.slice a' n' c') 47; rwa [World.size_alloc] at this
  have b0 : W.cell? ⟨w.heap.size + 1, 0, none⟩ = some (.int .i64 p') := by rw [hW]; refine alloc_keeps ?_ _; have := pair0 (w.alloc (.cells #[.int .i64 p, .slice a n c] 47)) (.int .i64 p') (.slice a' n' c') 47; rwa [World.size_alloc] at this
  have q0 : W.heap[w.heap.size + 1 + 1]? = some (.cells #[.int .i64 0, .slice none 0 0] 47 (0, 0)) := by
    rw [hW]
    have := heap_alloc_new ((w.alloc (.cells #[.int .i64 p, .slice a n c] 47)).alloc (.cells #[.int .i64 p', .slice a' n' c'] 47)) (.cells #[.int .i64 0, .slice none 0 0] 47)
    rwa [World.size_alloc, World.size_alloc] at this
  have e0 : W.cell? ⟨w.heap.size + 1 + 1, 0, none⟩ = some (.int .i64 0) := by rw [cell_of_row _ _ 0 _ _ (0, 0) q0]; rfl
  have e1 : W.cell? ⟨w.heap.size + 1 + 1, 1, none⟩ = some (.slice none 0 0) := by rw [cell_of_row _ _ 1 _ _ (0, 0) q0]; rfl
  have f0 : W.frozen? ⟨w.heap.size + 1 + 1, 0, none⟩ = false := frozen_of_row _ _ 0 _ _ q0
  have f1 : W.frozen? ⟨w.heap.size + 1 + 1, 1, none⟩ = false := frozen_of_row _ _ 1 _ _ q0
  have HA := ha.below B0
  have HA' := ha'.below B0
  clear ha ha' q0
  have HP := hap.below B0
  clear hap
  cases hg : goodT p ts with
  | false =>
    have HG := Hid.mk hg
    clear hg
    go_enter Try.func20, Try.ntmps20
    go_wp2_with fail
    rw [← hW]
    clear hW
    refine (implGoodTable_any _ _ _ ts _ _ hz hn HA.atW).mono ?_
    rintro e w1 ⟨rfl, hb1⟩
    rw [HG.out]
    have B1 := B0.trans (hb1.mono B0.size)
    have f0 := frozen_later hb1 e0 f0
    have f1 := frozen_later hb1 e1 f1
    have e0 := cell_later hb1 e0
    have e1 := cell_later hb1 e1
    have c0 := cell_later hb1 c0
    have c1 := cell_later hb1 c1
    have b0 := cell_later hb1 b0
    have b1 := cell_later hb1 b1
    have HA := HA.below hb1
    have HA' := HA'.below hb1
    have HP := HP.below hb1
    clear hb1
    go_wp2
    refine bodyPost_ret (v := .tuple #[.agg #[.int .i64 0, .slice none 0 0], .bool false]) (by simp [results, Try.results20, go_sem, e0, e1]) rfl ⟨TabAns.zero (sjB_a HG.out) rfl, ?_⟩
    exact (B1.setCell (by show w.heap.size ≤ w.heap.size + 1 + 1; omega) _).setCell (by show w.heap.size ≤ w.heap.size + 1 + 1; omega) _
  | true =>
    have HG := Hid.mk hg
    clear hg
    cases hg' : goodT p' ts' with
    | false =>
      have HG' := Hid.mk hg'
      clear hg'
      go_enter Try.func20, Try.ntmps20
      go_wp2_with fail
      rw [← hW]
      clear hW
      refine (implGoodTable_any _ _ _ ts _ _ hz hn HA.atW).mono ?_
      rintro e w1 ⟨rfl, hb1⟩
      rw [HG.out]
      have B1 := B0.trans (hb1.mono B0.size)
      have f0 := frozen_later hb1 e0 f0
      have f1 := frozen_later hb1 e1 f1
      have e0 := cell_later hb1 e0
      have e1 := cell_later hb1 e1
      have c0 := cell_later hb1 c0
      have c1 := cell_later hb1 c1
      have b0 := cell_later hb1 b0
      have b1 := cell_later hb1 b1
      have HA := HA.below hb1
      have HA' := HA'.below hb1
      have HP := HP.below hb1
      clear hb1
      go_wp2_with fail
      refine (implGoodTable_any _ _ _ ts' _ _ hz' hn' HA'.atW).mono ?_
      rintro e w2 ⟨rfl, hb2⟩
      rw [HG'.out]
      have B2 := B1.trans (hb2.mono B1.size)
      have f0 := frozen_later hb2 e0 f0
      have f1 := frozen_later hb2 e1 f1
      have e0 := cell_later hb2 e0
      have e1 := cell_later hb2 e1
      have c0 := cell_later hb2 c0
      have c1 := cell_later hb2 c1
      have b0 := cell_later hb2 b0
      have b1 := cell_later hb2 b1
      have HA := HA.below hb2
      have HA' := HA'.below hb2
      have HP := HP.below hb2
      clear hb2
      go_wp2
      refine bodyPost_ret (v := .tuple #[.agg #[.int .i64 0, .slice none 0 0], .bool false]) (by simp [results, Try.results20, go_sem, e0, e1]) rfl ⟨TabAns.zero (sjB_b HG'.out) rfl, ?_⟩
      exact (B2.setCell (by show w.heap.size ≤ w.heap.size + 1 + 1; omega) _).setCell (by show w.heap.size ≤ w.heap.size + 1 + 1; omega) _
    | true =>
      obtain ⟨q, hq⟩ : ∃ q : Nat, p = q := ⟨p.toNat, by have := inc_range (goodT_parts HG.out).1; omega⟩
      obtain ⟨q', hq'⟩ : ∃ q : Nat, p' = q := ⟨p'.toNat, by have := inc_range (goodT_parts hg').1; omega⟩
      subst hq hq'
      have h6 : q ≤ 6 := by have := inc_range (goodT_parts HG.out).1; omega
      have h6' : q' ≤ 6 := by have := inc_range (goodT_parts hg').1; omega
      have HG' := Hid.mk hg'
      clear hg' 
      go_enter Try.func20, Try.ntmps20
      go_wp2_with fail
      rw [← hW]
      clear hW
      refine (implGoodTable_any _ _ _ ts _ _ hz hn HA.atW).mono ?_
      rintro e w1 ⟨rfl, hb1⟩
      rw [HG.out]
      have B1 := B0.trans (hb1.mono B0.size)
      have f0 := frozen_later hb1 e0 f0
      have f1 := frozen_later hb1 e1 f1
      have e0 := cell_later hb1 e0
      have e1 := cell_later hb1 e1
      have c0 := cell_later hb1 c0
      have c1 := cell_later hb1 c1
      have b0 := cell_later hb1 b0
      have b1 := cell_later hb1 b1
      have HA := HA.below hb1
      have HA' := HA'.below hb1
      have HP := HP.below hb1
      clear hb1
      go_wp2_with fail
      refine (implGoodTable_any _ _ _ ts' _ _ hz' hn' HA'.atW).mono ?_
      rintro e w2 ⟨rfl, hb2⟩
      rw [HG'.out]
      have B2 := B1.trans (hb2.mono B1.size)
      have f0 := frozen_later hb2 e0 f0
      have f1 := frozen_later hb2 e1 f1
      have e0 := cell_later hb2 e0
      have e1 := cell_later hb2 e1
      have c0 := cell_later hb2 c0
      have c1 := cell_later hb2 c1
      have b0 := cell_later hb2 b0
      have b1 := cell_later hb2 b1
      have HA := HA.below hb2
      have HA' := HA'.below hb2
      have HP := HP.below hb2
      clear hb2
      go_wp2_with fail
      refine (suitPairs_any _ _ _ ps q q' _ hzp hnp h6 h6' HP).mono ?_
      rintro e w3 ⟨rfl, hb3⟩
      have B3 := B2.trans (hb3.mono B2.size)
      have f0 := frozen_later hb3 e0 f0
      have f1 := frozen_later hb3 e1 f1
      have e0 := cell_later hb3 e0
      have e1 := cell_later hb3 e1
      have c0 := cell_later hb3 c0
      have c1 := cell_later hb3 c1
      have b0 := cell_later hb3 b0
      have b1 := cell_later hb3 b1
      have HA := HA.below hb3
      have HA' := HA'.below hb3
      have HP := HP.below hb3
      clear hb3
      have HNB := Hid.mk (sjB_yes (ps := ps) HG.out HG'.out)
      cases hok : pairsOk ps q q' with
      | false =>
        rw [hok] at HNB
        clear hok
        go_wp2
        refine bodyPost_ret (v := .tuple #[.agg #[.int .i64 0, .slice none 0 0], .bool false]) (by simp [results, Try.results20, go_sem, e0, e1]) rfl ⟨TabAns.zero HNB.out rfl, ?_⟩
        exact (B3.setCell (by show w.heap.size ≤ w.heap.size + 1 + 1; omega) _).setCell (by show w.heap.size ≤ w.heap.size + 1 + 1; omega) _
      | true =>
        rw [hok] at HNB
        have HOK := Hid.mk hok
        clear hok
        go_wp2_with fail
        refine (joinable_any _ _ _ _ _ _ _ _ _ ts ts' ps q q' _ hz hz' hzp HG.out HG'.out HOK.out HA HA' HP).mono ?_
        rintro e w4 ⟨r4, m4, d4, cells4, rfl, ho4, hb4⟩
        have B4 := B3.trans (hb4.mono B3.size)
        have f0 := frozen_later hb4 e0 f0
        have f1 := frozen_later hb4 e1 f1
        have c0 := cell_later hb4 c0
        have zR : w.heap.size + 1 + 1 < w3.heap.size := World.block_lt_of_cell? _ _ (by assumption : w3.cell? ⟨w.heap.size + 1 + 1, 0, none⟩ = _)
        have e0 := cell_later hb4 e0
        have e1 := cell_later hb4 e1
        have HO := Hid.mk ho4
        clear HA HA' HP hb4 ho4
        go_wp2
        refine bodyPost_ret (v := .tuple #[.agg #[.int .i64 q, .slice r4 m4 d4], .bool true]) (by simp [results, Try.results20, go_sem, e0, e1]) rfl ⟨?_, ?_⟩
        · rw [TabAns, HNB.out]
          exact ⟨r4, m4, d4, cells4, rfl, OwnWk.stored HO.out zR (by omega) _ _⟩
        · exact (B4.setCell (by show w.heap.size ≤ w.heap.size + 1 + 1; omega) _).setCell (by show w.heap.size ≤ w.heap.size + 1 + 1; omega) _

      end Go.Proofs.Ytkcmlphpilggpaa
