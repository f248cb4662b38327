/- Several texts of one proof, in build order: LcJ, NtI, TxI, TzI. -/
import Derived.Test.YtjjebodlekepaaaDoorM7
import Derived.Test.YtjjebodlekepaaaDoorM6
import Derived.Test.YtjjebodlekepaaaDoorM5
import Derived.Deep.CutBlock
import Derived.Lib.TrailingZeros
import Derived.Lib.LaidTab

/- Contract of impl.areLocks. -/
namespace Go.Proofs.YtjjebodlekepaaaDoor
open Go.RowKit

theorem gp_ok {xs : List TStep} (h : gpB xs = true) {y : TStep} (hy : y ∈ xs) : stOk y = true := by
  simp only [gpB, Bool.and_eq_true, List.all_eq_true] at h
  exact h.2 y hy
theorem held_no {H : List TStep} {k : Nat} (hk : k < H.length) (h : heldAt H k = false) : heldB H = false := by
  unfold heldB
  refine Bool.eq_false_iff.2 fun h9 => ?_
  have := held_at (H := H) h9 hk
  rw [h] at this; cases this
theorem held_all {H : List TStep} (h : ∀ i, i < H.length → heldAt H i = true) : heldB H = true := List.all_eq_true.2 fun i hi => h i (List.mem_range.1 hi)

set_option maxRecDepth 100000 in
set_option maxHeartbeats 4000000 in
theorem areLocks_any (a : Option Addr) (n c : Nat) (xs : List TStep) (w : World) (hz : xs.length = n) (hn : n ≤ 9223372036854775807) (hnc : n ≤ c) (ha : At w a (flStep xs)) :
    Calls Tryd.prog 33 #[.slice a n c] w fun e w' => e = .returned (.bool (gpB xs && heldB xs)) ∧ Below w.heap.size w w' := by
  have KG := Hid.mk (implGoodSteps a n c xs w hz hn ha)
  have HZ := Hid.mk hz
  have HA := Hid.mk ha
  clear hz ha
  go_enter Tryd.func33, Tryd.ntmps33
  go_wp2_with fail
  refine KG.out.mono ?_
  rintro e w1 ⟨rfl, hb1⟩
  clear KG
  cases hg : gpB xs with
  | false =>
    go_wp2
    go_ret
    exact ⟨ret_bool (by rw [hg]; rfl), hb1⟩
  | true =>
    have HG := Hid.mk hg
    have HB1 := Hid.mk hb1
    have hn40 : n ≤ 40 := by have := gp_len hg; have := HZ.out; omega
    clear hg hb1
    go_wp2
    go_loopw [10] (fun i wr => ∃ (k : Nat), k ≤ n ∧ i = .int .i64 k ∧ (∀ i, i < k → heldAt xs i = true) ∧ Below w.heap.size w wr) (fun i _ => n - (intOf i).toNat)
    case atStart => exact ⟨0, Nat.zero_le _, rfl, fun i h => by omega, HB1.out⟩
    case round =>
      clear HB1
      obtain ⟨k, hk, rfl, hin, hbw⟩ := hrel
      obtain ⟨wY, rfl⟩ : ∃ x, x = wr := ⟨_, rfl⟩
      have HIN := Hid.mk hin
      clear hin
      by_cases hlt : k < n
      · obtain ⟨⟨x0, x1, x2⟩, hx⟩ : ∃ x, xs[k]? = some x := ⟨_, List.getElem?_eq_getElem (by have := HZ.out; omega)⟩
        obtain ⟨b, off, rfl, hb, hc⟩ := flStep_some HA.out (by have := HZ.out; omega)
        obtain ⟨c0, c1, c2⟩ := hc k _ hx
        have c0 := (hbw.cell hb).trans c0
        have c1 := (hbw.cell hb).trans c1
        have c2 := (hbw.cell hb).trans c2
        have hgx := gp_at HG.out hx
        have hkx : k < xs.length := by have := HZ.out; omega
        simp only at c0 c1 c2 hgx
        have hx12 : x1 = 1 ∨ x1 = 2 := by omega
        have hki : (k : Int) < (n : Int) := by omega
        have HDEF : Hid (heldAt xs k = ((decide (k = 0) || lessS (xs.getD (k - 1) z3) (x0, x1, x2)) && (xs.take k).all fun y => !clB y (x0, x1, x2))) := Hid.mk (by
          unfold heldAt; rw [show xs.getD k z3 = (x0, x1, x2) by simp [List.getD, hx]])
        obtain ⟨V, hV⟩ : ∃ V, V = wY.alloc (.cells #[.int .i64 x0, .int .i64 x1, .int .i64 x2] 51) := ⟨_, rfl⟩
        have hbV : Below wY.heap.size wY V := by rw [hV]; exact (Below.refl _ _).alloc (Nat.le_refl _) _
        have v0 : V.cell? ⟨wY.heap.size, 0, none⟩ = some (.int .i64 x0) := by rw [hV]; simp
        have v1 : V.cell? ⟨wY.heap.size, 1, none⟩ = some (.int .i64 x1) := by rw [hV]; simp
        have v2 : V.cell? ⟨wY.heap.size, 2, none⟩ = some (.int .i64 x2) := by rw [hV]; simp
        have HB := Hid.mk (hbw.trans (hbV.mono hbw.size))
        have hkc : k ≤ c := by omega
        by_cases hk0 : k = 0
        · have hdk : decide (0 < k) = false := decide_eq_false (by omega)
          have hpk : ¬ 0 < k := by omega
          have HK0 := Hid.mk hk0
          clear hc hx hbw hbV hgx hk0
          go_upto_region 6 with fail
          rw [← hV]
          clear hV c0 c1 c2
          refine wp_region_held_drew (S := fun w' => w'.cell? ⟨wY.heap.size, 0, none⟩ = some (.int .i64 x0) ∧ w'.cell? ⟨wY.heap.size, 1, none⟩ = some (.int .i64 x1) ∧ w'.cell? ⟨wY.heap.size, 2, none⟩ = some (.int .i64 x2)) (by kernel_rfl) ?_ (fun hHeld => ?_)
          · (try dsimp only)
            exact ⟨v0, v1, v2⟩
          refine tk 0 ?_
          refine tk 1 ?_
          refine tk 2 ?_
          refine tu 3 ?_
          refine tu 4 ?_
          refine tu 5 ?_
          refine tu 6 ?_
          refine tu 7 ?_
          refine tu 8 ?_
          refine tu 9 ?_
          refine tu 10 ?_
          refine tk 11 ?_
          refine wpAnyH_done (by kernel_rfl) ?_ _
          obtain ⟨w2, hw2⟩ : ∃ u, u = V.drew := ⟨_, rfl⟩
          have bw2 : Below V.heap.size V w2 := by rw [hw2]; exact (Below.refl _ _).drew
          have v0 := cell_later bw2 v0
          have v1 := cell_later bw2 v1
          have v2 := cell_later bw2 v2
          have HB2 := Hid.mk (HB.out.trans (bw2.mono HB.out.size))
          rw [← hw2]
          clear hw2 bw2
          have KM : Hid (∀ w' : World, Below w2.heap.size w2 w' → Calls Tryd.prog 52 #[.slice (some ⟨b, off, none⟩) k c, .agg #[.int .i64 x0, .int .i64 x1, .int .i64 x2]] w' fun e w'' => e = .returned (mgV (byF (xs.take k) (x0, x1, x2))) ∧ Below w'.heap.size w' w'') := Hid.mk (fun w' hw' => mayGo_any _ k c (xs.take k) x0 x1 x2 w' (by rw [List.length_take]; have := HZ.out; omega) (by omega) (fun y hy => gp_ok HG.out (List.mem_of_mem_take hy)) hx12 (by rw [flStep_take]; exact flat_take _ (At.below (At.below HA.out HB2.out) hw')))
          cases hal : (xs.take k).all fun y => !clB y (x0, x1, x2) with
          | true =>
            have HM : Hid (mgV (byF (xs.take k) (x0, x1, x2)) = .nilIface) := Hid.mk (by
              have h9 := byF_zero (l := xs.take k) (x := (x0, x1, x2))
              rw [hal, beq_iff_eq] at h9
              unfold mgV; rw [if_pos h9])
            have HAT : Hid (heldAt xs k = true) := Hid.mk (by rw [HDEF.out, show decide (k = 0) = true from decide_eq_true HK0.out, Bool.true_or, hal]; rfl)
            clear hal
            go_upto_region 8 with fail
            refine wp_region_held_drew (S := fun w' => w'.cell? ⟨wY.heap.size, 0, none⟩ = some (.int .i64 x0) ∧ w'.cell? ⟨wY.heap.size, 1, none⟩ = some (.int .i64 x1) ∧ w'.cell? ⟨wY.heap.size, 2, none⟩ = some (.int .i64 x2)) (by kernel_rfl) ?_ (fun hHeld => ?_)
            · (try dsimp only)
              exact ⟨v0, v1, v2⟩
            refine tk 0 ?_
            refine tk 1 ?_
            refine tk 2 ?_
            refine tk 3 ?_
            refine tr 4 (fun K hK => ?_)
            go_simp
            go_at_call 52
            refine (KM.out _ (Below.refl _ _).drew).mono ?_
            rintro e w4 ⟨rfl, hb4⟩
            have hbd : Below w2.heap.size w2 w4 := (Below.refl _ _).drew.trans hb4
            have v0 := cell_later hbd v0
            have v1 := cell_later hbd v1
            have v2 := cell_later hbd v2
            have HB4 := Hid.mk (HB2.out.trans (hbd.mono HB2.out.size))
            rw [HM.out]
            clear hb4 hbd
            (try go_wp2_with fail)
            refine hK.out _ _ ?_ (fun hHeld' => ?_)
            · (try dsimp only)
              exact ⟨v0, v1, v2⟩
            clear hK K hHeld
            have hHeld := hHeld'
            clear hHeld'
            (try simp only [Act.put, List.setIfInBounds_toArray, List.set_cons_zero, List.set_cons_succ])
            refine tk 5 ?_
            refine wpAnyH_done (by kernel_rfl) ?_ _
            clear KM HM
            go_wp2
            go_roundw
            case rel => exact ⟨k + 1, by omega, by go_num, (fun i hi => by
              rcases Nat.lt_succ_iff_lt_or_eq.1 hi with h | rfl
              · exact HIN.out i h
              · exact HAT.out), HB4.out⟩
            case measure => simp [intOf]; omega
          | false =>
            obtain ⟨B, hB⟩ : ∃ B, byF (xs.take k) (x0, x1, x2) = B := ⟨_, rfl⟩
            have hB0 : B ≠ 0 := fun e => by
              have h9 := byF_zero (l := xs.take k) (x := (x0, x1, x2))
              rw [hal, hB, e] at h9
              cases h9
            have HM : Hid (mgV (byF (xs.take k) (x0, x1, x2)) = .iface 87 (.agg #[.int .u64 (B : Nat)])) := Hid.mk (by rw [hB]; exact if_neg hB0)
            have HAT : Hid (heldB xs = false) := Hid.mk (held_no hkx (by rw [HDEF.out, show decide (k = 0) = true from decide_eq_true HK0.out, Bool.true_or, hal]; rfl))
            clear hal hB hB0
            go_upto_region 8 with fail
            refine wp_region_held_drew (S := fun w' => w'.cell? ⟨wY.heap.size, 0, none⟩ = some (.int .i64 x0) ∧ w'.cell? ⟨wY.heap.size, 1, none⟩ = some (.int .i64 x1) ∧ w'.cell? ⟨wY.heap.size, 2, none⟩ = some (.int .i64 x2)) (by kernel_rfl) ?_ (fun hHeld => ?_)
            · (try dsimp only)
              exact ⟨v0, v1, v2⟩
            refine tk 0 ?_
            refine tk 1 ?_
            refine tk 2 ?_
            refine tk 3 ?_
            refine tr 4 (fun K hK => ?_)
            go_simp
            go_at_call 52
            refine (KM.out _ (Below.refl _ _).drew).mono ?_
            rintro e w4 ⟨rfl, hb4⟩
            have hbd : Below w2.heap.size w2 w4 := (Below.refl _ _).drew.trans hb4
            have v0 := cell_later hbd v0
            have v1 := cell_later hbd v1
            have v2 := cell_later hbd v2
            have HB4 := Hid.mk (HB2.out.trans (hbd.mono HB2.out.size))
            rw [HM.out]
            clear hb4 hbd
            (try go_wp2_with fail)
            refine hK.out _ _ ?_ (fun hHeld' => ?_)
            · (try dsimp only)
              exact ⟨v0, v1, v2⟩
            clear hK K hHeld
            have hHeld := hHeld'
            clear hHeld'
            (try simp only [Act.put, List.setIfInBounds_toArray, List.set_cons_zero, List.set_cons_succ])
            refine tk 5 ?_
            refine wpAnyH_done (by kernel_rfl) ?_ _
            clear KM HM
            go_wp2
            go_ret
            exact ⟨ret_bool (by rw [HAT.out, Bool.and_false]), HB4.out⟩
        · obtain ⟨⟨p0, p1, p2⟩, hp⟩ : ∃ x, xs[k - 1]? = some x := ⟨_, List.getElem?_eq_getElem (by have := HZ.out; omega)⟩
          obtain ⟨d0, d1, d2⟩ := hc (k - 1) _ hp
          have d0 := cell_later HB.out d0
          have d1 := cell_later HB.out d1
          have d2 := cell_later HB.out d2
          simp only at d0 d1 d2
          have hdk : decide (0 < k) = true := decide_eq_true (by omega)
          have hpk : 0 < k := by omega
          have hwk : IntKind.i64.wrap ((k : Int) - 1) = ((k - 1 : Nat) : Int) := by rw [IntWalk.i64_in _ (by omega)]; omega
          have hk1 : ((k - 1 : Nat) : Int) < (n : Int) := by omega
          have hk1n : k - 1 < n := by omega
          rw [show xs.getD (k - 1) z3 = (p0, p1, p2) by simp [List.getD, hp]] at HDEF
          obtain ⟨L, hL⟩ : ∃ L, cmpS (p0, p1, p2) (x0, x1, x2) = L := ⟨_, rfl⟩
          have hlL : L < 0 ↔ lessS (p0, p1, p2) (x0, x1, x2) = true := by rw [← hL]; exact cmpS_neg
          have HL := Hid.mk hL
          clear hc hx hp hbw hbV hgx hL
          by_cases hL0 : L < 0
          · have HLS := Hid.mk (hlL.1 hL0)
            have hL1 : ¬ 0 ≤ L := by omega
            clear hlL
            go_upto_region 6 with fail
            rw [← hV]
            clear hV c0 c1 c2
            refine wp_region_held_drew (S := fun w' => w'.cell? ⟨wY.heap.size, 0, none⟩ = some (.int .i64 x0) ∧ w'.cell? ⟨wY.heap.size, 1, none⟩ = some (.int .i64 x1) ∧ w'.cell? ⟨wY.heap.size, 2, none⟩ = some (.int .i64 x2) ∧ w'.cell? ⟨b, off + (k - 1) * 3, none⟩ = some (.int .i64 p0) ∧ w'.cell? ⟨b, off + (k - 1) * 3 + 1, none⟩ = some (.int .i64 p1) ∧ w'.cell? ⟨b, off + (k - 1) * 3 + 2, none⟩ = some (.int .i64 p2)) (by kernel_rfl) ?_ (fun hHeld => ?_)
            · (try dsimp only)
              exact ⟨v0, v1, v2, d0, d1, d2⟩
            refine tk 0 ?_
            refine tk 1 ?_
            refine tk 2 ?_
            refine tk 3 ?_
            refine tk 4 ?_
            refine tk 5 ?_
            refine tk 6 ?_
            refine tk 7 ?_
            refine tk 8 ?_
            refine tr 9 (fun K hK => ?_)
            go_simp
            go_at_call 51
            refine (compareLocks_any p0 p1 p2 x0 x1 x2 _).mono ?_
            rintro e w2 ⟨rfl, hb2⟩
            have hbd : Below V.heap.size V w2 := (Below.refl _ _).drew.trans hb2
            have v0 := cell_later hbd v0
            have v1 := cell_later hbd v1
            have v2 := cell_later hbd v2
            have d0 := cell_later hbd d0
            have d1 := cell_later hbd d1
            have d2 := cell_later hbd d2
            have HB2 := Hid.mk (HB.out.trans (hbd.mono HB.out.size))
            rw [HL.out]
            clear hb2 hbd
            (try go_wp2_with fail)
            refine hK.out _ _ ?_ (fun hHeld' => ?_)
            · (try dsimp only)
              exact ⟨v0, v1, v2, d0, d1, d2⟩
            clear hK K hHeld
            have hHeld := hHeld'
            clear hHeld'
            (try simp only [Act.put, List.setIfInBounds_toArray, List.set_cons_zero, List.set_cons_succ])
            refine tk 10 ?_
            refine tk 11 ?_
            refine wpAnyH_done (by kernel_rfl) ?_ _
            have KM : Hid (∀ w' : World, Below w2.heap.size w2 w' → Calls Tryd.prog 52 #[.slice (some ⟨b, off, none⟩) k c, .agg #[.int .i64 x0, .int .i64 x1, .int .i64 x2]] w' fun e w'' => e = .returned (mgV (byF (xs.take k) (x0, x1, x2))) ∧ Below w'.heap.size w' w'') := Hid.mk (fun w' hw' => mayGo_any _ k c (xs.take k) x0 x1 x2 w' (by rw [List.length_take]; have := HZ.out; omega) (by omega) (fun y hy => gp_ok HG.out (List.mem_of_mem_take hy)) hx12 (by rw [flStep_take]; exact flat_take _ (At.below (At.below HA.out HB2.out) hw')))
            cases hal : (xs.take k).all fun y => !clB y (x0, x1, x2) with
            | true =>
              have HM : Hid (mgV (byF (xs.take k) (x0, x1, x2)) = .nilIface) := Hid.mk (by
                have h9 := byF_zero (l := xs.take k) (x := (x0, x1, x2))
                rw [hal, beq_iff_eq] at h9
                unfold mgV; rw [if_pos h9])
              have HAT : Hid (heldAt xs k = true) := Hid.mk (by rw [HDEF.out, show decide (k = 0) = false from decide_eq_false (by omega), HLS.out, Bool.false_or, hal]; rfl)
              clear hal
              go_upto_region 8 with fail
              refine wp_region_held_drew (S := fun w' => w'.cell? ⟨wY.heap.size, 0, none⟩ = some (.int .i64 x0) ∧ w'.cell? ⟨wY.heap.size, 1, none⟩ = some (.int .i64 x1) ∧ w'.cell? ⟨wY.heap.size, 2, none⟩ = some (.int .i64 x2)) (by kernel_rfl) ?_ (fun hHeld => ?_)
              · (try dsimp only)
                exact ⟨v0, v1, v2⟩
              refine tk 0 ?_
              refine tk 1 ?_
              refine tk 2 ?_
              refine tk 3 ?_
              refine tr 4 (fun K hK => ?_)
              go_simp
              go_at_call 52
              refine (KM.out _ (Below.refl _ _).drew).mono ?_
              rintro e w4 ⟨rfl, hb4⟩
              have hbd : Below w2.heap.size w2 w4 := (Below.refl _ _).drew.trans hb4
              have v0 := cell_later hbd v0
              have v1 := cell_later hbd v1
              have v2 := cell_later hbd v2
              have HB4 := Hid.mk (HB2.out.trans (hbd.mono HB2.out.size))
              rw [HM.out]
              clear hb4 hbd
              (try go_wp2_with fail)
              refine hK.out _ _ ?_ (fun hHeld' => ?_)
              · (try dsimp only)
                exact ⟨v0, v1, v2⟩
              clear hK K hHeld
              have hHeld := hHeld'
              clear hHeld'
              (try simp only [Act.put, List.setIfInBounds_toArray, List.set_cons_zero, List.set_cons_succ])
              refine tk 5 ?_
              refine wpAnyH_done (by kernel_rfl) ?_ _
              clear KM HM
              go_wp2
              go_roundw
              case rel => exact ⟨k + 1, by omega, by go_num, (fun i hi => by
                rcases Nat.lt_succ_iff_lt_or_eq.1 hi with h | rfl
                · exact HIN.out i h
                · exact HAT.out), HB4.out⟩
              case measure => simp [intOf]; omega
            | false =>
              obtain ⟨B, hB⟩ : ∃ B, byF (xs.take k) (x0, x1, x2) = B := ⟨_, rfl⟩
              have hB0 : B ≠ 0 := fun e => by
                have h9 := byF_zero (l := xs.take k) (x := (x0, x1, x2))
                rw [hal, hB, e] at h9
                cases h9
              have HM : Hid (mgV (byF (xs.take k) (x0, x1, x2)) = .iface 87 (.agg #[.int .u64 (B : Nat)])) := Hid.mk (by rw [hB]; exact if_neg hB0)
              have HAT : Hid (heldB xs = false) := Hid.mk (held_no hkx (by rw [HDEF.out, show decide (k = 0) = false from decide_eq_false (by omega), HLS.out, Bool.false_or, hal]; rfl))
              clear hal hB hB0
              go_upto_region 8 with fail
              refine wp_region_held_drew (S := fun w' => w'.cell? ⟨wY.heap.size, 0, none⟩ = some (.int .i64 x0) ∧ w'.cell? ⟨wY.heap.size, 1, none⟩ = some (.int .i64 x1) ∧ w'.cell? ⟨wY.heap.size, 2, none⟩ = some (.int .i64 x2)) (by kernel_rfl) ?_ (fun hHeld => ?_)
              · (try dsimp only)
                exact ⟨v0, v1, v2⟩
              refine tk 0 ?_
              refine tk 1 ?_
              refine tk 2 ?_
              refine tk 3 ?_
              refine tr 4 (fun K hK => ?_)
              go_simp
              go_at_call 52
              refine (KM.out _ (Below.refl _ _).drew).mono ?_
              rintro e w4 ⟨rfl, hb4⟩
              have hbd : Below w2.heap.size w2 w4 := (Below.refl _ _).drew.trans hb4
              have v0 := cell_later hbd v0
              have v1 := cell_later hbd v1
              have v2 := cell_later hbd v2
              have HB4 := Hid.mk (HB2.out.trans (hbd.mono HB2.out.size))
              rw [HM.out]
              clear hb4 hbd
              (try go_wp2_with fail)
              refine hK.out _ _ ?_ (fun hHeld' => ?_)
              · (try dsimp only)
                exact ⟨v0, v1, v2⟩
              clear hK K hHeld
              have hHeld := hHeld'
              clear hHeld'
              (try simp only [Act.put, List.setIfInBounds_toArray, List.set_cons_zero, List.set_cons_succ])
              refine tk 5 ?_
              refine wpAnyH_done (by kernel_rfl) ?_ _
              clear KM HM
              go_wp2
              go_ret
              exact ⟨ret_bool (by rw [HAT.out, Bool.and_false]), HB4.out⟩
          · have HNO : Hid (heldB xs = false) := Hid.mk (held_no hkx (by
              rw [HDEF.out, decide_eq_false hk0, Bool.eq_false_iff.2 (fun h => hL0 (hlL.2 h))]; rfl))
            have hL1 : 0 ≤ L := by omega
            clear hlL
            go_upto_region 6 with fail
            rw [← hV]
            clear hV c0 c1 c2
            refine wp_region_held_drew (S := fun w' => w'.cell? ⟨wY.heap.size, 0, none⟩ = some (.int .i64 x0) ∧ w'.cell? ⟨wY.heap.size, 1, none⟩ = some (.int .i64 x1) ∧ w'.cell? ⟨wY.heap.size, 2, none⟩ = some (.int .i64 x2) ∧ w'.cell? ⟨b, off + (k - 1) * 3, none⟩ = some (.int .i64 p0) ∧ w'.cell? ⟨b, off + (k - 1) * 3 + 1, none⟩ = some (.int .i64 p1) ∧ w'.cell? ⟨b, off + (k - 1) * 3 + 2, none⟩ = some (.int .i64 p2)) (by kernel_rfl) ?_ (fun hHeld => ?_)
            · (try dsimp only)
              exact ⟨v0, v1, v2, d0, d1, d2⟩
            refine tk 0 ?_
            refine tk 1 ?_
            refine tk 2 ?_
            refine tk 3 ?_
            refine tk 4 ?_
            refine tk 5 ?_
            refine tk 6 ?_
            refine tk 7 ?_
            refine tk 8 ?_
            refine tr 9 (fun K hK => ?_)
            go_simp
            go_at_call 51
            refine (compareLocks_any p0 p1 p2 x0 x1 x2 _).mono ?_
            rintro e w2 ⟨rfl, hb2⟩
            have hbd : Below V.heap.size V w2 := (Below.refl _ _).drew.trans hb2
            have v0 := cell_later hbd v0
            have v1 := cell_later hbd v1
            have v2 := cell_later hbd v2
            have d0 := cell_later hbd d0
            have d1 := cell_later hbd d1
            have d2 := cell_later hbd d2
            have HB2 := Hid.mk (HB.out.trans (hbd.mono HB.out.size))
            rw [HL.out]
            clear hb2 hbd
            (try go_wp2_with fail)
            refine hK.out _ _ ?_ (fun hHeld' => ?_)
            · (try dsimp only)
              exact ⟨v0, v1, v2, d0, d1, d2⟩
            clear hK K hHeld
            have hHeld := hHeld'
            clear hHeld'
            (try simp only [Act.put, List.setIfInBounds_toArray, List.set_cons_zero, List.set_cons_succ])
            refine tk 10 ?_
            refine tk 11 ?_
            refine wpAnyH_done (by kernel_rfl) ?_ _
            go_wp2
            go_ret
            exact ⟨ret_bool (by rw [HNO.out, Bool.and_false]), HB2.out⟩
      · obtain rfl : k = n := by omega
        have hki : ¬ (k : Int) < (k : Int) := by omega
        have HALL : Hid (heldB xs = true) := Hid.mk (held_all (fun i hi => HIN.out i (by have := HZ.out; omega)))
        go_wp2
        go_ret
        exact ⟨ret_bool (by rw [HG.out, HALL.out]; rfl), hbw⟩

end Go.Proofs.YtjjebodlekepaaaDoor

/- Contracts of impl.isNoTxn, of slices.IndexFunc and slices.ContainsFunc at it. -/
namespace Go.Proofs.YtjjebodlekepaaaDoor
open Go.RowKit

def tOk (x : Int) : Bool := decide (0 ≤ x) && decide (x < 6)
theorem tOk_iff {x : Int} : tOk x = true ↔ 0 ≤ x ∧ x < 6 := by simp [tOk]

theorem isNoTxnT_any (x : Int) (w : World) :
    Calls Tryd.prog 58 #[.int .i64 x] w fun e w' => e = .returned (.bool (!tOk x)) ∧ w' = w := by
  by_cases h0 : x < 0
  · have hv : tOk x = false := by unfold tOk; rw [decide_eq_false (by omega)]; rfl
    rw [hv]
    go_enter Tryd.func58, Tryd.ntmps58
    go_wp2
    go_ret
    exact ⟨rfl, rfl⟩
  · by_cases h1 : x < 6
    · have hv : tOk x = true := tOk_iff.2 ⟨by omega, h1⟩
      have h2 : ¬ (6 : Int) ≤ x := by omega
      rw [hv]
      go_enter Tryd.func58, Tryd.ntmps58
      go_wp2
      go_ret
      exact ⟨ret_bool (by simp <;> omega), rfl⟩
    · have hv : tOk x = false := by unfold tOk; rw [decide_eq_false h1, Bool.and_false]
      rw [hv]
      go_enter Tryd.func58, Tryd.ntmps58
      go_wp2
      go_ret
      exact ⟨ret_bool (by simp <;> omega), rfl⟩


set_option maxHeartbeats 1000000 in
theorem indexNoTxn_any (a : Option Addr) (n c : Nat) (zs : List Int) (w : World) (hz : zs.length = n) (hn : n ≤ 9223372036854775807) (ha : At w a zs) :
    Calls Tryd.prog 71 #[.slice a n c, .func (.func 58) #[] #[]] w fun e w' => ∃ k : Int, e = .returned (.int .i64 k) ∧ (zs.all tOk = true → k = -1) ∧ (zs.all tOk = false → 0 ≤ k) ∧ w' = w := by
  by_cases h0 : n = 0
  · subst h0
    obtain rfl := List.eq_nil_of_length_eq_zero hz
    go_enter Tryd.func71, Tryd.ntmps71
    go_wp2
    refine wp_loop_rounds 1 ?_
    rw [rounds_succ]
    go_wp2
    go_ret
    exact ⟨-1, rfl, fun _ => rfl, fun h => (by cases h), rfl⟩
  · obtain ⟨b, off, rfl, hb, hc⟩ := ha.some (by omega)
    clear ha
    go_enter Tryd.func71, Tryd.ntmps71
    go_wp2
    go_loopw [8] (fun i wr => ∃ (k : Nat), k ≤ n ∧ i = .int .i64 k ∧ zs.all tOk = (zs.drop k).all tOk ∧ wr = w) (fun i _ => n - (intOf i).toNat)
    case atStart => exact ⟨0, Nat.zero_le _, rfl, rfl, rfl⟩
    case round =>
      obtain ⟨k, hk, rfl, ht, rfl⟩ := hrel
      by_cases hlt : k < n
      · have hcx : wr.cell? ⟨b, off + k, none⟩ = some (.int .i64 (zs.getD k 0)) := hc k (by omega)
        have hd : zs.drop k = zs.getD k 0 :: zs.drop (k + 1) := by rw [List.drop_eq_getElem_cons (by omega)]; simp [List.getD, show k < zs.length by omega]
        rw [hd] at ht
        obtain ⟨y, hy⟩ : ∃ y, y = zs.getD k 0 := ⟨_, rfl⟩
        rw [← hy, List.all_cons] at ht
        rw [← hy] at hcx
        have HT := Hid.mk ht
        clear hc hy ht hd
        cases hr : tOk y with
        | false =>
          go_wp2_with fail
          refine (isNoTxnT_any y wr).mono ?_
          rintro e w1 ⟨rfl, rfl⟩
          rw [hr]
          go_wp2
          go_ret
          exact ⟨k, rfl, fun h => (by rw [HT.out, hr] at h; cases h), fun _ => (by omega), rfl⟩
        | true =>
          go_wp2_with fail
          refine (isNoTxnT_any y wr).mono ?_
          rintro e w1 ⟨rfl, rfl⟩
          rw [hr]
          go_wp2
          go_roundw
          case rel => exact ⟨k + 1, by omega, by go_num, by rw [HT.out, hr]; rfl, trivial⟩
          case measure => simp [intOf]; omega
      · rw [List.drop_of_length_le (by omega)] at ht
        have HT := Hid.mk ht
        clear ht
        go_wp2
        go_ret
        exact ⟨-1, rfl, fun _ => rfl, fun h => (by rw [HT.out] at h; cases h), rfl⟩

theorem noTxns_any (a : Option Addr) (n c : Nat) (zs : List Int) (w : World) (hz : zs.length = n) (hn : n ≤ 9223372036854775807) (ha : At w a zs) :
    Calls Tryd.prog 57 #[.slice a n c, .func (.func 58) #[] #[]] w fun e w' => e = .returned (.bool (!zs.all tOk)) ∧ w' = w := by
  have HC := Hid.mk (indexNoTxn_any a n c zs w hz hn ha)
  clear ha hz
  cases hr : zs.all tOk with
  | false =>
    rw [hr] at HC
    go_enter Tryd.func57, Tryd.ntmps57
    go_wp2_with fail
    refine HC.out.mono ?_
    rintro e w1 ⟨k, rfl, _, h2, rfl⟩
    have hk := h2 trivial
    go_wp2
    go_ret
    exact ⟨ret_bool (by simp <;> omega), rfl⟩
  | true =>
    rw [hr] at HC
    go_enter Tryd.func57, Tryd.ntmps57
    go_wp2_with fail
    refine HC.out.mono ?_
    rintro e w1 ⟨k, rfl, h1, _, rfl⟩
    obtain rfl := h1 trivial
    go_wp2
    go_ret
    exact ⟨rfl, rfl⟩

end Go.Proofs.YtjjebodlekepaaaDoor

/- Contract of impl.txnsIn. -/
namespace Go.Proofs.YtjjebodlekepaaaDoor
open Go.RowKit

set_option maxRecDepth 100000 in
set_option maxHeartbeats 1000000 in
theorem txnsIn_any (a : Option Addr) (n c : Nat) (xs : List TStep) (w : World) (hz : xs.length = n) (hg : gpB xs = true) (ha : At w a (flStep xs)) :
    Calls Tryd.prog 36 #[.slice a n c] w fun e w' => e = .returned (.int .u64 (txS xs : Nat)) ∧ Below w.heap.size w w' := by
  have hn40 : n ≤ 40 := by have := gp_len hg; omega
  have HZ := Hid.mk hz
  have HA := Hid.mk ha
  have HG := Hid.mk hg
  clear hz ha hg
  go_enter Tryd.func36, Tryd.ntmps36
  go_wp2_with fail
  go_loopw [3, 8] (fun p i wr => ∃ (k : Nat), k ≤ n ∧ i = .int .i64 k ∧ p = .int .u64 (txS (xs.take k) : Nat) ∧ Below w.heap.size w wr) (fun _ i _ => n - (intOf i).toNat)
  case atStart => exact ⟨0, Nat.zero_le _, rfl, rfl, Below.refl _ _⟩
  case round =>
    obtain ⟨k, hk, rfl, rfl, hbw⟩ := hrel
    obtain ⟨wY, rfl⟩ : ∃ x, x = wr := ⟨_, rfl⟩
    by_cases hlt : k < n
    · obtain ⟨⟨x0, x1, x2⟩, hx⟩ : ∃ x, xs[k]? = some x := ⟨_, List.getElem?_eq_getElem (by have := HZ.out; omega)⟩
      obtain ⟨b, off, rfl, hb, hc⟩ := flStep_some HA.out (by have := HZ.out; omega)
      obtain ⟨c0, c1, c2⟩ := hc k _ hx
      have c0 := (hbw.cell hb).trans c0
      have c1 := (hbw.cell hb).trans c1
      have c2 := (hbw.cell hb).trans c2
      have hgx := gp_at HG.out hx
      simp only at c0 c1 c2 hgx
      have hx0 : 0 ≤ x0 := hgx.1
      have hx6 : x0 < 6 := hgx.2.1
      have hki : (k : Int) < (n : Int) := by omega
      obtain ⟨S, hS⟩ : ∃ S, txS (xs.take k) = S := ⟨_, rfl⟩
      have hS6 : S < 64 := by rw [← hS]; exact txS_lt fun y hy => (gp_txn HG.out y (List.mem_of_mem_take hy)).2
      have HN : Hid (txS (xs.take (k + 1)) = S ||| 2 ^ x0.toNat) := Hid.mk (by rw [txS_take hx, hS])
      rw [hS]
      obtain ⟨V, hV⟩ : ∃ V, V = wY.alloc (.cells #[.int .i64 x0, .int .i64 x1, .int .i64 x2] 51) := ⟨_, rfl⟩
      have v0 : V.cell? ⟨wY.heap.size, 0, none⟩ = some (.int .i64 x0) := by rw [hV]; simp
      have HB : Hid (Below w.heap.size w V) := Hid.mk (by rw [hV]; exact hbw.alloc hbw.size _)
      clear hc hx hS hbw hgx
      go_upto_region 5 with fail
      rw [← hV]
      clear hV c0 c1 c2
      go_wp2
      go_roundw
      case rel => exact ⟨k + 1, by omega, by go_num, by rw [HN.out, or_pow hS6 hx0 hx6], HB.out⟩
      case measure => simp [intOf]; omega
    · obtain rfl : k = n := by omega
      have hki : ¬ (k : Int) < (k : Int) := by omega
      rw [List.take_of_length_le (by have := HZ.out; omega)]
      go_wp2
      go_ret
      exact ⟨rfl, hbw⟩

end Go.Proofs.YtjjebodlekepaaaDoor

/- Contracts of math/bits.TrailingZeros at sets of columns, and of columnSet.list. -/
namespace Go.Proofs.YtjjebodlekepaaaDoor
open Go.RowKit

theorem TabIs.below {P : Program} {w w' : World} {name : String} {k : IntKind} {ns : List Int} (h : Lib.TabIs P w name k ns) (hb : Below w.heap.size w w') : Lib.TabIs P w' name k ns := by
  unfold Lib.TabIs World.var? at *
  cases hg : P.globalNamed name with
  | none => rw [hg] at h; cases h
  | some g =>
    rw [hg] at h
    simp only [Option.bind_some] at h ⊢
    have hlt : g < w.heap.size := by
      by_cases hl : g < w.heap.size
      · exact hl
      · rw [Array.getElem?_eq_none (by omega)] at h
        cases h
    rw [hb.block g hlt]
    exact h

/-- The table that TrailingZeros reads. -/
def deB : List Int := Lib.deBruijn64tab.map Int.ofNat
abbrev TabB (w : World) : Prop := Lib.TabIs Tryd.prog w "math/bits.deBruijn64tab" .u8 deB
theorem gTab : Tryd.prog.globalNamed "math/bits.deBruijn64tab" = some 2 := by kernel_rfl

/-- The first column of a set. -/
def tz (x : Nat) : Nat := ((List.range 6).find? (fun i => x.testBit i)).getD 0
def tzAt (x : Nat) : Nat := (x &&& (18446744073709551616 - x)) * 285870213051353865 % 18446744073709551616 / 288230376151711744
theorem tz_key : ∀ x : Nat, x < 64 → x ≠ 0 → tzAt x < 64 ∧ Lib.deBruijn64tab.getD (tzAt x) 0 = tz x ∧ tz x < 6 := by decide +kernel
theorem bl_step : ∀ x : Nat, x < 64 → x ≠ 0 → bl x = (tz x : Int) :: bl (x &&& (x - 1)) ∧ (x &&& (x - 1)) < x := by decide +kernel
theorem bl_zero : bl 0 = [] := by decide +kernel
theorem deB_at : ∀ i : Nat, i < 64 → deB.getD i 0 = (Lib.deBruijn64tab.getD i 0 : Nat) := by decide +kernel

theorem tz_wrap {x : Nat} (hx : x < 64) (h0 : x ≠ 0) :
    IntKind.u64.wrap (bits BinOp.and IntKind.u64 (x : Int) (IntKind.u64.wrap (-(x : Int))) * 285870213051353865) / 288230376151711744 = (tzAt x : Int) := by
  have e0 : ∀ n : Int, IntKind.u64.wrap n = n % 18446744073709551616 := fun n => by simp [IntKind.wrap, IntKind.bits, IntKind.signed]
  have e1 : IntKind.u64.wrap (-(x : Int)) = ((18446744073709551616 - x : Nat) : Int) := by rw [e0]; omega
  rw [e1, u64_and_nat x _ (by omega) (by omega), e0]
  unfold tzAt
  omega

set_option maxHeartbeats 1000000 in
theorem tz64_any (x : Nat) (w : World) (hx : x < 64) (h0 : x ≠ 0) (ht : TabB w) :
    Calls Tryd.prog 70 #[.int .u64 (x : Nat)] w fun e w' => e = .returned (.int .i64 (tz x : Nat)) ∧ w' = w := by
  obtain ⟨k1, k2, k3⟩ := tz_key x hx h0
  have key := tz_wrap hx h0
  have hc := Lib.TabIs.cell ht gTab (tzAt x) (by show tzAt x < 64; exact k1)
  rw [deB_at _ k1, k2] at hc
  have hb : ((x : Int) == 0) = false := beq_eq_false_iff_ne.2 (by omega)
  obtain ⟨I, hI⟩ : ∃ I, tzAt x = I := ⟨_, rfl⟩
  obtain ⟨Z, hZ⟩ : ∃ Z, tz x = Z := ⟨_, rfl⟩
  rw [hI] at key hc k1
  rw [hZ] at hc k3 ⊢
  clear ht k2 hI hZ
  go_enter Tryd.func70, Tryd.ntmps70
  go_wp2_with (simp only [key])
  go_ret
  exact ⟨rfl, rfl⟩

theorem tz_any (x : Nat) (w : World) (hx : x < 64) (h0 : x ≠ 0) (ht : TabB w) :
    Calls Tryd.prog 56 #[.int .u64 (x : Nat)] w fun e w' => e = .returned (.int .i64 (tz x : Nat)) ∧ w' = w := by
  have K := Hid.mk (tz64_any x w hx h0 ht)
  clear ht
  go_enter Tryd.func56, Tryd.ntmps56
  go_wp2_with fail
  refine K.out.mono ?_
  rintro e w1 ⟨rfl, rfl⟩
  go_wp2
  go_ret
  exact ⟨rfl, rfl⟩

set_option maxRecDepth 100000 in
set_option maxHeartbeats 2000000 in
theorem list_any (S : Nat) (w : World) (hS : S < 64) (ht : TabB w) :
    Calls Tryd.prog 37 #[.int .u64 (S : Nat)] w fun e w' => ∃ r m d, e = .returned (.slice r m d) ∧ (bl S).length = m ∧ w'.ownsRow w.heap.size 3 1 (.slice r m d) m ((bl S).map (.int .i64)) ∧ Below w.heap.size w w' := by
  obtain ⟨i0, hi, hz0, hz1, hz2⟩ := info_parts Tryd.infoInt
  have HT := Hid.mk ht
  clear ht
  go_enter Tryd.func37, Tryd.ntmps37
  go_wp2
  go_loopg [0, 3] S (fun g p q wr => ∃ (s : Nat) (zs : List Int) (r : Option Addr) (m d : Nat), s = g ∧ s < 64 ∧ p = .int .u64 (s : Nat) ∧ q = .slice r m d ∧ bl S = zs ++ bl s ∧ zs.length = m ∧ wr.ownsRow w.heap.size 3 1 (.slice r m d) m (zs.map (.int .i64)) ∧ Below w.heap.size w wr)
  case atStart => exact ⟨S, [], none, 0, 0, rfl, hS, rfl, rfl, rfl, rfl, World.ownsRow_nil _ _ _ _, Below.refl _ _⟩
  case round =>
    obtain ⟨s, zs, r, m, d, rfl, hs, rfl, rfl, hbl, hm, hown, hbw⟩ := hrel
    by_cases h0 : s = 0
    · have HB : Hid (bl S = zs) := by show _ = _; rw [hbl, h0, bl_zero, List.append_nil]
      have hsb : ((s : Int) != 0) = false := by rw [h0]; rfl
      have HO := Hid.mk hown
      have HM := Hid.mk hm
      clear hbl hown hm
      go_wp2
      go_ret
      exact ⟨r, m, d, rfl, by rw [HB.out]; exact HM.out, by rw [HB.out]; exact HO.out, hbw⟩
    · obtain ⟨b1, b2⟩ := bl_step s hs h0
      have hm6 : m ≤ 6 := by have h9 := bl_len S; rw [hbl, List.length_append] at h9; omega
      rw [b1] at hbl
      have hsb : ((s : Int) != 0) = true := bne_iff_ne.2 (by omega)
      have hsub : IntKind.u64.wrap ((s : Int) - 1) = ((s - 1 : Nat) : Int) := by
        rw [show (s : Int) - 1 = ((s - 1 : Nat) : Int) by omega]; exact wrap64_small (by omega)
      have hand := u64_and_nat s (s - 1) (by omega) (by omega)
      have K := Hid.mk (tz_any s wr hs h0 (TabIs.below HT.out hbw))
      obtain ⟨Z, hZ⟩ : ∃ Z, tz s = Z := ⟨_, rfl⟩
      obtain ⟨Q, hQ⟩ : ∃ Q, s &&& (s - 1) = Q := ⟨_, rfl⟩
      rw [hZ] at hbl K
      rw [hQ] at hbl hand b2
      have HBL := Hid.mk hbl
      have HM := Hid.mk hm
      have HO := Hid.mk hown
      have HB := Hid.mk hbw
      have z := hbw.size
      clear hbl hm hown hbw hZ hQ b1 h0
      go_wp2_with fail
      refine K.out.mono ?_
      rintro e w1 ⟨rfl, rfl⟩
      go_wp2_with (at_builtin; refine wpList_append_lies _ rfl (.tmp 6) (.tmp 9) 23 rfl w.heap.size 3 i0 (.int .i64 0) 1 8 Tryd.underlying23 hi hz0 hz1 hz2 rfl (by decide) _ _ _ rfl (HO.out.alloc _) ⟨w1.heap.size, 0, none⟩ 1 1 [.int .i64 (Z : Nat)] rfl rfl (news_at w1 _ _) (by intro u hu; simp at hu; subst hu; rfl) (by decide) (by unfold maxLen; omega) (by omega) (by simp; omega) (w1.heap.size + 1) (by simp) ?_)
      intro g3 cap3 w3 ho3 hg3 hat3 hlt3
      have HB3 : Hid (Below w.heap.size w w3) := (HB.out.alloc z _).grown hg3 (by simp; omega) (fun j hj => (HO.out.lt j hj).1)
      have HO3 : Hid (w3.ownsRow w.heap.size 3 1 (.slice (some ⟨g3, 0, none⟩) (m + 1) cap3) (m + 1) ((zs ++ [(Z : Int)]).map (.int .i64))) := by
        show World.ownsRow _ _ _ _ _ _ _
        rw [List.map_append]; exact ho3
      clear ho3 hg3 hat3 HO HB K
      go_wp2
      go_roundg Q
      case measure => omega
      case rel => exact ⟨Q, zs ++ [(Z : Int)], some ⟨g3, 0, none⟩, m + 1, cap3, rfl, by omega, rfl, rfl, by rw [HBL.out]; simp, by have := HM.out; simp; omega, HO3.out, HB3.out⟩

end Go.Proofs.YtjjebodlekepaaaDoor
