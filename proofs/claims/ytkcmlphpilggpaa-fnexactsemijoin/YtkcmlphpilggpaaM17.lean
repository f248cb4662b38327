/- Contracts of spec.l1In, spec.l2Weight, spec.GoodTable. -/
import Derived.Test.YtkcmlphpilggpaaM6
import Derived.Test.YtkcmlphpilggpaaM16
namespace Go.Proofs.Ytkcmlphpilggpaa
open Go.RowKit

theorem l2Weight_any (x : Int) (w : World) :
    Calls Try.prog 69 #[.int .i64 x] w fun e w' => e = .returned (.bool (inw x)) ∧ w' = w := by
  go_enter Try.func69, Try.ntmps69
  go_wp2_with (go_at_call 54; refine (l1In_any _ _ _ _).mono ?_; rintro e w2 ⟨rfl, rfl⟩)
  go_ret
  exact ⟨ret_bool rfl, rfl⟩



set_option maxHeartbeats 2000000 in
theorem specGoodTable_any (a : Option Addr) (n c : Nat) (ts : List WRow) (p : Int) (w : World) (hz : ts.length = n) (hn : n ≤ 1048576) (ha : AtW w a ts) :
    Calls Try.prog 41 #[.agg #[.int .i64 p, .slice a n c]] w fun e w' => e = .returned (.bool (goodT p ts)) ∧ Below w.heap.size w w' := by
  have B0 : Below w.heap.size w (w.alloc (.cells #[.int .i64 p, .slice a n c] 47)) := (Below.refl _ _).alloc (Nat.le_refl _) _
  have HA := ha.below B0
  clear ha
  go_enter Try.func41, Try.ntmps41
  go_wp2
  have cp0 := pair0 w (.int .i64 p) (.slice a n c) 47
  have ct0 := pair1 w (.int .i64 p) (.slice a n c) 47
  obtain ⟨w1, hw1⟩ : ∃ w1, w1 = w.alloc (.cells #[.int .i64 p, .slice a n c] 47) := ⟨_, rfl⟩
  rw [← hw1] at B0 HA cp0 ct0 ⊢
  clear hw1
  go_loopw [8] (fun i wr => ∃ (k : Nat), k ≤ n ∧ i = .int .i64 k ∧ (∀ j, j < k → stepB p ts j = true ∨ False) ∧ Below w1.heap.size w1 wr) (fun i _ => n - (intOf i).toNat)
  case atStart => exact ⟨0, Nat.zero_le _, rfl, fun j hj => by omega, Below.refl _ _⟩
  case round =>
    obtain ⟨k, hk, rfl, hall0, hbw⟩ := hrel
    have hall : ∀ j, j < k → stepB p ts j = true := fun j hj => (hall0 j hj).resolve_right id
    clear hall0
    have B2 := B0.trans (hbw.mono B0.size)
    have cp := cell_later hbw cp0
    have ct := cell_later hbw ct0
    have HA1 := HA.below hbw
    clear cp0 ct0 HA
    by_cases hlt : k < n
    · obtain ⟨b, off, rfl, hc⟩ := HA1.some (by omega)
      obtain ⟨q, d, hcx, hwx, hm, hat⟩ := hc k (by omega)
      have HF : Hid (stepB p ts k = false → goodT p ts = false) := fun h => goodT_not k (by omega) h
      have HW : Hid (goodW p (wat ts k) = false → stepB p ts k = false) := fun h => stepB_row h
      have HZ : Hid ((wat ts k).2 = 0 → stepB p ts k = false) := fun h => stepB_zero h
      have HC : Hid (k ≠ 0 → ¬ cmp (wat ts (k - 1)).1 (wat ts k).1 < 0 → stepB p ts k = false) := fun h0 h => stepB_cmp h0 h
      have HS : Hid (goodW p (wat ts k) = true → (wat ts k).2 ≠ 0 → (k = 0 ∨ cmp (wat ts (k - 1)).1 (wat ts k).1 < 0) → ∀ j, j < k + 1 → stepB p ts j = true ∨ False) := fun h0 h1 h2 j hj => by
        by_cases e : j = k
        · subst e; exact .inl (stepB_mk h0 h1 h2)
        · exact .inl (hall j (by omega))
      have hprev : k ≠ 0 → ∃ q' m' d', wr.cell? ⟨b, off + (k - 1) * 2, none⟩ = some (.slice q' m' d') ∧ (wat ts (k - 1)).1.length = m' ∧ m' ≤ 6 ∧ At wr q' (wat ts (k - 1)).1 := fun h0 => by
        obtain ⟨q', d', h1, _, _, h2⟩ := hc (k - 1) (by omega)
        exact ⟨q', _, d', h1, rfl, good_len (goodW_cells (stepB_good (hall (k - 1) (by omega)))).1, h2⟩
      have hki : (k : Int) < (n : Int) := by omega
      clear hc hall
      obtain ⟨zs', hzs'⟩ : ∃ z, z = (wat ts (k - 1)).1 := ⟨_, rfl⟩
      rw [← hzs'] at HC HS hprev
      clear hzs'
      generalize wat ts k = Y at *
      obtain ⟨ys, x⟩ := Y
      simp only at hcx hwx hat hm
      obtain ⟨m, hmm⟩ : ∃ m, ys.length = m := ⟨_, rfl⟩
      rw [hmm] at hcx hm
      have HM := Hid.mk hmm
      clear hmm
      obtain ⟨W, hW⟩ : ∃ W, W = wr.alloc (.cells #[.slice q m d, .int .i64 x] 99) := ⟨_, rfl⟩
      have hbW : Below wr.heap.size wr W := by rw [hW]; exact (Below.refl _ _).alloc (Nat.le_refl _) _
      have c2 := cell_later hbW ct
      have c1 := cell_later hbW cp
      have c3 : W.cell? ⟨wr.heap.size, 0, none⟩ = some (.slice q m d) := by rw [hW]; exact pair0 wr _ _ _
      have c4 : W.cell? ⟨wr.heap.size, 1, none⟩ = some (.int .i64 x) := by rw [hW]; exact pair1 wr _ _ _
      have HAx := hat.below hbW
      have BW := B2.trans (hbW.mono B2.size)
      have BV := hbw.trans (hbW.mono hbw.size)
      have hprevW : k ≠ 0 → ∃ q' m' d', W.cell? ⟨b, off + (k - 1) * 2, none⟩ = some (.slice q' m' d') ∧ zs'.length = m' ∧ m' ≤ 6 ∧ At W q' zs' := fun h0 => by
        obtain ⟨q', m', d', h1, h2, h3, h4⟩ := hprev h0
        exact ⟨q', m', d', cell_later hbW h1, h2, h3, h4.below hbW⟩
      clear hprev HA1 hat B2

      cases hg : good ys with
      | false =>
        have HG := Hid.mk hg
        clear hg hprevW
        go_wp2_with fail
        rw [← hW]
        clear hW hcx hwx hbW
        refine wp_region_held_drew (S := fun w' => w'.cell? ⟨w.heap.size, 0, none⟩ = some (.int .i64 p) ∧ w'.cell? ⟨w.heap.size, 1, none⟩ = some (.slice (some ⟨b, off, none⟩) n c) ∧ w'.cell? ⟨wr.heap.size, 0, none⟩ = some (.slice q m d) ∧ w'.cell? ⟨wr.heap.size, 1, none⟩ = some (.int .i64 x)) (by kernel_rfl) ?_ (fun hHeld => ?_)
        · (try dsimp only)
          (refine ⟨?_, ?_, ?_, ?_⟩ <;> assumption)
        refine tk 0 ?_
        refine tk 1 ?_
        refine tr 2 (fun K hK => ?_)
        go_simp
        go_at_call 68; refine (specGoodRow_any _ _ _ ys _ HM.out hm HAx.drew).mono ?_; rintro e w2 ⟨rfl, hb2⟩; rw [HG.out]; have r1 := cell_later hb2 c1; have r2 := cell_later hb2 c2; have r3 := cell_later hb2 c3; have r4 := cell_later hb2 c4
        (try go_wp2_with fail)
        refine hK.out _ _ ?_ (fun hHeld' => ?_)
        · (try dsimp only)
          (refine ⟨?_, ?_, ?_, ?_⟩ <;> assumption)
        clear hK K hHeld
        have hHeld := hHeld'
        clear hHeld'
        (try simp only [Act.put, List.setIfInBounds_toArray, List.set_cons_zero, List.set_cons_succ])
        refine tk 3 ?_
        refine tk 4 ?_
        refine tu 5 ?_
        refine tu 6 ?_
        refine tu 7 ?_
        refine tu 8 ?_
        refine tu 9 ?_
        refine tu 10 ?_
        refine tu 11 ?_
        refine tk 12 ?_
        refine tk 13 ?_
        refine tu 14 ?_
        refine tu 15 ?_
        refine tu 16 ?_
        refine tu 17 ?_
        refine tk 18 ?_
        refine tk 19 ?_
        refine tu 20 ?_
        refine tu 21 ?_
        refine tu 22 ?_
        refine tk 23 ?_
        refine tk 24 ?_
        refine tu 25 ?_
        refine tu 26 ?_
        refine tu 27 ?_
        refine tu 28 ?_
        refine tu 29 ?_
        refine tu 30 ?_
        refine tu 31 ?_
        refine tu 32 ?_
        refine tu 33 ?_
        refine tu 34 ?_
        refine tu 35 ?_
        refine tu 36 ?_
        refine tu 37 ?_
        refine tu 38 ?_
        refine tu 39 ?_
        refine tk 40 ?_
        refine wpAnyH_done (by kernel_rfl) ?_ _
        go_wp2
        go_ret
        exact ⟨ret_bool (HF.out (HW.out (goodW_row HG.out))).symm, (BW.drew.trans (hb2.mono BW.size))⟩
      | true =>
        have HG := Hid.mk hg
        clear hg
        by_cases hl : (m : Int) = p
        · have hne : ((m : Int) != p) = false := by simp [hl]
          have HL : Hid ((ys.length : Int) = p) := by show _ = _; rw [HM.out]; exact hl
          clear hl
          cases hi : inw x with
          | false =>
            have HI := Hid.mk hi
            clear hi hprevW
            go_wp2_with fail
            rw [← hW]
            clear hW hcx hwx hbW
            refine wp_region_held_drew (S := fun w' => w'.cell? ⟨w.heap.size, 0, none⟩ = some (.int .i64 p) ∧ w'.cell? ⟨w.heap.size, 1, none⟩ = some (.slice (some ⟨b, off, none⟩) n c) ∧ w'.cell? ⟨wr.heap.size, 0, none⟩ = some (.slice q m d) ∧ w'.cell? ⟨wr.heap.size, 1, none⟩ = some (.int .i64 x)) (by kernel_rfl) ?_ (fun hHeld => ?_)
            · (try dsimp only)
              (refine ⟨?_, ?_, ?_, ?_⟩ <;> assumption)
            refine tk 0 ?_
            refine tk 1 ?_
            refine tr 2 (fun K hK => ?_)
            go_simp
            go_at_call 68; refine (specGoodRow_any _ _ _ ys _ HM.out hm HAx.drew).mono ?_; rintro e w2 ⟨rfl, hb2⟩; rw [HG.out]; have r1 := cell_later hb2 c1; have r2 := cell_later hb2 c2; have r3 := cell_later hb2 c3; have r4 := cell_later hb2 c4
            (try go_wp2_with fail)
            refine hK.out _ _ ?_ (fun hHeld' => ?_)
            · (try dsimp only)
              (refine ⟨?_, ?_, ?_, ?_⟩ <;> assumption)
            clear hK K hHeld
            have hHeld := hHeld'
            clear hHeld'
            (try simp only [Act.put, List.setIfInBounds_toArray, List.set_cons_zero, List.set_cons_succ])
            refine tk 3 ?_
            refine tk 4 ?_
            refine tk 5 ?_
            refine tk 6 ?_
            refine tk 7 ?_
            refine tk 8 ?_
            refine tk 9 ?_
            refine tk 10 ?_
            refine tk 11 ?_
            refine tk 12 ?_
            refine tk 13 ?_
            refine tk 14 ?_
            refine tk 15 ?_
            refine tr 16 (fun K hK => ?_)
            go_simp
            go_at_call 69; refine (l2Weight_any _ _).mono ?_; rintro e w3 ⟨rfl, rfl⟩; rw [HI.out]
            (try go_wp2_with fail)
            refine hK.out _ _ ?_ (fun hHeld' => ?_)
            · (try dsimp only)
              (refine ⟨?_, ?_, ?_, ?_⟩ <;> assumption)
            clear hK K hHeld
            have hHeld := hHeld'
            clear hHeld'
            (try simp only [Act.put, List.setIfInBounds_toArray, List.set_cons_zero, List.set_cons_succ])
            refine tk 17 ?_
            refine tk 18 ?_
            refine tk 19 ?_
            refine tu 20 ?_
            refine tu 21 ?_
            refine tu 22 ?_
            refine tk 23 ?_
            refine tk 24 ?_
            refine tu 25 ?_
            refine tu 26 ?_
            refine tu 27 ?_
            refine tu 28 ?_
            refine tu 29 ?_
            refine tu 30 ?_
            refine tu 31 ?_
            refine tu 32 ?_
            refine tu 33 ?_
            refine tu 34 ?_
            refine tu 35 ?_
            refine tu 36 ?_
            refine tu 37 ?_
            refine tu 38 ?_
            refine tu 39 ?_
            refine tk 40 ?_
            refine wpAnyH_done (by kernel_rfl) ?_ _
            go_wp2
            go_ret
            exact ⟨ret_bool (HF.out (HW.out (goodW_wt HI.out))).symm, (BW.drew.trans (hb2.mono BW.size))⟩
          | true =>
            have HI := Hid.mk hi
            clear hi
            by_cases hx : x = 0
            · have hxx : (x == 0) = true := by simp [hx]
              have HX := Hid.mk hx
              clear hx hprevW
              go_wp2_with fail
              rw [← hW]
              clear hW hcx hwx hbW
              refine wp_region_held_drew (S := fun w' => w'.cell? ⟨w.heap.size, 0, none⟩ = some (.int .i64 p) ∧ w'.cell? ⟨w.heap.size, 1, none⟩ = some (.slice (some ⟨b, off, none⟩) n c) ∧ w'.cell? ⟨wr.heap.size, 0, none⟩ = some (.slice q m d) ∧ w'.cell? ⟨wr.heap.size, 1, none⟩ = some (.int .i64 x)) (by kernel_rfl) ?_ (fun hHeld => ?_)
              · (try dsimp only)
                (refine ⟨?_, ?_, ?_, ?_⟩ <;> assumption)
              refine tk 0 ?_
              refine tk 1 ?_
              refine tr 2 (fun K hK => ?_)
              go_simp
              go_at_call 68; refine (specGoodRow_any _ _ _ ys _ HM.out hm HAx.drew).mono ?_; rintro e w2 ⟨rfl, hb2⟩; rw [HG.out]; have r1 := cell_later hb2 c1; have r2 := cell_later hb2 c2; have r3 := cell_later hb2 c3; have r4 := cell_later hb2 c4
              (try go_wp2_with fail)
              refine hK.out _ _ ?_ (fun hHeld' => ?_)
              · (try dsimp only)
                (refine ⟨?_, ?_, ?_, ?_⟩ <;> assumption)
              clear hK K hHeld
              have hHeld := hHeld'
              clear hHeld'
              (try simp only [Act.put, List.setIfInBounds_toArray, List.set_cons_zero, List.set_cons_succ])
              refine tk 3 ?_
              refine tk 4 ?_
              refine tk 5 ?_
              refine tk 6 ?_
              refine tk 7 ?_
              refine tk 8 ?_
              refine tk 9 ?_
              refine tk 10 ?_
              refine tk 11 ?_
              refine tk 12 ?_
              refine tk 13 ?_
              refine tk 14 ?_
              refine tk 15 ?_
              refine tr 16 (fun K hK => ?_)
              go_simp
              go_at_call 69; refine (l2Weight_any _ _).mono ?_; rintro e w3 ⟨rfl, rfl⟩; rw [HI.out]
              (try go_wp2_with fail)
              refine hK.out _ _ ?_ (fun hHeld' => ?_)
              · (try dsimp only)
                (refine ⟨?_, ?_, ?_, ?_⟩ <;> assumption)
              clear hK K hHeld
              have hHeld := hHeld'
              clear hHeld'
              (try simp only [Act.put, List.setIfInBounds_toArray, List.set_cons_zero, List.set_cons_succ])
              refine tk 17 ?_
              refine tk 18 ?_
              refine tk 19 ?_
              refine tk 20 ?_
              refine tk 21 ?_
              refine tk 22 ?_
              refine tk 23 ?_
              refine tk 24 ?_
              refine tu 25 ?_
              refine tu 26 ?_
              refine tu 27 ?_
              refine tu 28 ?_
              refine tu 29 ?_
              refine tu 30 ?_
              refine tu 31 ?_
              refine tu 32 ?_
              refine tu 33 ?_
              refine tu 34 ?_
              refine tu 35 ?_
              refine tu 36 ?_
              refine tu 37 ?_
              refine tu 38 ?_
              refine tu 39 ?_
              refine tk 40 ?_
              refine wpAnyH_done (by kernel_rfl) ?_ _
              go_wp2
              go_ret
              exact ⟨ret_bool (HF.out (HZ.out HX.out)).symm, (BW.drew.trans (hb2.mono BW.size))⟩
            · have hxx : (x == 0) = false := by simp [hx]
              have HX := Hid.mk hx
              clear hx
              have HGW := Hid.mk (goodW_mk (p := p) (t := (ys, x)) HG.out HL.out HI.out)
              by_cases hk0 : k = 0
              · have hnp : decide (0 < k) = false := decide_eq_false (by omega)
                have HK := Hid.mk hk0
                clear hk0 hprevW
                go_wp2_with fail
                rw [← hW]
                clear hW hcx hwx hbW
                refine wp_region_held_drew (S := fun w' => w'.cell? ⟨w.heap.size, 0, none⟩ = some (.int .i64 p) ∧ w'.cell? ⟨w.heap.size, 1, none⟩ = some (.slice (some ⟨b, off, none⟩) n c) ∧ w'.cell? ⟨wr.heap.size, 0, none⟩ = some (.slice q m d) ∧ w'.cell? ⟨wr.heap.size, 1, none⟩ = some (.int .i64 x)) (by kernel_rfl) ?_ (fun hHeld => ?_)
                · (try dsimp only)
                  (refine ⟨?_, ?_, ?_, ?_⟩ <;> assumption)
                refine tk 0 ?_
                refine tk 1 ?_
                refine tr 2 (fun K hK => ?_)
                go_simp
                go_at_call 68; refine (specGoodRow_any _ _ _ ys _ HM.out hm HAx.drew).mono ?_; rintro e w2 ⟨rfl, hb2⟩; rw [HG.out]; have r1 := cell_later hb2 c1; have r2 := cell_later hb2 c2; have r3 := cell_later hb2 c3; have r4 := cell_later hb2 c4
                (try go_wp2_with fail)
                refine hK.out _ _ ?_ (fun hHeld' => ?_)
                · (try dsimp only)
                  (refine ⟨?_, ?_, ?_, ?_⟩ <;> assumption)
                clear hK K hHeld
                have hHeld := hHeld'
                clear hHeld'
                (try simp only [Act.put, List.setIfInBounds_toArray, List.set_cons_zero, List.set_cons_succ])
                refine tk 3 ?_
                refine tk 4 ?_
                refine tk 5 ?_
                refine tk 6 ?_
                refine tk 7 ?_
                refine tk 8 ?_
                refine tk 9 ?_
                refine tk 10 ?_
                refine tk 11 ?_
                refine tk 12 ?_
                refine tk 13 ?_
                refine tk 14 ?_
                refine tk 15 ?_
                refine tr 16 (fun K hK => ?_)
                go_simp
                go_at_call 69; refine (l2Weight_any _ _).mono ?_; rintro e w3 ⟨rfl, rfl⟩; rw [HI.out]
                (try go_wp2_with fail)
                refine hK.out _ _ ?_ (fun hHeld' => ?_)
                · (try dsimp only)
                  (refine ⟨?_, ?_, ?_, ?_⟩ <;> assumption)
                clear hK K hHeld
                have hHeld := hHeld'
                clear hHeld'
                (try simp only [Act.put, List.setIfInBounds_toArray, List.set_cons_zero, List.set_cons_succ])
                refine tk 17 ?_
                refine tk 18 ?_
                refine tk 19 ?_
                refine tk 20 ?_
                refine tk 21 ?_
                refine tk 22 ?_
                refine tk 23 ?_
                refine tk 24 ?_
                refine tk 25 ?_
                refine tk 26 ?_
                refine tk 27 ?_
                refine tu 28 ?_
                refine tu 29 ?_
                refine tu 30 ?_
                refine tu 31 ?_
                refine tu 32 ?_
                refine tu 33 ?_
                refine tu 34 ?_
                refine tu 35 ?_
                refine tu 36 ?_
                refine tu 37 ?_
                refine tu 38 ?_
                refine tk 39 ?_
                refine tk 40 ?_
                refine wpAnyH_done (by kernel_rfl) ?_ _
                go_wp2
                go_roundw
                case rel => exact ⟨k + 1, by omega, by go_num, HS.out HGW.out HX.out (.inl HK.out), (BV.drew.trans (hb2.mono BV.size))⟩
                case measure => simp [intOf]; omega
              · have hnp : 0 < k := by omega
                obtain ⟨q', m', d', cq, hm', l1', hat'⟩ := hprevW hk0
                clear hprevW
                have hl6 : m ≤ 6 := by have := good_len HG.out; have := HM.out; omega
                have HM' := Hid.mk hm'
                have hsub : IntKind.i64.wrap ((k : Int) - 1) = ((k - 1 : Nat) : Int) := (IntWalk.i64_in _ (by omega)).trans (by omega)
                have hlt1 : ((k - 1 : Nat) : Int) < (n : Int) := by omega
                obtain ⟨k', hk'⟩ : ∃ k', k' = k - 1 := ⟨_, rfl⟩
                rw [← hk'] at cq hsub hlt1
                clear hm' hk' 
                go_wp2_with fail
                rw [← hW]
                clear hW hcx hwx hbW
                refine wp_region_held_drew (S := fun w' => w'.cell? ⟨w.heap.size, 0, none⟩ = some (.int .i64 p) ∧ w'.cell? ⟨w.heap.size, 1, none⟩ = some (.slice (some ⟨b, off, none⟩) n c) ∧ w'.cell? ⟨wr.heap.size, 0, none⟩ = some (.slice q m d) ∧ w'.cell? ⟨wr.heap.size, 1, none⟩ = some (.int .i64 x) ∧ w'.cell? ⟨b, off + k' * 2, none⟩ = some (.slice q' m' d')) (by kernel_rfl) ?_ (fun hHeld => ?_)
                · (try dsimp only)
                  (refine ⟨?_, ?_, ?_, ?_, ?_⟩ <;> assumption)
                refine tk 0 ?_
                refine tk 1 ?_
                refine tr 2 (fun K hK => ?_)
                go_simp
                go_at_call 68; refine (specGoodRow_any _ _ _ ys _ HM.out hm HAx.drew).mono ?_; rintro e w2 ⟨rfl, hb2⟩; rw [HG.out]; have r1 := cell_later hb2 c1; have r2 := cell_later hb2 c2; have r3 := cell_later hb2 c3; have r4 := cell_later hb2 c4; have r5 := cell_later hb2 cq; have HAy := HAx.drew.below hb2; have HAz := hat'.drew.below hb2
                (try go_wp2_with fail)
                refine hK.out _ _ ?_ (fun hHeld' => ?_)
                · (try dsimp only)
                  (refine ⟨?_, ?_, ?_, ?_, ?_⟩ <;> assumption)
                clear hK K hHeld
                have hHeld := hHeld'
                clear hHeld'
                (try simp only [Act.put, List.setIfInBounds_toArray, List.set_cons_zero, List.set_cons_succ])
                refine tk 3 ?_
                refine tk 4 ?_
                refine tk 5 ?_
                refine tk 6 ?_
                refine tk 7 ?_
                refine tk 8 ?_
                refine tk 9 ?_
                refine tk 10 ?_
                refine tk 11 ?_
                refine tk 12 ?_
                refine tk 13 ?_
                refine tk 14 ?_
                refine tk 15 ?_
                refine tr 16 (fun K hK => ?_)
                go_simp
                go_at_call 69; refine (l2Weight_any _ _).mono ?_; rintro e w3 ⟨rfl, rfl⟩; rw [HI.out]
                (try go_wp2_with fail)
                refine hK.out _ _ ?_ (fun hHeld' => ?_)
                · (try dsimp only)
                  (refine ⟨?_, ?_, ?_, ?_, ?_⟩ <;> assumption)
                clear hK K hHeld
                have hHeld := hHeld'
                clear hHeld'
                (try simp only [Act.put, List.setIfInBounds_toArray, List.set_cons_zero, List.set_cons_succ])
                refine tk 17 ?_
                refine tk 18 ?_
                refine tk 19 ?_
                refine tk 20 ?_
                refine tk 21 ?_
                refine tk 22 ?_
                refine tk 23 ?_
                refine tk 24 ?_
                refine tk 25 ?_
                refine tk 26 ?_
                refine tk 27 ?_
                refine tk 28 ?_
                refine tk 29 ?_
                refine tk 30 ?_
                refine tk 31 ?_
                refine tk 32 ?_
                refine tk 33 ?_
                refine tk 34 ?_
                refine tk 35 ?_
                refine tk 36 ?_
                refine tr 37 (fun K hK => ?_)
                go_simp
                go_at_call 70; refine (l1Compare_any _ _ _ _ _ _ zs' ys _ HM'.out HM.out l1' hl6 HAz HAy).mono ?_; rintro e w4 ⟨rfl, hb4⟩; have s1 := cell_later hb4 r1; have s2 := cell_later hb4 r2; have s3 := cell_later hb4 r3; have s4 := cell_later hb4 r4; have s5 := cell_later hb4 r5
                (try go_wp2_with fail)
                refine hK.out _ _ ?_ (fun hHeld' => ?_)
                · (try dsimp only)
                  (refine ⟨?_, ?_, ?_, ?_, ?_⟩ <;> assumption)
                clear hK K hHeld
                have hHeld := hHeld'
                clear hHeld'
                (try simp only [Act.put, List.setIfInBounds_toArray, List.set_cons_zero, List.set_cons_succ])
                refine tk 38 ?_
                refine tk 39 ?_
                refine tk 40 ?_
                refine wpAnyH_done (by kernel_rfl) ?_ _
                have B5 : Below w.heap.size w w4 := (BW.drew.trans (hb2.mono BW.size)).trans (hb4.mono (by have := hb2.size; have := BW.size; simp only [drew_size] at *; omega))
                have V5 : Below w1.heap.size w1 w4 := (BV.drew.trans (hb2.mono BV.size)).trans (hb4.mono (by have := hb2.size; have := BV.size; simp only [drew_size] at *; omega))
                clear hb2 hb4 r1 r2 r3 r4 r5 s1 s2 s3 s4 s5 c1 c2 c3 c4 cq HAx HAy HAz BW BV
                by_cases hlss : cmp zs' ys < 0
                · have HL' := Hid.mk hlss
                  go_wp2
                  go_roundw
                  case rel => exact ⟨k + 1, by omega, by go_num, HS.out HGW.out HX.out (.inr HL'.out), V5⟩
                  case measure => simp [intOf]; omega
                · have hcc : 0 ≤ cmp zs' ys := by omega
                  have HL' := Hid.mk hlss
                  clear hlss
                  go_wp2
                  go_ret
                  exact ⟨ret_bool (HF.out (HC.out hk0 HL'.out)).symm, B5⟩
        · have hne : ((m : Int) != p) = true := by simp [hl]
          have HL : Hid ((ys.length : Int) ≠ p) := by show _ ≠ _; rw [HM.out]; exact hl
          clear hl hprevW
          go_wp2_with fail
          rw [← hW]
          clear hW hcx hwx hbW
          refine wp_region_held_drew (S := fun w' => w'.cell? ⟨w.heap.size, 0, none⟩ = some (.int .i64 p) ∧ w'.cell? ⟨w.heap.size, 1, none⟩ = some (.slice (some ⟨b, off, none⟩) n c) ∧ w'.cell? ⟨wr.heap.size, 0, none⟩ = some (.slice q m d) ∧ w'.cell? ⟨wr.heap.size, 1, none⟩ = some (.int .i64 x)) (by kernel_rfl) ?_ (fun hHeld => ?_)
          · (try dsimp only)
            (refine ⟨?_, ?_, ?_, ?_⟩ <;> assumption)
          refine tk 0 ?_
          refine tk 1 ?_
          refine tr 2 (fun K hK => ?_)
          go_simp
          go_at_call 68; refine (specGoodRow_any _ _ _ ys _ HM.out hm HAx.drew).mono ?_; rintro e w2 ⟨rfl, hb2⟩; rw [HG.out]; have r1 := cell_later hb2 c1; have r2 := cell_later hb2 c2; have r3 := cell_later hb2 c3; have r4 := cell_later hb2 c4
          (try go_wp2_with fail)
          refine hK.out _ _ ?_ (fun hHeld' => ?_)
          · (try dsimp only)
            (refine ⟨?_, ?_, ?_, ?_⟩ <;> assumption)
          clear hK K hHeld
          have hHeld := hHeld'
          clear hHeld'
          (try simp only [Act.put, List.setIfInBounds_toArray, List.set_cons_zero, List.set_cons_succ])
          refine tk 3 ?_
          refine tk 4 ?_
          refine tk 5 ?_
          refine tk 6 ?_
          refine tk 7 ?_
          refine tk 8 ?_
          refine tk 9 ?_
          refine tk 10 ?_
          refine tk 11 ?_
          refine tk 12 ?_
          refine tk 13 ?_
          refine tu 14 ?_
          refine tu 15 ?_
          refine tu 16 ?_
          refine tu 17 ?_
          refine tk 18 ?_
          refine tk 19 ?_
          refine tu 20 ?_
          refine tu 21 ?_
          refine tu 22 ?_
          refine tk 23 ?_
          refine tk 24 ?_
          refine tu 25 ?_
          refine tu 26 ?_
          refine tu 27 ?_
          refine tu 28 ?_
          refine tu 29 ?_
          refine tu 30 ?_
          refine tu 31 ?_
          refine tu 32 ?_
          refine tu 33 ?_
          refine tu 34 ?_
          refine tu 35 ?_
          refine tu 36 ?_
          refine tu 37 ?_
          refine tu 38 ?_
          refine tu 39 ?_
          refine tk 40 ?_
          refine wpAnyH_done (by kernel_rfl) ?_ _
          go_wp2
          go_ret
          exact ⟨ret_bool (HF.out (HW.out (goodW_len HL.out))).symm, (BW.drew.trans (hb2.mono BW.size))⟩
    · obtain rfl : k = n := by omega
      cases hi : inc p with
      | false =>
        have HI := Hid.mk hi
        clear hi
        go_wp2_with (go_at_call 54; refine (l1In_any _ _ _ _).mono ?_; rintro e w3 ⟨rfl, rfl⟩; rw [show (decide ((0 : Int) ≤ p) && decide (p ≤ 6)) = false from HI.out])
        go_ret
        exact ⟨ret_bool (goodT_col HI.out).symm, B2⟩
      | true =>
        have HI := Hid.mk hi
        clear hi
        by_cases h60 : k ≤ 60
        · have HG : Hid (goodT p ts = true) := goodT_of HI.out (by omega) (fun j hj => hall j (by omega))
          clear hall
          have h60' : decide (k ≤ 60) = true := decide_eq_true h60
          go_wp2_with (go_at_call 54; refine (l1In_any _ _ _ _).mono ?_; rintro e w3 ⟨rfl, rfl⟩; rw [show (decide ((0 : Int) ≤ p) && decide (p ≤ 6)) = true from HI.out])
          go_ret
          exact ⟨ret_bool (by rw [HG.out]; simp; omega), B2⟩
        · have HG : Hid (goodT p ts = false) := goodT_len (by omega)
          clear hall
          have h60' : decide (k ≤ 60) = false := decide_eq_false h60
          go_wp2_with (go_at_call 54; refine (l1In_any _ _ _ _).mono ?_; rintro e w3 ⟨rfl, rfl⟩; rw [show (decide ((0 : Int) ≤ p) && decide (p ≤ 6)) = true from HI.out])
          go_ret
          exact ⟨ret_bool (by rw [HG.out]; simp; omega), B2⟩

end Go.Proofs.Ytkcmlphpilggpaa
