/- Contract of the function that impl.joinOfCells hands back. -/
import Derived.Test.YtlfljfmhhnoinabGreatM15
import Derived.Test.YtlfljfmhhnoinabGreatM17
import Derived.Test.YtlfljfmhhnoinabGreatM14
import Derived.Test.YtlfljfmhhnoinabGreatM10
import Derived.Test.YtlfljfmhhnoinabGreatM5
namespace Go.Proofs.YtlfljfmhhnoinabGreat
open Go.RowKit

/-- What the function that joins arrays has captured. -/
structure MatchAt (w : World) (f5 f3 f4 f6 p q : Nat) (ps : List (List Int)) : Prop where
  pairs : ∃ a c, w.cell? ⟨f5, 0, none⟩ = some (.slice a ps.length c) ∧ AtS w a ps
  left : w.cell? ⟨f3, 0, none⟩ = some (.int .i64 p)
  right : w.cell? ⟨f4, 0, none⟩ = some (.int .i64 q)
  sided : ∃ r d, w.cell? ⟨f6, 0, none⟩ = some (.slice r ps.length d) ∧ At w r (side ps 1)
theorem MatchAt.below {w w' : World} {f5 f3 f4 f6 p q : Nat} {ps : List (List Int)} (h : MatchAt w f5 f3 f4 f6 p q ps) (hb : Below w.heap.size w w') : MatchAt w' f5 f3 f4 f6 p q ps := by
  obtain ⟨⟨a, c, h1, h2⟩, h3, h4, ⟨r, d, h5, h6⟩⟩ := h
  exact ⟨⟨a, c, cell_later hb h1, h2.below hb⟩, cell_later hb h3, cell_later hb h4, ⟨r, d, cell_later hb h5, h6.below hb⟩⟩
theorem raised_getD {zs : List Int} {k : Nat} (h : k < zs.length) : (raised zs).getD k 0 = zs.getD k 0 + 100001 := by
  unfold raised
  simp [List.getD, List.getElem?_append_left (show k < (zs.map (· + 100001)).length by simpa using h), h]
theorem far6 {w : World} {b b' o o0 o1 o2 o3 o4 o5 : Nat} {v u0 u1 u2 u3 u4 u5 : Value} (h : w.cell? ⟨b, o, none⟩ = some v) (hne : b ≠ b') : ((((((w.setCell ⟨b', o0, none⟩ u0).setCell ⟨b', o1, none⟩ u1).setCell ⟨b', o2, none⟩ u2).setCell ⟨b', o3, none⟩ u3).setCell ⟨b', o4, none⟩ u4).setCell ⟨b', o5, none⟩ u5).cell? ⟨b, o, none⟩ = some v :=
  keep_far (keep_far (keep_far (keep_far (keep_far (keep_far h hne) hne) hne) hne) hne) hne

set_option maxRecDepth 100000 in
set_option maxHeartbeats 4000000 in
theorem joinK_any (f5 f3 f4 f6 p q : Nat) (ps : List (List Int)) (xs ys : List Int) (x0 x1 x2 x3 x4 x5 y0 y1 y2 y3 y4 y5 : Int) (w : World) (hm : MatchAt w f5 f3 f4 f6 p q ps) (hx : good xs = true) (hy : good ys = true) (hlx : xs.length = p) (hly : ys.length = q) (hok : pairsOk ps p q = true) (hjc : joinC p q ps ≤ 6) (hrx : raised xs = [x0, x1, x2, x3, x4, x5]) (hry : raised ys = [y0, y1, y2, y3, y4, y5]) :
    Calls Tryz.prog 47 #[.agg #[.int .i64 x0, .int .i64 x1, .int .i64 x2, .int .i64 x3, .int .i64 x4, .int .i64 x5], .agg #[.int .i64 y0, .int .i64 y1, .int .i64 y2, .int .i64 y3, .int .i64 y4, .int .i64 y5], .pointer (some ⟨f5, 0, none⟩), .pointer (some ⟨f3, 0, none⟩), .pointer (some ⟨f4, 0, none⟩), .pointer (some ⟨f6, 0, none⟩)] w fun e w' => ∃ z0 z1 z2 z3 z4 z5, e = .returned (.tuple #[.agg #[.int .i64 z0, .int .i64 z1, .int .i64 z2, .int .i64 z3, .int .i64 z4, .int .i64 z5], .bool (joinOk xs ys ps)]) ∧ (joinOk xs ys ps = true → raised (joinZ xs ys (side ps 1)) = [z0, z1, z2, z3, z4, z5]) ∧ Below w.heap.size w w' := by
  have h6 := pairsOk_len hok
  have hpair := fun k hk => pairsOk_at hok k hk
  have lx6 := good_len hx
  have ly6 := good_len hy
  obtain ⟨n, hn⟩ : ∃ n, n = ps.length := ⟨_, rfl⟩
  obtain ⟨⟨ap, cp, hP, hS⟩, hL, hRt, ⟨ar, dr, hD, hAr⟩⟩ := hm
  rw [← hn] at hP hD h6
  obtain ⟨W, hW⟩ : ∃ W, W = ((w.alloc (.cells #[.int .i64 x0, .int .i64 x1, .int .i64 x2, .int .i64 x3, .int .i64 x4, .int .i64 x5] 62)).alloc (.cells #[.int .i64 y0, .int .i64 y1, .int .i64 y2, .int .i64 y3, .int .i64 y4, .int .i64 y5] 62)).alloc (.cells #[.int .i64 0, .int .i64 0, .int .i64 0, .int .i64 0, .int .i64 0, .int .i64 0] 62) := ⟨_, rfl⟩
  have zW : W.heap.size = w.heap.size + 1 + 1 + 1 := by rw [hW]; simp
  have B0 : Below w.heap.size w W := by rw [hW]; exact (((Below.refl _ _).alloc (Nat.le_refl _) _).alloc (by simp) _).alloc (by simp; omega) _
  have AX : Arr W w.heap.size 62 (raised xs) := by rw [hW, hrx]; exact ((Arr.new rfl (by simp)).alloc _).alloc _
  have AY : Arr W (w.heap.size + 1) 62 (raised ys) := by rw [hW, hry]; exact (Arr.new (by simp) (by simp)).alloc _
  have AZ : Arr W (w.heap.size + 1 + 1) 62 [0, 0, 0, 0, 0, 0] := by rw [hW]; exact Arr.new (by simp) (by simp)
  have cP := cell_later B0 hP
  have cL := cell_later B0 hL
  have cR := cell_later B0 hRt
  have cD := cell_later B0 hD
  have HX := Hid.mk hrx
  have HY := Hid.mk hry
  have HOK := Hid.mk hok
  have HN := Hid.mk hn
  have HJ := Hid.mk hjc
  have HLX := Hid.mk hlx
  have HLY := Hid.mk hly
  have hnl : n ≤ ps.length := by omega
  have hnl' : ps.length ≤ n := by omega
  have hpx : p ≤ xs.length := by omega
  have hpx' : xs.length ≤ p := by omega
  have hqy : q ≤ ys.length := by omega
  have hqy' : ys.length ≤ q := by omega
  have cL0 := hL
  have cR0 := hRt
  have cD0 := hD
  clear hP hL hRt hD hrx hry hok hn hlx hly hjc
  have cPl : (((w.alloc (.cells #[.int .i64 x0, .int .i64 x1, .int .i64 x2, .int .i64 x3, .int .i64 x4, .int .i64 x5] 62)).alloc (.cells #[.int .i64 y0, .int .i64 y1, .int .i64 y2, .int .i64 y3, .int .i64 y4, .int .i64 y5] 62)).alloc (.cells #[.int .i64 0, .int .i64 0, .int .i64 0, .int .i64 0, .int .i64 0, .int .i64 0] 62)).cell? ⟨f5, 0, none⟩ = some (.slice ap n cp) := by rw [← hW]; exact cP
  go_enter Tryz.func47, Tryz.ntmps47
  go_wp2
  rw [← hW]
  clear hW cPl
  go_loopw [14] (fun i wr => ∃ k : Nat, k ≤ n ∧ i = .int .i64 k ∧ pick xs (side (ps.take k) 0) = pick ys (side (ps.take k) 1) ∧ Below W.heap.size W wr) (fun i _ => n - (intOf i).toNat)
  case atStart => exact ⟨0, Nat.zero_le _, rfl, by simp [pick, side], Below.refl _ _⟩
  case round =>
    obtain ⟨k, hk, rfl, hpk, hbw⟩ := hrel
    have BT := B0.trans (hbw.mono B0.size)
    have aX := AX.below hbw (by omega)
    have aY := AY.below hbw (by omega)
    have aZ := AZ.below hbw (by omega)
    have gL := cell_later hbw cL
    have gR := cell_later hbw cR
    have gD := cell_later hbw cD
    by_cases hlt : k < n
    · obtain ⟨pb, poff, rfl, hpc⟩ := (hS.below BT).some (by omega)
      obtain ⟨qq, qd, hcx, _, hat⟩ := hpc k (by omega)
      obtain ⟨hl2, ⟨hx0, hx1⟩, hy0, hy1⟩ := hpair k (by omega)
      have HS := Hid.mk (fun he => picks_succ (xs := xs) (ys := ys) (ps := ps) (k := k) (by omega) hpk he)
      have HNO := Hid.mk (fun he => picks_not (xs := xs) (ys := ys) (ps := ps) (k := k) (by omega) he)
      generalize ps.getD k [] = pr at *
      obtain ⟨b', off', rfl, hb', hc'⟩ := hat.some (by omega)
      have hp0 := hc' 0 (by omega)
      have hp1 := hc' 1 (by omega)
      rw [Nat.add_zero] at hp0
      rw [hl2] at hcx
      obtain ⟨i, hii⟩ := Int.eq_ofNat_of_zero_le hx0
      obtain ⟨j, hjj⟩ := Int.eq_ofNat_of_zero_le hy0
      rw [hii] at hp0 hx1 HS HNO
      rw [hjj] at hp1 hy1 HS HNO
      have hin : i < xs.length := by omega
      have hjn : j < ys.length := by omega
      have hi6 : i < 6 := by omega
      have hj6 : j < 6 := by omega
      have hu := aX.cell i (by rw [raised_length lx6]; omega)
      have hv := aY.cell j (by rw [raised_length ly6]; omega)
      rw [raised_getD hin] at hu
      rw [raised_getD hjn] at hv
      rw [show ((i : Int)).toNat = i from rfl, show ((j : Int)).toNat = j from rfl] at HS HNO
      generalize xs.getD i 0 = u at *
      generalize ys.getD j 0 = v at *
      obtain ⟨u', hu'⟩ : ∃ u', u' = u + 100001 := ⟨_, rfl⟩
      obtain ⟨v', hv'⟩ : ∃ v', v' = v + 100001 := ⟨_, rfl⟩
      rw [← hu'] at hu
      rw [← hv'] at hv
      have z0 := aZ.frozen 0
      have z1 := aZ.frozen 1
      have z2 := aZ.frozen 2
      have z3 := aZ.frozen 3
      have z4 := aZ.frozen 4
      have z5 := aZ.frozen 5
      have r0 : wr.cell? ⟨w.heap.size + 1 + 1, 0, none⟩ = some (.int .i64 0) := aZ.cell 0 (by simp)
      have r1 : wr.cell? ⟨w.heap.size + 1 + 1, 1, none⟩ = some (.int .i64 0) := aZ.cell 1 (by simp)
      have r2 : wr.cell? ⟨w.heap.size + 1 + 1, 2, none⟩ = some (.int .i64 0) := aZ.cell 2 (by simp)
      have r3 : wr.cell? ⟨w.heap.size + 1 + 1, 3, none⟩ = some (.int .i64 0) := aZ.cell 3 (by simp)
      have r4 : wr.cell? ⟨w.heap.size + 1 + 1, 4, none⟩ = some (.int .i64 0) := aZ.cell 4 (by simp)
      have r5 : wr.cell? ⟨w.heap.size + 1 + 1, 5, none⟩ = some (.int .i64 0) := aZ.cell 5 (by simp)
      clear hpc hc' hii hjj hx0 hy0 hpk hl2 hpair gL gR gD hat
      by_cases huv : u' = v'
      · have HE : Hid (u = v) := by show _ = _; omega
        clear hu' hv'
        subst huv
        go_wp2
        go_quiet (fail)
        go_wp2
        go_roundw
        case rel => exact ⟨k + 1, by omega, by go_num, HS.out HE.out, below_drewN hbw _⟩
        case measure => simp [intOf]; omega
      · have hne : (u' != v') = true := by simpa using huv
        have HB : Hid (joinOk xs ys ps = false) := by
          show _ = _
          unfold joinOk
          rw [decide_eq_false (HNO.out (by omega))]
          simp
        clear hu' hv'
        go_wp2
        go_quiet (fail)
        go_wp2
        refine bodyPost_ret (v := .tuple #[.agg #[.int .i64 0, .int .i64 0, .int .i64 0, .int .i64 0, .int .i64 0, .int .i64 0], .bool false]) (by simp [results, Tryz.results47, go_sem, r0, r1, r2, r3, r4, r5]) rfl ?_
        refine ⟨0, 0, 0, 0, 0, 0, by rw [HB.out], ?_, ?_⟩
        · rw [HB.out]; intro h; cases h
        have h2 : w.heap.size ≤ w.heap.size + 1 + 1 := by omega
        exact ((((((below_drewN BT _).setCell h2 _).setCell h2 _).setCell h2 _).setCell h2 _).setCell h2 _).setCell h2 _
    · obtain rfl : n = k := by omega
      have hzr : w.heap.size + 1 + 1 < wr.heap.size := by have := hbw.size; omega
      have hpe : pick xs (side ps 0) = pick ys (side ps 1) := by rw [HN.out, List.take_length] at hpk; exact hpk
      have HJZ : Hid ((joinZ xs ys (side ps 1)).length ≤ 6) := by show _ ≤ _; rw [joinZ_len, HLX.out, HLY.out]; simpa [joinC] using HJ.out
      have HB : Hid (joinOk xs ys ps = true) := by
        show _ = _
        unfold joinOk
        rw [hx, hy, HLX.out, HLY.out, HOK.out, decide_eq_true hpe, decide_eq_true HJZ.out]
        rfl
      have HGZ : Hid (good (joinZ xs ys (side ps 1)) = true) := by show _ = _; rw [good_joinZ hx hy, decide_eq_true HJZ.out]
      have hjz := HJZ.out
      have HCO : Hid (∀ j, j < n → 0 ≤ (side ps 1).getD j 0 ∧ (side ps 1).getD j 0 < q) := fun j hj => by rw [side_getD ps 1 j (by omega)]; exact (hpair j (by omega)).2.2
      have hf3 : f3 ≠ w.heap.size + 1 + 1 := by have := World.block_lt_of_cell? _ _ cL0; simp at this; omega
      have hf4 : f4 ≠ w.heap.size + 1 + 1 := by have := World.block_lt_of_cell? _ _ cR0; simp at this; omega
      have hf6 : f6 ≠ w.heap.size + 1 + 1 := by have := World.block_lt_of_cell? _ _ cD0; simp at this; omega
      have s1 : wr.cell? ⟨w.heap.size, 0, none⟩ = some (.int .i64 x0) ∧ wr.cell? ⟨w.heap.size, 1, none⟩ = some (.int .i64 x1) ∧ wr.cell? ⟨w.heap.size, 2, none⟩ = some (.int .i64 x2) ∧ wr.cell? ⟨w.heap.size, 3, none⟩ = some (.int .i64 x3) ∧ wr.cell? ⟨w.heap.size, 4, none⟩ = some (.int .i64 x4) ∧ wr.cell? ⟨w.heap.size, 5, none⟩ = some (.int .i64 x5) := by rw [HX.out] at aX; exact ⟨aX.cell 0 (by simp), aX.cell 1 (by simp), aX.cell 2 (by simp), aX.cell 3 (by simp), aX.cell 4 (by simp), aX.cell 5 (by simp)⟩
      have s2 : wr.cell? ⟨w.heap.size + 1, 0, none⟩ = some (.int .i64 y0) ∧ wr.cell? ⟨w.heap.size + 1, 1, none⟩ = some (.int .i64 y1) ∧ wr.cell? ⟨w.heap.size + 1, 2, none⟩ = some (.int .i64 y2) ∧ wr.cell? ⟨w.heap.size + 1, 3, none⟩ = some (.int .i64 y3) ∧ wr.cell? ⟨w.heap.size + 1, 4, none⟩ = some (.int .i64 y4) ∧ wr.cell? ⟨w.heap.size + 1, 5, none⟩ = some (.int .i64 y5) := by rw [HY.out] at aY; exact ⟨aY.cell 0 (by simp), aY.cell 1 (by simp), aY.cell 2 (by simp), aY.cell 3 (by simp), aY.cell 4 (by simp), aY.cell 5 (by simp)⟩
      clear hpk hpe hpair AX AY AZ aX aY cL cR cD cP hbw
      go_wp2_with fail
      refine wp_region_held_drew (S := fun w' => (w'.cell? ⟨w.heap.size, 0, none⟩ = some (.int .i64 x0) ∧ w'.cell? ⟨w.heap.size, 1, none⟩ = some (.int .i64 x1) ∧ w'.cell? ⟨w.heap.size, 2, none⟩ = some (.int .i64 x2) ∧ w'.cell? ⟨w.heap.size, 3, none⟩ = some (.int .i64 x3) ∧ w'.cell? ⟨w.heap.size, 4, none⟩ = some (.int .i64 x4) ∧ w'.cell? ⟨w.heap.size, 5, none⟩ = some (.int .i64 x5)) ∧ (w'.cell? ⟨w.heap.size + 1, 0, none⟩ = some (.int .i64 y0) ∧ w'.cell? ⟨w.heap.size + 1, 1, none⟩ = some (.int .i64 y1) ∧ w'.cell? ⟨w.heap.size + 1, 2, none⟩ = some (.int .i64 y2) ∧ w'.cell? ⟨w.heap.size + 1, 3, none⟩ = some (.int .i64 y3) ∧ w'.cell? ⟨w.heap.size + 1, 4, none⟩ = some (.int .i64 y4) ∧ w'.cell? ⟨w.heap.size + 1, 5, none⟩ = some (.int .i64 y5)) ∧ w'.cell? ⟨f3, 0, none⟩ = some (.int .i64 p) ∧ w'.cell? ⟨f4, 0, none⟩ = some (.int .i64 q) ∧ w'.cell? ⟨f6, 0, none⟩ = some (.slice ar n dr)) (by kernel_rfl) ?_ (fun hHeld => ?_)
      · (try dsimp only)
        exact ⟨s1, s2, gL, gR, gD⟩
      refine wpAnyH_take (i := 0) (oi := ?_) (v := ?_) ?_ (by kernel_rfl) (by kernel_rfl) (by kernel_rfl) ?_ (Or.inl ⟨?_, ?_⟩) (by assumption) ?_
      rotate_left 2
      · (simp only [List.getElem?_toArray, List.getElem?_cons_zero]; rfl)
      · exact fun _ _ _ h => h
      · rfl
      · (intro wS hSw; (try dsimp only at hSw); go_simp; (try with_reducible rfl))
      (try simp only [Act.put, List.setIfInBounds_toArray, List.set_cons_zero, List.set_cons_succ])
      refine wpAnyH_take (i := 1) (oi := ?_) (v := ?_) ?_ (by kernel_rfl) (by kernel_rfl) (by kernel_rfl) ?_ (Or.inl ⟨?_, ?_⟩) (by assumption) ?_
      rotate_left 2
      · (simp only [List.getElem?_toArray, List.getElem?_cons_zero, List.getElem?_cons_succ]; rfl)
      · exact fun _ _ _ h => h
      · rfl
      · (intro wS hSw; (try dsimp only at hSw); go_simp; (try with_reducible rfl))
      (try simp only [Act.put, List.setIfInBounds_toArray, List.set_cons_zero, List.set_cons_succ])
      refine wpAnyH_take (i := 3) (oi := ?_) (v := ?_) ?_ (by kernel_rfl) (by kernel_rfl) (by kernel_rfl) ?_ (Or.inl ⟨?_, ?_⟩) (by assumption) ?_
      rotate_left 2
      · (simp only [List.getElem?_toArray, List.getElem?_cons_zero, List.getElem?_cons_succ]; rfl)
      · exact fun _ _ _ h => h
      · rfl
      · (intro wS hSw; (try dsimp only at hSw); go_simp; (try with_reducible rfl))
      (try simp only [Act.put, List.setIfInBounds_toArray, List.set_cons_zero, List.set_cons_succ])
      refine wpAnyH_take (i := 4) (oi := ?_) (v := ?_) ?_ (by kernel_rfl) (by kernel_rfl) (by kernel_rfl) ?_ (Or.inl ⟨?_, ?_⟩) (by assumption) ?_
      rotate_left 2
      · (simp only [List.getElem?_toArray, List.getElem?_cons_zero, List.getElem?_cons_succ]; rfl)
      · exact fun _ _ _ h => h
      · rfl
      · (intro wS hSw; (try dsimp only at hSw); go_simp; (try with_reducible rfl))
      (try simp only [Act.put, List.setIfInBounds_toArray, List.set_cons_zero, List.set_cons_succ])
      refine wpAnyH_take (i := 6) (oi := ?_) (v := ?_) ?_ (by kernel_rfl) (by kernel_rfl) (by kernel_rfl) ?_ (Or.inl ⟨?_, ?_⟩) (by assumption) ?_
      rotate_left 2
      · (simp only [List.getElem?_toArray, List.getElem?_cons_zero, List.getElem?_cons_succ]; rfl)
      · exact fun _ _ _ h => h
      · rfl
      · (intro wS hSw; (try dsimp only at hSw); go_simp; (try with_reducible rfl))
      (try simp only [Act.put, List.setIfInBounds_toArray, List.set_cons_zero, List.set_cons_succ])
      refine wpAnyH_ready (rs := [2]) (by kernel_rfl) (by simp) ?_
      refine AllReadyH.cons (o := ?_) ?_ (fun K hK => ?_) AllReadyH.nil
      rotate_left
      · (simp only [List.getElem?_toArray, List.getElem?_cons_zero, List.getElem?_cons_succ]; rfl)
      go_simp
      go_at_call 50; refine (rowOf_any x0 x1 x2 x3 x4 x5 xs p _ HLX.out hx HX.out).mono ?_; rintro e w1 ⟨r1, d1, rfl, ho1, hb1⟩; have hb1 : Below wr.heap.size wr w1 := (Below.refl _ _).drew.trans hb1; have s1 := six_later hb1 s1; have s2 := six_later hb1 s2; have gL := cell_later hb1 gL; have gR := cell_later hb1 gR; have gD := cell_later hb1 gD; have hBB := hb1
      (try go_wp2_with fail)
      refine hK.out _ _ ?_ (fun hHeld' => ?_)
      · (try dsimp only)
        exact ⟨s1, s2, gL, gR, gD⟩
      clear hK K hHeld
      have hHeld := hHeld'
      clear hHeld'
      (try simp only [Act.put, List.setIfInBounds_toArray, List.set_cons_zero, List.set_cons_succ])
      refine wpAnyH_ready (rs := [5]) (by kernel_rfl) (by simp) ?_
      refine AllReadyH.cons (o := ?_) ?_ (fun K hK => ?_) AllReadyH.nil
      rotate_left
      · (simp only [List.getElem?_toArray, List.getElem?_cons_zero, List.getElem?_cons_succ]; rfl)
      go_simp
      go_at_call 50; refine (rowOf_any y0 y1 y2 y3 y4 y5 ys q _ HLY.out hy HY.out).mono ?_; rintro e w2 ⟨r2, d2, rfl, ho2, hb2⟩; have s1 := six_later hb2 s1; have s2 := six_later hb2 s2; have gL := cell_later hb2 gL; have gR := cell_later hb2 gR; have gD := cell_later hb2 gD; have hBB := hBB.trans (hb2.mono hBB.size); have ho1 := owns_below ho1 hb2
      (try go_wp2_with fail)
      refine hK.out _ _ ?_ (fun hHeld' => ?_)
      · (try dsimp only)
        exact ⟨s1, s2, gL, gR, gD⟩
      clear hK K hHeld
      have hHeld := hHeld'
      clear hHeld'
      (try simp only [Act.put, List.setIfInBounds_toArray, List.set_cons_zero, List.set_cons_succ])
      refine wpAnyH_ready (rs := [7]) (by kernel_rfl) (by simp) ?_
      refine AllReadyH.cons (o := ?_) ?_ (fun K hK => ?_) AllReadyH.nil
      rotate_left
      · (simp only [List.getElem?_toArray, List.getElem?_cons_zero, List.getElem?_cons_succ]; rfl)
      go_simp
      go_at_call 49; refine (joinCells_any r1 r2 ar p q n d1 d2 dr xs ys (side ps 1) _ HLX.out HLY.out (by rw [side_length]; exact HN.out.symm) (by omega) (by omega) h6 HCO.out (owns_nil ho1) (At.owned ho1) (At.owned ho2) ((hAr.below BT).below hBB)).mono ?_; rintro e w3 ⟨r3, k3, d3, rfl, hk3, ho3, hb3⟩; have s1 := six_later hb3 s1; have s2 := six_later hb3 s2; have gL := cell_later hb3 gL; have gR := cell_later hb3 gR; have gD := cell_later hb3 gD; have hBB := hBB.trans (hb3.mono hBB.size)
      (try go_wp2_with fail)
      refine hK.out _ _ ?_ (fun hHeld' => ?_)
      · (try dsimp only)
        exact ⟨s1, s2, gL, gR, gD⟩
      clear hK K hHeld
      have hHeld := hHeld'
      clear hHeld'
      (try simp only [Act.put, List.setIfInBounds_toArray, List.set_cons_zero, List.set_cons_succ])
      refine wpAnyH_ready (rs := [8]) (by kernel_rfl) (by simp) ?_
      refine AllReadyH.cons (o := ?_) ?_ (fun K hK => ?_) AllReadyH.nil
      rotate_left
      · (simp only [List.getElem?_toArray, List.getElem?_cons_zero, List.getElem?_cons_succ]; rfl)
      go_simp
      go_at_call 48; refine (arrayOf_any r3 k3 d3 (joinZ xs ys (side ps 1)) _ hk3 (by omega) (fun k hk => good_cell HGZ.out k (by omega)) (At.owned ho3)).mono ?_; rintro e w4 ⟨z0, z1, z2, z3, z4, z5, rfl, hz4, hb4⟩; have s1 := six_later hb4 s1; have s2 := six_later hb4 s2; have gL := cell_later hb4 gL; have gR := cell_later hb4 gR; have gD := cell_later hb4 gD; have hBB := hBB.trans (hb4.mono hBB.size); have aZ := aZ.below hBB hzr; have r0 : w4.cell? ⟨w.heap.size + 1 + 1, 0, none⟩ = some (.int .i64 0) := aZ.cell 0 (by simp); have g0 := aZ.frozen 0; have r1 : w4.cell? ⟨w.heap.size + 1 + 1, 1, none⟩ = some (.int .i64 0) := aZ.cell 1 (by simp); have g1 := aZ.frozen 1; have r2 : w4.cell? ⟨w.heap.size + 1 + 1, 2, none⟩ = some (.int .i64 0) := aZ.cell 2 (by simp); have g2 := aZ.frozen 2; have r3 : w4.cell? ⟨w.heap.size + 1 + 1, 3, none⟩ = some (.int .i64 0) := aZ.cell 3 (by simp); have g3 := aZ.frozen 3; have r4 : w4.cell? ⟨w.heap.size + 1 + 1, 4, none⟩ = some (.int .i64 0) := aZ.cell 4 (by simp); have g4 := aZ.frozen 4; have r5 : w4.cell? ⟨w.heap.size + 1 + 1, 5, none⟩ = some (.int .i64 0) := aZ.cell 5 (by simp); have g5 := aZ.frozen 5
      (try go_wp2_with fail)
      refine hK.out _ _ ?_ (fun hHeld' => ?_)
      · (try dsimp only)
        exact ⟨s1, s2, gL, gR, gD⟩
      clear hK K hHeld
      have hHeld := hHeld'
      clear hHeld'
      (try simp only [Act.put, List.setIfInBounds_toArray, List.set_cons_zero, List.set_cons_succ])
      refine wpAnyH_ready (rs := [9]) (by kernel_rfl) (by simp) ?_
      refine AllReadyH.cons (o := ?_) ?_ (fun K hK => ?_) AllReadyH.nil
      rotate_left
      · (simp only [List.getElem?_toArray, List.getElem?_cons_zero, List.getElem?_cons_succ]; rfl)
      go_simp
      skip
      (try go_wp2_with fail)
      refine hK.out _ _ ?_ (fun hHeld' => ?_)
      · (try dsimp only)
        exact ⟨⟨far6 s1.1 (by omega), far6 s1.2.1 (by omega), far6 s1.2.2.1 (by omega), far6 s1.2.2.2.1 (by omega), far6 s1.2.2.2.2.1 (by omega), far6 s1.2.2.2.2.2 (by omega)⟩, ⟨far6 s2.1 (by omega), far6 s2.2.1 (by omega), far6 s2.2.2.1 (by omega), far6 s2.2.2.2.1 (by omega), far6 s2.2.2.2.2.1 (by omega), far6 s2.2.2.2.2.2 (by omega)⟩, far6 gL hf3, far6 gR hf4, far6 gD hf6⟩
      clear hK K hHeld
      have hHeld := hHeld'
      clear hHeld'
      (try simp only [Act.put, List.setIfInBounds_toArray, List.set_cons_zero, List.set_cons_succ])
      refine wpAnyH_take (i := 10) (oi := ?_) (v := ?_) ?_ (by kernel_rfl) (by kernel_rfl) (by kernel_rfl) ?_ (Or.inl ⟨?_, ?_⟩) (by assumption) ?_
      rotate_left 2
      · (simp only [List.getElem?_toArray, List.getElem?_cons_zero, List.getElem?_cons_succ]; rfl)
      · exact fun _ _ _ h => h
      · rfl
      · (intro wS hSw; (try dsimp only at hSw); go_simp; (try with_reducible rfl))
      (try simp only [Act.put, List.setIfInBounds_toArray, List.set_cons_zero, List.set_cons_succ])
      refine wpAnyH_done (by kernel_rfl) ?_ _
      clear hHeld
      go_wp2
      refine bodyPost_ret (v := .tuple #[.agg #[.int .i64 z0, .int .i64 z1, .int .i64 z2, .int .i64 z3, .int .i64 z4, .int .i64 z5], .bool true]) (by simp [results, Tryz.results47, go_sem, r0, r1, r2, r3, r4, r5]) rfl ?_
      refine ⟨z0, z1, z2, z3, z4, z5, by rw [HB.out], fun _ => hz4, ?_⟩
      have h2 : w.heap.size ≤ w.heap.size + 1 + 1 := by omega
      exact ((((((BT.trans (hBB.mono BT.size)).setCell h2 _).setCell h2 _).setCell h2 _).setCell h2 _).setCell h2 _).setCell h2 _

end Go.Proofs.YtlfljfmhhnoinabGreat
