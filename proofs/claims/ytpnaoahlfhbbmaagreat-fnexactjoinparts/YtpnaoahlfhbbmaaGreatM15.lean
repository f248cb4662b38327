/- Several texts of one proof, in build order: JoinR, PickS, JoinS, JoinP. -/
import Derived.Test.YtpnaoahlfhbbmaaGreatM14
import Derived.Test.YtpnaoahlfhbbmaaGreatM5
import Derived.Deep.DeepCutAuto
import Derived.Test.YtpnaoahlfhbbmaaGreatM11
import Derived.Test.YtpnaoahlfhbbmaaGreatM13

/- Contract of impl.JoinRows. -/
namespace Go.Proofs.YtpnaoahlfhbbmaaGreat
open Go.RowKit

theorem joinOk_eq (xs ys : List Int) (ps : List (List Int)) : joinOk xs ys ps = (pairs2 ps && pickOk xs (side ps 0) && pickOk ys (side ps 1) && decide (pick xs (side ps 0) = pick ys (side ps 1)) && good (joinZ xs ys (side ps 1))) := by
  unfold joinOk pickOk
  rw [pairsOk_split]
  cases hx : good xs <;> cases hy : good ys <;> simp
  rw [good_joinZ hx hy]






theorem eq_raised {X Y : List Int} {x0 x1 x2 x3 x4 x5 y0 y1 y2 y3 y4 y5 : Int} {bl : Bool} (hx : raised X = [x0, x1, x2, x3, x4, x5]) (hy : raised Y = [y0, y1, y2, y3, y4, y5]) (hl : X.length = Y.length) (hb : decide (X = Y) = bl) :
    ∀ w, (Op.equalIn 10000 92 (.agg #[.int .i64 x0, .int .i64 x1, .int .i64 x2, .int .i64 x3, .int .i64 x4, .int .i64 x5]) (.agg #[.int .i64 y0, .int .i64 y1, .int .i64 y2, .int .i64 y3, .int .i64 y4, .int .i64 y5])).run Tryz.prog w = .ok bl w := fun w => by
  obtain ⟨i0, hi, hz0, hz1, hz2⟩ := info_parts Tryz.infoInt
  have h := run_equal_ints w 9998 92 3 i0 Tryz.underlying92 Tryz.underlying3 hi hz1 [x0, x1, x2, x3, x4, x5] [y0, y1, y2, y3, y4, y5] rfl rfl
  rw [← hx, ← hy, raised_dec hl, hb, hx, hy] at h
  simpa using h

/-- Nothing, and false. -/
theorem join_no {xs ys : List Int} {ps : List (List Int)} {w w2 : World} (h : joinOk xs ys ps = false) (hb : Below w.heap.size w w2) :
    ∃ r m d, Ending.returned (.tuple #[.agg #[.slice none 0 0], .bool false]) = .returned (.tuple #[.agg #[.slice r m d], .bool (joinOk xs ys ps)]) ∧
      (joinAns xs ys ps).length = m ∧ w2.ownsRow w.heap.size 3 1 (.slice r m d) m ((joinAns xs ys ps).map (.int .i64)) ∧ Below w.heap.size w w2 :=
  ⟨none, 0, 0, by rw [h], by simp [joinAns, h], by simp only [joinAns, h]; exact World.ownsRow_nil _ _ _ _, hb⟩

set_option linter.unusedVariables false in
set_option maxHeartbeats 8000000 in
theorem implJoinRows_c1 (a b p : Option Addr) (n n' l c c' d : Nat) (xs ys : List Int) (ps : List (List Int)) (w : World) (hz : xs.length = n) (hz' : ys.length = n') (hl : ps.length = l) (hn : n ≤ 9223372036854775807) (hn' : n' ≤ 9223372036854775807) (hl' : l ≤ 9223372036854775807)
    (hnil : a = none → c = 0) (ha : At w a xs) (hb : At w b ys) (hp : AtS w p ps) (h2 : pairs2 ps = false) :
    Calls Tryz.prog 64 #[.agg #[.slice a n c], .agg #[.slice b n' c'], .slice p l d] w fun e w' => ∃ r m d, e = .returned (.tuple #[.agg #[.slice r m d], .bool (joinOk xs ys ps)]) ∧
      (joinAns xs ys ps).length = m ∧ w'.ownsRow w.heap.size 3 1 (.slice r m d) m ((joinAns xs ys ps).map (.int .i64)) ∧ Below w.heap.size w w' := by
  obtain ⟨W, hW⟩ : ∃ W, W = ((w.alloc (.cells #[.slice a n c] 48)).alloc (.cells #[.slice b n' c'] 48)).alloc (.cells #[.slice none 0 0] 48) := ⟨_, rfl⟩
  have B : Below w.heap.size w W := by rw [hW]; exact (((Below.refl _ _).alloc (Nat.le_refl _) _).alloc (by simp) _).alloc (by simp; omega) _
  have A1 : At W a xs := ha.below B
  have A2 : At W b ys := hb.below B
  have A3 : AtS W p ps := hp.below B
  have c1 : W.cell? ⟨w.heap.size, 0, none⟩ = some (.slice a n c) := by rw [hW]; simp [go_sem]
  have c2 : W.cell? ⟨w.heap.size + 1, 0, none⟩ = some (.slice b n' c') := by rw [hW]; simp [go_sem]
  have c3 : W.cell? ⟨w.heap.size + 1 + 1, 0, none⟩ = some (.slice none 0 0) := by rw [hW]; simp [go_sem]
  have f3 : W.frozen? ⟨w.heap.size + 1 + 1, 0, none⟩ = false := by rw [hW]; simp [go_sem]
  clear ha hb hp
  go_enter Tryz.func64, Tryz.ntmps64
  go_wp2_with fail
  rw [← hW]
  refine (arePairs_any _ _ _ ps _ hl hl' A3).mono ?_
  rintro e w0 ⟨rfl, rfl⟩
  clear hW
  have HNO : Hid (joinOk xs ys ps = false) := by show _ = _; rw [joinOk_eq, h2]; rfl
  rw [h2]
  go_wp2
  refine bodyPost_ret (v := .tuple #[.agg #[.slice none 0 0], .bool false]) (by simp [results, Tryz.results64, go_sem, c3]) rfl (join_no HNO.out ?_)
  exact B.setCell (by simp; omega) _

set_option linter.unusedVariables false in
set_option maxHeartbeats 8000000 in
theorem implJoinRows_c2 (a b p : Option Addr) (n n' l c c' d : Nat) (xs ys : List Int) (ps : List (List Int)) (w : World) (hz : xs.length = n) (hz' : ys.length = n') (hl : ps.length = l) (hn : n ≤ 9223372036854775807) (hn' : n' ≤ 9223372036854775807) (hl' : l ≤ 9223372036854775807)
    (hnil : a = none → c = 0) (ha : At w a xs) (hb : At w b ys) (hp : AtS w p ps) (h2 : pairs2 ps = true) :
    Calls Tryz.prog 64 #[.agg #[.slice a n c], .agg #[.slice b n' c'], .slice p l d] w fun e w' => ∃ r m d, e = .returned (.tuple #[.agg #[.slice r m d], .bool (joinOk xs ys ps)]) ∧
      (joinAns xs ys ps).length = m ∧ w'.ownsRow w.heap.size 3 1 (.slice r m d) m ((joinAns xs ys ps).map (.int .i64)) ∧ Below w.heap.size w w' := by
  obtain ⟨W, hW⟩ : ∃ W, W = ((w.alloc (.cells #[.slice a n c] 48)).alloc (.cells #[.slice b n' c'] 48)).alloc (.cells #[.slice none 0 0] 48) := ⟨_, rfl⟩
  have B : Below w.heap.size w W := by rw [hW]; exact (((Below.refl _ _).alloc (Nat.le_refl _) _).alloc (by simp) _).alloc (by simp; omega) _
  have A1 : At W a xs := ha.below B
  have A2 : At W b ys := hb.below B
  have A3 : AtS W p ps := hp.below B
  have c1 : W.cell? ⟨w.heap.size, 0, none⟩ = some (.slice a n c) := by rw [hW]; simp [go_sem]
  have c2 : W.cell? ⟨w.heap.size + 1, 0, none⟩ = some (.slice b n' c') := by rw [hW]; simp [go_sem]
  have c3 : W.cell? ⟨w.heap.size + 1 + 1, 0, none⟩ = some (.slice none 0 0) := by rw [hW]; simp [go_sem]
  have f3 : W.frozen? ⟨w.heap.size + 1 + 1, 0, none⟩ = false := by rw [hW]; simp [go_sem]
  clear ha hb hp
  go_enter Tryz.func64, Tryz.ntmps64
  go_wp2_with fail
  rw [← hW]
  refine (arePairs_any _ _ _ ps _ hl hl' A3).mono ?_
  rintro e w0 ⟨rfl, rfl⟩
  clear hW
  rw [h2]
  go_wp2_with fail
  refine (sideOf_any _ _ _ ps 1 _ hl h2 (by omega) A3).mono ?_
  rintro e w1 ⟨q1, d1, rfl, o1, hb1⟩
  have B1 := B.trans (hb1.mono B.size)
  have e1 := cell_later hb1 c1
  have e2 := cell_later hb1 c2
  have e3 := cell_later hb1 c3
  have k3 := frozen_later hb1 c3 f3
  have D1 := A1.below hb1
  have D2 := A2.below hb1
  have D3 := A3.below hb1
  clear B A1 A2 A3 c1 c2 c3 f3 hb1
  have D3d : AtS w1.drew p ps := D3.below (Below.refl _ _).drew
  have D3a : AtS (w1.alloc (.cells #[.slice none 0 0] 48)).drew p ps := D3.below ((Below.refl _ _).alloc (Nat.le_refl _) _).drew
  have ea : ∀ o, (w1.alloc o).cell? ⟨w.heap.size, 0, none⟩ = some (.slice a n c) := fun o => cell_later ((Below.refl _ _).alloc (Nat.le_refl _) _) e1
  have zE : w.heap.size < w1.heap.size := World.block_lt_of_cell? _ _ e1
  go_upto_region 4 with fail
  go_cut [9, 10] (fun t9 t10 wx => ∃ (Pb : Nat) (q3 : Option Addr) (m3 d3 : Nat), t9 = .pointer (some ⟨Pb, 0, none⟩) ∧ t10 = .bool (pickOk xs (side ps 0)) ∧ wx.cell? ⟨Pb, 0, none⟩ = some (.slice q3 m3 d3) ∧ (pickZ xs (side ps 0)).length = m3 ∧ wx.ownsRow w1.heap.size 3 1 (.slice q3 m3 d3) m3 ((pickZ xs (side ps 0)).map (.int .i64)) ∧ Below w1.heap.size w1 wx)
  case first =>
    go_region_held3 (fun w' => w'.cell? ⟨w.heap.size, 0, none⟩ = some (.slice a n c)) (first | assumption | (simp [*]; done) | (exact keep_far s1 (by omega)))
      (first
        | (go_at_call 77; refine (sideOf_any _ _ _ ps 0 _ hl h2 (by omega) (by first | exact D3d | exact D3a)).mono ?_; rintro e w2 ⟨q2, d2, rfl, o2, hb2⟩; have y1 : Below w1.heap.size w1 w2 := (by first | exact (Below.refl _ _).drew.trans hb2 | exact ((Below.refl _ _).alloc (Nat.le_refl _) _).drew.trans (hb2.mono (by simp))); have zz2 := y1.size; have r1 := cell_later y1 e1; have r1a : (∀ o, (w2.alloc o).cell? ⟨w.heap.size, 0, none⟩ = some (.slice a n c)) := (fun o => cell_later ((Below.refl _ _).alloc (Nat.le_refl _) _) r1); have F1 := D1.below y1; have F1a := F1.alloc (.cells #[.slice none 0 0] 48); have F2 := At.owned o2; have F2a := F2.alloc (.cells #[.slice none 0 0] 48); (try have v2 := cell_later hb2 (newcell w1 (.slice none 0 0) 48)); (try have v2f := frozen_later hb2 (newcell w1 (.slice none 0 0) 48) (newfrozen w1 (.slice none 0 0) 48)))
        | (go_at_call 69; refine (implPickCells _ _ _ _ _ _ xs (side ps 0) _ hz (by rw [side_length]; exact hl) hn hl' (by first | exact F1 | exact F1a) (by first | exact F2 | exact F2a)).mono ?_; rintro e w3 ⟨q3, m3, d3, rfl, hm3, o3, hb3⟩; have y3 : Below w1.heap.size w1 w3 := (by first | exact y1.trans (hb3.mono y1.size) | exact (y1.alloc y1.size _).trans (hb3.mono (y1.alloc y1.size _).size)); have s1 := cell_later y3 e1; have s1a : (∀ o, (w3.alloc o).cell? ⟨w.heap.size, 0, none⟩ = some (.slice a n c)) := (fun o => cell_later ((Below.refl _ _).alloc (Nat.le_refl _) _) s1); (try have v3 := cell_later hb3 v2); (try have v3f := frozen_later hb3 v2 v2f); (try have v4 := cell_later hb3 (newcell w2 (.slice none 0 0) 48)); (try have v4f := frozen_later hb3 (newcell w2 (.slice none 0 0) 48) (newfrozen w2 (.slice none 0 0) 48))))
    all_goals
      go_wp2_with fail
      go_meet
      case rel =>
        first
          | exact ⟨w3.heap.size, q3, m3, d3, rfl, rfl, newcell w3 _ _, hm3, owns_mono (o3.alloc _) zz2, y3.alloc y3.size _⟩
          | exact ⟨w2.heap.size, q3, m3, d3, rfl, rfl, cell_set v4 _, hm3, owns_mono (ownsRow_setCell_below o3 (size_lt w2 _) _) (Nat.le_trans zz2 (Nat.le_of_lt (size_lt w2 _))), y3.setCell zz2 _⟩
          | exact ⟨w1.heap.size, q3, m3, d3, rfl, rfl, cell_set v3 _, hm3, owns_mono (ownsRow_setCell_below o3 (World.block_lt_of_cell? _ _ v2) _) zz2, y3.setCell (Nat.le_refl _) _⟩
  case rest =>
    obtain ⟨Pb, q3, m3, d3, rfl, rfl, gP, hm3, p3, hb4⟩ := hcut
    have B4 := B1.trans (hb4.mono B1.size)
    have g1 := cell_later hb4 e1
    have g2 := cell_later hb4 e2
    have g3 := cell_later hb4 e3
    have j3 := frozen_later hb4 e3 k3
    have F1 := D1.below hb4
    have F2 := D2.below hb4
    have p1 := owns_below o1 hb4
    clear e1 e2 e3 k3 D1 D2 D3 D3d D3a ea o1 hb4 B1
    go_wp2_with fail
    refine (implPickCells _ _ _ _ _ _ ys (side ps 1) _ hz' (by rw [side_length]; exact hl) hn' hl' F2 (At.owned p1)).mono ?_
    rintro e w5 ⟨q5, m5, d5, rfl, hm5, o5, hb5⟩
    have hA5 : Below w5.heap.size w5 (w5.alloc (.cells #[.slice q5 m5 d5] 48)) := (Below.refl _ _).alloc (Nat.le_refl _) _
    have B5 := B4.trans (hb5.mono B4.size)
    have B6 := B5.trans (hA5.mono B5.size)
    have u1 := cell_later hA5 (cell_later hb5 g1)
    have u2 := cell_later hA5 (cell_later hb5 g2)
    have u3 := cell_later hA5 (cell_later hb5 g3)
    have x3 := frozen_later hA5 (cell_later hb5 g3) (frozen_later hb5 g3 j3)
    have uP := cell_later hA5 (cell_later hb5 gP)
    have uQ := newcell w5 (.slice q5 m5 d5) 48
    have F1' := (F1.below hb5).below hA5
    have F2' := (F2.below hb5).below hA5
    have r1 := owns_below (owns_below p1 hb5) hA5
    have r3 := owns_below (owns_below p3 hb5) hA5
    have r5 := owns_below o5 hA5
    clear g1 g2 g3 j3 gP F1 F2 p1 p3 o5 hb5 hA5 B4 B5
    go_wp2_with fail
    obtain ⟨V, hV⟩ : ∃ V, V = w5.alloc (.cells #[.slice q5 m5 d5] 48) := ⟨_, rfl⟩
    rw [← hV] at B6 u1 u2 u3 x3 uP uQ F1' F2' r1 r3 r5
    rw [← hV]
    clear hV
    cases hA : pickOk xs (side ps 0) with
    | false =>
      have HNO : Hid (joinOk xs ys ps = false) := by show _ = _; rw [joinOk_eq, h2, hA]; rfl
      clear hA
      go_region
      go_wp2
      refine bodyPost_ret (v := .tuple #[.agg #[.slice none 0 0], .bool false]) (by simp [results, Tryz.results64, go_sem, u3]) rfl (join_no HNO.out ?_)
      exact B6.drew.setCell (by simp; omega) _
    | true =>
      cases hB : pickOk ys (side ps 1) with
      | false =>
        have HNO : Hid (joinOk xs ys ps = false) := by show _ = _; rw [joinOk_eq, h2, hA, hB]; rfl
        clear hA hB
        go_region
        go_wp2
        refine bodyPost_ret (v := .tuple #[.agg #[.slice none 0 0], .bool false]) (by simp [results, Tryz.results64, go_sem, u3]) rfl (join_no HNO.out ?_)
        exact B6.drew.setCell (by simp; omega) _
      | true =>
        have hXz : pickZ xs (side ps 0) = pick xs (side ps 0) := by simp [pickZ, hA]
        have hYz : pickZ ys (side ps 1) = pick ys (side ps 1) := by simp [pickZ, hB]
        rw [hXz] at hm3 r3
        rw [hYz] at hm5 r5
        have gX := pick_good hA
        have gY := pick_good hB
        rw [hm3] at gX
        rw [hm5] at gY
        have hlX : (pick xs (side ps 0)).length = ps.length := by simp [pick, side_length]
        have hlY : (pick ys (side ps 1)).length = ps.length := by simp [pick, side_length]
        have h6 := pairs2_len h2
        have h3l : m3 ≤ 6 := by omega
        have h5l : m5 ≤ 6 := by omega
        have hXY : (pick xs (side ps 0)).length = (pick ys (side ps 1)).length := by rw [hlX, hlY]
        have HJ : Hid (joinOk xs ys ps = (decide (pick xs (side ps 0) = pick ys (side ps 1)) && good (joinZ xs ys (side ps 1)))) := by show _ = _; rw [joinOk_eq, h2, hA, hB]; simp
        have hgx : good xs = true := by simp only [pickOk, Bool.and_eq_true] at hA; exact hA.1
        have hgy : good ys = true := by simp only [pickOk, Bool.and_eq_true] at hB; exact hB.1
        have hco : colsOk (side ps 1) ys.length = true := by simp only [pickOk, Bool.and_eq_true] at hB; exact hB.2
        have HGX := Hid.mk hgx
        have HGY := Hid.mk hgy
        have HCO := Hid.mk hco
        have HXY := Hid.mk hXY
        have HM3 := Hid.mk hm3
        have HM5 := Hid.mk hm5
        generalize hXg : pick xs (side ps 0) = X at *
        generalize hYg : pick ys (side ps 1) = Y at *
        clear hXz hYz hA hB hlX hlY hXY hgx hgy hco hXg hYg hm3 hm5
        cases hE : decide (X = Y) with
        | false =>
          have HE := Hid.mk hE
          have HNO : Hid (joinOk xs ys ps = false) := by show _ = _; rw [HJ.out, hE]; rfl
          clear hE HJ
          go_region_held3 (fun w' => w'.cell? ⟨Pb, 0, none⟩ = some (.slice q3 m3 d3) ∧ w'.cell? ⟨w5.heap.size, 0, none⟩ = some (.slice q5 m5 d5)) (refine ⟨?_, ?_⟩ <;> assumption)
            (first
              | (go_at_call_of 63 (Value.slice q3 m3 d3); refine (arrayOf_any _ _ _ X _ HM3.out h3l gX (At.owned r3.drew)).mono ?_; rintro e w6 ⟨x0, x1, x2, x3', x4, x5, rfl, hx, hb6⟩; have c6 := cell_later hb6 uP; have d6 := cell_later hb6 uQ)
              | (go_at_call_of 63 (Value.slice q5 m5 d5); refine (arrayOf_any _ _ _ Y _ HM5.out h5l gY (At.owned (owns_below r5.drew hb6))).mono ?_; rintro e w7 ⟨z0, z1, z2, z3, z4, z5, rfl, hy, hb7⟩; have c7 := cell_later hb7 c6; have d7 := cell_later hb7 d6; have hq := eq_raised hx hy HXY.out HE.out; clear hx hy))
          have B7 := B6.drew.trans (hb6.mono B6.size)
          have B8 := B7.trans (hb7.mono B7.size)
          have y1 := cell_later hb7 (cell_later hb6 u1)
          have y2 := cell_later hb7 (cell_later hb6 u2)
          have y3 := cell_later hb7 (cell_later hb6 u3)
          have y3f := frozen_later hb7 (cell_later hb6 u3) (frozen_later hb6 u3 x3)
          have B7n : w.heap.size + 1 + 1 + 1 ≤ w7.heap.size := World.block_lt_of_cell? _ _ y3
          go_wp2
          refine bodyPost_ret (v := .tuple #[.agg #[.slice none 0 0], .bool false]) (by simp [results, Tryz.results64, go_sem, y3]) rfl (join_no HNO.out ?_)
          exact B8.setCell (by simp; omega) _
        | true =>
          have HE := Hid.mk hE
          have HK : Hid (joinOk xs ys ps = good (joinZ xs ys (side ps 1))) := by show _ = _; rw [HJ.out, hE]; rfl
          clear hE HJ
          go_region_held3 (fun w' => w'.cell? ⟨Pb, 0, none⟩ = some (.slice q3 m3 d3) ∧ w'.cell? ⟨w5.heap.size, 0, none⟩ = some (.slice q5 m5 d5)) (refine ⟨?_, ?_⟩ <;> assumption)
            (first
              | (go_at_call_of 63 (Value.slice q3 m3 d3); refine (arrayOf_any _ _ _ X _ HM3.out h3l gX (At.owned r3.drew)).mono ?_; rintro e w6 ⟨x0, x1, x2, x3', x4, x5, rfl, hx, hb6⟩; have c6 := cell_later hb6 uP; have d6 := cell_later hb6 uQ)
              | (go_at_call_of 63 (Value.slice q5 m5 d5); refine (arrayOf_any _ _ _ Y _ HM5.out h5l gY (At.owned (owns_below r5.drew hb6))).mono ?_; rintro e w7 ⟨z0, z1, z2, z3, z4, z5, rfl, hy, hb7⟩; have c7 := cell_later hb7 c6; have d7 := cell_later hb7 d6; have hq := eq_raised hx hy HXY.out HE.out; clear hx hy))
          have B7 := B6.drew.trans (hb6.mono B6.size)
          have B8 := B7.trans (hb7.mono B7.size)
          have y1 := cell_later hb7 (cell_later hb6 u1)
          have y2 := cell_later hb7 (cell_later hb6 u2)
          have y3 := cell_later hb7 (cell_later hb6 u3)
          have y3f := frozen_later hb7 (cell_later hb6 u3) (frozen_later hb6 u3 x3)
          have B7n : w.heap.size + 1 + 1 + 1 ≤ w7.heap.size := World.block_lt_of_cell? _ _ y3
          have F1n := (F1'.drew.below hb6).below hb7
          have F2n := (F2'.drew.below hb6).below hb7
          have r1n := owns_below (owns_below r1.drew hb6) hb7
          clear r3 r5 F1' F2' r1 hb6 hb7 hq gX gY u1 u2 u3 uP uQ x3 B6
          go_wp2_with fail
          refine (joinCells_any _ _ _ _ _ _ _ _ _ xs ys (side ps 1) _ hz hz' (by rw [side_length]; exact hl) (by have := good_len HGX.out; omega) (by have := good_len HGY.out; omega) (by omega) (fun j hj => by have q := colsOk_at HCO.out j (by rw [side_length]; omega); rw [hz'] at q; exact q) hnil F1n F2n (At.owned r1n)).mono ?_
          rintro e w8 ⟨q8, m8, d8, rfl, hm8, o8, hb8⟩
          have hA8 : Below w8.heap.size w8 (w8.alloc (.cells #[.slice q8 m8 d8] 48)) := (Below.refl _ _).alloc (Nat.le_refl _) _
          have B9 := B8.trans (hb8.mono B8.size)
          have Ba := B9.trans (hA8.mono B9.size)
          have t3 := cell_later hA8 (cell_later hb8 y3)
          have t3f := frozen_later hA8 (cell_later hb8 y3) (frozen_later hb8 y3 y3f)
          have tJ := newcell w8 (.slice q8 m8 d8) 48
          have oJ := owns_below o8 hA8
          have hz8 : w.heap.size + 1 + 1 < w8.heap.size := World.block_lt_of_cell? _ _ (cell_later hb8 y3)
          have h8 : m8 ≤ 9223372036854775807 := by
            have q1 := good_len HGX.out
            have q2 := good_len HGY.out
            have q3 := restTo_length ys (side ps 1) ys.length
            rw [← hm8, joinZ, List.length_append]; omega
          clear F1n F2n r1n hb8 B8 B9 y1 y2 y3 y3f
          go_wp2_with fail
          refine (implGoodRow_any _ _ _ (joinZ xs ys (side ps 1)) _ hm8 h8 (At.owned oJ)).mono ?_
          rintro e w9 ⟨rfl, hb9⟩
          have s3 := cell_later hb9 t3
          have s3f := frozen_later hb9 t3 t3f
          have sJ := cell_later hb9 tJ
          have oK := owns_below oJ hb9
          have Bb := Ba.trans (hb9.mono Ba.size)
          cases hG : good (joinZ xs ys (side ps 1)) with
          | false =>
            have HNO : Hid (joinOk xs ys ps = false) := HK.out.trans hG
            clear hG
            go_wp2
            refine bodyPost_ret (v := .tuple #[.agg #[.slice none 0 0], .bool false]) (by simp [results, Tryz.results64, go_sem, s3]) rfl (join_no HNO.out ?_)
            exact Bb.setCell (by simp; omega) _
          | true =>
            have HY : Hid (joinOk xs ys ps = true) := HK.out.trans hG
            have HZ : Hid (joinAns xs ys ps = joinZ xs ys (side ps 1)) := by show _ = _; rw [joinAns, HY.out]; rfl
            clear hG
            go_wp2
            refine bodyPost_ret (v := .tuple #[.agg #[.slice q8 m8 d8], .bool true]) (by simp [results, Tryz.results64, go_sem, s3]) rfl ⟨q8, m8, d8, by rw [HY.out], by rw [HZ.out]; exact hm8, ?_, Bb.setCell (by simp; omega) _⟩
            rw [HZ.out]
            exact owns_mono (ownsRow_setCell_below (owns_mono oK B7n) (by simp) _) (by omega)

end Go.Proofs.YtpnaoahlfhbbmaaGreat

/- Contracts of spec.l1Columns, spec.l1Pick, spec.PickCells. -/
namespace Go.Proofs.YtpnaoahlfhbbmaaGreat
open Go.RowKit

end Go.Proofs.YtpnaoahlfhbbmaaGreat

/- Contracts of spec.l1Join, spec.JoinRows, and impl.JoinRows whole. -/
namespace Go.Proofs.YtpnaoahlfhbbmaaGreat
open Go.RowKit

theorem implJoinRows (a b : Option Addr) (n n' c c' : Nat) (xs ys : List Int) (p : Option Addr) (l d : Nat) (ps : List (List Int)) (w : World) (hz : xs.length = n) (hz' : ys.length = n') (hl : ps.length = l) (hn : n ≤ 9223372036854775807) (hn' : n' ≤ 9223372036854775807) (hl' : l ≤ 9223372036854775807)
    (hnil : a = none → c = 0) (ha : At w a xs) (hb : At w b ys) (hp : AtS w p ps) :
    Calls Tryz.prog 64 #[.agg #[.slice a n c], .agg #[.slice b n' c'], .slice p l d] w fun e w' => ∃ r m d, e = .returned (.tuple #[.agg #[.slice r m d], .bool (joinOk xs ys ps)]) ∧
      (joinAns xs ys ps).length = m ∧ w'.ownsRow w.heap.size 3 1 (.slice r m d) m ((joinAns xs ys ps).map (.int .i64)) ∧ Below w.heap.size w w' := by
  cases h2 : pairs2 ps with
  | false => exact implJoinRows_c1 a b p n n' l c c' d xs ys ps w hz hz' hl hn hn' hl' hnil ha hb hp h2
  | true => exact implJoinRows_c2 a b p n n' l c c' d xs ys ps w hz hz' hl hn hn' hl' hnil ha hb hp h2

theorem contains_snoc (cols : List Int) (i : Nat) (h : i < cols.length) (j : Int) : (cols.take (i + 1)).contains j = ((cols.take i).contains j || (cols.getD i 0 == j)) := by
  rw [take_snocD cols i h]
  simp only [List.contains_eq_mem, List.mem_append, List.mem_singleton, Bool.decide_or]
  congr 1
  by_cases e : j = cols.getD i 0
  · rw [decide_eq_true e, e]; simp
  · rw [decide_eq_false e, beq_false_of_ne (Ne.symm e)]

theorem picks_succ {xs ys : List Int} {ps : List (List Int)} {k : Nat} (hk : k < ps.length) (h : pick xs (side (ps.take k) 0) = pick ys (side (ps.take k) 1))
    (he : xs.getD ((ps.getD k []).getD 0 0).toNat 0 = ys.getD ((ps.getD k []).getD 1 0).toNat 0) : pick xs (side (ps.take (k + 1)) 0) = pick ys (side (ps.take (k + 1)) 1) := by
  rw [side_take ps 0 k hk, side_take ps 1 k hk]
  unfold pick at *
  rw [List.map_append, List.map_append, h, List.map_cons, List.map_cons, he]
  rfl
theorem picks_not {xs ys : List Int} {ps : List (List Int)} {k : Nat} (hk : k < ps.length) (he : xs.getD ((ps.getD k []).getD 0 0).toNat 0 ≠ ys.getD ((ps.getD k []).getD 1 0).toNat 0) : pick xs (side ps 0) ≠ pick ys (side ps 1) := fun h => by
  apply he
  have := congrArg (fun q => q.getD k 0) h
  have h0 := side_getD ps 0 k hk
  have h1 := side_getD ps 1 k hk
  simp only [pick, List.getD, List.getElem?_map] at this h0 h1 ⊢
  rw [List.getElem?_eq_getElem (by rw [side_length]; exact hk), List.getElem?_eq_getElem (by rw [side_length]; exact hk)] at this
  rw [List.getElem?_eq_getElem (by rw [side_length]; exact hk)] at h0 h1
  simp only [Option.map_some, Option.getD_some] at this h0 h1
  rw [← h0, ← h1]
  exact this

/-- What l1Join answers. -/
def l1Z (xs ys : List Int) (ps : List (List Int)) : List Int := if pick xs (side ps 0) = pick ys (side ps 1) then joinZ xs ys (side ps 1) else []
def l1B (xs ys : List Int) (ps : List (List Int)) : Bool := decide (pick xs (side ps 0) = pick ys (side ps 1)) && decide ((joinZ xs ys (side ps 1)).length ≤ 6)

end Go.Proofs.YtpnaoahlfhbbmaaGreat

/- Plain: what is joined of two lists of weighted rows. -/
namespace Go.Proofs.YtpnaoahlfhbbmaaGreat

def joinG (ps : List (List Int)) (t u : WRow) : Option WRow := if joinOk t.1 u.1 ps = true then some (joinAns t.1 u.1 ps, t.2 * u.2) else none
def joinL (xs ys : List WRow) (ps : List (List Int)) : List WRow := xs.flatMap fun t => ys.filterMap (joinG ps t)
def outJ (xs ys : List WRow) (ps : List (List Int)) (k : Nat) : Nat := (joinL (xs.take k) ys ps).length
theorem outJ_succ {xs ys : List WRow} {ps : List (List Int)} {k : Nat} (h : k < xs.length) : outJ xs ys ps (k + 1) = outJ xs ys ps k + (ys.filterMap (joinG ps (wat xs k))).length := by
  unfold outJ joinL
  rw [wtake_succ xs k h, List.flatMap_append, List.length_append]
  simp
theorem wsplit {xs : List WRow} {k : Nat} (h : k < xs.length) : xs = xs.take k ++ wat xs k :: xs.drop (k + 1) := by
  have h3 := (List.take_append_drop k xs).symm
  rw [List.drop_eq_getElem_cons h] at h3
  rw [show wat xs k = xs[k] by simp [wat, List.getD, h]]
  exact h3
theorem joinL_at {xs ys : List WRow} {ps : List (List Int)} {k j : Nat} (h : k < xs.length) (hj : j < (ys.filterMap (joinG ps (wat xs k))).length) :
    outJ xs ys ps k + j < (joinL xs ys ps).length ∧ wat (joinL xs ys ps) (outJ xs ys ps k + j) = wat (ys.filterMap (joinG ps (wat xs k))) j := by
  have e : joinL xs ys ps = joinL (xs.take k) ys ps ++ (ys.filterMap (joinG ps (wat xs k)) ++ joinL (xs.drop (k + 1)) ys ps) := by
    have h4 := congrArg (fun l => joinL l ys ps) (wsplit h)
    simp only [joinL, List.flatMap_append, List.flatMap_cons] at h4
    exact h4
  rw [e]
  unfold outJ
  generalize ys.filterMap (joinG ps (wat xs k)) = M at *
  refine ⟨by simp only [List.length_append]; omega, ?_⟩
  simp only [wat, List.getD]
  rw [List.getElem?_append_right (by omega), Nat.add_sub_cancel_left, List.getElem?_append_left hj]

/-- How many of so many columns are in no pair. -/
def leftN (cols : List Int) (k : Nat) : Nat := ((List.range k).filter fun (j : Nat) => !cols.contains (j : Int)).length
theorem leftN_skip (cols : List Int) (k : Nat) (h : cols.contains (k : Int) = true) : leftN cols (k + 1) = leftN cols k := by
  simp only [leftN, List.range_succ, List.filter_append, List.filter_cons, List.filter_nil, h, Bool.not_true, Bool.false_eq_true, if_false, List.append_nil]
theorem leftN_take (cols : List Int) (k : Nat) (h : cols.contains (k : Int) = false) : leftN cols (k + 1) = leftN cols k + 1 := by
  simp only [leftN, List.range_succ, List.filter_append, List.filter_cons, List.filter_nil, h, Bool.not_false, if_true, List.length_append, List.length_cons, List.length_nil]
theorem leftN_le (cols : List Int) (k : Nat) : leftN cols k ≤ k := by
  have := List.length_filter_le (fun j : Nat => !cols.contains (j : Int)) (List.range k)
  simpa [leftN] using this
theorem restTo_len (ys cols : List Int) (k : Nat) : (restTo ys cols k).length = leftN cols k := by simp [restTo, leftN]
theorem joinZ_len (xs ys cols : List Int) : (joinZ xs ys cols).length = xs.length + leftN cols ys.length := by rw [joinZ, List.length_append, restTo_len]

def joinC (p q : Int) (ps : List (List Int)) : Nat := p.toNat + leftN (side ps 1) q.toNat
def joinW (ts us : List WRow) (ps : List (List Int)) : List WRow := putAll [] (joinL ts us ps)
def joinB (p q : Int) (ts us : List WRow) (ps : List (List Int)) : Bool := goodT p ts && (goodT q us && (pairsOk ps p.toNat q.toNat && (decide (joinC p q ps ≤ 6) && goodT (joinC p q ps) (joinW ts us ps))))
section
variable {p q : Int} {ts us : List WRow} {ps : List (List Int)}
theorem joinB_a (h : goodT p ts = false) : joinB p q ts us ps = false := by simp [joinB, h]
theorem joinB_b (h : goodT q us = false) : joinB p q ts us ps = false := by simp [joinB, h]
theorem joinB_p (h : pairsOk ps p.toNat q.toNat = false) : joinB p q ts us ps = false := by simp [joinB, h]
theorem joinB_c (h : 6 < joinC p q ps) : joinB p q ts us ps = false := by
  have : decide (joinC p q ps ≤ 6) = false := by simp; omega
  simp [joinB, this]
theorem joinB_yes (h1 : goodT p ts = true) (h2 : goodT q us = true) (h3 : pairsOk ps p.toNat q.toNat = true) (h4 : joinC p q ps ≤ 6) : joinB p q ts us ps = goodT (joinC p q ps) (joinW ts us ps) := by simp [joinB, h1, h2, h3, h4]
theorem joinB_goodT (h : joinB p q ts us ps = true) : goodT (joinC p q ps) (joinW ts us ps) = true := by
  simp only [joinB, Bool.and_eq_true] at h
  exact h.2.2.2.2
end

theorem good_noughts' {q : Nat} (h : q ≤ 6) : good (List.replicate q 0) = true := by
  refine good_of (by simpa using h) fun k hk => ?_
  have : (List.replicate q (0 : Int)).getD k 0 = 0 := by
    rw [List.getD_eq_getElem?_getD, List.getElem?_replicate]; split <;> rfl
  rw [this]; omega
theorem pick_noughts (q : Nat) (cols : List Int) : pick (List.replicate q 0) cols = List.replicate cols.length 0 := by
  unfold pick
  rw [List.eq_replicate_iff]
  refine ⟨by simp, fun x hx => ?_⟩
  obtain ⟨c, _, rfl⟩ := List.mem_map.1 hx
  rw [List.getD_eq_getElem?_getD, List.getElem?_replicate]; split <;> rfl
theorem joinOk_noughts {p q : Nat} (hp : p ≤ 6) (hq : q ≤ 6) (ps : List (List Int)) : joinOk (List.replicate p 0) (List.replicate q 0) ps = (pairsOk ps p q && decide (joinC p q ps ≤ 6)) := by
  unfold joinOk
  rw [good_noughts' hp, good_noughts' hq, pick_noughts, pick_noughts, side_length, side_length, joinZ_len, List.length_replicate, List.length_replicate, decide_eq_true rfl]
  simp [joinC]
  rfl
theorem joinAns_noughts {p q : Nat} {ps : List (List Int)} (h : joinOk (List.replicate p 0) (List.replicate q 0) ps = true) : (joinAns (List.replicate p 0) (List.replicate q 0) ps).length = joinC p q ps := by
  unfold joinAns
  rw [if_pos h, joinZ_len]
  simp [joinC]

theorem prod_in {x y : Int} (h1 : -1000000 ≤ x) (h2 : x ≤ 1000000) (h3 : -1000000 ≤ y) (h4 : y ≤ 1000000) : -1000000000000 ≤ x * y ∧ x * y ≤ 1000000000000 := by
  have a := Int.mul_nonneg (show 0 ≤ 1000000 - x by omega) (show 0 ≤ 1000000 + y by omega)
  have b := Int.mul_nonneg (show 0 ≤ 1000000 + x by omega) (show 0 ≤ 1000000 - y by omega)
  have c := Int.mul_nonneg (show 0 ≤ 1000000 - x by omega) (show 0 ≤ 1000000 - y by omega)
  have d := Int.mul_nonneg (show 0 ≤ 1000000 + x by omega) (show 0 ≤ 1000000 + y by omega)
  simp only [Int.sub_mul, Int.add_mul, Int.mul_sub, Int.mul_add] at a b c d
  constructor <;> omega
theorem prod_wrap {x y : Int} (h1 : -1000000 ≤ x) (h2 : x ≤ 1000000) (h3 : -1000000 ≤ y) (h4 : y ≤ 1000000) : IntKind.i64.wrap (x * y) = x * y := by
  have := prod_in h1 h2 h3 h4
  exact IntWalk.i64_in _ (by omega)

theorem prod_wrap64 {x y : Int} (h1 : -1000000 ≤ x) (h2 : x ≤ 1000000) (h3 : -1000000 ≤ y) (h4 : y ≤ 1000000) : Go.RowKit.wrap64 (x * y) = x * y := by
  have := prod_in h1 h2 h3 h4
  unfold Go.RowKit.wrap64; omega

theorem joinG_some {ps : List (List Int)} {t u v : WRow} (h : joinG ps t u = some v) : joinOk t.1 u.1 ps = true ∧ v = (joinZ t.1 u.1 (side ps 1), t.2 * u.2) := by
  unfold joinG at h
  split at h
  · rename_i h1
    cases h
    exact ⟨h1, by rw [joinAns, if_pos h1]⟩
  · cases h
theorem joinL_mem {xs ys : List WRow} {ps : List (List Int)} {t : WRow} (h : t ∈ joinL xs ys ps) : ∃ a ∈ xs, ∃ b ∈ ys, joinG ps a b = some t := by
  unfold joinL at h
  obtain ⟨a, ha, h1⟩ := List.mem_flatMap.1 h
  obtain ⟨b, hb, h2⟩ := List.mem_filterMap.1 h1
  exact ⟨a, ha, b, hb, h2⟩
theorem joinG_row {p q : Nat} {ts us : List WRow} {ps : List (List Int)} (h : goodT p ts = true) (k : goodT q us = true) {a b t : WRow} (ha : a ∈ ts) (hb : b ∈ us) (hg : joinG ps a b = some t) :
    good t.1 = true ∧ t.1.length = joinC p q ps ∧ -1000000000000 ≤ t.2 ∧ t.2 ≤ 1000000000000 := by
  obtain ⟨h1, rfl⟩ := joinG_some hg
  have ga := goodT_mem h a ha
  have gb := goodT_mem k b hb
  have wa := (goodL_mem (goodL_of_goodT h) a ha).2.2
  have wb := (goodL_mem (goodL_of_goodT k) b hb).2.2
  have hj : (joinZ a.1 b.1 (side ps 1)).length ≤ 6 := by
    simp only [joinOk, Bool.and_eq_true, decide_eq_true_eq] at h1
    exact h1.2
  refine ⟨?_, ?_, prod_in wa.1 wa.2 wb.1 wb.2⟩
  · show good (joinZ a.1 b.1 (side ps 1)) = true
    rw [good_joinZ ga.1 gb.1, decide_eq_true hj]
  · show (joinZ a.1 b.1 (side ps 1)).length = _
    rw [joinZ_len, ga.2, gb.2]; simp [joinC]
theorem joinL_rows {p q : Nat} {ts us : List WRow} {ps : List (List Int)} (h : goodT p ts = true) (k : goodT q us = true) : ∀ t ∈ joinL ts us ps, good t.1 = true ∧ t.1.length = joinC p q ps ∧ -1000000000000 ≤ t.2 ∧ t.2 ≤ 1000000000000 := fun t ht => by
  obtain ⟨a, ha, b, hb, hg⟩ := joinL_mem ht
  exact joinG_row h k ha hb hg
theorem joinL_len (xs ys : List WRow) (ps : List (List Int)) : (joinL xs ys ps).length ≤ xs.length * ys.length := by
  unfold joinL
  induction xs with
  | nil => simp
  | cons t xs ih =>
    rw [List.flatMap_cons, List.length_append, List.length_cons, Nat.succ_mul]
    have := List.length_filterMap_le (joinG ps t) ys
    omega
theorem tells_join {p q : Nat} {ts us : List WRow} {ps : List (List Int)} (h : goodT p ts = true) (k : goodT q us = true) : Tells (joinC p q ps) (sumAt (joinL ts us ps) (joinL ts us ps).length 1) (joinW ts us ps) :=
  tells_put List.Pairwise.nil (fun t ht => by cases ht) (fun t ht => by cases ht) (fun t ht => by have := joinL_rows h k t ht; exact ⟨this.1, this.2.1⟩)
    fun zs h1 _ => by rw [sumAt_sumW rfl 1 (fun t ht => (joinL_rows h k t ht).1) h1, wOf_nil]; omega

/-- What has come of the join when k rows of the one are through and j of the other with the next. -/
def accJ (ts us : List WRow) (ps : List (List Int)) (k j : Nat) : List WRow := joinL (ts.take k) us ps ++ (us.take j).filterMap (joinG ps (wat ts k))
section
variable {ts us : List WRow} {ps : List (List Int)} {k j : Nat}
theorem accJ_zero : accJ ts us ps k 0 = joinL (ts.take k) us ps := by simp [accJ]
theorem accJ_some (hj : j < us.length) {v : WRow} (h : joinG ps (wat ts k) (wat us j) = some v) : putAll [] (accJ ts us ps k (j + 1)) = putW (putAll [] (accJ ts us ps k j)) v.1 v.2 := by
  have e : accJ ts us ps k (j + 1) = accJ ts us ps k j ++ [v] := by
    unfold accJ
    rw [wtake_succ us j hj, List.filterMap_append, List.filterMap_cons, h, List.append_assoc]
    rfl
  rw [e, putAll_snoc]
theorem accJ_none (hj : j < us.length) (h : joinG ps (wat ts k) (wat us j) = none) : accJ ts us ps k (j + 1) = accJ ts us ps k j := by
  unfold accJ
  rw [wtake_succ us j hj, List.filterMap_append, List.filterMap_cons, h]
  simp
theorem accJ_all (hk : k < ts.length) : accJ ts us ps k us.length = joinL (ts.take (k + 1)) us ps := by
  unfold accJ joinL
  rw [wtake_succ ts k hk, List.flatMap_append, List.take_length]
  simp
theorem accJ_len (h1 : ts.length ≤ 60) (h2 : us.length ≤ 60) (hk : k < ts.length) : (accJ ts us ps k j).length ≤ 3600 := by
  unfold accJ
  rw [List.length_append]
  have a := joinL_len (ts.take k) us ps
  have b := List.length_filterMap_le (joinG ps (wat ts k)) (us.take j)
  rw [List.length_take] at a b
  have c : min k ts.length * us.length ≤ 59 * 60 := Nat.mul_le_mul (by omega) h2
  omega
theorem accJ_row {p q : Nat} (h : goodT p ts = true) (g : goodT q us = true) (hk : k < ts.length) : ∀ t ∈ accJ ts us ps k j, good t.1 = true ∧ t.1.length = joinC p q ps ∧ -1000000000000 ≤ t.2 ∧ t.2 ≤ 1000000000000 := fun t ht => by
  rcases List.mem_append.1 ht with h1 | h1
  · obtain ⟨a, ha, b, hb, hg⟩ := joinL_mem h1
    exact joinG_row h g (List.mem_of_mem_take ha) hb hg
  · obtain ⟨b, hb, hg⟩ := List.mem_filterMap.1 h1
    exact joinG_row h g (wat_mem hk) (List.mem_of_mem_take hb) hg
end

theorem putAll_in' {l : List WRow} {M : Int} (hM : 0 ≤ M) (hl : ∀ t ∈ l, t.1.length ≤ 6 ∧ -M ≤ t.2 ∧ t.2 ≤ M) : ∀ t ∈ putAll [] l, t.1.length ≤ 6 ∧ -(M * l.length) ≤ t.2 ∧ t.2 ≤ M * l.length := fun t h => by
  have hr : Rises [] := List.Pairwise.nil
  have h6 : t.1.length ≤ 6 := by
    rcases putAll_rows h with ⟨s, hs, e⟩ | ⟨s, hs, e⟩
    · cases hs
    · rw [← e]; exact (hl s hs).1
  have hw := wOf_mem (putAll_rises (l := l) hr) h
  rw [putAll_wOf t.1 hr] at hw
  have b2 := sumW_bound (zs := t.1) hM (fun s hs => (hl s hs).2)
  have b0 : wOf [] t.1 = 0 := rfl
  omega

/-- All that a walk of the inner loop asks of them. -/
theorem accJ_pack {p q : Nat} {ts us : List WRow} {ps : List (List Int)} {k n' : Nat} (h : goodT p ts = true) (g : goodT q us = true) (hk : k < ts.length) (hn' : us.length = n') :
    ∃ AC : Nat → List WRow, AC 0 = putAll [] (joinL (ts.take k) us ps) ∧ (∀ j v, j < n' → joinG ps (wat ts k) (wat us j) = some v → AC (j + 1) = putW (AC j) v.1 v.2) ∧ (∀ j, j < n' → joinG ps (wat ts k) (wat us j) = none → AC (j + 1) = AC j) ∧
      AC n' = putAll [] (joinL (ts.take (k + 1)) us ps) ∧ ∀ j, (AC j).length ≤ 3600 ∧ ∀ i, i < (AC j).length → (wat (AC j) i).1.length ≤ 6 ∧ -4000000000000000000 ≤ (wat (AC j) i).2 ∧ (wat (AC j) i).2 ≤ 4000000000000000000 := by
  refine ⟨fun j => putAll [] (accJ ts us ps k j), by simp only [accJ_zero], fun j v hj hv => accJ_some (by omega) hv, fun j hj hv => by simp only [accJ_none (show j < us.length by omega) hv], by subst hn'; simp only [accJ_all hk], fun j => ?_⟩
  have hl := accJ_len (ps := ps) (j := j) (goodT_len60 h) (goodT_len60 g) hk
  refine ⟨?_, fun i hi => ?_⟩
  · have := putAll_len (accJ ts us ps k j) []
    simp only [List.length_nil] at this
    show (putAll [] (accJ ts us ps k j)).length ≤ 3600
    omega
  · have := at_of_mem (putAll_in' (M := 1000000000000) (by omega) (fun t ht => by have := accJ_row (ps := ps) h g hk t ht; exact ⟨good_len this.1, this.2.2⟩)) i hi
    refine ⟨this.1, ?_, ?_⟩ <;> (dsimp only; omega)

/-- The model's join of two rows, where all is good. -/
theorem l1B_joinOk {xs ys : List Int} {ps : List (List Int)} (hx : good xs = true) (hy : good ys = true) (hp : pairsOk ps xs.length ys.length = true) : l1B xs ys ps = joinOk xs ys ps := by
  simp [joinOk, l1B, hx, hy, hp]
theorem l1Z_joinAns {xs ys : List Int} {ps : List (List Int)} (h : joinOk xs ys ps = true) : l1Z xs ys ps = joinAns xs ys ps := by
  have : pick xs (side ps 0) = pick ys (side ps 1) := by simp only [joinOk, Bool.and_eq_true, decide_eq_true_eq] at h; exact h.1.2
  simp [joinAns, h, l1Z, this]

end Go.Proofs.YtpnaoahlfhbbmaaGreat
