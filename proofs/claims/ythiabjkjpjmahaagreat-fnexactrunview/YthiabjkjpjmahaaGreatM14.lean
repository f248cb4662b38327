/- Several texts of one proof, in build order: JoinR, PickS. -/
import Derived.Test.YthiabjkjpjmahaaGreatM13
import Derived.Test.YthiabjkjpjmahaaGreatM7
import Derived.Deep.DeepCutAuto

/- Contract of impl.JoinRows. -/
namespace Go.Proofs.YthiabjkjpjmahaaGreat
open Go.RowKit

theorem joinOk_eq (xs ys : List Int) (ps : List (List Int)) : joinOk xs ys ps = (pairs2 ps && pickOk xs (side ps 0) && pickOk ys (side ps 1) && decide (pick xs (side ps 0) = pick ys (side ps 1)) && good (joinZ xs ys (side ps 1))) := by
  unfold joinOk pickOk
  rw [pairsOk_split]
  cases hx : good xs <;> cases hy : good ys <;> simp
  rw [good_joinZ hx hy]






theorem eq_raised {X Y : List Int} {x0 x1 x2 x3 x4 x5 y0 y1 y2 y3 y4 y5 : Int} {bl : Bool} (hx : raised X = [x0, x1, x2, x3, x4, x5]) (hy : raised Y = [y0, y1, y2, y3, y4, y5]) (hl : X.length = Y.length) (hb : decide (X = Y) = bl) :
    ∀ w, (Op.equalIn 10000 131 (.agg #[.int .i64 x0, .int .i64 x1, .int .i64 x2, .int .i64 x3, .int .i64 x4, .int .i64 x5]) (.agg #[.int .i64 y0, .int .i64 y1, .int .i64 y2, .int .i64 y3, .int .i64 y4, .int .i64 y5])).run Tryz.prog w = .ok bl w := fun w => by
  obtain ⟨i0, hi, hz0, hz1, hz2⟩ := info_parts Tryz.infoInt
  have h := run_equal_ints w 9998 131 3 i0 Tryz.underlying131 Tryz.underlying3 hi hz1 [x0, x1, x2, x3, x4, x5] [y0, y1, y2, y3, y4, y5] rfl rfl
  rw [← hx, ← hy, raised_dec hl, hb, hx, hy] at h
  simpa using h

/-- Nothing, and false. -/
theorem join_no {xs ys : List Int} {ps : List (List Int)} {w w2 : World} (h : joinOk xs ys ps = false) (hb : Below w.heap.size w w2) :
    ∃ r m d, Ending.returned (.tuple #[.agg #[.slice none 0 0], .bool false]) = .returned (.tuple #[.agg #[.slice r m d], .bool (joinOk xs ys ps)]) ∧
      (joinAns xs ys ps).length = m ∧ w2.ownsRow w.heap.size 3 1 (.slice r m d) m ((joinAns xs ys ps).map (.int .i64)) ∧ Below w.heap.size w w2 :=
  ⟨none, 0, 0, by rw [h], by simp [joinAns, h], by simp only [joinAns, h]; exact World.ownsRow_nil _ _ _ _, hb⟩

set_option linter.unusedVariables false in
set_option maxHeartbeats 8000000 in
theorem implJoinRows_c1 (a b p : Option Addr) (n n' l c c' d : Nat) (xs ys : List Int) (ps : List (List Int)) (w : World) (hz : xs.length = n) (hz' : ys.length = n') (hl : ps.length = l) (hn : n ≤ 9223372036854775807) (hn' : n' ≤ 9223372036854775807) (hl' : l ≤ 9223372036854775807)
    (hnil : a = none → c = 0) (ha : At w a xs) (hb : At w b ys) (hp : AtS w p ps) (h2 : pairs2 ps = false) :
    Calls Tryz.prog 148 #[.agg #[.slice a n c], .agg #[.slice b n' c'], .slice p l d] w fun e w' => ∃ r m d, e = .returned (.tuple #[.agg #[.slice r m d], .bool (joinOk xs ys ps)]) ∧
      (joinAns xs ys ps).length = m ∧ w'.ownsRow w.heap.size 3 1 (.slice r m d) m ((joinAns xs ys ps).map (.int .i64)) ∧ Below w.heap.size w w' := by
  obtain ⟨W, hW⟩ : ∃ W, W = ((w.alloc (.cells #[.slice a n c] 80)).alloc (.cells #[.slice b n' c'] 80)).alloc (.cells #[.slice none 0 0] 80) := ⟨_, rfl⟩
  have B : Below w.heap.size w W := by rw [hW]; exact (((Below.refl _ _).alloc (Nat.le_refl _) _).alloc (by simp) _).alloc (by simp; omega) _
  have A1 : At W a xs := ha.below B
  have A2 : At W b ys := hb.below B
  have A3 : AtS W p ps := hp.below B
  have c1 : W.cell? ⟨w.heap.size, 0, none⟩ = some (.slice a n c) := by rw [hW]; simp [go_sem]
  have c2 : W.cell? ⟨w.heap.size + 1, 0, none⟩ = some (.slice b n' c') := by rw [hW]; simp [go_sem]
  have c3 : W.cell? ⟨w.heap.size + 1 + 1, 0, none⟩ = some (.slice none 0 0) := by rw [hW]; simp [go_sem]
  have f3 : W.frozen? ⟨w.heap.size + 1 + 1, 0, none⟩ = false := by rw [hW]; simp [go_sem]
  clear ha hb hp
  go_enter Tryz.func148, Tryz.ntmps148
  go_wp2_with fail
  rw [← hW]
  refine (arePairs_any _ _ _ ps _ hl hl' A3).mono ?_
  rintro e w0 ⟨rfl, rfl⟩
  clear hW
  have HNO : Hid (joinOk xs ys ps = false) := by show _ = _; rw [joinOk_eq, h2]; rfl
  rw [h2]
  go_wp2
  refine bodyPost_ret (v := .tuple #[.agg #[.slice none 0 0], .bool false]) (by simp [results, Tryz.results148, go_sem, c3]) rfl (join_no HNO.out ?_)
  exact B.setCell (by simp; omega) _

set_option linter.unusedVariables false in
set_option maxHeartbeats 8000000 in
theorem implJoinRows_c2 (a b p : Option Addr) (n n' l c c' d : Nat) (xs ys : List Int) (ps : List (List Int)) (w : World) (hz : xs.length = n) (hz' : ys.length = n') (hl : ps.length = l) (hn : n ≤ 9223372036854775807) (hn' : n' ≤ 9223372036854775807) (hl' : l ≤ 9223372036854775807)
    (hnil : a = none → c = 0) (ha : At w a xs) (hb : At w b ys) (hp : AtS w p ps) (h2 : pairs2 ps = true) :
    Calls Tryz.prog 148 #[.agg #[.slice a n c], .agg #[.slice b n' c'], .slice p l d] w fun e w' => ∃ r m d, e = .returned (.tuple #[.agg #[.slice r m d], .bool (joinOk xs ys ps)]) ∧
      (joinAns xs ys ps).length = m ∧ w'.ownsRow w.heap.size 3 1 (.slice r m d) m ((joinAns xs ys ps).map (.int .i64)) ∧ Below w.heap.size w w' := by
  obtain ⟨W, hW⟩ : ∃ W, W = ((w.alloc (.cells #[.slice a n c] 80)).alloc (.cells #[.slice b n' c'] 80)).alloc (.cells #[.slice none 0 0] 80) := ⟨_, rfl⟩
  have B : Below w.heap.size w W := by rw [hW]; exact (((Below.refl _ _).alloc (Nat.le_refl _) _).alloc (by simp) _).alloc (by simp; omega) _
  have A1 : At W a xs := ha.below B
  have A2 : At W b ys := hb.below B
  have A3 : AtS W p ps := hp.below B
  have c1 : W.cell? ⟨w.heap.size, 0, none⟩ = some (.slice a n c) := by rw [hW]; simp [go_sem]
  have c2 : W.cell? ⟨w.heap.size + 1, 0, none⟩ = some (.slice b n' c') := by rw [hW]; simp [go_sem]
  have c3 : W.cell? ⟨w.heap.size + 1 + 1, 0, none⟩ = some (.slice none 0 0) := by rw [hW]; simp [go_sem]
  have f3 : W.frozen? ⟨w.heap.size + 1 + 1, 0, none⟩ = false := by rw [hW]; simp [go_sem]
  clear ha hb hp
  go_enter Tryz.func148, Tryz.ntmps148
  go_wp2_with fail
  rw [← hW]
  refine (arePairs_any _ _ _ ps _ hl hl' A3).mono ?_
  rintro e w0 ⟨rfl, rfl⟩
  clear hW
  rw [h2]
  go_wp2_with fail
  refine (sideOf_any _ _ _ ps 1 _ hl h2 (by omega) A3).mono ?_
  rintro e w1 ⟨q1, d1, rfl, o1, hb1⟩
  have B1 := B.trans (hb1.mono B.size)
  have e1 := cell_later hb1 c1
  have e2 := cell_later hb1 c2
  have e3 := cell_later hb1 c3
  have k3 := frozen_later hb1 c3 f3
  have D1 := A1.below hb1
  have D2 := A2.below hb1
  have D3 := A3.below hb1
  clear B A1 A2 A3 c1 c2 c3 f3 hb1
  have D3d : AtS w1.drew p ps := D3.below (Below.refl _ _).drew
  have D3a : AtS (w1.alloc (.cells #[.slice none 0 0] 80)).drew p ps := D3.below ((Below.refl _ _).alloc (Nat.le_refl _) _).drew
  have ea : ∀ o, (w1.alloc o).cell? ⟨w.heap.size, 0, none⟩ = some (.slice a n c) := fun o => cell_later ((Below.refl _ _).alloc (Nat.le_refl _) _) e1
  have zE : w.heap.size < w1.heap.size := World.block_lt_of_cell? _ _ e1
  go_upto_region 4 with fail
  go_cut [9, 10] (fun t9 t10 wx => ∃ (Pb : Nat) (q3 : Option Addr) (m3 d3 : Nat), t9 = .pointer (some ⟨Pb, 0, none⟩) ∧ t10 = .bool (pickOk xs (side ps 0)) ∧ wx.cell? ⟨Pb, 0, none⟩ = some (.slice q3 m3 d3) ∧ (pickZ xs (side ps 0)).length = m3 ∧ wx.ownsRow w1.heap.size 3 1 (.slice q3 m3 d3) m3 ((pickZ xs (side ps 0)).map (.int .i64)) ∧ Below w1.heap.size w1 wx)
  case first =>
    go_region_held3 (fun w' => w'.cell? ⟨w.heap.size, 0, none⟩ = some (.slice a n c)) (first | assumption | (simp [*]; done) | (exact keep_far s1 (by omega)))
      (first
        | (go_at_call 168; refine (sideOf_any _ _ _ ps 0 _ hl h2 (by omega) (by first | exact D3d | exact D3a)).mono ?_; rintro e w2 ⟨q2, d2, rfl, o2, hb2⟩; have y1 : Below w1.heap.size w1 w2 := (by first | exact (Below.refl _ _).drew.trans hb2 | exact ((Below.refl _ _).alloc (Nat.le_refl _) _).drew.trans (hb2.mono (by simp))); have zz2 := y1.size; have r1 := cell_later y1 e1; have r1a : (∀ o, (w2.alloc o).cell? ⟨w.heap.size, 0, none⟩ = some (.slice a n c)) := (fun o => cell_later ((Below.refl _ _).alloc (Nat.le_refl _) _) r1); have F1 := D1.below y1; have F1a := F1.alloc (.cells #[.slice none 0 0] 80); have F2 := At.owned o2; have F2a := F2.alloc (.cells #[.slice none 0 0] 80); (try have v2 := cell_later hb2 (newcell w1 (.slice none 0 0) 80)); (try have v2f := frozen_later hb2 (newcell w1 (.slice none 0 0) 80) (newfrozen w1 (.slice none 0 0) 80)))
        | (go_at_call 145; refine (implPickCells _ _ _ _ _ _ xs (side ps 0) _ hz (by rw [side_length]; exact hl) hn hl' (by first | exact F1 | exact F1a) (by first | exact F2 | exact F2a)).mono ?_; rintro e w3 ⟨q3, m3, d3, rfl, hm3, o3, hb3⟩; have y3 : Below w1.heap.size w1 w3 := (by first | exact y1.trans (hb3.mono y1.size) | exact (y1.alloc y1.size _).trans (hb3.mono (y1.alloc y1.size _).size)); have s1 := cell_later y3 e1; have s1a : (∀ o, (w3.alloc o).cell? ⟨w.heap.size, 0, none⟩ = some (.slice a n c)) := (fun o => cell_later ((Below.refl _ _).alloc (Nat.le_refl _) _) s1); (try have v3 := cell_later hb3 v2); (try have v3f := frozen_later hb3 v2 v2f); (try have v4 := cell_later hb3 (newcell w2 (.slice none 0 0) 80)); (try have v4f := frozen_later hb3 (newcell w2 (.slice none 0 0) 80) (newfrozen w2 (.slice none 0 0) 80))))
    all_goals
      go_wp2_with fail
      go_meet
      case rel =>
        first
          | exact ⟨w3.heap.size, q3, m3, d3, rfl, rfl, newcell w3 _ _, hm3, owns_mono (o3.alloc _) zz2, y3.alloc y3.size _⟩
          | exact ⟨w2.heap.size, q3, m3, d3, rfl, rfl, cell_set v4 _, hm3, owns_mono (ownsRow_setCell_below o3 (size_lt w2 _) _) (Nat.le_trans zz2 (Nat.le_of_lt (size_lt w2 _))), y3.setCell zz2 _⟩
          | exact ⟨w1.heap.size, q3, m3, d3, rfl, rfl, cell_set v3 _, hm3, owns_mono (ownsRow_setCell_below o3 (World.block_lt_of_cell? _ _ v2) _) zz2, y3.setCell (Nat.le_refl _) _⟩
  case rest =>
    obtain ⟨Pb, q3, m3, d3, rfl, rfl, gP, hm3, p3, hb4⟩ := hcut
    have B4 := B1.trans (hb4.mono B1.size)
    have g1 := cell_later hb4 e1
    have g2 := cell_later hb4 e2
    have g3 := cell_later hb4 e3
    have j3 := frozen_later hb4 e3 k3
    have F1 := D1.below hb4
    have F2 := D2.below hb4
    have p1 := owns_below o1 hb4
    clear e1 e2 e3 k3 D1 D2 D3 D3d D3a ea o1 hb4 B1
    go_wp2_with fail
    refine (implPickCells _ _ _ _ _ _ ys (side ps 1) _ hz' (by rw [side_length]; exact hl) hn' hl' F2 (At.owned p1)).mono ?_
    rintro e w5 ⟨q5, m5, d5, rfl, hm5, o5, hb5⟩
    have hA5 : Below w5.heap.size w5 (w5.alloc (.cells #[.slice q5 m5 d5] 80)) := (Below.refl _ _).alloc (Nat.le_refl _) _
    have B5 := B4.trans (hb5.mono B4.size)
    have B6 := B5.trans (hA5.mono B5.size)
    have u1 := cell_later hA5 (cell_later hb5 g1)
    have u2 := cell_later hA5 (cell_later hb5 g2)
    have u3 := cell_later hA5 (cell_later hb5 g3)
    have x3 := frozen_later hA5 (cell_later hb5 g3) (frozen_later hb5 g3 j3)
    have uP := cell_later hA5 (cell_later hb5 gP)
    have uQ := newcell w5 (.slice q5 m5 d5) 80
    have F1' := (F1.below hb5).below hA5
    have F2' := (F2.below hb5).below hA5
    have r1 := owns_below (owns_below p1 hb5) hA5
    have r3 := owns_below (owns_below p3 hb5) hA5
    have r5 := owns_below o5 hA5
    clear g1 g2 g3 j3 gP F1 F2 p1 p3 o5 hb5 hA5 B4 B5
    go_wp2_with fail
    obtain ⟨V, hV⟩ : ∃ V, V = w5.alloc (.cells #[.slice q5 m5 d5] 80) := ⟨_, rfl⟩
    rw [← hV] at B6 u1 u2 u3 x3 uP uQ F1' F2' r1 r3 r5
    rw [← hV]
    clear hV
    cases hA : pickOk xs (side ps 0) with
    | false =>
      have HNO : Hid (joinOk xs ys ps = false) := by show _ = _; rw [joinOk_eq, h2, hA]; rfl
      clear hA
      go_region
      go_wp2
      refine bodyPost_ret (v := .tuple #[.agg #[.slice none 0 0], .bool false]) (by simp [results, Tryz.results148, go_sem, u3]) rfl (join_no HNO.out ?_)
      exact B6.drew.setCell (by simp; omega) _
    | true =>
      cases hB : pickOk ys (side ps 1) with
      | false =>
        have HNO : Hid (joinOk xs ys ps = false) := by show _ = _; rw [joinOk_eq, h2, hA, hB]; rfl
        clear hA hB
        go_region
        go_wp2
        refine bodyPost_ret (v := .tuple #[.agg #[.slice none 0 0], .bool false]) (by simp [results, Tryz.results148, go_sem, u3]) rfl (join_no HNO.out ?_)
        exact B6.drew.setCell (by simp; omega) _
      | true =>
        have hXz : pickZ xs (side ps 0) = pick xs (side ps 0) := by simp [pickZ, hA]
        have hYz : pickZ ys (side ps 1) = pick ys (side ps 1) := by simp [pickZ, hB]
        rw [hXz] at hm3 r3
        rw [hYz] at hm5 r5
        have gX := pick_good hA
        have gY := pick_good hB
        rw [hm3] at gX
        rw [hm5] at gY
        have hlX : (pick xs (side ps 0)).length = ps.length := by simp [pick, side_length]
        have hlY : (pick ys (side ps 1)).length = ps.length := by simp [pick, side_length]
        have h6 := pairs2_len h2
        have h3l : m3 ≤ 6 := by omega
        have h5l : m5 ≤ 6 := by omega
        have hXY : (pick xs (side ps 0)).length = (pick ys (side ps 1)).length := by rw [hlX, hlY]
        have HJ : Hid (joinOk xs ys ps = (decide (pick xs (side ps 0) = pick ys (side ps 1)) && good (joinZ xs ys (side ps 1)))) := by show _ = _; rw [joinOk_eq, h2, hA, hB]; simp
        have hgx : good xs = true := by simp only [pickOk, Bool.and_eq_true] at hA; exact hA.1
        have hgy : good ys = true := by simp only [pickOk, Bool.and_eq_true] at hB; exact hB.1
        have hco : colsOk (side ps 1) ys.length = true := by simp only [pickOk, Bool.and_eq_true] at hB; exact hB.2
        have HGX := Hid.mk hgx
        have HGY := Hid.mk hgy
        have HCO := Hid.mk hco
        have HXY := Hid.mk hXY
        have HM3 := Hid.mk hm3
        have HM5 := Hid.mk hm5
        generalize hXg : pick xs (side ps 0) = X at *
        generalize hYg : pick ys (side ps 1) = Y at *
        clear hXz hYz hA hB hlX hlY hXY hgx hgy hco hXg hYg hm3 hm5
        cases hE : decide (X = Y) with
        | false =>
          have HE := Hid.mk hE
          have HNO : Hid (joinOk xs ys ps = false) := by show _ = _; rw [HJ.out, hE]; rfl
          clear hE HJ
          go_region_held3 (fun w' => w'.cell? ⟨Pb, 0, none⟩ = some (.slice q3 m3 d3) ∧ w'.cell? ⟨w5.heap.size, 0, none⟩ = some (.slice q5 m5 d5)) (refine ⟨?_, ?_⟩ <;> assumption)
            (first
              | (go_at_call_of 86 (Value.slice q3 m3 d3); refine (arrayOf_any _ _ _ X _ HM3.out h3l gX (At.owned r3.drew)).mono ?_; rintro e w6 ⟨x0, x1, x2, x3', x4, x5, rfl, hx, hb6⟩; have c6 := cell_later hb6 uP; have d6 := cell_later hb6 uQ)
              | (go_at_call_of 86 (Value.slice q5 m5 d5); refine (arrayOf_any _ _ _ Y _ HM5.out h5l gY (At.owned (owns_below r5.drew hb6))).mono ?_; rintro e w7 ⟨z0, z1, z2, z3, z4, z5, rfl, hy, hb7⟩; have c7 := cell_later hb7 c6; have d7 := cell_later hb7 d6; have hq := eq_raised hx hy HXY.out HE.out; clear hx hy))
          have B7 := B6.drew.trans (hb6.mono B6.size)
          have B8 := B7.trans (hb7.mono B7.size)
          have y1 := cell_later hb7 (cell_later hb6 u1)
          have y2 := cell_later hb7 (cell_later hb6 u2)
          have y3 := cell_later hb7 (cell_later hb6 u3)
          have y3f := frozen_later hb7 (cell_later hb6 u3) (frozen_later hb6 u3 x3)
          have B7n : w.heap.size + 1 + 1 + 1 ≤ w7.heap.size := World.block_lt_of_cell? _ _ y3
          go_wp2
          refine bodyPost_ret (v := .tuple #[.agg #[.slice none 0 0], .bool false]) (by simp [results, Tryz.results148, go_sem, y3]) rfl (join_no HNO.out ?_)
          exact B8.setCell (by simp; omega) _
        | true =>
          have HE := Hid.mk hE
          have HK : Hid (joinOk xs ys ps = good (joinZ xs ys (side ps 1))) := by show _ = _; rw [HJ.out, hE]; rfl
          clear hE HJ
          go_region_held3 (fun w' => w'.cell? ⟨Pb, 0, none⟩ = some (.slice q3 m3 d3) ∧ w'.cell? ⟨w5.heap.size, 0, none⟩ = some (.slice q5 m5 d5)) (refine ⟨?_, ?_⟩ <;> assumption)
            (first
              | (go_at_call_of 86 (Value.slice q3 m3 d3); refine (arrayOf_any _ _ _ X _ HM3.out h3l gX (At.owned r3.drew)).mono ?_; rintro e w6 ⟨x0, x1, x2, x3', x4, x5, rfl, hx, hb6⟩; have c6 := cell_later hb6 uP; have d6 := cell_later hb6 uQ)
              | (go_at_call_of 86 (Value.slice q5 m5 d5); refine (arrayOf_any _ _ _ Y _ HM5.out h5l gY (At.owned (owns_below r5.drew hb6))).mono ?_; rintro e w7 ⟨z0, z1, z2, z3, z4, z5, rfl, hy, hb7⟩; have c7 := cell_later hb7 c6; have d7 := cell_later hb7 d6; have hq := eq_raised hx hy HXY.out HE.out; clear hx hy))
          have B7 := B6.drew.trans (hb6.mono B6.size)
          have B8 := B7.trans (hb7.mono B7.size)
          have y1 := cell_later hb7 (cell_later hb6 u1)
          have y2 := cell_later hb7 (cell_later hb6 u2)
          have y3 := cell_later hb7 (cell_later hb6 u3)
          have y3f := frozen_later hb7 (cell_later hb6 u3) (frozen_later hb6 u3 x3)
          have B7n : w.heap.size + 1 + 1 + 1 ≤ w7.heap.size := World.block_lt_of_cell? _ _ y3
          have F1n := (F1'.drew.below hb6).below hb7
          have F2n := (F2'.drew.below hb6).below hb7
          have r1n := owns_below (owns_below r1.drew hb6) hb7
          clear r3 r5 F1' F2' r1 hb6 hb7 hq gX gY u1 u2 u3 uP uQ x3 B6
          go_wp2_with fail
          refine (joinCells_any _ _ _ _ _ _ _ _ _ xs ys (side ps 1) _ hz hz' (by rw [side_length]; exact hl) (by have := good_len HGX.out; omega) (by have := good_len HGY.out; omega) (by omega) (fun j hj => by have q := colsOk_at HCO.out j (by rw [side_length]; omega); rw [hz'] at q; exact q) hnil F1n F2n (At.owned r1n)).mono ?_
          rintro e w8 ⟨q8, m8, d8, rfl, hm8, o8, hb8⟩
          have hA8 : Below w8.heap.size w8 (w8.alloc (.cells #[.slice q8 m8 d8] 80)) := (Below.refl _ _).alloc (Nat.le_refl _) _
          have B9 := B8.trans (hb8.mono B8.size)
          have Ba := B9.trans (hA8.mono B9.size)
          have t3 := cell_later hA8 (cell_later hb8 y3)
          have t3f := frozen_later hA8 (cell_later hb8 y3) (frozen_later hb8 y3 y3f)
          have tJ := newcell w8 (.slice q8 m8 d8) 80
          have oJ := owns_below o8 hA8
          have hz8 : w.heap.size + 1 + 1 < w8.heap.size := World.block_lt_of_cell? _ _ (cell_later hb8 y3)
          have h8 : m8 ≤ 9223372036854775807 := by
            have q1 := good_len HGX.out
            have q2 := good_len HGY.out
            have q3 := restTo_length ys (side ps 1) ys.length
            rw [← hm8, joinZ, List.length_append]; omega
          clear F1n F2n r1n hb8 B8 B9 y1 y2 y3 y3f
          go_wp2_with fail
          refine (implGoodRow_any _ _ _ (joinZ xs ys (side ps 1)) _ hm8 h8 (At.owned oJ)).mono ?_
          rintro e w9 ⟨rfl, hb9⟩
          have s3 := cell_later hb9 t3
          have s3f := frozen_later hb9 t3 t3f
          have sJ := cell_later hb9 tJ
          have oK := owns_below oJ hb9
          have Bb := Ba.trans (hb9.mono Ba.size)
          cases hG : good (joinZ xs ys (side ps 1)) with
          | false =>
            have HNO : Hid (joinOk xs ys ps = false) := HK.out.trans hG
            clear hG
            go_wp2
            refine bodyPost_ret (v := .tuple #[.agg #[.slice none 0 0], .bool false]) (by simp [results, Tryz.results148, go_sem, s3]) rfl (join_no HNO.out ?_)
            exact Bb.setCell (by simp; omega) _
          | true =>
            have HY : Hid (joinOk xs ys ps = true) := HK.out.trans hG
            have HZ : Hid (joinAns xs ys ps = joinZ xs ys (side ps 1)) := by show _ = _; rw [joinAns, HY.out]; rfl
            clear hG
            go_wp2
            refine bodyPost_ret (v := .tuple #[.agg #[.slice q8 m8 d8], .bool true]) (by simp [results, Tryz.results148, go_sem, s3]) rfl ⟨q8, m8, d8, by rw [HY.out], by rw [HZ.out]; exact hm8, ?_, Bb.setCell (by simp; omega) _⟩
            rw [HZ.out]
            exact owns_mono (ownsRow_setCell_below (owns_mono oK B7n) (by simp) _) (by omega)

end Go.Proofs.YthiabjkjpjmahaaGreat

/- Contracts of spec.l1Columns, spec.l1Pick, spec.PickCells. -/
namespace Go.Proofs.YthiabjkjpjmahaaGreat
open Go.RowKit

set_option maxHeartbeats 1000000 in
theorem l1Columns_any (a : Option Addr) (n' c : Nat) (cols : List Int) (n : Nat) (w : World) (hz : cols.length = n') (hn' : n' ≤ 9223372036854775807) (_hn : n ≤ 9223372036854775807) (ha : At w a cols) :
    Calls Tryz.prog 116 #[.slice a n' c, .int .i64 n] w fun e w' => e = .returned (.bool (colsOk cols n)) ∧ w' = w := by
  by_cases h0 : n' = 0
  · subst h0
    obtain rfl := List.eq_nil_of_length_eq_zero hz
    go_enter Tryz.func116, Tryz.ntmps116
    go_wp2
    refine wp_loop_rounds 1 ?_
    rw [rounds_succ]
    go_wp2
    go_ret
    exact ⟨ret_bool (by simp [colsOk]), rfl⟩
  · obtain ⟨b, off, rfl, hb, hc⟩ := ha.some (by omega)
    clear ha
    go_enter Tryz.func116, Tryz.ntmps116
    go_wp2
    go_loop [9] (fun i => ∃ k : Nat, k ≤ n' ∧ i = .int .i64 k ∧ ∀ j, j < k → 0 ≤ cols.getD j 0 ∧ cols.getD j 0 < n) (fun i => n' - (intOf i).toNat)
    case atStart => exact ⟨0, Nat.zero_le _, rfl, fun j hj => by omega⟩
    case round =>
      obtain ⟨k, hk, rfl, hall⟩ := hrel
      by_cases hlt : k < n'
      · have hcx := hc k (by omega)
        have HN := Hid.mk (not_colsOk (cols := cols) (n := n) k (by omega))
        have HS : Hid (0 ≤ cols.getD k 0 → cols.getD k 0 < n → ∀ j, j < k + 1 → 0 ≤ cols.getD j 0 ∧ cols.getD j 0 < n) := fun h1 h2 j hj => by
          by_cases e : j = k
          · subst e; exact ⟨h1, h2⟩
          · exact hall j (by omega)
        clear hall hc
        obtain ⟨x, hx⟩ : ∃ x, x = cols.getD k 0 := ⟨_, rfl⟩
        rw [← hx] at hcx HN HS
        clear hx
        by_cases hlo : x < 0
        · go_wp2
          go_ret
          exact ⟨ret_bool (HN.out (.inl hlo)).symm, rfl⟩
        · by_cases hhi : (n : Int) ≤ x
          · go_wp2
            go_ret
            exact ⟨ret_bool (HN.out (.inr hhi)).symm, rfl⟩
          · go_wp2
            go_round
            case rel => exact ⟨k + 1, by omega, by go_num, HS.out (by omega) (by omega)⟩
            case measure => simp [intOf]; omega
      · by_cases h6 : n' ≤ 6
        · have HG := Hid.mk (colsOk_of (cols := cols) (n := n) (by omega) (fun j hj => hall j (by omega)))
          clear hall hc
          go_wp2
          go_ret
          exact ⟨ret_bool (by rw [HG.out]; simp; omega), rfl⟩
        · have HG := Hid.mk (colsOk_long (cols := cols) (n := n) (by omega))
          clear hall hc
          go_wp2
          go_ret
          exact ⟨ret_bool (by rw [HG.out]; simp; omega), rfl⟩

set_option maxHeartbeats 4000000 in
theorem l1Pick_any (a a' : Option Addr) (n n' c c' : Nat) (zs cols : List Int) (w : World) (hz : zs.length = n) (hz' : cols.length = n') (hn : n ≤ 9223372036854775807) (ha : At w a zs) (ha' : At w a' cols) (hok : colsOk cols zs.length = true) :
    Calls Tryz.prog 125 #[.agg #[.slice a n c], .slice a' n' c'] w fun e w' => ∃ r d, e = .returned (.agg #[.slice r n' d]) ∧
      w'.ownsRow w.heap.size 3 1 (.slice r n' d) n' ((pick zs cols).map (.int .i64)) ∧ Below w.heap.size w w' := by
  have h6 := colsOk_len hok
  have hall := fun j hj => colsOk_at hok j hj
  obtain ⟨i0, hi, hz0, hz1, hz2⟩ := info_parts Tryz.infoInt
  obtain ⟨w1, hW⟩ : ∃ w1, w1 = (w.alloc (.cells #[.slice a n c] 80)).alloc (.cells #[.slice none 0 0] 80) := ⟨_, rfl⟩
  have B1 : Below w.heap.size w w1 := by rw [hW]; exact ((Below.refl _ _).alloc (Nat.le_refl _) _).alloc (by simp) _
  have A1 : At w1 a zs := ha.below B1
  have A2 : At w1 a' cols := ha'.below B1
  have d1 : w1.cell? ⟨w.heap.size, 0, none⟩ = some (.slice a n c) := by rw [hW]; simp
  have d2 : w1.cell? ⟨w.heap.size + 1, 0, none⟩ = some (.slice none 0 0) := by rw [hW]; simp
  have e2 : w1.frozen? ⟨w.heap.size + 1, 0, none⟩ = false := by rw [hW]; simp
  have z1 : w1.heap.size = w.heap.size + 1 + 1 := by rw [hW]; simp
  have V0 : RowVar (w1.alloc (.cells #[.slice none 0 0] 80)) (w.heap.size + 1 + 1) 80 (w.heap.size + 1 + 1 + 1) 3 none 0 0 (pick zs (cols.take 0)) := RowVar.new z1.symm (by omega)
  have z1a : w1.heap.size ≤ w.heap.size + 1 + 1 := by omega
  have z1b : w.heap.size + 1 + 1 ≤ w1.heap.size := by omega
  clear ha ha' hok z1
  go_enter Tryz.func125, Tryz.ntmps125
  go_wp2
  rw [← hW]
  clear hW
  go_loopw [11] (fun i wr => ∃ (k : Nat) (r : Option Addr) (d : Nat), k ≤ n' ∧ i = .int .i64 k ∧ RowVar wr (w.heap.size + 1 + 1) 80 (w.heap.size + 1 + 1 + 1) 3 r k d (pick zs (cols.take k)) ∧ Below w1.heap.size w1 wr) (fun i _ => n' - (intOf i).toNat)
  case atStart => exact ⟨0, none, 0, Nat.zero_le _, rfl, V0, (Below.refl _ _).alloc (Nat.le_refl _) _⟩
  case round =>
    clear V0
    obtain ⟨k, r, d, hk, rfl, hv, hbw⟩ := hrel
    have g1 := cell_later hbw d1
    have g2 := cell_later hbw d2
    have g3 := frozen_later hbw d2 e2
    have BW := B1.trans (hbw.mono B1.size)
    have z2 := hbw.size
    by_cases hlt : k < n'
    · obtain ⟨b', off', rfl, hb', hc'⟩ := (A2.below hbw).some (by omega)
      have hcx := hc' k (by omega)
      have HS := Hid.mk (pick_succ zs cols k (by omega))
      obtain ⟨hx0, hx1⟩ := hall k (by omega)
      clear hc' hall
      obtain ⟨j, hj⟩ := Int.eq_ofNat_of_zero_le hx0
      rw [hj] at hcx hx1 HS
      have hjn : j < n := by omega
      obtain ⟨b, off, rfl, hb, hc⟩ := (A1.below hbw).some (by omega)
      have hcj := hc j (by omega)
      clear hc hj
      obtain ⟨y, hy⟩ : ∃ y, y = zs.getD ((j : Int)).toNat 0 := ⟨_, rfl⟩
      rw [← hy] at HS
      rw [show zs.getD j 0 = y by rw [hy]; rfl] at hcj
      clear hy
      have hcr := hv.cell
      have hfr := hv.frozen
      have zR : w.heap.size + 1 + 1 < wr.heap.size := World.block_lt_of_cell? _ _ hcr
      have zb : b < wr.heap.size := World.block_lt_of_cell? _ _ hcj
      have HO := Hid.mk (hv.own.alloc (.cells #[.int .i64 y] 3)).drew
      have HN := Hid.mk (news_at wr #[.int .i64 y] 3)
      go_wp2
      go_region_law (refine step_append_lies _ rfl (.tmp 16) (.tmp 22) 23 rfl (w.heap.size + 1 + 1 + 1) 3 i0 (.int .i64 0) 1 8 Tryz.underlying23 hi hz0 hz1 hz2 rfl (by decide) (.slice r k d) k _ (by simp [Act.eval]) HO.out ⟨wr.heap.size, 0, none⟩ 1 1 [.int .i64 y] (by simp [Act.eval]) rfl HN.out (by simp; rfl) (by decide) (by unfold maxLen; omega) (by omega) (by simp; omega) (wr.heap.size + 1) (by simp) ?_; intro g cap w2 hown1 hgrow' _ _; have hgrow := grown_undrew hgrow'; obtain ⟨t1, t2, hv1⟩ := hv.pushed hown1 hgrow)
      all_goals
        have HB := Hid.mk (hv.pushed_below (v := .slice (some ⟨g, 0, none⟩) (k + 1) cap) hgrow hbw z1a)
        rw [← HS.out] at hv1
        have HV := Hid.mk hv1
        clear hv1 hown1 hgrow hgrow' hv hbw HO HN t1 t2 hcr hfr hcj hcx
        go_wp2
        go_roundw
        case rel => exact ⟨k + 1, _, _, by omega, by go_num, HV.out, HB.out⟩
        case measure => simp [intOf]; omega
    · obtain rfl : k = n' := by omega
      rw [← hz', List.take_length, hz'] at hv
      have hcr := hv.cell
      clear hall
      go_wp2
      refine bodyPost_ret (v := .agg #[.slice r k d]) (by simp [results, Tryz.results125, go_sem, g2]) rfl ⟨r, d, rfl, ?_, ?_⟩
      · exact owns_mono (ownsRow_setCell_below hv.own (by simp) _) (by omega)
      · exact BW.setCell (by simp) _

end Go.Proofs.YthiabjkjpjmahaaGreat
