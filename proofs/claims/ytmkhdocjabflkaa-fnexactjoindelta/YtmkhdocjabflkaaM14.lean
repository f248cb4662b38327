/- Several texts of one proof, in build order: JoinR, PickS, JoinS. -/
import Derived.Test.YtmkhdocjabflkaaM13
import Derived.Test.YtmkhdocjabflkaaM5
import Derived.Deep.DeepCutAuto

/- Contract of impl.JoinRows. -/
namespace Go.Proofs.Ytmkhdocjabflkaa
open Go.RowKit

theorem joinOk_eq (xs ys : List Int) (ps : List (List Int)) : joinOk xs ys ps = (pairs2 ps && pickOk xs (side ps 0) && pickOk ys (side ps 1) && decide (pick xs (side ps 0) = pick ys (side ps 1)) && good (joinZ xs ys (side ps 1))) := by
  unfold joinOk pickOk
  rw [pairsOk_split]
  cases hx : good xs <;> cases hy : good ys <;> simp
  rw [good_joinZ hx hy]






theorem eq_raised {X Y : List Int} {x0 x1 x2 x3 x4 x5 y0 y1 y2 y3 y4 y5 : Int} {bl : Bool} (hx : raised X = [x0, x1, x2, x3, x4, x5]) (hy : raised Y = [y0, y1, y2, y3, y4, y5]) (hl : X.length = Y.length) (hb : decide (X = Y) = bl) :
    ∀ w, (Op.equalIn 10000 77 (.agg #[.int .i64 x0, .int .i64 x1, .int .i64 x2, .int .i64 x3, .int .i64 x4, .int .i64 x5]) (.agg #[.int .i64 y0, .int .i64 y1, .int .i64 y2, .int .i64 y3, .int .i64 y4, .int .i64 y5])).run Try.prog w = .ok bl w := fun w => by
  obtain ⟨i0, hi, hz0, hz1, hz2⟩ := info_parts Try.infoInt
  have h := run_equal_ints w 9998 77 3 i0 Try.underlying77 Try.underlying3 hi hz1 [x0, x1, x2, x3, x4, x5] [y0, y1, y2, y3, y4, y5] rfl rfl
  rw [← hx, ← hy, raised_dec hl, hb, hx, hy] at h
  simpa using h

/-- Nothing, and false. -/
theorem join_no {xs ys : List Int} {ps : List (List Int)} {w w2 : World} (h : joinOk xs ys ps = false) (hb : Below w.heap.size w w2) :
    ∃ r m d, Ending.returned (.tuple #[.agg #[.slice none 0 0], .bool false]) = .returned (.tuple #[.agg #[.slice r m d], .bool (joinOk xs ys ps)]) ∧
      (joinAns xs ys ps).length = m ∧ w2.ownsRow w.heap.size 3 1 (.slice r m d) m ((joinAns xs ys ps).map (.int .i64)) ∧ Below w.heap.size w w2 :=
  ⟨none, 0, 0, by rw [h], by simp [joinAns, h], by simp only [joinAns, h]; exact World.ownsRow_nil _ _ _ _, hb⟩

set_option linter.unusedVariables false in
set_option maxHeartbeats 8000000 in
theorem implJoinRows_c1 (a b p : Option Addr) (n n' l c c' d : Nat) (xs ys : List Int) (ps : List (List Int)) (w : World) (hz : xs.length = n) (hz' : ys.length = n') (hl : ps.length = l) (hn : n ≤ 9223372036854775807) (hn' : n' ≤ 9223372036854775807) (hl' : l ≤ 9223372036854775807)
    (hnil : a = none → c = 0) (ha : At w a xs) (hb : At w b ys) (hp : AtS w p ps) (h2 : pairs2 ps = false) :
    Calls Try.prog 59 #[.agg #[.slice a n c], .agg #[.slice b n' c'], .slice p l d] w fun e w' => ∃ r m d, e = .returned (.tuple #[.agg #[.slice r m d], .bool (joinOk xs ys ps)]) ∧
      (joinAns xs ys ps).length = m ∧ w'.ownsRow w.heap.size 3 1 (.slice r m d) m ((joinAns xs ys ps).map (.int .i64)) ∧ Below w.heap.size w w' := by
  obtain ⟨W, hW⟩ : ∃ W, W = ((w.alloc (.cells #[.slice a n c] 88)).alloc (.cells #[.slice b n' c'] 88)).alloc (.cells #[.slice none 0 0] 88) := ⟨_, rfl⟩
  have B : Below w.heap.size w W := by rw [hW]; exact (((Below.refl _ _).alloc (Nat.le_refl _) _).alloc (by simp) _).alloc (by simp; omega) _
  have A1 : At W a xs := ha.below B
  have A2 : At W b ys := hb.below B
  have A3 : AtS W p ps := hp.below B
  have c1 : W.cell? ⟨w.heap.size, 0, none⟩ = some (.slice a n c) := by rw [hW]; simp [go_sem]
  have c2 : W.cell? ⟨w.heap.size + 1, 0, none⟩ = some (.slice b n' c') := by rw [hW]; simp [go_sem]
  have c3 : W.cell? ⟨w.heap.size + 1 + 1, 0, none⟩ = some (.slice none 0 0) := by rw [hW]; simp [go_sem]
  have f3 : W.frozen? ⟨w.heap.size + 1 + 1, 0, none⟩ = false := by rw [hW]; simp [go_sem]
  clear ha hb hp
  go_enter Try.func59, Try.ntmps59
  go_wp2_with fail
  rw [← hW]
  refine (arePairs_any _ _ _ ps _ hl hl' A3).mono ?_
  rintro e w0 ⟨rfl, rfl⟩
  clear hW
  have HNO : Hid (joinOk xs ys ps = false) := by show _ = _; rw [joinOk_eq, h2]; rfl
  rw [h2]
  go_wp2
  refine bodyPost_ret (v := .tuple #[.agg #[.slice none 0 0], .bool false]) (by simp [results, Try.results59, go_sem, c3]) rfl (join_no HNO.out ?_)
  exact B.setCell (by simp; omega) _

set_option linter.unusedVariables false in
set_option maxHeartbeats 8000000 in
theorem implJoinRows_c2 (a b p : Option Addr) (n n' l c c' d : Nat) (xs ys : List Int) (ps : List (List Int)) (w : World) (hz : xs.length = n) (hz' : ys.length = n') (hl : ps.length = l) (hn : n ≤ 9223372036854775807) (hn' : n' ≤ 9223372036854775807) (hl' : l ≤ 9223372036854775807)
    (hnil : a = none → c = 0) (ha : At w a xs) (hb : At w b ys) (hp : AtS w p ps) (h2 : pairs2 ps = true) :
    Calls Try.prog 59 #[.agg #[.slice a n c], .agg #[.slice b n' c'], .slice p l d] w fun e w' => ∃ r m d, e = .returned (.tuple #[.agg #[.slice r m d], .bool (joinOk xs ys ps)]) ∧
      (joinAns xs ys ps).length = m ∧ w'.ownsRow w.heap.size 3 1 (.slice r m d) m ((joinAns xs ys ps).map (.int .i64)) ∧ Below w.heap.size w w' := by
  obtain ⟨W, hW⟩ : ∃ W, W = ((w.alloc (.cells #[.slice a n c] 88)).alloc (.cells #[.slice b n' c'] 88)).alloc (.cells #[.slice none 0 0] 88) := ⟨_, rfl⟩
  have B : Below w.heap.size w W := by rw [hW]; exact (((Below.refl _ _).alloc (Nat.le_refl _) _).alloc (by simp) _).alloc (by simp; omega) _
  have A1 : At W a xs := ha.below B
  have A2 : At W b ys := hb.below B
  have A3 : AtS W p ps := hp.below B
  have c1 : W.cell? ⟨w.heap.size, 0, none⟩ = some (.slice a n c) := by rw [hW]; simp [go_sem]
  have c2 : W.cell? ⟨w.heap.size + 1, 0, none⟩ = some (.slice b n' c') := by rw [hW]; simp [go_sem]
  have c3 : W.cell? ⟨w.heap.size + 1 + 1, 0, none⟩ = some (.slice none 0 0) := by rw [hW]; simp [go_sem]
  have f3 : W.frozen? ⟨w.heap.size + 1 + 1, 0, none⟩ = false := by rw [hW]; simp [go_sem]
  clear ha hb hp
  go_enter Try.func59, Try.ntmps59
  go_wp2_with fail
  rw [← hW]
  refine (arePairs_any _ _ _ ps _ hl hl' A3).mono ?_
  rintro e w0 ⟨rfl, rfl⟩
  clear hW
  rw [h2]
  go_wp2_with fail
  refine (sideOf_any _ _ _ ps 1 _ hl h2 (by omega) A3).mono ?_
  rintro e w1 ⟨q1, d1, rfl, o1, hb1⟩
  have B1 := B.trans (hb1.mono B.size)
  have e1 := cell_later hb1 c1
  have e2 := cell_later hb1 c2
  have e3 := cell_later hb1 c3
  have k3 := frozen_later hb1 c3 f3
  have D1 := A1.below hb1
  have D2 := A2.below hb1
  have D3 := A3.below hb1
  clear B A1 A2 A3 c1 c2 c3 f3 hb1
  have D3d : AtS w1.drew p ps := D3.below (Below.refl _ _).drew
  have D3a : AtS (w1.alloc (.cells #[.slice none 0 0] 88)).drew p ps := D3.below ((Below.refl _ _).alloc (Nat.le_refl _) _).drew
  have ea : ∀ o, (w1.alloc o).cell? ⟨w.heap.size, 0, none⟩ = some (.slice a n c) := fun o => cell_later ((Below.refl _ _).alloc (Nat.le_refl _) _) e1
  have zE : w.heap.size < w1.heap.size := World.block_lt_of_cell? _ _ e1
  go_upto_region 4 with fail
  go_cut [9, 10] (fun t9 t10 wx => ∃ (Pb : Nat) (q3 : Option Addr) (m3 d3 : Nat), t9 = .pointer (some ⟨Pb, 0, none⟩) ∧ t10 = .bool (pickOk xs (side ps 0)) ∧ wx.cell? ⟨Pb, 0, none⟩ = some (.slice q3 m3 d3) ∧ (pickZ xs (side ps 0)).length = m3 ∧ wx.ownsRow w1.heap.size 3 1 (.slice q3 m3 d3) m3 ((pickZ xs (side ps 0)).map (.int .i64)) ∧ Below w1.heap.size w1 wx)
  case first =>
    go_region_held3 (fun w' => w'.cell? ⟨w.heap.size, 0, none⟩ = some (.slice a n c)) (first | assumption | (simp [*]; done) | (exact keep_far s1 (by omega)))
      (first
        | (go_at_call 99; refine (sideOf_any _ _ _ ps 0 _ hl h2 (by omega) (by first | exact D3d | exact D3a)).mono ?_; rintro e w2 ⟨q2, d2, rfl, o2, hb2⟩; have y1 : Below w1.heap.size w1 w2 := (by first | exact (Below.refl _ _).drew.trans hb2 | exact ((Below.refl _ _).alloc (Nat.le_refl _) _).drew.trans (hb2.mono (by simp))); have zz2 := y1.size; have r1 := cell_later y1 e1; have r1a : (∀ o, (w2.alloc o).cell? ⟨w.heap.size, 0, none⟩ = some (.slice a n c)) := (fun o => cell_later ((Below.refl _ _).alloc (Nat.le_refl _) _) r1); have F1 := D1.below y1; have F1a := F1.alloc (.cells #[.slice none 0 0] 88); have F2 := At.owned o2; have F2a := F2.alloc (.cells #[.slice none 0 0] 88); (try have v2 := cell_later hb2 (newcell w1 (.slice none 0 0) 88)); (try have v2f := frozen_later hb2 (newcell w1 (.slice none 0 0) 88) (newfrozen w1 (.slice none 0 0) 88)))
        | (go_at_call 117; refine (implPickCells _ _ _ _ _ _ xs (side ps 0) _ hz (by rw [side_length]; exact hl) hn hl' (by first | exact F1 | exact F1a) (by first | exact F2 | exact F2a)).mono ?_; rintro e w3 ⟨q3, m3, d3, rfl, hm3, o3, hb3⟩; have y3 : Below w1.heap.size w1 w3 := (by first | exact y1.trans (hb3.mono y1.size) | exact (y1.alloc y1.size _).trans (hb3.mono (y1.alloc y1.size _).size)); have s1 := cell_later y3 e1; have s1a : (∀ o, (w3.alloc o).cell? ⟨w.heap.size, 0, none⟩ = some (.slice a n c)) := (fun o => cell_later ((Below.refl _ _).alloc (Nat.le_refl _) _) s1); (try have v3 := cell_later hb3 v2); (try have v3f := frozen_later hb3 v2 v2f); (try have v4 := cell_later hb3 (newcell w2 (.slice none 0 0) 88)); (try have v4f := frozen_later hb3 (newcell w2 (.slice none 0 0) 88) (newfrozen w2 (.slice none 0 0) 88))))
    all_goals
      go_wp2_with fail
      go_meet
      case rel =>
        first
          | exact ⟨w3.heap.size, q3, m3, d3, rfl, rfl, newcell w3 _ _, hm3, owns_mono (o3.alloc _) zz2, y3.alloc y3.size _⟩
          | exact ⟨w2.heap.size, q3, m3, d3, rfl, rfl, cell_set v4 _, hm3, owns_mono (ownsRow_setCell_below o3 (size_lt w2 _) _) (Nat.le_trans zz2 (Nat.le_of_lt (size_lt w2 _))), y3.setCell zz2 _⟩
          | exact ⟨w1.heap.size, q3, m3, d3, rfl, rfl, cell_set v3 _, hm3, owns_mono (ownsRow_setCell_below o3 (World.block_lt_of_cell? _ _ v2) _) zz2, y3.setCell (Nat.le_refl _) _⟩
  case rest =>
    obtain ⟨Pb, q3, m3, d3, rfl, rfl, gP, hm3, p3, hb4⟩ := hcut
    have B4 := B1.trans (hb4.mono B1.size)
    have g1 := cell_later hb4 e1
    have g2 := cell_later hb4 e2
    have g3 := cell_later hb4 e3
    have j3 := frozen_later hb4 e3 k3
    have F1 := D1.below hb4
    have F2 := D2.below hb4
    have p1 := owns_below o1 hb4
    clear e1 e2 e3 k3 D1 D2 D3 D3d D3a ea o1 hb4 B1
    go_wp2_with fail
    refine (implPickCells _ _ _ _ _ _ ys (side ps 1) _ hz' (by rw [side_length]; exact hl) hn' hl' F2 (At.owned p1)).mono ?_
    rintro e w5 ⟨q5, m5, d5, rfl, hm5, o5, hb5⟩
    have hA5 : Below w5.heap.size w5 (w5.alloc (.cells #[.slice q5 m5 d5] 88)) := (Below.refl _ _).alloc (Nat.le_refl _) _
    have B5 := B4.trans (hb5.mono B4.size)
    have B6 := B5.trans (hA5.mono B5.size)
    have u1 := cell_later hA5 (cell_later hb5 g1)
    have u2 := cell_later hA5 (cell_later hb5 g2)
    have u3 := cell_later hA5 (cell_later hb5 g3)
    have x3 := frozen_later hA5 (cell_later hb5 g3) (frozen_later hb5 g3 j3)
    have uP := cell_later hA5 (cell_later hb5 gP)
    have uQ := newcell w5 (.slice q5 m5 d5) 88
    have F1' := (F1.below hb5).below hA5
    have F2' := (F2.below hb5).below hA5
    have r1 := owns_below (owns_below p1 hb5) hA5
    have r3 := owns_below (owns_below p3 hb5) hA5
    have r5 := owns_below o5 hA5
    clear g1 g2 g3 j3 gP F1 F2 p1 p3 o5 hb5 hA5 B4 B5
    go_wp2_with fail
    obtain ⟨V, hV⟩ : ∃ V, V = w5.alloc (.cells #[.slice q5 m5 d5] 88) := ⟨_, rfl⟩
    rw [← hV] at B6 u1 u2 u3 x3 uP uQ F1' F2' r1 r3 r5
    rw [← hV]
    clear hV
    cases hA : pickOk xs (side ps 0) with
    | false =>
      have HNO : Hid (joinOk xs ys ps = false) := by show _ = _; rw [joinOk_eq, h2, hA]; rfl
      clear hA
      go_region
      go_wp2
      refine bodyPost_ret (v := .tuple #[.agg #[.slice none 0 0], .bool false]) (by simp [results, Try.results59, go_sem, u3]) rfl (join_no HNO.out ?_)
      exact B6.drew.setCell (by simp; omega) _
    | true =>
      cases hB : pickOk ys (side ps 1) with
      | false =>
        have HNO : Hid (joinOk xs ys ps = false) := by show _ = _; rw [joinOk_eq, h2, hA, hB]; rfl
        clear hA hB
        go_region
        go_wp2
        refine bodyPost_ret (v := .tuple #[.agg #[.slice none 0 0], .bool false]) (by simp [results, Try.results59, go_sem, u3]) rfl (join_no HNO.out ?_)
        exact B6.drew.setCell (by simp; omega) _
      | true =>
        have hXz : pickZ xs (side ps 0) = pick xs (side ps 0) := by simp [pickZ, hA]
        have hYz : pickZ ys (side ps 1) = pick ys (side ps 1) := by simp [pickZ, hB]
        rw [hXz] at hm3 r3
        rw [hYz] at hm5 r5
        have gX := pick_good hA
        have gY := pick_good hB
        rw [hm3] at gX
        rw [hm5] at gY
        have hlX : (pick xs (side ps 0)).length = ps.length := by simp [pick, side_length]
        have hlY : (pick ys (side ps 1)).length = ps.length := by simp [pick, side_length]
        have h6 := pairs2_len h2
        have h3l : m3 ≤ 6 := by omega
        have h5l : m5 ≤ 6 := by omega
        have hXY : (pick xs (side ps 0)).length = (pick ys (side ps 1)).length := by rw [hlX, hlY]
        have HJ : Hid (joinOk xs ys ps = (decide (pick xs (side ps 0) = pick ys (side ps 1)) && good (joinZ xs ys (side ps 1)))) := by show _ = _; rw [joinOk_eq, h2, hA, hB]; simp
        have hgx : good xs = true := by simp only [pickOk, Bool.and_eq_true] at hA; exact hA.1
        have hgy : good ys = true := by simp only [pickOk, Bool.and_eq_true] at hB; exact hB.1
        have hco : colsOk (side ps 1) ys.length = true := by simp only [pickOk, Bool.and_eq_true] at hB; exact hB.2
        have HGX := Hid.mk hgx
        have HGY := Hid.mk hgy
        have HCO := Hid.mk hco
        have HXY := Hid.mk hXY
        have HM3 := Hid.mk hm3
        have HM5 := Hid.mk hm5
        generalize hXg : pick xs (side ps 0) = X at *
        generalize hYg : pick ys (side ps 1) = Y at *
        clear hXz hYz hA hB hlX hlY hXY hgx hgy hco hXg hYg hm3 hm5
        cases hE : decide (X = Y) with
        | false =>
          have HE := Hid.mk hE
          have HNO : Hid (joinOk xs ys ps = false) := by show _ = _; rw [HJ.out, hE]; rfl
          clear hE HJ
          go_region_held3 (fun w' => w'.cell? ⟨Pb, 0, none⟩ = some (.slice q3 m3 d3) ∧ w'.cell? ⟨w5.heap.size, 0, none⟩ = some (.slice q5 m5 d5)) (refine ⟨?_, ?_⟩ <;> assumption)
            (first
              | (go_at_call_of 101 (Value.slice q3 m3 d3); refine (arrayOf_any _ _ _ X _ HM3.out h3l gX (At.owned r3.drew)).mono ?_; rintro e w6 ⟨x0, x1, x2, x3', x4, x5, rfl, hx, hb6⟩; have c6 := cell_later hb6 uP; have d6 := cell_later hb6 uQ)
              | (go_at_call_of 101 (Value.slice q5 m5 d5); refine (arrayOf_any _ _ _ Y _ HM5.out h5l gY (At.owned (owns_below r5.drew hb6))).mono ?_; rintro e w7 ⟨z0, z1, z2, z3, z4, z5, rfl, hy, hb7⟩; have c7 := cell_later hb7 c6; have d7 := cell_later hb7 d6; have hq := eq_raised hx hy HXY.out HE.out; clear hx hy))
          have B7 := B6.drew.trans (hb6.mono B6.size)
          have B8 := B7.trans (hb7.mono B7.size)
          have y1 := cell_later hb7 (cell_later hb6 u1)
          have y2 := cell_later hb7 (cell_later hb6 u2)
          have y3 := cell_later hb7 (cell_later hb6 u3)
          have y3f := frozen_later hb7 (cell_later hb6 u3) (frozen_later hb6 u3 x3)
          have B7n : w.heap.size + 1 + 1 + 1 ≤ w7.heap.size := World.block_lt_of_cell? _ _ y3
          go_wp2
          refine bodyPost_ret (v := .tuple #[.agg #[.slice none 0 0], .bool false]) (by simp [results, Try.results59, go_sem, y3]) rfl (join_no HNO.out ?_)
          exact B8.setCell (by simp; omega) _
        | true =>
          have HE := Hid.mk hE
          have HK : Hid (joinOk xs ys ps = good (joinZ xs ys (side ps 1))) := by show _ = _; rw [HJ.out, hE]; rfl
          clear hE HJ
          go_region_held3 (fun w' => w'.cell? ⟨Pb, 0, none⟩ = some (.slice q3 m3 d3) ∧ w'.cell? ⟨w5.heap.size, 0, none⟩ = some (.slice q5 m5 d5)) (refine ⟨?_, ?_⟩ <;> assumption)
            (first
              | (go_at_call_of 101 (Value.slice q3 m3 d3); refine (arrayOf_any _ _ _ X _ HM3.out h3l gX (At.owned r3.drew)).mono ?_; rintro e w6 ⟨x0, x1, x2, x3', x4, x5, rfl, hx, hb6⟩; have c6 := cell_later hb6 uP; have d6 := cell_later hb6 uQ)
              | (go_at_call_of 101 (Value.slice q5 m5 d5); refine (arrayOf_any _ _ _ Y _ HM5.out h5l gY (At.owned (owns_below r5.drew hb6))).mono ?_; rintro e w7 ⟨z0, z1, z2, z3, z4, z5, rfl, hy, hb7⟩; have c7 := cell_later hb7 c6; have d7 := cell_later hb7 d6; have hq := eq_raised hx hy HXY.out HE.out; clear hx hy))
          have B7 := B6.drew.trans (hb6.mono B6.size)
          have B8 := B7.trans (hb7.mono B7.size)
          have y1 := cell_later hb7 (cell_later hb6 u1)
          have y2 := cell_later hb7 (cell_later hb6 u2)
          have y3 := cell_later hb7 (cell_later hb6 u3)
          have y3f := frozen_later hb7 (cell_later hb6 u3) (frozen_later hb6 u3 x3)
          have B7n : w.heap.size + 1 + 1 + 1 ≤ w7.heap.size := World.block_lt_of_cell? _ _ y3
          have F1n := (F1'.drew.below hb6).below hb7
          have F2n := (F2'.drew.below hb6).below hb7
          have r1n := owns_below (owns_below r1.drew hb6) hb7
          clear r3 r5 F1' F2' r1 hb6 hb7 hq gX gY u1 u2 u3 uP uQ x3 B6
          go_wp2_with fail
          refine (joinCells_any _ _ _ _ _ _ _ _ _ xs ys (side ps 1) _ hz hz' (by rw [side_length]; exact hl) (by have := good_len HGX.out; omega) (by have := good_len HGY.out; omega) (by omega) (fun j hj => by have q := colsOk_at HCO.out j (by rw [side_length]; omega); rw [hz'] at q; exact q) hnil F1n F2n (At.owned r1n)).mono ?_
          rintro e w8 ⟨q8, m8, d8, rfl, hm8, o8, hb8⟩
          have hA8 : Below w8.heap.size w8 (w8.alloc (.cells #[.slice q8 m8 d8] 88)) := (Below.refl _ _).alloc (Nat.le_refl _) _
          have B9 := B8.trans (hb8.mono B8.size)
          have Ba := B9.trans (hA8.mono B9.size)
          have t3 := cell_later hA8 (cell_later hb8 y3)
          have t3f := frozen_later hA8 (cell_later hb8 y3) (frozen_later hb8 y3 y3f)
          have tJ := newcell w8 (.slice q8 m8 d8) 88
          have oJ := owns_below o8 hA8
          have hz8 : w.heap.size + 1 + 1 < w8.heap.size := World.block_lt_of_cell? _ _ (cell_later hb8 y3)
          have h8 : m8 ≤ 9223372036854775807 := by
            have q1 := good_len HGX.out
            have q2 := good_len HGY.out
            have q3 := restTo_length ys (side ps 1) ys.length
            rw [← hm8, joinZ, List.length_append]; omega
          clear F1n F2n r1n hb8 B8 B9 y1 y2 y3 y3f
          go_wp2_with fail
          refine (implGoodRow_any _ _ _ (joinZ xs ys (side ps 1)) _ hm8 h8 (At.owned oJ)).mono ?_
          rintro e w9 ⟨rfl, hb9⟩
          have s3 := cell_later hb9 t3
          have s3f := frozen_later hb9 t3 t3f
          have sJ := cell_later hb9 tJ
          have oK := owns_below oJ hb9
          have Bb := Ba.trans (hb9.mono Ba.size)
          cases hG : good (joinZ xs ys (side ps 1)) with
          | false =>
            have HNO : Hid (joinOk xs ys ps = false) := HK.out.trans hG
            clear hG
            go_wp2
            refine bodyPost_ret (v := .tuple #[.agg #[.slice none 0 0], .bool false]) (by simp [results, Try.results59, go_sem, s3]) rfl (join_no HNO.out ?_)
            exact Bb.setCell (by simp; omega) _
          | true =>
            have HY : Hid (joinOk xs ys ps = true) := HK.out.trans hG
            have HZ : Hid (joinAns xs ys ps = joinZ xs ys (side ps 1)) := by show _ = _; rw [joinAns, HY.out]; rfl
            clear hG
            go_wp2
            refine bodyPost_ret (v := .tuple #[.agg #[.slice q8 m8 d8], .bool true]) (by simp [results, Try.results59, go_sem, s3]) rfl ⟨q8, m8, d8, by rw [HY.out], by rw [HZ.out]; exact hm8, ?_, Bb.setCell (by simp; omega) _⟩
            rw [HZ.out]
            exact owns_mono (ownsRow_setCell_below (owns_mono oK B7n) (by simp) _) (by omega)

end Go.Proofs.Ytmkhdocjabflkaa

/- Contracts of spec.l1Columns, spec.l1Pick, spec.PickCells. -/
namespace Go.Proofs.Ytmkhdocjabflkaa
open Go.RowKit

end Go.Proofs.Ytmkhdocjabflkaa

/- Contracts of spec.l1Join, spec.JoinRows, and impl.JoinRows whole. -/
namespace Go.Proofs.Ytmkhdocjabflkaa
open Go.RowKit

theorem implJoinRows (a b : Option Addr) (n n' c c' : Nat) (xs ys : List Int) (p : Option Addr) (l d : Nat) (ps : List (List Int)) (w : World) (hz : xs.length = n) (hz' : ys.length = n') (hl : ps.length = l) (hn : n ≤ 9223372036854775807) (hn' : n' ≤ 9223372036854775807) (hl' : l ≤ 9223372036854775807)
    (hnil : a = none → c = 0) (ha : At w a xs) (hb : At w b ys) (hp : AtS w p ps) :
    Calls Try.prog 59 #[.agg #[.slice a n c], .agg #[.slice b n' c'], .slice p l d] w fun e w' => ∃ r m d, e = .returned (.tuple #[.agg #[.slice r m d], .bool (joinOk xs ys ps)]) ∧
      (joinAns xs ys ps).length = m ∧ w'.ownsRow w.heap.size 3 1 (.slice r m d) m ((joinAns xs ys ps).map (.int .i64)) ∧ Below w.heap.size w w' := by
  cases h2 : pairs2 ps with
  | false => exact implJoinRows_c1 a b p n n' l c c' d xs ys ps w hz hz' hl hn hn' hl' hnil ha hb hp h2
  | true => exact implJoinRows_c2 a b p n n' l c c' d xs ys ps w hz hz' hl hn hn' hl' hnil ha hb hp h2

theorem contains_snoc (cols : List Int) (i : Nat) (h : i < cols.length) (j : Int) : (cols.take (i + 1)).contains j = ((cols.take i).contains j || (cols.getD i 0 == j)) := by
  rw [take_snocD cols i h]
  simp only [List.contains_eq_mem, List.mem_append, List.mem_singleton, Bool.decide_or]
  congr 1
  by_cases e : j = cols.getD i 0
  · rw [decide_eq_true e, e]; simp
  · rw [decide_eq_false e, beq_false_of_ne (Ne.symm e)]

theorem picks_succ {xs ys : List Int} {ps : List (List Int)} {k : Nat} (hk : k < ps.length) (h : pick xs (side (ps.take k) 0) = pick ys (side (ps.take k) 1))
    (he : xs.getD ((ps.getD k []).getD 0 0).toNat 0 = ys.getD ((ps.getD k []).getD 1 0).toNat 0) : pick xs (side (ps.take (k + 1)) 0) = pick ys (side (ps.take (k + 1)) 1) := by
  rw [side_take ps 0 k hk, side_take ps 1 k hk]
  unfold pick at *
  rw [List.map_append, List.map_append, h, List.map_cons, List.map_cons, he]
  rfl
theorem picks_not {xs ys : List Int} {ps : List (List Int)} {k : Nat} (hk : k < ps.length) (he : xs.getD ((ps.getD k []).getD 0 0).toNat 0 ≠ ys.getD ((ps.getD k []).getD 1 0).toNat 0) : pick xs (side ps 0) ≠ pick ys (side ps 1) := fun h => by
  apply he
  have := congrArg (fun q => q.getD k 0) h
  have h0 := side_getD ps 0 k hk
  have h1 := side_getD ps 1 k hk
  simp only [pick, List.getD, List.getElem?_map] at this h0 h1 ⊢
  rw [List.getElem?_eq_getElem (by rw [side_length]; exact hk), List.getElem?_eq_getElem (by rw [side_length]; exact hk)] at this
  rw [List.getElem?_eq_getElem (by rw [side_length]; exact hk)] at h0 h1
  simp only [Option.map_some, Option.getD_some] at this h0 h1
  rw [← h0, ← h1]
  exact this

/-- What l1Join answers. -/
def l1Z (xs ys : List Int) (ps : List (List Int)) : List Int := if pick xs (side ps 0) = pick ys (side ps 1) then joinZ xs ys (side ps 1) else []
def l1B (xs ys : List Int) (ps : List (List Int)) : Bool := decide (pick xs (side ps 0) = pick ys (side ps 1)) && decide ((joinZ xs ys (side ps 1)).length ≤ 6)

set_option maxHeartbeats 8000000 in
theorem l1Join_any (a b p : Option Addr) (n n' l c c' d : Nat) (xs ys : List Int) (ps : List (List Int)) (w : World) (hz : xs.length = n) (hz' : ys.length = n') (hl : ps.length = l) (hn : n ≤ 6) (hn' : n' ≤ 6)
    (hnil : a = none → c = 0) (ha : At w a xs) (hb : At w b ys) (hp : AtS w p ps) (hok : pairsOk ps n n' = true) :
    Calls Try.prog 134 #[.agg #[.slice a n c], .agg #[.slice b n' c'], .slice p l d] w fun e w' => ∃ r m d, e = .returned (.tuple #[.agg #[.slice r m d], .bool (l1B xs ys ps)]) ∧
      (l1Z xs ys ps).length = m ∧ w'.ownsRow w.heap.size 3 1 (.slice r m d) m ((l1Z xs ys ps).map (.int .i64)) ∧ Below w.heap.size w w' := by
  have h6 := pairsOk_len hok
  have hpair := fun k hk => pairsOk_at hok k hk
  obtain ⟨i0, hi, hz0, hz1, hz2⟩ := info_parts Try.infoInt
  obtain ⟨W, hW⟩ : ∃ W, W = ((w.alloc (.cells #[.slice a n c] 88)).alloc (.cells #[.slice b n' c'] 88)).alloc (.cells #[.slice none 0 0] 88) := ⟨_, rfl⟩
  have B : Below w.heap.size w W := by rw [hW]; exact (((Below.refl _ _).alloc (Nat.le_refl _) _).alloc (by simp) _).alloc (by simp; omega) _
  have A1 : At W a xs := ha.below B
  have A2 : At W b ys := hb.below B
  have A3 : AtS W p ps := hp.below B
  have c1 : W.cell? ⟨w.heap.size, 0, none⟩ = some (.slice a n c) := by rw [hW]; simp [go_sem]
  have c2 : W.cell? ⟨w.heap.size + 1, 0, none⟩ = some (.slice b n' c') := by rw [hW]; simp [go_sem]
  have c3 : W.cell? ⟨w.heap.size + 1 + 1, 0, none⟩ = some (.slice none 0 0) := by rw [hW]; simp [go_sem]
  have f3 : W.frozen? ⟨w.heap.size + 1 + 1, 0, none⟩ = false := by rw [hW]; simp [go_sem]
  have zW : W.heap.size = w.heap.size + 1 + 1 + 1 := by rw [hW]; simp
  have zWa : w.heap.size + 1 + 1 + 1 ≤ W.heap.size := by omega
  have o0 : (W.alloc (.cells #[] 3)).ownsRow (w.heap.size + 1 + 1 + 1) 3 1 (.slice (some ⟨w.heap.size + 1 + 1 + 1, 0, none⟩) 0 0) 0 [] := by
    have := World.ownsRow_lit (base := w.heap.size + 1 + 1 + 1) (e := 3) (size := 1) W #[] 0 zWa (by unfold maxLen; omega) (by simp)
    rw [zW] at this
    simpa using this
  have A1a := A1.alloc (.cells #[] 3)
  have BA : Below W.heap.size W (W.alloc (.cells #[] 3)) := (Below.refl _ _).alloc (Nat.le_refl _) _
  have zWb : W.heap.size ≤ w.heap.size + 1 + 1 + 1 := by omega
  clear hok zW
  go_enter Try.func134, Try.ntmps134
  go_wp2_with (at_builtin; rw [← hW]; refine wpList_append_all rfl (.tmp 16) (.tmp 18) 86 rfl (w.heap.size + 1 + 1 + 1) 3 i0 (.int .i64 0) 8 Try.underlying86 hi hz0 hz1 hz2 rfl _ _ _ rfl o0 a n c xs rfl hz A1a hnil (by unfold maxLen; omega) (by omega) (by simp; omega) ?_; intro r cap w2 hown2 hgrow2; rw [Nat.zero_add] at hown2; rw [Nat.zero_add])
  have V0 : RowVar2 (w2.alloc (.cells #[.slice r n cap] 88)) w2.heap.size 88 (w.heap.size + 1 + 1 + 1) 3 r n cap (joinTo xs ys (side ps 1) 0) := by
    rw [show joinTo xs ys (side ps 1) 0 = xs by simp [joinTo, restTo]]
    exact RowVar2.new hz (by simpa using hown2)
  have B2 : Below W.heap.size W (w2.alloc (.cells #[.slice r n cap] 88)) := (BA.grown hgrow2 (by simp) (fun k hk => Nat.le_trans zWb (Nat.le_of_eq (Option.some.inj hk)))).alloc (by have := hgrow2.size; simp at this; omega) _
  have zR : w.heap.size + 1 + 1 + 1 ≤ w2.heap.size := by have := hgrow2.size; simp at this; omega
  obtain ⟨U, hU⟩ : ∃ U, U = w2.alloc (.cells #[.slice r n cap] 88) := ⟨_, rfl⟩
  rw [← hU] at V0 B2
  rw [← hU]
  have e1 := cell_later B2 c1
  have e2 := cell_later B2 c2
  have e3 := cell_later B2 c3
  have k3 := frozen_later B2 c3 f3
  have BU := B.trans (B2.mono B.size)
  obtain ⟨R, hR⟩ : ∃ R, R = w2.heap.size := ⟨_, rfl⟩
  rw [← hR] at V0 zR
  rw [← hR]
  clear hU hR hown2 hgrow2 hW B A1 A2 A3 A1a BA o0 c1 c2 c3 f3 B2
  go_loopw [23] (fun i wr => ∃ k : Nat, k ≤ l ∧ i = .int .i64 k ∧ pick xs (side (ps.take k) 0) = pick ys (side (ps.take k) 1) ∧ Below U.heap.size U wr) (fun i _ => l - (intOf i).toNat)
  case atStart => exact ⟨0, Nat.zero_le _, rfl, by simp [pick, side], Below.refl _ _⟩
  case round =>
    obtain ⟨k, hk, rfl, hpk, hbw⟩ := hrel
    have g1 := cell_later hbw e1
    have g2 := cell_later hbw e2
    have g3 := cell_later hbw e3
    have j3 := frozen_later hbw e3 k3
    have BT := BU.trans (hbw.mono BU.size)
    by_cases hlt : k < l
    · obtain ⟨pb, poff, rfl, hpc⟩ := (hp.below BT).some (by omega)
      obtain ⟨q, qd, hcx, _, hat⟩ := hpc k (by omega)
      obtain ⟨hl2, ⟨hx0, hx1⟩, hy0, hy1⟩ := hpair k (by omega)
      have HS := Hid.mk (fun he => picks_succ (xs := xs) (ys := ys) (ps := ps) (k := k) (by omega) hpk he)
      have HN := Hid.mk (fun he => picks_not (xs := xs) (ys := ys) (ps := ps) (k := k) (by omega) he)
      generalize ps.getD k [] = pr at *
      obtain ⟨b', off', rfl, hb', hc'⟩ := hat.some (by omega)
      have hp0 := hc' 0 (by omega)
      have hp1 := hc' 1 (by omega)
      rw [Nat.add_zero] at hp0
      rw [hl2] at hcx
      obtain ⟨i, hii⟩ := Int.eq_ofNat_of_zero_le hx0
      obtain ⟨j, hjj⟩ := Int.eq_ofNat_of_zero_le hy0
      rw [hii] at hp0 hx1 HS HN
      rw [hjj] at hp1 hy1 HS HN
      have hin : i < n := by omega
      have hjn : j < n' := by omega
      obtain ⟨ba, offa, rfl, hba, hca⟩ := (ha.below BT).some (by omega)
      obtain ⟨bb, offb, rfl, hbb, hcb⟩ := (hb.below BT).some (by omega)
      have hu := hca i (by omega)
      have hv := hcb j (by omega)
      rw [show ((i : Int)).toNat = i from rfl, show ((j : Int)).toNat = j from rfl] at HS HN
      generalize xs.getD i 0 = u at *
      generalize ys.getD j 0 = v at *
      clear hpc hc' hca hcb hii hjj hx0 hy0 hpk hl2 hpair V0
      by_cases huv : u = v
      · subst huv
        go_wp2
        go_quiet (fail)
        go_wp2
        go_roundw
        case rel => exact ⟨k + 1, by omega, by go_num, HS.out (by trivial), below_drewN hbw _⟩
        case measure => simp [intOf]; omega
      · have hne : (u != v) = true := by simpa using huv
        have HZ : Hid (l1Z xs ys ps = []) := by show _ = _; rw [l1Z, if_neg (HN.out huv)]
        have HB : Hid (l1B xs ys ps = false) := by show _ = _; rw [l1B, decide_eq_false (HN.out huv)]; rfl
        go_wp2
        go_quiet (fail)
        go_wp2
        refine bodyPost_ret (v := .tuple #[.agg #[.slice none 0 0], .bool false]) (by simp [results, Try.results134, go_sem, g3]) rfl ⟨none, 0, 0, by rw [HB.out], by rw [HZ.out]; rfl, ?_, ?_⟩
        · rw [HZ.out]; exact World.ownsRow_nil _ _ _ _
        · exact (below_drewN BT _).setCell (by simp; omega) _
    · obtain rfl : k = l := by omega
      have hpe : pick xs (side ps 0) = pick ys (side ps 1) := by rw [← hl, List.take_length] at hpk; exact hpk
      have HZ : Hid (l1Z xs ys ps = joinZ xs ys (side ps 1)) := by show _ = _; rw [l1Z, if_pos hpe]
      have HB : Hid (l1B xs ys ps = decide ((joinZ xs ys (side ps 1)).length ≤ 6)) := by show _ = _; rw [l1B, decide_eq_true hpe]; rfl
      have V1 := V0.below hbw
      clear hpk hpe V0
      obtain ⟨T, rfl⟩ : ∃ T, T = wr := ⟨_, rfl⟩
      go_wp2
      go_loopw [47] (fun i ws => ∃ (j : Nat) (r : Option Addr) (m cap : Nat), j ≤ n' ∧ i = .int .i64 j ∧ RowVar2 ws R 88 (w.heap.size + 1 + 1 + 1) 3 r m cap (joinTo xs ys (side ps 1) j) ∧ Below (w.heap.size + 1 + 1 + 1) T ws) (fun i _ => n' - (intOf i).toNat)
      case atStart => exact ⟨0, r, n, cap, Nat.zero_le _, rfl, V1, Below.refl _ _⟩
      case round =>
        clear V1
        obtain ⟨j, r3, m3, cap3, hj, rfl, hv, hbs⟩ := hrel
        have BS := BT.trans (hbs.mono (by omega))
        have q3 : wr.cell? ⟨w.heap.size + 1 + 1, 0, none⟩ = some (.slice none 0 0) := (hbs.cell (by simp)).trans g3
        have q3f : wr.frozen? ⟨w.heap.size + 1 + 1, 0, none⟩ = false := (hbs.frozen (by simp)).trans j3
        by_cases hjl : j < n'
        · obtain ⟨b2, off2, rfl, hb2, hc2⟩ := (hb.below BS).some (by omega)
          have hcy := hc2 j (by omega)
          have HT := Hid.mk (joinTo_take xs ys (side ps 1) j)
          have HK := Hid.mk (joinTo_skip xs ys (side ps 1) j)
          have hlen := joinTo_length xs ys (side ps 1) j
          have hl13 : m3 ≤ 12 := by have := hv.1; omega
          generalize ys.getD j 0 = y at hcy HT
          clear hc2 hlen
          go_wp2
          go_loop [13, 54] (fun pd i => ∃ i' : Nat, i' ≤ k ∧ i = .int .i64 i' ∧ pd = .bool (((side ps 1).take i').contains (j : Int))) (fun _ i => k - (intOf i).toNat)
          case atStart => exact ⟨0, Nat.zero_le _, rfl, by simp⟩
          case round =>
            obtain ⟨i, hi', rfl, rfl⟩ := hrel
            by_cases hil : i < k
            · obtain ⟨pb, poff, rfl, hpc⟩ := (hp.below BS).some (by omega)
              obtain ⟨q, qd, hcx, _, hat⟩ := hpc i (by omega)
              obtain ⟨hl2, _⟩ := hpair i (by omega)
              have HC := Hid.mk (contains_snoc (side ps 1) i (by rw [side_length]; omega) (j : Int))
              rw [side_getD ps 1 i (by omega)] at HC
              generalize ps.getD i [] = pr at *
              obtain ⟨b', off', rfl, hb', hc'⟩ := hat.some (by omega)
              have hp1 := hc' 1 (by omega)
              rw [hl2] at hcx
              generalize pr.getD 1 0 = y1 at *
              generalize ((side ps 1).take i).contains (j : Int) = bl at *
              clear hpc hc' hl2 hpair hv HT HK
              cases bl with
              | true =>
                go_wp2
                go_round
                case rel => exact ⟨i + 1, by omega, by go_num, by rw [HC.out]; rfl⟩
                case measure => simp [intOf]; omega
              | false =>
                go_wp2
                go_round
                case rel => exact ⟨i + 1, by omega, by go_num, by rw [HC.out]; simp⟩
                case measure => simp [intOf]; omega
            · obtain rfl : i = k := by omega
              rw [show (side ps 1).take i = side ps 1 by rw [List.take_of_length_le (by rw [side_length]; omega)]]
              have hcr := hv.cell
              have hfr := hv.frozen
              cases hct : (side ps 1).contains (j : Int) with
              | true =>
                have HE := Hid.mk (HK.out hct)
                clear HK HT hct
                go_wp2
                go_roundw
                case rel => exact ⟨j + 1, r3, m3, cap3, by omega, by go_num, by rw [HE.out]; exact hv, hbs⟩
                case measure => simp [intOf]; omega
              | false =>
                have HE := Hid.mk (HT.out hct)
                have zz := hv.lt
                clear HK HT hct
                go_wp2_with (at_builtin; refine wpList_append_lies _ rfl (.tmp 70) (.tmp 72) 86 rfl (w.heap.size + 1 + 1 + 1) 3 i0 (.int .i64 0) 1 8 Try.underlying86 hi hz0 hz1 hz2 rfl (by decide) _ _ _ rfl (hv.own.alloc _) ⟨wr.heap.size, 0, none⟩ 1 1 [.int .i64 y] rfl rfl (news_at wr _ _) (by simp; rfl) (by decide) (by unfold maxLen; omega) (by omega) (by simp; omega) (wr.heap.size + 1) (by simp) ?_; intro g4 cap4 w4 hown4 hgrow4 hat4 _; obtain ⟨t1, t2, hv4⟩ := hv.pushed hown4 hgrow4 hat4)
                have HB4 := Hid.mk (hv.pushed_below (v := .slice (some ⟨g4, 0, none⟩) (m3 + 1) cap4) hgrow4 hbs zR (Nat.le_refl _))
                rw [← HE.out] at hv4
                have HV := Hid.mk hv4
                clear hv4 hown4 hgrow4 hv hbs t1 t2 hat4
                go_roundw
                case rel => exact ⟨j + 1, _, _, _, by omega, by go_num, HV.out, HB4.out⟩
                case measure => simp [intOf]; omega
        · obtain rfl : j = n' := by omega
          have hjz : joinTo xs ys (side ps 1) j = joinZ xs ys (side ps 1) := by rw [joinZ, joinTo, hz']
          rw [hjz] at hv
          have hcr := hv.cell
          have hm := hv.1
          have hown := owns_mono hv.own (show w.heap.size ≤ w.heap.size + 1 + 1 + 1 by omega)
          have hne : (Value.slice r3 m3 cap3).ownBlock = none ∨ (Value.slice r3 m3 cap3).ownBlock ≠ some (w.heap.size + 1 + 1) := by
            cases hv' : (Value.slice r3 m3 cap3).ownBlock with
            | none => exact .inl rfl
            | some q => exact .inr (fun e => by have := (hv.own.lt q hv').1; simp at e; omega)
          have zz := hv.lt
          by_cases hm6 : m3 ≤ 6
          · have HB' : Hid (l1B xs ys ps = true) := by show _ = _; rw [HB.out, hm]; exact decide_eq_true hm6
            have hd : decide ((m3 : Int) ≤ 6) = true := by simp; omega
            go_wp2
            go_region
            all_goals
              go_wp2
              refine bodyPost_ret (v := .tuple #[.agg #[.slice r3 m3 cap3], .bool true]) (by simp [results, Try.results134, go_sem, q3]) rfl ⟨r3, m3, cap3, by rw [HB'.out], by rw [HZ.out]; exact hm, ?_, ?_⟩
              · rw [HZ.out]; exact hown.drew.kept (setCell_grown _ _ _) hne
              · exact BS.drew.setCell (by simp; omega) _
          · have HB' : Hid (l1B xs ys ps = false) := by show _ = _; rw [HB.out, hm]; exact decide_eq_false hm6
            have hd : decide ((m3 : Int) ≤ 6) = false := by simp; omega
            go_wp2
            go_region
            all_goals
              go_wp2
              refine bodyPost_ret (v := .tuple #[.agg #[.slice r3 m3 cap3], .bool false]) (by simp [results, Try.results134, go_sem, q3]) rfl ⟨r3, m3, cap3, by rw [HB'.out], by rw [HZ.out]; exact hm, ?_, ?_⟩
              · rw [HZ.out]; exact hown.drew.kept (setCell_grown _ _ _) hne
              · exact BS.drew.setCell (by simp; omega) _

end Go.Proofs.Ytmkhdocjabflkaa
