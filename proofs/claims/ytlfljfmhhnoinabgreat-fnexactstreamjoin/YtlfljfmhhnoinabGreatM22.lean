/- Several texts of one proof, in build order: Nought, JoinO, MapH. -/
import Derived.Test.YtlfljfmhhnoinabGreatM13
import Derived.Test.YtlfljfmhhnoinabGreatM6
import Derived.Test.YtlfljfmhhnoinabGreatM18
import Derived.Test.YtlfljfmhhnoinabGreatM15
import Derived.Test.YtlfljfmhhnoinabGreatM16

/- Contract of impl.noughts. -/
namespace Go.Proofs.YtlfljfmhhnoinabGreat
open Go.RowKit

set_option maxRecDepth 100000 in
set_option maxHeartbeats 1000000 in
theorem noughts_any (q : Nat) (w : World) (h6 : q ≤ 6) :
    Calls Tryz.prog 45 #[.int .i64 q] w fun e w' => ∃ r d, e = .returned (.agg #[.slice r q d]) ∧ (r = none → d = 0) ∧ At w' r (List.replicate q 0) ∧ Below w.heap.size w w' := by
  obtain ⟨i0, hi, hz0, hz1, hz2⟩ := info_parts Tryz.infoInt
  have hbL : Below w.heap.size w (w.alloc (.cells #[.slice none 0 0] 76)) := (Below.refl _ _).alloc (Nat.le_refl _) _
  have c0 : (w.alloc (.cells #[.slice none 0 0] 76)).cell? ⟨w.heap.size, 0, none⟩ = some (.slice none 0 0) := by simp
  have f0 : (w.alloc (.cells #[.slice none 0 0] 76)).frozen? ⟨w.heap.size, 0, none⟩ = false := by simp
  obtain ⟨w2, hr, ho, hg⟩ := run_makeSlice_full (P := Tryz.prog) (w.alloc (.cells #[.slice none 0 0] 76)) (w.heap.size + 1) 41 3 i0 (.int .i64 0) 1 Tryz.underlying41 hi hz0 hz1 .i64 .i64 q (by omega) (by rw [hz2]; omega) (by unfold maxLen; omega) (by simp)
  have hmc : (madeCells (Value.int .i64 0).cells (q * 1)).toList = (List.replicate q 0).map (.int .i64) := by
    have : q = 0 ∨ q = 1 ∨ q = 2 ∨ q = 3 ∨ q = 4 ∨ q = 5 ∨ q = 6 := by omega
    rcases this with rfl | rfl | rfl | rfl | rfl | rfl | rfl <;> simp [madeCells, Value.cells, Array.toList_map, Array.toList_range, List.range, List.range.loop, List.replicate]
  rw [hmc] at ho
  have e2 := hg.cell c0 (by simp)
  have k2 : w2.frozen? ⟨w.heap.size, 0, none⟩ = false := (World.frozen?_of_block (hg.block w.heap.size (by simp) (by simp))).trans f0
  have hb2 : Below w.heap.size w w2 := hbL.grown hg hbL.size (fun j hj => by cases hj)
  have HA2 := Hid.mk (At.owned ho)
  have HO := Hid.mk ho
  clear hmc ho hg hbL c0 f0
  simp only [World.size_alloc] at hr
  go_enter Tryz.func45, Tryz.ntmps45
  go_wp2
  refine bodyPost_ret (v := .agg #[.slice (some ⟨w.heap.size + 1, 0, none⟩) q q]) (by simp [results, Tryz.results45, go_sem, e2]) rfl ⟨_, _, rfl, fun h => (by cases h), ?_, ?_⟩
  · have h2 := HO.out
    rw [World.size_alloc] at h2
    exact At.owned (ownsRow_setCell_below h2 (by show w.heap.size < _; omega) _)
  · exact hb2.setCell (by show w.heap.size ≤ w.heap.size; omega) _
end Go.Proofs.YtlfljfmhhnoinabGreat

/- Contract of impl.joinOfCells. -/
namespace Go.Proofs.YtlfljfmhhnoinabGreat
open Go.RowKit

set_option maxRecDepth 100000 in
set_option maxHeartbeats 4000000 in
theorem joinOfCells_any (q q' np cp : Nat) (ap : Option Addr) (ps : List (List Int)) (w : World) (h6 : q ≤ 6) (h6' : q' ≤ 6) (hzp : ps.length = np) (hnp : np ≤ 1048576) (hap : AtS w ap ps) :
    Calls Tryz.prog 26 #[.int .i64 q, .int .i64 q', .slice ap np cp] w fun e w' => Below w.heap.size w w' ∧ (((pairsOk ps q q' && decide (joinC q q' ps ≤ 6)) = false ∧ e = .returned (.tuple #[.nilFunc, .int .i64 0, .bool false])) ∨
      ((pairsOk ps q q' && decide (joinC q q' ps ≤ 6)) = true ∧ ∃ f5 f3 f4 f6, e = .returned (.tuple #[.func (.func 47) #[] #[.pointer (some ⟨f5, 0, none⟩), .pointer (some ⟨f3, 0, none⟩), .pointer (some ⟨f4, 0, none⟩), .pointer (some ⟨f6, 0, none⟩)], .int .i64 (joinC q q' ps), .bool true]) ∧ MatchAt w' f5 f3 f4 f6 q q' ps)) := by
  obtain ⟨W, hW⟩ : ∃ W, W = ((w.alloc (.cells #[.int .i64 q] 3)).alloc (.cells #[.int .i64 q'] 3)).alloc (.cells #[.slice ap np cp] 25) := ⟨_, rfl⟩
  have zW : W.heap.size = w.heap.size + 1 + 1 + 1 := by rw [hW]; simp
  have B0 : Below w.heap.size w W := by rw [hW]; exact (((Below.refl _ _).alloc (Nat.le_refl _) _).alloc (by simp) _).alloc (by simp; omega) _
  have c0 : W.cell? ⟨w.heap.size, 0, none⟩ = some (.int .i64 q) := by rw [hW]; simp [go_sem]
  have b0 : W.cell? ⟨w.heap.size + 1, 0, none⟩ = some (.int .i64 q') := by rw [hW]; simp [go_sem]
  have d0 : W.cell? ⟨w.heap.size + 1 + 1, 0, none⟩ = some (.slice ap np cp) := by rw [hW]; simp [go_sem]
  have HP := hap.below B0
  obtain ⟨ok, hok⟩ : ∃ ok, ok = joinOk (List.replicate q 0) (List.replicate q' 0) ps := ⟨_, rfl⟩
  have HOK := Hid.mk hok
  have HON : Hid (ok = (pairsOk ps q q' && decide (joinC q q' ps ≤ 6))) := by show _ = _; rw [hok, joinOk_noughts h6 h6']
  clear hok hap
  go_enter Tryz.func26, Tryz.ntmps26
  go_upto_region 1 with fail
  rw [← hW]
  clear hW
  go_cut [9, 10] (fun ta tb wx => ∃ (Pb : Nat) (r : Option Addr) (m d : Nat), ta = .pointer (some ⟨Pb, 0, none⟩) ∧ tb = .bool ok ∧ wx.cell? ⟨Pb, 0, none⟩ = some (.slice r m d) ∧ (joinAns (List.replicate q 0) (List.replicate q' 0) ps).length = m ∧ W.heap.size ≤ Pb ∧ Pb < wx.heap.size ∧ Below W.heap.size W wx)
  case first =>
    refine wp_region_held_drew (S := fun w' => w'.cell? ⟨w.heap.size, 0, none⟩ = some (.int .i64 q) ∧ w'.cell? ⟨w.heap.size + 1, 0, none⟩ = some (.int .i64 q') ∧ w'.cell? ⟨w.heap.size + 1 + 1, 0, none⟩ = some (.slice ap np cp)) (by kernel_rfl) ?_ (fun hHeld => ?_)
    · (try dsimp only)
      exact ⟨c0, b0, d0⟩
    refine wpAnyH_take (i := 0) (oi := ?_) (v := ?_) ?_ (by kernel_rfl) (by kernel_rfl) (by kernel_rfl) ?_ (Or.inl ⟨?_, ?_⟩) (by assumption) ?_
    rotate_left 2
    · (simp only [List.getElem?_toArray, List.getElem?_cons_zero]; rfl)
    · exact fun _ _ _ h => h
    · rfl
    · (intro wS hSw; (try dsimp only at hSw); go_simp; (try with_reducible rfl))
    (try simp only [Act.put, List.setIfInBounds_toArray, List.set_cons_zero, List.set_cons_succ])
    refine wpAnyH_take (i := 2) (oi := ?_) (v := ?_) ?_ (by kernel_rfl) (by kernel_rfl) (by kernel_rfl) ?_ (Or.inl ⟨?_, ?_⟩) (by assumption) ?_
    rotate_left 2
    · (simp only [List.getElem?_toArray, List.getElem?_cons_zero, List.getElem?_cons_succ]; rfl)
    · exact fun _ _ _ h => h
    · rfl
    · (intro wS hSw; (try dsimp only at hSw); go_simp; (try with_reducible rfl))
    (try simp only [Act.put, List.setIfInBounds_toArray, List.set_cons_zero, List.set_cons_succ])
    refine wpAnyH_take (i := 4) (oi := ?_) (v := ?_) ?_ (by kernel_rfl) (by kernel_rfl) (by kernel_rfl) ?_ (Or.inl ⟨?_, ?_⟩) (by assumption) ?_
    rotate_left 2
    · (simp only [List.getElem?_toArray, List.getElem?_cons_zero, List.getElem?_cons_succ]; rfl)
    · exact fun _ _ _ h => h
    · rfl
    · (intro wS hSw; (try dsimp only at hSw); go_simp; (try with_reducible rfl))
    (try simp only [Act.put, List.setIfInBounds_toArray, List.set_cons_zero, List.set_cons_succ])
    obtain ⟨u0, hu0⟩ : ∃ u, u = W.drew := ⟨_, rfl⟩
    have Y0 : Below W.heap.size W u0 := by rw [hu0]; exact (Below.refl _ _).drew
    rw [← hu0]
    clear hu0
    have k0_0 := cell_later Y0 c0
    have k1_0 := cell_later Y0 b0
    have k2_0 := cell_later Y0 d0
    have P_0 := HP.below Y0
    have zz0 := Y0.size
    refine wpAnyH_ready (rs := [1, 9]) (by kernel_rfl) (by simp) ?_
    refine AllReadyH.cons (o := ?_) ?_ (fun K hK => ?_) ?_
    rotate_left
    · (simp only [List.getElem?_toArray, List.getElem?_cons_zero, List.getElem?_cons_succ]; rfl)
    · go_simp
      go_at_call 45
      refine (noughts_any q _ h6).mono ?_
      rintro e v1 ⟨r1, d1, rfl, n1, a1, hb1⟩
      have k0_1 := cell_later hb1 k0_0
      have k1_1 := cell_later hb1 k1_0
      have k2_1 := cell_later hb1 k2_0
      have P_1 := P_0.below hb1
      have Y1 := Y0.trans (hb1.mono Y0.size)
      have zz1 := Y1.size
      have zw1 := hb1.size
      (try go_wp2_with fail)
      refine hK.out _ _ ?_ (fun hHeld' => ?_)
      · (try dsimp only)
        exact ⟨k0_1, k1_1, k2_1⟩
      clear hK K hHeld
      have hHeld := hHeld'
      clear hHeld'
      (try simp only [Act.put, List.setIfInBounds_toArray, List.set_cons_zero, List.set_cons_succ])
      refine wpAnyH_ready (rs := [3, 9]) (by kernel_rfl) (by simp) ?_
      refine AllReadyH.cons (o := ?_) ?_ (fun K hK => ?_) ?_
      rotate_left
      · (simp only [List.getElem?_toArray, List.getElem?_cons_zero, List.getElem?_cons_succ]; rfl)
      · go_simp
        go_at_call 45
        refine (noughts_any q' _ h6').mono ?_
        rintro e v2 ⟨r2, d2, rfl, n2, a2, hb2⟩
        have k0_2 := cell_later hb2 k0_1
        have k1_2 := cell_later hb2 k1_1
        have k2_2 := cell_later hb2 k2_1
        have P_2 := P_1.below hb2
        have Y2 := Y1.trans (hb2.mono Y1.size)
        have zz2 := Y2.size
        have zw2 := hb2.size
        have A0_2 := a1.below hb2
        (try go_wp2_with fail)
        refine hK.out _ _ ?_ (fun hHeld' => ?_)
        · (try dsimp only)
          exact ⟨k0_2, k1_2, k2_2⟩
        clear hK K hHeld
        have hHeld := hHeld'
        clear hHeld'
        (try simp only [Act.put, List.setIfInBounds_toArray, List.set_cons_zero, List.set_cons_succ])
        refine wpAnyH_ready (rs := [5, 9]) (by kernel_rfl) (by simp) ?_
        refine AllReadyH.cons (o := ?_) ?_ (fun K hK => ?_) ?_
        rotate_left
        · (simp only [List.getElem?_toArray, List.getElem?_cons_zero, List.getElem?_cons_succ]; rfl)
        · go_simp
          go_at_call 44
          refine (implJoinRows _ _ _ _ _ _ (List.replicate q 0) (List.replicate q' 0) _ _ _ ps _ (by simp) (by simp) hzp (by omega) (by omega) (by omega) n1 A0_2 a2 P_2).mono ?_
          rintro e v3 ⟨r3, m3, d3, rfl, hm3, ho3, hb3⟩
          rw [← HOK.out]
          have k0_3 := cell_later hb3 k0_2
          have k1_3 := cell_later hb3 k1_2
          have k2_3 := cell_later hb3 k2_2
          have P_3 := P_2.below hb3
          have Y3 := Y2.trans (hb3.mono Y2.size)
          have zz3 := Y3.size
          have zw3 := hb3.size
          have A0_3 := A0_2.below hb3
          have A1_3 := a2.below hb3
          (try go_wp2_with fail)
          refine hK.out _ _ ?_ (fun hHeld' => ?_)
          · (try dsimp only)
            exact ⟨k0_3, k1_3, k2_3⟩
          clear hK K hHeld
          have hHeld := hHeld'
          clear hHeld'
          (try simp only [Act.put, List.setIfInBounds_toArray, List.set_cons_zero, List.set_cons_succ])
          refine wpAnyH_take (i := 6) (oi := ?_) (v := ?_) ?_ (by kernel_rfl) (by kernel_rfl) (by kernel_rfl) ?_ (Or.inl ⟨?_, ?_⟩) (by assumption) ?_
          rotate_left 2
          · (simp only [List.getElem?_toArray, List.getElem?_cons_zero, List.getElem?_cons_succ]; rfl)
          · exact fun _ _ _ h => h
          · rfl
          · (intro wS hSw; (try dsimp only at hSw); go_simp; (try with_reducible rfl))
          (try simp only [Act.put, List.setIfInBounds_toArray, List.set_cons_zero, List.set_cons_succ])
          refine wpAnyH_take (i := 7) (oi := ?_) (v := ?_) ?_ (by kernel_rfl) (by kernel_rfl) (by kernel_rfl) ?_ (Or.inl ⟨?_, ?_⟩) (by assumption) ?_
          rotate_left 2
          · (simp only [List.getElem?_toArray, List.getElem?_cons_zero, List.getElem?_cons_succ]; rfl)
          · exact fun _ _ _ h => h
          · rfl
          · (intro wS hSw; (try dsimp only at hSw); go_simp; (try with_reducible rfl))
          (try simp only [Act.put, List.setIfInBounds_toArray, List.set_cons_zero, List.set_cons_succ])
          refine wpAnyH_take (i := 8) (oi := ?_) (v := ?_) ?_ (by kernel_rfl) (by kernel_rfl) (by kernel_rfl) ?_ (Or.inl ⟨?_, ?_⟩) (by assumption) ?_
          rotate_left 2
          · (simp only [List.getElem?_toArray, List.getElem?_cons_zero, List.getElem?_cons_succ]; rfl)
          · exact fun _ _ _ h => h
          · rfl
          · (intro wS hSw; (try dsimp only at hSw); go_simp; (try with_reducible rfl))
          (try simp only [Act.put, List.setIfInBounds_toArray, List.set_cons_zero, List.set_cons_succ])
          refine wpAnyH_ready (rs := [9]) (by kernel_rfl) (by simp) ?_
          refine AllReadyH.cons (o := ?_) ?_ (fun K hK => ?_) AllReadyH.nil
          rotate_left
          · (simp only [List.getElem?_toArray, List.getElem?_cons_zero, List.getElem?_cons_succ]; rfl)
          go_simp
          skip
          (try go_wp2_with fail)
          refine hK.out _ _ ?_ (fun hHeld' => ?_)
          · (try dsimp only)
            exact ⟨cell_later ((Below.refl _ _).alloc (Nat.le_refl _) _) k0_3, cell_later ((Below.refl _ _).alloc (Nat.le_refl _) _) k1_3, cell_later ((Below.refl _ _).alloc (Nat.le_refl _) _) k2_3⟩
          clear hK K hHeld
          have hHeld := hHeld'
          clear hHeld'
          (try simp only [Act.put, List.setIfInBounds_toArray, List.set_cons_zero, List.set_cons_succ])
          refine wpAnyH_ready (rs := [10]) (by kernel_rfl) (by simp) ?_
          refine AllReadyH.cons (o := ?_) ?_ (fun K hK => ?_) AllReadyH.nil
          rotate_left
          · (simp only [List.getElem?_toArray, List.getElem?_cons_zero, List.getElem?_cons_succ]; rfl)
          go_simp
          skip
          (try go_wp2_with fail)
          refine hK.out _ _ ?_ (fun hHeld' => ?_)
          · (try dsimp only)
            exact ⟨cell_later ((Below.refl _ _).alloc (Nat.le_refl _) _) k0_3, cell_later ((Below.refl _ _).alloc (Nat.le_refl _) _) k1_3, cell_later ((Below.refl _ _).alloc (Nat.le_refl _) _) k2_3⟩
          clear hK K hHeld
          have hHeld := hHeld'
          clear hHeld'
          (try simp only [Act.put, List.setIfInBounds_toArray, List.set_cons_zero, List.set_cons_succ])
          refine wpAnyH_take (i := 11) (oi := ?_) (v := ?_) ?_ (by kernel_rfl) (by kernel_rfl) (by kernel_rfl) ?_ (Or.inl ⟨?_, ?_⟩) (by assumption) ?_
          rotate_left 2
          · (simp only [List.getElem?_toArray, List.getElem?_cons_zero, List.getElem?_cons_succ]; rfl)
          · exact fun _ _ _ h => h
          · rfl
          · (intro wS hSw; (try dsimp only at hSw); go_simp; (try with_reducible rfl))
          (try simp only [Act.put, List.setIfInBounds_toArray, List.set_cons_zero, List.set_cons_succ])
          refine wpAnyH_done (by kernel_rfl) ?_ _
          (try go_wp2_with fail)
          go_meet
          case rel =>
            exact ⟨v3.heap.size, r3, m3, d3, rfl, rfl, newcell v3 _ _, hm3, Y3.size, size_lt _ _, Y3.alloc Y3.size _⟩
        refine AllReadyH.cons (o := ?_) ?_ (fun K hK => ?_) AllReadyH.nil
        rotate_left
        · (simp only [List.getElem?_toArray, List.getElem?_cons_zero, List.getElem?_cons_succ]; rfl)
        · go_simp
          (try go_wp2_with fail)
          refine hK.out _ _ ?_ (fun hHeld' => ?_)
          · (try dsimp only)
            exact ⟨cell_later ((Below.refl _ _).alloc (Nat.le_refl _) _) k0_2, cell_later ((Below.refl _ _).alloc (Nat.le_refl _) _) k1_2, cell_later ((Below.refl _ _).alloc (Nat.le_refl _) _) k2_2⟩
          clear hK K hHeld
          have hHeld := hHeld'
          clear hHeld'
          (try simp only [Act.put, List.setIfInBounds_toArray, List.set_cons_zero, List.set_cons_succ])
          obtain ⟨v4, hU4⟩ : ∃ u, u = v2.alloc (.cells #[.slice none 0 0] 76) := ⟨_, rfl⟩
          have hb4 : Below v2.heap.size v2 v4 := by rw [hU4]; exact (Below.refl _ _).alloc (Nat.le_refl _) _
          have hp4 : v4.heap[v2.heap.size]? = some (.cells #[.slice none 0 0] 76 (0, 0)) := by rw [hU4]; exact heap_alloc_new _ _
          have zp4 : v4.heap.size = v2.heap.size + 1 := by rw [hU4]; simp
          rw [← hU4]
          clear hU4
          have k0_4 := cell_later hb4 k0_2
          have k1_4 := cell_later hb4 k1_2
          have k2_4 := cell_later hb4 k2_2
          have P_4 := P_2.below hb4
          have Y4 := Y2.trans (hb4.mono Y2.size)
          have zz4 := Y4.size
          have zw4 := hb4.size
          have A0_4 := A0_2.below hb4
          have A1_4 := a2.below hb4
          refine wpAnyH_ready (rs := [5]) (by kernel_rfl) (by simp) ?_
          refine AllReadyH.cons (o := ?_) ?_ (fun K hK => ?_) AllReadyH.nil
          rotate_left
          · (simp only [List.getElem?_toArray, List.getElem?_cons_zero, List.getElem?_cons_succ]; rfl)
          go_simp
          go_at_call 44
          refine (implJoinRows _ _ _ _ _ _ (List.replicate q 0) (List.replicate q' 0) _ _ _ ps _ (by simp) (by simp) hzp (by omega) (by omega) (by omega) n1 A0_4 A1_4 P_4).mono ?_
          rintro e v5 ⟨r5, m5, d5, rfl, hm5, ho5, hb5⟩
          rw [← HOK.out]
          have k0_5 := cell_later hb5 k0_4
          have k1_5 := cell_later hb5 k1_4
          have k2_5 := cell_later hb5 k2_4
          have P_5 := P_4.below hb5
          have Y5 := Y4.trans (hb5.mono Y4.size)
          have zz5 := Y5.size
          have zw5 := hb5.size
          have A0_5 := A0_4.below hb5
          have A1_5 := A1_4.below hb5
          have hp5 := (hb5.block v2.heap.size (Array.getElem?_eq_some_iff.1 hp4).1).trans hp4
          (try go_wp2_with fail)
          refine hK.out _ _ ?_ (fun hHeld' => ?_)
          · (try dsimp only)
            exact ⟨k0_5, k1_5, k2_5⟩
          clear hK K hHeld
          have hHeld := hHeld'
          clear hHeld'
          (try simp only [Act.put, List.setIfInBounds_toArray, List.set_cons_zero, List.set_cons_succ])
          refine wpAnyH_take (i := 6) (oi := ?_) (v := ?_) ?_ (by kernel_rfl) (by kernel_rfl) (by kernel_rfl) ?_ (Or.inl ⟨?_, ?_⟩) (by assumption) ?_
          rotate_left 2
          · (simp only [List.getElem?_toArray, List.getElem?_cons_zero, List.getElem?_cons_succ]; rfl)
          · exact fun _ _ _ h => h
          · rfl
          · (intro wS hSw; (try dsimp only at hSw); go_simp; (try with_reducible rfl))
          (try simp only [Act.put, List.setIfInBounds_toArray, List.set_cons_zero, List.set_cons_succ])
          refine wpAnyH_take (i := 7) (oi := ?_) (v := ?_) ?_ (by kernel_rfl) (by kernel_rfl) (by kernel_rfl) ?_ (Or.inl ⟨?_, ?_⟩) (by assumption) ?_
          rotate_left 2
          · (simp only [List.getElem?_toArray, List.getElem?_cons_zero, List.getElem?_cons_succ]; rfl)
          · exact fun _ _ _ h => h
          · rfl
          · (intro wS hSw; (try dsimp only at hSw); go_simp; (try with_reducible rfl))
          (try simp only [Act.put, List.setIfInBounds_toArray, List.set_cons_zero, List.set_cons_succ])
          refine wpAnyH_take (i := 8) (oi := ?_) (v := ?_) ?_ (by kernel_rfl) (by kernel_rfl) (by kernel_rfl) ?_ (Or.inl ⟨?_, ?_⟩) (by assumption) ?_
          rotate_left 2
          · (simp only [List.getElem?_toArray, List.getElem?_cons_zero, List.getElem?_cons_succ]; rfl)
          · exact fun _ _ _ h => h
          · rfl
          · (intro wS hSw; (try dsimp only at hSw); go_simp; (try with_reducible rfl))
          (try simp only [Act.put, List.setIfInBounds_toArray, List.set_cons_zero, List.set_cons_succ])
          have g0 : v5.cell? ⟨v2.heap.size, 0, none⟩ = some (.slice none 0 0) := by rw [cell_of_row _ _ 0 _ _ (0, 0) hp5]; rfl
          have g1 : v5.frozen? ⟨v2.heap.size, 0, none⟩ = false := frozen_of_row _ _ 0 _ _ hp5
          have zc := World.block_lt_of_cell? _ _ c0
          have zd := World.block_lt_of_cell? _ _ b0
          have ze := World.block_lt_of_cell? _ _ d0
          simp only at zc zd ze
          refine wpAnyH_ready (rs := [10]) (by kernel_rfl) (by simp) ?_
          refine AllReadyH.cons (o := ?_) ?_ (fun K hK => ?_) AllReadyH.nil
          rotate_left
          · (simp only [List.getElem?_toArray, List.getElem?_cons_zero, List.getElem?_cons_succ]; rfl)
          go_simp
          skip
          (try go_wp2_with fail)
          refine hK.out _ _ ?_ (fun hHeld' => ?_)
          · (try dsimp only)
            exact ⟨keep_far k0_5 (by omega), keep_far k1_5 (by omega), keep_far k2_5 (by omega)⟩
          clear hK K hHeld
          have hHeld := hHeld'
          clear hHeld'
          (try simp only [Act.put, List.setIfInBounds_toArray, List.set_cons_zero, List.set_cons_succ])
          refine wpAnyH_take (i := 11) (oi := ?_) (v := ?_) ?_ (by kernel_rfl) (by kernel_rfl) (by kernel_rfl) ?_ (Or.inl ⟨?_, ?_⟩) (by assumption) ?_
          rotate_left 2
          · (simp only [List.getElem?_toArray, List.getElem?_cons_zero, List.getElem?_cons_succ]; rfl)
          · exact fun _ _ _ h => h
          · rfl
          · (intro wS hSw; (try dsimp only at hSw); go_simp; (try with_reducible rfl))
          (try simp only [Act.put, List.setIfInBounds_toArray, List.set_cons_zero, List.set_cons_succ])
          refine wpAnyH_done (by kernel_rfl) ?_ _
          (try go_wp2_with fail)
          go_meet
          case rel =>
            exact ⟨v2.heap.size, r5, m5, d5, rfl, rfl, cell_set g0 _, hm5, by omega, lt_set g0 _, Y5.setCell (by show W.heap.size ≤ v2.heap.size; omega) _⟩
      refine AllReadyH.cons (o := ?_) ?_ (fun K hK => ?_) AllReadyH.nil
      rotate_left
      · (simp only [List.getElem?_toArray, List.getElem?_cons_zero, List.getElem?_cons_succ]; rfl)
      · go_simp
        (try go_wp2_with fail)
        refine hK.out _ _ ?_ (fun hHeld' => ?_)
        · (try dsimp only)
          exact ⟨cell_later ((Below.refl _ _).alloc (Nat.le_refl _) _) k0_1, cell_later ((Below.refl _ _).alloc (Nat.le_refl _) _) k1_1, cell_later ((Below.refl _ _).alloc (Nat.le_refl _) _) k2_1⟩
        clear hK K hHeld
        have hHeld := hHeld'
        clear hHeld'
        (try simp only [Act.put, List.setIfInBounds_toArray, List.set_cons_zero, List.set_cons_succ])
        obtain ⟨v6, hU6⟩ : ∃ u, u = v1.alloc (.cells #[.slice none 0 0] 76) := ⟨_, rfl⟩
        have hb6 : Below v1.heap.size v1 v6 := by rw [hU6]; exact (Below.refl _ _).alloc (Nat.le_refl _) _
        have hp6 : v6.heap[v1.heap.size]? = some (.cells #[.slice none 0 0] 76 (0, 0)) := by rw [hU6]; exact heap_alloc_new _ _
        have zp6 : v6.heap.size = v1.heap.size + 1 := by rw [hU6]; simp
        rw [← hU6]
        clear hU6
        have k0_6 := cell_later hb6 k0_1
        have k1_6 := cell_later hb6 k1_1
        have k2_6 := cell_later hb6 k2_1
        have P_6 := P_1.below hb6
        have Y6 := Y1.trans (hb6.mono Y1.size)
        have zz6 := Y6.size
        have zw6 := hb6.size
        have A0_6 := a1.below hb6
        refine wpAnyH_ready (rs := [3]) (by kernel_rfl) (by simp) ?_
        refine AllReadyH.cons (o := ?_) ?_ (fun K hK => ?_) AllReadyH.nil
        rotate_left
        · (simp only [List.getElem?_toArray, List.getElem?_cons_zero, List.getElem?_cons_succ]; rfl)
        go_simp
        go_at_call 45
        refine (noughts_any q' _ h6').mono ?_
        rintro e v7 ⟨r7, d7, rfl, n7, a7, hb7⟩
        have k0_7 := cell_later hb7 k0_6
        have k1_7 := cell_later hb7 k1_6
        have k2_7 := cell_later hb7 k2_6
        have P_7 := P_6.below hb7
        have Y7 := Y6.trans (hb7.mono Y6.size)
        have zz7 := Y7.size
        have zw7 := hb7.size
        have A0_7 := A0_6.below hb7
        have hp7 := (hb7.block v1.heap.size (Array.getElem?_eq_some_iff.1 hp6).1).trans hp6
        (try go_wp2_with fail)
        refine hK.out _ _ ?_ (fun hHeld' => ?_)
        · (try dsimp only)
          exact ⟨k0_7, k1_7, k2_7⟩
        clear hK K hHeld
        have hHeld := hHeld'
        clear hHeld'
        (try simp only [Act.put, List.setIfInBounds_toArray, List.set_cons_zero, List.set_cons_succ])
        refine wpAnyH_ready (rs := [5]) (by kernel_rfl) (by simp) ?_
        refine AllReadyH.cons (o := ?_) ?_ (fun K hK => ?_) AllReadyH.nil
        rotate_left
        · (simp only [List.getElem?_toArray, List.getElem?_cons_zero, List.getElem?_cons_succ]; rfl)
        go_simp
        go_at_call 44
        refine (implJoinRows _ _ _ _ _ _ (List.replicate q 0) (List.replicate q' 0) _ _ _ ps _ (by simp) (by simp) hzp (by omega) (by omega) (by omega) n1 A0_7 a7 P_7).mono ?_
        rintro e v8 ⟨r8, m8, d8, rfl, hm8, ho8, hb8⟩
        rw [← HOK.out]
        have k0_8 := cell_later hb8 k0_7
        have k1_8 := cell_later hb8 k1_7
        have k2_8 := cell_later hb8 k2_7
        have P_8 := P_7.below hb8
        have Y8 := Y7.trans (hb8.mono Y7.size)
        have zz8 := Y8.size
        have zw8 := hb8.size
        have A0_8 := A0_7.below hb8
        have A1_8 := a7.below hb8
        have hp8 := (hb8.block v1.heap.size (Array.getElem?_eq_some_iff.1 hp7).1).trans hp7
        (try go_wp2_with fail)
        refine hK.out _ _ ?_ (fun hHeld' => ?_)
        · (try dsimp only)
          exact ⟨k0_8, k1_8, k2_8⟩
        clear hK K hHeld
        have hHeld := hHeld'
        clear hHeld'
        (try simp only [Act.put, List.setIfInBounds_toArray, List.set_cons_zero, List.set_cons_succ])
        refine wpAnyH_take (i := 6) (oi := ?_) (v := ?_) ?_ (by kernel_rfl) (by kernel_rfl) (by kernel_rfl) ?_ (Or.inl ⟨?_, ?_⟩) (by assumption) ?_
        rotate_left 2
        · (simp only [List.getElem?_toArray, List.getElem?_cons_zero, List.getElem?_cons_succ]; rfl)
        · exact fun _ _ _ h => h
        · rfl
        · (intro wS hSw; (try dsimp only at hSw); go_simp; (try with_reducible rfl))
        (try simp only [Act.put, List.setIfInBounds_toArray, List.set_cons_zero, List.set_cons_succ])
        refine wpAnyH_take (i := 7) (oi := ?_) (v := ?_) ?_ (by kernel_rfl) (by kernel_rfl) (by kernel_rfl) ?_ (Or.inl ⟨?_, ?_⟩) (by assumption) ?_
        rotate_left 2
        · (simp only [List.getElem?_toArray, List.getElem?_cons_zero, List.getElem?_cons_succ]; rfl)
        · exact fun _ _ _ h => h
        · rfl
        · (intro wS hSw; (try dsimp only at hSw); go_simp; (try with_reducible rfl))
        (try simp only [Act.put, List.setIfInBounds_toArray, List.set_cons_zero, List.set_cons_succ])
        refine wpAnyH_take (i := 8) (oi := ?_) (v := ?_) ?_ (by kernel_rfl) (by kernel_rfl) (by kernel_rfl) ?_ (Or.inl ⟨?_, ?_⟩) (by assumption) ?_
        rotate_left 2
        · (simp only [List.getElem?_toArray, List.getElem?_cons_zero, List.getElem?_cons_succ]; rfl)
        · exact fun _ _ _ h => h
        · rfl
        · (intro wS hSw; (try dsimp only at hSw); go_simp; (try with_reducible rfl))
        (try simp only [Act.put, List.setIfInBounds_toArray, List.set_cons_zero, List.set_cons_succ])
        have g0 : v8.cell? ⟨v1.heap.size, 0, none⟩ = some (.slice none 0 0) := by rw [cell_of_row _ _ 0 _ _ (0, 0) hp8]; rfl
        have g1 : v8.frozen? ⟨v1.heap.size, 0, none⟩ = false := frozen_of_row _ _ 0 _ _ hp8
        have zc := World.block_lt_of_cell? _ _ c0
        have zd := World.block_lt_of_cell? _ _ b0
        have ze := World.block_lt_of_cell? _ _ d0
        simp only at zc zd ze
        refine wpAnyH_ready (rs := [10]) (by kernel_rfl) (by simp) ?_
        refine AllReadyH.cons (o := ?_) ?_ (fun K hK => ?_) AllReadyH.nil
        rotate_left
        · (simp only [List.getElem?_toArray, List.getElem?_cons_zero, List.getElem?_cons_succ]; rfl)
        go_simp
        skip
        (try go_wp2_with fail)
        refine hK.out _ _ ?_ (fun hHeld' => ?_)
        · (try dsimp only)
          exact ⟨keep_far k0_8 (by omega), keep_far k1_8 (by omega), keep_far k2_8 (by omega)⟩
        clear hK K hHeld
        have hHeld := hHeld'
        clear hHeld'
        (try simp only [Act.put, List.setIfInBounds_toArray, List.set_cons_zero, List.set_cons_succ])
        refine wpAnyH_take (i := 11) (oi := ?_) (v := ?_) ?_ (by kernel_rfl) (by kernel_rfl) (by kernel_rfl) ?_ (Or.inl ⟨?_, ?_⟩) (by assumption) ?_
        rotate_left 2
        · (simp only [List.getElem?_toArray, List.getElem?_cons_zero, List.getElem?_cons_succ]; rfl)
        · exact fun _ _ _ h => h
        · rfl
        · (intro wS hSw; (try dsimp only at hSw); go_simp; (try with_reducible rfl))
        (try simp only [Act.put, List.setIfInBounds_toArray, List.set_cons_zero, List.set_cons_succ])
        refine wpAnyH_done (by kernel_rfl) ?_ _
        (try go_wp2_with fail)
        go_meet
        case rel =>
          exact ⟨v1.heap.size, r8, m8, d8, rfl, rfl, cell_set g0 _, hm8, by omega, lt_set g0 _, Y8.setCell (by show W.heap.size ≤ v1.heap.size; omega) _⟩
    refine AllReadyH.cons (o := ?_) ?_ (fun K hK => ?_) AllReadyH.nil
    rotate_left
    · (simp only [List.getElem?_toArray, List.getElem?_cons_zero, List.getElem?_cons_succ]; rfl)
    · go_simp
      (try go_wp2_with fail)
      refine hK.out _ _ ?_ (fun hHeld' => ?_)
      · (try dsimp only)
        exact ⟨cell_later ((Below.refl _ _).alloc (Nat.le_refl _) _) k0_0, cell_later ((Below.refl _ _).alloc (Nat.le_refl _) _) k1_0, cell_later ((Below.refl _ _).alloc (Nat.le_refl _) _) k2_0⟩
      clear hK K hHeld
      have hHeld := hHeld'
      clear hHeld'
      (try simp only [Act.put, List.setIfInBounds_toArray, List.set_cons_zero, List.set_cons_succ])
      obtain ⟨v9, hU9⟩ : ∃ u, u = u0.alloc (.cells #[.slice none 0 0] 76) := ⟨_, rfl⟩
      have hb9 : Below u0.heap.size u0 v9 := by rw [hU9]; exact (Below.refl _ _).alloc (Nat.le_refl _) _
      have hp9 : v9.heap[u0.heap.size]? = some (.cells #[.slice none 0 0] 76 (0, 0)) := by rw [hU9]; exact heap_alloc_new _ _
      have zp9 : v9.heap.size = u0.heap.size + 1 := by rw [hU9]; simp
      rw [← hU9]
      clear hU9
      have k0_9 := cell_later hb9 k0_0
      have k1_9 := cell_later hb9 k1_0
      have k2_9 := cell_later hb9 k2_0
      have P_9 := P_0.below hb9
      have Y9 := Y0.trans (hb9.mono Y0.size)
      have zz9 := Y9.size
      have zw9 := hb9.size
      refine wpAnyH_ready (rs := [1]) (by kernel_rfl) (by simp) ?_
      refine AllReadyH.cons (o := ?_) ?_ (fun K hK => ?_) AllReadyH.nil
      rotate_left
      · (simp only [List.getElem?_toArray, List.getElem?_cons_zero, List.getElem?_cons_succ]; rfl)
      go_simp
      go_at_call 45
      refine (noughts_any q _ h6).mono ?_
      rintro e v10 ⟨r10, d10, rfl, n10, a10, hb10⟩
      have k0_10 := cell_later hb10 k0_9
      have k1_10 := cell_later hb10 k1_9
      have k2_10 := cell_later hb10 k2_9
      have P_10 := P_9.below hb10
      have Y10 := Y9.trans (hb10.mono Y9.size)
      have zz10 := Y10.size
      have zw10 := hb10.size
      have hp10 := (hb10.block u0.heap.size (Array.getElem?_eq_some_iff.1 hp9).1).trans hp9
      (try go_wp2_with fail)
      refine hK.out _ _ ?_ (fun hHeld' => ?_)
      · (try dsimp only)
        exact ⟨k0_10, k1_10, k2_10⟩
      clear hK K hHeld
      have hHeld := hHeld'
      clear hHeld'
      (try simp only [Act.put, List.setIfInBounds_toArray, List.set_cons_zero, List.set_cons_succ])
      refine wpAnyH_ready (rs := [3]) (by kernel_rfl) (by simp) ?_
      refine AllReadyH.cons (o := ?_) ?_ (fun K hK => ?_) AllReadyH.nil
      rotate_left
      · (simp only [List.getElem?_toArray, List.getElem?_cons_zero, List.getElem?_cons_succ]; rfl)
      go_simp
      go_at_call 45
      refine (noughts_any q' _ h6').mono ?_
      rintro e v11 ⟨r11, d11, rfl, n11, a11, hb11⟩
      have k0_11 := cell_later hb11 k0_10
      have k1_11 := cell_later hb11 k1_10
      have k2_11 := cell_later hb11 k2_10
      have P_11 := P_10.below hb11
      have Y11 := Y10.trans (hb11.mono Y10.size)
      have zz11 := Y11.size
      have zw11 := hb11.size
      have A0_11 := a10.below hb11
      have hp11 := (hb11.block u0.heap.size (Array.getElem?_eq_some_iff.1 hp10).1).trans hp10
      (try go_wp2_with fail)
      refine hK.out _ _ ?_ (fun hHeld' => ?_)
      · (try dsimp only)
        exact ⟨k0_11, k1_11, k2_11⟩
      clear hK K hHeld
      have hHeld := hHeld'
      clear hHeld'
      (try simp only [Act.put, List.setIfInBounds_toArray, List.set_cons_zero, List.set_cons_succ])
      refine wpAnyH_ready (rs := [5]) (by kernel_rfl) (by simp) ?_
      refine AllReadyH.cons (o := ?_) ?_ (fun K hK => ?_) AllReadyH.nil
      rotate_left
      · (simp only [List.getElem?_toArray, List.getElem?_cons_zero, List.getElem?_cons_succ]; rfl)
      go_simp
      go_at_call 44
      refine (implJoinRows _ _ _ _ _ _ (List.replicate q 0) (List.replicate q' 0) _ _ _ ps _ (by simp) (by simp) hzp (by omega) (by omega) (by omega) n10 A0_11 a11 P_11).mono ?_
      rintro e v12 ⟨r12, m12, d12, rfl, hm12, ho12, hb12⟩
      rw [← HOK.out]
      have k0_12 := cell_later hb12 k0_11
      have k1_12 := cell_later hb12 k1_11
      have k2_12 := cell_later hb12 k2_11
      have P_12 := P_11.below hb12
      have Y12 := Y11.trans (hb12.mono Y11.size)
      have zz12 := Y12.size
      have zw12 := hb12.size
      have A0_12 := A0_11.below hb12
      have A1_12 := a11.below hb12
      have hp12 := (hb12.block u0.heap.size (Array.getElem?_eq_some_iff.1 hp11).1).trans hp11
      (try go_wp2_with fail)
      refine hK.out _ _ ?_ (fun hHeld' => ?_)
      · (try dsimp only)
        exact ⟨k0_12, k1_12, k2_12⟩
      clear hK K hHeld
      have hHeld := hHeld'
      clear hHeld'
      (try simp only [Act.put, List.setIfInBounds_toArray, List.set_cons_zero, List.set_cons_succ])
      refine wpAnyH_take (i := 6) (oi := ?_) (v := ?_) ?_ (by kernel_rfl) (by kernel_rfl) (by kernel_rfl) ?_ (Or.inl ⟨?_, ?_⟩) (by assumption) ?_
      rotate_left 2
      · (simp only [List.getElem?_toArray, List.getElem?_cons_zero, List.getElem?_cons_succ]; rfl)
      · exact fun _ _ _ h => h
      · rfl
      · (intro wS hSw; (try dsimp only at hSw); go_simp; (try with_reducible rfl))
      (try simp only [Act.put, List.setIfInBounds_toArray, List.set_cons_zero, List.set_cons_succ])
      refine wpAnyH_take (i := 7) (oi := ?_) (v := ?_) ?_ (by kernel_rfl) (by kernel_rfl) (by kernel_rfl) ?_ (Or.inl ⟨?_, ?_⟩) (by assumption) ?_
      rotate_left 2
      · (simp only [List.getElem?_toArray, List.getElem?_cons_zero, List.getElem?_cons_succ]; rfl)
      · exact fun _ _ _ h => h
      · rfl
      · (intro wS hSw; (try dsimp only at hSw); go_simp; (try with_reducible rfl))
      (try simp only [Act.put, List.setIfInBounds_toArray, List.set_cons_zero, List.set_cons_succ])
      refine wpAnyH_take (i := 8) (oi := ?_) (v := ?_) ?_ (by kernel_rfl) (by kernel_rfl) (by kernel_rfl) ?_ (Or.inl ⟨?_, ?_⟩) (by assumption) ?_
      rotate_left 2
      · (simp only [List.getElem?_toArray, List.getElem?_cons_zero, List.getElem?_cons_succ]; rfl)
      · exact fun _ _ _ h => h
      · rfl
      · (intro wS hSw; (try dsimp only at hSw); go_simp; (try with_reducible rfl))
      (try simp only [Act.put, List.setIfInBounds_toArray, List.set_cons_zero, List.set_cons_succ])
      have g0 : v12.cell? ⟨u0.heap.size, 0, none⟩ = some (.slice none 0 0) := by rw [cell_of_row _ _ 0 _ _ (0, 0) hp12]; rfl
      have g1 : v12.frozen? ⟨u0.heap.size, 0, none⟩ = false := frozen_of_row _ _ 0 _ _ hp12
      have zc := World.block_lt_of_cell? _ _ c0
      have zd := World.block_lt_of_cell? _ _ b0
      have ze := World.block_lt_of_cell? _ _ d0
      simp only at zc zd ze
      refine wpAnyH_ready (rs := [10]) (by kernel_rfl) (by simp) ?_
      refine AllReadyH.cons (o := ?_) ?_ (fun K hK => ?_) AllReadyH.nil
      rotate_left
      · (simp only [List.getElem?_toArray, List.getElem?_cons_zero, List.getElem?_cons_succ]; rfl)
      go_simp
      skip
      (try go_wp2_with fail)
      refine hK.out _ _ ?_ (fun hHeld' => ?_)
      · (try dsimp only)
        exact ⟨keep_far k0_12 (by omega), keep_far k1_12 (by omega), keep_far k2_12 (by omega)⟩
      clear hK K hHeld
      have hHeld := hHeld'
      clear hHeld'
      (try simp only [Act.put, List.setIfInBounds_toArray, List.set_cons_zero, List.set_cons_succ])
      refine wpAnyH_take (i := 11) (oi := ?_) (v := ?_) ?_ (by kernel_rfl) (by kernel_rfl) (by kernel_rfl) ?_ (Or.inl ⟨?_, ?_⟩) (by assumption) ?_
      rotate_left 2
      · (simp only [List.getElem?_toArray, List.getElem?_cons_zero, List.getElem?_cons_succ]; rfl)
      · exact fun _ _ _ h => h
      · rfl
      · (intro wS hSw; (try dsimp only at hSw); go_simp; (try with_reducible rfl))
      (try simp only [Act.put, List.setIfInBounds_toArray, List.set_cons_zero, List.set_cons_succ])
      refine wpAnyH_done (by kernel_rfl) ?_ _
      (try go_wp2_with fail)
      go_meet
      case rel =>
        exact ⟨u0.heap.size, r12, m12, d12, rfl, rfl, cell_set g0 _, hm12, by omega, lt_set g0 _, Y12.setCell (by show W.heap.size ≤ u0.heap.size; omega) _⟩
  case rest =>
    obtain ⟨Pb, rs, ms, ds, rfl, rfl, s4, hms, pl, ph, hb3⟩ := hcut
    obtain ⟨w3, rfl⟩ : ∃ x, x = wc := ⟨_, rfl⟩
    have B3 := B0.trans (hb3.mono B0.size)
    replace c0 := cell_later hb3 c0
    replace b0 := cell_later hb3 b0
    replace d0 := cell_later hb3 d0
    replace HP := HP.below hb3
    clear hb3
    have HOK2 := HOK.out
    cases ok with
    | false =>
      clear HOK2
      go_wp2
      refine bodyPost_ret (v := .tuple #[.nilFunc, .int .i64 0, .bool false]) (by simp [results, Tryz.results26, go_sem]) rfl ⟨B3, .inl ⟨HON.out.symm, rfl⟩⟩
    | true =>
      have hC : ms = joinC q q' ps := by rw [← hms]; exact joinAns_noughts HOK2.symm
      have hp2 : Hid (pairsOk ps q q' = true) := by
        have := HON.out.symm
        simp only [Bool.and_eq_true] at this
        exact this.1
      have hp3 : Hid (pairs2 ps = true) := by
        have := hp2.out
        rw [pairsOk_split] at this
        simp only [Bool.and_eq_true] at this
        exact this.1.1
      clear HOK2 hms
      go_wp2_with (go_at_call 46; refine (sideOf_any _ _ _ ps 1 _ hzp hp3.out (by omega) HP).mono ?_; rintro e w4 ⟨r4, d4, rfl, ho4, hb4⟩; replace c0 := cell_later hb4 c0; replace b0 := cell_later hb4 b0; replace d0 := cell_later hb4 d0; replace s4 := cell_later hb4 s4; replace HP := HP.below hb4; have B4 := B3.trans (hb4.mono B3.size); have HD := At.owned ho4; clear hb4 ho4 B3)
      obtain ⟨V, hV⟩ : ∃ V, V = w4.alloc (.cells #[.slice r4 np d4] 41) := ⟨_, rfl⟩
      rw [← hV]
      have hbV : Below w4.heap.size w4 V := by rw [hV]; exact (Below.refl _ _).alloc (Nat.le_refl _) _
      have g0 : V.cell? ⟨w4.heap.size, 0, none⟩ = some (.slice r4 np d4) := by rw [hV]; simp
      clear hV
      replace c0 := cell_later hbV c0
      replace b0 := cell_later hbV b0
      replace d0 := cell_later hbV d0
      replace s4 := cell_later hbV s4
      replace HP := HP.below hbV
      replace HD := HD.below hbV
      have B5 := B4.trans (hbV.mono B4.size)
      clear hbV B4
      have HM : Hid (MatchAt V (w.heap.size + 1 + 1) w.heap.size (w.heap.size + 1) w4.heap.size q q' ps) := ⟨⟨ap, cp, by rw [hzp]; exact d0, HP⟩, c0, b0, ⟨r4, d4, by rw [hzp]; exact g0, HD⟩⟩
      clear HP HD
      go_quiet (fail)
      go_wp2
      refine bodyPost_ret (v := .tuple #[.func (.func 47) #[] #[.pointer (some ⟨w.heap.size + 1 + 1, 0, none⟩), .pointer (some ⟨w.heap.size, 0, none⟩), .pointer (some ⟨w.heap.size + 1, 0, none⟩), .pointer (some ⟨w4.heap.size, 0, none⟩)], .int .i64 (joinC q q' ps), .bool true]) (by simp [results, Tryz.results26, go_sem]) rfl ⟨below_drewN B5 _, .inr ⟨HON.out.symm, _, _, _, _, rfl, HM.out.below (below_drewN (Below.refl _ _) _)⟩⟩

end Go.Proofs.YtlfljfmhhnoinabGreat

/- Contracts of impl.negated and impl.distinctDelta. -/
namespace Go.Proofs.YtlfljfmhhnoinabGreat
open Go.RowKit Go.Maps

end Go.Proofs.YtlfljfmhhnoinabGreat
