/- Contract of impl.mergingBy. -/
import Derived.Test.YthliamoeplgblaaDoorM4
import Derived.Test.YthliamoeplgblaaDoorM5
import Derived.Deep.CutRange
import Derived.Deep.DeepCutAuto
namespace Go.Proofs.YthliamoeplgblaaDoor
open Go.RowKit

/-- A merging as a value. -/
def mrgV : Option Mrg → Value
  | none => .agg #[.int .i64 0, .int .i64 0, .int .i64 0, .int .i64 0]
  | some m => .agg #[.int .i64 m.1, .int .i64 m.2.1, .int .i64 m.1, .int .i64 m.2.2]
theorem four_below {w : World} {B : Nat} {W : World} {g : Nat} (h : Below B W w) (hg : B ≤ g) (a b c d : Value) : Below B W ((((w.setCell ⟨g, 0, none⟩ a).setCell ⟨g, 1, none⟩ b).setCell ⟨g, 2, none⟩ c).setCell ⟨g, 3, none⟩ d) :=
  (((h.setCell hg _).setCell hg _).setCell hg _).setCell hg _

set_option maxRecDepth 100000 in
set_option maxHeartbeats 8000000 in
theorem mergingBy_any (fa : Option Addr) (fn fc : Nat) (ta : Option Addr) (tn tc : Nat) (fs ts : List Int) (xa : Option Addr) (q xc : Nat) (x : List Int) (ya : Option Addr) (yc : Nat) (y : List Int) (w : World)
    (hfs : fs.length = fn) (hts : ts.length = tn) (hx : x.length = q) (hy : y.length = q) (hq : q ≤ 6) (hof : colsOk fs q = true) (hot : colsOk ts q = true) (haf : At w fa fs) (hat : At w ta ts) (hax : At w xa x) (hay : At w ya y) :
    Calls Tryd.prog 71 #[.agg #[.slice fa fn fc, .slice ta tn tc], .agg #[.slice xa q xc], .agg #[.slice ya q yc]] w fun e w' => e = .returned (.tuple #[mrgV (mrgBy (fs, ts) x y), .bool (mrgBy (fs, ts) x y).isSome]) ∧ Below w.heap.size w w' := by
  have hn6 := colsOk_len hot
  obtain ⟨W, hW⟩ : ∃ W, W = (((w.alloc (.cells #[.slice fa fn fc, .slice ta tn tc] 61)).alloc (.cells #[.slice xa q xc] 47)).alloc (.cells #[.slice ya q yc] 47)).alloc (.cells #[.int .i64 0, .int .i64 0, .int .i64 0, .int .i64 0] 90) := ⟨_, rfl⟩
  have B0 : Below w.heap.size w W := by rw [hW]; exact ((((Below.refl _ _).alloc (Nat.le_refl _) _).alloc (by simp) _).alloc (by simp; omega) _).alloc (by simp; omega) _
  have zW : w.heap.size + 1 + 1 + 1 < W.heap.size := by rw [hW]; simp
  have c0 : W.cell? ⟨w.heap.size, 0, none⟩ = some (.slice fa fn fc) := by rw [hW]; simp [go_sem]
  have c1 : W.cell? ⟨w.heap.size, 1, none⟩ = some (.slice ta tn tc) := by rw [hW]; simp [go_sem]
  have cx : W.cell? ⟨w.heap.size + 1, 0, none⟩ = some (.slice xa q xc) := by rw [hW]; simp [go_sem]
  have cy : W.cell? ⟨w.heap.size + 1 + 1, 0, none⟩ = some (.slice ya q yc) := by rw [hW]; simp [go_sem]
  have q4 : W.heap[w.heap.size + 1 + 1 + 1]? = some (.cells #[.int .i64 0, .int .i64 0, .int .i64 0, .int .i64 0] 90 (0, 0)) := by
    rw [hW]
    have h := heap_alloc_new (((w.alloc (.cells #[.slice fa fn fc, .slice ta tn tc] 61)).alloc (.cells #[.slice xa q xc] 47)).alloc (.cells #[.slice ya q yc] 47)) (.cells #[.int .i64 0, .int .i64 0, .int .i64 0, .int .i64 0] 90)
    simpa only [World.size_alloc] using h
  have HF := Hid.mk (haf.below B0)
  have HT := Hid.mk (hat.below B0)
  have HX := Hid.mk (hax.below B0)
  have HY := Hid.mk (hay.below B0)
  have KS : Hid (Calls Tryd.prog 73 #[.agg #[.slice xa q xc], .agg #[.slice ya q yc], .slice fa fn fc] W fun e w' => e = .returned (.bool (sameC x y fs)) ∧ Below W.heap.size W w') :=
    sameCells_any xa q xc x ya yc y fa fn fc fs W hx hy (by omega) hfs hof HX.out HY.out HF.out
  clear haf hat hax hay
  cases hs : sameC x y fs with
  | false =>
    have HM : Hid (mrgBy (fs, ts) x y = none) := by show _ = _; unfold mrgBy; rw [hs]; rfl
    have HS := Hid.mk hs
    clear hs
    go_enter Tryd.func71, Tryd.ntmps71
    go_wp2_with fail
    rw [← hW]
    clear hW
    refine KS.out.mono ?_
    rintro e w1 ⟨rfl, hb1⟩
    rw [HS.out]
    have B1 := B0.trans (hb1.mono B0.size)
    have q5 := blk_below q4 hb1
    have e0 := blk_cell q5 0 (v := .int .i64 0) rfl
    have e1 := blk_cell q5 1 (v := .int .i64 0) rfl
    have e2 := blk_cell q5 2 (v := .int .i64 0) rfl
    have e3 := blk_cell q5 3 (v := .int .i64 0) rfl
    have f0 := blk_frozen q5 0
    have f1 := blk_frozen q5 1
    have f2 := blk_frozen q5 2
    have f3 := blk_frozen q5 3
    clear q4 q5
    go_wp2
    refine bodyPost_ret (v := .tuple #[.agg #[.int .i64 0, .int .i64 0, .int .i64 0, .int .i64 0], .bool false]) (by simp [results, Tryd.results71, go_sem, e0, e1, e2, e3]) rfl ⟨by rw [HM.out]; rfl, ?_⟩
    exact four_below B1 (by omega) _ _ _ _
  | true =>
  have HM : Hid (mrgBy (fs, ts) x y = mrgTo x y (ts.drop 0)) := by show _ = _; unfold mrgBy; rw [hs]; rfl
  have HS := Hid.mk hs
  obtain ⟨M, hM⟩ : ∃ M, mrgBy (fs, ts) x y = M := ⟨_, rfl⟩
  rw [hM] at HM ⊢
  clear hs hM
  go_enter Tryd.func71, Tryd.ntmps71
  go_wp2_with fail
  rw [← hW]
  clear hW
  refine KS.out.mono ?_
  rintro e w1 ⟨rfl, hb1⟩
  rw [HS.out]
  have B1 := B0.trans (hb1.mono B0.size)
  have z1 := hb1.size
  have d1 := cell_later hb1 c1
  have dx := cell_later hb1 cx
  have dy := cell_later hb1 cy
  have q5 := blk_below q4 hb1
  have HT1 := Hid.mk (HT.out.below hb1)
  have HX1 := Hid.mk (HX.out.below hb1)
  have HY1 := Hid.mk (HY.out.below hb1)
  have zg : w.heap.size + 1 + 1 + 1 < w1.heap.size := by omega
  clear q4 c0 c1 cx cy HT HX HY HF hb1 KS zW z1 B0
  go_wp2_with fail
  go_loopw [22] (fun i wr => ∃ k : Nat, k ≤ tn ∧ i = .int .i64 k ∧ M = mrgTo x y (ts.drop k) ∧ Below w1.heap.size w1 wr) (fun i _ => tn - (intOf i).toNat)
  case atStart => exact ⟨0, Nat.zero_le _, rfl, HM.out, Below.refl _ _⟩
  case round =>
    clear HM
    obtain ⟨k, hk, rfl, hM, hbw⟩ := hrel
    have BW : Below w.heap.size w wr := B1.trans (hbw.mono B1.size)
    have q6 := blk_below q5 hbw
    have zr : w.heap.size + 1 + 1 + 1 < wr.heap.size := by have := hbw.size; omega
    by_cases hlt : k < tn
    · obtain ⟨b, off, rfl, _, hc⟩ := (HT1.out.below hbw).some (by omega)
      have hcx := hc k (by omega)
      have hin := colsOk_at hot k (by omega)
      rw [mrgTo_step (by omega)] at hM
      obtain ⟨v, hv⟩ : ∃ v, ts.getD k 0 = v := ⟨_, rfl⟩
      rw [hv] at hcx hin hM
      have KX : Hid (∀ w', Below wr.heap.size wr w' → Calls Tryd.prog 72 #[.agg #[.slice xa q xc], .int .i64 v] w' fun e w'' => e = .returned (.agg #[.int .i64 v, .int .i64 (x.getD v.toNat 0)]) ∧ Below w'.heap.size w' w'') :=
        fun w' h => symbolAt_any xa q xc x v w' hx (by omega) hin.1 hin.2 ((HX1.out.below hbw).below h)
      have KY : Hid (∀ w', Below wr.heap.size wr w' → Calls Tryd.prog 72 #[.agg #[.slice ya q yc], .int .i64 v] w' fun e w'' => e = .returned (.agg #[.int .i64 v, .int .i64 (y.getD v.toNat 0)]) ∧ Below w'.heap.size w' w'') :=
        fun w' h => symbolAt_any ya q yc y v w' hy (by omega) hin.1 hin.2 ((HY1.out.below hbw).below h)
      obtain ⟨u, hu⟩ : ∃ u, x.getD v.toNat 0 = u := ⟨_, rfl⟩
      obtain ⟨u', hu'⟩ : ∃ u, y.getD v.toNat 0 = u := ⟨_, rfl⟩
      rw [hu] at KX hM
      rw [hu'] at KY hM
      have hki : (k : Int) < (tn : Int) := by omega
      have g0 := cell_later hbw dx
      have g1 := cell_later hbw dy
      have HM := Hid.mk hM
      clear hM hc hu hu' hv hin dx dy d1
      go_upto_region 6 with fail
      go_cut [10, 11] from 24 to 45 (fun ta tb wx => ∃ (Pa Pb : Nat), ta = .pointer (some ⟨Pa, 0, none⟩) ∧ tb = .pointer (some ⟨Pb, 0, none⟩) ∧ wx.heap[Pa]? = some (.cells #[.int .i64 v, .int .i64 u] 88 (0, 0)) ∧ wx.heap[Pb]? = some (.cells #[.int .i64 v, .int .i64 u'] 88 (0, 0)) ∧ Pa ≠ Pb ∧ wr.heap.size ≤ Pa ∧ wr.heap.size ≤ Pb ∧ Below wr.heap.size wr wx)
      case first =>
        refine wp_region_held_drew (S := fun w' => w'.cell? ⟨w.heap.size + 1, 0, none⟩ = some (.slice xa q xc) ∧ w'.cell? ⟨w.heap.size + 1 + 1, 0, none⟩ = some (.slice ya q yc)) (by kernel_rfl) ?_ (fun hHeld => ?_)
        · (try dsimp only)
          exact ⟨g0, g1⟩
        refine wpAnyH_take (i := 0) (oi := ?_) (v := ?_) ?_ (by kernel_rfl) (by kernel_rfl) (by kernel_rfl) ?_ (Or.inl ⟨?_, ?_⟩) (by assumption) ?_
        rotate_left 2
        · (simp only [List.getElem?_toArray, List.getElem?_cons_zero]; rfl)
        · exact fun _ _ _ h => h
        · rfl
        · (intro wS hSw; (try dsimp only at hSw); go_simp; (try with_reducible rfl))
        (try simp only [Act.put, List.setIfInBounds_toArray, List.set_cons_zero, List.set_cons_succ])
        refine wpAnyH_take (i := 1) (oi := ?_) (v := ?_) ?_ (by kernel_rfl) (by kernel_rfl) (by kernel_rfl) ?_ (Or.inl ⟨?_, ?_⟩) (by assumption) ?_
        rotate_left 2
        · (simp only [List.getElem?_toArray, List.getElem?_cons_zero, List.getElem?_cons_succ]; rfl)
        · exact fun _ _ _ h => h
        · rfl
        · (intro wS hSw; (try dsimp only at hSw); go_simp; (try with_reducible rfl))
        (try simp only [Act.put, List.setIfInBounds_toArray, List.set_cons_zero, List.set_cons_succ])
        refine wpAnyH_take (i := 3) (oi := ?_) (v := ?_) ?_ (by kernel_rfl) (by kernel_rfl) (by kernel_rfl) ?_ (Or.inl ⟨?_, ?_⟩) (by assumption) ?_
        rotate_left 2
        · (simp only [List.getElem?_toArray, List.getElem?_cons_zero, List.getElem?_cons_succ]; rfl)
        · exact fun _ _ _ h => h
        · rfl
        · (intro wS hSw; (try dsimp only at hSw); go_simp; (try with_reducible rfl))
        (try simp only [Act.put, List.setIfInBounds_toArray, List.set_cons_zero, List.set_cons_succ])
        refine wpAnyH_take (i := 4) (oi := ?_) (v := ?_) ?_ (by kernel_rfl) (by kernel_rfl) (by kernel_rfl) ?_ (Or.inl ⟨?_, ?_⟩) (by assumption) ?_
        rotate_left 2
        · (simp only [List.getElem?_toArray, List.getElem?_cons_zero, List.getElem?_cons_succ]; rfl)
        · exact fun _ _ _ h => h
        · rfl
        · (intro wS hSw; (try dsimp only at hSw); go_simp; (try with_reducible rfl))
        (try simp only [Act.put, List.setIfInBounds_toArray, List.set_cons_zero, List.set_cons_succ])
        obtain ⟨u0, hu0⟩ : ∃ u, u = wr.drew := ⟨_, rfl⟩
        have Y0 : Below wr.heap.size wr u0 := by rw [hu0]; exact (Below.refl _ _).drew
        rw [← hu0]
        clear hu0
        have k0_0 := cell_later Y0 g0
        have k1_0 := cell_later Y0 g1
        refine wpAnyH_ready (rs := [2, 6, 7]) (by kernel_rfl) (by simp) ?_
        refine AllReadyH.cons (o := ?_) ?_ (fun K hK => ?_) ?_
        rotate_left
        · (simp only [List.getElem?_toArray, List.getElem?_cons_zero, List.getElem?_cons_succ]; rfl)
        · go_simp
          go_at_call 72
          refine (KX.out _ Y0).mono ?_
          rintro e v1 ⟨rfl, hb1⟩
          have k0_1 := cell_later hb1 k0_0
          have k1_1 := cell_later hb1 k1_0
          have Y1 := Y0.trans (hb1.mono Y0.size)
          clear hb1
          (try go_wp2_with fail)
          refine hK.out _ _ ?_ (fun hHeld' => ?_)
          · (try dsimp only)
            exact ⟨k0_1, k1_1⟩
          clear hK K hHeld
          have hHeld := hHeld'
          clear hHeld'
          (try simp only [Act.put, List.setIfInBounds_toArray, List.set_cons_zero, List.set_cons_succ])
          refine wpAnyH_ready (rs := [5, 6, 7]) (by kernel_rfl) (by simp) ?_
          refine AllReadyH.cons (o := ?_) ?_ (fun K hK => ?_) ?_
          rotate_left
          · (simp only [List.getElem?_toArray, List.getElem?_cons_zero, List.getElem?_cons_succ]; rfl)
          · go_simp
            go_at_call 72
            refine (KY.out _ Y1).mono ?_
            rintro e v2 ⟨rfl, hb2⟩
            have k0_2 := cell_later hb2 k0_1
            have k1_2 := cell_later hb2 k1_1
            have Y2 := Y1.trans (hb2.mono Y1.size)
            clear hb2
            (try go_wp2_with fail)
            refine hK.out _ _ ?_ (fun hHeld' => ?_)
            · (try dsimp only)
              exact ⟨k0_2, k1_2⟩
            clear hK K hHeld
            have hHeld := hHeld'
            clear hHeld'
            (try simp only [Act.put, List.setIfInBounds_toArray, List.set_cons_zero, List.set_cons_succ])
            refine wpAnyH_ready (rs := [6, 7]) (by kernel_rfl) (by simp) ?_
            refine AllReadyH.cons (o := ?_) ?_ (fun K hK => ?_) ?_
            rotate_left
            · (simp only [List.getElem?_toArray, List.getElem?_cons_zero, List.getElem?_cons_succ]; rfl)
            · go_simp
              (try go_wp2_with fail)
              refine hK.out _ _ ?_ (fun hHeld' => ?_)
              · (try dsimp only)
                exact ⟨cell_later ((Below.refl _ _).alloc (Nat.le_refl _) _) k0_2, cell_later ((Below.refl _ _).alloc (Nat.le_refl _) _) k1_2⟩
              clear hK K hHeld
              have hHeld := hHeld'
              clear hHeld'
              (try simp only [Act.put, List.setIfInBounds_toArray, List.set_cons_zero, List.set_cons_succ])
              obtain ⟨v3, hU3⟩ : ∃ u, u = v2.alloc (.cells #[.int .i64 0, .int .i64 0] 88) := ⟨_, rfl⟩
              have hb3 : Below v2.heap.size v2 v3 := by rw [hU3]; exact (Below.refl _ _).alloc (Nat.le_refl _) _
              have n3 : v3.heap[v2.heap.size]? = some (.cells #[.int .i64 0, .int .i64 0] 88 (0, 0)) := by rw [hU3]; exact heap_alloc_new _ _
              rw [← hU3]
              clear hU3
              have k0_3 := cell_later hb3 k0_2
              have k1_3 := cell_later hb3 k1_2
              have Y3 := Y2.trans (hb3.mono Y2.size)
              clear hb3
              refine wpAnyH_ready (rs := [7]) (by kernel_rfl) (by simp) ?_
              refine AllReadyH.cons (o := ?_) ?_ (fun K hK => ?_) AllReadyH.nil
              rotate_left
              · (simp only [List.getElem?_toArray, List.getElem?_cons_zero, List.getElem?_cons_succ]; rfl)
              go_simp
              (try go_wp2_with fail)
              refine hK.out _ _ ?_ (fun hHeld' => ?_)
              · (try dsimp only)
                exact ⟨cell_later ((Below.refl _ _).alloc (Nat.le_refl _) _) k0_3, cell_later ((Below.refl _ _).alloc (Nat.le_refl _) _) k1_3⟩
              clear hK K hHeld
              have hHeld := hHeld'
              clear hHeld'
              (try simp only [Act.put, List.setIfInBounds_toArray, List.set_cons_zero, List.set_cons_succ])
              obtain ⟨v4, hU4⟩ : ∃ u, u = v3.alloc (.cells #[.int .i64 0, .int .i64 0] 88) := ⟨_, rfl⟩
              have hb4 : Below v3.heap.size v3 v4 := by rw [hU4]; exact (Below.refl _ _).alloc (Nat.le_refl _) _
              have n4 : v4.heap[v3.heap.size]? = some (.cells #[.int .i64 0, .int .i64 0] 88 (0, 0)) := by rw [hU4]; exact heap_alloc_new _ _
              rw [← hU4]
              clear hU4
              have nlt := (Array.getElem?_eq_some_iff.1 n3).1
              have k0_4 := cell_later hb4 k0_3
              have k1_4 := cell_later hb4 k1_3
              have Y4 := Y3.trans (hb4.mono Y3.size)
              have p6_4 := (hb4.block (v2.heap.size) (Array.getElem?_eq_some_iff.1 n3).1).trans n3
              clear hb4
              have e60 := blk_cell p6_4 0 (v := .int .i64 0) rfl
              have e61 := blk_cell p6_4 1 (v := .int .i64 0) rfl
              have g60 := blk_frozen p6_4 0
              have g61 := blk_frozen p6_4 1
              have lt6 : wr.heap.size ≤ v2.heap.size := Y2.size
              have lt7 : wr.heap.size ≤ v3.heap.size := Y3.size
              have m7 : ((v4.setCell ⟨v2.heap.size, 0, none⟩ (.int .i64 v)).setCell ⟨v2.heap.size, 1, none⟩ (.int .i64 u)).heap[v3.heap.size]? = some (.cells #[.int .i64 0, .int .i64 0] 88 (0, 0)) := blk_other (a := ⟨v2.heap.size, 1, none⟩) (blk_other (a := ⟨v2.heap.size, 0, none⟩) n4 (Nat.ne_of_gt nlt) _) (Nat.ne_of_gt nlt) _
              have e70 := blk_cell m7 0 (v := .int .i64 0) rfl
              have e71 := blk_cell m7 1 (v := .int .i64 0) rfl
              have g70 := blk_frozen m7 0
              have g71 := blk_frozen m7 1
              refine wpAnyH_ready (rs := [8]) (by kernel_rfl) (by simp) ?_
              refine AllReadyH.cons (o := ?_) ?_ (fun K hK => ?_) AllReadyH.nil
              rotate_left
              · (simp only [List.getElem?_toArray, List.getElem?_cons_zero, List.getElem?_cons_succ]; rfl)
              go_simp
              skip
              (try go_wp2_with fail)
              refine hK.out _ _ ?_ (fun hHeld' => ?_)
              · (try dsimp only)
                exact ⟨(keep_far (keep_far k0_4 (by omega)) (by omega)), (keep_far (keep_far k1_4 (by omega)) (by omega))⟩
              clear hK K hHeld
              have hHeld := hHeld'
              clear hHeld'
              (try simp only [Act.put, List.setIfInBounds_toArray, List.set_cons_zero, List.set_cons_succ])
              refine wpAnyH_ready (rs := [9]) (by kernel_rfl) (by simp) ?_
              refine AllReadyH.cons (o := ?_) ?_ (fun K hK => ?_) AllReadyH.nil
              rotate_left
              · (simp only [List.getElem?_toArray, List.getElem?_cons_zero, List.getElem?_cons_succ]; rfl)
              go_simp
              skip
              (try go_wp2_with fail)
              refine hK.out _ _ ?_ (fun hHeld' => ?_)
              · (try dsimp only)
                exact ⟨(keep_far (keep_far (keep_far (keep_far k0_4 (by omega)) (by omega)) (by omega)) (by omega)), (keep_far (keep_far (keep_far (keep_far k1_4 (by omega)) (by omega)) (by omega)) (by omega))⟩
              clear hK K hHeld
              have hHeld := hHeld'
              clear hHeld'
              (try simp only [Act.put, List.setIfInBounds_toArray, List.set_cons_zero, List.set_cons_succ])
              refine wpAnyH_done (by kernel_rfl) ?_ _
              (try go_wp2_with fail)
              go_meet
              case rel =>
                exact ⟨v2.heap.size, v3.heap.size, rfl, rfl, blk_other (a := ⟨v3.heap.size, 1, none⟩) (blk_other (a := ⟨v3.heap.size, 0, none⟩) (blk_set (blk_set p6_4 0 _) 1 _) (Nat.ne_of_lt nlt) _) (Nat.ne_of_lt nlt) _, blk_set (blk_set m7 0 _) 1 _, (Nat.ne_of_lt nlt), lt6, lt7, (((Y4.setCell lt6 _).setCell lt6 _).setCell lt7 _).setCell lt7 _⟩
            refine AllReadyH.cons (o := ?_) ?_ (fun K hK => ?_) AllReadyH.nil
            rotate_left
            · (simp only [List.getElem?_toArray, List.getElem?_cons_zero, List.getElem?_cons_succ]; rfl)
            · go_simp
              (try go_wp2_with fail)
              refine hK.out _ _ ?_ (fun hHeld' => ?_)
              · (try dsimp only)
                exact ⟨cell_later ((Below.refl _ _).alloc (Nat.le_refl _) _) k0_2, cell_later ((Below.refl _ _).alloc (Nat.le_refl _) _) k1_2⟩
              clear hK K hHeld
              have hHeld := hHeld'
              clear hHeld'
              (try simp only [Act.put, List.setIfInBounds_toArray, List.set_cons_zero, List.set_cons_succ])
              obtain ⟨v5, hU5⟩ : ∃ u, u = v2.alloc (.cells #[.int .i64 0, .int .i64 0] 88) := ⟨_, rfl⟩
              have hb5 : Below v2.heap.size v2 v5 := by rw [hU5]; exact (Below.refl _ _).alloc (Nat.le_refl _) _
              have n5 : v5.heap[v2.heap.size]? = some (.cells #[.int .i64 0, .int .i64 0] 88 (0, 0)) := by rw [hU5]; exact heap_alloc_new _ _
              rw [← hU5]
              clear hU5
              have k0_5 := cell_later hb5 k0_2
              have k1_5 := cell_later hb5 k1_2
              have Y5 := Y2.trans (hb5.mono Y2.size)
              clear hb5
              refine wpAnyH_ready (rs := [6]) (by kernel_rfl) (by simp) ?_
              refine AllReadyH.cons (o := ?_) ?_ (fun K hK => ?_) AllReadyH.nil
              rotate_left
              · (simp only [List.getElem?_toArray, List.getElem?_cons_zero, List.getElem?_cons_succ]; rfl)
              go_simp
              (try go_wp2_with fail)
              refine hK.out _ _ ?_ (fun hHeld' => ?_)
              · (try dsimp only)
                exact ⟨cell_later ((Below.refl _ _).alloc (Nat.le_refl _) _) k0_5, cell_later ((Below.refl _ _).alloc (Nat.le_refl _) _) k1_5⟩
              clear hK K hHeld
              have hHeld := hHeld'
              clear hHeld'
              (try simp only [Act.put, List.setIfInBounds_toArray, List.set_cons_zero, List.set_cons_succ])
              obtain ⟨v6, hU6⟩ : ∃ u, u = v5.alloc (.cells #[.int .i64 0, .int .i64 0] 88) := ⟨_, rfl⟩
              have hb6 : Below v5.heap.size v5 v6 := by rw [hU6]; exact (Below.refl _ _).alloc (Nat.le_refl _) _
              have n6 : v6.heap[v5.heap.size]? = some (.cells #[.int .i64 0, .int .i64 0] 88 (0, 0)) := by rw [hU6]; exact heap_alloc_new _ _
              rw [← hU6]
              clear hU6
              have nlt := (Array.getElem?_eq_some_iff.1 n5).1
              have k0_6 := cell_later hb6 k0_5
              have k1_6 := cell_later hb6 k1_5
              have Y6 := Y5.trans (hb6.mono Y5.size)
              have p7_6 := (hb6.block (v2.heap.size) (Array.getElem?_eq_some_iff.1 n5).1).trans n5
              clear hb6
              have e60 := blk_cell n6 0 (v := .int .i64 0) rfl
              have e61 := blk_cell n6 1 (v := .int .i64 0) rfl
              have g60 := blk_frozen n6 0
              have g61 := blk_frozen n6 1
              have lt6 : wr.heap.size ≤ v5.heap.size := Y5.size
              have lt7 : wr.heap.size ≤ v2.heap.size := Y2.size
              have m7 : ((v6.setCell ⟨v5.heap.size, 0, none⟩ (.int .i64 v)).setCell ⟨v5.heap.size, 1, none⟩ (.int .i64 u)).heap[v2.heap.size]? = some (.cells #[.int .i64 0, .int .i64 0] 88 (0, 0)) := blk_other (a := ⟨v5.heap.size, 1, none⟩) (blk_other (a := ⟨v5.heap.size, 0, none⟩) p7_6 (Nat.ne_of_lt nlt) _) (Nat.ne_of_lt nlt) _
              have e70 := blk_cell m7 0 (v := .int .i64 0) rfl
              have e71 := blk_cell m7 1 (v := .int .i64 0) rfl
              have g70 := blk_frozen m7 0
              have g71 := blk_frozen m7 1
              refine wpAnyH_ready (rs := [8]) (by kernel_rfl) (by simp) ?_
              refine AllReadyH.cons (o := ?_) ?_ (fun K hK => ?_) AllReadyH.nil
              rotate_left
              · (simp only [List.getElem?_toArray, List.getElem?_cons_zero, List.getElem?_cons_succ]; rfl)
              go_simp
              skip
              (try go_wp2_with fail)
              refine hK.out _ _ ?_ (fun hHeld' => ?_)
              · (try dsimp only)
                exact ⟨(keep_far (keep_far k0_6 (by omega)) (by omega)), (keep_far (keep_far k1_6 (by omega)) (by omega))⟩
              clear hK K hHeld
              have hHeld := hHeld'
              clear hHeld'
              (try simp only [Act.put, List.setIfInBounds_toArray, List.set_cons_zero, List.set_cons_succ])
              refine wpAnyH_ready (rs := [9]) (by kernel_rfl) (by simp) ?_
              refine AllReadyH.cons (o := ?_) ?_ (fun K hK => ?_) AllReadyH.nil
              rotate_left
              · (simp only [List.getElem?_toArray, List.getElem?_cons_zero, List.getElem?_cons_succ]; rfl)
              go_simp
              skip
              (try go_wp2_with fail)
              refine hK.out _ _ ?_ (fun hHeld' => ?_)
              · (try dsimp only)
                exact ⟨(keep_far (keep_far (keep_far (keep_far k0_6 (by omega)) (by omega)) (by omega)) (by omega)), (keep_far (keep_far (keep_far (keep_far k1_6 (by omega)) (by omega)) (by omega)) (by omega))⟩
              clear hK K hHeld
              have hHeld := hHeld'
              clear hHeld'
              (try simp only [Act.put, List.setIfInBounds_toArray, List.set_cons_zero, List.set_cons_succ])
              refine wpAnyH_done (by kernel_rfl) ?_ _
              (try go_wp2_with fail)
              go_meet
              case rel =>
                exact ⟨v5.heap.size, v2.heap.size, rfl, rfl, blk_other (a := ⟨v2.heap.size, 1, none⟩) (blk_other (a := ⟨v2.heap.size, 0, none⟩) (blk_set (blk_set n6 0 _) 1 _) (Nat.ne_of_gt nlt) _) (Nat.ne_of_gt nlt) _, blk_set (blk_set m7 0 _) 1 _, (Nat.ne_of_gt nlt), lt6, lt7, (((Y6.setCell lt6 _).setCell lt6 _).setCell lt7 _).setCell lt7 _⟩
          refine AllReadyH.cons (o := ?_) ?_ (fun K hK => ?_) ?_
          rotate_left
          · (simp only [List.getElem?_toArray, List.getElem?_cons_zero, List.getElem?_cons_succ]; rfl)
          · go_simp
            (try go_wp2_with fail)
            refine hK.out _ _ ?_ (fun hHeld' => ?_)
            · (try dsimp only)
              exact ⟨cell_later ((Below.refl _ _).alloc (Nat.le_refl _) _) k0_1, cell_later ((Below.refl _ _).alloc (Nat.le_refl _) _) k1_1⟩
            clear hK K hHeld
            have hHeld := hHeld'
            clear hHeld'
            (try simp only [Act.put, List.setIfInBounds_toArray, List.set_cons_zero, List.set_cons_succ])
            obtain ⟨v7, hU7⟩ : ∃ u, u = v1.alloc (.cells #[.int .i64 0, .int .i64 0] 88) := ⟨_, rfl⟩
            have hb7 : Below v1.heap.size v1 v7 := by rw [hU7]; exact (Below.refl _ _).alloc (Nat.le_refl _) _
            have n7 : v7.heap[v1.heap.size]? = some (.cells #[.int .i64 0, .int .i64 0] 88 (0, 0)) := by rw [hU7]; exact heap_alloc_new _ _
            rw [← hU7]
            clear hU7
            have k0_7 := cell_later hb7 k0_1
            have k1_7 := cell_later hb7 k1_1
            have Y7 := Y1.trans (hb7.mono Y1.size)
            clear hb7
            refine wpAnyH_ready (rs := [5, 7]) (by kernel_rfl) (by simp) ?_
            refine AllReadyH.cons (o := ?_) ?_ (fun K hK => ?_) ?_
            rotate_left
            · (simp only [List.getElem?_toArray, List.getElem?_cons_zero, List.getElem?_cons_succ]; rfl)
            · go_simp
              go_at_call 72
              refine (KY.out _ Y7).mono ?_
              rintro e v8 ⟨rfl, hb8⟩
              have k0_8 := cell_later hb8 k0_7
              have k1_8 := cell_later hb8 k1_7
              have Y8 := Y7.trans (hb8.mono Y7.size)
              have p6_8 := (hb8.block (v1.heap.size) (Array.getElem?_eq_some_iff.1 n7).1).trans n7
              clear hb8
              (try go_wp2_with fail)
              refine hK.out _ _ ?_ (fun hHeld' => ?_)
              · (try dsimp only)
                exact ⟨k0_8, k1_8⟩
              clear hK K hHeld
              have hHeld := hHeld'
              clear hHeld'
              (try simp only [Act.put, List.setIfInBounds_toArray, List.set_cons_zero, List.set_cons_succ])
              refine wpAnyH_ready (rs := [7]) (by kernel_rfl) (by simp) ?_
              refine AllReadyH.cons (o := ?_) ?_ (fun K hK => ?_) AllReadyH.nil
              rotate_left
              · (simp only [List.getElem?_toArray, List.getElem?_cons_zero, List.getElem?_cons_succ]; rfl)
              go_simp
              (try go_wp2_with fail)
              refine hK.out _ _ ?_ (fun hHeld' => ?_)
              · (try dsimp only)
                exact ⟨cell_later ((Below.refl _ _).alloc (Nat.le_refl _) _) k0_8, cell_later ((Below.refl _ _).alloc (Nat.le_refl _) _) k1_8⟩
              clear hK K hHeld
              have hHeld := hHeld'
              clear hHeld'
              (try simp only [Act.put, List.setIfInBounds_toArray, List.set_cons_zero, List.set_cons_succ])
              obtain ⟨v9, hU9⟩ : ∃ u, u = v8.alloc (.cells #[.int .i64 0, .int .i64 0] 88) := ⟨_, rfl⟩
              have hb9 : Below v8.heap.size v8 v9 := by rw [hU9]; exact (Below.refl _ _).alloc (Nat.le_refl _) _
              have n9 : v9.heap[v8.heap.size]? = some (.cells #[.int .i64 0, .int .i64 0] 88 (0, 0)) := by rw [hU9]; exact heap_alloc_new _ _
              rw [← hU9]
              clear hU9
              have nlt := (Array.getElem?_eq_some_iff.1 p6_8).1
              have k0_9 := cell_later hb9 k0_8
              have k1_9 := cell_later hb9 k1_8
              have Y9 := Y8.trans (hb9.mono Y8.size)
              have p6_9 := (hb9.block (v1.heap.size) (Array.getElem?_eq_some_iff.1 p6_8).1).trans p6_8
              clear hb9
              have e60 := blk_cell p6_9 0 (v := .int .i64 0) rfl
              have e61 := blk_cell p6_9 1 (v := .int .i64 0) rfl
              have g60 := blk_frozen p6_9 0
              have g61 := blk_frozen p6_9 1
              have lt6 : wr.heap.size ≤ v1.heap.size := Y1.size
              have lt7 : wr.heap.size ≤ v8.heap.size := Y8.size
              have m7 : ((v9.setCell ⟨v1.heap.size, 0, none⟩ (.int .i64 v)).setCell ⟨v1.heap.size, 1, none⟩ (.int .i64 u)).heap[v8.heap.size]? = some (.cells #[.int .i64 0, .int .i64 0] 88 (0, 0)) := blk_other (a := ⟨v1.heap.size, 1, none⟩) (blk_other (a := ⟨v1.heap.size, 0, none⟩) n9 (Nat.ne_of_gt nlt) _) (Nat.ne_of_gt nlt) _
              have e70 := blk_cell m7 0 (v := .int .i64 0) rfl
              have e71 := blk_cell m7 1 (v := .int .i64 0) rfl
              have g70 := blk_frozen m7 0
              have g71 := blk_frozen m7 1
              refine wpAnyH_ready (rs := [8]) (by kernel_rfl) (by simp) ?_
              refine AllReadyH.cons (o := ?_) ?_ (fun K hK => ?_) AllReadyH.nil
              rotate_left
              · (simp only [List.getElem?_toArray, List.getElem?_cons_zero, List.getElem?_cons_succ]; rfl)
              go_simp
              skip
              (try go_wp2_with fail)
              refine hK.out _ _ ?_ (fun hHeld' => ?_)
              · (try dsimp only)
                exact ⟨(keep_far (keep_far k0_9 (by omega)) (by omega)), (keep_far (keep_far k1_9 (by omega)) (by omega))⟩
              clear hK K hHeld
              have hHeld := hHeld'
              clear hHeld'
              (try simp only [Act.put, List.setIfInBounds_toArray, List.set_cons_zero, List.set_cons_succ])
              refine wpAnyH_ready (rs := [9]) (by kernel_rfl) (by simp) ?_
              refine AllReadyH.cons (o := ?_) ?_ (fun K hK => ?_) AllReadyH.nil
              rotate_left
              · (simp only [List.getElem?_toArray, List.getElem?_cons_zero, List.getElem?_cons_succ]; rfl)
              go_simp
              skip
              (try go_wp2_with fail)
              refine hK.out _ _ ?_ (fun hHeld' => ?_)
              · (try dsimp only)
                exact ⟨(keep_far (keep_far (keep_far (keep_far k0_9 (by omega)) (by omega)) (by omega)) (by omega)), (keep_far (keep_far (keep_far (keep_far k1_9 (by omega)) (by omega)) (by omega)) (by omega))⟩
              clear hK K hHeld
              have hHeld := hHeld'
              clear hHeld'
              (try simp only [Act.put, List.setIfInBounds_toArray, List.set_cons_zero, List.set_cons_succ])
              refine wpAnyH_done (by kernel_rfl) ?_ _
              (try go_wp2_with fail)
              go_meet
              case rel =>
                exact ⟨v1.heap.size, v8.heap.size, rfl, rfl, blk_other (a := ⟨v8.heap.size, 1, none⟩) (blk_other (a := ⟨v8.heap.size, 0, none⟩) (blk_set (blk_set p6_9 0 _) 1 _) (Nat.ne_of_lt nlt) _) (Nat.ne_of_lt nlt) _, blk_set (blk_set m7 0 _) 1 _, (Nat.ne_of_lt nlt), lt6, lt7, (((Y9.setCell lt6 _).setCell lt6 _).setCell lt7 _).setCell lt7 _⟩
            refine AllReadyH.cons (o := ?_) ?_ (fun K hK => ?_) AllReadyH.nil
            rotate_left
            · (simp only [List.getElem?_toArray, List.getElem?_cons_zero, List.getElem?_cons_succ]; rfl)
            · go_simp
              (try go_wp2_with fail)
              refine hK.out _ _ ?_ (fun hHeld' => ?_)
              · (try dsimp only)
                exact ⟨cell_later ((Below.refl _ _).alloc (Nat.le_refl _) _) k0_7, cell_later ((Below.refl _ _).alloc (Nat.le_refl _) _) k1_7⟩
              clear hK K hHeld
              have hHeld := hHeld'
              clear hHeld'
              (try simp only [Act.put, List.setIfInBounds_toArray, List.set_cons_zero, List.set_cons_succ])
              obtain ⟨v10, hU10⟩ : ∃ u, u = v7.alloc (.cells #[.int .i64 0, .int .i64 0] 88) := ⟨_, rfl⟩
              have hb10 : Below v7.heap.size v7 v10 := by rw [hU10]; exact (Below.refl _ _).alloc (Nat.le_refl _) _
              have n10 : v10.heap[v7.heap.size]? = some (.cells #[.int .i64 0, .int .i64 0] 88 (0, 0)) := by rw [hU10]; exact heap_alloc_new _ _
              rw [← hU10]
              clear hU10
              have nlt := (Array.getElem?_eq_some_iff.1 n7).1
              have k0_10 := cell_later hb10 k0_7
              have k1_10 := cell_later hb10 k1_7
              have Y10 := Y7.trans (hb10.mono Y7.size)
              have p6_10 := (hb10.block (v1.heap.size) (Array.getElem?_eq_some_iff.1 n7).1).trans n7
              clear hb10
              refine wpAnyH_ready (rs := [5]) (by kernel_rfl) (by simp) ?_
              refine AllReadyH.cons (o := ?_) ?_ (fun K hK => ?_) AllReadyH.nil
              rotate_left
              · (simp only [List.getElem?_toArray, List.getElem?_cons_zero, List.getElem?_cons_succ]; rfl)
              go_simp
              go_at_call 72
              refine (KY.out _ Y10).mono ?_
              rintro e v11 ⟨rfl, hb11⟩
              have k0_11 := cell_later hb11 k0_10
              have k1_11 := cell_later hb11 k1_10
              have Y11 := Y10.trans (hb11.mono Y10.size)
              have p6_11 := (hb11.block (v1.heap.size) (Array.getElem?_eq_some_iff.1 p6_10).1).trans p6_10
              have p7_11 := (hb11.block (v7.heap.size) (Array.getElem?_eq_some_iff.1 n10).1).trans n10
              clear hb11
              (try go_wp2_with fail)
              refine hK.out _ _ ?_ (fun hHeld' => ?_)
              · (try dsimp only)
                exact ⟨k0_11, k1_11⟩
              clear hK K hHeld
              have hHeld := hHeld'
              clear hHeld'
              (try simp only [Act.put, List.setIfInBounds_toArray, List.set_cons_zero, List.set_cons_succ])
              have e60 := blk_cell p6_11 0 (v := .int .i64 0) rfl
              have e61 := blk_cell p6_11 1 (v := .int .i64 0) rfl
              have g60 := blk_frozen p6_11 0
              have g61 := blk_frozen p6_11 1
              have lt6 : wr.heap.size ≤ v1.heap.size := Y1.size
              have lt7 : wr.heap.size ≤ v7.heap.size := Y7.size
              have m7 : ((v11.setCell ⟨v1.heap.size, 0, none⟩ (.int .i64 v)).setCell ⟨v1.heap.size, 1, none⟩ (.int .i64 u)).heap[v7.heap.size]? = some (.cells #[.int .i64 0, .int .i64 0] 88 (0, 0)) := blk_other (a := ⟨v1.heap.size, 1, none⟩) (blk_other (a := ⟨v1.heap.size, 0, none⟩) p7_11 (Nat.ne_of_gt nlt) _) (Nat.ne_of_gt nlt) _
              have e70 := blk_cell m7 0 (v := .int .i64 0) rfl
              have e71 := blk_cell m7 1 (v := .int .i64 0) rfl
              have g70 := blk_frozen m7 0
              have g71 := blk_frozen m7 1
              refine wpAnyH_ready (rs := [8]) (by kernel_rfl) (by simp) ?_
              refine AllReadyH.cons (o := ?_) ?_ (fun K hK => ?_) AllReadyH.nil
              rotate_left
              · (simp only [List.getElem?_toArray, List.getElem?_cons_zero, List.getElem?_cons_succ]; rfl)
              go_simp
              skip
              (try go_wp2_with fail)
              refine hK.out _ _ ?_ (fun hHeld' => ?_)
              · (try dsimp only)
                exact ⟨(keep_far (keep_far k0_11 (by omega)) (by omega)), (keep_far (keep_far k1_11 (by omega)) (by omega))⟩
              clear hK K hHeld
              have hHeld := hHeld'
              clear hHeld'
              (try simp only [Act.put, List.setIfInBounds_toArray, List.set_cons_zero, List.set_cons_succ])
              refine wpAnyH_ready (rs := [9]) (by kernel_rfl) (by simp) ?_
              refine AllReadyH.cons (o := ?_) ?_ (fun K hK => ?_) AllReadyH.nil
              rotate_left
              · (simp only [List.getElem?_toArray, List.getElem?_cons_zero, List.getElem?_cons_succ]; rfl)
              go_simp
              skip
              (try go_wp2_with fail)
              refine hK.out _ _ ?_ (fun hHeld' => ?_)
              · (try dsimp only)
                exact ⟨(keep_far (keep_far (keep_far (keep_far k0_11 (by omega)) (by omega)) (by omega)) (by omega)), (keep_far (keep_far (keep_far (keep_far k1_11 (by omega)) (by omega)) (by omega)) (by omega))⟩
              clear hK K hHeld
              have hHeld := hHeld'
              clear hHeld'
              (try simp only [Act.put, List.setIfInBounds_toArray, List.set_cons_zero, List.set_cons_succ])
              refine wpAnyH_done (by kernel_rfl) ?_ _
              (try go_wp2_with fail)
              go_meet
              case rel =>
                exact ⟨v1.heap.size, v7.heap.size, rfl, rfl, blk_other (a := ⟨v7.heap.size, 1, none⟩) (blk_other (a := ⟨v7.heap.size, 0, none⟩) (blk_set (blk_set p6_11 0 _) 1 _) (Nat.ne_of_lt nlt) _) (Nat.ne_of_lt nlt) _, blk_set (blk_set m7 0 _) 1 _, (Nat.ne_of_lt nlt), lt6, lt7, (((Y11.setCell lt6 _).setCell lt6 _).setCell lt7 _).setCell lt7 _⟩
          refine AllReadyH.cons (o := ?_) ?_ (fun K hK => ?_) AllReadyH.nil
          rotate_left
          · (simp only [List.getElem?_toArray, List.getElem?_cons_zero, List.getElem?_cons_succ]; rfl)
          · go_simp
            (try go_wp2_with fail)
            refine hK.out _ _ ?_ (fun hHeld' => ?_)
            · (try dsimp only)
              exact ⟨cell_later ((Below.refl _ _).alloc (Nat.le_refl _) _) k0_1, cell_later ((Below.refl _ _).alloc (Nat.le_refl _) _) k1_1⟩
            clear hK K hHeld
            have hHeld := hHeld'
            clear hHeld'
            (try simp only [Act.put, List.setIfInBounds_toArray, List.set_cons_zero, List.set_cons_succ])
            obtain ⟨v12, hU12⟩ : ∃ u, u = v1.alloc (.cells #[.int .i64 0, .int .i64 0] 88) := ⟨_, rfl⟩
            have hb12 : Below v1.heap.size v1 v12 := by rw [hU12]; exact (Below.refl _ _).alloc (Nat.le_refl _) _
            have n12 : v12.heap[v1.heap.size]? = some (.cells #[.int .i64 0, .int .i64 0] 88 (0, 0)) := by rw [hU12]; exact heap_alloc_new _ _
            rw [← hU12]
            clear hU12
            have k0_12 := cell_later hb12 k0_1
            have k1_12 := cell_later hb12 k1_1
            have Y12 := Y1.trans (hb12.mono Y1.size)
            clear hb12
            refine wpAnyH_ready (rs := [5, 6]) (by kernel_rfl) (by simp) ?_
            refine AllReadyH.cons (o := ?_) ?_ (fun K hK => ?_) ?_
            rotate_left
            · (simp only [List.getElem?_toArray, List.getElem?_cons_zero, List.getElem?_cons_succ]; rfl)
            · go_simp
              go_at_call 72
              refine (KY.out _ Y12).mono ?_
              rintro e v13 ⟨rfl, hb13⟩
              have k0_13 := cell_later hb13 k0_12
              have k1_13 := cell_later hb13 k1_12
              have Y13 := Y12.trans (hb13.mono Y12.size)
              have p7_13 := (hb13.block (v1.heap.size) (Array.getElem?_eq_some_iff.1 n12).1).trans n12
              clear hb13
              (try go_wp2_with fail)
              refine hK.out _ _ ?_ (fun hHeld' => ?_)
              · (try dsimp only)
                exact ⟨k0_13, k1_13⟩
              clear hK K hHeld
              have hHeld := hHeld'
              clear hHeld'
              (try simp only [Act.put, List.setIfInBounds_toArray, List.set_cons_zero, List.set_cons_succ])
              refine wpAnyH_ready (rs := [6]) (by kernel_rfl) (by simp) ?_
              refine AllReadyH.cons (o := ?_) ?_ (fun K hK => ?_) AllReadyH.nil
              rotate_left
              · (simp only [List.getElem?_toArray, List.getElem?_cons_zero, List.getElem?_cons_succ]; rfl)
              go_simp
              (try go_wp2_with fail)
              refine hK.out _ _ ?_ (fun hHeld' => ?_)
              · (try dsimp only)
                exact ⟨cell_later ((Below.refl _ _).alloc (Nat.le_refl _) _) k0_13, cell_later ((Below.refl _ _).alloc (Nat.le_refl _) _) k1_13⟩
              clear hK K hHeld
              have hHeld := hHeld'
              clear hHeld'
              (try simp only [Act.put, List.setIfInBounds_toArray, List.set_cons_zero, List.set_cons_succ])
              obtain ⟨v14, hU14⟩ : ∃ u, u = v13.alloc (.cells #[.int .i64 0, .int .i64 0] 88) := ⟨_, rfl⟩
              have hb14 : Below v13.heap.size v13 v14 := by rw [hU14]; exact (Below.refl _ _).alloc (Nat.le_refl _) _
              have n14 : v14.heap[v13.heap.size]? = some (.cells #[.int .i64 0, .int .i64 0] 88 (0, 0)) := by rw [hU14]; exact heap_alloc_new _ _
              rw [← hU14]
              clear hU14
              have nlt := (Array.getElem?_eq_some_iff.1 p7_13).1
              have k0_14 := cell_later hb14 k0_13
              have k1_14 := cell_later hb14 k1_13
              have Y14 := Y13.trans (hb14.mono Y13.size)
              have p7_14 := (hb14.block (v1.heap.size) (Array.getElem?_eq_some_iff.1 p7_13).1).trans p7_13
              clear hb14
              have e60 := blk_cell n14 0 (v := .int .i64 0) rfl
              have e61 := blk_cell n14 1 (v := .int .i64 0) rfl
              have g60 := blk_frozen n14 0
              have g61 := blk_frozen n14 1
              have lt6 : wr.heap.size ≤ v13.heap.size := Y13.size
              have lt7 : wr.heap.size ≤ v1.heap.size := Y1.size
              have m7 : ((v14.setCell ⟨v13.heap.size, 0, none⟩ (.int .i64 v)).setCell ⟨v13.heap.size, 1, none⟩ (.int .i64 u)).heap[v1.heap.size]? = some (.cells #[.int .i64 0, .int .i64 0] 88 (0, 0)) := blk_other (a := ⟨v13.heap.size, 1, none⟩) (blk_other (a := ⟨v13.heap.size, 0, none⟩) p7_14 (Nat.ne_of_lt nlt) _) (Nat.ne_of_lt nlt) _
              have e70 := blk_cell m7 0 (v := .int .i64 0) rfl
              have e71 := blk_cell m7 1 (v := .int .i64 0) rfl
              have g70 := blk_frozen m7 0
              have g71 := blk_frozen m7 1
              refine wpAnyH_ready (rs := [8]) (by kernel_rfl) (by simp) ?_
              refine AllReadyH.cons (o := ?_) ?_ (fun K hK => ?_) AllReadyH.nil
              rotate_left
              · (simp only [List.getElem?_toArray, List.getElem?_cons_zero, List.getElem?_cons_succ]; rfl)
              go_simp
              skip
              (try go_wp2_with fail)
              refine hK.out _ _ ?_ (fun hHeld' => ?_)
              · (try dsimp only)
                exact ⟨(keep_far (keep_far k0_14 (by omega)) (by omega)), (keep_far (keep_far k1_14 (by omega)) (by omega))⟩
              clear hK K hHeld
              have hHeld := hHeld'
              clear hHeld'
              (try simp only [Act.put, List.setIfInBounds_toArray, List.set_cons_zero, List.set_cons_succ])
              refine wpAnyH_ready (rs := [9]) (by kernel_rfl) (by simp) ?_
              refine AllReadyH.cons (o := ?_) ?_ (fun K hK => ?_) AllReadyH.nil
              rotate_left
              · (simp only [List.getElem?_toArray, List.getElem?_cons_zero, List.getElem?_cons_succ]; rfl)
              go_simp
              skip
              (try go_wp2_with fail)
              refine hK.out _ _ ?_ (fun hHeld' => ?_)
              · (try dsimp only)
                exact ⟨(keep_far (keep_far (keep_far (keep_far k0_14 (by omega)) (by omega)) (by omega)) (by omega)), (keep_far (keep_far (keep_far (keep_far k1_14 (by omega)) (by omega)) (by omega)) (by omega))⟩
              clear hK K hHeld
              have hHeld := hHeld'
              clear hHeld'
              (try simp only [Act.put, List.setIfInBounds_toArray, List.set_cons_zero, List.set_cons_succ])
              refine wpAnyH_done (by kernel_rfl) ?_ _
              (try go_wp2_with fail)
              go_meet
              case rel =>
                exact ⟨v13.heap.size, v1.heap.size, rfl, rfl, blk_other (a := ⟨v1.heap.size, 1, none⟩) (blk_other (a := ⟨v1.heap.size, 0, none⟩) (blk_set (blk_set n14 0 _) 1 _) (Nat.ne_of_gt nlt) _) (Nat.ne_of_gt nlt) _, blk_set (blk_set m7 0 _) 1 _, (Nat.ne_of_gt nlt), lt6, lt7, (((Y14.setCell lt6 _).setCell lt6 _).setCell lt7 _).setCell lt7 _⟩
            refine AllReadyH.cons (o := ?_) ?_ (fun K hK => ?_) AllReadyH.nil
            rotate_left
            · (simp only [List.getElem?_toArray, List.getElem?_cons_zero, List.getElem?_cons_succ]; rfl)
            · go_simp
              (try go_wp2_with fail)
              refine hK.out _ _ ?_ (fun hHeld' => ?_)
              · (try dsimp only)
                exact ⟨cell_later ((Below.refl _ _).alloc (Nat.le_refl _) _) k0_12, cell_later ((Below.refl _ _).alloc (Nat.le_refl _) _) k1_12⟩
              clear hK K hHeld
              have hHeld := hHeld'
              clear hHeld'
              (try simp only [Act.put, List.setIfInBounds_toArray, List.set_cons_zero, List.set_cons_succ])
              obtain ⟨v15, hU15⟩ : ∃ u, u = v12.alloc (.cells #[.int .i64 0, .int .i64 0] 88) := ⟨_, rfl⟩
              have hb15 : Below v12.heap.size v12 v15 := by rw [hU15]; exact (Below.refl _ _).alloc (Nat.le_refl _) _
              have n15 : v15.heap[v12.heap.size]? = some (.cells #[.int .i64 0, .int .i64 0] 88 (0, 0)) := by rw [hU15]; exact heap_alloc_new _ _
              rw [← hU15]
              clear hU15
              have nlt := (Array.getElem?_eq_some_iff.1 n12).1
              have k0_15 := cell_later hb15 k0_12
              have k1_15 := cell_later hb15 k1_12
              have Y15 := Y12.trans (hb15.mono Y12.size)
              have p7_15 := (hb15.block (v1.heap.size) (Array.getElem?_eq_some_iff.1 n12).1).trans n12
              clear hb15
              refine wpAnyH_ready (rs := [5]) (by kernel_rfl) (by simp) ?_
              refine AllReadyH.cons (o := ?_) ?_ (fun K hK => ?_) AllReadyH.nil
              rotate_left
              · (simp only [List.getElem?_toArray, List.getElem?_cons_zero, List.getElem?_cons_succ]; rfl)
              go_simp
              go_at_call 72
              refine (KY.out _ Y15).mono ?_
              rintro e v16 ⟨rfl, hb16⟩
              have k0_16 := cell_later hb16 k0_15
              have k1_16 := cell_later hb16 k1_15
              have Y16 := Y15.trans (hb16.mono Y15.size)
              have p7_16 := (hb16.block (v1.heap.size) (Array.getElem?_eq_some_iff.1 p7_15).1).trans p7_15
              have p6_16 := (hb16.block (v12.heap.size) (Array.getElem?_eq_some_iff.1 n15).1).trans n15
              clear hb16
              (try go_wp2_with fail)
              refine hK.out _ _ ?_ (fun hHeld' => ?_)
              · (try dsimp only)
                exact ⟨k0_16, k1_16⟩
              clear hK K hHeld
              have hHeld := hHeld'
              clear hHeld'
              (try simp only [Act.put, List.setIfInBounds_toArray, List.set_cons_zero, List.set_cons_succ])
              have e60 := blk_cell p6_16 0 (v := .int .i64 0) rfl
              have e61 := blk_cell p6_16 1 (v := .int .i64 0) rfl
              have g60 := blk_frozen p6_16 0
              have g61 := blk_frozen p6_16 1
              have lt6 : wr.heap.size ≤ v12.heap.size := Y12.size
              have lt7 : wr.heap.size ≤ v1.heap.size := Y1.size
              have m7 : ((v16.setCell ⟨v12.heap.size, 0, none⟩ (.int .i64 v)).setCell ⟨v12.heap.size, 1, none⟩ (.int .i64 u)).heap[v1.heap.size]? = some (.cells #[.int .i64 0, .int .i64 0] 88 (0, 0)) := blk_other (a := ⟨v12.heap.size, 1, none⟩) (blk_other (a := ⟨v12.heap.size, 0, none⟩) p7_16 (Nat.ne_of_lt nlt) _) (Nat.ne_of_lt nlt) _
              have e70 := blk_cell m7 0 (v := .int .i64 0) rfl
              have e71 := blk_cell m7 1 (v := .int .i64 0) rfl
              have g70 := blk_frozen m7 0
              have g71 := blk_frozen m7 1
              refine wpAnyH_ready (rs := [8]) (by kernel_rfl) (by simp) ?_
              refine AllReadyH.cons (o := ?_) ?_ (fun K hK => ?_) AllReadyH.nil
              rotate_left
              · (simp only [List.getElem?_toArray, List.getElem?_cons_zero, List.getElem?_cons_succ]; rfl)
              go_simp
              skip
              (try go_wp2_with fail)
              refine hK.out _ _ ?_ (fun hHeld' => ?_)
              · (try dsimp only)
                exact ⟨(keep_far (keep_far k0_16 (by omega)) (by omega)), (keep_far (keep_far k1_16 (by omega)) (by omega))⟩
              clear hK K hHeld
              have hHeld := hHeld'
              clear hHeld'
              (try simp only [Act.put, List.setIfInBounds_toArray, List.set_cons_zero, List.set_cons_succ])
              refine wpAnyH_ready (rs := [9]) (by kernel_rfl) (by simp) ?_
              refine AllReadyH.cons (o := ?_) ?_ (fun K hK => ?_) AllReadyH.nil
              rotate_left
              · (simp only [List.getElem?_toArray, List.getElem?_cons_zero, List.getElem?_cons_succ]; rfl)
              go_simp
              skip
              (try go_wp2_with fail)
              refine hK.out _ _ ?_ (fun hHeld' => ?_)
              · (try dsimp only)
                exact ⟨(keep_far (keep_far (keep_far (keep_far k0_16 (by omega)) (by omega)) (by omega)) (by omega)), (keep_far (keep_far (keep_far (keep_far k1_16 (by omega)) (by omega)) (by omega)) (by omega))⟩
              clear hK K hHeld
              have hHeld := hHeld'
              clear hHeld'
              (try simp only [Act.put, List.setIfInBounds_toArray, List.set_cons_zero, List.set_cons_succ])
              refine wpAnyH_done (by kernel_rfl) ?_ _
              (try go_wp2_with fail)
              go_meet
              case rel =>
                exact ⟨v12.heap.size, v1.heap.size, rfl, rfl, blk_other (a := ⟨v1.heap.size, 1, none⟩) (blk_other (a := ⟨v1.heap.size, 0, none⟩) (blk_set (blk_set p6_16 0 _) 1 _) (Nat.ne_of_gt nlt) _) (Nat.ne_of_gt nlt) _, blk_set (blk_set m7 0 _) 1 _, (Nat.ne_of_gt nlt), lt6, lt7, (((Y16.setCell lt6 _).setCell lt6 _).setCell lt7 _).setCell lt7 _⟩
        refine AllReadyH.cons (o := ?_) ?_ (fun K hK => ?_) ?_
        rotate_left
        · (simp only [List.getElem?_toArray, List.getElem?_cons_zero, List.getElem?_cons_succ]; rfl)
        · go_simp
          (try go_wp2_with fail)
          refine hK.out _ _ ?_ (fun hHeld' => ?_)
          · (try dsimp only)
            exact ⟨cell_later ((Below.refl _ _).alloc (Nat.le_refl _) _) k0_0, cell_later ((Below.refl _ _).alloc (Nat.le_refl _) _) k1_0⟩
          clear hK K hHeld
          have hHeld := hHeld'
          clear hHeld'
          (try simp only [Act.put, List.setIfInBounds_toArray, List.set_cons_zero, List.set_cons_succ])
          obtain ⟨v17, hU17⟩ : ∃ u, u = u0.alloc (.cells #[.int .i64 0, .int .i64 0] 88) := ⟨_, rfl⟩
          have hb17 : Below u0.heap.size u0 v17 := by rw [hU17]; exact (Below.refl _ _).alloc (Nat.le_refl _) _
          have n17 : v17.heap[u0.heap.size]? = some (.cells #[.int .i64 0, .int .i64 0] 88 (0, 0)) := by rw [hU17]; exact heap_alloc_new _ _
          rw [← hU17]
          clear hU17
          have k0_17 := cell_later hb17 k0_0
          have k1_17 := cell_later hb17 k1_0
          have Y17 := Y0.trans (hb17.mono Y0.size)
          clear hb17
          refine wpAnyH_ready (rs := [2, 7]) (by kernel_rfl) (by simp) ?_
          refine AllReadyH.cons (o := ?_) ?_ (fun K hK => ?_) ?_
          rotate_left
          · (simp only [List.getElem?_toArray, List.getElem?_cons_zero, List.getElem?_cons_succ]; rfl)
          · go_simp
            go_at_call 72
            refine (KX.out _ Y17).mono ?_
            rintro e v18 ⟨rfl, hb18⟩
            have k0_18 := cell_later hb18 k0_17
            have k1_18 := cell_later hb18 k1_17
            have Y18 := Y17.trans (hb18.mono Y17.size)
            have p6_18 := (hb18.block (u0.heap.size) (Array.getElem?_eq_some_iff.1 n17).1).trans n17
            clear hb18
            (try go_wp2_with fail)
            refine hK.out _ _ ?_ (fun hHeld' => ?_)
            · (try dsimp only)
              exact ⟨k0_18, k1_18⟩
            clear hK K hHeld
            have hHeld := hHeld'
            clear hHeld'
            (try simp only [Act.put, List.setIfInBounds_toArray, List.set_cons_zero, List.set_cons_succ])
            refine wpAnyH_ready (rs := [5, 7]) (by kernel_rfl) (by simp) ?_
            refine AllReadyH.cons (o := ?_) ?_ (fun K hK => ?_) ?_
            rotate_left
            · (simp only [List.getElem?_toArray, List.getElem?_cons_zero, List.getElem?_cons_succ]; rfl)
            · go_simp
              go_at_call 72
              refine (KY.out _ Y18).mono ?_
              rintro e v19 ⟨rfl, hb19⟩
              have k0_19 := cell_later hb19 k0_18
              have k1_19 := cell_later hb19 k1_18
              have Y19 := Y18.trans (hb19.mono Y18.size)
              have p6_19 := (hb19.block (u0.heap.size) (Array.getElem?_eq_some_iff.1 p6_18).1).trans p6_18
              clear hb19
              (try go_wp2_with fail)
              refine hK.out _ _ ?_ (fun hHeld' => ?_)
              · (try dsimp only)
                exact ⟨k0_19, k1_19⟩
              clear hK K hHeld
              have hHeld := hHeld'
              clear hHeld'
              (try simp only [Act.put, List.setIfInBounds_toArray, List.set_cons_zero, List.set_cons_succ])
              refine wpAnyH_ready (rs := [7]) (by kernel_rfl) (by simp) ?_
              refine AllReadyH.cons (o := ?_) ?_ (fun K hK => ?_) AllReadyH.nil
              rotate_left
              · (simp only [List.getElem?_toArray, List.getElem?_cons_zero, List.getElem?_cons_succ]; rfl)
              go_simp
              (try go_wp2_with fail)
              refine hK.out _ _ ?_ (fun hHeld' => ?_)
              · (try dsimp only)
                exact ⟨cell_later ((Below.refl _ _).alloc (Nat.le_refl _) _) k0_19, cell_later ((Below.refl _ _).alloc (Nat.le_refl _) _) k1_19⟩
              clear hK K hHeld
              have hHeld := hHeld'
              clear hHeld'
              (try simp only [Act.put, List.setIfInBounds_toArray, List.set_cons_zero, List.set_cons_succ])
              obtain ⟨v20, hU20⟩ : ∃ u, u = v19.alloc (.cells #[.int .i64 0, .int .i64 0] 88) := ⟨_, rfl⟩
              have hb20 : Below v19.heap.size v19 v20 := by rw [hU20]; exact (Below.refl _ _).alloc (Nat.le_refl _) _
              have n20 : v20.heap[v19.heap.size]? = some (.cells #[.int .i64 0, .int .i64 0] 88 (0, 0)) := by rw [hU20]; exact heap_alloc_new _ _
              rw [← hU20]
              clear hU20
              have nlt := (Array.getElem?_eq_some_iff.1 p6_19).1
              have k0_20 := cell_later hb20 k0_19
              have k1_20 := cell_later hb20 k1_19
              have Y20 := Y19.trans (hb20.mono Y19.size)
              have p6_20 := (hb20.block (u0.heap.size) (Array.getElem?_eq_some_iff.1 p6_19).1).trans p6_19
              clear hb20
              have e60 := blk_cell p6_20 0 (v := .int .i64 0) rfl
              have e61 := blk_cell p6_20 1 (v := .int .i64 0) rfl
              have g60 := blk_frozen p6_20 0
              have g61 := blk_frozen p6_20 1
              have lt6 : wr.heap.size ≤ u0.heap.size := Y0.size
              have lt7 : wr.heap.size ≤ v19.heap.size := Y19.size
              have m7 : ((v20.setCell ⟨u0.heap.size, 0, none⟩ (.int .i64 v)).setCell ⟨u0.heap.size, 1, none⟩ (.int .i64 u)).heap[v19.heap.size]? = some (.cells #[.int .i64 0, .int .i64 0] 88 (0, 0)) := blk_other (a := ⟨u0.heap.size, 1, none⟩) (blk_other (a := ⟨u0.heap.size, 0, none⟩) n20 (Nat.ne_of_gt nlt) _) (Nat.ne_of_gt nlt) _
              have e70 := blk_cell m7 0 (v := .int .i64 0) rfl
              have e71 := blk_cell m7 1 (v := .int .i64 0) rfl
              have g70 := blk_frozen m7 0
              have g71 := blk_frozen m7 1
              refine wpAnyH_ready (rs := [8]) (by kernel_rfl) (by simp) ?_
              refine AllReadyH.cons (o := ?_) ?_ (fun K hK => ?_) AllReadyH.nil
              rotate_left
              · (simp only [List.getElem?_toArray, List.getElem?_cons_zero, List.getElem?_cons_succ]; rfl)
              go_simp
              skip
              (try go_wp2_with fail)
              refine hK.out _ _ ?_ (fun hHeld' => ?_)
              · (try dsimp only)
                exact ⟨(keep_far (keep_far k0_20 (by omega)) (by omega)), (keep_far (keep_far k1_20 (by omega)) (by omega))⟩
              clear hK K hHeld
              have hHeld := hHeld'
              clear hHeld'
              (try simp only [Act.put, List.setIfInBounds_toArray, List.set_cons_zero, List.set_cons_succ])
              refine wpAnyH_ready (rs := [9]) (by kernel_rfl) (by simp) ?_
              refine AllReadyH.cons (o := ?_) ?_ (fun K hK => ?_) AllReadyH.nil
              rotate_left
              · (simp only [List.getElem?_toArray, List.getElem?_cons_zero, List.getElem?_cons_succ]; rfl)
              go_simp
              skip
              (try go_wp2_with fail)
              refine hK.out _ _ ?_ (fun hHeld' => ?_)
              · (try dsimp only)
                exact ⟨(keep_far (keep_far (keep_far (keep_far k0_20 (by omega)) (by omega)) (by omega)) (by omega)), (keep_far (keep_far (keep_far (keep_far k1_20 (by omega)) (by omega)) (by omega)) (by omega))⟩
              clear hK K hHeld
              have hHeld := hHeld'
              clear hHeld'
              (try simp only [Act.put, List.setIfInBounds_toArray, List.set_cons_zero, List.set_cons_succ])
              refine wpAnyH_done (by kernel_rfl) ?_ _
              (try go_wp2_with fail)
              go_meet
              case rel =>
                exact ⟨u0.heap.size, v19.heap.size, rfl, rfl, blk_other (a := ⟨v19.heap.size, 1, none⟩) (blk_other (a := ⟨v19.heap.size, 0, none⟩) (blk_set (blk_set p6_20 0 _) 1 _) (Nat.ne_of_lt nlt) _) (Nat.ne_of_lt nlt) _, blk_set (blk_set m7 0 _) 1 _, (Nat.ne_of_lt nlt), lt6, lt7, (((Y20.setCell lt6 _).setCell lt6 _).setCell lt7 _).setCell lt7 _⟩
            refine AllReadyH.cons (o := ?_) ?_ (fun K hK => ?_) AllReadyH.nil
            rotate_left
            · (simp only [List.getElem?_toArray, List.getElem?_cons_zero, List.getElem?_cons_succ]; rfl)
            · go_simp
              (try go_wp2_with fail)
              refine hK.out _ _ ?_ (fun hHeld' => ?_)
              · (try dsimp only)
                exact ⟨cell_later ((Below.refl _ _).alloc (Nat.le_refl _) _) k0_18, cell_later ((Below.refl _ _).alloc (Nat.le_refl _) _) k1_18⟩
              clear hK K hHeld
              have hHeld := hHeld'
              clear hHeld'
              (try simp only [Act.put, List.setIfInBounds_toArray, List.set_cons_zero, List.set_cons_succ])
              obtain ⟨v21, hU21⟩ : ∃ u, u = v18.alloc (.cells #[.int .i64 0, .int .i64 0] 88) := ⟨_, rfl⟩
              have hb21 : Below v18.heap.size v18 v21 := by rw [hU21]; exact (Below.refl _ _).alloc (Nat.le_refl _) _
              have n21 : v21.heap[v18.heap.size]? = some (.cells #[.int .i64 0, .int .i64 0] 88 (0, 0)) := by rw [hU21]; exact heap_alloc_new _ _
              rw [← hU21]
              clear hU21
              have nlt := (Array.getElem?_eq_some_iff.1 p6_18).1
              have k0_21 := cell_later hb21 k0_18
              have k1_21 := cell_later hb21 k1_18
              have Y21 := Y18.trans (hb21.mono Y18.size)
              have p6_21 := (hb21.block (u0.heap.size) (Array.getElem?_eq_some_iff.1 p6_18).1).trans p6_18
              clear hb21
              refine wpAnyH_ready (rs := [5]) (by kernel_rfl) (by simp) ?_
              refine AllReadyH.cons (o := ?_) ?_ (fun K hK => ?_) AllReadyH.nil
              rotate_left
              · (simp only [List.getElem?_toArray, List.getElem?_cons_zero, List.getElem?_cons_succ]; rfl)
              go_simp
              go_at_call 72
              refine (KY.out _ Y21).mono ?_
              rintro e v22 ⟨rfl, hb22⟩
              have k0_22 := cell_later hb22 k0_21
              have k1_22 := cell_later hb22 k1_21
              have Y22 := Y21.trans (hb22.mono Y21.size)
              have p6_22 := (hb22.block (u0.heap.size) (Array.getElem?_eq_some_iff.1 p6_21).1).trans p6_21
              have p7_22 := (hb22.block (v18.heap.size) (Array.getElem?_eq_some_iff.1 n21).1).trans n21
              clear hb22
              (try go_wp2_with fail)
              refine hK.out _ _ ?_ (fun hHeld' => ?_)
              · (try dsimp only)
                exact ⟨k0_22, k1_22⟩
              clear hK K hHeld
              have hHeld := hHeld'
              clear hHeld'
              (try simp only [Act.put, List.setIfInBounds_toArray, List.set_cons_zero, List.set_cons_succ])
              have e60 := blk_cell p6_22 0 (v := .int .i64 0) rfl
              have e61 := blk_cell p6_22 1 (v := .int .i64 0) rfl
              have g60 := blk_frozen p6_22 0
              have g61 := blk_frozen p6_22 1
              have lt6 : wr.heap.size ≤ u0.heap.size := Y0.size
              have lt7 : wr.heap.size ≤ v18.heap.size := Y18.size
              have m7 : ((v22.setCell ⟨u0.heap.size, 0, none⟩ (.int .i64 v)).setCell ⟨u0.heap.size, 1, none⟩ (.int .i64 u)).heap[v18.heap.size]? = some (.cells #[.int .i64 0, .int .i64 0] 88 (0, 0)) := blk_other (a := ⟨u0.heap.size, 1, none⟩) (blk_other (a := ⟨u0.heap.size, 0, none⟩) p7_22 (Nat.ne_of_gt nlt) _) (Nat.ne_of_gt nlt) _
              have e70 := blk_cell m7 0 (v := .int .i64 0) rfl
              have e71 := blk_cell m7 1 (v := .int .i64 0) rfl
              have g70 := blk_frozen m7 0
              have g71 := blk_frozen m7 1
              refine wpAnyH_ready (rs := [8]) (by kernel_rfl) (by simp) ?_
              refine AllReadyH.cons (o := ?_) ?_ (fun K hK => ?_) AllReadyH.nil
              rotate_left
              · (simp only [List.getElem?_toArray, List.getElem?_cons_zero, List.getElem?_cons_succ]; rfl)
              go_simp
              skip
              (try go_wp2_with fail)
              refine hK.out _ _ ?_ (fun hHeld' => ?_)
              · (try dsimp only)
                exact ⟨(keep_far (keep_far k0_22 (by omega)) (by omega)), (keep_far (keep_far k1_22 (by omega)) (by omega))⟩
              clear hK K hHeld
              have hHeld := hHeld'
              clear hHeld'
              (try simp only [Act.put, List.setIfInBounds_toArray, List.set_cons_zero, List.set_cons_succ])
              refine wpAnyH_ready (rs := [9]) (by kernel_rfl) (by simp) ?_
              refine AllReadyH.cons (o := ?_) ?_ (fun K hK => ?_) AllReadyH.nil
              rotate_left
              · (simp only [List.getElem?_toArray, List.getElem?_cons_zero, List.getElem?_cons_succ]; rfl)
              go_simp
              skip
              (try go_wp2_with fail)
              refine hK.out _ _ ?_ (fun hHeld' => ?_)
              · (try dsimp only)
                exact ⟨(keep_far (keep_far (keep_far (keep_far k0_22 (by omega)) (by omega)) (by omega)) (by omega)), (keep_far (keep_far (keep_far (keep_far k1_22 (by omega)) (by omega)) (by omega)) (by omega))⟩
              clear hK K hHeld
              have hHeld := hHeld'
              clear hHeld'
              (try simp only [Act.put, List.setIfInBounds_toArray, List.set_cons_zero, List.set_cons_succ])
              refine wpAnyH_done (by kernel_rfl) ?_ _
              (try go_wp2_with fail)
              go_meet
              case rel =>
                exact ⟨u0.heap.size, v18.heap.size, rfl, rfl, blk_other (a := ⟨v18.heap.size, 1, none⟩) (blk_other (a := ⟨v18.heap.size, 0, none⟩) (blk_set (blk_set p6_22 0 _) 1 _) (Nat.ne_of_lt nlt) _) (Nat.ne_of_lt nlt) _, blk_set (blk_set m7 0 _) 1 _, (Nat.ne_of_lt nlt), lt6, lt7, (((Y22.setCell lt6 _).setCell lt6 _).setCell lt7 _).setCell lt7 _⟩
          refine AllReadyH.cons (o := ?_) ?_ (fun K hK => ?_) AllReadyH.nil
          rotate_left
          · (simp only [List.getElem?_toArray, List.getElem?_cons_zero, List.getElem?_cons_succ]; rfl)
          · go_simp
            (try go_wp2_with fail)
            refine hK.out _ _ ?_ (fun hHeld' => ?_)
            · (try dsimp only)
              exact ⟨cell_later ((Below.refl _ _).alloc (Nat.le_refl _) _) k0_17, cell_later ((Below.refl _ _).alloc (Nat.le_refl _) _) k1_17⟩
            clear hK K hHeld
            have hHeld := hHeld'
            clear hHeld'
            (try simp only [Act.put, List.setIfInBounds_toArray, List.set_cons_zero, List.set_cons_succ])
            obtain ⟨v23, hU23⟩ : ∃ u, u = v17.alloc (.cells #[.int .i64 0, .int .i64 0] 88) := ⟨_, rfl⟩
            have hb23 : Below v17.heap.size v17 v23 := by rw [hU23]; exact (Below.refl _ _).alloc (Nat.le_refl _) _
            have n23 : v23.heap[v17.heap.size]? = some (.cells #[.int .i64 0, .int .i64 0] 88 (0, 0)) := by rw [hU23]; exact heap_alloc_new _ _
            rw [← hU23]
            clear hU23
            have nlt := (Array.getElem?_eq_some_iff.1 n17).1
            have k0_23 := cell_later hb23 k0_17
            have k1_23 := cell_later hb23 k1_17
            have Y23 := Y17.trans (hb23.mono Y17.size)
            have p6_23 := (hb23.block (u0.heap.size) (Array.getElem?_eq_some_iff.1 n17).1).trans n17
            clear hb23
            refine wpAnyH_ready (rs := [2]) (by kernel_rfl) (by simp) ?_
            refine AllReadyH.cons (o := ?_) ?_ (fun K hK => ?_) AllReadyH.nil
            rotate_left
            · (simp only [List.getElem?_toArray, List.getElem?_cons_zero, List.getElem?_cons_succ]; rfl)
            go_simp
            go_at_call 72
            refine (KX.out _ Y23).mono ?_
            rintro e v24 ⟨rfl, hb24⟩
            have k0_24 := cell_later hb24 k0_23
            have k1_24 := cell_later hb24 k1_23
            have Y24 := Y23.trans (hb24.mono Y23.size)
            have p6_24 := (hb24.block (u0.heap.size) (Array.getElem?_eq_some_iff.1 p6_23).1).trans p6_23
            have p7_24 := (hb24.block (v17.heap.size) (Array.getElem?_eq_some_iff.1 n23).1).trans n23
            clear hb24
            (try go_wp2_with fail)
            refine hK.out _ _ ?_ (fun hHeld' => ?_)
            · (try dsimp only)
              exact ⟨k0_24, k1_24⟩
            clear hK K hHeld
            have hHeld := hHeld'
            clear hHeld'
            (try simp only [Act.put, List.setIfInBounds_toArray, List.set_cons_zero, List.set_cons_succ])
            refine wpAnyH_ready (rs := [5]) (by kernel_rfl) (by simp) ?_
            refine AllReadyH.cons (o := ?_) ?_ (fun K hK => ?_) AllReadyH.nil
            rotate_left
            · (simp only [List.getElem?_toArray, List.getElem?_cons_zero, List.getElem?_cons_succ]; rfl)
            go_simp
            go_at_call 72
            refine (KY.out _ Y24).mono ?_
            rintro e v25 ⟨rfl, hb25⟩
            have k0_25 := cell_later hb25 k0_24
            have k1_25 := cell_later hb25 k1_24
            have Y25 := Y24.trans (hb25.mono Y24.size)
            have p6_25 := (hb25.block (u0.heap.size) (Array.getElem?_eq_some_iff.1 p6_24).1).trans p6_24
            have p7_25 := (hb25.block (v17.heap.size) (Array.getElem?_eq_some_iff.1 p7_24).1).trans p7_24
            clear hb25
            (try go_wp2_with fail)
            refine hK.out _ _ ?_ (fun hHeld' => ?_)
            · (try dsimp only)
              exact ⟨k0_25, k1_25⟩
            clear hK K hHeld
            have hHeld := hHeld'
            clear hHeld'
            (try simp only [Act.put, List.setIfInBounds_toArray, List.set_cons_zero, List.set_cons_succ])
            have e60 := blk_cell p6_25 0 (v := .int .i64 0) rfl
            have e61 := blk_cell p6_25 1 (v := .int .i64 0) rfl
            have g60 := blk_frozen p6_25 0
            have g61 := blk_frozen p6_25 1
            have lt6 : wr.heap.size ≤ u0.heap.size := Y0.size
            have lt7 : wr.heap.size ≤ v17.heap.size := Y17.size
            have m7 : ((v25.setCell ⟨u0.heap.size, 0, none⟩ (.int .i64 v)).setCell ⟨u0.heap.size, 1, none⟩ (.int .i64 u)).heap[v17.heap.size]? = some (.cells #[.int .i64 0, .int .i64 0] 88 (0, 0)) := blk_other (a := ⟨u0.heap.size, 1, none⟩) (blk_other (a := ⟨u0.heap.size, 0, none⟩) p7_25 (Nat.ne_of_gt nlt) _) (Nat.ne_of_gt nlt) _
            have e70 := blk_cell m7 0 (v := .int .i64 0) rfl
            have e71 := blk_cell m7 1 (v := .int .i64 0) rfl
            have g70 := blk_frozen m7 0
            have g71 := blk_frozen m7 1
            refine wpAnyH_ready (rs := [8]) (by kernel_rfl) (by simp) ?_
            refine AllReadyH.cons (o := ?_) ?_ (fun K hK => ?_) AllReadyH.nil
            rotate_left
            · (simp only [List.getElem?_toArray, List.getElem?_cons_zero, List.getElem?_cons_succ]; rfl)
            go_simp
            skip
            (try go_wp2_with fail)
            refine hK.out _ _ ?_ (fun hHeld' => ?_)
            · (try dsimp only)
              exact ⟨(keep_far (keep_far k0_25 (by omega)) (by omega)), (keep_far (keep_far k1_25 (by omega)) (by omega))⟩
            clear hK K hHeld
            have hHeld := hHeld'
            clear hHeld'
            (try simp only [Act.put, List.setIfInBounds_toArray, List.set_cons_zero, List.set_cons_succ])
            refine wpAnyH_ready (rs := [9]) (by kernel_rfl) (by simp) ?_
            refine AllReadyH.cons (o := ?_) ?_ (fun K hK => ?_) AllReadyH.nil
            rotate_left
            · (simp only [List.getElem?_toArray, List.getElem?_cons_zero, List.getElem?_cons_succ]; rfl)
            go_simp
            skip
            (try go_wp2_with fail)
            refine hK.out _ _ ?_ (fun hHeld' => ?_)
            · (try dsimp only)
              exact ⟨(keep_far (keep_far (keep_far (keep_far k0_25 (by omega)) (by omega)) (by omega)) (by omega)), (keep_far (keep_far (keep_far (keep_far k1_25 (by omega)) (by omega)) (by omega)) (by omega))⟩
            clear hK K hHeld
            have hHeld := hHeld'
            clear hHeld'
            (try simp only [Act.put, List.setIfInBounds_toArray, List.set_cons_zero, List.set_cons_succ])
            refine wpAnyH_done (by kernel_rfl) ?_ _
            (try go_wp2_with fail)
            go_meet
            case rel =>
              exact ⟨u0.heap.size, v17.heap.size, rfl, rfl, blk_other (a := ⟨v17.heap.size, 1, none⟩) (blk_other (a := ⟨v17.heap.size, 0, none⟩) (blk_set (blk_set p6_25 0 _) 1 _) (Nat.ne_of_lt nlt) _) (Nat.ne_of_lt nlt) _, blk_set (blk_set m7 0 _) 1 _, (Nat.ne_of_lt nlt), lt6, lt7, (((Y25.setCell lt6 _).setCell lt6 _).setCell lt7 _).setCell lt7 _⟩
        refine AllReadyH.cons (o := ?_) ?_ (fun K hK => ?_) AllReadyH.nil
        rotate_left
        · (simp only [List.getElem?_toArray, List.getElem?_cons_zero, List.getElem?_cons_succ]; rfl)
        · go_simp
          (try go_wp2_with fail)
          refine hK.out _ _ ?_ (fun hHeld' => ?_)
          · (try dsimp only)
            exact ⟨cell_later ((Below.refl _ _).alloc (Nat.le_refl _) _) k0_0, cell_later ((Below.refl _ _).alloc (Nat.le_refl _) _) k1_0⟩
          clear hK K hHeld
          have hHeld := hHeld'
          clear hHeld'
          (try simp only [Act.put, List.setIfInBounds_toArray, List.set_cons_zero, List.set_cons_succ])
          obtain ⟨v26, hU26⟩ : ∃ u, u = u0.alloc (.cells #[.int .i64 0, .int .i64 0] 88) := ⟨_, rfl⟩
          have hb26 : Below u0.heap.size u0 v26 := by rw [hU26]; exact (Below.refl _ _).alloc (Nat.le_refl _) _
          have n26 : v26.heap[u0.heap.size]? = some (.cells #[.int .i64 0, .int .i64 0] 88 (0, 0)) := by rw [hU26]; exact heap_alloc_new _ _
          rw [← hU26]
          clear hU26
          have k0_26 := cell_later hb26 k0_0
          have k1_26 := cell_later hb26 k1_0
          have Y26 := Y0.trans (hb26.mono Y0.size)
          clear hb26
          refine wpAnyH_ready (rs := [2, 6]) (by kernel_rfl) (by simp) ?_
          refine AllReadyH.cons (o := ?_) ?_ (fun K hK => ?_) ?_
          rotate_left
          · (simp only [List.getElem?_toArray, List.getElem?_cons_zero, List.getElem?_cons_succ]; rfl)
          · go_simp
            go_at_call 72
            refine (KX.out _ Y26).mono ?_
            rintro e v27 ⟨rfl, hb27⟩
            have k0_27 := cell_later hb27 k0_26
            have k1_27 := cell_later hb27 k1_26
            have Y27 := Y26.trans (hb27.mono Y26.size)
            have p7_27 := (hb27.block (u0.heap.size) (Array.getElem?_eq_some_iff.1 n26).1).trans n26
            clear hb27
            (try go_wp2_with fail)
            refine hK.out _ _ ?_ (fun hHeld' => ?_)
            · (try dsimp only)
              exact ⟨k0_27, k1_27⟩
            clear hK K hHeld
            have hHeld := hHeld'
            clear hHeld'
            (try simp only [Act.put, List.setIfInBounds_toArray, List.set_cons_zero, List.set_cons_succ])
            refine wpAnyH_ready (rs := [5, 6]) (by kernel_rfl) (by simp) ?_
            refine AllReadyH.cons (o := ?_) ?_ (fun K hK => ?_) ?_
            rotate_left
            · (simp only [List.getElem?_toArray, List.getElem?_cons_zero, List.getElem?_cons_succ]; rfl)
            · go_simp
              go_at_call 72
              refine (KY.out _ Y27).mono ?_
              rintro e v28 ⟨rfl, hb28⟩
              have k0_28 := cell_later hb28 k0_27
              have k1_28 := cell_later hb28 k1_27
              have Y28 := Y27.trans (hb28.mono Y27.size)
              have p7_28 := (hb28.block (u0.heap.size) (Array.getElem?_eq_some_iff.1 p7_27).1).trans p7_27
              clear hb28
              (try go_wp2_with fail)
              refine hK.out _ _ ?_ (fun hHeld' => ?_)
              · (try dsimp only)
                exact ⟨k0_28, k1_28⟩
              clear hK K hHeld
              have hHeld := hHeld'
              clear hHeld'
              (try simp only [Act.put, List.setIfInBounds_toArray, List.set_cons_zero, List.set_cons_succ])
              refine wpAnyH_ready (rs := [6]) (by kernel_rfl) (by simp) ?_
              refine AllReadyH.cons (o := ?_) ?_ (fun K hK => ?_) AllReadyH.nil
              rotate_left
              · (simp only [List.getElem?_toArray, List.getElem?_cons_zero, List.getElem?_cons_succ]; rfl)
              go_simp
              (try go_wp2_with fail)
              refine hK.out _ _ ?_ (fun hHeld' => ?_)
              · (try dsimp only)
                exact ⟨cell_later ((Below.refl _ _).alloc (Nat.le_refl _) _) k0_28, cell_later ((Below.refl _ _).alloc (Nat.le_refl _) _) k1_28⟩
              clear hK K hHeld
              have hHeld := hHeld'
              clear hHeld'
              (try simp only [Act.put, List.setIfInBounds_toArray, List.set_cons_zero, List.set_cons_succ])
              obtain ⟨v29, hU29⟩ : ∃ u, u = v28.alloc (.cells #[.int .i64 0, .int .i64 0] 88) := ⟨_, rfl⟩
              have hb29 : Below v28.heap.size v28 v29 := by rw [hU29]; exact (Below.refl _ _).alloc (Nat.le_refl _) _
              have n29 : v29.heap[v28.heap.size]? = some (.cells #[.int .i64 0, .int .i64 0] 88 (0, 0)) := by rw [hU29]; exact heap_alloc_new _ _
              rw [← hU29]
              clear hU29
              have nlt := (Array.getElem?_eq_some_iff.1 p7_28).1
              have k0_29 := cell_later hb29 k0_28
              have k1_29 := cell_later hb29 k1_28
              have Y29 := Y28.trans (hb29.mono Y28.size)
              have p7_29 := (hb29.block (u0.heap.size) (Array.getElem?_eq_some_iff.1 p7_28).1).trans p7_28
              clear hb29
              have e60 := blk_cell n29 0 (v := .int .i64 0) rfl
              have e61 := blk_cell n29 1 (v := .int .i64 0) rfl
              have g60 := blk_frozen n29 0
              have g61 := blk_frozen n29 1
              have lt6 : wr.heap.size ≤ v28.heap.size := Y28.size
              have lt7 : wr.heap.size ≤ u0.heap.size := Y0.size
              have m7 : ((v29.setCell ⟨v28.heap.size, 0, none⟩ (.int .i64 v)).setCell ⟨v28.heap.size, 1, none⟩ (.int .i64 u)).heap[u0.heap.size]? = some (.cells #[.int .i64 0, .int .i64 0] 88 (0, 0)) := blk_other (a := ⟨v28.heap.size, 1, none⟩) (blk_other (a := ⟨v28.heap.size, 0, none⟩) p7_29 (Nat.ne_of_lt nlt) _) (Nat.ne_of_lt nlt) _
              have e70 := blk_cell m7 0 (v := .int .i64 0) rfl
              have e71 := blk_cell m7 1 (v := .int .i64 0) rfl
              have g70 := blk_frozen m7 0
              have g71 := blk_frozen m7 1
              refine wpAnyH_ready (rs := [8]) (by kernel_rfl) (by simp) ?_
              refine AllReadyH.cons (o := ?_) ?_ (fun K hK => ?_) AllReadyH.nil
              rotate_left
              · (simp only [List.getElem?_toArray, List.getElem?_cons_zero, List.getElem?_cons_succ]; rfl)
              go_simp
              skip
              (try go_wp2_with fail)
              refine hK.out _ _ ?_ (fun hHeld' => ?_)
              · (try dsimp only)
                exact ⟨(keep_far (keep_far k0_29 (by omega)) (by omega)), (keep_far (keep_far k1_29 (by omega)) (by omega))⟩
              clear hK K hHeld
              have hHeld := hHeld'
              clear hHeld'
              (try simp only [Act.put, List.setIfInBounds_toArray, List.set_cons_zero, List.set_cons_succ])
              refine wpAnyH_ready (rs := [9]) (by kernel_rfl) (by simp) ?_
              refine AllReadyH.cons (o := ?_) ?_ (fun K hK => ?_) AllReadyH.nil
              rotate_left
              · (simp only [List.getElem?_toArray, List.getElem?_cons_zero, List.getElem?_cons_succ]; rfl)
              go_simp
              skip
              (try go_wp2_with fail)
              refine hK.out _ _ ?_ (fun hHeld' => ?_)
              · (try dsimp only)
                exact ⟨(keep_far (keep_far (keep_far (keep_far k0_29 (by omega)) (by omega)) (by omega)) (by omega)), (keep_far (keep_far (keep_far (keep_far k1_29 (by omega)) (by omega)) (by omega)) (by omega))⟩
              clear hK K hHeld
              have hHeld := hHeld'
              clear hHeld'
              (try simp only [Act.put, List.setIfInBounds_toArray, List.set_cons_zero, List.set_cons_succ])
              refine wpAnyH_done (by kernel_rfl) ?_ _
              (try go_wp2_with fail)
              go_meet
              case rel =>
                exact ⟨v28.heap.size, u0.heap.size, rfl, rfl, blk_other (a := ⟨u0.heap.size, 1, none⟩) (blk_other (a := ⟨u0.heap.size, 0, none⟩) (blk_set (blk_set n29 0 _) 1 _) (Nat.ne_of_gt nlt) _) (Nat.ne_of_gt nlt) _, blk_set (blk_set m7 0 _) 1 _, (Nat.ne_of_gt nlt), lt6, lt7, (((Y29.setCell lt6 _).setCell lt6 _).setCell lt7 _).setCell lt7 _⟩
            refine AllReadyH.cons (o := ?_) ?_ (fun K hK => ?_) AllReadyH.nil
            rotate_left
            · (simp only [List.getElem?_toArray, List.getElem?_cons_zero, List.getElem?_cons_succ]; rfl)
            · go_simp
              (try go_wp2_with fail)
              refine hK.out _ _ ?_ (fun hHeld' => ?_)
              · (try dsimp only)
                exact ⟨cell_later ((Below.refl _ _).alloc (Nat.le_refl _) _) k0_27, cell_later ((Below.refl _ _).alloc (Nat.le_refl _) _) k1_27⟩
              clear hK K hHeld
              have hHeld := hHeld'
              clear hHeld'
              (try simp only [Act.put, List.setIfInBounds_toArray, List.set_cons_zero, List.set_cons_succ])
              obtain ⟨v30, hU30⟩ : ∃ u, u = v27.alloc (.cells #[.int .i64 0, .int .i64 0] 88) := ⟨_, rfl⟩
              have hb30 : Below v27.heap.size v27 v30 := by rw [hU30]; exact (Below.refl _ _).alloc (Nat.le_refl _) _
              have n30 : v30.heap[v27.heap.size]? = some (.cells #[.int .i64 0, .int .i64 0] 88 (0, 0)) := by rw [hU30]; exact heap_alloc_new _ _
              rw [← hU30]
              clear hU30
              have nlt := (Array.getElem?_eq_some_iff.1 p7_27).1
              have k0_30 := cell_later hb30 k0_27
              have k1_30 := cell_later hb30 k1_27
              have Y30 := Y27.trans (hb30.mono Y27.size)
              have p7_30 := (hb30.block (u0.heap.size) (Array.getElem?_eq_some_iff.1 p7_27).1).trans p7_27
              clear hb30
              refine wpAnyH_ready (rs := [5]) (by kernel_rfl) (by simp) ?_
              refine AllReadyH.cons (o := ?_) ?_ (fun K hK => ?_) AllReadyH.nil
              rotate_left
              · (simp only [List.getElem?_toArray, List.getElem?_cons_zero, List.getElem?_cons_succ]; rfl)
              go_simp
              go_at_call 72
              refine (KY.out _ Y30).mono ?_
              rintro e v31 ⟨rfl, hb31⟩
              have k0_31 := cell_later hb31 k0_30
              have k1_31 := cell_later hb31 k1_30
              have Y31 := Y30.trans (hb31.mono Y30.size)
              have p7_31 := (hb31.block (u0.heap.size) (Array.getElem?_eq_some_iff.1 p7_30).1).trans p7_30
              have p6_31 := (hb31.block (v27.heap.size) (Array.getElem?_eq_some_iff.1 n30).1).trans n30
              clear hb31
              (try go_wp2_with fail)
              refine hK.out _ _ ?_ (fun hHeld' => ?_)
              · (try dsimp only)
                exact ⟨k0_31, k1_31⟩
              clear hK K hHeld
              have hHeld := hHeld'
              clear hHeld'
              (try simp only [Act.put, List.setIfInBounds_toArray, List.set_cons_zero, List.set_cons_succ])
              have e60 := blk_cell p6_31 0 (v := .int .i64 0) rfl
              have e61 := blk_cell p6_31 1 (v := .int .i64 0) rfl
              have g60 := blk_frozen p6_31 0
              have g61 := blk_frozen p6_31 1
              have lt6 : wr.heap.size ≤ v27.heap.size := Y27.size
              have lt7 : wr.heap.size ≤ u0.heap.size := Y0.size
              have m7 : ((v31.setCell ⟨v27.heap.size, 0, none⟩ (.int .i64 v)).setCell ⟨v27.heap.size, 1, none⟩ (.int .i64 u)).heap[u0.heap.size]? = some (.cells #[.int .i64 0, .int .i64 0] 88 (0, 0)) := blk_other (a := ⟨v27.heap.size, 1, none⟩) (blk_other (a := ⟨v27.heap.size, 0, none⟩) p7_31 (Nat.ne_of_lt nlt) _) (Nat.ne_of_lt nlt) _
              have e70 := blk_cell m7 0 (v := .int .i64 0) rfl
              have e71 := blk_cell m7 1 (v := .int .i64 0) rfl
              have g70 := blk_frozen m7 0
              have g71 := blk_frozen m7 1
              refine wpAnyH_ready (rs := [8]) (by kernel_rfl) (by simp) ?_
              refine AllReadyH.cons (o := ?_) ?_ (fun K hK => ?_) AllReadyH.nil
              rotate_left
              · (simp only [List.getElem?_toArray, List.getElem?_cons_zero, List.getElem?_cons_succ]; rfl)
              go_simp
              skip
              (try go_wp2_with fail)
              refine hK.out _ _ ?_ (fun hHeld' => ?_)
              · (try dsimp only)
                exact ⟨(keep_far (keep_far k0_31 (by omega)) (by omega)), (keep_far (keep_far k1_31 (by omega)) (by omega))⟩
              clear hK K hHeld
              have hHeld := hHeld'
              clear hHeld'
              (try simp only [Act.put, List.setIfInBounds_toArray, List.set_cons_zero, List.set_cons_succ])
              refine wpAnyH_ready (rs := [9]) (by kernel_rfl) (by simp) ?_
              refine AllReadyH.cons (o := ?_) ?_ (fun K hK => ?_) AllReadyH.nil
              rotate_left
              · (simp only [List.getElem?_toArray, List.getElem?_cons_zero, List.getElem?_cons_succ]; rfl)
              go_simp
              skip
              (try go_wp2_with fail)
              refine hK.out _ _ ?_ (fun hHeld' => ?_)
              · (try dsimp only)
                exact ⟨(keep_far (keep_far (keep_far (keep_far k0_31 (by omega)) (by omega)) (by omega)) (by omega)), (keep_far (keep_far (keep_far (keep_far k1_31 (by omega)) (by omega)) (by omega)) (by omega))⟩
              clear hK K hHeld
              have hHeld := hHeld'
              clear hHeld'
              (try simp only [Act.put, List.setIfInBounds_toArray, List.set_cons_zero, List.set_cons_succ])
              refine wpAnyH_done (by kernel_rfl) ?_ _
              (try go_wp2_with fail)
              go_meet
              case rel =>
                exact ⟨v27.heap.size, u0.heap.size, rfl, rfl, blk_other (a := ⟨u0.heap.size, 1, none⟩) (blk_other (a := ⟨u0.heap.size, 0, none⟩) (blk_set (blk_set p6_31 0 _) 1 _) (Nat.ne_of_gt nlt) _) (Nat.ne_of_gt nlt) _, blk_set (blk_set m7 0 _) 1 _, (Nat.ne_of_gt nlt), lt6, lt7, (((Y31.setCell lt6 _).setCell lt6 _).setCell lt7 _).setCell lt7 _⟩
          refine AllReadyH.cons (o := ?_) ?_ (fun K hK => ?_) AllReadyH.nil
          rotate_left
          · (simp only [List.getElem?_toArray, List.getElem?_cons_zero, List.getElem?_cons_succ]; rfl)
          · go_simp
            (try go_wp2_with fail)
            refine hK.out _ _ ?_ (fun hHeld' => ?_)
            · (try dsimp only)
              exact ⟨cell_later ((Below.refl _ _).alloc (Nat.le_refl _) _) k0_26, cell_later ((Below.refl _ _).alloc (Nat.le_refl _) _) k1_26⟩
            clear hK K hHeld
            have hHeld := hHeld'
            clear hHeld'
            (try simp only [Act.put, List.setIfInBounds_toArray, List.set_cons_zero, List.set_cons_succ])
            obtain ⟨v32, hU32⟩ : ∃ u, u = v26.alloc (.cells #[.int .i64 0, .int .i64 0] 88) := ⟨_, rfl⟩
            have hb32 : Below v26.heap.size v26 v32 := by rw [hU32]; exact (Below.refl _ _).alloc (Nat.le_refl _) _
            have n32 : v32.heap[v26.heap.size]? = some (.cells #[.int .i64 0, .int .i64 0] 88 (0, 0)) := by rw [hU32]; exact heap_alloc_new _ _
            rw [← hU32]
            clear hU32
            have nlt := (Array.getElem?_eq_some_iff.1 n26).1
            have k0_32 := cell_later hb32 k0_26
            have k1_32 := cell_later hb32 k1_26
            have Y32 := Y26.trans (hb32.mono Y26.size)
            have p7_32 := (hb32.block (u0.heap.size) (Array.getElem?_eq_some_iff.1 n26).1).trans n26
            clear hb32
            refine wpAnyH_ready (rs := [2]) (by kernel_rfl) (by simp) ?_
            refine AllReadyH.cons (o := ?_) ?_ (fun K hK => ?_) AllReadyH.nil
            rotate_left
            · (simp only [List.getElem?_toArray, List.getElem?_cons_zero, List.getElem?_cons_succ]; rfl)
            go_simp
            go_at_call 72
            refine (KX.out _ Y32).mono ?_
            rintro e v33 ⟨rfl, hb33⟩
            have k0_33 := cell_later hb33 k0_32
            have k1_33 := cell_later hb33 k1_32
            have Y33 := Y32.trans (hb33.mono Y32.size)
            have p7_33 := (hb33.block (u0.heap.size) (Array.getElem?_eq_some_iff.1 p7_32).1).trans p7_32
            have p6_33 := (hb33.block (v26.heap.size) (Array.getElem?_eq_some_iff.1 n32).1).trans n32
            clear hb33
            (try go_wp2_with fail)
            refine hK.out _ _ ?_ (fun hHeld' => ?_)
            · (try dsimp only)
              exact ⟨k0_33, k1_33⟩
            clear hK K hHeld
            have hHeld := hHeld'
            clear hHeld'
            (try simp only [Act.put, List.setIfInBounds_toArray, List.set_cons_zero, List.set_cons_succ])
            refine wpAnyH_ready (rs := [5]) (by kernel_rfl) (by simp) ?_
            refine AllReadyH.cons (o := ?_) ?_ (fun K hK => ?_) AllReadyH.nil
            rotate_left
            · (simp only [List.getElem?_toArray, List.getElem?_cons_zero, List.getElem?_cons_succ]; rfl)
            go_simp
            go_at_call 72
            refine (KY.out _ Y33).mono ?_
            rintro e v34 ⟨rfl, hb34⟩
            have k0_34 := cell_later hb34 k0_33
            have k1_34 := cell_later hb34 k1_33
            have Y34 := Y33.trans (hb34.mono Y33.size)
            have p7_34 := (hb34.block (u0.heap.size) (Array.getElem?_eq_some_iff.1 p7_33).1).trans p7_33
            have p6_34 := (hb34.block (v26.heap.size) (Array.getElem?_eq_some_iff.1 p6_33).1).trans p6_33
            clear hb34
            (try go_wp2_with fail)
            refine hK.out _ _ ?_ (fun hHeld' => ?_)
            · (try dsimp only)
              exact ⟨k0_34, k1_34⟩
            clear hK K hHeld
            have hHeld := hHeld'
            clear hHeld'
            (try simp only [Act.put, List.setIfInBounds_toArray, List.set_cons_zero, List.set_cons_succ])
            have e60 := blk_cell p6_34 0 (v := .int .i64 0) rfl
            have e61 := blk_cell p6_34 1 (v := .int .i64 0) rfl
            have g60 := blk_frozen p6_34 0
            have g61 := blk_frozen p6_34 1
            have lt6 : wr.heap.size ≤ v26.heap.size := Y26.size
            have lt7 : wr.heap.size ≤ u0.heap.size := Y0.size
            have m7 : ((v34.setCell ⟨v26.heap.size, 0, none⟩ (.int .i64 v)).setCell ⟨v26.heap.size, 1, none⟩ (.int .i64 u)).heap[u0.heap.size]? = some (.cells #[.int .i64 0, .int .i64 0] 88 (0, 0)) := blk_other (a := ⟨v26.heap.size, 1, none⟩) (blk_other (a := ⟨v26.heap.size, 0, none⟩) p7_34 (Nat.ne_of_lt nlt) _) (Nat.ne_of_lt nlt) _
            have e70 := blk_cell m7 0 (v := .int .i64 0) rfl
            have e71 := blk_cell m7 1 (v := .int .i64 0) rfl
            have g70 := blk_frozen m7 0
            have g71 := blk_frozen m7 1
            refine wpAnyH_ready (rs := [8]) (by kernel_rfl) (by simp) ?_
            refine AllReadyH.cons (o := ?_) ?_ (fun K hK => ?_) AllReadyH.nil
            rotate_left
            · (simp only [List.getElem?_toArray, List.getElem?_cons_zero, List.getElem?_cons_succ]; rfl)
            go_simp
            skip
            (try go_wp2_with fail)
            refine hK.out _ _ ?_ (fun hHeld' => ?_)
            · (try dsimp only)
              exact ⟨(keep_far (keep_far k0_34 (by omega)) (by omega)), (keep_far (keep_far k1_34 (by omega)) (by omega))⟩
            clear hK K hHeld
            have hHeld := hHeld'
            clear hHeld'
            (try simp only [Act.put, List.setIfInBounds_toArray, List.set_cons_zero, List.set_cons_succ])
            refine wpAnyH_ready (rs := [9]) (by kernel_rfl) (by simp) ?_
            refine AllReadyH.cons (o := ?_) ?_ (fun K hK => ?_) AllReadyH.nil
            rotate_left
            · (simp only [List.getElem?_toArray, List.getElem?_cons_zero, List.getElem?_cons_succ]; rfl)
            go_simp
            skip
            (try go_wp2_with fail)
            refine hK.out _ _ ?_ (fun hHeld' => ?_)
            · (try dsimp only)
              exact ⟨(keep_far (keep_far (keep_far (keep_far k0_34 (by omega)) (by omega)) (by omega)) (by omega)), (keep_far (keep_far (keep_far (keep_far k1_34 (by omega)) (by omega)) (by omega)) (by omega))⟩
            clear hK K hHeld
            have hHeld := hHeld'
            clear hHeld'
            (try simp only [Act.put, List.setIfInBounds_toArray, List.set_cons_zero, List.set_cons_succ])
            refine wpAnyH_done (by kernel_rfl) ?_ _
            (try go_wp2_with fail)
            go_meet
            case rel =>
              exact ⟨v26.heap.size, u0.heap.size, rfl, rfl, blk_other (a := ⟨u0.heap.size, 1, none⟩) (blk_other (a := ⟨u0.heap.size, 0, none⟩) (blk_set (blk_set p6_34 0 _) 1 _) (Nat.ne_of_gt nlt) _) (Nat.ne_of_gt nlt) _, blk_set (blk_set m7 0 _) 1 _, (Nat.ne_of_gt nlt), lt6, lt7, (((Y34.setCell lt6 _).setCell lt6 _).setCell lt7 _).setCell lt7 _⟩
      case rest =>
        obtain ⟨Pa, Pb, rfl, rfl, pa, pb, hne, lpa, lpb, hb3⟩ := hcut
        obtain ⟨w3, rfl⟩ : ∃ x, x = wc := ⟨_, rfl⟩
        have B3 := BW.trans (hb3.mono BW.size)
        have q7 := blk_below q6 hb3
        have a0 := blk_cell pa 0 (v := .int .i64 v) rfl
        have a1 := blk_cell pa 1 (v := .int .i64 u) rfl
        have b0 := blk_cell pb 0 (v := .int .i64 v) rfl
        have b1 := blk_cell pb 1 (v := .int .i64 u') rfl
        have HB3 := Hid.mk hb3
        clear hb3
        by_cases e : u = u'
        · have HE : Hid (M = mrgTo x y (ts.drop (k + 1))) := by show _ = _; rw [HM.out, if_pos e]
          subst e
          clear q6 q7 pa pb lpa lpb
          go_wp2
          go_roundw
          case rel => exact ⟨k + 1, by omega, by go_num, HE.out, hbw.trans (HB3.out.mono hbw.size)⟩
          case measure => simp [intOf]; omega
        · have HE : Hid (M = some (v, gr u u', ls u u')) := by show _ = _; rw [HM.out, if_neg e]
          have z1 : ¬ Pb = w.heap.size + 1 + 1 + 1 := by omega
          have z2 : ¬ Pa = w.heap.size + 1 + 1 + 1 := by omega
          by_cases hlt2 : u < u'
          · have HG : Hid (gr u u' = u' ∧ ls u u' = u) := by constructor <;> simp [gr, ls, hlt2]
            have fa0 := blk_frozen pa 0
            have fa1 := blk_frozen pa 1
            have fb0 := blk_frozen pb 0
            have fb1 := blk_frozen pb 1
            obtain ⟨X, hX⟩ : ∃ X, X = ((((w3.setCell ⟨Pa, 0, none⟩ (.int .i64 v)).setCell ⟨Pa, 1, none⟩ (.int .i64 u')).setCell ⟨Pb, 0, none⟩ (.int .i64 v)).setCell ⟨Pb, 1, none⟩ (.int .i64 u)) := ⟨_, rfl⟩
            have xa : X.heap[Pa]? = some (.cells #[.int .i64 v, .int .i64 u'] 88 (0, 0)) := by
              rw [hX]; exact blk_other (a := ⟨Pb, 1, none⟩) (blk_other (a := ⟨Pb, 0, none⟩) (blk_set (blk_set pa 0 _) 1 _) hne _) hne _
            have xb : X.heap[Pb]? = some (.cells #[.int .i64 v, .int .i64 u] 88 (0, 0)) := by
              rw [hX]; exact blk_set (blk_set (blk_other (a := ⟨Pa, 1, none⟩) (blk_other (a := ⟨Pa, 0, none⟩) pb (Ne.symm hne) _) (Ne.symm hne) _) 0 _) 1 _
            have x4 : X.heap[w.heap.size + 1 + 1 + 1]? = some (.cells #[.int .i64 0, .int .i64 0, .int .i64 0, .int .i64 0] 90 (0, 0)) := by
              rw [hX]; exact blk_other (a := ⟨Pb, 1, none⟩) (blk_other (a := ⟨Pb, 0, none⟩) (blk_other (a := ⟨Pa, 1, none⟩) (blk_other (a := ⟨Pa, 0, none⟩) q7 (Ne.symm z2) _) (Ne.symm z2) _) (Ne.symm z1) _) (Ne.symm z1) _
            have BX : Below w.heap.size w X := by
              rw [hX]
              exact (((B3.setCell (show w.heap.size ≤ Pa by omega) _).setCell (show w.heap.size ≤ Pa by omega) _).setCell (show w.heap.size ≤ Pb by omega) _).setCell (show w.heap.size ≤ Pb by omega) _
            go_upto_region 10 with fail
            rw [← hX]
            have y0 := blk_cell xa 0 (v := .int .i64 v) rfl
            have y1 := blk_cell xa 1 (v := .int .i64 u') rfl
            have y2 := blk_cell xb 0 (v := .int .i64 v) rfl
            have y3 := blk_cell xb 1 (v := .int .i64 u) rfl
            have e0 := blk_cell x4 0 (v := .int .i64 0) rfl
            have e1 := blk_cell x4 1 (v := .int .i64 0) rfl
            have e2 := blk_cell x4 2 (v := .int .i64 0) rfl
            have e3 := blk_cell x4 3 (v := .int .i64 0) rfl
            have f0 := blk_frozen x4 0
            have f1 := blk_frozen x4 1
            have f2 := blk_frozen x4 2
            have f3 := blk_frozen x4 3
            clear hX xa xb x4 a0 a1 b0 b1 fa0 fa1 fb0 fb1 q7 q6 pa pb
            go_wp2
            refine bodyPost_ret (v := .tuple #[.agg #[.int .i64 v, .int .i64 u', .int .i64 v, .int .i64 u], .bool true]) (by simp [results, Tryd.results71, go_sem, e0, e1, e2, e3]) rfl ⟨by rw [HE.out, HG.out.1, HG.out.2]; rfl, ?_⟩
            exact four_below BX (by omega) _ _ _ _
          · have HG : Hid (gr u u' = u ∧ ls u u' = u') := by constructor <;> simp [gr, ls, hlt2]
            have e0 := blk_cell q7 0 (v := .int .i64 0) rfl
            have e1 := blk_cell q7 1 (v := .int .i64 0) rfl
            have e2 := blk_cell q7 2 (v := .int .i64 0) rfl
            have e3 := blk_cell q7 3 (v := .int .i64 0) rfl
            have f0 := blk_frozen q7 0
            have f1 := blk_frozen q7 1
            have f2 := blk_frozen q7 2
            have f3 := blk_frozen q7 3
            clear q6 q7 pa pb
            go_wp2
            refine bodyPost_ret (v := .tuple #[.agg #[.int .i64 v, .int .i64 u, .int .i64 v, .int .i64 u'], .bool true]) (by simp [results, Tryd.results71, go_sem, e0, e1, e2, e3]) rfl ⟨by rw [HE.out, HG.out.1, HG.out.2]; rfl, ?_⟩
            exact four_below B3 (by omega) _ _ _ _
    · obtain rfl : k = tn := by omega
      have HN : Hid (M = none) := by show _ = _; rw [hM]; exact mrgTo_done hts
      have e0 := blk_cell q6 0 (v := .int .i64 0) rfl
      have e1 := blk_cell q6 1 (v := .int .i64 0) rfl
      have e2 := blk_cell q6 2 (v := .int .i64 0) rfl
      have e3 := blk_cell q6 3 (v := .int .i64 0) rfl
      have f0 := blk_frozen q6 0
      have f1 := blk_frozen q6 1
      have f2 := blk_frozen q6 2
      have f3 := blk_frozen q6 3
      clear hM q6 q5
      go_wp2
      refine bodyPost_ret (v := .tuple #[.agg #[.int .i64 0, .int .i64 0, .int .i64 0, .int .i64 0], .bool false]) (by simp [results, Tryd.results71, go_sem, e0, e1, e2, e3]) rfl ⟨by rw [HN.out]; rfl, ?_⟩
      exact four_below BW (by omega) _ _ _ _

end Go.Proofs.YthliamoeplgblaaDoor
