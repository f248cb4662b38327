/- Contract of spec.l9Step. -/
import Derived.Test.YthliamoeplgblaaDoorM11
import Derived.Test.YthliamoeplgblaaDoorM12
namespace Go.Proofs.YthliamoeplgblaaDoor
open Go.RowKit

/-- What a step that found something, or nothing, tells. -/
def stP (p : Int) (o : Option (List (List Int))) : Int := if o.isSome then p else 0
def mapM (zss : List (List Int)) (m : Option Mrg) : Option (List (List Int)) := m.map fun m => zss.map (mrgIn m)
theorem gr_ne {u v : Int} (h : ¬ u = v) : (if v < u then u else v) = gr u v ∧ (if v < u then v else u) = ls u v := by
  unfold gr ls
  by_cases h1 : v < u
  · rw [if_pos h1, if_pos h1, if_neg (by omega), if_neg (by omega)]; exact ⟨rfl, rfl⟩
  · rw [if_neg h1, if_neg h1, if_pos (by omega), if_pos (by omega)]; exact ⟨rfl, rfl⟩
theorem pick_len (zs cols : List Int) : (pick zs cols).length = cols.length := by simp [pick]

set_option maxRecDepth 100000 in
set_option maxHeartbeats 16000000 in
theorem l9Step_any (p : Int) (a : Option Addr) (n c : Nat) (zss : List (List Int)) (la : Option Addr) (ln lc : Nat) (xs : List Dep) (w : World) (hz : zss.length = n) (hcap : n ≤ c) (hlz : xs.length = ln) (ht : tbB p zss = true) (hd : goodDeps xs p = true) (ha : AtR w a zss) (hla : AtD w la xs) :
    Calls Tryd.prog 51 #[.agg #[.int .i64 p, .slice a n c], .slice la ln lc] w fun e w' => TblRet e w' w.heap.size (stepZ xs zss).isSome (stP p (stepZ xs zss)) ((stepZ xs zss).getD []) ∧ Below w.heap.size w w' := by
  obtain ⟨q, hq⟩ : ∃ q : Nat, p = (q : Int) := ⟨p.toNat, by have := tbB_C ht; omega⟩
  have hq6 : q ≤ 6 := by have := tbB_C ht; omega
  have hn8 : n ≤ 8 := by have := tbB_n ht; omega
  have hln : ln ≤ 10 := by have := goodDeps_C hd; omega
  have HROW : Hid (∀ (k : Nat) (z : List Int), zss[k]? = some z → z.length = q) := fun k z h => by have := rowOk_len (tbB_row ht h); omega
  have HDEP : Hid (∀ (k : Nat) (d : Dep), xs[k]? = some d → colsOk d.1 q = true ∧ colsOk d.2 q = true) := fun k d h => by
    have h1 := goodDeps_dep hd (List.mem_of_getElem? h)
    rw [hq] at h1
    exact ⟨ris_cols hq6 h1.1, ris_cols hq6 h1.2⟩
  obtain ⟨M, hM⟩ : ∃ M, mrgAll zss xs = M := ⟨_, rfl⟩
  have HM : Hid (M = mrgAll zss (xs.drop 0)) := by show _ = _; rw [List.drop_zero]; exact hM.symm
  have hsz : stepZ xs zss = mapM zss M := by unfold stepZ mapM; rw [hM]
  rw [hsz]
  clear hM hq ht hd hsz
  obtain ⟨W, hW⟩ : ∃ W, W = (w.alloc (.cells #[.int .i64 p, .slice a n c] 26)).alloc (.cells #[.int .i64 0, .slice none 0 0] 26) := ⟨_, rfl⟩
  have B0 : Below w.heap.size w W := by rw [hW]; exact ((Below.refl _ _).alloc (Nat.le_refl _) _).alloc (by simp) _
  have zW : w.heap.size + 1 < W.heap.size := by rw [hW]; simp
  have c0 : W.cell? ⟨w.heap.size, 0, none⟩ = some (.int .i64 p) := by rw [hW]; simp [go_sem]
  have c1 : W.cell? ⟨w.heap.size, 1, none⟩ = some (.slice a n c) := by rw [hW]; simp [go_sem]
  have q4 : W.heap[w.heap.size + 1]? = some (.cells #[.int .i64 0, .slice none 0 0] 26 (0, 0)) := by
    rw [hW]
    have h := heap_alloc_new (w.alloc (.cells #[.int .i64 p, .slice a n c] 26)) (.cells #[.int .i64 0, .slice none 0 0] 26)
    simpa only [World.size_alloc] using h
  have HA := Hid.mk ha
  have HL := Hid.mk (AtSl.below hla B0)
  have HZ := Hid.mk hz
  have HLZ := Hid.mk hlz
  clear ha hla hz hlz
  go_enter Tryd.func51, Tryd.ntmps51
  go_wp2_with fail
  rw [← hW]
  clear hW
  go_loopw [16] (fun i wr => ∃ k : Nat, k ≤ ln ∧ i = .int .i64 k ∧ M = mrgAll zss (xs.drop k) ∧ Below W.heap.size W wr) (fun i _ => ln - (intOf i).toNat)
  case atStart => exact ⟨0, Nat.zero_le _, rfl, HM.out, Below.refl _ _⟩
  case round =>
    clear HM
    obtain ⟨k, hk, rfl, hM, hbw⟩ := hrel
    obtain ⟨wA, rfl⟩ : ∃ x, x = wr := ⟨_, rfl⟩
    have q5 := blk_below q4 hbw
    have zA : w.heap.size + 1 < wA.heap.size := by have := hbw.size; omega
    have BA : Below w.heap.size w wA := B0.trans (hbw.mono B0.size)
    by_cases hlt : k < ln
    · obtain ⟨b, off, rfl, _, hc⟩ := AtD.row (AtSl.below HL.out hbw) (by have := HLZ.out; omega)
      obtain ⟨⟨fs, ts⟩, hx⟩ : ∃ x, xs[k]? = some x := ⟨_, List.getElem?_eq_getElem (by have := HLZ.out; omega)⟩
      obtain ⟨fa, fn, fc, ta, tn, tc, g0, g1, ⟨t1, t2, t3⟩, ⟨u1, u2, u3⟩⟩ := hc k _ hx
      have hcol := HDEP.out k _ hx
      rw [mrgAll_step hx] at hM
      obtain ⟨Z, hZ⟩ : ∃ Z, mrgAll zss (xs.drop (k + 1)) = Z := ⟨_, rfl⟩
      rw [hZ] at hM
      have HZ' := Hid.mk hZ
      obtain ⟨V, hV⟩ : ∃ V, V = wA.alloc (.cells #[.slice fa fn fc, .slice ta tn tc] 61) := ⟨_, rfl⟩
      have hbV : Below wA.heap.size wA V := by rw [hV]; exact (Below.refl _ _).alloc (Nat.le_refl _) _
      have zV : wA.heap.size < V.heap.size := by rw [hV]; simp
      have d0 : V.cell? ⟨wA.heap.size, 0, none⟩ = some (.slice fa fn fc) := by rw [hV]; exact pair0 _ _ _ _
      have d1 : V.cell? ⟨wA.heap.size, 1, none⟩ = some (.slice ta tn tc) := by rw [hV]; exact pair1 _ _ _ _
      have e0 := cell_later hbV (cell_later hbw c0)
      have e1 := cell_later hbV (cell_later hbw c1)
      have BV : Below w.heap.size w V := BA.trans (hbV.mono BA.size)
      have HAV := Hid.mk hbV
      have HWV := Hid.mk (hbw.trans (hbV.mono hbw.size))
      have HM1 : Hid (M = (mrgRows (fs, ts) (zss.drop 0)).or Z) := by show _ = _; rw [List.drop_zero]; exact hM
      have HPK : Hid (∀ (xa : Option Addr) (xc : Nat) (x : List Int) (w' : World), x.length = q → Below V.heap.size V w' → At w' xa x →
          Calls Tryd.prog 60 #[.agg #[.slice xa q xc], .slice fa fn fc] w' fun e w'' => ∃ r d, e = .returned (.agg #[.slice r fn d]) ∧ w''.ownsRow w'.heap.size 3 1 (.slice r fn d) fn ((pick x fs).map (.int .i64)) ∧ Below w'.heap.size w' w'') :=
        fun xa xc x w' h1 h3 h4 => l1Pick_any xa fa q fn xc fc x fs w' h1 t1 (by omega) h4 ((t3.below hbV).below h3) (by rw [h1]; exact hcol.1)
      have HTA : Hid (At V ta ts) := u3.below hbV
      have HTN := Hid.mk u1
      have hcol2 := hcol.2
      have hfn6 : fn ≤ 6 := by have := colsOk_len hcol.1; simp only at this t1; omega
      have htn6 : tn ≤ 6 := by have := colsOk_len hcol.2; simp only at this u1; omega
      have HFN := Hid.mk t1
      simp only at hcol2
      have hki : (k : Int) < (ln : Int) := by omega
      clear hc hx t1 t3 u1 u3 hcol hM hZ hbw BA
      go_upto_region 4 with fail
      rw [← hV]
      clear hV g0 g1 hbV c1 c0
      go_wp2_with fail
      go_loopw [23] (fun i wx => ∃ j : Nat, j ≤ n ∧ i = .int .i64 j ∧ M = (mrgRows (fs, ts) (zss.drop j)).or Z ∧ Below V.heap.size V wx) (fun i _ => n - (intOf i).toNat)
      case atStart => exact ⟨0, Nat.zero_le _, rfl, HM1.out, Below.refl _ _⟩
      case round =>
        clear HM1
        obtain ⟨j, hj, rfl, hM, hbw⟩ := hrel
        obtain ⟨wB, rfl⟩ : ∃ x, x = wr := ⟨_, rfl⟩
        have BB : Below w.heap.size w wB := BV.trans (hbw.mono BV.size)
        have ZB : Hid (wA.heap.size < wB.heap.size) := by show _ < _; have := hbw.size; omega
        by_cases hjl : j < n
        · obtain ⟨b1, off1, rfl, hc⟩ := AtR.row HA.out (by have := HZ.out; omega)
          obtain ⟨x, hx⟩ : ∃ x, zss[j]? = some x := ⟨_, List.getElem?_eq_getElem (by have := HZ.out; omega)⟩
          obtain ⟨xa, xc, hcx, _, hatx, _⟩ := hc j x hx
          have hcx := cell_later BB hcx
          have HXB : Hid (0 < x.length → ∀ b off, xa = some ⟨b, off, none⟩ → b < w.heap.size) := fun h b off e => by
            obtain ⟨b', off', e', h2, _⟩ := hatx.some h
            rw [e] at e'
            cases e'
            exact h2
          have hxl := HROW.out j x hx
          rw [hxl] at hcx
          rw [mrgRows_step hx, or_or] at hM
          obtain ⟨Y, hY⟩ : ∃ Y, (mrgRows (fs, ts) (zss.drop (j + 1))).or Z = Y := ⟨_, rfl⟩
          rw [hY] at hM
          have HY := Hid.mk hY
          obtain ⟨U, hU⟩ : ∃ U, U = wB.alloc (.cells #[.slice xa q xc] 47) := ⟨_, rfl⟩
          have hbU : Below wB.heap.size wB U := by rw [hU]; exact (Below.refl _ _).alloc (Nat.le_refl _) _
          have zU : wB.heap.size < U.heap.size := by rw [hU]; simp
          have r0 : U.cell? ⟨wB.heap.size, 0, none⟩ = some (.slice xa q xc) := by rw [hU]; exact row0 _ _ _
          have hbVU := hbw.trans (hbU.mono hbw.size)
          have e2 := cell_later hbVU e0
          have e3 := cell_later hbVU e1
          have d2 := cell_later hbVU d0
          have d3 := cell_later hbVU d1
          have BU : Below w.heap.size w U := BB.trans (hbU.mono BB.size)
          have HVU := Hid.mk hbVU
          have HWA := Hid.mk (HAV.out.trans (hbVU.mono HAV.out.size))
          have HX := Hid.mk (hatx.below BU)
          have HXL := Hid.mk hxl
          have HM2 : Hid (M = (mrgRow (fs, ts) x (zss.drop (j + 1 + 0))).or Y) := Hid.mk hM
          have HCE : Hid (∀ (w' : World), Below U.heap.size U w' → ∀ t z, zss[t]? = some z → ∃ a' c', w'.cell? ⟨b1, off1 + t, none⟩ = some (.slice a' q c') ∧ At w' a' z ∧ z.length = q ∧ (0 < z.length → ∀ b off, a' = some ⟨b, off, none⟩ → b < w.heap.size)) := fun w' h t z hzt => by
            obtain ⟨a', c', h1, _, h3, _⟩ := hc t z hzt
            have hzl := HROW.out t z hzt
            rw [hzl] at h1
            have hw' := BU.trans (h.mono BU.size)
            exact ⟨a', c', cell_later hw' h1, h3.below hw', hzl, fun h5 b off e => by
              obtain ⟨b', off', e', h2, _⟩ := h3.some h5
              rw [e] at e'
              cases e'
              exact h2⟩
          have hji : (j : Int) < (n : Int) := by omega
          clear hc hx hxl hatx hM hY hbVU hbw BB
          go_upto_region 7 with fail
          rw [← hU]
          clear hU hcx hbU e0 e1 d0 d1
          by_cases hcj : c = j + 1
          · have HE : Hid (M = Y) := by show _ = _; rw [HM2.out, mrgRow_done (by have := HZ.out; omega)]; rfl
            have hm0 : n - (j + 1) = 0 := by omega
            subst hcj
            go_wp2_with fail
            (try rw [hm0])
            refine wp_loop_rounds 1 ?_
            rw [rounds_succ]
            go_wp2
            go_roundw
            case rel => exact ⟨j + 1, by omega, by go_num, by rw [HE.out, ← HY.out], HVU.out⟩
            case measure => simp [intOf]; omega
          · have hcj1 : j + 1 < c := by omega
            obtain ⟨m, hm⟩ : ∃ m, n - (j + 1) = m := ⟨_, rfl⟩
            have hmn : j + 1 + m = n := by omega
            have HMN := Hid.mk hmn
            have hm8 : m ≤ 8 := by omega
            clear hcj hmn
            go_wp2_with fail
            (try rw [hm])
            clear hm
            go_loopw [34] (fun i wx => ∃ t : Nat, t ≤ m ∧ i = .int .i64 t ∧ M = (mrgRow (fs, ts) x (zss.drop (j + 1 + t))).or Y ∧ Below U.heap.size U wx) (fun i _ => m - (intOf i).toNat)
            case atStart => exact ⟨0, Nat.zero_le _, rfl, HM2.out, Below.refl _ _⟩
            case round =>
              clear HM2
              obtain ⟨t, htm, rfl, hM, hbw⟩ := hrel
              obtain ⟨wC, rfl⟩ : ∃ x, x = wr := ⟨_, rfl⟩
              have BC : Below w.heap.size w wC := BU.trans (hbw.mono BU.size)
              have ZC : Hid (wB.heap.size < wC.heap.size) := by show _ < _; have := hbw.size; omega
              by_cases htl : t < m
              · obtain ⟨y, hy⟩ : ∃ y, zss[j + 1 + t]? = some y := ⟨_, List.getElem?_eq_getElem (by have := HZ.out; have := HMN.out; omega)⟩
                obtain ⟨ya, yc, hcy, haty, hyl, hyb⟩ := HCE.out wC hbw (j + 1 + t) y hy
                have HYB := Hid.mk hyb
                clear hyb
                rw [← Nat.add_assoc] at hcy
                rw [mrgRow_step hy, or_or] at hM
                obtain ⟨N, hN⟩ : ∃ N, (mrgRow (fs, ts) x (zss.drop (j + 1 + t + 1))).or Y = N := ⟨_, rfl⟩
                rw [hN] at hM
                have HN := Hid.mk hN
                obtain ⟨O, hO⟩ : ∃ O, O = wC.alloc (.cells #[.slice ya q yc] 47) := ⟨_, rfl⟩
                have hbR : Below wC.heap.size wC O := by rw [hO]; exact (Below.refl _ _).alloc (Nat.le_refl _) _
                have zO : wC.heap.size < O.heap.size := by rw [hO]; simp
                have y0 : O.cell? ⟨wC.heap.size, 0, none⟩ = some (.slice ya q yc) := by rw [hO]; exact row0 _ _ _
                have hbUR := hbw.trans (hbR.mono hbw.size)
                have r1 := cell_later hbUR r0
                have d4 := cell_later hbUR d2
                have d5 := cell_later hbUR d3
                have e4 := cell_later hbUR e2
                have e5 := cell_later hbUR e3
                have q6 := blk_below q5 (HWA.out.trans (hbUR.mono HWA.out.size))
                have BR : Below w.heap.size w O := BC.trans (hbR.mono BC.size)
                have hVR := HVU.out.trans (hbUR.mono HVU.out.size)
                have HYA := Hid.mk (haty.below hbR)
                have HXA := Hid.mk (HX.out.below hbUR)
                have HYL := Hid.mk hyl
                have HUR := Hid.mk hbUR
                have KP1 : Hid (∀ w', Below O.heap.size O w' → Calls Tryd.prog 60 #[.agg #[.slice xa q xc], .slice fa fn fc] w' fun e w'' => ∃ r d, e = .returned (.agg #[.slice r fn d]) ∧ w''.ownsRow w'.heap.size 3 1 (.slice r fn d) fn ((pick x fs).map (.int .i64)) ∧ Below w'.heap.size w' w'') :=
                  fun w' h => HPK.out xa xc x w' HXL.out (hVR.trans (h.mono hVR.size)) (HXA.out.below h)
                have KP2 : Hid (∀ w', Below O.heap.size O w' → Calls Tryd.prog 60 #[.agg #[.slice ya q yc], .slice fa fn fc] w' fun e w'' => ∃ r d, e = .returned (.agg #[.slice r fn d]) ∧ w''.ownsRow w'.heap.size 3 1 (.slice r fn d) fn ((pick y fs).map (.int .i64)) ∧ Below w'.heap.size w' w'') :=
                  fun w' h => HPK.out ya yc y w' HYL.out (hVR.trans (h.mono hVR.size)) (HYA.out.below h)
                have HTT := Hid.mk (HTA.out.below hVR)
                have hti : (t : Int) < (m : Int) := by omega
                have hpx : (pick x fs).length = fn := by rw [pick_len]; exact HFN.out
                have hpy : (pick y fs).length = fn := by rw [pick_len]; exact HFN.out
                have HPX := Hid.mk hpx
                have HPY := Hid.mk hpy
                have hsp := sameC_pick x y fs
                have HBY : Hid (mrgBy (fs, ts) x y = if sameC x y fs then mrgTo x y ts else none) := by show _ = _; rfl
                have HM := Hid.mk hM
                clear hM hy haty hbw hbR hbUR hyl hN hpx hpy hVR
                go_upto_region 10 with fail
                rw [← hO]
                clear hO hcy
                cases hs : sameC x y fs with
                | false =>
                  have HNX : Hid (M = N) := by show _ = _; rw [HM.out, HBY.out, hs]; rfl
                  obtain ⟨cm, hcm⟩ : ∃ cm, cmp (pick x fs) (pick y fs) = cm := ⟨_, rfl⟩
                  have HCM := Hid.mk hcm
                  have hcm0 : ¬ cm = 0 := fun h => by
                    have h1 := cmp_eq (hcm.trans h)
                    rw [hs] at hsp
                    rw [decide_eq_true h1] at hsp
                    cases hsp
                  have hcn : (cm != 0) = true := by simp [hcm0]
                  clear hcm hs hsp
                  refine wp_region_held_drew (S := fun w' => w'.cell? ⟨wB.heap.size, 0, none⟩ = some (.slice xa q xc) ∧ w'.cell? ⟨wC.heap.size, 0, none⟩ = some (.slice ya q yc) ∧ w'.cell? ⟨wA.heap.size, 0, none⟩ = some (.slice fa fn fc)) (by kernel_rfl) ?_ (fun hHeld => ?_)
                  · (try dsimp only)
                    exact ⟨r1, y0, d4⟩
                  refine wpAnyH_take (i := 0) (oi := ?_) (v := ?_) ?_ (by kernel_rfl) (by kernel_rfl) (by kernel_rfl) ?_ (Or.inl ⟨?_, ?_⟩) (by assumption) ?_
                  rotate_left 2
                  · (simp only [List.getElem?_toArray, List.getElem?_cons_zero]; rfl)
                  · exact fun _ _ _ h => h
                  · rfl
                  · (intro wS hSw; (try dsimp only at hSw); go_simp; (try with_reducible rfl))
                  (try simp only [Act.put, List.setIfInBounds_toArray, List.set_cons_zero, List.set_cons_succ])
                  refine wpAnyH_take (i := 1) (oi := ?_) (v := ?_) ?_ (by kernel_rfl) (by kernel_rfl) (by kernel_rfl) ?_ (Or.inl ⟨?_, ?_⟩) (by assumption) ?_
                  rotate_left 2
                  · (simp only [List.getElem?_toArray, List.getElem?_cons_zero, List.getElem?_cons_succ]; rfl)
                  · exact fun _ _ _ h => h
                  · rfl
                  · (intro wS hSw; (try dsimp only at hSw); go_simp; (try with_reducible rfl))
                  (try simp only [Act.put, List.setIfInBounds_toArray, List.set_cons_zero, List.set_cons_succ])
                  refine wpAnyH_take (i := 2) (oi := ?_) (v := ?_) ?_ (by kernel_rfl) (by kernel_rfl) (by kernel_rfl) ?_ (Or.inl ⟨?_, ?_⟩) (by assumption) ?_
                  rotate_left 2
                  · (simp only [List.getElem?_toArray, List.getElem?_cons_zero, List.getElem?_cons_succ]; rfl)
                  · exact fun _ _ _ h => h
                  · rfl
                  · (intro wS hSw; (try dsimp only at hSw); go_simp; (try with_reducible rfl))
                  (try simp only [Act.put, List.setIfInBounds_toArray, List.set_cons_zero, List.set_cons_succ])
                  refine wpAnyH_take (i := 4) (oi := ?_) (v := ?_) ?_ (by kernel_rfl) (by kernel_rfl) (by kernel_rfl) ?_ (Or.inl ⟨?_, ?_⟩) (by assumption) ?_
                  rotate_left 2
                  · (simp only [List.getElem?_toArray, List.getElem?_cons_zero, List.getElem?_cons_succ]; rfl)
                  · exact fun _ _ _ h => h
                  · rfl
                  · (intro wS hSw; (try dsimp only at hSw); go_simp; (try with_reducible rfl))
                  (try simp only [Act.put, List.setIfInBounds_toArray, List.set_cons_zero, List.set_cons_succ])
                  refine wpAnyH_take (i := 5) (oi := ?_) (v := ?_) ?_ (by kernel_rfl) (by kernel_rfl) (by kernel_rfl) ?_ (Or.inl ⟨?_, ?_⟩) (by assumption) ?_
                  rotate_left 2
                  · (simp only [List.getElem?_toArray, List.getElem?_cons_zero, List.getElem?_cons_succ]; rfl)
                  · exact fun _ _ _ h => h
                  · rfl
                  · (intro wS hSw; (try dsimp only at hSw); go_simp; (try with_reducible rfl))
                  (try simp only [Act.put, List.setIfInBounds_toArray, List.set_cons_zero, List.set_cons_succ])
                  refine wpAnyH_take (i := 6) (oi := ?_) (v := ?_) ?_ (by kernel_rfl) (by kernel_rfl) (by kernel_rfl) ?_ (Or.inl ⟨?_, ?_⟩) (by assumption) ?_
                  rotate_left 2
                  · (simp only [List.getElem?_toArray, List.getElem?_cons_zero, List.getElem?_cons_succ]; rfl)
                  · exact fun _ _ _ h => h
                  · rfl
                  · (intro wS hSw; (try dsimp only at hSw); go_simp; (try with_reducible rfl))
                  (try simp only [Act.put, List.setIfInBounds_toArray, List.set_cons_zero, List.set_cons_succ])
                  refine wpAnyH_ready (rs := [3]) (by kernel_rfl) (by simp) ?_
                  refine AllReadyH.cons (o := ?_) ?_ (fun K hK => ?_) AllReadyH.nil
                  rotate_left
                  · (simp only [List.getElem?_toArray, List.getElem?_cons_zero, List.getElem?_cons_succ]; rfl)
                  go_simp
                  go_at_call 60; refine (KP1.out _ (Below.refl _ _).drew).mono ?_; rintro e v1 ⟨p1, pd1, rfl, po1, pb1⟩; have Y1 : Below O.heap.size O v1 := (Below.refl _ _).drew.trans pb1; have r2 := cell_later Y1 r1; have y1 := cell_later Y1 y0; have d6 := cell_later Y1 d4
                  (try go_wp2_with fail)
                  refine hK.out _ _ ?_ (fun hHeld' => ?_)
                  · (try dsimp only)
                    exact ⟨r2, y1, d6⟩
                  clear hK K hHeld
                  have hHeld := hHeld'
                  clear hHeld'
                  (try simp only [Act.put, List.setIfInBounds_toArray, List.set_cons_zero, List.set_cons_succ])
                  refine wpAnyH_ready (rs := [7]) (by kernel_rfl) (by simp) ?_
                  refine AllReadyH.cons (o := ?_) ?_ (fun K hK => ?_) AllReadyH.nil
                  rotate_left
                  · (simp only [List.getElem?_toArray, List.getElem?_cons_zero, List.getElem?_cons_succ]; rfl)
                  go_simp
                  go_at_call 60; refine (KP2.out v1 Y1).mono ?_; rintro e v2 ⟨p2, pd2, rfl, po2, pb2⟩; have Y2 : Below O.heap.size O v2 := Y1.trans (pb2.mono Y1.size); have r3 := cell_later Y2 r1; have y2 := cell_later Y2 y0; have d7 := cell_later Y2 d4
                  (try go_wp2_with fail)
                  refine hK.out _ _ ?_ (fun hHeld' => ?_)
                  · (try dsimp only)
                    exact ⟨r3, y2, d7⟩
                  clear hK K hHeld
                  have hHeld := hHeld'
                  clear hHeld'
                  (try simp only [Act.put, List.setIfInBounds_toArray, List.set_cons_zero, List.set_cons_succ])
                  refine wpAnyH_ready (rs := [8]) (by kernel_rfl) (by simp) ?_
                  refine AllReadyH.cons (o := ?_) ?_ (fun K hK => ?_) AllReadyH.nil
                  rotate_left
                  · (simp only [List.getElem?_toArray, List.getElem?_cons_zero, List.getElem?_cons_succ]; rfl)
                  go_simp
                  go_at_call 59; refine (l1Compare_any p1 p2 fn fn pd1 pd2 (pick x fs) (pick y fs) v2 HPX.out HPY.out hfn6 hfn6 (At.owned (owns_below po1 pb2)) (At.owned po2)).mono ?_; rintro e v3 ⟨rfl, pb3⟩; rw [HCM.out]; have Y3 : Below O.heap.size O v3 := Y2.trans (pb3.mono Y2.size); have r4 := cell_later Y3 r1; have y3 := cell_later Y3 y0; have d8 := cell_later Y3 d4
                  (try go_wp2_with fail)
                  refine hK.out _ _ ?_ (fun hHeld' => ?_)
                  · (try dsimp only)
                    exact ⟨r4, y3, d8⟩
                  clear hK K hHeld
                  have hHeld := hHeld'
                  clear hHeld'
                  (try simp only [Act.put, List.setIfInBounds_toArray, List.set_cons_zero, List.set_cons_succ])
                  refine wpAnyH_take (i := 9) (oi := ?_) (v := ?_) ?_ (by kernel_rfl) (by kernel_rfl) (by kernel_rfl) ?_ (Or.inl ⟨?_, ?_⟩) (by assumption) ?_
                  rotate_left 2
                  · (simp only [List.getElem?_toArray, List.getElem?_cons_zero, List.getElem?_cons_succ]; rfl)
                  · exact fun _ _ _ h => h
                  · rfl
                  · (intro wS hSw; (try dsimp only at hSw); go_simp; (try with_reducible rfl))
                  (try simp only [Act.put, List.setIfInBounds_toArray, List.set_cons_zero, List.set_cons_succ])
                  refine wpAnyH_done (by kernel_rfl) ?_ _
                  clear hHeld po1 po2 pb1 pb2 pb3 r2 y1 d6 r3 y2 d7
                  have HB6 := Hid.mk (HUR.out.trans (Y3.mono HUR.out.size))
                  clear r4 y3 d8 Y1 Y2 Y3
                  go_wp2
                  go_roundw
                  case rel => exact ⟨t + 1, by omega, by go_num, by rw [HNX.out, ← HN.out]; rfl, HB6.out⟩
                  case measure => simp [intOf]; omega
                | true =>
                  have HMT : Hid (M = (mrgTo x y (ts.drop 0)).or N) := by show _ = _; rw [HM.out, HBY.out, hs]; rfl
                  have HCM : Hid (cmp (pick x fs) (pick y fs) = 0) := by
                    show _ = _
                    rw [hs] at hsp
                    rw [of_decide_eq_true hsp.symm]
                    exact cmp_self _
                  clear hs hsp
                  refine wp_region_held_drew (S := fun w' => w'.cell? ⟨wB.heap.size, 0, none⟩ = some (.slice xa q xc) ∧ w'.cell? ⟨wC.heap.size, 0, none⟩ = some (.slice ya q yc) ∧ w'.cell? ⟨wA.heap.size, 0, none⟩ = some (.slice fa fn fc)) (by kernel_rfl) ?_ (fun hHeld => ?_)
                  · (try dsimp only)
                    exact ⟨r1, y0, d4⟩
                  refine wpAnyH_take (i := 0) (oi := ?_) (v := ?_) ?_ (by kernel_rfl) (by kernel_rfl) (by kernel_rfl) ?_ (Or.inl ⟨?_, ?_⟩) (by assumption) ?_
                  rotate_left 2
                  · (simp only [List.getElem?_toArray, List.getElem?_cons_zero]; rfl)
                  · exact fun _ _ _ h => h
                  · rfl
                  · (intro wS hSw; (try dsimp only at hSw); go_simp; (try with_reducible rfl))
                  (try simp only [Act.put, List.setIfInBounds_toArray, List.set_cons_zero, List.set_cons_succ])
                  refine wpAnyH_take (i := 1) (oi := ?_) (v := ?_) ?_ (by kernel_rfl) (by kernel_rfl) (by kernel_rfl) ?_ (Or.inl ⟨?_, ?_⟩) (by assumption) ?_
                  rotate_left 2
                  · (simp only [List.getElem?_toArray, List.getElem?_cons_zero, List.getElem?_cons_succ]; rfl)
                  · exact fun _ _ _ h => h
                  · rfl
                  · (intro wS hSw; (try dsimp only at hSw); go_simp; (try with_reducible rfl))
                  (try simp only [Act.put, List.setIfInBounds_toArray, List.set_cons_zero, List.set_cons_succ])
                  refine wpAnyH_take (i := 2) (oi := ?_) (v := ?_) ?_ (by kernel_rfl) (by kernel_rfl) (by kernel_rfl) ?_ (Or.inl ⟨?_, ?_⟩) (by assumption) ?_
                  rotate_left 2
                  · (simp only [List.getElem?_toArray, List.getElem?_cons_zero, List.getElem?_cons_succ]; rfl)
                  · exact fun _ _ _ h => h
                  · rfl
                  · (intro wS hSw; (try dsimp only at hSw); go_simp; (try with_reducible rfl))
                  (try simp only [Act.put, List.setIfInBounds_toArray, List.set_cons_zero, List.set_cons_succ])
                  refine wpAnyH_take (i := 4) (oi := ?_) (v := ?_) ?_ (by kernel_rfl) (by kernel_rfl) (by kernel_rfl) ?_ (Or.inl ⟨?_, ?_⟩) (by assumption) ?_
                  rotate_left 2
                  · (simp only [List.getElem?_toArray, List.getElem?_cons_zero, List.getElem?_cons_succ]; rfl)
                  · exact fun _ _ _ h => h
                  · rfl
                  · (intro wS hSw; (try dsimp only at hSw); go_simp; (try with_reducible rfl))
                  (try simp only [Act.put, List.setIfInBounds_toArray, List.set_cons_zero, List.set_cons_succ])
                  refine wpAnyH_take (i := 5) (oi := ?_) (v := ?_) ?_ (by kernel_rfl) (by kernel_rfl) (by kernel_rfl) ?_ (Or.inl ⟨?_, ?_⟩) (by assumption) ?_
                  rotate_left 2
                  · (simp only [List.getElem?_toArray, List.getElem?_cons_zero, List.getElem?_cons_succ]; rfl)
                  · exact fun _ _ _ h => h
                  · rfl
                  · (intro wS hSw; (try dsimp only at hSw); go_simp; (try with_reducible rfl))
                  (try simp only [Act.put, List.setIfInBounds_toArray, List.set_cons_zero, List.set_cons_succ])
                  refine wpAnyH_take (i := 6) (oi := ?_) (v := ?_) ?_ (by kernel_rfl) (by kernel_rfl) (by kernel_rfl) ?_ (Or.inl ⟨?_, ?_⟩) (by assumption) ?_
                  rotate_left 2
                  · (simp only [List.getElem?_toArray, List.getElem?_cons_zero, List.getElem?_cons_succ]; rfl)
                  · exact fun _ _ _ h => h
                  · rfl
                  · (intro wS hSw; (try dsimp only at hSw); go_simp; (try with_reducible rfl))
                  (try simp only [Act.put, List.setIfInBounds_toArray, List.set_cons_zero, List.set_cons_succ])
                  refine wpAnyH_ready (rs := [3]) (by kernel_rfl) (by simp) ?_
                  refine AllReadyH.cons (o := ?_) ?_ (fun K hK => ?_) AllReadyH.nil
                  rotate_left
                  · (simp only [List.getElem?_toArray, List.getElem?_cons_zero, List.getElem?_cons_succ]; rfl)
                  go_simp
                  go_at_call 60; refine (KP1.out _ (Below.refl _ _).drew).mono ?_; rintro e v1 ⟨p1, pd1, rfl, po1, pb1⟩; have Y1 : Below O.heap.size O v1 := (Below.refl _ _).drew.trans pb1; have r2 := cell_later Y1 r1; have y1 := cell_later Y1 y0; have d6 := cell_later Y1 d4
                  (try go_wp2_with fail)
                  refine hK.out _ _ ?_ (fun hHeld' => ?_)
                  · (try dsimp only)
                    exact ⟨r2, y1, d6⟩
                  clear hK K hHeld
                  have hHeld := hHeld'
                  clear hHeld'
                  (try simp only [Act.put, List.setIfInBounds_toArray, List.set_cons_zero, List.set_cons_succ])
                  refine wpAnyH_ready (rs := [7]) (by kernel_rfl) (by simp) ?_
                  refine AllReadyH.cons (o := ?_) ?_ (fun K hK => ?_) AllReadyH.nil
                  rotate_left
                  · (simp only [List.getElem?_toArray, List.getElem?_cons_zero, List.getElem?_cons_succ]; rfl)
                  go_simp
                  go_at_call 60; refine (KP2.out v1 Y1).mono ?_; rintro e v2 ⟨p2, pd2, rfl, po2, pb2⟩; have Y2 : Below O.heap.size O v2 := Y1.trans (pb2.mono Y1.size); have r3 := cell_later Y2 r1; have y2 := cell_later Y2 y0; have d7 := cell_later Y2 d4
                  (try go_wp2_with fail)
                  refine hK.out _ _ ?_ (fun hHeld' => ?_)
                  · (try dsimp only)
                    exact ⟨r3, y2, d7⟩
                  clear hK K hHeld
                  have hHeld := hHeld'
                  clear hHeld'
                  (try simp only [Act.put, List.setIfInBounds_toArray, List.set_cons_zero, List.set_cons_succ])
                  refine wpAnyH_ready (rs := [8]) (by kernel_rfl) (by simp) ?_
                  refine AllReadyH.cons (o := ?_) ?_ (fun K hK => ?_) AllReadyH.nil
                  rotate_left
                  · (simp only [List.getElem?_toArray, List.getElem?_cons_zero, List.getElem?_cons_succ]; rfl)
                  go_simp
                  go_at_call 59; refine (l1Compare_any p1 p2 fn fn pd1 pd2 (pick x fs) (pick y fs) v2 HPX.out HPY.out hfn6 hfn6 (At.owned (owns_below po1 pb2)) (At.owned po2)).mono ?_; rintro e v3 ⟨rfl, pb3⟩; rw [HCM.out]; have Y3 : Below O.heap.size O v3 := Y2.trans (pb3.mono Y2.size); have r4 := cell_later Y3 r1; have y3 := cell_later Y3 y0; have d8 := cell_later Y3 d4
                  (try go_wp2_with fail)
                  refine hK.out _ _ ?_ (fun hHeld' => ?_)
                  · (try dsimp only)
                    exact ⟨r4, y3, d8⟩
                  clear hK K hHeld
                  have hHeld := hHeld'
                  clear hHeld'
                  (try simp only [Act.put, List.setIfInBounds_toArray, List.set_cons_zero, List.set_cons_succ])
                  refine wpAnyH_take (i := 9) (oi := ?_) (v := ?_) ?_ (by kernel_rfl) (by kernel_rfl) (by kernel_rfl) ?_ (Or.inl ⟨?_, ?_⟩) (by assumption) ?_
                  rotate_left 2
                  · (simp only [List.getElem?_toArray, List.getElem?_cons_zero, List.getElem?_cons_succ]; rfl)
                  · exact fun _ _ _ h => h
                  · rfl
                  · (intro wS hSw; (try dsimp only at hSw); go_simp; (try with_reducible rfl))
                  (try simp only [Act.put, List.setIfInBounds_toArray, List.set_cons_zero, List.set_cons_succ])
                  refine wpAnyH_done (by kernel_rfl) ?_ _
                  clear hHeld po1 po2 pb1 pb2 pb3 r2 y1 d6 r3 y2 d7
                  have g2 := cell_later Y3 d5
                  have e6 := cell_later Y3 e4
                  have e7 := cell_later Y3 e5
                  have q7 := blk_below q6 Y3
                  have HX3 := Hid.mk (HXA.out.below Y3)
                  have HY3 := Hid.mk (HYA.out.below Y3)
                  have HT3 := Hid.mk (HTT.out.below Y3)
                  have B3 : Below w.heap.size w v3 := BR.trans (Y3.mono BR.size)
                  have HB6 := Hid.mk (HUR.out.trans (Y3.mono HUR.out.size))
                  clear Y1 Y2 Y3 d8 d4 d5 e4 e5 y0 r1 HXA HYA HTT KP1 KP2 q6 BR
                  go_wp2_with fail
                  obtain ⟨wD, rfl⟩ : ∃ x, x = v3 := ⟨_, rfl⟩
                  go_loopw [51] (fun i wx => ∃ s : Nat, s ≤ tn ∧ i = .int .i64 s ∧ M = (mrgTo x y (ts.drop s)).or N ∧ Below wD.heap.size wD wx) (fun i _ => tn - (intOf i).toNat)
                  case atStart => exact ⟨0, Nat.zero_le _, rfl, HMT.out, Below.refl _ _⟩
                  case round =>
                    clear HMT
                    obtain ⟨s, hsn, rfl, hM, hbw⟩ := hrel
                    have BE : Below w.heap.size w wr := B3.trans (hbw.mono B3.size)
                    have k0 := cell_later hbw r4
                    have k1 := cell_later hbw y3
                    have k2 := cell_later hbw e6
                    have k3 := cell_later hbw e7
                    have q8 := blk_below q7 hbw
                    by_cases hsl : s < tn
                    · obtain ⟨b5, off5, rfl, _, hc5⟩ := (HT3.out.below hbw).some (by have := HTN.out; (try simp only at this); omega)
                      have hcs := hc5 s (by have := HTN.out; (try simp only at this); omega)
                      have hin := colsOk_at hcol2 s (by have := HTN.out; (try simp only at this); omega)
                      rw [mrgTo_step (by have := HTN.out; (try simp only at this); omega)] at hM
                      obtain ⟨v, hv⟩ : ∃ v, ts.getD s 0 = v := ⟨_, rfl⟩
                      rw [hv] at hcs hin hM
                      obtain ⟨l, rfl⟩ : ∃ l : Nat, v = (l : Int) := ⟨v.toNat, by omega⟩
                      have hlq : l < q := by omega
                      obtain ⟨b6, off6, rfl, _, hc6⟩ := (HX3.out.below hbw).some (by have := HXL.out; omega)
                      obtain ⟨b7, off7, rfl, _, hc7⟩ := (HY3.out.below hbw).some (by have := HYL.out; omega)
                      have hx1 := hc6 l (by have := HXL.out; omega)
                      have hy1 := hc7 l (by have := HYL.out; omega)
                      rw [show (l : Int).toNat = l by omega] at hM
                      obtain ⟨u, hu⟩ : ∃ u, x.getD l 0 = u := ⟨_, rfl⟩
                      obtain ⟨u', hu'⟩ : ∃ u, y.getD l 0 = u := ⟨_, rfl⟩
                      rw [hu] at hx1 hM
                      rw [hu'] at hy1 hM
                      have hsi : (s : Int) < (tn : Int) := by omega
                      have hlqi : (l : Int) < (q : Int) := by omega
                      have HM4 := Hid.mk hM
                      have HBW := Hid.mk hbw
                      clear hM hc5 hc6 hc7 hu hu' hv hin
                      by_cases e : u = u'
                      · have HE : Hid (M = (mrgTo x y (ts.drop (s + 1))).or N) := by show _ = _; rw [HM4.out, if_pos e]
                        have hne : (u != u') = false := by simp [e]
                        clear e q8 k2 k3
                        go_wp2_with fail
                        go_quiet (fail)
                        go_wp2
                        go_roundw
                        case rel => exact ⟨s + 1, by omega, by go_num, HE.out, below_drewN HBW.out _⟩
                        case measure => simp [intOf]; omega
                      · have HE : Hid (M = some ((l : Int), gr u u', ls u u')) := by show _ = _; rw [HM4.out, if_neg e]; rfl
                        have hne : (u != u') = true := by simp [e]
                        have HGR := Hid.mk (gr_ne e)
                        have KMD : Hid (∀ w', Below wr.heap.size wr w' → Calls Tryd.prog 61 #[.agg #[.int .i64 p, .slice (some ⟨b1, off1, none⟩) n c], .int .i64 (l : Int), .int .i64 u, .int .i64 u'] w' fun e w'' => ∃ r d, e = .returned (.agg #[.int .i64 p, .slice r n d]) ∧ RRows.Own w'' (From w'.heap.size w''.heap.size) [.slice r n d] (zss.map (mrgIn ((l : Int), gr u u', ls u u'))) ∧ Below w'.heap.size w' w'') := fun w' h => by
                          have hWW : Below w.heap.size w w' := BE.trans (h.mono BE.size)
                          have h9 := l9Made_any p (some ⟨b1, off1, none⟩) n c zss (l : Int) u u' q w' HZ.out (by omega) HROW.out hq6 (by omega) hlqi (AtSl.below HA.out hWW)
                          rw [HGR.out.1, HGR.out.2] at h9
                          exact h9
                        clear e
                        go_wp2_with fail
                        go_quiet (fail)
                        go_upto_region 15 with fail
                        obtain ⟨wE, hwE⟩ : ∃ x, x = wr.drewN nq := ⟨_, rfl⟩
                        have hbE : Below wr.heap.size wr wE := by rw [hwE]; exact below_drewN (Below.refl _ _) _
                        rw [← hwE]
                        clear hwE
                        have n0 := cell_later hbE k0
                        have n1 := cell_later hbE k1
                        have n2 := cell_later hbE k2
                        have n3 := cell_later hbE k3
                        have n4 := cell_later hbE hx1
                        have n5 := cell_later hbE hy1
                        have q9 := blk_below q8 hbE
                        have BF := BE.trans (hbE.mono BE.size)
                        have ze := (Array.getElem?_eq_some_iff.1 q9).1
                        clear k0 k1 k2 k3 hx1 hy1 q8 r4 y3 e6 e7 g2 q7 hcs
                        have zBB : wA.heap.size < wB.heap.size := by have := ZB.out; omega
                        have zCC : wB.heap.size < wC.heap.size := by have := ZC.out; omega
                        refine wp_region_held_drew (S := fun w' => w'.cell? ⟨w.heap.size, 0, none⟩ = some (.int .i64 p) ∧ w'.cell? ⟨w.heap.size, 1, none⟩ = some (.slice (some ⟨b1, off1, none⟩) n c) ∧ w'.cell? ⟨wB.heap.size, 0, none⟩ = some (.slice (some ⟨b6, off6, none⟩) q xc) ∧ w'.cell? ⟨wC.heap.size, 0, none⟩ = some (.slice (some ⟨b7, off7, none⟩) q yc) ∧ w'.cell? ⟨b6, off6 + l, none⟩ = some (.int .i64 u) ∧ w'.cell? ⟨b7, off7 + l, none⟩ = some (.int .i64 u')) (by kernel_rfl) ?_ (fun hHeld => ?_)
                        · (try dsimp only)
                          exact ⟨n2, n3, n0, n1, n4, n5⟩
                        refine wpAnyH_take (i := 0) (oi := ?_) (v := ?_) ?_ (by kernel_rfl) (by kernel_rfl) (by kernel_rfl) ?_ (Or.inl ⟨?_, ?_⟩) (by assumption) ?_
                        rotate_left 2
                        · (simp only [List.getElem?_toArray, List.getElem?_cons_zero]; rfl)
                        · exact fun _ _ _ h => h
                        · rfl
                        · (intro wS hSw; (try dsimp only at hSw); go_simp; (try with_reducible rfl))
                        (try simp only [Act.put, List.setIfInBounds_toArray, List.set_cons_zero, List.set_cons_succ])
                        refine wpAnyH_take (i := 1) (oi := ?_) (v := ?_) ?_ (by kernel_rfl) (by kernel_rfl) (by kernel_rfl) ?_ (Or.inl ⟨?_, ?_⟩) (by assumption) ?_
                        rotate_left 2
                        · (simp only [List.getElem?_toArray, List.getElem?_cons_zero, List.getElem?_cons_succ]; rfl)
                        · exact fun _ _ _ h => h
                        · rfl
                        · (intro wS hSw; (try dsimp only at hSw); go_simp; (try with_reducible rfl))
                        (try simp only [Act.put, List.setIfInBounds_toArray, List.set_cons_zero, List.set_cons_succ])
                        refine wpAnyH_take (i := 2) (oi := ?_) (v := ?_) ?_ (by kernel_rfl) (by kernel_rfl) (by kernel_rfl) ?_ (Or.inl ⟨?_, ?_⟩) (by assumption) ?_
                        rotate_left 2
                        · (simp only [List.getElem?_toArray, List.getElem?_cons_zero, List.getElem?_cons_succ]; rfl)
                        · exact fun _ _ _ h => h
                        · rfl
                        · (intro wS hSw; (try dsimp only at hSw); go_simp; (try with_reducible rfl))
                        (try simp only [Act.put, List.setIfInBounds_toArray, List.set_cons_zero, List.set_cons_succ])
                        refine wpAnyH_take (i := 3) (oi := ?_) (v := ?_) ?_ (by kernel_rfl) (by kernel_rfl) (by kernel_rfl) ?_ (Or.inl ⟨?_, ?_⟩) (by assumption) ?_
                        rotate_left 2
                        · (simp only [List.getElem?_toArray, List.getElem?_cons_zero, List.getElem?_cons_succ]; rfl)
                        · exact fun _ _ _ h => h
                        · rfl
                        · (intro wS hSw; (try dsimp only at hSw); go_simp; (try with_reducible rfl))
                        (try simp only [Act.put, List.setIfInBounds_toArray, List.set_cons_zero, List.set_cons_succ])
                        refine wpAnyH_take (i := 4) (oi := ?_) (v := ?_) ?_ (by kernel_rfl) (by kernel_rfl) (by kernel_rfl) ?_ (Or.inl ⟨?_, ?_⟩) (by assumption) ?_
                        rotate_left 2
                        · (simp only [List.getElem?_toArray, List.getElem?_cons_zero, List.getElem?_cons_succ]; rfl)
                        · exact fun _ _ _ h => h
                        · rfl
                        · (intro wS hSw; (try dsimp only at hSw); go_simp; (try with_reducible rfl))
                        (try simp only [Act.put, List.setIfInBounds_toArray, List.set_cons_zero, List.set_cons_succ])
                        refine wpAnyH_take (i := 5) (oi := ?_) (v := ?_) ?_ (by kernel_rfl) (by kernel_rfl) (by kernel_rfl) ?_ (Or.inl ⟨?_, ?_⟩) (by assumption) ?_
                        rotate_left 2
                        · (simp only [List.getElem?_toArray, List.getElem?_cons_zero, List.getElem?_cons_succ]; rfl)
                        · exact fun _ _ _ h => h
                        · rfl
                        · (intro wS hSw; (try dsimp only at hSw); go_simp; (try with_reducible rfl))
                        (try simp only [Act.put, List.setIfInBounds_toArray, List.set_cons_zero, List.set_cons_succ])
                        refine wpAnyH_take (i := 6) (oi := ?_) (v := ?_) ?_ (by kernel_rfl) (by kernel_rfl) (by kernel_rfl) ?_ (Or.inl ⟨?_, ?_⟩) (by assumption) ?_
                        rotate_left 2
                        · (simp only [List.getElem?_toArray, List.getElem?_cons_zero, List.getElem?_cons_succ]; rfl)
                        · exact fun _ _ _ h => h
                        · rfl
                        · (intro wS hSw; (try dsimp only at hSw); go_simp; (try with_reducible rfl))
                        (try simp only [Act.put, List.setIfInBounds_toArray, List.set_cons_zero, List.set_cons_succ])
                        refine wpAnyH_take (i := 7) (oi := ?_) (v := ?_) ?_ (by kernel_rfl) (by kernel_rfl) (by kernel_rfl) ?_ (Or.inl ⟨?_, ?_⟩) (by assumption) ?_
                        rotate_left 2
                        · (simp only [List.getElem?_toArray, List.getElem?_cons_zero, List.getElem?_cons_succ]; rfl)
                        · exact fun _ _ _ h => h
                        · rfl
                        · (intro wS hSw; (try dsimp only at hSw); go_simp; (try with_reducible rfl))
                        (try simp only [Act.put, List.setIfInBounds_toArray, List.set_cons_zero, List.set_cons_succ])
                        refine wpAnyH_take (i := 8) (oi := ?_) (v := ?_) ?_ (by kernel_rfl) (by kernel_rfl) (by kernel_rfl) ?_ (Or.inl ⟨?_, ?_⟩) (by assumption) ?_
                        rotate_left 2
                        · (simp only [List.getElem?_toArray, List.getElem?_cons_zero, List.getElem?_cons_succ]; rfl)
                        · exact fun _ _ _ h => h
                        · rfl
                        · (intro wS hSw; (try dsimp only at hSw); go_simp; (try with_reducible rfl))
                        (try simp only [Act.put, List.setIfInBounds_toArray, List.set_cons_zero, List.set_cons_succ])
                        refine wpAnyH_take (i := 9) (oi := ?_) (v := ?_) ?_ (by kernel_rfl) (by kernel_rfl) (by kernel_rfl) ?_ (Or.inl ⟨?_, ?_⟩) (by assumption) ?_
                        rotate_left 2
                        · (simp only [List.getElem?_toArray, List.getElem?_cons_zero, List.getElem?_cons_succ]; rfl)
                        · exact fun _ _ _ h => h
                        · rfl
                        · (intro wS hSw; (try dsimp only at hSw); go_simp; (try with_reducible rfl))
                        (try simp only [Act.put, List.setIfInBounds_toArray, List.set_cons_zero, List.set_cons_succ])
                        refine wpAnyH_take (i := 10) (oi := ?_) (v := ?_) ?_ (by kernel_rfl) (by kernel_rfl) (by kernel_rfl) ?_ (Or.inl ⟨?_, ?_⟩) (by assumption) ?_
                        rotate_left 2
                        · (simp only [List.getElem?_toArray, List.getElem?_cons_zero, List.getElem?_cons_succ]; rfl)
                        · exact fun _ _ _ h => h
                        · rfl
                        · (intro wS hSw; (try dsimp only at hSw); go_simp; (try with_reducible rfl))
                        (try simp only [Act.put, List.setIfInBounds_toArray, List.set_cons_zero, List.set_cons_succ])
                        refine wpAnyH_take (i := 11) (oi := ?_) (v := ?_) ?_ (by kernel_rfl) (by kernel_rfl) (by kernel_rfl) ?_ (Or.inl ⟨?_, ?_⟩) (by assumption) ?_
                        rotate_left 2
                        · (simp only [List.getElem?_toArray, List.getElem?_cons_zero, List.getElem?_cons_succ]; rfl)
                        · exact fun _ _ _ h => h
                        · rfl
                        · (intro wS hSw; (try dsimp only at hSw); go_simp; (try with_reducible rfl))
                        (try simp only [Act.put, List.setIfInBounds_toArray, List.set_cons_zero, List.set_cons_succ])
                        refine wpAnyH_ready (rs := [12]) (by kernel_rfl) (by simp) ?_
                        refine AllReadyH.cons (o := ?_) ?_ (fun K hK => ?_) AllReadyH.nil
                        rotate_left
                        · (simp only [List.getElem?_toArray, List.getElem?_cons_zero, List.getElem?_cons_succ]; rfl)
                        go_simp
                        go_at_call 61; refine (KMD.out _ (hbE.drew)).mono ?_; rintro e v5 ⟨rr, rd, rfl, ro, rb⟩; have Y5 : Below wE.heap.size wE v5 := (Below.refl _ _).drew.trans rb; have l0 := cell_later Y5 n0; have l1 := cell_later Y5 n1; have l2 := cell_later Y5 n2; have l3 := cell_later Y5 n3; have l4 := cell_later Y5 n4; have l5 := cell_later Y5 n5; have q11 := blk_below q9 Y5; have s0 := blk_cell q11 0 (v := .int .i64 0) rfl; have s1 := blk_cell q11 1 (v := .slice none 0 0) rfl; have f0 := blk_frozen q11 0; have f1 := blk_frozen q11 1
                        (try go_wp2_with fail)
                        refine hK.out _ _ ?_ (fun hHeld' => ?_)
                        · (try dsimp only)
                          exact ⟨l2, l3, l0, l1, l4, l5⟩
                        clear hK K hHeld
                        have hHeld := hHeld'
                        clear hHeld'
                        (try simp only [Act.put, List.setIfInBounds_toArray, List.set_cons_zero, List.set_cons_succ])
                        have nb6 : b6 < w.heap.size := HXB.out (by have := HXL.out; omega) b6 off6 rfl
                        have nb7 : b7 < w.heap.size := HYB.out (by have := HYL.out; omega) b7 off7 rfl
                        have zB : w.heap.size + 1 < wB.heap.size := by omega
                        have zC : w.heap.size + 1 < wC.heap.size := by omega
                        refine wpAnyH_ready (rs := [13]) (by kernel_rfl) (by simp) ?_
                        refine AllReadyH.cons (o := ?_) ?_ (fun K hK => ?_) AllReadyH.nil
                        rotate_left
                        · (simp only [List.getElem?_toArray, List.getElem?_cons_zero, List.getElem?_cons_succ]; rfl)
                        go_simp
                        skip
                        (try go_wp2_with fail)
                        refine hK.out _ _ ?_ (fun hHeld' => ?_)
                        · (try dsimp only)
                          exact ⟨keep_far (keep_far l2 (by omega)) (by omega), keep_far (keep_far l3 (by omega)) (by omega), keep_far (keep_far l0 (by omega)) (by omega), keep_far (keep_far l1 (by omega)) (by omega), keep_far (keep_far l4 (by omega)) (by omega), keep_far (keep_far l5 (by omega)) (by omega)⟩
                        clear hK K hHeld
                        have hHeld := hHeld'
                        clear hHeld'
                        (try simp only [Act.put, List.setIfInBounds_toArray, List.set_cons_zero, List.set_cons_succ])
                        refine wpAnyH_take (i := 14) (oi := ?_) (v := ?_) ?_ (by kernel_rfl) (by kernel_rfl) (by kernel_rfl) ?_ (Or.inl ⟨?_, ?_⟩) (by assumption) ?_
                        rotate_left 2
                        · (simp only [List.getElem?_toArray, List.getElem?_cons_zero, List.getElem?_cons_succ]; rfl)
                        · exact fun _ _ _ h => h
                        · rfl
                        · (intro wS hSw; (try dsimp only at hSw); go_simp; (try with_reducible rfl))
                        (try simp only [Act.put, List.setIfInBounds_toArray, List.set_cons_zero, List.set_cons_succ])
                        refine wpAnyH_done (by kernel_rfl) ?_ _
                        have B7 : Below w.heap.size w v5 := BF.trans (Y5.mono BF.size)
                        have HRO := Hid.mk ro
                        have zr5 := Y5.size
                        have zr4 := hbE.size
                        clear hHeld l0 l1 l2 l3 l4 l5 q11 ro rb Y5
                        go_wp2
                        refine bodyPost_ret (v := .tuple #[.agg #[.int .i64 p, .slice rr n rd], .bool true]) (by simp [results, Tryd.results51, go_sem, s0, s1]) rfl ⟨?_, ?_⟩
                        · rw [HE.out]
                          refine ⟨rr, n, rd, rfl, ?_⟩
                          refine RRows.mono (RRows.ownOff (RRows.ownOff HRO.out (Off.set (F := From 0 wE.heap.size) (a := ⟨w.heap.size + 1, 0, none⟩) ⟨by simp, by simp; omega⟩ _) (fun b h h' => by have h1 : wE.heap.size ≤ b := h.1; have := h'.2; omega)) (Off.set (F := From 0 wE.heap.size) (a := ⟨w.heap.size + 1, 1, none⟩) ⟨by simp, by simp; omega⟩ _) (fun b h h' => by have h1 : wE.heap.size ≤ b := h.1; have := h'.2; omega)) (fun b h => ⟨by have h1 : wE.heap.size ≤ b := h.1; omega, by have := h.2; simp only [World.setCell, Array.size_modify]; omega⟩)
                        · exact (B7.setCell (by simp) _).setCell (by simp) _
                    · obtain rfl : s = tn := by omega
                      have HNX : Hid (M = N) := by show _ = _; rw [hM, mrgTo_done HTN.out]; rfl
                      have HB8 := Hid.mk (HB6.out.trans (hbw.mono HB6.out.size))
                      clear hM hbw k0 k1 k2 k3 q8
                      go_wp2
                      go_roundw
                      case rel => exact ⟨t + 1, by omega, by go_num, by rw [HNX.out, ← HN.out]; rfl, HB8.out⟩
                      case measure => simp [intOf]; omega
              · obtain rfl : t = m := by omega
                have HN : Hid (M = Y) := by show _ = _; rw [hM, mrgRow_done (by have := HZ.out; have := HMN.out; omega)]; rfl
                have HB9 := Hid.mk (HVU.out.trans (hbw.mono HVU.out.size))
                clear hM hbw
                go_wp2
                go_roundw
                case rel => exact ⟨j + 1, by omega, by go_num, by rw [HN.out, ← HY.out], HB9.out⟩
                case measure => simp [intOf]; omega
        · obtain rfl : j = n := by omega
          have HN : Hid (M = Z) := by show _ = _; rw [hM, mrgRows_done (by have := HZ.out; omega)]; rfl
          have HB9 := Hid.mk (HWV.out.trans (hbw.mono HWV.out.size))
          clear hM hbw
          go_wp2
          go_roundw
          case rel => exact ⟨k + 1, by omega, by go_num, by rw [HN.out, ← HZ'.out], HB9.out⟩
          case measure => simp [intOf]; omega
    · obtain rfl : k = ln := by omega
      have HN : Hid (M = none) := by show _ = _; rw [hM]; exact mrgAll_done (by have := HLZ.out; omega)
      have e0 := blk_cell q5 0 (v := .int .i64 0) rfl
      have e1 := blk_cell q5 1 (v := .slice none 0 0) rfl
      have f0 := blk_frozen q5 0
      have f1 := blk_frozen q5 1
      clear hM q4 q5
      go_wp2
      refine bodyPost_ret (v := .tuple #[.agg #[.int .i64 0, .slice none 0 0], .bool false]) (by simp [results, Tryd.results51, go_sem, e0, e1]) rfl ⟨?_, ?_⟩
      · rw [HN.out]; exact ⟨none, 0, 0, rfl, RRows.nil _ _⟩
      · exact (BA.setCell (by simp) _).setCell (by simp) _

end Go.Proofs.YthliamoeplgblaaDoor
