/- Contract of spec.GroupTable. -/
import Derived.Test.YtlfljfmhhnoinabM20
import Derived.Test.YtlfljfmhhnoinabM24
import Derived.Test.YtlfljfmhhnoinabM10
namespace Go.Proofs.Ytlfljfmhhnoinab
open Go.RowKit

set_option maxRecDepth 100000 in
set_option maxHeartbeats 8000000 in
theorem specGroupTable (a a' : Option Addr) (n n' c c' : Nat) (ts : List WRow) (cols : List Int) (p s : Int) (w : World) (hz : ts.length = n) (hn : n ≤ 1048576) (hz' : cols.length = n') (hn' : n' ≤ 1048576) (ha : AtW w a ts) (ha' : At w a' cols) :
    Calls Try.prog 7 #[.agg #[.int .i64 p, .slice a n c], .slice a' n' c', .int .i64 s] w fun e w' => GrpRet e w' w.heap.size (gtB p ts cols s) (ansG (gtB p ts cols s) (gtL ts cols s.toNat)) ∧ Below w.heap.size w w' := by
  have B0 : Below w.heap.size w (w.alloc (.cells #[.int .i64 p, .slice a n c] 32)) := (Below.refl _ _).alloc (Nat.le_refl _) _
  have c0 := pair0 w (.int .i64 p) (.slice a n c) 32
  have c1 := pair1 w (.int .i64 p) (.slice a n c) 32
  have HA := Hid.mk ha
  have HA' := Hid.mk ha'
  clear ha ha'
  cases hg : goodT p ts with
  | false =>
    have HG := Hid.mk hg
    clear hg
    go_enter Try.func7, Try.ntmps7
    go_wp2_with (go_at_call 38; refine (specGoodTable_any _ _ _ ts _ _ hz hn (HA.out.below B0)).mono ?_; rintro e w1 ⟨rfl, hb1⟩; rw [HG.out]; have k0 := cell_later hb1 c0; have k1 := cell_later hb1 c1; have B1 := B0.trans (hb1.mono B0.size))
    refine bodyPost_ret (v := .tuple #[.slice none 0 0, .bool false]) (by simp [results, Try.results7, go_sem]) rfl ⟨GrpRet.zero (gtB_t HG.out) rfl, B1⟩
  | true =>
    have HG := Hid.mk hg
    have hinc := inc_range (goodT_parts hg).1
    clear hg
    obtain ⟨q, hq⟩ : ∃ q : Nat, p = q := ⟨p.toNat, by omega⟩
    subst hq
    have h6 : q ≤ 6 := by omega
    cases hco : colsOk cols q with
    | false =>
      have HCO := Hid.mk hco
      clear hco
      go_enter Try.func7, Try.ntmps7
      go_wp2_with (first | (go_at_call 38; refine (specGoodTable_any _ _ _ ts _ _ hz hn (HA.out.below B0)).mono ?_; rintro e w1 ⟨rfl, hb1⟩; rw [HG.out]; have k0 := cell_later hb1 c0; have k1 := cell_later hb1 c1; have B1 := B0.trans (hb1.mono B0.size)) | (go_at_call 39; refine (l1Columns_any _ _ _ cols q _ hz' (by omega) (by omega) (HA'.out.below B1)).mono ?_; rintro e w2 ⟨rfl, hw2⟩; (try subst hw2); rw [HCO.out]))
      refine bodyPost_ret (v := .tuple #[.slice none 0 0, .bool false]) (by simp [results, Try.results7, go_sem]) rfl ⟨GrpRet.zero (gtB_c HCO.out) rfl, B1⟩
    | true =>
      have HCO := Hid.mk hco
      have hn6 : n' ≤ 6 := by have := colsOk_len hco; omega
      clear hco
      by_cases hs0 : s < 0
      · go_enter Try.func7, Try.ntmps7
        go_wp2_with (first | (go_at_call 38; refine (specGoodTable_any _ _ _ ts _ _ hz hn (HA.out.below B0)).mono ?_; rintro e w1 ⟨rfl, hb1⟩; rw [HG.out]; have k0 := cell_later hb1 c0; have k1 := cell_later hb1 c1; have B1 := B0.trans (hb1.mono B0.size)) | (go_at_call 39; refine (l1Columns_any _ _ _ cols q _ hz' (by omega) (by omega) (HA'.out.below B1)).mono ?_; rintro e w2 ⟨rfl, hw2⟩; (try subst hw2); rw [HCO.out]))
        refine bodyPost_ret (v := .tuple #[.slice none 0 0, .bool false]) (by simp [results, Try.results7, go_sem]) rfl ⟨GrpRet.zero (gtB_0 hs0) rfl, B1⟩
      · by_cases hsp : (q : Int) ≤ s
        · go_enter Try.func7, Try.ntmps7
          go_wp2_with (first | (go_at_call 38; refine (specGoodTable_any _ _ _ ts _ _ hz hn (HA.out.below B0)).mono ?_; rintro e w1 ⟨rfl, hb1⟩; rw [HG.out]; have k0 := cell_later hb1 c0; have k1 := cell_later hb1 c1; have B1 := B0.trans (hb1.mono B0.size)) | (go_at_call 39; refine (l1Columns_any _ _ _ cols q _ hz' (by omega) (by omega) (HA'.out.below B1)).mono ?_; rintro e w2 ⟨rfl, hw2⟩; (try subst hw2); rw [HCO.out]))
          refine bodyPost_ret (v := .tuple #[.slice none 0 0, .bool false]) (by simp [results, Try.results7, go_sem]) rfl ⟨GrpRet.zero (gtB_p hsp) rfl, B1⟩
        · obtain ⟨S, hS⟩ : ∃ S : Nat, s = S := ⟨s.toNat, by omega⟩
          subst hS
          have hSq : S < q := by omega
          have hqS : decide (q ≤ S) = false := decide_eq_false (by omega)
          have hn60 : n ≤ 60 := by have := (goodT_parts HG.out).2.1; omega
          have HRM := Hid.mk (gtRows_mem HG.out HCO.out hSq)
          have HRB := Hid.mk (gtB_yes (s := (S : Int)) HG.out HCO.out (by omega) (by omega))
          go_enter Try.func7, Try.ntmps7
          go_wp2_with (first | (go_at_call 38; refine (specGoodTable_any _ _ _ ts _ _ hz hn (HA.out.below B0)).mono ?_; rintro e w1 ⟨rfl, hb1⟩; rw [HG.out]; have k0 := cell_later hb1 c0; have k1 := cell_later hb1 c1; have B1 := B0.trans (hb1.mono B0.size)) | (go_at_call 39; refine (l1Columns_any _ _ _ cols q _ hz' (by omega) (by omega) (HA'.out.below B1)).mono ?_; rintro e w2 ⟨rfl, hw2⟩; (try subst hw2); rw [HCO.out]))
          obtain ⟨w4, hw4⟩ : ∃ x, x = w2 := ⟨_, rfl⟩
          rw [← hw4] at B1 k0 k1 ⊢
          clear hw4
          go_loopw [8, 34] (fun l i wr => ∃ (j : Nat) (r : Option Addr) (m d : Nat), j ≤ n ∧ i = .int .i64 j ∧ l = .slice r m d ∧ (putAllV [] ((gtRows ts cols S).take j)).length = m ∧ Formed r m d ∧ AtN wr r (putAllV [] ((gtRows ts cols S).take j)) ∧ Below w4.heap.size w4 wr) (fun _ i _ => n - (intOf i).toNat)
          case atStart => exact ⟨0, none, 0, 0, Nat.zero_le _, rfl, rfl, rfl, Formed.nil, atN_nil _ _, Below.refl _ _⟩
          case round =>
            obtain ⟨j, r, m, d, hj, rfl, rfl, hm, hF, har, hbw⟩ := hrel
            have B3 : Below w.heap.size w wr := B1.trans (hbw.mono B1.size)
            by_cases hjt : j < n
            · obtain ⟨b, off, rfl, hc⟩ := (HA.out.below B3).some (by omega)
              obtain ⟨rq, dd, hcx, hwx, hm1, hat⟩ := hc j (by omega)
              have hji : (j : Int) < (n : Int) := by omega
              obtain ⟨g1, g2, g3, g4⟩ := gt_at HG.out HCO.out hSq j (by omega)
              have HRA := Hid.mk (gtRows_at ts cols S j (by omega))
              have HPT := Hid.mk (putAllV_take [] (gtRows ts cols S) j (by rw [gtRows_length]; omega))
              have hml : m ≤ j := by have := putAllV_len ((gtRows ts cols S).take j) []; rw [List.length_take] at this; simp at this; omega
              have HGO : Hid (∀ i, i < m → (gat (putAllV [] ((gtRows ts cols S).take j)) i).1.length ≤ 6 ∧ InA 2000000000000000000 (gat (putAllV [] ((gtRows ts cols S).take j)) i).2) := fun i hi => by
                have hme := gat_mem (show i < (putAllV [] ((gtRows ts cols S).take j)).length by omega)
                exact ⟨putAllV_six (fun t ht => (HRM.out t (List.mem_of_mem_take ht)).1) _ hme, (take_in (by omega) (fun t ht => (HRM.out t ht).2.2) j 60 (by omega) _ hme).mono (by omega)⟩
              generalize wat ts j = Y at *
              obtain ⟨ys, x⟩ := Y
              simp only at hcx hwx hat hm1 g1 g2 g3 g4
              rw [HRA.out] at HPT
              simp only at HPT
              obtain ⟨bq, oq, rfl, _, hcq⟩ := hat.some (by omega)
              have hcz := hcq S (by omega)
              have hmc := mul_cell g3.1 g3.2 g4.1 g4.2
              obtain ⟨z, hzz⟩ : ∃ z, z = ys.getD S 0 := ⟨_, rfl⟩
              rw [← hzz] at hcz hmc HPT
              obtain ⟨P, hP⟩ : ∃ P, P = x * z := ⟨_, rfl⟩
              have hw1 : IntKind.i64.wrap (x * z) = P := by rw [hP]; exact IntWalk.i64_in _ (by omega)
              have hw2 : Go.RowKit.wrap64 (x * z) = P := by rw [hP]; unfold Go.RowKit.wrap64; omega
              rw [← hP] at hmc HPT
              have HXP : Hid (InA 100000000000 (x, P)) := ⟨by show -100000000000 ≤ x; omega, by show x ≤ 100000000000; omega, hmc.1, hmc.2⟩
              have HG2 : Hid (colsOk cols ys.length = true) := by show _ = _; rw [g2]; exact HCO.out
              have HPG := Hid.mk (pick_good g1 g2 HCO.out)
              obtain ⟨m2, hmm⟩ : ∃ m, ys.length = m := ⟨_, rfl⟩
              rw [hmm] at hcx hm1
              have HM := Hid.mk hmm
              have hSm : (S : Int) < (m2 : Int) := by omega
              have hSm' : S < m2 := by omega
              clear hc g1 g2 g3 g4 hmm hcq hzz hP hmc
              obtain ⟨V, hV⟩ : ∃ V, V = wr.alloc (.cells #[.slice (some ⟨bq, oq, none⟩) m2 dd, .int .i64 x] 69) := ⟨_, rfl⟩
              have hbV : Below wr.heap.size wr V := by rw [hV]; exact (Below.refl _ _).alloc (Nat.le_refl _) _
              have v0 : V.cell? ⟨wr.heap.size, 0, none⟩ = some (.slice (some ⟨bq, oq, none⟩) m2 dd) := by rw [hV]; exact pair0 wr _ _ _
              have v1 : V.cell? ⟨wr.heap.size, 1, none⟩ = some (.int .i64 x) := by rw [hV]; exact pair1 wr _ _ _
              have vz := cell_later hbV hcz
              have B4 : Below w.heap.size w V := B3.trans (hbV.mono B3.size)
              have Y4 : Below w4.heap.size w4 V := hbw.trans (hbV.mono hbw.size)
              have HATV := Hid.mk (hat.below hbV).drew
              have HARV := Hid.mk (har.below hbV).drew
              have HCV := Hid.mk (HA'.out.below B4).drew
              have HML := Hid.mk hm
              have HF := Hid.mk hF
              go_wp2_with fail
              rw [← hV]
              clear hV hcx hwx hat hbV har hm hF hbw B3 B4 hcz
              refine wp_region_held_drew (S := fun w' => w'.cell? ⟨wr.heap.size, 0, none⟩ = some (.slice (some ⟨bq, oq, none⟩) m2 dd) ∧ w'.cell? ⟨wr.heap.size, 1, none⟩ = some (.int .i64 x) ∧ w'.cell? ⟨bq, oq + S, none⟩ = some (.int .i64 z)) (by kernel_rfl) ?_ (fun hHeld => ?_)
              · (try dsimp only)
                exact ⟨v0, v1, vz⟩
              refine wpAnyH_take (i := 0) (oi := ?_) (v := ?_) ?_ (by kernel_rfl) (by kernel_rfl) (by kernel_rfl) ?_ (Or.inl ⟨?_, ?_⟩) (by assumption) ?_
              rotate_left 2
              · (simp only [List.getElem?_toArray, List.getElem?_cons_zero]; rfl)
              · exact fun _ _ _ h => h
              · rfl
              · (intro wS hSw; (try dsimp only at hSw); go_simp; (try with_reducible rfl))
              (try simp only [Act.put, List.setIfInBounds_toArray, List.set_cons_zero, List.set_cons_succ])
              refine wpAnyH_take (i := 1) (oi := ?_) (v := ?_) ?_ (by kernel_rfl) (by kernel_rfl) (by kernel_rfl) ?_ (Or.inl ⟨?_, ?_⟩) (by assumption) ?_
              rotate_left 2
              · (simp only [List.getElem?_toArray, List.getElem?_cons_zero, List.getElem?_cons_succ]; rfl)
              · exact fun _ _ _ h => h
              · rfl
              · (intro wS hSw; (try dsimp only at hSw); go_simp; (try with_reducible rfl))
              (try simp only [Act.put, List.setIfInBounds_toArray, List.set_cons_zero, List.set_cons_succ])
              refine wpAnyH_take (i := 2) (oi := ?_) (v := ?_) ?_ (by kernel_rfl) (by kernel_rfl) (by kernel_rfl) ?_ (Or.inl ⟨?_, ?_⟩) (by assumption) ?_
              rotate_left 2
              · (simp only [List.getElem?_toArray, List.getElem?_cons_zero, List.getElem?_cons_succ]; rfl)
              · exact fun _ _ _ h => h
              · rfl
              · (intro wS hSw; (try dsimp only at hSw); go_simp; (try with_reducible rfl))
              (try simp only [Act.put, List.setIfInBounds_toArray, List.set_cons_zero, List.set_cons_succ])
              refine wpAnyH_take (i := 3) (oi := ?_) (v := ?_) ?_ (by kernel_rfl) (by kernel_rfl) (by kernel_rfl) ?_ (Or.inl ⟨?_, ?_⟩) (by assumption) ?_
              rotate_left 2
              · (simp only [List.getElem?_toArray, List.getElem?_cons_zero, List.getElem?_cons_succ]; rfl)
              · exact fun _ _ _ h => h
              · rfl
              · (intro wS hSw; (try dsimp only at hSw); go_simp; (try with_reducible rfl))
              (try simp only [Act.put, List.setIfInBounds_toArray, List.set_cons_zero, List.set_cons_succ])
              refine wpAnyH_take (i := 5) (oi := ?_) (v := ?_) ?_ (by kernel_rfl) (by kernel_rfl) (by kernel_rfl) ?_ (Or.inl ⟨?_, ?_⟩) (by assumption) ?_
              rotate_left 2
              · (simp only [List.getElem?_toArray, List.getElem?_cons_zero, List.getElem?_cons_succ]; rfl)
              · exact fun _ _ _ h => h
              · rfl
              · (intro wS hSw; (try dsimp only at hSw); go_simp; (try with_reducible rfl))
              (try simp only [Act.put, List.setIfInBounds_toArray, List.set_cons_zero, List.set_cons_succ])
              refine wpAnyH_take (i := 6) (oi := ?_) (v := ?_) ?_ (by kernel_rfl) (by kernel_rfl) (by kernel_rfl) ?_ (Or.inl ⟨?_, ?_⟩) (by assumption) ?_
              rotate_left 2
              · (simp only [List.getElem?_toArray, List.getElem?_cons_zero, List.getElem?_cons_succ]; rfl)
              · exact fun _ _ _ h => h
              · rfl
              · (intro wS hSw; (try dsimp only at hSw); go_simp; (try with_reducible rfl))
              (try simp only [Act.put, List.setIfInBounds_toArray, List.set_cons_zero, List.set_cons_succ])
              refine wpAnyH_take (i := 7) (oi := ?_) (v := ?_) ?_ (by kernel_rfl) (by kernel_rfl) (by kernel_rfl) ?_ (Or.inl ⟨?_, ?_⟩) (by assumption) ?_
              rotate_left 2
              · (simp only [List.getElem?_toArray, List.getElem?_cons_zero, List.getElem?_cons_succ]; rfl)
              · exact fun _ _ _ h => h
              · rfl
              · (intro wS hSw; (try dsimp only at hSw); go_simp; (try with_reducible rfl))
              (try simp only [Act.put, List.setIfInBounds_toArray, List.set_cons_zero, List.set_cons_succ])
              refine wpAnyH_take (i := 8) (oi := ?_) (v := ?_) ?_ (by kernel_rfl) (by kernel_rfl) (by kernel_rfl) ?_ (Or.inl ⟨?_, ?_⟩) (by assumption) ?_
              rotate_left 2
              · (simp only [List.getElem?_toArray, List.getElem?_cons_zero, List.getElem?_cons_succ]; rfl)
              · exact fun _ _ _ h => h
              · rfl
              · (intro wS hSw; (try dsimp only at hSw); go_simp; (try with_reducible rfl))
              (try simp only [Act.put, List.setIfInBounds_toArray, List.set_cons_zero, List.set_cons_succ])
              refine wpAnyH_take (i := 9) (oi := ?_) (v := ?_) ?_ (by kernel_rfl) (by kernel_rfl) (by kernel_rfl) ?_ (Or.inl ⟨?_, ?_⟩) (by assumption) ?_
              rotate_left 2
              · (simp only [List.getElem?_toArray, List.getElem?_cons_zero, List.getElem?_cons_succ]; rfl)
              · exact fun _ _ _ h => h
              · rfl
              · (intro wS hSw; (try dsimp only at hSw); go_simp; (try with_reducible rfl))
              (try simp only [Act.put, List.setIfInBounds_toArray, List.set_cons_zero, List.set_cons_succ])
              refine wpAnyH_take (i := 10) (oi := ?_) (v := ?_) ?_ (by kernel_rfl) (by kernel_rfl) (by kernel_rfl) ?_ (Or.inl ⟨?_, ?_⟩) (by assumption) ?_
              rotate_left 2
              · (simp only [List.getElem?_toArray, List.getElem?_cons_zero, List.getElem?_cons_succ]; rfl)
              · exact fun _ _ _ h => h
              · rfl
              · (intro wS hSw; (try dsimp only at hSw); go_simp; (try with_reducible rfl))
              (try simp only [Act.put, List.setIfInBounds_toArray, List.set_cons_zero, List.set_cons_succ])
              refine wpAnyH_take (i := 11) (oi := ?_) (v := ?_) ?_ (by kernel_rfl) (by kernel_rfl) (by kernel_rfl) ?_ (Or.inl ⟨?_, ?_⟩) (by assumption) ?_
              rotate_left 2
              · (simp only [List.getElem?_toArray, List.getElem?_cons_zero, List.getElem?_cons_succ]; rfl)
              · exact fun _ _ _ h => h
              · rfl
              · (intro wS hSw; (try dsimp only at hSw); go_simp; (try with_reducible rfl))
              (try simp only [Act.put, List.setIfInBounds_toArray, List.set_cons_zero, List.set_cons_succ])
              refine wpAnyH_take (i := 12) (oi := ?_) (v := ?_) ?_ (by kernel_rfl) (by kernel_rfl) (by kernel_rfl) ?_ (Or.inl ⟨?_, ?_⟩) (by assumption) ?_
              rotate_left 2
              · (simp only [List.getElem?_toArray, List.getElem?_cons_zero, List.getElem?_cons_succ]; rfl)
              · exact fun _ _ _ h => h
              · rfl
              · (intro wS hSw; (try dsimp only at hSw); go_simp; (try with_reducible rfl))
              (try simp only [Act.put, List.setIfInBounds_toArray, List.set_cons_zero, List.set_cons_succ])
              refine wpAnyH_take (i := 13) (oi := ?_) (v := ?_) ?_ (by kernel_rfl) (by kernel_rfl) (by kernel_rfl) ?_ (Or.inl ⟨?_, ?_⟩) (by assumption) ?_
              rotate_left 2
              · (simp only [List.getElem?_toArray, List.getElem?_cons_zero, List.getElem?_cons_succ]; rfl)
              · exact fun _ _ _ h => h
              · rfl
              · (intro wS hSw; (try dsimp only at hSw); go_simp; (try with_reducible rfl))
              (try simp only [Act.put, List.setIfInBounds_toArray, List.set_cons_zero, List.set_cons_succ])
              refine wpAnyH_take (i := 14) (oi := ?_) (v := ?_) ?_ (by kernel_rfl) (by kernel_rfl) (by kernel_rfl) ?_ (Or.inl ⟨?_, ?_⟩) (by assumption) ?_
              rotate_left 2
              · (simp only [List.getElem?_toArray, List.getElem?_cons_zero, List.getElem?_cons_succ]; rfl)
              · exact fun _ _ _ h => h
              · rfl
              · (intro wS hSw; (try dsimp only at hSw); go_simp; (try with_reducible rfl))
              (try simp only [Act.put, List.setIfInBounds_toArray, List.set_cons_zero, List.set_cons_succ])
              refine wpAnyH_take (i := 15) (oi := ?_) (v := ?_) ?_ (by kernel_rfl) (by kernel_rfl) (by kernel_rfl) ?_ (Or.inl ⟨?_, ?_⟩) (by assumption) ?_
              rotate_left 2
              · (simp only [List.getElem?_toArray, List.getElem?_cons_zero, List.getElem?_cons_succ]; rfl)
              · exact fun _ _ _ h => h
              · rfl
              · (intro wS hSw; (try dsimp only at hSw); go_simp; (try with_reducible rfl))
              (try simp only [Act.put, List.setIfInBounds_toArray, List.set_cons_zero, List.set_cons_succ])
              refine wpAnyH_ready (rs := [4]) (by kernel_rfl) (by simp) ?_
              refine AllReadyH.cons (o := ?_) ?_ (fun K hK => ?_) AllReadyH.nil
              rotate_left
              · (simp only [List.getElem?_toArray, List.getElem?_cons_zero, List.getElem?_cons_succ]; rfl)
              go_simp
              go_at_call 41; refine (l1Pick_any _ _ _ _ _ _ ys cols _ HM.out hz' hm1 HATV.out HCV.out HG2.out).mono ?_; rintro e w5 ⟨r4, d4, rfl, ho4, hb4⟩; have i0 := cell_later (w := V.drew) hb4 v0; have i1 := cell_later (w := V.drew) hb4 v1; have i2 := cell_later (w := V.drew) hb4 vz; have HAR4 := Hid.mk (HARV.out.below hb4); have HO4 := Hid.mk ho4; have Y5 := Y4.drew.trans (hb4.mono Y4.size); clear ho4
              (try go_wp2_with fail)
              refine hK.out _ _ ?_ (fun hHeld' => ?_)
              · (try dsimp only)
                exact ⟨i0, i1, i2⟩
              clear hK K hHeld
              have hHeld := hHeld'
              clear hHeld'
              (try simp only [Act.put, List.setIfInBounds_toArray, List.set_cons_zero, List.set_cons_succ])
              refine wpAnyH_take (i := 16) (oi := ?_) (v := ?_) ?_ (by kernel_rfl) (by kernel_rfl) (by kernel_rfl) ?_ (Or.inl ⟨?_, ?_⟩) (by assumption) ?_
              rotate_left 2
              · (simp only [List.getElem?_toArray, List.getElem?_cons_zero, List.getElem?_cons_succ]; rfl)
              · exact fun _ _ _ h => h
              · rfl
              · (intro wS hSw; (try dsimp only at hSw); go_simp; (try with_reducible rfl))
              (try simp only [Act.put, List.setIfInBounds_toArray, List.set_cons_zero, List.set_cons_succ])
              refine wpAnyH_ready (rs := [17]) (by kernel_rfl) (by simp) ?_
              refine AllReadyH.cons (o := ?_) ?_ (fun K hK => ?_) AllReadyH.nil
              rotate_left
              · (simp only [List.getElem?_toArray, List.getElem?_cons_zero, List.getElem?_cons_succ]; rfl)
              go_simp
              go_at_call 40; refine (l5Put_any _ _ _ _ _ _ (putAllV [] ((gtRows ts cols S).take j)) (pick ys cols) x P _ HML.out (by rw [HPG.out.2]; exact hz') (by omega) HF.out (by omega) (owns_nil HO4.out) HGO.out (HXP.out.mono (by omega)) HAR4.out (At.owned HO4.out)).mono ?_; rintro e w6 ⟨r5, m5, d5, rfl, hm5, hF5, ha5, hb5⟩; have j0 := cell_later hb5 i0; have j1 := cell_later hb5 i1; have j2 := cell_later hb5 i2
              (try go_wp2_with fail)
              refine hK.out _ _ ?_ (fun hHeld' => ?_)
              · (try dsimp only)
                exact ⟨j0, j1, j2⟩
              clear hK K hHeld
              have hHeld := hHeld'
              clear hHeld'
              (try simp only [Act.put, List.setIfInBounds_toArray, List.set_cons_zero, List.set_cons_succ])
              refine wpAnyH_take (i := 18) (oi := ?_) (v := ?_) ?_ (by kernel_rfl) (by kernel_rfl) (by kernel_rfl) ?_ (Or.inl ⟨?_, ?_⟩) (by assumption) ?_
              rotate_left 2
              · (simp only [List.getElem?_toArray, List.getElem?_cons_zero, List.getElem?_cons_succ]; rfl)
              · exact fun _ _ _ h => h
              · rfl
              · (intro wS hSw; (try dsimp only at hSw); go_simp; (try with_reducible rfl))
              (try simp only [Act.put, List.setIfInBounds_toArray, List.set_cons_zero, List.set_cons_succ])
              refine wpAnyH_done (by kernel_rfl) ?_ _
              have HM5 : Hid ((putAllV [] ((gtRows ts cols S).take (j + 1))).length = m5) := by show _ = _; rw [HPT.out]; exact hm5
              have HF5 := Hid.mk hF5
              have HA5 : Hid (AtN w6 r5 (putAllV [] ((gtRows ts cols S).take (j + 1)))) := by show AtN _ _ _; rw [HPT.out]; exact ha5
              have HY5 := Hid.mk (Y5.trans (hb5.mono Y5.size))
              clear hm5 hF5 ha5 hb5 j0 j1 j2 i0 i1 i2 v0 v1 vz hHeld HAR4 HARV HATV HCV HO4 Y4 Y5 hb4 HML HF HGO
              go_wp2
              go_roundw
              case rel => exact ⟨j + 1, _, _, _, by omega, by go_num, rfl, HM5.out, HF5.out, HA5.out, HY5.out⟩
              case measure => simp [intOf]; omega
            · obtain rfl : j = n := by omega
              have hall : (gtRows ts cols S).take j = gtRows ts cols S := List.take_of_length_le (by rw [gtRows_length]; omega)
              rw [hall] at hm har
              have HM := Hid.mk (show (gtL ts cols S).length = m from hm)
              have HAR := Hid.mk (show AtN wr r (gtL ts cols S) from har)
              have hml : m ≤ 60 := by have := putAllV_len (gtRows ts cols S) []; rw [gtRows_length] at this; simp at this; omega
              clear hall hm har
              go_wp2_with fail
              refine (l5Tell_any _ _ _ (gtL ts cols S) _ HM.out (by omega) HAR.out).mono ?_
              rintro e w6 ⟨⟨r6, m6, d6, rfl, ho6⟩, hb6⟩
              obtain ⟨ok, hok6⟩ : ∃ ok, goodV (gtL ts cols S) = ok := ⟨_, rfl⟩
              have HO6 := Hid.mk hok6
              rw [hok6] at ho6 ⊢
              clear hok6
              have z3 := B3.size
              go_wp2
              refine bodyPost_ret (v := .tuple #[.slice r6 m6 d6, .bool ok]) (by simp [results, Try.results7, go_sem]) rfl ⟨?_, B3.trans (hb6.mono B3.size)⟩
              rw [HRB.out]
              simp only [Int.toNat_natCast]
              rw [HO6.out]
              exact ⟨r6, m6, d6, rfl, ho6.widen z3 (Nat.le_refl _) (Nat.le_refl _)⟩

end Go.Proofs.Ytlfljfmhhnoinab
