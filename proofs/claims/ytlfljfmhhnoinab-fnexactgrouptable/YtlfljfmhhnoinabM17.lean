/- Several texts of one proof, in build order: GoodTI, GtX. -/
import Derived.Test.YtlfljfmhhnoinabM7
import Derived.Test.YtlfljfmhhnoinabM11
import Derived.Test.YtlfljfmhhnoinabM16

/- Contract of impl.GoodTable. -/
namespace Go.Proofs.Ytlfljfmhhnoinab
open Go.RowKit

set_option maxHeartbeats 4000000 in
theorem implGoodTable_any (a : Option Addr) (n c : Nat) (ts : List WRow) (p : Int) (w : World) (hz : ts.length = n) (hn : n ≤ 1048576) (ha : AtW w a ts) :
    Calls Try.prog 44 #[.agg #[.int .i64 p, .slice a n c]] w fun e w' => e = .returned (.bool (goodT p ts)) ∧ Below w.heap.size w w' := by
  have B0 : Below w.heap.size w (w.alloc (.cells #[.int .i64 p, .slice a n c] 32)) := (Below.refl _ _).alloc (Nat.le_refl _) _
  have HA := ha.below B0
  clear ha
  cases hi : inc p with
  | false =>
    have HI := Hid.mk hi
    clear hi
    go_enter Try.func44, Try.ntmps44
    go_wp2_with (go_at_call 94; refine (goodColumns_any _ _).mono ?_; rintro e w2 ⟨rfl, rfl⟩; rw [HI.out])
    go_ret
    exact ⟨ret_bool (goodT_col HI.out).symm, B0⟩
  | true =>
    have HI := Hid.mk hi
    clear hi
    by_cases h60 : n ≤ 60
    · cases hg : goodL p ts with
      | false =>
        have HG := Hid.mk hg
        clear hg
        go_enter Try.func44, Try.ntmps44
        go_wp2_with (first | (go_at_call 94; refine (goodColumns_any _ _).mono ?_; rintro e w2 ⟨rfl, rfl⟩; rw [HI.out]) | (go_at_call 95; refine (goodWeighted_any _ _ _ ts _ _ hz hn HA).mono ?_; rintro e w1 ⟨rfl, hb1⟩; rw [HG.out]))
        go_ret
        exact ⟨ret_bool (goodT_goodL HG.out).symm, B0.trans (hb1.mono B0.size)⟩
      | true =>
        have HG := Hid.mk hg
        clear hg
        have hL : ∀ k, k < n → goodW p (wat ts k) = true := fun k hk => goodL_at HG.out k (by omega)
        go_enter Try.func44, Try.ntmps44
        go_wp2_with (go_at_call 94; refine (goodColumns_any _ _).mono ?_; rintro e w2 ⟨rfl, rfl⟩; rw [HI.out])
        refine (goodWeighted_any _ _ _ ts _ _ hz hn HA).mono ?_
        rintro e w1 ⟨rfl, hb1⟩
        rw [HG.out]
        have B1 := B0.trans (hb1.mono B0.size)
        have ct := cell_later hb1 (pair1 w (.int .i64 p) (.slice a n c) 32)
        have HA1 := HA.below hb1
        clear hb1 HA B0
        go_wp2
        go_loopw [26] (fun i wr => ∃ (k : Nat), k ≤ n ∧ i = .int .i64 k ∧ (∀ j, j < k → stepB p ts j = true) ∧ Below w1.heap.size w1 wr) (fun i _ => n - (intOf i).toNat)
        case atStart => exact ⟨0, Nat.zero_le _, rfl, fun j hj => by omega, Below.refl _ _⟩
        case round =>
          obtain ⟨k, hk, rfl, hall, hbw⟩ := hrel
          have B2 := B1.trans (hbw.mono B1.size)
          by_cases hlt : k < n
          · obtain ⟨b, off, rfl, hc⟩ := (HA1.below hbw).some (by omega)
            obtain ⟨q, d, hcx, hwx, hm, hat⟩ := hc k (by omega)
            have hgk := goodW_cells (hL k hlt)
            have HN : Hid ((wat ts k).2 = 0 → goodT p ts = false) := fun h => goodT_not k (by omega) (stepB_zero h)
            have HC : Hid (k ≠ 0 → ¬ cmp (wat ts (k - 1)).1 (wat ts k).1 < 0 → goodT p ts = false) := fun h0 h => goodT_not k (by omega) (stepB_cmp h0 h)
            have HS : Hid ((wat ts k).2 ≠ 0 → (k = 0 ∨ cmp (wat ts (k - 1)).1 (wat ts k).1 < 0) → ∀ j, j < k + 1 → stepB p ts j = true) := fun h1 h2 j hj => by
              by_cases e : j = k
              · subst e; exact stepB_mk (hL j hlt) h1 h2
              · exact hall j (by omega)
            have ct2 := cell_later hbw ct
            have hki : (k : Int) < (n : Int) := by omega
            by_cases hk0 : k = 0
            · have HK := Hid.mk hk0
              have hnp : decide (0 < k) = false := decide_eq_false (by omega)
              generalize wat ts k = Y at *
              obtain ⟨ys, x⟩ := Y
              simp only at hcx hwx hat hm
              clear hc hall hat hgk hk0
              obtain ⟨m, hmm⟩ : ∃ m, ys.length = m := ⟨_, rfl⟩
              rw [hmm] at hcx hm
              clear hmm
              by_cases hx : x = 0
              · have hxx : (x == 0) = true := by simp [hx]
                have HX := Hid.mk hx
                clear hx
                go_wp2
                go_ret
                exact ⟨ret_bool (HN.out HX.out).symm, B2.alloc B2.size _⟩
              · have hxx : (x == 0) = false := by simp [hx]
                have HX := Hid.mk hx
                clear hx
                go_wp2
                go_quiet (fail)
                go_wp2
                go_roundw
                case rel => exact ⟨k + 1, by omega, by go_num, HS.out HX.out (.inl HK.out), below_drewN (hbw.alloc hbw.size _) _⟩
                case measure => simp [intOf]; omega
            · obtain ⟨q', d', hcx', _, _, hat'⟩ := hc (k - 1) (by omega)
              have hgk' := goodW_cells (hL (k - 1) (by omega))
              have hnp : 0 < k := by omega
              have hsub : IntKind.i64.wrap ((k : Int) - 1) = ((k - 1 : Nat) : Int) := (IntWalk.i64_in _ (by omega)).trans (by omega)
              have hlt1 : ((k - 1 : Nat) : Int) < (n : Int) := by omega
              obtain ⟨k', hk'⟩ : ∃ k', k' = k - 1 := ⟨_, rfl⟩
              have HK' := Hid.mk hk'
              rw [← hk'] at hcx' hat' hgk' hsub hlt1 HC HS
              generalize wat ts k = Y at *
              generalize wat ts k' = Y' at *
              obtain ⟨ys, x⟩ := Y
              obtain ⟨ys', x'⟩ := Y'
              simp only at hcx hwx hat hm hcx' hat' hgk hgk'
              have l1 := good_len hgk.1
              have l1' := good_len hgk'.1
              have HG1 := Hid.mk hgk.1
              have HG1' := Hid.mk hgk'.1
              clear hc hall hgk hgk' hk'
              obtain ⟨m, hmm⟩ : ∃ m, ys.length = m := ⟨_, rfl⟩
              obtain ⟨m', hmm'⟩ : ∃ m, ys'.length = m := ⟨_, rfl⟩
              rw [hmm] at hcx hm l1
              rw [hmm'] at hcx' l1'
              have HM := Hid.mk hmm
              have HM' := Hid.mk hmm'
              clear hmm hmm'
              by_cases hx : x = 0
              · have hxx : (x == 0) = true := by simp [hx]
                have HX := Hid.mk hx
                clear hx
                go_wp2
                go_ret
                exact ⟨ret_bool (HN.out HX.out).symm, B2.alloc B2.size _⟩
              · have hxx : (x == 0) = false := by simp [hx]
                have HX := Hid.mk hx
                clear hx
                have c1 := cell_later ((Below.refl wr.heap.size wr).alloc (Nat.le_refl _) (.cells #[.slice q m d, .int .i64 x] 69)) hcx'
                have c2 := cell_later ((Below.refl wr.heap.size wr).alloc (Nat.le_refl _) (.cells #[.slice q m d, .int .i64 x] 69)) ct2
                have c3 := pair0 wr (.slice q m d) (.int .i64 x) 69
                have HAx := hat.alloc (.cells #[.slice q m d, .int .i64 x] 69)
                have HAy := hat'.alloc (.cells #[.slice q m d, .int .i64 x] 69)
                have BW := B2.alloc B2.size (.cells #[.slice q m d, .int .i64 x] 69)
                have BV := hbw.alloc hbw.size (.cells #[.slice q m d, .int .i64 x] 69)
                obtain ⟨W, hW⟩ : ∃ W, W = wr.alloc (.cells #[.slice q m d, .int .i64 x] 69) := ⟨_, rfl⟩
                go_wp2
                rw [← hW] at c1 c2 c3 HAx HAy BW BV ⊢
                clear hW hcx hcx' hwx ct2 ct hat hat' HA1 hm
                go_region_held3 (fun w' => w'.cell? ⟨w.heap.size, 1, none⟩ = some (.slice (some ⟨b, off, none⟩) n c) ∧ w'.cell? ⟨b, off + k' * 2, none⟩ = some (.slice q' m' d') ∧ w'.cell? ⟨wr.heap.size, 0, none⟩ = some (.slice q m d)) (refine ⟨?_, ?_, ?_⟩ <;> assumption)
                  (first
                    | (go_at_call_of 97 (Value.slice q' m' d'); refine (arrayOf_any _ _ _ ys' _ HM'.out l1' (fun j hj => good_cell HG1'.out j (by have := HM'.out; omega)) HAy.drew).mono ?_; rintro e w2 ⟨y0, y1, y2, y3, y4, y5, rfl, hy, hb2⟩; have r1 := cell_later hb2 c1; have r2 := cell_later hb2 c2; have r3 := cell_later hb2 c3; have HAz := HAx.drew.below hb2)
                    | (go_at_call_of 97 (Value.slice q m d); refine (arrayOf_any _ _ _ ys _ HM.out l1 (fun j hj => good_cell HG1.out j (by have := HM.out; omega)) HAz).mono ?_; rintro e w3 ⟨x0, x1, x2, x3, x4, x5, rfl, hx, hb3⟩; have s1 := cell_later hb3 r1; have s2 := cell_later hb3 r2; have s3 := cell_later hb3 r3)
                    | (go_at_call 96; refine (compareArrays_any _ _ _ _ _ _ _ _ _ _ _ _ _ _ hy hx _).mono ?_; rintro e w4 ⟨rfl, hb4⟩; have v1 := cell_later hb4 s1; have v2 := cell_later hb4 s2; have v3 := cell_later hb4 s3))
                have B5 : Below w.heap.size w w4 := ((BW.drew.trans (hb2.mono BW.size)).trans (hb3.mono (by have := hb2.size; have := BW.size; simp only [drew_size] at *; omega))).trans (hb4.mono (by have := hb2.size; have := hb3.size; have := BW.size; simp only [drew_size] at *; omega))
                have V5 : Below w1.heap.size w1 w4 := ((BV.drew.trans (hb2.mono BV.size)).trans (hb3.mono (by have := hb2.size; have := BV.size; simp only [drew_size] at *; omega))).trans (hb4.mono (by have := hb2.size; have := hb3.size; have := BV.size; simp only [drew_size] at *; omega))
                have hcr := cmp_raised HG1'.out HG1.out
                rw [hy, hx] at hcr
                have hcm := cmp_range ys' ys
                clear hy hx hb2 hb3 hb4 r1 r2 r3 s1 s2 s3 v1 v2 v3 c1 c2 c3 HAz HAx HAy BW BV
                by_cases hlss : cmp ys' ys < 0
                · have hcc : (cmp [y0, y1, y2, y3, y4, y5] [x0, x1, x2, x3, x4, x5] != -1) = false := by rw [hcr, show cmp ys' ys = -1 by omega]; rfl
                  have HL := Hid.mk hlss
                  clear hcr hcm hlss
                  go_wp2
                  go_roundw
                  case rel => exact ⟨k + 1, by omega, by go_num, HS.out HX.out (.inr HL.out), V5⟩
                  case measure => simp [intOf]; omega
                · have hcc : (cmp [y0, y1, y2, y3, y4, y5] [x0, x1, x2, x3, x4, x5] != -1) = true := by
                    rw [hcr]
                    rcases hcm with h | h | h
                    · omega
                    · rw [h]; rfl
                    · rw [h]; rfl
                  have HL := Hid.mk hlss
                  clear hcr hcm hlss
                  go_wp2
                  go_ret
                  exact ⟨ret_bool (HC.out hk0 (by have := HL.out; omega)).symm, B5⟩
          · go_wp2
            go_ret
            exact ⟨ret_bool (goodT_of HI.out (by omega) (fun j hj => hall j (by omega))).symm, B2⟩
    · go_enter Try.func44, Try.ntmps44
      go_wp2_with (go_at_call 94; refine (goodColumns_any _ _).mono ?_; rintro e w2 ⟨rfl, rfl⟩; rw [HI.out])
      go_ret
      exact ⟨ret_bool (goodT_len (by omega)).symm, B0⟩

end Go.Proofs.Ytlfljfmhhnoinab

/- Contract of impl.GroupTable. -/
namespace Go.Proofs.Ytlfljfmhhnoinab
open Go.RowKit Go.Maps

set_option maxRecDepth 100000 in
set_option maxHeartbeats 8000000 in
theorem implGroupTable (a a' : Option Addr) (n n' c c' : Nat) (ts : List WRow) (cols : List Int) (p s : Int) (w : World) (hz : ts.length = n) (hn : n ≤ 1048576) (hz' : cols.length = n') (hn' : n' ≤ 1048576) (ha : AtW w a ts) (ha' : At w a' cols) :
    Calls Try.prog 10 #[.agg #[.int .i64 p, .slice a n c], .slice a' n' c', .int .i64 s] w fun e w' => GrpRet e w' w.heap.size (gtB p ts cols s) (ansG (gtB p ts cols s) (gtL ts cols s.toNat)) ∧ Below w.heap.size w w' := by
  have B0 : Below w.heap.size w (w.alloc (.cells #[.int .i64 p, .slice a n c] 32)) := (Below.refl _ _).alloc (Nat.le_refl _) _
  have c0 := pair0 w (.int .i64 p) (.slice a n c) 32
  have c1 := pair1 w (.int .i64 p) (.slice a n c) 32
  have HA := Hid.mk ha
  have HA' := Hid.mk ha'
  clear ha ha'
  have hmm := @run_makeMap Try.prog
  cases hg : goodT p ts with
  | false =>
    have HG := Hid.mk hg
    clear hg
    go_enter Try.func10, Try.ntmps10
    go_wp2_with (go_at_call 44; refine (implGoodTable_any _ _ _ ts _ _ hz hn (HA.out.below B0)).mono ?_; rintro e w1 ⟨rfl, hb1⟩; rw [HG.out])
    refine bodyPost_ret (v := .tuple #[.slice none 0 0, .bool false]) (by simp [results, Try.results10, go_sem]) rfl ⟨GrpRet.zero (gtB_t HG.out) rfl, B0.trans (hb1.mono B0.size)⟩
  | true =>
    have HG := Hid.mk hg
    have hinc := inc_range (goodT_parts hg).1
    clear hg
    by_cases hs0 : s < 0
    · go_enter Try.func10, Try.ntmps10
      go_wp2_with (go_at_call 44; refine (implGoodTable_any _ _ _ ts _ _ hz hn (HA.out.below B0)).mono ?_; rintro e w1 ⟨rfl, hb1⟩; rw [HG.out]; have k0 := cell_later hb1 c0; have k1 := cell_later hb1 c1)
      refine bodyPost_ret (v := .tuple #[.slice none 0 0, .bool false]) (by simp [results, Try.results10, go_sem]) rfl ⟨GrpRet.zero (gtB_0 hs0) rfl, B0.trans (hb1.mono B0.size)⟩
    · by_cases hsp : p ≤ s
      · go_enter Try.func10, Try.ntmps10
        go_wp2_with (go_at_call 44; refine (implGoodTable_any _ _ _ ts _ _ hz hn (HA.out.below B0)).mono ?_; rintro e w1 ⟨rfl, hb1⟩; rw [HG.out]; have k0 := cell_later hb1 c0; have k1 := cell_later hb1 c1)
        refine bodyPost_ret (v := .tuple #[.slice none 0 0, .bool false]) (by simp [results, Try.results10, go_sem]) rfl ⟨GrpRet.zero (gtB_p hsp) rfl, B0.trans (hb1.mono B0.size)⟩
      · obtain ⟨q, hq⟩ : ∃ q : Nat, p = q := ⟨p.toNat, by omega⟩
        obtain ⟨S, hS⟩ : ∃ S : Nat, s = S := ⟨s.toNat, by omega⟩
        subst hq hS
        have h6 : q ≤ 6 := by omega
        have hSq : S < q := by omega
        have hn60 : n ≤ 60 := by have := (goodT_parts HG.out).2.1; omega
        go_enter Try.func10, Try.ntmps10
        go_wp2_with (go_at_call 44; refine (implGoodTable_any _ _ _ ts _ _ hz hn (HA.out.below B0)).mono ?_; rintro e w1 ⟨rfl, hb1⟩; rw [HG.out]; have k0 := cell_later hb1 c0; have k1 := cell_later hb1 c1; have B1 := B0.trans (hb1.mono B0.size); clear hb1 c0 c1 B0)
        refine (noughts_any q _ h6).mono ?_
        rintro e w2 ⟨r2, d2, rfl, _, hat2, hb2⟩
        have B2 := B1.trans (hb2.mono B1.size)
        replace k0 := cell_later hb2 k0
        replace k1 := cell_later hb2 k1
        clear hb2
        go_wp2_with fail
        refine (implPickCells _ _ _ _ _ _ (List.replicate q 0) cols _ (by simp) hz' (by omega) (by omega) hat2 (HA'.out.below B2)).mono ?_
        rintro e w3 ⟨r3, m3, d3, rfl, _, _, hb3⟩
        have hpo : pickOk (List.replicate q (0 : Int)) cols = colsOk cols q := by rw [pickOk, good_noughts h6, List.length_replicate, Bool.true_and]
        rw [hpo]
        have B3 := B2.trans (hb3.mono B2.size)
        replace k0 := cell_later hb3 k0
        replace k1 := cell_later hb3 k1
        clear hb3 hat2 hpo
        cases hco : colsOk cols q with
        | false =>
          have HCO := Hid.mk hco
          clear hco
          go_wp2
          refine bodyPost_ret (v := .tuple #[.slice none 0 0, .bool false]) (by simp [results, Try.results10, go_sem]) rfl ⟨GrpRet.zero (gtB_c HCO.out) rfl, B3.alloc B3.size _⟩
        | true =>
          have HCO := Hid.mk hco
          have hn6 : n' ≤ 6 := by have := colsOk_len hco; omega
          clear hco
          have HRM := Hid.mk (gtRows_mem HG.out HCO.out hSq)
          have HRB := Hid.mk (gtB_yes (s := (S : Int)) HG.out HCO.out (by omega) (by omega))
          have hb4' : Below w3.heap.size w3 ((w3.alloc (.cells #[.slice r3 m3 d3] 67)).alloc (.map #[] 0)) := ((Below.refl _ _).alloc (Nat.le_refl _) _).alloc (by simp) _
          have kk := cell_later hb4' k1
          go_wp2
          clear kk hb4'
          obtain ⟨w4, hw4⟩ : ∃ w4, w4 = w3.alloc (.cells #[.slice r3 m3 d3] 67) := ⟨_, rfl⟩
          have hb4 : Below w3.heap.size w3 w4 := by rw [hw4]; exact (Below.refl _ _).alloc (Nat.le_refl _) _
          have B4 := B3.trans (hb4.mono B3.size)
          have z4 : w4.heap.size = w3.heap.size + 1 := by rw [hw4]; simp
          obtain ⟨W, hW⟩ : ∃ W, W = w4.alloc (.map #[] 0) := ⟨_, rfl⟩
          have hbW : Below w4.heap.size w4 W := by rw [hW]; exact (Below.refl _ _).alloc (Nat.le_refl _) _
          have C0 : CntV W w4.heap.size n' 0 [] := by rw [hW]; exact CntV.made w4 n'
          rw [← hw4, ← hW, ← z4]
          clear hw4 hW hmm z4
          go_loopw [42] (fun i wr => ∃ (k : Nat), k ≤ n ∧ i = .int .i64 k ∧ CntV wr w4.heap.size n' k (putAllV [] ((gtRows ts cols S).take k)) ∧ Below w4.heap.size w4 wr) (fun i _ => n - (intOf i).toNat)
          case atStart => exact ⟨0, Nat.zero_le _, rfl, C0, hbW⟩
          case round =>
            clear C0 hbW
            obtain ⟨k, hk, rfl, hcv, hbw⟩ := hrel
            have HCV := Hid.mk hcv
            have zb := hcv.lt
            clear hcv
            have B5 : Below w.heap.size w wr := B4.trans (hbw.mono B4.size)
            by_cases hlt : k < n
            · obtain ⟨b, off, rfl, hc⟩ := (HA.out.below B5).some (by omega)
              obtain ⟨rq, d, hcx, hwx, hm, hat⟩ := hc k (by omega)
              have hki : (k : Int) < (n : Int) := by omega
              obtain ⟨g1, g2, g3, g4⟩ := gt_at HG.out HCO.out hSq k (by omega)
              have HRA := Hid.mk (gtRows_at ts cols S k (by omega))
              have HPT := Hid.mk (putAllV_take [] (gtRows ts cols S) k (by rw [gtRows_length]; omega))
              generalize wat ts k = Y at *
              obtain ⟨ys, x⟩ := Y
              simp only at hcx hwx hat hm g1 g2 g3 g4
              rw [HRA.out] at HPT
              simp only at HPT
              obtain ⟨bq, oq, rfl, _, hcq⟩ := hat.some (by omega)
              have hcz := hcq S (by omega)
              have hmc := mul_cell g3.1 g3.2 g4.1 g4.2
              obtain ⟨z, hzz⟩ : ∃ z, z = ys.getD S 0 := ⟨_, rfl⟩
              rw [← hzz] at hcz hmc HPT
              obtain ⟨P, hP⟩ : ∃ P, P = x * z := ⟨_, rfl⟩
              have hw1 : IntKind.i64.wrap (x * z) = P := by rw [hP]; exact IntWalk.i64_in _ (by omega)
              have hw2 : Go.RowKit.wrap64 (x * z) = P := by rw [hP]; unfold Go.RowKit.wrap64; omega
              rw [← hP] at hmc HPT
              have HXP : Hid (InA 100000000000 (x, P)) := ⟨by show -100000000000 ≤ x; omega, by show x ≤ 100000000000; omega, hmc.1, hmc.2⟩
              have HG1 := Hid.mk g1
              have HG2 := Hid.mk g2
              have HPG := Hid.mk (pick_good g1 g2 HCO.out)
              obtain ⟨m, hmm⟩ : ∃ m, ys.length = m := ⟨_, rfl⟩
              rw [hmm] at hcx hm
              have HM := Hid.mk hmm
              have hSm : (S : Int) < (m : Int) := by omega
              have hSm' : S < m := by omega
              clear hc g1 g2 g3 g4 hmm hcq hzz hP hmc
              obtain ⟨V, hV⟩ : ∃ V, V = wr.alloc (.cells #[.slice (some ⟨bq, oq, none⟩) m d, .int .i64 x] 69) := ⟨_, rfl⟩
              have hbV : Below wr.heap.size wr V := by rw [hV]; exact (Below.refl _ _).alloc (Nat.le_refl _) _
              have v0 : V.cell? ⟨wr.heap.size, 0, none⟩ = some (.slice (some ⟨bq, oq, none⟩) m d) := by rw [hV]; exact pair0 wr _ _ _
              have v1 : V.cell? ⟨wr.heap.size, 1, none⟩ = some (.int .i64 x) := by rw [hV]; exact pair1 wr _ _ _
              have vz := cell_later hbV hcz
              have B6 : Below w.heap.size w V := B5.trans (hbV.mono B5.size)
              have Y6 : Below w4.heap.size w4 V := hbw.trans (hbV.mono hbw.size)
              have HCV1 := Hid.mk (HCV.out.below hbV)
              have HATV := Hid.mk (hat.below hbV)
              go_wp2_with fail
              rw [← hV]
              clear hV hcx hwx hat hbV hcz
              refine (implPickCells _ _ _ _ _ _ ys cols _ HM.out hz' hm (by omega) HATV.out (HA'.out.below B6)).mono ?_
              rintro e w7 ⟨r7, m7, d7, rfl, hm7, ho7, hb7⟩
              have hpo : pickOk ys cols = true := by rw [pickOk, HG1.out, HG2.out, HCO.out]; rfl
              have hpz : pickZ ys cols = pick ys cols := if_pos hpo
              rw [hpo]
              rw [hpz] at hm7 ho7
              have HM7 := Hid.mk hm7
              have B7 := B6.trans (hb7.mono B6.size)
              have Y7 := Y6.trans (hb7.mono Y6.size)
              have HCV2 := Hid.mk (HCV1.out.below hb7)
              replace v0 := cell_later hb7 v0
              replace v1 := cell_later hb7 v1
              replace vz := cell_later hb7 vz
              clear hpo hpz hm7
              obtain ⟨U, hU⟩ : ∃ U, U = w7.alloc (.cells #[.slice r7 m7 d7] 67) := ⟨_, rfl⟩
              have hbU : Below w7.heap.size w7 U := by rw [hU]; exact (Below.refl _ _).alloc (Nat.le_refl _) _
              have u0 : U.cell? ⟨w7.heap.size, 0, none⟩ = some (.slice r7 m7 d7) := by rw [hU]; simp
              have HAT3 := Hid.mk ((At.owned ho7).below hbU)
              have HCV3 := Hid.mk (HCV2.out.below hbU)
              have Y8 : Below w4.heap.size w4 U := Y7.trans (hbU.mono Y7.size)
              replace v0 := cell_later hbU v0
              replace v1 := cell_later hbU v1
              replace vz := cell_later hbU vz
              go_wp2_with fail
              rw [← hU]
              clear hU ho7 hbU HCV HCV1 HCV2
              refine wp_region_held_drew (S := fun w' => w'.cell? ⟨w7.heap.size, 0, none⟩ = some (.slice r7 m7 d7) ∧ w'.cell? ⟨wr.heap.size, 0, none⟩ = some (.slice (some ⟨bq, oq, none⟩) m d) ∧ w'.cell? ⟨wr.heap.size, 1, none⟩ = some (.int .i64 x) ∧ w'.cell? ⟨bq, oq + S, none⟩ = some (.int .i64 z)) (by kernel_rfl) ?_ (fun hHeld => ?_)
              · (try dsimp only)
                exact ⟨u0, v0, v1, vz⟩
              refine wpAnyH_take (i := 0) (oi := ?_) (v := ?_) ?_ (by kernel_rfl) (by kernel_rfl) (by kernel_rfl) ?_ (Or.inl ⟨?_, ?_⟩) (by assumption) ?_
              rotate_left 2
              · (simp only [List.getElem?_toArray, List.getElem?_cons_zero]; rfl)
              · exact fun _ _ _ h => h
              · rfl
              · (intro wS hSw; (try dsimp only at hSw); go_simp; (try with_reducible rfl))
              (try simp only [Act.put, List.setIfInBounds_toArray, List.set_cons_zero, List.set_cons_succ])
              refine wpAnyH_take (i := 1) (oi := ?_) (v := ?_) ?_ (by kernel_rfl) (by kernel_rfl) (by kernel_rfl) ?_ (Or.inl ⟨?_, ?_⟩) (by assumption) ?_
              rotate_left 2
              · (simp only [List.getElem?_toArray, List.getElem?_cons_zero, List.getElem?_cons_succ]; rfl)
              · exact fun _ _ _ h => h
              · rfl
              · (intro wS hSw; (try dsimp only at hSw); go_simp; (try with_reducible rfl))
              (try simp only [Act.put, List.setIfInBounds_toArray, List.set_cons_zero, List.set_cons_succ])
              refine wpAnyH_take (i := 2) (oi := ?_) (v := ?_) ?_ (by kernel_rfl) (by kernel_rfl) (by kernel_rfl) ?_ (Or.inl ⟨?_, ?_⟩) (by assumption) ?_
              rotate_left 2
              · (simp only [List.getElem?_toArray, List.getElem?_cons_zero, List.getElem?_cons_succ]; rfl)
              · exact fun _ _ _ h => h
              · rfl
              · (intro wS hSw; (try dsimp only at hSw); go_simp; (try with_reducible rfl))
              (try simp only [Act.put, List.setIfInBounds_toArray, List.set_cons_zero, List.set_cons_succ])
              refine wpAnyH_take (i := 3) (oi := ?_) (v := ?_) ?_ (by kernel_rfl) (by kernel_rfl) (by kernel_rfl) ?_ (Or.inl ⟨?_, ?_⟩) (by assumption) ?_
              rotate_left 2
              · (simp only [List.getElem?_toArray, List.getElem?_cons_zero, List.getElem?_cons_succ]; rfl)
              · exact fun _ _ _ h => h
              · rfl
              · (intro wS hSw; (try dsimp only at hSw); go_simp; (try with_reducible rfl))
              (try simp only [Act.put, List.setIfInBounds_toArray, List.set_cons_zero, List.set_cons_succ])
              refine wpAnyH_take (i := 4) (oi := ?_) (v := ?_) ?_ (by kernel_rfl) (by kernel_rfl) (by kernel_rfl) ?_ (Or.inl ⟨?_, ?_⟩) (by assumption) ?_
              rotate_left 2
              · (simp only [List.getElem?_toArray, List.getElem?_cons_zero, List.getElem?_cons_succ]; rfl)
              · exact fun _ _ _ h => h
              · rfl
              · (intro wS hSw; (try dsimp only at hSw); go_simp; (try with_reducible rfl))
              (try simp only [Act.put, List.setIfInBounds_toArray, List.set_cons_zero, List.set_cons_succ])
              refine wpAnyH_take (i := 5) (oi := ?_) (v := ?_) ?_ (by kernel_rfl) (by kernel_rfl) (by kernel_rfl) ?_ (Or.inl ⟨?_, ?_⟩) (by assumption) ?_
              rotate_left 2
              · (simp only [List.getElem?_toArray, List.getElem?_cons_zero, List.getElem?_cons_succ]; rfl)
              · exact fun _ _ _ h => h
              · rfl
              · (intro wS hSw; (try dsimp only at hSw); go_simp; (try with_reducible rfl))
              (try simp only [Act.put, List.setIfInBounds_toArray, List.set_cons_zero, List.set_cons_succ])
              refine wpAnyH_take (i := 6) (oi := ?_) (v := ?_) ?_ (by kernel_rfl) (by kernel_rfl) (by kernel_rfl) ?_ (Or.inl ⟨?_, ?_⟩) (by assumption) ?_
              rotate_left 2
              · (simp only [List.getElem?_toArray, List.getElem?_cons_zero, List.getElem?_cons_succ]; rfl)
              · exact fun _ _ _ h => h
              · rfl
              · (intro wS hSw; (try dsimp only at hSw); go_simp; (try with_reducible rfl))
              (try simp only [Act.put, List.setIfInBounds_toArray, List.set_cons_zero, List.set_cons_succ])
              refine wpAnyH_take (i := 7) (oi := ?_) (v := ?_) ?_ (by kernel_rfl) (by kernel_rfl) (by kernel_rfl) ?_ (Or.inl ⟨?_, ?_⟩) (by assumption) ?_
              rotate_left 2
              · (simp only [List.getElem?_toArray, List.getElem?_cons_zero, List.getElem?_cons_succ]; rfl)
              · exact fun _ _ _ h => h
              · rfl
              · (intro wS hSw; (try dsimp only at hSw); go_simp; (try with_reducible rfl))
              (try simp only [Act.put, List.setIfInBounds_toArray, List.set_cons_zero, List.set_cons_succ])
              refine wpAnyH_take (i := 8) (oi := ?_) (v := ?_) ?_ (by kernel_rfl) (by kernel_rfl) (by kernel_rfl) ?_ (Or.inl ⟨?_, ?_⟩) (by assumption) ?_
              rotate_left 2
              · (simp only [List.getElem?_toArray, List.getElem?_cons_zero, List.getElem?_cons_succ]; rfl)
              · exact fun _ _ _ h => h
              · rfl
              · (intro wS hSw; (try dsimp only at hSw); go_simp; (try with_reducible rfl))
              (try simp only [Act.put, List.setIfInBounds_toArray, List.set_cons_zero, List.set_cons_succ])
              refine wpAnyH_take (i := 9) (oi := ?_) (v := ?_) ?_ (by kernel_rfl) (by kernel_rfl) (by kernel_rfl) ?_ (Or.inl ⟨?_, ?_⟩) (by assumption) ?_
              rotate_left 2
              · (simp only [List.getElem?_toArray, List.getElem?_cons_zero, List.getElem?_cons_succ]; rfl)
              · exact fun _ _ _ h => h
              · rfl
              · (intro wS hSw; (try dsimp only at hSw); go_simp; (try with_reducible rfl))
              (try simp only [Act.put, List.setIfInBounds_toArray, List.set_cons_zero, List.set_cons_succ])
              refine wpAnyH_take (i := 10) (oi := ?_) (v := ?_) ?_ (by kernel_rfl) (by kernel_rfl) (by kernel_rfl) ?_ (Or.inl ⟨?_, ?_⟩) (by assumption) ?_
              rotate_left 2
              · (simp only [List.getElem?_toArray, List.getElem?_cons_zero, List.getElem?_cons_succ]; rfl)
              · exact fun _ _ _ h => h
              · rfl
              · (intro wS hSw; (try dsimp only at hSw); go_simp; (try with_reducible rfl))
              (try simp only [Act.put, List.setIfInBounds_toArray, List.set_cons_zero, List.set_cons_succ])
              refine wpAnyH_take (i := 11) (oi := ?_) (v := ?_) ?_ (by kernel_rfl) (by kernel_rfl) (by kernel_rfl) ?_ (Or.inl ⟨?_, ?_⟩) (by assumption) ?_
              rotate_left 2
              · (simp only [List.getElem?_toArray, List.getElem?_cons_zero, List.getElem?_cons_succ]; rfl)
              · exact fun _ _ _ h => h
              · rfl
              · (intro wS hSw; (try dsimp only at hSw); go_simp; (try with_reducible rfl))
              (try simp only [Act.put, List.setIfInBounds_toArray, List.set_cons_zero, List.set_cons_succ])
              refine wpAnyH_take (i := 12) (oi := ?_) (v := ?_) ?_ (by kernel_rfl) (by kernel_rfl) (by kernel_rfl) ?_ (Or.inl ⟨?_, ?_⟩) (by assumption) ?_
              rotate_left 2
              · (simp only [List.getElem?_toArray, List.getElem?_cons_zero, List.getElem?_cons_succ]; rfl)
              · exact fun _ _ _ h => h
              · rfl
              · (intro wS hSw; (try dsimp only at hSw); go_simp; (try with_reducible rfl))
              (try simp only [Act.put, List.setIfInBounds_toArray, List.set_cons_zero, List.set_cons_succ])
              refine wpAnyH_take (i := 13) (oi := ?_) (v := ?_) ?_ (by kernel_rfl) (by kernel_rfl) (by kernel_rfl) ?_ (Or.inl ⟨?_, ?_⟩) (by assumption) ?_
              rotate_left 2
              · (simp only [List.getElem?_toArray, List.getElem?_cons_zero, List.getElem?_cons_succ]; rfl)
              · exact fun _ _ _ h => h
              · rfl
              · (intro wS hSw; (try dsimp only at hSw); go_simp; (try with_reducible rfl))
              (try simp only [Act.put, List.setIfInBounds_toArray, List.set_cons_zero, List.set_cons_succ])
              have i0 : U.drew.cell? ⟨w7.heap.size, 0, none⟩ = some (.slice r7 m7 d7) := u0
              have i1 : U.drew.cell? ⟨wr.heap.size, 0, none⟩ = some (.slice (some ⟨bq, oq, none⟩) m d) := v0
              have i2 : U.drew.cell? ⟨wr.heap.size, 1, none⟩ = some (.int .i64 x) := v1
              have i3 : U.drew.cell? ⟨bq, oq + S, none⟩ = some (.int .i64 z) := vz
              refine wpAnyH_ready (rs := [14]) (by kernel_rfl) (by simp) ?_
              refine AllReadyH.cons (o := ?_) ?_ (fun K hK => ?_) AllReadyH.nil
              rotate_left
              · (simp only [List.getElem?_toArray, List.getElem?_cons_zero, List.getElem?_cons_succ]; rfl)
              go_simp
              go_at_call 47; refine (addV_any _ _ _ w4.heap.size n' k (putAllV [] ((gtRows ts cols S).take k)) (pick ys cols) x P 6000000000000 100000000000 _ HM7.out HPG.out.1 (by rw [HPG.out.2]; exact hz') (by omega) (by omega) (fun t ht => (take_in (by omega) (fun t ht => (HRM.out t ht).2.2) k 60 (by omega) t ht).mono (by omega)) HXP.out (by omega) HAT3.out.drew HCV3.out.drew).mono ?_; rintro e w8 ⟨rfl, hcv5, hgr5⟩; have j0 := hgr5.cell i0 (fun e => HCV3.out.drew.nocell _ i0 (by simpa using e)); have j1 := hgr5.cell i1 (fun e => HCV3.out.drew.nocell _ i1 (by simpa using e)); have j2 := hgr5.cell i2 (fun e => HCV3.out.drew.nocell _ i2 (by simpa using e)); have j3 := hgr5.cell i3 (fun e => HCV3.out.drew.nocell _ i3 (by simpa using e))
              (try go_wp2_with fail)
              refine hK.out _ _ ?_ (fun hHeld' => ?_)
              · (try dsimp only)
                exact ⟨j0, j1, j2, j3⟩
              clear hK K hHeld
              have hHeld := hHeld'
              clear hHeld'
              (try simp only [Act.put, List.setIfInBounds_toArray, List.set_cons_zero, List.set_cons_succ])
              refine wpAnyH_done (by kernel_rfl) ?_ _
              have HCV5 : Hid (CntV w8 w4.heap.size n' (k + 1) (putAllV [] ((gtRows ts cols S).take (k + 1)))) := by show CntV _ _ _ _ _; rw [HPT.out]; exact hcv5
              have Y9 : Below w4.heap.size w4 w8 := Y8.drew.grown hgr5 Y8.size (fun j hj => by cases hj; exact Nat.le_refl _)
              have HY9 := Hid.mk Y9
              clear hcv5 hgr5 j0 j1 j2 j3 i0 i1 i2 i3 u0 v0 v1 vz hHeld HCV3 HAT3 Y8 Y9
              go_wp2
              go_roundw
              case rel => exact ⟨k + 1, by omega, by go_num, HCV5.out, HY9.out⟩
              case measure => simp [intOf]; omega
            · obtain rfl : k = n := by omega
              have hall : (gtRows ts cols S).take k = gtRows ts cols S := List.take_of_length_le (by rw [gtRows_length]; omega)
              have HC2 : Hid (CntV wr w4.heap.size n' k (gtL ts cols S)) := by have := HCV.out; rw [hall] at this; exact this
              clear hall HCV
              go_wp2_with fail
              refine (groupsV_any w4.heap.size n' k (gtL ts cols S) _ (by omega) hn6 HC2.out).mono ?_
              rintro e w6 ⟨⟨r6, m6, d6, rfl, ho6⟩, hb6⟩
              have z3 := B5.size
              obtain ⟨ok, hok6⟩ : ∃ ok, goodV (gtL ts cols S) = ok := ⟨_, rfl⟩
              have HO6 := Hid.mk hok6
              rw [hok6] at ho6 ⊢
              clear hok6
              go_wp2
              refine bodyPost_ret (v := .tuple #[.slice r6 m6 d6, .bool ok]) (by simp [results, Try.results10, go_sem]) rfl ⟨?_, B5.trans (hb6.mono B5.size)⟩
              rw [HRB.out]
              simp only [Int.toNat_natCast]
              rw [HO6.out]
              exact ⟨r6, m6, d6, rfl, ho6.widen z3 (Nat.le_refl _) (Nat.le_refl _)⟩

end Go.Proofs.Ytlfljfmhhnoinab
