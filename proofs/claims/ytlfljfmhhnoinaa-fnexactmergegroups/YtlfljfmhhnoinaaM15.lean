/- Contract of impl.MergeGroups. -/
import Derived.Test.YtlfljfmhhnoinaaM11
import Derived.Test.YtlfljfmhhnoinaaM14
namespace Go.Proofs.Ytlfljfmhhnoinaa
open Go.RowKit Go.Maps

set_option maxRecDepth 100000 in
set_option maxHeartbeats 8000000 in
theorem implMergeGroups (a a' : Option Addr) (n n' c c' : Nat) (ts us : List GRow) (w : World) (hz : ts.length = n) (hn : n ≤ 1048576) (hz' : us.length = n') (hn' : n' ≤ 1048576) (hF : Formed a n c) (hF' : Formed a' n' c') (ha : AtN w a ts) (ha' : AtN w a' us) :
    Calls Try.prog 38 #[.slice a n c, .slice a' n' c'] w fun e w' => GrpRet e w' w.heap.size (mgB ts us) (ansG (mgB ts us) (mgL ts us)) ∧ Below w.heap.size w w' := by
  have HF := Hid.mk hF
  have HF' := Hid.mk hF'
  have HA := Hid.mk ha
  have HA' := Hid.mk ha'
  clear hF hF' ha ha'
  cases hg : goodV ts with
  | false =>
    have HG := Hid.mk hg
    clear hg
    go_enter Try.func38, Try.ntmps38
    go_wp2_with (go_at_call 12; refine (implGoodGroups_any a _ _ ts _ hz hn HA.out.atV).mono ?_; rintro e w1 ⟨rfl, hb1⟩; rw [HG.out]; have HB1 := Hid.mk (HA'.out.below hb1); clear HA)
    refine bodyPost_ret (v := .tuple #[.slice none 0 0, .bool false]) (by simp [results, Try.results38, go_sem]) rfl ⟨GrpRet.zero (mgB_a HG.out) rfl, hb1⟩
  | true =>
    have HG := Hid.mk hg
    clear hg
    cases hg' : goodV us with
    | false =>
      have HG' := Hid.mk hg'
      clear hg'
      go_enter Try.func38, Try.ntmps38
      go_wp2_with (first | (go_at_call 12; refine (implGoodGroups_any a _ _ ts _ hz hn HA.out.atV).mono ?_; rintro e w1 ⟨rfl, hb1⟩; rw [HG.out]; have HB1 := Hid.mk (HA'.out.below hb1); clear HA) | (go_at_call 12; refine (implGoodGroups_any a' _ _ us _ hz' hn' HB1.out.atV).mono ?_; rintro e w2 ⟨rfl, hb2⟩; rw [HG'.out]; have B2 : Below w.heap.size w w2 := hb1.trans (hb2.mono hb1.size); clear hb1 hb2 HB1))
      refine bodyPost_ret (v := .tuple #[.slice none 0 0, .bool false]) (by simp [results, Try.results38, go_sem]) rfl ⟨GrpRet.zero (mgB_b HG'.out) rfl, B2⟩
    | true =>
      have HG' := Hid.mk hg'
      clear hg'
      have hmm := @run_makeMap Try.prog
      have hn60 : n ≤ 60 := by have := (goodV_parts HG.out).1; omega
      have hn60' : n' ≤ 60 := by have := (goodV_parts HG'.out).1; omega
      have HOL := Hid.mk (both_oneLen HG.out HG'.out)
      have HLL : Hid ((ts ++ us).length = n + n') := by show _ = _; rw [List.length_append, hz, hz']
      have HAX := Hid.mk HA.out
      have HAX' := Hid.mk HA'.out
      go_enter Try.func38, Try.ntmps38
      go_wp2_with (first | (go_at_call 12; refine (implGoodGroups_any a _ _ ts _ hz hn HA.out.atV).mono ?_; rintro e w1 ⟨rfl, hb1⟩; rw [HG.out]; have HB1 := Hid.mk (HA'.out.below hb1); clear HA) | (go_at_call 12; refine (implGoodGroups_any a' _ _ us _ hz' hn' HB1.out.atV).mono ?_; rintro e w2 ⟨rfl, hb2⟩; rw [HG'.out]; have B2 : Below w.heap.size w w2 := hb1.trans (hb2.mono hb1.size); clear hb1 hb2 HB1))
      go_wp2_with fail
      obtain ⟨V, hV⟩ : ∃ V, V = w2.alloc (.cells #[.slice a n c, .slice a' n' c'] 25) := ⟨_, rfl⟩
      have hbV : Below w2.heap.size w2 V := by rw [hV]; exact (Below.refl _ _).alloc (Nat.le_refl _) _
      have q0 : V.cell? ⟨w2.heap.size, 0, none⟩ = some (.slice a n c) := by rw [hV]; exact pair0 w2 _ _ _
      have q1 : V.cell? ⟨w2.heap.size, 1, none⟩ = some (.slice a' n' c') := by rw [hV]; exact pair1 w2 _ _ _
      have B3 := B2.trans (hbV.mono B2.size)
      rw [← hV]
      clear hV hbV B2
      refine (concatG_any w2.heap.size a a' n n' c c' ts us V hz hz' hn60 hn60' HF.out HF'.out (HAX.out.below B3) (HAX'.out.below B3) q0 q1).mono ?_
      rintro e w4 ⟨r, d, rfl, hr, hFr, hb4⟩
      have B4 := B3.trans (hb4.mono B3.size)
      have HR := Hid.mk hr
      obtain ⟨M, hM⟩ : ∃ M, M = n + n' := ⟨_, rfl⟩
      rw [← hM] at HLL ⊢
      have hM120 : M ≤ 120 := by omega
      clear hb4 B3 q0 q1 hr hFr HF HF' HAX HAX' HA' hM
      go_wp2_with fail
      refine (keysOfOneLength_any r M d (ts ++ us) w4 HLL.out (by omega) HR.out.atV).mono ?_
      rintro e w5 ⟨rfl, hb5⟩
      rw [HOL.out]
      have B5 := B4.trans (hb5.mono B4.size)
      have HR5 := Hid.mk (HR.out.below hb5)
      clear HR B4 hb5
      cases hsk : sameK ts us with
      | false =>
        have HSK := Hid.mk hsk
        clear hsk
        go_wp2
        refine bodyPost_ret (v := .tuple #[.slice none 0 0, .bool false]) (by simp [results, Try.results38, go_sem]) rfl ⟨GrpRet.zero (mgB_k HSK.out) rfl, B5⟩
      | true =>
        have HSK := Hid.mk hsk
        clear hsk
        have HBM := Hid.mk (both_mem HG.out HG'.out HSK.out)
        have HRB := Hid.mk (mgB_yes HG.out HG'.out HSK.out)
        have HPB := Hid.mk (putAllV_both (us := us) HG.out)
        have h6 := both_six HG.out HG'.out
        obtain ⟨KN, hK⟩ : ∃ KN, keyN (ts ++ us) = KN := ⟨_, rfl⟩
        have HK := Hid.mk hK
        rw [hK] at HBM h6
        obtain ⟨L, hL⟩ : ∃ L, L = ts ++ us := ⟨_, rfl⟩
        rw [← hL] at HBM HLL HPB HK HR5
        clear hK hL
        go_wp2
        obtain ⟨W, hW⟩ : ∃ W, W = w5.alloc (.map #[] 0) := ⟨_, rfl⟩
        have hbW : Below w5.heap.size w5 W := by rw [hW]; exact (Below.refl _ _).alloc (Nat.le_refl _) _
        have C0 : CntV W w5.heap.size KN 0 [] := by rw [hW]; exact CntV.made w5 KN
        rw [← hW]
        clear hW hmm
        go_loopw [28] (fun i wr => ∃ (k : Nat), k ≤ M ∧ i = .int .i64 k ∧ CntV wr w5.heap.size KN k (putAllV [] (L.take k)) ∧ Below w5.heap.size w5 wr) (fun i _ => M - (intOf i).toNat)
        case atStart => exact ⟨0, Nat.zero_le _, rfl, C0, hbW⟩
        case round =>
          clear C0 hbW
          obtain ⟨k, hk, rfl, hcv, hbw⟩ := hrel
          have HCV := Hid.mk hcv
          have zb := hcv.lt
          clear hcv
          by_cases hlt : k < M
          · obtain ⟨b, off, rfl, hc⟩ := (HR5.out.below hbw).some (by rw [HLL.out]; omega)
            obtain ⟨q, dd, hcx, hwx, hvx, hm, hnil, hat⟩ := hc k (by rw [HLL.out]; omega)
            have hki : (k : Int) < (M : Int) := by omega
            obtain ⟨g1, g2, g3⟩ := HBM.out _ (gat_mem (show k < L.length by rw [HLL.out]; omega))
            have HPT := Hid.mk (putAllV_take [] L k (by rw [HLL.out]; omega))
            generalize gat L k = Y at *
            obtain ⟨ys, x, y⟩ := Y
            simp only at hcx hwx hvx hat hm g1 g2 g3
            have HG1 := Hid.mk g1
            have HG2 := Hid.mk g2
            have HG3 := Hid.mk g3
            obtain ⟨m, hmm⟩ : ∃ m, ys.length = m := ⟨_, rfl⟩
            rw [hmm] at hcx hm
            have HM := Hid.mk hmm
            clear hc g1 g2 g3 hmm
            obtain ⟨V, hV⟩ : ∃ V, V = wr.alloc (.cells #[.slice q m dd, .int .i64 x, .int .i64 y] 35) := ⟨_, rfl⟩
            have hbV : Below wr.heap.size wr V := by rw [hV]; exact (Below.refl _ _).alloc (Nat.le_refl _) _
            have v0 : V.cell? ⟨wr.heap.size, 0, none⟩ = some (.slice q m dd) := by rw [hV]; exact trip0 wr _ _ _ _
            have v1 : V.cell? ⟨wr.heap.size, 1, none⟩ = some (.int .i64 x) := by rw [hV]; exact trip1 wr _ _ _ _
            have v2 : V.cell? ⟨wr.heap.size, 2, none⟩ = some (.int .i64 y) := by rw [hV]; exact trip2 wr _ _ _ _
            have Y6 : Below w5.heap.size w5 V := hbw.trans (hbV.mono hbw.size)
            have HCV3 := Hid.mk (HCV.out.below hbV)
            have HAT3 := Hid.mk (hat.below hbV)
            go_wp2_with fail
            rw [← hV]
            clear hV hcx hwx hvx hat hbV HCV
            refine wp_region_held_drew (S := fun w' => w'.cell? ⟨wr.heap.size, 0, none⟩ = some (.slice q m dd) ∧ w'.cell? ⟨wr.heap.size, 1, none⟩ = some (.int .i64 x) ∧ w'.cell? ⟨wr.heap.size, 2, none⟩ = some (.int .i64 y)) (by kernel_rfl) ?_ (fun hHeld => ?_)
            · (try dsimp only)
              exact ⟨v0, v1, v2⟩
            refine wpAnyH_take (i := 0) (oi := ?_) (v := ?_) ?_ (by kernel_rfl) (by kernel_rfl) (by kernel_rfl) ?_ (Or.inl ⟨?_, ?_⟩) (by assumption) ?_
            rotate_left 2
            · (simp only [List.getElem?_toArray, List.getElem?_cons_zero]; rfl)
            · exact fun _ _ _ h => h
            · rfl
            · (intro wS hSw; (try dsimp only at hSw); go_simp; (try with_reducible rfl))
            (try simp only [Act.put, List.setIfInBounds_toArray, List.set_cons_zero, List.set_cons_succ])
            refine wpAnyH_take (i := 1) (oi := ?_) (v := ?_) ?_ (by kernel_rfl) (by kernel_rfl) (by kernel_rfl) ?_ (Or.inl ⟨?_, ?_⟩) (by assumption) ?_
            rotate_left 2
            · (simp only [List.getElem?_toArray, List.getElem?_cons_zero, List.getElem?_cons_succ]; rfl)
            · exact fun _ _ _ h => h
            · rfl
            · (intro wS hSw; (try dsimp only at hSw); go_simp; (try with_reducible rfl))
            (try simp only [Act.put, List.setIfInBounds_toArray, List.set_cons_zero, List.set_cons_succ])
            refine wpAnyH_take (i := 2) (oi := ?_) (v := ?_) ?_ (by kernel_rfl) (by kernel_rfl) (by kernel_rfl) ?_ (Or.inl ⟨?_, ?_⟩) (by assumption) ?_
            rotate_left 2
            · (simp only [List.getElem?_toArray, List.getElem?_cons_zero, List.getElem?_cons_succ]; rfl)
            · exact fun _ _ _ h => h
            · rfl
            · (intro wS hSw; (try dsimp only at hSw); go_simp; (try with_reducible rfl))
            (try simp only [Act.put, List.setIfInBounds_toArray, List.set_cons_zero, List.set_cons_succ])
            refine wpAnyH_take (i := 3) (oi := ?_) (v := ?_) ?_ (by kernel_rfl) (by kernel_rfl) (by kernel_rfl) ?_ (Or.inl ⟨?_, ?_⟩) (by assumption) ?_
            rotate_left 2
            · (simp only [List.getElem?_toArray, List.getElem?_cons_zero, List.getElem?_cons_succ]; rfl)
            · exact fun _ _ _ h => h
            · rfl
            · (intro wS hSw; (try dsimp only at hSw); go_simp; (try with_reducible rfl))
            (try simp only [Act.put, List.setIfInBounds_toArray, List.set_cons_zero, List.set_cons_succ])
            refine wpAnyH_ready (rs := [4]) (by kernel_rfl) (by simp) ?_
            refine AllReadyH.cons (o := ?_) ?_ (fun K hK => ?_) AllReadyH.nil
            rotate_left
            · (simp only [List.getElem?_toArray, List.getElem?_cons_zero, List.getElem?_cons_succ]; rfl)
            go_simp
            go_at_call 52; refine (amountOf_any _ _ _ _ _ _).mono ?_; rintro e w6 ⟨rfl, hb6⟩; have HCV4 := Hid.mk (HCV3.out.drew.below hb6); have HAT4 := Hid.mk (HAT3.out.drew.below hb6); have Y7 := Y6.drew.trans (hb6.mono Y6.size); have i0 := cell_later (w := V.drew) hb6 v0; have i1 := cell_later (w := V.drew) hb6 v1; have i2 := cell_later (w := V.drew) hb6 v2
            (try go_wp2_with fail)
            refine hK.out _ _ ?_ (fun hHeld' => ?_)
            · (try dsimp only)
              exact ⟨i0, i1, i2⟩
            clear hK K hHeld
            have hHeld := hHeld'
            clear hHeld'
            (try simp only [Act.put, List.setIfInBounds_toArray, List.set_cons_zero, List.set_cons_succ])
            refine wpAnyH_ready (rs := [5]) (by kernel_rfl) (by simp) ?_
            refine AllReadyH.cons (o := ?_) ?_ (fun K hK => ?_) AllReadyH.nil
            rotate_left
            · (simp only [List.getElem?_toArray, List.getElem?_cons_zero, List.getElem?_cons_succ]; rfl)
            go_simp
            go_at_call 64; refine (addV_any _ _ _ w5.heap.size KN k (putAllV [] (L.take k)) ys x y 12000000000000000 100000000000000 _ HM.out HG1.out HG2.out (by omega) (by omega) (fun t ht => (take_in (by omega) (fun t ht => (HBM.out t ht).2.2) k 120 (by omega) t ht).mono (by omega)) HG3.out (by omega) HAT4.out HCV4.out).mono ?_; rintro e w7 ⟨rfl, hcv5, hgr5⟩; have j0 := hgr5.cell i0 (fun e => HCV4.out.nocell _ i0 (by simpa using e)); have j1 := hgr5.cell i1 (fun e => HCV4.out.nocell _ i1 (by simpa using e)); have j2 := hgr5.cell i2 (fun e => HCV4.out.nocell _ i2 (by simpa using e))
            (try go_wp2_with fail)
            refine hK.out _ _ ?_ (fun hHeld' => ?_)
            · (try dsimp only)
              exact ⟨j0, j1, j2⟩
            clear hK K hHeld
            have hHeld := hHeld'
            clear hHeld'
            (try simp only [Act.put, List.setIfInBounds_toArray, List.set_cons_zero, List.set_cons_succ])
            refine wpAnyH_done (by kernel_rfl) ?_ _
            have HCV5 : Hid (CntV w7 w5.heap.size KN (k + 1) (putAllV [] (L.take (k + 1)))) := by show CntV _ _ _ _ _; rw [HPT.out]; exact hcv5
            have Y8 : Below w5.heap.size w5 w7 := Y7.grown hgr5 Y7.size (fun j hj => by cases hj; exact Nat.le_refl _)
            have HY8 := Hid.mk Y8
            clear hcv5 hgr5 j0 j1 j2 i0 i1 i2 v0 v1 v2 hHeld HCV3 HCV4 HAT3 HAT4 Y6 Y7 Y8 hb6
            go_wp2
            go_roundw
            case rel => exact ⟨k + 1, by omega, by go_num, HCV5.out, HY8.out⟩
            case measure => simp [intOf]; omega
          · obtain rfl : k = M := by omega
            have hall : L.take k = L := List.take_of_length_le (by rw [HLL.out]; omega)
            have HC2 : Hid (CntV wr w5.heap.size KN k (mgL ts us)) := by have := HCV.out; rw [hall, HPB.out] at this; exact this
            have HRW := Hid.mk (HR5.out.below hbw)
            have B6 := B5.trans (hbw.mono B5.size)
            clear hall HCV hbw
            go_wp2_with (go_at_call 68; refine (cellsOfKeys_any r k d L _ HLL.out HRW.out.atV).mono ?_; rintro e w8 ⟨rfl, rfl⟩; rw [HK.out])
            refine (groupsV_any w5.heap.size KN k (mgL ts us) _ (by omega) h6 HC2.out).mono ?_
            rintro e w9 ⟨⟨r6, m6, d6, rfl, ho6⟩, hb9⟩
            have z3 := B6.size
            obtain ⟨ok, hok6⟩ : ∃ ok, goodV (mgL ts us) = ok := ⟨_, rfl⟩
            have HO6 := Hid.mk hok6
            rw [hok6] at ho6 ⊢
            clear hok6
            go_wp2
            refine bodyPost_ret (v := .tuple #[.slice r6 m6 d6, .bool ok]) (by simp [results, Try.results38, go_sem]) rfl ⟨?_, B6.trans (hb9.mono B6.size)⟩
            rw [HRB.out, HO6.out]
            exact ⟨r6, m6, d6, rfl, ho6.widen z3 (Nat.le_refl _) (Nat.le_refl _)⟩

end Go.Proofs.Ytlfljfmhhnoinaa
