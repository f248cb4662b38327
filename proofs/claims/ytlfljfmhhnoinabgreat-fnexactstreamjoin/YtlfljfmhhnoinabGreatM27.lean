/- Several texts of one proof, in build order: SJX, SJL, JoinQ, JoinL. -/
import Derived.Test.YtlfljfmhhnoinabGreatM21
import Derived.Test.YtlfljfmhhnoinabGreatM22
import Derived.Test.YtlfljfmhhnoinabGreatM26
import Derived.Test.YtlfljfmhhnoinabGreatM12
import Derived.Test.YtlfljfmhhnoinabGreatM15
import Derived.Test.YtlfljfmhhnoinabGreatM6
import Derived.Test.YtlfljfmhhnoinabGreatM17

/- Contract of impl.StreamJoin. -/
namespace Go.Proofs.YtlfljfmhhnoinabGreat
open Go.RowKit Go.Shelf Go.Maps

/-- The changes of two streams' join. -/
def sjL (ss ss' : List Tab) (ps : List (List Int)) (n : Nat) : List (List WRow) := upto (chgK (fun k => (tat ss k).2) (fun k => (tat ss' k).2) ps) n
def sjB (p : Int) (ss : List Tab) (p' : Int) (ss' : List Tab) (ps : List (List Int)) : Bool :=
  goodS p ss && (goodS p' ss' && (decide (ss.length = ss'.length) && ((pairsOk ps p.toNat p'.toNat && decide (joinC p p' ps ≤ 6)) && allG (joinC p p' ps) (sjL ss ss' ps ss.length))))
section
variable {p p' : Int} {ss ss' : List Tab} {ps : List (List Int)}
theorem sjB_a (h : goodS p ss = false) : sjB p ss p' ss' ps = false := by simp [sjB, h]
theorem sjB_b (h : goodS p' ss' = false) : sjB p ss p' ss' ps = false := by simp [sjB, h]
theorem sjB_n (h : ss.length ≠ ss'.length) : sjB p ss p' ss' ps = false := by simp [sjB, h]
theorem sjB_p (h : (pairsOk ps p.toNat p'.toNat && decide (joinC p p' ps ≤ 6)) = false) : sjB p ss p' ss' ps = false := by simp only [sjB, h]; simp
theorem sjB_yes (h1 : goodS p ss = true) (h2 : goodS p' ss' = true) (h3 : ss.length = ss'.length) (h4 : (pairsOk ps p.toNat p'.toNat && decide (joinC p p' ps ≤ 6)) = true) : sjB p ss p' ss' ps = allG (joinC p p' ps) (sjL ss ss' ps ss.length) := by
  simp only [sjB, h1, h2, h3, h4, decide_true, Bool.true_and]
end

set_option maxRecDepth 100000 in
set_option maxHeartbeats 8000000 in
theorem implStreamJoin (a a' ap : Option Addr) (n n' np c c' cp : Nat) (ss ss' : List Tab) (ps : List (List Int)) (p p' : Int) (w : World) (hs : SmU ss n) (hs' : SmU ss' n') (hzp : ps.length = np) (hnp : np ≤ 1048576) (ha : AtSM w a ss) (ha' : AtSM w a' ss') (hap : AtS w ap ps) :
    Calls Tryz.prog 9 #[.agg #[.int .i64 p, .slice a n c], .agg #[.int .i64 p', .slice a' n' c'], .slice ap np cp] w fun e w' => StrAns e w' w.heap.size (sjB p ss p' ss' ps) (joinC p p' ps) (tabsOf (joinC p p' ps) (sjL ss ss' ps n) n) ∧ Below w.heap.size w w' := by
  have hz := hs.1
  have hz' := hs'.1
  obtain ⟨W, hW⟩ : ∃ W, W = ((w.alloc (.cells #[.int .i64 p, .slice a n c] 30)).alloc (.cells #[.int .i64 p', .slice a' n' c'] 30)).alloc (.cells #[.int .i64 0, .slice none 0 0] 30) := ⟨_, rfl⟩
  have zW : W.heap.size = w.heap.size + 1 + 1 + 1 := by rw [hW]; simp
  have B0 : Below w.heap.size w W := by rw [hW]; exact (((Below.refl _ _).alloc (Nat.le_refl _) _).alloc (by simp) _).alloc (by simp; omega) _
  have c0 : W.cell? ⟨w.heap.size, 0, none⟩ = some (.int .i64 p) := by rw [hW]; exact alloc_keeps (alloc_keeps (pair0 w _ _ _) _) _
  have c1 : W.cell? ⟨w.heap.size, 1, none⟩ = some (.slice a n c) := by rw [hW]; exact alloc_keeps (alloc_keeps (pair1 w _ _ _) _) _
  have b0 : W.cell? ⟨w.heap.size + 1, 0, none⟩ = some (.int .i64 p') := by rw [hW]; refine alloc_keeps ?_ _; have := pair0 (w.alloc (.cells #[.int .i64 p, .slice a n c] 30)) (.int .i64 p') (.slice a' n' c') 30; rwa [World.size_alloc] at this
  have b1 : W.cell? ⟨w.heap.size + 1, 1, none⟩ = some (.slice a' n' c') := by rw [hW]; refine alloc_keeps ?_ _; have := pair1 (w.alloc (.cells #[.int .i64 p, .slice a n c] 30)) (.int .i64 p') (.slice a' n' c') 30; rwa [World.size_alloc] at this
  have q0 : W.heap[w.heap.size + 1 + 1]? = some (.cells #[.int .i64 0, .slice none 0 0] 30 (0, 0)) := by
    rw [hW]
    have := heap_alloc_new ((w.alloc (.cells #[.int .i64 p, .slice a n c] 30)).alloc (.cells #[.int .i64 p', .slice a' n' c'] 30)) (.cells #[.int .i64 0, .slice none 0 0] 30)
    rwa [World.size_alloc, World.size_alloc] at this
  have e0 : W.cell? ⟨w.heap.size + 1 + 1, 0, none⟩ = some (.int .i64 0) := by rw [cell_of_row _ _ 0 _ _ (0, 0) q0]; rfl
  have e1 : W.cell? ⟨w.heap.size + 1 + 1, 1, none⟩ = some (.slice none 0 0) := by rw [cell_of_row _ _ 1 _ _ (0, 0) q0]; rfl
  have f0 : W.frozen? ⟨w.heap.size + 1 + 1, 0, none⟩ = false := frozen_of_row _ _ 0 _ _ q0
  have f1 : W.frozen? ⟨w.heap.size + 1 + 1, 1, none⟩ = false := frozen_of_row _ _ 1 _ _ q0
  have HA := ha.below B0
  have HA' := ha'.below B0
  have HP := hap.below B0
  clear ha ha' hap q0
  cases hg : goodS p ss with
  | false =>
    have HG := Hid.mk hg
    clear hg
    go_enter Tryz.func9, Tryz.ntmps9
    go_wp2_with fail
    rw [← hW]
    clear hW
    refine (implGoodStream _ _ _ ss _ _ hs HA).mono ?_
    rintro e w1 ⟨rfl, hb1⟩
    rw [HG.out]
    have B1 := B0.trans (hb1.mono B0.size)
    replace f0 := frozen_later hb1 e0 f0
    replace f1 := frozen_later hb1 e1 f1
    replace e0 := cell_later hb1 e0
    replace e1 := cell_later hb1 e1
    replace c0 := cell_later hb1 c0
    replace c1 := cell_later hb1 c1
    replace b0 := cell_later hb1 b0
    replace b1 := cell_later hb1 b1
    replace HA := HA.below hb1
    replace HA' := HA'.below hb1
    replace HP := HP.below hb1
    clear hb1
    go_wp2
    refine bodyPost_ret (v := .tuple #[.agg #[.int .i64 0, .slice none 0 0], .bool false]) (by simp [results, Tryz.results9, go_sem, e0, e1]) rfl ⟨StrAns.zero (sjB_a HG.out) rfl, ?_⟩
    exact (B1.setCell (by show w.heap.size ≤ w.heap.size + 1 + 1; omega) _).setCell (by show w.heap.size ≤ w.heap.size + 1 + 1; omega) _
  | true =>
    have HG := Hid.mk hg
    cases hg' : goodS p' ss' with
    | false =>
      have HG' := Hid.mk hg'
      clear hg hg'
      go_enter Tryz.func9, Tryz.ntmps9
      go_wp2_with fail
      rw [← hW]
      clear hW
      refine (implGoodStream _ _ _ ss _ _ hs HA).mono ?_
      rintro e w1 ⟨rfl, hb1⟩
      rw [HG.out]
      have B1 := B0.trans (hb1.mono B0.size)
      replace f0 := frozen_later hb1 e0 f0
      replace f1 := frozen_later hb1 e1 f1
      replace e0 := cell_later hb1 e0
      replace e1 := cell_later hb1 e1
      replace c0 := cell_later hb1 c0
      replace c1 := cell_later hb1 c1
      replace b0 := cell_later hb1 b0
      replace b1 := cell_later hb1 b1
      replace HA := HA.below hb1
      replace HA' := HA'.below hb1
      replace HP := HP.below hb1
      clear hb1
      go_wp2_with fail
      refine (implGoodStream _ _ _ ss' _ _ hs' HA').mono ?_
      rintro e w2 ⟨rfl, hb2⟩
      rw [HG'.out]
      have B2 := B1.trans (hb2.mono B1.size)
      replace f0 := frozen_later hb2 e0 f0
      replace f1 := frozen_later hb2 e1 f1
      replace e0 := cell_later hb2 e0
      replace e1 := cell_later hb2 e1
      replace c0 := cell_later hb2 c0
      replace c1 := cell_later hb2 c1
      replace b0 := cell_later hb2 b0
      replace b1 := cell_later hb2 b1
      replace HA := HA.below hb2
      replace HA' := HA'.below hb2
      replace HP := HP.below hb2
      clear hb2
      go_wp2
      refine bodyPost_ret (v := .tuple #[.agg #[.int .i64 0, .slice none 0 0], .bool false]) (by simp [results, Tryz.results9, go_sem, e0, e1]) rfl ⟨StrAns.zero (sjB_b HG'.out) rfl, ?_⟩
      exact (B2.setCell (by show w.heap.size ≤ w.heap.size + 1 + 1; omega) _).setCell (by show w.heap.size ≤ w.heap.size + 1 + 1; omega) _
    | true =>
      have HG' := Hid.mk hg'
      by_cases hnn : n = n'
      rotate_left
      · have hne : ((n : Int) != (n' : Int)) = true := by simp; omega
        have HNN : Hid (ss.length ≠ ss'.length) := by show _ ≠ _; rw [hz, hz']; exact hnn
        clear hg hg' hnn
        go_enter Tryz.func9, Tryz.ntmps9
        go_wp2_with fail
        rw [← hW]
        clear hW
        refine (implGoodStream _ _ _ ss _ _ hs HA).mono ?_
        rintro e w1 ⟨rfl, hb1⟩
        rw [HG.out]
        have B1 := B0.trans (hb1.mono B0.size)
        replace f0 := frozen_later hb1 e0 f0
        replace f1 := frozen_later hb1 e1 f1
        replace e0 := cell_later hb1 e0
        replace e1 := cell_later hb1 e1
        replace c0 := cell_later hb1 c0
        replace c1 := cell_later hb1 c1
        replace b0 := cell_later hb1 b0
        replace b1 := cell_later hb1 b1
        replace HA := HA.below hb1
        replace HA' := HA'.below hb1
        replace HP := HP.below hb1
        clear hb1
        go_wp2_with fail
        refine (implGoodStream _ _ _ ss' _ _ hs' HA').mono ?_
        rintro e w2 ⟨rfl, hb2⟩
        rw [HG'.out]
        have B2 := B1.trans (hb2.mono B1.size)
        replace f0 := frozen_later hb2 e0 f0
        replace f1 := frozen_later hb2 e1 f1
        replace e0 := cell_later hb2 e0
        replace e1 := cell_later hb2 e1
        replace c0 := cell_later hb2 c0
        replace c1 := cell_later hb2 c1
        replace b0 := cell_later hb2 b0
        replace b1 := cell_later hb2 b1
        replace HA := HA.below hb2
        replace HA' := HA'.below hb2
        replace HP := HP.below hb2
        clear hb2
        go_wp2
        refine bodyPost_ret (v := .tuple #[.agg #[.int .i64 0, .slice none 0 0], .bool false]) (by simp [results, Tryz.results9, go_sem, e0, e1]) rfl ⟨StrAns.zero (sjB_n HNN.out) rfl, ?_⟩
        exact (B2.setCell (by show w.heap.size ≤ w.heap.size + 1 + 1; omega) _).setCell (by show w.heap.size ≤ w.heap.size + 1 + 1; omega) _
      subst hnn
      obtain ⟨hinc, hn12, hgd⟩ := goodS_parts hg
      obtain ⟨hinc', _, hgd'⟩ := goodS_parts hg'
      rw [hz] at hn12 hgd
      rw [hz'] at hgd'
      obtain ⟨q, hq⟩ : ∃ q : Nat, p = q := ⟨p.toNat, by have := inc_range hinc; omega⟩
      obtain ⟨q', hq'⟩ : ∃ q : Nat, p' = q := ⟨p'.toNat, by have := inc_range hinc'; omega⟩
      subst hq hq'
      have h6 : q ≤ 6 := by have := inc_range hinc; omega
      have h6' : q' ≤ 6 := by have := inc_range hinc'; omega
      have HGD : Hid (∀ k, k < n → goodT q (tat ss k).2 = true) := fun k hk => (hgd k hk).2
      have HGD' : Hid (∀ k, k < n → goodT q' (tat ss' k).2 = true) := fun k hk => (hgd' k hk).2
      clear hg hg' hgd hgd' hinc hinc'
      go_enter Tryz.func9, Tryz.ntmps9
      go_wp2_with fail
      rw [← hW]
      clear hW
      refine (implGoodStream _ _ _ ss _ _ hs HA).mono ?_
      rintro e w1 ⟨rfl, hb1⟩
      rw [HG.out]
      have B1 := B0.trans (hb1.mono B0.size)
      replace f0 := frozen_later hb1 e0 f0
      replace f1 := frozen_later hb1 e1 f1
      replace e0 := cell_later hb1 e0
      replace e1 := cell_later hb1 e1
      replace c0 := cell_later hb1 c0
      replace c1 := cell_later hb1 c1
      replace b0 := cell_later hb1 b0
      replace b1 := cell_later hb1 b1
      replace HA := HA.below hb1
      replace HA' := HA'.below hb1
      replace HP := HP.below hb1
      clear hb1
      go_wp2_with fail
      refine (implGoodStream _ _ _ ss' _ _ hs' HA').mono ?_
      rintro e w2 ⟨rfl, hb2⟩
      rw [HG'.out]
      have B2 := B1.trans (hb2.mono B1.size)
      replace f0 := frozen_later hb2 e0 f0
      replace f1 := frozen_later hb2 e1 f1
      replace e0 := cell_later hb2 e0
      replace e1 := cell_later hb2 e1
      replace c0 := cell_later hb2 c0
      replace c1 := cell_later hb2 c1
      replace b0 := cell_later hb2 b0
      replace b1 := cell_later hb2 b1
      replace HA := HA.below hb2
      replace HA' := HA'.below hb2
      replace HP := HP.below hb2
      clear hb2
      go_wp2_with fail
      refine (joinOfCells_any q q' _ _ _ ps _ h6 h6' hzp hnp HP).mono ?_
      rintro e w3 ⟨hb3, hcase⟩
      have B3 := B2.trans (hb3.mono B2.size)
      replace f0 := frozen_later hb3 e0 f0
      replace f1 := frozen_later hb3 e1 f1
      replace e0 := cell_later hb3 e0
      replace e1 := cell_later hb3 e1
      replace c0 := cell_later hb3 c0
      replace c1 := cell_later hb3 c1
      replace b0 := cell_later hb3 b0
      replace b1 := cell_later hb3 b1
      replace HA := HA.below hb3
      replace HA' := HA'.below hb3
      clear hb3 HP
      rcases hcase with ⟨hno, rfl⟩ | ⟨hyes, f5, f3, f4, f6, rfl, hmt⟩
      · have HNO := Hid.mk hno
        clear hno
        go_wp2
        refine bodyPost_ret (v := .tuple #[.agg #[.int .i64 0, .slice none 0 0], .bool false]) (by simp [results, Tryz.results9, go_sem, e0, e1]) rfl ⟨StrAns.zero (sjB_p HNO.out) rfl, ?_⟩
        exact (B3.setCell (by show w.heap.size ≤ w.heap.size + 1 + 1; omega) _).setCell (by show w.heap.size ≤ w.heap.size + 1 + 1; omega) _
      · have HNB : Hid (sjB q ss q' ss' ps = allG (joinC q q' ps) (sjL ss ss' ps n)) := by show _ = _; rw [sjB_yes HG.out HG'.out (by rw [hz, hz']) hyes, hz]
        simp only [Bool.and_eq_true, decide_eq_true_eq] at hyes
        have HOK : Hid (pairsOk ps q q' = true) := hyes.1
        have HJC : Hid (joinC q q' ps ≤ 6) := hyes.2
        clear hyes
        obtain ⟨J, hJ⟩ : ∃ J : Nat, J = joinC q q' ps := ⟨_, rfl⟩
        rw [← hJ]
        have HJ := Hid.mk hJ
        clear hJ
        go_wp2_with fail
        refine wp_region_held_drew (S := fun w' => w'.cell? ⟨w.heap.size, 0, none⟩ = some (.int .i64 q) ∧ w'.cell? ⟨w.heap.size, 1, none⟩ = some (.slice a n c) ∧ w'.cell? ⟨w.heap.size + 1, 0, none⟩ = some (.int .i64 q') ∧ w'.cell? ⟨w.heap.size + 1, 1, none⟩ = some (.slice a' n c')) (by kernel_rfl) ?_ (fun hHeld => ?_)
        · (try dsimp only)
          exact ⟨c0, c1, b0, b1⟩
        refine wpAnyH_take (i := 0) (oi := ?_) (v := ?_) ?_ (by kernel_rfl) (by kernel_rfl) (by kernel_rfl) ?_ (Or.inl ⟨?_, ?_⟩) (by assumption) ?_
        rotate_left 2
        · (simp only [List.getElem?_toArray, List.getElem?_cons_zero]; rfl)
        · exact fun _ _ _ h => h
        · rfl
        · (intro wS hSw; (try dsimp only at hSw); go_simp; (try with_reducible rfl))
        (try simp only [Act.put, List.setIfInBounds_toArray, List.set_cons_zero, List.set_cons_succ])
        refine wpAnyH_take (i := 2) (oi := ?_) (v := ?_) ?_ (by kernel_rfl) (by kernel_rfl) (by kernel_rfl) ?_ (Or.inl ⟨?_, ?_⟩) (by assumption) ?_
        rotate_left 2
        · (simp only [List.getElem?_toArray, List.getElem?_cons_zero, List.getElem?_cons_succ]; rfl)
        · exact fun _ _ _ h => h
        · rfl
        · (intro wS hSw; (try dsimp only at hSw); go_simp; (try with_reducible rfl))
        (try simp only [Act.put, List.setIfInBounds_toArray, List.set_cons_zero, List.set_cons_succ])
        refine wpAnyH_take (i := 4) (oi := ?_) (v := ?_) ?_ (by kernel_rfl) (by kernel_rfl) (by kernel_rfl) ?_ (Or.inl ⟨?_, ?_⟩) (by assumption) ?_
        rotate_left 2
        · (simp only [List.getElem?_toArray, List.getElem?_cons_zero, List.getElem?_cons_succ]; rfl)
        · exact fun _ _ _ h => h
        · rfl
        · (intro wS hSw; (try dsimp only at hSw); go_simp; (try with_reducible rfl))
        (try simp only [Act.put, List.setIfInBounds_toArray, List.set_cons_zero, List.set_cons_succ])
        refine wpAnyH_take (i := 6) (oi := ?_) (v := ?_) ?_ (by kernel_rfl) (by kernel_rfl) (by kernel_rfl) ?_ (Or.inl ⟨?_, ?_⟩) (by assumption) ?_
        rotate_left 2
        · (simp only [List.getElem?_toArray, List.getElem?_cons_zero, List.getElem?_cons_succ]; rfl)
        · exact fun _ _ _ h => h
        · rfl
        · (intro wS hSw; (try dsimp only at hSw); go_simp; (try with_reducible rfl))
        (try simp only [Act.put, List.setIfInBounds_toArray, List.set_cons_zero, List.set_cons_succ])
        have HA := HA.below (Below.refl _ _).drew
        have HA' := HA'.below (Below.refl _ _).drew
        have hmt := hmt.below (Below.refl _ _).drew
        refine wpAnyH_ready (rs := [1]) (by kernel_rfl) (by simp) ?_
        refine AllReadyH.cons (o := ?_) ?_ (fun K hK => ?_) AllReadyH.nil
        rotate_left
        · (simp only [List.getElem?_toArray, List.getElem?_cons_zero, List.getElem?_cons_succ]; rfl)
        go_simp
        go_at_call 29; refine (countsOfStream_any _ _ _ q ss _ _ hs hn12 HGD.out HA).mono ?_; rintro e w4 ⟨r4, d4, bs4, rfl, HC4, hb4⟩; replace f0 := frozen_later (w := w3.drew) hb4 e0 f0; replace f1 := frozen_later (w := w3.drew) hb4 e1 f1; replace e0 := cell_later hb4 e0; replace e1 := cell_later hb4 e1; replace c0 := cell_later hb4 c0; replace c1 := cell_later hb4 c1; replace b0 := cell_later hb4 b0; replace b1 := cell_later hb4 b1; replace HA' := HA'.below hb4; replace hmt := hmt.below hb4; have B4 := B3.drew.trans (hb4.mono B3.size)
        (try go_wp2_with fail)
        refine hK.out _ _ ?_ (fun hHeld' => ?_)
        · (try dsimp only)
          exact ⟨c0, c1, b0, b1⟩
        clear hK K hHeld
        have hHeld := hHeld'
        clear hHeld'
        (try simp only [Act.put, List.setIfInBounds_toArray, List.set_cons_zero, List.set_cons_succ])
        refine wpAnyH_ready (rs := [3]) (by kernel_rfl) (by simp) ?_
        refine AllReadyH.cons (o := ?_) ?_ (fun K hK => ?_) AllReadyH.nil
        rotate_left
        · (simp only [List.getElem?_toArray, List.getElem?_cons_zero, List.getElem?_cons_succ]; rfl)
        go_simp
        go_at_call 29; refine (countsOfStream_any _ _ _ q' ss' _ _ hs' hn12 HGD'.out HA').mono ?_; rintro e w5 ⟨r5, d5, bs5, rfl, HC5, hb5⟩; replace f0 := frozen_later hb5 e0 f0; replace f1 := frozen_later hb5 e1 f1; replace e0 := cell_later hb5 e0; replace e1 := cell_later hb5 e1; replace c0 := cell_later hb5 c0; replace c1 := cell_later hb5 c1; replace b0 := cell_later hb5 b0; replace b1 := cell_later hb5 b1; replace HC4 := HC4.below hb5; replace hmt := hmt.below hb5; have B5 := B4.trans (hb5.mono B4.size)
        (try go_wp2_with fail)
        refine hK.out _ _ ?_ (fun hHeld' => ?_)
        · (try dsimp only)
          exact ⟨c0, c1, b0, b1⟩
        clear hK K hHeld
        have hHeld := hHeld'
        clear hHeld'
        (try simp only [Act.put, List.setIfInBounds_toArray, List.set_cons_zero, List.set_cons_succ])
        refine wpAnyH_ready (rs := [5]) (by kernel_rfl) (by simp) ?_
        refine AllReadyH.cons (o := ?_) ?_ (fun K hK => ?_) AllReadyH.nil
        rotate_left
        · (simp only [List.getElem?_toArray, List.getElem?_cons_zero, List.getElem?_cons_succ]; rfl)
        go_simp
        go_at_call 28; refine (productChanges_any r4 r5 n d4 d5 q q' _ _ bs4 bs5 f5 f3 f4 f6 ps _ hn12 (fun k hk => goodT_lst (HGD.out k hk)) (fun k hk => goodT_lst (HGD'.out k hk)) HC4.atC HC5.atC hmt HOK.out HJC.out).mono ?_; rintro e w6 ⟨lb, rfl, HH, hb6⟩; rw [← HJ.out] at HH; replace f0 := frozen_later hb6 e0 f0; replace f1 := frozen_later hb6 e1 f1; replace e0 := cell_later hb6 e0; replace e1 := cell_later hb6 e1; replace c0 := cell_later hb6 c0; replace c1 := cell_later hb6 c1; replace b0 := cell_later hb6 b0; replace b1 := cell_later hb6 b1; have B6 := B5.trans (hb6.mono B5.size)
        (try go_wp2_with fail)
        refine hK.out _ _ ?_ (fun hHeld' => ?_)
        · (try dsimp only)
          exact ⟨c0, c1, b0, b1⟩
        clear hK K hHeld
        have hHeld := hHeld'
        clear hHeld'
        (try simp only [Act.put, List.setIfInBounds_toArray, List.set_cons_zero, List.set_cons_succ])
        refine wpAnyH_ready (rs := [7]) (by kernel_rfl) (by simp) ?_
        refine AllReadyH.cons (o := ?_) ?_ (fun K hK => ?_) AllReadyH.nil
        rotate_left
        · (simp only [List.getElem?_toArray, List.getElem?_cons_zero, List.getElem?_cons_succ]; rfl)
        go_simp
        go_at_call 27; refine (streamOf_any 54 lb J 90000 (sjL ss ss' ps n) w6 (enters_of Tryz.func54 (by kernel_rfl) rfl) HH (by omega) (by rw [HJ.out]; exact HJC.out) (by unfold sjL; rw [upto_length]; exact hn12)).mono ?_; rintro e w7 ⟨⟨r7, m7, d7, rfl, ho7⟩, hb7⟩; generalize hok7 : allG J (sjL ss ss' ps n) = ok7 at ho7 ⊢; have HOK7 := Hid.mk hok7; clear hok7; have t0 := frozen_later hb7 e0 f0; have t1 := frozen_later hb7 e1 f1; have s0 := cell_later hb7 e0; have s1 := cell_later hb7 e1; have i0 := cell_later hb7 c0; have i1 := cell_later hb7 c1; have j0 := cell_later hb7 b0; have j1 := cell_later hb7 b1
        (try go_wp2_with fail)
        refine hK.out _ _ ?_ (fun hHeld' => ?_)
        · (try dsimp only)
          exact ⟨i0, i1, j0, j1⟩
        clear hK K hHeld
        have hHeld := hHeld'
        clear hHeld'
        (try simp only [Act.put, List.setIfInBounds_toArray, List.set_cons_zero, List.set_cons_succ])
        refine wpAnyH_take (i := 8) (oi := ?_) (v := ?_) ?_ (by kernel_rfl) (by kernel_rfl) (by kernel_rfl) ?_ (Or.inl ⟨?_, ?_⟩) (by assumption) ?_
        rotate_left 2
        · (simp only [List.getElem?_toArray, List.getElem?_cons_zero, List.getElem?_cons_succ]; rfl)
        · exact fun _ _ _ h => h
        · rfl
        · (intro wS hSw; (try dsimp only at hSw); go_simp; (try with_reducible rfl))
        (try simp only [Act.put, List.setIfInBounds_toArray, List.set_cons_zero, List.set_cons_succ])
        refine wpAnyH_take (i := 9) (oi := ?_) (v := ?_) ?_ (by kernel_rfl) (by kernel_rfl) (by kernel_rfl) ?_ (Or.inl ⟨?_, ?_⟩) (by assumption) ?_
        rotate_left 2
        · (simp only [List.getElem?_toArray, List.getElem?_cons_zero, List.getElem?_cons_succ]; rfl)
        · exact fun _ _ _ h => h
        · rfl
        · (intro wS hSw; (try dsimp only at hSw); go_simp; (try with_reducible rfl))
        (try simp only [Act.put, List.setIfInBounds_toArray, List.set_cons_zero, List.set_cons_succ])
        refine wpAnyH_ready (rs := [10]) (by kernel_rfl) (by simp) ?_
        refine AllReadyH.cons (o := ?_) ?_ (fun K hK => ?_) AllReadyH.nil
        rotate_left
        · (simp only [List.getElem?_toArray, List.getElem?_cons_zero, List.getElem?_cons_succ]; rfl)
        go_simp
        skip
        (try go_wp2_with fail)
        refine hK.out _ _ ?_ (fun hHeld' => ?_)
        · (try dsimp only)
          exact ⟨keep_far (keep_far i0 (by omega)) (by omega), keep_far (keep_far i1 (by omega)) (by omega), keep_far (keep_far j0 (by omega)) (by omega), keep_far (keep_far j1 (by omega)) (by omega)⟩
        clear hK K hHeld
        have hHeld := hHeld'
        clear hHeld'
        (try simp only [Act.put, List.setIfInBounds_toArray, List.set_cons_zero, List.set_cons_succ])
        refine wpAnyH_take (i := 11) (oi := ?_) (v := ?_) ?_ (by kernel_rfl) (by kernel_rfl) (by kernel_rfl) ?_ (Or.inl ⟨?_, ?_⟩) (by assumption) ?_
        rotate_left 2
        · (simp only [List.getElem?_toArray, List.getElem?_cons_zero, List.getElem?_cons_succ]; rfl)
        · exact fun _ _ _ h => h
        · rfl
        · (intro wS hSw; (try dsimp only at hSw); go_simp; (try with_reducible rfl))
        (try simp only [Act.put, List.setIfInBounds_toArray, List.set_cons_zero, List.set_cons_succ])
        refine wpAnyH_done (by kernel_rfl) ?_ _
        have B7 := B6.trans (hb7.mono B6.size)
        have zR : w.heap.size + 1 + 1 < w6.heap.size := World.block_lt_of_cell? _ _ (by assumption : w6.cell? ⟨w.heap.size + 1 + 1, 0, none⟩ = _)
        have e0 := s0
        have e1 := s1
        clear HA HA' hmt hb4 hb5 hb6 hb7 hHeld HC4 HC5 HH
        go_wp2
        refine bodyPost_ret (v := .tuple #[.agg #[.int .i64 (ansP ok7 J), .slice r7 m7 d7], .bool ok7]) (by simp [results, Tryz.results9, go_sem, e0, e1]) rfl ⟨?_, ?_⟩
        · rw [HNB.out, ← HJ.out, HOK7.out]
          refine ⟨r7, m7, d7, rfl, ?_⟩
          have hTB : tabsOf J (sjL ss ss' ps n) n = tabsOf J (sjL ss ss' ps n) (sjL ss ss' ps n).length := by rw [show (sjL ss ss' ps n).length = n from upto_length _ _]
          rw [hTB]
          exact (ho7.set2 (g := w.heap.size + 1 + 1) (.inl zR) _ _).widen (by omega) (by simp [World.setCell]) (Nat.le_refl _)
        · exact (B7.setCell (by show w.heap.size ≤ w.heap.size + 1 + 1; omega) _).setCell (by show w.heap.size ≤ w.heap.size + 1 + 1; omega) _

end Go.Proofs.YtlfljfmhhnoinabGreat

/- Plain: what StreamJoin tells is small. -/
namespace Go.Proofs.YtlfljfmhhnoinabGreat
open Go.RowKit

theorem sjB_small {p p' : Int} {ss ss' : List Tab} {ps : List (List Int)} {n : Nat} (hz : ss.length = n) (h : sjB p ss p' ss' ps = true) : (tabsOf (joinC p p' ps) (sjL ss ss' ps n) n).length ≤ 12 ∧ ∀ i, i < (tabsOf (joinC p p' ps) (sjL ss ss' ps n) n).length → ∃ q : Int, goodT q (tat (tabsOf (joinC p p' ps) (sjL ss ss' ps n) n) i).2 = true := by
  simp only [sjB, Bool.and_eq_true] at h
  rw [hz] at h
  have h12 := (goodS_parts h.1).2.1
  have hl : (tabsOf (joinC p p' ps) (sjL ss ss' ps n) n).length = min n (sjL ss ss' ps n).length := by simp [tabsOf]
  refine ⟨by omega, fun i hi => ⟨joinC p p' ps, ?_⟩⟩
  rw [hl] at hi
  have hi2 : i < (sjL ss ss' ps n).length := by omega
  have he : tat (tabsOf (joinC p p' ps) (sjL ss ss' ps n) n) i = ((joinC p p' ps : Int), (sjL ss ss' ps n)[i]) := by
    simp [tat, tabsOf, List.getD, show i < n by omega, hi2]
  rw [he]
  exact List.all_eq_true.1 h.2.2.2.2 _ (List.getElem_mem hi2)

end Go.Proofs.YtlfljfmhhnoinabGreat

/- Contracts of spec.l3Left and spec.l3Join. -/
namespace Go.Proofs.YtlfljfmhhnoinabGreat
open Go.RowKit

set_option maxRecDepth 100000 in
set_option maxHeartbeats 2000000 in
theorem l3Left_any (p : Option Addr) (l d : Nat) (ps : List (List Int)) (na nb : Nat) (w : World) (hl : ps.length = l) (hnb : nb ≤ 6) (hok : pairsOk ps na nb = true) (hp : AtS w p ps) :
    Calls Tryz.prog 19 #[.slice p l d, .int .i64 nb] w fun e w' => e = .returned (.int .i64 (leftN (side ps 1) nb : Nat)) ∧ w' = w := by
  have l6 : l ≤ 6 := by have := pairsOk_len hok; omega
  have hpair := fun k hk => pairsOk_at hok k hk
  clear hok
  go_enter Tryz.func19, Tryz.ntmps19
  go_wp2
  go_loop [5, 6] (fun a i => ∃ k : Nat, k ≤ nb ∧ i = .int .i64 k ∧ a = .int .i64 (leftN (side ps 1) k : Nat)) (fun _ i => nb - (intOf i).toNat)
  case atStart => exact ⟨0, Nat.zero_le _, rfl, rfl⟩
  case round =>
    obtain ⟨k, hk, rfl, rfl⟩ := hrel
    by_cases hlt : k < nb
    · have hle := leftN_le (side ps 1) k
      have HT := Hid.mk (leftN_take (side ps 1) k)
      have HK := Hid.mk (leftN_skip (side ps 1) k)
      generalize leftN (side ps 1) k = N at *
      go_wp2
      go_loop [7, 17] (fun pd i => ∃ i' : Nat, i' ≤ l ∧ i = .int .i64 i' ∧ pd = .bool (((side ps 1).take i').contains (k : Int))) (fun _ i => l - (intOf i).toNat)
      case atStart => exact ⟨0, Nat.zero_le _, rfl, by simp⟩
      case round =>
        obtain ⟨i, hi', rfl, rfl⟩ := hrel
        by_cases hil : i < l
        · obtain ⟨pb, poff, rfl, hpc⟩ := hp.some (by omega)
          obtain ⟨q, qd, hcx, _, hat⟩ := hpc i (by omega)
          obtain ⟨hl2, _⟩ := hpair i (by omega)
          have HC := Hid.mk (contains_snoc (side ps 1) i (by rw [side_length]; omega) (k : Int))
          rw [side_getD ps 1 i (by omega)] at HC
          generalize ps.getD i [] = pr at *
          obtain ⟨b', off', rfl, hb', hc'⟩ := hat.some (by omega)
          have hp1 := hc' 1 (by omega)
          rw [hl2] at hcx
          generalize pr.getD 1 0 = y1 at *
          generalize ((side ps 1).take i).contains (k : Int) = bl at *
          clear hpc hc' hl2 hpair HT HK
          cases bl with
          | true =>
            go_wp2
            go_round
            case rel => exact ⟨i + 1, by omega, by go_num, by rw [HC.out]; rfl⟩
            case measure => simp [intOf]; omega
          | false =>
            go_wp2
            go_round
            case rel => exact ⟨i + 1, by omega, by go_num, by rw [HC.out]; simp⟩
            case measure => simp [intOf]; omega
        · obtain rfl : i = l := by omega
          rw [show (side ps 1).take i = side ps 1 by rw [List.take_of_length_le (by rw [side_length]; omega)]]
          cases hct : (side ps 1).contains (k : Int) with
          | true =>
            have HE := Hid.mk (HK.out hct)
            clear HK HT hct
            go_wp2
            go_round
            case rel => exact ⟨k + 1, by omega, by go_num, by rw [HE.out]⟩
            case measure => simp [intOf]; omega
          | false =>
            have HE := Hid.mk (HT.out hct)
            clear HK HT hct
            go_wp2
            go_round
            case rel => exact ⟨k + 1, by omega, by go_num, by rw [HE.out]; go_num⟩
            case measure => simp [intOf]; omega
    · obtain rfl : k = nb := by omega
      go_wp2
      go_ret
      exact ⟨rfl, rfl⟩

end Go.Proofs.YtlfljfmhhnoinabGreat

/- Contract of spec.l3Join over lists within whatever bounds. -/
namespace Go.Proofs.YtlfljfmhhnoinabGreat
open Go.RowKit

theorem wrapL {v : Int} (h : -4000000000000000000 ≤ v ∧ v ≤ 4000000000000000000) : IntKind.i64.wrap v = v := IntWalk.i64_in _ (by omega)
theorem wrapL64 {v : Int} (h : -4000000000000000000 ≤ v ∧ v ≤ 4000000000000000000) : Go.RowKit.wrap64 v = v := by unfold Go.RowKit.wrap64; omega

theorem accJ_packL {p q N N' : Nat} {B B' : Int} {ts us : List WRow} {ps : List (List Int)} {k n' : Nat} (h : Lst p N B ts) (g : Lst q N' B' us) (h0 : 0 ≤ B) (h0' : 0 ≤ B') (hNN : N * N' ≤ 1000000) (hBB : B * B' * (N * N' : Nat) ≤ 4000000000000000000) (hk : k < ts.length) (hn' : us.length = n') :
    ∃ AC : Nat → List WRow, AC 0 = putAll [] (joinL (ts.take k) us ps) ∧ (∀ j v, j < n' → joinG ps (wat ts k) (wat us j) = some v → AC (j + 1) = putW (AC j) v.1 v.2) ∧ (∀ j, j < n' → joinG ps (wat ts k) (wat us j) = none → AC (j + 1) = AC j) ∧
      AC n' = putAll [] (joinL (ts.take (k + 1)) us ps) ∧ ∀ j, (AC j).length ≤ 1000000 ∧ ∀ i, i < (AC j).length → (wat (AC j) i).1.length ≤ 6 ∧ -4000000000000000000 ≤ (wat (AC j) i).2 ∧ (wat (AC j) i).2 ≤ 4000000000000000000 := by
  refine ⟨fun j => putAll [] (accJ ts us ps k j), by simp only [accJ_zero], fun j v hj hv => accJ_some (by omega) hv, fun j hj hv => by simp only [accJ_none (show j < us.length by omega) hv], by subst hn'; simp only [accJ_all hk], fun j => ?_⟩
  have hBp := Int.mul_nonneg h0 h0'
  have hl : (accJ ts us ps k j).length ≤ N * N' := by
    unfold accJ
    rw [List.length_append]
    have a := joinL_len (ts.take k) us ps
    have b := List.length_filterMap_le (joinG ps (wat ts k)) (us.take j)
    rw [List.length_take] at a b
    have c : (min k ts.length + 1) * us.length ≤ N * N' := Nat.mul_le_mul (by have := h.len; omega) g.len
    rw [Nat.succ_mul] at c
    omega
  have hrow : ∀ t ∈ accJ ts us ps k j, t.1.length ≤ 6 ∧ -(B * B') ≤ t.2 ∧ t.2 ≤ B * B' := fun t ht => by
    have : ∃ a ∈ ts, ∃ b ∈ us, joinG ps a b = some t := by
      rcases List.mem_append.1 ht with h1 | h1
      · obtain ⟨a, ha, b, hb, hg⟩ := joinL_mem h1
        exact ⟨a, List.mem_of_mem_take ha, b, hb, hg⟩
      · obtain ⟨b, hb, hg⟩ := List.mem_filterMap.1 h1
        exact ⟨_, wat_mem hk, b, List.mem_of_mem_take hb, hg⟩
    obtain ⟨a, ha, b, hb, hg⟩ := this
    obtain ⟨h1, rfl⟩ := joinG_some hg
    have ga := h.within a ha
    have gb := g.within b hb
    refine ⟨?_, mul_in ga.1 ga.2 gb.1 gb.2⟩
    simp only [joinOk, Bool.and_eq_true, decide_eq_true_eq] at h1
    exact h1.2
  refine ⟨?_, fun i hi => ?_⟩
  · have := putAll_len (accJ ts us ps k j) []
    simp only [List.length_nil] at this
    show (putAll [] (accJ ts us ps k j)).length ≤ 1000000
    omega
  · have b3 : B * B' * ((accJ ts us ps k j).length : Int) ≤ B * B' * ((N * N' : Nat) : Int) := Int.mul_le_mul_of_nonneg_left (by exact_mod_cast hl) hBp
    have := at_of_mem (putAll_in' (M := B * B') hBp hrow) i hi
    refine ⟨this.1, ?_, ?_⟩ <;> (dsimp only; omega)

end Go.Proofs.YtlfljfmhhnoinabGreat
