/- Contract of spec.StreamJoin. -/
import Derived.Test.YtlfljfmhhnoinabGreatM27
import Derived.Test.YtlfljfmhhnoinabGreatM30
import Derived.Test.YtlfljfmhhnoinabGreatM10
import Derived.Test.YtlfljfmhhnoinabGreatM13
namespace Go.Proofs.YtlfljfmhhnoinabGreat
open Go.RowKit

theorem sjB_q {p p' : Int} {ss ss' : List Tab} {ps : List (List Int)} (h : pairsOk ps p.toNat p'.toNat = false) : sjB p ss p' ss' ps = false := sjB_p (by rw [h]; rfl)
theorem sjB_j {p p' : Int} {ss ss' : List Tab} {ps : List (List Int)} (h : 6 < joinC p p' ps) : sjB p ss p' ss' ps = false := sjB_p (by
  have : decide (joinC p p' ps ≤ 6) = false := by simp; omega
  rw [this, Bool.and_false])

set_option maxRecDepth 100000 in
set_option maxHeartbeats 8000000 in
theorem specStreamJoin (a a' ap : Option Addr) (n n' np c c' cp : Nat) (ss ss' : List Tab) (ps : List (List Int)) (p p' : Int) (w : World) (hs : SmU ss n) (hs' : SmU ss' n') (hzp : ps.length = np) (hnp : np ≤ 1048576) (ha : AtSM w a ss) (ha' : AtSM w a' ss') (hap : AtS w ap ps) :
    Calls Tryz.prog 6 #[.agg #[.int .i64 p, .slice a n c], .agg #[.int .i64 p', .slice a' n' c'], .slice ap np cp] w fun e w' => StrAns e w' w.heap.size (sjB p ss p' ss' ps) (joinC p p' ps) (tabsOf (joinC p p' ps) (sjL ss ss' ps n) n) ∧ Below w.heap.size w w' := by
  obtain ⟨i0, hi, hz0, hz1, hz2⟩ := info_parts Tryz.infoL
  have hz := hs.1
  have hz' := hs'.1
  obtain ⟨W, hW⟩ : ∃ W, W = ((w.alloc (.cells #[.int .i64 p, .slice a n c] 30)).alloc (.cells #[.int .i64 p', .slice a' n' c'] 30)).alloc (.cells #[.int .i64 0, .slice none 0 0] 30) := ⟨_, rfl⟩
  have zW : W.heap.size = w.heap.size + 1 + 1 + 1 := by rw [hW]; simp
  have B0 : Below w.heap.size w W := by rw [hW]; exact (((Below.refl _ _).alloc (Nat.le_refl _) _).alloc (by simp) _).alloc (by simp; omega) _
  have c0 : W.cell? ⟨w.heap.size, 0, none⟩ = some (.int .i64 p) := by rw [hW]; exact alloc_keeps (alloc_keeps (pair0 w _ _ _) _) _
  have c1 : W.cell? ⟨w.heap.size, 1, none⟩ = some (.slice a n c) := by rw [hW]; exact alloc_keeps (alloc_keeps (pair1 w _ _ _) _) _
  have b0 : W.cell? ⟨w.heap.size + 1, 0, none⟩ = some (.int .i64 p') := by rw [hW]; refine alloc_keeps ?_ _; have := pair0 (w.alloc (.cells #[.int .i64 p, .slice a n c] 30)) (.int .i64 p') (.slice a' n' c') 30; rwa [World.size_alloc] at this
  have b1 : W.cell? ⟨w.heap.size + 1, 1, none⟩ = some (.slice a' n' c') := by rw [hW]; refine alloc_keeps ?_ _; have := pair1 (w.alloc (.cells #[.int .i64 p, .slice a n c] 30)) (.int .i64 p') (.slice a' n' c') 30; rwa [World.size_alloc] at this
  have q0 : W.heap[w.heap.size + 1 + 1]? = some (.cells #[.int .i64 0, .slice none 0 0] 30 (0, 0)) := by
    rw [hW]
    have := heap_alloc_new ((w.alloc (.cells #[.int .i64 p, .slice a n c] 30)).alloc (.cells #[.int .i64 p', .slice a' n' c'] 30)) (.cells #[.int .i64 0, .slice none 0 0] 30)
    rwa [World.size_alloc, World.size_alloc] at this
  have e0 : W.cell? ⟨w.heap.size + 1 + 1, 0, none⟩ = some (.int .i64 0) := by rw [cell_of_row _ _ 0 _ _ (0, 0) q0]; rfl
  have e1 : W.cell? ⟨w.heap.size + 1 + 1, 1, none⟩ = some (.slice none 0 0) := by rw [cell_of_row _ _ 1 _ _ (0, 0) q0]; rfl
  have f0 : W.frozen? ⟨w.heap.size + 1 + 1, 0, none⟩ = false := frozen_of_row _ _ 0 _ _ q0
  have f1 : W.frozen? ⟨w.heap.size + 1 + 1, 1, none⟩ = false := frozen_of_row _ _ 1 _ _ q0
  have HA := ha.below B0
  have HA' := ha'.below B0
  have HP := hap.below B0
  clear ha ha' hap q0
  cases hg : goodS p ss with
  | false =>
    have HG := Hid.mk hg
    clear hg
    go_enter Tryz.func6, Tryz.ntmps6
    go_wp2_with fail
    rw [← hW]
    clear hW
    refine (specGoodStream _ _ _ ss _ _ hs HA).mono ?_
    rintro e w1 ⟨rfl, hb1⟩
    rw [HG.out]
    have B1 := B0.trans (hb1.mono B0.size)
    replace f0 := frozen_later hb1 e0 f0
    replace f1 := frozen_later hb1 e1 f1
    replace e0 := cell_later hb1 e0
    replace e1 := cell_later hb1 e1
    replace c0 := cell_later hb1 c0
    replace c1 := cell_later hb1 c1
    replace b0 := cell_later hb1 b0
    replace b1 := cell_later hb1 b1
    replace HA := HA.below hb1
    replace HA' := HA'.below hb1
    replace HP := HP.below hb1
    clear hb1
    go_wp2
    refine bodyPost_ret (v := .tuple #[.agg #[.int .i64 0, .slice none 0 0], .bool false]) (by simp [results, Tryz.results6, go_sem, e0, e1]) rfl ⟨StrAns.zero (sjB_a HG.out) rfl, ?_⟩
    exact (B1.setCell (by show w.heap.size ≤ w.heap.size + 1 + 1; omega) _).setCell (by show w.heap.size ≤ w.heap.size + 1 + 1; omega) _
  | true =>
    have HG := Hid.mk hg
    cases hg' : goodS p' ss' with
    | false =>
      have HG' := Hid.mk hg'
      clear hg hg'
      go_enter Tryz.func6, Tryz.ntmps6
      go_wp2_with fail
      rw [← hW]
      clear hW
      refine (specGoodStream _ _ _ ss _ _ hs HA).mono ?_
      rintro e w1 ⟨rfl, hb1⟩
      rw [HG.out]
      have B1 := B0.trans (hb1.mono B0.size)
      replace f0 := frozen_later hb1 e0 f0
      replace f1 := frozen_later hb1 e1 f1
      replace e0 := cell_later hb1 e0
      replace e1 := cell_later hb1 e1
      replace c0 := cell_later hb1 c0
      replace c1 := cell_later hb1 c1
      replace b0 := cell_later hb1 b0
      replace b1 := cell_later hb1 b1
      replace HA := HA.below hb1
      replace HA' := HA'.below hb1
      replace HP := HP.below hb1
      clear hb1
      go_wp2_with fail
      refine (specGoodStream _ _ _ ss' _ _ hs' HA').mono ?_
      rintro e w2 ⟨rfl, hb2⟩
      rw [HG'.out]
      have B2 := B1.trans (hb2.mono B1.size)
      replace f0 := frozen_later hb2 e0 f0
      replace f1 := frozen_later hb2 e1 f1
      replace e0 := cell_later hb2 e0
      replace e1 := cell_later hb2 e1
      replace c0 := cell_later hb2 c0
      replace c1 := cell_later hb2 c1
      replace b0 := cell_later hb2 b0
      replace b1 := cell_later hb2 b1
      replace HA := HA.below hb2
      replace HA' := HA'.below hb2
      replace HP := HP.below hb2
      clear hb2
      go_wp2
      refine bodyPost_ret (v := .tuple #[.agg #[.int .i64 0, .slice none 0 0], .bool false]) (by simp [results, Tryz.results6, go_sem, e0, e1]) rfl ⟨StrAns.zero (sjB_b HG'.out) rfl, ?_⟩
      exact (B2.setCell (by show w.heap.size ≤ w.heap.size + 1 + 1; omega) _).setCell (by show w.heap.size ≤ w.heap.size + 1 + 1; omega) _
    | true =>
      have HG' := Hid.mk hg'
      by_cases hnn : n = n'
      rotate_left
      · have hne : ((n : Int) != (n' : Int)) = true := by simp; omega
        have HNN : Hid (ss.length ≠ ss'.length) := by show _ ≠ _; rw [hz, hz']; exact hnn
        clear hg hg' hnn
        go_enter Tryz.func6, Tryz.ntmps6
        go_wp2_with fail
        rw [← hW]
        clear hW
        refine (specGoodStream _ _ _ ss _ _ hs HA).mono ?_
        rintro e w1 ⟨rfl, hb1⟩
        rw [HG.out]
        have B1 := B0.trans (hb1.mono B0.size)
        replace f0 := frozen_later hb1 e0 f0
        replace f1 := frozen_later hb1 e1 f1
        replace e0 := cell_later hb1 e0
        replace e1 := cell_later hb1 e1
        replace c0 := cell_later hb1 c0
        replace c1 := cell_later hb1 c1
        replace b0 := cell_later hb1 b0
        replace b1 := cell_later hb1 b1
        replace HA := HA.below hb1
        replace HA' := HA'.below hb1
        replace HP := HP.below hb1
        clear hb1
        go_wp2_with fail
        refine (specGoodStream _ _ _ ss' _ _ hs' HA').mono ?_
        rintro e w2 ⟨rfl, hb2⟩
        rw [HG'.out]
        have B2 := B1.trans (hb2.mono B1.size)
        replace f0 := frozen_later hb2 e0 f0
        replace f1 := frozen_later hb2 e1 f1
        replace e0 := cell_later hb2 e0
        replace e1 := cell_later hb2 e1
        replace c0 := cell_later hb2 c0
        replace c1 := cell_later hb2 c1
        replace b0 := cell_later hb2 b0
        replace b1 := cell_later hb2 b1
        replace HA := HA.below hb2
        replace HA' := HA'.below hb2
        replace HP := HP.below hb2
        clear hb2
        go_wp2
        refine bodyPost_ret (v := .tuple #[.agg #[.int .i64 0, .slice none 0 0], .bool false]) (by simp [results, Tryz.results6, go_sem, e0, e1]) rfl ⟨StrAns.zero (sjB_n HNN.out) rfl, ?_⟩
        exact (B2.setCell (by show w.heap.size ≤ w.heap.size + 1 + 1; omega) _).setCell (by show w.heap.size ≤ w.heap.size + 1 + 1; omega) _
      subst hnn
      obtain ⟨hinc, hn12, hgd⟩ := goodS_parts hg
      obtain ⟨hinc', _, hgd'⟩ := goodS_parts hg'
      rw [hz] at hn12 hgd
      rw [hz'] at hgd'
      obtain ⟨q, hq⟩ : ∃ q : Nat, p = q := ⟨p.toNat, by have := inc_range hinc; omega⟩
      obtain ⟨q', hq'⟩ : ∃ q : Nat, p' = q := ⟨p'.toNat, by have := inc_range hinc'; omega⟩
      subst hq hq'
      have h6 : q ≤ 6 := by have := inc_range hinc; omega
      have h6' : q' ≤ 6 := by have := inc_range hinc'; omega
      obtain ⟨f, hf⟩ : ∃ f, f = (fun k => (tat ss k).2) := ⟨_, rfl⟩
      obtain ⟨g, hgg⟩ : ∃ g, g = (fun k => (tat ss' k).2) := ⟨_, rfl⟩
      have HFe := Hid.mk hf
      have HGe := Hid.mk hgg
      have HFL : Hid (∀ k, k < n → Lst q 60 1000000 (f k)) := fun k hk => by rw [hf]; exact goodT_lst (hgd k hk).2
      have HGL : Hid (∀ k, k < n → Lst q' 60 1000000 (g k)) := fun k hk => by rw [hgg]; exact goodT_lst (hgd' k hk).2
      clear hg hg' hgd hgd' hinc hinc' hf hgg
      cases hpk : pairsOk ps q q' with
      | false =>
        have HPK := Hid.mk hpk
        clear hpk
        go_enter Tryz.func6, Tryz.ntmps6
        go_wp2_with fail
        rw [← hW]
        clear hW
        refine (specGoodStream _ _ _ ss _ _ hs HA).mono ?_
        rintro e w1 ⟨rfl, hb1⟩
        rw [HG.out]
        have B1 := B0.trans (hb1.mono B0.size)
        replace f0 := frozen_later hb1 e0 f0
        replace f1 := frozen_later hb1 e1 f1
        replace e0 := cell_later hb1 e0
        replace e1 := cell_later hb1 e1
        replace c0 := cell_later hb1 c0
        replace c1 := cell_later hb1 c1
        replace b0 := cell_later hb1 b0
        replace b1 := cell_later hb1 b1
        replace HA := HA.below hb1
        replace HA' := HA'.below hb1
        replace HP := HP.below hb1
        clear hb1
        go_wp2_with fail
        refine (specGoodStream _ _ _ ss' _ _ hs' HA').mono ?_
        rintro e w2 ⟨rfl, hb2⟩
        rw [HG'.out]
        have B2 := B1.trans (hb2.mono B1.size)
        replace f0 := frozen_later hb2 e0 f0
        replace f1 := frozen_later hb2 e1 f1
        replace e0 := cell_later hb2 e0
        replace e1 := cell_later hb2 e1
        replace c0 := cell_later hb2 c0
        replace c1 := cell_later hb2 c1
        replace b0 := cell_later hb2 b0
        replace b1 := cell_later hb2 b1
        replace HA := HA.below hb2
        replace HA' := HA'.below hb2
        replace HP := HP.below hb2
        clear hb2
        go_wp2_with fail
        refine (l1Pairs_any _ _ _ ps q q' _ hzp (by omega) HP).mono ?_
        rintro e w5 ⟨rfl, hw5⟩
        subst hw5
        rw [HPK.out]
        go_wp2
        refine bodyPost_ret (v := .tuple #[.agg #[.int .i64 0, .slice none 0 0], .bool false]) (by simp [results, Tryz.results6, go_sem, e0, e1]) rfl ⟨StrAns.zero (sjB_q HPK.out) rfl, ?_⟩
        exact (B2.setCell (by show w.heap.size ≤ w.heap.size + 1 + 1; omega) _).setCell (by show w.heap.size ≤ w.heap.size + 1 + 1; omega) _
      | true =>
        have HPK := Hid.mk hpk
        clear hpk
        obtain ⟨lf, hlf⟩ : ∃ lf : Nat, lf = leftN (side ps 1) q' := ⟨_, rfl⟩
        have hl6 : lf ≤ 6 := by have := leftN_le (side ps 1) q'; omega
        have HLF := Hid.mk hlf
        obtain ⟨J, hJ⟩ : ∃ J : Nat, J = q + lf := ⟨_, rfl⟩
        have HJ : Hid (joinC q q' ps = J) := by show _ = _; rw [hJ, HLF.out]; simp [joinC]
        have hwr : IntKind.i64.wrap ((q : Int) + (lf : Int)) = (J : Int) := by rw [hJ]; exact IntWalk.i64_in _ (by omega)
        have hJ12 : J ≤ 12 := by omega
        clear hlf hJ
        go_enter Tryz.func6, Tryz.ntmps6
        go_wp2_with fail
        rw [← hW]
        clear hW
        refine (specGoodStream _ _ _ ss _ _ hs HA).mono ?_
        rintro e w1 ⟨rfl, hb1⟩
        rw [HG.out]
        have B1 := B0.trans (hb1.mono B0.size)
        replace f0 := frozen_later hb1 e0 f0
        replace f1 := frozen_later hb1 e1 f1
        replace e0 := cell_later hb1 e0
        replace e1 := cell_later hb1 e1
        replace c0 := cell_later hb1 c0
        replace c1 := cell_later hb1 c1
        replace b0 := cell_later hb1 b0
        replace b1 := cell_later hb1 b1
        replace HA := HA.below hb1
        replace HA' := HA'.below hb1
        replace HP := HP.below hb1
        clear hb1
        go_wp2_with fail
        refine (specGoodStream _ _ _ ss' _ _ hs' HA').mono ?_
        rintro e w2 ⟨rfl, hb2⟩
        rw [HG'.out]
        have B2 := B1.trans (hb2.mono B1.size)
        replace f0 := frozen_later hb2 e0 f0
        replace f1 := frozen_later hb2 e1 f1
        replace e0 := cell_later hb2 e0
        replace e1 := cell_later hb2 e1
        replace c0 := cell_later hb2 c0
        replace c1 := cell_later hb2 c1
        replace b0 := cell_later hb2 b0
        replace b1 := cell_later hb2 b1
        replace HA := HA.below hb2
        replace HA' := HA'.below hb2
        replace HP := HP.below hb2
        clear hb2
        go_wp2_with fail
        refine (l1Pairs_any _ _ _ ps q q' _ hzp (by omega) HP).mono ?_
        rintro e w5 ⟨rfl, hw5⟩
        subst hw5
        rw [HPK.out]
        go_wp2_with fail
        refine wp_region_held_drew (S := fun w' => w'.cell? ⟨w.heap.size, 0, none⟩ = some (.int .i64 q) ∧ w'.cell? ⟨w.heap.size + 1, 0, none⟩ = some (.int .i64 q')) (by kernel_rfl) ?_ (fun hHeld => ?_)
        · (try dsimp only)
          exact ⟨c0, b0⟩
        refine wpAnyH_take (i := 0) (oi := ?_) (v := ?_) ?_ (by kernel_rfl) (by kernel_rfl) (by kernel_rfl) ?_ (Or.inl ⟨?_, ?_⟩) (by assumption) ?_
        rotate_left 2
        · (simp only [List.getElem?_toArray, List.getElem?_cons_zero]; rfl)
        · exact fun _ _ _ h => h
        · rfl
        · (intro wS hSw; (try dsimp only at hSw); go_simp; (try with_reducible rfl))
        (try simp only [Act.put, List.setIfInBounds_toArray, List.set_cons_zero, List.set_cons_succ])
        refine wpAnyH_take (i := 1) (oi := ?_) (v := ?_) ?_ (by kernel_rfl) (by kernel_rfl) (by kernel_rfl) ?_ (Or.inl ⟨?_, ?_⟩) (by assumption) ?_
        rotate_left 2
        · (simp only [List.getElem?_toArray, List.getElem?_cons_zero, List.getElem?_cons_succ]; rfl)
        · exact fun _ _ _ h => h
        · rfl
        · (intro wS hSw; (try dsimp only at hSw); go_simp; (try with_reducible rfl))
        (try simp only [Act.put, List.setIfInBounds_toArray, List.set_cons_zero, List.set_cons_succ])
        refine wpAnyH_take (i := 2) (oi := ?_) (v := ?_) ?_ (by kernel_rfl) (by kernel_rfl) (by kernel_rfl) ?_ (Or.inl ⟨?_, ?_⟩) (by assumption) ?_
        rotate_left 2
        · (simp only [List.getElem?_toArray, List.getElem?_cons_zero, List.getElem?_cons_succ]; rfl)
        · exact fun _ _ _ h => h
        · rfl
        · (intro wS hSw; (try dsimp only at hSw); go_simp; (try with_reducible rfl))
        (try simp only [Act.put, List.setIfInBounds_toArray, List.set_cons_zero, List.set_cons_succ])
        refine wpAnyH_take (i := 3) (oi := ?_) (v := ?_) ?_ (by kernel_rfl) (by kernel_rfl) (by kernel_rfl) ?_ (Or.inl ⟨?_, ?_⟩) (by assumption) ?_
        rotate_left 2
        · (simp only [List.getElem?_toArray, List.getElem?_cons_zero, List.getElem?_cons_succ]; rfl)
        · exact fun _ _ _ h => h
        · rfl
        · (intro wS hSw; (try dsimp only at hSw); go_simp; (try with_reducible rfl))
        (try simp only [Act.put, List.setIfInBounds_toArray, List.set_cons_zero, List.set_cons_succ])
        refine wpAnyH_take (i := 4) (oi := ?_) (v := ?_) ?_ (by kernel_rfl) (by kernel_rfl) (by kernel_rfl) ?_ (Or.inl ⟨?_, ?_⟩) (by assumption) ?_
        rotate_left 2
        · (simp only [List.getElem?_toArray, List.getElem?_cons_zero, List.getElem?_cons_succ]; rfl)
        · exact fun _ _ _ h => h
        · rfl
        · (intro wS hSw; (try dsimp only at hSw); go_simp; (try with_reducible rfl))
        (try simp only [Act.put, List.setIfInBounds_toArray, List.set_cons_zero, List.set_cons_succ])
        refine wpAnyH_ready (rs := [5]) (by kernel_rfl) (by simp) ?_
        refine AllReadyH.cons (o := ?_) ?_ (fun K hK => ?_) AllReadyH.nil
        rotate_left
        · (simp only [List.getElem?_toArray, List.getElem?_cons_zero, List.getElem?_cons_succ]; rfl)
        go_simp
        go_at_call 19; refine (l3Left_any _ _ _ ps q q' _ hzp h6' HPK.out (HP.below (Below.refl _ _).drew)).mono ?_; rintro e v ⟨rfl, rfl⟩; rw [← HLF.out]
        (try go_wp2_with fail)
        refine hK.out _ _ ?_ (fun hHeld' => ?_)
        · (try dsimp only)
          exact ⟨cell_later (Below.refl _ _).drew c0, cell_later (Below.refl _ _).drew b0⟩
        clear hK K hHeld
        have hHeld := hHeld'
        clear hHeld'
        (try simp only [Act.put, List.setIfInBounds_toArray, List.set_cons_zero, List.set_cons_succ])
        refine wpAnyH_take (i := 6) (oi := ?_) (v := ?_) ?_ (by kernel_rfl) (by kernel_rfl) (by kernel_rfl) ?_ (Or.inl ⟨?_, ?_⟩) (by assumption) ?_
        rotate_left 2
        · (simp only [List.getElem?_toArray, List.getElem?_cons_zero, List.getElem?_cons_succ]; rfl)
        · exact fun _ _ _ h => h
        · rfl
        · (intro wS hSw; (try dsimp only at hSw); go_simp; (try with_reducible rfl))
        (try simp only [Act.put, List.setIfInBounds_toArray, List.set_cons_zero, List.set_cons_succ])
        refine wpAnyH_take (i := 7) (oi := ?_) (v := ?_) ?_ (by kernel_rfl) (by kernel_rfl) (by kernel_rfl) ?_ (Or.inl ⟨?_, ?_⟩) (by assumption) ?_
        rotate_left 2
        · (simp only [List.getElem?_toArray, List.getElem?_cons_zero, List.getElem?_cons_succ]; rfl)
        · exact fun _ _ _ h => h
        · rfl
        · (intro wS hSw; (try dsimp only at hSw); go_simp; (try with_reducible rfl))
        (try simp only [Act.put, List.setIfInBounds_toArray, List.set_cons_zero, List.set_cons_succ])
        refine wpAnyH_done (by kernel_rfl) ?_ _
        obtain ⟨V, hV⟩ : ∃ V, V = w5.drew := ⟨_, rfl⟩
        rw [← hV]
        have hbV : Below w5.heap.size w5 V := by rw [hV]; exact (Below.refl _ _).drew
        clear hV
        replace f0 := frozen_later hbV e0 f0
        replace f1 := frozen_later hbV e1 f1
        replace e0 := cell_later hbV e0
        replace e1 := cell_later hbV e1
        replace c0 := cell_later hbV c0
        replace c1 := cell_later hbV c1
        replace b0 := cell_later hbV b0
        replace b1 := cell_later hbV b1
        replace HA := HA.below hbV
        replace HA' := HA'.below hbV
        replace HP := HP.below hbV
        have B5 := B2.trans (hbV.mono B2.size)
        clear hbV hHeld
        by_cases hj : 6 < J
        · have HJ8 : Hid (6 < joinC q q' ps) := by show _ < _; rw [HJ.out]; exact hj
          go_wp2
          refine bodyPost_ret (v := .tuple #[.agg #[.int .i64 0, .slice none 0 0], .bool false]) (by simp [results, Tryz.results6, go_sem, e0, e1]) rfl ⟨StrAns.zero (sjB_j HJ8.out) rfl, ?_⟩
          exact (B5.setCell (by show w.heap.size ≤ w.heap.size + 1 + 1; omega) _).setCell (by show w.heap.size ≤ w.heap.size + 1 + 1; omega) _
        · have HJC : Hid (joinC q q' ps ≤ 6) := by show _ ≤ _; rw [HJ.out]; omega
          have HNB : Hid (sjB q ss q' ss' ps = allG J (upto (chgK f g ps) n)) := by
            show _ = _
            rw [sjB_yes HG.out HG'.out (by rw [hz, hz']) (by show (pairsOk ps q q' && _) = true; rw [HPK.out, decide_eq_true HJC.out]; rfl), hz, HFe.out, HGe.out, HJ.out]
            rfl
          have la := World.block_lt_of_cell? _ _ c1
          have lb := World.block_lt_of_cell? _ _ b1
          have le := World.block_lt_of_cell? _ _ e0
          simp only at la lb le
          have HLT := Hid.mk (And.intro la (And.intro lb le))
          clear la lb le
          go_wp2
          go_loopw [9, 10, 11, 53] (fun o ox oy i wr => ∃ (k : Nat) (r : Option Addr) (d : Nat) (cs : List Value) (rx : Option Addr) (mx dx : Nat) (ry : Option Addr) (my dy : Nat), k ≤ n ∧ i = .int .i64 k ∧ o = .slice r k d ∧ ox = .slice rx mx dx ∧ oy = .slice ry my dy ∧ wr.ownsRow V.heap.size 45 1 (.slice r k d) k cs ∧ MeansLG (NotIn (.slice r k d)) wr cs (chgK f g ps) k ∧ ((sumK f k).length = mx ∧ Formed rx mx dx ∧ AtMG (NotIn (.slice r k d)) wr rx (sumK f k)) ∧ ((sumK g k).length = my ∧ Formed ry my dy ∧ AtMG (NotIn (.slice r k d)) wr ry (sumK g k)) ∧ Below V.heap.size V wr) (fun _ _ _ i _ => n - (intOf i).toNat)
          case atStart => exact ⟨0, none, 0, [], none, 0, 0, none, 0, 0, Nat.zero_le _, rfl, rfl, rfl, rfl, World.ownsRow_nil _ _ _ _, MeansLG.nil _ _ _, ⟨rfl, Formed.nil, atMG_nil _ _ _⟩, ⟨rfl, Formed.nil, atMG_nil _ _ _⟩, Below.refl _ _⟩
          case round =>
            obtain ⟨k, r, d, cs, rx, mx, dx, ry, my, dy, hk, rfl, rfl, rfl, rfl, ho, hme, ⟨hsx, hFx, hax⟩, ⟨hsy, hFy, hay⟩, hbw⟩ := hrel
            have HO := Hid.mk ho
            have HME := Hid.mk hme
            have HSX := Hid.mk hsx
            have HSY := Hid.mk hsy
            have HFX := Hid.mk hFx
            have HFY := Hid.mk hFy
            have HAX := Hid.mk hax
            have HAY := Hid.mk hay
            clear ho hme hsx hsy hFx hFy hax hay
            replace f0 := frozen_later hbw e0 f0
            replace f1 := frozen_later hbw e1 f1
            replace e0 := cell_later hbw e0
            replace e1 := cell_later hbw e1
            replace c0 := cell_later hbw c0
            replace c1 := cell_later hbw c1
            replace b0 := cell_later hbw b0
            replace b1 := cell_later hbw b1
            by_cases hlt : k < n
            · obtain ⟨b, off, rfl, hc⟩ := HA.some (by omega)
              obtain ⟨b', off', rfl, hc'⟩ := HA'.some (by omega)
              obtain ⟨t1, d1, _, hcx, _, hF1, hat⟩ := hc k (by omega)
              obtain ⟨t2, d2, _, hcy, _, hF2, hat'⟩ := hc' k (by omega)
              have hki : (k : Int) < (n : Int) := by omega
              have hfk : f k = (tat ss k).2 := by rw [HFe.out]
              have hgk : g k = (tat ss' k).2 := by rw [HGe.out]
              rw [← hfk] at hcx hF1 hat
              rw [← hgk] at hcy hF2 hat'
              obtain ⟨m1, hm1⟩ : ∃ m, (f k).length = m := ⟨_, rfl⟩
              obtain ⟨m2, hm2⟩ : ∃ m, (g k).length = m := ⟨_, rfl⟩
              rw [hm1] at hcx hF1
              rw [hm2] at hcy hF2
              have HM1 := Hid.mk hm1
              have HM2 := Hid.mk hm2
              have lx := World.block_lt_of_cell? _ _ hcx
              have ly := World.block_lt_of_cell? _ _ hcy
              simp only at lx ly
              have hlo := notIn_low HO.out
              have HN1 := Hid.mk (hlo _ HLT.out.1)
              have HN2 := Hid.mk (hlo _ HLT.out.2.1)
              have HN3 := Hid.mk (hlo _ lx)
              have HN4 := Hid.mk (hlo _ ly)
              have HAT := Hid.mk hat
              have HAT' := Hid.mk hat'
              replace hcx := cell_later hbw hcx
              replace hcy := cell_later hbw hcy
              have LX := Hid.mk ((sumK_lst HFL.out k (by omega)).mono (N' := 720) (B' := 12000000) (by omega) (by omega))
              have LY := Hid.mk ((sumK_lst HGL.out k (by omega)).mono (N' := 720) (B' := 12000000) (by omega) (by omega))
              have DR : Below wr.heap.size wr wr.drew := (Below.refl _ _).drew
              have HOD := Hid.mk (owns_below HO.out DR)
              have HMD := Hid.mk (HME.out.below DR)
              have HXD := Hid.mk (HAX.out.below DR)
              have HYD := Hid.mk (HAY.out.below DR)
              have HFD := Hid.mk ((hat.below hbw).below DR)
              have HGD := Hid.mk ((hat'.below hbw).below DR)
              have HPD := Hid.mk ((HP.below hbw).below DR)
              have HGF : Hid (∀ j, wr.drew.heap.size ≤ j → NotIn (.slice r k d) j) := notIn_fresh HO.out (by show wr.heap.size ≤ wr.heap.size; omega)
              clear hc hc' hfk hgk hat hat' hm1 hm2 lx ly hlo DR HO HME HAX HAY
              go_wp2_with fail
              refine wp_region_held_drew (S := fun w' => w'.cell? ⟨w.heap.size, 1, none⟩ = some (.slice (some ⟨b, off, none⟩) n c) ∧ w'.cell? ⟨w.heap.size + 1, 1, none⟩ = some (.slice (some ⟨b', off', none⟩) n c') ∧ w'.cell? ⟨b, off + k * 2 + 1, none⟩ = some (.slice t1 m1 d1) ∧ w'.cell? ⟨b', off' + k * 2 + 1, none⟩ = some (.slice t2 m2 d2)) (by kernel_rfl) ?_ (fun hHeld => ?_)
              · (try dsimp only)
                exact ⟨c1, b1, hcx, hcy⟩
              refine wpAnyH_take (i := 0) (oi := ?_) (v := ?_) ?_ (by kernel_rfl) (by kernel_rfl) (by kernel_rfl) ?_ (Or.inl ⟨?_, ?_⟩) (by assumption) ?_
              rotate_left 2
              · (simp only [List.getElem?_toArray, List.getElem?_cons_zero]; rfl)
              · exact fun _ _ _ h => h
              · rfl
              · (intro wS hSw; (try dsimp only at hSw); go_simp; (try with_reducible rfl))
              (try simp only [Act.put, List.setIfInBounds_toArray, List.set_cons_zero, List.set_cons_succ])
              refine wpAnyH_take (i := 1) (oi := ?_) (v := ?_) ?_ (by kernel_rfl) (by kernel_rfl) (by kernel_rfl) ?_ (Or.inl ⟨?_, ?_⟩) (by assumption) ?_
              rotate_left 2
              · (simp only [List.getElem?_toArray, List.getElem?_cons_zero, List.getElem?_cons_succ]; rfl)
              · exact fun _ _ _ h => h
              · rfl
              · (intro wS hSw; (try dsimp only at hSw); go_simp; (try with_reducible rfl))
              (try simp only [Act.put, List.setIfInBounds_toArray, List.set_cons_zero, List.set_cons_succ])
              refine wpAnyH_take (i := 2) (oi := ?_) (v := ?_) ?_ (by kernel_rfl) (by kernel_rfl) (by kernel_rfl) ?_ (Or.inl ⟨?_, ?_⟩) (by assumption) ?_
              rotate_left 2
              · (simp only [List.getElem?_toArray, List.getElem?_cons_zero, List.getElem?_cons_succ]; rfl)
              · exact fun _ _ _ h => h
              · rfl
              · (intro wS hSw; (try dsimp only at hSw); go_simp; (try with_reducible rfl))
              (try simp only [Act.put, List.setIfInBounds_toArray, List.set_cons_zero, List.set_cons_succ])
              refine wpAnyH_take (i := 3) (oi := ?_) (v := ?_) ?_ (by kernel_rfl) (by kernel_rfl) (by kernel_rfl) ?_ (Or.inl ⟨?_, ?_⟩) (by assumption) ?_
              rotate_left 2
              · (simp only [List.getElem?_toArray, List.getElem?_cons_zero, List.getElem?_cons_succ]; rfl)
              · exact fun _ _ _ h => h
              · rfl
              · (intro wS hSw; (try dsimp only at hSw); go_simp; (try with_reducible rfl))
              (try simp only [Act.put, List.setIfInBounds_toArray, List.set_cons_zero, List.set_cons_succ])
              refine wpAnyH_take (i := 4) (oi := ?_) (v := ?_) ?_ (by kernel_rfl) (by kernel_rfl) (by kernel_rfl) ?_ (Or.inl ⟨?_, ?_⟩) (by assumption) ?_
              rotate_left 2
              · (simp only [List.getElem?_toArray, List.getElem?_cons_zero, List.getElem?_cons_succ]; rfl)
              · exact fun _ _ _ h => h
              · rfl
              · (intro wS hSw; (try dsimp only at hSw); go_simp; (try with_reducible rfl))
              (try simp only [Act.put, List.setIfInBounds_toArray, List.set_cons_zero, List.set_cons_succ])
              refine wpAnyH_take (i := 5) (oi := ?_) (v := ?_) ?_ (by kernel_rfl) (by kernel_rfl) (by kernel_rfl) ?_ (Or.inl ⟨?_, ?_⟩) (by assumption) ?_
              rotate_left 2
              · (simp only [List.getElem?_toArray, List.getElem?_cons_zero, List.getElem?_cons_succ]; rfl)
              · exact fun _ _ _ h => h
              · rfl
              · (intro wS hSw; (try dsimp only at hSw); go_simp; (try with_reducible rfl))
              (try simp only [Act.put, List.setIfInBounds_toArray, List.set_cons_zero, List.set_cons_succ])
              refine wpAnyH_take (i := 6) (oi := ?_) (v := ?_) ?_ (by kernel_rfl) (by kernel_rfl) (by kernel_rfl) ?_ (Or.inl ⟨?_, ?_⟩) (by assumption) ?_
              rotate_left 2
              · (simp only [List.getElem?_toArray, List.getElem?_cons_zero, List.getElem?_cons_succ]; rfl)
              · exact fun _ _ _ h => h
              · rfl
              · (intro wS hSw; (try dsimp only at hSw); go_simp; (try with_reducible rfl))
              (try simp only [Act.put, List.setIfInBounds_toArray, List.set_cons_zero, List.set_cons_succ])
              refine wpAnyH_take (i := 7) (oi := ?_) (v := ?_) ?_ (by kernel_rfl) (by kernel_rfl) (by kernel_rfl) ?_ (Or.inl ⟨?_, ?_⟩) (by assumption) ?_
              rotate_left 2
              · (simp only [List.getElem?_toArray, List.getElem?_cons_zero, List.getElem?_cons_succ]; rfl)
              · exact fun _ _ _ h => h
              · rfl
              · (intro wS hSw; (try dsimp only at hSw); go_simp; (try with_reducible rfl))
              (try simp only [Act.put, List.setIfInBounds_toArray, List.set_cons_zero, List.set_cons_succ])
              refine wpAnyH_take (i := 8) (oi := ?_) (v := ?_) ?_ (by kernel_rfl) (by kernel_rfl) (by kernel_rfl) ?_ (Or.inl ⟨?_, ?_⟩) (by assumption) ?_
              rotate_left 2
              · (simp only [List.getElem?_toArray, List.getElem?_cons_zero, List.getElem?_cons_succ]; rfl)
              · exact fun _ _ _ h => h
              · rfl
              · (intro wS hSw; (try dsimp only at hSw); go_simp; (try with_reducible rfl))
              (try simp only [Act.put, List.setIfInBounds_toArray, List.set_cons_zero, List.set_cons_succ])
              refine wpAnyH_take (i := 9) (oi := ?_) (v := ?_) ?_ (by kernel_rfl) (by kernel_rfl) (by kernel_rfl) ?_ (Or.inl ⟨?_, ?_⟩) (by assumption) ?_
              rotate_left 2
              · (simp only [List.getElem?_toArray, List.getElem?_cons_zero, List.getElem?_cons_succ]; rfl)
              · exact fun _ _ _ h => h
              · rfl
              · (intro wS hSw; (try dsimp only at hSw); go_simp; (try with_reducible rfl))
              (try simp only [Act.put, List.setIfInBounds_toArray, List.set_cons_zero, List.set_cons_succ])
              refine wpAnyH_take (i := 10) (oi := ?_) (v := ?_) ?_ (by kernel_rfl) (by kernel_rfl) (by kernel_rfl) ?_ (Or.inl ⟨?_, ?_⟩) (by assumption) ?_
              rotate_left 2
              · (simp only [List.getElem?_toArray, List.getElem?_cons_zero, List.getElem?_cons_succ]; rfl)
              · exact fun _ _ _ h => h
              · rfl
              · (intro wS hSw; (try dsimp only at hSw); go_simp; (try with_reducible rfl))
              (try simp only [Act.put, List.setIfInBounds_toArray, List.set_cons_zero, List.set_cons_succ])
              refine wpAnyH_take (i := 11) (oi := ?_) (v := ?_) ?_ (by kernel_rfl) (by kernel_rfl) (by kernel_rfl) ?_ (Or.inl ⟨?_, ?_⟩) (by assumption) ?_
              rotate_left 2
              · (simp only [List.getElem?_toArray, List.getElem?_cons_zero, List.getElem?_cons_succ]; rfl)
              · exact fun _ _ _ h => h
              · rfl
              · (intro wS hSw; (try dsimp only at hSw); go_simp; (try with_reducible rfl))
              (try simp only [Act.put, List.setIfInBounds_toArray, List.set_cons_zero, List.set_cons_succ])
              refine wpAnyH_take (i := 12) (oi := ?_) (v := ?_) ?_ (by kernel_rfl) (by kernel_rfl) (by kernel_rfl) ?_ (Or.inl ⟨?_, ?_⟩) (by assumption) ?_
              rotate_left 2
              · (simp only [List.getElem?_toArray, List.getElem?_cons_zero, List.getElem?_cons_succ]; rfl)
              · exact fun _ _ _ h => h
              · rfl
              · (intro wS hSw; (try dsimp only at hSw); go_simp; (try with_reducible rfl))
              (try simp only [Act.put, List.setIfInBounds_toArray, List.set_cons_zero, List.set_cons_succ])
              refine wpAnyH_take (i := 13) (oi := ?_) (v := ?_) ?_ (by kernel_rfl) (by kernel_rfl) (by kernel_rfl) ?_ (Or.inl ⟨?_, ?_⟩) (by assumption) ?_
              rotate_left 2
              · (simp only [List.getElem?_toArray, List.getElem?_cons_zero, List.getElem?_cons_succ]; rfl)
              · exact fun _ _ _ h => h
              · rfl
              · (intro wS hSw; (try dsimp only at hSw); go_simp; (try with_reducible rfl))
              (try simp only [Act.put, List.setIfInBounds_toArray, List.set_cons_zero, List.set_cons_succ])
              refine wpAnyH_take (i := 14) (oi := ?_) (v := ?_) ?_ (by kernel_rfl) (by kernel_rfl) (by kernel_rfl) ?_ (Or.inl ⟨?_, ?_⟩) (by assumption) ?_
              rotate_left 2
              · (simp only [List.getElem?_toArray, List.getElem?_cons_zero, List.getElem?_cons_succ]; rfl)
              · exact fun _ _ _ h => h
              · rfl
              · (intro wS hSw; (try dsimp only at hSw); go_simp; (try with_reducible rfl))
              (try simp only [Act.put, List.setIfInBounds_toArray, List.set_cons_zero, List.set_cons_succ])
              refine wpAnyH_take (i := 15) (oi := ?_) (v := ?_) ?_ (by kernel_rfl) (by kernel_rfl) (by kernel_rfl) ?_ (Or.inl ⟨?_, ?_⟩) (by assumption) ?_
              rotate_left 2
              · (simp only [List.getElem?_toArray, List.getElem?_cons_zero, List.getElem?_cons_succ]; rfl)
              · exact fun _ _ _ h => h
              · rfl
              · (intro wS hSw; (try dsimp only at hSw); go_simp; (try with_reducible rfl))
              (try simp only [Act.put, List.setIfInBounds_toArray, List.set_cons_zero, List.set_cons_succ])
              refine wpAnyH_ready (rs := [16]) (by kernel_rfl) (by simp) ?_
              refine AllReadyH.cons (o := ?_) ?_ (fun K hK => ?_) AllReadyH.nil
              rotate_left
              · (simp only [List.getElem?_toArray, List.getElem?_cons_zero, List.getElem?_cons_succ]; rfl)
              go_simp
              go_at_call 20; refine (l4JoinG (G := NotIn (.slice r k d)) _ _ _ _ _ _ _ _ _ _ _ _ _ _ _ (sumK f k) (sumK g k) (f k) (g k) ps q q' 720 60 12000000 1000000 _ HGF.out HSX.out HSY.out HM1.out HM2.out hzp LX.out LY.out (HFL.out k hlt) (HGL.out k hlt) h6 h6' HPK.out HJC.out (by omega) (by omega) (by omega) (by omega) (by omega) (by decide) (by decide) (by decide) (by decide) (by decide) (by decide) HXD.out.atM HYD.out.atM HFD.out HGD.out HPD.out).mono ?_; rintro e w3 ⟨r3, m3, d3, rfl, hl3, hF3, ha3, hb3⟩; have i1 := cell_later (w := wr.drew) hb3 c1; have j1 := cell_later (w := wr.drew) hb3 b1; have x1 := cell_later (w := wr.drew) hb3 hcx; have y1 := cell_later (w := wr.drew) hb3 hcy; have HO3 := Hid.mk (owns_below HOD.out hb3); have HM3 := Hid.mk (HMD.out.below hb3); have HX3 := Hid.mk (HXD.out.below hb3); have HY3 := Hid.mk (HYD.out.below hb3); have B4 := hbw.drew.trans (hb3.mono hbw.size); have HLN : Hid ((chgK f g ps k).length = m3) := hl3; have HA3 : Hid (AtMG (NotIn (.slice r k d)) w3 r3 (chgK f g ps k)) := ha3; clear hl3 hF3 ha3
              (try go_wp2_with fail)
              refine hK.out _ _ ?_ (fun hHeld' => ?_)
              · (try dsimp only)
                exact ⟨i1, j1, x1, y1⟩
              clear hK K hHeld
              have hHeld := hHeld'
              clear hHeld'
              (try simp only [Act.put, List.setIfInBounds_toArray, List.set_cons_zero, List.set_cons_succ])
              refine wpAnyH_ready (rs := [17]) (by kernel_rfl) (by simp) ?_
              refine AllReadyH.cons (o := ?_) ?_ (fun K hK => ?_) AllReadyH.nil
              rotate_left
              · (simp only [List.getElem?_toArray, List.getElem?_cons_zero, List.getElem?_cons_succ]; rfl)
              go_simp
              skip
              (try go_wp2_with fail)
              refine hK.out _ _ ?_ (fun hHeld' => ?_)
              · (try dsimp only)
                exact ⟨cell_later ((Below.refl _ _).alloc (Nat.le_refl _) _) i1, cell_later ((Below.refl _ _).alloc (Nat.le_refl _) _) j1, cell_later ((Below.refl _ _).alloc (Nat.le_refl _) _) x1, cell_later ((Below.refl _ _).alloc (Nat.le_refl _) _) y1⟩
              clear hK K hHeld
              have hHeld := hHeld'
              clear hHeld'
              (try simp only [Act.put, List.setIfInBounds_toArray, List.set_cons_zero, List.set_cons_succ])
              refine wpAnyH_ready (rs := [18]) (by kernel_rfl) (by simp) ?_
              refine AllReadyH.cons (o := ?_) ?_ (fun K hK => ?_) AllReadyH.nil
              rotate_left
              · (simp only [List.getElem?_toArray, List.getElem?_cons_zero, List.getElem?_cons_succ]; rfl)
              refine step_append_lies _ rfl (.tmp 56) (.tmp 73) 44 rfl V.heap.size 45 i0 (.slice none 0 0) 1 24 Tryz.underlying44 hi hz0 hz1 hz2 rfl (by decide) (.slice r k d) k cs (by simp [Act.eval]) (HO3.out.alloc _) ⟨w3.heap.size, 0, none⟩ 1 1 [.slice r3 m3 d3] (by simp [Act.eval]) rfl (by simpa using news_at w3 #[.slice r3 m3 d3] 45) (by intro u hu; simp at hu; subst hu; rfl) (by decide) (by unfold maxLen; omega) (by omega) (by have := B4.size; simp; omega) (w3.heap.size + 1) (by simp) ?_; intro g5 cap5 w5 hown5 hgrow5 hat5 hlt5; have i5 := hgrow5.cell (cell_later ((Below.refl _ _).alloc (Nat.le_refl _) _) i1) (fun e => HN1.out e.symm); have j5 := hgrow5.cell (cell_later ((Below.refl _ _).alloc (Nat.le_refl _) _) j1) (fun e => HN2.out e.symm); have x5 := hgrow5.cell (cell_later ((Below.refl _ _).alloc (Nat.le_refl _) _) x1) (fun e => HN3.out e.symm); have y5 := hgrow5.cell (cell_later ((Below.refl _ _).alloc (Nat.le_refl _) _) y1) (fun e => HN4.out e.symm)
              refine hK.out _ _ ?_ (fun hHeld' => ?_)
              · (try dsimp only)
                exact ⟨i5, j5, x5, y5⟩
              clear hK K hHeld
              have hHeld := hHeld'
              clear hHeld'
              (try simp only [Act.put, List.setIfInBounds_toArray, List.set_cons_zero, List.set_cons_succ])
              refine wpAnyH_take (i := 19) (oi := ?_) (v := ?_) ?_ (by kernel_rfl) (by kernel_rfl) (by kernel_rfl) ?_ (Or.inl ⟨?_, ?_⟩) (by assumption) ?_
              rotate_left 2
              · (simp only [List.getElem?_toArray, List.getElem?_cons_zero, List.getElem?_cons_succ]; rfl)
              · exact fun _ _ _ h => h
              · rfl
              · (intro wS hSw; (try dsimp only at hSw); go_simp; (try with_reducible rfl))
              (try simp only [Act.put, List.setIfInBounds_toArray, List.set_cons_zero, List.set_cons_succ])
              refine wpAnyH_done (by kernel_rfl) ?_ _
              have hbA : Below w3.heap.size w3 (w3.alloc (.cells #[.slice r3 m3 d3] 45)) := (Below.refl _ _).alloc (Nat.le_refl _) _
              have hrb : ∀ j, (Value.slice r k d).ownBlock = some j → V.heap.size ≤ j := fun j hj => (HO3.out.lt j hj).1
              have B6 := (B4.alloc B4.size _).grown hgrow5 (by have := B4.size; simp; omega) (fun j hj => hrb j hj)
              have HO5 := Hid.mk hown5
              have HM5 : Hid (MeansLG (NotIn (.slice (some ⟨g5, 0, none⟩) (k + 1) cap5)) w5 (cs ++ [.slice r3 m3 d3]) (chgK f g ps) (k + 1)) := ((HM3.out.push (a := r3) (m := m3) (c := d3) HLN.out HA3.out).below hbA).appended hgrow5 hat5 (by simp) rfl
              have HX5 : Hid (AtMG (NotIn (.slice (some ⟨g5, 0, none⟩) (k + 1) cap5)) w5 rx (sumK f k)) := (HX3.out.below hbA).appended hgrow5 hat5 (by simp) rfl
              have HY5 : Hid (AtMG (NotIn (.slice (some ⟨g5, 0, none⟩) (k + 1) cap5)) w5 ry (sumK g k)) := (HY3.out.below hbA).appended hgrow5 hat5 (by simp) rfl
              have HF5 := Hid.mk (HAT.out.below B6)
              have HGF5 : Hid (∀ j, w5.heap.size ≤ j → NotIn (.slice (some ⟨g5, 0, none⟩) (k + 1) cap5) j) := notIn_fresh HO5.out (Nat.le_refl _)
              clear c0 c1 b0 b1 e0 e1 f0 f1 hcx hcy i1 j1 x1 y1 hHeld hown5 hgrow5 hat5 hlt5 hrb hbA hb3 B4 hbw HOD HMD HXD HYD HFD HGD HPD HO3 HM3 HX3 HY3 HLN HA3 HGF HN1 HN2 HN3 HN4
              go_wp2_with fail
              refine (l2AddL (G := NotIn (.slice (some ⟨g5, 0, none⟩) (k + 1) cap5)) _ _ _ _ _ _ q 720 60 12000000 1000000 (sumK f k) (f k) _ HGF5.out HSX.out HM1.out h6 LX.out (HFL.out k hlt) (by omega) (by omega) (by omega) (by omega) (by omega) HFX.out HX5.out HF5.out).mono ?_
              rintro e w6 ⟨r6, m6, d6, rfl, hl6', hF6, ha6, hb6⟩
              have HO6 := Hid.mk (owns_below HO5.out hb6)
              have HM6 := Hid.mk (HM5.out.below hb6)
              have HY6 := Hid.mk (HY5.out.below hb6)
              have B7 := B6.trans (hb6.mono B6.size)
              have HG6 := Hid.mk (HAT'.out.below B7)
              have HGF6 : Hid (∀ j, w6.heap.size ≤ j → NotIn (.slice (some ⟨g5, 0, none⟩) (k + 1) cap5) j) := fun j hj => HGF5.out j (Nat.le_trans hb6.size hj)
              have HX6 : Hid ((sumK f (k + 1)).length = m6 ∧ Formed r6 m6 d6 ∧ AtMG (NotIn (.slice (some ⟨g5, 0, none⟩) (k + 1) cap5)) w6 r6 (sumK f (k + 1))) := ⟨hl6', hF6, ha6⟩
              have i6 := cell_later hb6 i5
              have j6 := cell_later hb6 j5
              have x6 := cell_later hb6 x5
              have y6 := cell_later hb6 y5
              clear i5 j5 x5 y5 hb6 hl6' hF6 ha6 B6 HO5 HM5 HX5 HY5 HF5 HGF5
              go_wp2_with fail
              refine (l2AddL (G := NotIn (.slice (some ⟨g5, 0, none⟩) (k + 1) cap5)) _ _ _ _ _ _ q' 720 60 12000000 1000000 (sumK g k) (g k) _ HGF6.out HSY.out HM2.out h6' LY.out (HGL.out k hlt) (by omega) (by omega) (by omega) (by omega) (by omega) HFY.out HY6.out HG6.out).mono ?_
              rintro e w7 ⟨r7, m7, d7, rfl, hl7, hF7, ha7, hb7⟩
              have HO7 := Hid.mk (owns_below HO6.out hb7)
              have HM7 := Hid.mk (HM6.out.below hb7)
              have HX7 : Hid ((sumK f (k + 1)).length = m6 ∧ Formed r6 m6 d6 ∧ AtMG (NotIn (.slice (some ⟨g5, 0, none⟩) (k + 1) cap5)) w7 r6 (sumK f (k + 1))) := ⟨HX6.out.1, HX6.out.2.1, HX6.out.2.2.below hb7⟩
              have HY7 : Hid ((sumK g (k + 1)).length = m7 ∧ Formed r7 m7 d7 ∧ AtMG (NotIn (.slice (some ⟨g5, 0, none⟩) (k + 1) cap5)) w7 r7 (sumK g (k + 1))) := ⟨hl7, hF7, ha7⟩
              have HB7 := Hid.mk (B7.trans (hb7.mono B7.size))
              clear i6 j6 x6 y6 hb7 hl7 hF7 ha7 B7 HO6 HM6 HX6 HY6 HG6 HGF6
              go_wp2
              go_roundw
              case rel => exact ⟨k + 1, _, _, _, _, _, _, _, _, _, by omega, by go_num, rfl, rfl, rfl, HO7.out, HM7.out, HX7.out, HY7.out, HB7.out⟩
              case measure => simp [intOf]; omega
            · obtain rfl : k = n := by omega
              have HAL := HME.out.atL HO.out
              have HSZ : Hid (∀ i, i < k → (lat (upto (chgK f g ps) k) i).length ≤ 1048576 ∧ ∀ t ∈ lat (upto (chgK f g ps) k) i, t.1.length ≤ 6) := fun i hi => by
                rw [upto_at (chgK f g ps) k i hi]
                have hgi := jdW_lst (ps := ps) (sumK_720 HFL.out hn12 i hi) (sumK_720 HGL.out hn12 i hi) (HFL.out i hi) (HGL.out i hi) (by omega) (by omega)
                have h1 := hgi.len
                have h2 := HJC.out
                exact ⟨by show (jdW _ _ _ _ _).length ≤ _; omega, fun t ht => by have := (hgi.rows t ht).2; omega⟩
              have zR : w.heap.size + 1 + 1 < wr.heap.size := World.block_lt_of_cell? _ _ e0
              have ZR := Hid.mk zR
              clear zR HSX HSY HFX HFY HAX HAY
              go_wp2_with fail
              refine (l4Stream_any _ _ _ J (upto (chgK f g ps) k) _ (upto_length _ _) (by omega) HSZ.out HAL).mono ?_
              rintro e w6 ⟨⟨r6, m6, d6, rfl, ho6⟩, hb6⟩
              generalize hok6 : allG J (upto (chgK f g ps) k) = ok6 at ho6 ⊢
              have HOK := Hid.mk hok6
              clear hok6
              have B6 := B5.trans (hbw.mono B5.size)
              have B7 := B6.trans (hb6.mono B6.size)
              replace f0 := frozen_later hb6 e0 f0
              replace f1 := frozen_later hb6 e1 f1
              replace e0 := cell_later hb6 e0
              replace e1 := cell_later hb6 e1
              clear hb6 HAL HO HME hbw HA HA' HP
              go_wp2
              refine bodyPost_ret (v := .tuple #[.agg #[.int .i64 (ansP ok6 J), .slice r6 m6 d6], .bool ok6]) (by simp [results, Tryz.results6, go_sem, e0, e1]) rfl ⟨?_, ?_⟩
              · rw [HNB.out, HOK.out, HJ.out]
                refine ⟨r6, m6, d6, rfl, ?_⟩
                have hsj : sjL ss ss' ps k = upto (chgK f g ps) k := by rw [HFe.out, HGe.out]; rfl
                rw [hsj]
                exact (ho6.set2 (g := w.heap.size + 1 + 1) (.inl ZR.out) _ _).widen (Nat.le_of_lt (Nat.lt_of_le_of_lt (Nat.le_trans (Nat.le_succ _) (Nat.le_succ _)) ZR.out)) (by simp [World.setCell]) (Nat.le_refl _)
              · exact (B7.setCell (by show w.heap.size ≤ w.heap.size + 1 + 1; omega) _).setCell (by show w.heap.size ≤ w.heap.size + 1 + 1; omega) _

end Go.Proofs.YtlfljfmhhnoinabGreat
