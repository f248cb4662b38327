/- Contract of impl.productChanges. -/
import Derived.Test.YtlfljfmhhnoinabGreatM20
import Derived.Deep.DeepCutAuto
namespace Go.Proofs.YtlfljfmhhnoinabGreat
open Go.RowKit Go.Shelf

set_option maxRecDepth 100000 in
set_option maxHeartbeats 8000000 in
theorem productChanges_any (a1 a4 : Option Addr) (n c1 c4 q q' : Nat) (f g : Nat → List WRow) (bs1 bs4 : List Nat) (f5 f3 f4 f6 : Nat) (ps : List (List Int)) (w : World) (hn : n ≤ 12) (hL : ∀ k, k < n → Lst q 60 1000000 (f k)) (hL' : ∀ k, k < n → Lst q' 60 1000000 (g k))
   (ha1 : AtC w a1 q 60 (upto f n) bs1) (ha4 : AtC w a4 q' 60 (upto g n) bs4) (hmt : MatchAt w f5 f3 f4 f6 q q' ps) (hok : pairsOk ps q q' = true) (hjc : joinC q q' ps ≤ 6) :
   Calls Tryz.prog 28 #[.slice a1 n c1, .slice a4 n c4, .func (.func 47) #[] #[.pointer (some ⟨f5, 0, none⟩), .pointer (some ⟨f3, 0, none⟩), .pointer (some ⟨f4, 0, none⟩), .pointer (some ⟨f6, 0, none⟩)]] w fun e w' => ∃ lb, e = .returned (.func (.func 54) #[] lb) ∧ HandsM Tryz.prog 54 lb (joinC q q' ps) 90000 (upto (chgK f g ps) n) w' ∧ Below w.heap.size w w' := by
  obtain ⟨W, hW⟩ : ∃ W, W = ((w.alloc (.cells #[.slice a1 n c1] 63)).alloc (.cells #[.slice a4 n c4] 63)).alloc (.cells #[.func (.func 47) #[] #[.pointer (some ⟨f5, 0, none⟩), .pointer (some ⟨f3, 0, none⟩), .pointer (some ⟨f4, 0, none⟩), .pointer (some ⟨f6, 0, none⟩)]] 54) := ⟨_, rfl⟩
  have zW : W.heap.size = w.heap.size + 1 + 1 + 1 := by rw [hW]; simp
  have B0 : Below w.heap.size w W := by rw [hW]; exact (((Below.refl _ _).alloc (Nat.le_refl _) _).alloc (by simp) _).alloc (by simp; omega) _
  have c0 : W.cell? ⟨w.heap.size, 0, none⟩ = some (.slice a1 n c1) := by rw [hW]; simp [go_sem]
  have b0 : W.cell? ⟨w.heap.size + 1, 0, none⟩ = some (.slice a4 n c4) := by rw [hW]; simp [go_sem]
  have d0 : W.cell? ⟨w.heap.size + 1 + 1, 0, none⟩ = some (.func (.func 47) #[] #[.pointer (some ⟨f5, 0, none⟩), .pointer (some ⟨f3, 0, none⟩), .pointer (some ⟨f4, 0, none⟩), .pointer (some ⟨f6, 0, none⟩)]) := by rw [hW]; simp [go_sem]
  have HA := ha1.below B0
  have HB := ha4.below B0
  have HM := hmt.below B0
  have HLf := Hid.mk hL
  have HLg := Hid.mk hL'
  clear ha1 ha4 hmt hL hL'
  go_enter Tryz.func28, Tryz.ntmps28
  go_upto_region 1 with fail
  rw [← hW]
  clear hW
  go_cut [7, 8] (fun ta tb wx => ∃ (P1 P2 : Nat) (r2 r3 : Option Addr) (d2 d3 : Nat) (bs2 bs3 : List Nat), ta = .pointer (some ⟨P1, 0, none⟩) ∧ tb = .pointer (some ⟨P2, 0, none⟩) ∧ wx.cell? ⟨P1, 0, none⟩ = some (.slice r2 n d2) ∧ wx.cell? ⟨P2, 0, none⟩ = some (.slice r3 n d3) ∧ AtC wx r2 q 720 (upto (sumK f) n) bs2 ∧ AtC wx r3 q' 720 (upto (sumK g) n) bs3 ∧ Below W.heap.size W wx)
  case first =>
   refine wp_region_held_drew (S := fun w' => w'.cell? ⟨w.heap.size, 0, none⟩ = some (.slice a1 n c1) ∧ w'.cell? ⟨w.heap.size + 1, 0, none⟩ = some (.slice a4 n c4)) (by kernel_rfl) ?_ (fun hHeld => ?_)
   ·(try dsimp only)
    exact ⟨c0, b0⟩
   refine wpAnyH_take (i := 0) (oi := ?_) (v := ?_) ?_ (by kernel_rfl) (by kernel_rfl) (by kernel_rfl) ?_ (Or.inl ⟨?_, ?_⟩) (by assumption) ?_
   rotate_left 2
   ·(simp only [List.getElem?_toArray, List.getElem?_cons_zero]; rfl)
   ·exact fun _ _ _ h => h
   ·rfl
   ·(intro wS hSw; (try dsimp only at hSw); go_simp; (try with_reducible rfl))
   (try simp only [Act.put, List.setIfInBounds_toArray, List.set_cons_zero, List.set_cons_succ])
   refine wpAnyH_take (i := 3) (oi := ?_) (v := ?_) ?_ (by kernel_rfl) (by kernel_rfl) (by kernel_rfl) ?_ (Or.inl ⟨?_, ?_⟩) (by assumption) ?_
   rotate_left 2
   ·(simp only [List.getElem?_toArray, List.getElem?_cons_zero, List.getElem?_cons_succ]; rfl)
   ·exact fun _ _ _ h => h
   ·rfl
   ·(intro wS hSw; (try dsimp only at hSw); go_simp; (try with_reducible rfl))
   (try simp only [Act.put, List.setIfInBounds_toArray, List.set_cons_zero, List.set_cons_succ])
   obtain ⟨u0, hu0⟩ : ∃ u, u = W.drew := ⟨_, rfl⟩
   have Y0 : Below W.heap.size W u0 := by rw [hu0]; exact (Below.refl _ _).drew
   rw [← hu0]
   clear hu0
   have k0_0 := cell_later Y0 c0
   have k1_0 := cell_later Y0 b0
   have HA_0 := HA.below Y0
   have HB_0 := HB.below Y0
   refine wpAnyH_ready (rs := [1, 6, 7]) (by kernel_rfl) (by simp) ?_
   refine AllReadyH.cons (o := ?_) ?_ (fun K hK => ?_) ?_
   rotate_left
   ·(simp only [List.getElem?_toArray, List.getElem?_cons_zero, List.getElem?_cons_succ]; rfl)
   ·go_simp
    go_at_call 53
    refine (runningSums_any _ _ _ q f _ _ hn HLf.out HA_0).mono ?_
    rintro e v1 ⟨r1, d1, bs1, rfl, ho1, hb1⟩
    have k0_1 := cell_later hb1 k0_0
    have k1_1 := cell_later hb1 k1_0
    have Y1 := Y0.trans (hb1.mono Y0.size)
    have HA_1 := HA_0.below hb1
    have HB_1 := HB_0.below hb1
    have Q1 := ho1.atC
    clear ho1 hb1
    (try go_wp2_with fail)
    refine hK.out _ _ ?_ (fun hHeld' => ?_)
    ·(try dsimp only)
     exact ⟨k0_1, k1_1⟩
    clear hK K hHeld
    have hHeld := hHeld'
    clear hHeld'
    (try simp only [Act.put, List.setIfInBounds_toArray, List.set_cons_zero, List.set_cons_succ])
    refine wpAnyH_ready (rs := [2, 6, 7]) (by kernel_rfl) (by simp) ?_
    refine AllReadyH.cons (o := ?_) ?_ (fun K hK => ?_) ?_
    rotate_left
    ·(simp only [List.getElem?_toArray, List.getElem?_cons_zero, List.getElem?_cons_succ]; rfl)
    ·go_simp
     go_at_call 52
     refine (delayed_any _ _ _ q 720 _ _ _ hn Q1).mono ?_
     rintro e v2 ⟨r2, d2, bs2, rfl, ho2, hb2⟩
     rw [prevK_sumK] at ho2
     have k0_2 := cell_later hb2 k0_1
     have k1_2 := cell_later hb2 k1_1
     have Y2 := Y1.trans (hb2.mono Y1.size)
     have HA_2 := HA_1.below hb2
     have HB_2 := HB_1.below hb2
     have Q2 := ho2.atC
     clear ho2 hb2
     (try go_wp2_with fail)
     refine hK.out _ _ ?_ (fun hHeld' => ?_)
     ·(try dsimp only)
      exact ⟨k0_2, k1_2⟩
     clear hK K hHeld
     have hHeld := hHeld'
     clear hHeld'
     (try simp only [Act.put, List.setIfInBounds_toArray, List.set_cons_zero, List.set_cons_succ])
     refine wpAnyH_ready (rs := [4, 6, 7]) (by kernel_rfl) (by simp) ?_
     refine AllReadyH.cons (o := ?_) ?_ (fun K hK => ?_) ?_
     rotate_left
     ·(simp only [List.getElem?_toArray, List.getElem?_cons_zero, List.getElem?_cons_succ]; rfl)
     ·go_simp
      go_at_call 53
      refine (runningSums_any _ _ _ q' g _ _ hn HLg.out HB_2).mono ?_
      rintro e v3 ⟨r3, d3, bs3, rfl, ho3, hb3⟩
      have k0_3 := cell_later hb3 k0_2
      have k1_3 := cell_later hb3 k1_2
      have Y3 := Y2.trans (hb3.mono Y2.size)
      have HA_3 := HA_2.below hb3
      have HB_3 := HB_2.below hb3
      have X_3 := Q2.below hb3
      have Q3 := ho3.atC
      clear ho3 hb3
      (try go_wp2_with fail)
      refine hK.out _ _ ?_ (fun hHeld' => ?_)
      ·(try dsimp only)
       exact ⟨k0_3, k1_3⟩
      clear hK K hHeld
      have hHeld := hHeld'
      clear hHeld'
      (try simp only [Act.put, List.setIfInBounds_toArray, List.set_cons_zero, List.set_cons_succ])
      refine wpAnyH_ready (rs := [5, 6, 7]) (by kernel_rfl) (by simp) ?_
      refine AllReadyH.cons (o := ?_) ?_ (fun K hK => ?_) ?_
      rotate_left
      ·(simp only [List.getElem?_toArray, List.getElem?_cons_zero, List.getElem?_cons_succ]; rfl)
      ·go_simp
       go_at_call 52
       refine (delayed_any _ _ _ q' 720 _ _ _ hn Q3).mono ?_
       rintro e v4 ⟨r4, d4, bs4, rfl, ho4, hb4⟩
       rw [prevK_sumK] at ho4
       have k0_4 := cell_later hb4 k0_3
       have k1_4 := cell_later hb4 k1_3
       have Y4 := Y3.trans (hb4.mono Y3.size)
       have HA_4 := HA_3.below hb4
       have HB_4 := HB_3.below hb4
       have X_4 := X_3.below hb4
       have Q4 := ho4.atC
       clear ho4 hb4
       (try go_wp2_with fail)
       refine hK.out _ _ ?_ (fun hHeld' => ?_)
       ·(try dsimp only)
        exact ⟨k0_4, k1_4⟩
       clear hK K hHeld
       have hHeld := hHeld'
       clear hHeld'
       (try simp only [Act.put, List.setIfInBounds_toArray, List.set_cons_zero, List.set_cons_succ])
       refine wpAnyH_ready (rs := [6, 7]) (by kernel_rfl) (by simp) ?_
       refine AllReadyH.cons (o := ?_) ?_ (fun K hK => ?_) ?_
       rotate_left
       ·(simp only [List.getElem?_toArray, List.getElem?_cons_zero, List.getElem?_cons_succ]; rfl)
       ·go_simp
        (try go_wp2_with fail)
        refine hK.out _ _ ?_ (fun hHeld' => ?_)
        ·(try dsimp only)
         exact ⟨cell_later ((Below.refl _ _).alloc (Nat.le_refl _) _) k0_4, cell_later ((Below.refl _ _).alloc (Nat.le_refl _) _) k1_4⟩
        clear hK K hHeld
        have hHeld := hHeld'
        clear hHeld'
        (try simp only [Act.put, List.setIfInBounds_toArray, List.set_cons_zero, List.set_cons_succ])
        obtain ⟨v5, hU5⟩ : ∃ u, u = v4.alloc (.cells #[.slice none 0 0] 63) := ⟨_, rfl⟩
        have hb5 : Below v4.heap.size v4 v5 := by rw [hU5]; exact (Below.refl _ _).alloc (Nat.le_refl _) _
        have n5 : v5.heap[v4.heap.size]? = some (.cells #[.slice none 0 0] 63 (0, 0)) := by rw [hU5]; exact heap_alloc_new _ _
        rw [← hU5]
        clear hU5
        have k0_5 := cell_later hb5 k0_4
        have k1_5 := cell_later hb5 k1_4
        have Y5 := Y4.trans (hb5.mono Y4.size)
        have HA_5 := HA_4.below hb5
        have HB_5 := HB_4.below hb5
        have X_5 := X_4.below hb5
        have Z_5 := Q4.below hb5
        clear hb5
        refine wpAnyH_ready (rs := [7]) (by kernel_rfl) (by simp) ?_
        refine AllReadyH.cons (o := ?_) ?_ (fun K hK => ?_) AllReadyH.nil
        rotate_left
        ·(simp only [List.getElem?_toArray, List.getElem?_cons_zero, List.getElem?_cons_succ]; rfl)
        go_simp
        (try go_wp2_with fail)
        refine hK.out _ _ ?_ (fun hHeld' => ?_)
        ·(try dsimp only)
         exact ⟨cell_later ((Below.refl _ _).alloc (Nat.le_refl _) _) k0_5, cell_later ((Below.refl _ _).alloc (Nat.le_refl _) _) k1_5⟩
        clear hK K hHeld
        have hHeld := hHeld'
        clear hHeld'
        (try simp only [Act.put, List.setIfInBounds_toArray, List.set_cons_zero, List.set_cons_succ])
        obtain ⟨v6, hU6⟩ : ∃ u, u = v5.alloc (.cells #[.slice none 0 0] 63) := ⟨_, rfl⟩
        have hb6 : Below v5.heap.size v5 v6 := by rw [hU6]; exact (Below.refl _ _).alloc (Nat.le_refl _) _
        have n6 : v6.heap[v5.heap.size]? = some (.cells #[.slice none 0 0] 63 (0, 0)) := by rw [hU6]; exact heap_alloc_new _ _
        rw [← hU6]
        clear hU6
        have nlt := (Array.getElem?_eq_some_iff.1 n5).1
        have k0_6 := cell_later hb6 k0_5
        have k1_6 := cell_later hb6 k1_5
        have Y6 := Y5.trans (hb6.mono Y5.size)
        have HA_6 := HA_5.below hb6
        have HB_6 := HB_5.below hb6
        have X_6 := X_5.below hb6
        have Z_6 := Z_5.below hb6
        have p6_6 := (hb6.block (v4.heap.size) (Array.getElem?_eq_some_iff.1 n5).1).trans n5
        clear hb6
        have e6 : v6.cell? ⟨v4.heap.size, 0, none⟩ = some (.slice none 0 0) := by rw [cell_of_row _ _ 0 _ _ (0, 0) p6_6]; rfl
        have g6 : v6.frozen? ⟨v4.heap.size, 0, none⟩ = false := frozen_of_row _ _ 0 _ _ p6_6
        have lt6 : W.heap.size ≤ v4.heap.size := Y4.size
        have lt7 : W.heap.size ≤ v5.heap.size := Y5.size
        have m7 : (v6.setCell ⟨v4.heap.size, 0, none⟩ (.slice r2 n d2)).heap[v5.heap.size]? = some (.cells #[.slice none 0 0] 63 (0, 0)) := (Below.heap_setCell _ ⟨v4.heap.size, 0, none⟩ _ _ (Nat.ne_of_gt nlt)).trans n6
        have e7 : (v6.setCell ⟨v4.heap.size, 0, none⟩ (.slice r2 n d2)).cell? ⟨v5.heap.size, 0, none⟩ = some (.slice none 0 0) := by rw [cell_of_row _ _ 0 _ _ (0, 0) m7]; rfl
        have g7 : (v6.setCell ⟨v4.heap.size, 0, none⟩ (.slice r2 n d2)).frozen? ⟨v5.heap.size, 0, none⟩ = false := frozen_of_row _ _ 0 _ _ m7
        refine wpAnyH_ready (rs := [8]) (by kernel_rfl) (by simp) ?_
        refine AllReadyH.cons (o := ?_) ?_ (fun K hK => ?_) AllReadyH.nil
        rotate_left
        ·(simp only [List.getElem?_toArray, List.getElem?_cons_zero, List.getElem?_cons_succ]; rfl)
        go_simp
        skip
        (try go_wp2_with fail)
        refine hK.out _ _ ?_ (fun hHeld' => ?_)
        ·(try dsimp only)
         exact ⟨keep_far k0_6 (by omega), keep_far k1_6 (by omega)⟩
        clear hK K hHeld
        have hHeld := hHeld'
        clear hHeld'
        (try simp only [Act.put, List.setIfInBounds_toArray, List.set_cons_zero, List.set_cons_succ])
        refine wpAnyH_ready (rs := [9]) (by kernel_rfl) (by simp) ?_
        refine AllReadyH.cons (o := ?_) ?_ (fun K hK => ?_) AllReadyH.nil
        rotate_left
        ·(simp only [List.getElem?_toArray, List.getElem?_cons_zero, List.getElem?_cons_succ]; rfl)
        go_simp
        skip
        (try go_wp2_with fail)
        refine hK.out _ _ ?_ (fun hHeld' => ?_)
        ·(try dsimp only)
         exact ⟨keep_far (keep_far k0_6 (by omega)) (by omega), keep_far (keep_far k1_6 (by omega)) (by omega)⟩
        clear hK K hHeld
        have hHeld := hHeld'
        clear hHeld'
        (try simp only [Act.put, List.setIfInBounds_toArray, List.set_cons_zero, List.set_cons_succ])
        refine wpAnyH_done (by kernel_rfl) ?_ _
        (try go_wp2_with fail)
        go_meet
        case rel =>
         exact ⟨v4.heap.size, v5.heap.size, r2, r4, d2, d4, bs2, bs4, rfl, rfl, keep_far (cell_set e6 _) (Nat.ne_of_lt nlt), cell_set e7 _, (X_6.box p6_6 (fun _ h => by cases h) _).box m7 (fun _ h => by cases h) _, (Z_6.box p6_6 (fun _ h => by cases h) _).box m7 (fun _ h => by cases h) _, (Y6.setCell lt6 _).setCell lt7 _⟩
       refine AllReadyH.cons (o := ?_) ?_ (fun K hK => ?_) AllReadyH.nil
       rotate_left
       ·(simp only [List.getElem?_toArray, List.getElem?_cons_zero, List.getElem?_cons_succ]; rfl)
       ·go_simp
        (try go_wp2_with fail)
        refine hK.out _ _ ?_ (fun hHeld' => ?_)
        ·(try dsimp only)
         exact ⟨cell_later ((Below.refl _ _).alloc (Nat.le_refl _) _) k0_4, cell_later ((Below.refl _ _).alloc (Nat.le_refl _) _) k1_4⟩
        clear hK K hHeld
        have hHeld := hHeld'
        clear hHeld'
        (try simp only [Act.put, List.setIfInBounds_toArray, List.set_cons_zero, List.set_cons_succ])
        obtain ⟨v7, hU7⟩ : ∃ u, u = v4.alloc (.cells #[.slice none 0 0] 63) := ⟨_, rfl⟩
        have hb7 : Below v4.heap.size v4 v7 := by rw [hU7]; exact (Below.refl _ _).alloc (Nat.le_refl _) _
        have n7 : v7.heap[v4.heap.size]? = some (.cells #[.slice none 0 0] 63 (0, 0)) := by rw [hU7]; exact heap_alloc_new _ _
        rw [← hU7]
        clear hU7
        have k0_7 := cell_later hb7 k0_4
        have k1_7 := cell_later hb7 k1_4
        have Y7 := Y4.trans (hb7.mono Y4.size)
        have HA_7 := HA_4.below hb7
        have HB_7 := HB_4.below hb7
        have X_7 := X_4.below hb7
        have Z_7 := Q4.below hb7
        clear hb7
        refine wpAnyH_ready (rs := [6]) (by kernel_rfl) (by simp) ?_
        refine AllReadyH.cons (o := ?_) ?_ (fun K hK => ?_) AllReadyH.nil
        rotate_left
        ·(simp only [List.getElem?_toArray, List.getElem?_cons_zero, List.getElem?_cons_succ]; rfl)
        go_simp
        (try go_wp2_with fail)
        refine hK.out _ _ ?_ (fun hHeld' => ?_)
        ·(try dsimp only)
         exact ⟨cell_later ((Below.refl _ _).alloc (Nat.le_refl _) _) k0_7, cell_later ((Below.refl _ _).alloc (Nat.le_refl _) _) k1_7⟩
        clear hK K hHeld
        have hHeld := hHeld'
        clear hHeld'
        (try simp only [Act.put, List.setIfInBounds_toArray, List.set_cons_zero, List.set_cons_succ])
        obtain ⟨v8, hU8⟩ : ∃ u, u = v7.alloc (.cells #[.slice none 0 0] 63) := ⟨_, rfl⟩
        have hb8 : Below v7.heap.size v7 v8 := by rw [hU8]; exact (Below.refl _ _).alloc (Nat.le_refl _) _
        have n8 : v8.heap[v7.heap.size]? = some (.cells #[.slice none 0 0] 63 (0, 0)) := by rw [hU8]; exact heap_alloc_new _ _
        rw [← hU8]
        clear hU8
        have nlt := (Array.getElem?_eq_some_iff.1 n7).1
        have k0_8 := cell_later hb8 k0_7
        have k1_8 := cell_later hb8 k1_7
        have Y8 := Y7.trans (hb8.mono Y7.size)
        have HA_8 := HA_7.below hb8
        have HB_8 := HB_7.below hb8
        have X_8 := X_7.below hb8
        have Z_8 := Z_7.below hb8
        have p7_8 := (hb8.block (v4.heap.size) (Array.getElem?_eq_some_iff.1 n7).1).trans n7
        clear hb8
        have e6 : v8.cell? ⟨v7.heap.size, 0, none⟩ = some (.slice none 0 0) := by rw [cell_of_row _ _ 0 _ _ (0, 0) n8]; rfl
        have g6 : v8.frozen? ⟨v7.heap.size, 0, none⟩ = false := frozen_of_row _ _ 0 _ _ n8
        have lt6 : W.heap.size ≤ v7.heap.size := Y7.size
        have lt7 : W.heap.size ≤ v4.heap.size := Y4.size
        have m7 : (v8.setCell ⟨v7.heap.size, 0, none⟩ (.slice r2 n d2)).heap[v4.heap.size]? = some (.cells #[.slice none 0 0] 63 (0, 0)) := (Below.heap_setCell _ ⟨v7.heap.size, 0, none⟩ _ _ (Nat.ne_of_lt nlt)).trans p7_8
        have e7 : (v8.setCell ⟨v7.heap.size, 0, none⟩ (.slice r2 n d2)).cell? ⟨v4.heap.size, 0, none⟩ = some (.slice none 0 0) := by rw [cell_of_row _ _ 0 _ _ (0, 0) m7]; rfl
        have g7 : (v8.setCell ⟨v7.heap.size, 0, none⟩ (.slice r2 n d2)).frozen? ⟨v4.heap.size, 0, none⟩ = false := frozen_of_row _ _ 0 _ _ m7
        refine wpAnyH_ready (rs := [8]) (by kernel_rfl) (by simp) ?_
        refine AllReadyH.cons (o := ?_) ?_ (fun K hK => ?_) AllReadyH.nil
        rotate_left
        ·(simp only [List.getElem?_toArray, List.getElem?_cons_zero, List.getElem?_cons_succ]; rfl)
        go_simp
        skip
        (try go_wp2_with fail)
        refine hK.out _ _ ?_ (fun hHeld' => ?_)
        ·(try dsimp only)
         exact ⟨keep_far k0_8 (by omega), keep_far k1_8 (by omega)⟩
        clear hK K hHeld
        have hHeld := hHeld'
        clear hHeld'
        (try simp only [Act.put, List.setIfInBounds_toArray, List.set_cons_zero, List.set_cons_succ])
        refine wpAnyH_ready (rs := [9]) (by kernel_rfl) (by simp) ?_
        refine AllReadyH.cons (o := ?_) ?_ (fun K hK => ?_) AllReadyH.nil
        rotate_left
        ·(simp only [List.getElem?_toArray, List.getElem?_cons_zero, List.getElem?_cons_succ]; rfl)
        go_simp
        skip
        (try go_wp2_with fail)
        refine hK.out _ _ ?_ (fun hHeld' => ?_)
        ·(try dsimp only)
         exact ⟨keep_far (keep_far k0_8 (by omega)) (by omega), keep_far (keep_far k1_8 (by omega)) (by omega)⟩
        clear hK K hHeld
        have hHeld := hHeld'
        clear hHeld'
        (try simp only [Act.put, List.setIfInBounds_toArray, List.set_cons_zero, List.set_cons_succ])
        refine wpAnyH_done (by kernel_rfl) ?_ _
        (try go_wp2_with fail)
        go_meet
        case rel =>
         exact ⟨v7.heap.size, v4.heap.size, r2, r4, d2, d4, bs2, bs4, rfl, rfl, keep_far (cell_set e6 _) (Nat.ne_of_gt nlt), cell_set e7 _, (X_8.box n8 (fun _ h => by cases h) _).box m7 (fun _ h => by cases h) _, (Z_8.box n8 (fun _ h => by cases h) _).box m7 (fun _ h => by cases h) _, (Y8.setCell lt6 _).setCell lt7 _⟩
      refine AllReadyH.cons (o := ?_) ?_ (fun K hK => ?_) ?_
      rotate_left
      ·(simp only [List.getElem?_toArray, List.getElem?_cons_zero, List.getElem?_cons_succ]; rfl)
      ·go_simp
       (try go_wp2_with fail)
       refine hK.out _ _ ?_ (fun hHeld' => ?_)
       ·(try dsimp only)
        exact ⟨cell_later ((Below.refl _ _).alloc (Nat.le_refl _) _) k0_3, cell_later ((Below.refl _ _).alloc (Nat.le_refl _) _) k1_3⟩
       clear hK K hHeld
       have hHeld := hHeld'
       clear hHeld'
       (try simp only [Act.put, List.setIfInBounds_toArray, List.set_cons_zero, List.set_cons_succ])
       obtain ⟨v9, hU9⟩ : ∃ u, u = v3.alloc (.cells #[.slice none 0 0] 63) := ⟨_, rfl⟩
       have hb9 : Below v3.heap.size v3 v9 := by rw [hU9]; exact (Below.refl _ _).alloc (Nat.le_refl _) _
       have n9 : v9.heap[v3.heap.size]? = some (.cells #[.slice none 0 0] 63 (0, 0)) := by rw [hU9]; exact heap_alloc_new _ _
       rw [← hU9]
       clear hU9
       have k0_9 := cell_later hb9 k0_3
       have k1_9 := cell_later hb9 k1_3
       have Y9 := Y3.trans (hb9.mono Y3.size)
       have HA_9 := HA_3.below hb9
       have HB_9 := HB_3.below hb9
       have X_9 := X_3.below hb9
       have R_9 := Q3.below hb9
       clear hb9
       refine wpAnyH_ready (rs := [5, 7]) (by kernel_rfl) (by simp) ?_
       refine AllReadyH.cons (o := ?_) ?_ (fun K hK => ?_) ?_
       rotate_left
       ·(simp only [List.getElem?_toArray, List.getElem?_cons_zero, List.getElem?_cons_succ]; rfl)
       ·go_simp
        go_at_call 52
        refine (delayed_any _ _ _ q' 720 _ _ _ hn R_9).mono ?_
        rintro e v10 ⟨r10, d10, bs10, rfl, ho10, hb10⟩
        rw [prevK_sumK] at ho10
        have k0_10 := cell_later hb10 k0_9
        have k1_10 := cell_later hb10 k1_9
        have Y10 := Y9.trans (hb10.mono Y9.size)
        have HA_10 := HA_9.below hb10
        have HB_10 := HB_9.below hb10
        have X_10 := X_9.below hb10
        have p6_10 := (hb10.block (v3.heap.size) (Array.getElem?_eq_some_iff.1 n9).1).trans n9
        have Q10 := ho10.atC
        clear ho10 hb10
        (try go_wp2_with fail)
        refine hK.out _ _ ?_ (fun hHeld' => ?_)
        ·(try dsimp only)
         exact ⟨k0_10, k1_10⟩
        clear hK K hHeld
        have hHeld := hHeld'
        clear hHeld'
        (try simp only [Act.put, List.setIfInBounds_toArray, List.set_cons_zero, List.set_cons_succ])
        refine wpAnyH_ready (rs := [7]) (by kernel_rfl) (by simp) ?_
        refine AllReadyH.cons (o := ?_) ?_ (fun K hK => ?_) AllReadyH.nil
        rotate_left
        ·(simp only [List.getElem?_toArray, List.getElem?_cons_zero, List.getElem?_cons_succ]; rfl)
        go_simp
        (try go_wp2_with fail)
        refine hK.out _ _ ?_ (fun hHeld' => ?_)
        ·(try dsimp only)
         exact ⟨cell_later ((Below.refl _ _).alloc (Nat.le_refl _) _) k0_10, cell_later ((Below.refl _ _).alloc (Nat.le_refl _) _) k1_10⟩
        clear hK K hHeld
        have hHeld := hHeld'
        clear hHeld'
        (try simp only [Act.put, List.setIfInBounds_toArray, List.set_cons_zero, List.set_cons_succ])
        obtain ⟨v11, hU11⟩ : ∃ u, u = v10.alloc (.cells #[.slice none 0 0] 63) := ⟨_, rfl⟩
        have hb11 : Below v10.heap.size v10 v11 := by rw [hU11]; exact (Below.refl _ _).alloc (Nat.le_refl _) _
        have n11 : v11.heap[v10.heap.size]? = some (.cells #[.slice none 0 0] 63 (0, 0)) := by rw [hU11]; exact heap_alloc_new _ _
        rw [← hU11]
        clear hU11
        have nlt := (Array.getElem?_eq_some_iff.1 p6_10).1
        have k0_11 := cell_later hb11 k0_10
        have k1_11 := cell_later hb11 k1_10
        have Y11 := Y10.trans (hb11.mono Y10.size)
        have HA_11 := HA_10.below hb11
        have HB_11 := HB_10.below hb11
        have X_11 := X_10.below hb11
        have Z_11 := Q10.below hb11
        have p6_11 := (hb11.block (v3.heap.size) (Array.getElem?_eq_some_iff.1 p6_10).1).trans p6_10
        clear hb11
        have e6 : v11.cell? ⟨v3.heap.size, 0, none⟩ = some (.slice none 0 0) := by rw [cell_of_row _ _ 0 _ _ (0, 0) p6_11]; rfl
        have g6 : v11.frozen? ⟨v3.heap.size, 0, none⟩ = false := frozen_of_row _ _ 0 _ _ p6_11
        have lt6 : W.heap.size ≤ v3.heap.size := Y3.size
        have lt7 : W.heap.size ≤ v10.heap.size := Y10.size
        have m7 : (v11.setCell ⟨v3.heap.size, 0, none⟩ (.slice r2 n d2)).heap[v10.heap.size]? = some (.cells #[.slice none 0 0] 63 (0, 0)) := (Below.heap_setCell _ ⟨v3.heap.size, 0, none⟩ _ _ (Nat.ne_of_gt nlt)).trans n11
        have e7 : (v11.setCell ⟨v3.heap.size, 0, none⟩ (.slice r2 n d2)).cell? ⟨v10.heap.size, 0, none⟩ = some (.slice none 0 0) := by rw [cell_of_row _ _ 0 _ _ (0, 0) m7]; rfl
        have g7 : (v11.setCell ⟨v3.heap.size, 0, none⟩ (.slice r2 n d2)).frozen? ⟨v10.heap.size, 0, none⟩ = false := frozen_of_row _ _ 0 _ _ m7
        refine wpAnyH_ready (rs := [8]) (by kernel_rfl) (by simp) ?_
        refine AllReadyH.cons (o := ?_) ?_ (fun K hK => ?_) AllReadyH.nil
        rotate_left
        ·(simp only [List.getElem?_toArray, List.getElem?_cons_zero, List.getElem?_cons_succ]; rfl)
        go_simp
        skip
        (try go_wp2_with fail)
        refine hK.out _ _ ?_ (fun hHeld' => ?_)
        ·(try dsimp only)
         exact ⟨keep_far k0_11 (by omega), keep_far k1_11 (by omega)⟩
        clear hK K hHeld
        have hHeld := hHeld'
        clear hHeld'
        (try simp only [Act.put, List.setIfInBounds_toArray, List.set_cons_zero, List.set_cons_succ])
        refine wpAnyH_ready (rs := [9]) (by kernel_rfl) (by simp) ?_
        refine AllReadyH.cons (o := ?_) ?_ (fun K hK => ?_) AllReadyH.nil
        rotate_left
        ·(simp only [List.getElem?_toArray, List.getElem?_cons_zero, List.getElem?_cons_succ]; rfl)
        go_simp
        skip
        (try go_wp2_with fail)
        refine hK.out _ _ ?_ (fun hHeld' => ?_)
        ·(try dsimp only)
         exact ⟨keep_far (keep_far k0_11 (by omega)) (by omega), keep_far (keep_far k1_11 (by omega)) (by omega)⟩
        clear hK K hHeld
        have hHeld := hHeld'
        clear hHeld'
        (try simp only [Act.put, List.setIfInBounds_toArray, List.set_cons_zero, List.set_cons_succ])
        refine wpAnyH_done (by kernel_rfl) ?_ _
        (try go_wp2_with fail)
        go_meet
        case rel =>
         exact ⟨v3.heap.size, v10.heap.size, r2, r10, d2, d10, bs2, bs10, rfl, rfl, keep_far (cell_set e6 _) (Nat.ne_of_lt nlt), cell_set e7 _, (X_11.box p6_11 (fun _ h => by cases h) _).box m7 (fun _ h => by cases h) _, (Z_11.box p6_11 (fun _ h => by cases h) _).box m7 (fun _ h => by cases h) _, (Y11.setCell lt6 _).setCell lt7 _⟩
       refine AllReadyH.cons (o := ?_) ?_ (fun K hK => ?_) AllReadyH.nil
       rotate_left
       ·(simp only [List.getElem?_toArray, List.getElem?_cons_zero, List.getElem?_cons_succ]; rfl)
       ·go_simp
        (try go_wp2_with fail)
        refine hK.out _ _ ?_ (fun hHeld' => ?_)
        ·(try dsimp only)
         exact ⟨cell_later ((Below.refl _ _).alloc (Nat.le_refl _) _) k0_9, cell_later ((Below.refl _ _).alloc (Nat.le_refl _) _) k1_9⟩
        clear hK K hHeld
        have hHeld := hHeld'
        clear hHeld'
        (try simp only [Act.put, List.setIfInBounds_toArray, List.set_cons_zero, List.set_cons_succ])
        obtain ⟨v12, hU12⟩ : ∃ u, u = v9.alloc (.cells #[.slice none 0 0] 63) := ⟨_, rfl⟩
        have hb12 : Below v9.heap.size v9 v12 := by rw [hU12]; exact (Below.refl _ _).alloc (Nat.le_refl _) _
        have n12 : v12.heap[v9.heap.size]? = some (.cells #[.slice none 0 0] 63 (0, 0)) := by rw [hU12]; exact heap_alloc_new _ _
        rw [← hU12]
        clear hU12
        have nlt := (Array.getElem?_eq_some_iff.1 n9).1
        have k0_12 := cell_later hb12 k0_9
        have k1_12 := cell_later hb12 k1_9
        have Y12 := Y9.trans (hb12.mono Y9.size)
        have HA_12 := HA_9.below hb12
        have HB_12 := HB_9.below hb12
        have X_12 := X_9.below hb12
        have R_12 := R_9.below hb12
        have p6_12 := (hb12.block (v3.heap.size) (Array.getElem?_eq_some_iff.1 n9).1).trans n9
        clear hb12
        refine wpAnyH_ready (rs := [5]) (by kernel_rfl) (by simp) ?_
        refine AllReadyH.cons (o := ?_) ?_ (fun K hK => ?_) AllReadyH.nil
        rotate_left
        ·(simp only [List.getElem?_toArray, List.getElem?_cons_zero, List.getElem?_cons_succ]; rfl)
        go_simp
        go_at_call 52
        refine (delayed_any _ _ _ q' 720 _ _ _ hn R_12).mono ?_
        rintro e v13 ⟨r13, d13, bs13, rfl, ho13, hb13⟩
        rw [prevK_sumK] at ho13
        have k0_13 := cell_later hb13 k0_12
        have k1_13 := cell_later hb13 k1_12
        have Y13 := Y12.trans (hb13.mono Y12.size)
        have HA_13 := HA_12.below hb13
        have HB_13 := HB_12.below hb13
        have X_13 := X_12.below hb13
        have p6_13 := (hb13.block (v3.heap.size) (Array.getElem?_eq_some_iff.1 p6_12).1).trans p6_12
        have p7_13 := (hb13.block (v9.heap.size) (Array.getElem?_eq_some_iff.1 n12).1).trans n12
        have Q13 := ho13.atC
        clear ho13 hb13
        (try go_wp2_with fail)
        refine hK.out _ _ ?_ (fun hHeld' => ?_)
        ·(try dsimp only)
         exact ⟨k0_13, k1_13⟩
        clear hK K hHeld
        have hHeld := hHeld'
        clear hHeld'
        (try simp only [Act.put, List.setIfInBounds_toArray, List.set_cons_zero, List.set_cons_succ])
        have e6 : v13.cell? ⟨v3.heap.size, 0, none⟩ = some (.slice none 0 0) := by rw [cell_of_row _ _ 0 _ _ (0, 0) p6_13]; rfl
        have g6 : v13.frozen? ⟨v3.heap.size, 0, none⟩ = false := frozen_of_row _ _ 0 _ _ p6_13
        have lt6 : W.heap.size ≤ v3.heap.size := Y3.size
        have lt7 : W.heap.size ≤ v9.heap.size := Y9.size
        have m7 : (v13.setCell ⟨v3.heap.size, 0, none⟩ (.slice r2 n d2)).heap[v9.heap.size]? = some (.cells #[.slice none 0 0] 63 (0, 0)) := (Below.heap_setCell _ ⟨v3.heap.size, 0, none⟩ _ _ (Nat.ne_of_gt nlt)).trans p7_13
        have e7 : (v13.setCell ⟨v3.heap.size, 0, none⟩ (.slice r2 n d2)).cell? ⟨v9.heap.size, 0, none⟩ = some (.slice none 0 0) := by rw [cell_of_row _ _ 0 _ _ (0, 0) m7]; rfl
        have g7 : (v13.setCell ⟨v3.heap.size, 0, none⟩ (.slice r2 n d2)).frozen? ⟨v9.heap.size, 0, none⟩ = false := frozen_of_row _ _ 0 _ _ m7
        refine wpAnyH_ready (rs := [8]) (by kernel_rfl) (by simp) ?_
        refine AllReadyH.cons (o := ?_) ?_ (fun K hK => ?_) AllReadyH.nil
        rotate_left
        ·(simp only [List.getElem?_toArray, List.getElem?_cons_zero, List.getElem?_cons_succ]; rfl)
        go_simp
        skip
        (try go_wp2_with fail)
        refine hK.out _ _ ?_ (fun hHeld' => ?_)
        ·(try dsimp only)
         exact ⟨keep_far k0_13 (by omega), keep_far k1_13 (by omega)⟩
        clear hK K hHeld
        have hHeld := hHeld'
        clear hHeld'
        (try simp only [Act.put, List.setIfInBounds_toArray, List.set_cons_zero, List.set_cons_succ])
        refine wpAnyH_ready (rs := [9]) (by kernel_rfl) (by simp) ?_
        refine AllReadyH.cons (o := ?_) ?_ (fun K hK => ?_) AllReadyH.nil
        rotate_left
        ·(simp only [List.getElem?_toArray, List.getElem?_cons_zero, List.getElem?_cons_succ]; rfl)
        go_simp
        skip
        (try go_wp2_with fail)
        refine hK.out _ _ ?_ (fun hHeld' => ?_)
        ·(try dsimp only)
         exact ⟨keep_far (keep_far k0_13 (by omega)) (by omega), keep_far (keep_far k1_13 (by omega)) (by omega)⟩
        clear hK K hHeld
        have hHeld := hHeld'
        clear hHeld'
        (try simp only [Act.put, List.setIfInBounds_toArray, List.set_cons_zero, List.set_cons_succ])
        refine wpAnyH_done (by kernel_rfl) ?_ _
        (try go_wp2_with fail)
        go_meet
        case rel =>
         exact ⟨v3.heap.size, v9.heap.size, r2, r13, d2, d13, bs2, bs13, rfl, rfl, keep_far (cell_set e6 _) (Nat.ne_of_lt nlt), cell_set e7 _, (X_13.box p6_13 (fun _ h => by cases h) _).box m7 (fun _ h => by cases h) _, (Q13.box p6_13 (fun _ h => by cases h) _).box m7 (fun _ h => by cases h) _, (Y13.setCell lt6 _).setCell lt7 _⟩
      refine AllReadyH.cons (o := ?_) ?_ (fun K hK => ?_) AllReadyH.nil
      rotate_left
      ·(simp only [List.getElem?_toArray, List.getElem?_cons_zero, List.getElem?_cons_succ]; rfl)
      ·go_simp
       (try go_wp2_with fail)
       refine hK.out _ _ ?_ (fun hHeld' => ?_)
       ·(try dsimp only)
        exact ⟨cell_later ((Below.refl _ _).alloc (Nat.le_refl _) _) k0_3, cell_later ((Below.refl _ _).alloc (Nat.le_refl _) _) k1_3⟩
       clear hK K hHeld
       have hHeld := hHeld'
       clear hHeld'
       (try simp only [Act.put, List.setIfInBounds_toArray, List.set_cons_zero, List.set_cons_succ])
       obtain ⟨v14, hU14⟩ : ∃ u, u = v3.alloc (.cells #[.slice none 0 0] 63) := ⟨_, rfl⟩
       have hb14 : Below v3.heap.size v3 v14 := by rw [hU14]; exact (Below.refl _ _).alloc (Nat.le_refl _) _
       have n14 : v14.heap[v3.heap.size]? = some (.cells #[.slice none 0 0] 63 (0, 0)) := by rw [hU14]; exact heap_alloc_new _ _
       rw [← hU14]
       clear hU14
       have k0_14 := cell_later hb14 k0_3
       have k1_14 := cell_later hb14 k1_3
       have Y14 := Y3.trans (hb14.mono Y3.size)
       have HA_14 := HA_3.below hb14
       have HB_14 := HB_3.below hb14
       have X_14 := X_3.below hb14
       have R_14 := Q3.below hb14
       clear hb14
       refine wpAnyH_ready (rs := [5, 6]) (by kernel_rfl) (by simp) ?_
       refine AllReadyH.cons (o := ?_) ?_ (fun K hK => ?_) ?_
       rotate_left
       ·(simp only [List.getElem?_toArray, List.getElem?_cons_zero, List.getElem?_cons_succ]; rfl)
       ·go_simp
        go_at_call 52
        refine (delayed_any _ _ _ q' 720 _ _ _ hn R_14).mono ?_
        rintro e v15 ⟨r15, d15, bs15, rfl, ho15, hb15⟩
        rw [prevK_sumK] at ho15
        have k0_15 := cell_later hb15 k0_14
        have k1_15 := cell_later hb15 k1_14
        have Y15 := Y14.trans (hb15.mono Y14.size)
        have HA_15 := HA_14.below hb15
        have HB_15 := HB_14.below hb15
        have X_15 := X_14.below hb15
        have p7_15 := (hb15.block (v3.heap.size) (Array.getElem?_eq_some_iff.1 n14).1).trans n14
        have Q15 := ho15.atC
        clear ho15 hb15
        (try go_wp2_with fail)
        refine hK.out _ _ ?_ (fun hHeld' => ?_)
        ·(try dsimp only)
         exact ⟨k0_15, k1_15⟩
        clear hK K hHeld
        have hHeld := hHeld'
        clear hHeld'
        (try simp only [Act.put, List.setIfInBounds_toArray, List.set_cons_zero, List.set_cons_succ])
        refine wpAnyH_ready (rs := [6]) (by kernel_rfl) (by simp) ?_
        refine AllReadyH.cons (o := ?_) ?_ (fun K hK => ?_) AllReadyH.nil
        rotate_left
        ·(simp only [List.getElem?_toArray, List.getElem?_cons_zero, List.getElem?_cons_succ]; rfl)
        go_simp
        (try go_wp2_with fail)
        refine hK.out _ _ ?_ (fun hHeld' => ?_)
        ·(try dsimp only)
         exact ⟨cell_later ((Below.refl _ _).alloc (Nat.le_refl _) _) k0_15, cell_later ((Below.refl _ _).alloc (Nat.le_refl _) _) k1_15⟩
        clear hK K hHeld
        have hHeld := hHeld'
        clear hHeld'
        (try simp only [Act.put, List.setIfInBounds_toArray, List.set_cons_zero, List.set_cons_succ])
        obtain ⟨v16, hU16⟩ : ∃ u, u = v15.alloc (.cells #[.slice none 0 0] 63) := ⟨_, rfl⟩
        have hb16 : Below v15.heap.size v15 v16 := by rw [hU16]; exact (Below.refl _ _).alloc (Nat.le_refl _) _
        have n16 : v16.heap[v15.heap.size]? = some (.cells #[.slice none 0 0] 63 (0, 0)) := by rw [hU16]; exact heap_alloc_new _ _
        rw [← hU16]
        clear hU16
        have nlt := (Array.getElem?_eq_some_iff.1 p7_15).1
        have k0_16 := cell_later hb16 k0_15
        have k1_16 := cell_later hb16 k1_15
        have Y16 := Y15.trans (hb16.mono Y15.size)
        have HA_16 := HA_15.below hb16
        have HB_16 := HB_15.below hb16
        have X_16 := X_15.below hb16
        have Z_16 := Q15.below hb16
        have p7_16 := (hb16.block (v3.heap.size) (Array.getElem?_eq_some_iff.1 p7_15).1).trans p7_15
        clear hb16
        have e6 : v16.cell? ⟨v15.heap.size, 0, none⟩ = some (.slice none 0 0) := by rw [cell_of_row _ _ 0 _ _ (0, 0) n16]; rfl
        have g6 : v16.frozen? ⟨v15.heap.size, 0, none⟩ = false := frozen_of_row _ _ 0 _ _ n16
        have lt6 : W.heap.size ≤ v15.heap.size := Y15.size
        have lt7 : W.heap.size ≤ v3.heap.size := Y3.size
        have m7 : (v16.setCell ⟨v15.heap.size, 0, none⟩ (.slice r2 n d2)).heap[v3.heap.size]? = some (.cells #[.slice none 0 0] 63 (0, 0)) := (Below.heap_setCell _ ⟨v15.heap.size, 0, none⟩ _ _ (Nat.ne_of_lt nlt)).trans p7_16
        have e7 : (v16.setCell ⟨v15.heap.size, 0, none⟩ (.slice r2 n d2)).cell? ⟨v3.heap.size, 0, none⟩ = some (.slice none 0 0) := by rw [cell_of_row _ _ 0 _ _ (0, 0) m7]; rfl
        have g7 : (v16.setCell ⟨v15.heap.size, 0, none⟩ (.slice r2 n d2)).frozen? ⟨v3.heap.size, 0, none⟩ = false := frozen_of_row _ _ 0 _ _ m7
        refine wpAnyH_ready (rs := [8]) (by kernel_rfl) (by simp) ?_
        refine AllReadyH.cons (o := ?_) ?_ (fun K hK => ?_) AllReadyH.nil
        rotate_left
        ·(simp only [List.getElem?_toArray, List.getElem?_cons_zero, List.getElem?_cons_succ]; rfl)
        go_simp
        skip
        (try go_wp2_with fail)
        refine hK.out _ _ ?_ (fun hHeld' => ?_)
        ·(try dsimp only)
         exact ⟨keep_far k0_16 (by omega), keep_far k1_16 (by omega)⟩
        clear hK K hHeld
        have hHeld := hHeld'
        clear hHeld'
        (try simp only [Act.put, List.setIfInBounds_toArray, List.set_cons_zero, List.set_cons_succ])
        refine wpAnyH_ready (rs := [9]) (by kernel_rfl) (by simp) ?_
        refine AllReadyH.cons (o := ?_) ?_ (fun K hK => ?_) AllReadyH.nil
        rotate_left
        ·(simp only [List.getElem?_toArray, List.getElem?_cons_zero, List.getElem?_cons_succ]; rfl)
        go_simp
        skip
        (try go_wp2_with fail)
        refine hK.out _ _ ?_ (fun hHeld' => ?_)
        ·(try dsimp only)
         exact ⟨keep_far (keep_far k0_16 (by omega)) (by omega), keep_far (keep_far k1_16 (by omega)) (by omega)⟩
        clear hK K hHeld
        have hHeld := hHeld'
        clear hHeld'
        (try simp only [Act.put, List.setIfInBounds_toArray, List.set_cons_zero, List.set_cons_succ])
        refine wpAnyH_done (by kernel_rfl) ?_ _
        (try go_wp2_with fail)
        go_meet
        case rel =>
         exact ⟨v15.heap.size, v3.heap.size, r2, r15, d2, d15, bs2, bs15, rfl, rfl, keep_far (cell_set e6 _) (Nat.ne_of_gt nlt), cell_set e7 _, (X_16.box n16 (fun _ h => by cases h) _).box m7 (fun _ h => by cases h) _, (Z_16.box n16 (fun _ h => by cases h) _).box m7 (fun _ h => by cases h) _, (Y16.setCell lt6 _).setCell lt7 _⟩
       refine AllReadyH.cons (o := ?_) ?_ (fun K hK => ?_) AllReadyH.nil
       rotate_left
       ·(simp only [List.getElem?_toArray, List.getElem?_cons_zero, List.getElem?_cons_succ]; rfl)
       ·go_simp
        (try go_wp2_with fail)
        refine hK.out _ _ ?_ (fun hHeld' => ?_)
        ·(try dsimp only)
         exact ⟨cell_later ((Below.refl _ _).alloc (Nat.le_refl _) _) k0_14, cell_later ((Below.refl _ _).alloc (Nat.le_refl _) _) k1_14⟩
        clear hK K hHeld
        have hHeld := hHeld'
        clear hHeld'
        (try simp only [Act.put, List.setIfInBounds_toArray, List.set_cons_zero, List.set_cons_succ])
        obtain ⟨v17, hU17⟩ : ∃ u, u = v14.alloc (.cells #[.slice none 0 0] 63) := ⟨_, rfl⟩
        have hb17 : Below v14.heap.size v14 v17 := by rw [hU17]; exact (Below.refl _ _).alloc (Nat.le_refl _) _
        have n17 : v17.heap[v14.heap.size]? = some (.cells #[.slice none 0 0] 63 (0, 0)) := by rw [hU17]; exact heap_alloc_new _ _
        rw [← hU17]
        clear hU17
        have nlt := (Array.getElem?_eq_some_iff.1 n14).1
        have k0_17 := cell_later hb17 k0_14
        have k1_17 := cell_later hb17 k1_14
        have Y17 := Y14.trans (hb17.mono Y14.size)
        have HA_17 := HA_14.below hb17
        have HB_17 := HB_14.below hb17
        have X_17 := X_14.below hb17
        have R_17 := R_14.below hb17
        have p7_17 := (hb17.block (v3.heap.size) (Array.getElem?_eq_some_iff.1 n14).1).trans n14
        clear hb17
        refine wpAnyH_ready (rs := [5]) (by kernel_rfl) (by simp) ?_
        refine AllReadyH.cons (o := ?_) ?_ (fun K hK => ?_) AllReadyH.nil
        rotate_left
        ·(simp only [List.getElem?_toArray, List.getElem?_cons_zero, List.getElem?_cons_succ]; rfl)
        go_simp
        go_at_call 52
        refine (delayed_any _ _ _ q' 720 _ _ _ hn R_17).mono ?_
        rintro e v18 ⟨r18, d18, bs18, rfl, ho18, hb18⟩
        rw [prevK_sumK] at ho18
        have k0_18 := cell_later hb18 k0_17
        have k1_18 := cell_later hb18 k1_17
        have Y18 := Y17.trans (hb18.mono Y17.size)
        have HA_18 := HA_17.below hb18
        have HB_18 := HB_17.below hb18
        have X_18 := X_17.below hb18
        have p7_18 := (hb18.block (v3.heap.size) (Array.getElem?_eq_some_iff.1 p7_17).1).trans p7_17
        have p6_18 := (hb18.block (v14.heap.size) (Array.getElem?_eq_some_iff.1 n17).1).trans n17
        have Q18 := ho18.atC
        clear ho18 hb18
        (try go_wp2_with fail)
        refine hK.out _ _ ?_ (fun hHeld' => ?_)
        ·(try dsimp only)
         exact ⟨k0_18, k1_18⟩
        clear hK K hHeld
        have hHeld := hHeld'
        clear hHeld'
        (try simp only [Act.put, List.setIfInBounds_toArray, List.set_cons_zero, List.set_cons_succ])
        have e6 : v18.cell? ⟨v14.heap.size, 0, none⟩ = some (.slice none 0 0) := by rw [cell_of_row _ _ 0 _ _ (0, 0) p6_18]; rfl
        have g6 : v18.frozen? ⟨v14.heap.size, 0, none⟩ = false := frozen_of_row _ _ 0 _ _ p6_18
        have lt6 : W.heap.size ≤ v14.heap.size := Y14.size
        have lt7 : W.heap.size ≤ v3.heap.size := Y3.size
        have m7 : (v18.setCell ⟨v14.heap.size, 0, none⟩ (.slice r2 n d2)).heap[v3.heap.size]? = some (.cells #[.slice none 0 0] 63 (0, 0)) := (Below.heap_setCell _ ⟨v14.heap.size, 0, none⟩ _ _ (Nat.ne_of_lt nlt)).trans p7_18
        have e7 : (v18.setCell ⟨v14.heap.size, 0, none⟩ (.slice r2 n d2)).cell? ⟨v3.heap.size, 0, none⟩ = some (.slice none 0 0) := by rw [cell_of_row _ _ 0 _ _ (0, 0) m7]; rfl
        have g7 : (v18.setCell ⟨v14.heap.size, 0, none⟩ (.slice r2 n d2)).frozen? ⟨v3.heap.size, 0, none⟩ = false := frozen_of_row _ _ 0 _ _ m7
        refine wpAnyH_ready (rs := [8]) (by kernel_rfl) (by simp) ?_
        refine AllReadyH.cons (o := ?_) ?_ (fun K hK => ?_) AllReadyH.nil
        rotate_left
        ·(simp only [List.getElem?_toArray, List.getElem?_cons_zero, List.getElem?_cons_succ]; rfl)
        go_simp
        skip
        (try go_wp2_with fail)
        refine hK.out _ _ ?_ (fun hHeld' => ?_)
        ·(try dsimp only)
         exact ⟨keep_far k0_18 (by omega), keep_far k1_18 (by omega)⟩
        clear hK K hHeld
        have hHeld := hHeld'
        clear hHeld'
        (try simp only [Act.put, List.setIfInBounds_toArray, List.set_cons_zero, List.set_cons_succ])
        refine wpAnyH_ready (rs := [9]) (by kernel_rfl) (by simp) ?_
        refine AllReadyH.cons (o := ?_) ?_ (fun K hK => ?_) AllReadyH.nil
        rotate_left
        ·(simp only [List.getElem?_toArray, List.getElem?_cons_zero, List.getElem?_cons_succ]; rfl)
        go_simp
        skip
        (try go_wp2_with fail)
        refine hK.out _ _ ?_ (fun hHeld' => ?_)
        ·(try dsimp only)
         exact ⟨keep_far (keep_far k0_18 (by omega)) (by omega), keep_far (keep_far k1_18 (by omega)) (by omega)⟩
        clear hK K hHeld
        have hHeld := hHeld'
        clear hHeld'
        (try simp only [Act.put, List.setIfInBounds_toArray, List.set_cons_zero, List.set_cons_succ])
        refine wpAnyH_done (by kernel_rfl) ?_ _
        (try go_wp2_with fail)
        go_meet
        case rel =>
         exact ⟨v14.heap.size, v3.heap.size, r2, r18, d2, d18, bs2, bs18, rfl, rfl, keep_far (cell_set e6 _) (Nat.ne_of_gt nlt), cell_set e7 _, (X_18.box p6_18 (fun _ h => by cases h) _).box m7 (fun _ h => by cases h) _, (Q18.box p6_18 (fun _ h => by cases h) _).box m7 (fun _ h => by cases h) _, (Y18.setCell lt6 _).setCell lt7 _⟩
     refine AllReadyH.cons (o := ?_) ?_ (fun K hK => ?_) ?_
     rotate_left
     ·(simp only [List.getElem?_toArray, List.getElem?_cons_zero, List.getElem?_cons_succ]; rfl)
     ·go_simp
      (try go_wp2_with fail)
      refine hK.out _ _ ?_ (fun hHeld' => ?_)
      ·(try dsimp only)
       exact ⟨cell_later ((Below.refl _ _).alloc (Nat.le_refl _) _) k0_2, cell_later ((Below.refl _ _).alloc (Nat.le_refl _) _) k1_2⟩
      clear hK K hHeld
      have hHeld := hHeld'
      clear hHeld'
      (try simp only [Act.put, List.setIfInBounds_toArray, List.set_cons_zero, List.set_cons_succ])
      obtain ⟨v19, hU19⟩ : ∃ u, u = v2.alloc (.cells #[.slice none 0 0] 63) := ⟨_, rfl⟩
      have hb19 : Below v2.heap.size v2 v19 := by rw [hU19]; exact (Below.refl _ _).alloc (Nat.le_refl _) _
      have n19 : v19.heap[v2.heap.size]? = some (.cells #[.slice none 0 0] 63 (0, 0)) := by rw [hU19]; exact heap_alloc_new _ _
      rw [← hU19]
      clear hU19
      have k0_19 := cell_later hb19 k0_2
      have k1_19 := cell_later hb19 k1_2
      have Y19 := Y2.trans (hb19.mono Y2.size)
      have HA_19 := HA_2.below hb19
      have HB_19 := HB_2.below hb19
      have X_19 := Q2.below hb19
      clear hb19
      refine wpAnyH_ready (rs := [4, 7]) (by kernel_rfl) (by simp) ?_
      refine AllReadyH.cons (o := ?_) ?_ (fun K hK => ?_) ?_
      rotate_left
      ·(simp only [List.getElem?_toArray, List.getElem?_cons_zero, List.getElem?_cons_succ]; rfl)
      ·go_simp
       go_at_call 53
       refine (runningSums_any _ _ _ q' g _ _ hn HLg.out HB_19).mono ?_
       rintro e v20 ⟨r20, d20, bs20, rfl, ho20, hb20⟩
       have k0_20 := cell_later hb20 k0_19
       have k1_20 := cell_later hb20 k1_19
       have Y20 := Y19.trans (hb20.mono Y19.size)
       have HA_20 := HA_19.below hb20
       have HB_20 := HB_19.below hb20
       have X_20 := X_19.below hb20
       have p6_20 := (hb20.block (v2.heap.size) (Array.getElem?_eq_some_iff.1 n19).1).trans n19
       have Q20 := ho20.atC
       clear ho20 hb20
       (try go_wp2_with fail)
       refine hK.out _ _ ?_ (fun hHeld' => ?_)
       ·(try dsimp only)
        exact ⟨k0_20, k1_20⟩
       clear hK K hHeld
       have hHeld := hHeld'
       clear hHeld'
       (try simp only [Act.put, List.setIfInBounds_toArray, List.set_cons_zero, List.set_cons_succ])
       refine wpAnyH_ready (rs := [5, 7]) (by kernel_rfl) (by simp) ?_
       refine AllReadyH.cons (o := ?_) ?_ (fun K hK => ?_) ?_
       rotate_left
       ·(simp only [List.getElem?_toArray, List.getElem?_cons_zero, List.getElem?_cons_succ]; rfl)
       ·go_simp
        go_at_call 52
        refine (delayed_any _ _ _ q' 720 _ _ _ hn Q20).mono ?_
        rintro e v21 ⟨r21, d21, bs21, rfl, ho21, hb21⟩
        rw [prevK_sumK] at ho21
        have k0_21 := cell_later hb21 k0_20
        have k1_21 := cell_later hb21 k1_20
        have Y21 := Y20.trans (hb21.mono Y20.size)
        have HA_21 := HA_20.below hb21
        have HB_21 := HB_20.below hb21
        have X_21 := X_20.below hb21
        have p6_21 := (hb21.block (v2.heap.size) (Array.getElem?_eq_some_iff.1 p6_20).1).trans p6_20
        have Q21 := ho21.atC
        clear ho21 hb21
        (try go_wp2_with fail)
        refine hK.out _ _ ?_ (fun hHeld' => ?_)
        ·(try dsimp only)
         exact ⟨k0_21, k1_21⟩
        clear hK K hHeld
        have hHeld := hHeld'
        clear hHeld'
        (try simp only [Act.put, List.setIfInBounds_toArray, List.set_cons_zero, List.set_cons_succ])
        refine wpAnyH_ready (rs := [7]) (by kernel_rfl) (by simp) ?_
        refine AllReadyH.cons (o := ?_) ?_ (fun K hK => ?_) AllReadyH.nil
        rotate_left
        ·(simp only [List.getElem?_toArray, List.getElem?_cons_zero, List.getElem?_cons_succ]; rfl)
        go_simp
        (try go_wp2_with fail)
        refine hK.out _ _ ?_ (fun hHeld' => ?_)
        ·(try dsimp only)
         exact ⟨cell_later ((Below.refl _ _).alloc (Nat.le_refl _) _) k0_21, cell_later ((Below.refl _ _).alloc (Nat.le_refl _) _) k1_21⟩
        clear hK K hHeld
        have hHeld := hHeld'
        clear hHeld'
        (try simp only [Act.put, List.setIfInBounds_toArray, List.set_cons_zero, List.set_cons_succ])
        obtain ⟨v22, hU22⟩ : ∃ u, u = v21.alloc (.cells #[.slice none 0 0] 63) := ⟨_, rfl⟩
        have hb22 : Below v21.heap.size v21 v22 := by rw [hU22]; exact (Below.refl _ _).alloc (Nat.le_refl _) _
        have n22 : v22.heap[v21.heap.size]? = some (.cells #[.slice none 0 0] 63 (0, 0)) := by rw [hU22]; exact heap_alloc_new _ _
        rw [← hU22]
        clear hU22
        have nlt := (Array.getElem?_eq_some_iff.1 p6_21).1
        have k0_22 := cell_later hb22 k0_21
        have k1_22 := cell_later hb22 k1_21
        have Y22 := Y21.trans (hb22.mono Y21.size)
        have HA_22 := HA_21.below hb22
        have HB_22 := HB_21.below hb22
        have X_22 := X_21.below hb22
        have Z_22 := Q21.below hb22
        have p6_22 := (hb22.block (v2.heap.size) (Array.getElem?_eq_some_iff.1 p6_21).1).trans p6_21
        clear hb22
        have e6 : v22.cell? ⟨v2.heap.size, 0, none⟩ = some (.slice none 0 0) := by rw [cell_of_row _ _ 0 _ _ (0, 0) p6_22]; rfl
        have g6 : v22.frozen? ⟨v2.heap.size, 0, none⟩ = false := frozen_of_row _ _ 0 _ _ p6_22
        have lt6 : W.heap.size ≤ v2.heap.size := Y2.size
        have lt7 : W.heap.size ≤ v21.heap.size := Y21.size
        have m7 : (v22.setCell ⟨v2.heap.size, 0, none⟩ (.slice r2 n d2)).heap[v21.heap.size]? = some (.cells #[.slice none 0 0] 63 (0, 0)) := (Below.heap_setCell _ ⟨v2.heap.size, 0, none⟩ _ _ (Nat.ne_of_gt nlt)).trans n22
        have e7 : (v22.setCell ⟨v2.heap.size, 0, none⟩ (.slice r2 n d2)).cell? ⟨v21.heap.size, 0, none⟩ = some (.slice none 0 0) := by rw [cell_of_row _ _ 0 _ _ (0, 0) m7]; rfl
        have g7 : (v22.setCell ⟨v2.heap.size, 0, none⟩ (.slice r2 n d2)).frozen? ⟨v21.heap.size, 0, none⟩ = false := frozen_of_row _ _ 0 _ _ m7
        refine wpAnyH_ready (rs := [8]) (by kernel_rfl) (by simp) ?_
        refine AllReadyH.cons (o := ?_) ?_ (fun K hK => ?_) AllReadyH.nil
        rotate_left
        ·(simp only [List.getElem?_toArray, List.getElem?_cons_zero, List.getElem?_cons_succ]; rfl)
        go_simp
        skip
        (try go_wp2_with fail)
        refine hK.out _ _ ?_ (fun hHeld' => ?_)
        ·(try dsimp only)
         exact ⟨keep_far k0_22 (by omega), keep_far k1_22 (by omega)⟩
        clear hK K hHeld
        have hHeld := hHeld'
        clear hHeld'
        (try simp only [Act.put, List.setIfInBounds_toArray, List.set_cons_zero, List.set_cons_succ])
        refine wpAnyH_ready (rs := [9]) (by kernel_rfl) (by simp) ?_
        refine AllReadyH.cons (o := ?_) ?_ (fun K hK => ?_) AllReadyH.nil
        rotate_left
        ·(simp only [List.getElem?_toArray, List.getElem?_cons_zero, List.getElem?_cons_succ]; rfl)
        go_simp
        skip
        (try go_wp2_with fail)
        refine hK.out _ _ ?_ (fun hHeld' => ?_)
        ·(try dsimp only)
         exact ⟨keep_far (keep_far k0_22 (by omega)) (by omega), keep_far (keep_far k1_22 (by omega)) (by omega)⟩
        clear hK K hHeld
        have hHeld := hHeld'
        clear hHeld'
        (try simp only [Act.put, List.setIfInBounds_toArray, List.set_cons_zero, List.set_cons_succ])
        refine wpAnyH_done (by kernel_rfl) ?_ _
        (try go_wp2_with fail)
        go_meet
        case rel =>
         exact ⟨v2.heap.size, v21.heap.size, r2, r21, d2, d21, bs2, bs21, rfl, rfl, keep_far (cell_set e6 _) (Nat.ne_of_lt nlt), cell_set e7 _, (X_22.box p6_22 (fun _ h => by cases h) _).box m7 (fun _ h => by cases h) _, (Z_22.box p6_22 (fun _ h => by cases h) _).box m7 (fun _ h => by cases h) _, (Y22.setCell lt6 _).setCell lt7 _⟩
       refine AllReadyH.cons (o := ?_) ?_ (fun K hK => ?_) AllReadyH.nil
       rotate_left
       ·(simp only [List.getElem?_toArray, List.getElem?_cons_zero, List.getElem?_cons_succ]; rfl)
       ·go_simp
        (try go_wp2_with fail)
        refine hK.out _ _ ?_ (fun hHeld' => ?_)
        ·(try dsimp only)
         exact ⟨cell_later ((Below.refl _ _).alloc (Nat.le_refl _) _) k0_20, cell_later ((Below.refl _ _).alloc (Nat.le_refl _) _) k1_20⟩
        clear hK K hHeld
        have hHeld := hHeld'
        clear hHeld'
        (try simp only [Act.put, List.setIfInBounds_toArray, List.set_cons_zero, List.set_cons_succ])
        obtain ⟨v23, hU23⟩ : ∃ u, u = v20.alloc (.cells #[.slice none 0 0] 63) := ⟨_, rfl⟩
        have hb23 : Below v20.heap.size v20 v23 := by rw [hU23]; exact (Below.refl _ _).alloc (Nat.le_refl _) _
        have n23 : v23.heap[v20.heap.size]? = some (.cells #[.slice none 0 0] 63 (0, 0)) := by rw [hU23]; exact heap_alloc_new _ _
        rw [← hU23]
        clear hU23
        have nlt := (Array.getElem?_eq_some_iff.1 p6_20).1
        have k0_23 := cell_later hb23 k0_20
        have k1_23 := cell_later hb23 k1_20
        have Y23 := Y20.trans (hb23.mono Y20.size)
        have HA_23 := HA_20.below hb23
        have HB_23 := HB_20.below hb23
        have X_23 := X_20.below hb23
        have R_23 := Q20.below hb23
        have p6_23 := (hb23.block (v2.heap.size) (Array.getElem?_eq_some_iff.1 p6_20).1).trans p6_20
        clear hb23
        refine wpAnyH_ready (rs := [5]) (by kernel_rfl) (by simp) ?_
        refine AllReadyH.cons (o := ?_) ?_ (fun K hK => ?_) AllReadyH.nil
        rotate_left
        ·(simp only [List.getElem?_toArray, List.getElem?_cons_zero, List.getElem?_cons_succ]; rfl)
        go_simp
        go_at_call 52
        refine (delayed_any _ _ _ q' 720 _ _ _ hn R_23).mono ?_
        rintro e v24 ⟨r24, d24, bs24, rfl, ho24, hb24⟩
        rw [prevK_sumK] at ho24
        have k0_24 := cell_later hb24 k0_23
        have k1_24 := cell_later hb24 k1_23
        have Y24 := Y23.trans (hb24.mono Y23.size)
        have HA_24 := HA_23.below hb24
        have HB_24 := HB_23.below hb24
        have X_24 := X_23.below hb24
        have p6_24 := (hb24.block (v2.heap.size) (Array.getElem?_eq_some_iff.1 p6_23).1).trans p6_23
        have p7_24 := (hb24.block (v20.heap.size) (Array.getElem?_eq_some_iff.1 n23).1).trans n23
        have Q24 := ho24.atC
        clear ho24 hb24
        (try go_wp2_with fail)
        refine hK.out _ _ ?_ (fun hHeld' => ?_)
        ·(try dsimp only)
         exact ⟨k0_24, k1_24⟩
        clear hK K hHeld
        have hHeld := hHeld'
        clear hHeld'
        (try simp only [Act.put, List.setIfInBounds_toArray, List.set_cons_zero, List.set_cons_succ])
        have e6 : v24.cell? ⟨v2.heap.size, 0, none⟩ = some (.slice none 0 0) := by rw [cell_of_row _ _ 0 _ _ (0, 0) p6_24]; rfl
        have g6 : v24.frozen? ⟨v2.heap.size, 0, none⟩ = false := frozen_of_row _ _ 0 _ _ p6_24
        have lt6 : W.heap.size ≤ v2.heap.size := Y2.size
        have lt7 : W.heap.size ≤ v20.heap.size := Y20.size
        have m7 : (v24.setCell ⟨v2.heap.size, 0, none⟩ (.slice r2 n d2)).heap[v20.heap.size]? = some (.cells #[.slice none 0 0] 63 (0, 0)) := (Below.heap_setCell _ ⟨v2.heap.size, 0, none⟩ _ _ (Nat.ne_of_gt nlt)).trans p7_24
        have e7 : (v24.setCell ⟨v2.heap.size, 0, none⟩ (.slice r2 n d2)).cell? ⟨v20.heap.size, 0, none⟩ = some (.slice none 0 0) := by rw [cell_of_row _ _ 0 _ _ (0, 0) m7]; rfl
        have g7 : (v24.setCell ⟨v2.heap.size, 0, none⟩ (.slice r2 n d2)).frozen? ⟨v20.heap.size, 0, none⟩ = false := frozen_of_row _ _ 0 _ _ m7
        refine wpAnyH_ready (rs := [8]) (by kernel_rfl) (by simp) ?_
        refine AllReadyH.cons (o := ?_) ?_ (fun K hK => ?_) AllReadyH.nil
        rotate_left
        ·(simp only [List.getElem?_toArray, List.getElem?_cons_zero, List.getElem?_cons_succ]; rfl)
        go_simp
        skip
        (try go_wp2_with fail)
        refine hK.out _ _ ?_ (fun hHeld' => ?_)
        ·(try dsimp only)
         exact ⟨keep_far k0_24 (by omega), keep_far k1_24 (by omega)⟩
        clear hK K hHeld
        have hHeld := hHeld'
        clear hHeld'
        (try simp only [Act.put, List.setIfInBounds_toArray, List.set_cons_zero, List.set_cons_succ])
        refine wpAnyH_ready (rs := [9]) (by kernel_rfl) (by simp) ?_
        refine AllReadyH.cons (o := ?_) ?_ (fun K hK => ?_) AllReadyH.nil
        rotate_left
        ·(simp only [List.getElem?_toArray, List.getElem?_cons_zero, List.getElem?_cons_succ]; rfl)
        go_simp
        skip
        (try go_wp2_with fail)
        refine hK.out _ _ ?_ (fun hHeld' => ?_)
        ·(try dsimp only)
         exact ⟨keep_far (keep_far k0_24 (by omega)) (by omega), keep_far (keep_far k1_24 (by omega)) (by omega)⟩
        clear hK K hHeld
        have hHeld := hHeld'
        clear hHeld'
        (try simp only [Act.put, List.setIfInBounds_toArray, List.set_cons_zero, List.set_cons_succ])
        refine wpAnyH_done (by kernel_rfl) ?_ _
        (try go_wp2_with fail)
        go_meet
        case rel =>
         exact ⟨v2.heap.size, v20.heap.size, r2, r24, d2, d24, bs2, bs24, rfl, rfl, keep_far (cell_set e6 _) (Nat.ne_of_lt nlt), cell_set e7 _, (X_24.box p6_24 (fun _ h => by cases h) _).box m7 (fun _ h => by cases h) _, (Q24.box p6_24 (fun _ h => by cases h) _).box m7 (fun _ h => by cases h) _, (Y24.setCell lt6 _).setCell lt7 _⟩
      refine AllReadyH.cons (o := ?_) ?_ (fun K hK => ?_) AllReadyH.nil
      rotate_left
      ·(simp only [List.getElem?_toArray, List.getElem?_cons_zero, List.getElem?_cons_succ]; rfl)
      ·go_simp
       (try go_wp2_with fail)
       refine hK.out _ _ ?_ (fun hHeld' => ?_)
       ·(try dsimp only)
        exact ⟨cell_later ((Below.refl _ _).alloc (Nat.le_refl _) _) k0_19, cell_later ((Below.refl _ _).alloc (Nat.le_refl _) _) k1_19⟩
       clear hK K hHeld
       have hHeld := hHeld'
       clear hHeld'
       (try simp only [Act.put, List.setIfInBounds_toArray, List.set_cons_zero, List.set_cons_succ])
       obtain ⟨v25, hU25⟩ : ∃ u, u = v19.alloc (.cells #[.slice none 0 0] 63) := ⟨_, rfl⟩
       have hb25 : Below v19.heap.size v19 v25 := by rw [hU25]; exact (Below.refl _ _).alloc (Nat.le_refl _) _
       have n25 : v25.heap[v19.heap.size]? = some (.cells #[.slice none 0 0] 63 (0, 0)) := by rw [hU25]; exact heap_alloc_new _ _
       rw [← hU25]
       clear hU25
       have nlt := (Array.getElem?_eq_some_iff.1 n19).1
       have k0_25 := cell_later hb25 k0_19
       have k1_25 := cell_later hb25 k1_19
       have Y25 := Y19.trans (hb25.mono Y19.size)
       have HA_25 := HA_19.below hb25
       have HB_25 := HB_19.below hb25
       have X_25 := X_19.below hb25
       have p6_25 := (hb25.block (v2.heap.size) (Array.getElem?_eq_some_iff.1 n19).1).trans n19
       clear hb25
       refine wpAnyH_ready (rs := [4]) (by kernel_rfl) (by simp) ?_
       refine AllReadyH.cons (o := ?_) ?_ (fun K hK => ?_) AllReadyH.nil
       rotate_left
       ·(simp only [List.getElem?_toArray, List.getElem?_cons_zero, List.getElem?_cons_succ]; rfl)
       go_simp
       go_at_call 53
       refine (runningSums_any _ _ _ q' g _ _ hn HLg.out HB_25).mono ?_
       rintro e v26 ⟨r26, d26, bs26, rfl, ho26, hb26⟩
       have k0_26 := cell_later hb26 k0_25
       have k1_26 := cell_later hb26 k1_25
       have Y26 := Y25.trans (hb26.mono Y25.size)
       have HA_26 := HA_25.below hb26
       have HB_26 := HB_25.below hb26
       have X_26 := X_25.below hb26
       have p6_26 := (hb26.block (v2.heap.size) (Array.getElem?_eq_some_iff.1 p6_25).1).trans p6_25
       have p7_26 := (hb26.block (v19.heap.size) (Array.getElem?_eq_some_iff.1 n25).1).trans n25
       have Q26 := ho26.atC
       clear ho26 hb26
       (try go_wp2_with fail)
       refine hK.out _ _ ?_ (fun hHeld' => ?_)
       ·(try dsimp only)
        exact ⟨k0_26, k1_26⟩
       clear hK K hHeld
       have hHeld := hHeld'
       clear hHeld'
       (try simp only [Act.put, List.setIfInBounds_toArray, List.set_cons_zero, List.set_cons_succ])
       refine wpAnyH_ready (rs := [5]) (by kernel_rfl) (by simp) ?_
       refine AllReadyH.cons (o := ?_) ?_ (fun K hK => ?_) AllReadyH.nil
       rotate_left
       ·(simp only [List.getElem?_toArray, List.getElem?_cons_zero, List.getElem?_cons_succ]; rfl)
       go_simp
       go_at_call 52
       refine (delayed_any _ _ _ q' 720 _ _ _ hn Q26).mono ?_
       rintro e v27 ⟨r27, d27, bs27, rfl, ho27, hb27⟩
       rw [prevK_sumK] at ho27
       have k0_27 := cell_later hb27 k0_26
       have k1_27 := cell_later hb27 k1_26
       have Y27 := Y26.trans (hb27.mono Y26.size)
       have HA_27 := HA_26.below hb27
       have HB_27 := HB_26.below hb27
       have X_27 := X_26.below hb27
       have p6_27 := (hb27.block (v2.heap.size) (Array.getElem?_eq_some_iff.1 p6_26).1).trans p6_26
       have p7_27 := (hb27.block (v19.heap.size) (Array.getElem?_eq_some_iff.1 p7_26).1).trans p7_26
       have Q27 := ho27.atC
       clear ho27 hb27
       (try go_wp2_with fail)
       refine hK.out _ _ ?_ (fun hHeld' => ?_)
       ·(try dsimp only)
        exact ⟨k0_27, k1_27⟩
       clear hK K hHeld
       have hHeld := hHeld'
       clear hHeld'
       (try simp only [Act.put, List.setIfInBounds_toArray, List.set_cons_zero, List.set_cons_succ])
       have e6 : v27.cell? ⟨v2.heap.size, 0, none⟩ = some (.slice none 0 0) := by rw [cell_of_row _ _ 0 _ _ (0, 0) p6_27]; rfl
       have g6 : v27.frozen? ⟨v2.heap.size, 0, none⟩ = false := frozen_of_row _ _ 0 _ _ p6_27
       have lt6 : W.heap.size ≤ v2.heap.size := Y2.size
       have lt7 : W.heap.size ≤ v19.heap.size := Y19.size
       have m7 : (v27.setCell ⟨v2.heap.size, 0, none⟩ (.slice r2 n d2)).heap[v19.heap.size]? = some (.cells #[.slice none 0 0] 63 (0, 0)) := (Below.heap_setCell _ ⟨v2.heap.size, 0, none⟩ _ _ (Nat.ne_of_gt nlt)).trans p7_27
       have e7 : (v27.setCell ⟨v2.heap.size, 0, none⟩ (.slice r2 n d2)).cell? ⟨v19.heap.size, 0, none⟩ = some (.slice none 0 0) := by rw [cell_of_row _ _ 0 _ _ (0, 0) m7]; rfl
       have g7 : (v27.setCell ⟨v2.heap.size, 0, none⟩ (.slice r2 n d2)).frozen? ⟨v19.heap.size, 0, none⟩ = false := frozen_of_row _ _ 0 _ _ m7
       refine wpAnyH_ready (rs := [8]) (by kernel_rfl) (by simp) ?_
       refine AllReadyH.cons (o := ?_) ?_ (fun K hK => ?_) AllReadyH.nil
       rotate_left
       ·(simp only [List.getElem?_toArray, List.getElem?_cons_zero, List.getElem?_cons_succ]; rfl)
       go_simp
       skip
       (try go_wp2_with fail)
       refine hK.out _ _ ?_ (fun hHeld' => ?_)
       ·(try dsimp only)
        exact ⟨keep_far k0_27 (by omega), keep_far k1_27 (by omega)⟩
       clear hK K hHeld
       have hHeld := hHeld'
       clear hHeld'
       (try simp only [Act.put, List.setIfInBounds_toArray, List.set_cons_zero, List.set_cons_succ])
       refine wpAnyH_ready (rs := [9]) (by kernel_rfl) (by simp) ?_
       refine AllReadyH.cons (o := ?_) ?_ (fun K hK => ?_) AllReadyH.nil
       rotate_left
       ·(simp only [List.getElem?_toArray, List.getElem?_cons_zero, List.getElem?_cons_succ]; rfl)
       go_simp
       skip
       (try go_wp2_with fail)
       refine hK.out _ _ ?_ (fun hHeld' => ?_)
       ·(try dsimp only)
        exact ⟨keep_far (keep_far k0_27 (by omega)) (by omega), keep_far (keep_far k1_27 (by omega)) (by omega)⟩
       clear hK K hHeld
       have hHeld := hHeld'
       clear hHeld'
       (try simp only [Act.put, List.setIfInBounds_toArray, List.set_cons_zero, List.set_cons_succ])
       refine wpAnyH_done (by kernel_rfl) ?_ _
       (try go_wp2_with fail)
       go_meet
       case rel =>
        exact ⟨v2.heap.size, v19.heap.size, r2, r27, d2, d27, bs2, bs27, rfl, rfl, keep_far (cell_set e6 _) (Nat.ne_of_lt nlt), cell_set e7 _, (X_27.box p6_27 (fun _ h => by cases h) _).box m7 (fun _ h => by cases h) _, (Q27.box p6_27 (fun _ h => by cases h) _).box m7 (fun _ h => by cases h) _, (Y27.setCell lt6 _).setCell lt7 _⟩
     refine AllReadyH.cons (o := ?_) ?_ (fun K hK => ?_) AllReadyH.nil
     rotate_left
     ·(simp only [List.getElem?_toArray, List.getElem?_cons_zero, List.getElem?_cons_succ]; rfl)
     ·go_simp
      (try go_wp2_with fail)
      refine hK.out _ _ ?_ (fun hHeld' => ?_)
      ·(try dsimp only)
       exact ⟨cell_later ((Below.refl _ _).alloc (Nat.le_refl _) _) k0_2, cell_later ((Below.refl _ _).alloc (Nat.le_refl _) _) k1_2⟩
      clear hK K hHeld
      have hHeld := hHeld'
      clear hHeld'
      (try simp only [Act.put, List.setIfInBounds_toArray, List.set_cons_zero, List.set_cons_succ])
      obtain ⟨v28, hU28⟩ : ∃ u, u = v2.alloc (.cells #[.slice none 0 0] 63) := ⟨_, rfl⟩
      have hb28 : Below v2.heap.size v2 v28 := by rw [hU28]; exact (Below.refl _ _).alloc (Nat.le_refl _) _
      have n28 : v28.heap[v2.heap.size]? = some (.cells #[.slice none 0 0] 63 (0, 0)) := by rw [hU28]; exact heap_alloc_new _ _
      rw [← hU28]
      clear hU28
      have k0_28 := cell_later hb28 k0_2
      have k1_28 := cell_later hb28 k1_2
      have Y28 := Y2.trans (hb28.mono Y2.size)
      have HA_28 := HA_2.below hb28
      have HB_28 := HB_2.below hb28
      have X_28 := Q2.below hb28
      clear hb28
      refine wpAnyH_ready (rs := [4, 6]) (by kernel_rfl) (by simp) ?_
      refine AllReadyH.cons (o := ?_) ?_ (fun K hK => ?_) ?_
      rotate_left
      ·(simp only [List.getElem?_toArray, List.getElem?_cons_zero, List.getElem?_cons_succ]; rfl)
      ·go_simp
       go_at_call 53
       refine (runningSums_any _ _ _ q' g _ _ hn HLg.out HB_28).mono ?_
       rintro e v29 ⟨r29, d29, bs29, rfl, ho29, hb29⟩
       have k0_29 := cell_later hb29 k0_28
       have k1_29 := cell_later hb29 k1_28
       have Y29 := Y28.trans (hb29.mono Y28.size)
       have HA_29 := HA_28.below hb29
       have HB_29 := HB_28.below hb29
       have X_29 := X_28.below hb29
       have p7_29 := (hb29.block (v2.heap.size) (Array.getElem?_eq_some_iff.1 n28).1).trans n28
       have Q29 := ho29.atC
       clear ho29 hb29
       (try go_wp2_with fail)
       refine hK.out _ _ ?_ (fun hHeld' => ?_)
       ·(try dsimp only)
        exact ⟨k0_29, k1_29⟩
       clear hK K hHeld
       have hHeld := hHeld'
       clear hHeld'
       (try simp only [Act.put, List.setIfInBounds_toArray, List.set_cons_zero, List.set_cons_succ])
       refine wpAnyH_ready (rs := [5, 6]) (by kernel_rfl) (by simp) ?_
       refine AllReadyH.cons (o := ?_) ?_ (fun K hK => ?_) ?_
       rotate_left
       ·(simp only [List.getElem?_toArray, List.getElem?_cons_zero, List.getElem?_cons_succ]; rfl)
       ·go_simp
        go_at_call 52
        refine (delayed_any _ _ _ q' 720 _ _ _ hn Q29).mono ?_
        rintro e v30 ⟨r30, d30, bs30, rfl, ho30, hb30⟩
        rw [prevK_sumK] at ho30
        have k0_30 := cell_later hb30 k0_29
        have k1_30 := cell_later hb30 k1_29
        have Y30 := Y29.trans (hb30.mono Y29.size)
        have HA_30 := HA_29.below hb30
        have HB_30 := HB_29.below hb30
        have X_30 := X_29.below hb30
        have p7_30 := (hb30.block (v2.heap.size) (Array.getElem?_eq_some_iff.1 p7_29).1).trans p7_29
        have Q30 := ho30.atC
        clear ho30 hb30
        (try go_wp2_with fail)
        refine hK.out _ _ ?_ (fun hHeld' => ?_)
        ·(try dsimp only)
         exact ⟨k0_30, k1_30⟩
        clear hK K hHeld
        have hHeld := hHeld'
        clear hHeld'
        (try simp only [Act.put, List.setIfInBounds_toArray, List.set_cons_zero, List.set_cons_succ])
        refine wpAnyH_ready (rs := [6]) (by kernel_rfl) (by simp) ?_
        refine AllReadyH.cons (o := ?_) ?_ (fun K hK => ?_) AllReadyH.nil
        rotate_left
        ·(simp only [List.getElem?_toArray, List.getElem?_cons_zero, List.getElem?_cons_succ]; rfl)
        go_simp
        (try go_wp2_with fail)
        refine hK.out _ _ ?_ (fun hHeld' => ?_)
        ·(try dsimp only)
         exact ⟨cell_later ((Below.refl _ _).alloc (Nat.le_refl _) _) k0_30, cell_later ((Below.refl _ _).alloc (Nat.le_refl _) _) k1_30⟩
        clear hK K hHeld
        have hHeld := hHeld'
        clear hHeld'
        (try simp only [Act.put, List.setIfInBounds_toArray, List.set_cons_zero, List.set_cons_succ])
        obtain ⟨v31, hU31⟩ : ∃ u, u = v30.alloc (.cells #[.slice none 0 0] 63) := ⟨_, rfl⟩
        have hb31 : Below v30.heap.size v30 v31 := by rw [hU31]; exact (Below.refl _ _).alloc (Nat.le_refl _) _
        have n31 : v31.heap[v30.heap.size]? = some (.cells #[.slice none 0 0] 63 (0, 0)) := by rw [hU31]; exact heap_alloc_new _ _
        rw [← hU31]
        clear hU31
        have nlt := (Array.getElem?_eq_some_iff.1 p7_30).1
        have k0_31 := cell_later hb31 k0_30
        have k1_31 := cell_later hb31 k1_30
        have Y31 := Y30.trans (hb31.mono Y30.size)
        have HA_31 := HA_30.below hb31
        have HB_31 := HB_30.below hb31
        have X_31 := X_30.below hb31
        have Z_31 := Q30.below hb31
        have p7_31 := (hb31.block (v2.heap.size) (Array.getElem?_eq_some_iff.1 p7_30).1).trans p7_30
        clear hb31
        have e6 : v31.cell? ⟨v30.heap.size, 0, none⟩ = some (.slice none 0 0) := by rw [cell_of_row _ _ 0 _ _ (0, 0) n31]; rfl
        have g6 : v31.frozen? ⟨v30.heap.size, 0, none⟩ = false := frozen_of_row _ _ 0 _ _ n31
        have lt6 : W.heap.size ≤ v30.heap.size := Y30.size
        have lt7 : W.heap.size ≤ v2.heap.size := Y2.size
        have m7 : (v31.setCell ⟨v30.heap.size, 0, none⟩ (.slice r2 n d2)).heap[v2.heap.size]? = some (.cells #[.slice none 0 0] 63 (0, 0)) := (Below.heap_setCell _ ⟨v30.heap.size, 0, none⟩ _ _ (Nat.ne_of_lt nlt)).trans p7_31
        have e7 : (v31.setCell ⟨v30.heap.size, 0, none⟩ (.slice r2 n d2)).cell? ⟨v2.heap.size, 0, none⟩ = some (.slice none 0 0) := by rw [cell_of_row _ _ 0 _ _ (0, 0) m7]; rfl
        have g7 : (v31.setCell ⟨v30.heap.size, 0, none⟩ (.slice r2 n d2)).frozen? ⟨v2.heap.size, 0, none⟩ = false := frozen_of_row _ _ 0 _ _ m7
        refine wpAnyH_ready (rs := [8]) (by kernel_rfl) (by simp) ?_
        refine AllReadyH.cons (o := ?_) ?_ (fun K hK => ?_) AllReadyH.nil
        rotate_left
        ·(simp only [List.getElem?_toArray, List.getElem?_cons_zero, List.getElem?_cons_succ]; rfl)
        go_simp
        skip
        (try go_wp2_with fail)
        refine hK.out _ _ ?_ (fun hHeld' => ?_)
        ·(try dsimp only)
         exact ⟨keep_far k0_31 (by omega), keep_far k1_31 (by omega)⟩
        clear hK K hHeld
        have hHeld := hHeld'
        clear hHeld'
        (try simp only [Act.put, List.setIfInBounds_toArray, List.set_cons_zero, List.set_cons_succ])
        refine wpAnyH_ready (rs := [9]) (by kernel_rfl) (by simp) ?_
        refine AllReadyH.cons (o := ?_) ?_ (fun K hK => ?_) AllReadyH.nil
        rotate_left
        ·(simp only [List.getElem?_toArray, List.getElem?_cons_zero, List.getElem?_cons_succ]; rfl)
        go_simp
        skip
        (try go_wp2_with fail)
        refine hK.out _ _ ?_ (fun hHeld' => ?_)
        ·(try dsimp only)
         exact ⟨keep_far (keep_far k0_31 (by omega)) (by omega), keep_far (keep_far k1_31 (by omega)) (by omega)⟩
        clear hK K hHeld
        have hHeld := hHeld'
        clear hHeld'
        (try simp only [Act.put, List.setIfInBounds_toArray, List.set_cons_zero, List.set_cons_succ])
        refine wpAnyH_done (by kernel_rfl) ?_ _
        (try go_wp2_with fail)
        go_meet
        case rel =>
         exact ⟨v30.heap.size, v2.heap.size, r2, r30, d2, d30, bs2, bs30, rfl, rfl, keep_far (cell_set e6 _) (Nat.ne_of_gt nlt), cell_set e7 _, (X_31.box n31 (fun _ h => by cases h) _).box m7 (fun _ h => by cases h) _, (Z_31.box n31 (fun _ h => by cases h) _).box m7 (fun _ h => by cases h) _, (Y31.setCell lt6 _).setCell lt7 _⟩
       refine AllReadyH.cons (o := ?_) ?_ (fun K hK => ?_) AllReadyH.nil
       rotate_left
       ·(simp only [List.getElem?_toArray, List.getElem?_cons_zero, List.getElem?_cons_succ]; rfl)
       ·go_simp
        (try go_wp2_with fail)
        refine hK.out _ _ ?_ (fun hHeld' => ?_)
        ·(try dsimp only)
         exact ⟨cell_later ((Below.refl _ _).alloc (Nat.le_refl _) _) k0_29, cell_later ((Below.refl _ _).alloc (Nat.le_refl _) _) k1_29⟩
        clear hK K hHeld
        have hHeld := hHeld'
        clear hHeld'
        (try simp only [Act.put, List.setIfInBounds_toArray, List.set_cons_zero, List.set_cons_succ])
        obtain ⟨v32, hU32⟩ : ∃ u, u = v29.alloc (.cells #[.slice none 0 0] 63) := ⟨_, rfl⟩
        have hb32 : Below v29.heap.size v29 v32 := by rw [hU32]; exact (Below.refl _ _).alloc (Nat.le_refl _) _
        have n32 : v32.heap[v29.heap.size]? = some (.cells #[.slice none 0 0] 63 (0, 0)) := by rw [hU32]; exact heap_alloc_new _ _
        rw [← hU32]
        clear hU32
        have nlt := (Array.getElem?_eq_some_iff.1 p7_29).1
        have k0_32 := cell_later hb32 k0_29
        have k1_32 := cell_later hb32 k1_29
        have Y32 := Y29.trans (hb32.mono Y29.size)
        have HA_32 := HA_29.below hb32
        have HB_32 := HB_29.below hb32
        have X_32 := X_29.below hb32
        have R_32 := Q29.below hb32
        have p7_32 := (hb32.block (v2.heap.size) (Array.getElem?_eq_some_iff.1 p7_29).1).trans p7_29
        clear hb32
        refine wpAnyH_ready (rs := [5]) (by kernel_rfl) (by simp) ?_
        refine AllReadyH.cons (o := ?_) ?_ (fun K hK => ?_) AllReadyH.nil
        rotate_left
        ·(simp only [List.getElem?_toArray, List.getElem?_cons_zero, List.getElem?_cons_succ]; rfl)
        go_simp
        go_at_call 52
        refine (delayed_any _ _ _ q' 720 _ _ _ hn R_32).mono ?_
        rintro e v33 ⟨r33, d33, bs33, rfl, ho33, hb33⟩
        rw [prevK_sumK] at ho33
        have k0_33 := cell_later hb33 k0_32
        have k1_33 := cell_later hb33 k1_32
        have Y33 := Y32.trans (hb33.mono Y32.size)
        have HA_33 := HA_32.below hb33
        have HB_33 := HB_32.below hb33
        have X_33 := X_32.below hb33
        have p7_33 := (hb33.block (v2.heap.size) (Array.getElem?_eq_some_iff.1 p7_32).1).trans p7_32
        have p6_33 := (hb33.block (v29.heap.size) (Array.getElem?_eq_some_iff.1 n32).1).trans n32
        have Q33 := ho33.atC
        clear ho33 hb33
        (try go_wp2_with fail)
        refine hK.out _ _ ?_ (fun hHeld' => ?_)
        ·(try dsimp only)
         exact ⟨k0_33, k1_33⟩
        clear hK K hHeld
        have hHeld := hHeld'
        clear hHeld'
        (try simp only [Act.put, List.setIfInBounds_toArray, List.set_cons_zero, List.set_cons_succ])
        have e6 : v33.cell? ⟨v29.heap.size, 0, none⟩ = some (.slice none 0 0) := by rw [cell_of_row _ _ 0 _ _ (0, 0) p6_33]; rfl
        have g6 : v33.frozen? ⟨v29.heap.size, 0, none⟩ = false := frozen_of_row _ _ 0 _ _ p6_33
        have lt6 : W.heap.size ≤ v29.heap.size := Y29.size
        have lt7 : W.heap.size ≤ v2.heap.size := Y2.size
        have m7 : (v33.setCell ⟨v29.heap.size, 0, none⟩ (.slice r2 n d2)).heap[v2.heap.size]? = some (.cells #[.slice none 0 0] 63 (0, 0)) := (Below.heap_setCell _ ⟨v29.heap.size, 0, none⟩ _ _ (Nat.ne_of_lt nlt)).trans p7_33
        have e7 : (v33.setCell ⟨v29.heap.size, 0, none⟩ (.slice r2 n d2)).cell? ⟨v2.heap.size, 0, none⟩ = some (.slice none 0 0) := by rw [cell_of_row _ _ 0 _ _ (0, 0) m7]; rfl
        have g7 : (v33.setCell ⟨v29.heap.size, 0, none⟩ (.slice r2 n d2)).frozen? ⟨v2.heap.size, 0, none⟩ = false := frozen_of_row _ _ 0 _ _ m7
        refine wpAnyH_ready (rs := [8]) (by kernel_rfl) (by simp) ?_
        refine AllReadyH.cons (o := ?_) ?_ (fun K hK => ?_) AllReadyH.nil
        rotate_left
        ·(simp only [List.getElem?_toArray, List.getElem?_cons_zero, List.getElem?_cons_succ]; rfl)
        go_simp
        skip
        (try go_wp2_with fail)
        refine hK.out _ _ ?_ (fun hHeld' => ?_)
        ·(try dsimp only)
         exact ⟨keep_far k0_33 (by omega), keep_far k1_33 (by omega)⟩
        clear hK K hHeld
        have hHeld := hHeld'
        clear hHeld'
        (try simp only [Act.put, List.setIfInBounds_toArray, List.set_cons_zero, List.set_cons_succ])
        refine wpAnyH_ready (rs := [9]) (by kernel_rfl) (by simp) ?_
        refine AllReadyH.cons (o := ?_) ?_ (fun K hK => ?_) AllReadyH.nil
        rotate_left
        ·(simp only [List.getElem?_toArray, List.getElem?_cons_zero, List.getElem?_cons_succ]; rfl)
        go_simp
        skip
        (try go_wp2_with fail)
        refine hK.out _ _ ?_ (fun hHeld' => ?_)
        ·(try dsimp only)
         exact ⟨keep_far (keep_far k0_33 (by omega)) (by omega), keep_far (keep_far k1_33 (by omega)) (by omega)⟩
        clear hK K hHeld
        have hHeld := hHeld'
        clear hHeld'
        (try simp only [Act.put, List.setIfInBounds_toArray, List.set_cons_zero, List.set_cons_succ])
        refine wpAnyH_done (by kernel_rfl) ?_ _
        (try go_wp2_with fail)
        go_meet
        case rel =>
         exact ⟨v29.heap.size, v2.heap.size, r2, r33, d2, d33, bs2, bs33, rfl, rfl, keep_far (cell_set e6 _) (Nat.ne_of_gt nlt), cell_set e7 _, (X_33.box p6_33 (fun _ h => by cases h) _).box m7 (fun _ h => by cases h) _, (Q33.box p6_33 (fun _ h => by cases h) _).box m7 (fun _ h => by cases h) _, (Y33.setCell lt6 _).setCell lt7 _⟩
      refine AllReadyH.cons (o := ?_) ?_ (fun K hK => ?_) AllReadyH.nil
      rotate_left
      ·(simp only [List.getElem?_toArray, List.getElem?_cons_zero, List.getElem?_cons_succ]; rfl)
      ·go_simp
       (try go_wp2_with fail)
       refine hK.out _ _ ?_ (fun hHeld' => ?_)
       ·(try dsimp only)
        exact ⟨cell_later ((Below.refl _ _).alloc (Nat.le_refl _) _) k0_28, cell_later ((Below.refl _ _).alloc (Nat.le_refl _) _) k1_28⟩
       clear hK K hHeld
       have hHeld := hHeld'
       clear hHeld'
       (try simp only [Act.put, List.setIfInBounds_toArray, List.set_cons_zero, List.set_cons_succ])
       obtain ⟨v34, hU34⟩ : ∃ u, u = v28.alloc (.cells #[.slice none 0 0] 63) := ⟨_, rfl⟩
       have hb34 : Below v28.heap.size v28 v34 := by rw [hU34]; exact (Below.refl _ _).alloc (Nat.le_refl _) _
       have n34 : v34.heap[v28.heap.size]? = some (.cells #[.slice none 0 0] 63 (0, 0)) := by rw [hU34]; exact heap_alloc_new _ _
       rw [← hU34]
       clear hU34
       have nlt := (Array.getElem?_eq_some_iff.1 n28).1
       have k0_34 := cell_later hb34 k0_28
       have k1_34 := cell_later hb34 k1_28
       have Y34 := Y28.trans (hb34.mono Y28.size)
       have HA_34 := HA_28.below hb34
       have HB_34 := HB_28.below hb34
       have X_34 := X_28.below hb34
       have p7_34 := (hb34.block (v2.heap.size) (Array.getElem?_eq_some_iff.1 n28).1).trans n28
       clear hb34
       refine wpAnyH_ready (rs := [4]) (by kernel_rfl) (by simp) ?_
       refine AllReadyH.cons (o := ?_) ?_ (fun K hK => ?_) AllReadyH.nil
       rotate_left
       ·(simp only [List.getElem?_toArray, List.getElem?_cons_zero, List.getElem?_cons_succ]; rfl)
       go_simp
       go_at_call 53
       refine (runningSums_any _ _ _ q' g _ _ hn HLg.out HB_34).mono ?_
       rintro e v35 ⟨r35, d35, bs35, rfl, ho35, hb35⟩
       have k0_35 := cell_later hb35 k0_34
       have k1_35 := cell_later hb35 k1_34
       have Y35 := Y34.trans (hb35.mono Y34.size)
       have HA_35 := HA_34.below hb35
       have HB_35 := HB_34.below hb35
       have X_35 := X_34.below hb35
       have p7_35 := (hb35.block (v2.heap.size) (Array.getElem?_eq_some_iff.1 p7_34).1).trans p7_34
       have p6_35 := (hb35.block (v28.heap.size) (Array.getElem?_eq_some_iff.1 n34).1).trans n34
       have Q35 := ho35.atC
       clear ho35 hb35
       (try go_wp2_with fail)
       refine hK.out _ _ ?_ (fun hHeld' => ?_)
       ·(try dsimp only)
        exact ⟨k0_35, k1_35⟩
       clear hK K hHeld
       have hHeld := hHeld'
       clear hHeld'
       (try simp only [Act.put, List.setIfInBounds_toArray, List.set_cons_zero, List.set_cons_succ])
       refine wpAnyH_ready (rs := [5]) (by kernel_rfl) (by simp) ?_
       refine AllReadyH.cons (o := ?_) ?_ (fun K hK => ?_) AllReadyH.nil
       rotate_left
       ·(simp only [List.getElem?_toArray, List.getElem?_cons_zero, List.getElem?_cons_succ]; rfl)
       go_simp
       go_at_call 52
       refine (delayed_any _ _ _ q' 720 _ _ _ hn Q35).mono ?_
       rintro e v36 ⟨r36, d36, bs36, rfl, ho36, hb36⟩
       rw [prevK_sumK] at ho36
       have k0_36 := cell_later hb36 k0_35
       have k1_36 := cell_later hb36 k1_35
       have Y36 := Y35.trans (hb36.mono Y35.size)
       have HA_36 := HA_35.below hb36
       have HB_36 := HB_35.below hb36
       have X_36 := X_35.below hb36
       have p7_36 := (hb36.block (v2.heap.size) (Array.getElem?_eq_some_iff.1 p7_35).1).trans p7_35
       have p6_36 := (hb36.block (v28.heap.size) (Array.getElem?_eq_some_iff.1 p6_35).1).trans p6_35
       have Q36 := ho36.atC
       clear ho36 hb36
       (try go_wp2_with fail)
       refine hK.out _ _ ?_ (fun hHeld' => ?_)
       ·(try dsimp only)
        exact ⟨k0_36, k1_36⟩
       clear hK K hHeld
       have hHeld := hHeld'
       clear hHeld'
       (try simp only [Act.put, List.setIfInBounds_toArray, List.set_cons_zero, List.set_cons_succ])
       have e6 : v36.cell? ⟨v28.heap.size, 0, none⟩ = some (.slice none 0 0) := by rw [cell_of_row _ _ 0 _ _ (0, 0) p6_36]; rfl
       have g6 : v36.frozen? ⟨v28.heap.size, 0, none⟩ = false := frozen_of_row _ _ 0 _ _ p6_36
       have lt6 : W.heap.size ≤ v28.heap.size := Y28.size
       have lt7 : W.heap.size ≤ v2.heap.size := Y2.size
       have m7 : (v36.setCell ⟨v28.heap.size, 0, none⟩ (.slice r2 n d2)).heap[v2.heap.size]? = some (.cells #[.slice none 0 0] 63 (0, 0)) := (Below.heap_setCell _ ⟨v28.heap.size, 0, none⟩ _ _ (Nat.ne_of_lt nlt)).trans p7_36
       have e7 : (v36.setCell ⟨v28.heap.size, 0, none⟩ (.slice r2 n d2)).cell? ⟨v2.heap.size, 0, none⟩ = some (.slice none 0 0) := by rw [cell_of_row _ _ 0 _ _ (0, 0) m7]; rfl
       have g7 : (v36.setCell ⟨v28.heap.size, 0, none⟩ (.slice r2 n d2)).frozen? ⟨v2.heap.size, 0, none⟩ = false := frozen_of_row _ _ 0 _ _ m7
       refine wpAnyH_ready (rs := [8]) (by kernel_rfl) (by simp) ?_
       refine AllReadyH.cons (o := ?_) ?_ (fun K hK => ?_) AllReadyH.nil
       rotate_left
       ·(simp only [List.getElem?_toArray, List.getElem?_cons_zero, List.getElem?_cons_succ]; rfl)
       go_simp
       skip
       (try go_wp2_with fail)
       refine hK.out _ _ ?_ (fun hHeld' => ?_)
       ·(try dsimp only)
        exact ⟨keep_far k0_36 (by omega), keep_far k1_36 (by omega)⟩
       clear hK K hHeld
       have hHeld := hHeld'
       clear hHeld'
       (try simp only [Act.put, List.setIfInBounds_toArray, List.set_cons_zero, List.set_cons_succ])
       refine wpAnyH_ready (rs := [9]) (by kernel_rfl) (by simp) ?_
       refine AllReadyH.cons (o := ?_) ?_ (fun K hK => ?_) AllReadyH.nil
       rotate_left
       ·(simp only [List.getElem?_toArray, List.getElem?_cons_zero, List.getElem?_cons_succ]; rfl)
       go_simp
       skip
       (try go_wp2_with fail)
       refine hK.out _ _ ?_ (fun hHeld' => ?_)
       ·(try dsimp only)
        exact ⟨keep_far (keep_far k0_36 (by omega)) (by omega), keep_far (keep_far k1_36 (by omega)) (by omega)⟩
       clear hK K hHeld
       have hHeld := hHeld'
       clear hHeld'
       (try simp only [Act.put, List.setIfInBounds_toArray, List.set_cons_zero, List.set_cons_succ])
       refine wpAnyH_done (by kernel_rfl) ?_ _
       (try go_wp2_with fail)
       go_meet
       case rel =>
        exact ⟨v28.heap.size, v2.heap.size, r2, r36, d2, d36, bs2, bs36, rfl, rfl, keep_far (cell_set e6 _) (Nat.ne_of_gt nlt), cell_set e7 _, (X_36.box p6_36 (fun _ h => by cases h) _).box m7 (fun _ h => by cases h) _, (Q36.box p6_36 (fun _ h => by cases h) _).box m7 (fun _ h => by cases h) _, (Y36.setCell lt6 _).setCell lt7 _⟩
    refine AllReadyH.cons (o := ?_) ?_ (fun K hK => ?_) ?_
    rotate_left
    ·(simp only [List.getElem?_toArray, List.getElem?_cons_zero, List.getElem?_cons_succ]; rfl)
    ·go_simp
     (try go_wp2_with fail)
     refine hK.out _ _ ?_ (fun hHeld' => ?_)
     ·(try dsimp only)
      exact ⟨cell_later ((Below.refl _ _).alloc (Nat.le_refl _) _) k0_1, cell_later ((Below.refl _ _).alloc (Nat.le_refl _) _) k1_1⟩
     clear hK K hHeld
     have hHeld := hHeld'
     clear hHeld'
     (try simp only [Act.put, List.setIfInBounds_toArray, List.set_cons_zero, List.set_cons_succ])
     obtain ⟨v37, hU37⟩ : ∃ u, u = v1.alloc (.cells #[.slice none 0 0] 63) := ⟨_, rfl⟩
     have hb37 : Below v1.heap.size v1 v37 := by rw [hU37]; exact (Below.refl _ _).alloc (Nat.le_refl _) _
     have n37 : v37.heap[v1.heap.size]? = some (.cells #[.slice none 0 0] 63 (0, 0)) := by rw [hU37]; exact heap_alloc_new _ _
     rw [← hU37]
     clear hU37
     have k0_37 := cell_later hb37 k0_1
     have k1_37 := cell_later hb37 k1_1
     have Y37 := Y1.trans (hb37.mono Y1.size)
     have HA_37 := HA_1.below hb37
     have HB_37 := HB_1.below hb37
     have R_37 := Q1.below hb37
     clear hb37
     refine wpAnyH_ready (rs := [2, 7]) (by kernel_rfl) (by simp) ?_
     refine AllReadyH.cons (o := ?_) ?_ (fun K hK => ?_) ?_
     rotate_left
     ·(simp only [List.getElem?_toArray, List.getElem?_cons_zero, List.getElem?_cons_succ]; rfl)
     ·go_simp
      go_at_call 52
      refine (delayed_any _ _ _ q 720 _ _ _ hn R_37).mono ?_
      rintro e v38 ⟨r38, d38, bs38, rfl, ho38, hb38⟩
      rw [prevK_sumK] at ho38
      have k0_38 := cell_later hb38 k0_37
      have k1_38 := cell_later hb38 k1_37
      have Y38 := Y37.trans (hb38.mono Y37.size)
      have HA_38 := HA_37.below hb38
      have HB_38 := HB_37.below hb38
      have p6_38 := (hb38.block (v1.heap.size) (Array.getElem?_eq_some_iff.1 n37).1).trans n37
      have Q38 := ho38.atC
      clear ho38 hb38
      (try go_wp2_with fail)
      refine hK.out _ _ ?_ (fun hHeld' => ?_)
      ·(try dsimp only)
       exact ⟨k0_38, k1_38⟩
      clear hK K hHeld
      have hHeld := hHeld'
      clear hHeld'
      (try simp only [Act.put, List.setIfInBounds_toArray, List.set_cons_zero, List.set_cons_succ])
      refine wpAnyH_ready (rs := [4, 7]) (by kernel_rfl) (by simp) ?_
      refine AllReadyH.cons (o := ?_) ?_ (fun K hK => ?_) ?_
      rotate_left
      ·(simp only [List.getElem?_toArray, List.getElem?_cons_zero, List.getElem?_cons_succ]; rfl)
      ·go_simp
       go_at_call 53
       refine (runningSums_any _ _ _ q' g _ _ hn HLg.out HB_38).mono ?_
       rintro e v39 ⟨r39, d39, bs39, rfl, ho39, hb39⟩
       have k0_39 := cell_later hb39 k0_38
       have k1_39 := cell_later hb39 k1_38
       have Y39 := Y38.trans (hb39.mono Y38.size)
       have HA_39 := HA_38.below hb39
       have HB_39 := HB_38.below hb39
       have X_39 := Q38.below hb39
       have p6_39 := (hb39.block (v1.heap.size) (Array.getElem?_eq_some_iff.1 p6_38).1).trans p6_38
       have Q39 := ho39.atC
       clear ho39 hb39
       (try go_wp2_with fail)
       refine hK.out _ _ ?_ (fun hHeld' => ?_)
       ·(try dsimp only)
        exact ⟨k0_39, k1_39⟩
       clear hK K hHeld
       have hHeld := hHeld'
       clear hHeld'
       (try simp only [Act.put, List.setIfInBounds_toArray, List.set_cons_zero, List.set_cons_succ])
       refine wpAnyH_ready (rs := [5, 7]) (by kernel_rfl) (by simp) ?_
       refine AllReadyH.cons (o := ?_) ?_ (fun K hK => ?_) ?_
       rotate_left
       ·(simp only [List.getElem?_toArray, List.getElem?_cons_zero, List.getElem?_cons_succ]; rfl)
       ·go_simp
        go_at_call 52
        refine (delayed_any _ _ _ q' 720 _ _ _ hn Q39).mono ?_
        rintro e v40 ⟨r40, d40, bs40, rfl, ho40, hb40⟩
        rw [prevK_sumK] at ho40
        have k0_40 := cell_later hb40 k0_39
        have k1_40 := cell_later hb40 k1_39
        have Y40 := Y39.trans (hb40.mono Y39.size)
        have HA_40 := HA_39.below hb40
        have HB_40 := HB_39.below hb40
        have X_40 := X_39.below hb40
        have p6_40 := (hb40.block (v1.heap.size) (Array.getElem?_eq_some_iff.1 p6_39).1).trans p6_39
        have Q40 := ho40.atC
        clear ho40 hb40
        (try go_wp2_with fail)
        refine hK.out _ _ ?_ (fun hHeld' => ?_)
        ·(try dsimp only)
         exact ⟨k0_40, k1_40⟩
        clear hK K hHeld
        have hHeld := hHeld'
        clear hHeld'
        (try simp only [Act.put, List.setIfInBounds_toArray, List.set_cons_zero, List.set_cons_succ])
        refine wpAnyH_ready (rs := [7]) (by kernel_rfl) (by simp) ?_
        refine AllReadyH.cons (o := ?_) ?_ (fun K hK => ?_) AllReadyH.nil
        rotate_left
        ·(simp only [List.getElem?_toArray, List.getElem?_cons_zero, List.getElem?_cons_succ]; rfl)
        go_simp
        (try go_wp2_with fail)
        refine hK.out _ _ ?_ (fun hHeld' => ?_)
        ·(try dsimp only)
         exact ⟨cell_later ((Below.refl _ _).alloc (Nat.le_refl _) _) k0_40, cell_later ((Below.refl _ _).alloc (Nat.le_refl _) _) k1_40⟩
        clear hK K hHeld
        have hHeld := hHeld'
        clear hHeld'
        (try simp only [Act.put, List.setIfInBounds_toArray, List.set_cons_zero, List.set_cons_succ])
        obtain ⟨v41, hU41⟩ : ∃ u, u = v40.alloc (.cells #[.slice none 0 0] 63) := ⟨_, rfl⟩
        have hb41 : Below v40.heap.size v40 v41 := by rw [hU41]; exact (Below.refl _ _).alloc (Nat.le_refl _) _
        have n41 : v41.heap[v40.heap.size]? = some (.cells #[.slice none 0 0] 63 (0, 0)) := by rw [hU41]; exact heap_alloc_new _ _
        rw [← hU41]
        clear hU41
        have nlt := (Array.getElem?_eq_some_iff.1 p6_40).1
        have k0_41 := cell_later hb41 k0_40
        have k1_41 := cell_later hb41 k1_40
        have Y41 := Y40.trans (hb41.mono Y40.size)
        have HA_41 := HA_40.below hb41
        have HB_41 := HB_40.below hb41
        have X_41 := X_40.below hb41
        have Z_41 := Q40.below hb41
        have p6_41 := (hb41.block (v1.heap.size) (Array.getElem?_eq_some_iff.1 p6_40).1).trans p6_40
        clear hb41
        have e6 : v41.cell? ⟨v1.heap.size, 0, none⟩ = some (.slice none 0 0) := by rw [cell_of_row _ _ 0 _ _ (0, 0) p6_41]; rfl
        have g6 : v41.frozen? ⟨v1.heap.size, 0, none⟩ = false := frozen_of_row _ _ 0 _ _ p6_41
        have lt6 : W.heap.size ≤ v1.heap.size := Y1.size
        have lt7 : W.heap.size ≤ v40.heap.size := Y40.size
        have m7 : (v41.setCell ⟨v1.heap.size, 0, none⟩ (.slice r38 n d38)).heap[v40.heap.size]? = some (.cells #[.slice none 0 0] 63 (0, 0)) := (Below.heap_setCell _ ⟨v1.heap.size, 0, none⟩ _ _ (Nat.ne_of_gt nlt)).trans n41
        have e7 : (v41.setCell ⟨v1.heap.size, 0, none⟩ (.slice r38 n d38)).cell? ⟨v40.heap.size, 0, none⟩ = some (.slice none 0 0) := by rw [cell_of_row _ _ 0 _ _ (0, 0) m7]; rfl
        have g7 : (v41.setCell ⟨v1.heap.size, 0, none⟩ (.slice r38 n d38)).frozen? ⟨v40.heap.size, 0, none⟩ = false := frozen_of_row _ _ 0 _ _ m7
        refine wpAnyH_ready (rs := [8]) (by kernel_rfl) (by simp) ?_
        refine AllReadyH.cons (o := ?_) ?_ (fun K hK => ?_) AllReadyH.nil
        rotate_left
        ·(simp only [List.getElem?_toArray, List.getElem?_cons_zero, List.getElem?_cons_succ]; rfl)
        go_simp
        skip
        (try go_wp2_with fail)
        refine hK.out _ _ ?_ (fun hHeld' => ?_)
        ·(try dsimp only)
         exact ⟨keep_far k0_41 (by omega), keep_far k1_41 (by omega)⟩
        clear hK K hHeld
        have hHeld := hHeld'
        clear hHeld'
        (try simp only [Act.put, List.setIfInBounds_toArray, List.set_cons_zero, List.set_cons_succ])
        refine wpAnyH_ready (rs := [9]) (by kernel_rfl) (by simp) ?_
        refine AllReadyH.cons (o := ?_) ?_ (fun K hK => ?_) AllReadyH.nil
        rotate_left
        ·(simp only [List.getElem?_toArray, List.getElem?_cons_zero, List.getElem?_cons_succ]; rfl)
        go_simp
        skip
        (try go_wp2_with fail)
        refine hK.out _ _ ?_ (fun hHeld' => ?_)
        ·(try dsimp only)
         exact ⟨keep_far (keep_far k0_41 (by omega)) (by omega), keep_far (keep_far k1_41 (by omega)) (by omega)⟩
        clear hK K hHeld
        have hHeld := hHeld'
        clear hHeld'
        (try simp only [Act.put, List.setIfInBounds_toArray, List.set_cons_zero, List.set_cons_succ])
        refine wpAnyH_done (by kernel_rfl) ?_ _
        (try go_wp2_with fail)
        go_meet
        case rel =>
         exact ⟨v1.heap.size, v40.heap.size, r38, r40, d38, d40, bs38, bs40, rfl, rfl, keep_far (cell_set e6 _) (Nat.ne_of_lt nlt), cell_set e7 _, (X_41.box p6_41 (fun _ h => by cases h) _).box m7 (fun _ h => by cases h) _, (Z_41.box p6_41 (fun _ h => by cases h) _).box m7 (fun _ h => by cases h) _, (Y41.setCell lt6 _).setCell lt7 _⟩
       refine AllReadyH.cons (o := ?_) ?_ (fun K hK => ?_) AllReadyH.nil
       rotate_left
       ·(simp only [List.getElem?_toArray, List.getElem?_cons_zero, List.getElem?_cons_succ]; rfl)
       ·go_simp
        (try go_wp2_with fail)
        refine hK.out _ _ ?_ (fun hHeld' => ?_)
        ·(try dsimp only)
         exact ⟨cell_later ((Below.refl _ _).alloc (Nat.le_refl _) _) k0_39, cell_later ((Below.refl _ _).alloc (Nat.le_refl _) _) k1_39⟩
        clear hK K hHeld
        have hHeld := hHeld'
        clear hHeld'
        (try simp only [Act.put, List.setIfInBounds_toArray, List.set_cons_zero, List.set_cons_succ])
        obtain ⟨v42, hU42⟩ : ∃ u, u = v39.alloc (.cells #[.slice none 0 0] 63) := ⟨_, rfl⟩
        have hb42 : Below v39.heap.size v39 v42 := by rw [hU42]; exact (Below.refl _ _).alloc (Nat.le_refl _) _
        have n42 : v42.heap[v39.heap.size]? = some (.cells #[.slice none 0 0] 63 (0, 0)) := by rw [hU42]; exact heap_alloc_new _ _
        rw [← hU42]
        clear hU42
        have nlt := (Array.getElem?_eq_some_iff.1 p6_39).1
        have k0_42 := cell_later hb42 k0_39
        have k1_42 := cell_later hb42 k1_39
        have Y42 := Y39.trans (hb42.mono Y39.size)
        have HA_42 := HA_39.below hb42
        have HB_42 := HB_39.below hb42
        have X_42 := X_39.below hb42
        have R_42 := Q39.below hb42
        have p6_42 := (hb42.block (v1.heap.size) (Array.getElem?_eq_some_iff.1 p6_39).1).trans p6_39
        clear hb42
        refine wpAnyH_ready (rs := [5]) (by kernel_rfl) (by simp) ?_
        refine AllReadyH.cons (o := ?_) ?_ (fun K hK => ?_) AllReadyH.nil
        rotate_left
        ·(simp only [List.getElem?_toArray, List.getElem?_cons_zero, List.getElem?_cons_succ]; rfl)
        go_simp
        go_at_call 52
        refine (delayed_any _ _ _ q' 720 _ _ _ hn R_42).mono ?_
        rintro e v43 ⟨r43, d43, bs43, rfl, ho43, hb43⟩
        rw [prevK_sumK] at ho43
        have k0_43 := cell_later hb43 k0_42
        have k1_43 := cell_later hb43 k1_42
        have Y43 := Y42.trans (hb43.mono Y42.size)
        have HA_43 := HA_42.below hb43
        have HB_43 := HB_42.below hb43
        have X_43 := X_42.below hb43
        have p6_43 := (hb43.block (v1.heap.size) (Array.getElem?_eq_some_iff.1 p6_42).1).trans p6_42
        have p7_43 := (hb43.block (v39.heap.size) (Array.getElem?_eq_some_iff.1 n42).1).trans n42
        have Q43 := ho43.atC
        clear ho43 hb43
        (try go_wp2_with fail)
        refine hK.out _ _ ?_ (fun hHeld' => ?_)
        ·(try dsimp only)
         exact ⟨k0_43, k1_43⟩
        clear hK K hHeld
        have hHeld := hHeld'
        clear hHeld'
        (try simp only [Act.put, List.setIfInBounds_toArray, List.set_cons_zero, List.set_cons_succ])
        have e6 : v43.cell? ⟨v1.heap.size, 0, none⟩ = some (.slice none 0 0) := by rw [cell_of_row _ _ 0 _ _ (0, 0) p6_43]; rfl
        have g6 : v43.frozen? ⟨v1.heap.size, 0, none⟩ = false := frozen_of_row _ _ 0 _ _ p6_43
        have lt6 : W.heap.size ≤ v1.heap.size := Y1.size
        have lt7 : W.heap.size ≤ v39.heap.size := Y39.size
        have m7 : (v43.setCell ⟨v1.heap.size, 0, none⟩ (.slice r38 n d38)).heap[v39.heap.size]? = some (.cells #[.slice none 0 0] 63 (0, 0)) := (Below.heap_setCell _ ⟨v1.heap.size, 0, none⟩ _ _ (Nat.ne_of_gt nlt)).trans p7_43
        have e7 : (v43.setCell ⟨v1.heap.size, 0, none⟩ (.slice r38 n d38)).cell? ⟨v39.heap.size, 0, none⟩ = some (.slice none 0 0) := by rw [cell_of_row _ _ 0 _ _ (0, 0) m7]; rfl
        have g7 : (v43.setCell ⟨v1.heap.size, 0, none⟩ (.slice r38 n d38)).frozen? ⟨v39.heap.size, 0, none⟩ = false := frozen_of_row _ _ 0 _ _ m7
        refine wpAnyH_ready (rs := [8]) (by kernel_rfl) (by simp) ?_
        refine AllReadyH.cons (o := ?_) ?_ (fun K hK => ?_) AllReadyH.nil
        rotate_left
        ·(simp only [List.getElem?_toArray, List.getElem?_cons_zero, List.getElem?_cons_succ]; rfl)
        go_simp
        skip
        (try go_wp2_with fail)
        refine hK.out _ _ ?_ (fun hHeld' => ?_)
        ·(try dsimp only)
         exact ⟨keep_far k0_43 (by omega), keep_far k1_43 (by omega)⟩
        clear hK K hHeld
        have hHeld := hHeld'
        clear hHeld'
        (try simp only [Act.put, List.setIfInBounds_toArray, List.set_cons_zero, List.set_cons_succ])
        refine wpAnyH_ready (rs := [9]) (by kernel_rfl) (by simp) ?_
        refine AllReadyH.cons (o := ?_) ?_ (fun K hK => ?_) AllReadyH.nil
        rotate_left
        ·(simp only [List.getElem?_toArray, List.getElem?_cons_zero, List.getElem?_cons_succ]; rfl)
        go_simp
        skip
        (try go_wp2_with fail)
        refine hK.out _ _ ?_ (fun hHeld' => ?_)
        ·(try dsimp only)
         exact ⟨keep_far (keep_far k0_43 (by omega)) (by omega), keep_far (keep_far k1_43 (by omega)) (by omega)⟩
        clear hK K hHeld
        have hHeld := hHeld'
        clear hHeld'
        (try simp only [Act.put, List.setIfInBounds_toArray, List.set_cons_zero, List.set_cons_succ])
        refine wpAnyH_done (by kernel_rfl) ?_ _
        (try go_wp2_with fail)
        go_meet
        case rel =>
         exact ⟨v1.heap.size, v39.heap.size, r38, r43, d38, d43, bs38, bs43, rfl, rfl, keep_far (cell_set e6 _) (Nat.ne_of_lt nlt), cell_set e7 _, (X_43.box p6_43 (fun _ h => by cases h) _).box m7 (fun _ h => by cases h) _, (Q43.box p6_43 (fun _ h => by cases h) _).box m7 (fun _ h => by cases h) _, (Y43.setCell lt6 _).setCell lt7 _⟩
      refine AllReadyH.cons (o := ?_) ?_ (fun K hK => ?_) AllReadyH.nil
      rotate_left
      ·(simp only [List.getElem?_toArray, List.getElem?_cons_zero, List.getElem?_cons_succ]; rfl)
      ·go_simp
       (try go_wp2_with fail)
       refine hK.out _ _ ?_ (fun hHeld' => ?_)
       ·(try dsimp only)
        exact ⟨cell_later ((Below.refl _ _).alloc (Nat.le_refl _) _) k0_38, cell_later ((Below.refl _ _).alloc (Nat.le_refl _) _) k1_38⟩
       clear hK K hHeld
       have hHeld := hHeld'
       clear hHeld'
       (try simp only [Act.put, List.setIfInBounds_toArray, List.set_cons_zero, List.set_cons_succ])
       obtain ⟨v44, hU44⟩ : ∃ u, u = v38.alloc (.cells #[.slice none 0 0] 63) := ⟨_, rfl⟩
       have hb44 : Below v38.heap.size v38 v44 := by rw [hU44]; exact (Below.refl _ _).alloc (Nat.le_refl _) _
       have n44 : v44.heap[v38.heap.size]? = some (.cells #[.slice none 0 0] 63 (0, 0)) := by rw [hU44]; exact heap_alloc_new _ _
       rw [← hU44]
       clear hU44
       have nlt := (Array.getElem?_eq_some_iff.1 p6_38).1
       have k0_44 := cell_later hb44 k0_38
       have k1_44 := cell_later hb44 k1_38
       have Y44 := Y38.trans (hb44.mono Y38.size)
       have HA_44 := HA_38.below hb44
       have HB_44 := HB_38.below hb44
       have X_44 := Q38.below hb44
       have p6_44 := (hb44.block (v1.heap.size) (Array.getElem?_eq_some_iff.1 p6_38).1).trans p6_38
       clear hb44
       refine wpAnyH_ready (rs := [4]) (by kernel_rfl) (by simp) ?_
       refine AllReadyH.cons (o := ?_) ?_ (fun K hK => ?_) AllReadyH.nil
       rotate_left
       ·(simp only [List.getElem?_toArray, List.getElem?_cons_zero, List.getElem?_cons_succ]; rfl)
       go_simp
       go_at_call 53
       refine (runningSums_any _ _ _ q' g _ _ hn HLg.out HB_44).mono ?_
       rintro e v45 ⟨r45, d45, bs45, rfl, ho45, hb45⟩
       have k0_45 := cell_later hb45 k0_44
       have k1_45 := cell_later hb45 k1_44
       have Y45 := Y44.trans (hb45.mono Y44.size)
       have HA_45 := HA_44.below hb45
       have HB_45 := HB_44.below hb45
       have X_45 := X_44.below hb45
       have p6_45 := (hb45.block (v1.heap.size) (Array.getElem?_eq_some_iff.1 p6_44).1).trans p6_44
       have p7_45 := (hb45.block (v38.heap.size) (Array.getElem?_eq_some_iff.1 n44).1).trans n44
       have Q45 := ho45.atC
       clear ho45 hb45
       (try go_wp2_with fail)
       refine hK.out _ _ ?_ (fun hHeld' => ?_)
       ·(try dsimp only)
        exact ⟨k0_45, k1_45⟩
       clear hK K hHeld
       have hHeld := hHeld'
       clear hHeld'
       (try simp only [Act.put, List.setIfInBounds_toArray, List.set_cons_zero, List.set_cons_succ])
       refine wpAnyH_ready (rs := [5]) (by kernel_rfl) (by simp) ?_
       refine AllReadyH.cons (o := ?_) ?_ (fun K hK => ?_) AllReadyH.nil
       rotate_left
       ·(simp only [List.getElem?_toArray, List.getElem?_cons_zero, List.getElem?_cons_succ]; rfl)
       go_simp
       go_at_call 52
       refine (delayed_any _ _ _ q' 720 _ _ _ hn Q45).mono ?_
       rintro e v46 ⟨r46, d46, bs46, rfl, ho46, hb46⟩
       rw [prevK_sumK] at ho46
       have k0_46 := cell_later hb46 k0_45
       have k1_46 := cell_later hb46 k1_45
       have Y46 := Y45.trans (hb46.mono Y45.size)
       have HA_46 := HA_45.below hb46
       have HB_46 := HB_45.below hb46
       have X_46 := X_45.below hb46
       have p6_46 := (hb46.block (v1.heap.size) (Array.getElem?_eq_some_iff.1 p6_45).1).trans p6_45
       have p7_46 := (hb46.block (v38.heap.size) (Array.getElem?_eq_some_iff.1 p7_45).1).trans p7_45
       have Q46 := ho46.atC
       clear ho46 hb46
       (try go_wp2_with fail)
       refine hK.out _ _ ?_ (fun hHeld' => ?_)
       ·(try dsimp only)
        exact ⟨k0_46, k1_46⟩
       clear hK K hHeld
       have hHeld := hHeld'
       clear hHeld'
       (try simp only [Act.put, List.setIfInBounds_toArray, List.set_cons_zero, List.set_cons_succ])
       have e6 : v46.cell? ⟨v1.heap.size, 0, none⟩ = some (.slice none 0 0) := by rw [cell_of_row _ _ 0 _ _ (0, 0) p6_46]; rfl
       have g6 : v46.frozen? ⟨v1.heap.size, 0, none⟩ = false := frozen_of_row _ _ 0 _ _ p6_46
       have lt6 : W.heap.size ≤ v1.heap.size := Y1.size
       have lt7 : W.heap.size ≤ v38.heap.size := Y38.size
       have m7 : (v46.setCell ⟨v1.heap.size, 0, none⟩ (.slice r38 n d38)).heap[v38.heap.size]? = some (.cells #[.slice none 0 0] 63 (0, 0)) := (Below.heap_setCell _ ⟨v1.heap.size, 0, none⟩ _ _ (Nat.ne_of_gt nlt)).trans p7_46
       have e7 : (v46.setCell ⟨v1.heap.size, 0, none⟩ (.slice r38 n d38)).cell? ⟨v38.heap.size, 0, none⟩ = some (.slice none 0 0) := by rw [cell_of_row _ _ 0 _ _ (0, 0) m7]; rfl
       have g7 : (v46.setCell ⟨v1.heap.size, 0, none⟩ (.slice r38 n d38)).frozen? ⟨v38.heap.size, 0, none⟩ = false := frozen_of_row _ _ 0 _ _ m7
       refine wpAnyH_ready (rs := [8]) (by kernel_rfl) (by simp) ?_
       refine AllReadyH.cons (o := ?_) ?_ (fun K hK => ?_) AllReadyH.nil
       rotate_left
       ·(simp only [List.getElem?_toArray, List.getElem?_cons_zero, List.getElem?_cons_succ]; rfl)
       go_simp
       skip
       (try go_wp2_with fail)
       refine hK.out _ _ ?_ (fun hHeld' => ?_)
       ·(try dsimp only)
        exact ⟨keep_far k0_46 (by omega), keep_far k1_46 (by omega)⟩
       clear hK K hHeld
       have hHeld := hHeld'
       clear hHeld'
       (try simp only [Act.put, List.setIfInBounds_toArray, List.set_cons_zero, List.set_cons_succ])
       refine wpAnyH_ready (rs := [9]) (by kernel_rfl) (by simp) ?_
       refine AllReadyH.cons (o := ?_) ?_ (fun K hK => ?_) AllReadyH.nil
       rotate_left
       ·(simp only [List.getElem?_toArray, List.getElem?_cons_zero, List.getElem?_cons_succ]; rfl)
       go_simp
       skip
       (try go_wp2_with fail)
       refine hK.out _ _ ?_ (fun hHeld' => ?_)
       ·(try dsimp only)
        exact ⟨keep_far (keep_far k0_46 (by omega)) (by omega), keep_far (keep_far k1_46 (by omega)) (by omega)⟩
       clear hK K hHeld
       have hHeld := hHeld'
       clear hHeld'
       (try simp only [Act.put, List.setIfInBounds_toArray, List.set_cons_zero, List.set_cons_succ])
       refine wpAnyH_done (by kernel_rfl) ?_ _
       (try go_wp2_with fail)
       go_meet
       case rel =>
        exact ⟨v1.heap.size, v38.heap.size, r38, r46, d38, d46, bs38, bs46, rfl, rfl, keep_far (cell_set e6 _) (Nat.ne_of_lt nlt), cell_set e7 _, (X_46.box p6_46 (fun _ h => by cases h) _).box m7 (fun _ h => by cases h) _, (Q46.box p6_46 (fun _ h => by cases h) _).box m7 (fun _ h => by cases h) _, (Y46.setCell lt6 _).setCell lt7 _⟩
     refine AllReadyH.cons (o := ?_) ?_ (fun K hK => ?_) AllReadyH.nil
     rotate_left
     ·(simp only [List.getElem?_toArray, List.getElem?_cons_zero, List.getElem?_cons_succ]; rfl)
     ·go_simp
      (try go_wp2_with fail)
      refine hK.out _ _ ?_ (fun hHeld' => ?_)
      ·(try dsimp only)
       exact ⟨cell_later ((Below.refl _ _).alloc (Nat.le_refl _) _) k0_37, cell_later ((Below.refl _ _).alloc (Nat.le_refl _) _) k1_37⟩
      clear hK K hHeld
      have hHeld := hHeld'
      clear hHeld'
      (try simp only [Act.put, List.setIfInBounds_toArray, List.set_cons_zero, List.set_cons_succ])
      obtain ⟨v47, hU47⟩ : ∃ u, u = v37.alloc (.cells #[.slice none 0 0] 63) := ⟨_, rfl⟩
      have hb47 : Below v37.heap.size v37 v47 := by rw [hU47]; exact (Below.refl _ _).alloc (Nat.le_refl _) _
      have n47 : v47.heap[v37.heap.size]? = some (.cells #[.slice none 0 0] 63 (0, 0)) := by rw [hU47]; exact heap_alloc_new _ _
      rw [← hU47]
      clear hU47
      have nlt := (Array.getElem?_eq_some_iff.1 n37).1
      have k0_47 := cell_later hb47 k0_37
      have k1_47 := cell_later hb47 k1_37
      have Y47 := Y37.trans (hb47.mono Y37.size)
      have HA_47 := HA_37.below hb47
      have HB_47 := HB_37.below hb47
      have R_47 := R_37.below hb47
      have p6_47 := (hb47.block (v1.heap.size) (Array.getElem?_eq_some_iff.1 n37).1).trans n37
      clear hb47
      refine wpAnyH_ready (rs := [2]) (by kernel_rfl) (by simp) ?_
      refine AllReadyH.cons (o := ?_) ?_ (fun K hK => ?_) AllReadyH.nil
      rotate_left
      ·(simp only [List.getElem?_toArray, List.getElem?_cons_zero, List.getElem?_cons_succ]; rfl)
      go_simp
      go_at_call 52
      refine (delayed_any _ _ _ q 720 _ _ _ hn R_47).mono ?_
      rintro e v48 ⟨r48, d48, bs48, rfl, ho48, hb48⟩
      rw [prevK_sumK] at ho48
      have k0_48 := cell_later hb48 k0_47
      have k1_48 := cell_later hb48 k1_47
      have Y48 := Y47.trans (hb48.mono Y47.size)
      have HA_48 := HA_47.below hb48
      have HB_48 := HB_47.below hb48
      have p6_48 := (hb48.block (v1.heap.size) (Array.getElem?_eq_some_iff.1 p6_47).1).trans p6_47
      have p7_48 := (hb48.block (v37.heap.size) (Array.getElem?_eq_some_iff.1 n47).1).trans n47
      have Q48 := ho48.atC
      clear ho48 hb48
      (try go_wp2_with fail)
      refine hK.out _ _ ?_ (fun hHeld' => ?_)
      ·(try dsimp only)
       exact ⟨k0_48, k1_48⟩
      clear hK K hHeld
      have hHeld := hHeld'
      clear hHeld'
      (try simp only [Act.put, List.setIfInBounds_toArray, List.set_cons_zero, List.set_cons_succ])
      refine wpAnyH_ready (rs := [4]) (by kernel_rfl) (by simp) ?_
      refine AllReadyH.cons (o := ?_) ?_ (fun K hK => ?_) AllReadyH.nil
      rotate_left
      ·(simp only [List.getElem?_toArray, List.getElem?_cons_zero, List.getElem?_cons_succ]; rfl)
      go_simp
      go_at_call 53
      refine (runningSums_any _ _ _ q' g _ _ hn HLg.out HB_48).mono ?_
      rintro e v49 ⟨r49, d49, bs49, rfl, ho49, hb49⟩
      have k0_49 := cell_later hb49 k0_48
      have k1_49 := cell_later hb49 k1_48
      have Y49 := Y48.trans (hb49.mono Y48.size)
      have HA_49 := HA_48.below hb49
      have HB_49 := HB_48.below hb49
      have X_49 := Q48.below hb49
      have p6_49 := (hb49.block (v1.heap.size) (Array.getElem?_eq_some_iff.1 p6_48).1).trans p6_48
      have p7_49 := (hb49.block (v37.heap.size) (Array.getElem?_eq_some_iff.1 p7_48).1).trans p7_48
      have Q49 := ho49.atC
      clear ho49 hb49
      (try go_wp2_with fail)
      refine hK.out _ _ ?_ (fun hHeld' => ?_)
      ·(try dsimp only)
       exact ⟨k0_49, k1_49⟩
      clear hK K hHeld
      have hHeld := hHeld'
      clear hHeld'
      (try simp only [Act.put, List.setIfInBounds_toArray, List.set_cons_zero, List.set_cons_succ])
      refine wpAnyH_ready (rs := [5]) (by kernel_rfl) (by simp) ?_
      refine AllReadyH.cons (o := ?_) ?_ (fun K hK => ?_) AllReadyH.nil
      rotate_left
      ·(simp only [List.getElem?_toArray, List.getElem?_cons_zero, List.getElem?_cons_succ]; rfl)
      go_simp
      go_at_call 52
      refine (delayed_any _ _ _ q' 720 _ _ _ hn Q49).mono ?_
      rintro e v50 ⟨r50, d50, bs50, rfl, ho50, hb50⟩
      rw [prevK_sumK] at ho50
      have k0_50 := cell_later hb50 k0_49
      have k1_50 := cell_later hb50 k1_49
      have Y50 := Y49.trans (hb50.mono Y49.size)
      have HA_50 := HA_49.below hb50
      have HB_50 := HB_49.below hb50
      have X_50 := X_49.below hb50
      have p6_50 := (hb50.block (v1.heap.size) (Array.getElem?_eq_some_iff.1 p6_49).1).trans p6_49
      have p7_50 := (hb50.block (v37.heap.size) (Array.getElem?_eq_some_iff.1 p7_49).1).trans p7_49
      have Q50 := ho50.atC
      clear ho50 hb50
      (try go_wp2_with fail)
      refine hK.out _ _ ?_ (fun hHeld' => ?_)
      ·(try dsimp only)
       exact ⟨k0_50, k1_50⟩
      clear hK K hHeld
      have hHeld := hHeld'
      clear hHeld'
      (try simp only [Act.put, List.setIfInBounds_toArray, List.set_cons_zero, List.set_cons_succ])
      have e6 : v50.cell? ⟨v1.heap.size, 0, none⟩ = some (.slice none 0 0) := by rw [cell_of_row _ _ 0 _ _ (0, 0) p6_50]; rfl
      have g6 : v50.frozen? ⟨v1.heap.size, 0, none⟩ = false := frozen_of_row _ _ 0 _ _ p6_50
      have lt6 : W.heap.size ≤ v1.heap.size := Y1.size
      have lt7 : W.heap.size ≤ v37.heap.size := Y37.size
      have m7 : (v50.setCell ⟨v1.heap.size, 0, none⟩ (.slice r48 n d48)).heap[v37.heap.size]? = some (.cells #[.slice none 0 0] 63 (0, 0)) := (Below.heap_setCell _ ⟨v1.heap.size, 0, none⟩ _ _ (Nat.ne_of_gt nlt)).trans p7_50
      have e7 : (v50.setCell ⟨v1.heap.size, 0, none⟩ (.slice r48 n d48)).cell? ⟨v37.heap.size, 0, none⟩ = some (.slice none 0 0) := by rw [cell_of_row _ _ 0 _ _ (0, 0) m7]; rfl
      have g7 : (v50.setCell ⟨v1.heap.size, 0, none⟩ (.slice r48 n d48)).frozen? ⟨v37.heap.size, 0, none⟩ = false := frozen_of_row _ _ 0 _ _ m7
      refine wpAnyH_ready (rs := [8]) (by kernel_rfl) (by simp) ?_
      refine AllReadyH.cons (o := ?_) ?_ (fun K hK => ?_) AllReadyH.nil
      rotate_left
      ·(simp only [List.getElem?_toArray, List.getElem?_cons_zero, List.getElem?_cons_succ]; rfl)
      go_simp
      skip
      (try go_wp2_with fail)
      refine hK.out _ _ ?_ (fun hHeld' => ?_)
      ·(try dsimp only)
       exact ⟨keep_far k0_50 (by omega), keep_far k1_50 (by omega)⟩
      clear hK K hHeld
      have hHeld := hHeld'
      clear hHeld'
      (try simp only [Act.put, List.setIfInBounds_toArray, List.set_cons_zero, List.set_cons_succ])
      refine wpAnyH_ready (rs := [9]) (by kernel_rfl) (by simp) ?_
      refine AllReadyH.cons (o := ?_) ?_ (fun K hK => ?_) AllReadyH.nil
      rotate_left
      ·(simp only [List.getElem?_toArray, List.getElem?_cons_zero, List.getElem?_cons_succ]; rfl)
      go_simp
      skip
      (try go_wp2_with fail)
      refine hK.out _ _ ?_ (fun hHeld' => ?_)
      ·(try dsimp only)
       exact ⟨keep_far (keep_far k0_50 (by omega)) (by omega), keep_far (keep_far k1_50 (by omega)) (by omega)⟩
      clear hK K hHeld
      have hHeld := hHeld'
      clear hHeld'
      (try simp only [Act.put, List.setIfInBounds_toArray, List.set_cons_zero, List.set_cons_succ])
      refine wpAnyH_done (by kernel_rfl) ?_ _
      (try go_wp2_with fail)
      go_meet
      case rel =>
       exact ⟨v1.heap.size, v37.heap.size, r48, r50, d48, d50, bs48, bs50, rfl, rfl, keep_far (cell_set e6 _) (Nat.ne_of_lt nlt), cell_set e7 _, (X_50.box p6_50 (fun _ h => by cases h) _).box m7 (fun _ h => by cases h) _, (Q50.box p6_50 (fun _ h => by cases h) _).box m7 (fun _ h => by cases h) _, (Y50.setCell lt6 _).setCell lt7 _⟩
    refine AllReadyH.cons (o := ?_) ?_ (fun K hK => ?_) AllReadyH.nil
    rotate_left
    ·(simp only [List.getElem?_toArray, List.getElem?_cons_zero, List.getElem?_cons_succ]; rfl)
    ·go_simp
     (try go_wp2_with fail)
     refine hK.out _ _ ?_ (fun hHeld' => ?_)
     ·(try dsimp only)
      exact ⟨cell_later ((Below.refl _ _).alloc (Nat.le_refl _) _) k0_1, cell_later ((Below.refl _ _).alloc (Nat.le_refl _) _) k1_1⟩
     clear hK K hHeld
     have hHeld := hHeld'
     clear hHeld'
     (try simp only [Act.put, List.setIfInBounds_toArray, List.set_cons_zero, List.set_cons_succ])
     obtain ⟨v51, hU51⟩ : ∃ u, u = v1.alloc (.cells #[.slice none 0 0] 63) := ⟨_, rfl⟩
     have hb51 : Below v1.heap.size v1 v51 := by rw [hU51]; exact (Below.refl _ _).alloc (Nat.le_refl _) _
     have n51 : v51.heap[v1.heap.size]? = some (.cells #[.slice none 0 0] 63 (0, 0)) := by rw [hU51]; exact heap_alloc_new _ _
     rw [← hU51]
     clear hU51
     have k0_51 := cell_later hb51 k0_1
     have k1_51 := cell_later hb51 k1_1
     have Y51 := Y1.trans (hb51.mono Y1.size)
     have HA_51 := HA_1.below hb51
     have HB_51 := HB_1.below hb51
     have R_51 := Q1.below hb51
     clear hb51
     refine wpAnyH_ready (rs := [2, 6]) (by kernel_rfl) (by simp) ?_
     refine AllReadyH.cons (o := ?_) ?_ (fun K hK => ?_) ?_
     rotate_left
     ·(simp only [List.getElem?_toArray, List.getElem?_cons_zero, List.getElem?_cons_succ]; rfl)
     ·go_simp
      go_at_call 52
      refine (delayed_any _ _ _ q 720 _ _ _ hn R_51).mono ?_
      rintro e v52 ⟨r52, d52, bs52, rfl, ho52, hb52⟩
      rw [prevK_sumK] at ho52
      have k0_52 := cell_later hb52 k0_51
      have k1_52 := cell_later hb52 k1_51
      have Y52 := Y51.trans (hb52.mono Y51.size)
      have HA_52 := HA_51.below hb52
      have HB_52 := HB_51.below hb52
      have p7_52 := (hb52.block (v1.heap.size) (Array.getElem?_eq_some_iff.1 n51).1).trans n51
      have Q52 := ho52.atC
      clear ho52 hb52
      (try go_wp2_with fail)
      refine hK.out _ _ ?_ (fun hHeld' => ?_)
      ·(try dsimp only)
       exact ⟨k0_52, k1_52⟩
      clear hK K hHeld
      have hHeld := hHeld'
      clear hHeld'
      (try simp only [Act.put, List.setIfInBounds_toArray, List.set_cons_zero, List.set_cons_succ])
      refine wpAnyH_ready (rs := [4, 6]) (by kernel_rfl) (by simp) ?_
      refine AllReadyH.cons (o := ?_) ?_ (fun K hK => ?_) ?_
      rotate_left
      ·(simp only [List.getElem?_toArray, List.getElem?_cons_zero, List.getElem?_cons_succ]; rfl)
      ·go_simp
       go_at_call 53
       refine (runningSums_any _ _ _ q' g _ _ hn HLg.out HB_52).mono ?_
       rintro e v53 ⟨r53, d53, bs53, rfl, ho53, hb53⟩
       have k0_53 := cell_later hb53 k0_52
       have k1_53 := cell_later hb53 k1_52
       have Y53 := Y52.trans (hb53.mono Y52.size)
       have HA_53 := HA_52.below hb53
       have HB_53 := HB_52.below hb53
       have X_53 := Q52.below hb53
       have p7_53 := (hb53.block (v1.heap.size) (Array.getElem?_eq_some_iff.1 p7_52).1).trans p7_52
       have Q53 := ho53.atC
       clear ho53 hb53
       (try go_wp2_with fail)
       refine hK.out _ _ ?_ (fun hHeld' => ?_)
       ·(try dsimp only)
        exact ⟨k0_53, k1_53⟩
       clear hK K hHeld
       have hHeld := hHeld'
       clear hHeld'
       (try simp only [Act.put, List.setIfInBounds_toArray, List.set_cons_zero, List.set_cons_succ])
       refine wpAnyH_ready (rs := [5, 6]) (by kernel_rfl) (by simp) ?_
       refine AllReadyH.cons (o := ?_) ?_ (fun K hK => ?_) ?_
       rotate_left
       ·(simp only [List.getElem?_toArray, List.getElem?_cons_zero, List.getElem?_cons_succ]; rfl)
       ·go_simp
        go_at_call 52
        refine (delayed_any _ _ _ q' 720 _ _ _ hn Q53).mono ?_
        rintro e v54 ⟨r54, d54, bs54, rfl, ho54, hb54⟩
        rw [prevK_sumK] at ho54
        have k0_54 := cell_later hb54 k0_53
        have k1_54 := cell_later hb54 k1_53
        have Y54 := Y53.trans (hb54.mono Y53.size)
        have HA_54 := HA_53.below hb54
        have HB_54 := HB_53.below hb54
        have X_54 := X_53.below hb54
        have p7_54 := (hb54.block (v1.heap.size) (Array.getElem?_eq_some_iff.1 p7_53).1).trans p7_53
        have Q54 := ho54.atC
        clear ho54 hb54
        (try go_wp2_with fail)
        refine hK.out _ _ ?_ (fun hHeld' => ?_)
        ·(try dsimp only)
         exact ⟨k0_54, k1_54⟩
        clear hK K hHeld
        have hHeld := hHeld'
        clear hHeld'
        (try simp only [Act.put, List.setIfInBounds_toArray, List.set_cons_zero, List.set_cons_succ])
        refine wpAnyH_ready (rs := [6]) (by kernel_rfl) (by simp) ?_
        refine AllReadyH.cons (o := ?_) ?_ (fun K hK => ?_) AllReadyH.nil
        rotate_left
        ·(simp only [List.getElem?_toArray, List.getElem?_cons_zero, List.getElem?_cons_succ]; rfl)
        go_simp
        (try go_wp2_with fail)
        refine hK.out _ _ ?_ (fun hHeld' => ?_)
        ·(try dsimp only)
         exact ⟨cell_later ((Below.refl _ _).alloc (Nat.le_refl _) _) k0_54, cell_later ((Below.refl _ _).alloc (Nat.le_refl _) _) k1_54⟩
        clear hK K hHeld
        have hHeld := hHeld'
        clear hHeld'
        (try simp only [Act.put, List.setIfInBounds_toArray, List.set_cons_zero, List.set_cons_succ])
        obtain ⟨v55, hU55⟩ : ∃ u, u = v54.alloc (.cells #[.slice none 0 0] 63) := ⟨_, rfl⟩
        have hb55 : Below v54.heap.size v54 v55 := by rw [hU55]; exact (Below.refl _ _).alloc (Nat.le_refl _) _
        have n55 : v55.heap[v54.heap.size]? = some (.cells #[.slice none 0 0] 63 (0, 0)) := by rw [hU55]; exact heap_alloc_new _ _
        rw [← hU55]
        clear hU55
        have nlt := (Array.getElem?_eq_some_iff.1 p7_54).1
        have k0_55 := cell_later hb55 k0_54
        have k1_55 := cell_later hb55 k1_54
        have Y55 := Y54.trans (hb55.mono Y54.size)
        have HA_55 := HA_54.below hb55
        have HB_55 := HB_54.below hb55
        have X_55 := X_54.below hb55
        have Z_55 := Q54.below hb55
        have p7_55 := (hb55.block (v1.heap.size) (Array.getElem?_eq_some_iff.1 p7_54).1).trans p7_54
        clear hb55
        have e6 : v55.cell? ⟨v54.heap.size, 0, none⟩ = some (.slice none 0 0) := by rw [cell_of_row _ _ 0 _ _ (0, 0) n55]; rfl
        have g6 : v55.frozen? ⟨v54.heap.size, 0, none⟩ = false := frozen_of_row _ _ 0 _ _ n55
        have lt6 : W.heap.size ≤ v54.heap.size := Y54.size
        have lt7 : W.heap.size ≤ v1.heap.size := Y1.size
        have m7 : (v55.setCell ⟨v54.heap.size, 0, none⟩ (.slice r52 n d52)).heap[v1.heap.size]? = some (.cells #[.slice none 0 0] 63 (0, 0)) := (Below.heap_setCell _ ⟨v54.heap.size, 0, none⟩ _ _ (Nat.ne_of_lt nlt)).trans p7_55
        have e7 : (v55.setCell ⟨v54.heap.size, 0, none⟩ (.slice r52 n d52)).cell? ⟨v1.heap.size, 0, none⟩ = some (.slice none 0 0) := by rw [cell_of_row _ _ 0 _ _ (0, 0) m7]; rfl
        have g7 : (v55.setCell ⟨v54.heap.size, 0, none⟩ (.slice r52 n d52)).frozen? ⟨v1.heap.size, 0, none⟩ = false := frozen_of_row _ _ 0 _ _ m7
        refine wpAnyH_ready (rs := [8]) (by kernel_rfl) (by simp) ?_
        refine AllReadyH.cons (o := ?_) ?_ (fun K hK => ?_) AllReadyH.nil
        rotate_left
        ·(simp only [List.getElem?_toArray, List.getElem?_cons_zero, List.getElem?_cons_succ]; rfl)
        go_simp
        skip
        (try go_wp2_with fail)
        refine hK.out _ _ ?_ (fun hHeld' => ?_)
        ·(try dsimp only)
         exact ⟨keep_far k0_55 (by omega), keep_far k1_55 (by omega)⟩
        clear hK K hHeld
        have hHeld := hHeld'
        clear hHeld'
        (try simp only [Act.put, List.setIfInBounds_toArray, List.set_cons_zero, List.set_cons_succ])
        refine wpAnyH_ready (rs := [9]) (by kernel_rfl) (by simp) ?_
        refine AllReadyH.cons (o := ?_) ?_ (fun K hK => ?_) AllReadyH.nil
        rotate_left
        ·(simp only [List.getElem?_toArray, List.getElem?_cons_zero, List.getElem?_cons_succ]; rfl)
        go_simp
        skip
        (try go_wp2_with fail)
        refine hK.out _ _ ?_ (fun hHeld' => ?_)
        ·(try dsimp only)
         exact ⟨keep_far (keep_far k0_55 (by omega)) (by omega), keep_far (keep_far k1_55 (by omega)) (by omega)⟩
        clear hK K hHeld
        have hHeld := hHeld'
        clear hHeld'
        (try simp only [Act.put, List.setIfInBounds_toArray, List.set_cons_zero, List.set_cons_succ])
        refine wpAnyH_done (by kernel_rfl) ?_ _
        (try go_wp2_with fail)
        go_meet
        case rel =>
         exact ⟨v54.heap.size, v1.heap.size, r52, r54, d52, d54, bs52, bs54, rfl, rfl, keep_far (cell_set e6 _) (Nat.ne_of_gt nlt), cell_set e7 _, (X_55.box n55 (fun _ h => by cases h) _).box m7 (fun _ h => by cases h) _, (Z_55.box n55 (fun _ h => by cases h) _).box m7 (fun _ h => by cases h) _, (Y55.setCell lt6 _).setCell lt7 _⟩
       refine AllReadyH.cons (o := ?_) ?_ (fun K hK => ?_) AllReadyH.nil
       rotate_left
       ·(simp only [List.getElem?_toArray, List.getElem?_cons_zero, List.getElem?_cons_succ]; rfl)
       ·go_simp
        (try go_wp2_with fail)
        refine hK.out _ _ ?_ (fun hHeld' => ?_)
        ·(try dsimp only)
         exact ⟨cell_later ((Below.refl _ _).alloc (Nat.le_refl _) _) k0_53, cell_later ((Below.refl _ _).alloc (Nat.le_refl _) _) k1_53⟩
        clear hK K hHeld
        have hHeld := hHeld'
        clear hHeld'
        (try simp only [Act.put, List.setIfInBounds_toArray, List.set_cons_zero, List.set_cons_succ])
        obtain ⟨v56, hU56⟩ : ∃ u, u = v53.alloc (.cells #[.slice none 0 0] 63) := ⟨_, rfl⟩
        have hb56 : Below v53.heap.size v53 v56 := by rw [hU56]; exact (Below.refl _ _).alloc (Nat.le_refl _) _
        have n56 : v56.heap[v53.heap.size]? = some (.cells #[.slice none 0 0] 63 (0, 0)) := by rw [hU56]; exact heap_alloc_new _ _
        rw [← hU56]
        clear hU56
        have nlt := (Array.getElem?_eq_some_iff.1 p7_53).1
        have k0_56 := cell_later hb56 k0_53
        have k1_56 := cell_later hb56 k1_53
        have Y56 := Y53.trans (hb56.mono Y53.size)
        have HA_56 := HA_53.below hb56
        have HB_56 := HB_53.below hb56
        have X_56 := X_53.below hb56
        have R_56 := Q53.below hb56
        have p7_56 := (hb56.block (v1.heap.size) (Array.getElem?_eq_some_iff.1 p7_53).1).trans p7_53
        clear hb56
        refine wpAnyH_ready (rs := [5]) (by kernel_rfl) (by simp) ?_
        refine AllReadyH.cons (o := ?_) ?_ (fun K hK => ?_) AllReadyH.nil
        rotate_left
        ·(simp only [List.getElem?_toArray, List.getElem?_cons_zero, List.getElem?_cons_succ]; rfl)
        go_simp
        go_at_call 52
        refine (delayed_any _ _ _ q' 720 _ _ _ hn R_56).mono ?_
        rintro e v57 ⟨r57, d57, bs57, rfl, ho57, hb57⟩
        rw [prevK_sumK] at ho57
        have k0_57 := cell_later hb57 k0_56
        have k1_57 := cell_later hb57 k1_56
        have Y57 := Y56.trans (hb57.mono Y56.size)
        have HA_57 := HA_56.below hb57
        have HB_57 := HB_56.below hb57
        have X_57 := X_56.below hb57
        have p7_57 := (hb57.block (v1.heap.size) (Array.getElem?_eq_some_iff.1 p7_56).1).trans p7_56
        have p6_57 := (hb57.block (v53.heap.size) (Array.getElem?_eq_some_iff.1 n56).1).trans n56
        have Q57 := ho57.atC
        clear ho57 hb57
        (try go_wp2_with fail)
        refine hK.out _ _ ?_ (fun hHeld' => ?_)
        ·(try dsimp only)
         exact ⟨k0_57, k1_57⟩
        clear hK K hHeld
        have hHeld := hHeld'
        clear hHeld'
        (try simp only [Act.put, List.setIfInBounds_toArray, List.set_cons_zero, List.set_cons_succ])
        have e6 : v57.cell? ⟨v53.heap.size, 0, none⟩ = some (.slice none 0 0) := by rw [cell_of_row _ _ 0 _ _ (0, 0) p6_57]; rfl
        have g6 : v57.frozen? ⟨v53.heap.size, 0, none⟩ = false := frozen_of_row _ _ 0 _ _ p6_57
        have lt6 : W.heap.size ≤ v53.heap.size := Y53.size
        have lt7 : W.heap.size ≤ v1.heap.size := Y1.size
        have m7 : (v57.setCell ⟨v53.heap.size, 0, none⟩ (.slice r52 n d52)).heap[v1.heap.size]? = some (.cells #[.slice none 0 0] 63 (0, 0)) := (Below.heap_setCell _ ⟨v53.heap.size, 0, none⟩ _ _ (Nat.ne_of_lt nlt)).trans p7_57
        have e7 : (v57.setCell ⟨v53.heap.size, 0, none⟩ (.slice r52 n d52)).cell? ⟨v1.heap.size, 0, none⟩ = some (.slice none 0 0) := by rw [cell_of_row _ _ 0 _ _ (0, 0) m7]; rfl
        have g7 : (v57.setCell ⟨v53.heap.size, 0, none⟩ (.slice r52 n d52)).frozen? ⟨v1.heap.size, 0, none⟩ = false := frozen_of_row _ _ 0 _ _ m7
        refine wpAnyH_ready (rs := [8]) (by kernel_rfl) (by simp) ?_
        refine AllReadyH.cons (o := ?_) ?_ (fun K hK => ?_) AllReadyH.nil
        rotate_left
        ·(simp only [List.getElem?_toArray, List.getElem?_cons_zero, List.getElem?_cons_succ]; rfl)
        go_simp
        skip
        (try go_wp2_with fail)
        refine hK.out _ _ ?_ (fun hHeld' => ?_)
        ·(try dsimp only)
         exact ⟨keep_far k0_57 (by omega), keep_far k1_57 (by omega)⟩
        clear hK K hHeld
        have hHeld := hHeld'
        clear hHeld'
        (try simp only [Act.put, List.setIfInBounds_toArray, List.set_cons_zero, List.set_cons_succ])
        refine wpAnyH_ready (rs := [9]) (by kernel_rfl) (by simp) ?_
        refine AllReadyH.cons (o := ?_) ?_ (fun K hK => ?_) AllReadyH.nil
        rotate_left
        ·(simp only [List.getElem?_toArray, List.getElem?_cons_zero, List.getElem?_cons_succ]; rfl)
        go_simp
        skip
        (try go_wp2_with fail)
        refine hK.out _ _ ?_ (fun hHeld' => ?_)
        ·(try dsimp only)
         exact ⟨keep_far (keep_far k0_57 (by omega)) (by omega), keep_far (keep_far k1_57 (by omega)) (by omega)⟩
        clear hK K hHeld
        have hHeld := hHeld'
        clear hHeld'
        (try simp only [Act.put, List.setIfInBounds_toArray, List.set_cons_zero, List.set_cons_succ])
        refine wpAnyH_done (by kernel_rfl) ?_ _
        (try go_wp2_with fail)
        go_meet
        case rel =>
         exact ⟨v53.heap.size, v1.heap.size, r52, r57, d52, d57, bs52, bs57, rfl, rfl, keep_far (cell_set e6 _) (Nat.ne_of_gt nlt), cell_set e7 _, (X_57.box p6_57 (fun _ h => by cases h) _).box m7 (fun _ h => by cases h) _, (Q57.box p6_57 (fun _ h => by cases h) _).box m7 (fun _ h => by cases h) _, (Y57.setCell lt6 _).setCell lt7 _⟩
      refine AllReadyH.cons (o := ?_) ?_ (fun K hK => ?_) AllReadyH.nil
      rotate_left
      ·(simp only [List.getElem?_toArray, List.getElem?_cons_zero, List.getElem?_cons_succ]; rfl)
      ·go_simp
       (try go_wp2_with fail)
       refine hK.out _ _ ?_ (fun hHeld' => ?_)
       ·(try dsimp only)
        exact ⟨cell_later ((Below.refl _ _).alloc (Nat.le_refl _) _) k0_52, cell_later ((Below.refl _ _).alloc (Nat.le_refl _) _) k1_52⟩
       clear hK K hHeld
       have hHeld := hHeld'
       clear hHeld'
       (try simp only [Act.put, List.setIfInBounds_toArray, List.set_cons_zero, List.set_cons_succ])
       obtain ⟨v58, hU58⟩ : ∃ u, u = v52.alloc (.cells #[.slice none 0 0] 63) := ⟨_, rfl⟩
       have hb58 : Below v52.heap.size v52 v58 := by rw [hU58]; exact (Below.refl _ _).alloc (Nat.le_refl _) _
       have n58 : v58.heap[v52.heap.size]? = some (.cells #[.slice none 0 0] 63 (0, 0)) := by rw [hU58]; exact heap_alloc_new _ _
       rw [← hU58]
       clear hU58
       have nlt := (Array.getElem?_eq_some_iff.1 p7_52).1
       have k0_58 := cell_later hb58 k0_52
       have k1_58 := cell_later hb58 k1_52
       have Y58 := Y52.trans (hb58.mono Y52.size)
       have HA_58 := HA_52.below hb58
       have HB_58 := HB_52.below hb58
       have X_58 := Q52.below hb58
       have p7_58 := (hb58.block (v1.heap.size) (Array.getElem?_eq_some_iff.1 p7_52).1).trans p7_52
       clear hb58
       refine wpAnyH_ready (rs := [4]) (by kernel_rfl) (by simp) ?_
       refine AllReadyH.cons (o := ?_) ?_ (fun K hK => ?_) AllReadyH.nil
       rotate_left
       ·(simp only [List.getElem?_toArray, List.getElem?_cons_zero, List.getElem?_cons_succ]; rfl)
       go_simp
       go_at_call 53
       refine (runningSums_any _ _ _ q' g _ _ hn HLg.out HB_58).mono ?_
       rintro e v59 ⟨r59, d59, bs59, rfl, ho59, hb59⟩
       have k0_59 := cell_later hb59 k0_58
       have k1_59 := cell_later hb59 k1_58
       have Y59 := Y58.trans (hb59.mono Y58.size)
       have HA_59 := HA_58.below hb59
       have HB_59 := HB_58.below hb59
       have X_59 := X_58.below hb59
       have p7_59 := (hb59.block (v1.heap.size) (Array.getElem?_eq_some_iff.1 p7_58).1).trans p7_58
       have p6_59 := (hb59.block (v52.heap.size) (Array.getElem?_eq_some_iff.1 n58).1).trans n58
       have Q59 := ho59.atC
       clear ho59 hb59
       (try go_wp2_with fail)
       refine hK.out _ _ ?_ (fun hHeld' => ?_)
       ·(try dsimp only)
        exact ⟨k0_59, k1_59⟩
       clear hK K hHeld
       have hHeld := hHeld'
       clear hHeld'
       (try simp only [Act.put, List.setIfInBounds_toArray, List.set_cons_zero, List.set_cons_succ])
       refine wpAnyH_ready (rs := [5]) (by kernel_rfl) (by simp) ?_
       refine AllReadyH.cons (o := ?_) ?_ (fun K hK => ?_) AllReadyH.nil
       rotate_left
       ·(simp only [List.getElem?_toArray, List.getElem?_cons_zero, List.getElem?_cons_succ]; rfl)
       go_simp
       go_at_call 52
       refine (delayed_any _ _ _ q' 720 _ _ _ hn Q59).mono ?_
       rintro e v60 ⟨r60, d60, bs60, rfl, ho60, hb60⟩
       rw [prevK_sumK] at ho60
       have k0_60 := cell_later hb60 k0_59
       have k1_60 := cell_later hb60 k1_59
       have Y60 := Y59.trans (hb60.mono Y59.size)
       have HA_60 := HA_59.below hb60
       have HB_60 := HB_59.below hb60
       have X_60 := X_59.below hb60
       have p7_60 := (hb60.block (v1.heap.size) (Array.getElem?_eq_some_iff.1 p7_59).1).trans p7_59
       have p6_60 := (hb60.block (v52.heap.size) (Array.getElem?_eq_some_iff.1 p6_59).1).trans p6_59
       have Q60 := ho60.atC
       clear ho60 hb60
       (try go_wp2_with fail)
       refine hK.out _ _ ?_ (fun hHeld' => ?_)
       ·(try dsimp only)
        exact ⟨k0_60, k1_60⟩
       clear hK K hHeld
       have hHeld := hHeld'
       clear hHeld'
       (try simp only [Act.put, List.setIfInBounds_toArray, List.set_cons_zero, List.set_cons_succ])
       have e6 : v60.cell? ⟨v52.heap.size, 0, none⟩ = some (.slice none 0 0) := by rw [cell_of_row _ _ 0 _ _ (0, 0) p6_60]; rfl
       have g6 : v60.frozen? ⟨v52.heap.size, 0, none⟩ = false := frozen_of_row _ _ 0 _ _ p6_60
       have lt6 : W.heap.size ≤ v52.heap.size := Y52.size
       have lt7 : W.heap.size ≤ v1.heap.size := Y1.size
       have m7 : (v60.setCell ⟨v52.heap.size, 0, none⟩ (.slice r52 n d52)).heap[v1.heap.size]? = some (.cells #[.slice none 0 0] 63 (0, 0)) := (Below.heap_setCell _ ⟨v52.heap.size, 0, none⟩ _ _ (Nat.ne_of_lt nlt)).trans p7_60
       have e7 : (v60.setCell ⟨v52.heap.size, 0, none⟩ (.slice r52 n d52)).cell? ⟨v1.heap.size, 0, none⟩ = some (.slice none 0 0) := by rw [cell_of_row _ _ 0 _ _ (0, 0) m7]; rfl
       have g7 : (v60.setCell ⟨v52.heap.size, 0, none⟩ (.slice r52 n d52)).frozen? ⟨v1.heap.size, 0, none⟩ = false := frozen_of_row _ _ 0 _ _ m7
       refine wpAnyH_ready (rs := [8]) (by kernel_rfl) (by simp) ?_
       refine AllReadyH.cons (o := ?_) ?_ (fun K hK => ?_) AllReadyH.nil
       rotate_left
       ·(simp only [List.getElem?_toArray, List.getElem?_cons_zero, List.getElem?_cons_succ]; rfl)
       go_simp
       skip
       (try go_wp2_with fail)
       refine hK.out _ _ ?_ (fun hHeld' => ?_)
       ·(try dsimp only)
        exact ⟨keep_far k0_60 (by omega), keep_far k1_60 (by omega)⟩
       clear hK K hHeld
       have hHeld := hHeld'
       clear hHeld'
       (try simp only [Act.put, List.setIfInBounds_toArray, List.set_cons_zero, List.set_cons_succ])
       refine wpAnyH_ready (rs := [9]) (by kernel_rfl) (by simp) ?_
       refine AllReadyH.cons (o := ?_) ?_ (fun K hK => ?_) AllReadyH.nil
       rotate_left
       ·(simp only [List.getElem?_toArray, List.getElem?_cons_zero, List.getElem?_cons_succ]; rfl)
       go_simp
       skip
       (try go_wp2_with fail)
       refine hK.out _ _ ?_ (fun hHeld' => ?_)
       ·(try dsimp only)
        exact ⟨keep_far (keep_far k0_60 (by omega)) (by omega), keep_far (keep_far k1_60 (by omega)) (by omega)⟩
       clear hK K hHeld
       have hHeld := hHeld'
       clear hHeld'
       (try simp only [Act.put, List.setIfInBounds_toArray, List.set_cons_zero, List.set_cons_succ])
       refine wpAnyH_done (by kernel_rfl) ?_ _
       (try go_wp2_with fail)
       go_meet
       case rel =>
        exact ⟨v52.heap.size, v1.heap.size, r52, r60, d52, d60, bs52, bs60, rfl, rfl, keep_far (cell_set e6 _) (Nat.ne_of_gt nlt), cell_set e7 _, (X_60.box p6_60 (fun _ h => by cases h) _).box m7 (fun _ h => by cases h) _, (Q60.box p6_60 (fun _ h => by cases h) _).box m7 (fun _ h => by cases h) _, (Y60.setCell lt6 _).setCell lt7 _⟩
     refine AllReadyH.cons (o := ?_) ?_ (fun K hK => ?_) AllReadyH.nil
     rotate_left
     ·(simp only [List.getElem?_toArray, List.getElem?_cons_zero, List.getElem?_cons_succ]; rfl)
     ·go_simp
      (try go_wp2_with fail)
      refine hK.out _ _ ?_ (fun hHeld' => ?_)
      ·(try dsimp only)
       exact ⟨cell_later ((Below.refl _ _).alloc (Nat.le_refl _) _) k0_51, cell_later ((Below.refl _ _).alloc (Nat.le_refl _) _) k1_51⟩
      clear hK K hHeld
      have hHeld := hHeld'
      clear hHeld'
      (try simp only [Act.put, List.setIfInBounds_toArray, List.set_cons_zero, List.set_cons_succ])
      obtain ⟨v61, hU61⟩ : ∃ u, u = v51.alloc (.cells #[.slice none 0 0] 63) := ⟨_, rfl⟩
      have hb61 : Below v51.heap.size v51 v61 := by rw [hU61]; exact (Below.refl _ _).alloc (Nat.le_refl _) _
      have n61 : v61.heap[v51.heap.size]? = some (.cells #[.slice none 0 0] 63 (0, 0)) := by rw [hU61]; exact heap_alloc_new _ _
      rw [← hU61]
      clear hU61
      have nlt := (Array.getElem?_eq_some_iff.1 n51).1
      have k0_61 := cell_later hb61 k0_51
      have k1_61 := cell_later hb61 k1_51
      have Y61 := Y51.trans (hb61.mono Y51.size)
      have HA_61 := HA_51.below hb61
      have HB_61 := HB_51.below hb61
      have R_61 := R_51.below hb61
      have p7_61 := (hb61.block (v1.heap.size) (Array.getElem?_eq_some_iff.1 n51).1).trans n51
      clear hb61
      refine wpAnyH_ready (rs := [2]) (by kernel_rfl) (by simp) ?_
      refine AllReadyH.cons (o := ?_) ?_ (fun K hK => ?_) AllReadyH.nil
      rotate_left
      ·(simp only [List.getElem?_toArray, List.getElem?_cons_zero, List.getElem?_cons_succ]; rfl)
      go_simp
      go_at_call 52
      refine (delayed_any _ _ _ q 720 _ _ _ hn R_61).mono ?_
      rintro e v62 ⟨r62, d62, bs62, rfl, ho62, hb62⟩
      rw [prevK_sumK] at ho62
      have k0_62 := cell_later hb62 k0_61
      have k1_62 := cell_later hb62 k1_61
      have Y62 := Y61.trans (hb62.mono Y61.size)
      have HA_62 := HA_61.below hb62
      have HB_62 := HB_61.below hb62
      have p7_62 := (hb62.block (v1.heap.size) (Array.getElem?_eq_some_iff.1 p7_61).1).trans p7_61
      have p6_62 := (hb62.block (v51.heap.size) (Array.getElem?_eq_some_iff.1 n61).1).trans n61
      have Q62 := ho62.atC
      clear ho62 hb62
      (try go_wp2_with fail)
      refine hK.out _ _ ?_ (fun hHeld' => ?_)
      ·(try dsimp only)
       exact ⟨k0_62, k1_62⟩
      clear hK K hHeld
      have hHeld := hHeld'
      clear hHeld'
      (try simp only [Act.put, List.setIfInBounds_toArray, List.set_cons_zero, List.set_cons_succ])
      refine wpAnyH_ready (rs := [4]) (by kernel_rfl) (by simp) ?_
      refine AllReadyH.cons (o := ?_) ?_ (fun K hK => ?_) AllReadyH.nil
      rotate_left
      ·(simp only [List.getElem?_toArray, List.getElem?_cons_zero, List.getElem?_cons_succ]; rfl)
      go_simp
      go_at_call 53
      refine (runningSums_any _ _ _ q' g _ _ hn HLg.out HB_62).mono ?_
      rintro e v63 ⟨r63, d63, bs63, rfl, ho63, hb63⟩
      have k0_63 := cell_later hb63 k0_62
      have k1_63 := cell_later hb63 k1_62
      have Y63 := Y62.trans (hb63.mono Y62.size)
      have HA_63 := HA_62.below hb63
      have HB_63 := HB_62.below hb63
      have X_63 := Q62.below hb63
      have p7_63 := (hb63.block (v1.heap.size) (Array.getElem?_eq_some_iff.1 p7_62).1).trans p7_62
      have p6_63 := (hb63.block (v51.heap.size) (Array.getElem?_eq_some_iff.1 p6_62).1).trans p6_62
      have Q63 := ho63.atC
      clear ho63 hb63
      (try go_wp2_with fail)
      refine hK.out _ _ ?_ (fun hHeld' => ?_)
      ·(try dsimp only)
       exact ⟨k0_63, k1_63⟩
      clear hK K hHeld
      have hHeld := hHeld'
      clear hHeld'
      (try simp only [Act.put, List.setIfInBounds_toArray, List.set_cons_zero, List.set_cons_succ])
      refine wpAnyH_ready (rs := [5]) (by kernel_rfl) (by simp) ?_
      refine AllReadyH.cons (o := ?_) ?_ (fun K hK => ?_) AllReadyH.nil
      rotate_left
      ·(simp only [List.getElem?_toArray, List.getElem?_cons_zero, List.getElem?_cons_succ]; rfl)
      go_simp
      go_at_call 52
      refine (delayed_any _ _ _ q' 720 _ _ _ hn Q63).mono ?_
      rintro e v64 ⟨r64, d64, bs64, rfl, ho64, hb64⟩
      rw [prevK_sumK] at ho64
      have k0_64 := cell_later hb64 k0_63
      have k1_64 := cell_later hb64 k1_63
      have Y64 := Y63.trans (hb64.mono Y63.size)
      have HA_64 := HA_63.below hb64
      have HB_64 := HB_63.below hb64
      have X_64 := X_63.below hb64
      have p7_64 := (hb64.block (v1.heap.size) (Array.getElem?_eq_some_iff.1 p7_63).1).trans p7_63
      have p6_64 := (hb64.block (v51.heap.size) (Array.getElem?_eq_some_iff.1 p6_63).1).trans p6_63
      have Q64 := ho64.atC
      clear ho64 hb64
      (try go_wp2_with fail)
      refine hK.out _ _ ?_ (fun hHeld' => ?_)
      ·(try dsimp only)
       exact ⟨k0_64, k1_64⟩
      clear hK K hHeld
      have hHeld := hHeld'
      clear hHeld'
      (try simp only [Act.put, List.setIfInBounds_toArray, List.set_cons_zero, List.set_cons_succ])
      have e6 : v64.cell? ⟨v51.heap.size, 0, none⟩ = some (.slice none 0 0) := by rw [cell_of_row _ _ 0 _ _ (0, 0) p6_64]; rfl
      have g6 : v64.frozen? ⟨v51.heap.size, 0, none⟩ = false := frozen_of_row _ _ 0 _ _ p6_64
      have lt6 : W.heap.size ≤ v51.heap.size := Y51.size
      have lt7 : W.heap.size ≤ v1.heap.size := Y1.size
      have m7 : (v64.setCell ⟨v51.heap.size, 0, none⟩ (.slice r62 n d62)).heap[v1.heap.size]? = some (.cells #[.slice none 0 0] 63 (0, 0)) := (Below.heap_setCell _ ⟨v51.heap.size, 0, none⟩ _ _ (Nat.ne_of_lt nlt)).trans p7_64
      have e7 : (v64.setCell ⟨v51.heap.size, 0, none⟩ (.slice r62 n d62)).cell? ⟨v1.heap.size, 0, none⟩ = some (.slice none 0 0) := by rw [cell_of_row _ _ 0 _ _ (0, 0) m7]; rfl
      have g7 : (v64.setCell ⟨v51.heap.size, 0, none⟩ (.slice r62 n d62)).frozen? ⟨v1.heap.size, 0, none⟩ = false := frozen_of_row _ _ 0 _ _ m7
      refine wpAnyH_ready (rs := [8]) (by kernel_rfl) (by simp) ?_
      refine AllReadyH.cons (o := ?_) ?_ (fun K hK => ?_) AllReadyH.nil
      rotate_left
      ·(simp only [List.getElem?_toArray, List.getElem?_cons_zero, List.getElem?_cons_succ]; rfl)
      go_simp
      skip
      (try go_wp2_with fail)
      refine hK.out _ _ ?_ (fun hHeld' => ?_)
      ·(try dsimp only)
       exact ⟨keep_far k0_64 (by omega), keep_far k1_64 (by omega)⟩
      clear hK K hHeld
      have hHeld := hHeld'
      clear hHeld'
      (try simp only [Act.put, List.setIfInBounds_toArray, List.set_cons_zero, List.set_cons_succ])
      refine wpAnyH_ready (rs := [9]) (by kernel_rfl) (by simp) ?_
      refine AllReadyH.cons (o := ?_) ?_ (fun K hK => ?_) AllReadyH.nil
      rotate_left
      ·(simp only [List.getElem?_toArray, List.getElem?_cons_zero, List.getElem?_cons_succ]; rfl)
      go_simp
      skip
      (try go_wp2_with fail)
      refine hK.out _ _ ?_ (fun hHeld' => ?_)
      ·(try dsimp only)
       exact ⟨keep_far (keep_far k0_64 (by omega)) (by omega), keep_far (keep_far k1_64 (by omega)) (by omega)⟩
      clear hK K hHeld
      have hHeld := hHeld'
      clear hHeld'
      (try simp only [Act.put, List.setIfInBounds_toArray, List.set_cons_zero, List.set_cons_succ])
      refine wpAnyH_done (by kernel_rfl) ?_ _
      (try go_wp2_with fail)
      go_meet
      case rel =>
       exact ⟨v51.heap.size, v1.heap.size, r62, r64, d62, d64, bs62, bs64, rfl, rfl, keep_far (cell_set e6 _) (Nat.ne_of_gt nlt), cell_set e7 _, (X_64.box p6_64 (fun _ h => by cases h) _).box m7 (fun _ h => by cases h) _, (Q64.box p6_64 (fun _ h => by cases h) _).box m7 (fun _ h => by cases h) _, (Y64.setCell lt6 _).setCell lt7 _⟩
   refine AllReadyH.cons (o := ?_) ?_ (fun K hK => ?_) ?_
   rotate_left
   ·(simp only [List.getElem?_toArray, List.getElem?_cons_zero, List.getElem?_cons_succ]; rfl)
   ·go_simp
    (try go_wp2_with fail)
    refine hK.out _ _ ?_ (fun hHeld' => ?_)
    ·(try dsimp only)
     exact ⟨cell_later ((Below.refl _ _).alloc (Nat.le_refl _) _) k0_0, cell_later ((Below.refl _ _).alloc (Nat.le_refl _) _) k1_0⟩
    clear hK K hHeld
    have hHeld := hHeld'
    clear hHeld'
    (try simp only [Act.put, List.setIfInBounds_toArray, List.set_cons_zero, List.set_cons_succ])
    obtain ⟨v65, hU65⟩ : ∃ u, u = u0.alloc (.cells #[.slice none 0 0] 63) := ⟨_, rfl⟩
    have hb65 : Below u0.heap.size u0 v65 := by rw [hU65]; exact (Below.refl _ _).alloc (Nat.le_refl _) _
    have n65 : v65.heap[u0.heap.size]? = some (.cells #[.slice none 0 0] 63 (0, 0)) := by rw [hU65]; exact heap_alloc_new _ _
    rw [← hU65]
    clear hU65
    have k0_65 := cell_later hb65 k0_0
    have k1_65 := cell_later hb65 k1_0
    have Y65 := Y0.trans (hb65.mono Y0.size)
    have HA_65 := HA_0.below hb65
    have HB_65 := HB_0.below hb65
    clear hb65
    refine wpAnyH_ready (rs := [1, 7]) (by kernel_rfl) (by simp) ?_
    refine AllReadyH.cons (o := ?_) ?_ (fun K hK => ?_) ?_
    rotate_left
    ·(simp only [List.getElem?_toArray, List.getElem?_cons_zero, List.getElem?_cons_succ]; rfl)
    ·go_simp
     go_at_call 53
     refine (runningSums_any _ _ _ q f _ _ hn HLf.out HA_65).mono ?_
     rintro e v66 ⟨r66, d66, bs66, rfl, ho66, hb66⟩
     have k0_66 := cell_later hb66 k0_65
     have k1_66 := cell_later hb66 k1_65
     have Y66 := Y65.trans (hb66.mono Y65.size)
     have HA_66 := HA_65.below hb66
     have HB_66 := HB_65.below hb66
     have p6_66 := (hb66.block (u0.heap.size) (Array.getElem?_eq_some_iff.1 n65).1).trans n65
     have Q66 := ho66.atC
     clear ho66 hb66
     (try go_wp2_with fail)
     refine hK.out _ _ ?_ (fun hHeld' => ?_)
     ·(try dsimp only)
      exact ⟨k0_66, k1_66⟩
     clear hK K hHeld
     have hHeld := hHeld'
     clear hHeld'
     (try simp only [Act.put, List.setIfInBounds_toArray, List.set_cons_zero, List.set_cons_succ])
     refine wpAnyH_ready (rs := [2, 7]) (by kernel_rfl) (by simp) ?_
     refine AllReadyH.cons (o := ?_) ?_ (fun K hK => ?_) ?_
     rotate_left
     ·(simp only [List.getElem?_toArray, List.getElem?_cons_zero, List.getElem?_cons_succ]; rfl)
     ·go_simp
      go_at_call 52
      refine (delayed_any _ _ _ q 720 _ _ _ hn Q66).mono ?_
      rintro e v67 ⟨r67, d67, bs67, rfl, ho67, hb67⟩
      rw [prevK_sumK] at ho67
      have k0_67 := cell_later hb67 k0_66
      have k1_67 := cell_later hb67 k1_66
      have Y67 := Y66.trans (hb67.mono Y66.size)
      have HA_67 := HA_66.below hb67
      have HB_67 := HB_66.below hb67
      have p6_67 := (hb67.block (u0.heap.size) (Array.getElem?_eq_some_iff.1 p6_66).1).trans p6_66
      have Q67 := ho67.atC
      clear ho67 hb67
      (try go_wp2_with fail)
      refine hK.out _ _ ?_ (fun hHeld' => ?_)
      ·(try dsimp only)
       exact ⟨k0_67, k1_67⟩
      clear hK K hHeld
      have hHeld := hHeld'
      clear hHeld'
      (try simp only [Act.put, List.setIfInBounds_toArray, List.set_cons_zero, List.set_cons_succ])
      refine wpAnyH_ready (rs := [4, 7]) (by kernel_rfl) (by simp) ?_
      refine AllReadyH.cons (o := ?_) ?_ (fun K hK => ?_) ?_
      rotate_left
      ·(simp only [List.getElem?_toArray, List.getElem?_cons_zero, List.getElem?_cons_succ]; rfl)
      ·go_simp
       go_at_call 53
       refine (runningSums_any _ _ _ q' g _ _ hn HLg.out HB_67).mono ?_
       rintro e v68 ⟨r68, d68, bs68, rfl, ho68, hb68⟩
       have k0_68 := cell_later hb68 k0_67
       have k1_68 := cell_later hb68 k1_67
       have Y68 := Y67.trans (hb68.mono Y67.size)
       have HA_68 := HA_67.below hb68
       have HB_68 := HB_67.below hb68
       have X_68 := Q67.below hb68
       have p6_68 := (hb68.block (u0.heap.size) (Array.getElem?_eq_some_iff.1 p6_67).1).trans p6_67
       have Q68 := ho68.atC
       clear ho68 hb68
       (try go_wp2_with fail)
       refine hK.out _ _ ?_ (fun hHeld' => ?_)
       ·(try dsimp only)
        exact ⟨k0_68, k1_68⟩
       clear hK K hHeld
       have hHeld := hHeld'
       clear hHeld'
       (try simp only [Act.put, List.setIfInBounds_toArray, List.set_cons_zero, List.set_cons_succ])
       refine wpAnyH_ready (rs := [5, 7]) (by kernel_rfl) (by simp) ?_
       refine AllReadyH.cons (o := ?_) ?_ (fun K hK => ?_) ?_
       rotate_left
       ·(simp only [List.getElem?_toArray, List.getElem?_cons_zero, List.getElem?_cons_succ]; rfl)
       ·go_simp
        go_at_call 52
        refine (delayed_any _ _ _ q' 720 _ _ _ hn Q68).mono ?_
        rintro e v69 ⟨r69, d69, bs69, rfl, ho69, hb69⟩
        rw [prevK_sumK] at ho69
        have k0_69 := cell_later hb69 k0_68
        have k1_69 := cell_later hb69 k1_68
        have Y69 := Y68.trans (hb69.mono Y68.size)
        have HA_69 := HA_68.below hb69
        have HB_69 := HB_68.below hb69
        have X_69 := X_68.below hb69
        have p6_69 := (hb69.block (u0.heap.size) (Array.getElem?_eq_some_iff.1 p6_68).1).trans p6_68
        have Q69 := ho69.atC
        clear ho69 hb69
        (try go_wp2_with fail)
        refine hK.out _ _ ?_ (fun hHeld' => ?_)
        ·(try dsimp only)
         exact ⟨k0_69, k1_69⟩
        clear hK K hHeld
        have hHeld := hHeld'
        clear hHeld'
        (try simp only [Act.put, List.setIfInBounds_toArray, List.set_cons_zero, List.set_cons_succ])
        refine wpAnyH_ready (rs := [7]) (by kernel_rfl) (by simp) ?_
        refine AllReadyH.cons (o := ?_) ?_ (fun K hK => ?_) AllReadyH.nil
        rotate_left
        ·(simp only [List.getElem?_toArray, List.getElem?_cons_zero, List.getElem?_cons_succ]; rfl)
        go_simp
        (try go_wp2_with fail)
        refine hK.out _ _ ?_ (fun hHeld' => ?_)
        ·(try dsimp only)
         exact ⟨cell_later ((Below.refl _ _).alloc (Nat.le_refl _) _) k0_69, cell_later ((Below.refl _ _).alloc (Nat.le_refl _) _) k1_69⟩
        clear hK K hHeld
        have hHeld := hHeld'
        clear hHeld'
        (try simp only [Act.put, List.setIfInBounds_toArray, List.set_cons_zero, List.set_cons_succ])
        obtain ⟨v70, hU70⟩ : ∃ u, u = v69.alloc (.cells #[.slice none 0 0] 63) := ⟨_, rfl⟩
        have hb70 : Below v69.heap.size v69 v70 := by rw [hU70]; exact (Below.refl _ _).alloc (Nat.le_refl _) _
        have n70 : v70.heap[v69.heap.size]? = some (.cells #[.slice none 0 0] 63 (0, 0)) := by rw [hU70]; exact heap_alloc_new _ _
        rw [← hU70]
        clear hU70
        have nlt := (Array.getElem?_eq_some_iff.1 p6_69).1
        have k0_70 := cell_later hb70 k0_69
        have k1_70 := cell_later hb70 k1_69
        have Y70 := Y69.trans (hb70.mono Y69.size)
        have HA_70 := HA_69.below hb70
        have HB_70 := HB_69.below hb70
        have X_70 := X_69.below hb70
        have Z_70 := Q69.below hb70
        have p6_70 := (hb70.block (u0.heap.size) (Array.getElem?_eq_some_iff.1 p6_69).1).trans p6_69
        clear hb70
        have e6 : v70.cell? ⟨u0.heap.size, 0, none⟩ = some (.slice none 0 0) := by rw [cell_of_row _ _ 0 _ _ (0, 0) p6_70]; rfl
        have g6 : v70.frozen? ⟨u0.heap.size, 0, none⟩ = false := frozen_of_row _ _ 0 _ _ p6_70
        have lt6 : W.heap.size ≤ u0.heap.size := Y0.size
        have lt7 : W.heap.size ≤ v69.heap.size := Y69.size
        have m7 : (v70.setCell ⟨u0.heap.size, 0, none⟩ (.slice r67 n d67)).heap[v69.heap.size]? = some (.cells #[.slice none 0 0] 63 (0, 0)) := (Below.heap_setCell _ ⟨u0.heap.size, 0, none⟩ _ _ (Nat.ne_of_gt nlt)).trans n70
        have e7 : (v70.setCell ⟨u0.heap.size, 0, none⟩ (.slice r67 n d67)).cell? ⟨v69.heap.size, 0, none⟩ = some (.slice none 0 0) := by rw [cell_of_row _ _ 0 _ _ (0, 0) m7]; rfl
        have g7 : (v70.setCell ⟨u0.heap.size, 0, none⟩ (.slice r67 n d67)).frozen? ⟨v69.heap.size, 0, none⟩ = false := frozen_of_row _ _ 0 _ _ m7
        refine wpAnyH_ready (rs := [8]) (by kernel_rfl) (by simp) ?_
        refine AllReadyH.cons (o := ?_) ?_ (fun K hK => ?_) AllReadyH.nil
        rotate_left
        ·(simp only [List.getElem?_toArray, List.getElem?_cons_zero, List.getElem?_cons_succ]; rfl)
        go_simp
        skip
        (try go_wp2_with fail)
        refine hK.out _ _ ?_ (fun hHeld' => ?_)
        ·(try dsimp only)
         exact ⟨keep_far k0_70 (by omega), keep_far k1_70 (by omega)⟩
        clear hK K hHeld
        have hHeld := hHeld'
        clear hHeld'
        (try simp only [Act.put, List.setIfInBounds_toArray, List.set_cons_zero, List.set_cons_succ])
        refine wpAnyH_ready (rs := [9]) (by kernel_rfl) (by simp) ?_
        refine AllReadyH.cons (o := ?_) ?_ (fun K hK => ?_) AllReadyH.nil
        rotate_left
        ·(simp only [List.getElem?_toArray, List.getElem?_cons_zero, List.getElem?_cons_succ]; rfl)
        go_simp
        skip
        (try go_wp2_with fail)
        refine hK.out _ _ ?_ (fun hHeld' => ?_)
        ·(try dsimp only)
         exact ⟨keep_far (keep_far k0_70 (by omega)) (by omega), keep_far (keep_far k1_70 (by omega)) (by omega)⟩
        clear hK K hHeld
        have hHeld := hHeld'
        clear hHeld'
        (try simp only [Act.put, List.setIfInBounds_toArray, List.set_cons_zero, List.set_cons_succ])
        refine wpAnyH_done (by kernel_rfl) ?_ _
        (try go_wp2_with fail)
        go_meet
        case rel =>
         exact ⟨u0.heap.size, v69.heap.size, r67, r69, d67, d69, bs67, bs69, rfl, rfl, keep_far (cell_set e6 _) (Nat.ne_of_lt nlt), cell_set e7 _, (X_70.box p6_70 (fun _ h => by cases h) _).box m7 (fun _ h => by cases h) _, (Z_70.box p6_70 (fun _ h => by cases h) _).box m7 (fun _ h => by cases h) _, (Y70.setCell lt6 _).setCell lt7 _⟩
       refine AllReadyH.cons (o := ?_) ?_ (fun K hK => ?_) AllReadyH.nil
       rotate_left
       ·(simp only [List.getElem?_toArray, List.getElem?_cons_zero, List.getElem?_cons_succ]; rfl)
       ·go_simp
        (try go_wp2_with fail)
        refine hK.out _ _ ?_ (fun hHeld' => ?_)
        ·(try dsimp only)
         exact ⟨cell_later ((Below.refl _ _).alloc (Nat.le_refl _) _) k0_68, cell_later ((Below.refl _ _).alloc (Nat.le_refl _) _) k1_68⟩
        clear hK K hHeld
        have hHeld := hHeld'
        clear hHeld'
        (try simp only [Act.put, List.setIfInBounds_toArray, List.set_cons_zero, List.set_cons_succ])
        obtain ⟨v71, hU71⟩ : ∃ u, u = v68.alloc (.cells #[.slice none 0 0] 63) := ⟨_, rfl⟩
        have hb71 : Below v68.heap.size v68 v71 := by rw [hU71]; exact (Below.refl _ _).alloc (Nat.le_refl _) _
        have n71 : v71.heap[v68.heap.size]? = some (.cells #[.slice none 0 0] 63 (0, 0)) := by rw [hU71]; exact heap_alloc_new _ _
        rw [← hU71]
        clear hU71
        have nlt := (Array.getElem?_eq_some_iff.1 p6_68).1
        have k0_71 := cell_later hb71 k0_68
        have k1_71 := cell_later hb71 k1_68
        have Y71 := Y68.trans (hb71.mono Y68.size)
        have HA_71 := HA_68.below hb71
        have HB_71 := HB_68.below hb71
        have X_71 := X_68.below hb71
        have R_71 := Q68.below hb71
        have p6_71 := (hb71.block (u0.heap.size) (Array.getElem?_eq_some_iff.1 p6_68).1).trans p6_68
        clear hb71
        refine wpAnyH_ready (rs := [5]) (by kernel_rfl) (by simp) ?_
        refine AllReadyH.cons (o := ?_) ?_ (fun K hK => ?_) AllReadyH.nil
        rotate_left
        ·(simp only [List.getElem?_toArray, List.getElem?_cons_zero, List.getElem?_cons_succ]; rfl)
        go_simp
        go_at_call 52
        refine (delayed_any _ _ _ q' 720 _ _ _ hn R_71).mono ?_
        rintro e v72 ⟨r72, d72, bs72, rfl, ho72, hb72⟩
        rw [prevK_sumK] at ho72
        have k0_72 := cell_later hb72 k0_71
        have k1_72 := cell_later hb72 k1_71
        have Y72 := Y71.trans (hb72.mono Y71.size)
        have HA_72 := HA_71.below hb72
        have HB_72 := HB_71.below hb72
        have X_72 := X_71.below hb72
        have p6_72 := (hb72.block (u0.heap.size) (Array.getElem?_eq_some_iff.1 p6_71).1).trans p6_71
        have p7_72 := (hb72.block (v68.heap.size) (Array.getElem?_eq_some_iff.1 n71).1).trans n71
        have Q72 := ho72.atC
        clear ho72 hb72
        (try go_wp2_with fail)
        refine hK.out _ _ ?_ (fun hHeld' => ?_)
        ·(try dsimp only)
         exact ⟨k0_72, k1_72⟩
        clear hK K hHeld
        have hHeld := hHeld'
        clear hHeld'
        (try simp only [Act.put, List.setIfInBounds_toArray, List.set_cons_zero, List.set_cons_succ])
        have e6 : v72.cell? ⟨u0.heap.size, 0, none⟩ = some (.slice none 0 0) := by rw [cell_of_row _ _ 0 _ _ (0, 0) p6_72]; rfl
        have g6 : v72.frozen? ⟨u0.heap.size, 0, none⟩ = false := frozen_of_row _ _ 0 _ _ p6_72
        have lt6 : W.heap.size ≤ u0.heap.size := Y0.size
        have lt7 : W.heap.size ≤ v68.heap.size := Y68.size
        have m7 : (v72.setCell ⟨u0.heap.size, 0, none⟩ (.slice r67 n d67)).heap[v68.heap.size]? = some (.cells #[.slice none 0 0] 63 (0, 0)) := (Below.heap_setCell _ ⟨u0.heap.size, 0, none⟩ _ _ (Nat.ne_of_gt nlt)).trans p7_72
        have e7 : (v72.setCell ⟨u0.heap.size, 0, none⟩ (.slice r67 n d67)).cell? ⟨v68.heap.size, 0, none⟩ = some (.slice none 0 0) := by rw [cell_of_row _ _ 0 _ _ (0, 0) m7]; rfl
        have g7 : (v72.setCell ⟨u0.heap.size, 0, none⟩ (.slice r67 n d67)).frozen? ⟨v68.heap.size, 0, none⟩ = false := frozen_of_row _ _ 0 _ _ m7
        refine wpAnyH_ready (rs := [8]) (by kernel_rfl) (by simp) ?_
        refine AllReadyH.cons (o := ?_) ?_ (fun K hK => ?_) AllReadyH.nil
        rotate_left
        ·(simp only [List.getElem?_toArray, List.getElem?_cons_zero, List.getElem?_cons_succ]; rfl)
        go_simp
        skip
        (try go_wp2_with fail)
        refine hK.out _ _ ?_ (fun hHeld' => ?_)
        ·(try dsimp only)
         exact ⟨keep_far k0_72 (by omega), keep_far k1_72 (by omega)⟩
        clear hK K hHeld
        have hHeld := hHeld'
        clear hHeld'
        (try simp only [Act.put, List.setIfInBounds_toArray, List.set_cons_zero, List.set_cons_succ])
        refine wpAnyH_ready (rs := [9]) (by kernel_rfl) (by simp) ?_
        refine AllReadyH.cons (o := ?_) ?_ (fun K hK => ?_) AllReadyH.nil
        rotate_left
        ·(simp only [List.getElem?_toArray, List.getElem?_cons_zero, List.getElem?_cons_succ]; rfl)
        go_simp
        skip
        (try go_wp2_with fail)
        refine hK.out _ _ ?_ (fun hHeld' => ?_)
        ·(try dsimp only)
         exact ⟨keep_far (keep_far k0_72 (by omega)) (by omega), keep_far (keep_far k1_72 (by omega)) (by omega)⟩
        clear hK K hHeld
        have hHeld := hHeld'
        clear hHeld'
        (try simp only [Act.put, List.setIfInBounds_toArray, List.set_cons_zero, List.set_cons_succ])
        refine wpAnyH_done (by kernel_rfl) ?_ _
        (try go_wp2_with fail)
        go_meet
        case rel =>
         exact ⟨u0.heap.size, v68.heap.size, r67, r72, d67, d72, bs67, bs72, rfl, rfl, keep_far (cell_set e6 _) (Nat.ne_of_lt nlt), cell_set e7 _, (X_72.box p6_72 (fun _ h => by cases h) _).box m7 (fun _ h => by cases h) _, (Q72.box p6_72 (fun _ h => by cases h) _).box m7 (fun _ h => by cases h) _, (Y72.setCell lt6 _).setCell lt7 _⟩
      refine AllReadyH.cons (o := ?_) ?_ (fun K hK => ?_) AllReadyH.nil
      rotate_left
      ·(simp only [List.getElem?_toArray, List.getElem?_cons_zero, List.getElem?_cons_succ]; rfl)
      ·go_simp
       (try go_wp2_with fail)
       refine hK.out _ _ ?_ (fun hHeld' => ?_)
       ·(try dsimp only)
        exact ⟨cell_later ((Below.refl _ _).alloc (Nat.le_refl _) _) k0_67, cell_later ((Below.refl _ _).alloc (Nat.le_refl _) _) k1_67⟩
       clear hK K hHeld
       have hHeld := hHeld'
       clear hHeld'
       (try simp only [Act.put, List.setIfInBounds_toArray, List.set_cons_zero, List.set_cons_succ])
       obtain ⟨v73, hU73⟩ : ∃ u, u = v67.alloc (.cells #[.slice none 0 0] 63) := ⟨_, rfl⟩
       have hb73 : Below v67.heap.size v67 v73 := by rw [hU73]; exact (Below.refl _ _).alloc (Nat.le_refl _) _
       have n73 : v73.heap[v67.heap.size]? = some (.cells #[.slice none 0 0] 63 (0, 0)) := by rw [hU73]; exact heap_alloc_new _ _
       rw [← hU73]
       clear hU73
       have nlt := (Array.getElem?_eq_some_iff.1 p6_67).1
       have k0_73 := cell_later hb73 k0_67
       have k1_73 := cell_later hb73 k1_67
       have Y73 := Y67.trans (hb73.mono Y67.size)
       have HA_73 := HA_67.below hb73
       have HB_73 := HB_67.below hb73
       have X_73 := Q67.below hb73
       have p6_73 := (hb73.block (u0.heap.size) (Array.getElem?_eq_some_iff.1 p6_67).1).trans p6_67
       clear hb73
       refine wpAnyH_ready (rs := [4]) (by kernel_rfl) (by simp) ?_
       refine AllReadyH.cons (o := ?_) ?_ (fun K hK => ?_) AllReadyH.nil
       rotate_left
       ·(simp only [List.getElem?_toArray, List.getElem?_cons_zero, List.getElem?_cons_succ]; rfl)
       go_simp
       go_at_call 53
       refine (runningSums_any _ _ _ q' g _ _ hn HLg.out HB_73).mono ?_
       rintro e v74 ⟨r74, d74, bs74, rfl, ho74, hb74⟩
       have k0_74 := cell_later hb74 k0_73
       have k1_74 := cell_later hb74 k1_73
       have Y74 := Y73.trans (hb74.mono Y73.size)
       have HA_74 := HA_73.below hb74
       have HB_74 := HB_73.below hb74
       have X_74 := X_73.below hb74
       have p6_74 := (hb74.block (u0.heap.size) (Array.getElem?_eq_some_iff.1 p6_73).1).trans p6_73
       have p7_74 := (hb74.block (v67.heap.size) (Array.getElem?_eq_some_iff.1 n73).1).trans n73
       have Q74 := ho74.atC
       clear ho74 hb74
       (try go_wp2_with fail)
       refine hK.out _ _ ?_ (fun hHeld' => ?_)
       ·(try dsimp only)
        exact ⟨k0_74, k1_74⟩
       clear hK K hHeld
       have hHeld := hHeld'
       clear hHeld'
       (try simp only [Act.put, List.setIfInBounds_toArray, List.set_cons_zero, List.set_cons_succ])
       refine wpAnyH_ready (rs := [5]) (by kernel_rfl) (by simp) ?_
       refine AllReadyH.cons (o := ?_) ?_ (fun K hK => ?_) AllReadyH.nil
       rotate_left
       ·(simp only [List.getElem?_toArray, List.getElem?_cons_zero, List.getElem?_cons_succ]; rfl)
       go_simp
       go_at_call 52
       refine (delayed_any _ _ _ q' 720 _ _ _ hn Q74).mono ?_
       rintro e v75 ⟨r75, d75, bs75, rfl, ho75, hb75⟩
       rw [prevK_sumK] at ho75
       have k0_75 := cell_later hb75 k0_74
       have k1_75 := cell_later hb75 k1_74
       have Y75 := Y74.trans (hb75.mono Y74.size)
       have HA_75 := HA_74.below hb75
       have HB_75 := HB_74.below hb75
       have X_75 := X_74.below hb75
       have p6_75 := (hb75.block (u0.heap.size) (Array.getElem?_eq_some_iff.1 p6_74).1).trans p6_74
       have p7_75 := (hb75.block (v67.heap.size) (Array.getElem?_eq_some_iff.1 p7_74).1).trans p7_74
       have Q75 := ho75.atC
       clear ho75 hb75
       (try go_wp2_with fail)
       refine hK.out _ _ ?_ (fun hHeld' => ?_)
       ·(try dsimp only)
        exact ⟨k0_75, k1_75⟩
       clear hK K hHeld
       have hHeld := hHeld'
       clear hHeld'
       (try simp only [Act.put, List.setIfInBounds_toArray, List.set_cons_zero, List.set_cons_succ])
       have e6 : v75.cell? ⟨u0.heap.size, 0, none⟩ = some (.slice none 0 0) := by rw [cell_of_row _ _ 0 _ _ (0, 0) p6_75]; rfl
       have g6 : v75.frozen? ⟨u0.heap.size, 0, none⟩ = false := frozen_of_row _ _ 0 _ _ p6_75
       have lt6 : W.heap.size ≤ u0.heap.size := Y0.size
       have lt7 : W.heap.size ≤ v67.heap.size := Y67.size
       have m7 : (v75.setCell ⟨u0.heap.size, 0, none⟩ (.slice r67 n d67)).heap[v67.heap.size]? = some (.cells #[.slice none 0 0] 63 (0, 0)) := (Below.heap_setCell _ ⟨u0.heap.size, 0, none⟩ _ _ (Nat.ne_of_gt nlt)).trans p7_75
       have e7 : (v75.setCell ⟨u0.heap.size, 0, none⟩ (.slice r67 n d67)).cell? ⟨v67.heap.size, 0, none⟩ = some (.slice none 0 0) := by rw [cell_of_row _ _ 0 _ _ (0, 0) m7]; rfl
       have g7 : (v75.setCell ⟨u0.heap.size, 0, none⟩ (.slice r67 n d67)).frozen? ⟨v67.heap.size, 0, none⟩ = false := frozen_of_row _ _ 0 _ _ m7
       refine wpAnyH_ready (rs := [8]) (by kernel_rfl) (by simp) ?_
       refine AllReadyH.cons (o := ?_) ?_ (fun K hK => ?_) AllReadyH.nil
       rotate_left
       ·(simp only [List.getElem?_toArray, List.getElem?_cons_zero, List.getElem?_cons_succ]; rfl)
       go_simp
       skip
       (try go_wp2_with fail)
       refine hK.out _ _ ?_ (fun hHeld' => ?_)
       ·(try dsimp only)
        exact ⟨keep_far k0_75 (by omega), keep_far k1_75 (by omega)⟩
       clear hK K hHeld
       have hHeld := hHeld'
       clear hHeld'
       (try simp only [Act.put, List.setIfInBounds_toArray, List.set_cons_zero, List.set_cons_succ])
       refine wpAnyH_ready (rs := [9]) (by kernel_rfl) (by simp) ?_
       refine AllReadyH.cons (o := ?_) ?_ (fun K hK => ?_) AllReadyH.nil
       rotate_left
       ·(simp only [List.getElem?_toArray, List.getElem?_cons_zero, List.getElem?_cons_succ]; rfl)
       go_simp
       skip
       (try go_wp2_with fail)
       refine hK.out _ _ ?_ (fun hHeld' => ?_)
       ·(try dsimp only)
        exact ⟨keep_far (keep_far k0_75 (by omega)) (by omega), keep_far (keep_far k1_75 (by omega)) (by omega)⟩
       clear hK K hHeld
       have hHeld := hHeld'
       clear hHeld'
       (try simp only [Act.put, List.setIfInBounds_toArray, List.set_cons_zero, List.set_cons_succ])
       refine wpAnyH_done (by kernel_rfl) ?_ _
       (try go_wp2_with fail)
       go_meet
       case rel =>
        exact ⟨u0.heap.size, v67.heap.size, r67, r75, d67, d75, bs67, bs75, rfl, rfl, keep_far (cell_set e6 _) (Nat.ne_of_lt nlt), cell_set e7 _, (X_75.box p6_75 (fun _ h => by cases h) _).box m7 (fun _ h => by cases h) _, (Q75.box p6_75 (fun _ h => by cases h) _).box m7 (fun _ h => by cases h) _, (Y75.setCell lt6 _).setCell lt7 _⟩
     refine AllReadyH.cons (o := ?_) ?_ (fun K hK => ?_) AllReadyH.nil
     rotate_left
     ·(simp only [List.getElem?_toArray, List.getElem?_cons_zero, List.getElem?_cons_succ]; rfl)
     ·go_simp
      (try go_wp2_with fail)
      refine hK.out _ _ ?_ (fun hHeld' => ?_)
      ·(try dsimp only)
       exact ⟨cell_later ((Below.refl _ _).alloc (Nat.le_refl _) _) k0_66, cell_later ((Below.refl _ _).alloc (Nat.le_refl _) _) k1_66⟩
      clear hK K hHeld
      have hHeld := hHeld'
      clear hHeld'
      (try simp only [Act.put, List.setIfInBounds_toArray, List.set_cons_zero, List.set_cons_succ])
      obtain ⟨v76, hU76⟩ : ∃ u, u = v66.alloc (.cells #[.slice none 0 0] 63) := ⟨_, rfl⟩
      have hb76 : Below v66.heap.size v66 v76 := by rw [hU76]; exact (Below.refl _ _).alloc (Nat.le_refl _) _
      have n76 : v76.heap[v66.heap.size]? = some (.cells #[.slice none 0 0] 63 (0, 0)) := by rw [hU76]; exact heap_alloc_new _ _
      rw [← hU76]
      clear hU76
      have nlt := (Array.getElem?_eq_some_iff.1 p6_66).1
      have k0_76 := cell_later hb76 k0_66
      have k1_76 := cell_later hb76 k1_66
      have Y76 := Y66.trans (hb76.mono Y66.size)
      have HA_76 := HA_66.below hb76
      have HB_76 := HB_66.below hb76
      have R_76 := Q66.below hb76
      have p6_76 := (hb76.block (u0.heap.size) (Array.getElem?_eq_some_iff.1 p6_66).1).trans p6_66
      clear hb76
      refine wpAnyH_ready (rs := [2]) (by kernel_rfl) (by simp) ?_
      refine AllReadyH.cons (o := ?_) ?_ (fun K hK => ?_) AllReadyH.nil
      rotate_left
      ·(simp only [List.getElem?_toArray, List.getElem?_cons_zero, List.getElem?_cons_succ]; rfl)
      go_simp
      go_at_call 52
      refine (delayed_any _ _ _ q 720 _ _ _ hn R_76).mono ?_
      rintro e v77 ⟨r77, d77, bs77, rfl, ho77, hb77⟩
      rw [prevK_sumK] at ho77
      have k0_77 := cell_later hb77 k0_76
      have k1_77 := cell_later hb77 k1_76
      have Y77 := Y76.trans (hb77.mono Y76.size)
      have HA_77 := HA_76.below hb77
      have HB_77 := HB_76.below hb77
      have p6_77 := (hb77.block (u0.heap.size) (Array.getElem?_eq_some_iff.1 p6_76).1).trans p6_76
      have p7_77 := (hb77.block (v66.heap.size) (Array.getElem?_eq_some_iff.1 n76).1).trans n76
      have Q77 := ho77.atC
      clear ho77 hb77
      (try go_wp2_with fail)
      refine hK.out _ _ ?_ (fun hHeld' => ?_)
      ·(try dsimp only)
       exact ⟨k0_77, k1_77⟩
      clear hK K hHeld
      have hHeld := hHeld'
      clear hHeld'
      (try simp only [Act.put, List.setIfInBounds_toArray, List.set_cons_zero, List.set_cons_succ])
      refine wpAnyH_ready (rs := [4]) (by kernel_rfl) (by simp) ?_
      refine AllReadyH.cons (o := ?_) ?_ (fun K hK => ?_) AllReadyH.nil
      rotate_left
      ·(simp only [List.getElem?_toArray, List.getElem?_cons_zero, List.getElem?_cons_succ]; rfl)
      go_simp
      go_at_call 53
      refine (runningSums_any _ _ _ q' g _ _ hn HLg.out HB_77).mono ?_
      rintro e v78 ⟨r78, d78, bs78, rfl, ho78, hb78⟩
      have k0_78 := cell_later hb78 k0_77
      have k1_78 := cell_later hb78 k1_77
      have Y78 := Y77.trans (hb78.mono Y77.size)
      have HA_78 := HA_77.below hb78
      have HB_78 := HB_77.below hb78
      have X_78 := Q77.below hb78
      have p6_78 := (hb78.block (u0.heap.size) (Array.getElem?_eq_some_iff.1 p6_77).1).trans p6_77
      have p7_78 := (hb78.block (v66.heap.size) (Array.getElem?_eq_some_iff.1 p7_77).1).trans p7_77
      have Q78 := ho78.atC
      clear ho78 hb78
      (try go_wp2_with fail)
      refine hK.out _ _ ?_ (fun hHeld' => ?_)
      ·(try dsimp only)
       exact ⟨k0_78, k1_78⟩
      clear hK K hHeld
      have hHeld := hHeld'
      clear hHeld'
      (try simp only [Act.put, List.setIfInBounds_toArray, List.set_cons_zero, List.set_cons_succ])
      refine wpAnyH_ready (rs := [5]) (by kernel_rfl) (by simp) ?_
      refine AllReadyH.cons (o := ?_) ?_ (fun K hK => ?_) AllReadyH.nil
      rotate_left
      ·(simp only [List.getElem?_toArray, List.getElem?_cons_zero, List.getElem?_cons_succ]; rfl)
      go_simp
      go_at_call 52
      refine (delayed_any _ _ _ q' 720 _ _ _ hn Q78).mono ?_
      rintro e v79 ⟨r79, d79, bs79, rfl, ho79, hb79⟩
      rw [prevK_sumK] at ho79
      have k0_79 := cell_later hb79 k0_78
      have k1_79 := cell_later hb79 k1_78
      have Y79 := Y78.trans (hb79.mono Y78.size)
      have HA_79 := HA_78.below hb79
      have HB_79 := HB_78.below hb79
      have X_79 := X_78.below hb79
      have p6_79 := (hb79.block (u0.heap.size) (Array.getElem?_eq_some_iff.1 p6_78).1).trans p6_78
      have p7_79 := (hb79.block (v66.heap.size) (Array.getElem?_eq_some_iff.1 p7_78).1).trans p7_78
      have Q79 := ho79.atC
      clear ho79 hb79
      (try go_wp2_with fail)
      refine hK.out _ _ ?_ (fun hHeld' => ?_)
      ·(try dsimp only)
       exact ⟨k0_79, k1_79⟩
      clear hK K hHeld
      have hHeld := hHeld'
      clear hHeld'
      (try simp only [Act.put, List.setIfInBounds_toArray, List.set_cons_zero, List.set_cons_succ])
      have e6 : v79.cell? ⟨u0.heap.size, 0, none⟩ = some (.slice none 0 0) := by rw [cell_of_row _ _ 0 _ _ (0, 0) p6_79]; rfl
      have g6 : v79.frozen? ⟨u0.heap.size, 0, none⟩ = false := frozen_of_row _ _ 0 _ _ p6_79
      have lt6 : W.heap.size ≤ u0.heap.size := Y0.size
      have lt7 : W.heap.size ≤ v66.heap.size := Y66.size
      have m7 : (v79.setCell ⟨u0.heap.size, 0, none⟩ (.slice r77 n d77)).heap[v66.heap.size]? = some (.cells #[.slice none 0 0] 63 (0, 0)) := (Below.heap_setCell _ ⟨u0.heap.size, 0, none⟩ _ _ (Nat.ne_of_gt nlt)).trans p7_79
      have e7 : (v79.setCell ⟨u0.heap.size, 0, none⟩ (.slice r77 n d77)).cell? ⟨v66.heap.size, 0, none⟩ = some (.slice none 0 0) := by rw [cell_of_row _ _ 0 _ _ (0, 0) m7]; rfl
      have g7 : (v79.setCell ⟨u0.heap.size, 0, none⟩ (.slice r77 n d77)).frozen? ⟨v66.heap.size, 0, none⟩ = false := frozen_of_row _ _ 0 _ _ m7
      refine wpAnyH_ready (rs := [8]) (by kernel_rfl) (by simp) ?_
      refine AllReadyH.cons (o := ?_) ?_ (fun K hK => ?_) AllReadyH.nil
      rotate_left
      ·(simp only [List.getElem?_toArray, List.getElem?_cons_zero, List.getElem?_cons_succ]; rfl)
      go_simp
      skip
      (try go_wp2_with fail)
      refine hK.out _ _ ?_ (fun hHeld' => ?_)
      ·(try dsimp only)
       exact ⟨keep_far k0_79 (by omega), keep_far k1_79 (by omega)⟩
      clear hK K hHeld
      have hHeld := hHeld'
      clear hHeld'
      (try simp only [Act.put, List.setIfInBounds_toArray, List.set_cons_zero, List.set_cons_succ])
      refine wpAnyH_ready (rs := [9]) (by kernel_rfl) (by simp) ?_
      refine AllReadyH.cons (o := ?_) ?_ (fun K hK => ?_) AllReadyH.nil
      rotate_left
      ·(simp only [List.getElem?_toArray, List.getElem?_cons_zero, List.getElem?_cons_succ]; rfl)
      go_simp
      skip
      (try go_wp2_with fail)
      refine hK.out _ _ ?_ (fun hHeld' => ?_)
      ·(try dsimp only)
       exact ⟨keep_far (keep_far k0_79 (by omega)) (by omega), keep_far (keep_far k1_79 (by omega)) (by omega)⟩
      clear hK K hHeld
      have hHeld := hHeld'
      clear hHeld'
      (try simp only [Act.put, List.setIfInBounds_toArray, List.set_cons_zero, List.set_cons_succ])
      refine wpAnyH_done (by kernel_rfl) ?_ _
      (try go_wp2_with fail)
      go_meet
      case rel =>
       exact ⟨u0.heap.size, v66.heap.size, r77, r79, d77, d79, bs77, bs79, rfl, rfl, keep_far (cell_set e6 _) (Nat.ne_of_lt nlt), cell_set e7 _, (X_79.box p6_79 (fun _ h => by cases h) _).box m7 (fun _ h => by cases h) _, (Q79.box p6_79 (fun _ h => by cases h) _).box m7 (fun _ h => by cases h) _, (Y79.setCell lt6 _).setCell lt7 _⟩
    refine AllReadyH.cons (o := ?_) ?_ (fun K hK => ?_) AllReadyH.nil
    rotate_left
    ·(simp only [List.getElem?_toArray, List.getElem?_cons_zero, List.getElem?_cons_succ]; rfl)
    ·go_simp
     (try go_wp2_with fail)
     refine hK.out _ _ ?_ (fun hHeld' => ?_)
     ·(try dsimp only)
      exact ⟨cell_later ((Below.refl _ _).alloc (Nat.le_refl _) _) k0_65, cell_later ((Below.refl _ _).alloc (Nat.le_refl _) _) k1_65⟩
     clear hK K hHeld
     have hHeld := hHeld'
     clear hHeld'
     (try simp only [Act.put, List.setIfInBounds_toArray, List.set_cons_zero, List.set_cons_succ])
     obtain ⟨v80, hU80⟩ : ∃ u, u = v65.alloc (.cells #[.slice none 0 0] 63) := ⟨_, rfl⟩
     have hb80 : Below v65.heap.size v65 v80 := by rw [hU80]; exact (Below.refl _ _).alloc (Nat.le_refl _) _
     have n80 : v80.heap[v65.heap.size]? = some (.cells #[.slice none 0 0] 63 (0, 0)) := by rw [hU80]; exact heap_alloc_new _ _
     rw [← hU80]
     clear hU80
     have nlt := (Array.getElem?_eq_some_iff.1 n65).1
     have k0_80 := cell_later hb80 k0_65
     have k1_80 := cell_later hb80 k1_65
     have Y80 := Y65.trans (hb80.mono Y65.size)
     have HA_80 := HA_65.below hb80
     have HB_80 := HB_65.below hb80
     have p6_80 := (hb80.block (u0.heap.size) (Array.getElem?_eq_some_iff.1 n65).1).trans n65
     clear hb80
     refine wpAnyH_ready (rs := [1]) (by kernel_rfl) (by simp) ?_
     refine AllReadyH.cons (o := ?_) ?_ (fun K hK => ?_) AllReadyH.nil
     rotate_left
     ·(simp only [List.getElem?_toArray, List.getElem?_cons_zero, List.getElem?_cons_succ]; rfl)
     go_simp
     go_at_call 53
     refine (runningSums_any _ _ _ q f _ _ hn HLf.out HA_80).mono ?_
     rintro e v81 ⟨r81, d81, bs81, rfl, ho81, hb81⟩
     have k0_81 := cell_later hb81 k0_80
     have k1_81 := cell_later hb81 k1_80
     have Y81 := Y80.trans (hb81.mono Y80.size)
     have HA_81 := HA_80.below hb81
     have HB_81 := HB_80.below hb81
     have p6_81 := (hb81.block (u0.heap.size) (Array.getElem?_eq_some_iff.1 p6_80).1).trans p6_80
     have p7_81 := (hb81.block (v65.heap.size) (Array.getElem?_eq_some_iff.1 n80).1).trans n80
     have Q81 := ho81.atC
     clear ho81 hb81
     (try go_wp2_with fail)
     refine hK.out _ _ ?_ (fun hHeld' => ?_)
     ·(try dsimp only)
      exact ⟨k0_81, k1_81⟩
     clear hK K hHeld
     have hHeld := hHeld'
     clear hHeld'
     (try simp only [Act.put, List.setIfInBounds_toArray, List.set_cons_zero, List.set_cons_succ])
     refine wpAnyH_ready (rs := [2]) (by kernel_rfl) (by simp) ?_
     refine AllReadyH.cons (o := ?_) ?_ (fun K hK => ?_) AllReadyH.nil
     rotate_left
     ·(simp only [List.getElem?_toArray, List.getElem?_cons_zero, List.getElem?_cons_succ]; rfl)
     go_simp
     go_at_call 52
     refine (delayed_any _ _ _ q 720 _ _ _ hn Q81).mono ?_
     rintro e v82 ⟨r82, d82, bs82, rfl, ho82, hb82⟩
     rw [prevK_sumK] at ho82
     have k0_82 := cell_later hb82 k0_81
     have k1_82 := cell_later hb82 k1_81
     have Y82 := Y81.trans (hb82.mono Y81.size)
     have HA_82 := HA_81.below hb82
     have HB_82 := HB_81.below hb82
     have p6_82 := (hb82.block (u0.heap.size) (Array.getElem?_eq_some_iff.1 p6_81).1).trans p6_81
     have p7_82 := (hb82.block (v65.heap.size) (Array.getElem?_eq_some_iff.1 p7_81).1).trans p7_81
     have Q82 := ho82.atC
     clear ho82 hb82
     (try go_wp2_with fail)
     refine hK.out _ _ ?_ (fun hHeld' => ?_)
     ·(try dsimp only)
      exact ⟨k0_82, k1_82⟩
     clear hK K hHeld
     have hHeld := hHeld'
     clear hHeld'
     (try simp only [Act.put, List.setIfInBounds_toArray, List.set_cons_zero, List.set_cons_succ])
     refine wpAnyH_ready (rs := [4]) (by kernel_rfl) (by simp) ?_
     refine AllReadyH.cons (o := ?_) ?_ (fun K hK => ?_) AllReadyH.nil
     rotate_left
     ·(simp only [List.getElem?_toArray, List.getElem?_cons_zero, List.getElem?_cons_succ]; rfl)
     go_simp
     go_at_call 53
     refine (runningSums_any _ _ _ q' g _ _ hn HLg.out HB_82).mono ?_
     rintro e v83 ⟨r83, d83, bs83, rfl, ho83, hb83⟩
     have k0_83 := cell_later hb83 k0_82
     have k1_83 := cell_later hb83 k1_82
     have Y83 := Y82.trans (hb83.mono Y82.size)
     have HA_83 := HA_82.below hb83
     have HB_83 := HB_82.below hb83
     have X_83 := Q82.below hb83
     have p6_83 := (hb83.block (u0.heap.size) (Array.getElem?_eq_some_iff.1 p6_82).1).trans p6_82
     have p7_83 := (hb83.block (v65.heap.size) (Array.getElem?_eq_some_iff.1 p7_82).1).trans p7_82
     have Q83 := ho83.atC
     clear ho83 hb83
     (try go_wp2_with fail)
     refine hK.out _ _ ?_ (fun hHeld' => ?_)
     ·(try dsimp only)
      exact ⟨k0_83, k1_83⟩
     clear hK K hHeld
     have hHeld := hHeld'
     clear hHeld'
     (try simp only [Act.put, List.setIfInBounds_toArray, List.set_cons_zero, List.set_cons_succ])
     refine wpAnyH_ready (rs := [5]) (by kernel_rfl) (by simp) ?_
     refine AllReadyH.cons (o := ?_) ?_ (fun K hK => ?_) AllReadyH.nil
     rotate_left
     ·(simp only [List.getElem?_toArray, List.getElem?_cons_zero, List.getElem?_cons_succ]; rfl)
     go_simp
     go_at_call 52
     refine (delayed_any _ _ _ q' 720 _ _ _ hn Q83).mono ?_
     rintro e v84 ⟨r84, d84, bs84, rfl, ho84, hb84⟩
     rw [prevK_sumK] at ho84
     have k0_84 := cell_later hb84 k0_83
     have k1_84 := cell_later hb84 k1_83
     have Y84 := Y83.trans (hb84.mono Y83.size)
     have HA_84 := HA_83.below hb84
     have HB_84 := HB_83.below hb84
     have X_84 := X_83.below hb84
     have p6_84 := (hb84.block (u0.heap.size) (Array.getElem?_eq_some_iff.1 p6_83).1).trans p6_83
     have p7_84 := (hb84.block (v65.heap.size) (Array.getElem?_eq_some_iff.1 p7_83).1).trans p7_83
     have Q84 := ho84.atC
     clear ho84 hb84
     (try go_wp2_with fail)
     refine hK.out _ _ ?_ (fun hHeld' => ?_)
     ·(try dsimp only)
      exact ⟨k0_84, k1_84⟩
     clear hK K hHeld
     have hHeld := hHeld'
     clear hHeld'
     (try simp only [Act.put, List.setIfInBounds_toArray, List.set_cons_zero, List.set_cons_succ])
     have e6 : v84.cell? ⟨u0.heap.size, 0, none⟩ = some (.slice none 0 0) := by rw [cell_of_row _ _ 0 _ _ (0, 0) p6_84]; rfl
     have g6 : v84.frozen? ⟨u0.heap.size, 0, none⟩ = false := frozen_of_row _ _ 0 _ _ p6_84
     have lt6 : W.heap.size ≤ u0.heap.size := Y0.size
     have lt7 : W.heap.size ≤ v65.heap.size := Y65.size
     have m7 : (v84.setCell ⟨u0.heap.size, 0, none⟩ (.slice r82 n d82)).heap[v65.heap.size]? = some (.cells #[.slice none 0 0] 63 (0, 0)) := (Below.heap_setCell _ ⟨u0.heap.size, 0, none⟩ _ _ (Nat.ne_of_gt nlt)).trans p7_84
     have e7 : (v84.setCell ⟨u0.heap.size, 0, none⟩ (.slice r82 n d82)).cell? ⟨v65.heap.size, 0, none⟩ = some (.slice none 0 0) := by rw [cell_of_row _ _ 0 _ _ (0, 0) m7]; rfl
     have g7 : (v84.setCell ⟨u0.heap.size, 0, none⟩ (.slice r82 n d82)).frozen? ⟨v65.heap.size, 0, none⟩ = false := frozen_of_row _ _ 0 _ _ m7
     refine wpAnyH_ready (rs := [8]) (by kernel_rfl) (by simp) ?_
     refine AllReadyH.cons (o := ?_) ?_ (fun K hK => ?_) AllReadyH.nil
     rotate_left
     ·(simp only [List.getElem?_toArray, List.getElem?_cons_zero, List.getElem?_cons_succ]; rfl)
     go_simp
     skip
     (try go_wp2_with fail)
     refine hK.out _ _ ?_ (fun hHeld' => ?_)
     ·(try dsimp only)
      exact ⟨keep_far k0_84 (by omega), keep_far k1_84 (by omega)⟩
     clear hK K hHeld
     have hHeld := hHeld'
     clear hHeld'
     (try simp only [Act.put, List.setIfInBounds_toArray, List.set_cons_zero, List.set_cons_succ])
     refine wpAnyH_ready (rs := [9]) (by kernel_rfl) (by simp) ?_
     refine AllReadyH.cons (o := ?_) ?_ (fun K hK => ?_) AllReadyH.nil
     rotate_left
     ·(simp only [List.getElem?_toArray, List.getElem?_cons_zero, List.getElem?_cons_succ]; rfl)
     go_simp
     skip
     (try go_wp2_with fail)
     refine hK.out _ _ ?_ (fun hHeld' => ?_)
     ·(try dsimp only)
      exact ⟨keep_far (keep_far k0_84 (by omega)) (by omega), keep_far (keep_far k1_84 (by omega)) (by omega)⟩
     clear hK K hHeld
     have hHeld := hHeld'
     clear hHeld'
     (try simp only [Act.put, List.setIfInBounds_toArray, List.set_cons_zero, List.set_cons_succ])
     refine wpAnyH_done (by kernel_rfl) ?_ _
     (try go_wp2_with fail)
     go_meet
     case rel =>
      exact ⟨u0.heap.size, v65.heap.size, r82, r84, d82, d84, bs82, bs84, rfl, rfl, keep_far (cell_set e6 _) (Nat.ne_of_lt nlt), cell_set e7 _, (X_84.box p6_84 (fun _ h => by cases h) _).box m7 (fun _ h => by cases h) _, (Q84.box p6_84 (fun _ h => by cases h) _).box m7 (fun _ h => by cases h) _, (Y84.setCell lt6 _).setCell lt7 _⟩
   refine AllReadyH.cons (o := ?_) ?_ (fun K hK => ?_) AllReadyH.nil
   rotate_left
   ·(simp only [List.getElem?_toArray, List.getElem?_cons_zero, List.getElem?_cons_succ]; rfl)
   ·go_simp
    (try go_wp2_with fail)
    refine hK.out _ _ ?_ (fun hHeld' => ?_)
    ·(try dsimp only)
     exact ⟨cell_later ((Below.refl _ _).alloc (Nat.le_refl _) _) k0_0, cell_later ((Below.refl _ _).alloc (Nat.le_refl _) _) k1_0⟩
    clear hK K hHeld
    have hHeld := hHeld'
    clear hHeld'
    (try simp only [Act.put, List.setIfInBounds_toArray, List.set_cons_zero, List.set_cons_succ])
    obtain ⟨v85, hU85⟩ : ∃ u, u = u0.alloc (.cells #[.slice none 0 0] 63) := ⟨_, rfl⟩
    have hb85 : Below u0.heap.size u0 v85 := by rw [hU85]; exact (Below.refl _ _).alloc (Nat.le_refl _) _
    have n85 : v85.heap[u0.heap.size]? = some (.cells #[.slice none 0 0] 63 (0, 0)) := by rw [hU85]; exact heap_alloc_new _ _
    rw [← hU85]
    clear hU85
    have k0_85 := cell_later hb85 k0_0
    have k1_85 := cell_later hb85 k1_0
    have Y85 := Y0.trans (hb85.mono Y0.size)
    have HA_85 := HA_0.below hb85
    have HB_85 := HB_0.below hb85
    clear hb85
    refine wpAnyH_ready (rs := [1, 6]) (by kernel_rfl) (by simp) ?_
    refine AllReadyH.cons (o := ?_) ?_ (fun K hK => ?_) ?_
    rotate_left
    ·(simp only [List.getElem?_toArray, List.getElem?_cons_zero, List.getElem?_cons_succ]; rfl)
    ·go_simp
     go_at_call 53
     refine (runningSums_any _ _ _ q f _ _ hn HLf.out HA_85).mono ?_
     rintro e v86 ⟨r86, d86, bs86, rfl, ho86, hb86⟩
     have k0_86 := cell_later hb86 k0_85
     have k1_86 := cell_later hb86 k1_85
     have Y86 := Y85.trans (hb86.mono Y85.size)
     have HA_86 := HA_85.below hb86
     have HB_86 := HB_85.below hb86
     have p7_86 := (hb86.block (u0.heap.size) (Array.getElem?_eq_some_iff.1 n85).1).trans n85
     have Q86 := ho86.atC
     clear ho86 hb86
     (try go_wp2_with fail)
     refine hK.out _ _ ?_ (fun hHeld' => ?_)
     ·(try dsimp only)
      exact ⟨k0_86, k1_86⟩
     clear hK K hHeld
     have hHeld := hHeld'
     clear hHeld'
     (try simp only [Act.put, List.setIfInBounds_toArray, List.set_cons_zero, List.set_cons_succ])
     refine wpAnyH_ready (rs := [2, 6]) (by kernel_rfl) (by simp) ?_
     refine AllReadyH.cons (o := ?_) ?_ (fun K hK => ?_) ?_
     rotate_left
     ·(simp only [List.getElem?_toArray, List.getElem?_cons_zero, List.getElem?_cons_succ]; rfl)
     ·go_simp
      go_at_call 52
      refine (delayed_any _ _ _ q 720 _ _ _ hn Q86).mono ?_
      rintro e v87 ⟨r87, d87, bs87, rfl, ho87, hb87⟩
      rw [prevK_sumK] at ho87
      have k0_87 := cell_later hb87 k0_86
      have k1_87 := cell_later hb87 k1_86
      have Y87 := Y86.trans (hb87.mono Y86.size)
      have HA_87 := HA_86.below hb87
      have HB_87 := HB_86.below hb87
      have p7_87 := (hb87.block (u0.heap.size) (Array.getElem?_eq_some_iff.1 p7_86).1).trans p7_86
      have Q87 := ho87.atC
      clear ho87 hb87
      (try go_wp2_with fail)
      refine hK.out _ _ ?_ (fun hHeld' => ?_)
      ·(try dsimp only)
       exact ⟨k0_87, k1_87⟩
      clear hK K hHeld
      have hHeld := hHeld'
      clear hHeld'
      (try simp only [Act.put, List.setIfInBounds_toArray, List.set_cons_zero, List.set_cons_succ])
      refine wpAnyH_ready (rs := [4, 6]) (by kernel_rfl) (by simp) ?_
      refine AllReadyH.cons (o := ?_) ?_ (fun K hK => ?_) ?_
      rotate_left
      ·(simp only [List.getElem?_toArray, List.getElem?_cons_zero, List.getElem?_cons_succ]; rfl)
      ·go_simp
       go_at_call 53
       refine (runningSums_any _ _ _ q' g _ _ hn HLg.out HB_87).mono ?_
       rintro e v88 ⟨r88, d88, bs88, rfl, ho88, hb88⟩
       have k0_88 := cell_later hb88 k0_87
       have k1_88 := cell_later hb88 k1_87
       have Y88 := Y87.trans (hb88.mono Y87.size)
       have HA_88 := HA_87.below hb88
       have HB_88 := HB_87.below hb88
       have X_88 := Q87.below hb88
       have p7_88 := (hb88.block (u0.heap.size) (Array.getElem?_eq_some_iff.1 p7_87).1).trans p7_87
       have Q88 := ho88.atC
       clear ho88 hb88
       (try go_wp2_with fail)
       refine hK.out _ _ ?_ (fun hHeld' => ?_)
       ·(try dsimp only)
        exact ⟨k0_88, k1_88⟩
       clear hK K hHeld
       have hHeld := hHeld'
       clear hHeld'
       (try simp only [Act.put, List.setIfInBounds_toArray, List.set_cons_zero, List.set_cons_succ])
       refine wpAnyH_ready (rs := [5, 6]) (by kernel_rfl) (by simp) ?_
       refine AllReadyH.cons (o := ?_) ?_ (fun K hK => ?_) ?_
       rotate_left
       ·(simp only [List.getElem?_toArray, List.getElem?_cons_zero, List.getElem?_cons_succ]; rfl)
       ·go_simp
        go_at_call 52
        refine (delayed_any _ _ _ q' 720 _ _ _ hn Q88).mono ?_
        rintro e v89 ⟨r89, d89, bs89, rfl, ho89, hb89⟩
        rw [prevK_sumK] at ho89
        have k0_89 := cell_later hb89 k0_88
        have k1_89 := cell_later hb89 k1_88
        have Y89 := Y88.trans (hb89.mono Y88.size)
        have HA_89 := HA_88.below hb89
        have HB_89 := HB_88.below hb89
        have X_89 := X_88.below hb89
        have p7_89 := (hb89.block (u0.heap.size) (Array.getElem?_eq_some_iff.1 p7_88).1).trans p7_88
        have Q89 := ho89.atC
        clear ho89 hb89
        (try go_wp2_with fail)
        refine hK.out _ _ ?_ (fun hHeld' => ?_)
        ·(try dsimp only)
         exact ⟨k0_89, k1_89⟩
        clear hK K hHeld
        have hHeld := hHeld'
        clear hHeld'
        (try simp only [Act.put, List.setIfInBounds_toArray, List.set_cons_zero, List.set_cons_succ])
        refine wpAnyH_ready (rs := [6]) (by kernel_rfl) (by simp) ?_
        refine AllReadyH.cons (o := ?_) ?_ (fun K hK => ?_) AllReadyH.nil
        rotate_left
        ·(simp only [List.getElem?_toArray, List.getElem?_cons_zero, List.getElem?_cons_succ]; rfl)
        go_simp
        (try go_wp2_with fail)
        refine hK.out _ _ ?_ (fun hHeld' => ?_)
        ·(try dsimp only)
         exact ⟨cell_later ((Below.refl _ _).alloc (Nat.le_refl _) _) k0_89, cell_later ((Below.refl _ _).alloc (Nat.le_refl _) _) k1_89⟩
        clear hK K hHeld
        have hHeld := hHeld'
        clear hHeld'
        (try simp only [Act.put, List.setIfInBounds_toArray, List.set_cons_zero, List.set_cons_succ])
        obtain ⟨v90, hU90⟩ : ∃ u, u = v89.alloc (.cells #[.slice none 0 0] 63) := ⟨_, rfl⟩
        have hb90 : Below v89.heap.size v89 v90 := by rw [hU90]; exact (Below.refl _ _).alloc (Nat.le_refl _) _
        have n90 : v90.heap[v89.heap.size]? = some (.cells #[.slice none 0 0] 63 (0, 0)) := by rw [hU90]; exact heap_alloc_new _ _
        rw [← hU90]
        clear hU90
        have nlt := (Array.getElem?_eq_some_iff.1 p7_89).1
        have k0_90 := cell_later hb90 k0_89
        have k1_90 := cell_later hb90 k1_89
        have Y90 := Y89.trans (hb90.mono Y89.size)
        have HA_90 := HA_89.below hb90
        have HB_90 := HB_89.below hb90
        have X_90 := X_89.below hb90
        have Z_90 := Q89.below hb90
        have p7_90 := (hb90.block (u0.heap.size) (Array.getElem?_eq_some_iff.1 p7_89).1).trans p7_89
        clear hb90
        have e6 : v90.cell? ⟨v89.heap.size, 0, none⟩ = some (.slice none 0 0) := by rw [cell_of_row _ _ 0 _ _ (0, 0) n90]; rfl
        have g6 : v90.frozen? ⟨v89.heap.size, 0, none⟩ = false := frozen_of_row _ _ 0 _ _ n90
        have lt6 : W.heap.size ≤ v89.heap.size := Y89.size
        have lt7 : W.heap.size ≤ u0.heap.size := Y0.size
        have m7 : (v90.setCell ⟨v89.heap.size, 0, none⟩ (.slice r87 n d87)).heap[u0.heap.size]? = some (.cells #[.slice none 0 0] 63 (0, 0)) := (Below.heap_setCell _ ⟨v89.heap.size, 0, none⟩ _ _ (Nat.ne_of_lt nlt)).trans p7_90
        have e7 : (v90.setCell ⟨v89.heap.size, 0, none⟩ (.slice r87 n d87)).cell? ⟨u0.heap.size, 0, none⟩ = some (.slice none 0 0) := by rw [cell_of_row _ _ 0 _ _ (0, 0) m7]; rfl
        have g7 : (v90.setCell ⟨v89.heap.size, 0, none⟩ (.slice r87 n d87)).frozen? ⟨u0.heap.size, 0, none⟩ = false := frozen_of_row _ _ 0 _ _ m7
        refine wpAnyH_ready (rs := [8]) (by kernel_rfl) (by simp) ?_
        refine AllReadyH.cons (o := ?_) ?_ (fun K hK => ?_) AllReadyH.nil
        rotate_left
        ·(simp only [List.getElem?_toArray, List.getElem?_cons_zero, List.getElem?_cons_succ]; rfl)
        go_simp
        skip
        (try go_wp2_with fail)
        refine hK.out _ _ ?_ (fun hHeld' => ?_)
        ·(try dsimp only)
         exact ⟨keep_far k0_90 (by omega), keep_far k1_90 (by omega)⟩
        clear hK K hHeld
        have hHeld := hHeld'
        clear hHeld'
        (try simp only [Act.put, List.setIfInBounds_toArray, List.set_cons_zero, List.set_cons_succ])
        refine wpAnyH_ready (rs := [9]) (by kernel_rfl) (by simp) ?_
        refine AllReadyH.cons (o := ?_) ?_ (fun K hK => ?_) AllReadyH.nil
        rotate_left
        ·(simp only [List.getElem?_toArray, List.getElem?_cons_zero, List.getElem?_cons_succ]; rfl)
        go_simp
        skip
        (try go_wp2_with fail)
        refine hK.out _ _ ?_ (fun hHeld' => ?_)
        ·(try dsimp only)
         exact ⟨keep_far (keep_far k0_90 (by omega)) (by omega), keep_far (keep_far k1_90 (by omega)) (by omega)⟩
        clear hK K hHeld
        have hHeld := hHeld'
        clear hHeld'
        (try simp only [Act.put, List.setIfInBounds_toArray, List.set_cons_zero, List.set_cons_succ])
        refine wpAnyH_done (by kernel_rfl) ?_ _
        (try go_wp2_with fail)
        go_meet
        case rel =>
         exact ⟨v89.heap.size, u0.heap.size, r87, r89, d87, d89, bs87, bs89, rfl, rfl, keep_far (cell_set e6 _) (Nat.ne_of_gt nlt), cell_set e7 _, (X_90.box n90 (fun _ h => by cases h) _).box m7 (fun _ h => by cases h) _, (Z_90.box n90 (fun _ h => by cases h) _).box m7 (fun _ h => by cases h) _, (Y90.setCell lt6 _).setCell lt7 _⟩
       refine AllReadyH.cons (o := ?_) ?_ (fun K hK => ?_) AllReadyH.nil
       rotate_left
       ·(simp only [List.getElem?_toArray, List.getElem?_cons_zero, List.getElem?_cons_succ]; rfl)
       ·go_simp
        (try go_wp2_with fail)
        refine hK.out _ _ ?_ (fun hHeld' => ?_)
        ·(try dsimp only)
         exact ⟨cell_later ((Below.refl _ _).alloc (Nat.le_refl _) _) k0_88, cell_later ((Below.refl _ _).alloc (Nat.le_refl _) _) k1_88⟩
        clear hK K hHeld
        have hHeld := hHeld'
        clear hHeld'
        (try simp only [Act.put, List.setIfInBounds_toArray, List.set_cons_zero, List.set_cons_succ])
        obtain ⟨v91, hU91⟩ : ∃ u, u = v88.alloc (.cells #[.slice none 0 0] 63) := ⟨_, rfl⟩
        have hb91 : Below v88.heap.size v88 v91 := by rw [hU91]; exact (Below.refl _ _).alloc (Nat.le_refl _) _
        have n91 : v91.heap[v88.heap.size]? = some (.cells #[.slice none 0 0] 63 (0, 0)) := by rw [hU91]; exact heap_alloc_new _ _
        rw [← hU91]
        clear hU91
        have nlt := (Array.getElem?_eq_some_iff.1 p7_88).1
        have k0_91 := cell_later hb91 k0_88
        have k1_91 := cell_later hb91 k1_88
        have Y91 := Y88.trans (hb91.mono Y88.size)
        have HA_91 := HA_88.below hb91
        have HB_91 := HB_88.below hb91
        have X_91 := X_88.below hb91
        have R_91 := Q88.below hb91
        have p7_91 := (hb91.block (u0.heap.size) (Array.getElem?_eq_some_iff.1 p7_88).1).trans p7_88
        clear hb91
        refine wpAnyH_ready (rs := [5]) (by kernel_rfl) (by simp) ?_
        refine AllReadyH.cons (o := ?_) ?_ (fun K hK => ?_) AllReadyH.nil
        rotate_left
        ·(simp only [List.getElem?_toArray, List.getElem?_cons_zero, List.getElem?_cons_succ]; rfl)
        go_simp
        go_at_call 52
        refine (delayed_any _ _ _ q' 720 _ _ _ hn R_91).mono ?_
        rintro e v92 ⟨r92, d92, bs92, rfl, ho92, hb92⟩
        rw [prevK_sumK] at ho92
        have k0_92 := cell_later hb92 k0_91
        have k1_92 := cell_later hb92 k1_91
        have Y92 := Y91.trans (hb92.mono Y91.size)
        have HA_92 := HA_91.below hb92
        have HB_92 := HB_91.below hb92
        have X_92 := X_91.below hb92
        have p7_92 := (hb92.block (u0.heap.size) (Array.getElem?_eq_some_iff.1 p7_91).1).trans p7_91
        have p6_92 := (hb92.block (v88.heap.size) (Array.getElem?_eq_some_iff.1 n91).1).trans n91
        have Q92 := ho92.atC
        clear ho92 hb92
        (try go_wp2_with fail)
        refine hK.out _ _ ?_ (fun hHeld' => ?_)
        ·(try dsimp only)
         exact ⟨k0_92, k1_92⟩
        clear hK K hHeld
        have hHeld := hHeld'
        clear hHeld'
        (try simp only [Act.put, List.setIfInBounds_toArray, List.set_cons_zero, List.set_cons_succ])
        have e6 : v92.cell? ⟨v88.heap.size, 0, none⟩ = some (.slice none 0 0) := by rw [cell_of_row _ _ 0 _ _ (0, 0) p6_92]; rfl
        have g6 : v92.frozen? ⟨v88.heap.size, 0, none⟩ = false := frozen_of_row _ _ 0 _ _ p6_92
        have lt6 : W.heap.size ≤ v88.heap.size := Y88.size
        have lt7 : W.heap.size ≤ u0.heap.size := Y0.size
        have m7 : (v92.setCell ⟨v88.heap.size, 0, none⟩ (.slice r87 n d87)).heap[u0.heap.size]? = some (.cells #[.slice none 0 0] 63 (0, 0)) := (Below.heap_setCell _ ⟨v88.heap.size, 0, none⟩ _ _ (Nat.ne_of_lt nlt)).trans p7_92
        have e7 : (v92.setCell ⟨v88.heap.size, 0, none⟩ (.slice r87 n d87)).cell? ⟨u0.heap.size, 0, none⟩ = some (.slice none 0 0) := by rw [cell_of_row _ _ 0 _ _ (0, 0) m7]; rfl
        have g7 : (v92.setCell ⟨v88.heap.size, 0, none⟩ (.slice r87 n d87)).frozen? ⟨u0.heap.size, 0, none⟩ = false := frozen_of_row _ _ 0 _ _ m7
        refine wpAnyH_ready (rs := [8]) (by kernel_rfl) (by simp) ?_
        refine AllReadyH.cons (o := ?_) ?_ (fun K hK => ?_) AllReadyH.nil
        rotate_left
        ·(simp only [List.getElem?_toArray, List.getElem?_cons_zero, List.getElem?_cons_succ]; rfl)
        go_simp
        skip
        (try go_wp2_with fail)
        refine hK.out _ _ ?_ (fun hHeld' => ?_)
        ·(try dsimp only)
         exact ⟨keep_far k0_92 (by omega), keep_far k1_92 (by omega)⟩
        clear hK K hHeld
        have hHeld := hHeld'
        clear hHeld'
        (try simp only [Act.put, List.setIfInBounds_toArray, List.set_cons_zero, List.set_cons_succ])
        refine wpAnyH_ready (rs := [9]) (by kernel_rfl) (by simp) ?_
        refine AllReadyH.cons (o := ?_) ?_ (fun K hK => ?_) AllReadyH.nil
        rotate_left
        ·(simp only [List.getElem?_toArray, List.getElem?_cons_zero, List.getElem?_cons_succ]; rfl)
        go_simp
        skip
        (try go_wp2_with fail)
        refine hK.out _ _ ?_ (fun hHeld' => ?_)
        ·(try dsimp only)
         exact ⟨keep_far (keep_far k0_92 (by omega)) (by omega), keep_far (keep_far k1_92 (by omega)) (by omega)⟩
        clear hK K hHeld
        have hHeld := hHeld'
        clear hHeld'
        (try simp only [Act.put, List.setIfInBounds_toArray, List.set_cons_zero, List.set_cons_succ])
        refine wpAnyH_done (by kernel_rfl) ?_ _
        (try go_wp2_with fail)
        go_meet
        case rel =>
         exact ⟨v88.heap.size, u0.heap.size, r87, r92, d87, d92, bs87, bs92, rfl, rfl, keep_far (cell_set e6 _) (Nat.ne_of_gt nlt), cell_set e7 _, (X_92.box p6_92 (fun _ h => by cases h) _).box m7 (fun _ h => by cases h) _, (Q92.box p6_92 (fun _ h => by cases h) _).box m7 (fun _ h => by cases h) _, (Y92.setCell lt6 _).setCell lt7 _⟩
      refine AllReadyH.cons (o := ?_) ?_ (fun K hK => ?_) AllReadyH.nil
      rotate_left
      ·(simp only [List.getElem?_toArray, List.getElem?_cons_zero, List.getElem?_cons_succ]; rfl)
      ·go_simp
       (try go_wp2_with fail)
       refine hK.out _ _ ?_ (fun hHeld' => ?_)
       ·(try dsimp only)
        exact ⟨cell_later ((Below.refl _ _).alloc (Nat.le_refl _) _) k0_87, cell_later ((Below.refl _ _).alloc (Nat.le_refl _) _) k1_87⟩
       clear hK K hHeld
       have hHeld := hHeld'
       clear hHeld'
       (try simp only [Act.put, List.setIfInBounds_toArray, List.set_cons_zero, List.set_cons_succ])
       obtain ⟨v93, hU93⟩ : ∃ u, u = v87.alloc (.cells #[.slice none 0 0] 63) := ⟨_, rfl⟩
       have hb93 : Below v87.heap.size v87 v93 := by rw [hU93]; exact (Below.refl _ _).alloc (Nat.le_refl _) _
       have n93 : v93.heap[v87.heap.size]? = some (.cells #[.slice none 0 0] 63 (0, 0)) := by rw [hU93]; exact heap_alloc_new _ _
       rw [← hU93]
       clear hU93
       have nlt := (Array.getElem?_eq_some_iff.1 p7_87).1
       have k0_93 := cell_later hb93 k0_87
       have k1_93 := cell_later hb93 k1_87
       have Y93 := Y87.trans (hb93.mono Y87.size)
       have HA_93 := HA_87.below hb93
       have HB_93 := HB_87.below hb93
       have X_93 := Q87.below hb93
       have p7_93 := (hb93.block (u0.heap.size) (Array.getElem?_eq_some_iff.1 p7_87).1).trans p7_87
       clear hb93
       refine wpAnyH_ready (rs := [4]) (by kernel_rfl) (by simp) ?_
       refine AllReadyH.cons (o := ?_) ?_ (fun K hK => ?_) AllReadyH.nil
       rotate_left
       ·(simp only [List.getElem?_toArray, List.getElem?_cons_zero, List.getElem?_cons_succ]; rfl)
       go_simp
       go_at_call 53
       refine (runningSums_any _ _ _ q' g _ _ hn HLg.out HB_93).mono ?_
       rintro e v94 ⟨r94, d94, bs94, rfl, ho94, hb94⟩
       have k0_94 := cell_later hb94 k0_93
       have k1_94 := cell_later hb94 k1_93
       have Y94 := Y93.trans (hb94.mono Y93.size)
       have HA_94 := HA_93.below hb94
       have HB_94 := HB_93.below hb94
       have X_94 := X_93.below hb94
       have p7_94 := (hb94.block (u0.heap.size) (Array.getElem?_eq_some_iff.1 p7_93).1).trans p7_93
       have p6_94 := (hb94.block (v87.heap.size) (Array.getElem?_eq_some_iff.1 n93).1).trans n93
       have Q94 := ho94.atC
       clear ho94 hb94
       (try go_wp2_with fail)
       refine hK.out _ _ ?_ (fun hHeld' => ?_)
       ·(try dsimp only)
        exact ⟨k0_94, k1_94⟩
       clear hK K hHeld
       have hHeld := hHeld'
       clear hHeld'
       (try simp only [Act.put, List.setIfInBounds_toArray, List.set_cons_zero, List.set_cons_succ])
       refine wpAnyH_ready (rs := [5]) (by kernel_rfl) (by simp) ?_
       refine AllReadyH.cons (o := ?_) ?_ (fun K hK => ?_) AllReadyH.nil
       rotate_left
       ·(simp only [List.getElem?_toArray, List.getElem?_cons_zero, List.getElem?_cons_succ]; rfl)
       go_simp
       go_at_call 52
       refine (delayed_any _ _ _ q' 720 _ _ _ hn Q94).mono ?_
       rintro e v95 ⟨r95, d95, bs95, rfl, ho95, hb95⟩
       rw [prevK_sumK] at ho95
       have k0_95 := cell_later hb95 k0_94
       have k1_95 := cell_later hb95 k1_94
       have Y95 := Y94.trans (hb95.mono Y94.size)
       have HA_95 := HA_94.below hb95
       have HB_95 := HB_94.below hb95
       have X_95 := X_94.below hb95
       have p7_95 := (hb95.block (u0.heap.size) (Array.getElem?_eq_some_iff.1 p7_94).1).trans p7_94
       have p6_95 := (hb95.block (v87.heap.size) (Array.getElem?_eq_some_iff.1 p6_94).1).trans p6_94
       have Q95 := ho95.atC
       clear ho95 hb95
       (try go_wp2_with fail)
       refine hK.out _ _ ?_ (fun hHeld' => ?_)
       ·(try dsimp only)
        exact ⟨k0_95, k1_95⟩
       clear hK K hHeld
       have hHeld := hHeld'
       clear hHeld'
       (try simp only [Act.put, List.setIfInBounds_toArray, List.set_cons_zero, List.set_cons_succ])
       have e6 : v95.cell? ⟨v87.heap.size, 0, none⟩ = some (.slice none 0 0) := by rw [cell_of_row _ _ 0 _ _ (0, 0) p6_95]; rfl
       have g6 : v95.frozen? ⟨v87.heap.size, 0, none⟩ = false := frozen_of_row _ _ 0 _ _ p6_95
       have lt6 : W.heap.size ≤ v87.heap.size := Y87.size
       have lt7 : W.heap.size ≤ u0.heap.size := Y0.size
       have m7 : (v95.setCell ⟨v87.heap.size, 0, none⟩ (.slice r87 n d87)).heap[u0.heap.size]? = some (.cells #[.slice none 0 0] 63 (0, 0)) := (Below.heap_setCell _ ⟨v87.heap.size, 0, none⟩ _ _ (Nat.ne_of_lt nlt)).trans p7_95
       have e7 : (v95.setCell ⟨v87.heap.size, 0, none⟩ (.slice r87 n d87)).cell? ⟨u0.heap.size, 0, none⟩ = some (.slice none 0 0) := by rw [cell_of_row _ _ 0 _ _ (0, 0) m7]; rfl
       have g7 : (v95.setCell ⟨v87.heap.size, 0, none⟩ (.slice r87 n d87)).frozen? ⟨u0.heap.size, 0, none⟩ = false := frozen_of_row _ _ 0 _ _ m7
       refine wpAnyH_ready (rs := [8]) (by kernel_rfl) (by simp) ?_
       refine AllReadyH.cons (o := ?_) ?_ (fun K hK => ?_) AllReadyH.nil
       rotate_left
       ·(simp only [List.getElem?_toArray, List.getElem?_cons_zero, List.getElem?_cons_succ]; rfl)
       go_simp
       skip
       (try go_wp2_with fail)
       refine hK.out _ _ ?_ (fun hHeld' => ?_)
       ·(try dsimp only)
        exact ⟨keep_far k0_95 (by omega), keep_far k1_95 (by omega)⟩
       clear hK K hHeld
       have hHeld := hHeld'
       clear hHeld'
       (try simp only [Act.put, List.setIfInBounds_toArray, List.set_cons_zero, List.set_cons_succ])
       refine wpAnyH_ready (rs := [9]) (by kernel_rfl) (by simp) ?_
       refine AllReadyH.cons (o := ?_) ?_ (fun K hK => ?_) AllReadyH.nil
       rotate_left
       ·(simp only [List.getElem?_toArray, List.getElem?_cons_zero, List.getElem?_cons_succ]; rfl)
       go_simp
       skip
       (try go_wp2_with fail)
       refine hK.out _ _ ?_ (fun hHeld' => ?_)
       ·(try dsimp only)
        exact ⟨keep_far (keep_far k0_95 (by omega)) (by omega), keep_far (keep_far k1_95 (by omega)) (by omega)⟩
       clear hK K hHeld
       have hHeld := hHeld'
       clear hHeld'
       (try simp only [Act.put, List.setIfInBounds_toArray, List.set_cons_zero, List.set_cons_succ])
       refine wpAnyH_done (by kernel_rfl) ?_ _
       (try go_wp2_with fail)
       go_meet
       case rel =>
        exact ⟨v87.heap.size, u0.heap.size, r87, r95, d87, d95, bs87, bs95, rfl, rfl, keep_far (cell_set e6 _) (Nat.ne_of_gt nlt), cell_set e7 _, (X_95.box p6_95 (fun _ h => by cases h) _).box m7 (fun _ h => by cases h) _, (Q95.box p6_95 (fun _ h => by cases h) _).box m7 (fun _ h => by cases h) _, (Y95.setCell lt6 _).setCell lt7 _⟩
     refine AllReadyH.cons (o := ?_) ?_ (fun K hK => ?_) AllReadyH.nil
     rotate_left
     ·(simp only [List.getElem?_toArray, List.getElem?_cons_zero, List.getElem?_cons_succ]; rfl)
     ·go_simp
      (try go_wp2_with fail)
      refine hK.out _ _ ?_ (fun hHeld' => ?_)
      ·(try dsimp only)
       exact ⟨cell_later ((Below.refl _ _).alloc (Nat.le_refl _) _) k0_86, cell_later ((Below.refl _ _).alloc (Nat.le_refl _) _) k1_86⟩
      clear hK K hHeld
      have hHeld := hHeld'
      clear hHeld'
      (try simp only [Act.put, List.setIfInBounds_toArray, List.set_cons_zero, List.set_cons_succ])
      obtain ⟨v96, hU96⟩ : ∃ u, u = v86.alloc (.cells #[.slice none 0 0] 63) := ⟨_, rfl⟩
      have hb96 : Below v86.heap.size v86 v96 := by rw [hU96]; exact (Below.refl _ _).alloc (Nat.le_refl _) _
      have n96 : v96.heap[v86.heap.size]? = some (.cells #[.slice none 0 0] 63 (0, 0)) := by rw [hU96]; exact heap_alloc_new _ _
      rw [← hU96]
      clear hU96
      have nlt := (Array.getElem?_eq_some_iff.1 p7_86).1
      have k0_96 := cell_later hb96 k0_86
      have k1_96 := cell_later hb96 k1_86
      have Y96 := Y86.trans (hb96.mono Y86.size)
      have HA_96 := HA_86.below hb96
      have HB_96 := HB_86.below hb96
      have R_96 := Q86.below hb96
      have p7_96 := (hb96.block (u0.heap.size) (Array.getElem?_eq_some_iff.1 p7_86).1).trans p7_86
      clear hb96
      refine wpAnyH_ready (rs := [2]) (by kernel_rfl) (by simp) ?_
      refine AllReadyH.cons (o := ?_) ?_ (fun K hK => ?_) AllReadyH.nil
      rotate_left
      ·(simp only [List.getElem?_toArray, List.getElem?_cons_zero, List.getElem?_cons_succ]; rfl)
      go_simp
      go_at_call 52
      refine (delayed_any _ _ _ q 720 _ _ _ hn R_96).mono ?_
      rintro e v97 ⟨r97, d97, bs97, rfl, ho97, hb97⟩
      rw [prevK_sumK] at ho97
      have k0_97 := cell_later hb97 k0_96
      have k1_97 := cell_later hb97 k1_96
      have Y97 := Y96.trans (hb97.mono Y96.size)
      have HA_97 := HA_96.below hb97
      have HB_97 := HB_96.below hb97
      have p7_97 := (hb97.block (u0.heap.size) (Array.getElem?_eq_some_iff.1 p7_96).1).trans p7_96
      have p6_97 := (hb97.block (v86.heap.size) (Array.getElem?_eq_some_iff.1 n96).1).trans n96
      have Q97 := ho97.atC
      clear ho97 hb97
      (try go_wp2_with fail)
      refine hK.out _ _ ?_ (fun hHeld' => ?_)
      ·(try dsimp only)
       exact ⟨k0_97, k1_97⟩
      clear hK K hHeld
      have hHeld := hHeld'
      clear hHeld'
      (try simp only [Act.put, List.setIfInBounds_toArray, List.set_cons_zero, List.set_cons_succ])
      refine wpAnyH_ready (rs := [4]) (by kernel_rfl) (by simp) ?_
      refine AllReadyH.cons (o := ?_) ?_ (fun K hK => ?_) AllReadyH.nil
      rotate_left
      ·(simp only [List.getElem?_toArray, List.getElem?_cons_zero, List.getElem?_cons_succ]; rfl)
      go_simp
      go_at_call 53
      refine (runningSums_any _ _ _ q' g _ _ hn HLg.out HB_97).mono ?_
      rintro e v98 ⟨r98, d98, bs98, rfl, ho98, hb98⟩
      have k0_98 := cell_later hb98 k0_97
      have k1_98 := cell_later hb98 k1_97
      have Y98 := Y97.trans (hb98.mono Y97.size)
      have HA_98 := HA_97.below hb98
      have HB_98 := HB_97.below hb98
      have X_98 := Q97.below hb98
      have p7_98 := (hb98.block (u0.heap.size) (Array.getElem?_eq_some_iff.1 p7_97).1).trans p7_97
      have p6_98 := (hb98.block (v86.heap.size) (Array.getElem?_eq_some_iff.1 p6_97).1).trans p6_97
      have Q98 := ho98.atC
      clear ho98 hb98
      (try go_wp2_with fail)
      refine hK.out _ _ ?_ (fun hHeld' => ?_)
      ·(try dsimp only)
       exact ⟨k0_98, k1_98⟩
      clear hK K hHeld
      have hHeld := hHeld'
      clear hHeld'
      (try simp only [Act.put, List.setIfInBounds_toArray, List.set_cons_zero, List.set_cons_succ])
      refine wpAnyH_ready (rs := [5]) (by kernel_rfl) (by simp) ?_
      refine AllReadyH.cons (o := ?_) ?_ (fun K hK => ?_) AllReadyH.nil
      rotate_left
      ·(simp only [List.getElem?_toArray, List.getElem?_cons_zero, List.getElem?_cons_succ]; rfl)
      go_simp
      go_at_call 52
      refine (delayed_any _ _ _ q' 720 _ _ _ hn Q98).mono ?_
      rintro e v99 ⟨r99, d99, bs99, rfl, ho99, hb99⟩
      rw [prevK_sumK] at ho99
      have k0_99 := cell_later hb99 k0_98
      have k1_99 := cell_later hb99 k1_98
      have Y99 := Y98.trans (hb99.mono Y98.size)
      have HA_99 := HA_98.below hb99
      have HB_99 := HB_98.below hb99
      have X_99 := X_98.below hb99
      have p7_99 := (hb99.block (u0.heap.size) (Array.getElem?_eq_some_iff.1 p7_98).1).trans p7_98
      have p6_99 := (hb99.block (v86.heap.size) (Array.getElem?_eq_some_iff.1 p6_98).1).trans p6_98
      have Q99 := ho99.atC
      clear ho99 hb99
      (try go_wp2_with fail)
      refine hK.out _ _ ?_ (fun hHeld' => ?_)
      ·(try dsimp only)
       exact ⟨k0_99, k1_99⟩
      clear hK K hHeld
      have hHeld := hHeld'
      clear hHeld'
      (try simp only [Act.put, List.setIfInBounds_toArray, List.set_cons_zero, List.set_cons_succ])
      have e6 : v99.cell? ⟨v86.heap.size, 0, none⟩ = some (.slice none 0 0) := by rw [cell_of_row _ _ 0 _ _ (0, 0) p6_99]; rfl
      have g6 : v99.frozen? ⟨v86.heap.size, 0, none⟩ = false := frozen_of_row _ _ 0 _ _ p6_99
      have lt6 : W.heap.size ≤ v86.heap.size := Y86.size
      have lt7 : W.heap.size ≤ u0.heap.size := Y0.size
      have m7 : (v99.setCell ⟨v86.heap.size, 0, none⟩ (.slice r97 n d97)).heap[u0.heap.size]? = some (.cells #[.slice none 0 0] 63 (0, 0)) := (Below.heap_setCell _ ⟨v86.heap.size, 0, none⟩ _ _ (Nat.ne_of_lt nlt)).trans p7_99
      have e7 : (v99.setCell ⟨v86.heap.size, 0, none⟩ (.slice r97 n d97)).cell? ⟨u0.heap.size, 0, none⟩ = some (.slice none 0 0) := by rw [cell_of_row _ _ 0 _ _ (0, 0) m7]; rfl
      have g7 : (v99.setCell ⟨v86.heap.size, 0, none⟩ (.slice r97 n d97)).frozen? ⟨u0.heap.size, 0, none⟩ = false := frozen_of_row _ _ 0 _ _ m7
      refine wpAnyH_ready (rs := [8]) (by kernel_rfl) (by simp) ?_
      refine AllReadyH.cons (o := ?_) ?_ (fun K hK => ?_) AllReadyH.nil
      rotate_left
      ·(simp only [List.getElem?_toArray, List.getElem?_cons_zero, List.getElem?_cons_succ]; rfl)
      go_simp
      skip
      (try go_wp2_with fail)
      refine hK.out _ _ ?_ (fun hHeld' => ?_)
      ·(try dsimp only)
       exact ⟨keep_far k0_99 (by omega), keep_far k1_99 (by omega)⟩
      clear hK K hHeld
      have hHeld := hHeld'
      clear hHeld'
      (try simp only [Act.put, List.setIfInBounds_toArray, List.set_cons_zero, List.set_cons_succ])
      refine wpAnyH_ready (rs := [9]) (by kernel_rfl) (by simp) ?_
      refine AllReadyH.cons (o := ?_) ?_ (fun K hK => ?_) AllReadyH.nil
      rotate_left
      ·(simp only [List.getElem?_toArray, List.getElem?_cons_zero, List.getElem?_cons_succ]; rfl)
      go_simp
      skip
      (try go_wp2_with fail)
      refine hK.out _ _ ?_ (fun hHeld' => ?_)
      ·(try dsimp only)
       exact ⟨keep_far (keep_far k0_99 (by omega)) (by omega), keep_far (keep_far k1_99 (by omega)) (by omega)⟩
      clear hK K hHeld
      have hHeld := hHeld'
      clear hHeld'
      (try simp only [Act.put, List.setIfInBounds_toArray, List.set_cons_zero, List.set_cons_succ])
      refine wpAnyH_done (by kernel_rfl) ?_ _
      (try go_wp2_with fail)
      go_meet
      case rel =>
       exact ⟨v86.heap.size, u0.heap.size, r97, r99, d97, d99, bs97, bs99, rfl, rfl, keep_far (cell_set e6 _) (Nat.ne_of_gt nlt), cell_set e7 _, (X_99.box p6_99 (fun _ h => by cases h) _).box m7 (fun _ h => by cases h) _, (Q99.box p6_99 (fun _ h => by cases h) _).box m7 (fun _ h => by cases h) _, (Y99.setCell lt6 _).setCell lt7 _⟩
    refine AllReadyH.cons (o := ?_) ?_ (fun K hK => ?_) AllReadyH.nil
    rotate_left
    ·(simp only [List.getElem?_toArray, List.getElem?_cons_zero, List.getElem?_cons_succ]; rfl)
    ·go_simp
     (try go_wp2_with fail)
     refine hK.out _ _ ?_ (fun hHeld' => ?_)
     ·(try dsimp only)
      exact ⟨cell_later ((Below.refl _ _).alloc (Nat.le_refl _) _) k0_85, cell_later ((Below.refl _ _).alloc (Nat.le_refl _) _) k1_85⟩
     clear hK K hHeld
     have hHeld := hHeld'
     clear hHeld'
     (try simp only [Act.put, List.setIfInBounds_toArray, List.set_cons_zero, List.set_cons_succ])
     obtain ⟨v100, hU100⟩ : ∃ u, u = v85.alloc (.cells #[.slice none 0 0] 63) := ⟨_, rfl⟩
     have hb100 : Below v85.heap.size v85 v100 := by rw [hU100]; exact (Below.refl _ _).alloc (Nat.le_refl _) _
     have n100 : v100.heap[v85.heap.size]? = some (.cells #[.slice none 0 0] 63 (0, 0)) := by rw [hU100]; exact heap_alloc_new _ _
     rw [← hU100]
     clear hU100
     have nlt := (Array.getElem?_eq_some_iff.1 n85).1
     have k0_100 := cell_later hb100 k0_85
     have k1_100 := cell_later hb100 k1_85
     have Y100 := Y85.trans (hb100.mono Y85.size)
     have HA_100 := HA_85.below hb100
     have HB_100 := HB_85.below hb100
     have p7_100 := (hb100.block (u0.heap.size) (Array.getElem?_eq_some_iff.1 n85).1).trans n85
     clear hb100
     refine wpAnyH_ready (rs := [1]) (by kernel_rfl) (by simp) ?_
     refine AllReadyH.cons (o := ?_) ?_ (fun K hK => ?_) AllReadyH.nil
     rotate_left
     ·(simp only [List.getElem?_toArray, List.getElem?_cons_zero, List.getElem?_cons_succ]; rfl)
     go_simp
     go_at_call 53
     refine (runningSums_any _ _ _ q f _ _ hn HLf.out HA_100).mono ?_
     rintro e v101 ⟨r101, d101, bs101, rfl, ho101, hb101⟩
     have k0_101 := cell_later hb101 k0_100
     have k1_101 := cell_later hb101 k1_100
     have Y101 := Y100.trans (hb101.mono Y100.size)
     have HA_101 := HA_100.below hb101
     have HB_101 := HB_100.below hb101
     have p7_101 := (hb101.block (u0.heap.size) (Array.getElem?_eq_some_iff.1 p7_100).1).trans p7_100
     have p6_101 := (hb101.block (v85.heap.size) (Array.getElem?_eq_some_iff.1 n100).1).trans n100
     have Q101 := ho101.atC
     clear ho101 hb101
     (try go_wp2_with fail)
     refine hK.out _ _ ?_ (fun hHeld' => ?_)
     ·(try dsimp only)
      exact ⟨k0_101, k1_101⟩
     clear hK K hHeld
     have hHeld := hHeld'
     clear hHeld'
     (try simp only [Act.put, List.setIfInBounds_toArray, List.set_cons_zero, List.set_cons_succ])
     refine wpAnyH_ready (rs := [2]) (by kernel_rfl) (by simp) ?_
     refine AllReadyH.cons (o := ?_) ?_ (fun K hK => ?_) AllReadyH.nil
     rotate_left
     ·(simp only [List.getElem?_toArray, List.getElem?_cons_zero, List.getElem?_cons_succ]; rfl)
     go_simp
     go_at_call 52
     refine (delayed_any _ _ _ q 720 _ _ _ hn Q101).mono ?_
     rintro e v102 ⟨r102, d102, bs102, rfl, ho102, hb102⟩
     rw [prevK_sumK] at ho102
     have k0_102 := cell_later hb102 k0_101
     have k1_102 := cell_later hb102 k1_101
     have Y102 := Y101.trans (hb102.mono Y101.size)
     have HA_102 := HA_101.below hb102
     have HB_102 := HB_101.below hb102
     have p7_102 := (hb102.block (u0.heap.size) (Array.getElem?_eq_some_iff.1 p7_101).1).trans p7_101
     have p6_102 := (hb102.block (v85.heap.size) (Array.getElem?_eq_some_iff.1 p6_101).1).trans p6_101
     have Q102 := ho102.atC
     clear ho102 hb102
     (try go_wp2_with fail)
     refine hK.out _ _ ?_ (fun hHeld' => ?_)
     ·(try dsimp only)
      exact ⟨k0_102, k1_102⟩
     clear hK K hHeld
     have hHeld := hHeld'
     clear hHeld'
     (try simp only [Act.put, List.setIfInBounds_toArray, List.set_cons_zero, List.set_cons_succ])
     refine wpAnyH_ready (rs := [4]) (by kernel_rfl) (by simp) ?_
     refine AllReadyH.cons (o := ?_) ?_ (fun K hK => ?_) AllReadyH.nil
     rotate_left
     ·(simp only [List.getElem?_toArray, List.getElem?_cons_zero, List.getElem?_cons_succ]; rfl)
     go_simp
     go_at_call 53
     refine (runningSums_any _ _ _ q' g _ _ hn HLg.out HB_102).mono ?_
     rintro e v103 ⟨r103, d103, bs103, rfl, ho103, hb103⟩
     have k0_103 := cell_later hb103 k0_102
     have k1_103 := cell_later hb103 k1_102
     have Y103 := Y102.trans (hb103.mono Y102.size)
     have HA_103 := HA_102.below hb103
     have HB_103 := HB_102.below hb103
     have X_103 := Q102.below hb103
     have p7_103 := (hb103.block (u0.heap.size) (Array.getElem?_eq_some_iff.1 p7_102).1).trans p7_102
     have p6_103 := (hb103.block (v85.heap.size) (Array.getElem?_eq_some_iff.1 p6_102).1).trans p6_102
     have Q103 := ho103.atC
     clear ho103 hb103
     (try go_wp2_with fail)
     refine hK.out _ _ ?_ (fun hHeld' => ?_)
     ·(try dsimp only)
      exact ⟨k0_103, k1_103⟩
     clear hK K hHeld
     have hHeld := hHeld'
     clear hHeld'
     (try simp only [Act.put, List.setIfInBounds_toArray, List.set_cons_zero, List.set_cons_succ])
     refine wpAnyH_ready (rs := [5]) (by kernel_rfl) (by simp) ?_
     refine AllReadyH.cons (o := ?_) ?_ (fun K hK => ?_) AllReadyH.nil
     rotate_left
     ·(simp only [List.getElem?_toArray, List.getElem?_cons_zero, List.getElem?_cons_succ]; rfl)
     go_simp
     go_at_call 52
     refine (delayed_any _ _ _ q' 720 _ _ _ hn Q103).mono ?_
     rintro e v104 ⟨r104, d104, bs104, rfl, ho104, hb104⟩
     rw [prevK_sumK] at ho104
     have k0_104 := cell_later hb104 k0_103
     have k1_104 := cell_later hb104 k1_103
     have Y104 := Y103.trans (hb104.mono Y103.size)
     have HA_104 := HA_103.below hb104
     have HB_104 := HB_103.below hb104
     have X_104 := X_103.below hb104
     have p7_104 := (hb104.block (u0.heap.size) (Array.getElem?_eq_some_iff.1 p7_103).1).trans p7_103
     have p6_104 := (hb104.block (v85.heap.size) (Array.getElem?_eq_some_iff.1 p6_103).1).trans p6_103
     have Q104 := ho104.atC
     clear ho104 hb104
     (try go_wp2_with fail)
     refine hK.out _ _ ?_ (fun hHeld' => ?_)
     ·(try dsimp only)
      exact ⟨k0_104, k1_104⟩
     clear hK K hHeld
     have hHeld := hHeld'
     clear hHeld'
     (try simp only [Act.put, List.setIfInBounds_toArray, List.set_cons_zero, List.set_cons_succ])
     have e6 : v104.cell? ⟨v85.heap.size, 0, none⟩ = some (.slice none 0 0) := by rw [cell_of_row _ _ 0 _ _ (0, 0) p6_104]; rfl
     have g6 : v104.frozen? ⟨v85.heap.size, 0, none⟩ = false := frozen_of_row _ _ 0 _ _ p6_104
     have lt6 : W.heap.size ≤ v85.heap.size := Y85.size
     have lt7 : W.heap.size ≤ u0.heap.size := Y0.size
     have m7 : (v104.setCell ⟨v85.heap.size, 0, none⟩ (.slice r102 n d102)).heap[u0.heap.size]? = some (.cells #[.slice none 0 0] 63 (0, 0)) := (Below.heap_setCell _ ⟨v85.heap.size, 0, none⟩ _ _ (Nat.ne_of_lt nlt)).trans p7_104
     have e7 : (v104.setCell ⟨v85.heap.size, 0, none⟩ (.slice r102 n d102)).cell? ⟨u0.heap.size, 0, none⟩ = some (.slice none 0 0) := by rw [cell_of_row _ _ 0 _ _ (0, 0) m7]; rfl
     have g7 : (v104.setCell ⟨v85.heap.size, 0, none⟩ (.slice r102 n d102)).frozen? ⟨u0.heap.size, 0, none⟩ = false := frozen_of_row _ _ 0 _ _ m7
     refine wpAnyH_ready (rs := [8]) (by kernel_rfl) (by simp) ?_
     refine AllReadyH.cons (o := ?_) ?_ (fun K hK => ?_) AllReadyH.nil
     rotate_left
     ·(simp only [List.getElem?_toArray, List.getElem?_cons_zero, List.getElem?_cons_succ]; rfl)
     go_simp
     skip
     (try go_wp2_with fail)
     refine hK.out _ _ ?_ (fun hHeld' => ?_)
     ·(try dsimp only)
      exact ⟨keep_far k0_104 (by omega), keep_far k1_104 (by omega)⟩
     clear hK K hHeld
     have hHeld := hHeld'
     clear hHeld'
     (try simp only [Act.put, List.setIfInBounds_toArray, List.set_cons_zero, List.set_cons_succ])
     refine wpAnyH_ready (rs := [9]) (by kernel_rfl) (by simp) ?_
     refine AllReadyH.cons (o := ?_) ?_ (fun K hK => ?_) AllReadyH.nil
     rotate_left
     ·(simp only [List.getElem?_toArray, List.getElem?_cons_zero, List.getElem?_cons_succ]; rfl)
     go_simp
     skip
     (try go_wp2_with fail)
     refine hK.out _ _ ?_ (fun hHeld' => ?_)
     ·(try dsimp only)
      exact ⟨keep_far (keep_far k0_104 (by omega)) (by omega), keep_far (keep_far k1_104 (by omega)) (by omega)⟩
     clear hK K hHeld
     have hHeld := hHeld'
     clear hHeld'
     (try simp only [Act.put, List.setIfInBounds_toArray, List.set_cons_zero, List.set_cons_succ])
     refine wpAnyH_done (by kernel_rfl) ?_ _
     (try go_wp2_with fail)
     go_meet
     case rel =>
      exact ⟨v85.heap.size, u0.heap.size, r102, r104, d102, d104, bs102, bs104, rfl, rfl, keep_far (cell_set e6 _) (Nat.ne_of_gt nlt), cell_set e7 _, (X_104.box p6_104 (fun _ h => by cases h) _).box m7 (fun _ h => by cases h) _, (Q104.box p6_104 (fun _ h => by cases h) _).box m7 (fun _ h => by cases h) _, (Y104.setCell lt6 _).setCell lt7 _⟩
  case rest =>
   obtain ⟨P1, P2, r2, r3, d2, d3, bs2, bs3, rfl, rfl, x2, x3, hx2, hx3, hb3⟩ := hcut
   obtain ⟨w3, rfl⟩ : ∃ x, x = wc := ⟨_, rfl⟩
   have B3 := B0.trans (hb3.mono B0.size)
   have HH := productChanges1_hands w.heap.size P1 P2 (w.heap.size + 1) (w.heap.size + 1 + 1) a1 r2 r3 a4 n c1 d2 d3 c4 q q' f g bs1 bs2 bs3 bs4 f5 f3 f4 f6 ps w3 hn HLf.out HLg.out (cell_later hb3 c0) x2 x3 (cell_later hb3 b0) (cell_later hb3 d0) (HA.below hb3) hx2 hx3 (HB.below hb3) (HM.below hb3) hok hjc
   have HHH := Hid.mk HH
   clear HH hb3 x2 x3 hx2 hx3 HA HB HM c0 b0 d0
   go_wp2
   go_ret
   exact ⟨_, rfl, HHH.out, B3⟩

end Go.Proofs.YtlfljfmhhnoinabGreat
