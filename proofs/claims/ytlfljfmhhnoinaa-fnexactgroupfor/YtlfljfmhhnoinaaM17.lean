/- The law FnExactGroupFor returns true at every input, and writes nothing that was there. -/
import Derived.Test.YtlfljfmhhnoinaaM4
import Derived.Test.YtlfljfmhhnoinaaM12
import Derived.Test.YtlfljfmhhnoinaaM16
namespace Go.Proofs.Ytlfljfmhhnoinaa
open Go.RowKit

set_option maxRecDepth 100000 in
set_option maxHeartbeats 16000000 in
theorem lawGroupFor (a0 : Option Addr) (n0 c0 : Nat) (z0 : List GRow) (a1 : Option Addr) (n1 c1 : Nat) (z1 : List Int) (w : World) (hz0 : z0.length = n0) (hn0 : n0 ≤ 9223372036854775807) (ha0 : AtV w a0 z0) (hz1 : z1.length = n1) (hn1 : n1 ≤ 9223372036854775807) (ha1 : At w a1 z1) :
    Calls Try.prog 4 #[.slice a0 n0 c0, .agg #[.slice a1 n1 c1]] w fun e w' => e = .returned (.bool true) ∧ Below w.heap.size w w' := by
  obtain ⟨W, hW⟩ : ∃ W, W = (w.alloc (.cells #[.slice a1 n1 c1] 31)) := ⟨_, rfl⟩
  have B0 : Below w.heap.size w W := by rw [hW]; exact ((Below.refl _ _).alloc (Nat.le_refl _) _)
  have zW : W.heap.size = w.heap.size + 1 := by rw [hW]; simp
  have qb1 : W.heap[w.heap.size]? = some (.cells #[.slice a1 n1 c1] 31 (0, 0)) := by
    rw [hW]
    have q := heap_alloc_new w (.cells #[.slice a1 n1 c1] 31)
    (try simp only [World.size_alloc] at q)
    exact q
  have p1a_0 : W.cell? ⟨w.heap.size, 0, none⟩ = some (.slice a1 n1 c1) := by rw [cell_of_row W _ 0 _ _ (0, 0) qb1]; rfl
  clear qb1
  by_cases big0 : (1048576 : Int) < (vtot z0 n0 : Nat)
  · go_enter Try.func4, Try.ntmps4
    go_wp2_with fail
    rw [← hW]
    clear hW
    refine (szGroupS_any _ _ _ z0 _ _ hz0 hn0 (by omega) (by omega) (ha0.below B0)).mono ?_
    rintro e v0 ⟨rfl, hv0⟩
    rw [leftOf_no big0]
    have y0 := B0.trans (hv0.mono B0.size)
    go_wp2
    go_ret
    exact ⟨rfl, y0⟩
  have hl0 : ¬ (1048576 : Int) - (vtot z0 n0 : Nat) < 0 := by omega
  have hs0 : SmV z0 n0 := ⟨hz0, by omega⟩
  by_cases big1 : (1048576 : Int) - (vtot z0 n0 : Nat) < (n1 : Nat)
  · go_enter Try.func4, Try.ntmps4
    go_wp2_with fail
    rw [← hW]
    clear hW
    refine (szGroupS_any _ _ _ z0 _ _ hz0 hn0 (by omega) (by omega) (ha0.below B0)).mono ?_
    rintro e v0 ⟨rfl, hv0⟩
    rw [leftOf_yes (by omega)]
    have y0 := B0.trans (hv0.mono B0.size)
    have qp1a_0 := cell_later hv0 p1a_0
    go_wp2_with fail
    refine (szRowG _ _ _ z1 _ _ hz1 hn1 (by omega) (by omega) (ha1.below y0)).mono ?_
    rintro e v1 ⟨rfl, hv1⟩
    rw [leftOf_no big1]
    have y1 := y0.trans (hv1.mono y0.size)
    go_wp2
    go_ret
    exact ⟨rfl, y1⟩
  have hl1 : ¬ (1048576 : Int) - (vtot z0 n0 : Nat) - (n1 : Nat) < 0 := by omega
  have hs1 : SmI z1 n1 := ⟨hz1, by omega⟩
  have hx0 := hs0.n
  have hx1 := hs1.n
  have hk0 := hs0.mk'
  obtain ⟨ok, pa, pb, ta, hsA, HS, HI⟩ : ∃ (ok : Bool) (pa pb : Int) (ta : List Int), SmI ta ta.length ∧ Hid (∀ (x0 : Option Addr) (y0 lo0 hi0 : Nat) (x1 : Option Addr) (y1 lo1 hi1 : Nat) (w : World), OwnGr w lo0 hi0 x0 n0 y0 z0 → OwnI w lo1 hi1 x1 n1 y1 z1 → Calls Try.prog 15 #[.slice x0 n0 y0, .agg #[.slice x1 n1 y1]] w fun e w' => OneT e w' w.heap.size ok pa pb ta ∧ Below w.heap.size w w') ∧ Hid (∀ (x0 : Option Addr) (y0 lo0 hi0 : Nat) (x1 : Option Addr) (y1 lo1 hi1 : Nat) (w : World), OwnGr w lo0 hi0 x0 n0 y0 z0 → OwnI w lo1 hi1 x1 n1 y1 z1 → Calls Try.prog 17 #[.slice x0 n0 y0, .agg #[.slice x1 n1 y1]] w fun e w' => OneT e w' w.heap.size ok pa pb ta ∧ Below w.heap.size w w') := ⟨gfB z0 z1, gfNum (gfB z0 z1) ((vOf z0 z1).1), gfNum (gfB z0 z1) ((vOf z0 z1).2), gfKey (gfB z0 z1) (z1), gf_small gfB_key, fun x0 y0 lo0 hi0 x1 y1 lo1 hi1 w o0 o1 => specGroupFor x0 x1 n0 n1 y0 y1 z0 z1 w hs0.1 hs0.n hs1.1 hs1.n (o0.atN hs0) (o1.at hs1), fun x0 y0 lo0 hi0 x1 y1 lo1 hi1 w o0 o1 => implGroupFor x0 x1 n0 n1 y0 y1 z0 z1 w hs0.1 hs0.n hs1.1 hs1.n (o0.atV hs0) (o1.at hs1)⟩
  obtain ⟨na, hna⟩ : ∃ na, ta.length = na := ⟨_, rfl⟩
  rw [hna] at hsA
  have hxA := hsA.n
  have HNA := Hid.mk hna
  clear hna
  have hwA := hsA.2
  go_enter Try.func4, Try.ntmps4
  go_wp2_with fail
  rw [← hW]
  clear hW
  refine (szGroupS_any _ _ _ z0 _ _ hz0 hn0 (by omega) (by omega) (ha0.below B0)).mono ?_
  rintro e w1 ⟨rfl, hb1⟩
  rw [leftOf_yes (by omega)]
  have p1a_1 := cell_later hb1 p1a_0
  have B_1 := B0.trans (hb1.mono B0.size)
  have zz1 : W.heap.size ≤ w1.heap.size := by have q := hb1.size; first | exact q | simpa using q
  clear p1a_0
  clear hb1
  go_wp2_with fail
  refine (szRowG _ _ _ z1 _ _ hz1 hn1 (by omega) (by omega) (ha1.below B_1)).mono ?_
  rintro e w2 ⟨rfl, hb2⟩
  rw [leftOf_yes (by omega)]
  have p1a_2 := cell_later hb2 p1a_1
  have B_2 := B_1.trans (hb2.mono B_1.size)
  have zz2 : w1.heap.size ≤ w2.heap.size := by have q := hb2.size; first | exact q | simpa using q
  clear p1a_1 B_1
  clear hb2
  go_upto_region 8 with fail
  go_cut [6, 7] (fun ta' tb wx => ∃ (Pb : Nat) (r : Option Addr) (m d lo hi : Nat), ta' = .pointer (some ⟨Pb, 0, none⟩) ∧ tb = .bool ok ∧ wx.cell? ⟨Pb, 0, none⟩ = some (.slice r m d) ∧ wx.cell? ⟨Pb, 1, none⟩ = some (.int .i64 pa) ∧ wx.cell? ⟨Pb, 2, none⟩ = some (.int .i64 pb) ∧ OwnI wx lo hi r m d ta ∧ w2.heap.size ≤ lo ∧ hi ≤ wx.heap.size ∧ w2.heap.size ≤ Pb ∧ Pb < wx.heap.size ∧ (Pb < lo ∨ hi ≤ Pb) ∧ Below w2.heap.size w2 wx)
  case first =>
    refine wp_region_held_drew (S := fun w' => w'.cell? ⟨w.heap.size, 0, none⟩ = some (.slice a1 n1 c1)) (by kernel_rfl) ?_ (fun hHeld => ?_)
    · (try dsimp only)
      exact p1a_2
    refine wpAnyH_take (i := 0) (oi := ?_) (v := ?_) ?_ (by kernel_rfl) (by kernel_rfl) (by kernel_rfl) ?_ (Or.inl ⟨?_, ?_⟩) (by assumption) ?_
    rotate_left 2
    · (simp only [List.getElem?_toArray, List.getElem?_cons_zero]; rfl)
    · exact fun _ _ _ h => h
    · rfl
    · (intro wS hSw; (try dsimp only at hSw); go_simp; (try with_reducible rfl))
    (try simp only [Act.put, List.setIfInBounds_toArray, List.set_cons_zero, List.set_cons_succ])
    refine wpAnyH_take (i := 2) (oi := ?_) (v := ?_) ?_ (by kernel_rfl) (by kernel_rfl) (by kernel_rfl) ?_ (Or.inl ⟨?_, ?_⟩) (by assumption) ?_
    rotate_left 2
    · (simp only [List.getElem?_toArray, List.getElem?_cons_zero, List.getElem?_cons_succ]; rfl)
    · exact fun _ _ _ h => h
    · rfl
    · (intro wS hSw; (try dsimp only at hSw); go_simp; (try with_reducible rfl))
    (try simp only [Act.put, List.setIfInBounds_toArray, List.set_cons_zero, List.set_cons_succ])
    obtain ⟨w5, hU5⟩ : ∃ u, u = w2.drew := ⟨_, rfl⟩
    have hb5 : Below w2.heap.size w2 w5 := by rw [hU5]; exact (Below.refl _ _).drew
    rw [← hU5]
    clear hU5
    have p1a_5 := cell_later hb5 p1a_2
    have B_5 := B_2.trans (hb5.mono B_2.size)
    have Y_5 : Below w2.heap.size w2 w5 := hb5
    have zz5 : w2.heap.size ≤ w5.heap.size := by have q := hb5.size; first | exact q | simpa using q
    refine wpAnyH_ready (rs := [1, 8]) (by kernel_rfl) (by simp) ?_
    refine AllReadyH.cons (o := ?_) ?_ (fun K hK => ?_) ?_
    rotate_left
    · (simp only [List.getElem?_toArray, List.getElem?_cons_zero, List.getElem?_cons_succ]; rfl)
    · go_simp
      go_at_call 11
      refine (toGroupSG _ _ _ z0 _ hs0 (ha0.below B_5)).mono ?_
      rintro e w6 ⟨g6, rfl, ho6, hb6⟩
      have p1a_6 := cell_later hb6 p1a_5
      have B_6 := B_5.trans (hb6.mono B_5.size)
      have Y_6 : Below w2.heap.size w2 w6 := Y_5.trans (hb6.mono Y_5.size)
      have zz6 : w5.heap.size ≤ w6.heap.size := by have q := hb6.size; first | exact q | simpa using q
      (try go_wp2_with fail)
      refine hK.out _ _ ?_ (fun hHeld' => ?_)
      · (try dsimp only)
        exact p1a_6
      clear hK K hHeld
      have hHeld := hHeld'
      clear hHeld'
      (try simp only [Act.put, List.setIfInBounds_toArray, List.set_cons_zero, List.set_cons_succ])
      refine wpAnyH_ready (rs := [3, 8]) (by kernel_rfl) (by simp) ?_
      refine AllReadyH.cons (o := ?_) ?_ (fun K hK => ?_) ?_
      rotate_left
      · (simp only [List.getElem?_toArray, List.getElem?_cons_zero, List.getElem?_cons_succ]; rfl)
      · go_simp
        go_at_call 16
        refine (toRowG _ _ _ z1 _ hs1 (ha1.below B_6)).mono ?_
        rintro e w7 ⟨g7, rfl, ho7, hb7⟩
        have p1a_7 := cell_later hb7 p1a_6
        have t0_7 := ho6.below hb7
        have B_7 := B_6.trans (hb7.mono B_6.size)
        have Y_7 : Below w2.heap.size w2 w7 := Y_6.trans (hb7.mono Y_6.size)
        have zz7 : w6.heap.size ≤ w7.heap.size := by have q := hb7.size; first | exact q | simpa using q
        (try go_wp2_with fail)
        refine hK.out _ _ ?_ (fun hHeld' => ?_)
        · (try dsimp only)
          exact p1a_7
        clear hK K hHeld
        have hHeld := hHeld'
        clear hHeld'
        (try simp only [Act.put, List.setIfInBounds_toArray, List.set_cons_zero, List.set_cons_succ])
        refine wpAnyH_ready (rs := [4, 8]) (by kernel_rfl) (by simp) ?_
        refine AllReadyH.cons (o := ?_) ?_ (fun K hK => ?_) ?_
        rotate_left
        · (simp only [List.getElem?_toArray, List.getElem?_cons_zero, List.getElem?_cons_succ]; rfl)
        · go_simp
          go_at_call 15
          refine (HS.out _ _ _ _ _ _ _ _ _ t0_7 ho7).mono ?_
          rintro e w8 ⟨⟨r8, m8, d8, rfl, ho8⟩, hb8⟩
          have p1a_8 := cell_later hb8 p1a_7
          have B_8 := B_7.trans (hb8.mono B_7.size)
          have Y_8 : Below w2.heap.size w2 w8 := Y_7.trans (hb8.mono Y_7.size)
          have zz8 : w7.heap.size ≤ w8.heap.size := by have q := hb8.size; first | exact q | simpa using q
          (try go_wp2_with fail)
          refine hK.out _ _ ?_ (fun hHeld' => ?_)
          · (try dsimp only)
            exact p1a_8
          clear hK K hHeld
          have hHeld := hHeld'
          clear hHeld'
          (try simp only [Act.put, List.setIfInBounds_toArray, List.set_cons_zero, List.set_cons_succ])
          refine wpAnyH_take (i := 5) (oi := ?_) (v := ?_) ?_ (by kernel_rfl) (by kernel_rfl) (by kernel_rfl) ?_ (Or.inl ⟨?_, ?_⟩) (by assumption) ?_
          rotate_left 2
          · (simp only [List.getElem?_toArray, List.getElem?_cons_zero, List.getElem?_cons_succ]; rfl)
          · exact fun _ _ _ h => h
          · rfl
          · (intro wS hSw; (try dsimp only at hSw); go_simp; (try with_reducible rfl))
          (try simp only [Act.put, List.setIfInBounds_toArray, List.set_cons_zero, List.set_cons_succ])
          refine wpAnyH_take (i := 6) (oi := ?_) (v := ?_) ?_ (by kernel_rfl) (by kernel_rfl) (by kernel_rfl) ?_ (Or.inl ⟨?_, ?_⟩) (by assumption) ?_
          rotate_left 2
          · (simp only [List.getElem?_toArray, List.getElem?_cons_zero, List.getElem?_cons_succ]; rfl)
          · exact fun _ _ _ h => h
          · rfl
          · (intro wS hSw; (try dsimp only at hSw); go_simp; (try with_reducible rfl))
          (try simp only [Act.put, List.setIfInBounds_toArray, List.set_cons_zero, List.set_cons_succ])
          refine wpAnyH_take (i := 7) (oi := ?_) (v := ?_) ?_ (by kernel_rfl) (by kernel_rfl) (by kernel_rfl) ?_ (Or.inl ⟨?_, ?_⟩) (by assumption) ?_
          rotate_left 2
          · (simp only [List.getElem?_toArray, List.getElem?_cons_zero, List.getElem?_cons_succ]; rfl)
          · exact fun _ _ _ h => h
          · rfl
          · (intro wS hSw; (try dsimp only at hSw); go_simp; (try with_reducible rfl))
          (try simp only [Act.put, List.setIfInBounds_toArray, List.set_cons_zero, List.set_cons_succ])
          refine wpAnyH_ready (rs := [8]) (by kernel_rfl) (by simp) ?_
          refine AllReadyH.cons (o := ?_) ?_ (fun K hK => ?_) AllReadyH.nil
          rotate_left
          · (simp only [List.getElem?_toArray, List.getElem?_cons_zero, List.getElem?_cons_succ]; rfl)
          go_simp
          skip
          (try go_wp2_with fail)
          refine hK.out _ _ ?_ (fun hHeld' => ?_)
          · (try dsimp only)
            exact cell_later ((Below.refl _ _).alloc (Nat.le_refl _) _) p1a_8
          clear hK K hHeld
          have hHeld := hHeld'
          clear hHeld'
          (try simp only [Act.put, List.setIfInBounds_toArray, List.set_cons_zero, List.set_cons_succ])
          refine wpAnyH_ready (rs := [9]) (by kernel_rfl) (by simp) ?_
          refine AllReadyH.cons (o := ?_) ?_ (fun K hK => ?_) AllReadyH.nil
          rotate_left
          · (simp only [List.getElem?_toArray, List.getElem?_cons_zero, List.getElem?_cons_succ]; rfl)
          go_simp
          skip
          (try go_wp2_with fail)
          refine hK.out _ _ ?_ (fun hHeld' => ?_)
          · (try dsimp only)
            exact cell_later ((Below.refl _ _).alloc (Nat.le_refl _) _) p1a_8
          clear hK K hHeld
          have hHeld := hHeld'
          clear hHeld'
          (try simp only [Act.put, List.setIfInBounds_toArray, List.set_cons_zero, List.set_cons_succ])
          refine wpAnyH_take (i := 10) (oi := ?_) (v := ?_) ?_ (by kernel_rfl) (by kernel_rfl) (by kernel_rfl) ?_ (Or.inl ⟨?_, ?_⟩) (by assumption) ?_
          rotate_left 2
          · (simp only [List.getElem?_toArray, List.getElem?_cons_zero, List.getElem?_cons_succ]; rfl)
          · exact fun _ _ _ h => h
          · rfl
          · (intro wS hSw; (try dsimp only at hSw); go_simp; (try with_reducible rfl))
          (try simp only [Act.put, List.setIfInBounds_toArray, List.set_cons_zero, List.set_cons_succ])
          refine wpAnyH_done (by kernel_rfl) ?_ _
          (try go_wp2_with fail)
          go_meet
          case rel =>
            have owk : OwnI w8 w7.heap.size w8.heap.size r8 m8 d8 ta := ho8
            exact ⟨w8.heap.size, r8, m8, d8, w7.heap.size, w8.heap.size, rfl, rfl, trip0 w8 _ _ _ _, trip1 w8 _ _ _ _, trip2 w8 _ _ _ _, owk.below ((Below.refl _ _).alloc (Nat.le_refl _) _), by omega, by simp, by omega, by simp, .inr (Nat.le_refl _), Y_8.alloc Y_8.size _⟩
        refine AllReadyH.cons (o := ?_) ?_ (fun K hK => ?_) AllReadyH.nil
        rotate_left
        · (simp only [List.getElem?_toArray, List.getElem?_cons_zero, List.getElem?_cons_succ]; rfl)
        · go_simp
          (try go_wp2_with fail)
          refine hK.out _ _ ?_ (fun hHeld' => ?_)
          · (try dsimp only)
            exact cell_later ((Below.refl _ _).alloc (Nat.le_refl _) _) p1a_7
          clear hK K hHeld
          have hHeld := hHeld'
          clear hHeld'
          (try simp only [Act.put, List.setIfInBounds_toArray, List.set_cons_zero, List.set_cons_succ])
          obtain ⟨w8, hU8⟩ : ∃ u, u = w7.alloc (.cells #[.slice none 0 0, .int .i64 0, .int .i64 0] 35) := ⟨_, rfl⟩
          have hb8 : Below w7.heap.size w7 w8 := by rw [hU8]; exact (Below.refl _ _).alloc (Nat.le_refl _) _
          have zp8 : w8.heap.size = w7.heap.size + 1 := by rw [hU8]; simp
          have hp8 : w8.heap[w7.heap.size]? = some (.cells #[.slice none 0 0, .int .i64 0, .int .i64 0] 35 (0, 0)) := by rw [hU8]; exact heap_alloc_new _ _
          rw [← hU8]
          clear hU8
          have p1a_8 := cell_later hb8 p1a_7
          have t0_8 := t0_7.below hb8
          have t1_8 := ho7.below hb8
          have B_8 := B_7.trans (hb8.mono B_7.size)
          have Y_8 : Below w2.heap.size w2 w8 := Y_7.trans (hb8.mono Y_7.size)
          have zz8 : w7.heap.size ≤ w8.heap.size := by have q := hb8.size; first | exact q | simpa using q
          refine wpAnyH_ready (rs := [4]) (by kernel_rfl) (by simp) ?_
          refine AllReadyH.cons (o := ?_) ?_ (fun K hK => ?_) AllReadyH.nil
          rotate_left
          · (simp only [List.getElem?_toArray, List.getElem?_cons_zero, List.getElem?_cons_succ]; rfl)
          go_simp
          go_at_call 15
          refine (HS.out _ _ _ _ _ _ _ _ _ t0_8 t1_8).mono ?_
          rintro e w9 ⟨⟨r9, m9, d9, rfl, ho9⟩, hb9⟩
          have p1a_9 := cell_later hb9 p1a_8
          have hq9 := (hb9.block (w7.heap.size) (Array.getElem?_eq_some_iff.1 hp8).1).trans hp8
          have B_9 := B_8.trans (hb9.mono B_8.size)
          have Y_9 : Below w2.heap.size w2 w9 := Y_8.trans (hb9.mono Y_8.size)
          have zz9 : w8.heap.size ≤ w9.heap.size := by have q := hb9.size; first | exact q | simpa using q
          (try go_wp2_with fail)
          refine hK.out _ _ ?_ (fun hHeld' => ?_)
          · (try dsimp only)
            exact p1a_9
          clear hK K hHeld
          have hHeld := hHeld'
          clear hHeld'
          (try simp only [Act.put, List.setIfInBounds_toArray, List.set_cons_zero, List.set_cons_succ])
          refine wpAnyH_take (i := 5) (oi := ?_) (v := ?_) ?_ (by kernel_rfl) (by kernel_rfl) (by kernel_rfl) ?_ (Or.inl ⟨?_, ?_⟩) (by assumption) ?_
          rotate_left 2
          · (simp only [List.getElem?_toArray, List.getElem?_cons_zero, List.getElem?_cons_succ]; rfl)
          · exact fun _ _ _ h => h
          · rfl
          · (intro wS hSw; (try dsimp only at hSw); go_simp; (try with_reducible rfl))
          (try simp only [Act.put, List.setIfInBounds_toArray, List.set_cons_zero, List.set_cons_succ])
          refine wpAnyH_take (i := 6) (oi := ?_) (v := ?_) ?_ (by kernel_rfl) (by kernel_rfl) (by kernel_rfl) ?_ (Or.inl ⟨?_, ?_⟩) (by assumption) ?_
          rotate_left 2
          · (simp only [List.getElem?_toArray, List.getElem?_cons_zero, List.getElem?_cons_succ]; rfl)
          · exact fun _ _ _ h => h
          · rfl
          · (intro wS hSw; (try dsimp only at hSw); go_simp; (try with_reducible rfl))
          (try simp only [Act.put, List.setIfInBounds_toArray, List.set_cons_zero, List.set_cons_succ])
          refine wpAnyH_take (i := 7) (oi := ?_) (v := ?_) ?_ (by kernel_rfl) (by kernel_rfl) (by kernel_rfl) ?_ (Or.inl ⟨?_, ?_⟩) (by assumption) ?_
          rotate_left 2
          · (simp only [List.getElem?_toArray, List.getElem?_cons_zero, List.getElem?_cons_succ]; rfl)
          · exact fun _ _ _ h => h
          · rfl
          · (intro wS hSw; (try dsimp only at hSw); go_simp; (try with_reducible rfl))
          (try simp only [Act.put, List.setIfInBounds_toArray, List.set_cons_zero, List.set_cons_succ])
          have u0 : w9.cell? ⟨w7.heap.size, 0, none⟩ = some (.slice none 0 0) := by rw [cell_of_row _ _ 0 _ _ (0, 0) hq9]; rfl
          have v0 : w9.frozen? ⟨w7.heap.size, 0, none⟩ = false := frozen_of_row _ _ 0 _ _ hq9
          have u1 : w9.cell? ⟨w7.heap.size, 1, none⟩ = some (.int .i64 0) := by rw [cell_of_row _ _ 1 _ _ (0, 0) hq9]; rfl
          have v1 : w9.frozen? ⟨w7.heap.size, 1, none⟩ = false := frozen_of_row _ _ 1 _ _ hq9
          have u2 : w9.cell? ⟨w7.heap.size, 2, none⟩ = some (.int .i64 0) := by rw [cell_of_row _ _ 2 _ _ (0, 0) hq9]; rfl
          have v2 : w9.frozen? ⟨w7.heap.size, 2, none⟩ = false := frozen_of_row _ _ 2 _ _ hq9
          refine wpAnyH_ready (rs := [9]) (by kernel_rfl) (by simp) ?_
          refine AllReadyH.cons (o := ?_) ?_ (fun K hK => ?_) AllReadyH.nil
          rotate_left
          · (simp only [List.getElem?_toArray, List.getElem?_cons_zero, List.getElem?_cons_succ]; rfl)
          go_simp
          skip
          (try go_wp2_with fail)
          refine hK.out _ _ ?_ (fun hHeld' => ?_)
          · (try dsimp only)
            exact keep_far (keep_far (keep_far p1a_9 (by omega)) (by omega)) (by omega)
          clear hK K hHeld
          have hHeld := hHeld'
          clear hHeld'
          (try simp only [Act.put, List.setIfInBounds_toArray, List.set_cons_zero, List.set_cons_succ])
          refine wpAnyH_take (i := 10) (oi := ?_) (v := ?_) ?_ (by kernel_rfl) (by kernel_rfl) (by kernel_rfl) ?_ (Or.inl ⟨?_, ?_⟩) (by assumption) ?_
          rotate_left 2
          · (simp only [List.getElem?_toArray, List.getElem?_cons_zero, List.getElem?_cons_succ]; rfl)
          · exact fun _ _ _ h => h
          · rfl
          · (intro wS hSw; (try dsimp only at hSw); go_simp; (try with_reducible rfl))
          (try simp only [Act.put, List.setIfInBounds_toArray, List.set_cons_zero, List.set_cons_succ])
          refine wpAnyH_done (by kernel_rfl) ?_ _
          (try go_wp2_with fail)
          go_meet
          case rel =>
            have owk : OwnI w9 w8.heap.size w9.heap.size r9 m9 d9 ta := ho9
            exact ⟨w7.heap.size, r9, m9, d9, w8.heap.size, w9.heap.size, rfl, rfl, setg_0 hq9 _ _ _, setg_1 hq9 _ _ _, setg_2 hq9 _ _ _, owk.set3 (.inl (by omega)) _ _ _, by omega, by simp [World.setCell], by omega, by simp only [World.setCell, Array.size_modify]; omega, .inl (by omega), ((Y_9.setCell (by show w2.heap.size ≤ w7.heap.size; omega) _).setCell (by show w2.heap.size ≤ w7.heap.size; omega) _).setCell (by show w2.heap.size ≤ w7.heap.size; omega) _⟩
      refine AllReadyH.cons (o := ?_) ?_ (fun K hK => ?_) AllReadyH.nil
      rotate_left
      · (simp only [List.getElem?_toArray, List.getElem?_cons_zero, List.getElem?_cons_succ]; rfl)
      · go_simp
        (try go_wp2_with fail)
        refine hK.out _ _ ?_ (fun hHeld' => ?_)
        · (try dsimp only)
          exact cell_later ((Below.refl _ _).alloc (Nat.le_refl _) _) p1a_6
        clear hK K hHeld
        have hHeld := hHeld'
        clear hHeld'
        (try simp only [Act.put, List.setIfInBounds_toArray, List.set_cons_zero, List.set_cons_succ])
        obtain ⟨w7, hU7⟩ : ∃ u, u = w6.alloc (.cells #[.slice none 0 0, .int .i64 0, .int .i64 0] 35) := ⟨_, rfl⟩
        have hb7 : Below w6.heap.size w6 w7 := by rw [hU7]; exact (Below.refl _ _).alloc (Nat.le_refl _) _
        have zp7 : w7.heap.size = w6.heap.size + 1 := by rw [hU7]; simp
        have hp7 : w7.heap[w6.heap.size]? = some (.cells #[.slice none 0 0, .int .i64 0, .int .i64 0] 35 (0, 0)) := by rw [hU7]; exact heap_alloc_new _ _
        rw [← hU7]
        clear hU7
        have p1a_7 := cell_later hb7 p1a_6
        have t0_7 := ho6.below hb7
        have B_7 := B_6.trans (hb7.mono B_6.size)
        have Y_7 : Below w2.heap.size w2 w7 := Y_6.trans (hb7.mono Y_6.size)
        have zz7 : w6.heap.size ≤ w7.heap.size := by have q := hb7.size; first | exact q | simpa using q
        refine wpAnyH_ready (rs := [3]) (by kernel_rfl) (by simp) ?_
        refine AllReadyH.cons (o := ?_) ?_ (fun K hK => ?_) AllReadyH.nil
        rotate_left
        · (simp only [List.getElem?_toArray, List.getElem?_cons_zero, List.getElem?_cons_succ]; rfl)
        go_simp
        go_at_call 16
        refine (toRowG _ _ _ z1 _ hs1 (ha1.below B_7)).mono ?_
        rintro e w8 ⟨g8, rfl, ho8, hb8⟩
        have p1a_8 := cell_later hb8 p1a_7
        have t0_8 := t0_7.below hb8
        have hq8 := (hb8.block (w6.heap.size) (Array.getElem?_eq_some_iff.1 hp7).1).trans hp7
        have B_8 := B_7.trans (hb8.mono B_7.size)
        have Y_8 : Below w2.heap.size w2 w8 := Y_7.trans (hb8.mono Y_7.size)
        have zz8 : w7.heap.size ≤ w8.heap.size := by have q := hb8.size; first | exact q | simpa using q
        (try go_wp2_with fail)
        refine hK.out _ _ ?_ (fun hHeld' => ?_)
        · (try dsimp only)
          exact p1a_8
        clear hK K hHeld
        have hHeld := hHeld'
        clear hHeld'
        (try simp only [Act.put, List.setIfInBounds_toArray, List.set_cons_zero, List.set_cons_succ])
        refine wpAnyH_ready (rs := [4]) (by kernel_rfl) (by simp) ?_
        refine AllReadyH.cons (o := ?_) ?_ (fun K hK => ?_) AllReadyH.nil
        rotate_left
        · (simp only [List.getElem?_toArray, List.getElem?_cons_zero, List.getElem?_cons_succ]; rfl)
        go_simp
        go_at_call 15
        refine (HS.out _ _ _ _ _ _ _ _ _ t0_8 ho8).mono ?_
        rintro e w9 ⟨⟨r9, m9, d9, rfl, ho9⟩, hb9⟩
        have p1a_9 := cell_later hb9 p1a_8
        have hq9 := (hb9.block (w6.heap.size) (Array.getElem?_eq_some_iff.1 hq8).1).trans hq8
        have B_9 := B_8.trans (hb9.mono B_8.size)
        have Y_9 : Below w2.heap.size w2 w9 := Y_8.trans (hb9.mono Y_8.size)
        have zz9 : w8.heap.size ≤ w9.heap.size := by have q := hb9.size; first | exact q | simpa using q
        (try go_wp2_with fail)
        refine hK.out _ _ ?_ (fun hHeld' => ?_)
        · (try dsimp only)
          exact p1a_9
        clear hK K hHeld
        have hHeld := hHeld'
        clear hHeld'
        (try simp only [Act.put, List.setIfInBounds_toArray, List.set_cons_zero, List.set_cons_succ])
        refine wpAnyH_take (i := 5) (oi := ?_) (v := ?_) ?_ (by kernel_rfl) (by kernel_rfl) (by kernel_rfl) ?_ (Or.inl ⟨?_, ?_⟩) (by assumption) ?_
        rotate_left 2
        · (simp only [List.getElem?_toArray, List.getElem?_cons_zero, List.getElem?_cons_succ]; rfl)
        · exact fun _ _ _ h => h
        · rfl
        · (intro wS hSw; (try dsimp only at hSw); go_simp; (try with_reducible rfl))
        (try simp only [Act.put, List.setIfInBounds_toArray, List.set_cons_zero, List.set_cons_succ])
        refine wpAnyH_take (i := 6) (oi := ?_) (v := ?_) ?_ (by kernel_rfl) (by kernel_rfl) (by kernel_rfl) ?_ (Or.inl ⟨?_, ?_⟩) (by assumption) ?_
        rotate_left 2
        · (simp only [List.getElem?_toArray, List.getElem?_cons_zero, List.getElem?_cons_succ]; rfl)
        · exact fun _ _ _ h => h
        · rfl
        · (intro wS hSw; (try dsimp only at hSw); go_simp; (try with_reducible rfl))
        (try simp only [Act.put, List.setIfInBounds_toArray, List.set_cons_zero, List.set_cons_succ])
        refine wpAnyH_take (i := 7) (oi := ?_) (v := ?_) ?_ (by kernel_rfl) (by kernel_rfl) (by kernel_rfl) ?_ (Or.inl ⟨?_, ?_⟩) (by assumption) ?_
        rotate_left 2
        · (simp only [List.getElem?_toArray, List.getElem?_cons_zero, List.getElem?_cons_succ]; rfl)
        · exact fun _ _ _ h => h
        · rfl
        · (intro wS hSw; (try dsimp only at hSw); go_simp; (try with_reducible rfl))
        (try simp only [Act.put, List.setIfInBounds_toArray, List.set_cons_zero, List.set_cons_succ])
        have u0 : w9.cell? ⟨w6.heap.size, 0, none⟩ = some (.slice none 0 0) := by rw [cell_of_row _ _ 0 _ _ (0, 0) hq9]; rfl
        have v0 : w9.frozen? ⟨w6.heap.size, 0, none⟩ = false := frozen_of_row _ _ 0 _ _ hq9
        have u1 : w9.cell? ⟨w6.heap.size, 1, none⟩ = some (.int .i64 0) := by rw [cell_of_row _ _ 1 _ _ (0, 0) hq9]; rfl
        have v1 : w9.frozen? ⟨w6.heap.size, 1, none⟩ = false := frozen_of_row _ _ 1 _ _ hq9
        have u2 : w9.cell? ⟨w6.heap.size, 2, none⟩ = some (.int .i64 0) := by rw [cell_of_row _ _ 2 _ _ (0, 0) hq9]; rfl
        have v2 : w9.frozen? ⟨w6.heap.size, 2, none⟩ = false := frozen_of_row _ _ 2 _ _ hq9
        refine wpAnyH_ready (rs := [9]) (by kernel_rfl) (by simp) ?_
        refine AllReadyH.cons (o := ?_) ?_ (fun K hK => ?_) AllReadyH.nil
        rotate_left
        · (simp only [List.getElem?_toArray, List.getElem?_cons_zero, List.getElem?_cons_succ]; rfl)
        go_simp
        skip
        (try go_wp2_with fail)
        refine hK.out _ _ ?_ (fun hHeld' => ?_)
        · (try dsimp only)
          exact keep_far (keep_far (keep_far p1a_9 (by omega)) (by omega)) (by omega)
        clear hK K hHeld
        have hHeld := hHeld'
        clear hHeld'
        (try simp only [Act.put, List.setIfInBounds_toArray, List.set_cons_zero, List.set_cons_succ])
        refine wpAnyH_take (i := 10) (oi := ?_) (v := ?_) ?_ (by kernel_rfl) (by kernel_rfl) (by kernel_rfl) ?_ (Or.inl ⟨?_, ?_⟩) (by assumption) ?_
        rotate_left 2
        · (simp only [List.getElem?_toArray, List.getElem?_cons_zero, List.getElem?_cons_succ]; rfl)
        · exact fun _ _ _ h => h
        · rfl
        · (intro wS hSw; (try dsimp only at hSw); go_simp; (try with_reducible rfl))
        (try simp only [Act.put, List.setIfInBounds_toArray, List.set_cons_zero, List.set_cons_succ])
        refine wpAnyH_done (by kernel_rfl) ?_ _
        (try go_wp2_with fail)
        go_meet
        case rel =>
          have owk : OwnI w9 w8.heap.size w9.heap.size r9 m9 d9 ta := ho9
          exact ⟨w6.heap.size, r9, m9, d9, w8.heap.size, w9.heap.size, rfl, rfl, setg_0 hq9 _ _ _, setg_1 hq9 _ _ _, setg_2 hq9 _ _ _, owk.set3 (.inl (by omega)) _ _ _, by omega, by simp [World.setCell], by omega, by simp only [World.setCell, Array.size_modify]; omega, .inl (by omega), ((Y_9.setCell (by show w2.heap.size ≤ w6.heap.size; omega) _).setCell (by show w2.heap.size ≤ w6.heap.size; omega) _).setCell (by show w2.heap.size ≤ w6.heap.size; omega) _⟩
    refine AllReadyH.cons (o := ?_) ?_ (fun K hK => ?_) AllReadyH.nil
    rotate_left
    · (simp only [List.getElem?_toArray, List.getElem?_cons_zero, List.getElem?_cons_succ]; rfl)
    · go_simp
      (try go_wp2_with fail)
      refine hK.out _ _ ?_ (fun hHeld' => ?_)
      · (try dsimp only)
        exact cell_later ((Below.refl _ _).alloc (Nat.le_refl _) _) p1a_5
      clear hK K hHeld
      have hHeld := hHeld'
      clear hHeld'
      (try simp only [Act.put, List.setIfInBounds_toArray, List.set_cons_zero, List.set_cons_succ])
      obtain ⟨w6, hU6⟩ : ∃ u, u = w5.alloc (.cells #[.slice none 0 0, .int .i64 0, .int .i64 0] 35) := ⟨_, rfl⟩
      have hb6 : Below w5.heap.size w5 w6 := by rw [hU6]; exact (Below.refl _ _).alloc (Nat.le_refl _) _
      have zp6 : w6.heap.size = w5.heap.size + 1 := by rw [hU6]; simp
      have hp6 : w6.heap[w5.heap.size]? = some (.cells #[.slice none 0 0, .int .i64 0, .int .i64 0] 35 (0, 0)) := by rw [hU6]; exact heap_alloc_new _ _
      rw [← hU6]
      clear hU6
      have p1a_6 := cell_later hb6 p1a_5
      have B_6 := B_5.trans (hb6.mono B_5.size)
      have Y_6 : Below w2.heap.size w2 w6 := Y_5.trans (hb6.mono Y_5.size)
      have zz6 : w5.heap.size ≤ w6.heap.size := by have q := hb6.size; first | exact q | simpa using q
      refine wpAnyH_ready (rs := [1]) (by kernel_rfl) (by simp) ?_
      refine AllReadyH.cons (o := ?_) ?_ (fun K hK => ?_) AllReadyH.nil
      rotate_left
      · (simp only [List.getElem?_toArray, List.getElem?_cons_zero, List.getElem?_cons_succ]; rfl)
      go_simp
      go_at_call 11
      refine (toGroupSG _ _ _ z0 _ hs0 (ha0.below B_6)).mono ?_
      rintro e w7 ⟨g7, rfl, ho7, hb7⟩
      have p1a_7 := cell_later hb7 p1a_6
      have hq7 := (hb7.block (w5.heap.size) (Array.getElem?_eq_some_iff.1 hp6).1).trans hp6
      have B_7 := B_6.trans (hb7.mono B_6.size)
      have Y_7 : Below w2.heap.size w2 w7 := Y_6.trans (hb7.mono Y_6.size)
      have zz7 : w6.heap.size ≤ w7.heap.size := by have q := hb7.size; first | exact q | simpa using q
      (try go_wp2_with fail)
      refine hK.out _ _ ?_ (fun hHeld' => ?_)
      · (try dsimp only)
        exact p1a_7
      clear hK K hHeld
      have hHeld := hHeld'
      clear hHeld'
      (try simp only [Act.put, List.setIfInBounds_toArray, List.set_cons_zero, List.set_cons_succ])
      refine wpAnyH_ready (rs := [3]) (by kernel_rfl) (by simp) ?_
      refine AllReadyH.cons (o := ?_) ?_ (fun K hK => ?_) AllReadyH.nil
      rotate_left
      · (simp only [List.getElem?_toArray, List.getElem?_cons_zero, List.getElem?_cons_succ]; rfl)
      go_simp
      go_at_call 16
      refine (toRowG _ _ _ z1 _ hs1 (ha1.below B_7)).mono ?_
      rintro e w8 ⟨g8, rfl, ho8, hb8⟩
      have p1a_8 := cell_later hb8 p1a_7
      have t0_8 := ho7.below hb8
      have hq8 := (hb8.block (w5.heap.size) (Array.getElem?_eq_some_iff.1 hq7).1).trans hq7
      have B_8 := B_7.trans (hb8.mono B_7.size)
      have Y_8 : Below w2.heap.size w2 w8 := Y_7.trans (hb8.mono Y_7.size)
      have zz8 : w7.heap.size ≤ w8.heap.size := by have q := hb8.size; first | exact q | simpa using q
      (try go_wp2_with fail)
      refine hK.out _ _ ?_ (fun hHeld' => ?_)
      · (try dsimp only)
        exact p1a_8
      clear hK K hHeld
      have hHeld := hHeld'
      clear hHeld'
      (try simp only [Act.put, List.setIfInBounds_toArray, List.set_cons_zero, List.set_cons_succ])
      refine wpAnyH_ready (rs := [4]) (by kernel_rfl) (by simp) ?_
      refine AllReadyH.cons (o := ?_) ?_ (fun K hK => ?_) AllReadyH.nil
      rotate_left
      · (simp only [List.getElem?_toArray, List.getElem?_cons_zero, List.getElem?_cons_succ]; rfl)
      go_simp
      go_at_call 15
      refine (HS.out _ _ _ _ _ _ _ _ _ t0_8 ho8).mono ?_
      rintro e w9 ⟨⟨r9, m9, d9, rfl, ho9⟩, hb9⟩
      have p1a_9 := cell_later hb9 p1a_8
      have hq9 := (hb9.block (w5.heap.size) (Array.getElem?_eq_some_iff.1 hq8).1).trans hq8
      have B_9 := B_8.trans (hb9.mono B_8.size)
      have Y_9 : Below w2.heap.size w2 w9 := Y_8.trans (hb9.mono Y_8.size)
      have zz9 : w8.heap.size ≤ w9.heap.size := by have q := hb9.size; first | exact q | simpa using q
      (try go_wp2_with fail)
      refine hK.out _ _ ?_ (fun hHeld' => ?_)
      · (try dsimp only)
        exact p1a_9
      clear hK K hHeld
      have hHeld := hHeld'
      clear hHeld'
      (try simp only [Act.put, List.setIfInBounds_toArray, List.set_cons_zero, List.set_cons_succ])
      refine wpAnyH_take (i := 5) (oi := ?_) (v := ?_) ?_ (by kernel_rfl) (by kernel_rfl) (by kernel_rfl) ?_ (Or.inl ⟨?_, ?_⟩) (by assumption) ?_
      rotate_left 2
      · (simp only [List.getElem?_toArray, List.getElem?_cons_zero, List.getElem?_cons_succ]; rfl)
      · exact fun _ _ _ h => h
      · rfl
      · (intro wS hSw; (try dsimp only at hSw); go_simp; (try with_reducible rfl))
      (try simp only [Act.put, List.setIfInBounds_toArray, List.set_cons_zero, List.set_cons_succ])
      refine wpAnyH_take (i := 6) (oi := ?_) (v := ?_) ?_ (by kernel_rfl) (by kernel_rfl) (by kernel_rfl) ?_ (Or.inl ⟨?_, ?_⟩) (by assumption) ?_
      rotate_left 2
      · (simp only [List.getElem?_toArray, List.getElem?_cons_zero, List.getElem?_cons_succ]; rfl)
      · exact fun _ _ _ h => h
      · rfl
      · (intro wS hSw; (try dsimp only at hSw); go_simp; (try with_reducible rfl))
      (try simp only [Act.put, List.setIfInBounds_toArray, List.set_cons_zero, List.set_cons_succ])
      refine wpAnyH_take (i := 7) (oi := ?_) (v := ?_) ?_ (by kernel_rfl) (by kernel_rfl) (by kernel_rfl) ?_ (Or.inl ⟨?_, ?_⟩) (by assumption) ?_
      rotate_left 2
      · (simp only [List.getElem?_toArray, List.getElem?_cons_zero, List.getElem?_cons_succ]; rfl)
      · exact fun _ _ _ h => h
      · rfl
      · (intro wS hSw; (try dsimp only at hSw); go_simp; (try with_reducible rfl))
      (try simp only [Act.put, List.setIfInBounds_toArray, List.set_cons_zero, List.set_cons_succ])
      have u0 : w9.cell? ⟨w5.heap.size, 0, none⟩ = some (.slice none 0 0) := by rw [cell_of_row _ _ 0 _ _ (0, 0) hq9]; rfl
      have v0 : w9.frozen? ⟨w5.heap.size, 0, none⟩ = false := frozen_of_row _ _ 0 _ _ hq9
      have u1 : w9.cell? ⟨w5.heap.size, 1, none⟩ = some (.int .i64 0) := by rw [cell_of_row _ _ 1 _ _ (0, 0) hq9]; rfl
      have v1 : w9.frozen? ⟨w5.heap.size, 1, none⟩ = false := frozen_of_row _ _ 1 _ _ hq9
      have u2 : w9.cell? ⟨w5.heap.size, 2, none⟩ = some (.int .i64 0) := by rw [cell_of_row _ _ 2 _ _ (0, 0) hq9]; rfl
      have v2 : w9.frozen? ⟨w5.heap.size, 2, none⟩ = false := frozen_of_row _ _ 2 _ _ hq9
      refine wpAnyH_ready (rs := [9]) (by kernel_rfl) (by simp) ?_
      refine AllReadyH.cons (o := ?_) ?_ (fun K hK => ?_) AllReadyH.nil
      rotate_left
      · (simp only [List.getElem?_toArray, List.getElem?_cons_zero, List.getElem?_cons_succ]; rfl)
      go_simp
      skip
      (try go_wp2_with fail)
      refine hK.out _ _ ?_ (fun hHeld' => ?_)
      · (try dsimp only)
        exact keep_far (keep_far (keep_far p1a_9 (by omega)) (by omega)) (by omega)
      clear hK K hHeld
      have hHeld := hHeld'
      clear hHeld'
      (try simp only [Act.put, List.setIfInBounds_toArray, List.set_cons_zero, List.set_cons_succ])
      refine wpAnyH_take (i := 10) (oi := ?_) (v := ?_) ?_ (by kernel_rfl) (by kernel_rfl) (by kernel_rfl) ?_ (Or.inl ⟨?_, ?_⟩) (by assumption) ?_
      rotate_left 2
      · (simp only [List.getElem?_toArray, List.getElem?_cons_zero, List.getElem?_cons_succ]; rfl)
      · exact fun _ _ _ h => h
      · rfl
      · (intro wS hSw; (try dsimp only at hSw); go_simp; (try with_reducible rfl))
      (try simp only [Act.put, List.setIfInBounds_toArray, List.set_cons_zero, List.set_cons_succ])
      refine wpAnyH_done (by kernel_rfl) ?_ _
      (try go_wp2_with fail)
      go_meet
      case rel =>
        have owk : OwnI w9 w8.heap.size w9.heap.size r9 m9 d9 ta := ho9
        exact ⟨w5.heap.size, r9, m9, d9, w8.heap.size, w9.heap.size, rfl, rfl, setg_0 hq9 _ _ _, setg_1 hq9 _ _ _, setg_2 hq9 _ _ _, owk.set3 (.inl (by omega)) _ _ _, by omega, by simp [World.setCell], by omega, by simp only [World.setCell, Array.size_modify]; omega, .inl (by omega), ((Y_9.setCell (by show w2.heap.size ≤ w5.heap.size; omega) _).setCell (by show w2.heap.size ≤ w5.heap.size; omega) _).setCell (by show w2.heap.size ≤ w5.heap.size; omega) _⟩
  case rest =>
    obtain ⟨Pb63, r63, m63, d63, lo63, hi63, rfl, rfl, Wa_63, Wb_63, Wc_63, ow63, pl63, ph63, pm63, pn63, pd63, hb63⟩ := hcut
    obtain ⟨w63, rfl⟩ : ∃ x, x = wc := ⟨_, rfl⟩
    obtain rfl : na = m63 := HNA.out.symm.trans ow63.len
    have p1a_63 := cell_later hb63 p1a_2
    have B_63 := B_2.trans (hb63.mono B_2.size)
    have zz63 : w2.heap.size ≤ w63.heap.size := by have q := hb63.size; first | exact q | simpa using q
    clear p1a_2 B_2
    clear hb63
    go_wp2_with fail
    refine (toGroupSG _ _ _ z0 _ hs0 (ha0.below B_63)).mono ?_
    rintro e w64 ⟨g64, rfl, ho64, hb64⟩
    have p1a_64 := cell_later hb64 p1a_63
    have Wa_64 := cell_later hb64 Wa_63
    have Wb_64 := cell_later hb64 Wb_63
    have Wc_64 := cell_later hb64 Wc_63
    have o_64 := ow63.below hb64
    have B_64 := B_63.trans (hb64.mono B_63.size)
    have zz64 : w63.heap.size ≤ w64.heap.size := by have q := hb64.size; first | exact q | simpa using q
    clear p1a_63 Wa_63 Wb_63 Wc_63 ow63 B_63
    clear hb64
    have ox64 : OwnGr w64 (w63.heap.size) w64.heap.size (some ⟨g64, 0, none⟩) n0 n0 z0 := by first | exact ho64 | simpa using ho64
    clear ho64
    go_wp2_with fail
    refine (toRowG _ _ _ z1 _ hs1 (ha1.below B_64)).mono ?_
    rintro e w65 ⟨g65, rfl, ho65, hb65⟩
    have p1a_65 := cell_later hb65 p1a_64
    have Wa_65 := cell_later hb65 Wa_64
    have Wb_65 := cell_later hb65 Wb_64
    have Wc_65 := cell_later hb65 Wc_64
    have o_65 := o_64.below hb65
    have x0_65 := ox64.below hb65
    have B_65 := B_64.trans (hb65.mono B_64.size)
    have zz65 : w64.heap.size ≤ w65.heap.size := by have q := hb65.size; first | exact q | simpa using q
    clear p1a_64 Wa_64 Wb_64 Wc_64 o_64 ox64 B_64
    clear hb65
    have ox65 : OwnI w65 (w64.heap.size) w65.heap.size (some ⟨g65, 0, none⟩) n1 n1 z1 := by first | exact ho65 | simpa using ho65
    clear ho65
    have hb66 : Below w65.heap.size w65 (w65.alloc (.cells #[.slice (some ⟨g65, 0, none⟩) n1 n1] 33)) := (Below.refl _ _).alloc (Nat.le_refl _) _
    have p1a_66 := cell_later hb66 p1a_65
    have Wa_66 := cell_later hb66 Wa_65
    have Wb_66 := cell_later hb66 Wb_65
    have Wc_66 := cell_later hb66 Wc_65
    have o_66 := o_65.below hb66
    have x0_66 := x0_65.below hb66
    have x1_66 := ox65.below hb66
    have B_66 := B_65.trans (hb66.mono B_65.size)
    have zz66 : w65.heap.size ≤ w65.heap.size + 1 := by simp
    clear p1a_65 Wa_65 Wb_65 Wc_65 o_65 x0_65 ox65 B_65
    have X1a_66 : (w65.alloc (.cells #[.slice (some ⟨g65, 0, none⟩) n1 n1] 33)).cell? ⟨w65.heap.size, 0, none⟩ = some (.slice (some ⟨g65, 0, none⟩) n1 n1) := by simp
    clear hb66
    go_wp2_with fail
    refine (HI.out _ _ _ _ _ _ _ _ _ x0_66 x1_66).mono ?_
    rintro e w67 ⟨⟨r67, m67, d67, rfl, ho67⟩, hb67⟩
    have p1a_67 := cell_later hb67 p1a_66
    have Wa_67 := cell_later hb67 Wa_66
    have Wb_67 := cell_later hb67 Wb_66
    have Wc_67 := cell_later hb67 Wc_66
    have X1a_67 := cell_later hb67 X1a_66
    have o_67 := o_66.below hb67
    have x0_67 := x0_66.below hb67
    have x1_67 := x1_66.below hb67
    have B_67 := B_66.trans (hb67.mono B_66.size)
    have zz67 : w65.heap.size + 1 ≤ w67.heap.size := by have q := hb67.size; first | exact q | simpa using q
    clear p1a_66 Wa_66 Wb_66 Wc_66 X1a_66 o_66 x0_66 x1_66 B_66
    clear hb67
    have ow67 : OwnI w67 (w65.heap.size + 1) w67.heap.size r67 m67 d67 ta := by first | exact ho67 | simpa using ho67
    obtain rfl : na = m67 := HNA.out.symm.trans ow67.len
    clear ho67
    have hb68 : Below w67.heap.size w67 (w67.alloc (.cells #[.slice r67 na d67, .int .i64 pa, .int .i64 pb] 35)) := (Below.refl _ _).alloc (Nat.le_refl _) _
    have p1a_68 := cell_later hb68 p1a_67
    have Wa_68 := cell_later hb68 Wa_67
    have Wb_68 := cell_later hb68 Wb_67
    have Wc_68 := cell_later hb68 Wc_67
    have X1a_68 := cell_later hb68 X1a_67
    have o_68 := o_67.below hb68
    have x0_68 := x0_67.below hb68
    have x1_68 := x1_67.below hb68
    have g_68 := ow67.below hb68
    have B_68 := B_67.trans (hb68.mono B_67.size)
    have zz68 : w67.heap.size ≤ w67.heap.size + 1 := by simp
    clear p1a_67 Wa_67 Wb_67 Wc_67 X1a_67 o_67 x0_67 x1_67 ow67 B_67
    have Ga_68 : (w67.alloc (.cells #[.slice r67 na d67, .int .i64 pa, .int .i64 pb] 35)).cell? ⟨w67.heap.size, 0, none⟩ = some (.slice r67 na d67) := by simp
    have Gb_68 : (w67.alloc (.cells #[.slice r67 na d67, .int .i64 pa, .int .i64 pb] 35)).cell? ⟨w67.heap.size, 1, none⟩ = some (.int .i64 pa) := by simp
    have Gc_68 : (w67.alloc (.cells #[.slice r67 na d67, .int .i64 pa, .int .i64 pb] 35)).cell? ⟨w67.heap.size, 2, none⟩ = some (.int .i64 pb) := by simp
    clear hb68
    go_wp2_with fail
    refine (eqGroupG _ _ _ _ _ ta pa pb _ hsA (g_68.at hsA) (o_68.at hsA)).mono ?_
    rintro e w69 ⟨rfl, hb69⟩
    have p1a_69 := cell_later hb69 p1a_68
    have Wa_69 := cell_later hb69 Wa_68
    have Wb_69 := cell_later hb69 Wb_68
    have Wc_69 := cell_later hb69 Wc_68
    have X1a_69 := cell_later hb69 X1a_68
    have Ga_69 := cell_later hb69 Ga_68
    have Gb_69 := cell_later hb69 Gb_68
    have Gc_69 := cell_later hb69 Gc_68
    have o_69 := o_68.below hb69
    have x0_69 := x0_68.below hb69
    have x1_69 := x1_68.below hb69
    have g_69 := g_68.below hb69
    have B_69 := B_68.trans (hb69.mono B_68.size)
    have zz69 : w67.heap.size + 1 ≤ w69.heap.size := by have q := hb69.size; first | exact q | simpa using q
    clear p1a_68 Wa_68 Wb_68 Wc_68 X1a_68 Ga_68 Gb_68 Gc_68 o_68 x0_68 x1_68 g_68 B_68
    clear hb69
    go_wp2_with fail
    refine (toGroupSG _ _ _ z0 _ hs0 (ha0.below B_69)).mono ?_
    rintro e w70 ⟨g70, rfl, ho70, hb70⟩
    have p1a_70 := cell_later hb70 p1a_69
    have Wa_70 := cell_later hb70 Wa_69
    have Wb_70 := cell_later hb70 Wb_69
    have Wc_70 := cell_later hb70 Wc_69
    have X1a_70 := cell_later hb70 X1a_69
    have Ga_70 := cell_later hb70 Ga_69
    have Gb_70 := cell_later hb70 Gb_69
    have Gc_70 := cell_later hb70 Gc_69
    have o_70 := o_69.below hb70
    have x0_70 := x0_69.below hb70
    have x1_70 := x1_69.below hb70
    have g_70 := g_69.below hb70
    have B_70 := B_69.trans (hb70.mono B_69.size)
    have zz70 : w69.heap.size ≤ w70.heap.size := by have q := hb70.size; first | exact q | simpa using q
    clear p1a_69 Wa_69 Wb_69 Wc_69 X1a_69 Ga_69 Gb_69 Gc_69 o_69 x0_69 x1_69 g_69 B_69
    clear hb70
    go_wp2_with fail
    refine (eqGroupSG _ _ _ _ _ z0 _ hs0 (x0_70.atV hs0) (ho70.atV hs0)).mono ?_
    rintro e w71 ⟨rfl, hb71⟩
    have p1a_71 := cell_later hb71 p1a_70
    have Wa_71 := cell_later hb71 Wa_70
    have Wb_71 := cell_later hb71 Wb_70
    have Wc_71 := cell_later hb71 Wc_70
    have X1a_71 := cell_later hb71 X1a_70
    have Ga_71 := cell_later hb71 Ga_70
    have Gb_71 := cell_later hb71 Gb_70
    have Gc_71 := cell_later hb71 Gc_70
    have o_71 := o_70.below hb71
    have x0_71 := x0_70.below hb71
    have x1_71 := x1_70.below hb71
    have g_71 := g_70.below hb71
    have y_71 := ho70.below hb71
    have B_71 := B_70.trans (hb71.mono B_70.size)
    have zz71 : w70.heap.size ≤ w71.heap.size := by have q := hb71.size; first | exact q | simpa using q
    clear p1a_70 Wa_70 Wb_70 Wc_70 X1a_70 Ga_70 Gb_70 Gc_70 o_70 x0_70 x1_70 g_70 ho70 B_70
    clear hb71
    clear y_71
    go_wp2_with fail
    refine wp_region_held_drew (S := fun w' => w'.cell? ⟨w65.heap.size, 0, none⟩ = some (.slice (some ⟨g65, 0, none⟩) n1 n1) ∧ w'.cell? ⟨w.heap.size, 0, none⟩ = some (.slice a1 n1 c1)) (by kernel_rfl) ?_ (fun hHeld => ?_)
    · (try dsimp only)
      exact ⟨X1a_71, p1a_71⟩
    refine wpAnyH_take (i := 0) (oi := ?_) (v := ?_) ?_ (by kernel_rfl) (by kernel_rfl) (by kernel_rfl) ?_ (Or.inl ⟨?_, ?_⟩) (by assumption) ?_
    rotate_left 2
    · (simp only [List.getElem?_toArray, List.getElem?_cons_zero]; rfl)
    · exact fun _ _ _ h => h
    · rfl
    · (intro wS hSw; (try dsimp only at hSw); go_simp; (try with_reducible rfl))
    (try simp only [Act.put, List.setIfInBounds_toArray, List.set_cons_zero, List.set_cons_succ])
    refine wpAnyH_take (i := 1) (oi := ?_) (v := ?_) ?_ (by kernel_rfl) (by kernel_rfl) (by kernel_rfl) ?_ (Or.inl ⟨?_, ?_⟩) (by assumption) ?_
    rotate_left 2
    · (simp only [List.getElem?_toArray, List.getElem?_cons_zero, List.getElem?_cons_succ]; rfl)
    · exact fun _ _ _ h => h
    · rfl
    · (intro wS hSw; (try dsimp only at hSw); go_simp; (try with_reducible rfl))
    (try simp only [Act.put, List.setIfInBounds_toArray, List.set_cons_zero, List.set_cons_succ])
    refine wpAnyH_ready (rs := [2]) (by kernel_rfl) (by simp) ?_
    refine AllReadyH.cons (o := ?_) ?_ (fun K hK => ?_) AllReadyH.nil
    rotate_left
    · (simp only [List.getElem?_toArray, List.getElem?_cons_zero, List.getElem?_cons_succ]; rfl)
    go_simp
    go_at_call 16
    refine (toRowG _ _ _ z1 _ hs1 (ha1.below B_71.drew)).mono ?_
    rintro e w72 ⟨g72, rfl, ho72, hd72⟩
    have hb72 : Below w71.heap.size w71 w72 := (Below.refl _ _).drew.trans hd72
    have p1a_72 := cell_later hb72 p1a_71
    have Wa_72 := cell_later hb72 Wa_71
    have Wb_72 := cell_later hb72 Wb_71
    have Wc_72 := cell_later hb72 Wc_71
    have X1a_72 := cell_later hb72 X1a_71
    have Ga_72 := cell_later hb72 Ga_71
    have Gb_72 := cell_later hb72 Gb_71
    have Gc_72 := cell_later hb72 Gc_71
    have o_72 := o_71.below hb72
    have x0_72 := x0_71.below hb72
    have x1_72 := x1_71.below hb72
    have g_72 := g_71.below hb72
    have B_72 := B_71.trans (hb72.mono B_71.size)
    have zz72 : w71.heap.size ≤ w72.heap.size := by have q := hb72.size; first | exact q | simpa using q
    clear p1a_71 Wa_71 Wb_71 Wc_71 X1a_71 Ga_71 Gb_71 Gc_71 o_71 x0_71 x1_71 g_71 B_71
    (try go_wp2_with fail)
    refine hK.out _ _ ?_ (fun hHeld' => ?_)
    · (try dsimp only)
      exact ⟨X1a_72, p1a_72⟩
    clear hK K hHeld
    have hHeld := hHeld'
    clear hHeld'
    (try simp only [Act.put, List.setIfInBounds_toArray, List.set_cons_zero, List.set_cons_succ])
    clear hb72 hd72
    refine wpAnyH_ready (rs := [3]) (by kernel_rfl) (by simp) ?_
    refine AllReadyH.cons (o := ?_) ?_ (fun K hK => ?_) AllReadyH.nil
    rotate_left
    · (simp only [List.getElem?_toArray, List.getElem?_cons_zero, List.getElem?_cons_succ]; rfl)
    go_simp
    go_at_call 19
    refine (eqRowG _ _ _ _ _ z1 _ hs1 (x1_72.at hs1) (ho72.at hs1)).mono ?_
    rintro e w73 ⟨rfl, hb73⟩
    clear ho72
    have p1a_73 := cell_later hb73 p1a_72
    have Wa_73 := cell_later hb73 Wa_72
    have Wb_73 := cell_later hb73 Wb_72
    have Wc_73 := cell_later hb73 Wc_72
    have X1a_73 := cell_later hb73 X1a_72
    have Ga_73 := cell_later hb73 Ga_72
    have Gb_73 := cell_later hb73 Gb_72
    have Gc_73 := cell_later hb73 Gc_72
    have o_73 := o_72.below hb73
    have x0_73 := x0_72.below hb73
    have x1_73 := x1_72.below hb73
    have g_73 := g_72.below hb73
    have B_73 := B_72.trans (hb73.mono B_72.size)
    have zz73 : w72.heap.size ≤ w73.heap.size := by have q := hb73.size; first | exact q | simpa using q
    clear p1a_72 Wa_72 Wb_72 Wc_72 X1a_72 Ga_72 Gb_72 Gc_72 o_72 x0_72 x1_72 g_72 B_72
    (try go_wp2_with fail)
    refine hK.out _ _ ?_ (fun hHeld' => ?_)
    · (try dsimp only)
      exact ⟨X1a_73, p1a_73⟩
    clear hK K hHeld
    have hHeld := hHeld'
    clear hHeld'
    (try simp only [Act.put, List.setIfInBounds_toArray, List.set_cons_zero, List.set_cons_succ])
    refine wpAnyH_take (i := 4) (oi := ?_) (v := ?_) ?_ (by kernel_rfl) (by kernel_rfl) (by kernel_rfl) ?_ (Or.inl ⟨?_, ?_⟩) (by assumption) ?_
    rotate_left 2
    · (simp only [List.getElem?_toArray, List.getElem?_cons_zero, List.getElem?_cons_succ]; rfl)
    · exact fun _ _ _ h => h
    · rfl
    · (intro wS hSw; (try dsimp only at hSw); go_simp; (try with_reducible rfl))
    (try simp only [Act.put, List.setIfInBounds_toArray, List.set_cons_zero, List.set_cons_succ])
    refine wpAnyH_done (by kernel_rfl) ?_ _
    clear hb73 hHeld
    go_wp2_with fail
    refine (markGroupSG _ _ _ _ _ z0 _ _ hs0 (by omega) (by omega) x0_73).mono ?_
    rintro e w74 ⟨rfl, ho74, ha74⟩
    have p1a_74 := ha74.cell p1a_73 (show w.heap.size < w63.heap.size ∨ w64.heap.size ≤ w.heap.size by omega)
    have Wa_74 := ha74.cell Wa_73 (show Pb63 < w63.heap.size ∨ w64.heap.size ≤ Pb63 by omega)
    have Wb_74 := ha74.cell Wb_73 (show Pb63 < w63.heap.size ∨ w64.heap.size ≤ Pb63 by omega)
    have Wc_74 := ha74.cell Wc_73 (show Pb63 < w63.heap.size ∨ w64.heap.size ≤ Pb63 by omega)
    have X1a_74 := ha74.cell X1a_73 (show w65.heap.size < w63.heap.size ∨ w64.heap.size ≤ w65.heap.size by omega)
    have Ga_74 := ha74.cell Ga_73 (show w67.heap.size < w63.heap.size ∨ w64.heap.size ≤ w67.heap.size by omega)
    have Gb_74 := ha74.cell Gb_73 (show w67.heap.size < w63.heap.size ∨ w64.heap.size ≤ w67.heap.size by omega)
    have Gc_74 := ha74.cell Gc_73 (show w67.heap.size < w63.heap.size ∨ w64.heap.size ≤ w67.heap.size by omega)
    have o_74 := o_73.apartW ha74 (by omega)
    have x1_74 := x1_73.apartW ha74 (by omega)
    have g_74 := g_73.apartW ha74 (by omega)
    have B_74 := B_73.trans (ha74.below B_73.size (by omega))
    have zz74 : w73.heap.size ≤ w74.heap.size := by have q := ha74.size; first | exact q | simpa using q
    clear ha74 p1a_73 Wa_73 Wb_73 Wc_73 X1a_73 Ga_73 Gb_73 Gc_73 o_73 x0_73 x1_73 g_73 B_73
    go_wp2_with fail
    refine (markRowG _ _ _ _ _ z1 _ _ hs1 (by omega) (by omega) x1_74).mono ?_
    rintro e w75 ⟨rfl, ho75, ha75⟩
    have p1a_75 := ha75.cell p1a_74 (show w.heap.size < w64.heap.size ∨ w65.heap.size ≤ w.heap.size by omega)
    have Wa_75 := ha75.cell Wa_74 (show Pb63 < w64.heap.size ∨ w65.heap.size ≤ Pb63 by omega)
    have Wb_75 := ha75.cell Wb_74 (show Pb63 < w64.heap.size ∨ w65.heap.size ≤ Pb63 by omega)
    have Wc_75 := ha75.cell Wc_74 (show Pb63 < w64.heap.size ∨ w65.heap.size ≤ Pb63 by omega)
    have X1a_75 := ha75.cell X1a_74 (show w65.heap.size < w64.heap.size ∨ w65.heap.size ≤ w65.heap.size by omega)
    have Ga_75 := ha75.cell Ga_74 (show w67.heap.size < w64.heap.size ∨ w65.heap.size ≤ w67.heap.size by omega)
    have Gb_75 := ha75.cell Gb_74 (show w67.heap.size < w64.heap.size ∨ w65.heap.size ≤ w67.heap.size by omega)
    have Gc_75 := ha75.cell Gc_74 (show w67.heap.size < w64.heap.size ∨ w65.heap.size ≤ w67.heap.size by omega)
    have o_75 := o_74.apartW ha75 (by omega)
    have x0_75 := ho74.apartW ha75 (by omega)
    have g_75 := g_74.apartW ha75 (by omega)
    have B_75 := B_74.trans (ha75.below B_74.size (by omega))
    have zz75 : w74.heap.size ≤ w75.heap.size := by have q := ha75.size; first | exact q | simpa using q
    clear ha75 p1a_74 Wa_74 Wb_74 Wc_74 X1a_74 Ga_74 Gb_74 Gc_74 o_74 ho74 x1_74 g_74 B_74
    have kpos : ¬ (1 : Int) + (vmk z0 n0 : Nat) + n1 < 0 := by omega
    go_wp2_with fail
    refine (eqGroupG _ _ _ _ _ ta pa pb _ hsA (g_75.at hsA) (o_75.at hsA)).mono ?_
    rintro e w76 ⟨rfl, hb76⟩
    have p1a_76 := cell_later hb76 p1a_75
    have Wa_76 := cell_later hb76 Wa_75
    have Wb_76 := cell_later hb76 Wb_75
    have Wc_76 := cell_later hb76 Wc_75
    have X1a_76 := cell_later hb76 X1a_75
    have Ga_76 := cell_later hb76 Ga_75
    have Gb_76 := cell_later hb76 Gb_75
    have Gc_76 := cell_later hb76 Gc_75
    have o_76 := o_75.below hb76
    have x0_76 := x0_75.below hb76
    have x1_76 := ho75.below hb76
    have g_76 := g_75.below hb76
    have B_76 := B_75.trans (hb76.mono B_75.size)
    have zz76 : w75.heap.size ≤ w76.heap.size := by have q := hb76.size; first | exact q | simpa using q
    clear p1a_75 Wa_75 Wb_75 Wc_75 X1a_75 Ga_75 Gb_75 Gc_75 o_75 x0_75 ho75 g_75 B_75
    clear hb76
    clear x0_76
    clear x1_76
    go_wp2_with fail
    refine (markGroupG _ _ _ _ _ ta pa pb _ _ hsA (by omega) (by omega) g_76).mono ?_
    rintro e w77 ⟨rfl, ho77, ha77⟩
    have p1a_77 := ha77.cell p1a_76 (show w.heap.size < w65.heap.size + 1 ∨ w67.heap.size ≤ w.heap.size by omega)
    have Wa_77 := ha77.cell Wa_76 (show Pb63 < w65.heap.size + 1 ∨ w67.heap.size ≤ Pb63 by omega)
    have Wb_77 := ha77.cell Wb_76 (show Pb63 < w65.heap.size + 1 ∨ w67.heap.size ≤ Pb63 by omega)
    have Wc_77 := ha77.cell Wc_76 (show Pb63 < w65.heap.size + 1 ∨ w67.heap.size ≤ Pb63 by omega)
    have X1a_77 := ha77.cell X1a_76 (show w65.heap.size < w65.heap.size + 1 ∨ w67.heap.size ≤ w65.heap.size by omega)
    have Ga_77 := ha77.cell Ga_76 (show w67.heap.size < w65.heap.size + 1 ∨ w67.heap.size ≤ w67.heap.size by omega)
    have Gb_77 := ha77.cell Gb_76 (show w67.heap.size < w65.heap.size + 1 ∨ w67.heap.size ≤ w67.heap.size by omega)
    have Gc_77 := ha77.cell Gc_76 (show w67.heap.size < w65.heap.size + 1 ∨ w67.heap.size ≤ w67.heap.size by omega)
    have o_77 := o_76.apartW ha77 (by omega)
    have B_77 := B_76.trans (ha77.below B_76.size (by omega))
    have zz77 : w76.heap.size ≤ w77.heap.size := by have q := ha77.size; first | exact q | simpa using q
    clear ha77 p1a_76 Wa_76 Wb_76 Wc_76 X1a_76 Ga_76 Gb_76 Gc_76 o_76 g_76 B_76
    have gpos : ¬ (1 : Int) + (gfTot ta na : Nat) < 0 := by omega
    go_wp2_with fail
    refine (heldGroupG _ _ _ ta pa pb _ _ hsA (by omega) (by omega) (ho77.atMark hsA)).mono ?_
    rintro e w78 ⟨rfl, hb78⟩
    have p1a_78 := cell_later hb78 p1a_77
    have Wa_78 := cell_later hb78 Wa_77
    have Wb_78 := cell_later hb78 Wb_77
    have Wc_78 := cell_later hb78 Wc_77
    have X1a_78 := cell_later hb78 X1a_77
    have Ga_78 := cell_later hb78 Ga_77
    have Gb_78 := cell_later hb78 Gb_77
    have Gc_78 := cell_later hb78 Gc_77
    have o_78 := o_77.below hb78
    have g_78 := ho77.below hb78
    have B_78 := B_77.trans (hb78.mono B_77.size)
    have zz78 : w77.heap.size ≤ w78.heap.size := by have q := hb78.size; first | exact q | simpa using q
    clear p1a_77 Wa_77 Wb_77 Wc_77 X1a_77 Ga_77 Gb_77 Gc_77 o_77 ho77 B_77
    clear hb78
    go_upto_region 31 with fail
    go_cut [15, 16] (fun ta' tb wx => ∃ (Pb : Nat) (r : Option Addr) (m d lo hi : Nat), ta' = .pointer (some ⟨Pb, 0, none⟩) ∧ tb = .bool ok ∧ wx.cell? ⟨Pb, 0, none⟩ = some (.slice r m d) ∧ wx.cell? ⟨Pb, 1, none⟩ = some (.int .i64 pa) ∧ wx.cell? ⟨Pb, 2, none⟩ = some (.int .i64 pb) ∧ OwnI wx lo hi r m d ta ∧ w78.heap.size ≤ lo ∧ hi ≤ wx.heap.size ∧ w78.heap.size ≤ Pb ∧ Pb < wx.heap.size ∧ (Pb < lo ∨ hi ≤ Pb) ∧ Below w78.heap.size w78 wx)
    case first =>
      refine wp_region_held_drew (S := fun w' => w'.cell? ⟨w.heap.size, 0, none⟩ = some (.slice a1 n1 c1)) (by kernel_rfl) ?_ (fun hHeld => ?_)
      · (try dsimp only)
        exact p1a_78
      refine wpAnyH_take (i := 0) (oi := ?_) (v := ?_) ?_ (by kernel_rfl) (by kernel_rfl) (by kernel_rfl) ?_ (Or.inl ⟨?_, ?_⟩) (by assumption) ?_
      rotate_left 2
      · (simp only [List.getElem?_toArray, List.getElem?_cons_zero]; rfl)
      · exact fun _ _ _ h => h
      · rfl
      · (intro wS hSw; (try dsimp only at hSw); go_simp; (try with_reducible rfl))
      (try simp only [Act.put, List.setIfInBounds_toArray, List.set_cons_zero, List.set_cons_succ])
      refine wpAnyH_take (i := 2) (oi := ?_) (v := ?_) ?_ (by kernel_rfl) (by kernel_rfl) (by kernel_rfl) ?_ (Or.inl ⟨?_, ?_⟩) (by assumption) ?_
      rotate_left 2
      · (simp only [List.getElem?_toArray, List.getElem?_cons_zero, List.getElem?_cons_succ]; rfl)
      · exact fun _ _ _ h => h
      · rfl
      · (intro wS hSw; (try dsimp only at hSw); go_simp; (try with_reducible rfl))
      (try simp only [Act.put, List.setIfInBounds_toArray, List.set_cons_zero, List.set_cons_succ])
      obtain ⟨w81, hU81⟩ : ∃ u, u = w78.drew := ⟨_, rfl⟩
      have hb81 : Below w78.heap.size w78 w81 := by rw [hU81]; exact (Below.refl _ _).drew
      rw [← hU81]
      clear hU81
      have p1a_81 := cell_later hb81 p1a_78
      have B_81 := B_78.trans (hb81.mono B_78.size)
      have Y_81 : Below w78.heap.size w78 w81 := hb81
      have zz81 : w78.heap.size ≤ w81.heap.size := by have q := hb81.size; first | exact q | simpa using q
      refine wpAnyH_ready (rs := [1, 8]) (by kernel_rfl) (by simp) ?_
      refine AllReadyH.cons (o := ?_) ?_ (fun K hK => ?_) ?_
      rotate_left
      · (simp only [List.getElem?_toArray, List.getElem?_cons_zero, List.getElem?_cons_succ]; rfl)
      · go_simp
        go_at_call 11
        refine (toGroupSG _ _ _ z0 _ hs0 (ha0.below B_81)).mono ?_
        rintro e w82 ⟨g82, rfl, ho82, hb82⟩
        have p1a_82 := cell_later hb82 p1a_81
        have B_82 := B_81.trans (hb82.mono B_81.size)
        have Y_82 : Below w78.heap.size w78 w82 := Y_81.trans (hb82.mono Y_81.size)
        have zz82 : w81.heap.size ≤ w82.heap.size := by have q := hb82.size; first | exact q | simpa using q
        (try go_wp2_with fail)
        refine hK.out _ _ ?_ (fun hHeld' => ?_)
        · (try dsimp only)
          exact p1a_82
        clear hK K hHeld
        have hHeld := hHeld'
        clear hHeld'
        (try simp only [Act.put, List.setIfInBounds_toArray, List.set_cons_zero, List.set_cons_succ])
        refine wpAnyH_ready (rs := [3, 8]) (by kernel_rfl) (by simp) ?_
        refine AllReadyH.cons (o := ?_) ?_ (fun K hK => ?_) ?_
        rotate_left
        · (simp only [List.getElem?_toArray, List.getElem?_cons_zero, List.getElem?_cons_succ]; rfl)
        · go_simp
          go_at_call 16
          refine (toRowG _ _ _ z1 _ hs1 (ha1.below B_82)).mono ?_
          rintro e w83 ⟨g83, rfl, ho83, hb83⟩
          have p1a_83 := cell_later hb83 p1a_82
          have h0_83 := ho82.below hb83
          have B_83 := B_82.trans (hb83.mono B_82.size)
          have Y_83 : Below w78.heap.size w78 w83 := Y_82.trans (hb83.mono Y_82.size)
          have zz83 : w82.heap.size ≤ w83.heap.size := by have q := hb83.size; first | exact q | simpa using q
          (try go_wp2_with fail)
          refine hK.out _ _ ?_ (fun hHeld' => ?_)
          · (try dsimp only)
            exact p1a_83
          clear hK K hHeld
          have hHeld := hHeld'
          clear hHeld'
          (try simp only [Act.put, List.setIfInBounds_toArray, List.set_cons_zero, List.set_cons_succ])
          refine wpAnyH_ready (rs := [4, 8]) (by kernel_rfl) (by simp) ?_
          refine AllReadyH.cons (o := ?_) ?_ (fun K hK => ?_) ?_
          rotate_left
          · (simp only [List.getElem?_toArray, List.getElem?_cons_zero, List.getElem?_cons_succ]; rfl)
          · go_simp
            go_at_call 17
            refine (HI.out _ _ _ _ _ _ _ _ _ h0_83 ho83).mono ?_
            rintro e w84 ⟨⟨r84, m84, d84, rfl, ho84⟩, hb84⟩
            have p1a_84 := cell_later hb84 p1a_83
            have B_84 := B_83.trans (hb84.mono B_83.size)
            have Y_84 : Below w78.heap.size w78 w84 := Y_83.trans (hb84.mono Y_83.size)
            have zz84 : w83.heap.size ≤ w84.heap.size := by have q := hb84.size; first | exact q | simpa using q
            (try go_wp2_with fail)
            refine hK.out _ _ ?_ (fun hHeld' => ?_)
            · (try dsimp only)
              exact p1a_84
            clear hK K hHeld
            have hHeld := hHeld'
            clear hHeld'
            (try simp only [Act.put, List.setIfInBounds_toArray, List.set_cons_zero, List.set_cons_succ])
            refine wpAnyH_take (i := 5) (oi := ?_) (v := ?_) ?_ (by kernel_rfl) (by kernel_rfl) (by kernel_rfl) ?_ (Or.inl ⟨?_, ?_⟩) (by assumption) ?_
            rotate_left 2
            · (simp only [List.getElem?_toArray, List.getElem?_cons_zero, List.getElem?_cons_succ]; rfl)
            · exact fun _ _ _ h => h
            · rfl
            · (intro wS hSw; (try dsimp only at hSw); go_simp; (try with_reducible rfl))
            (try simp only [Act.put, List.setIfInBounds_toArray, List.set_cons_zero, List.set_cons_succ])
            refine wpAnyH_take (i := 6) (oi := ?_) (v := ?_) ?_ (by kernel_rfl) (by kernel_rfl) (by kernel_rfl) ?_ (Or.inl ⟨?_, ?_⟩) (by assumption) ?_
            rotate_left 2
            · (simp only [List.getElem?_toArray, List.getElem?_cons_zero, List.getElem?_cons_succ]; rfl)
            · exact fun _ _ _ h => h
            · rfl
            · (intro wS hSw; (try dsimp only at hSw); go_simp; (try with_reducible rfl))
            (try simp only [Act.put, List.setIfInBounds_toArray, List.set_cons_zero, List.set_cons_succ])
            refine wpAnyH_take (i := 7) (oi := ?_) (v := ?_) ?_ (by kernel_rfl) (by kernel_rfl) (by kernel_rfl) ?_ (Or.inl ⟨?_, ?_⟩) (by assumption) ?_
            rotate_left 2
            · (simp only [List.getElem?_toArray, List.getElem?_cons_zero, List.getElem?_cons_succ]; rfl)
            · exact fun _ _ _ h => h
            · rfl
            · (intro wS hSw; (try dsimp only at hSw); go_simp; (try with_reducible rfl))
            (try simp only [Act.put, List.setIfInBounds_toArray, List.set_cons_zero, List.set_cons_succ])
            refine wpAnyH_ready (rs := [8]) (by kernel_rfl) (by simp) ?_
            refine AllReadyH.cons (o := ?_) ?_ (fun K hK => ?_) AllReadyH.nil
            rotate_left
            · (simp only [List.getElem?_toArray, List.getElem?_cons_zero, List.getElem?_cons_succ]; rfl)
            go_simp
            skip
            (try go_wp2_with fail)
            refine hK.out _ _ ?_ (fun hHeld' => ?_)
            · (try dsimp only)
              exact cell_later ((Below.refl _ _).alloc (Nat.le_refl _) _) p1a_84
            clear hK K hHeld
            have hHeld := hHeld'
            clear hHeld'
            (try simp only [Act.put, List.setIfInBounds_toArray, List.set_cons_zero, List.set_cons_succ])
            refine wpAnyH_ready (rs := [9]) (by kernel_rfl) (by simp) ?_
            refine AllReadyH.cons (o := ?_) ?_ (fun K hK => ?_) AllReadyH.nil
            rotate_left
            · (simp only [List.getElem?_toArray, List.getElem?_cons_zero, List.getElem?_cons_succ]; rfl)
            go_simp
            skip
            (try go_wp2_with fail)
            refine hK.out _ _ ?_ (fun hHeld' => ?_)
            · (try dsimp only)
              exact cell_later ((Below.refl _ _).alloc (Nat.le_refl _) _) p1a_84
            clear hK K hHeld
            have hHeld := hHeld'
            clear hHeld'
            (try simp only [Act.put, List.setIfInBounds_toArray, List.set_cons_zero, List.set_cons_succ])
            refine wpAnyH_take (i := 10) (oi := ?_) (v := ?_) ?_ (by kernel_rfl) (by kernel_rfl) (by kernel_rfl) ?_ (Or.inl ⟨?_, ?_⟩) (by assumption) ?_
            rotate_left 2
            · (simp only [List.getElem?_toArray, List.getElem?_cons_zero, List.getElem?_cons_succ]; rfl)
            · exact fun _ _ _ h => h
            · rfl
            · (intro wS hSw; (try dsimp only at hSw); go_simp; (try with_reducible rfl))
            (try simp only [Act.put, List.setIfInBounds_toArray, List.set_cons_zero, List.set_cons_succ])
            refine wpAnyH_done (by kernel_rfl) ?_ _
            (try go_wp2_with fail)
            go_meet
            case rel =>
              have owk : OwnI w84 w83.heap.size w84.heap.size r84 m84 d84 ta := ho84
              exact ⟨w84.heap.size, r84, m84, d84, w83.heap.size, w84.heap.size, rfl, rfl, trip0 w84 _ _ _ _, trip1 w84 _ _ _ _, trip2 w84 _ _ _ _, owk.below ((Below.refl _ _).alloc (Nat.le_refl _) _), by omega, by simp, by omega, by simp, .inr (Nat.le_refl _), Y_84.alloc Y_84.size _⟩
          refine AllReadyH.cons (o := ?_) ?_ (fun K hK => ?_) AllReadyH.nil
          rotate_left
          · (simp only [List.getElem?_toArray, List.getElem?_cons_zero, List.getElem?_cons_succ]; rfl)
          · go_simp
            (try go_wp2_with fail)
            refine hK.out _ _ ?_ (fun hHeld' => ?_)
            · (try dsimp only)
              exact cell_later ((Below.refl _ _).alloc (Nat.le_refl _) _) p1a_83
            clear hK K hHeld
            have hHeld := hHeld'
            clear hHeld'
            (try simp only [Act.put, List.setIfInBounds_toArray, List.set_cons_zero, List.set_cons_succ])
            obtain ⟨w84, hU84⟩ : ∃ u, u = w83.alloc (.cells #[.slice none 0 0, .int .i64 0, .int .i64 0] 35) := ⟨_, rfl⟩
            have hb84 : Below w83.heap.size w83 w84 := by rw [hU84]; exact (Below.refl _ _).alloc (Nat.le_refl _) _
            have zp84 : w84.heap.size = w83.heap.size + 1 := by rw [hU84]; simp
            have hp84 : w84.heap[w83.heap.size]? = some (.cells #[.slice none 0 0, .int .i64 0, .int .i64 0] 35 (0, 0)) := by rw [hU84]; exact heap_alloc_new _ _
            rw [← hU84]
            clear hU84
            have p1a_84 := cell_later hb84 p1a_83
            have h0_84 := h0_83.below hb84
            have h1_84 := ho83.below hb84
            have B_84 := B_83.trans (hb84.mono B_83.size)
            have Y_84 : Below w78.heap.size w78 w84 := Y_83.trans (hb84.mono Y_83.size)
            have zz84 : w83.heap.size ≤ w84.heap.size := by have q := hb84.size; first | exact q | simpa using q
            refine wpAnyH_ready (rs := [4]) (by kernel_rfl) (by simp) ?_
            refine AllReadyH.cons (o := ?_) ?_ (fun K hK => ?_) AllReadyH.nil
            rotate_left
            · (simp only [List.getElem?_toArray, List.getElem?_cons_zero, List.getElem?_cons_succ]; rfl)
            go_simp
            go_at_call 17
            refine (HI.out _ _ _ _ _ _ _ _ _ h0_84 h1_84).mono ?_
            rintro e w85 ⟨⟨r85, m85, d85, rfl, ho85⟩, hb85⟩
            have p1a_85 := cell_later hb85 p1a_84
            have hq85 := (hb85.block (w83.heap.size) (Array.getElem?_eq_some_iff.1 hp84).1).trans hp84
            have B_85 := B_84.trans (hb85.mono B_84.size)
            have Y_85 : Below w78.heap.size w78 w85 := Y_84.trans (hb85.mono Y_84.size)
            have zz85 : w84.heap.size ≤ w85.heap.size := by have q := hb85.size; first | exact q | simpa using q
            (try go_wp2_with fail)
            refine hK.out _ _ ?_ (fun hHeld' => ?_)
            · (try dsimp only)
              exact p1a_85
            clear hK K hHeld
            have hHeld := hHeld'
            clear hHeld'
            (try simp only [Act.put, List.setIfInBounds_toArray, List.set_cons_zero, List.set_cons_succ])
            refine wpAnyH_take (i := 5) (oi := ?_) (v := ?_) ?_ (by kernel_rfl) (by kernel_rfl) (by kernel_rfl) ?_ (Or.inl ⟨?_, ?_⟩) (by assumption) ?_
            rotate_left 2
            · (simp only [List.getElem?_toArray, List.getElem?_cons_zero, List.getElem?_cons_succ]; rfl)
            · exact fun _ _ _ h => h
            · rfl
            · (intro wS hSw; (try dsimp only at hSw); go_simp; (try with_reducible rfl))
            (try simp only [Act.put, List.setIfInBounds_toArray, List.set_cons_zero, List.set_cons_succ])
            refine wpAnyH_take (i := 6) (oi := ?_) (v := ?_) ?_ (by kernel_rfl) (by kernel_rfl) (by kernel_rfl) ?_ (Or.inl ⟨?_, ?_⟩) (by assumption) ?_
            rotate_left 2
            · (simp only [List.getElem?_toArray, List.getElem?_cons_zero, List.getElem?_cons_succ]; rfl)
            · exact fun _ _ _ h => h
            · rfl
            · (intro wS hSw; (try dsimp only at hSw); go_simp; (try with_reducible rfl))
            (try simp only [Act.put, List.setIfInBounds_toArray, List.set_cons_zero, List.set_cons_succ])
            refine wpAnyH_take (i := 7) (oi := ?_) (v := ?_) ?_ (by kernel_rfl) (by kernel_rfl) (by kernel_rfl) ?_ (Or.inl ⟨?_, ?_⟩) (by assumption) ?_
            rotate_left 2
            · (simp only [List.getElem?_toArray, List.getElem?_cons_zero, List.getElem?_cons_succ]; rfl)
            · exact fun _ _ _ h => h
            · rfl
            · (intro wS hSw; (try dsimp only at hSw); go_simp; (try with_reducible rfl))
            (try simp only [Act.put, List.setIfInBounds_toArray, List.set_cons_zero, List.set_cons_succ])
            have u0 : w85.cell? ⟨w83.heap.size, 0, none⟩ = some (.slice none 0 0) := by rw [cell_of_row _ _ 0 _ _ (0, 0) hq85]; rfl
            have v0 : w85.frozen? ⟨w83.heap.size, 0, none⟩ = false := frozen_of_row _ _ 0 _ _ hq85
            have u1 : w85.cell? ⟨w83.heap.size, 1, none⟩ = some (.int .i64 0) := by rw [cell_of_row _ _ 1 _ _ (0, 0) hq85]; rfl
            have v1 : w85.frozen? ⟨w83.heap.size, 1, none⟩ = false := frozen_of_row _ _ 1 _ _ hq85
            have u2 : w85.cell? ⟨w83.heap.size, 2, none⟩ = some (.int .i64 0) := by rw [cell_of_row _ _ 2 _ _ (0, 0) hq85]; rfl
            have v2 : w85.frozen? ⟨w83.heap.size, 2, none⟩ = false := frozen_of_row _ _ 2 _ _ hq85
            refine wpAnyH_ready (rs := [9]) (by kernel_rfl) (by simp) ?_
            refine AllReadyH.cons (o := ?_) ?_ (fun K hK => ?_) AllReadyH.nil
            rotate_left
            · (simp only [List.getElem?_toArray, List.getElem?_cons_zero, List.getElem?_cons_succ]; rfl)
            go_simp
            skip
            (try go_wp2_with fail)
            refine hK.out _ _ ?_ (fun hHeld' => ?_)
            · (try dsimp only)
              exact keep_far (keep_far (keep_far p1a_85 (by omega)) (by omega)) (by omega)
            clear hK K hHeld
            have hHeld := hHeld'
            clear hHeld'
            (try simp only [Act.put, List.setIfInBounds_toArray, List.set_cons_zero, List.set_cons_succ])
            refine wpAnyH_take (i := 10) (oi := ?_) (v := ?_) ?_ (by kernel_rfl) (by kernel_rfl) (by kernel_rfl) ?_ (Or.inl ⟨?_, ?_⟩) (by assumption) ?_
            rotate_left 2
            · (simp only [List.getElem?_toArray, List.getElem?_cons_zero, List.getElem?_cons_succ]; rfl)
            · exact fun _ _ _ h => h
            · rfl
            · (intro wS hSw; (try dsimp only at hSw); go_simp; (try with_reducible rfl))
            (try simp only [Act.put, List.setIfInBounds_toArray, List.set_cons_zero, List.set_cons_succ])
            refine wpAnyH_done (by kernel_rfl) ?_ _
            (try go_wp2_with fail)
            go_meet
            case rel =>
              have owk : OwnI w85 w84.heap.size w85.heap.size r85 m85 d85 ta := ho85
              exact ⟨w83.heap.size, r85, m85, d85, w84.heap.size, w85.heap.size, rfl, rfl, setg_0 hq85 _ _ _, setg_1 hq85 _ _ _, setg_2 hq85 _ _ _, owk.set3 (.inl (by omega)) _ _ _, by omega, by simp [World.setCell], by omega, by simp only [World.setCell, Array.size_modify]; omega, .inl (by omega), ((Y_85.setCell (by show w78.heap.size ≤ w83.heap.size; omega) _).setCell (by show w78.heap.size ≤ w83.heap.size; omega) _).setCell (by show w78.heap.size ≤ w83.heap.size; omega) _⟩
        refine AllReadyH.cons (o := ?_) ?_ (fun K hK => ?_) AllReadyH.nil
        rotate_left
        · (simp only [List.getElem?_toArray, List.getElem?_cons_zero, List.getElem?_cons_succ]; rfl)
        · go_simp
          (try go_wp2_with fail)
          refine hK.out _ _ ?_ (fun hHeld' => ?_)
          · (try dsimp only)
            exact cell_later ((Below.refl _ _).alloc (Nat.le_refl _) _) p1a_82
          clear hK K hHeld
          have hHeld := hHeld'
          clear hHeld'
          (try simp only [Act.put, List.setIfInBounds_toArray, List.set_cons_zero, List.set_cons_succ])
          obtain ⟨w83, hU83⟩ : ∃ u, u = w82.alloc (.cells #[.slice none 0 0, .int .i64 0, .int .i64 0] 35) := ⟨_, rfl⟩
          have hb83 : Below w82.heap.size w82 w83 := by rw [hU83]; exact (Below.refl _ _).alloc (Nat.le_refl _) _
          have zp83 : w83.heap.size = w82.heap.size + 1 := by rw [hU83]; simp
          have hp83 : w83.heap[w82.heap.size]? = some (.cells #[.slice none 0 0, .int .i64 0, .int .i64 0] 35 (0, 0)) := by rw [hU83]; exact heap_alloc_new _ _
          rw [← hU83]
          clear hU83
          have p1a_83 := cell_later hb83 p1a_82
          have h0_83 := ho82.below hb83
          have B_83 := B_82.trans (hb83.mono B_82.size)
          have Y_83 : Below w78.heap.size w78 w83 := Y_82.trans (hb83.mono Y_82.size)
          have zz83 : w82.heap.size ≤ w83.heap.size := by have q := hb83.size; first | exact q | simpa using q
          refine wpAnyH_ready (rs := [3]) (by kernel_rfl) (by simp) ?_
          refine AllReadyH.cons (o := ?_) ?_ (fun K hK => ?_) AllReadyH.nil
          rotate_left
          · (simp only [List.getElem?_toArray, List.getElem?_cons_zero, List.getElem?_cons_succ]; rfl)
          go_simp
          go_at_call 16
          refine (toRowG _ _ _ z1 _ hs1 (ha1.below B_83)).mono ?_
          rintro e w84 ⟨g84, rfl, ho84, hb84⟩
          have p1a_84 := cell_later hb84 p1a_83
          have h0_84 := h0_83.below hb84
          have hq84 := (hb84.block (w82.heap.size) (Array.getElem?_eq_some_iff.1 hp83).1).trans hp83
          have B_84 := B_83.trans (hb84.mono B_83.size)
          have Y_84 : Below w78.heap.size w78 w84 := Y_83.trans (hb84.mono Y_83.size)
          have zz84 : w83.heap.size ≤ w84.heap.size := by have q := hb84.size; first | exact q | simpa using q
          (try go_wp2_with fail)
          refine hK.out _ _ ?_ (fun hHeld' => ?_)
          · (try dsimp only)
            exact p1a_84
          clear hK K hHeld
          have hHeld := hHeld'
          clear hHeld'
          (try simp only [Act.put, List.setIfInBounds_toArray, List.set_cons_zero, List.set_cons_succ])
          refine wpAnyH_ready (rs := [4]) (by kernel_rfl) (by simp) ?_
          refine AllReadyH.cons (o := ?_) ?_ (fun K hK => ?_) AllReadyH.nil
          rotate_left
          · (simp only [List.getElem?_toArray, List.getElem?_cons_zero, List.getElem?_cons_succ]; rfl)
          go_simp
          go_at_call 17
          refine (HI.out _ _ _ _ _ _ _ _ _ h0_84 ho84).mono ?_
          rintro e w85 ⟨⟨r85, m85, d85, rfl, ho85⟩, hb85⟩
          have p1a_85 := cell_later hb85 p1a_84
          have hq85 := (hb85.block (w82.heap.size) (Array.getElem?_eq_some_iff.1 hq84).1).trans hq84
          have B_85 := B_84.trans (hb85.mono B_84.size)
          have Y_85 : Below w78.heap.size w78 w85 := Y_84.trans (hb85.mono Y_84.size)
          have zz85 : w84.heap.size ≤ w85.heap.size := by have q := hb85.size; first | exact q | simpa using q
          (try go_wp2_with fail)
          refine hK.out _ _ ?_ (fun hHeld' => ?_)
          · (try dsimp only)
            exact p1a_85
          clear hK K hHeld
          have hHeld := hHeld'
          clear hHeld'
          (try simp only [Act.put, List.setIfInBounds_toArray, List.set_cons_zero, List.set_cons_succ])
          refine wpAnyH_take (i := 5) (oi := ?_) (v := ?_) ?_ (by kernel_rfl) (by kernel_rfl) (by kernel_rfl) ?_ (Or.inl ⟨?_, ?_⟩) (by assumption) ?_
          rotate_left 2
          · (simp only [List.getElem?_toArray, List.getElem?_cons_zero, List.getElem?_cons_succ]; rfl)
          · exact fun _ _ _ h => h
          · rfl
          · (intro wS hSw; (try dsimp only at hSw); go_simp; (try with_reducible rfl))
          (try simp only [Act.put, List.setIfInBounds_toArray, List.set_cons_zero, List.set_cons_succ])
          refine wpAnyH_take (i := 6) (oi := ?_) (v := ?_) ?_ (by kernel_rfl) (by kernel_rfl) (by kernel_rfl) ?_ (Or.inl ⟨?_, ?_⟩) (by assumption) ?_
          rotate_left 2
          · (simp only [List.getElem?_toArray, List.getElem?_cons_zero, List.getElem?_cons_succ]; rfl)
          · exact fun _ _ _ h => h
          · rfl
          · (intro wS hSw; (try dsimp only at hSw); go_simp; (try with_reducible rfl))
          (try simp only [Act.put, List.setIfInBounds_toArray, List.set_cons_zero, List.set_cons_succ])
          refine wpAnyH_take (i := 7) (oi := ?_) (v := ?_) ?_ (by kernel_rfl) (by kernel_rfl) (by kernel_rfl) ?_ (Or.inl ⟨?_, ?_⟩) (by assumption) ?_
          rotate_left 2
          · (simp only [List.getElem?_toArray, List.getElem?_cons_zero, List.getElem?_cons_succ]; rfl)
          · exact fun _ _ _ h => h
          · rfl
          · (intro wS hSw; (try dsimp only at hSw); go_simp; (try with_reducible rfl))
          (try simp only [Act.put, List.setIfInBounds_toArray, List.set_cons_zero, List.set_cons_succ])
          have u0 : w85.cell? ⟨w82.heap.size, 0, none⟩ = some (.slice none 0 0) := by rw [cell_of_row _ _ 0 _ _ (0, 0) hq85]; rfl
          have v0 : w85.frozen? ⟨w82.heap.size, 0, none⟩ = false := frozen_of_row _ _ 0 _ _ hq85
          have u1 : w85.cell? ⟨w82.heap.size, 1, none⟩ = some (.int .i64 0) := by rw [cell_of_row _ _ 1 _ _ (0, 0) hq85]; rfl
          have v1 : w85.frozen? ⟨w82.heap.size, 1, none⟩ = false := frozen_of_row _ _ 1 _ _ hq85
          have u2 : w85.cell? ⟨w82.heap.size, 2, none⟩ = some (.int .i64 0) := by rw [cell_of_row _ _ 2 _ _ (0, 0) hq85]; rfl
          have v2 : w85.frozen? ⟨w82.heap.size, 2, none⟩ = false := frozen_of_row _ _ 2 _ _ hq85
          refine wpAnyH_ready (rs := [9]) (by kernel_rfl) (by simp) ?_
          refine AllReadyH.cons (o := ?_) ?_ (fun K hK => ?_) AllReadyH.nil
          rotate_left
          · (simp only [List.getElem?_toArray, List.getElem?_cons_zero, List.getElem?_cons_succ]; rfl)
          go_simp
          skip
          (try go_wp2_with fail)
          refine hK.out _ _ ?_ (fun hHeld' => ?_)
          · (try dsimp only)
            exact keep_far (keep_far (keep_far p1a_85 (by omega)) (by omega)) (by omega)
          clear hK K hHeld
          have hHeld := hHeld'
          clear hHeld'
          (try simp only [Act.put, List.setIfInBounds_toArray, List.set_cons_zero, List.set_cons_succ])
          refine wpAnyH_take (i := 10) (oi := ?_) (v := ?_) ?_ (by kernel_rfl) (by kernel_rfl) (by kernel_rfl) ?_ (Or.inl ⟨?_, ?_⟩) (by assumption) ?_
          rotate_left 2
          · (simp only [List.getElem?_toArray, List.getElem?_cons_zero, List.getElem?_cons_succ]; rfl)
          · exact fun _ _ _ h => h
          · rfl
          · (intro wS hSw; (try dsimp only at hSw); go_simp; (try with_reducible rfl))
          (try simp only [Act.put, List.setIfInBounds_toArray, List.set_cons_zero, List.set_cons_succ])
          refine wpAnyH_done (by kernel_rfl) ?_ _
          (try go_wp2_with fail)
          go_meet
          case rel =>
            have owk : OwnI w85 w84.heap.size w85.heap.size r85 m85 d85 ta := ho85
            exact ⟨w82.heap.size, r85, m85, d85, w84.heap.size, w85.heap.size, rfl, rfl, setg_0 hq85 _ _ _, setg_1 hq85 _ _ _, setg_2 hq85 _ _ _, owk.set3 (.inl (by omega)) _ _ _, by omega, by simp [World.setCell], by omega, by simp only [World.setCell, Array.size_modify]; omega, .inl (by omega), ((Y_85.setCell (by show w78.heap.size ≤ w82.heap.size; omega) _).setCell (by show w78.heap.size ≤ w82.heap.size; omega) _).setCell (by show w78.heap.size ≤ w82.heap.size; omega) _⟩
      refine AllReadyH.cons (o := ?_) ?_ (fun K hK => ?_) AllReadyH.nil
      rotate_left
      · (simp only [List.getElem?_toArray, List.getElem?_cons_zero, List.getElem?_cons_succ]; rfl)
      · go_simp
        (try go_wp2_with fail)
        refine hK.out _ _ ?_ (fun hHeld' => ?_)
        · (try dsimp only)
          exact cell_later ((Below.refl _ _).alloc (Nat.le_refl _) _) p1a_81
        clear hK K hHeld
        have hHeld := hHeld'
        clear hHeld'
        (try simp only [Act.put, List.setIfInBounds_toArray, List.set_cons_zero, List.set_cons_succ])
        obtain ⟨w82, hU82⟩ : ∃ u, u = w81.alloc (.cells #[.slice none 0 0, .int .i64 0, .int .i64 0] 35) := ⟨_, rfl⟩
        have hb82 : Below w81.heap.size w81 w82 := by rw [hU82]; exact (Below.refl _ _).alloc (Nat.le_refl _) _
        have zp82 : w82.heap.size = w81.heap.size + 1 := by rw [hU82]; simp
        have hp82 : w82.heap[w81.heap.size]? = some (.cells #[.slice none 0 0, .int .i64 0, .int .i64 0] 35 (0, 0)) := by rw [hU82]; exact heap_alloc_new _ _
        rw [← hU82]
        clear hU82
        have p1a_82 := cell_later hb82 p1a_81
        have B_82 := B_81.trans (hb82.mono B_81.size)
        have Y_82 : Below w78.heap.size w78 w82 := Y_81.trans (hb82.mono Y_81.size)
        have zz82 : w81.heap.size ≤ w82.heap.size := by have q := hb82.size; first | exact q | simpa using q
        refine wpAnyH_ready (rs := [1]) (by kernel_rfl) (by simp) ?_
        refine AllReadyH.cons (o := ?_) ?_ (fun K hK => ?_) AllReadyH.nil
        rotate_left
        · (simp only [List.getElem?_toArray, List.getElem?_cons_zero, List.getElem?_cons_succ]; rfl)
        go_simp
        go_at_call 11
        refine (toGroupSG _ _ _ z0 _ hs0 (ha0.below B_82)).mono ?_
        rintro e w83 ⟨g83, rfl, ho83, hb83⟩
        have p1a_83 := cell_later hb83 p1a_82
        have hq83 := (hb83.block (w81.heap.size) (Array.getElem?_eq_some_iff.1 hp82).1).trans hp82
        have B_83 := B_82.trans (hb83.mono B_82.size)
        have Y_83 : Below w78.heap.size w78 w83 := Y_82.trans (hb83.mono Y_82.size)
        have zz83 : w82.heap.size ≤ w83.heap.size := by have q := hb83.size; first | exact q | simpa using q
        (try go_wp2_with fail)
        refine hK.out _ _ ?_ (fun hHeld' => ?_)
        · (try dsimp only)
          exact p1a_83
        clear hK K hHeld
        have hHeld := hHeld'
        clear hHeld'
        (try simp only [Act.put, List.setIfInBounds_toArray, List.set_cons_zero, List.set_cons_succ])
        refine wpAnyH_ready (rs := [3]) (by kernel_rfl) (by simp) ?_
        refine AllReadyH.cons (o := ?_) ?_ (fun K hK => ?_) AllReadyH.nil
        rotate_left
        · (simp only [List.getElem?_toArray, List.getElem?_cons_zero, List.getElem?_cons_succ]; rfl)
        go_simp
        go_at_call 16
        refine (toRowG _ _ _ z1 _ hs1 (ha1.below B_83)).mono ?_
        rintro e w84 ⟨g84, rfl, ho84, hb84⟩
        have p1a_84 := cell_later hb84 p1a_83
        have h0_84 := ho83.below hb84
        have hq84 := (hb84.block (w81.heap.size) (Array.getElem?_eq_some_iff.1 hq83).1).trans hq83
        have B_84 := B_83.trans (hb84.mono B_83.size)
        have Y_84 : Below w78.heap.size w78 w84 := Y_83.trans (hb84.mono Y_83.size)
        have zz84 : w83.heap.size ≤ w84.heap.size := by have q := hb84.size; first | exact q | simpa using q
        (try go_wp2_with fail)
        refine hK.out _ _ ?_ (fun hHeld' => ?_)
        · (try dsimp only)
          exact p1a_84
        clear hK K hHeld
        have hHeld := hHeld'
        clear hHeld'
        (try simp only [Act.put, List.setIfInBounds_toArray, List.set_cons_zero, List.set_cons_succ])
        refine wpAnyH_ready (rs := [4]) (by kernel_rfl) (by simp) ?_
        refine AllReadyH.cons (o := ?_) ?_ (fun K hK => ?_) AllReadyH.nil
        rotate_left
        · (simp only [List.getElem?_toArray, List.getElem?_cons_zero, List.getElem?_cons_succ]; rfl)
        go_simp
        go_at_call 17
        refine (HI.out _ _ _ _ _ _ _ _ _ h0_84 ho84).mono ?_
        rintro e w85 ⟨⟨r85, m85, d85, rfl, ho85⟩, hb85⟩
        have p1a_85 := cell_later hb85 p1a_84
        have hq85 := (hb85.block (w81.heap.size) (Array.getElem?_eq_some_iff.1 hq84).1).trans hq84
        have B_85 := B_84.trans (hb85.mono B_84.size)
        have Y_85 : Below w78.heap.size w78 w85 := Y_84.trans (hb85.mono Y_84.size)
        have zz85 : w84.heap.size ≤ w85.heap.size := by have q := hb85.size; first | exact q | simpa using q
        (try go_wp2_with fail)
        refine hK.out _ _ ?_ (fun hHeld' => ?_)
        · (try dsimp only)
          exact p1a_85
        clear hK K hHeld
        have hHeld := hHeld'
        clear hHeld'
        (try simp only [Act.put, List.setIfInBounds_toArray, List.set_cons_zero, List.set_cons_succ])
        refine wpAnyH_take (i := 5) (oi := ?_) (v := ?_) ?_ (by kernel_rfl) (by kernel_rfl) (by kernel_rfl) ?_ (Or.inl ⟨?_, ?_⟩) (by assumption) ?_
        rotate_left 2
        · (simp only [List.getElem?_toArray, List.getElem?_cons_zero, List.getElem?_cons_succ]; rfl)
        · exact fun _ _ _ h => h
        · rfl
        · (intro wS hSw; (try dsimp only at hSw); go_simp; (try with_reducible rfl))
        (try simp only [Act.put, List.setIfInBounds_toArray, List.set_cons_zero, List.set_cons_succ])
        refine wpAnyH_take (i := 6) (oi := ?_) (v := ?_) ?_ (by kernel_rfl) (by kernel_rfl) (by kernel_rfl) ?_ (Or.inl ⟨?_, ?_⟩) (by assumption) ?_
        rotate_left 2
        · (simp only [List.getElem?_toArray, List.getElem?_cons_zero, List.getElem?_cons_succ]; rfl)
        · exact fun _ _ _ h => h
        · rfl
        · (intro wS hSw; (try dsimp only at hSw); go_simp; (try with_reducible rfl))
        (try simp only [Act.put, List.setIfInBounds_toArray, List.set_cons_zero, List.set_cons_succ])
        refine wpAnyH_take (i := 7) (oi := ?_) (v := ?_) ?_ (by kernel_rfl) (by kernel_rfl) (by kernel_rfl) ?_ (Or.inl ⟨?_, ?_⟩) (by assumption) ?_
        rotate_left 2
        · (simp only [List.getElem?_toArray, List.getElem?_cons_zero, List.getElem?_cons_succ]; rfl)
        · exact fun _ _ _ h => h
        · rfl
        · (intro wS hSw; (try dsimp only at hSw); go_simp; (try with_reducible rfl))
        (try simp only [Act.put, List.setIfInBounds_toArray, List.set_cons_zero, List.set_cons_succ])
        have u0 : w85.cell? ⟨w81.heap.size, 0, none⟩ = some (.slice none 0 0) := by rw [cell_of_row _ _ 0 _ _ (0, 0) hq85]; rfl
        have v0 : w85.frozen? ⟨w81.heap.size, 0, none⟩ = false := frozen_of_row _ _ 0 _ _ hq85
        have u1 : w85.cell? ⟨w81.heap.size, 1, none⟩ = some (.int .i64 0) := by rw [cell_of_row _ _ 1 _ _ (0, 0) hq85]; rfl
        have v1 : w85.frozen? ⟨w81.heap.size, 1, none⟩ = false := frozen_of_row _ _ 1 _ _ hq85
        have u2 : w85.cell? ⟨w81.heap.size, 2, none⟩ = some (.int .i64 0) := by rw [cell_of_row _ _ 2 _ _ (0, 0) hq85]; rfl
        have v2 : w85.frozen? ⟨w81.heap.size, 2, none⟩ = false := frozen_of_row _ _ 2 _ _ hq85
        refine wpAnyH_ready (rs := [9]) (by kernel_rfl) (by simp) ?_
        refine AllReadyH.cons (o := ?_) ?_ (fun K hK => ?_) AllReadyH.nil
        rotate_left
        · (simp only [List.getElem?_toArray, List.getElem?_cons_zero, List.getElem?_cons_succ]; rfl)
        go_simp
        skip
        (try go_wp2_with fail)
        refine hK.out _ _ ?_ (fun hHeld' => ?_)
        · (try dsimp only)
          exact keep_far (keep_far (keep_far p1a_85 (by omega)) (by omega)) (by omega)
        clear hK K hHeld
        have hHeld := hHeld'
        clear hHeld'
        (try simp only [Act.put, List.setIfInBounds_toArray, List.set_cons_zero, List.set_cons_succ])
        refine wpAnyH_take (i := 10) (oi := ?_) (v := ?_) ?_ (by kernel_rfl) (by kernel_rfl) (by kernel_rfl) ?_ (Or.inl ⟨?_, ?_⟩) (by assumption) ?_
        rotate_left 2
        · (simp only [List.getElem?_toArray, List.getElem?_cons_zero, List.getElem?_cons_succ]; rfl)
        · exact fun _ _ _ h => h
        · rfl
        · (intro wS hSw; (try dsimp only at hSw); go_simp; (try with_reducible rfl))
        (try simp only [Act.put, List.setIfInBounds_toArray, List.set_cons_zero, List.set_cons_succ])
        refine wpAnyH_done (by kernel_rfl) ?_ _
        (try go_wp2_with fail)
        go_meet
        case rel =>
          have owk : OwnI w85 w84.heap.size w85.heap.size r85 m85 d85 ta := ho85
          exact ⟨w81.heap.size, r85, m85, d85, w84.heap.size, w85.heap.size, rfl, rfl, setg_0 hq85 _ _ _, setg_1 hq85 _ _ _, setg_2 hq85 _ _ _, owk.set3 (.inl (by omega)) _ _ _, by omega, by simp [World.setCell], by omega, by simp only [World.setCell, Array.size_modify]; omega, .inl (by omega), ((Y_85.setCell (by show w78.heap.size ≤ w81.heap.size; omega) _).setCell (by show w78.heap.size ≤ w81.heap.size; omega) _).setCell (by show w78.heap.size ≤ w81.heap.size; omega) _⟩
    case rest =>
      obtain ⟨Pb139, r139, m139, d139, lo139, hi139, rfl, rfl, Ha_139, Hb_139, Hc_139, ow139, pl139, ph139, pm139, pn139, pd139, hb139⟩ := hcut
      obtain ⟨w139, rfl⟩ : ∃ x, x = wc := ⟨_, rfl⟩
      obtain rfl : na = m139 := HNA.out.symm.trans ow139.len
      have p1a_139 := cell_later hb139 p1a_78
      have Wa_139 := cell_later hb139 Wa_78
      have Wb_139 := cell_later hb139 Wb_78
      have Wc_139 := cell_later hb139 Wc_78
      have X1a_139 := cell_later hb139 X1a_78
      have Ga_139 := cell_later hb139 Ga_78
      have Gb_139 := cell_later hb139 Gb_78
      have Gc_139 := cell_later hb139 Gc_78
      have o_139 := o_78.below hb139
      have g_139 := g_78.below hb139
      have B_139 := B_78.trans (hb139.mono B_78.size)
      have zz139 : w78.heap.size ≤ w139.heap.size := by have q := hb139.size; first | exact q | simpa using q
      clear p1a_78 Wa_78 Wb_78 Wc_78 X1a_78 Ga_78 Gb_78 Gc_78 o_78 g_78 B_78
      clear hb139
      go_wp2_with fail
      refine (eqGroupG _ _ _ _ _ ta pa pb _ hsA (ow139.at hsA) (o_139.at hsA)).mono ?_
      rintro e w140 ⟨rfl, hb140⟩
      have p1a_140 := cell_later hb140 p1a_139
      have Wa_140 := cell_later hb140 Wa_139
      have Wb_140 := cell_later hb140 Wb_139
      have Wc_140 := cell_later hb140 Wc_139
      have X1a_140 := cell_later hb140 X1a_139
      have Ga_140 := cell_later hb140 Ga_139
      have Gb_140 := cell_later hb140 Gb_139
      have Gc_140 := cell_later hb140 Gc_139
      have Ha_140 := cell_later hb140 Ha_139
      have Hb_140 := cell_later hb140 Hb_139
      have Hc_140 := cell_later hb140 Hc_139
      have o_140 := o_139.below hb140
      have g_140 := g_139.below hb140
      have hg_140 := ow139.below hb140
      have B_140 := B_139.trans (hb140.mono B_139.size)
      have zz140 : w139.heap.size ≤ w140.heap.size := by have q := hb140.size; first | exact q | simpa using q
      clear p1a_139 Wa_139 Wb_139 Wc_139 X1a_139 Ga_139 Gb_139 Gc_139 Ha_139 Hb_139 Hc_139 o_139 g_139 ow139 B_139
      clear hb140
      go_wp2_with fail
      refine (heldGroupG _ _ _ ta pa pb _ _ hsA (by omega) (by omega) (g_140.atMark hsA)).mono ?_
      rintro e w141 ⟨rfl, hb141⟩
      have p1a_141 := cell_later hb141 p1a_140
      have Wa_141 := cell_later hb141 Wa_140
      have Wb_141 := cell_later hb141 Wb_140
      have Wc_141 := cell_later hb141 Wc_140
      have X1a_141 := cell_later hb141 X1a_140
      have Ga_141 := cell_later hb141 Ga_140
      have Gb_141 := cell_later hb141 Gb_140
      have Gc_141 := cell_later hb141 Gc_140
      have Ha_141 := cell_later hb141 Ha_140
      have Hb_141 := cell_later hb141 Hb_140
      have Hc_141 := cell_later hb141 Hc_140
      have o_141 := o_140.below hb141
      have g_141 := g_140.below hb141
      have hg_141 := hg_140.below hb141
      have B_141 := B_140.trans (hb141.mono B_140.size)
      have zz141 : w140.heap.size ≤ w141.heap.size := by have q := hb141.size; first | exact q | simpa using q
      clear p1a_140 Wa_140 Wb_140 Wc_140 X1a_140 Ga_140 Gb_140 Gc_140 Ha_140 Hb_140 Hc_140 o_140 g_140 hg_140 B_140
      clear hb141
      go_wp2
      go_ret
      exact ⟨rfl, B_141⟩

end Go.Proofs.Ytlfljfmhhnoinaa
