/- The law FnExactDistinctDelta returns true at every input, and writes nothing that was there. -/
import Derived.Test.YtmkhdocjabflkabM9
import Derived.Test.YtmkhdocjabflkabM19
namespace Go.Proofs.Ytmkhdocjabflkab
open Go.RowKit

set_option maxRecDepth 100000 in
set_option maxHeartbeats 16000000 in
theorem lawDistinctDelta (a0 : Option Addr) (n0 c0 : Nat) (z0 : List WRow) (p0x : Int) (a1 : Option Addr) (n1 c1 : Nat) (z1 : List WRow) (p1x : Int) (w : World) (hz0 : z0.length = n0) (hn0 : n0 ≤ 9223372036854775807) (ha0 : AtW w a0 z0) (hz1 : z1.length = n1) (hn1 : n1 ≤ 9223372036854775807) (ha1 : AtW w a1 z1) :
    Calls Try.prog 3 #[.agg #[.int .i64 p0x, .slice a0 n0 c0], .agg #[.int .i64 p1x, .slice a1 n1 c1]] w fun e w' => e = .returned (.bool true) ∧ Below w.heap.size w w' := by
  obtain ⟨W, hW⟩ : ∃ W, W = ((w.alloc (.cells #[.int .i64 p0x, .slice a0 n0 c0] 24)).alloc (.cells #[.int .i64 p1x, .slice a1 n1 c1] 24)) := ⟨_, rfl⟩
  have B0 : Below w.heap.size w W := by rw [hW]; exact (((Below.refl _ _).alloc (Nat.le_refl _) _).alloc (by simp) _)
  have zW : W.heap.size = w.heap.size + 1 + 1 := by rw [hW]; simp
  have qb0 : W.heap[w.heap.size]? = some (.cells #[.int .i64 p0x, .slice a0 n0 c0] 24 (0, 0)) := by
    rw [hW]
    have q := heap_alloc_new w (.cells #[.int .i64 p0x, .slice a0 n0 c0] 24)
    (try simp only [World.size_alloc] at q)
    first | exact (Below.heap_alloc _ _ _ (by simp; omega)).trans q | exact (Below.heap_alloc _ _ _ (by simp)).trans q
  have p0a_0 : W.cell? ⟨w.heap.size, 0, none⟩ = some (.int .i64 p0x) := by rw [cell_of_row W _ 0 _ _ (0, 0) qb0]; rfl
  have p0b_0 : W.cell? ⟨w.heap.size, 1, none⟩ = some (.slice a0 n0 c0) := by rw [cell_of_row W _ 1 _ _ (0, 0) qb0]; rfl
  clear qb0
  have qb1 : W.heap[w.heap.size + 1]? = some (.cells #[.int .i64 p1x, .slice a1 n1 c1] 24 (0, 0)) := by
    rw [hW]
    have q := heap_alloc_new (w.alloc (.cells #[.int .i64 p0x, .slice a0 n0 c0] 24)) (.cells #[.int .i64 p1x, .slice a1 n1 c1] 24)
    (try simp only [World.size_alloc] at q)
    first | exact q | exact q
  have p1a_0 : W.cell? ⟨w.heap.size + 1, 0, none⟩ = some (.int .i64 p1x) := by rw [cell_of_row W _ 0 _ _ (0, 0) qb1]; rfl
  have p1b_0 : W.cell? ⟨w.heap.size + 1, 1, none⟩ = some (.slice a1 n1 c1) := by rw [cell_of_row W _ 1 _ _ (0, 0) qb1]; rfl
  clear qb1
  by_cases big0 : (1048576 : Int) < (wtot z0 n0 : Nat)
  · go_enter Try.func3, Try.ntmps3
    go_wp2_with fail
    rw [← hW]
    clear hW
    refine (szTable_any _ _ _ z0 _ _ _ hz0 hn0 (by omega) (by omega) (ha0.below B0)).mono ?_
    rintro e v0 ⟨rfl, hv0⟩
    rw [leftOf_no big0]
    have y0 := B0.trans (hv0.mono B0.size)
    go_wp2
    go_ret
    exact ⟨rfl, y0⟩
  have hl0 : ¬ (1048576 : Int) - (wtot z0 n0 : Nat) < 0 := by omega
  have hs0 : SmT z0 n0 := ⟨hz0, by omega⟩
  by_cases big1 : (1048576 : Int) - (wtot z0 n0 : Nat) < (wtot z1 n1 : Nat)
  · go_enter Try.func3, Try.ntmps3
    go_wp2_with fail
    rw [← hW]
    clear hW
    refine (szTable_any _ _ _ z0 _ _ _ hz0 hn0 (by omega) (by omega) (ha0.below B0)).mono ?_
    rintro e v0 ⟨rfl, hv0⟩
    rw [leftOf_yes (by omega)]
    have y0 := B0.trans (hv0.mono B0.size)
    have qp0a_0 := cell_later hv0 p0a_0
    have qp0b_0 := cell_later hv0 p0b_0
    have qp1a_0 := cell_later hv0 p1a_0
    have qp1b_0 := cell_later hv0 p1b_0
    go_wp2_with fail
    refine (szTable_any _ _ _ z1 _ _ _ hz1 hn1 (by omega) (by omega) (ha1.below y0)).mono ?_
    rintro e v1 ⟨rfl, hv1⟩
    rw [leftOf_no big1]
    have y1 := y0.trans (hv1.mono y0.size)
    go_wp2
    go_ret
    exact ⟨rfl, y1⟩
  have hl1 : ¬ (1048576 : Int) - (wtot z0 n0 : Nat) - (wtot z1 n1 : Nat) < 0 := by omega
  have hs1 : SmT z1 n1 := ⟨hz1, by omega⟩
  have hx0 := hs0.n
  have hx1 := hs1.n
  obtain ⟨ok, pa, ta, hsA, HS, HI⟩ : ∃ (ok : Bool) (pa : Int) (ta : List WRow), SmT ta ta.length ∧ Hid (∀ (x0 : Option Addr) (y0 lo0 hi0 : Nat) (x1 : Option Addr) (y1 lo1 hi1 : Nat) (w : World), OwnT w lo0 hi0 x0 n0 y0 z0 → OwnT w lo1 hi1 x1 n1 y1 z1 → Calls Try.prog 6 #[.agg #[.int .i64 p0x, .slice x0 n0 y0], .agg #[.int .i64 p1x, .slice x1 n1 y1]] w fun e w' => TabRet e w' w.heap.size ok pa ta ∧ Below w.heap.size w w') ∧ Hid (∀ (x0 : Option Addr) (y0 lo0 hi0 : Nat) (x1 : Option Addr) (y1 lo1 hi1 : Nat) (w : World), OwnT w lo0 hi0 x0 n0 y0 z0 → OwnT w lo1 hi1 x1 n1 y1 z1 → Calls Try.prog 8 #[.agg #[.int .i64 p0x, .slice x0 n0 y0], .agg #[.int .i64 p1x, .slice x1 n1 y1]] w fun e w' => TabRet e w' w.heap.size ok pa ta ∧ Below w.heap.size w w') := ⟨ddB p0x z0 p1x z1, ansP (ddB p0x z0 p1x z1) (p0x), ansT (ddB p0x z0 p1x z1) (ddW z0 z1), ans_small ddB_goodT, fun x0 y0 lo0 hi0 x1 y1 lo1 hi1 w o0 o1 => specDistinctDelta x0 x1 n0 n1 y0 y1 z0 z1 p0x p1x w hs0.1 hs1.1 hs0.n hs1.n (o0.atM hs0) (o1.atM hs1) o0.formed, fun x0 y0 lo0 hi0 x1 y1 lo1 hi1 w o0 o1 => implDistinctDelta x0 x1 n0 n1 y0 y1 z0 z1 p0x p1x w hs0.1 hs1.1 hs0.n hs1.n (o0.atM hs0) (o1.atM hs1)⟩
  obtain ⟨na, hna⟩ : ∃ na, ta.length = na := ⟨_, rfl⟩
  rw [hna] at hsA
  have hxA := hsA.n
  have HNA := Hid.mk hna
  clear hna
  have hwA := hsA.2
  go_enter Try.func3, Try.ntmps3
  go_wp2_with fail
  rw [← hW]
  clear hW
  refine (szTable_any _ _ _ z0 _ _ _ hz0 hn0 (by omega) (by omega) (ha0.below B0)).mono ?_
  rintro e w1 ⟨rfl, hb1⟩
  rw [leftOf_yes (by omega)]
  have p0a_1 := cell_later hb1 p0a_0
  have p0b_1 := cell_later hb1 p0b_0
  have p1a_1 := cell_later hb1 p1a_0
  have p1b_1 := cell_later hb1 p1b_0
  have B_1 := B0.trans (hb1.mono B0.size)
  have zz1 : W.heap.size ≤ w1.heap.size := by have q := hb1.size; first | exact q | simpa using q
  clear p0a_0 p0b_0 p1a_0 p1b_0
  clear hb1
  go_wp2_with fail
  refine (szTable_any _ _ _ z1 _ _ _ hz1 hn1 (by omega) (by omega) (ha1.below B_1)).mono ?_
  rintro e w2 ⟨rfl, hb2⟩
  rw [leftOf_yes (by omega)]
  have p0a_2 := cell_later hb2 p0a_1
  have p0b_2 := cell_later hb2 p0b_1
  have p1a_2 := cell_later hb2 p1a_1
  have p1b_2 := cell_later hb2 p1b_1
  have B_2 := B_1.trans (hb2.mono B_1.size)
  have zz2 : w1.heap.size ≤ w2.heap.size := by have q := hb2.size; first | exact q | simpa using q
  clear p0a_1 p0b_1 p1a_1 p1b_1 B_1
  clear hb2
  go_upto_region 8 with fail
  go_cut [6, 7] (fun ta' tb wx => ∃ (Pb : Nat) (r : Option Addr) (m d lo hi : Nat), ta' = .pointer (some ⟨Pb, 0, none⟩) ∧ tb = .bool ok ∧ wx.cell? ⟨Pb, 0, none⟩ = some (.int .i64 pa) ∧ wx.cell? ⟨Pb, 1, none⟩ = some (.slice r m d) ∧ OwnT wx lo hi r m d ta ∧ w2.heap.size ≤ lo ∧ hi ≤ wx.heap.size ∧ w2.heap.size ≤ Pb ∧ Pb < wx.heap.size ∧ (Pb < lo ∨ hi ≤ Pb) ∧ Below w2.heap.size w2 wx)
  case first =>
    refine wp_region_held_drew (S := fun w' => w'.cell? ⟨w.heap.size, 0, none⟩ = some (.int .i64 p0x) ∧ w'.cell? ⟨w.heap.size, 1, none⟩ = some (.slice a0 n0 c0) ∧ w'.cell? ⟨w.heap.size + 1, 0, none⟩ = some (.int .i64 p1x) ∧ w'.cell? ⟨w.heap.size + 1, 1, none⟩ = some (.slice a1 n1 c1)) (by kernel_rfl) ?_ (fun hHeld => ?_)
    · (try dsimp only)
      exact ⟨p0a_2, p0b_2, p1a_2, p1b_2⟩
    refine wpAnyH_take (i := 0) (oi := ?_) (v := ?_) ?_ (by kernel_rfl) (by kernel_rfl) (by kernel_rfl) ?_ (Or.inl ⟨?_, ?_⟩) (by assumption) ?_
    rotate_left 2
    · (simp only [List.getElem?_toArray, List.getElem?_cons_zero]; rfl)
    · exact fun _ _ _ h => h
    · rfl
    · (intro wS hSw; (try dsimp only at hSw); go_simp; (try with_reducible rfl))
    (try simp only [Act.put, List.setIfInBounds_toArray, List.set_cons_zero, List.set_cons_succ])
    refine wpAnyH_take (i := 2) (oi := ?_) (v := ?_) ?_ (by kernel_rfl) (by kernel_rfl) (by kernel_rfl) ?_ (Or.inl ⟨?_, ?_⟩) (by assumption) ?_
    rotate_left 2
    · (simp only [List.getElem?_toArray, List.getElem?_cons_zero, List.getElem?_cons_succ]; rfl)
    · exact fun _ _ _ h => h
    · rfl
    · (intro wS hSw; (try dsimp only at hSw); go_simp; (try with_reducible rfl))
    (try simp only [Act.put, List.setIfInBounds_toArray, List.set_cons_zero, List.set_cons_succ])
    obtain ⟨w5, hU5⟩ : ∃ u, u = w2.drew := ⟨_, rfl⟩
    have hb5 : Below w2.heap.size w2 w5 := by rw [hU5]; exact (Below.refl _ _).drew
    rw [← hU5]
    clear hU5
    have p0a_5 := cell_later hb5 p0a_2
    have p0b_5 := cell_later hb5 p0b_2
    have p1a_5 := cell_later hb5 p1a_2
    have p1b_5 := cell_later hb5 p1b_2
    have B_5 := B_2.trans (hb5.mono B_2.size)
    have Y_5 : Below w2.heap.size w2 w5 := hb5
    have zz5 : w2.heap.size ≤ w5.heap.size := by have q := hb5.size; first | exact q | simpa using q
    refine wpAnyH_ready (rs := [1, 8]) (by kernel_rfl) (by simp) ?_
    refine AllReadyH.cons (o := ?_) ?_ (fun K hK => ?_) ?_
    rotate_left
    · (simp only [List.getElem?_toArray, List.getElem?_cons_zero, List.getElem?_cons_succ]; rfl)
    · go_simp
      go_at_call 7
      refine (toTableG _ _ _ z0 p0x _ hs0 (ha0.below B_5)).mono ?_
      rintro e w6 ⟨g6, rfl, ho6, hb6⟩
      have p0a_6 := cell_later hb6 p0a_5
      have p0b_6 := cell_later hb6 p0b_5
      have p1a_6 := cell_later hb6 p1a_5
      have p1b_6 := cell_later hb6 p1b_5
      have B_6 := B_5.trans (hb6.mono B_5.size)
      have Y_6 : Below w2.heap.size w2 w6 := Y_5.trans (hb6.mono Y_5.size)
      have zz6 : w5.heap.size ≤ w6.heap.size := by have q := hb6.size; first | exact q | simpa using q
      (try go_wp2_with fail)
      refine hK.out _ _ ?_ (fun hHeld' => ?_)
      · (try dsimp only)
        exact ⟨p0a_6, p0b_6, p1a_6, p1b_6⟩
      clear hK K hHeld
      have hHeld := hHeld'
      clear hHeld'
      (try simp only [Act.put, List.setIfInBounds_toArray, List.set_cons_zero, List.set_cons_succ])
      refine wpAnyH_ready (rs := [3, 8]) (by kernel_rfl) (by simp) ?_
      refine AllReadyH.cons (o := ?_) ?_ (fun K hK => ?_) ?_
      rotate_left
      · (simp only [List.getElem?_toArray, List.getElem?_cons_zero, List.getElem?_cons_succ]; rfl)
      · go_simp
        go_at_call 7
        refine (toTableG _ _ _ z1 p1x _ hs1 (ha1.below B_6)).mono ?_
        rintro e w7 ⟨g7, rfl, ho7, hb7⟩
        have p0a_7 := cell_later hb7 p0a_6
        have p0b_7 := cell_later hb7 p0b_6
        have p1a_7 := cell_later hb7 p1a_6
        have p1b_7 := cell_later hb7 p1b_6
        have t0_7 := ho6.below hb7
        have B_7 := B_6.trans (hb7.mono B_6.size)
        have Y_7 : Below w2.heap.size w2 w7 := Y_6.trans (hb7.mono Y_6.size)
        have zz7 : w6.heap.size ≤ w7.heap.size := by have q := hb7.size; first | exact q | simpa using q
        (try go_wp2_with fail)
        refine hK.out _ _ ?_ (fun hHeld' => ?_)
        · (try dsimp only)
          exact ⟨p0a_7, p0b_7, p1a_7, p1b_7⟩
        clear hK K hHeld
        have hHeld := hHeld'
        clear hHeld'
        (try simp only [Act.put, List.setIfInBounds_toArray, List.set_cons_zero, List.set_cons_succ])
        refine wpAnyH_ready (rs := [4, 8]) (by kernel_rfl) (by simp) ?_
        refine AllReadyH.cons (o := ?_) ?_ (fun K hK => ?_) ?_
        rotate_left
        · (simp only [List.getElem?_toArray, List.getElem?_cons_zero, List.getElem?_cons_succ]; rfl)
        · go_simp
          go_at_call 6
          refine (HS.out _ _ _ _ _ _ _ _ _ t0_7 ho7).mono ?_
          rintro e w8 ⟨⟨r8, m8, d8, cs8, rfl, ho8⟩, hb8⟩
          have p0a_8 := cell_later hb8 p0a_7
          have p0b_8 := cell_later hb8 p0b_7
          have p1a_8 := cell_later hb8 p1a_7
          have p1b_8 := cell_later hb8 p1b_7
          have B_8 := B_7.trans (hb8.mono B_7.size)
          have Y_8 : Below w2.heap.size w2 w8 := Y_7.trans (hb8.mono Y_7.size)
          have zz8 : w7.heap.size ≤ w8.heap.size := by have q := hb8.size; first | exact q | simpa using q
          (try go_wp2_with fail)
          refine hK.out _ _ ?_ (fun hHeld' => ?_)
          · (try dsimp only)
            exact ⟨p0a_8, p0b_8, p1a_8, p1b_8⟩
          clear hK K hHeld
          have hHeld := hHeld'
          clear hHeld'
          (try simp only [Act.put, List.setIfInBounds_toArray, List.set_cons_zero, List.set_cons_succ])
          refine wpAnyH_take (i := 5) (oi := ?_) (v := ?_) ?_ (by kernel_rfl) (by kernel_rfl) (by kernel_rfl) ?_ (Or.inl ⟨?_, ?_⟩) (by assumption) ?_
          rotate_left 2
          · (simp only [List.getElem?_toArray, List.getElem?_cons_zero, List.getElem?_cons_succ]; rfl)
          · exact fun _ _ _ h => h
          · rfl
          · (intro wS hSw; (try dsimp only at hSw); go_simp; (try with_reducible rfl))
          (try simp only [Act.put, List.setIfInBounds_toArray, List.set_cons_zero, List.set_cons_succ])
          refine wpAnyH_take (i := 6) (oi := ?_) (v := ?_) ?_ (by kernel_rfl) (by kernel_rfl) (by kernel_rfl) ?_ (Or.inl ⟨?_, ?_⟩) (by assumption) ?_
          rotate_left 2
          · (simp only [List.getElem?_toArray, List.getElem?_cons_zero, List.getElem?_cons_succ]; rfl)
          · exact fun _ _ _ h => h
          · rfl
          · (intro wS hSw; (try dsimp only at hSw); go_simp; (try with_reducible rfl))
          (try simp only [Act.put, List.setIfInBounds_toArray, List.set_cons_zero, List.set_cons_succ])
          refine wpAnyH_take (i := 7) (oi := ?_) (v := ?_) ?_ (by kernel_rfl) (by kernel_rfl) (by kernel_rfl) ?_ (Or.inl ⟨?_, ?_⟩) (by assumption) ?_
          rotate_left 2
          · (simp only [List.getElem?_toArray, List.getElem?_cons_zero, List.getElem?_cons_succ]; rfl)
          · exact fun _ _ _ h => h
          · rfl
          · (intro wS hSw; (try dsimp only at hSw); go_simp; (try with_reducible rfl))
          (try simp only [Act.put, List.setIfInBounds_toArray, List.set_cons_zero, List.set_cons_succ])
          refine wpAnyH_ready (rs := [8]) (by kernel_rfl) (by simp) ?_
          refine AllReadyH.cons (o := ?_) ?_ (fun K hK => ?_) AllReadyH.nil
          rotate_left
          · (simp only [List.getElem?_toArray, List.getElem?_cons_zero, List.getElem?_cons_succ]; rfl)
          go_simp
          skip
          (try go_wp2_with fail)
          refine hK.out _ _ ?_ (fun hHeld' => ?_)
          · (try dsimp only)
            exact ⟨cell_later ((Below.refl _ _).alloc (Nat.le_refl _) _) p0a_8, cell_later ((Below.refl _ _).alloc (Nat.le_refl _) _) p0b_8, cell_later ((Below.refl _ _).alloc (Nat.le_refl _) _) p1a_8, cell_later ((Below.refl _ _).alloc (Nat.le_refl _) _) p1b_8⟩
          clear hK K hHeld
          have hHeld := hHeld'
          clear hHeld'
          (try simp only [Act.put, List.setIfInBounds_toArray, List.set_cons_zero, List.set_cons_succ])
          refine wpAnyH_ready (rs := [9]) (by kernel_rfl) (by simp) ?_
          refine AllReadyH.cons (o := ?_) ?_ (fun K hK => ?_) AllReadyH.nil
          rotate_left
          · (simp only [List.getElem?_toArray, List.getElem?_cons_zero, List.getElem?_cons_succ]; rfl)
          go_simp
          skip
          (try go_wp2_with fail)
          refine hK.out _ _ ?_ (fun hHeld' => ?_)
          · (try dsimp only)
            exact ⟨cell_later ((Below.refl _ _).alloc (Nat.le_refl _) _) p0a_8, cell_later ((Below.refl _ _).alloc (Nat.le_refl _) _) p0b_8, cell_later ((Below.refl _ _).alloc (Nat.le_refl _) _) p1a_8, cell_later ((Below.refl _ _).alloc (Nat.le_refl _) _) p1b_8⟩
          clear hK K hHeld
          have hHeld := hHeld'
          clear hHeld'
          (try simp only [Act.put, List.setIfInBounds_toArray, List.set_cons_zero, List.set_cons_succ])
          refine wpAnyH_take (i := 10) (oi := ?_) (v := ?_) ?_ (by kernel_rfl) (by kernel_rfl) (by kernel_rfl) ?_ (Or.inl ⟨?_, ?_⟩) (by assumption) ?_
          rotate_left 2
          · (simp only [List.getElem?_toArray, List.getElem?_cons_zero, List.getElem?_cons_succ]; rfl)
          · exact fun _ _ _ h => h
          · rfl
          · (intro wS hSw; (try dsimp only at hSw); go_simp; (try with_reducible rfl))
          (try simp only [Act.put, List.setIfInBounds_toArray, List.set_cons_zero, List.set_cons_succ])
          refine wpAnyH_done (by kernel_rfl) ?_ _
          (try go_wp2_with fail)
          go_meet
          case rel =>
            have owk : OwnT w8 w7.heap.size w8.heap.size r8 m8 d8 ta := ⟨cs8, ho8⟩
            exact ⟨w8.heap.size, r8, m8, d8, w7.heap.size, w8.heap.size, rfl, rfl, pair0 w8 _ _ _, pair1 w8 _ _ _, owk.below ((Below.refl _ _).alloc (Nat.le_refl _) _), by omega, by simp, by omega, by simp, .inr (Nat.le_refl _), Y_8.alloc Y_8.size _⟩
        refine AllReadyH.cons (o := ?_) ?_ (fun K hK => ?_) AllReadyH.nil
        rotate_left
        · (simp only [List.getElem?_toArray, List.getElem?_cons_zero, List.getElem?_cons_succ]; rfl)
        · go_simp
          (try go_wp2_with fail)
          refine hK.out _ _ ?_ (fun hHeld' => ?_)
          · (try dsimp only)
            exact ⟨cell_later ((Below.refl _ _).alloc (Nat.le_refl _) _) p0a_7, cell_later ((Below.refl _ _).alloc (Nat.le_refl _) _) p0b_7, cell_later ((Below.refl _ _).alloc (Nat.le_refl _) _) p1a_7, cell_later ((Below.refl _ _).alloc (Nat.le_refl _) _) p1b_7⟩
          clear hK K hHeld
          have hHeld := hHeld'
          clear hHeld'
          (try simp only [Act.put, List.setIfInBounds_toArray, List.set_cons_zero, List.set_cons_succ])
          obtain ⟨w8, hU8⟩ : ∃ u, u = w7.alloc (.cells #[.int .i64 0, .slice none 0 0] 28) := ⟨_, rfl⟩
          have hb8 : Below w7.heap.size w7 w8 := by rw [hU8]; exact (Below.refl _ _).alloc (Nat.le_refl _) _
          have zp8 : w8.heap.size = w7.heap.size + 1 := by rw [hU8]; simp
          have hp8 : w8.heap[w7.heap.size]? = some (.cells #[.int .i64 0, .slice none 0 0] 28 (0, 0)) := by rw [hU8]; exact heap_alloc_new _ _
          rw [← hU8]
          clear hU8
          have p0a_8 := cell_later hb8 p0a_7
          have p0b_8 := cell_later hb8 p0b_7
          have p1a_8 := cell_later hb8 p1a_7
          have p1b_8 := cell_later hb8 p1b_7
          have t0_8 := t0_7.below hb8
          have t1_8 := ho7.below hb8
          have B_8 := B_7.trans (hb8.mono B_7.size)
          have Y_8 : Below w2.heap.size w2 w8 := Y_7.trans (hb8.mono Y_7.size)
          have zz8 : w7.heap.size ≤ w8.heap.size := by have q := hb8.size; first | exact q | simpa using q
          refine wpAnyH_ready (rs := [4]) (by kernel_rfl) (by simp) ?_
          refine AllReadyH.cons (o := ?_) ?_ (fun K hK => ?_) AllReadyH.nil
          rotate_left
          · (simp only [List.getElem?_toArray, List.getElem?_cons_zero, List.getElem?_cons_succ]; rfl)
          go_simp
          go_at_call 6
          refine (HS.out _ _ _ _ _ _ _ _ _ t0_8 t1_8).mono ?_
          rintro e w9 ⟨⟨r9, m9, d9, cs9, rfl, ho9⟩, hb9⟩
          have p0a_9 := cell_later hb9 p0a_8
          have p0b_9 := cell_later hb9 p0b_8
          have p1a_9 := cell_later hb9 p1a_8
          have p1b_9 := cell_later hb9 p1b_8
          have hq9 := (hb9.block (w7.heap.size) (Array.getElem?_eq_some_iff.1 hp8).1).trans hp8
          have B_9 := B_8.trans (hb9.mono B_8.size)
          have Y_9 : Below w2.heap.size w2 w9 := Y_8.trans (hb9.mono Y_8.size)
          have zz9 : w8.heap.size ≤ w9.heap.size := by have q := hb9.size; first | exact q | simpa using q
          (try go_wp2_with fail)
          refine hK.out _ _ ?_ (fun hHeld' => ?_)
          · (try dsimp only)
            exact ⟨p0a_9, p0b_9, p1a_9, p1b_9⟩
          clear hK K hHeld
          have hHeld := hHeld'
          clear hHeld'
          (try simp only [Act.put, List.setIfInBounds_toArray, List.set_cons_zero, List.set_cons_succ])
          refine wpAnyH_take (i := 5) (oi := ?_) (v := ?_) ?_ (by kernel_rfl) (by kernel_rfl) (by kernel_rfl) ?_ (Or.inl ⟨?_, ?_⟩) (by assumption) ?_
          rotate_left 2
          · (simp only [List.getElem?_toArray, List.getElem?_cons_zero, List.getElem?_cons_succ]; rfl)
          · exact fun _ _ _ h => h
          · rfl
          · (intro wS hSw; (try dsimp only at hSw); go_simp; (try with_reducible rfl))
          (try simp only [Act.put, List.setIfInBounds_toArray, List.set_cons_zero, List.set_cons_succ])
          refine wpAnyH_take (i := 6) (oi := ?_) (v := ?_) ?_ (by kernel_rfl) (by kernel_rfl) (by kernel_rfl) ?_ (Or.inl ⟨?_, ?_⟩) (by assumption) ?_
          rotate_left 2
          · (simp only [List.getElem?_toArray, List.getElem?_cons_zero, List.getElem?_cons_succ]; rfl)
          · exact fun _ _ _ h => h
          · rfl
          · (intro wS hSw; (try dsimp only at hSw); go_simp; (try with_reducible rfl))
          (try simp only [Act.put, List.setIfInBounds_toArray, List.set_cons_zero, List.set_cons_succ])
          refine wpAnyH_take (i := 7) (oi := ?_) (v := ?_) ?_ (by kernel_rfl) (by kernel_rfl) (by kernel_rfl) ?_ (Or.inl ⟨?_, ?_⟩) (by assumption) ?_
          rotate_left 2
          · (simp only [List.getElem?_toArray, List.getElem?_cons_zero, List.getElem?_cons_succ]; rfl)
          · exact fun _ _ _ h => h
          · rfl
          · (intro wS hSw; (try dsimp only at hSw); go_simp; (try with_reducible rfl))
          (try simp only [Act.put, List.setIfInBounds_toArray, List.set_cons_zero, List.set_cons_succ])
          have u0 : w9.cell? ⟨w7.heap.size, 0, none⟩ = some (.int .i64 0) := by rw [cell_of_row _ _ 0 _ _ (0, 0) hq9]; rfl
          have u1 : w9.cell? ⟨w7.heap.size, 1, none⟩ = some (.slice none 0 0) := by rw [cell_of_row _ _ 1 _ _ (0, 0) hq9]; rfl
          have v0 : w9.frozen? ⟨w7.heap.size, 0, none⟩ = false := frozen_of_row _ _ 0 _ _ hq9
          have v1 : w9.frozen? ⟨w7.heap.size, 1, none⟩ = false := frozen_of_row _ _ 1 _ _ hq9
          refine wpAnyH_ready (rs := [9]) (by kernel_rfl) (by simp) ?_
          refine AllReadyH.cons (o := ?_) ?_ (fun K hK => ?_) AllReadyH.nil
          rotate_left
          · (simp only [List.getElem?_toArray, List.getElem?_cons_zero, List.getElem?_cons_succ]; rfl)
          go_simp
          skip
          (try go_wp2_with fail)
          refine hK.out _ _ ?_ (fun hHeld' => ?_)
          · (try dsimp only)
            exact ⟨keep_far (keep_far p0a_9 (by omega)) (by omega), keep_far (keep_far p0b_9 (by omega)) (by omega), keep_far (keep_far p1a_9 (by omega)) (by omega), keep_far (keep_far p1b_9 (by omega)) (by omega)⟩
          clear hK K hHeld
          have hHeld := hHeld'
          clear hHeld'
          (try simp only [Act.put, List.setIfInBounds_toArray, List.set_cons_zero, List.set_cons_succ])
          refine wpAnyH_take (i := 10) (oi := ?_) (v := ?_) ?_ (by kernel_rfl) (by kernel_rfl) (by kernel_rfl) ?_ (Or.inl ⟨?_, ?_⟩) (by assumption) ?_
          rotate_left 2
          · (simp only [List.getElem?_toArray, List.getElem?_cons_zero, List.getElem?_cons_succ]; rfl)
          · exact fun _ _ _ h => h
          · rfl
          · (intro wS hSw; (try dsimp only at hSw); go_simp; (try with_reducible rfl))
          (try simp only [Act.put, List.setIfInBounds_toArray, List.set_cons_zero, List.set_cons_succ])
          refine wpAnyH_done (by kernel_rfl) ?_ _
          (try go_wp2_with fail)
          go_meet
          case rel =>
            have owk : OwnT w9 w8.heap.size w9.heap.size r9 m9 d9 ta := ⟨cs9, ho9⟩
            exact ⟨w7.heap.size, r9, m9, d9, w8.heap.size, w9.heap.size, rfl, rfl, set2_0 hq9 _ _, set2_1 hq9 _ _, owk.set2 (.inl (by omega)) _ _, by omega, by simp [World.setCell], by omega, by simp only [World.setCell, Array.size_modify]; omega, .inl (by omega), (Y_9.setCell (by show w2.heap.size ≤ w7.heap.size; omega) _).setCell (by show w2.heap.size ≤ w7.heap.size; omega) _⟩
      refine AllReadyH.cons (o := ?_) ?_ (fun K hK => ?_) AllReadyH.nil
      rotate_left
      · (simp only [List.getElem?_toArray, List.getElem?_cons_zero, List.getElem?_cons_succ]; rfl)
      · go_simp
        (try go_wp2_with fail)
        refine hK.out _ _ ?_ (fun hHeld' => ?_)
        · (try dsimp only)
          exact ⟨cell_later ((Below.refl _ _).alloc (Nat.le_refl _) _) p0a_6, cell_later ((Below.refl _ _).alloc (Nat.le_refl _) _) p0b_6, cell_later ((Below.refl _ _).alloc (Nat.le_refl _) _) p1a_6, cell_later ((Below.refl _ _).alloc (Nat.le_refl _) _) p1b_6⟩
        clear hK K hHeld
        have hHeld := hHeld'
        clear hHeld'
        (try simp only [Act.put, List.setIfInBounds_toArray, List.set_cons_zero, List.set_cons_succ])
        obtain ⟨w7, hU7⟩ : ∃ u, u = w6.alloc (.cells #[.int .i64 0, .slice none 0 0] 28) := ⟨_, rfl⟩
        have hb7 : Below w6.heap.size w6 w7 := by rw [hU7]; exact (Below.refl _ _).alloc (Nat.le_refl _) _
        have zp7 : w7.heap.size = w6.heap.size + 1 := by rw [hU7]; simp
        have hp7 : w7.heap[w6.heap.size]? = some (.cells #[.int .i64 0, .slice none 0 0] 28 (0, 0)) := by rw [hU7]; exact heap_alloc_new _ _
        rw [← hU7]
        clear hU7
        have p0a_7 := cell_later hb7 p0a_6
        have p0b_7 := cell_later hb7 p0b_6
        have p1a_7 := cell_later hb7 p1a_6
        have p1b_7 := cell_later hb7 p1b_6
        have t0_7 := ho6.below hb7
        have B_7 := B_6.trans (hb7.mono B_6.size)
        have Y_7 : Below w2.heap.size w2 w7 := Y_6.trans (hb7.mono Y_6.size)
        have zz7 : w6.heap.size ≤ w7.heap.size := by have q := hb7.size; first | exact q | simpa using q
        refine wpAnyH_ready (rs := [3]) (by kernel_rfl) (by simp) ?_
        refine AllReadyH.cons (o := ?_) ?_ (fun K hK => ?_) AllReadyH.nil
        rotate_left
        · (simp only [List.getElem?_toArray, List.getElem?_cons_zero, List.getElem?_cons_succ]; rfl)
        go_simp
        go_at_call 7
        refine (toTableG _ _ _ z1 p1x _ hs1 (ha1.below B_7)).mono ?_
        rintro e w8 ⟨g8, rfl, ho8, hb8⟩
        have p0a_8 := cell_later hb8 p0a_7
        have p0b_8 := cell_later hb8 p0b_7
        have p1a_8 := cell_later hb8 p1a_7
        have p1b_8 := cell_later hb8 p1b_7
        have t0_8 := t0_7.below hb8
        have hq8 := (hb8.block (w6.heap.size) (Array.getElem?_eq_some_iff.1 hp7).1).trans hp7
        have B_8 := B_7.trans (hb8.mono B_7.size)
        have Y_8 : Below w2.heap.size w2 w8 := Y_7.trans (hb8.mono Y_7.size)
        have zz8 : w7.heap.size ≤ w8.heap.size := by have q := hb8.size; first | exact q | simpa using q
        (try go_wp2_with fail)
        refine hK.out _ _ ?_ (fun hHeld' => ?_)
        · (try dsimp only)
          exact ⟨p0a_8, p0b_8, p1a_8, p1b_8⟩
        clear hK K hHeld
        have hHeld := hHeld'
        clear hHeld'
        (try simp only [Act.put, List.setIfInBounds_toArray, List.set_cons_zero, List.set_cons_succ])
        refine wpAnyH_ready (rs := [4]) (by kernel_rfl) (by simp) ?_
        refine AllReadyH.cons (o := ?_) ?_ (fun K hK => ?_) AllReadyH.nil
        rotate_left
        · (simp only [List.getElem?_toArray, List.getElem?_cons_zero, List.getElem?_cons_succ]; rfl)
        go_simp
        go_at_call 6
        refine (HS.out _ _ _ _ _ _ _ _ _ t0_8 ho8).mono ?_
        rintro e w9 ⟨⟨r9, m9, d9, cs9, rfl, ho9⟩, hb9⟩
        have p0a_9 := cell_later hb9 p0a_8
        have p0b_9 := cell_later hb9 p0b_8
        have p1a_9 := cell_later hb9 p1a_8
        have p1b_9 := cell_later hb9 p1b_8
        have hq9 := (hb9.block (w6.heap.size) (Array.getElem?_eq_some_iff.1 hq8).1).trans hq8
        have B_9 := B_8.trans (hb9.mono B_8.size)
        have Y_9 : Below w2.heap.size w2 w9 := Y_8.trans (hb9.mono Y_8.size)
        have zz9 : w8.heap.size ≤ w9.heap.size := by have q := hb9.size; first | exact q | simpa using q
        (try go_wp2_with fail)
        refine hK.out _ _ ?_ (fun hHeld' => ?_)
        · (try dsimp only)
          exact ⟨p0a_9, p0b_9, p1a_9, p1b_9⟩
        clear hK K hHeld
        have hHeld := hHeld'
        clear hHeld'
        (try simp only [Act.put, List.setIfInBounds_toArray, List.set_cons_zero, List.set_cons_succ])
        refine wpAnyH_take (i := 5) (oi := ?_) (v := ?_) ?_ (by kernel_rfl) (by kernel_rfl) (by kernel_rfl) ?_ (Or.inl ⟨?_, ?_⟩) (by assumption) ?_
        rotate_left 2
        · (simp only [List.getElem?_toArray, List.getElem?_cons_zero, List.getElem?_cons_succ]; rfl)
        · exact fun _ _ _ h => h
        · rfl
        · (intro wS hSw; (try dsimp only at hSw); go_simp; (try with_reducible rfl))
        (try simp only [Act.put, List.setIfInBounds_toArray, List.set_cons_zero, List.set_cons_succ])
        refine wpAnyH_take (i := 6) (oi := ?_) (v := ?_) ?_ (by kernel_rfl) (by kernel_rfl) (by kernel_rfl) ?_ (Or.inl ⟨?_, ?_⟩) (by assumption) ?_
        rotate_left 2
        · (simp only [List.getElem?_toArray, List.getElem?_cons_zero, List.getElem?_cons_succ]; rfl)
        · exact fun _ _ _ h => h
        · rfl
        · (intro wS hSw; (try dsimp only at hSw); go_simp; (try with_reducible rfl))
        (try simp only [Act.put, List.setIfInBounds_toArray, List.set_cons_zero, List.set_cons_succ])
        refine wpAnyH_take (i := 7) (oi := ?_) (v := ?_) ?_ (by kernel_rfl) (by kernel_rfl) (by kernel_rfl) ?_ (Or.inl ⟨?_, ?_⟩) (by assumption) ?_
        rotate_left 2
        · (simp only [List.getElem?_toArray, List.getElem?_cons_zero, List.getElem?_cons_succ]; rfl)
        · exact fun _ _ _ h => h
        · rfl
        · (intro wS hSw; (try dsimp only at hSw); go_simp; (try with_reducible rfl))
        (try simp only [Act.put, List.setIfInBounds_toArray, List.set_cons_zero, List.set_cons_succ])
        have u0 : w9.cell? ⟨w6.heap.size, 0, none⟩ = some (.int .i64 0) := by rw [cell_of_row _ _ 0 _ _ (0, 0) hq9]; rfl
        have u1 : w9.cell? ⟨w6.heap.size, 1, none⟩ = some (.slice none 0 0) := by rw [cell_of_row _ _ 1 _ _ (0, 0) hq9]; rfl
        have v0 : w9.frozen? ⟨w6.heap.size, 0, none⟩ = false := frozen_of_row _ _ 0 _ _ hq9
        have v1 : w9.frozen? ⟨w6.heap.size, 1, none⟩ = false := frozen_of_row _ _ 1 _ _ hq9
        refine wpAnyH_ready (rs := [9]) (by kernel_rfl) (by simp) ?_
        refine AllReadyH.cons (o := ?_) ?_ (fun K hK => ?_) AllReadyH.nil
        rotate_left
        · (simp only [List.getElem?_toArray, List.getElem?_cons_zero, List.getElem?_cons_succ]; rfl)
        go_simp
        skip
        (try go_wp2_with fail)
        refine hK.out _ _ ?_ (fun hHeld' => ?_)
        · (try dsimp only)
          exact ⟨keep_far (keep_far p0a_9 (by omega)) (by omega), keep_far (keep_far p0b_9 (by omega)) (by omega), keep_far (keep_far p1a_9 (by omega)) (by omega), keep_far (keep_far p1b_9 (by omega)) (by omega)⟩
        clear hK K hHeld
        have hHeld := hHeld'
        clear hHeld'
        (try simp only [Act.put, List.setIfInBounds_toArray, List.set_cons_zero, List.set_cons_succ])
        refine wpAnyH_take (i := 10) (oi := ?_) (v := ?_) ?_ (by kernel_rfl) (by kernel_rfl) (by kernel_rfl) ?_ (Or.inl ⟨?_, ?_⟩) (by assumption) ?_
        rotate_left 2
        · (simp only [List.getElem?_toArray, List.getElem?_cons_zero, List.getElem?_cons_succ]; rfl)
        · exact fun _ _ _ h => h
        · rfl
        · (intro wS hSw; (try dsimp only at hSw); go_simp; (try with_reducible rfl))
        (try simp only [Act.put, List.setIfInBounds_toArray, List.set_cons_zero, List.set_cons_succ])
        refine wpAnyH_done (by kernel_rfl) ?_ _
        (try go_wp2_with fail)
        go_meet
        case rel =>
          have owk : OwnT w9 w8.heap.size w9.heap.size r9 m9 d9 ta := ⟨cs9, ho9⟩
          exact ⟨w6.heap.size, r9, m9, d9, w8.heap.size, w9.heap.size, rfl, rfl, set2_0 hq9 _ _, set2_1 hq9 _ _, owk.set2 (.inl (by omega)) _ _, by omega, by simp [World.setCell], by omega, by simp only [World.setCell, Array.size_modify]; omega, .inl (by omega), (Y_9.setCell (by show w2.heap.size ≤ w6.heap.size; omega) _).setCell (by show w2.heap.size ≤ w6.heap.size; omega) _⟩
    refine AllReadyH.cons (o := ?_) ?_ (fun K hK => ?_) AllReadyH.nil
    rotate_left
    · (simp only [List.getElem?_toArray, List.getElem?_cons_zero, List.getElem?_cons_succ]; rfl)
    · go_simp
      (try go_wp2_with fail)
      refine hK.out _ _ ?_ (fun hHeld' => ?_)
      · (try dsimp only)
        exact ⟨cell_later ((Below.refl _ _).alloc (Nat.le_refl _) _) p0a_5, cell_later ((Below.refl _ _).alloc (Nat.le_refl _) _) p0b_5, cell_later ((Below.refl _ _).alloc (Nat.le_refl _) _) p1a_5, cell_later ((Below.refl _ _).alloc (Nat.le_refl _) _) p1b_5⟩
      clear hK K hHeld
      have hHeld := hHeld'
      clear hHeld'
      (try simp only [Act.put, List.setIfInBounds_toArray, List.set_cons_zero, List.set_cons_succ])
      obtain ⟨w6, hU6⟩ : ∃ u, u = w5.alloc (.cells #[.int .i64 0, .slice none 0 0] 28) := ⟨_, rfl⟩
      have hb6 : Below w5.heap.size w5 w6 := by rw [hU6]; exact (Below.refl _ _).alloc (Nat.le_refl _) _
      have zp6 : w6.heap.size = w5.heap.size + 1 := by rw [hU6]; simp
      have hp6 : w6.heap[w5.heap.size]? = some (.cells #[.int .i64 0, .slice none 0 0] 28 (0, 0)) := by rw [hU6]; exact heap_alloc_new _ _
      rw [← hU6]
      clear hU6
      have p0a_6 := cell_later hb6 p0a_5
      have p0b_6 := cell_later hb6 p0b_5
      have p1a_6 := cell_later hb6 p1a_5
      have p1b_6 := cell_later hb6 p1b_5
      have B_6 := B_5.trans (hb6.mono B_5.size)
      have Y_6 : Below w2.heap.size w2 w6 := Y_5.trans (hb6.mono Y_5.size)
      have zz6 : w5.heap.size ≤ w6.heap.size := by have q := hb6.size; first | exact q | simpa using q
      refine wpAnyH_ready (rs := [1]) (by kernel_rfl) (by simp) ?_
      refine AllReadyH.cons (o := ?_) ?_ (fun K hK => ?_) AllReadyH.nil
      rotate_left
      · (simp only [List.getElem?_toArray, List.getElem?_cons_zero, List.getElem?_cons_succ]; rfl)
      go_simp
      go_at_call 7
      refine (toTableG _ _ _ z0 p0x _ hs0 (ha0.below B_6)).mono ?_
      rintro e w7 ⟨g7, rfl, ho7, hb7⟩
      have p0a_7 := cell_later hb7 p0a_6
      have p0b_7 := cell_later hb7 p0b_6
      have p1a_7 := cell_later hb7 p1a_6
      have p1b_7 := cell_later hb7 p1b_6
      have hq7 := (hb7.block (w5.heap.size) (Array.getElem?_eq_some_iff.1 hp6).1).trans hp6
      have B_7 := B_6.trans (hb7.mono B_6.size)
      have Y_7 : Below w2.heap.size w2 w7 := Y_6.trans (hb7.mono Y_6.size)
      have zz7 : w6.heap.size ≤ w7.heap.size := by have q := hb7.size; first | exact q | simpa using q
      (try go_wp2_with fail)
      refine hK.out _ _ ?_ (fun hHeld' => ?_)
      · (try dsimp only)
        exact ⟨p0a_7, p0b_7, p1a_7, p1b_7⟩
      clear hK K hHeld
      have hHeld := hHeld'
      clear hHeld'
      (try simp only [Act.put, List.setIfInBounds_toArray, List.set_cons_zero, List.set_cons_succ])
      refine wpAnyH_ready (rs := [3]) (by kernel_rfl) (by simp) ?_
      refine AllReadyH.cons (o := ?_) ?_ (fun K hK => ?_) AllReadyH.nil
      rotate_left
      · (simp only [List.getElem?_toArray, List.getElem?_cons_zero, List.getElem?_cons_succ]; rfl)
      go_simp
      go_at_call 7
      refine (toTableG _ _ _ z1 p1x _ hs1 (ha1.below B_7)).mono ?_
      rintro e w8 ⟨g8, rfl, ho8, hb8⟩
      have p0a_8 := cell_later hb8 p0a_7
      have p0b_8 := cell_later hb8 p0b_7
      have p1a_8 := cell_later hb8 p1a_7
      have p1b_8 := cell_later hb8 p1b_7
      have t0_8 := ho7.below hb8
      have hq8 := (hb8.block (w5.heap.size) (Array.getElem?_eq_some_iff.1 hq7).1).trans hq7
      have B_8 := B_7.trans (hb8.mono B_7.size)
      have Y_8 : Below w2.heap.size w2 w8 := Y_7.trans (hb8.mono Y_7.size)
      have zz8 : w7.heap.size ≤ w8.heap.size := by have q := hb8.size; first | exact q | simpa using q
      (try go_wp2_with fail)
      refine hK.out _ _ ?_ (fun hHeld' => ?_)
      · (try dsimp only)
        exact ⟨p0a_8, p0b_8, p1a_8, p1b_8⟩
      clear hK K hHeld
      have hHeld := hHeld'
      clear hHeld'
      (try simp only [Act.put, List.setIfInBounds_toArray, List.set_cons_zero, List.set_cons_succ])
      refine wpAnyH_ready (rs := [4]) (by kernel_rfl) (by simp) ?_
      refine AllReadyH.cons (o := ?_) ?_ (fun K hK => ?_) AllReadyH.nil
      rotate_left
      · (simp only [List.getElem?_toArray, List.getElem?_cons_zero, List.getElem?_cons_succ]; rfl)
      go_simp
      go_at_call 6
      refine (HS.out _ _ _ _ _ _ _ _ _ t0_8 ho8).mono ?_
      rintro e w9 ⟨⟨r9, m9, d9, cs9, rfl, ho9⟩, hb9⟩
      have p0a_9 := cell_later hb9 p0a_8
      have p0b_9 := cell_later hb9 p0b_8
      have p1a_9 := cell_later hb9 p1a_8
      have p1b_9 := cell_later hb9 p1b_8
      have hq9 := (hb9.block (w5.heap.size) (Array.getElem?_eq_some_iff.1 hq8).1).trans hq8
      have B_9 := B_8.trans (hb9.mono B_8.size)
      have Y_9 : Below w2.heap.size w2 w9 := Y_8.trans (hb9.mono Y_8.size)
      have zz9 : w8.heap.size ≤ w9.heap.size := by have q := hb9.size; first | exact q | simpa using q
      (try go_wp2_with fail)
      refine hK.out _ _ ?_ (fun hHeld' => ?_)
      · (try dsimp only)
        exact ⟨p0a_9, p0b_9, p1a_9, p1b_9⟩
      clear hK K hHeld
      have hHeld := hHeld'
      clear hHeld'
      (try simp only [Act.put, List.setIfInBounds_toArray, List.set_cons_zero, List.set_cons_succ])
      refine wpAnyH_take (i := 5) (oi := ?_) (v := ?_) ?_ (by kernel_rfl) (by kernel_rfl) (by kernel_rfl) ?_ (Or.inl ⟨?_, ?_⟩) (by assumption) ?_
      rotate_left 2
      · (simp only [List.getElem?_toArray, List.getElem?_cons_zero, List.getElem?_cons_succ]; rfl)
      · exact fun _ _ _ h => h
      · rfl
      · (intro wS hSw; (try dsimp only at hSw); go_simp; (try with_reducible rfl))
      (try simp only [Act.put, List.setIfInBounds_toArray, List.set_cons_zero, List.set_cons_succ])
      refine wpAnyH_take (i := 6) (oi := ?_) (v := ?_) ?_ (by kernel_rfl) (by kernel_rfl) (by kernel_rfl) ?_ (Or.inl ⟨?_, ?_⟩) (by assumption) ?_
      rotate_left 2
      · (simp only [List.getElem?_toArray, List.getElem?_cons_zero, List.getElem?_cons_succ]; rfl)
      · exact fun _ _ _ h => h
      · rfl
      · (intro wS hSw; (try dsimp only at hSw); go_simp; (try with_reducible rfl))
      (try simp only [Act.put, List.setIfInBounds_toArray, List.set_cons_zero, List.set_cons_succ])
      refine wpAnyH_take (i := 7) (oi := ?_) (v := ?_) ?_ (by kernel_rfl) (by kernel_rfl) (by kernel_rfl) ?_ (Or.inl ⟨?_, ?_⟩) (by assumption) ?_
      rotate_left 2
      · (simp only [List.getElem?_toArray, List.getElem?_cons_zero, List.getElem?_cons_succ]; rfl)
      · exact fun _ _ _ h => h
      · rfl
      · (intro wS hSw; (try dsimp only at hSw); go_simp; (try with_reducible rfl))
      (try simp only [Act.put, List.setIfInBounds_toArray, List.set_cons_zero, List.set_cons_succ])
      have u0 : w9.cell? ⟨w5.heap.size, 0, none⟩ = some (.int .i64 0) := by rw [cell_of_row _ _ 0 _ _ (0, 0) hq9]; rfl
      have u1 : w9.cell? ⟨w5.heap.size, 1, none⟩ = some (.slice none 0 0) := by rw [cell_of_row _ _ 1 _ _ (0, 0) hq9]; rfl
      have v0 : w9.frozen? ⟨w5.heap.size, 0, none⟩ = false := frozen_of_row _ _ 0 _ _ hq9
      have v1 : w9.frozen? ⟨w5.heap.size, 1, none⟩ = false := frozen_of_row _ _ 1 _ _ hq9
      refine wpAnyH_ready (rs := [9]) (by kernel_rfl) (by simp) ?_
      refine AllReadyH.cons (o := ?_) ?_ (fun K hK => ?_) AllReadyH.nil
      rotate_left
      · (simp only [List.getElem?_toArray, List.getElem?_cons_zero, List.getElem?_cons_succ]; rfl)
      go_simp
      skip
      (try go_wp2_with fail)
      refine hK.out _ _ ?_ (fun hHeld' => ?_)
      · (try dsimp only)
        exact ⟨keep_far (keep_far p0a_9 (by omega)) (by omega), keep_far (keep_far p0b_9 (by omega)) (by omega), keep_far (keep_far p1a_9 (by omega)) (by omega), keep_far (keep_far p1b_9 (by omega)) (by omega)⟩
      clear hK K hHeld
      have hHeld := hHeld'
      clear hHeld'
      (try simp only [Act.put, List.setIfInBounds_toArray, List.set_cons_zero, List.set_cons_succ])
      refine wpAnyH_take (i := 10) (oi := ?_) (v := ?_) ?_ (by kernel_rfl) (by kernel_rfl) (by kernel_rfl) ?_ (Or.inl ⟨?_, ?_⟩) (by assumption) ?_
      rotate_left 2
      · (simp only [List.getElem?_toArray, List.getElem?_cons_zero, List.getElem?_cons_succ]; rfl)
      · exact fun _ _ _ h => h
      · rfl
      · (intro wS hSw; (try dsimp only at hSw); go_simp; (try with_reducible rfl))
      (try simp only [Act.put, List.setIfInBounds_toArray, List.set_cons_zero, List.set_cons_succ])
      refine wpAnyH_done (by kernel_rfl) ?_ _
      (try go_wp2_with fail)
      go_meet
      case rel =>
        have owk : OwnT w9 w8.heap.size w9.heap.size r9 m9 d9 ta := ⟨cs9, ho9⟩
        exact ⟨w5.heap.size, r9, m9, d9, w8.heap.size, w9.heap.size, rfl, rfl, set2_0 hq9 _ _, set2_1 hq9 _ _, owk.set2 (.inl (by omega)) _ _, by omega, by simp [World.setCell], by omega, by simp only [World.setCell, Array.size_modify]; omega, .inl (by omega), (Y_9.setCell (by show w2.heap.size ≤ w5.heap.size; omega) _).setCell (by show w2.heap.size ≤ w5.heap.size; omega) _⟩
  case rest =>
    obtain ⟨Pb63, r63, m63, d63, lo63, hi63, rfl, rfl, Wa_63, Wb_63, ow63, pl63, ph63, pm63, pn63, pd63, hb63⟩ := hcut
    obtain ⟨w63, rfl⟩ : ∃ x, x = wc := ⟨_, rfl⟩
    obtain rfl : na = m63 := HNA.out.symm.trans ow63.len
    have p0a_63 := cell_later hb63 p0a_2
    have p0b_63 := cell_later hb63 p0b_2
    have p1a_63 := cell_later hb63 p1a_2
    have p1b_63 := cell_later hb63 p1b_2
    have B_63 := B_2.trans (hb63.mono B_2.size)
    have zz63 : w2.heap.size ≤ w63.heap.size := by have q := hb63.size; first | exact q | simpa using q
    clear p0a_2 p0b_2 p1a_2 p1b_2 B_2
    clear hb63
    go_wp2_with fail
    refine (toTableG _ _ _ z0 p0x _ hs0 (ha0.below B_63)).mono ?_
    rintro e w64 ⟨g64, rfl, ho64, hb64⟩
    have p0a_64 := cell_later hb64 p0a_63
    have p0b_64 := cell_later hb64 p0b_63
    have p1a_64 := cell_later hb64 p1a_63
    have p1b_64 := cell_later hb64 p1b_63
    have Wa_64 := cell_later hb64 Wa_63
    have Wb_64 := cell_later hb64 Wb_63
    have o_64 := ow63.below hb64
    have B_64 := B_63.trans (hb64.mono B_63.size)
    have zz64 : w63.heap.size ≤ w64.heap.size := by have q := hb64.size; first | exact q | simpa using q
    clear p0a_63 p0b_63 p1a_63 p1b_63 Wa_63 Wb_63 ow63 B_63
    clear hb64
    have ox64 : OwnT w64 (w63.heap.size) w64.heap.size (some ⟨g64, 0, none⟩) n0 n0 z0 := by first | exact ho64 | simpa using ho64
    clear ho64
    have hb65 : Below w64.heap.size w64 (w64.alloc (.cells #[.int .i64 p0x, .slice (some ⟨g64, 0, none⟩) n0 n0] 28)) := (Below.refl _ _).alloc (Nat.le_refl _) _
    have p0a_65 := cell_later hb65 p0a_64
    have p0b_65 := cell_later hb65 p0b_64
    have p1a_65 := cell_later hb65 p1a_64
    have p1b_65 := cell_later hb65 p1b_64
    have Wa_65 := cell_later hb65 Wa_64
    have Wb_65 := cell_later hb65 Wb_64
    have o_65 := o_64.below hb65
    have x0_65 := ox64.below hb65
    have B_65 := B_64.trans (hb65.mono B_64.size)
    have zz65 : w64.heap.size ≤ w64.heap.size + 1 := by simp
    clear p0a_64 p0b_64 p1a_64 p1b_64 Wa_64 Wb_64 o_64 ox64 B_64
    have X0a_65 : (w64.alloc (.cells #[.int .i64 p0x, .slice (some ⟨g64, 0, none⟩) n0 n0] 28)).cell? ⟨w64.heap.size, 0, none⟩ = some (.int .i64 p0x) := by simp
    have X0b_65 : (w64.alloc (.cells #[.int .i64 p0x, .slice (some ⟨g64, 0, none⟩) n0 n0] 28)).cell? ⟨w64.heap.size, 1, none⟩ = some (.slice (some ⟨g64, 0, none⟩) n0 n0) := by simp
    clear hb65
    go_wp2_with fail
    refine (toTableG _ _ _ z1 p1x _ hs1 (ha1.below B_65)).mono ?_
    rintro e w66 ⟨g66, rfl, ho66, hb66⟩
    have p0a_66 := cell_later hb66 p0a_65
    have p0b_66 := cell_later hb66 p0b_65
    have p1a_66 := cell_later hb66 p1a_65
    have p1b_66 := cell_later hb66 p1b_65
    have Wa_66 := cell_later hb66 Wa_65
    have Wb_66 := cell_later hb66 Wb_65
    have X0a_66 := cell_later hb66 X0a_65
    have X0b_66 := cell_later hb66 X0b_65
    have o_66 := o_65.below hb66
    have x0_66 := x0_65.below hb66
    have B_66 := B_65.trans (hb66.mono B_65.size)
    have zz66 : w64.heap.size + 1 ≤ w66.heap.size := by have q := hb66.size; first | exact q | simpa using q
    clear p0a_65 p0b_65 p1a_65 p1b_65 Wa_65 Wb_65 X0a_65 X0b_65 o_65 x0_65 B_65
    clear hb66
    have ox66 : OwnT w66 (w64.heap.size + 1) w66.heap.size (some ⟨g66, 0, none⟩) n1 n1 z1 := by first | exact ho66 | simpa using ho66
    clear ho66
    have hb67 : Below w66.heap.size w66 (w66.alloc (.cells #[.int .i64 p1x, .slice (some ⟨g66, 0, none⟩) n1 n1] 28)) := (Below.refl _ _).alloc (Nat.le_refl _) _
    have p0a_67 := cell_later hb67 p0a_66
    have p0b_67 := cell_later hb67 p0b_66
    have p1a_67 := cell_later hb67 p1a_66
    have p1b_67 := cell_later hb67 p1b_66
    have Wa_67 := cell_later hb67 Wa_66
    have Wb_67 := cell_later hb67 Wb_66
    have X0a_67 := cell_later hb67 X0a_66
    have X0b_67 := cell_later hb67 X0b_66
    have o_67 := o_66.below hb67
    have x0_67 := x0_66.below hb67
    have x1_67 := ox66.below hb67
    have B_67 := B_66.trans (hb67.mono B_66.size)
    have zz67 : w66.heap.size ≤ w66.heap.size + 1 := by simp
    clear p0a_66 p0b_66 p1a_66 p1b_66 Wa_66 Wb_66 X0a_66 X0b_66 o_66 x0_66 ox66 B_66
    have X1a_67 : (w66.alloc (.cells #[.int .i64 p1x, .slice (some ⟨g66, 0, none⟩) n1 n1] 28)).cell? ⟨w66.heap.size, 0, none⟩ = some (.int .i64 p1x) := by simp
    have X1b_67 : (w66.alloc (.cells #[.int .i64 p1x, .slice (some ⟨g66, 0, none⟩) n1 n1] 28)).cell? ⟨w66.heap.size, 1, none⟩ = some (.slice (some ⟨g66, 0, none⟩) n1 n1) := by simp
    clear hb67
    go_wp2_with fail
    refine (HI.out _ _ _ _ _ _ _ _ _ x0_67 x1_67).mono ?_
    rintro e w68 ⟨⟨r68, m68, d68, cs68, rfl, ho68⟩, hb68⟩
    have p0a_68 := cell_later hb68 p0a_67
    have p0b_68 := cell_later hb68 p0b_67
    have p1a_68 := cell_later hb68 p1a_67
    have p1b_68 := cell_later hb68 p1b_67
    have Wa_68 := cell_later hb68 Wa_67
    have Wb_68 := cell_later hb68 Wb_67
    have X0a_68 := cell_later hb68 X0a_67
    have X0b_68 := cell_later hb68 X0b_67
    have X1a_68 := cell_later hb68 X1a_67
    have X1b_68 := cell_later hb68 X1b_67
    have o_68 := o_67.below hb68
    have x0_68 := x0_67.below hb68
    have x1_68 := x1_67.below hb68
    have B_68 := B_67.trans (hb68.mono B_67.size)
    have zz68 : w66.heap.size + 1 ≤ w68.heap.size := by have q := hb68.size; first | exact q | simpa using q
    clear p0a_67 p0b_67 p1a_67 p1b_67 Wa_67 Wb_67 X0a_67 X0b_67 X1a_67 X1b_67 o_67 x0_67 x1_67 B_67
    clear hb68
    have ow68 : OwnT w68 (w66.heap.size + 1) w68.heap.size r68 m68 d68 ta := ⟨cs68, by first | exact ho68 | simpa using ho68⟩
    obtain rfl : na = m68 := HNA.out.symm.trans ow68.len
    clear ho68
    have hb69 : Below w68.heap.size w68 (w68.alloc (.cells #[.int .i64 pa, .slice r68 na d68] 28)) := (Below.refl _ _).alloc (Nat.le_refl _) _
    have p0a_69 := cell_later hb69 p0a_68
    have p0b_69 := cell_later hb69 p0b_68
    have p1a_69 := cell_later hb69 p1a_68
    have p1b_69 := cell_later hb69 p1b_68
    have Wa_69 := cell_later hb69 Wa_68
    have Wb_69 := cell_later hb69 Wb_68
    have X0a_69 := cell_later hb69 X0a_68
    have X0b_69 := cell_later hb69 X0b_68
    have X1a_69 := cell_later hb69 X1a_68
    have X1b_69 := cell_later hb69 X1b_68
    have o_69 := o_68.below hb69
    have x0_69 := x0_68.below hb69
    have x1_69 := x1_68.below hb69
    have g_69 := ow68.below hb69
    have B_69 := B_68.trans (hb69.mono B_68.size)
    have zz69 : w68.heap.size ≤ w68.heap.size + 1 := by simp
    clear p0a_68 p0b_68 p1a_68 p1b_68 Wa_68 Wb_68 X0a_68 X0b_68 X1a_68 X1b_68 o_68 x0_68 x1_68 ow68 B_68
    have Ga_69 : (w68.alloc (.cells #[.int .i64 pa, .slice r68 na d68] 28)).cell? ⟨w68.heap.size, 0, none⟩ = some (.int .i64 pa) := by simp
    have Gb_69 : (w68.alloc (.cells #[.int .i64 pa, .slice r68 na d68] 28)).cell? ⟨w68.heap.size, 1, none⟩ = some (.slice r68 na d68) := by simp
    clear hb69
    go_wp2_with fail
    refine (eqTableG _ _ _ _ _ ta pa _ hsA (g_69.atW hsA) (o_69.atW hsA)).mono ?_
    rintro e w70 ⟨rfl, hb70⟩
    have p0a_70 := cell_later hb70 p0a_69
    have p0b_70 := cell_later hb70 p0b_69
    have p1a_70 := cell_later hb70 p1a_69
    have p1b_70 := cell_later hb70 p1b_69
    have Wa_70 := cell_later hb70 Wa_69
    have Wb_70 := cell_later hb70 Wb_69
    have X0a_70 := cell_later hb70 X0a_69
    have X0b_70 := cell_later hb70 X0b_69
    have X1a_70 := cell_later hb70 X1a_69
    have X1b_70 := cell_later hb70 X1b_69
    have Ga_70 := cell_later hb70 Ga_69
    have Gb_70 := cell_later hb70 Gb_69
    have o_70 := o_69.below hb70
    have x0_70 := x0_69.below hb70
    have x1_70 := x1_69.below hb70
    have g_70 := g_69.below hb70
    have B_70 := B_69.trans (hb70.mono B_69.size)
    have zz70 : w68.heap.size + 1 ≤ w70.heap.size := by have q := hb70.size; first | exact q | simpa using q
    clear p0a_69 p0b_69 p1a_69 p1b_69 Wa_69 Wb_69 X0a_69 X0b_69 X1a_69 X1b_69 Ga_69 Gb_69 o_69 x0_69 x1_69 g_69 B_69
    clear hb70
    go_wp2_with fail
    refine wp_region_held_drew (S := fun w' => w'.cell? ⟨w64.heap.size, 0, none⟩ = some (.int .i64 p0x) ∧ w'.cell? ⟨w64.heap.size, 1, none⟩ = some (.slice (some ⟨g64, 0, none⟩) n0 n0) ∧ w'.cell? ⟨w.heap.size, 0, none⟩ = some (.int .i64 p0x) ∧ w'.cell? ⟨w.heap.size, 1, none⟩ = some (.slice a0 n0 c0)) (by kernel_rfl) ?_ (fun hHeld => ?_)
    · (try dsimp only)
      exact ⟨X0a_70, X0b_70, p0a_70, p0b_70⟩
    refine wpAnyH_take (i := 0) (oi := ?_) (v := ?_) ?_ (by kernel_rfl) (by kernel_rfl) (by kernel_rfl) ?_ (Or.inl ⟨?_, ?_⟩) (by assumption) ?_
    rotate_left 2
    · (simp only [List.getElem?_toArray, List.getElem?_cons_zero]; rfl)
    · exact fun _ _ _ h => h
    · rfl
    · (intro wS hSw; (try dsimp only at hSw); go_simp; (try with_reducible rfl))
    (try simp only [Act.put, List.setIfInBounds_toArray, List.set_cons_zero, List.set_cons_succ])
    refine wpAnyH_take (i := 1) (oi := ?_) (v := ?_) ?_ (by kernel_rfl) (by kernel_rfl) (by kernel_rfl) ?_ (Or.inl ⟨?_, ?_⟩) (by assumption) ?_
    rotate_left 2
    · (simp only [List.getElem?_toArray, List.getElem?_cons_zero, List.getElem?_cons_succ]; rfl)
    · exact fun _ _ _ h => h
    · rfl
    · (intro wS hSw; (try dsimp only at hSw); go_simp; (try with_reducible rfl))
    (try simp only [Act.put, List.setIfInBounds_toArray, List.set_cons_zero, List.set_cons_succ])
    refine wpAnyH_ready (rs := [2]) (by kernel_rfl) (by simp) ?_
    refine AllReadyH.cons (o := ?_) ?_ (fun K hK => ?_) AllReadyH.nil
    rotate_left
    · (simp only [List.getElem?_toArray, List.getElem?_cons_zero, List.getElem?_cons_succ]; rfl)
    go_simp
    go_at_call 7
    refine (toTableG _ _ _ z0 p0x _ hs0 (ha0.below B_70.drew)).mono ?_
    rintro e w71 ⟨g71, rfl, ho71, hd71⟩
    have hb71 : Below w70.heap.size w70 w71 := (Below.refl _ _).drew.trans hd71
    have p0a_71 := cell_later hb71 p0a_70
    have p0b_71 := cell_later hb71 p0b_70
    have p1a_71 := cell_later hb71 p1a_70
    have p1b_71 := cell_later hb71 p1b_70
    have Wa_71 := cell_later hb71 Wa_70
    have Wb_71 := cell_later hb71 Wb_70
    have X0a_71 := cell_later hb71 X0a_70
    have X0b_71 := cell_later hb71 X0b_70
    have X1a_71 := cell_later hb71 X1a_70
    have X1b_71 := cell_later hb71 X1b_70
    have Ga_71 := cell_later hb71 Ga_70
    have Gb_71 := cell_later hb71 Gb_70
    have o_71 := o_70.below hb71
    have x0_71 := x0_70.below hb71
    have x1_71 := x1_70.below hb71
    have g_71 := g_70.below hb71
    have B_71 := B_70.trans (hb71.mono B_70.size)
    have zz71 : w70.heap.size ≤ w71.heap.size := by have q := hb71.size; first | exact q | simpa using q
    clear p0a_70 p0b_70 p1a_70 p1b_70 Wa_70 Wb_70 X0a_70 X0b_70 X1a_70 X1b_70 Ga_70 Gb_70 o_70 x0_70 x1_70 g_70 B_70
    (try go_wp2_with fail)
    refine hK.out _ _ ?_ (fun hHeld' => ?_)
    · (try dsimp only)
      exact ⟨X0a_71, X0b_71, p0a_71, p0b_71⟩
    clear hK K hHeld
    have hHeld := hHeld'
    clear hHeld'
    (try simp only [Act.put, List.setIfInBounds_toArray, List.set_cons_zero, List.set_cons_succ])
    clear hb71 hd71
    refine wpAnyH_ready (rs := [3]) (by kernel_rfl) (by simp) ?_
    refine AllReadyH.cons (o := ?_) ?_ (fun K hK => ?_) AllReadyH.nil
    rotate_left
    · (simp only [List.getElem?_toArray, List.getElem?_cons_zero, List.getElem?_cons_succ]; rfl)
    go_simp
    go_at_call 9
    refine (eqTableG _ _ _ _ _ z0 p0x _ hs0 (x0_71.atW hs0) (ho71.atW hs0)).mono ?_
    rintro e w72 ⟨rfl, hb72⟩
    clear ho71
    have p0a_72 := cell_later hb72 p0a_71
    have p0b_72 := cell_later hb72 p0b_71
    have p1a_72 := cell_later hb72 p1a_71
    have p1b_72 := cell_later hb72 p1b_71
    have Wa_72 := cell_later hb72 Wa_71
    have Wb_72 := cell_later hb72 Wb_71
    have X0a_72 := cell_later hb72 X0a_71
    have X0b_72 := cell_later hb72 X0b_71
    have X1a_72 := cell_later hb72 X1a_71
    have X1b_72 := cell_later hb72 X1b_71
    have Ga_72 := cell_later hb72 Ga_71
    have Gb_72 := cell_later hb72 Gb_71
    have o_72 := o_71.below hb72
    have x0_72 := x0_71.below hb72
    have x1_72 := x1_71.below hb72
    have g_72 := g_71.below hb72
    have B_72 := B_71.trans (hb72.mono B_71.size)
    have zz72 : w71.heap.size ≤ w72.heap.size := by have q := hb72.size; first | exact q | simpa using q
    clear p0a_71 p0b_71 p1a_71 p1b_71 Wa_71 Wb_71 X0a_71 X0b_71 X1a_71 X1b_71 Ga_71 Gb_71 o_71 x0_71 x1_71 g_71 B_71
    (try go_wp2_with fail)
    refine hK.out _ _ ?_ (fun hHeld' => ?_)
    · (try dsimp only)
      exact ⟨X0a_72, X0b_72, p0a_72, p0b_72⟩
    clear hK K hHeld
    have hHeld := hHeld'
    clear hHeld'
    (try simp only [Act.put, List.setIfInBounds_toArray, List.set_cons_zero, List.set_cons_succ])
    refine wpAnyH_take (i := 4) (oi := ?_) (v := ?_) ?_ (by kernel_rfl) (by kernel_rfl) (by kernel_rfl) ?_ (Or.inl ⟨?_, ?_⟩) (by assumption) ?_
    rotate_left 2
    · (simp only [List.getElem?_toArray, List.getElem?_cons_zero, List.getElem?_cons_succ]; rfl)
    · exact fun _ _ _ h => h
    · rfl
    · (intro wS hSw; (try dsimp only at hSw); go_simp; (try with_reducible rfl))
    (try simp only [Act.put, List.setIfInBounds_toArray, List.set_cons_zero, List.set_cons_succ])
    refine wpAnyH_done (by kernel_rfl) ?_ _
    clear hb72 hHeld
    go_wp2_with fail
    refine wp_region_held_drew (S := fun w' => w'.cell? ⟨w66.heap.size, 0, none⟩ = some (.int .i64 p1x) ∧ w'.cell? ⟨w66.heap.size, 1, none⟩ = some (.slice (some ⟨g66, 0, none⟩) n1 n1) ∧ w'.cell? ⟨w.heap.size + 1, 0, none⟩ = some (.int .i64 p1x) ∧ w'.cell? ⟨w.heap.size + 1, 1, none⟩ = some (.slice a1 n1 c1)) (by kernel_rfl) ?_ (fun hHeld => ?_)
    · (try dsimp only)
      exact ⟨X1a_72, X1b_72, p1a_72, p1b_72⟩
    refine wpAnyH_take (i := 0) (oi := ?_) (v := ?_) ?_ (by kernel_rfl) (by kernel_rfl) (by kernel_rfl) ?_ (Or.inl ⟨?_, ?_⟩) (by assumption) ?_
    rotate_left 2
    · (simp only [List.getElem?_toArray, List.getElem?_cons_zero]; rfl)
    · exact fun _ _ _ h => h
    · rfl
    · (intro wS hSw; (try dsimp only at hSw); go_simp; (try with_reducible rfl))
    (try simp only [Act.put, List.setIfInBounds_toArray, List.set_cons_zero, List.set_cons_succ])
    refine wpAnyH_take (i := 1) (oi := ?_) (v := ?_) ?_ (by kernel_rfl) (by kernel_rfl) (by kernel_rfl) ?_ (Or.inl ⟨?_, ?_⟩) (by assumption) ?_
    rotate_left 2
    · (simp only [List.getElem?_toArray, List.getElem?_cons_zero, List.getElem?_cons_succ]; rfl)
    · exact fun _ _ _ h => h
    · rfl
    · (intro wS hSw; (try dsimp only at hSw); go_simp; (try with_reducible rfl))
    (try simp only [Act.put, List.setIfInBounds_toArray, List.set_cons_zero, List.set_cons_succ])
    refine wpAnyH_ready (rs := [2]) (by kernel_rfl) (by simp) ?_
    refine AllReadyH.cons (o := ?_) ?_ (fun K hK => ?_) AllReadyH.nil
    rotate_left
    · (simp only [List.getElem?_toArray, List.getElem?_cons_zero, List.getElem?_cons_succ]; rfl)
    go_simp
    go_at_call 7
    refine (toTableG _ _ _ z1 p1x _ hs1 (ha1.below B_72.drew)).mono ?_
    rintro e w73 ⟨g73, rfl, ho73, hd73⟩
    have hb73 : Below w72.heap.size w72 w73 := (Below.refl _ _).drew.trans hd73
    have p0a_73 := cell_later hb73 p0a_72
    have p0b_73 := cell_later hb73 p0b_72
    have p1a_73 := cell_later hb73 p1a_72
    have p1b_73 := cell_later hb73 p1b_72
    have Wa_73 := cell_later hb73 Wa_72
    have Wb_73 := cell_later hb73 Wb_72
    have X0a_73 := cell_later hb73 X0a_72
    have X0b_73 := cell_later hb73 X0b_72
    have X1a_73 := cell_later hb73 X1a_72
    have X1b_73 := cell_later hb73 X1b_72
    have Ga_73 := cell_later hb73 Ga_72
    have Gb_73 := cell_later hb73 Gb_72
    have o_73 := o_72.below hb73
    have x0_73 := x0_72.below hb73
    have x1_73 := x1_72.below hb73
    have g_73 := g_72.below hb73
    have B_73 := B_72.trans (hb73.mono B_72.size)
    have zz73 : w72.heap.size ≤ w73.heap.size := by have q := hb73.size; first | exact q | simpa using q
    clear p0a_72 p0b_72 p1a_72 p1b_72 Wa_72 Wb_72 X0a_72 X0b_72 X1a_72 X1b_72 Ga_72 Gb_72 o_72 x0_72 x1_72 g_72 B_72
    (try go_wp2_with fail)
    refine hK.out _ _ ?_ (fun hHeld' => ?_)
    · (try dsimp only)
      exact ⟨X1a_73, X1b_73, p1a_73, p1b_73⟩
    clear hK K hHeld
    have hHeld := hHeld'
    clear hHeld'
    (try simp only [Act.put, List.setIfInBounds_toArray, List.set_cons_zero, List.set_cons_succ])
    clear hb73 hd73
    refine wpAnyH_ready (rs := [3]) (by kernel_rfl) (by simp) ?_
    refine AllReadyH.cons (o := ?_) ?_ (fun K hK => ?_) AllReadyH.nil
    rotate_left
    · (simp only [List.getElem?_toArray, List.getElem?_cons_zero, List.getElem?_cons_succ]; rfl)
    go_simp
    go_at_call 9
    refine (eqTableG _ _ _ _ _ z1 p1x _ hs1 (x1_73.atW hs1) (ho73.atW hs1)).mono ?_
    rintro e w74 ⟨rfl, hb74⟩
    clear ho73
    have p0a_74 := cell_later hb74 p0a_73
    have p0b_74 := cell_later hb74 p0b_73
    have p1a_74 := cell_later hb74 p1a_73
    have p1b_74 := cell_later hb74 p1b_73
    have Wa_74 := cell_later hb74 Wa_73
    have Wb_74 := cell_later hb74 Wb_73
    have X0a_74 := cell_later hb74 X0a_73
    have X0b_74 := cell_later hb74 X0b_73
    have X1a_74 := cell_later hb74 X1a_73
    have X1b_74 := cell_later hb74 X1b_73
    have Ga_74 := cell_later hb74 Ga_73
    have Gb_74 := cell_later hb74 Gb_73
    have o_74 := o_73.below hb74
    have x0_74 := x0_73.below hb74
    have x1_74 := x1_73.below hb74
    have g_74 := g_73.below hb74
    have B_74 := B_73.trans (hb74.mono B_73.size)
    have zz74 : w73.heap.size ≤ w74.heap.size := by have q := hb74.size; first | exact q | simpa using q
    clear p0a_73 p0b_73 p1a_73 p1b_73 Wa_73 Wb_73 X0a_73 X0b_73 X1a_73 X1b_73 Ga_73 Gb_73 o_73 x0_73 x1_73 g_73 B_73
    (try go_wp2_with fail)
    refine hK.out _ _ ?_ (fun hHeld' => ?_)
    · (try dsimp only)
      exact ⟨X1a_74, X1b_74, p1a_74, p1b_74⟩
    clear hK K hHeld
    have hHeld := hHeld'
    clear hHeld'
    (try simp only [Act.put, List.setIfInBounds_toArray, List.set_cons_zero, List.set_cons_succ])
    refine wpAnyH_take (i := 4) (oi := ?_) (v := ?_) ?_ (by kernel_rfl) (by kernel_rfl) (by kernel_rfl) ?_ (Or.inl ⟨?_, ?_⟩) (by assumption) ?_
    rotate_left 2
    · (simp only [List.getElem?_toArray, List.getElem?_cons_zero, List.getElem?_cons_succ]; rfl)
    · exact fun _ _ _ h => h
    · rfl
    · (intro wS hSw; (try dsimp only at hSw); go_simp; (try with_reducible rfl))
    (try simp only [Act.put, List.setIfInBounds_toArray, List.set_cons_zero, List.set_cons_succ])
    refine wpAnyH_done (by kernel_rfl) ?_ _
    clear hb74 hHeld
    go_wp2_with fail
    refine (markTableG _ _ _ _ _ z0 p0x _ _ hs0 (by omega) (by omega) x0_74).mono ?_
    rintro e w75 ⟨rfl, ho75, ha75⟩
    have p0a_75 := ha75.cell p0a_74 (show w.heap.size < w63.heap.size ∨ w64.heap.size ≤ w.heap.size by omega)
    have p0b_75 := ha75.cell p0b_74 (show w.heap.size < w63.heap.size ∨ w64.heap.size ≤ w.heap.size by omega)
    have p1a_75 := ha75.cell p1a_74 (show w.heap.size + 1 < w63.heap.size ∨ w64.heap.size ≤ w.heap.size + 1 by omega)
    have p1b_75 := ha75.cell p1b_74 (show w.heap.size + 1 < w63.heap.size ∨ w64.heap.size ≤ w.heap.size + 1 by omega)
    have Wa_75 := ha75.cell Wa_74 (show Pb63 < w63.heap.size ∨ w64.heap.size ≤ Pb63 by omega)
    have Wb_75 := ha75.cell Wb_74 (show Pb63 < w63.heap.size ∨ w64.heap.size ≤ Pb63 by omega)
    have X0a_75 := ha75.cell X0a_74 (show w64.heap.size < w63.heap.size ∨ w64.heap.size ≤ w64.heap.size by omega)
    have X0b_75 := ha75.cell X0b_74 (show w64.heap.size < w63.heap.size ∨ w64.heap.size ≤ w64.heap.size by omega)
    have X1a_75 := ha75.cell X1a_74 (show w66.heap.size < w63.heap.size ∨ w64.heap.size ≤ w66.heap.size by omega)
    have X1b_75 := ha75.cell X1b_74 (show w66.heap.size < w63.heap.size ∨ w64.heap.size ≤ w66.heap.size by omega)
    have Ga_75 := ha75.cell Ga_74 (show w68.heap.size < w63.heap.size ∨ w64.heap.size ≤ w68.heap.size by omega)
    have Gb_75 := ha75.cell Gb_74 (show w68.heap.size < w63.heap.size ∨ w64.heap.size ≤ w68.heap.size by omega)
    have o_75 := o_74.apartW ha75 (by omega)
    have x1_75 := x1_74.apartW ha75 (by omega)
    have g_75 := g_74.apartW ha75 (by omega)
    have B_75 := B_74.trans (ha75.below B_74.size (by omega))
    have zz75 : w74.heap.size ≤ w75.heap.size := by have q := ha75.size; first | exact q | simpa using q
    clear ha75 p0a_74 p0b_74 p1a_74 p1b_74 Wa_74 Wb_74 X0a_74 X0b_74 X1a_74 X1b_74 Ga_74 Gb_74 o_74 x0_74 x1_74 g_74 B_74
    go_wp2_with fail
    refine (markTableG _ _ _ _ _ z1 p1x _ _ hs1 (by omega) (by omega) x1_75).mono ?_
    rintro e w76 ⟨rfl, ho76, ha76⟩
    have p0a_76 := ha76.cell p0a_75 (show w.heap.size < w64.heap.size + 1 ∨ w66.heap.size ≤ w.heap.size by omega)
    have p0b_76 := ha76.cell p0b_75 (show w.heap.size < w64.heap.size + 1 ∨ w66.heap.size ≤ w.heap.size by omega)
    have p1a_76 := ha76.cell p1a_75 (show w.heap.size + 1 < w64.heap.size + 1 ∨ w66.heap.size ≤ w.heap.size + 1 by omega)
    have p1b_76 := ha76.cell p1b_75 (show w.heap.size + 1 < w64.heap.size + 1 ∨ w66.heap.size ≤ w.heap.size + 1 by omega)
    have Wa_76 := ha76.cell Wa_75 (show Pb63 < w64.heap.size + 1 ∨ w66.heap.size ≤ Pb63 by omega)
    have Wb_76 := ha76.cell Wb_75 (show Pb63 < w64.heap.size + 1 ∨ w66.heap.size ≤ Pb63 by omega)
    have X0a_76 := ha76.cell X0a_75 (show w64.heap.size < w64.heap.size + 1 ∨ w66.heap.size ≤ w64.heap.size by omega)
    have X0b_76 := ha76.cell X0b_75 (show w64.heap.size < w64.heap.size + 1 ∨ w66.heap.size ≤ w64.heap.size by omega)
    have X1a_76 := ha76.cell X1a_75 (show w66.heap.size < w64.heap.size + 1 ∨ w66.heap.size ≤ w66.heap.size by omega)
    have X1b_76 := ha76.cell X1b_75 (show w66.heap.size < w64.heap.size + 1 ∨ w66.heap.size ≤ w66.heap.size by omega)
    have Ga_76 := ha76.cell Ga_75 (show w68.heap.size < w64.heap.size + 1 ∨ w66.heap.size ≤ w68.heap.size by omega)
    have Gb_76 := ha76.cell Gb_75 (show w68.heap.size < w64.heap.size + 1 ∨ w66.heap.size ≤ w68.heap.size by omega)
    have o_76 := o_75.apartW ha76 (by omega)
    have x0_76 := ho75.apartW ha76 (by omega)
    have g_76 := g_75.apartW ha76 (by omega)
    have B_76 := B_75.trans (ha76.below B_75.size (by omega))
    have zz76 : w75.heap.size ≤ w76.heap.size := by have q := ha76.size; first | exact q | simpa using q
    clear ha76 p0a_75 p0b_75 p1a_75 p1b_75 Wa_75 Wb_75 X0a_75 X0b_75 X1a_75 X1b_75 Ga_75 Gb_75 o_75 ho75 x1_75 g_75 B_75
    have kpos : ¬ (1 : Int) + (wtot z0 n0 : Nat) + (wtot z1 n1 : Nat) < 0 := by omega
    go_wp2_with fail
    refine (eqTableG _ _ _ _ _ ta pa _ hsA (g_76.atW hsA) (o_76.atW hsA)).mono ?_
    rintro e w77 ⟨rfl, hb77⟩
    have p0a_77 := cell_later hb77 p0a_76
    have p0b_77 := cell_later hb77 p0b_76
    have p1a_77 := cell_later hb77 p1a_76
    have p1b_77 := cell_later hb77 p1b_76
    have Wa_77 := cell_later hb77 Wa_76
    have Wb_77 := cell_later hb77 Wb_76
    have X0a_77 := cell_later hb77 X0a_76
    have X0b_77 := cell_later hb77 X0b_76
    have X1a_77 := cell_later hb77 X1a_76
    have X1b_77 := cell_later hb77 X1b_76
    have Ga_77 := cell_later hb77 Ga_76
    have Gb_77 := cell_later hb77 Gb_76
    have o_77 := o_76.below hb77
    have x0_77 := x0_76.below hb77
    have x1_77 := ho76.below hb77
    have g_77 := g_76.below hb77
    have B_77 := B_76.trans (hb77.mono B_76.size)
    have zz77 : w76.heap.size ≤ w77.heap.size := by have q := hb77.size; first | exact q | simpa using q
    clear p0a_76 p0b_76 p1a_76 p1b_76 Wa_76 Wb_76 X0a_76 X0b_76 X1a_76 X1b_76 Ga_76 Gb_76 o_76 x0_76 ho76 g_76 B_76
    clear hb77
    clear x0_77
    clear x1_77
    go_wp2_with fail
    refine (markTableG _ _ _ _ _ ta pa _ _ hsA (by omega) (by omega) g_77).mono ?_
    rintro e w78 ⟨rfl, ho78, ha78⟩
    have p0a_78 := ha78.cell p0a_77 (show w.heap.size < w66.heap.size + 1 ∨ w68.heap.size ≤ w.heap.size by omega)
    have p0b_78 := ha78.cell p0b_77 (show w.heap.size < w66.heap.size + 1 ∨ w68.heap.size ≤ w.heap.size by omega)
    have p1a_78 := ha78.cell p1a_77 (show w.heap.size + 1 < w66.heap.size + 1 ∨ w68.heap.size ≤ w.heap.size + 1 by omega)
    have p1b_78 := ha78.cell p1b_77 (show w.heap.size + 1 < w66.heap.size + 1 ∨ w68.heap.size ≤ w.heap.size + 1 by omega)
    have Wa_78 := ha78.cell Wa_77 (show Pb63 < w66.heap.size + 1 ∨ w68.heap.size ≤ Pb63 by omega)
    have Wb_78 := ha78.cell Wb_77 (show Pb63 < w66.heap.size + 1 ∨ w68.heap.size ≤ Pb63 by omega)
    have X0a_78 := ha78.cell X0a_77 (show w64.heap.size < w66.heap.size + 1 ∨ w68.heap.size ≤ w64.heap.size by omega)
    have X0b_78 := ha78.cell X0b_77 (show w64.heap.size < w66.heap.size + 1 ∨ w68.heap.size ≤ w64.heap.size by omega)
    have X1a_78 := ha78.cell X1a_77 (show w66.heap.size < w66.heap.size + 1 ∨ w68.heap.size ≤ w66.heap.size by omega)
    have X1b_78 := ha78.cell X1b_77 (show w66.heap.size < w66.heap.size + 1 ∨ w68.heap.size ≤ w66.heap.size by omega)
    have Ga_78 := ha78.cell Ga_77 (show w68.heap.size < w66.heap.size + 1 ∨ w68.heap.size ≤ w68.heap.size by omega)
    have Gb_78 := ha78.cell Gb_77 (show w68.heap.size < w66.heap.size + 1 ∨ w68.heap.size ≤ w68.heap.size by omega)
    have o_78 := o_77.apartW ha78 (by omega)
    have B_78 := B_77.trans (ha78.below B_77.size (by omega))
    have zz78 : w77.heap.size ≤ w78.heap.size := by have q := ha78.size; first | exact q | simpa using q
    clear ha78 p0a_77 p0b_77 p1a_77 p1b_77 Wa_77 Wb_77 X0a_77 X0b_77 X1a_77 X1b_77 Ga_77 Gb_77 o_77 g_77 B_77
    have gpos : ¬ (1 : Int) + (wtot ta na : Nat) < 0 := by omega
    go_wp2_with fail
    refine (heldTableG _ _ _ ta pa _ _ hsA (by omega) (by omega) (ho78.atMark hsA)).mono ?_
    rintro e w79 ⟨rfl, hb79⟩
    have p0a_79 := cell_later hb79 p0a_78
    have p0b_79 := cell_later hb79 p0b_78
    have p1a_79 := cell_later hb79 p1a_78
    have p1b_79 := cell_later hb79 p1b_78
    have Wa_79 := cell_later hb79 Wa_78
    have Wb_79 := cell_later hb79 Wb_78
    have X0a_79 := cell_later hb79 X0a_78
    have X0b_79 := cell_later hb79 X0b_78
    have X1a_79 := cell_later hb79 X1a_78
    have X1b_79 := cell_later hb79 X1b_78
    have Ga_79 := cell_later hb79 Ga_78
    have Gb_79 := cell_later hb79 Gb_78
    have o_79 := o_78.below hb79
    have g_79 := ho78.below hb79
    have B_79 := B_78.trans (hb79.mono B_78.size)
    have zz79 : w78.heap.size ≤ w79.heap.size := by have q := hb79.size; first | exact q | simpa using q
    clear p0a_78 p0b_78 p1a_78 p1b_78 Wa_78 Wb_78 X0a_78 X0b_78 X1a_78 X1b_78 Ga_78 Gb_78 o_78 ho78 B_78
    clear hb79
    go_upto_region 31 with fail
    go_cut [15, 16] (fun ta' tb wx => ∃ (Pb : Nat) (r : Option Addr) (m d lo hi : Nat), ta' = .pointer (some ⟨Pb, 0, none⟩) ∧ tb = .bool ok ∧ wx.cell? ⟨Pb, 0, none⟩ = some (.int .i64 pa) ∧ wx.cell? ⟨Pb, 1, none⟩ = some (.slice r m d) ∧ OwnT wx lo hi r m d ta ∧ w79.heap.size ≤ lo ∧ hi ≤ wx.heap.size ∧ w79.heap.size ≤ Pb ∧ Pb < wx.heap.size ∧ (Pb < lo ∨ hi ≤ Pb) ∧ Below w79.heap.size w79 wx)
    case first =>
      refine wp_region_held_drew (S := fun w' => w'.cell? ⟨w.heap.size, 0, none⟩ = some (.int .i64 p0x) ∧ w'.cell? ⟨w.heap.size, 1, none⟩ = some (.slice a0 n0 c0) ∧ w'.cell? ⟨w.heap.size + 1, 0, none⟩ = some (.int .i64 p1x) ∧ w'.cell? ⟨w.heap.size + 1, 1, none⟩ = some (.slice a1 n1 c1)) (by kernel_rfl) ?_ (fun hHeld => ?_)
      · (try dsimp only)
        exact ⟨p0a_79, p0b_79, p1a_79, p1b_79⟩
      refine wpAnyH_take (i := 0) (oi := ?_) (v := ?_) ?_ (by kernel_rfl) (by kernel_rfl) (by kernel_rfl) ?_ (Or.inl ⟨?_, ?_⟩) (by assumption) ?_
      rotate_left 2
      · (simp only [List.getElem?_toArray, List.getElem?_cons_zero]; rfl)
      · exact fun _ _ _ h => h
      · rfl
      · (intro wS hSw; (try dsimp only at hSw); go_simp; (try with_reducible rfl))
      (try simp only [Act.put, List.setIfInBounds_toArray, List.set_cons_zero, List.set_cons_succ])
      refine wpAnyH_take (i := 2) (oi := ?_) (v := ?_) ?_ (by kernel_rfl) (by kernel_rfl) (by kernel_rfl) ?_ (Or.inl ⟨?_, ?_⟩) (by assumption) ?_
      rotate_left 2
      · (simp only [List.getElem?_toArray, List.getElem?_cons_zero, List.getElem?_cons_succ]; rfl)
      · exact fun _ _ _ h => h
      · rfl
      · (intro wS hSw; (try dsimp only at hSw); go_simp; (try with_reducible rfl))
      (try simp only [Act.put, List.setIfInBounds_toArray, List.set_cons_zero, List.set_cons_succ])
      obtain ⟨w82, hU82⟩ : ∃ u, u = w79.drew := ⟨_, rfl⟩
      have hb82 : Below w79.heap.size w79 w82 := by rw [hU82]; exact (Below.refl _ _).drew
      rw [← hU82]
      clear hU82
      have p0a_82 := cell_later hb82 p0a_79
      have p0b_82 := cell_later hb82 p0b_79
      have p1a_82 := cell_later hb82 p1a_79
      have p1b_82 := cell_later hb82 p1b_79
      have B_82 := B_79.trans (hb82.mono B_79.size)
      have Y_82 : Below w79.heap.size w79 w82 := hb82
      have zz82 : w79.heap.size ≤ w82.heap.size := by have q := hb82.size; first | exact q | simpa using q
      refine wpAnyH_ready (rs := [1, 8]) (by kernel_rfl) (by simp) ?_
      refine AllReadyH.cons (o := ?_) ?_ (fun K hK => ?_) ?_
      rotate_left
      · (simp only [List.getElem?_toArray, List.getElem?_cons_zero, List.getElem?_cons_succ]; rfl)
      · go_simp
        go_at_call 7
        refine (toTableG _ _ _ z0 p0x _ hs0 (ha0.below B_82)).mono ?_
        rintro e w83 ⟨g83, rfl, ho83, hb83⟩
        have p0a_83 := cell_later hb83 p0a_82
        have p0b_83 := cell_later hb83 p0b_82
        have p1a_83 := cell_later hb83 p1a_82
        have p1b_83 := cell_later hb83 p1b_82
        have B_83 := B_82.trans (hb83.mono B_82.size)
        have Y_83 : Below w79.heap.size w79 w83 := Y_82.trans (hb83.mono Y_82.size)
        have zz83 : w82.heap.size ≤ w83.heap.size := by have q := hb83.size; first | exact q | simpa using q
        (try go_wp2_with fail)
        refine hK.out _ _ ?_ (fun hHeld' => ?_)
        · (try dsimp only)
          exact ⟨p0a_83, p0b_83, p1a_83, p1b_83⟩
        clear hK K hHeld
        have hHeld := hHeld'
        clear hHeld'
        (try simp only [Act.put, List.setIfInBounds_toArray, List.set_cons_zero, List.set_cons_succ])
        refine wpAnyH_ready (rs := [3, 8]) (by kernel_rfl) (by simp) ?_
        refine AllReadyH.cons (o := ?_) ?_ (fun K hK => ?_) ?_
        rotate_left
        · (simp only [List.getElem?_toArray, List.getElem?_cons_zero, List.getElem?_cons_succ]; rfl)
        · go_simp
          go_at_call 7
          refine (toTableG _ _ _ z1 p1x _ hs1 (ha1.below B_83)).mono ?_
          rintro e w84 ⟨g84, rfl, ho84, hb84⟩
          have p0a_84 := cell_later hb84 p0a_83
          have p0b_84 := cell_later hb84 p0b_83
          have p1a_84 := cell_later hb84 p1a_83
          have p1b_84 := cell_later hb84 p1b_83
          have h0_84 := ho83.below hb84
          have B_84 := B_83.trans (hb84.mono B_83.size)
          have Y_84 : Below w79.heap.size w79 w84 := Y_83.trans (hb84.mono Y_83.size)
          have zz84 : w83.heap.size ≤ w84.heap.size := by have q := hb84.size; first | exact q | simpa using q
          (try go_wp2_with fail)
          refine hK.out _ _ ?_ (fun hHeld' => ?_)
          · (try dsimp only)
            exact ⟨p0a_84, p0b_84, p1a_84, p1b_84⟩
          clear hK K hHeld
          have hHeld := hHeld'
          clear hHeld'
          (try simp only [Act.put, List.setIfInBounds_toArray, List.set_cons_zero, List.set_cons_succ])
          refine wpAnyH_ready (rs := [4, 8]) (by kernel_rfl) (by simp) ?_
          refine AllReadyH.cons (o := ?_) ?_ (fun K hK => ?_) ?_
          rotate_left
          · (simp only [List.getElem?_toArray, List.getElem?_cons_zero, List.getElem?_cons_succ]; rfl)
          · go_simp
            go_at_call 8
            refine (HI.out _ _ _ _ _ _ _ _ _ h0_84 ho84).mono ?_
            rintro e w85 ⟨⟨r85, m85, d85, cs85, rfl, ho85⟩, hb85⟩
            have p0a_85 := cell_later hb85 p0a_84
            have p0b_85 := cell_later hb85 p0b_84
            have p1a_85 := cell_later hb85 p1a_84
            have p1b_85 := cell_later hb85 p1b_84
            have B_85 := B_84.trans (hb85.mono B_84.size)
            have Y_85 : Below w79.heap.size w79 w85 := Y_84.trans (hb85.mono Y_84.size)
            have zz85 : w84.heap.size ≤ w85.heap.size := by have q := hb85.size; first | exact q | simpa using q
            (try go_wp2_with fail)
            refine hK.out _ _ ?_ (fun hHeld' => ?_)
            · (try dsimp only)
              exact ⟨p0a_85, p0b_85, p1a_85, p1b_85⟩
            clear hK K hHeld
            have hHeld := hHeld'
            clear hHeld'
            (try simp only [Act.put, List.setIfInBounds_toArray, List.set_cons_zero, List.set_cons_succ])
            refine wpAnyH_take (i := 5) (oi := ?_) (v := ?_) ?_ (by kernel_rfl) (by kernel_rfl) (by kernel_rfl) ?_ (Or.inl ⟨?_, ?_⟩) (by assumption) ?_
            rotate_left 2
            · (simp only [List.getElem?_toArray, List.getElem?_cons_zero, List.getElem?_cons_succ]; rfl)
            · exact fun _ _ _ h => h
            · rfl
            · (intro wS hSw; (try dsimp only at hSw); go_simp; (try with_reducible rfl))
            (try simp only [Act.put, List.setIfInBounds_toArray, List.set_cons_zero, List.set_cons_succ])
            refine wpAnyH_take (i := 6) (oi := ?_) (v := ?_) ?_ (by kernel_rfl) (by kernel_rfl) (by kernel_rfl) ?_ (Or.inl ⟨?_, ?_⟩) (by assumption) ?_
            rotate_left 2
            · (simp only [List.getElem?_toArray, List.getElem?_cons_zero, List.getElem?_cons_succ]; rfl)
            · exact fun _ _ _ h => h
            · rfl
            · (intro wS hSw; (try dsimp only at hSw); go_simp; (try with_reducible rfl))
            (try simp only [Act.put, List.setIfInBounds_toArray, List.set_cons_zero, List.set_cons_succ])
            refine wpAnyH_take (i := 7) (oi := ?_) (v := ?_) ?_ (by kernel_rfl) (by kernel_rfl) (by kernel_rfl) ?_ (Or.inl ⟨?_, ?_⟩) (by assumption) ?_
            rotate_left 2
            · (simp only [List.getElem?_toArray, List.getElem?_cons_zero, List.getElem?_cons_succ]; rfl)
            · exact fun _ _ _ h => h
            · rfl
            · (intro wS hSw; (try dsimp only at hSw); go_simp; (try with_reducible rfl))
            (try simp only [Act.put, List.setIfInBounds_toArray, List.set_cons_zero, List.set_cons_succ])
            refine wpAnyH_ready (rs := [8]) (by kernel_rfl) (by simp) ?_
            refine AllReadyH.cons (o := ?_) ?_ (fun K hK => ?_) AllReadyH.nil
            rotate_left
            · (simp only [List.getElem?_toArray, List.getElem?_cons_zero, List.getElem?_cons_succ]; rfl)
            go_simp
            skip
            (try go_wp2_with fail)
            refine hK.out _ _ ?_ (fun hHeld' => ?_)
            · (try dsimp only)
              exact ⟨cell_later ((Below.refl _ _).alloc (Nat.le_refl _) _) p0a_85, cell_later ((Below.refl _ _).alloc (Nat.le_refl _) _) p0b_85, cell_later ((Below.refl _ _).alloc (Nat.le_refl _) _) p1a_85, cell_later ((Below.refl _ _).alloc (Nat.le_refl _) _) p1b_85⟩
            clear hK K hHeld
            have hHeld := hHeld'
            clear hHeld'
            (try simp only [Act.put, List.setIfInBounds_toArray, List.set_cons_zero, List.set_cons_succ])
            refine wpAnyH_ready (rs := [9]) (by kernel_rfl) (by simp) ?_
            refine AllReadyH.cons (o := ?_) ?_ (fun K hK => ?_) AllReadyH.nil
            rotate_left
            · (simp only [List.getElem?_toArray, List.getElem?_cons_zero, List.getElem?_cons_succ]; rfl)
            go_simp
            skip
            (try go_wp2_with fail)
            refine hK.out _ _ ?_ (fun hHeld' => ?_)
            · (try dsimp only)
              exact ⟨cell_later ((Below.refl _ _).alloc (Nat.le_refl _) _) p0a_85, cell_later ((Below.refl _ _).alloc (Nat.le_refl _) _) p0b_85, cell_later ((Below.refl _ _).alloc (Nat.le_refl _) _) p1a_85, cell_later ((Below.refl _ _).alloc (Nat.le_refl _) _) p1b_85⟩
            clear hK K hHeld
            have hHeld := hHeld'
            clear hHeld'
            (try simp only [Act.put, List.setIfInBounds_toArray, List.set_cons_zero, List.set_cons_succ])
            refine wpAnyH_take (i := 10) (oi := ?_) (v := ?_) ?_ (by kernel_rfl) (by kernel_rfl) (by kernel_rfl) ?_ (Or.inl ⟨?_, ?_⟩) (by assumption) ?_
            rotate_left 2
            · (simp only [List.getElem?_toArray, List.getElem?_cons_zero, List.getElem?_cons_succ]; rfl)
            · exact fun _ _ _ h => h
            · rfl
            · (intro wS hSw; (try dsimp only at hSw); go_simp; (try with_reducible rfl))
            (try simp only [Act.put, List.setIfInBounds_toArray, List.set_cons_zero, List.set_cons_succ])
            refine wpAnyH_done (by kernel_rfl) ?_ _
            (try go_wp2_with fail)
            go_meet
            case rel =>
              have owk : OwnT w85 w84.heap.size w85.heap.size r85 m85 d85 ta := ⟨cs85, ho85⟩
              exact ⟨w85.heap.size, r85, m85, d85, w84.heap.size, w85.heap.size, rfl, rfl, pair0 w85 _ _ _, pair1 w85 _ _ _, owk.below ((Below.refl _ _).alloc (Nat.le_refl _) _), by omega, by simp, by omega, by simp, .inr (Nat.le_refl _), Y_85.alloc Y_85.size _⟩
          refine AllReadyH.cons (o := ?_) ?_ (fun K hK => ?_) AllReadyH.nil
          rotate_left
          · (simp only [List.getElem?_toArray, List.getElem?_cons_zero, List.getElem?_cons_succ]; rfl)
          · go_simp
            (try go_wp2_with fail)
            refine hK.out _ _ ?_ (fun hHeld' => ?_)
            · (try dsimp only)
              exact ⟨cell_later ((Below.refl _ _).alloc (Nat.le_refl _) _) p0a_84, cell_later ((Below.refl _ _).alloc (Nat.le_refl _) _) p0b_84, cell_later ((Below.refl _ _).alloc (Nat.le_refl _) _) p1a_84, cell_later ((Below.refl _ _).alloc (Nat.le_refl _) _) p1b_84⟩
            clear hK K hHeld
            have hHeld := hHeld'
            clear hHeld'
            (try simp only [Act.put, List.setIfInBounds_toArray, List.set_cons_zero, List.set_cons_succ])
            obtain ⟨w85, hU85⟩ : ∃ u, u = w84.alloc (.cells #[.int .i64 0, .slice none 0 0] 28) := ⟨_, rfl⟩
            have hb85 : Below w84.heap.size w84 w85 := by rw [hU85]; exact (Below.refl _ _).alloc (Nat.le_refl _) _
            have zp85 : w85.heap.size = w84.heap.size + 1 := by rw [hU85]; simp
            have hp85 : w85.heap[w84.heap.size]? = some (.cells #[.int .i64 0, .slice none 0 0] 28 (0, 0)) := by rw [hU85]; exact heap_alloc_new _ _
            rw [← hU85]
            clear hU85
            have p0a_85 := cell_later hb85 p0a_84
            have p0b_85 := cell_later hb85 p0b_84
            have p1a_85 := cell_later hb85 p1a_84
            have p1b_85 := cell_later hb85 p1b_84
            have h0_85 := h0_84.below hb85
            have h1_85 := ho84.below hb85
            have B_85 := B_84.trans (hb85.mono B_84.size)
            have Y_85 : Below w79.heap.size w79 w85 := Y_84.trans (hb85.mono Y_84.size)
            have zz85 : w84.heap.size ≤ w85.heap.size := by have q := hb85.size; first | exact q | simpa using q
            refine wpAnyH_ready (rs := [4]) (by kernel_rfl) (by simp) ?_
            refine AllReadyH.cons (o := ?_) ?_ (fun K hK => ?_) AllReadyH.nil
            rotate_left
            · (simp only [List.getElem?_toArray, List.getElem?_cons_zero, List.getElem?_cons_succ]; rfl)
            go_simp
            go_at_call 8
            refine (HI.out _ _ _ _ _ _ _ _ _ h0_85 h1_85).mono ?_
            rintro e w86 ⟨⟨r86, m86, d86, cs86, rfl, ho86⟩, hb86⟩
            have p0a_86 := cell_later hb86 p0a_85
            have p0b_86 := cell_later hb86 p0b_85
            have p1a_86 := cell_later hb86 p1a_85
            have p1b_86 := cell_later hb86 p1b_85
            have hq86 := (hb86.block (w84.heap.size) (Array.getElem?_eq_some_iff.1 hp85).1).trans hp85
            have B_86 := B_85.trans (hb86.mono B_85.size)
            have Y_86 : Below w79.heap.size w79 w86 := Y_85.trans (hb86.mono Y_85.size)
            have zz86 : w85.heap.size ≤ w86.heap.size := by have q := hb86.size; first | exact q | simpa using q
            (try go_wp2_with fail)
            refine hK.out _ _ ?_ (fun hHeld' => ?_)
            · (try dsimp only)
              exact ⟨p0a_86, p0b_86, p1a_86, p1b_86⟩
            clear hK K hHeld
            have hHeld := hHeld'
            clear hHeld'
            (try simp only [Act.put, List.setIfInBounds_toArray, List.set_cons_zero, List.set_cons_succ])
            refine wpAnyH_take (i := 5) (oi := ?_) (v := ?_) ?_ (by kernel_rfl) (by kernel_rfl) (by kernel_rfl) ?_ (Or.inl ⟨?_, ?_⟩) (by assumption) ?_
            rotate_left 2
            · (simp only [List.getElem?_toArray, List.getElem?_cons_zero, List.getElem?_cons_succ]; rfl)
            · exact fun _ _ _ h => h
            · rfl
            · (intro wS hSw; (try dsimp only at hSw); go_simp; (try with_reducible rfl))
            (try simp only [Act.put, List.setIfInBounds_toArray, List.set_cons_zero, List.set_cons_succ])
            refine wpAnyH_take (i := 6) (oi := ?_) (v := ?_) ?_ (by kernel_rfl) (by kernel_rfl) (by kernel_rfl) ?_ (Or.inl ⟨?_, ?_⟩) (by assumption) ?_
            rotate_left 2
            · (simp only [List.getElem?_toArray, List.getElem?_cons_zero, List.getElem?_cons_succ]; rfl)
            · exact fun _ _ _ h => h
            · rfl
            · (intro wS hSw; (try dsimp only at hSw); go_simp; (try with_reducible rfl))
            (try simp only [Act.put, List.setIfInBounds_toArray, List.set_cons_zero, List.set_cons_succ])
            refine wpAnyH_take (i := 7) (oi := ?_) (v := ?_) ?_ (by kernel_rfl) (by kernel_rfl) (by kernel_rfl) ?_ (Or.inl ⟨?_, ?_⟩) (by assumption) ?_
            rotate_left 2
            · (simp only [List.getElem?_toArray, List.getElem?_cons_zero, List.getElem?_cons_succ]; rfl)
            · exact fun _ _ _ h => h
            · rfl
            · (intro wS hSw; (try dsimp only at hSw); go_simp; (try with_reducible rfl))
            (try simp only [Act.put, List.setIfInBounds_toArray, List.set_cons_zero, List.set_cons_succ])
            have u0 : w86.cell? ⟨w84.heap.size, 0, none⟩ = some (.int .i64 0) := by rw [cell_of_row _ _ 0 _ _ (0, 0) hq86]; rfl
            have u1 : w86.cell? ⟨w84.heap.size, 1, none⟩ = some (.slice none 0 0) := by rw [cell_of_row _ _ 1 _ _ (0, 0) hq86]; rfl
            have v0 : w86.frozen? ⟨w84.heap.size, 0, none⟩ = false := frozen_of_row _ _ 0 _ _ hq86
            have v1 : w86.frozen? ⟨w84.heap.size, 1, none⟩ = false := frozen_of_row _ _ 1 _ _ hq86
            refine wpAnyH_ready (rs := [9]) (by kernel_rfl) (by simp) ?_
            refine AllReadyH.cons (o := ?_) ?_ (fun K hK => ?_) AllReadyH.nil
            rotate_left
            · (simp only [List.getElem?_toArray, List.getElem?_cons_zero, List.getElem?_cons_succ]; rfl)
            go_simp
            skip
            (try go_wp2_with fail)
            refine hK.out _ _ ?_ (fun hHeld' => ?_)
            · (try dsimp only)
              exact ⟨keep_far (keep_far p0a_86 (by omega)) (by omega), keep_far (keep_far p0b_86 (by omega)) (by omega), keep_far (keep_far p1a_86 (by omega)) (by omega), keep_far (keep_far p1b_86 (by omega)) (by omega)⟩
            clear hK K hHeld
            have hHeld := hHeld'
            clear hHeld'
            (try simp only [Act.put, List.setIfInBounds_toArray, List.set_cons_zero, List.set_cons_succ])
            refine wpAnyH_take (i := 10) (oi := ?_) (v := ?_) ?_ (by kernel_rfl) (by kernel_rfl) (by kernel_rfl) ?_ (Or.inl ⟨?_, ?_⟩) (by assumption) ?_
            rotate_left 2
            · (simp only [List.getElem?_toArray, List.getElem?_cons_zero, List.getElem?_cons_succ]; rfl)
            · exact fun _ _ _ h => h
            · rfl
            · (intro wS hSw; (try dsimp only at hSw); go_simp; (try with_reducible rfl))
            (try simp only [Act.put, List.setIfInBounds_toArray, List.set_cons_zero, List.set_cons_succ])
            refine wpAnyH_done (by kernel_rfl) ?_ _
            (try go_wp2_with fail)
            go_meet
            case rel =>
              have owk : OwnT w86 w85.heap.size w86.heap.size r86 m86 d86 ta := ⟨cs86, ho86⟩
              exact ⟨w84.heap.size, r86, m86, d86, w85.heap.size, w86.heap.size, rfl, rfl, set2_0 hq86 _ _, set2_1 hq86 _ _, owk.set2 (.inl (by omega)) _ _, by omega, by simp [World.setCell], by omega, by simp only [World.setCell, Array.size_modify]; omega, .inl (by omega), (Y_86.setCell (by show w79.heap.size ≤ w84.heap.size; omega) _).setCell (by show w79.heap.size ≤ w84.heap.size; omega) _⟩
        refine AllReadyH.cons (o := ?_) ?_ (fun K hK => ?_) AllReadyH.nil
        rotate_left
        · (simp only [List.getElem?_toArray, List.getElem?_cons_zero, List.getElem?_cons_succ]; rfl)
        · go_simp
          (try go_wp2_with fail)
          refine hK.out _ _ ?_ (fun hHeld' => ?_)
          · (try dsimp only)
            exact ⟨cell_later ((Below.refl _ _).alloc (Nat.le_refl _) _) p0a_83, cell_later ((Below.refl _ _).alloc (Nat.le_refl _) _) p0b_83, cell_later ((Below.refl _ _).alloc (Nat.le_refl _) _) p1a_83, cell_later ((Below.refl _ _).alloc (Nat.le_refl _) _) p1b_83⟩
          clear hK K hHeld
          have hHeld := hHeld'
          clear hHeld'
          (try simp only [Act.put, List.setIfInBounds_toArray, List.set_cons_zero, List.set_cons_succ])
          obtain ⟨w84, hU84⟩ : ∃ u, u = w83.alloc (.cells #[.int .i64 0, .slice none 0 0] 28) := ⟨_, rfl⟩
          have hb84 : Below w83.heap.size w83 w84 := by rw [hU84]; exact (Below.refl _ _).alloc (Nat.le_refl _) _
          have zp84 : w84.heap.size = w83.heap.size + 1 := by rw [hU84]; simp
          have hp84 : w84.heap[w83.heap.size]? = some (.cells #[.int .i64 0, .slice none 0 0] 28 (0, 0)) := by rw [hU84]; exact heap_alloc_new _ _
          rw [← hU84]
          clear hU84
          have p0a_84 := cell_later hb84 p0a_83
          have p0b_84 := cell_later hb84 p0b_83
          have p1a_84 := cell_later hb84 p1a_83
          have p1b_84 := cell_later hb84 p1b_83
          have h0_84 := ho83.below hb84
          have B_84 := B_83.trans (hb84.mono B_83.size)
          have Y_84 : Below w79.heap.size w79 w84 := Y_83.trans (hb84.mono Y_83.size)
          have zz84 : w83.heap.size ≤ w84.heap.size := by have q := hb84.size; first | exact q | simpa using q
          refine wpAnyH_ready (rs := [3]) (by kernel_rfl) (by simp) ?_
          refine AllReadyH.cons (o := ?_) ?_ (fun K hK => ?_) AllReadyH.nil
          rotate_left
          · (simp only [List.getElem?_toArray, List.getElem?_cons_zero, List.getElem?_cons_succ]; rfl)
          go_simp
          go_at_call 7
          refine (toTableG _ _ _ z1 p1x _ hs1 (ha1.below B_84)).mono ?_
          rintro e w85 ⟨g85, rfl, ho85, hb85⟩
          have p0a_85 := cell_later hb85 p0a_84
          have p0b_85 := cell_later hb85 p0b_84
          have p1a_85 := cell_later hb85 p1a_84
          have p1b_85 := cell_later hb85 p1b_84
          have h0_85 := h0_84.below hb85
          have hq85 := (hb85.block (w83.heap.size) (Array.getElem?_eq_some_iff.1 hp84).1).trans hp84
          have B_85 := B_84.trans (hb85.mono B_84.size)
          have Y_85 : Below w79.heap.size w79 w85 := Y_84.trans (hb85.mono Y_84.size)
          have zz85 : w84.heap.size ≤ w85.heap.size := by have q := hb85.size; first | exact q | simpa using q
          (try go_wp2_with fail)
          refine hK.out _ _ ?_ (fun hHeld' => ?_)
          · (try dsimp only)
            exact ⟨p0a_85, p0b_85, p1a_85, p1b_85⟩
          clear hK K hHeld
          have hHeld := hHeld'
          clear hHeld'
          (try simp only [Act.put, List.setIfInBounds_toArray, List.set_cons_zero, List.set_cons_succ])
          refine wpAnyH_ready (rs := [4]) (by kernel_rfl) (by simp) ?_
          refine AllReadyH.cons (o := ?_) ?_ (fun K hK => ?_) AllReadyH.nil
          rotate_left
          · (simp only [List.getElem?_toArray, List.getElem?_cons_zero, List.getElem?_cons_succ]; rfl)
          go_simp
          go_at_call 8
          refine (HI.out _ _ _ _ _ _ _ _ _ h0_85 ho85).mono ?_
          rintro e w86 ⟨⟨r86, m86, d86, cs86, rfl, ho86⟩, hb86⟩
          have p0a_86 := cell_later hb86 p0a_85
          have p0b_86 := cell_later hb86 p0b_85
          have p1a_86 := cell_later hb86 p1a_85
          have p1b_86 := cell_later hb86 p1b_85
          have hq86 := (hb86.block (w83.heap.size) (Array.getElem?_eq_some_iff.1 hq85).1).trans hq85
          have B_86 := B_85.trans (hb86.mono B_85.size)
          have Y_86 : Below w79.heap.size w79 w86 := Y_85.trans (hb86.mono Y_85.size)
          have zz86 : w85.heap.size ≤ w86.heap.size := by have q := hb86.size; first | exact q | simpa using q
          (try go_wp2_with fail)
          refine hK.out _ _ ?_ (fun hHeld' => ?_)
          · (try dsimp only)
            exact ⟨p0a_86, p0b_86, p1a_86, p1b_86⟩
          clear hK K hHeld
          have hHeld := hHeld'
          clear hHeld'
          (try simp only [Act.put, List.setIfInBounds_toArray, List.set_cons_zero, List.set_cons_succ])
          refine wpAnyH_take (i := 5) (oi := ?_) (v := ?_) ?_ (by kernel_rfl) (by kernel_rfl) (by kernel_rfl) ?_ (Or.inl ⟨?_, ?_⟩) (by assumption) ?_
          rotate_left 2
          · (simp only [List.getElem?_toArray, List.getElem?_cons_zero, List.getElem?_cons_succ]; rfl)
          · exact fun _ _ _ h => h
          · rfl
          · (intro wS hSw; (try dsimp only at hSw); go_simp; (try with_reducible rfl))
          (try simp only [Act.put, List.setIfInBounds_toArray, List.set_cons_zero, List.set_cons_succ])
          refine wpAnyH_take (i := 6) (oi := ?_) (v := ?_) ?_ (by kernel_rfl) (by kernel_rfl) (by kernel_rfl) ?_ (Or.inl ⟨?_, ?_⟩) (by assumption) ?_
          rotate_left 2
          · (simp only [List.getElem?_toArray, List.getElem?_cons_zero, List.getElem?_cons_succ]; rfl)
          · exact fun _ _ _ h => h
          · rfl
          · (intro wS hSw; (try dsimp only at hSw); go_simp; (try with_reducible rfl))
          (try simp only [Act.put, List.setIfInBounds_toArray, List.set_cons_zero, List.set_cons_succ])
          refine wpAnyH_take (i := 7) (oi := ?_) (v := ?_) ?_ (by kernel_rfl) (by kernel_rfl) (by kernel_rfl) ?_ (Or.inl ⟨?_, ?_⟩) (by assumption) ?_
          rotate_left 2
          · (simp only [List.getElem?_toArray, List.getElem?_cons_zero, List.getElem?_cons_succ]; rfl)
          · exact fun _ _ _ h => h
          · rfl
          · (intro wS hSw; (try dsimp only at hSw); go_simp; (try with_reducible rfl))
          (try simp only [Act.put, List.setIfInBounds_toArray, List.set_cons_zero, List.set_cons_succ])
          have u0 : w86.cell? ⟨w83.heap.size, 0, none⟩ = some (.int .i64 0) := by rw [cell_of_row _ _ 0 _ _ (0, 0) hq86]; rfl
          have u1 : w86.cell? ⟨w83.heap.size, 1, none⟩ = some (.slice none 0 0) := by rw [cell_of_row _ _ 1 _ _ (0, 0) hq86]; rfl
          have v0 : w86.frozen? ⟨w83.heap.size, 0, none⟩ = false := frozen_of_row _ _ 0 _ _ hq86
          have v1 : w86.frozen? ⟨w83.heap.size, 1, none⟩ = false := frozen_of_row _ _ 1 _ _ hq86
          refine wpAnyH_ready (rs := [9]) (by kernel_rfl) (by simp) ?_
          refine AllReadyH.cons (o := ?_) ?_ (fun K hK => ?_) AllReadyH.nil
          rotate_left
          · (simp only [List.getElem?_toArray, List.getElem?_cons_zero, List.getElem?_cons_succ]; rfl)
          go_simp
          skip
          (try go_wp2_with fail)
          refine hK.out _ _ ?_ (fun hHeld' => ?_)
          · (try dsimp only)
            exact ⟨keep_far (keep_far p0a_86 (by omega)) (by omega), keep_far (keep_far p0b_86 (by omega)) (by omega), keep_far (keep_far p1a_86 (by omega)) (by omega), keep_far (keep_far p1b_86 (by omega)) (by omega)⟩
          clear hK K hHeld
          have hHeld := hHeld'
          clear hHeld'
          (try simp only [Act.put, List.setIfInBounds_toArray, List.set_cons_zero, List.set_cons_succ])
          refine wpAnyH_take (i := 10) (oi := ?_) (v := ?_) ?_ (by kernel_rfl) (by kernel_rfl) (by kernel_rfl) ?_ (Or.inl ⟨?_, ?_⟩) (by assumption) ?_
          rotate_left 2
          · (simp only [List.getElem?_toArray, List.getElem?_cons_zero, List.getElem?_cons_succ]; rfl)
          · exact fun _ _ _ h => h
          · rfl
          · (intro wS hSw; (try dsimp only at hSw); go_simp; (try with_reducible rfl))
          (try simp only [Act.put, List.setIfInBounds_toArray, List.set_cons_zero, List.set_cons_succ])
          refine wpAnyH_done (by kernel_rfl) ?_ _
          (try go_wp2_with fail)
          go_meet
          case rel =>
            have owk : OwnT w86 w85.heap.size w86.heap.size r86 m86 d86 ta := ⟨cs86, ho86⟩
            exact ⟨w83.heap.size, r86, m86, d86, w85.heap.size, w86.heap.size, rfl, rfl, set2_0 hq86 _ _, set2_1 hq86 _ _, owk.set2 (.inl (by omega)) _ _, by omega, by simp [World.setCell], by omega, by simp only [World.setCell, Array.size_modify]; omega, .inl (by omega), (Y_86.setCell (by show w79.heap.size ≤ w83.heap.size; omega) _).setCell (by show w79.heap.size ≤ w83.heap.size; omega) _⟩
      refine AllReadyH.cons (o := ?_) ?_ (fun K hK => ?_) AllReadyH.nil
      rotate_left
      · (simp only [List.getElem?_toArray, List.getElem?_cons_zero, List.getElem?_cons_succ]; rfl)
      · go_simp
        (try go_wp2_with fail)
        refine hK.out _ _ ?_ (fun hHeld' => ?_)
        · (try dsimp only)
          exact ⟨cell_later ((Below.refl _ _).alloc (Nat.le_refl _) _) p0a_82, cell_later ((Below.refl _ _).alloc (Nat.le_refl _) _) p0b_82, cell_later ((Below.refl _ _).alloc (Nat.le_refl _) _) p1a_82, cell_later ((Below.refl _ _).alloc (Nat.le_refl _) _) p1b_82⟩
        clear hK K hHeld
        have hHeld := hHeld'
        clear hHeld'
        (try simp only [Act.put, List.setIfInBounds_toArray, List.set_cons_zero, List.set_cons_succ])
        obtain ⟨w83, hU83⟩ : ∃ u, u = w82.alloc (.cells #[.int .i64 0, .slice none 0 0] 28) := ⟨_, rfl⟩
        have hb83 : Below w82.heap.size w82 w83 := by rw [hU83]; exact (Below.refl _ _).alloc (Nat.le_refl _) _
        have zp83 : w83.heap.size = w82.heap.size + 1 := by rw [hU83]; simp
        have hp83 : w83.heap[w82.heap.size]? = some (.cells #[.int .i64 0, .slice none 0 0] 28 (0, 0)) := by rw [hU83]; exact heap_alloc_new _ _
        rw [← hU83]
        clear hU83
        have p0a_83 := cell_later hb83 p0a_82
        have p0b_83 := cell_later hb83 p0b_82
        have p1a_83 := cell_later hb83 p1a_82
        have p1b_83 := cell_later hb83 p1b_82
        have B_83 := B_82.trans (hb83.mono B_82.size)
        have Y_83 : Below w79.heap.size w79 w83 := Y_82.trans (hb83.mono Y_82.size)
        have zz83 : w82.heap.size ≤ w83.heap.size := by have q := hb83.size; first | exact q | simpa using q
        refine wpAnyH_ready (rs := [1]) (by kernel_rfl) (by simp) ?_
        refine AllReadyH.cons (o := ?_) ?_ (fun K hK => ?_) AllReadyH.nil
        rotate_left
        · (simp only [List.getElem?_toArray, List.getElem?_cons_zero, List.getElem?_cons_succ]; rfl)
        go_simp
        go_at_call 7
        refine (toTableG _ _ _ z0 p0x _ hs0 (ha0.below B_83)).mono ?_
        rintro e w84 ⟨g84, rfl, ho84, hb84⟩
        have p0a_84 := cell_later hb84 p0a_83
        have p0b_84 := cell_later hb84 p0b_83
        have p1a_84 := cell_later hb84 p1a_83
        have p1b_84 := cell_later hb84 p1b_83
        have hq84 := (hb84.block (w82.heap.size) (Array.getElem?_eq_some_iff.1 hp83).1).trans hp83
        have B_84 := B_83.trans (hb84.mono B_83.size)
        have Y_84 : Below w79.heap.size w79 w84 := Y_83.trans (hb84.mono Y_83.size)
        have zz84 : w83.heap.size ≤ w84.heap.size := by have q := hb84.size; first | exact q | simpa using q
        (try go_wp2_with fail)
        refine hK.out _ _ ?_ (fun hHeld' => ?_)
        · (try dsimp only)
          exact ⟨p0a_84, p0b_84, p1a_84, p1b_84⟩
        clear hK K hHeld
        have hHeld := hHeld'
        clear hHeld'
        (try simp only [Act.put, List.setIfInBounds_toArray, List.set_cons_zero, List.set_cons_succ])
        refine wpAnyH_ready (rs := [3]) (by kernel_rfl) (by simp) ?_
        refine AllReadyH.cons (o := ?_) ?_ (fun K hK => ?_) AllReadyH.nil
        rotate_left
        · (simp only [List.getElem?_toArray, List.getElem?_cons_zero, List.getElem?_cons_succ]; rfl)
        go_simp
        go_at_call 7
        refine (toTableG _ _ _ z1 p1x _ hs1 (ha1.below B_84)).mono ?_
        rintro e w85 ⟨g85, rfl, ho85, hb85⟩
        have p0a_85 := cell_later hb85 p0a_84
        have p0b_85 := cell_later hb85 p0b_84
        have p1a_85 := cell_later hb85 p1a_84
        have p1b_85 := cell_later hb85 p1b_84
        have h0_85 := ho84.below hb85
        have hq85 := (hb85.block (w82.heap.size) (Array.getElem?_eq_some_iff.1 hq84).1).trans hq84
        have B_85 := B_84.trans (hb85.mono B_84.size)
        have Y_85 : Below w79.heap.size w79 w85 := Y_84.trans (hb85.mono Y_84.size)
        have zz85 : w84.heap.size ≤ w85.heap.size := by have q := hb85.size; first | exact q | simpa using q
        (try go_wp2_with fail)
        refine hK.out _ _ ?_ (fun hHeld' => ?_)
        · (try dsimp only)
          exact ⟨p0a_85, p0b_85, p1a_85, p1b_85⟩
        clear hK K hHeld
        have hHeld := hHeld'
        clear hHeld'
        (try simp only [Act.put, List.setIfInBounds_toArray, List.set_cons_zero, List.set_cons_succ])
        refine wpAnyH_ready (rs := [4]) (by kernel_rfl) (by simp) ?_
        refine AllReadyH.cons (o := ?_) ?_ (fun K hK => ?_) AllReadyH.nil
        rotate_left
        · (simp only [List.getElem?_toArray, List.getElem?_cons_zero, List.getElem?_cons_succ]; rfl)
        go_simp
        go_at_call 8
        refine (HI.out _ _ _ _ _ _ _ _ _ h0_85 ho85).mono ?_
        rintro e w86 ⟨⟨r86, m86, d86, cs86, rfl, ho86⟩, hb86⟩
        have p0a_86 := cell_later hb86 p0a_85
        have p0b_86 := cell_later hb86 p0b_85
        have p1a_86 := cell_later hb86 p1a_85
        have p1b_86 := cell_later hb86 p1b_85
        have hq86 := (hb86.block (w82.heap.size) (Array.getElem?_eq_some_iff.1 hq85).1).trans hq85
        have B_86 := B_85.trans (hb86.mono B_85.size)
        have Y_86 : Below w79.heap.size w79 w86 := Y_85.trans (hb86.mono Y_85.size)
        have zz86 : w85.heap.size ≤ w86.heap.size := by have q := hb86.size; first | exact q | simpa using q
        (try go_wp2_with fail)
        refine hK.out _ _ ?_ (fun hHeld' => ?_)
        · (try dsimp only)
          exact ⟨p0a_86, p0b_86, p1a_86, p1b_86⟩
        clear hK K hHeld
        have hHeld := hHeld'
        clear hHeld'
        (try simp only [Act.put, List.setIfInBounds_toArray, List.set_cons_zero, List.set_cons_succ])
        refine wpAnyH_take (i := 5) (oi := ?_) (v := ?_) ?_ (by kernel_rfl) (by kernel_rfl) (by kernel_rfl) ?_ (Or.inl ⟨?_, ?_⟩) (by assumption) ?_
        rotate_left 2
        · (simp only [List.getElem?_toArray, List.getElem?_cons_zero, List.getElem?_cons_succ]; rfl)
        · exact fun _ _ _ h => h
        · rfl
        · (intro wS hSw; (try dsimp only at hSw); go_simp; (try with_reducible rfl))
        (try simp only [Act.put, List.setIfInBounds_toArray, List.set_cons_zero, List.set_cons_succ])
        refine wpAnyH_take (i := 6) (oi := ?_) (v := ?_) ?_ (by kernel_rfl) (by kernel_rfl) (by kernel_rfl) ?_ (Or.inl ⟨?_, ?_⟩) (by assumption) ?_
        rotate_left 2
        · (simp only [List.getElem?_toArray, List.getElem?_cons_zero, List.getElem?_cons_succ]; rfl)
        · exact fun _ _ _ h => h
        · rfl
        · (intro wS hSw; (try dsimp only at hSw); go_simp; (try with_reducible rfl))
        (try simp only [Act.put, List.setIfInBounds_toArray, List.set_cons_zero, List.set_cons_succ])
        refine wpAnyH_take (i := 7) (oi := ?_) (v := ?_) ?_ (by kernel_rfl) (by kernel_rfl) (by kernel_rfl) ?_ (Or.inl ⟨?_, ?_⟩) (by assumption) ?_
        rotate_left 2
        · (simp only [List.getElem?_toArray, List.getElem?_cons_zero, List.getElem?_cons_succ]; rfl)
        · exact fun _ _ _ h => h
        · rfl
        · (intro wS hSw; (try dsimp only at hSw); go_simp; (try with_reducible rfl))
        (try simp only [Act.put, List.setIfInBounds_toArray, List.set_cons_zero, List.set_cons_succ])
        have u0 : w86.cell? ⟨w82.heap.size, 0, none⟩ = some (.int .i64 0) := by rw [cell_of_row _ _ 0 _ _ (0, 0) hq86]; rfl
        have u1 : w86.cell? ⟨w82.heap.size, 1, none⟩ = some (.slice none 0 0) := by rw [cell_of_row _ _ 1 _ _ (0, 0) hq86]; rfl
        have v0 : w86.frozen? ⟨w82.heap.size, 0, none⟩ = false := frozen_of_row _ _ 0 _ _ hq86
        have v1 : w86.frozen? ⟨w82.heap.size, 1, none⟩ = false := frozen_of_row _ _ 1 _ _ hq86
        refine wpAnyH_ready (rs := [9]) (by kernel_rfl) (by simp) ?_
        refine AllReadyH.cons (o := ?_) ?_ (fun K hK => ?_) AllReadyH.nil
        rotate_left
        · (simp only [List.getElem?_toArray, List.getElem?_cons_zero, List.getElem?_cons_succ]; rfl)
        go_simp
        skip
        (try go_wp2_with fail)
        refine hK.out _ _ ?_ (fun hHeld' => ?_)
        · (try dsimp only)
          exact ⟨keep_far (keep_far p0a_86 (by omega)) (by omega), keep_far (keep_far p0b_86 (by omega)) (by omega), keep_far (keep_far p1a_86 (by omega)) (by omega), keep_far (keep_far p1b_86 (by omega)) (by omega)⟩
        clear hK K hHeld
        have hHeld := hHeld'
        clear hHeld'
        (try simp only [Act.put, List.setIfInBounds_toArray, List.set_cons_zero, List.set_cons_succ])
        refine wpAnyH_take (i := 10) (oi := ?_) (v := ?_) ?_ (by kernel_rfl) (by kernel_rfl) (by kernel_rfl) ?_ (Or.inl ⟨?_, ?_⟩) (by assumption) ?_
        rotate_left 2
        · (simp only [List.getElem?_toArray, List.getElem?_cons_zero, List.getElem?_cons_succ]; rfl)
        · exact fun _ _ _ h => h
        · rfl
        · (intro wS hSw; (try dsimp only at hSw); go_simp; (try with_reducible rfl))
        (try simp only [Act.put, List.setIfInBounds_toArray, List.set_cons_zero, List.set_cons_succ])
        refine wpAnyH_done (by kernel_rfl) ?_ _
        (try go_wp2_with fail)
        go_meet
        case rel =>
          have owk : OwnT w86 w85.heap.size w86.heap.size r86 m86 d86 ta := ⟨cs86, ho86⟩
          exact ⟨w82.heap.size, r86, m86, d86, w85.heap.size, w86.heap.size, rfl, rfl, set2_0 hq86 _ _, set2_1 hq86 _ _, owk.set2 (.inl (by omega)) _ _, by omega, by simp [World.setCell], by omega, by simp only [World.setCell, Array.size_modify]; omega, .inl (by omega), (Y_86.setCell (by show w79.heap.size ≤ w82.heap.size; omega) _).setCell (by show w79.heap.size ≤ w82.heap.size; omega) _⟩
    case rest =>
      obtain ⟨Pb140, r140, m140, d140, lo140, hi140, rfl, rfl, Ha_140, Hb_140, ow140, pl140, ph140, pm140, pn140, pd140, hb140⟩ := hcut
      obtain ⟨w140, rfl⟩ : ∃ x, x = wc := ⟨_, rfl⟩
      obtain rfl : na = m140 := HNA.out.symm.trans ow140.len
      have p0a_140 := cell_later hb140 p0a_79
      have p0b_140 := cell_later hb140 p0b_79
      have p1a_140 := cell_later hb140 p1a_79
      have p1b_140 := cell_later hb140 p1b_79
      have Wa_140 := cell_later hb140 Wa_79
      have Wb_140 := cell_later hb140 Wb_79
      have X0a_140 := cell_later hb140 X0a_79
      have X0b_140 := cell_later hb140 X0b_79
      have X1a_140 := cell_later hb140 X1a_79
      have X1b_140 := cell_later hb140 X1b_79
      have Ga_140 := cell_later hb140 Ga_79
      have Gb_140 := cell_later hb140 Gb_79
      have o_140 := o_79.below hb140
      have g_140 := g_79.below hb140
      have B_140 := B_79.trans (hb140.mono B_79.size)
      have zz140 : w79.heap.size ≤ w140.heap.size := by have q := hb140.size; first | exact q | simpa using q
      clear p0a_79 p0b_79 p1a_79 p1b_79 Wa_79 Wb_79 X0a_79 X0b_79 X1a_79 X1b_79 Ga_79 Gb_79 o_79 g_79 B_79
      clear hb140
      go_wp2_with fail
      refine (eqTableG _ _ _ _ _ ta pa _ hsA (ow140.atW hsA) (o_140.atW hsA)).mono ?_
      rintro e w141 ⟨rfl, hb141⟩
      have p0a_141 := cell_later hb141 p0a_140
      have p0b_141 := cell_later hb141 p0b_140
      have p1a_141 := cell_later hb141 p1a_140
      have p1b_141 := cell_later hb141 p1b_140
      have Wa_141 := cell_later hb141 Wa_140
      have Wb_141 := cell_later hb141 Wb_140
      have X0a_141 := cell_later hb141 X0a_140
      have X0b_141 := cell_later hb141 X0b_140
      have X1a_141 := cell_later hb141 X1a_140
      have X1b_141 := cell_later hb141 X1b_140
      have Ga_141 := cell_later hb141 Ga_140
      have Gb_141 := cell_later hb141 Gb_140
      have Ha_141 := cell_later hb141 Ha_140
      have Hb_141 := cell_later hb141 Hb_140
      have o_141 := o_140.below hb141
      have g_141 := g_140.below hb141
      have hg_141 := ow140.below hb141
      have B_141 := B_140.trans (hb141.mono B_140.size)
      have zz141 : w140.heap.size ≤ w141.heap.size := by have q := hb141.size; first | exact q | simpa using q
      clear p0a_140 p0b_140 p1a_140 p1b_140 Wa_140 Wb_140 X0a_140 X0b_140 X1a_140 X1b_140 Ga_140 Gb_140 Ha_140 Hb_140 o_140 g_140 ow140 B_140
      clear hb141
      go_wp2_with fail
      refine (heldTableG _ _ _ ta pa _ _ hsA (by omega) (by omega) (g_141.atMark hsA)).mono ?_
      rintro e w142 ⟨rfl, hb142⟩
      have p0a_142 := cell_later hb142 p0a_141
      have p0b_142 := cell_later hb142 p0b_141
      have p1a_142 := cell_later hb142 p1a_141
      have p1b_142 := cell_later hb142 p1b_141
      have Wa_142 := cell_later hb142 Wa_141
      have Wb_142 := cell_later hb142 Wb_141
      have X0a_142 := cell_later hb142 X0a_141
      have X0b_142 := cell_later hb142 X0b_141
      have X1a_142 := cell_later hb142 X1a_141
      have X1b_142 := cell_later hb142 X1b_141
      have Ga_142 := cell_later hb142 Ga_141
      have Gb_142 := cell_later hb142 Gb_141
      have Ha_142 := cell_later hb142 Ha_141
      have Hb_142 := cell_later hb142 Hb_141
      have o_142 := o_141.below hb142
      have g_142 := g_141.below hb142
      have hg_142 := hg_141.below hb142
      have B_142 := B_141.trans (hb142.mono B_141.size)
      have zz142 : w141.heap.size ≤ w142.heap.size := by have q := hb142.size; first | exact q | simpa using q
      clear p0a_141 p0b_141 p1a_141 p1b_141 Wa_141 Wb_141 X0a_141 X0b_141 X1a_141 X1b_141 Ga_141 Gb_141 Ha_141 Hb_141 o_141 g_141 hg_141 B_141
      clear hb142
      go_wp2
      go_ret
      exact ⟨rfl, B_142⟩

end Go.Proofs.Ytmkhdocjabflkab
