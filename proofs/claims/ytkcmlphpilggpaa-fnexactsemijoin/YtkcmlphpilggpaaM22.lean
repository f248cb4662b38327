/- The law FnExactSemiJoin returns true at every input, and writes nothing that was there. -/
import Derived.Test.YtkcmlphpilggpaaM11
import Derived.Test.YtkcmlphpilggpaaM13
import Derived.Test.YtkcmlphpilggpaaM21
namespace Go.Proofs.Ytkcmlphpilggpaa
open Go.RowKit

set_option maxRecDepth 100000 in
set_option maxHeartbeats 16000000 in
theorem lawSemiJoin (a0 : Option Addr) (n0 c0 : Nat) (z0 : List WRow) (p0x : Int) (a1 : Option Addr) (n1 c1 : Nat) (z1 : List WRow) (p1x : Int) (a2 : Option Addr) (n2 c2 : Nat) (z2 : List (List Int)) (w : World) (hz0 : z0.length = n0) (hn0 : n0 ≤ 9223372036854775807) (ha0 : AtW w a0 z0) (hz1 : z1.length = n1) (hn1 : n1 ≤ 9223372036854775807) (ha1 : AtW w a1 z1) (hz2 : z2.length = n2) (hn2 : n2 ≤ 9223372036854775807) (ha2 : AtS w a2 z2) :
    Calls Try.prog 4 #[.agg #[.int .i64 p0x, .slice a0 n0 c0], .agg #[.int .i64 p1x, .slice a1 n1 c1], .slice a2 n2 c2] w fun e w' => e = .returned (.bool true) ∧ Below w.heap.size w w' := by
  obtain ⟨W, hW⟩ : ∃ W, W = ((w.alloc (.cells #[.int .i64 p0x, .slice a0 n0 c0] 41)).alloc (.cells #[.int .i64 p1x, .slice a1 n1 c1] 41)) := ⟨_, rfl⟩
  have B0 : Below w.heap.size w W := by rw [hW]; exact (((Below.refl _ _).alloc (Nat.le_refl _) _).alloc (by simp) _)
  have zW : W.heap.size = w.heap.size + 1 + 1 := by rw [hW]; simp
  have qb0 : W.heap[w.heap.size]? = some (.cells #[.int .i64 p0x, .slice a0 n0 c0] 41 (0, 0)) := by
    rw [hW]
    have q := heap_alloc_new w (.cells #[.int .i64 p0x, .slice a0 n0 c0] 41)
    (try simp only [World.size_alloc] at q)
    exact (Below.heap_alloc _ _ _ (by first | (simp; done) | (simp; omega))).trans q
  have p0a_0 : W.cell? ⟨w.heap.size, 0, none⟩ = some (.int .i64 p0x) := by rw [cell_of_row W _ 0 _ _ (0, 0) qb0]; rfl
  have p0b_0 : W.cell? ⟨w.heap.size, 1, none⟩ = some (.slice a0 n0 c0) := by rw [cell_of_row W _ 1 _ _ (0, 0) qb0]; rfl
  clear qb0
  have qb1 : W.heap[w.heap.size + 1]? = some (.cells #[.int .i64 p1x, .slice a1 n1 c1] 41 (0, 0)) := by
    rw [hW]
    have q := heap_alloc_new (w.alloc (.cells #[.int .i64 p0x, .slice a0 n0 c0] 41)) (.cells #[.int .i64 p1x, .slice a1 n1 c1] 41)
    (try simp only [World.size_alloc] at q)
    exact q
  have p1a_0 : W.cell? ⟨w.heap.size + 1, 0, none⟩ = some (.int .i64 p1x) := by rw [cell_of_row W _ 0 _ _ (0, 0) qb1]; rfl
  have p1b_0 : W.cell? ⟨w.heap.size + 1, 1, none⟩ = some (.slice a1 n1 c1) := by rw [cell_of_row W _ 1 _ _ (0, 0) qb1]; rfl
  clear qb1
  by_cases big0 : (1048576 : Int) < (wtot z0 n0 : Nat)
  · go_enter Try.func4, Try.ntmps4
    go_wp2_with fail
    rw [← hW]
    clear hW
    refine (szTable_any _ _ _ z0 _ _ _ hz0 hn0 (by omega) (by omega) (ha0.below B0)).mono ?_
    rintro e v0 ⟨rfl, hv0⟩
    rw [leftOf_no big0]
    have y0 := B0.trans (hv0.mono B0.size)
    go_wp2
    go_ret
    exact ⟨rfl, y0⟩
  have hl0 : ¬ (1048576 : Int) - (wtot z0 n0 : Nat) < 0 := by omega
  have hs0 : SmT z0 n0 := ⟨hz0, by omega⟩
  by_cases big1 : (1048576 : Int) - (wtot z0 n0 : Nat) < (wtot z1 n1 : Nat)
  · go_enter Try.func4, Try.ntmps4
    go_wp2_with fail
    rw [← hW]
    clear hW
    refine (szTable_any _ _ _ z0 _ _ _ hz0 hn0 (by omega) (by omega) (ha0.below B0)).mono ?_
    rintro e v0 ⟨rfl, hv0⟩
    rw [leftOf_yes (by omega)]
    have y0 := B0.trans (hv0.mono B0.size)
    have qp0a_0 := cell_later hv0 p0a_0
    have qp0b_0 := cell_later hv0 p0b_0
    have qp1a_0 := cell_later hv0 p1a_0
    have qp1b_0 := cell_later hv0 p1b_0
    go_wp2_with fail
    refine (szTable_any _ _ _ z1 _ _ _ hz1 hn1 (by omega) (by omega) (ha1.below y0)).mono ?_
    rintro e v1 ⟨rfl, hv1⟩
    rw [leftOf_no big1]
    have y1 := y0.trans (hv1.mono y0.size)
    go_wp2
    go_ret
    exact ⟨rfl, y1⟩
  have hl1 : ¬ (1048576 : Int) - (wtot z0 n0 : Nat) - (wtot z1 n1 : Nat) < 0 := by omega
  have hs1 : SmT z1 n1 := ⟨hz1, by omega⟩
  by_cases big2 : (1048576 : Int) - (wtot z0 n0 : Nat) - (wtot z1 n1 : Nat) < (n2 + tot z2 n2 : Nat)
  · go_enter Try.func4, Try.ntmps4
    go_wp2_with fail
    rw [← hW]
    clear hW
    refine (szTable_any _ _ _ z0 _ _ _ hz0 hn0 (by omega) (by omega) (ha0.below B0)).mono ?_
    rintro e v0 ⟨rfl, hv0⟩
    rw [leftOf_yes (by omega)]
    have y0 := B0.trans (hv0.mono B0.size)
    have qp0a_0 := cell_later hv0 p0a_0
    have qp0b_0 := cell_later hv0 p0b_0
    have qp1a_0 := cell_later hv0 p1a_0
    have qp1b_0 := cell_later hv0 p1b_0
    go_wp2_with fail
    refine (szTable_any _ _ _ z1 _ _ _ hz1 hn1 (by omega) (by omega) (ha1.below y0)).mono ?_
    rintro e v1 ⟨rfl, hv1⟩
    rw [leftOf_yes (by omega)]
    have y1 := y0.trans (hv1.mono y0.size)
    have qp0a_1 := cell_later hv1 qp0a_0
    have qp0b_1 := cell_later hv1 qp0b_0
    have qp1a_1 := cell_later hv1 qp1a_0
    have qp1b_1 := cell_later hv1 qp1b_0
    go_wp2_with fail
    refine (szIntSSG _ _ _ z2 _ _ hz2 hn2 (by omega) (by omega) (ha2.below y1)).mono ?_
    rintro e v2 ⟨rfl, hv2⟩
    rw [leftOf_no big2]
    have y2 := y1.trans (hv2.mono y1.size)
    go_wp2
    go_ret
    exact ⟨rfl, y2⟩
  have hl2 : ¬ (1048576 : Int) - (wtot z0 n0 : Nat) - (wtot z1 n1 : Nat) - (n2 + tot z2 n2 : Nat) < 0 := by omega
  have hs2 : SmP z2 n2 := ⟨hz2, by omega⟩
  have hx0 := hs0.n
  have hx1 := hs1.n
  have hx2 := hs2.n
  obtain ⟨ok, pa, ta, hsA, HS, HI⟩ : ∃ (ok : Bool) (pa : Int) (ta : List WRow), SmT ta ta.length ∧ Hid (∀ (x0 : Option Addr) (y0 lo0 hi0 : Nat) (x1 : Option Addr) (y1 lo1 hi1 : Nat) (x2 : Option Addr) (y2 lo2 hi2 : Nat) (w : World), OwnT w lo0 hi0 x0 n0 y0 z0 → OwnT w lo1 hi1 x1 n1 y1 z1 → OwnP w lo2 hi2 x2 n2 y2 z2 → Calls Try.prog 17 #[.agg #[.int .i64 p0x, .slice x0 n0 y0], .agg #[.int .i64 p1x, .slice x1 n1 y1], .slice x2 n2 y2] w fun e w' => TabRet e w' w.heap.size ok pa ta ∧ Below w.heap.size w w') ∧ Hid (∀ (x0 : Option Addr) (y0 lo0 hi0 : Nat) (x1 : Option Addr) (y1 lo1 hi1 : Nat) (x2 : Option Addr) (y2 lo2 hi2 : Nat) (w : World), OwnT w lo0 hi0 x0 n0 y0 z0 → OwnT w lo1 hi1 x1 n1 y1 z1 → OwnP w lo2 hi2 x2 n2 y2 z2 → Calls Try.prog 20 #[.agg #[.int .i64 p0x, .slice x0 n0 y0], .agg #[.int .i64 p1x, .slice x1 n1 y1], .slice x2 n2 y2] w fun e w' => TabRet e w' w.heap.size ok pa ta ∧ Below w.heap.size w w') := ⟨sjB p0x p1x z0 z1 z2, ansP (sjB p0x p1x z0 z1 z2) (p0x), ansT (sjB p0x p1x z0 z1 z2) (semiW z0 z1 z2), ans_small sjB_goodT, fun x0 y0 lo0 hi0 x1 y1 lo1 hi1 x2 y2 lo2 hi2 w o0 o1 o2 => specSemiJoin x0 x1 x2 n0 n1 n2 y0 y1 y2 z0 z1 z2 p0x p1x w hs0.1 hs1.1 hs2.1 hs0.n hs1.n hs2.n (o0.atM hs0) (o1.atM hs1) (o2.at hs2), fun x0 y0 lo0 hi0 x1 y1 lo1 hi1 x2 y2 lo2 hi2 w o0 o1 o2 => implSemiJoin x0 x1 x2 n0 n1 n2 y0 y1 y2 z0 z1 z2 p0x p1x w hs0.1 hs1.1 hs2.1 hs0.n hs1.n hs2.n (o0.atM hs0) (o1.atM hs1) (o2.at hs2)⟩
  obtain ⟨na, hna⟩ : ∃ na, ta.length = na := ⟨_, rfl⟩
  rw [hna] at hsA
  have hxA := hsA.n
  have HNA := Hid.mk hna
  clear hna
  have hwA := hsA.2
  go_enter Try.func4, Try.ntmps4
  go_wp2_with fail
  rw [← hW]
  clear hW
  refine (szTable_any _ _ _ z0 _ _ _ hz0 hn0 (by omega) (by omega) (ha0.below B0)).mono ?_
  rintro e w1 ⟨rfl, hb1⟩
  rw [leftOf_yes (by omega)]
  have p0a_1 := cell_later hb1 p0a_0
  have p0b_1 := cell_later hb1 p0b_0
  have p1a_1 := cell_later hb1 p1a_0
  have p1b_1 := cell_later hb1 p1b_0
  have B_1 := B0.trans (hb1.mono B0.size)
  have zz1 : W.heap.size ≤ w1.heap.size := by have q := hb1.size; first | exact q | simpa using q
  clear p0a_0 p0b_0 p1a_0 p1b_0
  clear hb1
  go_wp2_with fail
  refine (szTable_any _ _ _ z1 _ _ _ hz1 hn1 (by omega) (by omega) (ha1.below B_1)).mono ?_
  rintro e w2 ⟨rfl, hb2⟩
  rw [leftOf_yes (by omega)]
  have p0a_2 := cell_later hb2 p0a_1
  have p0b_2 := cell_later hb2 p0b_1
  have p1a_2 := cell_later hb2 p1a_1
  have p1b_2 := cell_later hb2 p1b_1
  have B_2 := B_1.trans (hb2.mono B_1.size)
  have zz2 : w1.heap.size ≤ w2.heap.size := by have q := hb2.size; first | exact q | simpa using q
  clear p0a_1 p0b_1 p1a_1 p1b_1 B_1
  clear hb2
  go_wp2_with fail
  refine (szIntSSG _ _ _ z2 _ _ hz2 hn2 (by omega) (by omega) (ha2.below B_2)).mono ?_
  rintro e w3 ⟨rfl, hb3⟩
  rw [leftOf_yes (by omega)]
  have p0a_3 := cell_later hb3 p0a_2
  have p0b_3 := cell_later hb3 p0b_2
  have p1a_3 := cell_later hb3 p1a_2
  have p1b_3 := cell_later hb3 p1b_2
  have B_3 := B_2.trans (hb3.mono B_2.size)
  have zz3 : w2.heap.size ≤ w3.heap.size := by have q := hb3.size; first | exact q | simpa using q
  clear p0a_2 p0b_2 p1a_2 p1b_2 B_2
  clear hb3
  go_upto_region 11 with fail
  go_cut [8, 9] (fun ta' tb wx => ∃ (Pb : Nat) (r : Option Addr) (m d lo hi : Nat), ta' = .pointer (some ⟨Pb, 0, none⟩) ∧ tb = .bool ok ∧ wx.cell? ⟨Pb, 0, none⟩ = some (.int .i64 pa) ∧ wx.cell? ⟨Pb, 1, none⟩ = some (.slice r m d) ∧ OwnT wx lo hi r m d ta ∧ w3.heap.size ≤ lo ∧ hi ≤ wx.heap.size ∧ w3.heap.size ≤ Pb ∧ Pb < wx.heap.size ∧ (Pb < lo ∨ hi ≤ Pb) ∧ Below w3.heap.size w3 wx)
  case first =>
    refine wp_region_held_drew (S := fun w' => w'.cell? ⟨w.heap.size, 0, none⟩ = some (.int .i64 p0x) ∧ w'.cell? ⟨w.heap.size, 1, none⟩ = some (.slice a0 n0 c0) ∧ w'.cell? ⟨w.heap.size + 1, 0, none⟩ = some (.int .i64 p1x) ∧ w'.cell? ⟨w.heap.size + 1, 1, none⟩ = some (.slice a1 n1 c1)) (by kernel_rfl) ?_ (fun hHeld => ?_)
    · (try dsimp only)
      exact ⟨p0a_3, p0b_3, p1a_3, p1b_3⟩
    refine tk 0 ?_
    refine tk 2 ?_
    refine tk 4 ?_
    obtain ⟨w6, hU6⟩ : ∃ u, u = w3.drew := ⟨_, rfl⟩
    have hb6 : Below w3.heap.size w3 w6 := by rw [hU6]; exact (Below.refl _ _).drew
    rw [← hU6]
    clear hU6
    have p0a_6 := cell_later hb6 p0a_3
    have p0b_6 := cell_later hb6 p0b_3
    have p1a_6 := cell_later hb6 p1a_3
    have p1b_6 := cell_later hb6 p1b_3
    have B_6 := B_3.trans (hb6.mono B_3.size)
    have Y_6 : Below w3.heap.size w3 w6 := hb6
    have zz6 : w3.heap.size ≤ w6.heap.size := by have q := hb6.size; first | exact q | simpa using q
    refine wpAnyH_ready (rs := [1, 10]) (by kernel_rfl) (by simp) ?_
    refine AllReadyH.cons (o := ?_) ?_ (fun K hK => ?_) ?_
    rotate_left
    · (simp only [List.getElem?_toArray, List.getElem?_cons_zero, List.getElem?_cons_succ]; rfl)
    · go_simp
      go_at_call 18
      refine (toTableG _ _ _ z0 p0x _ hs0 (ha0.below B_6)).mono ?_
      rintro e w7 ⟨g7, rfl, ho7, hb7⟩
      have p0a_7 := cell_later hb7 p0a_6
      have p0b_7 := cell_later hb7 p0b_6
      have p1a_7 := cell_later hb7 p1a_6
      have p1b_7 := cell_later hb7 p1b_6
      have B_7 := B_6.trans (hb7.mono B_6.size)
      have Y_7 : Below w3.heap.size w3 w7 := Y_6.trans (hb7.mono Y_6.size)
      have zz7 : w6.heap.size ≤ w7.heap.size := by have q := hb7.size; first | exact q | simpa using q
      (try go_wp2_with fail)
      refine hK.out _ _ ?_ (fun hHeld' => ?_)
      · (try dsimp only)
        exact ⟨p0a_7, p0b_7, p1a_7, p1b_7⟩
      clear hK K hHeld
      have hHeld := hHeld'
      clear hHeld'
      (try simp only [Act.put, List.setIfInBounds_toArray, List.set_cons_zero, List.set_cons_succ])
      refine wpAnyH_ready (rs := [3, 10]) (by kernel_rfl) (by simp) ?_
      refine AllReadyH.cons (o := ?_) ?_ (fun K hK => ?_) ?_
      rotate_left
      · (simp only [List.getElem?_toArray, List.getElem?_cons_zero, List.getElem?_cons_succ]; rfl)
      · go_simp
        go_at_call 18
        refine (toTableG _ _ _ z1 p1x _ hs1 (ha1.below B_7)).mono ?_
        rintro e w8 ⟨g8, rfl, ho8, hb8⟩
        have p0a_8 := cell_later hb8 p0a_7
        have p0b_8 := cell_later hb8 p0b_7
        have p1a_8 := cell_later hb8 p1a_7
        have p1b_8 := cell_later hb8 p1b_7
        have t0_8 := ho7.below hb8
        have B_8 := B_7.trans (hb8.mono B_7.size)
        have Y_8 : Below w3.heap.size w3 w8 := Y_7.trans (hb8.mono Y_7.size)
        have zz8 : w7.heap.size ≤ w8.heap.size := by have q := hb8.size; first | exact q | simpa using q
        (try go_wp2_with fail)
        refine hK.out _ _ ?_ (fun hHeld' => ?_)
        · (try dsimp only)
          exact ⟨p0a_8, p0b_8, p1a_8, p1b_8⟩
        clear hK K hHeld
        have hHeld := hHeld'
        clear hHeld'
        (try simp only [Act.put, List.setIfInBounds_toArray, List.set_cons_zero, List.set_cons_succ])
        refine wpAnyH_ready (rs := [5, 10]) (by kernel_rfl) (by simp) ?_
        refine AllReadyH.cons (o := ?_) ?_ (fun K hK => ?_) ?_
        rotate_left
        · (simp only [List.getElem?_toArray, List.getElem?_cons_zero, List.getElem?_cons_succ]; rfl)
        · go_simp
          go_at_call 19
          refine (toIntSSG _ _ _ z2 _ hs2 (ha2.below B_8)).mono ?_
          rintro e w9 ⟨g9, rfl, ho9, hb9⟩
          have p0a_9 := cell_later hb9 p0a_8
          have p0b_9 := cell_later hb9 p0b_8
          have p1a_9 := cell_later hb9 p1a_8
          have p1b_9 := cell_later hb9 p1b_8
          have t0_9 := t0_8.below hb9
          have t1_9 := ho8.below hb9
          have B_9 := B_8.trans (hb9.mono B_8.size)
          have Y_9 : Below w3.heap.size w3 w9 := Y_8.trans (hb9.mono Y_8.size)
          have zz9 : w8.heap.size ≤ w9.heap.size := by have q := hb9.size; first | exact q | simpa using q
          (try go_wp2_with fail)
          refine hK.out _ _ ?_ (fun hHeld' => ?_)
          · (try dsimp only)
            exact ⟨p0a_9, p0b_9, p1a_9, p1b_9⟩
          clear hK K hHeld
          have hHeld := hHeld'
          clear hHeld'
          (try simp only [Act.put, List.setIfInBounds_toArray, List.set_cons_zero, List.set_cons_succ])
          refine wpAnyH_ready (rs := [6, 10]) (by kernel_rfl) (by simp) ?_
          refine AllReadyH.cons (o := ?_) ?_ (fun K hK => ?_) ?_
          rotate_left
          · (simp only [List.getElem?_toArray, List.getElem?_cons_zero, List.getElem?_cons_succ]; rfl)
          · go_simp
            go_at_call 17
            refine (HS.out _ _ _ _ _ _ _ _ _ _ _ _ _ t0_9 t1_9 ho9).mono ?_
            rintro e w10 ⟨⟨r10, m10, d10, cs10, rfl, ho10⟩, hb10⟩
            have p0a_10 := cell_later hb10 p0a_9
            have p0b_10 := cell_later hb10 p0b_9
            have p1a_10 := cell_later hb10 p1a_9
            have p1b_10 := cell_later hb10 p1b_9
            have B_10 := B_9.trans (hb10.mono B_9.size)
            have Y_10 : Below w3.heap.size w3 w10 := Y_9.trans (hb10.mono Y_9.size)
            have zz10 : w9.heap.size ≤ w10.heap.size := by have q := hb10.size; first | exact q | simpa using q
            (try go_wp2_with fail)
            refine hK.out _ _ ?_ (fun hHeld' => ?_)
            · (try dsimp only)
              exact ⟨p0a_10, p0b_10, p1a_10, p1b_10⟩
            clear hK K hHeld
            have hHeld := hHeld'
            clear hHeld'
            (try simp only [Act.put, List.setIfInBounds_toArray, List.set_cons_zero, List.set_cons_succ])
            refine tk 7 ?_
            refine tk 8 ?_
            refine tk 9 ?_
            refine wpAnyH_ready (rs := [10]) (by kernel_rfl) (by simp) ?_
            refine AllReadyH.cons (o := ?_) ?_ (fun K hK => ?_) AllReadyH.nil
            rotate_left
            · (simp only [List.getElem?_toArray, List.getElem?_cons_zero, List.getElem?_cons_succ]; rfl)
            go_simp
            skip
            (try go_wp2_with fail)
            refine hK.out _ _ ?_ (fun hHeld' => ?_)
            · (try dsimp only)
              exact ⟨cell_later ((Below.refl _ _).alloc (Nat.le_refl _) _) p0a_10, cell_later ((Below.refl _ _).alloc (Nat.le_refl _) _) p0b_10, cell_later ((Below.refl _ _).alloc (Nat.le_refl _) _) p1a_10, cell_later ((Below.refl _ _).alloc (Nat.le_refl _) _) p1b_10⟩
            clear hK K hHeld
            have hHeld := hHeld'
            clear hHeld'
            (try simp only [Act.put, List.setIfInBounds_toArray, List.set_cons_zero, List.set_cons_succ])
            refine wpAnyH_ready (rs := [11]) (by kernel_rfl) (by simp) ?_
            refine AllReadyH.cons (o := ?_) ?_ (fun K hK => ?_) AllReadyH.nil
            rotate_left
            · (simp only [List.getElem?_toArray, List.getElem?_cons_zero, List.getElem?_cons_succ]; rfl)
            go_simp
            skip
            (try go_wp2_with fail)
            refine hK.out _ _ ?_ (fun hHeld' => ?_)
            · (try dsimp only)
              exact ⟨cell_later ((Below.refl _ _).alloc (Nat.le_refl _) _) p0a_10, cell_later ((Below.refl _ _).alloc (Nat.le_refl _) _) p0b_10, cell_later ((Below.refl _ _).alloc (Nat.le_refl _) _) p1a_10, cell_later ((Below.refl _ _).alloc (Nat.le_refl _) _) p1b_10⟩
            clear hK K hHeld
            have hHeld := hHeld'
            clear hHeld'
            (try simp only [Act.put, List.setIfInBounds_toArray, List.set_cons_zero, List.set_cons_succ])
            refine tk 12 ?_
            refine wpAnyH_done (by kernel_rfl) ?_ _
            (try go_wp2_with fail)
            go_meet
            case rel =>
              have owk : OwnT w10 w9.heap.size w10.heap.size r10 m10 d10 ta := ⟨cs10, ho10⟩
              exact ⟨w10.heap.size, r10, m10, d10, w9.heap.size, w10.heap.size, rfl, rfl, pair0 w10 _ _ _, pair1 w10 _ _ _, owk.below ((Below.refl _ _).alloc (Nat.le_refl _) _), by omega, by simp, by omega, by simp, .inr (Nat.le_refl _), Y_10.alloc Y_10.size _⟩
          refine AllReadyH.cons (o := ?_) ?_ (fun K hK => ?_) AllReadyH.nil
          rotate_left
          · (simp only [List.getElem?_toArray, List.getElem?_cons_zero, List.getElem?_cons_succ]; rfl)
          · go_simp
            (try go_wp2_with fail)
            refine hK.out _ _ ?_ (fun hHeld' => ?_)
            · (try dsimp only)
              exact ⟨cell_later ((Below.refl _ _).alloc (Nat.le_refl _) _) p0a_9, cell_later ((Below.refl _ _).alloc (Nat.le_refl _) _) p0b_9, cell_later ((Below.refl _ _).alloc (Nat.le_refl _) _) p1a_9, cell_later ((Below.refl _ _).alloc (Nat.le_refl _) _) p1b_9⟩
            clear hK K hHeld
            have hHeld := hHeld'
            clear hHeld'
            (try simp only [Act.put, List.setIfInBounds_toArray, List.set_cons_zero, List.set_cons_succ])
            obtain ⟨w10, hU10⟩ : ∃ u, u = w9.alloc (.cells #[.int .i64 0, .slice none 0 0] 47) := ⟨_, rfl⟩
            have hb10 : Below w9.heap.size w9 w10 := by rw [hU10]; exact (Below.refl _ _).alloc (Nat.le_refl _) _
            have zp10 : w10.heap.size = w9.heap.size + 1 := by rw [hU10]; simp
            have hp10 : w10.heap[w9.heap.size]? = some (.cells #[.int .i64 0, .slice none 0 0] 47 (0, 0)) := by rw [hU10]; exact heap_alloc_new _ _
            rw [← hU10]
            clear hU10
            have p0a_10 := cell_later hb10 p0a_9
            have p0b_10 := cell_later hb10 p0b_9
            have p1a_10 := cell_later hb10 p1a_9
            have p1b_10 := cell_later hb10 p1b_9
            have t0_10 := t0_9.below hb10
            have t1_10 := t1_9.below hb10
            have t2_10 := ho9.below hb10
            have B_10 := B_9.trans (hb10.mono B_9.size)
            have Y_10 : Below w3.heap.size w3 w10 := Y_9.trans (hb10.mono Y_9.size)
            have zz10 : w9.heap.size ≤ w10.heap.size := by have q := hb10.size; first | exact q | simpa using q
            refine wpAnyH_ready (rs := [6]) (by kernel_rfl) (by simp) ?_
            refine AllReadyH.cons (o := ?_) ?_ (fun K hK => ?_) AllReadyH.nil
            rotate_left
            · (simp only [List.getElem?_toArray, List.getElem?_cons_zero, List.getElem?_cons_succ]; rfl)
            go_simp
            go_at_call 17
            refine (HS.out _ _ _ _ _ _ _ _ _ _ _ _ _ t0_10 t1_10 t2_10).mono ?_
            rintro e w11 ⟨⟨r11, m11, d11, cs11, rfl, ho11⟩, hb11⟩
            have p0a_11 := cell_later hb11 p0a_10
            have p0b_11 := cell_later hb11 p0b_10
            have p1a_11 := cell_later hb11 p1a_10
            have p1b_11 := cell_later hb11 p1b_10
            have hq11 := (hb11.block (w9.heap.size) (Array.getElem?_eq_some_iff.1 hp10).1).trans hp10
            have B_11 := B_10.trans (hb11.mono B_10.size)
            have Y_11 : Below w3.heap.size w3 w11 := Y_10.trans (hb11.mono Y_10.size)
            have zz11 : w10.heap.size ≤ w11.heap.size := by have q := hb11.size; first | exact q | simpa using q
            (try go_wp2_with fail)
            refine hK.out _ _ ?_ (fun hHeld' => ?_)
            · (try dsimp only)
              exact ⟨p0a_11, p0b_11, p1a_11, p1b_11⟩
            clear hK K hHeld
            have hHeld := hHeld'
            clear hHeld'
            (try simp only [Act.put, List.setIfInBounds_toArray, List.set_cons_zero, List.set_cons_succ])
            refine tk 7 ?_
            refine tk 8 ?_
            refine tk 9 ?_
            have u0 : w11.cell? ⟨w9.heap.size, 0, none⟩ = some (.int .i64 0) := by rw [cell_of_row _ _ 0 _ _ (0, 0) hq11]; rfl
            have u1 : w11.cell? ⟨w9.heap.size, 1, none⟩ = some (.slice none 0 0) := by rw [cell_of_row _ _ 1 _ _ (0, 0) hq11]; rfl
            have v0 : w11.frozen? ⟨w9.heap.size, 0, none⟩ = false := frozen_of_row _ _ 0 _ _ hq11
            have v1 : w11.frozen? ⟨w9.heap.size, 1, none⟩ = false := frozen_of_row _ _ 1 _ _ hq11
            refine wpAnyH_ready (rs := [11]) (by kernel_rfl) (by simp) ?_
            refine AllReadyH.cons (o := ?_) ?_ (fun K hK => ?_) AllReadyH.nil
            rotate_left
            · (simp only [List.getElem?_toArray, List.getElem?_cons_zero, List.getElem?_cons_succ]; rfl)
            go_simp
            skip
            (try go_wp2_with fail)
            refine hK.out _ _ ?_ (fun hHeld' => ?_)
            · (try dsimp only)
              exact ⟨keep_far (keep_far p0a_11 (by omega)) (by omega), keep_far (keep_far p0b_11 (by omega)) (by omega), keep_far (keep_far p1a_11 (by omega)) (by omega), keep_far (keep_far p1b_11 (by omega)) (by omega)⟩
            clear hK K hHeld
            have hHeld := hHeld'
            clear hHeld'
            (try simp only [Act.put, List.setIfInBounds_toArray, List.set_cons_zero, List.set_cons_succ])
            refine tk 12 ?_
            refine wpAnyH_done (by kernel_rfl) ?_ _
            (try go_wp2_with fail)
            go_meet
            case rel =>
              have owk : OwnT w11 w10.heap.size w11.heap.size r11 m11 d11 ta := ⟨cs11, ho11⟩
              exact ⟨w9.heap.size, r11, m11, d11, w10.heap.size, w11.heap.size, rfl, rfl, set2_0 hq11 _ _, set2_1 hq11 _ _, owk.set2 (.inl (by omega)) _ _, by omega, by simp [World.setCell], by omega, by simp only [World.setCell, Array.size_modify]; omega, .inl (by omega), (Y_11.setCell (by show w3.heap.size ≤ w9.heap.size; omega) _).setCell (by show w3.heap.size ≤ w9.heap.size; omega) _⟩
        refine AllReadyH.cons (o := ?_) ?_ (fun K hK => ?_) AllReadyH.nil
        rotate_left
        · (simp only [List.getElem?_toArray, List.getElem?_cons_zero, List.getElem?_cons_succ]; rfl)
        · go_simp
          (try go_wp2_with fail)
          refine hK.out _ _ ?_ (fun hHeld' => ?_)
          · (try dsimp only)
            exact ⟨cell_later ((Below.refl _ _).alloc (Nat.le_refl _) _) p0a_8, cell_later ((Below.refl _ _).alloc (Nat.le_refl _) _) p0b_8, cell_later ((Below.refl _ _).alloc (Nat.le_refl _) _) p1a_8, cell_later ((Below.refl _ _).alloc (Nat.le_refl _) _) p1b_8⟩
          clear hK K hHeld
          have hHeld := hHeld'
          clear hHeld'
          (try simp only [Act.put, List.setIfInBounds_toArray, List.set_cons_zero, List.set_cons_succ])
          obtain ⟨w9, hU9⟩ : ∃ u, u = w8.alloc (.cells #[.int .i64 0, .slice none 0 0] 47) := ⟨_, rfl⟩
          have hb9 : Below w8.heap.size w8 w9 := by rw [hU9]; exact (Below.refl _ _).alloc (Nat.le_refl _) _
          have zp9 : w9.heap.size = w8.heap.size + 1 := by rw [hU9]; simp
          have hp9 : w9.heap[w8.heap.size]? = some (.cells #[.int .i64 0, .slice none 0 0] 47 (0, 0)) := by rw [hU9]; exact heap_alloc_new _ _
          rw [← hU9]
          clear hU9
          have p0a_9 := cell_later hb9 p0a_8
          have p0b_9 := cell_later hb9 p0b_8
          have p1a_9 := cell_later hb9 p1a_8
          have p1b_9 := cell_later hb9 p1b_8
          have t0_9 := t0_8.below hb9
          have t1_9 := ho8.below hb9
          have B_9 := B_8.trans (hb9.mono B_8.size)
          have Y_9 : Below w3.heap.size w3 w9 := Y_8.trans (hb9.mono Y_8.size)
          have zz9 : w8.heap.size ≤ w9.heap.size := by have q := hb9.size; first | exact q | simpa using q
          refine wpAnyH_ready (rs := [5]) (by kernel_rfl) (by simp) ?_
          refine AllReadyH.cons (o := ?_) ?_ (fun K hK => ?_) AllReadyH.nil
          rotate_left
          · (simp only [List.getElem?_toArray, List.getElem?_cons_zero, List.getElem?_cons_succ]; rfl)
          go_simp
          go_at_call 19
          refine (toIntSSG _ _ _ z2 _ hs2 (ha2.below B_9)).mono ?_
          rintro e w10 ⟨g10, rfl, ho10, hb10⟩
          have p0a_10 := cell_later hb10 p0a_9
          have p0b_10 := cell_later hb10 p0b_9
          have p1a_10 := cell_later hb10 p1a_9
          have p1b_10 := cell_later hb10 p1b_9
          have t0_10 := t0_9.below hb10
          have t1_10 := t1_9.below hb10
          have hq10 := (hb10.block (w8.heap.size) (Array.getElem?_eq_some_iff.1 hp9).1).trans hp9
          have B_10 := B_9.trans (hb10.mono B_9.size)
          have Y_10 : Below w3.heap.size w3 w10 := Y_9.trans (hb10.mono Y_9.size)
          have zz10 : w9.heap.size ≤ w10.heap.size := by have q := hb10.size; first | exact q | simpa using q
          (try go_wp2_with fail)
          refine hK.out _ _ ?_ (fun hHeld' => ?_)
          · (try dsimp only)
            exact ⟨p0a_10, p0b_10, p1a_10, p1b_10⟩
          clear hK K hHeld
          have hHeld := hHeld'
          clear hHeld'
          (try simp only [Act.put, List.setIfInBounds_toArray, List.set_cons_zero, List.set_cons_succ])
          refine wpAnyH_ready (rs := [6]) (by kernel_rfl) (by simp) ?_
          refine AllReadyH.cons (o := ?_) ?_ (fun K hK => ?_) AllReadyH.nil
          rotate_left
          · (simp only [List.getElem?_toArray, List.getElem?_cons_zero, List.getElem?_cons_succ]; rfl)
          go_simp
          go_at_call 17
          refine (HS.out _ _ _ _ _ _ _ _ _ _ _ _ _ t0_10 t1_10 ho10).mono ?_
          rintro e w11 ⟨⟨r11, m11, d11, cs11, rfl, ho11⟩, hb11⟩
          have p0a_11 := cell_later hb11 p0a_10
          have p0b_11 := cell_later hb11 p0b_10
          have p1a_11 := cell_later hb11 p1a_10
          have p1b_11 := cell_later hb11 p1b_10
          have hq11 := (hb11.block (w8.heap.size) (Array.getElem?_eq_some_iff.1 hq10).1).trans hq10
          have B_11 := B_10.trans (hb11.mono B_10.size)
          have Y_11 : Below w3.heap.size w3 w11 := Y_10.trans (hb11.mono Y_10.size)
          have zz11 : w10.heap.size ≤ w11.heap.size := by have q := hb11.size; first | exact q | simpa using q
          (try go_wp2_with fail)
          refine hK.out _ _ ?_ (fun hHeld' => ?_)
          · (try dsimp only)
            exact ⟨p0a_11, p0b_11, p1a_11, p1b_11⟩
          clear hK K hHeld
          have hHeld := hHeld'
          clear hHeld'
          (try simp only [Act.put, List.setIfInBounds_toArray, List.set_cons_zero, List.set_cons_succ])
          refine tk 7 ?_
          refine tk 8 ?_
          refine tk 9 ?_
          have u0 : w11.cell? ⟨w8.heap.size, 0, none⟩ = some (.int .i64 0) := by rw [cell_of_row _ _ 0 _ _ (0, 0) hq11]; rfl
          have u1 : w11.cell? ⟨w8.heap.size, 1, none⟩ = some (.slice none 0 0) := by rw [cell_of_row _ _ 1 _ _ (0, 0) hq11]; rfl
          have v0 : w11.frozen? ⟨w8.heap.size, 0, none⟩ = false := frozen_of_row _ _ 0 _ _ hq11
          have v1 : w11.frozen? ⟨w8.heap.size, 1, none⟩ = false := frozen_of_row _ _ 1 _ _ hq11
          refine wpAnyH_ready (rs := [11]) (by kernel_rfl) (by simp) ?_
          refine AllReadyH.cons (o := ?_) ?_ (fun K hK => ?_) AllReadyH.nil
          rotate_left
          · (simp only [List.getElem?_toArray, List.getElem?_cons_zero, List.getElem?_cons_succ]; rfl)
          go_simp
          skip
          (try go_wp2_with fail)
          refine hK.out _ _ ?_ (fun hHeld' => ?_)
          · (try dsimp only)
            exact ⟨keep_far (keep_far p0a_11 (by omega)) (by omega), keep_far (keep_far p0b_11 (by omega)) (by omega), keep_far (keep_far p1a_11 (by omega)) (by omega), keep_far (keep_far p1b_11 (by omega)) (by omega)⟩
          clear hK K hHeld
          have hHeld := hHeld'
          clear hHeld'
          (try simp only [Act.put, List.setIfInBounds_toArray, List.set_cons_zero, List.set_cons_succ])
          refine tk 12 ?_
          refine wpAnyH_done (by kernel_rfl) ?_ _
          (try go_wp2_with fail)
          go_meet
          case rel =>
            have owk : OwnT w11 w10.heap.size w11.heap.size r11 m11 d11 ta := ⟨cs11, ho11⟩
            exact ⟨w8.heap.size, r11, m11, d11, w10.heap.size, w11.heap.size, rfl, rfl, set2_0 hq11 _ _, set2_1 hq11 _ _, owk.set2 (.inl (by omega)) _ _, by omega, by simp [World.setCell], by omega, by simp only [World.setCell, Array.size_modify]; omega, .inl (by omega), (Y_11.setCell (by show w3.heap.size ≤ w8.heap.size; omega) _).setCell (by show w3.heap.size ≤ w8.heap.size; omega) _⟩
      refine AllReadyH.cons (o := ?_) ?_ (fun K hK => ?_) AllReadyH.nil
      rotate_left
      · (simp only [List.getElem?_toArray, List.getElem?_cons_zero, List.getElem?_cons_succ]; rfl)
      · go_simp
        (try go_wp2_with fail)
        refine hK.out _ _ ?_ (fun hHeld' => ?_)
        · (try dsimp only)
          exact ⟨cell_later ((Below.refl _ _).alloc (Nat.le_refl _) _) p0a_7, cell_later ((Below.refl _ _).alloc (Nat.le_refl _) _) p0b_7, cell_later ((Below.refl _ _).alloc (Nat.le_refl _) _) p1a_7, cell_later ((Below.refl _ _).alloc (Nat.le_refl _) _) p1b_7⟩
        clear hK K hHeld
        have hHeld := hHeld'
        clear hHeld'
        (try simp only [Act.put, List.setIfInBounds_toArray, List.set_cons_zero, List.set_cons_succ])
        obtain ⟨w8, hU8⟩ : ∃ u, u = w7.alloc (.cells #[.int .i64 0, .slice none 0 0] 47) := ⟨_, rfl⟩
        have hb8 : Below w7.heap.size w7 w8 := by rw [hU8]; exact (Below.refl _ _).alloc (Nat.le_refl _) _
        have zp8 : w8.heap.size = w7.heap.size + 1 := by rw [hU8]; simp
        have hp8 : w8.heap[w7.heap.size]? = some (.cells #[.int .i64 0, .slice none 0 0] 47 (0, 0)) := by rw [hU8]; exact heap_alloc_new _ _
        rw [← hU8]
        clear hU8
        have p0a_8 := cell_later hb8 p0a_7
        have p0b_8 := cell_later hb8 p0b_7
        have p1a_8 := cell_later hb8 p1a_7
        have p1b_8 := cell_later hb8 p1b_7
        have t0_8 := ho7.below hb8
        have B_8 := B_7.trans (hb8.mono B_7.size)
        have Y_8 : Below w3.heap.size w3 w8 := Y_7.trans (hb8.mono Y_7.size)
        have zz8 : w7.heap.size ≤ w8.heap.size := by have q := hb8.size; first | exact q | simpa using q
        refine wpAnyH_ready (rs := [3]) (by kernel_rfl) (by simp) ?_
        refine AllReadyH.cons (o := ?_) ?_ (fun K hK => ?_) AllReadyH.nil
        rotate_left
        · (simp only [List.getElem?_toArray, List.getElem?_cons_zero, List.getElem?_cons_succ]; rfl)
        go_simp
        go_at_call 18
        refine (toTableG _ _ _ z1 p1x _ hs1 (ha1.below B_8)).mono ?_
        rintro e w9 ⟨g9, rfl, ho9, hb9⟩
        have p0a_9 := cell_later hb9 p0a_8
        have p0b_9 := cell_later hb9 p0b_8
        have p1a_9 := cell_later hb9 p1a_8
        have p1b_9 := cell_later hb9 p1b_8
        have t0_9 := t0_8.below hb9
        have hq9 := (hb9.block (w7.heap.size) (Array.getElem?_eq_some_iff.1 hp8).1).trans hp8
        have B_9 := B_8.trans (hb9.mono B_8.size)
        have Y_9 : Below w3.heap.size w3 w9 := Y_8.trans (hb9.mono Y_8.size)
        have zz9 : w8.heap.size ≤ w9.heap.size := by have q := hb9.size; first | exact q | simpa using q
        (try go_wp2_with fail)
        refine hK.out _ _ ?_ (fun hHeld' => ?_)
        · (try dsimp only)
          exact ⟨p0a_9, p0b_9, p1a_9, p1b_9⟩
        clear hK K hHeld
        have hHeld := hHeld'
        clear hHeld'
        (try simp only [Act.put, List.setIfInBounds_toArray, List.set_cons_zero, List.set_cons_succ])
        refine wpAnyH_ready (rs := [5]) (by kernel_rfl) (by simp) ?_
        refine AllReadyH.cons (o := ?_) ?_ (fun K hK => ?_) AllReadyH.nil
        rotate_left
        · (simp only [List.getElem?_toArray, List.getElem?_cons_zero, List.getElem?_cons_succ]; rfl)
        go_simp
        go_at_call 19
        refine (toIntSSG _ _ _ z2 _ hs2 (ha2.below B_9)).mono ?_
        rintro e w10 ⟨g10, rfl, ho10, hb10⟩
        have p0a_10 := cell_later hb10 p0a_9
        have p0b_10 := cell_later hb10 p0b_9
        have p1a_10 := cell_later hb10 p1a_9
        have p1b_10 := cell_later hb10 p1b_9
        have t0_10 := t0_9.below hb10
        have t1_10 := ho9.below hb10
        have hq10 := (hb10.block (w7.heap.size) (Array.getElem?_eq_some_iff.1 hq9).1).trans hq9
        have B_10 := B_9.trans (hb10.mono B_9.size)
        have Y_10 : Below w3.heap.size w3 w10 := Y_9.trans (hb10.mono Y_9.size)
        have zz10 : w9.heap.size ≤ w10.heap.size := by have q := hb10.size; first | exact q | simpa using q
        (try go_wp2_with fail)
        refine hK.out _ _ ?_ (fun hHeld' => ?_)
        · (try dsimp only)
          exact ⟨p0a_10, p0b_10, p1a_10, p1b_10⟩
        clear hK K hHeld
        have hHeld := hHeld'
        clear hHeld'
        (try simp only [Act.put, List.setIfInBounds_toArray, List.set_cons_zero, List.set_cons_succ])
        refine wpAnyH_ready (rs := [6]) (by kernel_rfl) (by simp) ?_
        refine AllReadyH.cons (o := ?_) ?_ (fun K hK => ?_) AllReadyH.nil
        rotate_left
        · (simp only [List.getElem?_toArray, List.getElem?_cons_zero, List.getElem?_cons_succ]; rfl)
        go_simp
        go_at_call 17
        refine (HS.out _ _ _ _ _ _ _ _ _ _ _ _ _ t0_10 t1_10 ho10).mono ?_
        rintro e w11 ⟨⟨r11, m11, d11, cs11, rfl, ho11⟩, hb11⟩
        have p0a_11 := cell_later hb11 p0a_10
        have p0b_11 := cell_later hb11 p0b_10
        have p1a_11 := cell_later hb11 p1a_10
        have p1b_11 := cell_later hb11 p1b_10
        have hq11 := (hb11.block (w7.heap.size) (Array.getElem?_eq_some_iff.1 hq10).1).trans hq10
        have B_11 := B_10.trans (hb11.mono B_10.size)
        have Y_11 : Below w3.heap.size w3 w11 := Y_10.trans (hb11.mono Y_10.size)
        have zz11 : w10.heap.size ≤ w11.heap.size := by have q := hb11.size; first | exact q | simpa using q
        (try go_wp2_with fail)
        refine hK.out _ _ ?_ (fun hHeld' => ?_)
        · (try dsimp only)
          exact ⟨p0a_11, p0b_11, p1a_11, p1b_11⟩
        clear hK K hHeld
        have hHeld := hHeld'
        clear hHeld'
        (try simp only [Act.put, List.setIfInBounds_toArray, List.set_cons_zero, List.set_cons_succ])
        refine tk 7 ?_
        refine tk 8 ?_
        refine tk 9 ?_
        have u0 : w11.cell? ⟨w7.heap.size, 0, none⟩ = some (.int .i64 0) := by rw [cell_of_row _ _ 0 _ _ (0, 0) hq11]; rfl
        have u1 : w11.cell? ⟨w7.heap.size, 1, none⟩ = some (.slice none 0 0) := by rw [cell_of_row _ _ 1 _ _ (0, 0) hq11]; rfl
        have v0 : w11.frozen? ⟨w7.heap.size, 0, none⟩ = false := frozen_of_row _ _ 0 _ _ hq11
        have v1 : w11.frozen? ⟨w7.heap.size, 1, none⟩ = false := frozen_of_row _ _ 1 _ _ hq11
        refine wpAnyH_ready (rs := [11]) (by kernel_rfl) (by simp) ?_
        refine AllReadyH.cons (o := ?_) ?_ (fun K hK => ?_) AllReadyH.nil
        rotate_left
        · (simp only [List.getElem?_toArray, List.getElem?_cons_zero, List.getElem?_cons_succ]; rfl)
        go_simp
        skip
        (try go_wp2_with fail)
        refine hK.out _ _ ?_ (fun hHeld' => ?_)
        · (try dsimp only)
          exact ⟨keep_far (keep_far p0a_11 (by omega)) (by omega), keep_far (keep_far p0b_11 (by omega)) (by omega), keep_far (keep_far p1a_11 (by omega)) (by omega), keep_far (keep_far p1b_11 (by omega)) (by omega)⟩
        clear hK K hHeld
        have hHeld := hHeld'
        clear hHeld'
        (try simp only [Act.put, List.setIfInBounds_toArray, List.set_cons_zero, List.set_cons_succ])
        refine tk 12 ?_
        refine wpAnyH_done (by kernel_rfl) ?_ _
        (try go_wp2_with fail)
        go_meet
        case rel =>
          have owk : OwnT w11 w10.heap.size w11.heap.size r11 m11 d11 ta := ⟨cs11, ho11⟩
          exact ⟨w7.heap.size, r11, m11, d11, w10.heap.size, w11.heap.size, rfl, rfl, set2_0 hq11 _ _, set2_1 hq11 _ _, owk.set2 (.inl (by omega)) _ _, by omega, by simp [World.setCell], by omega, by simp only [World.setCell, Array.size_modify]; omega, .inl (by omega), (Y_11.setCell (by show w3.heap.size ≤ w7.heap.size; omega) _).setCell (by show w3.heap.size ≤ w7.heap.size; omega) _⟩
    refine AllReadyH.cons (o := ?_) ?_ (fun K hK => ?_) AllReadyH.nil
    rotate_left
    · (simp only [List.getElem?_toArray, List.getElem?_cons_zero, List.getElem?_cons_succ]; rfl)
    · go_simp
      (try go_wp2_with fail)
      refine hK.out _ _ ?_ (fun hHeld' => ?_)
      · (try dsimp only)
        exact ⟨cell_later ((Below.refl _ _).alloc (Nat.le_refl _) _) p0a_6, cell_later ((Below.refl _ _).alloc (Nat.le_refl _) _) p0b_6, cell_later ((Below.refl _ _).alloc (Nat.le_refl _) _) p1a_6, cell_later ((Below.refl _ _).alloc (Nat.le_refl _) _) p1b_6⟩
      clear hK K hHeld
      have hHeld := hHeld'
      clear hHeld'
      (try simp only [Act.put, List.setIfInBounds_toArray, List.set_cons_zero, List.set_cons_succ])
      obtain ⟨w7, hU7⟩ : ∃ u, u = w6.alloc (.cells #[.int .i64 0, .slice none 0 0] 47) := ⟨_, rfl⟩
      have hb7 : Below w6.heap.size w6 w7 := by rw [hU7]; exact (Below.refl _ _).alloc (Nat.le_refl _) _
      have zp7 : w7.heap.size = w6.heap.size + 1 := by rw [hU7]; simp
      have hp7 : w7.heap[w6.heap.size]? = some (.cells #[.int .i64 0, .slice none 0 0] 47 (0, 0)) := by rw [hU7]; exact heap_alloc_new _ _
      rw [← hU7]
      clear hU7
      have p0a_7 := cell_later hb7 p0a_6
      have p0b_7 := cell_later hb7 p0b_6
      have p1a_7 := cell_later hb7 p1a_6
      have p1b_7 := cell_later hb7 p1b_6
      have B_7 := B_6.trans (hb7.mono B_6.size)
      have Y_7 : Below w3.heap.size w3 w7 := Y_6.trans (hb7.mono Y_6.size)
      have zz7 : w6.heap.size ≤ w7.heap.size := by have q := hb7.size; first | exact q | simpa using q
      refine wpAnyH_ready (rs := [1]) (by kernel_rfl) (by simp) ?_
      refine AllReadyH.cons (o := ?_) ?_ (fun K hK => ?_) AllReadyH.nil
      rotate_left
      · (simp only [List.getElem?_toArray, List.getElem?_cons_zero, List.getElem?_cons_succ]; rfl)
      go_simp
      go_at_call 18
      refine (toTableG _ _ _ z0 p0x _ hs0 (ha0.below B_7)).mono ?_
      rintro e w8 ⟨g8, rfl, ho8, hb8⟩
      have p0a_8 := cell_later hb8 p0a_7
      have p0b_8 := cell_later hb8 p0b_7
      have p1a_8 := cell_later hb8 p1a_7
      have p1b_8 := cell_later hb8 p1b_7
      have hq8 := (hb8.block (w6.heap.size) (Array.getElem?_eq_some_iff.1 hp7).1).trans hp7
      have B_8 := B_7.trans (hb8.mono B_7.size)
      have Y_8 : Below w3.heap.size w3 w8 := Y_7.trans (hb8.mono Y_7.size)
      have zz8 : w7.heap.size ≤ w8.heap.size := by have q := hb8.size; first | exact q | simpa using q
      (try go_wp2_with fail)
      refine hK.out _ _ ?_ (fun hHeld' => ?_)
      · (try dsimp only)
        exact ⟨p0a_8, p0b_8, p1a_8, p1b_8⟩
      clear hK K hHeld
      have hHeld := hHeld'
      clear hHeld'
      (try simp only [Act.put, List.setIfInBounds_toArray, List.set_cons_zero, List.set_cons_succ])
      refine wpAnyH_ready (rs := [3]) (by kernel_rfl) (by simp) ?_
      refine AllReadyH.cons (o := ?_) ?_ (fun K hK => ?_) AllReadyH.nil
      rotate_left
      · (simp only [List.getElem?_toArray, List.getElem?_cons_zero, List.getElem?_cons_succ]; rfl)
      go_simp
      go_at_call 18
      refine (toTableG _ _ _ z1 p1x _ hs1 (ha1.below B_8)).mono ?_
      rintro e w9 ⟨g9, rfl, ho9, hb9⟩
      have p0a_9 := cell_later hb9 p0a_8
      have p0b_9 := cell_later hb9 p0b_8
      have p1a_9 := cell_later hb9 p1a_8
      have p1b_9 := cell_later hb9 p1b_8
      have t0_9 := ho8.below hb9
      have hq9 := (hb9.block (w6.heap.size) (Array.getElem?_eq_some_iff.1 hq8).1).trans hq8
      have B_9 := B_8.trans (hb9.mono B_8.size)
      have Y_9 : Below w3.heap.size w3 w9 := Y_8.trans (hb9.mono Y_8.size)
      have zz9 : w8.heap.size ≤ w9.heap.size := by have q := hb9.size; first | exact q | simpa using q
      (try go_wp2_with fail)
      refine hK.out _ _ ?_ (fun hHeld' => ?_)
      · (try dsimp only)
        exact ⟨p0a_9, p0b_9, p1a_9, p1b_9⟩
      clear hK K hHeld
      have hHeld := hHeld'
      clear hHeld'
      (try simp only [Act.put, List.setIfInBounds_toArray, List.set_cons_zero, List.set_cons_succ])
      refine wpAnyH_ready (rs := [5]) (by kernel_rfl) (by simp) ?_
      refine AllReadyH.cons (o := ?_) ?_ (fun K hK => ?_) AllReadyH.nil
      rotate_left
      · (simp only [List.getElem?_toArray, List.getElem?_cons_zero, List.getElem?_cons_succ]; rfl)
      go_simp
      go_at_call 19
      refine (toIntSSG _ _ _ z2 _ hs2 (ha2.below B_9)).mono ?_
      rintro e w10 ⟨g10, rfl, ho10, hb10⟩
      have p0a_10 := cell_later hb10 p0a_9
      have p0b_10 := cell_later hb10 p0b_9
      have p1a_10 := cell_later hb10 p1a_9
      have p1b_10 := cell_later hb10 p1b_9
      have t0_10 := t0_9.below hb10
      have t1_10 := ho9.below hb10
      have hq10 := (hb10.block (w6.heap.size) (Array.getElem?_eq_some_iff.1 hq9).1).trans hq9
      have B_10 := B_9.trans (hb10.mono B_9.size)
      have Y_10 : Below w3.heap.size w3 w10 := Y_9.trans (hb10.mono Y_9.size)
      have zz10 : w9.heap.size ≤ w10.heap.size := by have q := hb10.size; first | exact q | simpa using q
      (try go_wp2_with fail)
      refine hK.out _ _ ?_ (fun hHeld' => ?_)
      · (try dsimp only)
        exact ⟨p0a_10, p0b_10, p1a_10, p1b_10⟩
      clear hK K hHeld
      have hHeld := hHeld'
      clear hHeld'
      (try simp only [Act.put, List.setIfInBounds_toArray, List.set_cons_zero, List.set_cons_succ])
      refine wpAnyH_ready (rs := [6]) (by kernel_rfl) (by simp) ?_
      refine AllReadyH.cons (o := ?_) ?_ (fun K hK => ?_) AllReadyH.nil
      rotate_left
      · (simp only [List.getElem?_toArray, List.getElem?_cons_zero, List.getElem?_cons_succ]; rfl)
      go_simp
      go_at_call 17
      refine (HS.out _ _ _ _ _ _ _ _ _ _ _ _ _ t0_10 t1_10 ho10).mono ?_
      rintro e w11 ⟨⟨r11, m11, d11, cs11, rfl, ho11⟩, hb11⟩
      have p0a_11 := cell_later hb11 p0a_10
      have p0b_11 := cell_later hb11 p0b_10
      have p1a_11 := cell_later hb11 p1a_10
      have p1b_11 := cell_later hb11 p1b_10
      have hq11 := (hb11.block (w6.heap.size) (Array.getElem?_eq_some_iff.1 hq10).1).trans hq10
      have B_11 := B_10.trans (hb11.mono B_10.size)
      have Y_11 : Below w3.heap.size w3 w11 := Y_10.trans (hb11.mono Y_10.size)
      have zz11 : w10.heap.size ≤ w11.heap.size := by have q := hb11.size; first | exact q | simpa using q
      (try go_wp2_with fail)
      refine hK.out _ _ ?_ (fun hHeld' => ?_)
      · (try dsimp only)
        exact ⟨p0a_11, p0b_11, p1a_11, p1b_11⟩
      clear hK K hHeld
      have hHeld := hHeld'
      clear hHeld'
      (try simp only [Act.put, List.setIfInBounds_toArray, List.set_cons_zero, List.set_cons_succ])
      refine tk 7 ?_
      refine tk 8 ?_
      refine tk 9 ?_
      have u0 : w11.cell? ⟨w6.heap.size, 0, none⟩ = some (.int .i64 0) := by rw [cell_of_row _ _ 0 _ _ (0, 0) hq11]; rfl
      have u1 : w11.cell? ⟨w6.heap.size, 1, none⟩ = some (.slice none 0 0) := by rw [cell_of_row _ _ 1 _ _ (0, 0) hq11]; rfl
      have v0 : w11.frozen? ⟨w6.heap.size, 0, none⟩ = false := frozen_of_row _ _ 0 _ _ hq11
      have v1 : w11.frozen? ⟨w6.heap.size, 1, none⟩ = false := frozen_of_row _ _ 1 _ _ hq11
      refine wpAnyH_ready (rs := [11]) (by kernel_rfl) (by simp) ?_
      refine AllReadyH.cons (o := ?_) ?_ (fun K hK => ?_) AllReadyH.nil
      rotate_left
      · (simp only [List.getElem?_toArray, List.getElem?_cons_zero, List.getElem?_cons_succ]; rfl)
      go_simp
      skip
      (try go_wp2_with fail)
      refine hK.out _ _ ?_ (fun hHeld' => ?_)
      · (try dsimp only)
        exact ⟨keep_far (keep_far p0a_11 (by omega)) (by omega), keep_far (keep_far p0b_11 (by omega)) (by omega), keep_far (keep_far p1a_11 (by omega)) (by omega), keep_far (keep_far p1b_11 (by omega)) (by omega)⟩
      clear hK K hHeld
      have hHeld := hHeld'
      clear hHeld'
      (try simp only [Act.put, List.setIfInBounds_toArray, List.set_cons_zero, List.set_cons_succ])
      refine tk 12 ?_
      refine wpAnyH_done (by kernel_rfl) ?_ _
      (try go_wp2_with fail)
      go_meet
      case rel =>
        have owk : OwnT w11 w10.heap.size w11.heap.size r11 m11 d11 ta := ⟨cs11, ho11⟩
        exact ⟨w6.heap.size, r11, m11, d11, w10.heap.size, w11.heap.size, rfl, rfl, set2_0 hq11 _ _, set2_1 hq11 _ _, owk.set2 (.inl (by omega)) _ _, by omega, by simp [World.setCell], by omega, by simp only [World.setCell, Array.size_modify]; omega, .inl (by omega), (Y_11.setCell (by show w3.heap.size ≤ w6.heap.size; omega) _).setCell (by show w3.heap.size ≤ w6.heap.size; omega) _⟩
  case rest =>
    obtain ⟨Pb64, r64, m64, d64, lo64, hi64, rfl, rfl, Wa_64, Wb_64, ow64, pl64, ph64, pm64, pn64, pd64, hb64⟩ := hcut
    obtain ⟨w64, rfl⟩ : ∃ x, x = wc := ⟨_, rfl⟩
    obtain rfl : na = m64 := HNA.out.symm.trans ow64.len
    have p0a_64 := cell_later hb64 p0a_3
    have p0b_64 := cell_later hb64 p0b_3
    have p1a_64 := cell_later hb64 p1a_3
    have p1b_64 := cell_later hb64 p1b_3
    have B_64 := B_3.trans (hb64.mono B_3.size)
    have zz64 : w3.heap.size ≤ w64.heap.size := by have q := hb64.size; first | exact q | simpa using q
    clear p0a_3 p0b_3 p1a_3 p1b_3 B_3
    clear hb64
    go_wp2_with fail
    refine (toTableG _ _ _ z0 p0x _ hs0 (ha0.below B_64)).mono ?_
    rintro e w65 ⟨g65, rfl, ho65, hb65⟩
    have p0a_65 := cell_later hb65 p0a_64
    have p0b_65 := cell_later hb65 p0b_64
    have p1a_65 := cell_later hb65 p1a_64
    have p1b_65 := cell_later hb65 p1b_64
    have Wa_65 := cell_later hb65 Wa_64
    have Wb_65 := cell_later hb65 Wb_64
    have o_65 := ow64.below hb65
    have B_65 := B_64.trans (hb65.mono B_64.size)
    have zz65 : w64.heap.size ≤ w65.heap.size := by have q := hb65.size; first | exact q | simpa using q
    clear p0a_64 p0b_64 p1a_64 p1b_64 Wa_64 Wb_64 ow64 B_64
    clear hb65
    have ox65 : OwnT w65 (w64.heap.size) w65.heap.size (some ⟨g65, 0, none⟩) n0 n0 z0 := by first | exact ho65 | simpa using ho65
    clear ho65
    have hb66 : Below w65.heap.size w65 (w65.alloc (.cells #[.int .i64 p0x, .slice (some ⟨g65, 0, none⟩) n0 n0] 47)) := (Below.refl _ _).alloc (Nat.le_refl _) _
    have p0a_66 := cell_later hb66 p0a_65
    have p0b_66 := cell_later hb66 p0b_65
    have p1a_66 := cell_later hb66 p1a_65
    have p1b_66 := cell_later hb66 p1b_65
    have Wa_66 := cell_later hb66 Wa_65
    have Wb_66 := cell_later hb66 Wb_65
    have o_66 := o_65.below hb66
    have x0_66 := ox65.below hb66
    have B_66 := B_65.trans (hb66.mono B_65.size)
    have zz66 : w65.heap.size ≤ w65.heap.size + 1 := by simp
    clear p0a_65 p0b_65 p1a_65 p1b_65 Wa_65 Wb_65 o_65 ox65 B_65
    have X0a_66 : (w65.alloc (.cells #[.int .i64 p0x, .slice (some ⟨g65, 0, none⟩) n0 n0] 47)).cell? ⟨w65.heap.size, 0, none⟩ = some (.int .i64 p0x) := by simp
    have X0b_66 : (w65.alloc (.cells #[.int .i64 p0x, .slice (some ⟨g65, 0, none⟩) n0 n0] 47)).cell? ⟨w65.heap.size, 1, none⟩ = some (.slice (some ⟨g65, 0, none⟩) n0 n0) := by simp
    clear hb66
    go_wp2_with fail
    refine (toTableG _ _ _ z1 p1x _ hs1 (ha1.below B_66)).mono ?_
    rintro e w67 ⟨g67, rfl, ho67, hb67⟩
    have p0a_67 := cell_later hb67 p0a_66
    have p0b_67 := cell_later hb67 p0b_66
    have p1a_67 := cell_later hb67 p1a_66
    have p1b_67 := cell_later hb67 p1b_66
    have Wa_67 := cell_later hb67 Wa_66
    have Wb_67 := cell_later hb67 Wb_66
    have X0a_67 := cell_later hb67 X0a_66
    have X0b_67 := cell_later hb67 X0b_66
    have o_67 := o_66.below hb67
    have x0_67 := x0_66.below hb67
    have B_67 := B_66.trans (hb67.mono B_66.size)
    have zz67 : w65.heap.size + 1 ≤ w67.heap.size := by have q := hb67.size; first | exact q | simpa using q
    clear p0a_66 p0b_66 p1a_66 p1b_66 Wa_66 Wb_66 X0a_66 X0b_66 o_66 x0_66 B_66
    clear hb67
    have ox67 : OwnT w67 (w65.heap.size + 1) w67.heap.size (some ⟨g67, 0, none⟩) n1 n1 z1 := by first | exact ho67 | simpa using ho67
    clear ho67
    have hb68 : Below w67.heap.size w67 (w67.alloc (.cells #[.int .i64 p1x, .slice (some ⟨g67, 0, none⟩) n1 n1] 47)) := (Below.refl _ _).alloc (Nat.le_refl _) _
    have p0a_68 := cell_later hb68 p0a_67
    have p0b_68 := cell_later hb68 p0b_67
    have p1a_68 := cell_later hb68 p1a_67
    have p1b_68 := cell_later hb68 p1b_67
    have Wa_68 := cell_later hb68 Wa_67
    have Wb_68 := cell_later hb68 Wb_67
    have X0a_68 := cell_later hb68 X0a_67
    have X0b_68 := cell_later hb68 X0b_67
    have o_68 := o_67.below hb68
    have x0_68 := x0_67.below hb68
    have x1_68 := ox67.below hb68
    have B_68 := B_67.trans (hb68.mono B_67.size)
    have zz68 : w67.heap.size ≤ w67.heap.size + 1 := by simp
    clear p0a_67 p0b_67 p1a_67 p1b_67 Wa_67 Wb_67 X0a_67 X0b_67 o_67 x0_67 ox67 B_67
    have X1a_68 : (w67.alloc (.cells #[.int .i64 p1x, .slice (some ⟨g67, 0, none⟩) n1 n1] 47)).cell? ⟨w67.heap.size, 0, none⟩ = some (.int .i64 p1x) := by simp
    have X1b_68 : (w67.alloc (.cells #[.int .i64 p1x, .slice (some ⟨g67, 0, none⟩) n1 n1] 47)).cell? ⟨w67.heap.size, 1, none⟩ = some (.slice (some ⟨g67, 0, none⟩) n1 n1) := by simp
    clear hb68
    go_wp2_with fail
    refine (toIntSSG _ _ _ z2 _ hs2 (ha2.below B_68)).mono ?_
    rintro e w69 ⟨g69, rfl, ho69, hb69⟩
    have p0a_69 := cell_later hb69 p0a_68
    have p0b_69 := cell_later hb69 p0b_68
    have p1a_69 := cell_later hb69 p1a_68
    have p1b_69 := cell_later hb69 p1b_68
    have Wa_69 := cell_later hb69 Wa_68
    have Wb_69 := cell_later hb69 Wb_68
    have X0a_69 := cell_later hb69 X0a_68
    have X0b_69 := cell_later hb69 X0b_68
    have X1a_69 := cell_later hb69 X1a_68
    have X1b_69 := cell_later hb69 X1b_68
    have o_69 := o_68.below hb69
    have x0_69 := x0_68.below hb69
    have x1_69 := x1_68.below hb69
    have B_69 := B_68.trans (hb69.mono B_68.size)
    have zz69 : w67.heap.size + 1 ≤ w69.heap.size := by have q := hb69.size; first | exact q | simpa using q
    clear p0a_68 p0b_68 p1a_68 p1b_68 Wa_68 Wb_68 X0a_68 X0b_68 X1a_68 X1b_68 o_68 x0_68 x1_68 B_68
    clear hb69
    have ox69 : OwnP w69 (w67.heap.size + 1) w69.heap.size (some ⟨g69, 0, none⟩) n2 n2 z2 := by first | exact ho69 | simpa using ho69
    clear ho69
    go_wp2_with fail
    refine (HI.out _ _ _ _ _ _ _ _ _ _ _ _ _ x0_69 x1_69 ox69).mono ?_
    rintro e w70 ⟨⟨r70, m70, d70, cs70, rfl, ho70⟩, hb70⟩
    have p0a_70 := cell_later hb70 p0a_69
    have p0b_70 := cell_later hb70 p0b_69
    have p1a_70 := cell_later hb70 p1a_69
    have p1b_70 := cell_later hb70 p1b_69
    have Wa_70 := cell_later hb70 Wa_69
    have Wb_70 := cell_later hb70 Wb_69
    have X0a_70 := cell_later hb70 X0a_69
    have X0b_70 := cell_later hb70 X0b_69
    have X1a_70 := cell_later hb70 X1a_69
    have X1b_70 := cell_later hb70 X1b_69
    have o_70 := o_69.below hb70
    have x0_70 := x0_69.below hb70
    have x1_70 := x1_69.below hb70
    have x2_70 := ox69.below hb70
    have B_70 := B_69.trans (hb70.mono B_69.size)
    have zz70 : w69.heap.size ≤ w70.heap.size := by have q := hb70.size; first | exact q | simpa using q
    clear p0a_69 p0b_69 p1a_69 p1b_69 Wa_69 Wb_69 X0a_69 X0b_69 X1a_69 X1b_69 o_69 x0_69 x1_69 ox69 B_69
    clear hb70
    have ow70 : OwnT w70 (w69.heap.size) w70.heap.size r70 m70 d70 ta := ⟨cs70, by first | exact ho70 | simpa using ho70⟩
    obtain rfl : na = m70 := HNA.out.symm.trans ow70.len
    clear ho70
    have hb71 : Below w70.heap.size w70 (w70.alloc (.cells #[.int .i64 pa, .slice r70 na d70] 47)) := (Below.refl _ _).alloc (Nat.le_refl _) _
    have p0a_71 := cell_later hb71 p0a_70
    have p0b_71 := cell_later hb71 p0b_70
    have p1a_71 := cell_later hb71 p1a_70
    have p1b_71 := cell_later hb71 p1b_70
    have Wa_71 := cell_later hb71 Wa_70
    have Wb_71 := cell_later hb71 Wb_70
    have X0a_71 := cell_later hb71 X0a_70
    have X0b_71 := cell_later hb71 X0b_70
    have X1a_71 := cell_later hb71 X1a_70
    have X1b_71 := cell_later hb71 X1b_70
    have o_71 := o_70.below hb71
    have x0_71 := x0_70.below hb71
    have x1_71 := x1_70.below hb71
    have x2_71 := x2_70.below hb71
    have g_71 := ow70.below hb71
    have B_71 := B_70.trans (hb71.mono B_70.size)
    have zz71 : w70.heap.size ≤ w70.heap.size + 1 := by simp
    clear p0a_70 p0b_70 p1a_70 p1b_70 Wa_70 Wb_70 X0a_70 X0b_70 X1a_70 X1b_70 o_70 x0_70 x1_70 x2_70 ow70 B_70
    have Ga_71 : (w70.alloc (.cells #[.int .i64 pa, .slice r70 na d70] 47)).cell? ⟨w70.heap.size, 0, none⟩ = some (.int .i64 pa) := by simp
    have Gb_71 : (w70.alloc (.cells #[.int .i64 pa, .slice r70 na d70] 47)).cell? ⟨w70.heap.size, 1, none⟩ = some (.slice r70 na d70) := by simp
    clear hb71
    go_wp2_with fail
    refine (eqTableG _ _ _ _ _ ta pa _ hsA (g_71.atW hsA) (o_71.atW hsA)).mono ?_
    rintro e w72 ⟨rfl, hb72⟩
    have p0a_72 := cell_later hb72 p0a_71
    have p0b_72 := cell_later hb72 p0b_71
    have p1a_72 := cell_later hb72 p1a_71
    have p1b_72 := cell_later hb72 p1b_71
    have Wa_72 := cell_later hb72 Wa_71
    have Wb_72 := cell_later hb72 Wb_71
    have X0a_72 := cell_later hb72 X0a_71
    have X0b_72 := cell_later hb72 X0b_71
    have X1a_72 := cell_later hb72 X1a_71
    have X1b_72 := cell_later hb72 X1b_71
    have Ga_72 := cell_later hb72 Ga_71
    have Gb_72 := cell_later hb72 Gb_71
    have o_72 := o_71.below hb72
    have x0_72 := x0_71.below hb72
    have x1_72 := x1_71.below hb72
    have x2_72 := x2_71.below hb72
    have g_72 := g_71.below hb72
    have B_72 := B_71.trans (hb72.mono B_71.size)
    have zz72 : w70.heap.size + 1 ≤ w72.heap.size := by have q := hb72.size; first | exact q | simpa using q
    clear p0a_71 p0b_71 p1a_71 p1b_71 Wa_71 Wb_71 X0a_71 X0b_71 X1a_71 X1b_71 Ga_71 Gb_71 o_71 x0_71 x1_71 x2_71 g_71 B_71
    clear hb72
    go_wp2_with fail
    refine wp_region_held_drew (S := fun w' => w'.cell? ⟨w65.heap.size, 0, none⟩ = some (.int .i64 p0x) ∧ w'.cell? ⟨w65.heap.size, 1, none⟩ = some (.slice (some ⟨g65, 0, none⟩) n0 n0) ∧ w'.cell? ⟨w.heap.size, 0, none⟩ = some (.int .i64 p0x) ∧ w'.cell? ⟨w.heap.size, 1, none⟩ = some (.slice a0 n0 c0)) (by kernel_rfl) ?_ (fun hHeld => ?_)
    · (try dsimp only)
      exact ⟨X0a_72, X0b_72, p0a_72, p0b_72⟩
    refine tk 0 ?_
    refine tk 1 ?_
    refine wpAnyH_ready (rs := [2]) (by kernel_rfl) (by simp) ?_
    refine AllReadyH.cons (o := ?_) ?_ (fun K hK => ?_) AllReadyH.nil
    rotate_left
    · (simp only [List.getElem?_toArray, List.getElem?_cons_zero, List.getElem?_cons_succ]; rfl)
    go_simp
    go_at_call 18
    refine (toTableG _ _ _ z0 p0x _ hs0 (ha0.below B_72.drew)).mono ?_
    rintro e w73 ⟨g73, rfl, ho73, hd73⟩
    have hb73 : Below w72.heap.size w72 w73 := (Below.refl _ _).drew.trans hd73
    have p0a_73 := cell_later hb73 p0a_72
    have p0b_73 := cell_later hb73 p0b_72
    have p1a_73 := cell_later hb73 p1a_72
    have p1b_73 := cell_later hb73 p1b_72
    have Wa_73 := cell_later hb73 Wa_72
    have Wb_73 := cell_later hb73 Wb_72
    have X0a_73 := cell_later hb73 X0a_72
    have X0b_73 := cell_later hb73 X0b_72
    have X1a_73 := cell_later hb73 X1a_72
    have X1b_73 := cell_later hb73 X1b_72
    have Ga_73 := cell_later hb73 Ga_72
    have Gb_73 := cell_later hb73 Gb_72
    have o_73 := o_72.below hb73
    have x0_73 := x0_72.below hb73
    have x1_73 := x1_72.below hb73
    have x2_73 := x2_72.below hb73
    have g_73 := g_72.below hb73
    have B_73 := B_72.trans (hb73.mono B_72.size)
    have zz73 : w72.heap.size ≤ w73.heap.size := by have q := hb73.size; first | exact q | simpa using q
    clear p0a_72 p0b_72 p1a_72 p1b_72 Wa_72 Wb_72 X0a_72 X0b_72 X1a_72 X1b_72 Ga_72 Gb_72 o_72 x0_72 x1_72 x2_72 g_72 B_72
    (try go_wp2_with fail)
    refine hK.out _ _ ?_ (fun hHeld' => ?_)
    · (try dsimp only)
      exact ⟨X0a_73, X0b_73, p0a_73, p0b_73⟩
    clear hK K hHeld
    have hHeld := hHeld'
    clear hHeld'
    (try simp only [Act.put, List.setIfInBounds_toArray, List.set_cons_zero, List.set_cons_succ])
    clear hb73 hd73
    refine wpAnyH_ready (rs := [3]) (by kernel_rfl) (by simp) ?_
    refine AllReadyH.cons (o := ?_) ?_ (fun K hK => ?_) AllReadyH.nil
    rotate_left
    · (simp only [List.getElem?_toArray, List.getElem?_cons_zero, List.getElem?_cons_succ]; rfl)
    go_simp
    go_at_call 21
    refine (eqTableG _ _ _ _ _ z0 p0x _ hs0 (x0_73.atW hs0) (ho73.atW hs0)).mono ?_
    rintro e w74 ⟨rfl, hb74⟩
    clear ho73
    have p0a_74 := cell_later hb74 p0a_73
    have p0b_74 := cell_later hb74 p0b_73
    have p1a_74 := cell_later hb74 p1a_73
    have p1b_74 := cell_later hb74 p1b_73
    have Wa_74 := cell_later hb74 Wa_73
    have Wb_74 := cell_later hb74 Wb_73
    have X0a_74 := cell_later hb74 X0a_73
    have X0b_74 := cell_later hb74 X0b_73
    have X1a_74 := cell_later hb74 X1a_73
    have X1b_74 := cell_later hb74 X1b_73
    have Ga_74 := cell_later hb74 Ga_73
    have Gb_74 := cell_later hb74 Gb_73
    have o_74 := o_73.below hb74
    have x0_74 := x0_73.below hb74
    have x1_74 := x1_73.below hb74
    have x2_74 := x2_73.below hb74
    have g_74 := g_73.below hb74
    have B_74 := B_73.trans (hb74.mono B_73.size)
    have zz74 : w73.heap.size ≤ w74.heap.size := by have q := hb74.size; first | exact q | simpa using q
    clear p0a_73 p0b_73 p1a_73 p1b_73 Wa_73 Wb_73 X0a_73 X0b_73 X1a_73 X1b_73 Ga_73 Gb_73 o_73 x0_73 x1_73 x2_73 g_73 B_73
    (try go_wp2_with fail)
    refine hK.out _ _ ?_ (fun hHeld' => ?_)
    · (try dsimp only)
      exact ⟨X0a_74, X0b_74, p0a_74, p0b_74⟩
    clear hK K hHeld
    have hHeld := hHeld'
    clear hHeld'
    (try simp only [Act.put, List.setIfInBounds_toArray, List.set_cons_zero, List.set_cons_succ])
    refine tk 4 ?_
    refine wpAnyH_done (by kernel_rfl) ?_ _
    clear hb74 hHeld
    go_wp2_with fail
    refine wp_region_held_drew (S := fun w' => w'.cell? ⟨w67.heap.size, 0, none⟩ = some (.int .i64 p1x) ∧ w'.cell? ⟨w67.heap.size, 1, none⟩ = some (.slice (some ⟨g67, 0, none⟩) n1 n1) ∧ w'.cell? ⟨w.heap.size + 1, 0, none⟩ = some (.int .i64 p1x) ∧ w'.cell? ⟨w.heap.size + 1, 1, none⟩ = some (.slice a1 n1 c1)) (by kernel_rfl) ?_ (fun hHeld => ?_)
    · (try dsimp only)
      exact ⟨X1a_74, X1b_74, p1a_74, p1b_74⟩
    refine tk 0 ?_
    refine tk 1 ?_
    refine wpAnyH_ready (rs := [2]) (by kernel_rfl) (by simp) ?_
    refine AllReadyH.cons (o := ?_) ?_ (fun K hK => ?_) AllReadyH.nil
    rotate_left
    · (simp only [List.getElem?_toArray, List.getElem?_cons_zero, List.getElem?_cons_succ]; rfl)
    go_simp
    go_at_call 18
    refine (toTableG _ _ _ z1 p1x _ hs1 (ha1.below B_74.drew)).mono ?_
    rintro e w75 ⟨g75, rfl, ho75, hd75⟩
    have hb75 : Below w74.heap.size w74 w75 := (Below.refl _ _).drew.trans hd75
    have p0a_75 := cell_later hb75 p0a_74
    have p0b_75 := cell_later hb75 p0b_74
    have p1a_75 := cell_later hb75 p1a_74
    have p1b_75 := cell_later hb75 p1b_74
    have Wa_75 := cell_later hb75 Wa_74
    have Wb_75 := cell_later hb75 Wb_74
    have X0a_75 := cell_later hb75 X0a_74
    have X0b_75 := cell_later hb75 X0b_74
    have X1a_75 := cell_later hb75 X1a_74
    have X1b_75 := cell_later hb75 X1b_74
    have Ga_75 := cell_later hb75 Ga_74
    have Gb_75 := cell_later hb75 Gb_74
    have o_75 := o_74.below hb75
    have x0_75 := x0_74.below hb75
    have x1_75 := x1_74.below hb75
    have x2_75 := x2_74.below hb75
    have g_75 := g_74.below hb75
    have B_75 := B_74.trans (hb75.mono B_74.size)
    have zz75 : w74.heap.size ≤ w75.heap.size := by have q := hb75.size; first | exact q | simpa using q
    clear p0a_74 p0b_74 p1a_74 p1b_74 Wa_74 Wb_74 X0a_74 X0b_74 X1a_74 X1b_74 Ga_74 Gb_74 o_74 x0_74 x1_74 x2_74 g_74 B_74
    (try go_wp2_with fail)
    refine hK.out _ _ ?_ (fun hHeld' => ?_)
    · (try dsimp only)
      exact ⟨X1a_75, X1b_75, p1a_75, p1b_75⟩
    clear hK K hHeld
    have hHeld := hHeld'
    clear hHeld'
    (try simp only [Act.put, List.setIfInBounds_toArray, List.set_cons_zero, List.set_cons_succ])
    clear hb75 hd75
    refine wpAnyH_ready (rs := [3]) (by kernel_rfl) (by simp) ?_
    refine AllReadyH.cons (o := ?_) ?_ (fun K hK => ?_) AllReadyH.nil
    rotate_left
    · (simp only [List.getElem?_toArray, List.getElem?_cons_zero, List.getElem?_cons_succ]; rfl)
    go_simp
    go_at_call 21
    refine (eqTableG _ _ _ _ _ z1 p1x _ hs1 (x1_75.atW hs1) (ho75.atW hs1)).mono ?_
    rintro e w76 ⟨rfl, hb76⟩
    clear ho75
    have p0a_76 := cell_later hb76 p0a_75
    have p0b_76 := cell_later hb76 p0b_75
    have p1a_76 := cell_later hb76 p1a_75
    have p1b_76 := cell_later hb76 p1b_75
    have Wa_76 := cell_later hb76 Wa_75
    have Wb_76 := cell_later hb76 Wb_75
    have X0a_76 := cell_later hb76 X0a_75
    have X0b_76 := cell_later hb76 X0b_75
    have X1a_76 := cell_later hb76 X1a_75
    have X1b_76 := cell_later hb76 X1b_75
    have Ga_76 := cell_later hb76 Ga_75
    have Gb_76 := cell_later hb76 Gb_75
    have o_76 := o_75.below hb76
    have x0_76 := x0_75.below hb76
    have x1_76 := x1_75.below hb76
    have x2_76 := x2_75.below hb76
    have g_76 := g_75.below hb76
    have B_76 := B_75.trans (hb76.mono B_75.size)
    have zz76 : w75.heap.size ≤ w76.heap.size := by have q := hb76.size; first | exact q | simpa using q
    clear p0a_75 p0b_75 p1a_75 p1b_75 Wa_75 Wb_75 X0a_75 X0b_75 X1a_75 X1b_75 Ga_75 Gb_75 o_75 x0_75 x1_75 x2_75 g_75 B_75
    (try go_wp2_with fail)
    refine hK.out _ _ ?_ (fun hHeld' => ?_)
    · (try dsimp only)
      exact ⟨X1a_76, X1b_76, p1a_76, p1b_76⟩
    clear hK K hHeld
    have hHeld := hHeld'
    clear hHeld'
    (try simp only [Act.put, List.setIfInBounds_toArray, List.set_cons_zero, List.set_cons_succ])
    refine tk 4 ?_
    refine wpAnyH_done (by kernel_rfl) ?_ _
    clear hb76 hHeld
    go_wp2_with fail
    refine (toIntSSG _ _ _ z2 _ hs2 (ha2.below B_76)).mono ?_
    rintro e w77 ⟨g77, rfl, ho77, hb77⟩
    have p0a_77 := cell_later hb77 p0a_76
    have p0b_77 := cell_later hb77 p0b_76
    have p1a_77 := cell_later hb77 p1a_76
    have p1b_77 := cell_later hb77 p1b_76
    have Wa_77 := cell_later hb77 Wa_76
    have Wb_77 := cell_later hb77 Wb_76
    have X0a_77 := cell_later hb77 X0a_76
    have X0b_77 := cell_later hb77 X0b_76
    have X1a_77 := cell_later hb77 X1a_76
    have X1b_77 := cell_later hb77 X1b_76
    have Ga_77 := cell_later hb77 Ga_76
    have Gb_77 := cell_later hb77 Gb_76
    have o_77 := o_76.below hb77
    have x0_77 := x0_76.below hb77
    have x1_77 := x1_76.below hb77
    have x2_77 := x2_76.below hb77
    have g_77 := g_76.below hb77
    have B_77 := B_76.trans (hb77.mono B_76.size)
    have zz77 : w76.heap.size ≤ w77.heap.size := by have q := hb77.size; first | exact q | simpa using q
    clear p0a_76 p0b_76 p1a_76 p1b_76 Wa_76 Wb_76 X0a_76 X0b_76 X1a_76 X1b_76 Ga_76 Gb_76 o_76 x0_76 x1_76 x2_76 g_76 B_76
    clear hb77
    go_wp2_with fail
    refine (eqIntSSG _ _ _ _ _ z2 _ hs2 (x2_77.at hs2) (ho77.at hs2)).mono ?_
    rintro e w78 ⟨rfl, hb78⟩
    have p0a_78 := cell_later hb78 p0a_77
    have p0b_78 := cell_later hb78 p0b_77
    have p1a_78 := cell_later hb78 p1a_77
    have p1b_78 := cell_later hb78 p1b_77
    have Wa_78 := cell_later hb78 Wa_77
    have Wb_78 := cell_later hb78 Wb_77
    have X0a_78 := cell_later hb78 X0a_77
    have X0b_78 := cell_later hb78 X0b_77
    have X1a_78 := cell_later hb78 X1a_77
    have X1b_78 := cell_later hb78 X1b_77
    have Ga_78 := cell_later hb78 Ga_77
    have Gb_78 := cell_later hb78 Gb_77
    have o_78 := o_77.below hb78
    have x0_78 := x0_77.below hb78
    have x1_78 := x1_77.below hb78
    have x2_78 := x2_77.below hb78
    have g_78 := g_77.below hb78
    have y_78 := ho77.below hb78
    have B_78 := B_77.trans (hb78.mono B_77.size)
    have zz78 : w77.heap.size ≤ w78.heap.size := by have q := hb78.size; first | exact q | simpa using q
    clear p0a_77 p0b_77 p1a_77 p1b_77 Wa_77 Wb_77 X0a_77 X0b_77 X1a_77 X1b_77 Ga_77 Gb_77 o_77 x0_77 x1_77 x2_77 g_77 ho77 B_77
    clear hb78
    clear y_78
    go_wp2_with fail
    refine (markTableG _ _ _ _ _ z0 p0x _ _ hs0 (by omega) (by omega) x0_78).mono ?_
    rintro e w79 ⟨rfl, ho79, ha79⟩
    have p0a_79 := ha79.cell p0a_78 (show w.heap.size < w64.heap.size ∨ w65.heap.size ≤ w.heap.size by omega)
    have p0b_79 := ha79.cell p0b_78 (show w.heap.size < w64.heap.size ∨ w65.heap.size ≤ w.heap.size by omega)
    have p1a_79 := ha79.cell p1a_78 (show w.heap.size + 1 < w64.heap.size ∨ w65.heap.size ≤ w.heap.size + 1 by omega)
    have p1b_79 := ha79.cell p1b_78 (show w.heap.size + 1 < w64.heap.size ∨ w65.heap.size ≤ w.heap.size + 1 by omega)
    have Wa_79 := ha79.cell Wa_78 (show Pb64 < w64.heap.size ∨ w65.heap.size ≤ Pb64 by omega)
    have Wb_79 := ha79.cell Wb_78 (show Pb64 < w64.heap.size ∨ w65.heap.size ≤ Pb64 by omega)
    have X0a_79 := ha79.cell X0a_78 (show w65.heap.size < w64.heap.size ∨ w65.heap.size ≤ w65.heap.size by omega)
    have X0b_79 := ha79.cell X0b_78 (show w65.heap.size < w64.heap.size ∨ w65.heap.size ≤ w65.heap.size by omega)
    have X1a_79 := ha79.cell X1a_78 (show w67.heap.size < w64.heap.size ∨ w65.heap.size ≤ w67.heap.size by omega)
    have X1b_79 := ha79.cell X1b_78 (show w67.heap.size < w64.heap.size ∨ w65.heap.size ≤ w67.heap.size by omega)
    have Ga_79 := ha79.cell Ga_78 (show w70.heap.size < w64.heap.size ∨ w65.heap.size ≤ w70.heap.size by omega)
    have Gb_79 := ha79.cell Gb_78 (show w70.heap.size < w64.heap.size ∨ w65.heap.size ≤ w70.heap.size by omega)
    have o_79 := o_78.apartW ha79 (by omega)
    have x1_79 := x1_78.apartW ha79 (by omega)
    have x2_79 := x2_78.apartW ha79 (by omega)
    have g_79 := g_78.apartW ha79 (by omega)
    have B_79 := B_78.trans (ha79.below B_78.size (by omega))
    have zz79 : w78.heap.size ≤ w79.heap.size := by have q := ha79.size; first | exact q | simpa using q
    clear ha79 p0a_78 p0b_78 p1a_78 p1b_78 Wa_78 Wb_78 X0a_78 X0b_78 X1a_78 X1b_78 Ga_78 Gb_78 o_78 x0_78 x1_78 x2_78 g_78 B_78
    go_wp2_with fail
    refine (markTableG _ _ _ _ _ z1 p1x _ _ hs1 (by omega) (by omega) x1_79).mono ?_
    rintro e w80 ⟨rfl, ho80, ha80⟩
    have p0a_80 := ha80.cell p0a_79 (show w.heap.size < w65.heap.size + 1 ∨ w67.heap.size ≤ w.heap.size by omega)
    have p0b_80 := ha80.cell p0b_79 (show w.heap.size < w65.heap.size + 1 ∨ w67.heap.size ≤ w.heap.size by omega)
    have p1a_80 := ha80.cell p1a_79 (show w.heap.size + 1 < w65.heap.size + 1 ∨ w67.heap.size ≤ w.heap.size + 1 by omega)
    have p1b_80 := ha80.cell p1b_79 (show w.heap.size + 1 < w65.heap.size + 1 ∨ w67.heap.size ≤ w.heap.size + 1 by omega)
    have Wa_80 := ha80.cell Wa_79 (show Pb64 < w65.heap.size + 1 ∨ w67.heap.size ≤ Pb64 by omega)
    have Wb_80 := ha80.cell Wb_79 (show Pb64 < w65.heap.size + 1 ∨ w67.heap.size ≤ Pb64 by omega)
    have X0a_80 := ha80.cell X0a_79 (show w65.heap.size < w65.heap.size + 1 ∨ w67.heap.size ≤ w65.heap.size by omega)
    have X0b_80 := ha80.cell X0b_79 (show w65.heap.size < w65.heap.size + 1 ∨ w67.heap.size ≤ w65.heap.size by omega)
    have X1a_80 := ha80.cell X1a_79 (show w67.heap.size < w65.heap.size + 1 ∨ w67.heap.size ≤ w67.heap.size by omega)
    have X1b_80 := ha80.cell X1b_79 (show w67.heap.size < w65.heap.size + 1 ∨ w67.heap.size ≤ w67.heap.size by omega)
    have Ga_80 := ha80.cell Ga_79 (show w70.heap.size < w65.heap.size + 1 ∨ w67.heap.size ≤ w70.heap.size by omega)
    have Gb_80 := ha80.cell Gb_79 (show w70.heap.size < w65.heap.size + 1 ∨ w67.heap.size ≤ w70.heap.size by omega)
    have o_80 := o_79.apartW ha80 (by omega)
    have x0_80 := ho79.apartW ha80 (by omega)
    have x2_80 := x2_79.apartW ha80 (by omega)
    have g_80 := g_79.apartW ha80 (by omega)
    have B_80 := B_79.trans (ha80.below B_79.size (by omega))
    have zz80 : w79.heap.size ≤ w80.heap.size := by have q := ha80.size; first | exact q | simpa using q
    clear ha80 p0a_79 p0b_79 p1a_79 p1b_79 Wa_79 Wb_79 X0a_79 X0b_79 X1a_79 X1b_79 Ga_79 Gb_79 o_79 ho79 x1_79 x2_79 g_79 B_79
    go_wp2_with fail
    refine (markIntSSG _ _ _ _ _ z2 _ _ hs2 (by omega) (by omega) x2_80).mono ?_
    rintro e w81 ⟨rfl, ho81, ha81⟩
    have p0a_81 := ha81.cell p0a_80 (show w.heap.size < w67.heap.size + 1 ∨ w69.heap.size ≤ w.heap.size by omega)
    have p0b_81 := ha81.cell p0b_80 (show w.heap.size < w67.heap.size + 1 ∨ w69.heap.size ≤ w.heap.size by omega)
    have p1a_81 := ha81.cell p1a_80 (show w.heap.size + 1 < w67.heap.size + 1 ∨ w69.heap.size ≤ w.heap.size + 1 by omega)
    have p1b_81 := ha81.cell p1b_80 (show w.heap.size + 1 < w67.heap.size + 1 ∨ w69.heap.size ≤ w.heap.size + 1 by omega)
    have Wa_81 := ha81.cell Wa_80 (show Pb64 < w67.heap.size + 1 ∨ w69.heap.size ≤ Pb64 by omega)
    have Wb_81 := ha81.cell Wb_80 (show Pb64 < w67.heap.size + 1 ∨ w69.heap.size ≤ Pb64 by omega)
    have X0a_81 := ha81.cell X0a_80 (show w65.heap.size < w67.heap.size + 1 ∨ w69.heap.size ≤ w65.heap.size by omega)
    have X0b_81 := ha81.cell X0b_80 (show w65.heap.size < w67.heap.size + 1 ∨ w69.heap.size ≤ w65.heap.size by omega)
    have X1a_81 := ha81.cell X1a_80 (show w67.heap.size < w67.heap.size + 1 ∨ w69.heap.size ≤ w67.heap.size by omega)
    have X1b_81 := ha81.cell X1b_80 (show w67.heap.size < w67.heap.size + 1 ∨ w69.heap.size ≤ w67.heap.size by omega)
    have Ga_81 := ha81.cell Ga_80 (show w70.heap.size < w67.heap.size + 1 ∨ w69.heap.size ≤ w70.heap.size by omega)
    have Gb_81 := ha81.cell Gb_80 (show w70.heap.size < w67.heap.size + 1 ∨ w69.heap.size ≤ w70.heap.size by omega)
    have o_81 := o_80.apartW ha81 (by omega)
    have x0_81 := x0_80.apartW ha81 (by omega)
    have x1_81 := ho80.apartW ha81 (by omega)
    have g_81 := g_80.apartW ha81 (by omega)
    have B_81 := B_80.trans (ha81.below B_80.size (by omega))
    have zz81 : w80.heap.size ≤ w81.heap.size := by have q := ha81.size; first | exact q | simpa using q
    clear ha81 p0a_80 p0b_80 p1a_80 p1b_80 Wa_80 Wb_80 X0a_80 X0b_80 X1a_80 X1b_80 Ga_80 Gb_80 o_80 x0_80 ho80 x2_80 g_80 B_80
    have kpos : ¬ (1 : Int) + (wtot z0 n0 : Nat) + (wtot z1 n1 : Nat) + (tot z2 n2 : Nat) < 0 := by omega
    go_wp2_with fail
    refine (eqTableG _ _ _ _ _ ta pa _ hsA (g_81.atW hsA) (o_81.atW hsA)).mono ?_
    rintro e w82 ⟨rfl, hb82⟩
    have p0a_82 := cell_later hb82 p0a_81
    have p0b_82 := cell_later hb82 p0b_81
    have p1a_82 := cell_later hb82 p1a_81
    have p1b_82 := cell_later hb82 p1b_81
    have Wa_82 := cell_later hb82 Wa_81
    have Wb_82 := cell_later hb82 Wb_81
    have X0a_82 := cell_later hb82 X0a_81
    have X0b_82 := cell_later hb82 X0b_81
    have X1a_82 := cell_later hb82 X1a_81
    have X1b_82 := cell_later hb82 X1b_81
    have Ga_82 := cell_later hb82 Ga_81
    have Gb_82 := cell_later hb82 Gb_81
    have o_82 := o_81.below hb82
    have x0_82 := x0_81.below hb82
    have x1_82 := x1_81.below hb82
    have x2_82 := ho81.below hb82
    have g_82 := g_81.below hb82
    have B_82 := B_81.trans (hb82.mono B_81.size)
    have zz82 : w81.heap.size ≤ w82.heap.size := by have q := hb82.size; first | exact q | simpa using q
    clear p0a_81 p0b_81 p1a_81 p1b_81 Wa_81 Wb_81 X0a_81 X0b_81 X1a_81 X1b_81 Ga_81 Gb_81 o_81 x0_81 x1_81 ho81 g_81 B_81
    clear hb82
    clear x0_82
    clear x1_82
    clear x2_82
    go_wp2_with fail
    refine (markTableG _ _ _ _ _ ta pa _ _ hsA (by omega) (by omega) g_82).mono ?_
    rintro e w83 ⟨rfl, ho83, ha83⟩
    have p0a_83 := ha83.cell p0a_82 (show w.heap.size < w69.heap.size ∨ w70.heap.size ≤ w.heap.size by omega)
    have p0b_83 := ha83.cell p0b_82 (show w.heap.size < w69.heap.size ∨ w70.heap.size ≤ w.heap.size by omega)
    have p1a_83 := ha83.cell p1a_82 (show w.heap.size + 1 < w69.heap.size ∨ w70.heap.size ≤ w.heap.size + 1 by omega)
    have p1b_83 := ha83.cell p1b_82 (show w.heap.size + 1 < w69.heap.size ∨ w70.heap.size ≤ w.heap.size + 1 by omega)
    have Wa_83 := ha83.cell Wa_82 (show Pb64 < w69.heap.size ∨ w70.heap.size ≤ Pb64 by omega)
    have Wb_83 := ha83.cell Wb_82 (show Pb64 < w69.heap.size ∨ w70.heap.size ≤ Pb64 by omega)
    have X0a_83 := ha83.cell X0a_82 (show w65.heap.size < w69.heap.size ∨ w70.heap.size ≤ w65.heap.size by omega)
    have X0b_83 := ha83.cell X0b_82 (show w65.heap.size < w69.heap.size ∨ w70.heap.size ≤ w65.heap.size by omega)
    have X1a_83 := ha83.cell X1a_82 (show w67.heap.size < w69.heap.size ∨ w70.heap.size ≤ w67.heap.size by omega)
    have X1b_83 := ha83.cell X1b_82 (show w67.heap.size < w69.heap.size ∨ w70.heap.size ≤ w67.heap.size by omega)
    have Ga_83 := ha83.cell Ga_82 (show w70.heap.size < w69.heap.size ∨ w70.heap.size ≤ w70.heap.size by omega)
    have Gb_83 := ha83.cell Gb_82 (show w70.heap.size < w69.heap.size ∨ w70.heap.size ≤ w70.heap.size by omega)
    have o_83 := o_82.apartW ha83 (by omega)
    have B_83 := B_82.trans (ha83.below B_82.size (by omega))
    have zz83 : w82.heap.size ≤ w83.heap.size := by have q := ha83.size; first | exact q | simpa using q
    clear ha83 p0a_82 p0b_82 p1a_82 p1b_82 Wa_82 Wb_82 X0a_82 X0b_82 X1a_82 X1b_82 Ga_82 Gb_82 o_82 g_82 B_82
    have gpos : ¬ (1 : Int) + (wtot ta na : Nat) < 0 := by omega
    go_wp2_with fail
    refine (heldTableG _ _ _ ta pa _ _ hsA (by omega) (by omega) (ho83.atMark hsA)).mono ?_
    rintro e w84 ⟨rfl, hb84⟩
    have p0a_84 := cell_later hb84 p0a_83
    have p0b_84 := cell_later hb84 p0b_83
    have p1a_84 := cell_later hb84 p1a_83
    have p1b_84 := cell_later hb84 p1b_83
    have Wa_84 := cell_later hb84 Wa_83
    have Wb_84 := cell_later hb84 Wb_83
    have X0a_84 := cell_later hb84 X0a_83
    have X0b_84 := cell_later hb84 X0b_83
    have X1a_84 := cell_later hb84 X1a_83
    have X1b_84 := cell_later hb84 X1b_83
    have Ga_84 := cell_later hb84 Ga_83
    have Gb_84 := cell_later hb84 Gb_83
    have o_84 := o_83.below hb84
    have g_84 := ho83.below hb84
    have B_84 := B_83.trans (hb84.mono B_83.size)
    have zz84 : w83.heap.size ≤ w84.heap.size := by have q := hb84.size; first | exact q | simpa using q
    clear p0a_83 p0b_83 p1a_83 p1b_83 Wa_83 Wb_83 X0a_83 X0b_83 X1a_83 X1b_83 Ga_83 Gb_83 o_83 ho83 B_83
    clear hb84
    go_upto_region 38 with fail
    go_cut [18, 19] (fun ta' tb wx => ∃ (Pb : Nat) (r : Option Addr) (m d lo hi : Nat), ta' = .pointer (some ⟨Pb, 0, none⟩) ∧ tb = .bool ok ∧ wx.cell? ⟨Pb, 0, none⟩ = some (.int .i64 pa) ∧ wx.cell? ⟨Pb, 1, none⟩ = some (.slice r m d) ∧ OwnT wx lo hi r m d ta ∧ w84.heap.size ≤ lo ∧ hi ≤ wx.heap.size ∧ w84.heap.size ≤ Pb ∧ Pb < wx.heap.size ∧ (Pb < lo ∨ hi ≤ Pb) ∧ Below w84.heap.size w84 wx)
    case first =>
      refine wp_region_held_drew (S := fun w' => w'.cell? ⟨w.heap.size, 0, none⟩ = some (.int .i64 p0x) ∧ w'.cell? ⟨w.heap.size, 1, none⟩ = some (.slice a0 n0 c0) ∧ w'.cell? ⟨w.heap.size + 1, 0, none⟩ = some (.int .i64 p1x) ∧ w'.cell? ⟨w.heap.size + 1, 1, none⟩ = some (.slice a1 n1 c1)) (by kernel_rfl) ?_ (fun hHeld => ?_)
      · (try dsimp only)
        exact ⟨p0a_84, p0b_84, p1a_84, p1b_84⟩
      refine tk 0 ?_
      refine tk 2 ?_
      refine tk 4 ?_
      obtain ⟨w87, hU87⟩ : ∃ u, u = w84.drew := ⟨_, rfl⟩
      have hb87 : Below w84.heap.size w84 w87 := by rw [hU87]; exact (Below.refl _ _).drew
      rw [← hU87]
      clear hU87
      have p0a_87 := cell_later hb87 p0a_84
      have p0b_87 := cell_later hb87 p0b_84
      have p1a_87 := cell_later hb87 p1a_84
      have p1b_87 := cell_later hb87 p1b_84
      have B_87 := B_84.trans (hb87.mono B_84.size)
      have Y_87 : Below w84.heap.size w84 w87 := hb87
      have zz87 : w84.heap.size ≤ w87.heap.size := by have q := hb87.size; first | exact q | simpa using q
      refine wpAnyH_ready (rs := [1, 10]) (by kernel_rfl) (by simp) ?_
      refine AllReadyH.cons (o := ?_) ?_ (fun K hK => ?_) ?_
      rotate_left
      · (simp only [List.getElem?_toArray, List.getElem?_cons_zero, List.getElem?_cons_succ]; rfl)
      · go_simp
        go_at_call 18
        refine (toTableG _ _ _ z0 p0x _ hs0 (ha0.below B_87)).mono ?_
        rintro e w88 ⟨g88, rfl, ho88, hb88⟩
        have p0a_88 := cell_later hb88 p0a_87
        have p0b_88 := cell_later hb88 p0b_87
        have p1a_88 := cell_later hb88 p1a_87
        have p1b_88 := cell_later hb88 p1b_87
        have B_88 := B_87.trans (hb88.mono B_87.size)
        have Y_88 : Below w84.heap.size w84 w88 := Y_87.trans (hb88.mono Y_87.size)
        have zz88 : w87.heap.size ≤ w88.heap.size := by have q := hb88.size; first | exact q | simpa using q
        (try go_wp2_with fail)
        refine hK.out _ _ ?_ (fun hHeld' => ?_)
        · (try dsimp only)
          exact ⟨p0a_88, p0b_88, p1a_88, p1b_88⟩
        clear hK K hHeld
        have hHeld := hHeld'
        clear hHeld'
        (try simp only [Act.put, List.setIfInBounds_toArray, List.set_cons_zero, List.set_cons_succ])
        refine wpAnyH_ready (rs := [3, 10]) (by kernel_rfl) (by simp) ?_
        refine AllReadyH.cons (o := ?_) ?_ (fun K hK => ?_) ?_
        rotate_left
        · (simp only [List.getElem?_toArray, List.getElem?_cons_zero, List.getElem?_cons_succ]; rfl)
        · go_simp
          go_at_call 18
          refine (toTableG _ _ _ z1 p1x _ hs1 (ha1.below B_88)).mono ?_
          rintro e w89 ⟨g89, rfl, ho89, hb89⟩
          have p0a_89 := cell_later hb89 p0a_88
          have p0b_89 := cell_later hb89 p0b_88
          have p1a_89 := cell_later hb89 p1a_88
          have p1b_89 := cell_later hb89 p1b_88
          have h0_89 := ho88.below hb89
          have B_89 := B_88.trans (hb89.mono B_88.size)
          have Y_89 : Below w84.heap.size w84 w89 := Y_88.trans (hb89.mono Y_88.size)
          have zz89 : w88.heap.size ≤ w89.heap.size := by have q := hb89.size; first | exact q | simpa using q
          (try go_wp2_with fail)
          refine hK.out _ _ ?_ (fun hHeld' => ?_)
          · (try dsimp only)
            exact ⟨p0a_89, p0b_89, p1a_89, p1b_89⟩
          clear hK K hHeld
          have hHeld := hHeld'
          clear hHeld'
          (try simp only [Act.put, List.setIfInBounds_toArray, List.set_cons_zero, List.set_cons_succ])
          refine wpAnyH_ready (rs := [5, 10]) (by kernel_rfl) (by simp) ?_
          refine AllReadyH.cons (o := ?_) ?_ (fun K hK => ?_) ?_
          rotate_left
          · (simp only [List.getElem?_toArray, List.getElem?_cons_zero, List.getElem?_cons_succ]; rfl)
          · go_simp
            go_at_call 19
            refine (toIntSSG _ _ _ z2 _ hs2 (ha2.below B_89)).mono ?_
            rintro e w90 ⟨g90, rfl, ho90, hb90⟩
            have p0a_90 := cell_later hb90 p0a_89
            have p0b_90 := cell_later hb90 p0b_89
            have p1a_90 := cell_later hb90 p1a_89
            have p1b_90 := cell_later hb90 p1b_89
            have h0_90 := h0_89.below hb90
            have h1_90 := ho89.below hb90
            have B_90 := B_89.trans (hb90.mono B_89.size)
            have Y_90 : Below w84.heap.size w84 w90 := Y_89.trans (hb90.mono Y_89.size)
            have zz90 : w89.heap.size ≤ w90.heap.size := by have q := hb90.size; first | exact q | simpa using q
            (try go_wp2_with fail)
            refine hK.out _ _ ?_ (fun hHeld' => ?_)
            · (try dsimp only)
              exact ⟨p0a_90, p0b_90, p1a_90, p1b_90⟩
            clear hK K hHeld
            have hHeld := hHeld'
            clear hHeld'
            (try simp only [Act.put, List.setIfInBounds_toArray, List.set_cons_zero, List.set_cons_succ])
            refine wpAnyH_ready (rs := [6, 10]) (by kernel_rfl) (by simp) ?_
            refine AllReadyH.cons (o := ?_) ?_ (fun K hK => ?_) ?_
            rotate_left
            · (simp only [List.getElem?_toArray, List.getElem?_cons_zero, List.getElem?_cons_succ]; rfl)
            · go_simp
              go_at_call 20
              refine (HI.out _ _ _ _ _ _ _ _ _ _ _ _ _ h0_90 h1_90 ho90).mono ?_
              rintro e w91 ⟨⟨r91, m91, d91, cs91, rfl, ho91⟩, hb91⟩
              have p0a_91 := cell_later hb91 p0a_90
              have p0b_91 := cell_later hb91 p0b_90
              have p1a_91 := cell_later hb91 p1a_90
              have p1b_91 := cell_later hb91 p1b_90
              have B_91 := B_90.trans (hb91.mono B_90.size)
              have Y_91 : Below w84.heap.size w84 w91 := Y_90.trans (hb91.mono Y_90.size)
              have zz91 : w90.heap.size ≤ w91.heap.size := by have q := hb91.size; first | exact q | simpa using q
              (try go_wp2_with fail)
              refine hK.out _ _ ?_ (fun hHeld' => ?_)
              · (try dsimp only)
                exact ⟨p0a_91, p0b_91, p1a_91, p1b_91⟩
              clear hK K hHeld
              have hHeld := hHeld'
              clear hHeld'
              (try simp only [Act.put, List.setIfInBounds_toArray, List.set_cons_zero, List.set_cons_succ])
              refine tk 7 ?_
              refine tk 8 ?_
              refine tk 9 ?_
              refine wpAnyH_ready (rs := [10]) (by kernel_rfl) (by simp) ?_
              refine AllReadyH.cons (o := ?_) ?_ (fun K hK => ?_) AllReadyH.nil
              rotate_left
              · (simp only [List.getElem?_toArray, List.getElem?_cons_zero, List.getElem?_cons_succ]; rfl)
              go_simp
              skip
              (try go_wp2_with fail)
              refine hK.out _ _ ?_ (fun hHeld' => ?_)
              · (try dsimp only)
                exact ⟨cell_later ((Below.refl _ _).alloc (Nat.le_refl _) _) p0a_91, cell_later ((Below.refl _ _).alloc (Nat.le_refl _) _) p0b_91, cell_later ((Below.refl _ _).alloc (Nat.le_refl _) _) p1a_91, cell_later ((Below.refl _ _).alloc (Nat.le_refl _) _) p1b_91⟩
              clear hK K hHeld
              have hHeld := hHeld'
              clear hHeld'
              (try simp only [Act.put, List.setIfInBounds_toArray, List.set_cons_zero, List.set_cons_succ])
              refine wpAnyH_ready (rs := [11]) (by kernel_rfl) (by simp) ?_
              refine AllReadyH.cons (o := ?_) ?_ (fun K hK => ?_) AllReadyH.nil
              rotate_left
              · (simp only [List.getElem?_toArray, List.getElem?_cons_zero, List.getElem?_cons_succ]; rfl)
              go_simp
              skip
              (try go_wp2_with fail)
              refine hK.out _ _ ?_ (fun hHeld' => ?_)
              · (try dsimp only)
                exact ⟨cell_later ((Below.refl _ _).alloc (Nat.le_refl _) _) p0a_91, cell_later ((Below.refl _ _).alloc (Nat.le_refl _) _) p0b_91, cell_later ((Below.refl _ _).alloc (Nat.le_refl _) _) p1a_91, cell_later ((Below.refl _ _).alloc (Nat.le_refl _) _) p1b_91⟩
              clear hK K hHeld
              have hHeld := hHeld'
              clear hHeld'
              (try simp only [Act.put, List.setIfInBounds_toArray, List.set_cons_zero, List.set_cons_succ])
              refine tk 12 ?_
              refine wpAnyH_done (by kernel_rfl) ?_ _
              (try go_wp2_with fail)
              go_meet
              case rel =>
                have owk : OwnT w91 w90.heap.size w91.heap.size r91 m91 d91 ta := ⟨cs91, ho91⟩
                exact ⟨w91.heap.size, r91, m91, d91, w90.heap.size, w91.heap.size, rfl, rfl, pair0 w91 _ _ _, pair1 w91 _ _ _, owk.below ((Below.refl _ _).alloc (Nat.le_refl _) _), by omega, by simp, by omega, by simp, .inr (Nat.le_refl _), Y_91.alloc Y_91.size _⟩
            refine AllReadyH.cons (o := ?_) ?_ (fun K hK => ?_) AllReadyH.nil
            rotate_left
            · (simp only [List.getElem?_toArray, List.getElem?_cons_zero, List.getElem?_cons_succ]; rfl)
            · go_simp
              (try go_wp2_with fail)
              refine hK.out _ _ ?_ (fun hHeld' => ?_)
              · (try dsimp only)
                exact ⟨cell_later ((Below.refl _ _).alloc (Nat.le_refl _) _) p0a_90, cell_later ((Below.refl _ _).alloc (Nat.le_refl _) _) p0b_90, cell_later ((Below.refl _ _).alloc (Nat.le_refl _) _) p1a_90, cell_later ((Below.refl _ _).alloc (Nat.le_refl _) _) p1b_90⟩
              clear hK K hHeld
              have hHeld := hHeld'
              clear hHeld'
              (try simp only [Act.put, List.setIfInBounds_toArray, List.set_cons_zero, List.set_cons_succ])
              obtain ⟨w91, hU91⟩ : ∃ u, u = w90.alloc (.cells #[.int .i64 0, .slice none 0 0] 47) := ⟨_, rfl⟩
              have hb91 : Below w90.heap.size w90 w91 := by rw [hU91]; exact (Below.refl _ _).alloc (Nat.le_refl _) _
              have zp91 : w91.heap.size = w90.heap.size + 1 := by rw [hU91]; simp
              have hp91 : w91.heap[w90.heap.size]? = some (.cells #[.int .i64 0, .slice none 0 0] 47 (0, 0)) := by rw [hU91]; exact heap_alloc_new _ _
              rw [← hU91]
              clear hU91
              have p0a_91 := cell_later hb91 p0a_90
              have p0b_91 := cell_later hb91 p0b_90
              have p1a_91 := cell_later hb91 p1a_90
              have p1b_91 := cell_later hb91 p1b_90
              have h0_91 := h0_90.below hb91
              have h1_91 := h1_90.below hb91
              have h2_91 := ho90.below hb91
              have B_91 := B_90.trans (hb91.mono B_90.size)
              have Y_91 : Below w84.heap.size w84 w91 := Y_90.trans (hb91.mono Y_90.size)
              have zz91 : w90.heap.size ≤ w91.heap.size := by have q := hb91.size; first | exact q | simpa using q
              refine wpAnyH_ready (rs := [6]) (by kernel_rfl) (by simp) ?_
              refine AllReadyH.cons (o := ?_) ?_ (fun K hK => ?_) AllReadyH.nil
              rotate_left
              · (simp only [List.getElem?_toArray, List.getElem?_cons_zero, List.getElem?_cons_succ]; rfl)
              go_simp
              go_at_call 20
              refine (HI.out _ _ _ _ _ _ _ _ _ _ _ _ _ h0_91 h1_91 h2_91).mono ?_
              rintro e w92 ⟨⟨r92, m92, d92, cs92, rfl, ho92⟩, hb92⟩
              have p0a_92 := cell_later hb92 p0a_91
              have p0b_92 := cell_later hb92 p0b_91
              have p1a_92 := cell_later hb92 p1a_91
              have p1b_92 := cell_later hb92 p1b_91
              have hq92 := (hb92.block (w90.heap.size) (Array.getElem?_eq_some_iff.1 hp91).1).trans hp91
              have B_92 := B_91.trans (hb92.mono B_91.size)
              have Y_92 : Below w84.heap.size w84 w92 := Y_91.trans (hb92.mono Y_91.size)
              have zz92 : w91.heap.size ≤ w92.heap.size := by have q := hb92.size; first | exact q | simpa using q
              (try go_wp2_with fail)
              refine hK.out _ _ ?_ (fun hHeld' => ?_)
              · (try dsimp only)
                exact ⟨p0a_92, p0b_92, p1a_92, p1b_92⟩
              clear hK K hHeld
              have hHeld := hHeld'
              clear hHeld'
              (try simp only [Act.put, List.setIfInBounds_toArray, List.set_cons_zero, List.set_cons_succ])
              refine tk 7 ?_
              refine tk 8 ?_
              refine tk 9 ?_
              have u0 : w92.cell? ⟨w90.heap.size, 0, none⟩ = some (.int .i64 0) := by rw [cell_of_row _ _ 0 _ _ (0, 0) hq92]; rfl
              have u1 : w92.cell? ⟨w90.heap.size, 1, none⟩ = some (.slice none 0 0) := by rw [cell_of_row _ _ 1 _ _ (0, 0) hq92]; rfl
              have v0 : w92.frozen? ⟨w90.heap.size, 0, none⟩ = false := frozen_of_row _ _ 0 _ _ hq92
              have v1 : w92.frozen? ⟨w90.heap.size, 1, none⟩ = false := frozen_of_row _ _ 1 _ _ hq92
              refine wpAnyH_ready (rs := [11]) (by kernel_rfl) (by simp) ?_
              refine AllReadyH.cons (o := ?_) ?_ (fun K hK => ?_) AllReadyH.nil
              rotate_left
              · (simp only [List.getElem?_toArray, List.getElem?_cons_zero, List.getElem?_cons_succ]; rfl)
              go_simp
              skip
              (try go_wp2_with fail)
              refine hK.out _ _ ?_ (fun hHeld' => ?_)
              · (try dsimp only)
                exact ⟨keep_far (keep_far p0a_92 (by omega)) (by omega), keep_far (keep_far p0b_92 (by omega)) (by omega), keep_far (keep_far p1a_92 (by omega)) (by omega), keep_far (keep_far p1b_92 (by omega)) (by omega)⟩
              clear hK K hHeld
              have hHeld := hHeld'
              clear hHeld'
              (try simp only [Act.put, List.setIfInBounds_toArray, List.set_cons_zero, List.set_cons_succ])
              refine tk 12 ?_
              refine wpAnyH_done (by kernel_rfl) ?_ _
              (try go_wp2_with fail)
              go_meet
              case rel =>
                have owk : OwnT w92 w91.heap.size w92.heap.size r92 m92 d92 ta := ⟨cs92, ho92⟩
                exact ⟨w90.heap.size, r92, m92, d92, w91.heap.size, w92.heap.size, rfl, rfl, set2_0 hq92 _ _, set2_1 hq92 _ _, owk.set2 (.inl (by omega)) _ _, by omega, by simp [World.setCell], by omega, by simp only [World.setCell, Array.size_modify]; omega, .inl (by omega), (Y_92.setCell (by show w84.heap.size ≤ w90.heap.size; omega) _).setCell (by show w84.heap.size ≤ w90.heap.size; omega) _⟩
          refine AllReadyH.cons (o := ?_) ?_ (fun K hK => ?_) AllReadyH.nil
          rotate_left
          · (simp only [List.getElem?_toArray, List.getElem?_cons_zero, List.getElem?_cons_succ]; rfl)
          · go_simp
            (try go_wp2_with fail)
            refine hK.out _ _ ?_ (fun hHeld' => ?_)
            · (try dsimp only)
              exact ⟨cell_later ((Below.refl _ _).alloc (Nat.le_refl _) _) p0a_89, cell_later ((Below.refl _ _).alloc (Nat.le_refl _) _) p0b_89, cell_later ((Below.refl _ _).alloc (Nat.le_refl _) _) p1a_89, cell_later ((Below.refl _ _).alloc (Nat.le_refl _) _) p1b_89⟩
            clear hK K hHeld
            have hHeld := hHeld'
            clear hHeld'
            (try simp only [Act.put, List.setIfInBounds_toArray, List.set_cons_zero, List.set_cons_succ])
            obtain ⟨w90, hU90⟩ : ∃ u, u = w89.alloc (.cells #[.int .i64 0, .slice none 0 0] 47) := ⟨_, rfl⟩
            have hb90 : Below w89.heap.size w89 w90 := by rw [hU90]; exact (Below.refl _ _).alloc (Nat.le_refl _) _
            have zp90 : w90.heap.size = w89.heap.size + 1 := by rw [hU90]; simp
            have hp90 : w90.heap[w89.heap.size]? = some (.cells #[.int .i64 0, .slice none 0 0] 47 (0, 0)) := by rw [hU90]; exact heap_alloc_new _ _
            rw [← hU90]
            clear hU90
            have p0a_90 := cell_later hb90 p0a_89
            have p0b_90 := cell_later hb90 p0b_89
            have p1a_90 := cell_later hb90 p1a_89
            have p1b_90 := cell_later hb90 p1b_89
            have h0_90 := h0_89.below hb90
            have h1_90 := ho89.below hb90
            have B_90 := B_89.trans (hb90.mono B_89.size)
            have Y_90 : Below w84.heap.size w84 w90 := Y_89.trans (hb90.mono Y_89.size)
            have zz90 : w89.heap.size ≤ w90.heap.size := by have q := hb90.size; first | exact q | simpa using q
            refine wpAnyH_ready (rs := [5]) (by kernel_rfl) (by simp) ?_
            refine AllReadyH.cons (o := ?_) ?_ (fun K hK => ?_) AllReadyH.nil
            rotate_left
            · (simp only [List.getElem?_toArray, List.getElem?_cons_zero, List.getElem?_cons_succ]; rfl)
            go_simp
            go_at_call 19
            refine (toIntSSG _ _ _ z2 _ hs2 (ha2.below B_90)).mono ?_
            rintro e w91 ⟨g91, rfl, ho91, hb91⟩
            have p0a_91 := cell_later hb91 p0a_90
            have p0b_91 := cell_later hb91 p0b_90
            have p1a_91 := cell_later hb91 p1a_90
            have p1b_91 := cell_later hb91 p1b_90
            have h0_91 := h0_90.below hb91
            have h1_91 := h1_90.below hb91
            have hq91 := (hb91.block (w89.heap.size) (Array.getElem?_eq_some_iff.1 hp90).1).trans hp90
            have B_91 := B_90.trans (hb91.mono B_90.size)
            have Y_91 : Below w84.heap.size w84 w91 := Y_90.trans (hb91.mono Y_90.size)
            have zz91 : w90.heap.size ≤ w91.heap.size := by have q := hb91.size; first | exact q | simpa using q
            (try go_wp2_with fail)
            refine hK.out _ _ ?_ (fun hHeld' => ?_)
            · (try dsimp only)
              exact ⟨p0a_91, p0b_91, p1a_91, p1b_91⟩
            clear hK K hHeld
            have hHeld := hHeld'
            clear hHeld'
            (try simp only [Act.put, List.setIfInBounds_toArray, List.set_cons_zero, List.set_cons_succ])
            refine wpAnyH_ready (rs := [6]) (by kernel_rfl) (by simp) ?_
            refine AllReadyH.cons (o := ?_) ?_ (fun K hK => ?_) AllReadyH.nil
            rotate_left
            · (simp only [List.getElem?_toArray, List.getElem?_cons_zero, List.getElem?_cons_succ]; rfl)
            go_simp
            go_at_call 20
            refine (HI.out _ _ _ _ _ _ _ _ _ _ _ _ _ h0_91 h1_91 ho91).mono ?_
            rintro e w92 ⟨⟨r92, m92, d92, cs92, rfl, ho92⟩, hb92⟩
            have p0a_92 := cell_later hb92 p0a_91
            have p0b_92 := cell_later hb92 p0b_91
            have p1a_92 := cell_later hb92 p1a_91
            have p1b_92 := cell_later hb92 p1b_91
            have hq92 := (hb92.block (w89.heap.size) (Array.getElem?_eq_some_iff.1 hq91).1).trans hq91
            have B_92 := B_91.trans (hb92.mono B_91.size)
            have Y_92 : Below w84.heap.size w84 w92 := Y_91.trans (hb92.mono Y_91.size)
            have zz92 : w91.heap.size ≤ w92.heap.size := by have q := hb92.size; first | exact q | simpa using q
            (try go_wp2_with fail)
            refine hK.out _ _ ?_ (fun hHeld' => ?_)
            · (try dsimp only)
              exact ⟨p0a_92, p0b_92, p1a_92, p1b_92⟩
            clear hK K hHeld
            have hHeld := hHeld'
            clear hHeld'
            (try simp only [Act.put, List.setIfInBounds_toArray, List.set_cons_zero, List.set_cons_succ])
            refine tk 7 ?_
            refine tk 8 ?_
            refine tk 9 ?_
            have u0 : w92.cell? ⟨w89.heap.size, 0, none⟩ = some (.int .i64 0) := by rw [cell_of_row _ _ 0 _ _ (0, 0) hq92]; rfl
            have u1 : w92.cell? ⟨w89.heap.size, 1, none⟩ = some (.slice none 0 0) := by rw [cell_of_row _ _ 1 _ _ (0, 0) hq92]; rfl
            have v0 : w92.frozen? ⟨w89.heap.size, 0, none⟩ = false := frozen_of_row _ _ 0 _ _ hq92
            have v1 : w92.frozen? ⟨w89.heap.size, 1, none⟩ = false := frozen_of_row _ _ 1 _ _ hq92
            refine wpAnyH_ready (rs := [11]) (by kernel_rfl) (by simp) ?_
            refine AllReadyH.cons (o := ?_) ?_ (fun K hK => ?_) AllReadyH.nil
            rotate_left
            · (simp only [List.getElem?_toArray, List.getElem?_cons_zero, List.getElem?_cons_succ]; rfl)
            go_simp
            skip
            (try go_wp2_with fail)
            refine hK.out _ _ ?_ (fun hHeld' => ?_)
            · (try dsimp only)
              exact ⟨keep_far (keep_far p0a_92 (by omega)) (by omega), keep_far (keep_far p0b_92 (by omega)) (by omega), keep_far (keep_far p1a_92 (by omega)) (by omega), keep_far (keep_far p1b_92 (by omega)) (by omega)⟩
            clear hK K hHeld
            have hHeld := hHeld'
            clear hHeld'
            (try simp only [Act.put, List.setIfInBounds_toArray, List.set_cons_zero, List.set_cons_succ])
            refine tk 12 ?_
            refine wpAnyH_done (by kernel_rfl) ?_ _
            (try go_wp2_with fail)
            go_meet
            case rel =>
              have owk : OwnT w92 w91.heap.size w92.heap.size r92 m92 d92 ta := ⟨cs92, ho92⟩
              exact ⟨w89.heap.size, r92, m92, d92, w91.heap.size, w92.heap.size, rfl, rfl, set2_0 hq92 _ _, set2_1 hq92 _ _, owk.set2 (.inl (by omega)) _ _, by omega, by simp [World.setCell], by omega, by simp only [World.setCell, Array.size_modify]; omega, .inl (by omega), (Y_92.setCell (by show w84.heap.size ≤ w89.heap.size; omega) _).setCell (by show w84.heap.size ≤ w89.heap.size; omega) _⟩
        refine AllReadyH.cons (o := ?_) ?_ (fun K hK => ?_) AllReadyH.nil
        rotate_left
        · (simp only [List.getElem?_toArray, List.getElem?_cons_zero, List.getElem?_cons_succ]; rfl)
        · go_simp
          (try go_wp2_with fail)
          refine hK.out _ _ ?_ (fun hHeld' => ?_)
          · (try dsimp only)
            exact ⟨cell_later ((Below.refl _ _).alloc (Nat.le_refl _) _) p0a_88, cell_later ((Below.refl _ _).alloc (Nat.le_refl _) _) p0b_88, cell_later ((Below.refl _ _).alloc (Nat.le_refl _) _) p1a_88, cell_later ((Below.refl _ _).alloc (Nat.le_refl _) _) p1b_88⟩
          clear hK K hHeld
          have hHeld := hHeld'
          clear hHeld'
          (try simp only [Act.put, List.setIfInBounds_toArray, List.set_cons_zero, List.set_cons_succ])
          obtain ⟨w89, hU89⟩ : ∃ u, u = w88.alloc (.cells #[.int .i64 0, .slice none 0 0] 47) := ⟨_, rfl⟩
          have hb89 : Below w88.heap.size w88 w89 := by rw [hU89]; exact (Below.refl _ _).alloc (Nat.le_refl _) _
          have zp89 : w89.heap.size = w88.heap.size + 1 := by rw [hU89]; simp
          have hp89 : w89.heap[w88.heap.size]? = some (.cells #[.int .i64 0, .slice none 0 0] 47 (0, 0)) := by rw [hU89]; exact heap_alloc_new _ _
          rw [← hU89]
          clear hU89
          have p0a_89 := cell_later hb89 p0a_88
          have p0b_89 := cell_later hb89 p0b_88
          have p1a_89 := cell_later hb89 p1a_88
          have p1b_89 := cell_later hb89 p1b_88
          have h0_89 := ho88.below hb89
          have B_89 := B_88.trans (hb89.mono B_88.size)
          have Y_89 : Below w84.heap.size w84 w89 := Y_88.trans (hb89.mono Y_88.size)
          have zz89 : w88.heap.size ≤ w89.heap.size := by have q := hb89.size; first | exact q | simpa using q
          refine wpAnyH_ready (rs := [3]) (by kernel_rfl) (by simp) ?_
          refine AllReadyH.cons (o := ?_) ?_ (fun K hK => ?_) AllReadyH.nil
          rotate_left
          · (simp only [List.getElem?_toArray, List.getElem?_cons_zero, List.getElem?_cons_succ]; rfl)
          go_simp
          go_at_call 18
          refine (toTableG _ _ _ z1 p1x _ hs1 (ha1.below B_89)).mono ?_
          rintro e w90 ⟨g90, rfl, ho90, hb90⟩
          have p0a_90 := cell_later hb90 p0a_89
          have p0b_90 := cell_later hb90 p0b_89
          have p1a_90 := cell_later hb90 p1a_89
          have p1b_90 := cell_later hb90 p1b_89
          have h0_90 := h0_89.below hb90
          have hq90 := (hb90.block (w88.heap.size) (Array.getElem?_eq_some_iff.1 hp89).1).trans hp89
          have B_90 := B_89.trans (hb90.mono B_89.size)
          have Y_90 : Below w84.heap.size w84 w90 := Y_89.trans (hb90.mono Y_89.size)
          have zz90 : w89.heap.size ≤ w90.heap.size := by have q := hb90.size; first | exact q | simpa using q
          (try go_wp2_with fail)
          refine hK.out _ _ ?_ (fun hHeld' => ?_)
          · (try dsimp only)
            exact ⟨p0a_90, p0b_90, p1a_90, p1b_90⟩
          clear hK K hHeld
          have hHeld := hHeld'
          clear hHeld'
          (try simp only [Act.put, List.setIfInBounds_toArray, List.set_cons_zero, List.set_cons_succ])
          refine wpAnyH_ready (rs := [5]) (by kernel_rfl) (by simp) ?_
          refine AllReadyH.cons (o := ?_) ?_ (fun K hK => ?_) AllReadyH.nil
          rotate_left
          · (simp only [List.getElem?_toArray, List.getElem?_cons_zero, List.getElem?_cons_succ]; rfl)
          go_simp
          go_at_call 19
          refine (toIntSSG _ _ _ z2 _ hs2 (ha2.below B_90)).mono ?_
          rintro e w91 ⟨g91, rfl, ho91, hb91⟩
          have p0a_91 := cell_later hb91 p0a_90
          have p0b_91 := cell_later hb91 p0b_90
          have p1a_91 := cell_later hb91 p1a_90
          have p1b_91 := cell_later hb91 p1b_90
          have h0_91 := h0_90.below hb91
          have h1_91 := ho90.below hb91
          have hq91 := (hb91.block (w88.heap.size) (Array.getElem?_eq_some_iff.1 hq90).1).trans hq90
          have B_91 := B_90.trans (hb91.mono B_90.size)
          have Y_91 : Below w84.heap.size w84 w91 := Y_90.trans (hb91.mono Y_90.size)
          have zz91 : w90.heap.size ≤ w91.heap.size := by have q := hb91.size; first | exact q | simpa using q
          (try go_wp2_with fail)
          refine hK.out _ _ ?_ (fun hHeld' => ?_)
          · (try dsimp only)
            exact ⟨p0a_91, p0b_91, p1a_91, p1b_91⟩
          clear hK K hHeld
          have hHeld := hHeld'
          clear hHeld'
          (try simp only [Act.put, List.setIfInBounds_toArray, List.set_cons_zero, List.set_cons_succ])
          refine wpAnyH_ready (rs := [6]) (by kernel_rfl) (by simp) ?_
          refine AllReadyH.cons (o := ?_) ?_ (fun K hK => ?_) AllReadyH.nil
          rotate_left
          · (simp only [List.getElem?_toArray, List.getElem?_cons_zero, List.getElem?_cons_succ]; rfl)
          go_simp
          go_at_call 20
          refine (HI.out _ _ _ _ _ _ _ _ _ _ _ _ _ h0_91 h1_91 ho91).mono ?_
          rintro e w92 ⟨⟨r92, m92, d92, cs92, rfl, ho92⟩, hb92⟩
          have p0a_92 := cell_later hb92 p0a_91
          have p0b_92 := cell_later hb92 p0b_91
          have p1a_92 := cell_later hb92 p1a_91
          have p1b_92 := cell_later hb92 p1b_91
          have hq92 := (hb92.block (w88.heap.size) (Array.getElem?_eq_some_iff.1 hq91).1).trans hq91
          have B_92 := B_91.trans (hb92.mono B_91.size)
          have Y_92 : Below w84.heap.size w84 w92 := Y_91.trans (hb92.mono Y_91.size)
          have zz92 : w91.heap.size ≤ w92.heap.size := by have q := hb92.size; first | exact q | simpa using q
          (try go_wp2_with fail)
          refine hK.out _ _ ?_ (fun hHeld' => ?_)
          · (try dsimp only)
            exact ⟨p0a_92, p0b_92, p1a_92, p1b_92⟩
          clear hK K hHeld
          have hHeld := hHeld'
          clear hHeld'
          (try simp only [Act.put, List.setIfInBounds_toArray, List.set_cons_zero, List.set_cons_succ])
          refine tk 7 ?_
          refine tk 8 ?_
          refine tk 9 ?_
          have u0 : w92.cell? ⟨w88.heap.size, 0, none⟩ = some (.int .i64 0) := by rw [cell_of_row _ _ 0 _ _ (0, 0) hq92]; rfl
          have u1 : w92.cell? ⟨w88.heap.size, 1, none⟩ = some (.slice none 0 0) := by rw [cell_of_row _ _ 1 _ _ (0, 0) hq92]; rfl
          have v0 : w92.frozen? ⟨w88.heap.size, 0, none⟩ = false := frozen_of_row _ _ 0 _ _ hq92
          have v1 : w92.frozen? ⟨w88.heap.size, 1, none⟩ = false := frozen_of_row _ _ 1 _ _ hq92
          refine wpAnyH_ready (rs := [11]) (by kernel_rfl) (by simp) ?_
          refine AllReadyH.cons (o := ?_) ?_ (fun K hK => ?_) AllReadyH.nil
          rotate_left
          · (simp only [List.getElem?_toArray, List.getElem?_cons_zero, List.getElem?_cons_succ]; rfl)
          go_simp
          skip
          (try go_wp2_with fail)
          refine hK.out _ _ ?_ (fun hHeld' => ?_)
          · (try dsimp only)
            exact ⟨keep_far (keep_far p0a_92 (by omega)) (by omega), keep_far (keep_far p0b_92 (by omega)) (by omega), keep_far (keep_far p1a_92 (by omega)) (by omega), keep_far (keep_far p1b_92 (by omega)) (by omega)⟩
          clear hK K hHeld
          have hHeld := hHeld'
          clear hHeld'
          (try simp only [Act.put, List.setIfInBounds_toArray, List.set_cons_zero, List.set_cons_succ])
          refine tk 12 ?_
          refine wpAnyH_done (by kernel_rfl) ?_ _
          (try go_wp2_with fail)
          go_meet
          case rel =>
            have owk : OwnT w92 w91.heap.size w92.heap.size r92 m92 d92 ta := ⟨cs92, ho92⟩
            exact ⟨w88.heap.size, r92, m92, d92, w91.heap.size, w92.heap.size, rfl, rfl, set2_0 hq92 _ _, set2_1 hq92 _ _, owk.set2 (.inl (by omega)) _ _, by omega, by simp [World.setCell], by omega, by simp only [World.setCell, Array.size_modify]; omega, .inl (by omega), (Y_92.setCell (by show w84.heap.size ≤ w88.heap.size; omega) _).setCell (by show w84.heap.size ≤ w88.heap.size; omega) _⟩
      refine AllReadyH.cons (o := ?_) ?_ (fun K hK => ?_) AllReadyH.nil
      rotate_left
      · (simp only [List.getElem?_toArray, List.getElem?_cons_zero, List.getElem?_cons_succ]; rfl)
      · go_simp
        (try go_wp2_with fail)
        refine hK.out _ _ ?_ (fun hHeld' => ?_)
        · (try dsimp only)
          exact ⟨cell_later ((Below.refl _ _).alloc (Nat.le_refl _) _) p0a_87, cell_later ((Below.refl _ _).alloc (Nat.le_refl _) _) p0b_87, cell_later ((Below.refl _ _).alloc (Nat.le_refl _) _) p1a_87, cell_later ((Below.refl _ _).alloc (Nat.le_refl _) _) p1b_87⟩
        clear hK K hHeld
        have hHeld := hHeld'
        clear hHeld'
        (try simp only [Act.put, List.setIfInBounds_toArray, List.set_cons_zero, List.set_cons_succ])
        obtain ⟨w88, hU88⟩ : ∃ u, u = w87.alloc (.cells #[.int .i64 0, .slice none 0 0] 47) := ⟨_, rfl⟩
        have hb88 : Below w87.heap.size w87 w88 := by rw [hU88]; exact (Below.refl _ _).alloc (Nat.le_refl _) _
        have zp88 : w88.heap.size = w87.heap.size + 1 := by rw [hU88]; simp
        have hp88 : w88.heap[w87.heap.size]? = some (.cells #[.int .i64 0, .slice none 0 0] 47 (0, 0)) := by rw [hU88]; exact heap_alloc_new _ _
        rw [← hU88]
        clear hU88
        have p0a_88 := cell_later hb88 p0a_87
        have p0b_88 := cell_later hb88 p0b_87
        have p1a_88 := cell_later hb88 p1a_87
        have p1b_88 := cell_later hb88 p1b_87
        have B_88 := B_87.trans (hb88.mono B_87.size)
        have Y_88 : Below w84.heap.size w84 w88 := Y_87.trans (hb88.mono Y_87.size)
        have zz88 : w87.heap.size ≤ w88.heap.size := by have q := hb88.size; first | exact q | simpa using q
        refine wpAnyH_ready (rs := [1]) (by kernel_rfl) (by simp) ?_
        refine AllReadyH.cons (o := ?_) ?_ (fun K hK => ?_) AllReadyH.nil
        rotate_left
        · (simp only [List.getElem?_toArray, List.getElem?_cons_zero, List.getElem?_cons_succ]; rfl)
        go_simp
        go_at_call 18
        refine (toTableG _ _ _ z0 p0x _ hs0 (ha0.below B_88)).mono ?_
        rintro e w89 ⟨g89, rfl, ho89, hb89⟩
        have p0a_89 := cell_later hb89 p0a_88
        have p0b_89 := cell_later hb89 p0b_88
        have p1a_89 := cell_later hb89 p1a_88
        have p1b_89 := cell_later hb89 p1b_88
        have hq89 := (hb89.block (w87.heap.size) (Array.getElem?_eq_some_iff.1 hp88).1).trans hp88
        have B_89 := B_88.trans (hb89.mono B_88.size)
        have Y_89 : Below w84.heap.size w84 w89 := Y_88.trans (hb89.mono Y_88.size)
        have zz89 : w88.heap.size ≤ w89.heap.size := by have q := hb89.size; first | exact q | simpa using q
        (try go_wp2_with fail)
        refine hK.out _ _ ?_ (fun hHeld' => ?_)
        · (try dsimp only)
          exact ⟨p0a_89, p0b_89, p1a_89, p1b_89⟩
        clear hK K hHeld
        have hHeld := hHeld'
        clear hHeld'
        (try simp only [Act.put, List.setIfInBounds_toArray, List.set_cons_zero, List.set_cons_succ])
        refine wpAnyH_ready (rs := [3]) (by kernel_rfl) (by simp) ?_
        refine AllReadyH.cons (o := ?_) ?_ (fun K hK => ?_) AllReadyH.nil
        rotate_left
        · (simp only [List.getElem?_toArray, List.getElem?_cons_zero, List.getElem?_cons_succ]; rfl)
        go_simp
        go_at_call 18
        refine (toTableG _ _ _ z1 p1x _ hs1 (ha1.below B_89)).mono ?_
        rintro e w90 ⟨g90, rfl, ho90, hb90⟩
        have p0a_90 := cell_later hb90 p0a_89
        have p0b_90 := cell_later hb90 p0b_89
        have p1a_90 := cell_later hb90 p1a_89
        have p1b_90 := cell_later hb90 p1b_89
        have h0_90 := ho89.below hb90
        have hq90 := (hb90.block (w87.heap.size) (Array.getElem?_eq_some_iff.1 hq89).1).trans hq89
        have B_90 := B_89.trans (hb90.mono B_89.size)
        have Y_90 : Below w84.heap.size w84 w90 := Y_89.trans (hb90.mono Y_89.size)
        have zz90 : w89.heap.size ≤ w90.heap.size := by have q := hb90.size; first | exact q | simpa using q
        (try go_wp2_with fail)
        refine hK.out _ _ ?_ (fun hHeld' => ?_)
        · (try dsimp only)
          exact ⟨p0a_90, p0b_90, p1a_90, p1b_90⟩
        clear hK K hHeld
        have hHeld := hHeld'
        clear hHeld'
        (try simp only [Act.put, List.setIfInBounds_toArray, List.set_cons_zero, List.set_cons_succ])
        refine wpAnyH_ready (rs := [5]) (by kernel_rfl) (by simp) ?_
        refine AllReadyH.cons (o := ?_) ?_ (fun K hK => ?_) AllReadyH.nil
        rotate_left
        · (simp only [List.getElem?_toArray, List.getElem?_cons_zero, List.getElem?_cons_succ]; rfl)
        go_simp
        go_at_call 19
        refine (toIntSSG _ _ _ z2 _ hs2 (ha2.below B_90)).mono ?_
        rintro e w91 ⟨g91, rfl, ho91, hb91⟩
        have p0a_91 := cell_later hb91 p0a_90
        have p0b_91 := cell_later hb91 p0b_90
        have p1a_91 := cell_later hb91 p1a_90
        have p1b_91 := cell_later hb91 p1b_90
        have h0_91 := h0_90.below hb91
        have h1_91 := ho90.below hb91
        have hq91 := (hb91.block (w87.heap.size) (Array.getElem?_eq_some_iff.1 hq90).1).trans hq90
        have B_91 := B_90.trans (hb91.mono B_90.size)
        have Y_91 : Below w84.heap.size w84 w91 := Y_90.trans (hb91.mono Y_90.size)
        have zz91 : w90.heap.size ≤ w91.heap.size := by have q := hb91.size; first | exact q | simpa using q
        (try go_wp2_with fail)
        refine hK.out _ _ ?_ (fun hHeld' => ?_)
        · (try dsimp only)
          exact ⟨p0a_91, p0b_91, p1a_91, p1b_91⟩
        clear hK K hHeld
        have hHeld := hHeld'
        clear hHeld'
        (try simp only [Act.put, List.setIfInBounds_toArray, List.set_cons_zero, List.set_cons_succ])
        refine wpAnyH_ready (rs := [6]) (by kernel_rfl) (by simp) ?_
        refine AllReadyH.cons (o := ?_) ?_ (fun K hK => ?_) AllReadyH.nil
        rotate_left
        · (simp only [List.getElem?_toArray, List.getElem?_cons_zero, List.getElem?_cons_succ]; rfl)
        go_simp
        go_at_call 20
        refine (HI.out _ _ _ _ _ _ _ _ _ _ _ _ _ h0_91 h1_91 ho91).mono ?_
        rintro e w92 ⟨⟨r92, m92, d92, cs92, rfl, ho92⟩, hb92⟩
        have p0a_92 := cell_later hb92 p0a_91
        have p0b_92 := cell_later hb92 p0b_91
        have p1a_92 := cell_later hb92 p1a_91
        have p1b_92 := cell_later hb92 p1b_91
        have hq92 := (hb92.block (w87.heap.size) (Array.getElem?_eq_some_iff.1 hq91).1).trans hq91
        have B_92 := B_91.trans (hb92.mono B_91.size)
        have Y_92 : Below w84.heap.size w84 w92 := Y_91.trans (hb92.mono Y_91.size)
        have zz92 : w91.heap.size ≤ w92.heap.size := by have q := hb92.size; first | exact q | simpa using q
        (try go_wp2_with fail)
        refine hK.out _ _ ?_ (fun hHeld' => ?_)
        · (try dsimp only)
          exact ⟨p0a_92, p0b_92, p1a_92, p1b_92⟩
        clear hK K hHeld
        have hHeld := hHeld'
        clear hHeld'
        (try simp only [Act.put, List.setIfInBounds_toArray, List.set_cons_zero, List.set_cons_succ])
        refine tk 7 ?_
        refine tk 8 ?_
        refine tk 9 ?_
        have u0 : w92.cell? ⟨w87.heap.size, 0, none⟩ = some (.int .i64 0) := by rw [cell_of_row _ _ 0 _ _ (0, 0) hq92]; rfl
        have u1 : w92.cell? ⟨w87.heap.size, 1, none⟩ = some (.slice none 0 0) := by rw [cell_of_row _ _ 1 _ _ (0, 0) hq92]; rfl
        have v0 : w92.frozen? ⟨w87.heap.size, 0, none⟩ = false := frozen_of_row _ _ 0 _ _ hq92
        have v1 : w92.frozen? ⟨w87.heap.size, 1, none⟩ = false := frozen_of_row _ _ 1 _ _ hq92
        refine wpAnyH_ready (rs := [11]) (by kernel_rfl) (by simp) ?_
        refine AllReadyH.cons (o := ?_) ?_ (fun K hK => ?_) AllReadyH.nil
        rotate_left
        · (simp only [List.getElem?_toArray, List.getElem?_cons_zero, List.getElem?_cons_succ]; rfl)
        go_simp
        skip
        (try go_wp2_with fail)
        refine hK.out _ _ ?_ (fun hHeld' => ?_)
        · (try dsimp only)
          exact ⟨keep_far (keep_far p0a_92 (by omega)) (by omega), keep_far (keep_far p0b_92 (by omega)) (by omega), keep_far (keep_far p1a_92 (by omega)) (by omega), keep_far (keep_far p1b_92 (by omega)) (by omega)⟩
        clear hK K hHeld
        have hHeld := hHeld'
        clear hHeld'
        (try simp only [Act.put, List.setIfInBounds_toArray, List.set_cons_zero, List.set_cons_succ])
        refine tk 12 ?_
        refine wpAnyH_done (by kernel_rfl) ?_ _
        (try go_wp2_with fail)
        go_meet
        case rel =>
          have owk : OwnT w92 w91.heap.size w92.heap.size r92 m92 d92 ta := ⟨cs92, ho92⟩
          exact ⟨w87.heap.size, r92, m92, d92, w91.heap.size, w92.heap.size, rfl, rfl, set2_0 hq92 _ _, set2_1 hq92 _ _, owk.set2 (.inl (by omega)) _ _, by omega, by simp [World.setCell], by omega, by simp only [World.setCell, Array.size_modify]; omega, .inl (by omega), (Y_92.setCell (by show w84.heap.size ≤ w87.heap.size; omega) _).setCell (by show w84.heap.size ≤ w87.heap.size; omega) _⟩
    case rest =>
      obtain ⟨Pb145, r145, m145, d145, lo145, hi145, rfl, rfl, Ha_145, Hb_145, ow145, pl145, ph145, pm145, pn145, pd145, hb145⟩ := hcut
      obtain ⟨w145, rfl⟩ : ∃ x, x = wc := ⟨_, rfl⟩
      obtain rfl : na = m145 := HNA.out.symm.trans ow145.len
      have p0a_145 := cell_later hb145 p0a_84
      have p0b_145 := cell_later hb145 p0b_84
      have p1a_145 := cell_later hb145 p1a_84
      have p1b_145 := cell_later hb145 p1b_84
      have Wa_145 := cell_later hb145 Wa_84
      have Wb_145 := cell_later hb145 Wb_84
      have X0a_145 := cell_later hb145 X0a_84
      have X0b_145 := cell_later hb145 X0b_84
      have X1a_145 := cell_later hb145 X1a_84
      have X1b_145 := cell_later hb145 X1b_84
      have Ga_145 := cell_later hb145 Ga_84
      have Gb_145 := cell_later hb145 Gb_84
      have o_145 := o_84.below hb145
      have g_145 := g_84.below hb145
      have B_145 := B_84.trans (hb145.mono B_84.size)
      have zz145 : w84.heap.size ≤ w145.heap.size := by have q := hb145.size; first | exact q | simpa using q
      clear p0a_84 p0b_84 p1a_84 p1b_84 Wa_84 Wb_84 X0a_84 X0b_84 X1a_84 X1b_84 Ga_84 Gb_84 o_84 g_84 B_84
      clear hb145
      go_wp2_with fail
      refine (eqTableG _ _ _ _ _ ta pa _ hsA (ow145.atW hsA) (o_145.atW hsA)).mono ?_
      rintro e w146 ⟨rfl, hb146⟩
      have p0a_146 := cell_later hb146 p0a_145
      have p0b_146 := cell_later hb146 p0b_145
      have p1a_146 := cell_later hb146 p1a_145
      have p1b_146 := cell_later hb146 p1b_145
      have Wa_146 := cell_later hb146 Wa_145
      have Wb_146 := cell_later hb146 Wb_145
      have X0a_146 := cell_later hb146 X0a_145
      have X0b_146 := cell_later hb146 X0b_145
      have X1a_146 := cell_later hb146 X1a_145
      have X1b_146 := cell_later hb146 X1b_145
      have Ga_146 := cell_later hb146 Ga_145
      have Gb_146 := cell_later hb146 Gb_145
      have Ha_146 := cell_later hb146 Ha_145
      have Hb_146 := cell_later hb146 Hb_145
      have o_146 := o_145.below hb146
      have g_146 := g_145.below hb146
      have hg_146 := ow145.below hb146
      have B_146 := B_145.trans (hb146.mono B_145.size)
      have zz146 : w145.heap.size ≤ w146.heap.size := by have q := hb146.size; first | exact q | simpa using q
      clear p0a_145 p0b_145 p1a_145 p1b_145 Wa_145 Wb_145 X0a_145 X0b_145 X1a_145 X1b_145 Ga_145 Gb_145 Ha_145 Hb_145 o_145 g_145 ow145 B_145
      clear hb146
      go_wp2_with fail
      refine (heldTableG _ _ _ ta pa _ _ hsA (by omega) (by omega) (g_146.atMark hsA)).mono ?_
      rintro e w147 ⟨rfl, hb147⟩
      have p0a_147 := cell_later hb147 p0a_146
      have p0b_147 := cell_later hb147 p0b_146
      have p1a_147 := cell_later hb147 p1a_146
      have p1b_147 := cell_later hb147 p1b_146
      have Wa_147 := cell_later hb147 Wa_146
      have Wb_147 := cell_later hb147 Wb_146
      have X0a_147 := cell_later hb147 X0a_146
      have X0b_147 := cell_later hb147 X0b_146
      have X1a_147 := cell_later hb147 X1a_146
      have X1b_147 := cell_later hb147 X1b_146
      have Ga_147 := cell_later hb147 Ga_146
      have Gb_147 := cell_later hb147 Gb_146
      have Ha_147 := cell_later hb147 Ha_146
      have Hb_147 := cell_later hb147 Hb_146
      have o_147 := o_146.below hb147
      have g_147 := g_146.below hb147
      have hg_147 := hg_146.below hb147
      have B_147 := B_146.trans (hb147.mono B_146.size)
      have zz147 : w146.heap.size ≤ w147.heap.size := by have q := hb147.size; first | exact q | simpa using q
      clear p0a_146 p0b_146 p1a_146 p1b_146 Wa_146 Wb_146 X0a_146 X0b_146 X1a_146 X1b_146 Ga_146 Gb_146 Ha_146 Hb_146 o_146 g_146 hg_146 B_146
      clear hb147
      go_wp2
      go_ret
      exact ⟨rfl, B_147⟩

end Go.Proofs.Ytkcmlphpilggpaa
