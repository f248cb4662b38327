/- The law FnExactProjectDelta returns true at every input, and writes nothing that was there. -/
import Derived.Test.YtmkhdocjabflkabLawI
import Derived.Test.YtmkhdocjabflkabProjD
namespace Go.Proofs.Ytmkhdocjabflkab
open Go.RowKit

set_option maxRecDepth 100000 in
set_option maxHeartbeats 16000000 in
theorem lawProjectDelta (a0 : Option Addr) (n0 c0 : Nat) (z0 : List WRow) (p0x : Int) (a1 : Option Addr) (n1 c1 : Nat) (z1 : List Int) (w : World) (hz0 : z0.length = n0) (hn0 : n0 ≤ 9223372036854775807) (ha0 : AtW w a0 z0) (hz1 : z1.length = n1) (hn1 : n1 ≤ 9223372036854775807) (ha1 : At w a1 z1) :
    Calls Try.prog 4 #[.agg #[.int .i64 p0x, .slice a0 n0 c0], .slice a1 n1 c1] w fun e w' => e = .returned (.bool true) ∧ Below w.heap.size w w' := by
  obtain ⟨W, hW⟩ : ∃ W, W = (w.alloc (.cells #[.int .i64 p0x, .slice a0 n0 c0] 24)) := ⟨_, rfl⟩
  have B0 : Below w.heap.size w W := by rw [hW]; exact ((Below.refl _ _).alloc (Nat.le_refl _) _)
  have zW : W.heap.size = w.heap.size + 1 := by rw [hW]; simp
  have qb0 : W.heap[w.heap.size]? = some (.cells #[.int .i64 p0x, .slice a0 n0 c0] 24 (0, 0)) := by
    rw [hW]
    have q := heap_alloc_new w (.cells #[.int .i64 p0x, .slice a0 n0 c0] 24)
    (try simp only [World.size_alloc] at q)
    first | exact q | exact q
  have p0a_0 : W.cell? ⟨w.heap.size, 0, none⟩ = some (.int .i64 p0x) := by rw [cell_of_row W _ 0 _ _ (0, 0) qb0]; rfl
  have p0b_0 : W.cell? ⟨w.heap.size, 1, none⟩ = some (.slice a0 n0 c0) := by rw [cell_of_row W _ 1 _ _ (0, 0) qb0]; rfl
  clear qb0
  by_cases big1 : 1048576 < n1
  · have big1' : (1048576 : Int) < (n1 : Int) := by omega
    go_enter Try.func4, Try.ntmps4
    go_wp2
    go_ret
    exact ⟨rfl, by rw [← hW]; exact B0⟩
  have hb1' : ¬ (1048576 : Int) < (n1 : Int) := by omega
  have hs1 : SmI z1 n1 := ⟨hz1, by omega⟩
  by_cases big0 : (1048576 : Int) < (wtot z0 n0 : Nat)
  · go_enter Try.func4, Try.ntmps4
    go_wp2_with fail
    rw [← hW]
    clear hW
    refine (szTable_any _ _ _ z0 _ _ _ hz0 hn0 (by omega) (by omega) (ha0.below B0)).mono ?_
    rintro e v0 ⟨rfl, hv0⟩
    rw [leftOf_no big0]
    have y0 := B0.trans (hv0.mono B0.size)
    go_wp2
    go_ret
    exact ⟨rfl, y0⟩
  have hl0 : ¬ (1048576 : Int) - (wtot z0 n0 : Nat) < 0 := by omega
  have hs0 : SmT z0 n0 := ⟨hz0, by omega⟩
  have hx0 := hs0.n
  have hx1 := hs1.n
  obtain ⟨ok, pa, ta, hsA, HS, HI⟩ : ∃ (ok : Bool) (pa : Int) (ta : List WRow), SmT ta ta.length ∧ Hid (∀ (x0 : Option Addr) (y0 lo0 hi0 : Nat) (x1 : Option Addr) (y1 lo1 hi1 : Nat) (w : World), OwnT w lo0 hi0 x0 n0 y0 z0 → OwnI w lo1 hi1 x1 n1 y1 z1 → Calls Try.prog 12 #[.agg #[.int .i64 p0x, .slice x0 n0 y0], .slice x1 n1 y1] w fun e w' => TabRet e w' w.heap.size ok pa ta ∧ Below w.heap.size w w') ∧ Hid (∀ (x0 : Option Addr) (y0 lo0 hi0 : Nat) (x1 : Option Addr) (y1 lo1 hi1 : Nat) (w : World), OwnT w lo0 hi0 x0 n0 y0 z0 → OwnI w lo1 hi1 x1 n1 y1 z1 → Calls Try.prog 14 #[.agg #[.int .i64 p0x, .slice x0 n0 y0], .slice x1 n1 y1] w fun e w' => TabRet e w' w.heap.size ok pa ta ∧ Below w.heap.size w w') := ⟨projB p0x z0 z1, ansP (projB p0x z0 z1) (z1.length), ansT (projB p0x z0 z1) (projW z0 z1), ans_small projB_goodT, fun x0 y0 lo0 hi0 x1 y1 lo1 hi1 w o0 o1 => specProjectDelta x0 x1 n0 n1 y0 y1 z0 p0x z1 w hs0.1 hs1.1 hs0.n hs1.n (o0.atM hs0) (o1.at hs1), fun x0 y0 lo0 hi0 x1 y1 lo1 hi1 w o0 o1 => implProjectDelta x0 x1 n0 n1 y0 y1 z0 p0x z1 w hs0.1 hs1.1 hs0.n hs1.n (o0.atM hs0) (o1.at hs1)⟩
  obtain ⟨na, hna⟩ : ∃ na, ta.length = na := ⟨_, rfl⟩
  rw [hna] at hsA
  have hxA := hsA.n
  have HNA := Hid.mk hna
  clear hna
  have hwA := hsA.2
  go_enter Try.func4, Try.ntmps4
  go_wp2_with fail
  rw [← hW]
  clear hW
  refine (szTable_any _ _ _ z0 _ _ _ hz0 hn0 (by omega) (by omega) (ha0.below B0)).mono ?_
  rintro e w1 ⟨rfl, hb1⟩
  rw [leftOf_yes (by omega)]
  have p0a_1 := cell_later hb1 p0a_0
  have p0b_1 := cell_later hb1 p0b_0
  have B_1 := B0.trans (hb1.mono B0.size)
  have zz1 : W.heap.size ≤ w1.heap.size := by have q := hb1.size; first | exact q | simpa using q
  clear p0a_0 p0b_0
  clear hb1
  go_wp2_with fail
  refine (toTableG _ _ _ z0 p0x _ hs0 (ha0.below B_1)).mono ?_
  rintro e w2 ⟨g2, rfl, ho2, hb2⟩
  have p0a_2 := cell_later hb2 p0a_1
  have p0b_2 := cell_later hb2 p0b_1
  have B_2 := B_1.trans (hb2.mono B_1.size)
  have zz2 : w1.heap.size ≤ w2.heap.size := by have q := hb2.size; first | exact q | simpa using q
  clear p0a_1 p0b_1 B_1
  clear hb2
  go_wp2_with fail
  refine (toIntSG _ _ _ z1 _ hs1 (ha1.below B_2)).mono ?_
  rintro e w3 ⟨g3, rfl, ho3, hb3⟩
  have p0a_3 := cell_later hb3 p0a_2
  have p0b_3 := cell_later hb3 p0b_2
  have t0_3 := ho2.below hb3
  have B_3 := B_2.trans (hb3.mono B_2.size)
  have zz3 : w2.heap.size ≤ w3.heap.size := by have q := hb3.size; first | exact q | simpa using q
  clear p0a_2 p0b_2 ho2 B_2
  clear hb3
  go_wp2_with fail
  refine (HS.out _ _ _ _ _ _ _ _ _ t0_3 ho3).mono ?_
  rintro e w4 ⟨⟨r4, m4, d4, cs4, rfl, ho4⟩, hb4⟩
  have p0a_4 := cell_later hb4 p0a_3
  have p0b_4 := cell_later hb4 p0b_3
  have t0_4 := t0_3.below hb4
  have t1_4 := ho3.below hb4
  have B_4 := B_3.trans (hb4.mono B_3.size)
  have zz4 : w3.heap.size ≤ w4.heap.size := by have q := hb4.size; first | exact q | simpa using q
  clear p0a_3 p0b_3 t0_3 ho3 B_3
  clear hb4
  clear t0_4
  clear t1_4
  have ow4 : OwnT w4 (w3.heap.size) w4.heap.size r4 m4 d4 ta := ⟨cs4, by first | exact ho4 | simpa using ho4⟩
  obtain rfl : na = m4 := HNA.out.symm.trans ow4.len
  clear ho4
  have hb5 : Below w4.heap.size w4 (w4.alloc (.cells #[.int .i64 pa, .slice r4 na d4] 28)) := (Below.refl _ _).alloc (Nat.le_refl _) _
  have p0a_5 := cell_later hb5 p0a_4
  have p0b_5 := cell_later hb5 p0b_4
  have o_5 := ow4.below hb5
  have B_5 := B_4.trans (hb5.mono B_4.size)
  have zz5 : w4.heap.size ≤ w4.heap.size + 1 := by simp
  clear p0a_4 p0b_4 ow4 B_4
  have Wa_5 : (w4.alloc (.cells #[.int .i64 pa, .slice r4 na d4] 28)).cell? ⟨w4.heap.size, 0, none⟩ = some (.int .i64 pa) := by simp
  have Wb_5 : (w4.alloc (.cells #[.int .i64 pa, .slice r4 na d4] 28)).cell? ⟨w4.heap.size, 1, none⟩ = some (.slice r4 na d4) := by simp
  clear hb5
  go_wp2_with fail
  refine (toTableG _ _ _ z0 p0x _ hs0 (ha0.below B_5)).mono ?_
  rintro e w6 ⟨g6, rfl, ho6, hb6⟩
  have p0a_6 := cell_later hb6 p0a_5
  have p0b_6 := cell_later hb6 p0b_5
  have Wa_6 := cell_later hb6 Wa_5
  have Wb_6 := cell_later hb6 Wb_5
  have o_6 := o_5.below hb6
  have B_6 := B_5.trans (hb6.mono B_5.size)
  have zz6 : w4.heap.size + 1 ≤ w6.heap.size := by have q := hb6.size; first | exact q | simpa using q
  clear p0a_5 p0b_5 Wa_5 Wb_5 o_5 B_5
  clear hb6
  have ox6 : OwnT w6 (w4.heap.size + 1) w6.heap.size (some ⟨g6, 0, none⟩) n0 n0 z0 := by first | exact ho6 | simpa using ho6
  clear ho6
  have hb7 : Below w6.heap.size w6 (w6.alloc (.cells #[.int .i64 p0x, .slice (some ⟨g6, 0, none⟩) n0 n0] 28)) := (Below.refl _ _).alloc (Nat.le_refl _) _
  have p0a_7 := cell_later hb7 p0a_6
  have p0b_7 := cell_later hb7 p0b_6
  have Wa_7 := cell_later hb7 Wa_6
  have Wb_7 := cell_later hb7 Wb_6
  have o_7 := o_6.below hb7
  have x0_7 := ox6.below hb7
  have B_7 := B_6.trans (hb7.mono B_6.size)
  have zz7 : w6.heap.size ≤ w6.heap.size + 1 := by simp
  clear p0a_6 p0b_6 Wa_6 Wb_6 o_6 ox6 B_6
  have X0a_7 : (w6.alloc (.cells #[.int .i64 p0x, .slice (some ⟨g6, 0, none⟩) n0 n0] 28)).cell? ⟨w6.heap.size, 0, none⟩ = some (.int .i64 p0x) := by simp
  have X0b_7 : (w6.alloc (.cells #[.int .i64 p0x, .slice (some ⟨g6, 0, none⟩) n0 n0] 28)).cell? ⟨w6.heap.size, 1, none⟩ = some (.slice (some ⟨g6, 0, none⟩) n0 n0) := by simp
  clear hb7
  go_wp2_with fail
  refine (toIntSG _ _ _ z1 _ hs1 (ha1.below B_7)).mono ?_
  rintro e w8 ⟨g8, rfl, ho8, hb8⟩
  have p0a_8 := cell_later hb8 p0a_7
  have p0b_8 := cell_later hb8 p0b_7
  have Wa_8 := cell_later hb8 Wa_7
  have Wb_8 := cell_later hb8 Wb_7
  have X0a_8 := cell_later hb8 X0a_7
  have X0b_8 := cell_later hb8 X0b_7
  have o_8 := o_7.below hb8
  have x0_8 := x0_7.below hb8
  have B_8 := B_7.trans (hb8.mono B_7.size)
  have zz8 : w6.heap.size + 1 ≤ w8.heap.size := by have q := hb8.size; first | exact q | simpa using q
  clear p0a_7 p0b_7 Wa_7 Wb_7 X0a_7 X0b_7 o_7 x0_7 B_7
  clear hb8
  have ox8 : OwnI w8 (w6.heap.size + 1) w8.heap.size (some ⟨g8, 0, none⟩) n1 n1 z1 := by first | exact ho8 | simpa using ho8
  clear ho8
  go_wp2_with fail
  refine (HI.out _ _ _ _ _ _ _ _ _ x0_8 ox8).mono ?_
  rintro e w9 ⟨⟨r9, m9, d9, cs9, rfl, ho9⟩, hb9⟩
  have p0a_9 := cell_later hb9 p0a_8
  have p0b_9 := cell_later hb9 p0b_8
  have Wa_9 := cell_later hb9 Wa_8
  have Wb_9 := cell_later hb9 Wb_8
  have X0a_9 := cell_later hb9 X0a_8
  have X0b_9 := cell_later hb9 X0b_8
  have o_9 := o_8.below hb9
  have x0_9 := x0_8.below hb9
  have x1_9 := ox8.below hb9
  have B_9 := B_8.trans (hb9.mono B_8.size)
  have zz9 : w8.heap.size ≤ w9.heap.size := by have q := hb9.size; first | exact q | simpa using q
  clear p0a_8 p0b_8 Wa_8 Wb_8 X0a_8 X0b_8 o_8 x0_8 ox8 B_8
  clear hb9
  have ow9 : OwnT w9 (w8.heap.size) w9.heap.size r9 m9 d9 ta := ⟨cs9, by first | exact ho9 | simpa using ho9⟩
  obtain rfl : na = m9 := HNA.out.symm.trans ow9.len
  clear ho9
  have hb10 : Below w9.heap.size w9 (w9.alloc (.cells #[.int .i64 pa, .slice r9 na d9] 28)) := (Below.refl _ _).alloc (Nat.le_refl _) _
  have p0a_10 := cell_later hb10 p0a_9
  have p0b_10 := cell_later hb10 p0b_9
  have Wa_10 := cell_later hb10 Wa_9
  have Wb_10 := cell_later hb10 Wb_9
  have X0a_10 := cell_later hb10 X0a_9
  have X0b_10 := cell_later hb10 X0b_9
  have o_10 := o_9.below hb10
  have x0_10 := x0_9.below hb10
  have x1_10 := x1_9.below hb10
  have g_10 := ow9.below hb10
  have B_10 := B_9.trans (hb10.mono B_9.size)
  have zz10 : w9.heap.size ≤ w9.heap.size + 1 := by simp
  clear p0a_9 p0b_9 Wa_9 Wb_9 X0a_9 X0b_9 o_9 x0_9 x1_9 ow9 B_9
  have Ga_10 : (w9.alloc (.cells #[.int .i64 pa, .slice r9 na d9] 28)).cell? ⟨w9.heap.size, 0, none⟩ = some (.int .i64 pa) := by simp
  have Gb_10 : (w9.alloc (.cells #[.int .i64 pa, .slice r9 na d9] 28)).cell? ⟨w9.heap.size, 1, none⟩ = some (.slice r9 na d9) := by simp
  clear hb10
  go_wp2_with fail
  refine (eqTableG _ _ _ _ _ ta pa _ hsA (g_10.atW hsA) (o_10.atW hsA)).mono ?_
  rintro e w11 ⟨rfl, hb11⟩
  have p0a_11 := cell_later hb11 p0a_10
  have p0b_11 := cell_later hb11 p0b_10
  have Wa_11 := cell_later hb11 Wa_10
  have Wb_11 := cell_later hb11 Wb_10
  have X0a_11 := cell_later hb11 X0a_10
  have X0b_11 := cell_later hb11 X0b_10
  have Ga_11 := cell_later hb11 Ga_10
  have Gb_11 := cell_later hb11 Gb_10
  have o_11 := o_10.below hb11
  have x0_11 := x0_10.below hb11
  have x1_11 := x1_10.below hb11
  have g_11 := g_10.below hb11
  have B_11 := B_10.trans (hb11.mono B_10.size)
  have zz11 : w9.heap.size + 1 ≤ w11.heap.size := by have q := hb11.size; first | exact q | simpa using q
  clear p0a_10 p0b_10 Wa_10 Wb_10 X0a_10 X0b_10 Ga_10 Gb_10 o_10 x0_10 x1_10 g_10 B_10
  clear hb11
  go_wp2_with fail
  refine wp_region_held_drew (S := fun w' => w'.cell? ⟨w6.heap.size, 0, none⟩ = some (.int .i64 p0x) ∧ w'.cell? ⟨w6.heap.size, 1, none⟩ = some (.slice (some ⟨g6, 0, none⟩) n0 n0) ∧ w'.cell? ⟨w.heap.size, 0, none⟩ = some (.int .i64 p0x) ∧ w'.cell? ⟨w.heap.size, 1, none⟩ = some (.slice a0 n0 c0)) (by kernel_rfl) ?_ (fun hHeld => ?_)
  · (try dsimp only)
    exact ⟨X0a_11, X0b_11, p0a_11, p0b_11⟩
  refine wpAnyH_take (i := 0) (oi := ?_) (v := ?_) ?_ (by kernel_rfl) (by kernel_rfl) (by kernel_rfl) ?_ (Or.inl ⟨?_, ?_⟩) (by assumption) ?_
  rotate_left 2
  · (simp only [List.getElem?_toArray, List.getElem?_cons_zero]; rfl)
  · exact fun _ _ _ h => h
  · rfl
  · (intro wS hSw; (try dsimp only at hSw); go_simp; (try with_reducible rfl))
  (try simp only [Act.put, List.setIfInBounds_toArray, List.set_cons_zero, List.set_cons_succ])
  refine wpAnyH_take (i := 1) (oi := ?_) (v := ?_) ?_ (by kernel_rfl) (by kernel_rfl) (by kernel_rfl) ?_ (Or.inl ⟨?_, ?_⟩) (by assumption) ?_
  rotate_left 2
  · (simp only [List.getElem?_toArray, List.getElem?_cons_zero, List.getElem?_cons_succ]; rfl)
  · exact fun _ _ _ h => h
  · rfl
  · (intro wS hSw; (try dsimp only at hSw); go_simp; (try with_reducible rfl))
  (try simp only [Act.put, List.setIfInBounds_toArray, List.set_cons_zero, List.set_cons_succ])
  refine wpAnyH_ready (rs := [2]) (by kernel_rfl) (by simp) ?_
  refine AllReadyH.cons (o := ?_) ?_ (fun K hK => ?_) AllReadyH.nil
  rotate_left
  · (simp only [List.getElem?_toArray, List.getElem?_cons_zero, List.getElem?_cons_succ]; rfl)
  go_simp
  go_at_call 7
  refine (toTableG _ _ _ z0 p0x _ hs0 (ha0.below B_11.drew)).mono ?_
  rintro e w12 ⟨g12, rfl, ho12, hd12⟩
  have hb12 : Below w11.heap.size w11 w12 := (Below.refl _ _).drew.trans hd12
  have p0a_12 := cell_later hb12 p0a_11
  have p0b_12 := cell_later hb12 p0b_11
  have Wa_12 := cell_later hb12 Wa_11
  have Wb_12 := cell_later hb12 Wb_11
  have X0a_12 := cell_later hb12 X0a_11
  have X0b_12 := cell_later hb12 X0b_11
  have Ga_12 := cell_later hb12 Ga_11
  have Gb_12 := cell_later hb12 Gb_11
  have o_12 := o_11.below hb12
  have x0_12 := x0_11.below hb12
  have x1_12 := x1_11.below hb12
  have g_12 := g_11.below hb12
  have B_12 := B_11.trans (hb12.mono B_11.size)
  have zz12 : w11.heap.size ≤ w12.heap.size := by have q := hb12.size; first | exact q | simpa using q
  clear p0a_11 p0b_11 Wa_11 Wb_11 X0a_11 X0b_11 Ga_11 Gb_11 o_11 x0_11 x1_11 g_11 B_11
  (try go_wp2_with fail)
  refine hK.out _ _ ?_ (fun hHeld' => ?_)
  · (try dsimp only)
    exact ⟨X0a_12, X0b_12, p0a_12, p0b_12⟩
  clear hK K hHeld
  have hHeld := hHeld'
  clear hHeld'
  (try simp only [Act.put, List.setIfInBounds_toArray, List.set_cons_zero, List.set_cons_succ])
  clear hb12 hd12
  refine wpAnyH_ready (rs := [3]) (by kernel_rfl) (by simp) ?_
  refine AllReadyH.cons (o := ?_) ?_ (fun K hK => ?_) AllReadyH.nil
  rotate_left
  · (simp only [List.getElem?_toArray, List.getElem?_cons_zero, List.getElem?_cons_succ]; rfl)
  go_simp
  go_at_call 9
  refine (eqTableG _ _ _ _ _ z0 p0x _ hs0 (x0_12.atW hs0) (ho12.atW hs0)).mono ?_
  rintro e w13 ⟨rfl, hb13⟩
  clear ho12
  have p0a_13 := cell_later hb13 p0a_12
  have p0b_13 := cell_later hb13 p0b_12
  have Wa_13 := cell_later hb13 Wa_12
  have Wb_13 := cell_later hb13 Wb_12
  have X0a_13 := cell_later hb13 X0a_12
  have X0b_13 := cell_later hb13 X0b_12
  have Ga_13 := cell_later hb13 Ga_12
  have Gb_13 := cell_later hb13 Gb_12
  have o_13 := o_12.below hb13
  have x0_13 := x0_12.below hb13
  have x1_13 := x1_12.below hb13
  have g_13 := g_12.below hb13
  have B_13 := B_12.trans (hb13.mono B_12.size)
  have zz13 : w12.heap.size ≤ w13.heap.size := by have q := hb13.size; first | exact q | simpa using q
  clear p0a_12 p0b_12 Wa_12 Wb_12 X0a_12 X0b_12 Ga_12 Gb_12 o_12 x0_12 x1_12 g_12 B_12
  (try go_wp2_with fail)
  refine hK.out _ _ ?_ (fun hHeld' => ?_)
  · (try dsimp only)
    exact ⟨X0a_13, X0b_13, p0a_13, p0b_13⟩
  clear hK K hHeld
  have hHeld := hHeld'
  clear hHeld'
  (try simp only [Act.put, List.setIfInBounds_toArray, List.set_cons_zero, List.set_cons_succ])
  refine wpAnyH_take (i := 4) (oi := ?_) (v := ?_) ?_ (by kernel_rfl) (by kernel_rfl) (by kernel_rfl) ?_ (Or.inl ⟨?_, ?_⟩) (by assumption) ?_
  rotate_left 2
  · (simp only [List.getElem?_toArray, List.getElem?_cons_zero, List.getElem?_cons_succ]; rfl)
  · exact fun _ _ _ h => h
  · rfl
  · (intro wS hSw; (try dsimp only at hSw); go_simp; (try with_reducible rfl))
  (try simp only [Act.put, List.setIfInBounds_toArray, List.set_cons_zero, List.set_cons_succ])
  refine wpAnyH_done (by kernel_rfl) ?_ _
  clear hb13 hHeld
  go_wp2_with fail
  refine (toIntSG _ _ _ z1 _ hs1 (ha1.below B_13)).mono ?_
  rintro e w14 ⟨g14, rfl, ho14, hb14⟩
  have p0a_14 := cell_later hb14 p0a_13
  have p0b_14 := cell_later hb14 p0b_13
  have Wa_14 := cell_later hb14 Wa_13
  have Wb_14 := cell_later hb14 Wb_13
  have X0a_14 := cell_later hb14 X0a_13
  have X0b_14 := cell_later hb14 X0b_13
  have Ga_14 := cell_later hb14 Ga_13
  have Gb_14 := cell_later hb14 Gb_13
  have o_14 := o_13.below hb14
  have x0_14 := x0_13.below hb14
  have x1_14 := x1_13.below hb14
  have g_14 := g_13.below hb14
  have B_14 := B_13.trans (hb14.mono B_13.size)
  have zz14 : w13.heap.size ≤ w14.heap.size := by have q := hb14.size; first | exact q | simpa using q
  clear p0a_13 p0b_13 Wa_13 Wb_13 X0a_13 X0b_13 Ga_13 Gb_13 o_13 x0_13 x1_13 g_13 B_13
  clear hb14
  go_wp2_with fail
  refine (eqIntSG _ _ _ _ _ z1 _ hs1 (x1_14.at hs1) (ho14.at hs1)).mono ?_
  rintro e w15 ⟨rfl, hb15⟩
  have p0a_15 := cell_later hb15 p0a_14
  have p0b_15 := cell_later hb15 p0b_14
  have Wa_15 := cell_later hb15 Wa_14
  have Wb_15 := cell_later hb15 Wb_14
  have X0a_15 := cell_later hb15 X0a_14
  have X0b_15 := cell_later hb15 X0b_14
  have Ga_15 := cell_later hb15 Ga_14
  have Gb_15 := cell_later hb15 Gb_14
  have o_15 := o_14.below hb15
  have x0_15 := x0_14.below hb15
  have x1_15 := x1_14.below hb15
  have g_15 := g_14.below hb15
  have y_15 := ho14.below hb15
  have B_15 := B_14.trans (hb15.mono B_14.size)
  have zz15 : w14.heap.size ≤ w15.heap.size := by have q := hb15.size; first | exact q | simpa using q
  clear p0a_14 p0b_14 Wa_14 Wb_14 X0a_14 X0b_14 Ga_14 Gb_14 o_14 x0_14 x1_14 g_14 ho14 B_14
  clear hb15
  clear y_15
  go_wp2_with fail
  refine (markTableG _ _ _ _ _ z0 p0x _ _ hs0 (by omega) (by omega) x0_15).mono ?_
  rintro e w16 ⟨rfl, ho16, ha16⟩
  have p0a_16 := ha16.cell p0a_15 (show w.heap.size < w4.heap.size + 1 ∨ w6.heap.size ≤ w.heap.size by omega)
  have p0b_16 := ha16.cell p0b_15 (show w.heap.size < w4.heap.size + 1 ∨ w6.heap.size ≤ w.heap.size by omega)
  have Wa_16 := ha16.cell Wa_15 (show w4.heap.size < w4.heap.size + 1 ∨ w6.heap.size ≤ w4.heap.size by omega)
  have Wb_16 := ha16.cell Wb_15 (show w4.heap.size < w4.heap.size + 1 ∨ w6.heap.size ≤ w4.heap.size by omega)
  have X0a_16 := ha16.cell X0a_15 (show w6.heap.size < w4.heap.size + 1 ∨ w6.heap.size ≤ w6.heap.size by omega)
  have X0b_16 := ha16.cell X0b_15 (show w6.heap.size < w4.heap.size + 1 ∨ w6.heap.size ≤ w6.heap.size by omega)
  have Ga_16 := ha16.cell Ga_15 (show w9.heap.size < w4.heap.size + 1 ∨ w6.heap.size ≤ w9.heap.size by omega)
  have Gb_16 := ha16.cell Gb_15 (show w9.heap.size < w4.heap.size + 1 ∨ w6.heap.size ≤ w9.heap.size by omega)
  have o_16 := o_15.apartW ha16 (by omega)
  have x1_16 := x1_15.apartW ha16 (by omega)
  have g_16 := g_15.apartW ha16 (by omega)
  have B_16 := B_15.trans (ha16.below B_15.size (by omega))
  have zz16 : w15.heap.size ≤ w16.heap.size := by have q := ha16.size; first | exact q | simpa using q
  clear ha16 p0a_15 p0b_15 Wa_15 Wb_15 X0a_15 X0b_15 Ga_15 Gb_15 o_15 x0_15 x1_15 g_15 B_15
  go_wp2_with fail
  refine (markIntSG _ _ _ _ _ z1 _ _ hs1 (by omega) (by omega) x1_16).mono ?_
  rintro e w17 ⟨rfl, ho17, ha17⟩
  have p0a_17 := ha17.cell p0a_16 (show w.heap.size < w6.heap.size + 1 ∨ w8.heap.size ≤ w.heap.size by omega)
  have p0b_17 := ha17.cell p0b_16 (show w.heap.size < w6.heap.size + 1 ∨ w8.heap.size ≤ w.heap.size by omega)
  have Wa_17 := ha17.cell Wa_16 (show w4.heap.size < w6.heap.size + 1 ∨ w8.heap.size ≤ w4.heap.size by omega)
  have Wb_17 := ha17.cell Wb_16 (show w4.heap.size < w6.heap.size + 1 ∨ w8.heap.size ≤ w4.heap.size by omega)
  have X0a_17 := ha17.cell X0a_16 (show w6.heap.size < w6.heap.size + 1 ∨ w8.heap.size ≤ w6.heap.size by omega)
  have X0b_17 := ha17.cell X0b_16 (show w6.heap.size < w6.heap.size + 1 ∨ w8.heap.size ≤ w6.heap.size by omega)
  have Ga_17 := ha17.cell Ga_16 (show w9.heap.size < w6.heap.size + 1 ∨ w8.heap.size ≤ w9.heap.size by omega)
  have Gb_17 := ha17.cell Gb_16 (show w9.heap.size < w6.heap.size + 1 ∨ w8.heap.size ≤ w9.heap.size by omega)
  have o_17 := o_16.apartW ha17 (by omega)
  have x0_17 := ho16.apartW ha17 (by omega)
  have g_17 := g_16.apartW ha17 (by omega)
  have B_17 := B_16.trans (ha17.below B_16.size (by omega))
  have zz17 : w16.heap.size ≤ w17.heap.size := by have q := ha17.size; first | exact q | simpa using q
  clear ha17 p0a_16 p0b_16 Wa_16 Wb_16 X0a_16 X0b_16 Ga_16 Gb_16 o_16 ho16 x1_16 g_16 B_16
  have kpos : ¬ (1 : Int) + (wtot z0 n0 : Nat) + n1 < 0 := by omega
  go_wp2_with fail
  refine (eqTableG _ _ _ _ _ ta pa _ hsA (g_17.atW hsA) (o_17.atW hsA)).mono ?_
  rintro e w18 ⟨rfl, hb18⟩
  have p0a_18 := cell_later hb18 p0a_17
  have p0b_18 := cell_later hb18 p0b_17
  have Wa_18 := cell_later hb18 Wa_17
  have Wb_18 := cell_later hb18 Wb_17
  have X0a_18 := cell_later hb18 X0a_17
  have X0b_18 := cell_later hb18 X0b_17
  have Ga_18 := cell_later hb18 Ga_17
  have Gb_18 := cell_later hb18 Gb_17
  have o_18 := o_17.below hb18
  have x0_18 := x0_17.below hb18
  have x1_18 := ho17.below hb18
  have g_18 := g_17.below hb18
  have B_18 := B_17.trans (hb18.mono B_17.size)
  have zz18 : w17.heap.size ≤ w18.heap.size := by have q := hb18.size; first | exact q | simpa using q
  clear p0a_17 p0b_17 Wa_17 Wb_17 X0a_17 X0b_17 Ga_17 Gb_17 o_17 x0_17 ho17 g_17 B_17
  clear hb18
  clear x0_18
  clear x1_18
  go_wp2_with fail
  refine (markTableG _ _ _ _ _ ta pa _ _ hsA (by omega) (by omega) g_18).mono ?_
  rintro e w19 ⟨rfl, ho19, ha19⟩
  have p0a_19 := ha19.cell p0a_18 (show w.heap.size < w8.heap.size ∨ w9.heap.size ≤ w.heap.size by omega)
  have p0b_19 := ha19.cell p0b_18 (show w.heap.size < w8.heap.size ∨ w9.heap.size ≤ w.heap.size by omega)
  have Wa_19 := ha19.cell Wa_18 (show w4.heap.size < w8.heap.size ∨ w9.heap.size ≤ w4.heap.size by omega)
  have Wb_19 := ha19.cell Wb_18 (show w4.heap.size < w8.heap.size ∨ w9.heap.size ≤ w4.heap.size by omega)
  have X0a_19 := ha19.cell X0a_18 (show w6.heap.size < w8.heap.size ∨ w9.heap.size ≤ w6.heap.size by omega)
  have X0b_19 := ha19.cell X0b_18 (show w6.heap.size < w8.heap.size ∨ w9.heap.size ≤ w6.heap.size by omega)
  have Ga_19 := ha19.cell Ga_18 (show w9.heap.size < w8.heap.size ∨ w9.heap.size ≤ w9.heap.size by omega)
  have Gb_19 := ha19.cell Gb_18 (show w9.heap.size < w8.heap.size ∨ w9.heap.size ≤ w9.heap.size by omega)
  have o_19 := o_18.apartW ha19 (by omega)
  have B_19 := B_18.trans (ha19.below B_18.size (by omega))
  have zz19 : w18.heap.size ≤ w19.heap.size := by have q := ha19.size; first | exact q | simpa using q
  clear ha19 p0a_18 p0b_18 Wa_18 Wb_18 X0a_18 X0b_18 Ga_18 Gb_18 o_18 g_18 B_18
  have gpos : ¬ (1 : Int) + (wtot ta na : Nat) < 0 := by omega
  go_wp2_with fail
  refine (heldTableG _ _ _ ta pa _ _ hsA (by omega) (by omega) (ho19.atMark hsA)).mono ?_
  rintro e w20 ⟨rfl, hb20⟩
  have p0a_20 := cell_later hb20 p0a_19
  have p0b_20 := cell_later hb20 p0b_19
  have Wa_20 := cell_later hb20 Wa_19
  have Wb_20 := cell_later hb20 Wb_19
  have X0a_20 := cell_later hb20 X0a_19
  have X0b_20 := cell_later hb20 X0b_19
  have Ga_20 := cell_later hb20 Ga_19
  have Gb_20 := cell_later hb20 Gb_19
  have o_20 := o_19.below hb20
  have g_20 := ho19.below hb20
  have B_20 := B_19.trans (hb20.mono B_19.size)
  have zz20 : w19.heap.size ≤ w20.heap.size := by have q := hb20.size; first | exact q | simpa using q
  clear p0a_19 p0b_19 Wa_19 Wb_19 X0a_19 X0b_19 Ga_19 Gb_19 o_19 ho19 B_19
  clear hb20
  go_wp2_with fail
  refine (toTableG _ _ _ z0 p0x _ hs0 (ha0.below B_20)).mono ?_
  rintro e w21 ⟨g21, rfl, ho21, hb21⟩
  have p0a_21 := cell_later hb21 p0a_20
  have p0b_21 := cell_later hb21 p0b_20
  have Wa_21 := cell_later hb21 Wa_20
  have Wb_21 := cell_later hb21 Wb_20
  have X0a_21 := cell_later hb21 X0a_20
  have X0b_21 := cell_later hb21 X0b_20
  have Ga_21 := cell_later hb21 Ga_20
  have Gb_21 := cell_later hb21 Gb_20
  have o_21 := o_20.below hb21
  have g_21 := g_20.below hb21
  have B_21 := B_20.trans (hb21.mono B_20.size)
  have zz21 : w20.heap.size ≤ w21.heap.size := by have q := hb21.size; first | exact q | simpa using q
  clear p0a_20 p0b_20 Wa_20 Wb_20 X0a_20 X0b_20 Ga_20 Gb_20 o_20 g_20 B_20
  clear hb21
  go_wp2_with fail
  refine (toIntSG _ _ _ z1 _ hs1 (ha1.below B_21)).mono ?_
  rintro e w22 ⟨g22, rfl, ho22, hb22⟩
  have p0a_22 := cell_later hb22 p0a_21
  have p0b_22 := cell_later hb22 p0b_21
  have Wa_22 := cell_later hb22 Wa_21
  have Wb_22 := cell_later hb22 Wb_21
  have X0a_22 := cell_later hb22 X0a_21
  have X0b_22 := cell_later hb22 X0b_21
  have Ga_22 := cell_later hb22 Ga_21
  have Gb_22 := cell_later hb22 Gb_21
  have o_22 := o_21.below hb22
  have g_22 := g_21.below hb22
  have h0_22 := ho21.below hb22
  have B_22 := B_21.trans (hb22.mono B_21.size)
  have zz22 : w21.heap.size ≤ w22.heap.size := by have q := hb22.size; first | exact q | simpa using q
  clear p0a_21 p0b_21 Wa_21 Wb_21 X0a_21 X0b_21 Ga_21 Gb_21 o_21 g_21 ho21 B_21
  clear hb22
  go_wp2_with fail
  refine (HI.out _ _ _ _ _ _ _ _ _ h0_22 ho22).mono ?_
  rintro e w23 ⟨⟨r23, m23, d23, cs23, rfl, ho23⟩, hb23⟩
  have p0a_23 := cell_later hb23 p0a_22
  have p0b_23 := cell_later hb23 p0b_22
  have Wa_23 := cell_later hb23 Wa_22
  have Wb_23 := cell_later hb23 Wb_22
  have X0a_23 := cell_later hb23 X0a_22
  have X0b_23 := cell_later hb23 X0b_22
  have Ga_23 := cell_later hb23 Ga_22
  have Gb_23 := cell_later hb23 Gb_22
  have o_23 := o_22.below hb23
  have g_23 := g_22.below hb23
  have h0_23 := h0_22.below hb23
  have h1_23 := ho22.below hb23
  have B_23 := B_22.trans (hb23.mono B_22.size)
  have zz23 : w22.heap.size ≤ w23.heap.size := by have q := hb23.size; first | exact q | simpa using q
  clear p0a_22 p0b_22 Wa_22 Wb_22 X0a_22 X0b_22 Ga_22 Gb_22 o_22 g_22 h0_22 ho22 B_22
  clear hb23
  clear h0_23
  clear h1_23
  have ow23 : OwnT w23 (w22.heap.size) w23.heap.size r23 m23 d23 ta := ⟨cs23, by first | exact ho23 | simpa using ho23⟩
  obtain rfl : na = m23 := HNA.out.symm.trans ow23.len
  clear ho23
  have hb24 : Below w23.heap.size w23 (w23.alloc (.cells #[.int .i64 pa, .slice r23 na d23] 28)) := (Below.refl _ _).alloc (Nat.le_refl _) _
  have p0a_24 := cell_later hb24 p0a_23
  have p0b_24 := cell_later hb24 p0b_23
  have Wa_24 := cell_later hb24 Wa_23
  have Wb_24 := cell_later hb24 Wb_23
  have X0a_24 := cell_later hb24 X0a_23
  have X0b_24 := cell_later hb24 X0b_23
  have Ga_24 := cell_later hb24 Ga_23
  have Gb_24 := cell_later hb24 Gb_23
  have o_24 := o_23.below hb24
  have g_24 := g_23.below hb24
  have hg_24 := ow23.below hb24
  have B_24 := B_23.trans (hb24.mono B_23.size)
  have zz24 : w23.heap.size ≤ w23.heap.size + 1 := by simp
  clear p0a_23 p0b_23 Wa_23 Wb_23 X0a_23 X0b_23 Ga_23 Gb_23 o_23 g_23 ow23 B_23
  have Ha_24 : (w23.alloc (.cells #[.int .i64 pa, .slice r23 na d23] 28)).cell? ⟨w23.heap.size, 0, none⟩ = some (.int .i64 pa) := by simp
  have Hb_24 : (w23.alloc (.cells #[.int .i64 pa, .slice r23 na d23] 28)).cell? ⟨w23.heap.size, 1, none⟩ = some (.slice r23 na d23) := by simp
  clear hb24
  go_wp2_with fail
  refine (eqTableG _ _ _ _ _ ta pa _ hsA (hg_24.atW hsA) (o_24.atW hsA)).mono ?_
  rintro e w25 ⟨rfl, hb25⟩
  have p0a_25 := cell_later hb25 p0a_24
  have p0b_25 := cell_later hb25 p0b_24
  have Wa_25 := cell_later hb25 Wa_24
  have Wb_25 := cell_later hb25 Wb_24
  have X0a_25 := cell_later hb25 X0a_24
  have X0b_25 := cell_later hb25 X0b_24
  have Ga_25 := cell_later hb25 Ga_24
  have Gb_25 := cell_later hb25 Gb_24
  have Ha_25 := cell_later hb25 Ha_24
  have Hb_25 := cell_later hb25 Hb_24
  have o_25 := o_24.below hb25
  have g_25 := g_24.below hb25
  have hg_25 := hg_24.below hb25
  have B_25 := B_24.trans (hb25.mono B_24.size)
  have zz25 : w23.heap.size + 1 ≤ w25.heap.size := by have q := hb25.size; first | exact q | simpa using q
  clear p0a_24 p0b_24 Wa_24 Wb_24 X0a_24 X0b_24 Ga_24 Gb_24 Ha_24 Hb_24 o_24 g_24 hg_24 B_24
  clear hb25
  go_wp2_with fail
  refine (heldTableG _ _ _ ta pa _ _ hsA (by omega) (by omega) (g_25.atMark hsA)).mono ?_
  rintro e w26 ⟨rfl, hb26⟩
  have p0a_26 := cell_later hb26 p0a_25
  have p0b_26 := cell_later hb26 p0b_25
  have Wa_26 := cell_later hb26 Wa_25
  have Wb_26 := cell_later hb26 Wb_25
  have X0a_26 := cell_later hb26 X0a_25
  have X0b_26 := cell_later hb26 X0b_25
  have Ga_26 := cell_later hb26 Ga_25
  have Gb_26 := cell_later hb26 Gb_25
  have Ha_26 := cell_later hb26 Ha_25
  have Hb_26 := cell_later hb26 Hb_25
  have o_26 := o_25.below hb26
  have g_26 := g_25.below hb26
  have hg_26 := hg_25.below hb26
  have B_26 := B_25.trans (hb26.mono B_25.size)
  have zz26 : w25.heap.size ≤ w26.heap.size := by have q := hb26.size; first | exact q | simpa using q
  clear p0a_25 p0b_25 Wa_25 Wb_25 X0a_25 X0b_25 Ga_25 Gb_25 Ha_25 Hb_25 o_25 g_25 hg_25 B_25
  clear hb26
  go_wp2
  go_ret
  exact ⟨rfl, B_26⟩

end Go.Proofs.Ytmkhdocjabflkab
