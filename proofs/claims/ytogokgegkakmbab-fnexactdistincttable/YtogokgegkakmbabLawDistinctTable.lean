/- The law FnExactDistinctTable returns true at every input, and writes nothing that was there. -/
import Derived.Test.YtogokgegkakmbabLawG
import Derived.Test.YtogokgegkakmbabDist
namespace Go.Proofs.Ytogokgegkakmbab
open Go.RowKit

set_option maxRecDepth 100000 in
set_option maxHeartbeats 16000000 in
theorem lawDistinctTable (a0 : Option Addr) (n0 c0 : Nat) (z0 : List WRow) (p0x : Int) (w : World) (hz0 : z0.length = n0) (hn0 : n0 ≤ 9223372036854775807) (ha0 : AtW w a0 z0) :
    Calls Try.prog 6 #[.agg #[.int .i64 p0x, .slice a0 n0 c0]] w fun e w' => e = .returned (.bool true) ∧ Below w.heap.size w w' := by
  obtain ⟨W, hW⟩ : ∃ W, W = (w.alloc (.cells #[.int .i64 p0x, .slice a0 n0 c0] 24)) := ⟨_, rfl⟩
  have B0 : Below w.heap.size w W := by rw [hW]; exact ((Below.refl _ _).alloc (Nat.le_refl _) _)
  have zW : W.heap.size = w.heap.size + 1 := by rw [hW]; simp
  have qb0 : W.heap[w.heap.size]? = some (.cells #[.int .i64 p0x, .slice a0 n0 c0] 24 (0, 0)) := by
    rw [hW]
    have q := heap_alloc_new w (.cells #[.int .i64 p0x, .slice a0 n0 c0] 24)
    (try simp only [World.size_alloc] at q)
    first | exact q | exact q
  have p0a_0 : W.cell? ⟨w.heap.size, 0, none⟩ = some (.int .i64 p0x) := by rw [cell_of_row W _ 0 _ _ (0, 0) qb0]; rfl
  have p0b_0 : W.cell? ⟨w.heap.size, 1, none⟩ = some (.slice a0 n0 c0) := by rw [cell_of_row W _ 1 _ _ (0, 0) qb0]; rfl
  clear qb0
  by_cases big0 : (1048576 : Int) < (wtot z0 n0 : Nat)
  · go_enter Try.func6, Try.ntmps6
    go_wp2_with fail
    rw [← hW]
    clear hW
    refine (szTable_any _ _ _ z0 _ _ _ hz0 hn0 (by omega) (by omega) (ha0.below B0)).mono ?_
    rintro e v0 ⟨rfl, hv0⟩
    rw [leftOf_no big0]
    have y0 := B0.trans (hv0.mono B0.size)
    go_wp2
    go_ret
    exact ⟨rfl, y0⟩
  have hl0 : ¬ (1048576 : Int) - (wtot z0 n0 : Nat) < 0 := by omega
  have hs0 : SmT z0 n0 := ⟨hz0, by omega⟩
  have hx0 := hs0.n
  obtain ⟨ok, pa, ta, hsA, HS, HI⟩ : ∃ (ok : Bool) (pa : Int) (ta : List WRow), SmT ta ta.length ∧ Hid (∀ (x0 : Option Addr) (y0 lo0 hi0 : Nat) (w : World), OwnT w lo0 hi0 x0 n0 y0 z0 → Calls Try.prog 31 #[.agg #[.int .i64 p0x, .slice x0 n0 y0]] w fun e w' => TabRet e w' w.heap.size ok pa ta ∧ Below w.heap.size w w') ∧ Hid (∀ (x0 : Option Addr) (y0 lo0 hi0 : Nat) (w : World), OwnT w lo0 hi0 x0 n0 y0 z0 → Calls Try.prog 32 #[.agg #[.int .i64 p0x, .slice x0 n0 y0]] w fun e w' => TabRet e w' w.heap.size ok pa ta ∧ Below w.heap.size w w') := ⟨distB p0x z0, ansP (distB p0x z0) (p0x), ansT (distB p0x z0) (distW z0), ans_small distB_goodT, fun x0 y0 lo0 hi0 w o0 => specDistinctTable x0 n0 y0 z0 p0x w hs0.1 hs0.n (o0.atM hs0), fun x0 y0 lo0 hi0 w o0 => implDistinctTable x0 n0 y0 z0 p0x w hs0.1 hs0.n (o0.atM hs0)⟩
  obtain ⟨na, hna⟩ : ∃ na, ta.length = na := ⟨_, rfl⟩
  rw [hna] at hsA
  have hxA := hsA.n
  have HNA := Hid.mk hna
  clear hna
  have hwA := hsA.2
  go_enter Try.func6, Try.ntmps6
  go_wp2_with fail
  rw [← hW]
  clear hW
  refine (szTable_any _ _ _ z0 _ _ _ hz0 hn0 (by omega) (by omega) (ha0.below B0)).mono ?_
  rintro e w1 ⟨rfl, hb1⟩
  rw [leftOf_yes (by omega)]
  have p0a_1 := cell_later hb1 p0a_0
  have p0b_1 := cell_later hb1 p0b_0
  have B_1 := B0.trans (hb1.mono B0.size)
  have zz1 : W.heap.size ≤ w1.heap.size := by have q := hb1.size; first | exact q | simpa using q
  clear p0a_0 p0b_0
  clear hb1
  go_wp2_with fail
  refine (toTableG _ _ _ z0 p0x _ hs0 (ha0.below B_1)).mono ?_
  rintro e w2 ⟨g2, rfl, ho2, hb2⟩
  have p0a_2 := cell_later hb2 p0a_1
  have p0b_2 := cell_later hb2 p0b_1
  have B_2 := B_1.trans (hb2.mono B_1.size)
  have zz2 : w1.heap.size ≤ w2.heap.size := by have q := hb2.size; first | exact q | simpa using q
  clear p0a_1 p0b_1 B_1
  clear hb2
  go_wp2_with fail
  refine (HS.out _ _ _ _ _ ho2).mono ?_
  rintro e w3 ⟨⟨r3, m3, d3, cs3, rfl, ho3⟩, hb3⟩
  have p0a_3 := cell_later hb3 p0a_2
  have p0b_3 := cell_later hb3 p0b_2
  have t0_3 := ho2.below hb3
  have B_3 := B_2.trans (hb3.mono B_2.size)
  have zz3 : w2.heap.size ≤ w3.heap.size := by have q := hb3.size; first | exact q | simpa using q
  clear p0a_2 p0b_2 ho2 B_2
  clear hb3
  clear t0_3
  have ow3 : OwnT w3 (w2.heap.size) w3.heap.size r3 m3 d3 ta := ⟨cs3, by first | exact ho3 | simpa using ho3⟩
  obtain rfl : na = m3 := HNA.out.symm.trans ow3.len
  clear ho3
  have hb4 : Below w3.heap.size w3 (w3.alloc (.cells #[.int .i64 pa, .slice r3 na d3] 30)) := (Below.refl _ _).alloc (Nat.le_refl _) _
  have p0a_4 := cell_later hb4 p0a_3
  have p0b_4 := cell_later hb4 p0b_3
  have o_4 := ow3.below hb4
  have B_4 := B_3.trans (hb4.mono B_3.size)
  have zz4 : w3.heap.size ≤ w3.heap.size + 1 := by simp
  clear p0a_3 p0b_3 ow3 B_3
  have Wa_4 : (w3.alloc (.cells #[.int .i64 pa, .slice r3 na d3] 30)).cell? ⟨w3.heap.size, 0, none⟩ = some (.int .i64 pa) := by simp
  have Wb_4 : (w3.alloc (.cells #[.int .i64 pa, .slice r3 na d3] 30)).cell? ⟨w3.heap.size, 1, none⟩ = some (.slice r3 na d3) := by simp
  clear hb4
  go_wp2_with fail
  refine (toTableG _ _ _ z0 p0x _ hs0 (ha0.below B_4)).mono ?_
  rintro e w5 ⟨g5, rfl, ho5, hb5⟩
  have p0a_5 := cell_later hb5 p0a_4
  have p0b_5 := cell_later hb5 p0b_4
  have Wa_5 := cell_later hb5 Wa_4
  have Wb_5 := cell_later hb5 Wb_4
  have o_5 := o_4.below hb5
  have B_5 := B_4.trans (hb5.mono B_4.size)
  have zz5 : w3.heap.size + 1 ≤ w5.heap.size := by have q := hb5.size; first | exact q | simpa using q
  clear p0a_4 p0b_4 Wa_4 Wb_4 o_4 B_4
  clear hb5
  have ox5 : OwnT w5 (w3.heap.size + 1) w5.heap.size (some ⟨g5, 0, none⟩) n0 n0 z0 := by first | exact ho5 | simpa using ho5
  clear ho5
  have hb6 : Below w5.heap.size w5 (w5.alloc (.cells #[.int .i64 p0x, .slice (some ⟨g5, 0, none⟩) n0 n0] 30)) := (Below.refl _ _).alloc (Nat.le_refl _) _
  have p0a_6 := cell_later hb6 p0a_5
  have p0b_6 := cell_later hb6 p0b_5
  have Wa_6 := cell_later hb6 Wa_5
  have Wb_6 := cell_later hb6 Wb_5
  have o_6 := o_5.below hb6
  have x0_6 := ox5.below hb6
  have B_6 := B_5.trans (hb6.mono B_5.size)
  have zz6 : w5.heap.size ≤ w5.heap.size + 1 := by simp
  clear p0a_5 p0b_5 Wa_5 Wb_5 o_5 ox5 B_5
  have X0a_6 : (w5.alloc (.cells #[.int .i64 p0x, .slice (some ⟨g5, 0, none⟩) n0 n0] 30)).cell? ⟨w5.heap.size, 0, none⟩ = some (.int .i64 p0x) := by simp
  have X0b_6 : (w5.alloc (.cells #[.int .i64 p0x, .slice (some ⟨g5, 0, none⟩) n0 n0] 30)).cell? ⟨w5.heap.size, 1, none⟩ = some (.slice (some ⟨g5, 0, none⟩) n0 n0) := by simp
  clear hb6
  go_wp2_with fail
  refine (HI.out _ _ _ _ _ x0_6).mono ?_
  rintro e w7 ⟨⟨r7, m7, d7, cs7, rfl, ho7⟩, hb7⟩
  have p0a_7 := cell_later hb7 p0a_6
  have p0b_7 := cell_later hb7 p0b_6
  have Wa_7 := cell_later hb7 Wa_6
  have Wb_7 := cell_later hb7 Wb_6
  have X0a_7 := cell_later hb7 X0a_6
  have X0b_7 := cell_later hb7 X0b_6
  have o_7 := o_6.below hb7
  have x0_7 := x0_6.below hb7
  have B_7 := B_6.trans (hb7.mono B_6.size)
  have zz7 : w5.heap.size + 1 ≤ w7.heap.size := by have q := hb7.size; first | exact q | simpa using q
  clear p0a_6 p0b_6 Wa_6 Wb_6 X0a_6 X0b_6 o_6 x0_6 B_6
  clear hb7
  have ow7 : OwnT w7 (w5.heap.size + 1) w7.heap.size r7 m7 d7 ta := ⟨cs7, by first | exact ho7 | simpa using ho7⟩
  obtain rfl : na = m7 := HNA.out.symm.trans ow7.len
  clear ho7
  have hb8 : Below w7.heap.size w7 (w7.alloc (.cells #[.int .i64 pa, .slice r7 na d7] 30)) := (Below.refl _ _).alloc (Nat.le_refl _) _
  have p0a_8 := cell_later hb8 p0a_7
  have p0b_8 := cell_later hb8 p0b_7
  have Wa_8 := cell_later hb8 Wa_7
  have Wb_8 := cell_later hb8 Wb_7
  have X0a_8 := cell_later hb8 X0a_7
  have X0b_8 := cell_later hb8 X0b_7
  have o_8 := o_7.below hb8
  have x0_8 := x0_7.below hb8
  have g_8 := ow7.below hb8
  have B_8 := B_7.trans (hb8.mono B_7.size)
  have zz8 : w7.heap.size ≤ w7.heap.size + 1 := by simp
  clear p0a_7 p0b_7 Wa_7 Wb_7 X0a_7 X0b_7 o_7 x0_7 ow7 B_7
  have Ga_8 : (w7.alloc (.cells #[.int .i64 pa, .slice r7 na d7] 30)).cell? ⟨w7.heap.size, 0, none⟩ = some (.int .i64 pa) := by simp
  have Gb_8 : (w7.alloc (.cells #[.int .i64 pa, .slice r7 na d7] 30)).cell? ⟨w7.heap.size, 1, none⟩ = some (.slice r7 na d7) := by simp
  clear hb8
  go_wp2_with fail
  refine (eqTableG _ _ _ _ _ ta pa _ hsA (g_8.atW hsA) (o_8.atW hsA)).mono ?_
  rintro e w9 ⟨rfl, hb9⟩
  have p0a_9 := cell_later hb9 p0a_8
  have p0b_9 := cell_later hb9 p0b_8
  have Wa_9 := cell_later hb9 Wa_8
  have Wb_9 := cell_later hb9 Wb_8
  have X0a_9 := cell_later hb9 X0a_8
  have X0b_9 := cell_later hb9 X0b_8
  have Ga_9 := cell_later hb9 Ga_8
  have Gb_9 := cell_later hb9 Gb_8
  have o_9 := o_8.below hb9
  have x0_9 := x0_8.below hb9
  have g_9 := g_8.below hb9
  have B_9 := B_8.trans (hb9.mono B_8.size)
  have zz9 : w7.heap.size + 1 ≤ w9.heap.size := by have q := hb9.size; first | exact q | simpa using q
  clear p0a_8 p0b_8 Wa_8 Wb_8 X0a_8 X0b_8 Ga_8 Gb_8 o_8 x0_8 g_8 B_8
  clear hb9
  go_wp2_with fail
  refine wp_region_held_drew (S := fun w' => w'.cell? ⟨w5.heap.size, 0, none⟩ = some (.int .i64 p0x) ∧ w'.cell? ⟨w5.heap.size, 1, none⟩ = some (.slice (some ⟨g5, 0, none⟩) n0 n0) ∧ w'.cell? ⟨w.heap.size, 0, none⟩ = some (.int .i64 p0x) ∧ w'.cell? ⟨w.heap.size, 1, none⟩ = some (.slice a0 n0 c0)) (by kernel_rfl) ?_ (fun hHeld => ?_)
  · (try dsimp only)
    exact ⟨X0a_9, X0b_9, p0a_9, p0b_9⟩
  refine wpAnyH_take (i := 0) (oi := ?_) (v := ?_) ?_ (by kernel_rfl) (by kernel_rfl) (by kernel_rfl) ?_ (Or.inl ⟨?_, ?_⟩) (by assumption) ?_
  rotate_left 2
  · (simp only [List.getElem?_toArray, List.getElem?_cons_zero]; rfl)
  · exact fun _ _ _ h => h
  · rfl
  · (intro wS hSw; (try dsimp only at hSw); go_simp; (try with_reducible rfl))
  (try simp only [Act.put, List.setIfInBounds_toArray, List.set_cons_zero, List.set_cons_succ])
  refine wpAnyH_take (i := 1) (oi := ?_) (v := ?_) ?_ (by kernel_rfl) (by kernel_rfl) (by kernel_rfl) ?_ (Or.inl ⟨?_, ?_⟩) (by assumption) ?_
  rotate_left 2
  · (simp only [List.getElem?_toArray, List.getElem?_cons_zero, List.getElem?_cons_succ]; rfl)
  · exact fun _ _ _ h => h
  · rfl
  · (intro wS hSw; (try dsimp only at hSw); go_simp; (try with_reducible rfl))
  (try simp only [Act.put, List.setIfInBounds_toArray, List.set_cons_zero, List.set_cons_succ])
  refine wpAnyH_ready (rs := [2]) (by kernel_rfl) (by simp) ?_
  refine AllReadyH.cons (o := ?_) ?_ (fun K hK => ?_) AllReadyH.nil
  rotate_left
  · (simp only [List.getElem?_toArray, List.getElem?_cons_zero, List.getElem?_cons_succ]; rfl)
  go_simp
  go_at_call 12
  refine (toTableG _ _ _ z0 p0x _ hs0 (ha0.below B_9.drew)).mono ?_
  rintro e w10 ⟨g10, rfl, ho10, hd10⟩
  have hb10 : Below w9.heap.size w9 w10 := (Below.refl _ _).drew.trans hd10
  have p0a_10 := cell_later hb10 p0a_9
  have p0b_10 := cell_later hb10 p0b_9
  have Wa_10 := cell_later hb10 Wa_9
  have Wb_10 := cell_later hb10 Wb_9
  have X0a_10 := cell_later hb10 X0a_9
  have X0b_10 := cell_later hb10 X0b_9
  have Ga_10 := cell_later hb10 Ga_9
  have Gb_10 := cell_later hb10 Gb_9
  have o_10 := o_9.below hb10
  have x0_10 := x0_9.below hb10
  have g_10 := g_9.below hb10
  have B_10 := B_9.trans (hb10.mono B_9.size)
  have zz10 : w9.heap.size ≤ w10.heap.size := by have q := hb10.size; first | exact q | simpa using q
  clear p0a_9 p0b_9 Wa_9 Wb_9 X0a_9 X0b_9 Ga_9 Gb_9 o_9 x0_9 g_9 B_9
  (try go_wp2_with fail)
  refine hK.out _ _ ?_ (fun hHeld' => ?_)
  · (try dsimp only)
    exact ⟨X0a_10, X0b_10, p0a_10, p0b_10⟩
  clear hK K hHeld
  have hHeld := hHeld'
  clear hHeld'
  (try simp only [Act.put, List.setIfInBounds_toArray, List.set_cons_zero, List.set_cons_succ])
  clear hb10 hd10
  refine wpAnyH_ready (rs := [3]) (by kernel_rfl) (by simp) ?_
  refine AllReadyH.cons (o := ?_) ?_ (fun K hK => ?_) AllReadyH.nil
  rotate_left
  · (simp only [List.getElem?_toArray, List.getElem?_cons_zero, List.getElem?_cons_succ]; rfl)
  go_simp
  go_at_call 15
  refine (eqTableG _ _ _ _ _ z0 p0x _ hs0 (x0_10.atW hs0) (ho10.atW hs0)).mono ?_
  rintro e w11 ⟨rfl, hb11⟩
  clear ho10
  have p0a_11 := cell_later hb11 p0a_10
  have p0b_11 := cell_later hb11 p0b_10
  have Wa_11 := cell_later hb11 Wa_10
  have Wb_11 := cell_later hb11 Wb_10
  have X0a_11 := cell_later hb11 X0a_10
  have X0b_11 := cell_later hb11 X0b_10
  have Ga_11 := cell_later hb11 Ga_10
  have Gb_11 := cell_later hb11 Gb_10
  have o_11 := o_10.below hb11
  have x0_11 := x0_10.below hb11
  have g_11 := g_10.below hb11
  have B_11 := B_10.trans (hb11.mono B_10.size)
  have zz11 : w10.heap.size ≤ w11.heap.size := by have q := hb11.size; first | exact q | simpa using q
  clear p0a_10 p0b_10 Wa_10 Wb_10 X0a_10 X0b_10 Ga_10 Gb_10 o_10 x0_10 g_10 B_10
  (try go_wp2_with fail)
  refine hK.out _ _ ?_ (fun hHeld' => ?_)
  · (try dsimp only)
    exact ⟨X0a_11, X0b_11, p0a_11, p0b_11⟩
  clear hK K hHeld
  have hHeld := hHeld'
  clear hHeld'
  (try simp only [Act.put, List.setIfInBounds_toArray, List.set_cons_zero, List.set_cons_succ])
  refine wpAnyH_take (i := 4) (oi := ?_) (v := ?_) ?_ (by kernel_rfl) (by kernel_rfl) (by kernel_rfl) ?_ (Or.inl ⟨?_, ?_⟩) (by assumption) ?_
  rotate_left 2
  · (simp only [List.getElem?_toArray, List.getElem?_cons_zero, List.getElem?_cons_succ]; rfl)
  · exact fun _ _ _ h => h
  · rfl
  · (intro wS hSw; (try dsimp only at hSw); go_simp; (try with_reducible rfl))
  (try simp only [Act.put, List.setIfInBounds_toArray, List.set_cons_zero, List.set_cons_succ])
  refine wpAnyH_done (by kernel_rfl) ?_ _
  clear hb11 hHeld
  go_wp2_with fail
  refine (markTableG _ _ _ _ _ z0 p0x _ _ hs0 (by omega) (by omega) x0_11).mono ?_
  rintro e w12 ⟨rfl, ho12, ha12⟩
  have p0a_12 := ha12.cell p0a_11 (show w.heap.size < w3.heap.size + 1 ∨ w5.heap.size ≤ w.heap.size by omega)
  have p0b_12 := ha12.cell p0b_11 (show w.heap.size < w3.heap.size + 1 ∨ w5.heap.size ≤ w.heap.size by omega)
  have Wa_12 := ha12.cell Wa_11 (show w3.heap.size < w3.heap.size + 1 ∨ w5.heap.size ≤ w3.heap.size by omega)
  have Wb_12 := ha12.cell Wb_11 (show w3.heap.size < w3.heap.size + 1 ∨ w5.heap.size ≤ w3.heap.size by omega)
  have X0a_12 := ha12.cell X0a_11 (show w5.heap.size < w3.heap.size + 1 ∨ w5.heap.size ≤ w5.heap.size by omega)
  have X0b_12 := ha12.cell X0b_11 (show w5.heap.size < w3.heap.size + 1 ∨ w5.heap.size ≤ w5.heap.size by omega)
  have Ga_12 := ha12.cell Ga_11 (show w7.heap.size < w3.heap.size + 1 ∨ w5.heap.size ≤ w7.heap.size by omega)
  have Gb_12 := ha12.cell Gb_11 (show w7.heap.size < w3.heap.size + 1 ∨ w5.heap.size ≤ w7.heap.size by omega)
  have o_12 := o_11.apartW ha12 (by omega)
  have g_12 := g_11.apartW ha12 (by omega)
  have B_12 := B_11.trans (ha12.below B_11.size (by omega))
  have zz12 : w11.heap.size ≤ w12.heap.size := by have q := ha12.size; first | exact q | simpa using q
  clear ha12 p0a_11 p0b_11 Wa_11 Wb_11 X0a_11 X0b_11 Ga_11 Gb_11 o_11 x0_11 g_11 B_11
  have kpos : ¬ (1 : Int) + (wtot z0 n0 : Nat) < 0 := by omega
  go_wp2_with fail
  refine (eqTableG _ _ _ _ _ ta pa _ hsA (g_12.atW hsA) (o_12.atW hsA)).mono ?_
  rintro e w13 ⟨rfl, hb13⟩
  have p0a_13 := cell_later hb13 p0a_12
  have p0b_13 := cell_later hb13 p0b_12
  have Wa_13 := cell_later hb13 Wa_12
  have Wb_13 := cell_later hb13 Wb_12
  have X0a_13 := cell_later hb13 X0a_12
  have X0b_13 := cell_later hb13 X0b_12
  have Ga_13 := cell_later hb13 Ga_12
  have Gb_13 := cell_later hb13 Gb_12
  have o_13 := o_12.below hb13
  have x0_13 := ho12.below hb13
  have g_13 := g_12.below hb13
  have B_13 := B_12.trans (hb13.mono B_12.size)
  have zz13 : w12.heap.size ≤ w13.heap.size := by have q := hb13.size; first | exact q | simpa using q
  clear p0a_12 p0b_12 Wa_12 Wb_12 X0a_12 X0b_12 Ga_12 Gb_12 o_12 ho12 g_12 B_12
  clear hb13
  clear x0_13
  go_wp2_with fail
  refine (markTableG _ _ _ _ _ ta pa _ _ hsA (by omega) (by omega) g_13).mono ?_
  rintro e w14 ⟨rfl, ho14, ha14⟩
  have p0a_14 := ha14.cell p0a_13 (show w.heap.size < w5.heap.size + 1 ∨ w7.heap.size ≤ w.heap.size by omega)
  have p0b_14 := ha14.cell p0b_13 (show w.heap.size < w5.heap.size + 1 ∨ w7.heap.size ≤ w.heap.size by omega)
  have Wa_14 := ha14.cell Wa_13 (show w3.heap.size < w5.heap.size + 1 ∨ w7.heap.size ≤ w3.heap.size by omega)
  have Wb_14 := ha14.cell Wb_13 (show w3.heap.size < w5.heap.size + 1 ∨ w7.heap.size ≤ w3.heap.size by omega)
  have X0a_14 := ha14.cell X0a_13 (show w5.heap.size < w5.heap.size + 1 ∨ w7.heap.size ≤ w5.heap.size by omega)
  have X0b_14 := ha14.cell X0b_13 (show w5.heap.size < w5.heap.size + 1 ∨ w7.heap.size ≤ w5.heap.size by omega)
  have Ga_14 := ha14.cell Ga_13 (show w7.heap.size < w5.heap.size + 1 ∨ w7.heap.size ≤ w7.heap.size by omega)
  have Gb_14 := ha14.cell Gb_13 (show w7.heap.size < w5.heap.size + 1 ∨ w7.heap.size ≤ w7.heap.size by omega)
  have o_14 := o_13.apartW ha14 (by omega)
  have B_14 := B_13.trans (ha14.below B_13.size (by omega))
  have zz14 : w13.heap.size ≤ w14.heap.size := by have q := ha14.size; first | exact q | simpa using q
  clear ha14 p0a_13 p0b_13 Wa_13 Wb_13 X0a_13 X0b_13 Ga_13 Gb_13 o_13 g_13 B_13
  have gpos : ¬ (1 : Int) + (wtot ta na : Nat) < 0 := by omega
  go_wp2_with fail
  refine (heldTableG _ _ _ ta pa _ _ hsA (by omega) (by omega) (ho14.atMark hsA)).mono ?_
  rintro e w15 ⟨rfl, hb15⟩
  have p0a_15 := cell_later hb15 p0a_14
  have p0b_15 := cell_later hb15 p0b_14
  have Wa_15 := cell_later hb15 Wa_14
  have Wb_15 := cell_later hb15 Wb_14
  have X0a_15 := cell_later hb15 X0a_14
  have X0b_15 := cell_later hb15 X0b_14
  have Ga_15 := cell_later hb15 Ga_14
  have Gb_15 := cell_later hb15 Gb_14
  have o_15 := o_14.below hb15
  have g_15 := ho14.below hb15
  have B_15 := B_14.trans (hb15.mono B_14.size)
  have zz15 : w14.heap.size ≤ w15.heap.size := by have q := hb15.size; first | exact q | simpa using q
  clear p0a_14 p0b_14 Wa_14 Wb_14 X0a_14 X0b_14 Ga_14 Gb_14 o_14 ho14 B_14
  clear hb15
  go_wp2_with fail
  refine (toTableG _ _ _ z0 p0x _ hs0 (ha0.below B_15)).mono ?_
  rintro e w16 ⟨g16, rfl, ho16, hb16⟩
  have p0a_16 := cell_later hb16 p0a_15
  have p0b_16 := cell_later hb16 p0b_15
  have Wa_16 := cell_later hb16 Wa_15
  have Wb_16 := cell_later hb16 Wb_15
  have X0a_16 := cell_later hb16 X0a_15
  have X0b_16 := cell_later hb16 X0b_15
  have Ga_16 := cell_later hb16 Ga_15
  have Gb_16 := cell_later hb16 Gb_15
  have o_16 := o_15.below hb16
  have g_16 := g_15.below hb16
  have B_16 := B_15.trans (hb16.mono B_15.size)
  have zz16 : w15.heap.size ≤ w16.heap.size := by have q := hb16.size; first | exact q | simpa using q
  clear p0a_15 p0b_15 Wa_15 Wb_15 X0a_15 X0b_15 Ga_15 Gb_15 o_15 g_15 B_15
  clear hb16
  go_wp2_with fail
  refine (HI.out _ _ _ _ _ ho16).mono ?_
  rintro e w17 ⟨⟨r17, m17, d17, cs17, rfl, ho17⟩, hb17⟩
  have p0a_17 := cell_later hb17 p0a_16
  have p0b_17 := cell_later hb17 p0b_16
  have Wa_17 := cell_later hb17 Wa_16
  have Wb_17 := cell_later hb17 Wb_16
  have X0a_17 := cell_later hb17 X0a_16
  have X0b_17 := cell_later hb17 X0b_16
  have Ga_17 := cell_later hb17 Ga_16
  have Gb_17 := cell_later hb17 Gb_16
  have o_17 := o_16.below hb17
  have g_17 := g_16.below hb17
  have h0_17 := ho16.below hb17
  have B_17 := B_16.trans (hb17.mono B_16.size)
  have zz17 : w16.heap.size ≤ w17.heap.size := by have q := hb17.size; first | exact q | simpa using q
  clear p0a_16 p0b_16 Wa_16 Wb_16 X0a_16 X0b_16 Ga_16 Gb_16 o_16 g_16 ho16 B_16
  clear hb17
  clear h0_17
  have ow17 : OwnT w17 (w16.heap.size) w17.heap.size r17 m17 d17 ta := ⟨cs17, by first | exact ho17 | simpa using ho17⟩
  obtain rfl : na = m17 := HNA.out.symm.trans ow17.len
  clear ho17
  have hb18 : Below w17.heap.size w17 (w17.alloc (.cells #[.int .i64 pa, .slice r17 na d17] 30)) := (Below.refl _ _).alloc (Nat.le_refl _) _
  have p0a_18 := cell_later hb18 p0a_17
  have p0b_18 := cell_later hb18 p0b_17
  have Wa_18 := cell_later hb18 Wa_17
  have Wb_18 := cell_later hb18 Wb_17
  have X0a_18 := cell_later hb18 X0a_17
  have X0b_18 := cell_later hb18 X0b_17
  have Ga_18 := cell_later hb18 Ga_17
  have Gb_18 := cell_later hb18 Gb_17
  have o_18 := o_17.below hb18
  have g_18 := g_17.below hb18
  have hg_18 := ow17.below hb18
  have B_18 := B_17.trans (hb18.mono B_17.size)
  have zz18 : w17.heap.size ≤ w17.heap.size + 1 := by simp
  clear p0a_17 p0b_17 Wa_17 Wb_17 X0a_17 X0b_17 Ga_17 Gb_17 o_17 g_17 ow17 B_17
  have Ha_18 : (w17.alloc (.cells #[.int .i64 pa, .slice r17 na d17] 30)).cell? ⟨w17.heap.size, 0, none⟩ = some (.int .i64 pa) := by simp
  have Hb_18 : (w17.alloc (.cells #[.int .i64 pa, .slice r17 na d17] 30)).cell? ⟨w17.heap.size, 1, none⟩ = some (.slice r17 na d17) := by simp
  clear hb18
  go_wp2_with fail
  refine (eqTableG _ _ _ _ _ ta pa _ hsA (hg_18.atW hsA) (o_18.atW hsA)).mono ?_
  rintro e w19 ⟨rfl, hb19⟩
  have p0a_19 := cell_later hb19 p0a_18
  have p0b_19 := cell_later hb19 p0b_18
  have Wa_19 := cell_later hb19 Wa_18
  have Wb_19 := cell_later hb19 Wb_18
  have X0a_19 := cell_later hb19 X0a_18
  have X0b_19 := cell_later hb19 X0b_18
  have Ga_19 := cell_later hb19 Ga_18
  have Gb_19 := cell_later hb19 Gb_18
  have Ha_19 := cell_later hb19 Ha_18
  have Hb_19 := cell_later hb19 Hb_18
  have o_19 := o_18.below hb19
  have g_19 := g_18.below hb19
  have hg_19 := hg_18.below hb19
  have B_19 := B_18.trans (hb19.mono B_18.size)
  have zz19 : w17.heap.size + 1 ≤ w19.heap.size := by have q := hb19.size; first | exact q | simpa using q
  clear p0a_18 p0b_18 Wa_18 Wb_18 X0a_18 X0b_18 Ga_18 Gb_18 Ha_18 Hb_18 o_18 g_18 hg_18 B_18
  clear hb19
  go_wp2_with fail
  refine (heldTableG _ _ _ ta pa _ _ hsA (by omega) (by omega) (g_19.atMark hsA)).mono ?_
  rintro e w20 ⟨rfl, hb20⟩
  have p0a_20 := cell_later hb20 p0a_19
  have p0b_20 := cell_later hb20 p0b_19
  have Wa_20 := cell_later hb20 Wa_19
  have Wb_20 := cell_later hb20 Wb_19
  have X0a_20 := cell_later hb20 X0a_19
  have X0b_20 := cell_later hb20 X0b_19
  have Ga_20 := cell_later hb20 Ga_19
  have Gb_20 := cell_later hb20 Gb_19
  have Ha_20 := cell_later hb20 Ha_19
  have Hb_20 := cell_later hb20 Hb_19
  have o_20 := o_19.below hb20
  have g_20 := g_19.below hb20
  have hg_20 := hg_19.below hb20
  have B_20 := B_19.trans (hb20.mono B_19.size)
  have zz20 : w19.heap.size ≤ w20.heap.size := by have q := hb20.size; first | exact q | simpa using q
  clear p0a_19 p0b_19 Wa_19 Wb_19 X0a_19 X0b_19 Ga_19 Gb_19 Ha_19 Hb_19 o_19 g_19 hg_19 B_19
  clear hb20
  go_wp2
  go_ret
  exact ⟨rfl, B_20⟩

end Go.Proofs.Ytogokgegkakmbab
