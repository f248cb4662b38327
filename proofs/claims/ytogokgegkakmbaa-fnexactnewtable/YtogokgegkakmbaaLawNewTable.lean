/- The law FnExactNewTable returns true at every input, and writes nothing that was there. -/
import Derived.Test.YtogokgegkakmbaaLawG
import Derived.Test.YtogokgegkakmbaaSpecN
namespace Go.Proofs.Ytogokgegkakmbaa
open Go.RowKit

set_option maxRecDepth 100000 in
set_option maxHeartbeats 16000000 in
theorem lawNewTable (a0 : Int) (a1 : Option Addr) (n1 c1 : Nat) (z1 : List WRow) (w : World) (_w0 : (Lit.int .i64 a0).wf = true) (hz1 : z1.length = n1) (hn1 : n1 ≤ 9223372036854775807) (ha1 : AtW w a1 z1) :
    Calls Try.prog 3 #[.int .i64 a0, .slice a1 n1 c1] w fun e w' => e = .returned (.bool true) ∧ Below w.heap.size w w' := by
  have B0 : Below w.heap.size w w := Below.refl _ _
  by_cases big1 : (1048576 : Int) < (wtot z1 n1 : Nat)
  · go_enter Try.func3, Try.ntmps3
    go_wp2_with fail
    refine (szWeightedS_any _ _ _ z1 _ _ hz1 hn1 (by omega) (by omega) (ha1.below B0)).mono ?_
    rintro e v0 ⟨rfl, hv0⟩
    rw [leftOf_no big1]
    have y0 := B0.trans (hv0.mono B0.size)
    go_wp2
    go_ret
    exact ⟨rfl, y0⟩
  have hl1 : ¬ (1048576 : Int) - (wtot z1 n1 : Nat) < 0 := by omega
  have hs1 : SmT z1 n1 := ⟨hz1, by omega⟩
  have hx1 := hs1.n
  obtain ⟨ok, pa, ta, hsA, HS, HI⟩ : ∃ (ok : Bool) (pa : Int) (ta : List WRow), SmT ta ta.length ∧ Hid (∀ (x1 : Option Addr) (y1 lo1 hi1 : Nat) (w : World), OwnT w lo1 hi1 x1 n1 y1 z1 → Calls Try.prog 9 #[.int .i64 a0, .slice x1 n1 y1] w fun e w' => TabRet e w' w.heap.size ok pa ta ∧ Below w.heap.size w w') ∧ Hid (∀ (x1 : Option Addr) (y1 lo1 hi1 : Nat) (w : World), OwnT w lo1 hi1 x1 n1 y1 z1 → Calls Try.prog 11 #[.int .i64 a0, .slice x1 n1 y1] w fun e w' => TabRet e w' w.heap.size ok pa ta ∧ Below w.heap.size w w') := ⟨newB a0 z1, ansP (newB a0 z1) (a0), ansT (newB a0 z1) (putAll [] z1), ans_small newB_goodT, fun x1 y1 lo1 hi1 w o1 => specNewTable x1 n1 y1 z1 a0 w hs1.1 hs1.n (o1.atM hs1), fun x1 y1 lo1 hi1 w o1 => implNewTable x1 n1 y1 z1 a0 w hs1.1 hs1.n (o1.atW hs1)⟩
  obtain ⟨na, hna⟩ : ∃ na, ta.length = na := ⟨_, rfl⟩
  rw [hna] at hsA
  have hxA := hsA.n
  have HNA := Hid.mk hna
  clear hna
  have hwA := hsA.2
  go_enter Try.func3, Try.ntmps3
  go_wp2_with fail
  refine (szWeightedS_any _ _ _ z1 _ _ hz1 hn1 (by omega) (by omega) (ha1.below B0)).mono ?_
  rintro e w1 ⟨rfl, hb1⟩
  rw [leftOf_yes (by omega)]
  have B_1 := B0.trans (hb1.mono B0.size)
  have zz1 : w.heap.size ≤ w1.heap.size := by have q := hb1.size; first | exact q | simpa using q
  clear hb1
  go_wp2_with fail
  refine (toWeightedSG _ _ _ z1 _ hs1 (ha1.below B_1)).mono ?_
  rintro e w2 ⟨g2, rfl, ho2, hb2⟩
  have B_2 := B_1.trans (hb2.mono B_1.size)
  have zz2 : w1.heap.size ≤ w2.heap.size := by have q := hb2.size; first | exact q | simpa using q
  clear B_1
  clear hb2
  go_wp2_with fail
  refine (HS.out _ _ _ _ _ ho2).mono ?_
  rintro e w3 ⟨⟨r3, m3, d3, cs3, rfl, ho3⟩, hb3⟩
  have t1_3 := ho2.below hb3
  have B_3 := B_2.trans (hb3.mono B_2.size)
  have zz3 : w2.heap.size ≤ w3.heap.size := by have q := hb3.size; first | exact q | simpa using q
  clear ho2 B_2
  clear hb3
  clear t1_3
  have ow3 : OwnT w3 (w2.heap.size) w3.heap.size r3 m3 d3 ta := ⟨cs3, by first | exact ho3 | simpa using ho3⟩
  obtain rfl : na = m3 := HNA.out.symm.trans ow3.len
  clear ho3
  have hb4 : Below w3.heap.size w3 (w3.alloc (.cells #[.int .i64 pa, .slice r3 na d3] 26)) := (Below.refl _ _).alloc (Nat.le_refl _) _
  have o_4 := ow3.below hb4
  have B_4 := B_3.trans (hb4.mono B_3.size)
  have zz4 : w3.heap.size ≤ w3.heap.size + 1 := by simp
  clear ow3 B_3
  have Wa_4 : (w3.alloc (.cells #[.int .i64 pa, .slice r3 na d3] 26)).cell? ⟨w3.heap.size, 0, none⟩ = some (.int .i64 pa) := by simp
  have Wb_4 : (w3.alloc (.cells #[.int .i64 pa, .slice r3 na d3] 26)).cell? ⟨w3.heap.size, 1, none⟩ = some (.slice r3 na d3) := by simp
  clear hb4
  go_wp2_with fail
  refine (toWeightedSG _ _ _ z1 _ hs1 (ha1.below B_4)).mono ?_
  rintro e w5 ⟨g5, rfl, ho5, hb5⟩
  have Wa_5 := cell_later hb5 Wa_4
  have Wb_5 := cell_later hb5 Wb_4
  have o_5 := o_4.below hb5
  have B_5 := B_4.trans (hb5.mono B_4.size)
  have zz5 : w3.heap.size + 1 ≤ w5.heap.size := by have q := hb5.size; first | exact q | simpa using q
  clear Wa_4 Wb_4 o_4 B_4
  clear hb5
  have ox5 : OwnT w5 (w3.heap.size + 1) w5.heap.size (some ⟨g5, 0, none⟩) n1 n1 z1 := by first | exact ho5 | simpa using ho5
  clear ho5
  go_wp2_with fail
  refine (HI.out _ _ _ _ _ ox5).mono ?_
  rintro e w6 ⟨⟨r6, m6, d6, cs6, rfl, ho6⟩, hb6⟩
  have Wa_6 := cell_later hb6 Wa_5
  have Wb_6 := cell_later hb6 Wb_5
  have o_6 := o_5.below hb6
  have x1_6 := ox5.below hb6
  have B_6 := B_5.trans (hb6.mono B_5.size)
  have zz6 : w5.heap.size ≤ w6.heap.size := by have q := hb6.size; first | exact q | simpa using q
  clear Wa_5 Wb_5 o_5 ox5 B_5
  clear hb6
  have ow6 : OwnT w6 (w5.heap.size) w6.heap.size r6 m6 d6 ta := ⟨cs6, by first | exact ho6 | simpa using ho6⟩
  obtain rfl : na = m6 := HNA.out.symm.trans ow6.len
  clear ho6
  have hb7 : Below w6.heap.size w6 (w6.alloc (.cells #[.int .i64 pa, .slice r6 na d6] 26)) := (Below.refl _ _).alloc (Nat.le_refl _) _
  have Wa_7 := cell_later hb7 Wa_6
  have Wb_7 := cell_later hb7 Wb_6
  have o_7 := o_6.below hb7
  have x1_7 := x1_6.below hb7
  have g_7 := ow6.below hb7
  have B_7 := B_6.trans (hb7.mono B_6.size)
  have zz7 : w6.heap.size ≤ w6.heap.size + 1 := by simp
  clear Wa_6 Wb_6 o_6 x1_6 ow6 B_6
  have Ga_7 : (w6.alloc (.cells #[.int .i64 pa, .slice r6 na d6] 26)).cell? ⟨w6.heap.size, 0, none⟩ = some (.int .i64 pa) := by simp
  have Gb_7 : (w6.alloc (.cells #[.int .i64 pa, .slice r6 na d6] 26)).cell? ⟨w6.heap.size, 1, none⟩ = some (.slice r6 na d6) := by simp
  clear hb7
  go_wp2_with fail
  refine (eqTableG _ _ _ _ _ ta pa _ hsA (g_7.atW hsA) (o_7.atW hsA)).mono ?_
  rintro e w8 ⟨rfl, hb8⟩
  have Wa_8 := cell_later hb8 Wa_7
  have Wb_8 := cell_later hb8 Wb_7
  have Ga_8 := cell_later hb8 Ga_7
  have Gb_8 := cell_later hb8 Gb_7
  have o_8 := o_7.below hb8
  have x1_8 := x1_7.below hb8
  have g_8 := g_7.below hb8
  have B_8 := B_7.trans (hb8.mono B_7.size)
  have zz8 : w6.heap.size + 1 ≤ w8.heap.size := by have q := hb8.size; first | exact q | simpa using q
  clear Wa_7 Wb_7 Ga_7 Gb_7 o_7 x1_7 g_7 B_7
  clear hb8
  go_wp2_with fail
  refine (toWeightedSG _ _ _ z1 _ hs1 (ha1.below B_8)).mono ?_
  rintro e w9 ⟨g9, rfl, ho9, hb9⟩
  have Wa_9 := cell_later hb9 Wa_8
  have Wb_9 := cell_later hb9 Wb_8
  have Ga_9 := cell_later hb9 Ga_8
  have Gb_9 := cell_later hb9 Gb_8
  have o_9 := o_8.below hb9
  have x1_9 := x1_8.below hb9
  have g_9 := g_8.below hb9
  have B_9 := B_8.trans (hb9.mono B_8.size)
  have zz9 : w8.heap.size ≤ w9.heap.size := by have q := hb9.size; first | exact q | simpa using q
  clear Wa_8 Wb_8 Ga_8 Gb_8 o_8 x1_8 g_8 B_8
  clear hb9
  go_wp2_with fail
  refine (eqWeightedSG _ _ _ _ _ z1 _ hs1 (x1_9.atW hs1) (ho9.atW hs1)).mono ?_
  rintro e w10 ⟨rfl, hb10⟩
  have Wa_10 := cell_later hb10 Wa_9
  have Wb_10 := cell_later hb10 Wb_9
  have Ga_10 := cell_later hb10 Ga_9
  have Gb_10 := cell_later hb10 Gb_9
  have o_10 := o_9.below hb10
  have x1_10 := x1_9.below hb10
  have g_10 := g_9.below hb10
  have y_10 := ho9.below hb10
  have B_10 := B_9.trans (hb10.mono B_9.size)
  have zz10 : w9.heap.size ≤ w10.heap.size := by have q := hb10.size; first | exact q | simpa using q
  clear Wa_9 Wb_9 Ga_9 Gb_9 o_9 x1_9 g_9 ho9 B_9
  clear hb10
  clear y_10
  go_wp2_with fail
  refine (markWeightedSG _ _ _ _ _ z1 _ _ hs1 (by omega) (by omega) x1_10).mono ?_
  rintro e w11 ⟨rfl, ho11, ha11⟩
  have Wa_11 := ha11.cell Wa_10 (show w3.heap.size < w3.heap.size + 1 ∨ w5.heap.size ≤ w3.heap.size by omega)
  have Wb_11 := ha11.cell Wb_10 (show w3.heap.size < w3.heap.size + 1 ∨ w5.heap.size ≤ w3.heap.size by omega)
  have Ga_11 := ha11.cell Ga_10 (show w6.heap.size < w3.heap.size + 1 ∨ w5.heap.size ≤ w6.heap.size by omega)
  have Gb_11 := ha11.cell Gb_10 (show w6.heap.size < w3.heap.size + 1 ∨ w5.heap.size ≤ w6.heap.size by omega)
  have o_11 := o_10.apartW ha11 (by omega)
  have g_11 := g_10.apartW ha11 (by omega)
  have B_11 := B_10.trans (ha11.below B_10.size (by omega))
  have zz11 : w10.heap.size ≤ w11.heap.size := by have q := ha11.size; first | exact q | simpa using q
  clear ha11 Wa_10 Wb_10 Ga_10 Gb_10 o_10 x1_10 g_10 B_10
  have kpos : ¬ (1 : Int) + (wtot z1 n1 : Nat) < 0 := by omega
  go_wp2_with fail
  refine (eqTableG _ _ _ _ _ ta pa _ hsA (g_11.atW hsA) (o_11.atW hsA)).mono ?_
  rintro e w12 ⟨rfl, hb12⟩
  have Wa_12 := cell_later hb12 Wa_11
  have Wb_12 := cell_later hb12 Wb_11
  have Ga_12 := cell_later hb12 Ga_11
  have Gb_12 := cell_later hb12 Gb_11
  have o_12 := o_11.below hb12
  have x1_12 := ho11.below hb12
  have g_12 := g_11.below hb12
  have B_12 := B_11.trans (hb12.mono B_11.size)
  have zz12 : w11.heap.size ≤ w12.heap.size := by have q := hb12.size; first | exact q | simpa using q
  clear Wa_11 Wb_11 Ga_11 Gb_11 o_11 ho11 g_11 B_11
  clear hb12
  clear x1_12
  go_wp2_with fail
  refine (markTableG _ _ _ _ _ ta pa _ _ hsA (by omega) (by omega) g_12).mono ?_
  rintro e w13 ⟨rfl, ho13, ha13⟩
  have Wa_13 := ha13.cell Wa_12 (show w3.heap.size < w5.heap.size ∨ w6.heap.size ≤ w3.heap.size by omega)
  have Wb_13 := ha13.cell Wb_12 (show w3.heap.size < w5.heap.size ∨ w6.heap.size ≤ w3.heap.size by omega)
  have Ga_13 := ha13.cell Ga_12 (show w6.heap.size < w5.heap.size ∨ w6.heap.size ≤ w6.heap.size by omega)
  have Gb_13 := ha13.cell Gb_12 (show w6.heap.size < w5.heap.size ∨ w6.heap.size ≤ w6.heap.size by omega)
  have o_13 := o_12.apartW ha13 (by omega)
  have B_13 := B_12.trans (ha13.below B_12.size (by omega))
  have zz13 : w12.heap.size ≤ w13.heap.size := by have q := ha13.size; first | exact q | simpa using q
  clear ha13 Wa_12 Wb_12 Ga_12 Gb_12 o_12 g_12 B_12
  have gpos : ¬ (1 : Int) + (wtot ta na : Nat) < 0 := by omega
  go_wp2_with fail
  refine (heldTableG _ _ _ ta pa _ _ hsA (by omega) (by omega) (ho13.atMark hsA)).mono ?_
  rintro e w14 ⟨rfl, hb14⟩
  have Wa_14 := cell_later hb14 Wa_13
  have Wb_14 := cell_later hb14 Wb_13
  have Ga_14 := cell_later hb14 Ga_13
  have Gb_14 := cell_later hb14 Gb_13
  have o_14 := o_13.below hb14
  have g_14 := ho13.below hb14
  have B_14 := B_13.trans (hb14.mono B_13.size)
  have zz14 : w13.heap.size ≤ w14.heap.size := by have q := hb14.size; first | exact q | simpa using q
  clear Wa_13 Wb_13 Ga_13 Gb_13 o_13 ho13 B_13
  clear hb14
  go_wp2_with fail
  refine (toWeightedSG _ _ _ z1 _ hs1 (ha1.below B_14)).mono ?_
  rintro e w15 ⟨g15, rfl, ho15, hb15⟩
  have Wa_15 := cell_later hb15 Wa_14
  have Wb_15 := cell_later hb15 Wb_14
  have Ga_15 := cell_later hb15 Ga_14
  have Gb_15 := cell_later hb15 Gb_14
  have o_15 := o_14.below hb15
  have g_15 := g_14.below hb15
  have B_15 := B_14.trans (hb15.mono B_14.size)
  have zz15 : w14.heap.size ≤ w15.heap.size := by have q := hb15.size; first | exact q | simpa using q
  clear Wa_14 Wb_14 Ga_14 Gb_14 o_14 g_14 B_14
  clear hb15
  go_wp2_with fail
  refine (HI.out _ _ _ _ _ ho15).mono ?_
  rintro e w16 ⟨⟨r16, m16, d16, cs16, rfl, ho16⟩, hb16⟩
  have Wa_16 := cell_later hb16 Wa_15
  have Wb_16 := cell_later hb16 Wb_15
  have Ga_16 := cell_later hb16 Ga_15
  have Gb_16 := cell_later hb16 Gb_15
  have o_16 := o_15.below hb16
  have g_16 := g_15.below hb16
  have h1_16 := ho15.below hb16
  have B_16 := B_15.trans (hb16.mono B_15.size)
  have zz16 : w15.heap.size ≤ w16.heap.size := by have q := hb16.size; first | exact q | simpa using q
  clear Wa_15 Wb_15 Ga_15 Gb_15 o_15 g_15 ho15 B_15
  clear hb16
  clear h1_16
  have ow16 : OwnT w16 (w15.heap.size) w16.heap.size r16 m16 d16 ta := ⟨cs16, by first | exact ho16 | simpa using ho16⟩
  obtain rfl : na = m16 := HNA.out.symm.trans ow16.len
  clear ho16
  have hb17 : Below w16.heap.size w16 (w16.alloc (.cells #[.int .i64 pa, .slice r16 na d16] 26)) := (Below.refl _ _).alloc (Nat.le_refl _) _
  have Wa_17 := cell_later hb17 Wa_16
  have Wb_17 := cell_later hb17 Wb_16
  have Ga_17 := cell_later hb17 Ga_16
  have Gb_17 := cell_later hb17 Gb_16
  have o_17 := o_16.below hb17
  have g_17 := g_16.below hb17
  have hg_17 := ow16.below hb17
  have B_17 := B_16.trans (hb17.mono B_16.size)
  have zz17 : w16.heap.size ≤ w16.heap.size + 1 := by simp
  clear Wa_16 Wb_16 Ga_16 Gb_16 o_16 g_16 ow16 B_16
  have Ha_17 : (w16.alloc (.cells #[.int .i64 pa, .slice r16 na d16] 26)).cell? ⟨w16.heap.size, 0, none⟩ = some (.int .i64 pa) := by simp
  have Hb_17 : (w16.alloc (.cells #[.int .i64 pa, .slice r16 na d16] 26)).cell? ⟨w16.heap.size, 1, none⟩ = some (.slice r16 na d16) := by simp
  clear hb17
  go_wp2_with fail
  refine (eqTableG _ _ _ _ _ ta pa _ hsA (hg_17.atW hsA) (o_17.atW hsA)).mono ?_
  rintro e w18 ⟨rfl, hb18⟩
  have Wa_18 := cell_later hb18 Wa_17
  have Wb_18 := cell_later hb18 Wb_17
  have Ga_18 := cell_later hb18 Ga_17
  have Gb_18 := cell_later hb18 Gb_17
  have Ha_18 := cell_later hb18 Ha_17
  have Hb_18 := cell_later hb18 Hb_17
  have o_18 := o_17.below hb18
  have g_18 := g_17.below hb18
  have hg_18 := hg_17.below hb18
  have B_18 := B_17.trans (hb18.mono B_17.size)
  have zz18 : w16.heap.size + 1 ≤ w18.heap.size := by have q := hb18.size; first | exact q | simpa using q
  clear Wa_17 Wb_17 Ga_17 Gb_17 Ha_17 Hb_17 o_17 g_17 hg_17 B_17
  clear hb18
  go_wp2_with fail
  refine (heldTableG _ _ _ ta pa _ _ hsA (by omega) (by omega) (g_18.atMark hsA)).mono ?_
  rintro e w19 ⟨rfl, hb19⟩
  have Wa_19 := cell_later hb19 Wa_18
  have Wb_19 := cell_later hb19 Wb_18
  have Ga_19 := cell_later hb19 Ga_18
  have Gb_19 := cell_later hb19 Gb_18
  have Ha_19 := cell_later hb19 Ha_18
  have Hb_19 := cell_later hb19 Hb_18
  have o_19 := o_18.below hb19
  have g_19 := g_18.below hb19
  have hg_19 := hg_18.below hb19
  have B_19 := B_18.trans (hb19.mono B_18.size)
  have zz19 : w18.heap.size ≤ w19.heap.size := by have q := hb19.size; first | exact q | simpa using q
  clear Wa_18 Wb_18 Ga_18 Gb_18 Ha_18 Hb_18 o_18 g_18 hg_18 B_18
  clear hb19
  go_wp2
  go_ret
  exact ⟨rfl, B_19⟩

end Go.Proofs.Ytogokgegkakmbaa
