/- The law FnExactEmptyTable returns true at every input, and writes nothing that was there. -/
import Derived.Test.YtogokgegkakmbaaLawG
import Derived.Test.YtogokgegkakmbaaSpecN
namespace Go.Proofs.Ytogokgegkakmbaa
open Go.RowKit

set_option maxRecDepth 100000 in
set_option maxHeartbeats 16000000 in
theorem lawEmptyTable (a0 : Int) (w : World) (_w0 : (Lit.int .i64 a0).wf = true) :
    Calls Try.prog 7 #[.int .i64 a0] w fun e w' => e = .returned (.bool true) ∧ Below w.heap.size w w' := by
  have B0 : Below w.heap.size w w := Below.refl _ _
  obtain ⟨ok, pa, ta, hsA, HS, HI⟩ : ∃ (ok : Bool) (pa : Int) (ta : List WRow), SmT ta ta.length ∧ Hid (∀  (w : World), Calls Try.prog 25 #[.int .i64 a0] w fun e w' => TabRet e w' w.heap.size ok pa ta ∧ Below w.heap.size w w') ∧ Hid (∀  (w : World), Calls Try.prog 26 #[.int .i64 a0] w fun e w' => TabRet e w' w.heap.size ok pa ta ∧ Below w.heap.size w w') := ⟨newB a0 [], ansP (newB a0 []) (a0), ansT (newB a0 []) (putAll [] []), ans_small (newB_goodT), fun  w  => specEmptyTable a0 w, fun  w  => implEmptyTable a0 w⟩
  obtain ⟨na, hna⟩ : ∃ na, ta.length = na := ⟨_, rfl⟩
  rw [hna] at hsA
  have hxA := hsA.n
  have HNA := Hid.mk hna
  clear hna
  have hwA := hsA.2
  go_enter Try.func7, Try.ntmps7
  go_wp2_with fail
  refine (HS.out  _ ).mono ?_
  rintro e w1 ⟨⟨r1, m1, d1, cs1, rfl, ho1⟩, hb1⟩
  have B_1 := B0.trans (hb1.mono B0.size)
  have zz1 : w.heap.size ≤ w1.heap.size := by have q := hb1.size; first | exact q | simpa using q
  clear hb1
  have ow1 : OwnT w1 (w.heap.size) w1.heap.size r1 m1 d1 ta := ⟨cs1, by first | exact ho1 | simpa using ho1⟩
  obtain rfl : na = m1 := HNA.out.symm.trans ow1.len
  clear ho1
  have hb2 : Below w1.heap.size w1 (w1.alloc (.cells #[.int .i64 pa, .slice r1 na d1] 26)) := (Below.refl _ _).alloc (Nat.le_refl _) _
  have o_2 := ow1.below hb2
  have B_2 := B_1.trans (hb2.mono B_1.size)
  have zz2 : w1.heap.size ≤ w1.heap.size + 1 := by simp
  clear ow1 B_1
  have Wa_2 : (w1.alloc (.cells #[.int .i64 pa, .slice r1 na d1] 26)).cell? ⟨w1.heap.size, 0, none⟩ = some (.int .i64 pa) := by simp
  have Wb_2 : (w1.alloc (.cells #[.int .i64 pa, .slice r1 na d1] 26)).cell? ⟨w1.heap.size, 1, none⟩ = some (.slice r1 na d1) := by simp
  clear hb2
  go_wp2_with fail
  refine (HI.out  _ ).mono ?_
  rintro e w3 ⟨⟨r3, m3, d3, cs3, rfl, ho3⟩, hb3⟩
  have Wa_3 := cell_later hb3 Wa_2
  have Wb_3 := cell_later hb3 Wb_2
  have o_3 := o_2.below hb3
  have B_3 := B_2.trans (hb3.mono B_2.size)
  have zz3 : w1.heap.size + 1 ≤ w3.heap.size := by have q := hb3.size; first | exact q | simpa using q
  clear Wa_2 Wb_2 o_2 B_2
  clear hb3
  have ow3 : OwnT w3 (w1.heap.size + 1) w3.heap.size r3 m3 d3 ta := ⟨cs3, by first | exact ho3 | simpa using ho3⟩
  obtain rfl : na = m3 := HNA.out.symm.trans ow3.len
  clear ho3
  have hb4 : Below w3.heap.size w3 (w3.alloc (.cells #[.int .i64 pa, .slice r3 na d3] 26)) := (Below.refl _ _).alloc (Nat.le_refl _) _
  have Wa_4 := cell_later hb4 Wa_3
  have Wb_4 := cell_later hb4 Wb_3
  have o_4 := o_3.below hb4
  have g_4 := ow3.below hb4
  have B_4 := B_3.trans (hb4.mono B_3.size)
  have zz4 : w3.heap.size ≤ w3.heap.size + 1 := by simp
  clear Wa_3 Wb_3 o_3 ow3 B_3
  have Ga_4 : (w3.alloc (.cells #[.int .i64 pa, .slice r3 na d3] 26)).cell? ⟨w3.heap.size, 0, none⟩ = some (.int .i64 pa) := by simp
  have Gb_4 : (w3.alloc (.cells #[.int .i64 pa, .slice r3 na d3] 26)).cell? ⟨w3.heap.size, 1, none⟩ = some (.slice r3 na d3) := by simp
  clear hb4
  go_wp2_with fail
  refine (eqTableG _ _ _ _ _ ta pa _ hsA (g_4.atW hsA) (o_4.atW hsA)).mono ?_
  rintro e w5 ⟨rfl, hb5⟩
  have Wa_5 := cell_later hb5 Wa_4
  have Wb_5 := cell_later hb5 Wb_4
  have Ga_5 := cell_later hb5 Ga_4
  have Gb_5 := cell_later hb5 Gb_4
  have o_5 := o_4.below hb5
  have g_5 := g_4.below hb5
  have B_5 := B_4.trans (hb5.mono B_4.size)
  have zz5 : w3.heap.size + 1 ≤ w5.heap.size := by have q := hb5.size; first | exact q | simpa using q
  clear Wa_4 Wb_4 Ga_4 Gb_4 o_4 g_4 B_4
  clear hb5
  go_wp2_with fail
  refine (markTableG _ _ _ _ _ ta pa _ _ hsA (by omega) (by omega) g_5).mono ?_
  rintro e w6 ⟨rfl, ho6, ha6⟩
  have Wa_6 := ha6.cell Wa_5 (show w1.heap.size < w1.heap.size + 1 ∨ w3.heap.size ≤ w1.heap.size by omega)
  have Wb_6 := ha6.cell Wb_5 (show w1.heap.size < w1.heap.size + 1 ∨ w3.heap.size ≤ w1.heap.size by omega)
  have Ga_6 := ha6.cell Ga_5 (show w3.heap.size < w1.heap.size + 1 ∨ w3.heap.size ≤ w3.heap.size by omega)
  have Gb_6 := ha6.cell Gb_5 (show w3.heap.size < w1.heap.size + 1 ∨ w3.heap.size ≤ w3.heap.size by omega)
  have o_6 := o_5.apartW ha6 (by omega)
  have B_6 := B_5.trans (ha6.below B_5.size (by omega))
  have zz6 : w5.heap.size ≤ w6.heap.size := by have q := ha6.size; first | exact q | simpa using q
  clear ha6 Wa_5 Wb_5 Ga_5 Gb_5 o_5 g_5 B_5
  have gpos : ¬ (1 : Int) + (wtot ta na : Nat) < 0 := by omega
  go_wp2_with fail
  refine (heldTableG _ _ _ ta pa _ _ hsA (by omega) (by omega) (ho6.atMark hsA)).mono ?_
  rintro e w7 ⟨rfl, hb7⟩
  have Wa_7 := cell_later hb7 Wa_6
  have Wb_7 := cell_later hb7 Wb_6
  have Ga_7 := cell_later hb7 Ga_6
  have Gb_7 := cell_later hb7 Gb_6
  have o_7 := o_6.below hb7
  have g_7 := ho6.below hb7
  have B_7 := B_6.trans (hb7.mono B_6.size)
  have zz7 : w6.heap.size ≤ w7.heap.size := by have q := hb7.size; first | exact q | simpa using q
  clear Wa_6 Wb_6 Ga_6 Gb_6 o_6 ho6 B_6
  clear hb7
  go_wp2_with fail
  refine (HI.out _).mono ?_
  rintro e w8 ⟨⟨r8, m8, d8, cs8, rfl, ho8⟩, hb8⟩
  have Wa_8 := cell_later hb8 Wa_7
  have Wb_8 := cell_later hb8 Wb_7
  have Ga_8 := cell_later hb8 Ga_7
  have Gb_8 := cell_later hb8 Gb_7
  have o_8 := o_7.below hb8
  have g_8 := g_7.below hb8
  have B_8 := B_7.trans (hb8.mono B_7.size)
  have zz8 : w7.heap.size ≤ w8.heap.size := by have q := hb8.size; first | exact q | simpa using q
  clear Wa_7 Wb_7 Ga_7 Gb_7 o_7 g_7 B_7
  clear hb8
  have ow8 : OwnT w8 (w7.heap.size) w8.heap.size r8 m8 d8 ta := ⟨cs8, by first | exact ho8 | simpa using ho8⟩
  obtain rfl : na = m8 := HNA.out.symm.trans ow8.len
  clear ho8
  have hb9 : Below w8.heap.size w8 (w8.alloc (.cells #[.int .i64 pa, .slice r8 na d8] 26)) := (Below.refl _ _).alloc (Nat.le_refl _) _
  have Wa_9 := cell_later hb9 Wa_8
  have Wb_9 := cell_later hb9 Wb_8
  have Ga_9 := cell_later hb9 Ga_8
  have Gb_9 := cell_later hb9 Gb_8
  have o_9 := o_8.below hb9
  have g_9 := g_8.below hb9
  have hg_9 := ow8.below hb9
  have B_9 := B_8.trans (hb9.mono B_8.size)
  have zz9 : w8.heap.size ≤ w8.heap.size + 1 := by simp
  clear Wa_8 Wb_8 Ga_8 Gb_8 o_8 g_8 ow8 B_8
  have Ha_9 : (w8.alloc (.cells #[.int .i64 pa, .slice r8 na d8] 26)).cell? ⟨w8.heap.size, 0, none⟩ = some (.int .i64 pa) := by simp
  have Hb_9 : (w8.alloc (.cells #[.int .i64 pa, .slice r8 na d8] 26)).cell? ⟨w8.heap.size, 1, none⟩ = some (.slice r8 na d8) := by simp
  clear hb9
  go_wp2_with fail
  refine (eqTableG _ _ _ _ _ ta pa _ hsA (hg_9.atW hsA) (o_9.atW hsA)).mono ?_
  rintro e w10 ⟨rfl, hb10⟩
  have Wa_10 := cell_later hb10 Wa_9
  have Wb_10 := cell_later hb10 Wb_9
  have Ga_10 := cell_later hb10 Ga_9
  have Gb_10 := cell_later hb10 Gb_9
  have Ha_10 := cell_later hb10 Ha_9
  have Hb_10 := cell_later hb10 Hb_9
  have o_10 := o_9.below hb10
  have g_10 := g_9.below hb10
  have hg_10 := hg_9.below hb10
  have B_10 := B_9.trans (hb10.mono B_9.size)
  have zz10 : w8.heap.size + 1 ≤ w10.heap.size := by have q := hb10.size; first | exact q | simpa using q
  clear Wa_9 Wb_9 Ga_9 Gb_9 Ha_9 Hb_9 o_9 g_9 hg_9 B_9
  clear hb10
  go_wp2_with fail
  refine (heldTableG _ _ _ ta pa _ _ hsA (by omega) (by omega) (g_10.atMark hsA)).mono ?_
  rintro e w11 ⟨rfl, hb11⟩
  have Wa_11 := cell_later hb11 Wa_10
  have Wb_11 := cell_later hb11 Wb_10
  have Ga_11 := cell_later hb11 Ga_10
  have Gb_11 := cell_later hb11 Gb_10
  have Ha_11 := cell_later hb11 Ha_10
  have Hb_11 := cell_later hb11 Hb_10
  have o_11 := o_10.below hb11
  have g_11 := g_10.below hb11
  have hg_11 := hg_10.below hb11
  have B_11 := B_10.trans (hb11.mono B_10.size)
  have zz11 : w10.heap.size ≤ w11.heap.size := by have q := hb11.size; first | exact q | simpa using q
  clear Wa_10 Wb_10 Ga_10 Gb_10 Ha_10 Hb_10 o_10 g_10 hg_10 B_10
  clear hb11
  go_wp2
  go_ret
  exact ⟨rfl, B_11⟩

end Go.Proofs.Ytogokgegkakmbaa
