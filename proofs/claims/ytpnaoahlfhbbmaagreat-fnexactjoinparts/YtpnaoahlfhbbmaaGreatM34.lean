/- Several texts of one proof, in build order: JpU, LawJoinParts, Open, OpenT, OpenU, OpenS. -/
import Derived.Test.YtpnaoahlfhbbmaaGreatM30
import Derived.Test.YtpnaoahlfhbbmaaGreatM33
import Derived.Test.YtpnaoahlfhbbmaaGreatM9
import Derived.Test.YtpnaoahlfhbbmaaGreatM8
import Derived.Test.YtpnaoahlfhbbmaaGreatM10
import Derived.Test.YtpnaoahlfhbbmaaGreatM11
import Derived.Test.YtpnaoahlfhbbmaaGreatM1
import Derived.ProofKit
import Derived.OpenShut
import Derived.ShutString
import Derived.ChangeOld
import Derived.Lib.SmallJoins
import Derived.Test.YtpnaoahlfhbbmaaGreatM2
import Derived.Deep.SlicePairs
import Derived.Deep.Matrix

/- Both JoinParts tell the same; what they tell is a good table. -/
namespace Go.Proofs.YtpnaoahlfhbbmaaGreat
open Go.RowKit

theorem jpB_goodT {l : List Tab} {zss : List (List Int)} {C : Int} (h : jpB l zss C = true) : goodT C (jpW l zss C) = true := by
  unfold jpB at h
  rw [Bool.and_eq_true, Bool.and_eq_true, Bool.and_eq_true, decide_eq_true_eq] at h
  obtain ⟨h1, h2, h3, h4⟩ := h
  obtain ⟨q, rfl, _, hq6, _, _, hcls, hall⟩ := gpB_parts h1
  rw [Int.toNat_natCast] at h4
  unfold jpW
  rw [Int.toNat_natCast]
  exact jm_good hq6 hcls hall h2.symm h3 h4

end Go.Proofs.YtpnaoahlfhbbmaaGreat

/- The law FnExactJoinParts returns true at every input, and writes nothing that was there. -/
namespace Go.Proofs.YtpnaoahlfhbbmaaGreat
open Go.RowKit

set_option maxRecDepth 100000 in
set_option maxHeartbeats 16000000 in
theorem lawJoinParts (a0 : Option Addr) (n0 c0 : Nat) (z0 : List Tab) (a1 : Option Addr) (n1 c1 : Nat) (z1 : List (List Int)) (a2 : Int) (w : World) (hz0 : z0.length = n0) (hn0 : n0 ≤ 9223372036854775807) (ha0 : AtSW w a0 z0) (hz1 : z1.length = n1) (hn1 : n1 ≤ 9223372036854775807) (ha1 : AtS w a1 z1) (_w2 : (Lit.int .i64 a2).wf = true) :
    Calls Tryz.prog 3 #[.slice a0 n0 c0, .slice a1 n1 c1, .int .i64 a2] w fun e w' => e = .returned (.bool true) ∧ Below w.heap.size w w' := by
  have B0 : Below w.heap.size w w := Below.refl _ _
  by_cases big0 : (1048576 : Int) < (stot z0 n0 : Nat)
  · go_enter Tryz.func3, Tryz.ntmps3
    go_wp2_with fail
    refine (szTableS_any _ _ _ z0 _ _ hz0 hn0 (by omega) (by omega) (ha0.below B0)).mono ?_
    rintro e v0 ⟨rfl, hv0⟩
    rw [leftOf_no big0]
    have y0 := B0.trans (hv0.mono B0.size)
    go_wp2
    go_ret
    exact ⟨rfl, y0⟩
  have hl0 : ¬ (1048576 : Int) - (stot z0 n0 : Nat) < 0 := by omega
  have hs0 : SmU z0 n0 := ⟨hz0, by omega⟩
  by_cases big1 : (1048576 : Int) - (stot z0 n0 : Nat) < (n1 + tot z1 n1 : Nat)
  · go_enter Tryz.func3, Tryz.ntmps3
    go_wp2_with fail
    refine (szTableS_any _ _ _ z0 _ _ hz0 hn0 (by omega) (by omega) (ha0.below B0)).mono ?_
    rintro e v0 ⟨rfl, hv0⟩
    rw [leftOf_yes (by omega)]
    have y0 := B0.trans (hv0.mono B0.size)
    go_wp2_with fail
    refine (szIntSSG _ _ _ z1 _ _ hz1 hn1 (by omega) (by omega) (ha1.below y0)).mono ?_
    rintro e v1 ⟨rfl, hv1⟩
    rw [leftOf_no big1]
    have y1 := y0.trans (hv1.mono y0.size)
    go_wp2
    go_ret
    exact ⟨rfl, y1⟩
  have hl1 : ¬ (1048576 : Int) - (stot z0 n0 : Nat) - (n1 + tot z1 n1 : Nat) < 0 := by omega
  have hs1 : SmP z1 n1 := ⟨hz1, by omega⟩
  have hx0 := hs0.n
  have hx1 := hs1.n
  obtain ⟨ok, pa, ta, hsA, HS, HI⟩ : ∃ (ok : Bool) (pa : Int) (ta : List WRow), SmT ta ta.length ∧ Hid (∀ (x0 : Option Addr) (y0 lo0 hi0 : Nat) (x1 : Option Addr) (y1 lo1 hi1 : Nat) (w : World), OwnU w lo0 hi0 x0 n0 y0 z0 → OwnP w lo1 hi1 x1 n1 y1 z1 → Calls Tryz.prog 6 #[.slice x0 n0 y0, .slice x1 n1 y1, .int .i64 a2] w fun e w' => TabRet e w' w.heap.size ok pa ta ∧ Below w.heap.size w w') ∧ Hid (∀ (x0 : Option Addr) (y0 lo0 hi0 : Nat) (x1 : Option Addr) (y1 lo1 hi1 : Nat) (w : World), OwnU w lo0 hi0 x0 n0 y0 z0 → OwnP w lo1 hi1 x1 n1 y1 z1 → Calls Tryz.prog 9 #[.slice x0 n0 y0, .slice x1 n1 y1, .int .i64 a2] w fun e w' => TabRet e w' w.heap.size ok pa ta ∧ Below w.heap.size w w') := ⟨jpB z0 z1 a2, ansP (jpB z0 z1 a2) (a2), ansT (jpB z0 z1 a2) (jpW z0 z1 a2), ans_small jpB_goodT, fun x0 y0 lo0 hi0 x1 y1 lo1 hi1 w o0 o1 => specJoinParts x0 n0 y0 z0 x1 n1 y1 z1 a2 w hs0 hs1.1 hs1.n (by have := hs1.2; omega) (o0.atM hs0) (o1.at hs1), fun x0 y0 lo0 hi0 x1 y1 lo1 hi1 w o0 o1 => implJoinParts x0 n0 y0 z0 x1 n1 y1 z1 a2 w hs0 hs1.1 hs1.n (o0.atM hs0) (o1.at hs1)⟩
  obtain ⟨na, hna⟩ : ∃ na, ta.length = na := ⟨_, rfl⟩
  rw [hna] at hsA
  have hxA := hsA.n
  have HNA := Hid.mk hna
  clear hna
  have hwA := hsA.2
  go_enter Tryz.func3, Tryz.ntmps3
  go_wp2_with fail
  refine (szTableS_any _ _ _ z0 _ _ hz0 hn0 (by omega) (by omega) (ha0.below B0)).mono ?_
  rintro e w1 ⟨rfl, hb1⟩
  rw [leftOf_yes (by omega)]
  have B_1 := B0.trans (hb1.mono B0.size)
  have zz1 : w.heap.size ≤ w1.heap.size := by have q := hb1.size; first | exact q | simpa using q
  clear hb1
  go_wp2_with fail
  refine (szIntSSG _ _ _ z1 _ _ hz1 hn1 (by omega) (by omega) (ha1.below B_1)).mono ?_
  rintro e w2 ⟨rfl, hb2⟩
  rw [leftOf_yes (by omega)]
  have B_2 := B_1.trans (hb2.mono B_1.size)
  have zz2 : w1.heap.size ≤ w2.heap.size := by have q := hb2.size; first | exact q | simpa using q
  clear B_1
  clear hb2
  go_wp2_with fail
  refine (toTableS_any _ _ _ z0 _ hs0 (ha0.below B_2)).mono ?_
  rintro e w3 ⟨g3, rfl, ho3, hb3⟩
  have B_3 := B_2.trans (hb3.mono B_2.size)
  have zz3 : w2.heap.size ≤ w3.heap.size := by have q := hb3.size; first | exact q | simpa using q
  clear B_2
  clear hb3
  go_wp2_with fail
  refine (toIntSSG _ _ _ z1 _ hs1 (ha1.below B_3)).mono ?_
  rintro e w4 ⟨g4, rfl, ho4, hb4⟩
  have t0_4 := ho3.below hb4
  have B_4 := B_3.trans (hb4.mono B_3.size)
  have zz4 : w3.heap.size ≤ w4.heap.size := by have q := hb4.size; first | exact q | simpa using q
  clear ho3 B_3
  clear hb4
  go_wp2_with fail
  refine (HS.out _ _ _ _ _ _ _ _ _ t0_4 ho4).mono ?_
  rintro e w5 ⟨⟨r5, m5, d5, cs5, rfl, ho5⟩, hb5⟩
  have t0_5 := t0_4.below hb5
  have t1_5 := ho4.below hb5
  have B_5 := B_4.trans (hb5.mono B_4.size)
  have zz5 : w4.heap.size ≤ w5.heap.size := by have q := hb5.size; first | exact q | simpa using q
  clear t0_4 ho4 B_4
  clear hb5
  clear t0_5
  clear t1_5
  have ow5 : OwnT w5 (w4.heap.size) w5.heap.size r5 m5 d5 ta := ⟨cs5, by first | exact ho5 | simpa using ho5⟩
  obtain rfl : na = m5 := HNA.out.symm.trans ow5.len
  clear ho5
  have hb6 : Below w5.heap.size w5 (w5.alloc (.cells #[.int .i64 pa, .slice r5 na d5] 28)) := (Below.refl _ _).alloc (Nat.le_refl _) _
  have o_6 := ow5.below hb6
  have B_6 := B_5.trans (hb6.mono B_5.size)
  have zz6 : w5.heap.size ≤ w5.heap.size + 1 := by simp
  clear ow5 B_5
  have Wa_6 : (w5.alloc (.cells #[.int .i64 pa, .slice r5 na d5] 28)).cell? ⟨w5.heap.size, 0, none⟩ = some (.int .i64 pa) := by simp
  have Wb_6 : (w5.alloc (.cells #[.int .i64 pa, .slice r5 na d5] 28)).cell? ⟨w5.heap.size, 1, none⟩ = some (.slice r5 na d5) := by simp
  clear hb6
  go_wp2_with fail
  refine (toTableS_any _ _ _ z0 _ hs0 (ha0.below B_6)).mono ?_
  rintro e w7 ⟨g7, rfl, ho7, hb7⟩
  have Wa_7 := cell_later hb7 Wa_6
  have Wb_7 := cell_later hb7 Wb_6
  have o_7 := o_6.below hb7
  have B_7 := B_6.trans (hb7.mono B_6.size)
  have zz7 : w5.heap.size + 1 ≤ w7.heap.size := by have q := hb7.size; first | exact q | simpa using q
  clear Wa_6 Wb_6 o_6 B_6
  clear hb7
  have ox7 : OwnU w7 (w5.heap.size + 1) w7.heap.size (some ⟨g7, 0, none⟩) n0 n0 z0 := by first | exact ho7 | simpa using ho7
  clear ho7
  go_wp2_with fail
  refine (toIntSSG _ _ _ z1 _ hs1 (ha1.below B_7)).mono ?_
  rintro e w8 ⟨g8, rfl, ho8, hb8⟩
  have Wa_8 := cell_later hb8 Wa_7
  have Wb_8 := cell_later hb8 Wb_7
  have o_8 := o_7.below hb8
  have x0_8 := ox7.below hb8
  have B_8 := B_7.trans (hb8.mono B_7.size)
  have zz8 : w7.heap.size ≤ w8.heap.size := by have q := hb8.size; first | exact q | simpa using q
  clear Wa_7 Wb_7 o_7 ox7 B_7
  clear hb8
  have ox8 : OwnP w8 (w7.heap.size) w8.heap.size (some ⟨g8, 0, none⟩) n1 n1 z1 := by first | exact ho8 | simpa using ho8
  clear ho8
  go_wp2_with fail
  refine (HI.out _ _ _ _ _ _ _ _ _ x0_8 ox8).mono ?_
  rintro e w9 ⟨⟨r9, m9, d9, cs9, rfl, ho9⟩, hb9⟩
  have Wa_9 := cell_later hb9 Wa_8
  have Wb_9 := cell_later hb9 Wb_8
  have o_9 := o_8.below hb9
  have x0_9 := x0_8.below hb9
  have x1_9 := ox8.below hb9
  have B_9 := B_8.trans (hb9.mono B_8.size)
  have zz9 : w8.heap.size ≤ w9.heap.size := by have q := hb9.size; first | exact q | simpa using q
  clear Wa_8 Wb_8 o_8 x0_8 ox8 B_8
  clear hb9
  have ow9 : OwnT w9 (w8.heap.size) w9.heap.size r9 m9 d9 ta := ⟨cs9, by first | exact ho9 | simpa using ho9⟩
  obtain rfl : na = m9 := HNA.out.symm.trans ow9.len
  clear ho9
  have hb10 : Below w9.heap.size w9 (w9.alloc (.cells #[.int .i64 pa, .slice r9 na d9] 28)) := (Below.refl _ _).alloc (Nat.le_refl _) _
  have Wa_10 := cell_later hb10 Wa_9
  have Wb_10 := cell_later hb10 Wb_9
  have o_10 := o_9.below hb10
  have x0_10 := x0_9.below hb10
  have x1_10 := x1_9.below hb10
  have g_10 := ow9.below hb10
  have B_10 := B_9.trans (hb10.mono B_9.size)
  have zz10 : w9.heap.size ≤ w9.heap.size + 1 := by simp
  clear Wa_9 Wb_9 o_9 x0_9 x1_9 ow9 B_9
  have Ga_10 : (w9.alloc (.cells #[.int .i64 pa, .slice r9 na d9] 28)).cell? ⟨w9.heap.size, 0, none⟩ = some (.int .i64 pa) := by simp
  have Gb_10 : (w9.alloc (.cells #[.int .i64 pa, .slice r9 na d9] 28)).cell? ⟨w9.heap.size, 1, none⟩ = some (.slice r9 na d9) := by simp
  clear hb10
  go_wp2_with fail
  refine (eqTableG _ _ _ _ _ ta pa _ hsA (g_10.atW hsA) (o_10.atW hsA)).mono ?_
  rintro e w11 ⟨rfl, hb11⟩
  have Wa_11 := cell_later hb11 Wa_10
  have Wb_11 := cell_later hb11 Wb_10
  have Ga_11 := cell_later hb11 Ga_10
  have Gb_11 := cell_later hb11 Gb_10
  have o_11 := o_10.below hb11
  have x0_11 := x0_10.below hb11
  have x1_11 := x1_10.below hb11
  have g_11 := g_10.below hb11
  have B_11 := B_10.trans (hb11.mono B_10.size)
  have zz11 : w9.heap.size + 1 ≤ w11.heap.size := by have q := hb11.size; first | exact q | simpa using q
  clear Wa_10 Wb_10 Ga_10 Gb_10 o_10 x0_10 x1_10 g_10 B_10
  clear hb11
  go_wp2_with fail
  refine (toTableS_any _ _ _ z0 _ hs0 (ha0.below B_11)).mono ?_
  rintro e w12 ⟨g12, rfl, ho12, hb12⟩
  have Wa_12 := cell_later hb12 Wa_11
  have Wb_12 := cell_later hb12 Wb_11
  have Ga_12 := cell_later hb12 Ga_11
  have Gb_12 := cell_later hb12 Gb_11
  have o_12 := o_11.below hb12
  have x0_12 := x0_11.below hb12
  have x1_12 := x1_11.below hb12
  have g_12 := g_11.below hb12
  have B_12 := B_11.trans (hb12.mono B_11.size)
  have zz12 : w11.heap.size ≤ w12.heap.size := by have q := hb12.size; first | exact q | simpa using q
  clear Wa_11 Wb_11 Ga_11 Gb_11 o_11 x0_11 x1_11 g_11 B_11
  clear hb12
  go_wp2_with fail
  refine (eqTableS_any _ _ _ _ _ z0 _ hs0 (x0_12.atSW hs0) (ho12.atSW hs0)).mono ?_
  rintro e w13 ⟨rfl, hb13⟩
  have Wa_13 := cell_later hb13 Wa_12
  have Wb_13 := cell_later hb13 Wb_12
  have Ga_13 := cell_later hb13 Ga_12
  have Gb_13 := cell_later hb13 Gb_12
  have o_13 := o_12.below hb13
  have x0_13 := x0_12.below hb13
  have x1_13 := x1_12.below hb13
  have g_13 := g_12.below hb13
  have y_13 := ho12.below hb13
  have B_13 := B_12.trans (hb13.mono B_12.size)
  have zz13 : w12.heap.size ≤ w13.heap.size := by have q := hb13.size; first | exact q | simpa using q
  clear Wa_12 Wb_12 Ga_12 Gb_12 o_12 x0_12 x1_12 g_12 ho12 B_12
  clear hb13
  clear y_13
  go_wp2_with fail
  refine (toIntSSG _ _ _ z1 _ hs1 (ha1.below B_13)).mono ?_
  rintro e w14 ⟨g14, rfl, ho14, hb14⟩
  have Wa_14 := cell_later hb14 Wa_13
  have Wb_14 := cell_later hb14 Wb_13
  have Ga_14 := cell_later hb14 Ga_13
  have Gb_14 := cell_later hb14 Gb_13
  have o_14 := o_13.below hb14
  have x0_14 := x0_13.below hb14
  have x1_14 := x1_13.below hb14
  have g_14 := g_13.below hb14
  have B_14 := B_13.trans (hb14.mono B_13.size)
  have zz14 : w13.heap.size ≤ w14.heap.size := by have q := hb14.size; first | exact q | simpa using q
  clear Wa_13 Wb_13 Ga_13 Gb_13 o_13 x0_13 x1_13 g_13 B_13
  clear hb14
  go_wp2_with fail
  refine (eqIntSSG _ _ _ _ _ z1 _ hs1 (x1_14.at hs1) (ho14.at hs1)).mono ?_
  rintro e w15 ⟨rfl, hb15⟩
  have Wa_15 := cell_later hb15 Wa_14
  have Wb_15 := cell_later hb15 Wb_14
  have Ga_15 := cell_later hb15 Ga_14
  have Gb_15 := cell_later hb15 Gb_14
  have o_15 := o_14.below hb15
  have x0_15 := x0_14.below hb15
  have x1_15 := x1_14.below hb15
  have g_15 := g_14.below hb15
  have y_15 := ho14.below hb15
  have B_15 := B_14.trans (hb15.mono B_14.size)
  have zz15 : w14.heap.size ≤ w15.heap.size := by have q := hb15.size; first | exact q | simpa using q
  clear Wa_14 Wb_14 Ga_14 Gb_14 o_14 x0_14 x1_14 g_14 ho14 B_14
  clear hb15
  clear y_15
  go_wp2_with fail
  refine (markTableS_any _ _ _ _ _ z0 _ _ hs0 (by omega) (by omega) x0_15).mono ?_
  rintro e w16 ⟨rfl, ho16, ha16⟩
  have Wa_16 := ha16.cell Wa_15 (show w5.heap.size < w5.heap.size + 1 ∨ w7.heap.size ≤ w5.heap.size by omega)
  have Wb_16 := ha16.cell Wb_15 (show w5.heap.size < w5.heap.size + 1 ∨ w7.heap.size ≤ w5.heap.size by omega)
  have Ga_16 := ha16.cell Ga_15 (show w9.heap.size < w5.heap.size + 1 ∨ w7.heap.size ≤ w9.heap.size by omega)
  have Gb_16 := ha16.cell Gb_15 (show w9.heap.size < w5.heap.size + 1 ∨ w7.heap.size ≤ w9.heap.size by omega)
  have o_16 := o_15.apartW ha16 (by omega)
  have x1_16 := x1_15.apartW ha16 (by omega)
  have g_16 := g_15.apartW ha16 (by omega)
  have B_16 := B_15.trans (ha16.below B_15.size (by omega))
  have zz16 : w15.heap.size ≤ w16.heap.size := by have q := ha16.size; first | exact q | simpa using q
  clear ha16 Wa_15 Wb_15 Ga_15 Gb_15 o_15 x0_15 x1_15 g_15 B_15
  go_wp2_with fail
  refine (markIntSSG _ _ _ _ _ z1 _ _ hs1 (by omega) (by omega) x1_16).mono ?_
  rintro e w17 ⟨rfl, ho17, ha17⟩
  have Wa_17 := ha17.cell Wa_16 (show w5.heap.size < w7.heap.size ∨ w8.heap.size ≤ w5.heap.size by omega)
  have Wb_17 := ha17.cell Wb_16 (show w5.heap.size < w7.heap.size ∨ w8.heap.size ≤ w5.heap.size by omega)
  have Ga_17 := ha17.cell Ga_16 (show w9.heap.size < w7.heap.size ∨ w8.heap.size ≤ w9.heap.size by omega)
  have Gb_17 := ha17.cell Gb_16 (show w9.heap.size < w7.heap.size ∨ w8.heap.size ≤ w9.heap.size by omega)
  have o_17 := o_16.apartW ha17 (by omega)
  have x0_17 := ho16.apartW ha17 (by omega)
  have g_17 := g_16.apartW ha17 (by omega)
  have B_17 := B_16.trans (ha17.below B_16.size (by omega))
  have zz17 : w16.heap.size ≤ w17.heap.size := by have q := ha17.size; first | exact q | simpa using q
  clear ha17 Wa_16 Wb_16 Ga_16 Gb_16 o_16 ho16 x1_16 g_16 B_16
  have kpos : ¬ (1 : Int) + (stot z0 n0 : Nat) + (tot z1 n1 : Nat) < 0 := by omega
  go_wp2_with fail
  refine (eqTableG _ _ _ _ _ ta pa _ hsA (g_17.atW hsA) (o_17.atW hsA)).mono ?_
  rintro e w18 ⟨rfl, hb18⟩
  have Wa_18 := cell_later hb18 Wa_17
  have Wb_18 := cell_later hb18 Wb_17
  have Ga_18 := cell_later hb18 Ga_17
  have Gb_18 := cell_later hb18 Gb_17
  have o_18 := o_17.below hb18
  have x0_18 := x0_17.below hb18
  have x1_18 := ho17.below hb18
  have g_18 := g_17.below hb18
  have B_18 := B_17.trans (hb18.mono B_17.size)
  have zz18 : w17.heap.size ≤ w18.heap.size := by have q := hb18.size; first | exact q | simpa using q
  clear Wa_17 Wb_17 Ga_17 Gb_17 o_17 x0_17 ho17 g_17 B_17
  clear hb18
  clear x0_18
  clear x1_18
  go_wp2_with fail
  refine (markTableG _ _ _ _ _ ta pa _ _ hsA (by omega) (by omega) g_18).mono ?_
  rintro e w19 ⟨rfl, ho19, ha19⟩
  have Wa_19 := ha19.cell Wa_18 (show w5.heap.size < w8.heap.size ∨ w9.heap.size ≤ w5.heap.size by omega)
  have Wb_19 := ha19.cell Wb_18 (show w5.heap.size < w8.heap.size ∨ w9.heap.size ≤ w5.heap.size by omega)
  have Ga_19 := ha19.cell Ga_18 (show w9.heap.size < w8.heap.size ∨ w9.heap.size ≤ w9.heap.size by omega)
  have Gb_19 := ha19.cell Gb_18 (show w9.heap.size < w8.heap.size ∨ w9.heap.size ≤ w9.heap.size by omega)
  have o_19 := o_18.apartW ha19 (by omega)
  have B_19 := B_18.trans (ha19.below B_18.size (by omega))
  have zz19 : w18.heap.size ≤ w19.heap.size := by have q := ha19.size; first | exact q | simpa using q
  clear ha19 Wa_18 Wb_18 Ga_18 Gb_18 o_18 g_18 B_18
  have gpos : ¬ (1 : Int) + (wtot ta na : Nat) < 0 := by omega
  go_wp2_with fail
  refine (heldTableG _ _ _ ta pa _ _ hsA (by omega) (by omega) (ho19.atMark hsA)).mono ?_
  rintro e w20 ⟨rfl, hb20⟩
  have Wa_20 := cell_later hb20 Wa_19
  have Wb_20 := cell_later hb20 Wb_19
  have Ga_20 := cell_later hb20 Ga_19
  have Gb_20 := cell_later hb20 Gb_19
  have o_20 := o_19.below hb20
  have g_20 := ho19.below hb20
  have B_20 := B_19.trans (hb20.mono B_19.size)
  have zz20 : w19.heap.size ≤ w20.heap.size := by have q := hb20.size; first | exact q | simpa using q
  clear Wa_19 Wb_19 Ga_19 Gb_19 o_19 ho19 B_19
  clear hb20
  go_wp2_with fail
  refine (toTableS_any _ _ _ z0 _ hs0 (ha0.below B_20)).mono ?_
  rintro e w21 ⟨g21, rfl, ho21, hb21⟩
  have Wa_21 := cell_later hb21 Wa_20
  have Wb_21 := cell_later hb21 Wb_20
  have Ga_21 := cell_later hb21 Ga_20
  have Gb_21 := cell_later hb21 Gb_20
  have o_21 := o_20.below hb21
  have g_21 := g_20.below hb21
  have B_21 := B_20.trans (hb21.mono B_20.size)
  have zz21 : w20.heap.size ≤ w21.heap.size := by have q := hb21.size; first | exact q | simpa using q
  clear Wa_20 Wb_20 Ga_20 Gb_20 o_20 g_20 B_20
  clear hb21
  go_wp2_with fail
  refine (toIntSSG _ _ _ z1 _ hs1 (ha1.below B_21)).mono ?_
  rintro e w22 ⟨g22, rfl, ho22, hb22⟩
  have Wa_22 := cell_later hb22 Wa_21
  have Wb_22 := cell_later hb22 Wb_21
  have Ga_22 := cell_later hb22 Ga_21
  have Gb_22 := cell_later hb22 Gb_21
  have o_22 := o_21.below hb22
  have g_22 := g_21.below hb22
  have h0_22 := ho21.below hb22
  have B_22 := B_21.trans (hb22.mono B_21.size)
  have zz22 : w21.heap.size ≤ w22.heap.size := by have q := hb22.size; first | exact q | simpa using q
  clear Wa_21 Wb_21 Ga_21 Gb_21 o_21 g_21 ho21 B_21
  clear hb22
  go_wp2_with fail
  refine (HI.out _ _ _ _ _ _ _ _ _ h0_22 ho22).mono ?_
  rintro e w23 ⟨⟨r23, m23, d23, cs23, rfl, ho23⟩, hb23⟩
  have Wa_23 := cell_later hb23 Wa_22
  have Wb_23 := cell_later hb23 Wb_22
  have Ga_23 := cell_later hb23 Ga_22
  have Gb_23 := cell_later hb23 Gb_22
  have o_23 := o_22.below hb23
  have g_23 := g_22.below hb23
  have h0_23 := h0_22.below hb23
  have h1_23 := ho22.below hb23
  have B_23 := B_22.trans (hb23.mono B_22.size)
  have zz23 : w22.heap.size ≤ w23.heap.size := by have q := hb23.size; first | exact q | simpa using q
  clear Wa_22 Wb_22 Ga_22 Gb_22 o_22 g_22 h0_22 ho22 B_22
  clear hb23
  clear h0_23
  clear h1_23
  have ow23 : OwnT w23 (w22.heap.size) w23.heap.size r23 m23 d23 ta := ⟨cs23, by first | exact ho23 | simpa using ho23⟩
  obtain rfl : na = m23 := HNA.out.symm.trans ow23.len
  clear ho23
  have hb24 : Below w23.heap.size w23 (w23.alloc (.cells #[.int .i64 pa, .slice r23 na d23] 28)) := (Below.refl _ _).alloc (Nat.le_refl _) _
  have Wa_24 := cell_later hb24 Wa_23
  have Wb_24 := cell_later hb24 Wb_23
  have Ga_24 := cell_later hb24 Ga_23
  have Gb_24 := cell_later hb24 Gb_23
  have o_24 := o_23.below hb24
  have g_24 := g_23.below hb24
  have hg_24 := ow23.below hb24
  have B_24 := B_23.trans (hb24.mono B_23.size)
  have zz24 : w23.heap.size ≤ w23.heap.size + 1 := by simp
  clear Wa_23 Wb_23 Ga_23 Gb_23 o_23 g_23 ow23 B_23
  have Ha_24 : (w23.alloc (.cells #[.int .i64 pa, .slice r23 na d23] 28)).cell? ⟨w23.heap.size, 0, none⟩ = some (.int .i64 pa) := by simp
  have Hb_24 : (w23.alloc (.cells #[.int .i64 pa, .slice r23 na d23] 28)).cell? ⟨w23.heap.size, 1, none⟩ = some (.slice r23 na d23) := by simp
  clear hb24
  go_wp2_with fail
  refine (eqTableG _ _ _ _ _ ta pa _ hsA (hg_24.atW hsA) (o_24.atW hsA)).mono ?_
  rintro e w25 ⟨rfl, hb25⟩
  have Wa_25 := cell_later hb25 Wa_24
  have Wb_25 := cell_later hb25 Wb_24
  have Ga_25 := cell_later hb25 Ga_24
  have Gb_25 := cell_later hb25 Gb_24
  have Ha_25 := cell_later hb25 Ha_24
  have Hb_25 := cell_later hb25 Hb_24
  have o_25 := o_24.below hb25
  have g_25 := g_24.below hb25
  have hg_25 := hg_24.below hb25
  have B_25 := B_24.trans (hb25.mono B_24.size)
  have zz25 : w23.heap.size + 1 ≤ w25.heap.size := by have q := hb25.size; first | exact q | simpa using q
  clear Wa_24 Wb_24 Ga_24 Gb_24 Ha_24 Hb_24 o_24 g_24 hg_24 B_24
  clear hb25
  go_wp2_with fail
  refine (heldTableG _ _ _ ta pa _ _ hsA (by omega) (by omega) (g_25.atMark hsA)).mono ?_
  rintro e w26 ⟨rfl, hb26⟩
  have Wa_26 := cell_later hb26 Wa_25
  have Wb_26 := cell_later hb26 Wb_25
  have Ga_26 := cell_later hb26 Ga_25
  have Gb_26 := cell_later hb26 Gb_25
  have Ha_26 := cell_later hb26 Ha_25
  have Hb_26 := cell_later hb26 Hb_25
  have o_26 := o_25.below hb26
  have g_26 := g_25.below hb26
  have hg_26 := hg_25.below hb26
  have B_26 := B_25.trans (hb26.mono B_25.size)
  have zz26 : w25.heap.size ≤ w26.heap.size := by have q := hb26.size; first | exact q | simpa using q
  clear Wa_25 Wb_25 Ga_25 Gb_25 Ha_25 Hb_25 o_25 g_25 hg_25 B_25
  clear hb26
  go_wp2
  go_ret
  exact ⟨rfl, B_26⟩

end Go.Proofs.YtpnaoahlfhbbmaaGreat

/- Opening the laws' arguments: rows, slices of ints; plain facts on readings. -/
namespace Go.Proofs.YtpnaoahlfhbbmaaGreat
open Go.ChangeShapes Go.WideShapes Go.ChangeAt Go.RowKit Go.Joins Go.Deep

section
variable {H : Type} {enc : TypeId × Value → H} {P : Program} {w : World} {base : Nat} {spare : Nat → Bool} {held : Bool}

theorem array1 {α : Type} {cs : Array α} (h : cs.size = 1) : ∃ c0, cs = #[c0] := by
  obtain ⟨l⟩ := cs
  match l, h with
  | [c0], _ => exact ⟨c0, rfl⟩

theorem open_agg1 {r : Reach} {b0 : Nat} {t : TypeId} {f0 : Field} {v : Value} {d : DataW H} {p : List MemPlace} (hs : P.underlying t = some (.struct #[f0])) (hone : oneCellFields P #[f0] = true) (hC : P.cellsOf t = 1)
    (hv : Value.okWide P w r b0 t v) (h : DataW.Trod enc P w base spare held t v d p) :
    ∃ (v0 : Value) (y0 : DataW H × List MemPlace) (n : Nat), v = .agg #[v0] ∧ d = .agg [y0.1] ∧ p = y0.2 ∧ DataW.trod enc P w base spare held n f0.type [v0] = some y0 := by
  obtain ⟨cs, rfl, hsz⟩ := okWide_struct hs hv
  obtain ⟨c0, rfl⟩ := array1 (hsz.trans hC)
  obtain ⟨fuel, hf⟩ := h
  obtain ⟨y0, n, hx, _, h0⟩ := trod_struct1 hs hf
  obtain ⟨o0, k0⟩ := hone_of hone 0 f0 rfl
  simp only [Prod.mk.injEq] at hx
  exact ⟨c0, y0, n, rfl, hx.1, hx.2, by simpa [Value.cells, o0, k0] using h0⟩

/-- A slice of ints that reads: its numbers. -/
theorem open_at {t e : TypeId} {fuel n c : Nat} {a : Option Addr} {x : DataW H × List MemPlace} (ht : P.underlying t = some (.slice e)) (he : P.underlying e = some (.int .i64)) (hC : P.cellsOf e = 1)
    (h : DataW.trod enc P w base spare held fuel t [.slice a n c] = some x) : ∃ zs : List Int, zs.length = n ∧ n ≤ 9223372036854775807 ∧ At w a zs := by
  rcases open_ints ht he hC h with ⟨hcs, _⟩ | ⟨ad, l, c', zs, hcs, _, hl, hm, hz, _, hcell, _⟩
  · simp at hcs
    obtain ⟨rfl, rfl, rfl⟩ := hcs
    exact ⟨[], rfl, by omega, At.nil _ _⟩
  · simp at hcs
    obtain ⟨rfl, rfl, rfl⟩ := hcs
    unfold maxLen at hm
    have hz' : n ≤ zs.length := by split at hz <;> omega
    refine ⟨zs.take n, by simp; omega, by omega, ?_⟩
    by_cases h0 : n = 0
    · left; simp [h0]
    · right
      obtain ⟨b, off, spot⟩ := ad
      have hc := hcell 0 (by omega)
      have hspot : spot = none := by simpa [Addr.add] using World.cell?_spot hc
      subst hspot
      refine ⟨b, off, rfl, fun i hi => ?_⟩
      have hin : i < n := by simp at hi; omega
      have := hcell i (by omega)
      rw [show (zs.take n).getD i 0 = zs.getD i 0 by simp [List.getD, hin]]
      rw [Addr.add_lit] at this
      exact this

/-- A struct of one slice of ints, by value. -/
theorem open_row {r : Reach} {b0 : Nat} {t ts e : TypeId} {f0 : Field} {v : Value} {d : DataW H} {p : List MemPlace} (hs : P.underlying t = some (.struct #[f0])) (hf0 : f0.type = ts) (hone : oneCellFields P #[f0] = true) (hC : P.cellsOf t = 1)
    (ht : P.underlying ts = some (.slice e)) (he : P.underlying e = some (.int .i64)) (hCe : P.cellsOf e = 1)
    (hv : Value.okWide P w r b0 t v) (h : DataW.Trod enc P w base spare held t v d p) : ∃ a n c, v = .agg #[.slice a n c] ∧ ∃ zs : List Int, zs.length = n ∧ n ≤ 9223372036854775807 ∧ At w a zs := by
  obtain ⟨v0, y0, m, rfl, _, _, h0⟩ := open_agg1 hs hone hC hv h
  subst hf0
  obtain ⟨a, n, c, hcs⟩ := slice_form ht h0
  obtain rfl : v0 = .slice a n c := by simpa using hcs
  exact ⟨a, n, c, rfl, open_at ht he hCe h0⟩
end

end Go.Proofs.YtpnaoahlfhbbmaaGreat

/- Opening tables and slices of weighted rows among the laws' arguments. -/
namespace Go.Proofs.YtpnaoahlfhbbmaaGreat
open Go.ChangeShapes Go.WideShapes Go.ChangeAt Go.RowKit Go.Joins Go.Deep

section
variable {H : Type} {enc : TypeId × Value → H} {P : Program} {w : World} {base : Nat} {held : Bool}

theorem open_atW {t e q : TypeId} {f0 f1 g0 : Field} {fuel n c : Nat} {a : Option Addr} {x : DataW H × List MemPlace} (ht : P.underlying t = some (.slice e)) (he : P.underlying e = some (.struct #[f0, f1]))
    (ce : P.cellsOf e = 2) (o0 : f0.offset = 0) (o1 : f1.offset = 1) (c0 : P.cellsOf f0.type = 1) (c1 : P.cellsOf f1.type = 1) (hr : P.underlying f0.type = some (.struct #[g0])) (og : g0.offset = 0) (cg : P.cellsOf g0.type = 1)
    (hs : P.underlying g0.type = some (.slice q)) (hq : P.underlying q = some (.int .i64)) (cq : P.cellsOf q = 1) (hi : P.underlying f1.type = some (.int .i64))
    (h : DataW.trod enc P w base (fun _ => true) held fuel t [.slice a n c] = some x) : ∃ ts : List WRow, ts.length = n ∧ n ≤ 9223372036854775807 ∧ AtW w a ts := by
  rcases open_slice_pairs ht he ce o0 o1 c0 c1 h with ⟨hcs, _⟩ | ⟨ad, len, cap, m, k, V0, V1, D0, D1, P0, P1, hcs, _, hl, hm, hmm, _, hx⟩
  · simp at hcs
    obtain ⟨rfl, rfl, rfl⟩ := hcs
    exact ⟨[], rfl, by omega, .inl rfl⟩
  · simp at hcs
    obtain ⟨rfl, rfl, rfl⟩ := hcs
    simp only [if_true] at hmm
    subst hmm
    unfold maxLen at hm
    have each : ∀ i, i < n → ∃ y : Option Addr × Nat × List Int × Int, V0 i = .slice y.1 y.2.2.1.length y.2.1 ∧ V1 i = .int .i64 y.2.2.2 ∧ y.2.2.1.length ≤ 9223372036854775807 ∧ At w y.1 y.2.2.1 := by
      intro i hi'
      obtain ⟨_, _, r0, r1⟩ := hx i (by omega)
      obtain ⟨z, hz1, _, _⟩ := DataW.trod_int hi r1
      obtain ⟨y0, k', _, _, s0⟩ := trod_struct1 hr r0
      rw [og, cg] at s0
      simp only [List.drop_zero, List.take_succ_cons, List.take_zero] at s0
      obtain ⟨a', n', c', hc'⟩ := slice_form hs s0
      simp only [List.cons.injEq, and_true] at hc'
      rw [hc'] at s0
      obtain ⟨zs, hzl, hzn, hat⟩ := open_at hs hq cq s0
      exact ⟨(a', c', zs, z), by rw [hc', hzl], by simpa using hz1, by rw [hzl]; exact hzn, hat⟩
    obtain ⟨y, hy⟩ := choose_lt each
    refine ⟨(List.range n).map fun i => ((y i).2.2.1, (y i).2.2.2), by simp, by omega, ?_⟩
    by_cases h0 : n = 0
    · left; simp [h0]
    · right
      obtain ⟨b, off, spot⟩ := ad
      have hc0 := (hx 0 (by omega)).1
      have hspot : spot = none := by simpa [Addr.add] using World.cell?_spot hc0
      subst hspot
      refine ⟨b, off, rfl, fun i hi' => ?_⟩
      have hin : i < n := by simpa using hi'
      obtain ⟨k1, k2, _, _⟩ := hx i (by omega)
      obtain ⟨e1, e2, e3, e4⟩ := hy i hin
      have hw : wat ((List.range n).map fun i => ((y i).2.2.1, (y i).2.2.2)) i = ((y i).2.2.1, (y i).2.2.2) := by simp [wat, List.getD, hin]
      rw [hw]
      rw [Addr.add_lit] at k1 k2
      rw [e1] at k1
      rw [e2] at k2
      exact ⟨(y i).1, (y i).2.1, k1, k2, e3, e4⟩

/-- A struct of a number and a slice of weighted rows, by value. -/
theorem open_table {r : Reach} {b0 : Nat} {t e q : TypeId} {h0 h1 f0 f1 g0 : Field} {v : Value} {d : DataW H} {p : List MemPlace} (hst : P.underlying t = some (.struct #[h0, h1])) (hone : oneCellFields P #[h0, h1] = true) (hC : P.cellsOf t = 2)
    (hc : P.underlying h0.type = some (.int .i64)) (ht : P.underlying h1.type = some (.slice e)) (he : P.underlying e = some (.struct #[f0, f1]))
    (ce : P.cellsOf e = 2) (o0 : f0.offset = 0) (o1 : f1.offset = 1) (c0 : P.cellsOf f0.type = 1) (c1 : P.cellsOf f1.type = 1) (hr : P.underlying f0.type = some (.struct #[g0])) (og : g0.offset = 0) (cg : P.cellsOf g0.type = 1)
    (hs : P.underlying g0.type = some (.slice q)) (hq : P.underlying q = some (.int .i64)) (cq : P.cellsOf q = 1) (hi : P.underlying f1.type = some (.int .i64))
    (hv : Value.okWide P w r b0 t v) (h : DataW.Trod enc P w base (fun _ => true) held t v d p) : ∃ (x : Int) (a : Option Addr) (n c : Nat), v = .agg #[.int .i64 x, .slice a n c] ∧ ∃ ts : List WRow, ts.length = n ∧ n ≤ 9223372036854775807 ∧ AtW w a ts := by
  obtain ⟨v0, v1, y0, y1, m, rfl, _, _, k0, k1⟩ := open_agg2 hst hone hC hv h
  obtain ⟨x, hx, _, _⟩ := DataW.trod_int hc k0
  obtain ⟨a, n, c, hcs⟩ := slice_form ht k1
  obtain rfl : v1 = .slice a n c := by simpa using hcs
  obtain rfl : v0 = .int .i64 x := by simpa using hx
  exact ⟨x, a, n, c, rfl, open_atW ht he ce o0 o1 c0 c1 hr og cg hs hq cq hi k1⟩
end

end Go.Proofs.YtpnaoahlfhbbmaaGreat

/- Opening streams among the laws' arguments. -/
namespace Go.Proofs.YtpnaoahlfhbbmaaGreat
open Go.ChangeShapes Go.WideShapes Go.ChangeAt Go.RowKit Go.Joins Go.Deep

section
variable {H : Type} {enc : TypeId × Value → H} {P : Program} {w : World} {base : Nat} {held : Bool}

theorem open_atSW {t e e2 q : TypeId} {h0 h1 f0 f1 g0 : Field} {fuel n c : Nat} {a : Option Addr} {x : DataW H × List MemPlace} (ht : P.underlying t = some (.slice e)) (hst : P.underlying e = some (.struct #[h0, h1])) (ce : P.cellsOf e = 2) (oh0 : h0.offset = 0) (oh1 : h1.offset = 1) (ch0 : P.cellsOf h0.type = 1) (ch1 : P.cellsOf h1.type = 1)
    (hc : P.underlying h0.type = some (.int .i64)) (ht2 : P.underlying h1.type = some (.slice e2)) (he : P.underlying e2 = some (.struct #[f0, f1]))
    (ce2 : P.cellsOf e2 = 2) (o0 : f0.offset = 0) (o1 : f1.offset = 1) (c0 : P.cellsOf f0.type = 1) (c1 : P.cellsOf f1.type = 1) (hr : P.underlying f0.type = some (.struct #[g0])) (og : g0.offset = 0) (cg : P.cellsOf g0.type = 1)
    (hs : P.underlying g0.type = some (.slice q)) (hq : P.underlying q = some (.int .i64)) (cq : P.cellsOf q = 1) (hi : P.underlying f1.type = some (.int .i64))
    (h : DataW.trod enc P w base (fun _ => true) held fuel t [.slice a n c] = some x) : ∃ ss : List Tab, ss.length = n ∧ n ≤ 9223372036854775807 ∧ AtSW w a ss := by
  rcases open_slice_pairs ht hst ce oh0 oh1 ch0 ch1 h with ⟨hcs, _⟩ | ⟨ad, len, cap, m, k, V0, V1, D0, D1, P0, P1, hcs, _, hl, hm, hmm, _, hx⟩
  · simp at hcs
    obtain ⟨rfl, rfl, rfl⟩ := hcs
    exact ⟨[], rfl, by omega, .inl rfl⟩
  · simp at hcs
    obtain ⟨rfl, rfl, rfl⟩ := hcs
    simp only [if_true] at hmm
    subst hmm
    unfold maxLen at hm
    have each : ∀ i, i < n → ∃ y : Option Addr × Nat × List WRow × Int, V0 i = .int .i64 y.2.2.2 ∧ V1 i = .slice y.1 y.2.2.1.length y.2.1 ∧ y.2.2.1.length ≤ 9223372036854775807 ∧ AtW w y.1 y.2.2.1 := by
      intro i hi'
      obtain ⟨_, _, r0, r1⟩ := hx i (by omega)
      obtain ⟨z, hz1, _, _⟩ := DataW.trod_int hc r0
      obtain ⟨a', n', c', hc'⟩ := slice_form ht2 r1
      simp only [List.cons.injEq, and_true] at hc'
      rw [hc'] at r1
      obtain ⟨ts, hzl, hzn, hat⟩ := open_atW ht2 he ce2 o0 o1 c0 c1 hr og cg hs hq cq hi r1
      exact ⟨(a', c', ts, z), by simpa using hz1, by rw [hc', hzl], by rw [hzl]; exact hzn, hat⟩
    obtain ⟨y, hy⟩ := choose_lt each
    refine ⟨(List.range n).map fun i => ((y i).2.2.2, (y i).2.2.1), by simp, by omega, ?_⟩
    by_cases h0 : n = 0
    · left; simp [h0]
    · right
      obtain ⟨b, off, spot⟩ := ad
      have hc0 := (hx 0 (by omega)).1
      have hspot : spot = none := by simpa [Addr.add] using World.cell?_spot hc0
      subst hspot
      refine ⟨b, off, rfl, fun i hi' => ?_⟩
      have hin : i < n := by simpa using hi'
      obtain ⟨k1, k2, _, _⟩ := hx i (by omega)
      obtain ⟨e1, e2, e3, e4⟩ := hy i hin
      have hw : tat ((List.range n).map fun i => ((y i).2.2.2, (y i).2.2.1)) i = ((y i).2.2.2, (y i).2.2.1) := by simp [tat, List.getD, hin]
      rw [hw]
      rw [Addr.add_lit] at k1 k2
      rw [e1] at k1
      rw [e2] at k2
      exact ⟨(y i).1, (y i).2.1, k1, k2, e3, e4⟩

/-- A struct of a number and a slice of tables, by value. -/
theorem open_stream {r : Reach} {b0 : Nat} {tt e e2 q : TypeId} {i0 i1 h0 h1 f0 f1 g0 : Field} {v : Value} {d : DataW H} {p : List MemPlace} (hss : P.underlying tt = some (.struct #[i0, i1])) (hone : oneCellFields P #[i0, i1] = true) (hC : P.cellsOf tt = 2)
    (hcc : P.underlying i0.type = some (.int .i64)) (ht : P.underlying i1.type = some (.slice e)) (hst : P.underlying e = some (.struct #[h0, h1])) (ce : P.cellsOf e = 2) (oh0 : h0.offset = 0) (oh1 : h1.offset = 1) (ch0 : P.cellsOf h0.type = 1) (ch1 : P.cellsOf h1.type = 1)
    (hc : P.underlying h0.type = some (.int .i64)) (ht2 : P.underlying h1.type = some (.slice e2)) (he : P.underlying e2 = some (.struct #[f0, f1]))
    (ce2 : P.cellsOf e2 = 2) (o0 : f0.offset = 0) (o1 : f1.offset = 1) (c0 : P.cellsOf f0.type = 1) (c1 : P.cellsOf f1.type = 1) (hr : P.underlying f0.type = some (.struct #[g0])) (og : g0.offset = 0) (cg : P.cellsOf g0.type = 1)
    (hs : P.underlying g0.type = some (.slice q)) (hq : P.underlying q = some (.int .i64)) (cq : P.cellsOf q = 1) (hi : P.underlying f1.type = some (.int .i64))
    (hv : Value.okWide P w r b0 tt v) (h : DataW.Trod enc P w base (fun _ => true) held tt v d p) : ∃ (x : Int) (a : Option Addr) (n c : Nat), v = .agg #[.int .i64 x, .slice a n c] ∧ ∃ ss : List Tab, ss.length = n ∧ n ≤ 9223372036854775807 ∧ AtSW w a ss := by
  obtain ⟨v0, v1, y0, y1, m, rfl, _, _, k0, k1⟩ := open_agg2 hss hone hC hv h
  obtain ⟨x, hx, _, _⟩ := DataW.trod_int hcc k0
  obtain ⟨a, n, c, hcs⟩ := slice_form ht k1
  obtain rfl : v1 = .slice a n c := by simpa using hcs
  obtain rfl : v0 = .int .i64 x := by simpa using hx
  exact ⟨x, a, n, c, rfl, open_atSW ht hst ce oh0 oh1 ch0 ch1 hc ht2 he ce2 o0 o1 c0 c1 hr og cg hs hq cq hi k1⟩
end

end Go.Proofs.YtpnaoahlfhbbmaaGreat

/- Opening a slice of slices of ints among the laws' arguments. -/
namespace Go.Proofs.YtpnaoahlfhbbmaaGreat
open Go.ChangeShapes Go.WideShapes Go.ChangeAt Go.RowKit Go.Joins Go.Deep

theorem at_of_row {w : World} {A : Option Addr} {L C : Nat} {Z : List Int} (h1 : L ≤ C) (h2 : Z.length = C) (h3 : A = none → C = 0) (h4 : ∀ a', A = some a' → ∀ c, c < C → w.cell? (a'.add c) = some (.int .i64 (Z.getD c 0))) : At w A (Z.take L) := by
  by_cases h0 : L = 0
  · left; simp [h0]
  · right
    cases A with
    | none => have := h3 rfl; omega
    | some a' =>
      have hc := h4 a' rfl
      obtain ⟨b, off, spot⟩ := a'
      have hc0 := hc 0 (by omega)
      have hspot : spot = none := by simpa [Addr.add] using World.cell?_spot hc0
      subst hspot
      refine ⟨b, off, rfl, fun i hi => ?_⟩
      have hin : i < L := by simp at hi; omega
      have := hc i (by omega)
      rw [show (Z.take L).getD i 0 = Z.getD i 0 by simp [List.getD, hin]]
      rw [Addr.add_lit] at this
      exact this

theorem open_atS {H : Type} {enc : TypeId × Value → H} {P : Program} {w : World} {base : Nat} {held : Bool} {t e q : TypeId} {fuel n c : Nat} {a : Option Addr} {x : DataW H × List MemPlace} (ht : P.underlying t = some (.slice e)) (he : P.underlying e = some (.slice q)) (hq : P.underlying q = some (.int .i64))
    (ce : P.cellsOf e = 1) (cq : P.cellsOf q = 1) (h : DataW.trod enc P w base (fun _ => true) held fuel t [.slice a n c] = some x) : ∃ zss : List (List Int), zss.length = n ∧ n ≤ 9223372036854775807 ∧ AtS w a zss := by
  rcases open_int_rows ht he hq ce cq h with ⟨hcs, _⟩ | ⟨ad, len, cap, A, L, C, Z, hcs, _, hl, hm, _, hrow⟩
  · simp at hcs
    obtain ⟨rfl, rfl, rfl⟩ := hcs
    exact ⟨[], rfl, by omega, .inl rfl⟩
  · simp at hcs
    obtain ⟨rfl, rfl, rfl⟩ := hcs
    unfold maxLen at hm
    refine ⟨(List.range n).map fun r => (Z r).take (L r), by simp, by omega, ?_⟩
    by_cases h0 : n = 0
    · left; simp [h0]
    · right
      obtain ⟨b, off, spot⟩ := ad
      have hc0 := (hrow 0 (by omega)).1
      have hspot : spot = none := by simpa [Addr.add] using World.cell?_spot hc0
      subst hspot
      refine ⟨b, off, rfl, fun i hi => ?_⟩
      have hin : i < n := by simpa using hi
      obtain ⟨k1, k2, k3, k4, _, k5, k6⟩ := hrow i (by omega)
      unfold maxLen at k3
      rw [show ((List.range n).map fun r => (Z r).take (L r)).getD i [] = (Z i).take (L i) by simp [List.getD, hin]]
      have hlen : ((Z i).take (L i)).length = L i := by simp; omega
      rw [hlen]
      rw [Addr.add_lit] at k1
      exact ⟨A i, C i, k1, by omega, at_of_row k2 k4 k5 (fun a' ha' => (k6 a' ha').2)⟩

end Go.Proofs.YtpnaoahlfhbbmaaGreat
