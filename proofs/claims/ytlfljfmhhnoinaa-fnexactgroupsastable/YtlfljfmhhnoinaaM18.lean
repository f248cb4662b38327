/- Several texts of one proof, in build order: LawGroupsAsTable, Open, OpenV. -/
import Derived.Test.YtlfljfmhhnoinaaM6
import Derived.Test.YtlfljfmhhnoinaaM8
import Derived.Test.YtlfljfmhhnoinaaM17
import Derived.Test.YtlfljfmhhnoinaaM1
import Derived.ProofKit
import Derived.OpenShut
import Derived.ShutString
import Derived.ChangeOld
import Derived.Lib.SmallJoins
import Derived.Test.YtlfljfmhhnoinaaM7
import Derived.Deep.SlicePairs

/- The law FnExactGroupsAsTable returns true at every input, and writes nothing that was there. -/
namespace Go.Proofs.Ytlfljfmhhnoinaa
open Go.RowKit

set_option maxRecDepth 100000 in
set_option maxHeartbeats 16000000 in
theorem lawGroupsAsTable (a0 : Option Addr) (n0 c0 : Nat) (z0 : List GRow) (w : World) (hz0 : z0.length = n0) (hn0 : n0 ≤ 9223372036854775807) (ha0 : AtV w a0 z0) :
    Calls Try.prog 5 #[.slice a0 n0 c0] w fun e w' => e = .returned (.bool true) ∧ Below w.heap.size w w' := by
  have B0 : Below w.heap.size w w := Below.refl _ _
  by_cases big0 : (1048576 : Int) < (vtot z0 n0 : Nat)
  · go_enter Try.func5, Try.ntmps5
    go_wp2_with fail
    refine (szGroupS_any _ _ _ z0 _ _ hz0 hn0 (by omega) (by omega) (ha0.below B0)).mono ?_
    rintro e v0 ⟨rfl, hv0⟩
    rw [leftOf_no big0]
    have y0 := B0.trans (hv0.mono B0.size)
    go_wp2
    go_ret
    exact ⟨rfl, y0⟩
  have hl0 : ¬ (1048576 : Int) - (vtot z0 n0 : Nat) < 0 := by omega
  have hs0 : SmV z0 n0 := ⟨hz0, by omega⟩
  have hx0 := hs0.n
  have hk0 := hs0.mk'
  obtain ⟨ok, pa, ta, hsA, HS, HI⟩ : ∃ (ok : Bool) (pa : Int) (ta : List WRow), SmT ta ta.length ∧ Hid (∀ (x0 : Option Addr) (y0 lo0 hi0 : Nat) (w : World), OwnGr w lo0 hi0 x0 n0 y0 z0 → Calls Try.prog 24 #[.slice x0 n0 y0] w fun e w' => TabRet e w' w.heap.size ok pa ta ∧ Below w.heap.size w w') ∧ Hid (∀ (x0 : Option Addr) (y0 lo0 hi0 : Nat) (w : World), OwnGr w lo0 hi0 x0 n0 y0 z0 → Calls Try.prog 25 #[.slice x0 n0 y0] w fun e w' => TabRet e w' w.heap.size ok pa ta ∧ Below w.heap.size w w') := ⟨gaB z0, ansP (gaB z0) (gaP z0), ansT (gaB z0) (gaRows z0), ans_small gaB_goodT, fun x0 y0 lo0 hi0 w o0 => specGroupsAsTable x0 n0 y0 z0 w hs0.1 hs0.n (o0.atN hs0), fun x0 y0 lo0 hi0 w o0 => implGroupsAsTable x0 n0 y0 z0 w hs0.1 hs0.n (o0.atN hs0)⟩
  obtain ⟨na, hna⟩ : ∃ na, ta.length = na := ⟨_, rfl⟩
  rw [hna] at hsA
  have hxA := hsA.n
  have HNA := Hid.mk hna
  clear hna
  have hwA := hsA.2
  go_enter Try.func5, Try.ntmps5
  go_wp2_with fail
  refine (szGroupS_any _ _ _ z0 _ _ hz0 hn0 (by omega) (by omega) (ha0.below B0)).mono ?_
  rintro e w1 ⟨rfl, hb1⟩
  rw [leftOf_yes (by omega)]
  have B_1 := B0.trans (hb1.mono B0.size)
  have zz1 : w.heap.size ≤ w1.heap.size := by have q := hb1.size; first | exact q | simpa using q
  clear hb1
  go_wp2_with fail
  refine (toGroupSG _ _ _ z0 _ hs0 (ha0.below B_1)).mono ?_
  rintro e w2 ⟨g2, rfl, ho2, hb2⟩
  have B_2 := B_1.trans (hb2.mono B_1.size)
  have zz2 : w1.heap.size ≤ w2.heap.size := by have q := hb2.size; first | exact q | simpa using q
  clear B_1
  clear hb2
  go_wp2_with fail
  refine (HS.out _ _ _ _ _ ho2).mono ?_
  rintro e w3 ⟨⟨r3, m3, d3, cs3, rfl, ho3⟩, hb3⟩
  have t0_3 := ho2.below hb3
  have B_3 := B_2.trans (hb3.mono B_2.size)
  have zz3 : w2.heap.size ≤ w3.heap.size := by have q := hb3.size; first | exact q | simpa using q
  clear ho2 B_2
  clear hb3
  clear t0_3
  have ow3 : OwnT w3 (w2.heap.size) w3.heap.size r3 m3 d3 ta := ⟨cs3, by first | exact ho3 | simpa using ho3⟩
  obtain rfl : na = m3 := HNA.out.symm.trans ow3.len
  clear ho3
  have hb4 : Below w3.heap.size w3 (w3.alloc (.cells #[.int .i64 pa, .slice r3 na d3] 47)) := (Below.refl _ _).alloc (Nat.le_refl _) _
  have o_4 := ow3.below hb4
  have B_4 := B_3.trans (hb4.mono B_3.size)
  have zz4 : w3.heap.size ≤ w3.heap.size + 1 := by simp
  clear ow3 B_3
  have Wa_4 : (w3.alloc (.cells #[.int .i64 pa, .slice r3 na d3] 47)).cell? ⟨w3.heap.size, 0, none⟩ = some (.int .i64 pa) := by simp
  have Wb_4 : (w3.alloc (.cells #[.int .i64 pa, .slice r3 na d3] 47)).cell? ⟨w3.heap.size, 1, none⟩ = some (.slice r3 na d3) := by simp
  clear hb4
  go_wp2_with fail
  refine (toGroupSG _ _ _ z0 _ hs0 (ha0.below B_4)).mono ?_
  rintro e w5 ⟨g5, rfl, ho5, hb5⟩
  have Wa_5 := cell_later hb5 Wa_4
  have Wb_5 := cell_later hb5 Wb_4
  have o_5 := o_4.below hb5
  have B_5 := B_4.trans (hb5.mono B_4.size)
  have zz5 : w3.heap.size + 1 ≤ w5.heap.size := by have q := hb5.size; first | exact q | simpa using q
  clear Wa_4 Wb_4 o_4 B_4
  clear hb5
  have ox5 : OwnGr w5 (w3.heap.size + 1) w5.heap.size (some ⟨g5, 0, none⟩) n0 n0 z0 := by first | exact ho5 | simpa using ho5
  clear ho5
  go_wp2_with fail
  refine (HI.out _ _ _ _ _ ox5).mono ?_
  rintro e w6 ⟨⟨r6, m6, d6, cs6, rfl, ho6⟩, hb6⟩
  have Wa_6 := cell_later hb6 Wa_5
  have Wb_6 := cell_later hb6 Wb_5
  have o_6 := o_5.below hb6
  have x0_6 := ox5.below hb6
  have B_6 := B_5.trans (hb6.mono B_5.size)
  have zz6 : w5.heap.size ≤ w6.heap.size := by have q := hb6.size; first | exact q | simpa using q
  clear Wa_5 Wb_5 o_5 ox5 B_5
  clear hb6
  have ow6 : OwnT w6 (w5.heap.size) w6.heap.size r6 m6 d6 ta := ⟨cs6, by first | exact ho6 | simpa using ho6⟩
  obtain rfl : na = m6 := HNA.out.symm.trans ow6.len
  clear ho6
  have hb7 : Below w6.heap.size w6 (w6.alloc (.cells #[.int .i64 pa, .slice r6 na d6] 47)) := (Below.refl _ _).alloc (Nat.le_refl _) _
  have Wa_7 := cell_later hb7 Wa_6
  have Wb_7 := cell_later hb7 Wb_6
  have o_7 := o_6.below hb7
  have x0_7 := x0_6.below hb7
  have g_7 := ow6.below hb7
  have B_7 := B_6.trans (hb7.mono B_6.size)
  have zz7 : w6.heap.size ≤ w6.heap.size + 1 := by simp
  clear Wa_6 Wb_6 o_6 x0_6 ow6 B_6
  have Ga_7 : (w6.alloc (.cells #[.int .i64 pa, .slice r6 na d6] 47)).cell? ⟨w6.heap.size, 0, none⟩ = some (.int .i64 pa) := by simp
  have Gb_7 : (w6.alloc (.cells #[.int .i64 pa, .slice r6 na d6] 47)).cell? ⟨w6.heap.size, 1, none⟩ = some (.slice r6 na d6) := by simp
  clear hb7
  go_wp2_with fail
  refine (eqTableG _ _ _ _ _ ta pa _ hsA (g_7.atW hsA) (o_7.atW hsA)).mono ?_
  rintro e w8 ⟨rfl, hb8⟩
  have Wa_8 := cell_later hb8 Wa_7
  have Wb_8 := cell_later hb8 Wb_7
  have Ga_8 := cell_later hb8 Ga_7
  have Gb_8 := cell_later hb8 Gb_7
  have o_8 := o_7.below hb8
  have x0_8 := x0_7.below hb8
  have g_8 := g_7.below hb8
  have B_8 := B_7.trans (hb8.mono B_7.size)
  have zz8 : w6.heap.size + 1 ≤ w8.heap.size := by have q := hb8.size; first | exact q | simpa using q
  clear Wa_7 Wb_7 Ga_7 Gb_7 o_7 x0_7 g_7 B_7
  clear hb8
  go_wp2_with fail
  refine (toGroupSG _ _ _ z0 _ hs0 (ha0.below B_8)).mono ?_
  rintro e w9 ⟨g9, rfl, ho9, hb9⟩
  have Wa_9 := cell_later hb9 Wa_8
  have Wb_9 := cell_later hb9 Wb_8
  have Ga_9 := cell_later hb9 Ga_8
  have Gb_9 := cell_later hb9 Gb_8
  have o_9 := o_8.below hb9
  have x0_9 := x0_8.below hb9
  have g_9 := g_8.below hb9
  have B_9 := B_8.trans (hb9.mono B_8.size)
  have zz9 : w8.heap.size ≤ w9.heap.size := by have q := hb9.size; first | exact q | simpa using q
  clear Wa_8 Wb_8 Ga_8 Gb_8 o_8 x0_8 g_8 B_8
  clear hb9
  go_wp2_with fail
  refine (eqGroupSG _ _ _ _ _ z0 _ hs0 (x0_9.atV hs0) (ho9.atV hs0)).mono ?_
  rintro e w10 ⟨rfl, hb10⟩
  have Wa_10 := cell_later hb10 Wa_9
  have Wb_10 := cell_later hb10 Wb_9
  have Ga_10 := cell_later hb10 Ga_9
  have Gb_10 := cell_later hb10 Gb_9
  have o_10 := o_9.below hb10
  have x0_10 := x0_9.below hb10
  have g_10 := g_9.below hb10
  have y_10 := ho9.below hb10
  have B_10 := B_9.trans (hb10.mono B_9.size)
  have zz10 : w9.heap.size ≤ w10.heap.size := by have q := hb10.size; first | exact q | simpa using q
  clear Wa_9 Wb_9 Ga_9 Gb_9 o_9 x0_9 g_9 ho9 B_9
  clear hb10
  clear y_10
  go_wp2_with fail
  refine (markGroupSG _ _ _ _ _ z0 _ _ hs0 (by omega) (by omega) x0_10).mono ?_
  rintro e w11 ⟨rfl, ho11, ha11⟩
  have Wa_11 := ha11.cell Wa_10 (show w3.heap.size < w3.heap.size + 1 ∨ w5.heap.size ≤ w3.heap.size by omega)
  have Wb_11 := ha11.cell Wb_10 (show w3.heap.size < w3.heap.size + 1 ∨ w5.heap.size ≤ w3.heap.size by omega)
  have Ga_11 := ha11.cell Ga_10 (show w6.heap.size < w3.heap.size + 1 ∨ w5.heap.size ≤ w6.heap.size by omega)
  have Gb_11 := ha11.cell Gb_10 (show w6.heap.size < w3.heap.size + 1 ∨ w5.heap.size ≤ w6.heap.size by omega)
  have o_11 := o_10.apartW ha11 (by omega)
  have g_11 := g_10.apartW ha11 (by omega)
  have B_11 := B_10.trans (ha11.below B_10.size (by omega))
  have zz11 : w10.heap.size ≤ w11.heap.size := by have q := ha11.size; first | exact q | simpa using q
  clear ha11 Wa_10 Wb_10 Ga_10 Gb_10 o_10 x0_10 g_10 B_10
  have kpos : ¬ (1 : Int) + (vmk z0 n0 : Nat) < 0 := by omega
  go_wp2_with fail
  refine (eqTableG _ _ _ _ _ ta pa _ hsA (g_11.atW hsA) (o_11.atW hsA)).mono ?_
  rintro e w12 ⟨rfl, hb12⟩
  have Wa_12 := cell_later hb12 Wa_11
  have Wb_12 := cell_later hb12 Wb_11
  have Ga_12 := cell_later hb12 Ga_11
  have Gb_12 := cell_later hb12 Gb_11
  have o_12 := o_11.below hb12
  have x0_12 := ho11.below hb12
  have g_12 := g_11.below hb12
  have B_12 := B_11.trans (hb12.mono B_11.size)
  have zz12 : w11.heap.size ≤ w12.heap.size := by have q := hb12.size; first | exact q | simpa using q
  clear Wa_11 Wb_11 Ga_11 Gb_11 o_11 ho11 g_11 B_11
  clear hb12
  clear x0_12
  go_wp2_with fail
  refine (markTableG _ _ _ _ _ ta pa _ _ hsA (by omega) (by omega) g_12).mono ?_
  rintro e w13 ⟨rfl, ho13, ha13⟩
  have Wa_13 := ha13.cell Wa_12 (show w3.heap.size < w5.heap.size ∨ w6.heap.size ≤ w3.heap.size by omega)
  have Wb_13 := ha13.cell Wb_12 (show w3.heap.size < w5.heap.size ∨ w6.heap.size ≤ w3.heap.size by omega)
  have Ga_13 := ha13.cell Ga_12 (show w6.heap.size < w5.heap.size ∨ w6.heap.size ≤ w6.heap.size by omega)
  have Gb_13 := ha13.cell Gb_12 (show w6.heap.size < w5.heap.size ∨ w6.heap.size ≤ w6.heap.size by omega)
  have o_13 := o_12.apartW ha13 (by omega)
  have B_13 := B_12.trans (ha13.below B_12.size (by omega))
  have zz13 : w12.heap.size ≤ w13.heap.size := by have q := ha13.size; first | exact q | simpa using q
  clear ha13 Wa_12 Wb_12 Ga_12 Gb_12 o_12 g_12 B_12
  have gpos : ¬ (1 : Int) + (wtot ta na : Nat) < 0 := by omega
  go_wp2_with fail
  refine (heldTableG _ _ _ ta pa _ _ hsA (by omega) (by omega) (ho13.atMark hsA)).mono ?_
  rintro e w14 ⟨rfl, hb14⟩
  have Wa_14 := cell_later hb14 Wa_13
  have Wb_14 := cell_later hb14 Wb_13
  have Ga_14 := cell_later hb14 Ga_13
  have Gb_14 := cell_later hb14 Gb_13
  have o_14 := o_13.below hb14
  have g_14 := ho13.below hb14
  have B_14 := B_13.trans (hb14.mono B_13.size)
  have zz14 : w13.heap.size ≤ w14.heap.size := by have q := hb14.size; first | exact q | simpa using q
  clear Wa_13 Wb_13 Ga_13 Gb_13 o_13 ho13 B_13
  clear hb14
  go_wp2_with fail
  refine (toGroupSG _ _ _ z0 _ hs0 (ha0.below B_14)).mono ?_
  rintro e w15 ⟨g15, rfl, ho15, hb15⟩
  have Wa_15 := cell_later hb15 Wa_14
  have Wb_15 := cell_later hb15 Wb_14
  have Ga_15 := cell_later hb15 Ga_14
  have Gb_15 := cell_later hb15 Gb_14
  have o_15 := o_14.below hb15
  have g_15 := g_14.below hb15
  have B_15 := B_14.trans (hb15.mono B_14.size)
  have zz15 : w14.heap.size ≤ w15.heap.size := by have q := hb15.size; first | exact q | simpa using q
  clear Wa_14 Wb_14 Ga_14 Gb_14 o_14 g_14 B_14
  clear hb15
  go_wp2_with fail
  refine (HI.out _ _ _ _ _ ho15).mono ?_
  rintro e w16 ⟨⟨r16, m16, d16, cs16, rfl, ho16⟩, hb16⟩
  have Wa_16 := cell_later hb16 Wa_15
  have Wb_16 := cell_later hb16 Wb_15
  have Ga_16 := cell_later hb16 Ga_15
  have Gb_16 := cell_later hb16 Gb_15
  have o_16 := o_15.below hb16
  have g_16 := g_15.below hb16
  have h0_16 := ho15.below hb16
  have B_16 := B_15.trans (hb16.mono B_15.size)
  have zz16 : w15.heap.size ≤ w16.heap.size := by have q := hb16.size; first | exact q | simpa using q
  clear Wa_15 Wb_15 Ga_15 Gb_15 o_15 g_15 ho15 B_15
  clear hb16
  clear h0_16
  have ow16 : OwnT w16 (w15.heap.size) w16.heap.size r16 m16 d16 ta := ⟨cs16, by first | exact ho16 | simpa using ho16⟩
  obtain rfl : na = m16 := HNA.out.symm.trans ow16.len
  clear ho16
  have hb17 : Below w16.heap.size w16 (w16.alloc (.cells #[.int .i64 pa, .slice r16 na d16] 47)) := (Below.refl _ _).alloc (Nat.le_refl _) _
  have Wa_17 := cell_later hb17 Wa_16
  have Wb_17 := cell_later hb17 Wb_16
  have Ga_17 := cell_later hb17 Ga_16
  have Gb_17 := cell_later hb17 Gb_16
  have o_17 := o_16.below hb17
  have g_17 := g_16.below hb17
  have hg_17 := ow16.below hb17
  have B_17 := B_16.trans (hb17.mono B_16.size)
  have zz17 : w16.heap.size ≤ w16.heap.size + 1 := by simp
  clear Wa_16 Wb_16 Ga_16 Gb_16 o_16 g_16 ow16 B_16
  have Ha_17 : (w16.alloc (.cells #[.int .i64 pa, .slice r16 na d16] 47)).cell? ⟨w16.heap.size, 0, none⟩ = some (.int .i64 pa) := by simp
  have Hb_17 : (w16.alloc (.cells #[.int .i64 pa, .slice r16 na d16] 47)).cell? ⟨w16.heap.size, 1, none⟩ = some (.slice r16 na d16) := by simp
  clear hb17
  go_wp2_with fail
  refine (eqTableG _ _ _ _ _ ta pa _ hsA (hg_17.atW hsA) (o_17.atW hsA)).mono ?_
  rintro e w18 ⟨rfl, hb18⟩
  have Wa_18 := cell_later hb18 Wa_17
  have Wb_18 := cell_later hb18 Wb_17
  have Ga_18 := cell_later hb18 Ga_17
  have Gb_18 := cell_later hb18 Gb_17
  have Ha_18 := cell_later hb18 Ha_17
  have Hb_18 := cell_later hb18 Hb_17
  have o_18 := o_17.below hb18
  have g_18 := g_17.below hb18
  have hg_18 := hg_17.below hb18
  have B_18 := B_17.trans (hb18.mono B_17.size)
  have zz18 : w16.heap.size + 1 ≤ w18.heap.size := by have q := hb18.size; first | exact q | simpa using q
  clear Wa_17 Wb_17 Ga_17 Gb_17 Ha_17 Hb_17 o_17 g_17 hg_17 B_17
  clear hb18
  go_wp2_with fail
  refine (heldTableG _ _ _ ta pa _ _ hsA (by omega) (by omega) (g_18.atMark hsA)).mono ?_
  rintro e w19 ⟨rfl, hb19⟩
  have Wa_19 := cell_later hb19 Wa_18
  have Wb_19 := cell_later hb19 Wb_18
  have Ga_19 := cell_later hb19 Ga_18
  have Gb_19 := cell_later hb19 Gb_18
  have Ha_19 := cell_later hb19 Ha_18
  have Hb_19 := cell_later hb19 Hb_18
  have o_19 := o_18.below hb19
  have g_19 := g_18.below hb19
  have hg_19 := hg_18.below hb19
  have B_19 := B_18.trans (hb19.mono B_18.size)
  have zz19 : w18.heap.size ≤ w19.heap.size := by have q := hb19.size; first | exact q | simpa using q
  clear Wa_18 Wb_18 Ga_18 Gb_18 Ha_18 Hb_18 o_18 g_18 hg_18 B_18
  clear hb19
  go_wp2
  go_ret
  exact ⟨rfl, B_19⟩

end Go.Proofs.Ytlfljfmhhnoinaa

/- Opening the laws' arguments: rows, slices of ints; plain facts on readings. -/
namespace Go.Proofs.Ytlfljfmhhnoinaa
open Go.ChangeShapes Go.WideShapes Go.ChangeAt Go.RowKit Go.Joins Go.Deep

section
variable {H : Type} {enc : TypeId × Value → H} {P : Program} {w : World} {base : Nat} {spare : Nat → Bool} {held : Bool}

theorem array1 {α : Type} {cs : Array α} (h : cs.size = 1) : ∃ c0, cs = #[c0] := by
  obtain ⟨l⟩ := cs
  match l, h with
  | [c0], _ => exact ⟨c0, rfl⟩

theorem open_agg1 {r : Reach} {b0 : Nat} {t : TypeId} {f0 : Field} {v : Value} {d : DataW H} {p : List MemPlace} (hs : P.underlying t = some (.struct #[f0])) (hone : oneCellFields P #[f0] = true) (hC : P.cellsOf t = 1)
    (hv : Value.okWide P w r b0 t v) (h : DataW.Trod enc P w base spare held t v d p) :
    ∃ (v0 : Value) (y0 : DataW H × List MemPlace) (n : Nat), v = .agg #[v0] ∧ d = .agg [y0.1] ∧ p = y0.2 ∧ DataW.trod enc P w base spare held n f0.type [v0] = some y0 := by
  obtain ⟨cs, rfl, hsz⟩ := okWide_struct hs hv
  obtain ⟨c0, rfl⟩ := array1 (hsz.trans hC)
  obtain ⟨fuel, hf⟩ := h
  obtain ⟨y0, n, hx, _, h0⟩ := trod_struct1 hs hf
  obtain ⟨o0, k0⟩ := hone_of hone 0 f0 rfl
  simp only [Prod.mk.injEq] at hx
  exact ⟨c0, y0, n, rfl, hx.1, hx.2, by simpa [Value.cells, o0, k0] using h0⟩

/-- A slice of ints that reads: its numbers. -/
theorem open_at {t e : TypeId} {fuel n c : Nat} {a : Option Addr} {x : DataW H × List MemPlace} (ht : P.underlying t = some (.slice e)) (he : P.underlying e = some (.int .i64)) (hC : P.cellsOf e = 1)
    (h : DataW.trod enc P w base spare held fuel t [.slice a n c] = some x) : ∃ zs : List Int, zs.length = n ∧ n ≤ 9223372036854775807 ∧ At w a zs := by
  rcases open_ints ht he hC h with ⟨hcs, _⟩ | ⟨ad, l, c', zs, hcs, _, hl, hm, hz, _, hcell, _⟩
  · simp at hcs
    obtain ⟨rfl, rfl, rfl⟩ := hcs
    exact ⟨[], rfl, by omega, At.nil _ _⟩
  · simp at hcs
    obtain ⟨rfl, rfl, rfl⟩ := hcs
    unfold maxLen at hm
    have hz' : n ≤ zs.length := by split at hz <;> omega
    refine ⟨zs.take n, by simp; omega, by omega, ?_⟩
    by_cases h0 : n = 0
    · left; simp [h0]
    · right
      obtain ⟨b, off, spot⟩ := ad
      have hc := hcell 0 (by omega)
      have hspot : spot = none := by simpa [Addr.add] using World.cell?_spot hc
      subst hspot
      refine ⟨b, off, rfl, fun i hi => ?_⟩
      have hin : i < n := by simp at hi; omega
      have := hcell i (by omega)
      rw [show (zs.take n).getD i 0 = zs.getD i 0 by simp [List.getD, hin]]
      rw [Addr.add_lit] at this
      exact this

/-- A struct of one slice of ints, by value. -/
theorem open_row {r : Reach} {b0 : Nat} {t ts e : TypeId} {f0 : Field} {v : Value} {d : DataW H} {p : List MemPlace} (hs : P.underlying t = some (.struct #[f0])) (hf0 : f0.type = ts) (hone : oneCellFields P #[f0] = true) (hC : P.cellsOf t = 1)
    (ht : P.underlying ts = some (.slice e)) (he : P.underlying e = some (.int .i64)) (hCe : P.cellsOf e = 1)
    (hv : Value.okWide P w r b0 t v) (h : DataW.Trod enc P w base spare held t v d p) : ∃ a n c, v = .agg #[.slice a n c] ∧ ∃ zs : List Int, zs.length = n ∧ n ≤ 9223372036854775807 ∧ At w a zs := by
  obtain ⟨v0, y0, m, rfl, _, _, h0⟩ := open_agg1 hs hone hC hv h
  subst hf0
  obtain ⟨a, n, c, hcs⟩ := slice_form ht h0
  obtain rfl : v0 = .slice a n c := by simpa using hcs
  exact ⟨a, n, c, rfl, open_at ht he hCe h0⟩
end

end Go.Proofs.Ytlfljfmhhnoinaa

/- Opening slices of groups among the laws' arguments. -/
namespace Go.Proofs.Ytlfljfmhhnoinaa
open Go.ChangeShapes Go.WideShapes Go.ChangeAt Go.RowKit Go.Joins Go.Deep

section
variable {H : Type} {enc : TypeId × Value → H} {P : Program} {w : World} {base : Nat} {held : Bool}

theorem open_atV {t e q : TypeId} {f0 f1 f2 g0 : Field} {fuel n c : Nat} {a : Option Addr} {x : DataW H × List MemPlace} (ht : P.underlying t = some (.slice e)) (he : P.underlying e = some (.struct #[f0, f1, f2]))
    (ce : P.cellsOf e = 3) (o0 : f0.offset = 0) (o1 : f1.offset = 1) (o2 : f2.offset = 2) (c0 : P.cellsOf f0.type = 1) (c1 : P.cellsOf f1.type = 1) (c2 : P.cellsOf f2.type = 1)
    (hr : P.underlying f0.type = some (.struct #[g0])) (og : g0.offset = 0) (cg : P.cellsOf g0.type = 1)
    (hs : P.underlying g0.type = some (.slice q)) (hq : P.underlying q = some (.int .i64)) (cq : P.cellsOf q = 1) (i1 : P.underlying f1.type = some (.int .i64)) (i2 : P.underlying f2.type = some (.int .i64))
    (h : DataW.trod enc P w base (fun _ => true) held fuel t [.slice a n c] = some x) : ∃ ts : List GRow, ts.length = n ∧ n ≤ 9223372036854775807 ∧ AtV w a ts := by
  rcases open_slice ht h with ⟨hcs, _⟩ | ⟨ad, len, cap, m, k, D, Pl, hcs, _, hl, hm, hmm, _, hx⟩
  · simp at hcs
    obtain ⟨rfl, rfl, rfl⟩ := hcs
    exact ⟨[], rfl, by omega, .inl rfl⟩
  · simp at hcs
    obtain ⟨rfl, rfl, rfl⟩ := hcs
    simp only [if_true] at hmm
    subst hmm
    unfold maxLen at hm
    have each : ∀ i, i < n → ∃ y : Option Addr × Nat × GRow, w.cell? (ad.add (i * 3)) = some (.slice y.1 y.2.2.1.length y.2.1) ∧ w.cell? (ad.add (i * 3 + 1)) = some (.int .i64 y.2.2.2.1) ∧ w.cell? (ad.add (i * 3 + 2)) = some (.int .i64 y.2.2.2.2) ∧
        y.2.2.1.length ≤ 9223372036854775807 ∧ At w y.1 y.2.2.1 := by
      intro i hi'
      obtain ⟨cs', h1, h2⟩ := hx i (by omega)
      rw [ce] at h1
      obtain ⟨_, hlen, hcell⟩ := World.cells?_some h1
      obtain ⟨xs, k', hk, hxy, _, hxl, hf⟩ := DataW.trod_struct he h2
      match xs, hxl, cs', hlen with
      | [y0, y1, y2], _, [v0, v1, v2], _ =>
        have g0' := hf 0 f0 rfl
        have g1' := hf 1 f1 rfl
        have g2' := hf 2 f2 rfl
        simp [o0, o1, o2, c0, c1, c2] at g0' g1' g2'
        obtain ⟨z1, q1, _, _⟩ := DataW.trod_int i1 g1'
        obtain ⟨z2, q2, _, _⟩ := DataW.trod_int i2 g2'
        obtain ⟨yy, k'', _, _, s0⟩ := trod_struct1 hr g0'
        rw [og, cg] at s0
        simp only [List.drop_zero, List.take_succ_cons, List.take_zero] at s0
        obtain ⟨a', n', c', hc'⟩ := slice_form hs s0
        simp only [List.cons.injEq, and_true] at hc'
        rw [hc'] at s0
        obtain ⟨zs, hzl, hzn, hat⟩ := open_at hs hq cq s0
        have e0 := hcell 0 (by omega)
        have e1 := hcell 1 (by omega)
        have e2 := hcell 2 (by omega)
        rw [add_add] at e0 e1 e2
        simp only [List.cons.injEq, and_true] at q1 q2
        subst q1 q2 hc'
        exact ⟨(a', c', zs, z1, z2), by rw [hzl]; simpa using e0, by simpa using e1, by simpa using e2, by rw [hzl]; exact hzn, hat⟩
    obtain ⟨y, hy⟩ := choose_lt each
    refine ⟨(List.range n).map fun i => (y i).2.2, by simp, by omega, ?_⟩
    by_cases h0 : n = 0
    · left; simp [h0]
    · right
      obtain ⟨b, off, spot⟩ := ad
      have hc0 := (hy 0 (by omega)).1
      have hspot : spot = none := by simpa [Addr.add] using World.cell?_spot hc0
      subst hspot
      refine ⟨b, off, rfl, fun i hi' => ?_⟩
      have hin : i < n := by simpa using hi'
      obtain ⟨e1, e2, e3, e4, e5⟩ := hy i hin
      have hw : gat ((List.range n).map fun i => (y i).2.2) i = (y i).2.2 := by simp [gat, List.getD, hin]
      rw [hw]
      rw [Addr.add_lit] at e1 e2 e3
      exact ⟨(y i).1, (y i).2.1, e1, e2, e3, e4, e5⟩
end

end Go.Proofs.Ytlfljfmhhnoinaa
