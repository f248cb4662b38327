/- Several texts of one proof, in build order: LawMergeGroups, Open, OpenV. -/
import Derived.Test.YtlfljfmhhnoinaaM4
import Derived.Test.YtlfljfmhhnoinaaM19
import Derived.Test.YtlfljfmhhnoinaaM1
import Derived.ProofKit
import Derived.OpenShut
import Derived.ShutString
import Derived.ChangeOld
import Derived.Lib.SmallJoins
import Derived.Test.YtlfljfmhhnoinaaM2
import Derived.Deep.SlicePairs

/- The law FnExactMergeGroups returns true at every input, and writes nothing that was there. -/
namespace Go.Proofs.Ytlfljfmhhnoinaa
open Go.RowKit

set_option maxRecDepth 100000 in
set_option maxHeartbeats 16000000 in
theorem lawMergeGroups (a0 : Option Addr) (n0 c0 : Nat) (z0 : List GRow) (a1 : Option Addr) (n1 c1 : Nat) (z1 : List GRow) (w : World) (hz0 : z0.length = n0) (hn0 : n0 ≤ 9223372036854775807) (ha0 : AtV w a0 z0) (hz1 : z1.length = n1) (hn1 : n1 ≤ 9223372036854775807) (ha1 : AtV w a1 z1) :
    Calls Try.prog 8 #[.slice a0 n0 c0, .slice a1 n1 c1] w fun e w' => e = .returned (.bool true) ∧ Below w.heap.size w w' := by
  have B0 : Below w.heap.size w w := Below.refl _ _
  by_cases big0 : (1048576 : Int) < (vtot z0 n0 : Nat)
  · go_enter Try.func8, Try.ntmps8
    go_wp2_with fail
    refine (szGroupS_any _ _ _ z0 _ _ hz0 hn0 (by omega) (by omega) (ha0.below B0)).mono ?_
    rintro e v0 ⟨rfl, hv0⟩
    rw [leftOf_no big0]
    have y0 := B0.trans (hv0.mono B0.size)
    go_wp2
    go_ret
    exact ⟨rfl, y0⟩
  have hl0 : ¬ (1048576 : Int) - (vtot z0 n0 : Nat) < 0 := by omega
  have hs0 : SmV z0 n0 := ⟨hz0, by omega⟩
  by_cases big1 : (1048576 : Int) - (vtot z0 n0 : Nat) < (vtot z1 n1 : Nat)
  · go_enter Try.func8, Try.ntmps8
    go_wp2_with fail
    refine (szGroupS_any _ _ _ z0 _ _ hz0 hn0 (by omega) (by omega) (ha0.below B0)).mono ?_
    rintro e v0 ⟨rfl, hv0⟩
    rw [leftOf_yes (by omega)]
    have y0 := B0.trans (hv0.mono B0.size)
    go_wp2_with fail
    refine (szGroupS_any _ _ _ z1 _ _ hz1 hn1 (by omega) (by omega) (ha1.below y0)).mono ?_
    rintro e v1 ⟨rfl, hv1⟩
    rw [leftOf_no big1]
    have y1 := y0.trans (hv1.mono y0.size)
    go_wp2
    go_ret
    exact ⟨rfl, y1⟩
  have hl1 : ¬ (1048576 : Int) - (vtot z0 n0 : Nat) - (vtot z1 n1 : Nat) < 0 := by omega
  have hs1 : SmV z1 n1 := ⟨hz1, by omega⟩
  have hx0 := hs0.n
  have hx1 := hs1.n
  have hk0 := hs0.mk'
  have hk1 := hs1.mk'
  obtain ⟨ok, ta, hsA, HS, HI⟩ : ∃ (ok : Bool) (ta : List GRow), SmV ta ta.length ∧ Hid (∀ (x0 : Option Addr) (y0 lo0 hi0 : Nat) (x1 : Option Addr) (y1 lo1 hi1 : Nat) (w : World), OwnGr w lo0 hi0 x0 n0 y0 z0 → OwnGr w lo1 hi1 x1 n1 y1 z1 → Calls Try.prog 37 #[.slice x0 n0 y0, .slice x1 n1 y1] w fun e w' => GrpRet e w' w.heap.size ok ta ∧ Below w.heap.size w w') ∧ Hid (∀ (x0 : Option Addr) (y0 lo0 hi0 : Nat) (x1 : Option Addr) (y1 lo1 hi1 : Nat) (w : World), OwnGr w lo0 hi0 x0 n0 y0 z0 → OwnGr w lo1 hi1 x1 n1 y1 z1 → Calls Try.prog 38 #[.slice x0 n0 y0, .slice x1 n1 y1] w fun e w' => GrpRet e w' w.heap.size ok ta ∧ Below w.heap.size w w') := ⟨mgB z0 z1, ansG (mgB z0 z1) (mgL z0 z1), goodV_of_ok mgB_goodV, fun x0 y0 lo0 hi0 x1 y1 lo1 hi1 w o0 o1 => specMergeGroups x0 x1 n0 n1 y0 y1 z0 z1 w hs0.1 hs0.n hs1.1 hs1.n o0.formed o1.formed (o0.atN hs0) (o1.atN hs1), fun x0 y0 lo0 hi0 x1 y1 lo1 hi1 w o0 o1 => implMergeGroups x0 x1 n0 n1 y0 y1 z0 z1 w hs0.1 hs0.n hs1.1 hs1.n o0.formed o1.formed (o0.atN hs0) (o1.atN hs1)⟩
  obtain ⟨na, hna⟩ : ∃ na, ta.length = na := ⟨_, rfl⟩
  rw [hna] at hsA
  have hxA := hsA.n
  have HNA := Hid.mk hna
  clear hna
  have hwA := hsA.2
  have hkA := hsA.mk'
  go_enter Try.func8, Try.ntmps8
  go_wp2_with fail
  refine (szGroupS_any _ _ _ z0 _ _ hz0 hn0 (by omega) (by omega) (ha0.below B0)).mono ?_
  rintro e w1 ⟨rfl, hb1⟩
  rw [leftOf_yes (by omega)]
  have B_1 := B0.trans (hb1.mono B0.size)
  have zz1 : w.heap.size ≤ w1.heap.size := by have q := hb1.size; first | exact q | simpa using q
  clear hb1
  go_wp2_with fail
  refine (szGroupS_any _ _ _ z1 _ _ hz1 hn1 (by omega) (by omega) (ha1.below B_1)).mono ?_
  rintro e w2 ⟨rfl, hb2⟩
  rw [leftOf_yes (by omega)]
  have B_2 := B_1.trans (hb2.mono B_1.size)
  have zz2 : w1.heap.size ≤ w2.heap.size := by have q := hb2.size; first | exact q | simpa using q
  clear B_1
  clear hb2
  go_wp2_with fail
  refine (toGroupSG _ _ _ z0 _ hs0 (ha0.below B_2)).mono ?_
  rintro e w3 ⟨g3, rfl, ho3, hb3⟩
  have B_3 := B_2.trans (hb3.mono B_2.size)
  have zz3 : w2.heap.size ≤ w3.heap.size := by have q := hb3.size; first | exact q | simpa using q
  clear B_2
  clear hb3
  go_wp2_with fail
  refine (toGroupSG _ _ _ z1 _ hs1 (ha1.below B_3)).mono ?_
  rintro e w4 ⟨g4, rfl, ho4, hb4⟩
  have t0_4 := ho3.below hb4
  have B_4 := B_3.trans (hb4.mono B_3.size)
  have zz4 : w3.heap.size ≤ w4.heap.size := by have q := hb4.size; first | exact q | simpa using q
  clear ho3 B_3
  clear hb4
  go_wp2_with fail
  refine (HS.out _ _ _ _ _ _ _ _ _ t0_4 ho4).mono ?_
  rintro e w5 ⟨⟨r5, m5, d5, rfl, ho5⟩, hb5⟩
  have t0_5 := t0_4.below hb5
  have t1_5 := ho4.below hb5
  have B_5 := B_4.trans (hb5.mono B_4.size)
  have zz5 : w4.heap.size ≤ w5.heap.size := by have q := hb5.size; first | exact q | simpa using q
  clear t0_4 ho4 B_4
  clear hb5
  clear t0_5
  clear t1_5
  have ow5 : OwnGr w5 (w4.heap.size) w5.heap.size r5 m5 d5 ta := by first | exact ho5 | simpa using ho5
  obtain rfl : na = m5 := HNA.out.symm.trans ow5.len
  clear ho5
  go_wp2_with fail
  refine (toGroupSG _ _ _ z0 _ hs0 (ha0.below B_5)).mono ?_
  rintro e w6 ⟨g6, rfl, ho6, hb6⟩
  have o_6 := ow5.below hb6
  have B_6 := B_5.trans (hb6.mono B_5.size)
  have zz6 : w5.heap.size ≤ w6.heap.size := by have q := hb6.size; first | exact q | simpa using q
  clear ow5 B_5
  clear hb6
  have ox6 : OwnGr w6 (w5.heap.size) w6.heap.size (some ⟨g6, 0, none⟩) n0 n0 z0 := by first | exact ho6 | simpa using ho6
  clear ho6
  go_wp2_with fail
  refine (toGroupSG _ _ _ z1 _ hs1 (ha1.below B_6)).mono ?_
  rintro e w7 ⟨g7, rfl, ho7, hb7⟩
  have o_7 := o_6.below hb7
  have x0_7 := ox6.below hb7
  have B_7 := B_6.trans (hb7.mono B_6.size)
  have zz7 : w6.heap.size ≤ w7.heap.size := by have q := hb7.size; first | exact q | simpa using q
  clear o_6 ox6 B_6
  clear hb7
  have ox7 : OwnGr w7 (w6.heap.size) w7.heap.size (some ⟨g7, 0, none⟩) n1 n1 z1 := by first | exact ho7 | simpa using ho7
  clear ho7
  go_wp2_with fail
  refine (HI.out _ _ _ _ _ _ _ _ _ x0_7 ox7).mono ?_
  rintro e w8 ⟨⟨r8, m8, d8, rfl, ho8⟩, hb8⟩
  have o_8 := o_7.below hb8
  have x0_8 := x0_7.below hb8
  have x1_8 := ox7.below hb8
  have B_8 := B_7.trans (hb8.mono B_7.size)
  have zz8 : w7.heap.size ≤ w8.heap.size := by have q := hb8.size; first | exact q | simpa using q
  clear o_7 x0_7 ox7 B_7
  clear hb8
  have ow8 : OwnGr w8 (w7.heap.size) w8.heap.size r8 m8 d8 ta := by first | exact ho8 | simpa using ho8
  obtain rfl : na = m8 := HNA.out.symm.trans ow8.len
  clear ho8
  go_wp2_with fail
  refine (eqGroupSG _ _ _ _ _ ta _ hsA (ow8.atV hsA) (o_8.atV hsA)).mono ?_
  rintro e w9 ⟨rfl, hb9⟩
  have o_9 := o_8.below hb9
  have x0_9 := x0_8.below hb9
  have x1_9 := x1_8.below hb9
  have g_9 := ow8.below hb9
  have B_9 := B_8.trans (hb9.mono B_8.size)
  have zz9 : w8.heap.size ≤ w9.heap.size := by have q := hb9.size; first | exact q | simpa using q
  clear o_8 x0_8 x1_8 ow8 B_8
  clear hb9
  go_wp2_with fail
  refine (toGroupSG _ _ _ z0 _ hs0 (ha0.below B_9)).mono ?_
  rintro e w10 ⟨g10, rfl, ho10, hb10⟩
  have o_10 := o_9.below hb10
  have x0_10 := x0_9.below hb10
  have x1_10 := x1_9.below hb10
  have g_10 := g_9.below hb10
  have B_10 := B_9.trans (hb10.mono B_9.size)
  have zz10 : w9.heap.size ≤ w10.heap.size := by have q := hb10.size; first | exact q | simpa using q
  clear o_9 x0_9 x1_9 g_9 B_9
  clear hb10
  go_wp2_with fail
  refine (eqGroupSG _ _ _ _ _ z0 _ hs0 (x0_10.atV hs0) (ho10.atV hs0)).mono ?_
  rintro e w11 ⟨rfl, hb11⟩
  have o_11 := o_10.below hb11
  have x0_11 := x0_10.below hb11
  have x1_11 := x1_10.below hb11
  have g_11 := g_10.below hb11
  have y_11 := ho10.below hb11
  have B_11 := B_10.trans (hb11.mono B_10.size)
  have zz11 : w10.heap.size ≤ w11.heap.size := by have q := hb11.size; first | exact q | simpa using q
  clear o_10 x0_10 x1_10 g_10 ho10 B_10
  clear hb11
  clear y_11
  go_wp2_with fail
  refine (toGroupSG _ _ _ z1 _ hs1 (ha1.below B_11)).mono ?_
  rintro e w12 ⟨g12, rfl, ho12, hb12⟩
  have o_12 := o_11.below hb12
  have x0_12 := x0_11.below hb12
  have x1_12 := x1_11.below hb12
  have g_12 := g_11.below hb12
  have B_12 := B_11.trans (hb12.mono B_11.size)
  have zz12 : w11.heap.size ≤ w12.heap.size := by have q := hb12.size; first | exact q | simpa using q
  clear o_11 x0_11 x1_11 g_11 B_11
  clear hb12
  go_wp2_with fail
  refine (eqGroupSG _ _ _ _ _ z1 _ hs1 (x1_12.atV hs1) (ho12.atV hs1)).mono ?_
  rintro e w13 ⟨rfl, hb13⟩
  have o_13 := o_12.below hb13
  have x0_13 := x0_12.below hb13
  have x1_13 := x1_12.below hb13
  have g_13 := g_12.below hb13
  have y_13 := ho12.below hb13
  have B_13 := B_12.trans (hb13.mono B_12.size)
  have zz13 : w12.heap.size ≤ w13.heap.size := by have q := hb13.size; first | exact q | simpa using q
  clear o_12 x0_12 x1_12 g_12 ho12 B_12
  clear hb13
  clear y_13
  go_wp2_with fail
  refine (markGroupSG _ _ _ _ _ z0 _ _ hs0 (by omega) (by omega) x0_13).mono ?_
  rintro e w14 ⟨rfl, ho14, ha14⟩
  have o_14 := o_13.apartW ha14 (by omega)
  have x1_14 := x1_13.apartW ha14 (by omega)
  have g_14 := g_13.apartW ha14 (by omega)
  have B_14 := B_13.trans (ha14.below B_13.size (by omega))
  have zz14 : w13.heap.size ≤ w14.heap.size := by have q := ha14.size; first | exact q | simpa using q
  clear ha14 o_13 x0_13 x1_13 g_13 B_13
  go_wp2_with fail
  refine (markGroupSG _ _ _ _ _ z1 _ _ hs1 (by omega) (by omega) x1_14).mono ?_
  rintro e w15 ⟨rfl, ho15, ha15⟩
  have o_15 := o_14.apartW ha15 (by omega)
  have x0_15 := ho14.apartW ha15 (by omega)
  have g_15 := g_14.apartW ha15 (by omega)
  have B_15 := B_14.trans (ha15.below B_14.size (by omega))
  have zz15 : w14.heap.size ≤ w15.heap.size := by have q := ha15.size; first | exact q | simpa using q
  clear ha15 o_14 ho14 x1_14 g_14 B_14
  have kpos : ¬ (1 : Int) + (vmk z0 n0 : Nat) + (vmk z1 n1 : Nat) < 0 := by omega
  go_wp2_with fail
  refine (eqGroupSG _ _ _ _ _ ta _ hsA (g_15.atV hsA) (o_15.atV hsA)).mono ?_
  rintro e w16 ⟨rfl, hb16⟩
  have o_16 := o_15.below hb16
  have x0_16 := x0_15.below hb16
  have x1_16 := ho15.below hb16
  have g_16 := g_15.below hb16
  have B_16 := B_15.trans (hb16.mono B_15.size)
  have zz16 : w15.heap.size ≤ w16.heap.size := by have q := hb16.size; first | exact q | simpa using q
  clear o_15 x0_15 ho15 g_15 B_15
  clear hb16
  clear x0_16
  clear x1_16
  go_wp2_with fail
  refine (markGroupSG _ _ _ _ _ ta _ _ hsA (by omega) (by omega) g_16).mono ?_
  rintro e w17 ⟨rfl, ho17, ha17⟩
  have o_17 := o_16.apartW ha17 (by omega)
  have B_17 := B_16.trans (ha17.below B_16.size (by omega))
  have zz17 : w16.heap.size ≤ w17.heap.size := by have q := ha17.size; first | exact q | simpa using q
  clear ha17 o_16 g_16 B_16
  have gpos : ¬ (1 : Int) + (vmk ta na : Nat) < 0 := by omega
  go_wp2_with fail
  refine (heldGroupSG _ _ _ ta _ _ hsA (by omega) (by omega) (ho17.atMark hsA)).mono ?_
  rintro e w18 ⟨rfl, hb18⟩
  have o_18 := o_17.below hb18
  have g_18 := ho17.below hb18
  have B_18 := B_17.trans (hb18.mono B_17.size)
  have zz18 : w17.heap.size ≤ w18.heap.size := by have q := hb18.size; first | exact q | simpa using q
  clear o_17 ho17 B_17
  clear hb18
  go_wp2_with fail
  refine (toGroupSG _ _ _ z0 _ hs0 (ha0.below B_18)).mono ?_
  rintro e w19 ⟨g19, rfl, ho19, hb19⟩
  have o_19 := o_18.below hb19
  have g_19 := g_18.below hb19
  have B_19 := B_18.trans (hb19.mono B_18.size)
  have zz19 : w18.heap.size ≤ w19.heap.size := by have q := hb19.size; first | exact q | simpa using q
  clear o_18 g_18 B_18
  clear hb19
  go_wp2_with fail
  refine (toGroupSG _ _ _ z1 _ hs1 (ha1.below B_19)).mono ?_
  rintro e w20 ⟨g20, rfl, ho20, hb20⟩
  have o_20 := o_19.below hb20
  have g_20 := g_19.below hb20
  have h0_20 := ho19.below hb20
  have B_20 := B_19.trans (hb20.mono B_19.size)
  have zz20 : w19.heap.size ≤ w20.heap.size := by have q := hb20.size; first | exact q | simpa using q
  clear o_19 g_19 ho19 B_19
  clear hb20
  go_wp2_with fail
  refine (HI.out _ _ _ _ _ _ _ _ _ h0_20 ho20).mono ?_
  rintro e w21 ⟨⟨r21, m21, d21, rfl, ho21⟩, hb21⟩
  have o_21 := o_20.below hb21
  have g_21 := g_20.below hb21
  have h0_21 := h0_20.below hb21
  have h1_21 := ho20.below hb21
  have B_21 := B_20.trans (hb21.mono B_20.size)
  have zz21 : w20.heap.size ≤ w21.heap.size := by have q := hb21.size; first | exact q | simpa using q
  clear o_20 g_20 h0_20 ho20 B_20
  clear hb21
  clear h0_21
  clear h1_21
  have ow21 : OwnGr w21 (w20.heap.size) w21.heap.size r21 m21 d21 ta := by first | exact ho21 | simpa using ho21
  obtain rfl : na = m21 := HNA.out.symm.trans ow21.len
  clear ho21
  go_wp2_with fail
  refine (eqGroupSG _ _ _ _ _ ta _ hsA (ow21.atV hsA) (o_21.atV hsA)).mono ?_
  rintro e w22 ⟨rfl, hb22⟩
  have o_22 := o_21.below hb22
  have g_22 := g_21.below hb22
  have hg_22 := ow21.below hb22
  have B_22 := B_21.trans (hb22.mono B_21.size)
  have zz22 : w21.heap.size ≤ w22.heap.size := by have q := hb22.size; first | exact q | simpa using q
  clear o_21 g_21 ow21 B_21
  clear hb22
  go_wp2_with fail
  refine (heldGroupSG _ _ _ ta _ _ hsA (by omega) (by omega) (g_22.atMark hsA)).mono ?_
  rintro e w23 ⟨rfl, hb23⟩
  have o_23 := o_22.below hb23
  have g_23 := g_22.below hb23
  have hg_23 := hg_22.below hb23
  have B_23 := B_22.trans (hb23.mono B_22.size)
  have zz23 : w22.heap.size ≤ w23.heap.size := by have q := hb23.size; first | exact q | simpa using q
  clear o_22 g_22 hg_22 B_22
  clear hb23
  go_wp2
  go_ret
  exact ⟨rfl, B_23⟩

end Go.Proofs.Ytlfljfmhhnoinaa

/- Opening the laws' arguments: rows, slices of ints; plain facts on readings. -/
namespace Go.Proofs.Ytlfljfmhhnoinaa
open Go.ChangeShapes Go.WideShapes Go.ChangeAt Go.RowKit Go.Joins Go.Deep

section
variable {H : Type} {enc : TypeId × Value → H} {P : Program} {w : World} {base : Nat} {spare : Nat → Bool} {held : Bool}

theorem array1 {α : Type} {cs : Array α} (h : cs.size = 1) : ∃ c0, cs = #[c0] := by
  obtain ⟨l⟩ := cs
  match l, h with
  | [c0], _ => exact ⟨c0, rfl⟩

theorem open_agg1 {r : Reach} {b0 : Nat} {t : TypeId} {f0 : Field} {v : Value} {d : DataW H} {p : List MemPlace} (hs : P.underlying t = some (.struct #[f0])) (hone : oneCellFields P #[f0] = true) (hC : P.cellsOf t = 1)
    (hv : Value.okWide P w r b0 t v) (h : DataW.Trod enc P w base spare held t v d p) :
    ∃ (v0 : Value) (y0 : DataW H × List MemPlace) (n : Nat), v = .agg #[v0] ∧ d = .agg [y0.1] ∧ p = y0.2 ∧ DataW.trod enc P w base spare held n f0.type [v0] = some y0 := by
  obtain ⟨cs, rfl, hsz⟩ := okWide_struct hs hv
  obtain ⟨c0, rfl⟩ := array1 (hsz.trans hC)
  obtain ⟨fuel, hf⟩ := h
  obtain ⟨y0, n, hx, _, h0⟩ := trod_struct1 hs hf
  obtain ⟨o0, k0⟩ := hone_of hone 0 f0 rfl
  simp only [Prod.mk.injEq] at hx
  exact ⟨c0, y0, n, rfl, hx.1, hx.2, by simpa [Value.cells, o0, k0] using h0⟩

/-- A slice of ints that reads: its numbers. -/
theorem open_at {t e : TypeId} {fuel n c : Nat} {a : Option Addr} {x : DataW H × List MemPlace} (ht : P.underlying t = some (.slice e)) (he : P.underlying e = some (.int .i64)) (hC : P.cellsOf e = 1)
    (h : DataW.trod enc P w base spare held fuel t [.slice a n c] = some x) : ∃ zs : List Int, zs.length = n ∧ n ≤ 9223372036854775807 ∧ At w a zs := by
  rcases open_ints ht he hC h with ⟨hcs, _⟩ | ⟨ad, l, c', zs, hcs, _, hl, hm, hz, _, hcell, _⟩
  · simp at hcs
    obtain ⟨rfl, rfl, rfl⟩ := hcs
    exact ⟨[], rfl, by omega, At.nil _ _⟩
  · simp at hcs
    obtain ⟨rfl, rfl, rfl⟩ := hcs
    unfold maxLen at hm
    have hz' : n ≤ zs.length := by split at hz <;> omega
    refine ⟨zs.take n, by simp; omega, by omega, ?_⟩
    by_cases h0 : n = 0
    · left; simp [h0]
    · right
      obtain ⟨b, off, spot⟩ := ad
      have hc := hcell 0 (by omega)
      have hspot : spot = none := by simpa [Addr.add] using World.cell?_spot hc
      subst hspot
      refine ⟨b, off, rfl, fun i hi => ?_⟩
      have hin : i < n := by simp at hi; omega
      have := hcell i (by omega)
      rw [show (zs.take n).getD i 0 = zs.getD i 0 by simp [List.getD, hin]]
      rw [Addr.add_lit] at this
      exact this

/-- A struct of one slice of ints, by value. -/
theorem open_row {r : Reach} {b0 : Nat} {t ts e : TypeId} {f0 : Field} {v : Value} {d : DataW H} {p : List MemPlace} (hs : P.underlying t = some (.struct #[f0])) (hf0 : f0.type = ts) (hone : oneCellFields P #[f0] = true) (hC : P.cellsOf t = 1)
    (ht : P.underlying ts = some (.slice e)) (he : P.underlying e = some (.int .i64)) (hCe : P.cellsOf e = 1)
    (hv : Value.okWide P w r b0 t v) (h : DataW.Trod enc P w base spare held t v d p) : ∃ a n c, v = .agg #[.slice a n c] ∧ ∃ zs : List Int, zs.length = n ∧ n ≤ 9223372036854775807 ∧ At w a zs := by
  obtain ⟨v0, y0, m, rfl, _, _, h0⟩ := open_agg1 hs hone hC hv h
  subst hf0
  obtain ⟨a, n, c, hcs⟩ := slice_form ht h0
  obtain rfl : v0 = .slice a n c := by simpa using hcs
  exact ⟨a, n, c, rfl, open_at ht he hCe h0⟩
end

end Go.Proofs.Ytlfljfmhhnoinaa

/- Opening slices of groups among the laws' arguments. -/
namespace Go.Proofs.Ytlfljfmhhnoinaa
open Go.ChangeShapes Go.WideShapes Go.ChangeAt Go.RowKit Go.Joins Go.Deep

section
variable {H : Type} {enc : TypeId × Value → H} {P : Program} {w : World} {base : Nat} {held : Bool}

theorem open_atV {t e q : TypeId} {f0 f1 f2 g0 : Field} {fuel n c : Nat} {a : Option Addr} {x : DataW H × List MemPlace} (ht : P.underlying t = some (.slice e)) (he : P.underlying e = some (.struct #[f0, f1, f2]))
    (ce : P.cellsOf e = 3) (o0 : f0.offset = 0) (o1 : f1.offset = 1) (o2 : f2.offset = 2) (c0 : P.cellsOf f0.type = 1) (c1 : P.cellsOf f1.type = 1) (c2 : P.cellsOf f2.type = 1)
    (hr : P.underlying f0.type = some (.struct #[g0])) (og : g0.offset = 0) (cg : P.cellsOf g0.type = 1)
    (hs : P.underlying g0.type = some (.slice q)) (hq : P.underlying q = some (.int .i64)) (cq : P.cellsOf q = 1) (i1 : P.underlying f1.type = some (.int .i64)) (i2 : P.underlying f2.type = some (.int .i64))
    (h : DataW.trod enc P w base (fun _ => true) held fuel t [.slice a n c] = some x) : ∃ ts : List GRow, ts.length = n ∧ n ≤ 9223372036854775807 ∧ AtV w a ts := by
  rcases open_slice ht h with ⟨hcs, _⟩ | ⟨ad, len, cap, m, k, D, Pl, hcs, _, hl, hm, hmm, _, hx⟩
  · simp at hcs
    obtain ⟨rfl, rfl, rfl⟩ := hcs
    exact ⟨[], rfl, by omega, .inl rfl⟩
  · simp at hcs
    obtain ⟨rfl, rfl, rfl⟩ := hcs
    simp only [if_true] at hmm
    subst hmm
    unfold maxLen at hm
    have each : ∀ i, i < n → ∃ y : Option Addr × Nat × GRow, w.cell? (ad.add (i * 3)) = some (.slice y.1 y.2.2.1.length y.2.1) ∧ w.cell? (ad.add (i * 3 + 1)) = some (.int .i64 y.2.2.2.1) ∧ w.cell? (ad.add (i * 3 + 2)) = some (.int .i64 y.2.2.2.2) ∧
        y.2.2.1.length ≤ 9223372036854775807 ∧ At w y.1 y.2.2.1 := by
      intro i hi'
      obtain ⟨cs', h1, h2⟩ := hx i (by omega)
      rw [ce] at h1
      obtain ⟨_, hlen, hcell⟩ := World.cells?_some h1
      obtain ⟨xs, k', hk, hxy, _, hxl, hf⟩ := DataW.trod_struct he h2
      match xs, hxl, cs', hlen with
      | [y0, y1, y2], _, [v0, v1, v2], _ =>
        have g0' := hf 0 f0 rfl
        have g1' := hf 1 f1 rfl
        have g2' := hf 2 f2 rfl
        simp [o0, o1, o2, c0, c1, c2] at g0' g1' g2'
        obtain ⟨z1, q1, _, _⟩ := DataW.trod_int i1 g1'
        obtain ⟨z2, q2, _, _⟩ := DataW.trod_int i2 g2'
        obtain ⟨yy, k'', _, _, s0⟩ := trod_struct1 hr g0'
        rw [og, cg] at s0
        simp only [List.drop_zero, List.take_succ_cons, List.take_zero] at s0
        obtain ⟨a', n', c', hc'⟩ := slice_form hs s0
        simp only [List.cons.injEq, and_true] at hc'
        rw [hc'] at s0
        obtain ⟨zs, hzl, hzn, hat⟩ := open_at hs hq cq s0
        have e0 := hcell 0 (by omega)
        have e1 := hcell 1 (by omega)
        have e2 := hcell 2 (by omega)
        rw [add_add] at e0 e1 e2
        simp only [List.cons.injEq, and_true] at q1 q2
        subst q1 q2 hc'
        exact ⟨(a', c', zs, z1, z2), by rw [hzl]; simpa using e0, by simpa using e1, by simpa using e2, by rw [hzl]; exact hzn, hat⟩
    obtain ⟨y, hy⟩ := choose_lt each
    refine ⟨(List.range n).map fun i => (y i).2.2, by simp, by omega, ?_⟩
    by_cases h0 : n = 0
    · left; simp [h0]
    · right
      obtain ⟨b, off, spot⟩ := ad
      have hc0 := (hy 0 (by omega)).1
      have hspot : spot = none := by simpa [Addr.add] using World.cell?_spot hc0
      subst hspot
      refine ⟨b, off, rfl, fun i hi' => ?_⟩
      have hin : i < n := by simpa using hi'
      obtain ⟨e1, e2, e3, e4, e5⟩ := hy i hin
      have hw : gat ((List.range n).map fun i => (y i).2.2) i = (y i).2.2 := by simp [gat, List.getD, hin]
      rw [hw]
      rw [Addr.add_lit] at e1 e2 e3
      exact ⟨(y i).1, (y i).2.1, e1, e2, e3, e4, e5⟩
end

end Go.Proofs.Ytlfljfmhhnoinaa
