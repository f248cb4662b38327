/- The law FnExactPickCells returns true at every input, and writes nothing that was there. -/
import Derived.Test.YtagijnfiiifppabPickS
namespace Go.Proofs.Ytagijnfiiifppab
open Go.RowKit

set_option maxHeartbeats 4000000 in
theorem lawPickCells (a0 : Option Addr) (n0 c0 : Nat) (z0 : List Int) (a1 : Option Addr) (n1 c1 : Nat) (z1 : List Int) (w : World) (hz0 : z0.length = n0) (hn0 : n0 ≤ 9223372036854775807) (ha0 : At w a0 z0) (hz1 : z1.length = n1) (hn1 : n1 ≤ 9223372036854775807) (ha1 : At w a1 z1) :
    Calls Try.prog 3 #[.agg #[.slice a0 n0 c0], .slice a1 n1 c1] w fun e w' => e = .returned (.bool true) ∧ Below w.heap.size w w' := by
  have B0 : Below w.heap.size w (w.alloc (.cells #[.slice a0 n0 c0] 24)) := ((Below.refl _ _).alloc (Nat.le_refl _) _)
  have p0_0 : (w.alloc (.cells #[.slice a0 n0 c0] 24)).cell? ⟨w.heap.size, 0, none⟩ = some (.slice a0 n0 c0) := by simp
  by_cases big1 : 1048576 < n1
  · have big1' : (1048576 : Int) < (n1 : Int) := by omega
    go_enter Try.func3, Try.ntmps3
    go_wp2
    go_ret
    exact ⟨rfl, B0⟩
  have hs1 : n1 ≤ 1048576 := by omega
  have hs1' : ¬ (1048576 : Int) < (n1 : Int) := by omega
  by_cases big0 : (1048576 : Int) < n0
  · go_enter Try.func3, Try.ntmps3
    go_wp2_with fail
    refine (szRow_any _ _ _ _ _ hn0 (by omega) (by omega)).mono ?_
    rintro e v0 ⟨rfl, hv0⟩
    rw [if_pos big0]
    have y0 := B0.trans (hv0.mono B0.size)
    go_wp2
    go_ret
    exact ⟨rfl, y0⟩
  have hs0 : n0 ≤ 1048576 := by omega
  have hl0 : ¬ (1048576 : Int) - n0 < 0 := by omega
  have hsm := pickZ_small z0 z1
  go_enter Try.func3, Try.ntmps3
  go_wp2_with fail
  refine (szRow_any _ _ _ _ _ hn0 (by omega) (by omega)).mono ?_
  rintro e w1 ⟨rfl, hb1⟩
  rw [if_neg (by omega)]
  have p0_1 := cell_later hb1 p0_0
  have B_1 := B0.trans (hb1.mono B0.size)
  have zz1 : w.heap.size + 1 ≤ w1.heap.size := by have q := hb1.size; first | exact q | simpa using q
  clear hb1 p0_0
  go_wp2_with fail
  refine (toRow_any _ _ _ z0 _ hz0 hs0 (ha0.below B_1)).mono ?_
  rintro e w2 ⟨g2, rfl, ho2, hb2⟩
  have p0_2 := cell_later hb2 p0_1
  have B_2 := B_1.trans (hb2.mono B_1.size)
  have zz2 : w1.heap.size ≤ w2.heap.size := by have q := hb2.size; first | exact q | simpa using q
  clear hb2 p0_1 B_1
  go_wp2_with fail
  refine (toIntS_at _ _ _ z1 _ hz1 hs1 (ha1.below B_2)).mono ?_
  rintro e w3 ⟨g3, rfl, ho3, hb3⟩
  have p0_3 := cell_later hb3 p0_2
  have t0_3 := owns_below ho2 hb3
  have B_3 := B_2.trans (hb3.mono B_2.size)
  have zz3 : w2.heap.size ≤ w3.heap.size := by have q := hb3.size; first | exact q | simpa using q
  clear hb3 p0_2 ho2 B_2
  go_wp2_with fail
  refine (specPickCells _ _ _ _ _ _ z0 z1 _ hz0 hz1 hn0 hn1 (At.owned t0_3) (At.owned ho3)).mono ?_
  rintro e w4 ⟨r4, m4, d4, rfl, hm4, ho4, hb4⟩
  have p0_4 := cell_later hb4 p0_3
  have t0_4 := owns_below t0_3 hb4
  have t1_4 := owns_below ho3 hb4
  have B_4 := B_3.trans (hb4.mono B_3.size)
  have zz4 : w3.heap.size ≤ w4.heap.size := by have q := hb4.size; first | exact q | simpa using q
  clear hb4 p0_3 t0_3 ho3 B_3
  clear t0_4
  clear t1_4
  have lt_o : ∀ k, (Value.slice r4 m4 d4).ownBlock = some k → w3.heap.size ≤ k ∧ k < w4.heap.size := fun k hk => by have q := ho4.lt k hk; first | exact q | simpa using q
  have hb5 : Below w4.heap.size w4 (w4.alloc (.cells #[.slice r4 m4 d4] 26)) := (Below.refl _ _).alloc (Nat.le_refl _) _
  have p0_5 := cell_later hb5 p0_4
  have o_5 := owns_below ho4 hb5
  have B_5 := B_4.trans (hb5.mono B_4.size)
  have zz5 : w4.heap.size ≤ w4.heap.size + 1 := by simp
  have W_5 : (w4.alloc (.cells #[.slice r4 m4 d4] 26)).cell? ⟨w4.heap.size, 0, none⟩ = some (.slice r4 m4 d4) := by simp
  clear hb5 p0_4 ho4 B_4
  go_wp2_with fail
  refine (toRow_any _ _ _ z0 _ hz0 hs0 (ha0.below B_5)).mono ?_
  rintro e w6 ⟨g6, rfl, ho6, hb6⟩
  have p0_6 := cell_later hb6 p0_5
  have W_6 := cell_later hb6 W_5
  have o_6 := owns_below o_5 hb6
  have B_6 := B_5.trans (hb6.mono B_5.size)
  have zz6 : w4.heap.size + 1 ≤ w6.heap.size := by have q := hb6.size; first | exact q | simpa using q
  clear hb6 p0_5 W_5 o_5 B_5
  have lt_x0 : ∀ k, (Value.slice (some ⟨g6, 0, none⟩) n0 n0).ownBlock = some k → w4.heap.size + 1 ≤ k ∧ k < w6.heap.size := fun k hk => by have q := ho6.lt k hk; first | exact q | simpa using q
  have hb7 : Below w6.heap.size w6 (w6.alloc (.cells #[.slice (some ⟨g6, 0, none⟩) n0 n0] 26)) := (Below.refl _ _).alloc (Nat.le_refl _) _
  have p0_7 := cell_later hb7 p0_6
  have W_7 := cell_later hb7 W_6
  have o_7 := owns_below o_6 hb7
  have x0_7 := owns_below ho6 hb7
  have B_7 := B_6.trans (hb7.mono B_6.size)
  have zz7 : w6.heap.size ≤ w6.heap.size + 1 := by simp
  have X0_7 : (w6.alloc (.cells #[.slice (some ⟨g6, 0, none⟩) n0 n0] 26)).cell? ⟨w6.heap.size, 0, none⟩ = some (.slice (some ⟨g6, 0, none⟩) n0 n0) := by simp
  clear hb7 p0_6 W_6 o_6 ho6 B_6
  go_wp2_with fail
  refine (toIntS_at _ _ _ z1 _ hz1 hs1 (ha1.below B_7)).mono ?_
  rintro e w8 ⟨g8, rfl, ho8, hb8⟩
  have p0_8 := cell_later hb8 p0_7
  have W_8 := cell_later hb8 W_7
  have X0_8 := cell_later hb8 X0_7
  have o_8 := owns_below o_7 hb8
  have x0_8 := owns_below x0_7 hb8
  have B_8 := B_7.trans (hb8.mono B_7.size)
  have zz8 : w6.heap.size + 1 ≤ w8.heap.size := by have q := hb8.size; first | exact q | simpa using q
  clear hb8 p0_7 W_7 X0_7 o_7 x0_7 B_7
  have lt_x1 : ∀ k, (Value.slice (some ⟨g8, 0, none⟩) n1 n1).ownBlock = some k → w6.heap.size + 1 ≤ k ∧ k < w8.heap.size := fun k hk => by have q := ho8.lt k hk; first | exact q | simpa using q
  go_wp2_with fail
  refine (implPickCells _ _ _ _ _ _ z0 z1 _ hz0 hz1 hn0 hn1 (At.owned x0_8) (At.owned ho8)).mono ?_
  rintro e w9 ⟨r9, m9, d9, rfl, hm9, ho9, hb9⟩
  have p0_9 := cell_later hb9 p0_8
  have W_9 := cell_later hb9 W_8
  have X0_9 := cell_later hb9 X0_8
  have o_9 := owns_below o_8 hb9
  have x0_9 := owns_below x0_8 hb9
  have x1_9 := owns_below ho8 hb9
  have B_9 := B_8.trans (hb9.mono B_8.size)
  have zz9 : w8.heap.size ≤ w9.heap.size := by have q := hb9.size; first | exact q | simpa using q
  clear hb9 p0_8 W_8 X0_8 o_8 x0_8 ho8 B_8
  have lt_g : ∀ k, (Value.slice r9 m9 d9).ownBlock = some k → w8.heap.size ≤ k ∧ k < w9.heap.size := fun k hk => by have q := ho9.lt k hk; first | exact q | simpa using q
  obtain rfl : m9 = m4 := hm9.symm.trans hm4
  have hb10 : Below w9.heap.size w9 (w9.alloc (.cells #[.slice r9 m9 d9] 26)) := (Below.refl _ _).alloc (Nat.le_refl _) _
  have p0_10 := cell_later hb10 p0_9
  have W_10 := cell_later hb10 W_9
  have X0_10 := cell_later hb10 X0_9
  have o_10 := owns_below o_9 hb10
  have x0_10 := owns_below x0_9 hb10
  have x1_10 := owns_below x1_9 hb10
  have g_10 := owns_below ho9 hb10
  have B_10 := B_9.trans (hb10.mono B_9.size)
  have zz10 : w9.heap.size ≤ w9.heap.size + 1 := by simp
  have G_10 : (w9.alloc (.cells #[.slice r9 m9 d9] 26)).cell? ⟨w9.heap.size, 0, none⟩ = some (.slice r9 m9 d9) := by simp
  clear hb10 p0_9 W_9 X0_9 o_9 x0_9 x1_9 ho9 B_9
  go_wp2_with fail
  refine (eqRow_any _ _ _ _ _ _ (pickZ z0 z1) (pickZ z0 z1) _ hm9 hm9 (by omega) (by omega) (At.owned g_10) (At.owned o_10)).mono ?_
  rintro e w11 ⟨rfl, hb11⟩
  rw [decide_eq_true (rfl : pickZ z0 z1 = pickZ z0 z1)]
  have p0_11 := cell_later hb11 p0_10
  have W_11 := cell_later hb11 W_10
  have X0_11 := cell_later hb11 X0_10
  have G_11 := cell_later hb11 G_10
  have o_11 := owns_below o_10 hb11
  have x0_11 := owns_below x0_10 hb11
  have x1_11 := owns_below x1_10 hb11
  have g_11 := owns_below g_10 hb11
  have B_11 := B_10.trans (hb11.mono B_10.size)
  have zz11 : w9.heap.size + 1 ≤ w11.heap.size := by have q := hb11.size; first | exact q | simpa using q
  clear hb11 p0_10 W_10 X0_10 G_10 o_10 x0_10 x1_10 g_10 B_10
  go_wp2_with fail
  go_region_held3 (fun w' => w'.cell? ⟨w.heap.size, 0, none⟩ = some (.slice a0 n0 c0) ∧ w'.cell? ⟨w6.heap.size, 0, none⟩ = some (.slice (some ⟨g6, 0, none⟩) n0 n0)) (refine ⟨?_, ?_⟩ <;> assumption)
    (first
      | (go_at_call 7; refine (toRow_any _ _ _ z0 _ hz0 hs0 (ha0.below B_11.drew)).mono ?_; rintro e w12 ⟨g12, rfl, ho12, hb12⟩; have s12 := cell_later hb12 p0_11; have t12 := cell_later hb12 X0_11)
      | (go_at_call 10; refine (eqRow_any _ _ _ _ _ _ z0 z0 _ hz0 hz0 hs0 hs0 (At.owned (owns_below x0_11.drew hb12)) (At.owned ho12)).mono ?_; rintro e w13 ⟨rfl, hb13⟩; have u13 := cell_later hb13 s12; have v13 := cell_later hb13 t12; rw [decide_eq_true (rfl : z0 = z0)]))
  clear ho12 s12 t12 u13 v13
  have p0_12 := cell_later hb12 p0_11
  have W_12 := cell_later hb12 W_11
  have X0_12 := cell_later hb12 X0_11
  have G_12 := cell_later hb12 G_11
  have o_12 := owns_below o_11.drew hb12
  have x0_12 := owns_below x0_11.drew hb12
  have x1_12 := owns_below x1_11.drew hb12
  have g_12 := owns_below g_11.drew hb12
  have B_12 := B_11.drew.trans (hb12.mono B_11.size)
  have zz12 : w11.heap.size ≤ w12.heap.size := by have q := hb12.size; first | exact q | simpa using q
  clear hb12 p0_11 W_11 X0_11 G_11 o_11 x0_11 x1_11 g_11 B_11
  have p0_13 := cell_later hb13 p0_12
  have W_13 := cell_later hb13 W_12
  have X0_13 := cell_later hb13 X0_12
  have G_13 := cell_later hb13 G_12
  have o_13 := owns_below o_12 hb13
  have x0_13 := owns_below x0_12 hb13
  have x1_13 := owns_below x1_12 hb13
  have g_13 := owns_below g_12 hb13
  have B_13 := B_12.trans (hb13.mono B_12.size)
  have zz13 : w12.heap.size ≤ w13.heap.size := by have q := hb13.size; first | exact q | simpa using q
  clear hb13 p0_12 W_12 X0_12 G_12 o_12 x0_12 x1_12 g_12 B_12
  go_wp2_with fail
  refine (toIntS_at _ _ _ z1 _ hz1 hs1 (ha1.below B_13)).mono ?_
  rintro e w14 ⟨g14, rfl, ho14, hb14⟩
  have p0_14 := cell_later hb14 p0_13
  have W_14 := cell_later hb14 W_13
  have X0_14 := cell_later hb14 X0_13
  have G_14 := cell_later hb14 G_13
  have o_14 := owns_below o_13 hb14
  have x0_14 := owns_below x0_13 hb14
  have x1_14 := owns_below x1_13 hb14
  have g_14 := owns_below g_13 hb14
  have B_14 := B_13.trans (hb14.mono B_13.size)
  have zz14 : w13.heap.size ≤ w14.heap.size := by have q := hb14.size; first | exact q | simpa using q
  clear hb14 p0_13 W_13 X0_13 G_13 o_13 x0_13 x1_13 g_13 B_13
  go_wp2_with fail
  refine (eqIntS_any _ _ _ _ _ _ z1 z1 _ hz1 hz1 hs1 hs1 (At.owned x1_14) (At.owned ho14)).mono ?_
  rintro e w15 ⟨rfl, hb15⟩
  rw [decide_eq_true (rfl : z1 = z1)]
  have p0_15 := cell_later hb15 p0_14
  have W_15 := cell_later hb15 W_14
  have X0_15 := cell_later hb15 X0_14
  have G_15 := cell_later hb15 G_14
  have o_15 := owns_below o_14 hb15
  have x0_15 := owns_below x0_14 hb15
  have x1_15 := owns_below x1_14 hb15
  have g_15 := owns_below g_14 hb15
  have y_15 := owns_below ho14 hb15
  have B_15 := B_14.trans (hb15.mono B_14.size)
  have zz15 : w14.heap.size ≤ w15.heap.size := by have q := hb15.size; first | exact q | simpa using q
  clear hb15 p0_14 W_14 X0_14 G_14 o_14 x0_14 x1_14 g_14 ho14 B_14
  clear y_15
  go_wp2_with fail
  refine (markRow_any _ _ _ _ _ _ _ hs0 (by omega) (by omega) x0_15).mono ?_
  rintro e w16 ⟨rfl, ho16, hg16⟩
  have p0_16 := hg16.cell p0_15 (fun e => by have q := lt_x0 (w.heap.size) e.symm; omega)
  have W_16 := hg16.cell W_15 (fun e => by have q := lt_x0 (w4.heap.size) e.symm; omega)
  have X0_16 := hg16.cell X0_15 (fun e => by have q := lt_x0 (w6.heap.size) e.symm; omega)
  have G_16 := hg16.cell G_15 (fun e => by have q := lt_x0 (w9.heap.size) e.symm; omega)
  have o_16 := o_15.kept hg16 (own_apart lt_o lt_x0 (by omega))
  have x1_16 := x1_15.kept hg16 (own_apart lt_x1 lt_x0 (by omega))
  have g_16 := g_15.kept hg16 (own_apart lt_g lt_x0 (by omega))
  have B_16 := B_15.grown hg16 B_15.size (fun k hk => by have q := lt_x0 k hk; omega)
  have zz16 : w15.heap.size ≤ w16.heap.size := by have q := hg16.size; first | exact q | simpa using q
  clear hg16 p0_15 W_15 X0_15 G_15 o_15 x0_15 x1_15 g_15 B_15
  go_wp2_with fail
  refine (markIntS_any _ _ _ _ _ _ _ hs1 (by omega) (by omega) x1_16).mono ?_
  rintro e w17 ⟨rfl, ho17, hg17⟩
  have p0_17 := hg17.cell p0_16 (fun e => by have q := lt_x1 (w.heap.size) e.symm; omega)
  have W_17 := hg17.cell W_16 (fun e => by have q := lt_x1 (w4.heap.size) e.symm; omega)
  have X0_17 := hg17.cell X0_16 (fun e => by have q := lt_x1 (w6.heap.size) e.symm; omega)
  have G_17 := hg17.cell G_16 (fun e => by have q := lt_x1 (w9.heap.size) e.symm; omega)
  have o_17 := o_16.kept hg17 (own_apart lt_o lt_x1 (by omega))
  have x0_17 := ho16.kept hg17 (own_apart lt_x0 lt_x1 (by omega))
  have g_17 := g_16.kept hg17 (own_apart lt_g lt_x1 (by omega))
  have B_17 := B_16.grown hg17 B_16.size (fun k hk => by have q := lt_x1 k hk; omega)
  have zz17 : w16.heap.size ≤ w17.heap.size := by have q := hg17.size; first | exact q | simpa using q
  clear hg17 p0_16 W_16 X0_16 G_16 o_16 ho16 x1_16 g_16 B_16
  have kpos : ¬ (1 : Int) + n0 + n1 < 0 := by omega
  go_wp2_with fail
  refine (eqRow_any _ _ _ _ _ _ (pickZ z0 z1) (pickZ z0 z1) _ hm9 hm9 (by omega) (by omega) (At.owned g_17) (At.owned o_17)).mono ?_
  rintro e w18 ⟨rfl, hb18⟩
  rw [decide_eq_true (rfl : pickZ z0 z1 = pickZ z0 z1)]
  have p0_18 := cell_later hb18 p0_17
  have W_18 := cell_later hb18 W_17
  have X0_18 := cell_later hb18 X0_17
  have G_18 := cell_later hb18 G_17
  have o_18 := owns_below o_17 hb18
  have x0_18 := owns_below x0_17 hb18
  have x1_18 := owns_below ho17 hb18
  have g_18 := owns_below g_17 hb18
  have B_18 := B_17.trans (hb18.mono B_17.size)
  have zz18 : w17.heap.size ≤ w18.heap.size := by have q := hb18.size; first | exact q | simpa using q
  clear hb18 p0_17 W_17 X0_17 G_17 o_17 x0_17 ho17 g_17 B_17
  clear x0_18
  clear x1_18
  go_wp2_with fail
  refine (markRow_any _ _ _ _ _ _ _ (by omega) (by omega) (by omega) g_18).mono ?_
  rintro e w19 ⟨rfl, ho19, hg19⟩
  have p0_19 := hg19.cell p0_18 (fun e => by have q := lt_g (w.heap.size) e.symm; omega)
  have W_19 := hg19.cell W_18 (fun e => by have q := lt_g (w4.heap.size) e.symm; omega)
  have X0_19 := hg19.cell X0_18 (fun e => by have q := lt_g (w6.heap.size) e.symm; omega)
  have G_19 := hg19.cell G_18 (fun e => by have q := lt_g (w9.heap.size) e.symm; omega)
  have o_19 := o_18.kept hg19 (own_apart lt_o lt_g (by omega))
  have B_19 := B_18.grown hg19 B_18.size (fun k hk => by have q := lt_g k hk; omega)
  have zz19 : w18.heap.size ≤ w19.heap.size := by have q := hg19.size; first | exact q | simpa using q
  clear hg19 p0_18 W_18 X0_18 G_18 o_18 g_18 B_18
  go_wp2_with fail
  refine (heldRow_any _ _ _ _ _ (by omega) (by omega) (by omega) (At.owned ho19)).mono ?_
  rintro e w20 ⟨rfl, hb20⟩
  have p0_20 := cell_later hb20 p0_19
  have W_20 := cell_later hb20 W_19
  have X0_20 := cell_later hb20 X0_19
  have G_20 := cell_later hb20 G_19
  have o_20 := owns_below o_19 hb20
  have g_20 := owns_below ho19 hb20
  have B_20 := B_19.trans (hb20.mono B_19.size)
  have zz20 : w19.heap.size ≤ w20.heap.size := by have q := hb20.size; first | exact q | simpa using q
  clear hb20 p0_19 W_19 X0_19 G_19 o_19 ho19 B_19
  go_wp2_with fail
  refine (toRow_any _ _ _ z0 _ hz0 hs0 (ha0.below B_20)).mono ?_
  rintro e w21 ⟨g21, rfl, ho21, hb21⟩
  have p0_21 := cell_later hb21 p0_20
  have W_21 := cell_later hb21 W_20
  have X0_21 := cell_later hb21 X0_20
  have G_21 := cell_later hb21 G_20
  have o_21 := owns_below o_20 hb21
  have g_21 := owns_below g_20 hb21
  have B_21 := B_20.trans (hb21.mono B_20.size)
  have zz21 : w20.heap.size ≤ w21.heap.size := by have q := hb21.size; first | exact q | simpa using q
  clear hb21 p0_20 W_20 X0_20 G_20 o_20 g_20 B_20
  go_wp2_with fail
  refine (toIntS_at _ _ _ z1 _ hz1 hs1 (ha1.below B_21)).mono ?_
  rintro e w22 ⟨g22, rfl, ho22, hb22⟩
  have p0_22 := cell_later hb22 p0_21
  have W_22 := cell_later hb22 W_21
  have X0_22 := cell_later hb22 X0_21
  have G_22 := cell_later hb22 G_21
  have o_22 := owns_below o_21 hb22
  have g_22 := owns_below g_21 hb22
  have h0_22 := owns_below ho21 hb22
  have B_22 := B_21.trans (hb22.mono B_21.size)
  have zz22 : w21.heap.size ≤ w22.heap.size := by have q := hb22.size; first | exact q | simpa using q
  clear hb22 p0_21 W_21 X0_21 G_21 o_21 g_21 ho21 B_21
  go_wp2_with fail
  refine (implPickCells _ _ _ _ _ _ z0 z1 _ hz0 hz1 hn0 hn1 (At.owned h0_22) (At.owned ho22)).mono ?_
  rintro e w23 ⟨r23, m23, d23, rfl, hm23, ho23, hb23⟩
  have p0_23 := cell_later hb23 p0_22
  have W_23 := cell_later hb23 W_22
  have X0_23 := cell_later hb23 X0_22
  have G_23 := cell_later hb23 G_22
  have o_23 := owns_below o_22 hb23
  have g_23 := owns_below g_22 hb23
  have h0_23 := owns_below h0_22 hb23
  have h1_23 := owns_below ho22 hb23
  have B_23 := B_22.trans (hb23.mono B_22.size)
  have zz23 : w22.heap.size ≤ w23.heap.size := by have q := hb23.size; first | exact q | simpa using q
  clear hb23 p0_22 W_22 X0_22 G_22 o_22 g_22 h0_22 ho22 B_22
  clear h0_23
  clear h1_23
  have lt_hg : ∀ k, (Value.slice r23 m23 d23).ownBlock = some k → w22.heap.size ≤ k ∧ k < w23.heap.size := fun k hk => by have q := ho23.lt k hk; first | exact q | simpa using q
  obtain rfl : m23 = m9 := hm23.symm.trans hm9
  have hb24 : Below w23.heap.size w23 (w23.alloc (.cells #[.slice r23 m23 d23] 26)) := (Below.refl _ _).alloc (Nat.le_refl _) _
  have p0_24 := cell_later hb24 p0_23
  have W_24 := cell_later hb24 W_23
  have X0_24 := cell_later hb24 X0_23
  have G_24 := cell_later hb24 G_23
  have o_24 := owns_below o_23 hb24
  have g_24 := owns_below g_23 hb24
  have hg_24 := owns_below ho23 hb24
  have B_24 := B_23.trans (hb24.mono B_23.size)
  have zz24 : w23.heap.size ≤ w23.heap.size + 1 := by simp
  have H_24 : (w23.alloc (.cells #[.slice r23 m23 d23] 26)).cell? ⟨w23.heap.size, 0, none⟩ = some (.slice r23 m23 d23) := by simp
  clear hb24 p0_23 W_23 X0_23 G_23 o_23 g_23 ho23 B_23
  go_wp2_with fail
  refine (eqRow_any _ _ _ _ _ _ (pickZ z0 z1) (pickZ z0 z1) _ hm23 hm23 (by omega) (by omega) (At.owned hg_24) (At.owned o_24)).mono ?_
  rintro e w25 ⟨rfl, hb25⟩
  rw [decide_eq_true (rfl : pickZ z0 z1 = pickZ z0 z1)]
  have p0_25 := cell_later hb25 p0_24
  have W_25 := cell_later hb25 W_24
  have X0_25 := cell_later hb25 X0_24
  have G_25 := cell_later hb25 G_24
  have H_25 := cell_later hb25 H_24
  have o_25 := owns_below o_24 hb25
  have g_25 := owns_below g_24 hb25
  have hg_25 := owns_below hg_24 hb25
  have B_25 := B_24.trans (hb25.mono B_24.size)
  have zz25 : w23.heap.size + 1 ≤ w25.heap.size := by have q := hb25.size; first | exact q | simpa using q
  clear hb25 p0_24 W_24 X0_24 G_24 H_24 o_24 g_24 hg_24 B_24
  go_wp2_with fail
  refine (heldRow_any _ _ _ _ _ (by omega) (by omega) (by omega) (At.owned g_25)).mono ?_
  rintro e w26 ⟨rfl, hb26⟩
  have p0_26 := cell_later hb26 p0_25
  have W_26 := cell_later hb26 W_25
  have X0_26 := cell_later hb26 X0_25
  have G_26 := cell_later hb26 G_25
  have H_26 := cell_later hb26 H_25
  have o_26 := owns_below o_25 hb26
  have g_26 := owns_below g_25 hb26
  have hg_26 := owns_below hg_25 hb26
  have B_26 := B_25.trans (hb26.mono B_25.size)
  have zz26 : w25.heap.size ≤ w26.heap.size := by have q := hb26.size; first | exact q | simpa using q
  clear hb26 p0_25 W_25 X0_25 G_25 H_25 o_25 g_25 hg_25 B_25
  go_wp2
  go_ret
  exact ⟨rfl, B_26⟩

end Go.Proofs.Ytagijnfiiifppab
