/- The law FnExactJoinRows returns true at every input, and writes nothing that was there. -/
import Derived.Test.YtagijnfiiifppabJoinT
import Derived.Test.YtagijnfiiifppabMarkSS
import Derived.Test.YtagijnfiiifppabRowH
namespace Go.Proofs.Ytagijnfiiifppab
open Go.RowKit

set_option maxRecDepth 100000 in
set_option maxHeartbeats 16000000 in
theorem lawJoinRows (a0 : Option Addr) (n0 c0 : Nat) (z0 : List Int) (a1 : Option Addr) (n1 c1 : Nat) (z1 : List Int) (a2 : Option Addr) (n2 c2 : Nat) (z2 : List (List Int)) (w : World) (hz0 : z0.length = n0) (hn0 : n0 ≤ 9223372036854775807) (ha0 : At w a0 z0) (hz1 : z1.length = n1) (hn1 : n1 ≤ 9223372036854775807) (ha1 : At w a1 z1) (hz2 : z2.length = n2) (hn2 : n2 ≤ 9223372036854775807) (ha2 : AtS w a2 z2) :
    Calls Try.prog 4 #[.agg #[.slice a0 n0 c0], .agg #[.slice a1 n1 c1], .slice a2 n2 c2] w fun e w' => e = .returned (.bool true) ∧ Below w.heap.size w w' := by
  have B0 : Below w.heap.size w ((w.alloc (.cells #[.slice a0 n0 c0] 24)).alloc (.cells #[.slice a1 n1 c1] 24)) := (((Below.refl _ _).alloc (Nat.le_refl _) _).alloc (by simp) _)
  have p0_0 : ((w.alloc (.cells #[.slice a0 n0 c0] 24)).alloc (.cells #[.slice a1 n1 c1] 24)).cell? ⟨w.heap.size, 0, none⟩ = some (.slice a0 n0 c0) := by simp
  have p1_0 : ((w.alloc (.cells #[.slice a0 n0 c0] 24)).alloc (.cells #[.slice a1 n1 c1] 24)).cell? ⟨w.heap.size + 1, 0, none⟩ = some (.slice a1 n1 c1) := by simp
  by_cases big0 : (1048576 : Int) < n0
  · go_enter Try.func4, Try.ntmps4
    go_wp2_with fail
    refine (szRow_any _ _ _ _ _ hn0 (by omega) (by omega)).mono ?_
    rintro e v0 ⟨rfl, hv0⟩
    rw [if_pos big0]
    have y0 := B0.trans (hv0.mono B0.size)
    go_wp2
    go_ret
    exact ⟨rfl, y0⟩
  have hs0 : n0 ≤ 1048576 := by omega
  have hl0 : ¬ (1048576 : Int) - n0 < 0 := by omega
  by_cases big1 : (1048576 : Int) - n0 < n1
  · go_enter Try.func4, Try.ntmps4
    go_wp2_with fail
    refine (szRow_any _ _ _ _ _ hn0 (by omega) (by omega)).mono ?_
    rintro e v0 ⟨rfl, hv0⟩
    rw [if_neg (by omega)]
    have y0 := B0.trans (hv0.mono B0.size)
    have q0_0 := cell_later hv0 p0_0
    have q1_0 := cell_later hv0 p1_0
    go_wp2_with fail
    refine (szRow_any _ _ _ _ _ hn1 (by omega) (by omega)).mono ?_
    rintro e v1 ⟨rfl, hv1⟩
    rw [if_pos big1]
    have y1 := y0.trans (hv1.mono y0.size)
    go_wp2
    go_ret
    exact ⟨rfl, y1⟩
  have hs1 : n1 ≤ 1048576 := by omega
  have hl1 : ¬ (1048576 : Int) - n0 - n1 < 0 := by omega
  by_cases big2 : (1048576 : Int) - n0 - n1 < (n2 + tot z2 n2)
  · go_enter Try.func4, Try.ntmps4
    go_wp2_with fail
    refine (szRow_any _ _ _ _ _ hn0 (by omega) (by omega)).mono ?_
    rintro e v0 ⟨rfl, hv0⟩
    rw [if_neg (by omega)]
    have y0 := B0.trans (hv0.mono B0.size)
    have q0_0 := cell_later hv0 p0_0
    have q1_0 := cell_later hv0 p1_0
    go_wp2_with fail
    refine (szRow_any _ _ _ _ _ hn1 (by omega) (by omega)).mono ?_
    rintro e v1 ⟨rfl, hv1⟩
    rw [if_neg (by omega)]
    have y1 := y0.trans (hv1.mono y0.size)
    have q0_1 := cell_later hv1 q0_0
    have q1_1 := cell_later hv1 q1_0
    go_wp2_with fail
    refine (szIntSS_at _ _ _ z2 _ _ hz2 hn2 (by omega) (by omega) (ha2.below y1)).mono ?_
    rintro e v2 ⟨rfl, hv2⟩
    rw [leftOf_no big2]
    have y2 := y1.trans (hv2.mono y1.size)
    go_wp2
    go_ret
    exact ⟨rfl, y2⟩
  have hs2 : n2 ≤ 1048576 := by omega
  have hl2 : ¬ (1048576 : Int) - n0 - n1 - (n2 + tot z2 n2) < 0 := by omega
  have ht2 : tot z2 n2 ≤ 1048576 := by omega
  have hss2 : ∀ i, i < z2.length → (z2.getD i []).length ≤ 1048576 := fun i hi => Nat.le_trans (tot_each z2 n2 hz2 i hi) ht2
  have hsm := joinAns_small z0 z1 z2
  go_enter Try.func4, Try.ntmps4
  go_wp2_with fail
  refine (szRow_any _ _ _ _ _ hn0 (by omega) (by omega)).mono ?_
  rintro e w1 ⟨rfl, hb1⟩
  rw [if_neg (by omega)]
  have p0_1 := cell_later hb1 p0_0
  have p1_1 := cell_later hb1 p1_0
  have B_1 := B0.trans (hb1.mono B0.size)
  have zz1 : w.heap.size + 1 + 1 ≤ w1.heap.size := by have q := hb1.size; first | exact q | simpa using q
  clear hb1 p0_0 p1_0
  go_wp2_with fail
  refine (szRow_any _ _ _ _ _ hn1 (by omega) (by omega)).mono ?_
  rintro e w2 ⟨rfl, hb2⟩
  rw [if_neg (by omega)]
  have p0_2 := cell_later hb2 p0_1
  have p1_2 := cell_later hb2 p1_1
  have B_2 := B_1.trans (hb2.mono B_1.size)
  have zz2 : w1.heap.size ≤ w2.heap.size := by have q := hb2.size; first | exact q | simpa using q
  clear hb2 p0_1 p1_1 B_1
  go_wp2_with fail
  refine (szIntSS_at _ _ _ z2 _ _ hz2 hn2 (by omega) (by omega) (ha2.below B_2)).mono ?_
  rintro e w3 ⟨rfl, hb3⟩
  rw [leftOf_yes (by omega)]
  have p0_3 := cell_later hb3 p0_2
  have p1_3 := cell_later hb3 p1_2
  have B_3 := B_2.trans (hb3.mono B_2.size)
  have zz3 : w2.heap.size ≤ w3.heap.size := by have q := hb3.size; first | exact q | simpa using q
  clear hb3 p0_2 p1_2 B_2
  have qa3 : Below w.heap.size w (w3.alloc (.cells #[(.slice none 0 0)] 26)).drew := (B_3.alloc B_3.size _).drew
  have qd3 := B_3.drew
  have zb0_3 : w.heap.size < w3.heap.size := World.block_lt_of_cell? _ _ p0_3
  have zb1_3 : w.heap.size + 1 < w3.heap.size := World.block_lt_of_cell? _ _ p1_3
  go_upto_region 11 with fail
  go_cut [8, 9] (fun ta tb wx => ∃ (Pb : Nat) (r : Option Addr) (m d : Nat), ta = .pointer (some ⟨Pb, 0, none⟩) ∧ tb = .bool (joinOk z0 z1 z2) ∧ wx.cell? ⟨Pb, 0, none⟩ = some (.slice r m d) ∧ (joinAns z0 z1 z2).length = m ∧ wx.ownsRow w3.heap.size 3 1 (.slice r m d) m ((joinAns z0 z1 z2).map (.int .i64)) ∧ w3.heap.size ≤ Pb ∧ Pb < wx.heap.size ∧ Below w3.heap.size w3 wx)
  have ra0_3 : ∀ o, (w3.alloc o).cell? ⟨w.heap.size, 0, none⟩ = some (.slice a0 n0 c0) := fun o => cell_later ((Below.refl _ _).alloc (Nat.le_refl _) o) p0_3
  have ra1_3 : ∀ o, (w3.alloc o).cell? ⟨w.heap.size + 1, 0, none⟩ = some (.slice a1 n1 c1) := fun o => cell_later ((Below.refl _ _).alloc (Nat.le_refl _) o) p1_3
  case first =>
    go_region_held3 (fun w' => w'.cell? ⟨w.heap.size, 0, none⟩ = some (.slice a0 n0 c0) ∧ w'.cell? ⟨w.heap.size + 1, 0, none⟩ = some (.slice a1 n1 c1)) (first | (refine ⟨?_, ?_⟩ <;> assumption) | exact ⟨ra0_3 _, ra1_3 _⟩ | exact ⟨ra0_4 _, ra1_4 _⟩ | exact ⟨ra0_5 _, ra1_5 _⟩ | exact ⟨ra0_6 _, ra1_6 _⟩ | exact ⟨ra0_7 _, ra1_7 _⟩ | (refine ⟨?_, ?_⟩ <;> exact keep_far (by assumption) (by omega)))
      (first
        | (go_at_call_of 7 (Value.slice a0 n0 c0); refine (toRow_any _ _ _ z0 _ hz0 hs0 (by first | exact ha0.below qd3 | exact ha0.below qa3)).mono ?_; rintro e w4 ⟨g4, rfl, ho4, hb4⟩; have y4 : Below w3.heap.size w3 w4 := (by first | exact (Below.refl _ _).drew.trans hb4 | exact ((Below.refl _ _).alloc (Nat.le_refl _) _).drew.trans (hb4.mono (by simp))); have zy4 := y4.size; have r0_4 := cell_later y4 p0_3; have r1_4 := cell_later y4 p1_3; have ra0_4 : (∀ o, (w4.alloc o).cell? ⟨w.heap.size, 0, none⟩ = some (.slice a0 n0 c0)) := (fun o => cell_later ((Below.refl _ _).alloc (Nat.le_refl _) o) r0_4); have ra1_4 : (∀ o, (w4.alloc o).cell? ⟨w.heap.size + 1, 0, none⟩ = some (.slice a1 n1 c1)) := (fun o => cell_later ((Below.refl _ _).alloc (Nat.le_refl _) o) r1_4); (try have v4_0 := cell_later hb4 (newcell w3 (.slice none 0 0) 26)); (try have f4_0 := frozen_later hb4 (newcell w3 (.slice none 0 0) 26) (newfrozen w3 (.slice none 0 0) 26)); have bq4 := B_3.trans (y4.mono B_3.size); have ba4 := bq4.alloc bq4.size (.cells #[(.slice none 0 0)] 26); have F0_4 := At.owned ho4)
        | (go_at_call_of 7 (Value.slice a1 n1 c1); refine (toRow_any _ _ _ z1 _ hz1 hs1 (by first | exact ha1.below bq4 | exact ha1.below ba4)).mono ?_; rintro e w5 ⟨g5, rfl, ho5, hb5⟩; have s5 : Below w4.heap.size w4 w5 := (by first | exact hb5 | exact ((Below.refl _ _).alloc (Nat.le_refl _) _).trans (hb5.mono (by simp))); have y5 := y4.trans (s5.mono y4.size); have zy5 := y5.size; have r0_5 := cell_later y5 p0_3; have r1_5 := cell_later y5 p1_3; have ra0_5 : (∀ o, (w5.alloc o).cell? ⟨w.heap.size, 0, none⟩ = some (.slice a0 n0 c0)) := (fun o => cell_later ((Below.refl _ _).alloc (Nat.le_refl _) o) r0_5); have ra1_5 : (∀ o, (w5.alloc o).cell? ⟨w.heap.size + 1, 0, none⟩ = some (.slice a1 n1 c1)) := (fun o => cell_later ((Below.refl _ _).alloc (Nat.le_refl _) o) r1_5); (try have v5_0 := cell_later hb5 v4_0); (try have f5_0 := frozen_later hb5 v4_0 f4_0); (try have v5_1 := cell_later hb5 (newcell w4 (.slice none 0 0) 26)); (try have f5_1 := frozen_later hb5 (newcell w4 (.slice none 0 0) 26) (newfrozen w4 (.slice none 0 0) 26)); have bq5 := B_3.trans (y5.mono B_3.size); have ba5 := bq5.alloc bq5.size (.cells #[(.slice none 0 0)] 26); have F0_5 := F0_4.below s5; have F1_5 := At.owned ho5)
        | (go_at_call_of 17 (Value.slice a2 n2 c2); refine (toIntSS_at _ _ _ z2 _ hz2 hs2 hss2 (by first | exact ha2.below bq5 | exact ha2.below ba5)).mono ?_; rintro e w6 ⟨g6, rfl, ho6, hb6⟩; have s6 : Below w5.heap.size w5 w6 := (by first | exact hb6 | exact ((Below.refl _ _).alloc (Nat.le_refl _) _).trans (hb6.mono (by simp))); have y6 := y5.trans (s6.mono y5.size); have zy6 := y6.size; have r0_6 := cell_later y6 p0_3; have r1_6 := cell_later y6 p1_3; have ra0_6 : (∀ o, (w6.alloc o).cell? ⟨w.heap.size, 0, none⟩ = some (.slice a0 n0 c0)) := (fun o => cell_later ((Below.refl _ _).alloc (Nat.le_refl _) o) r0_6); have ra1_6 : (∀ o, (w6.alloc o).cell? ⟨w.heap.size + 1, 0, none⟩ = some (.slice a1 n1 c1)) := (fun o => cell_later ((Below.refl _ _).alloc (Nat.le_refl _) o) r1_6); (try have v6_0 := cell_later hb6 v5_0); (try have f6_0 := frozen_later hb6 v5_0 f5_0); (try have v6_1 := cell_later hb6 v5_1); (try have f6_1 := frozen_later hb6 v5_1 f5_1); (try have v6_2 := cell_later hb6 (newcell w5 (.slice none 0 0) 26)); (try have f6_2 := frozen_later hb6 (newcell w5 (.slice none 0 0) 26) (newfrozen w5 (.slice none 0 0) 26)); have bq6 := B_3.trans (y6.mono B_3.size); have ba6 := bq6.alloc bq6.size (.cells #[(.slice none 0 0)] 26); have F0_6 := F0_5.below s6; have F1_6 := F1_5.below s6; have F2_6 := ho6.atS (fun i hi => Nat.le_trans (hss2 i hi) (by decide)))
        | (go_at_call 16; refine (specJoinRows _ _ _ _ _ _ z0 z1 _ _ _ z2 _ hz0 hz1 hz2 hn0 hn1 hn2 (fun h => by cases h) (by first | exact F0_6 | exact F0_6.below ((Below.refl _ _).alloc (Nat.le_refl _) _)) (by first | exact F1_6 | exact F1_6.below ((Below.refl _ _).alloc (Nat.le_refl _) _)) (by first | exact F2_6 | exact F2_6.below ((Below.refl _ _).alloc (Nat.le_refl _) _))).mono ?_; rintro e w7 ⟨r7, m7, d7, rfl, hm7, ho7, hb7⟩; have s7 : Below w6.heap.size w6 w7 := (by first | exact hb7 | exact ((Below.refl _ _).alloc (Nat.le_refl _) _).trans (hb7.mono (by simp))); have y7 := y6.trans (s7.mono y6.size); have zy7 := y7.size; have r0_7 := cell_later y7 p0_3; have r1_7 := cell_later y7 p1_3; have ra0_7 : (∀ o, (w7.alloc o).cell? ⟨w.heap.size, 0, none⟩ = some (.slice a0 n0 c0)) := (fun o => cell_later ((Below.refl _ _).alloc (Nat.le_refl _) o) r0_7); have ra1_7 : (∀ o, (w7.alloc o).cell? ⟨w.heap.size + 1, 0, none⟩ = some (.slice a1 n1 c1)) := (fun o => cell_later ((Below.refl _ _).alloc (Nat.le_refl _) o) r1_7); (try have v7_0 := cell_later hb7 v6_0); (try have f7_0 := frozen_later hb7 v6_0 f6_0); (try have v7_1 := cell_later hb7 v6_1); (try have f7_1 := frozen_later hb7 v6_1 f6_1); (try have v7_2 := cell_later hb7 v6_2); (try have f7_2 := frozen_later hb7 v6_2 f6_2); (try have v7_3 := cell_later hb7 (newcell w6 (.slice none 0 0) 26)); (try have f7_3 := frozen_later hb7 (newcell w6 (.slice none 0 0) 26) (newfrozen w6 (.slice none 0 0) 26))))
    all_goals
      go_wp2_with fail
      go_meet
      case rel =>
        first
          | exact ⟨w7.heap.size, r7, m7, d7, rfl, rfl, newcell w7 _ _, hm7, owns_mono (ho7.alloc _) (by first | omega | (simp; omega)), y7.size, size_lt _ _, y7.alloc y7.size _⟩
          | exact ⟨w3.heap.size, r7, m7, d7, rfl, rfl, cell_set v7_0 _, hm7, owns_mono (ownsRow_setCell_below ho7 (World.block_lt_of_cell? _ _ v6_0) _) (by first | omega | (simp; omega)), (Nat.le_refl _), lt_set v7_0 _, y7.setCell (Nat.le_refl _) _⟩
          | exact ⟨w4.heap.size, r7, m7, d7, rfl, rfl, cell_set v7_1 _, hm7, owns_mono (ownsRow_setCell_below ho7 (World.block_lt_of_cell? _ _ v6_1) _) (by first | omega | (simp; omega)), y4.size, lt_set v7_1 _, y7.setCell y4.size _⟩
          | exact ⟨w5.heap.size, r7, m7, d7, rfl, rfl, cell_set v7_2 _, hm7, owns_mono (ownsRow_setCell_below ho7 (World.block_lt_of_cell? _ _ v6_2) _) (by first | omega | (simp; omega)), y5.size, lt_set v7_2 _, y7.setCell y5.size _⟩
          | exact ⟨w6.heap.size, r7, m7, d7, rfl, rfl, cell_set v7_3 _, hm7, owns_mono (ownsRow_setCell_below ho7 (size_lt w6 _) _) (by first | omega | (simp; omega)), y6.size, lt_set v7_3 _, y7.setCell y6.size _⟩
  case rest =>
    obtain ⟨Pb7, r7, m7, d7, rfl, rfl, wc7, hm7, ho7, pl7, ph7, hb7⟩ := hcut
    obtain ⟨w7, rfl⟩ : ∃ x, x = wc := ⟨_, rfl⟩
    have p0_7 := cell_later hb7 p0_3
    have p1_7 := cell_later hb7 p1_3
    have B_7 := B_3.trans (hb7.mono B_3.size)
    have zz7 : w3.heap.size ≤ w7.heap.size := by have q := hb7.size; first | exact q | simpa using q
    clear hb7 p0_3 p1_3 B_3
    have lt_o : ∀ k, (Value.slice r7 m7 d7).ownBlock = some k → w3.heap.size ≤ k ∧ k < w7.heap.size := fun k hk => by have q := ho7.lt k hk; first | exact q | simpa using q
    have pm7 : w3.heap.size ≤ Pb7 := by first | exact pl7 | simpa using pl7
    go_wp2_with fail
    refine (toRow_any _ _ _ z0 _ hz0 hs0 (ha0.below B_7)).mono ?_
    rintro e w8 ⟨g8, rfl, ho8, hb8⟩
    have p0_8 := cell_later hb8 p0_7
    have p1_8 := cell_later hb8 p1_7
    have W_8 := cell_later hb8 wc7
    have o_8 := owns_below ho7 hb8
    have B_8 := B_7.trans (hb8.mono B_7.size)
    have zz8 : w7.heap.size ≤ w8.heap.size := by have q := hb8.size; first | exact q | simpa using q
    clear hb8 p0_7 p1_7 wc7 ho7 B_7
    have lt_x0 : ∀ k, (Value.slice (some ⟨g8, 0, none⟩) n0 n0).ownBlock = some k → w7.heap.size ≤ k ∧ k < w8.heap.size := fun k hk => by have q := ho8.lt k hk; first | exact q | simpa using q
    have hb9 : Below w8.heap.size w8 (w8.alloc (.cells #[.slice (some ⟨g8, 0, none⟩) n0 n0] 26)) := (Below.refl _ _).alloc (Nat.le_refl _) _
    have p0_9 := cell_later hb9 p0_8
    have p1_9 := cell_later hb9 p1_8
    have W_9 := cell_later hb9 W_8
    have o_9 := owns_below o_8 hb9
    have x0_9 := owns_below ho8 hb9
    have B_9 := B_8.trans (hb9.mono B_8.size)
    have zz9 : w8.heap.size ≤ w8.heap.size + 1 := by simp
    have X0_9 : (w8.alloc (.cells #[.slice (some ⟨g8, 0, none⟩) n0 n0] 26)).cell? ⟨w8.heap.size, 0, none⟩ = some (.slice (some ⟨g8, 0, none⟩) n0 n0) := by simp
    clear hb9 p0_8 p1_8 W_8 o_8 ho8 B_8
    go_wp2_with fail
    refine (toRow_any _ _ _ z1 _ hz1 hs1 (ha1.below B_9)).mono ?_
    rintro e w10 ⟨g10, rfl, ho10, hb10⟩
    have p0_10 := cell_later hb10 p0_9
    have p1_10 := cell_later hb10 p1_9
    have W_10 := cell_later hb10 W_9
    have X0_10 := cell_later hb10 X0_9
    have o_10 := owns_below o_9 hb10
    have x0_10 := owns_below x0_9 hb10
    have B_10 := B_9.trans (hb10.mono B_9.size)
    have zz10 : w8.heap.size + 1 ≤ w10.heap.size := by have q := hb10.size; first | exact q | simpa using q
    clear hb10 p0_9 p1_9 W_9 X0_9 o_9 x0_9 B_9
    have lt_x1 : ∀ k, (Value.slice (some ⟨g10, 0, none⟩) n1 n1).ownBlock = some k → w8.heap.size + 1 ≤ k ∧ k < w10.heap.size := fun k hk => by have q := ho10.lt k hk; first | exact q | simpa using q
    have hb11 : Below w10.heap.size w10 (w10.alloc (.cells #[.slice (some ⟨g10, 0, none⟩) n1 n1] 26)) := (Below.refl _ _).alloc (Nat.le_refl _) _
    have p0_11 := cell_later hb11 p0_10
    have p1_11 := cell_later hb11 p1_10
    have W_11 := cell_later hb11 W_10
    have X0_11 := cell_later hb11 X0_10
    have o_11 := owns_below o_10 hb11
    have x0_11 := owns_below x0_10 hb11
    have x1_11 := owns_below ho10 hb11
    have B_11 := B_10.trans (hb11.mono B_10.size)
    have zz11 : w10.heap.size ≤ w10.heap.size + 1 := by simp
    have X1_11 : (w10.alloc (.cells #[.slice (some ⟨g10, 0, none⟩) n1 n1] 26)).cell? ⟨w10.heap.size, 0, none⟩ = some (.slice (some ⟨g10, 0, none⟩) n1 n1) := by simp
    clear hb11 p0_10 p1_10 W_10 X0_10 o_10 x0_10 ho10 B_10
    go_wp2_with fail
    refine (toIntSS_at _ _ _ z2 _ hz2 hs2 hss2 (ha2.below B_11)).mono ?_
    rintro e w12 ⟨g12, rfl, ho12, hb12⟩
    have p0_12 := cell_later hb12 p0_11
    have p1_12 := cell_later hb12 p1_11
    have W_12 := cell_later hb12 W_11
    have X0_12 := cell_later hb12 X0_11
    have X1_12 := cell_later hb12 X1_11
    have o_12 := owns_below o_11 hb12
    have x0_12 := owns_below x0_11 hb12
    have x1_12 := owns_below x1_11 hb12
    have B_12 := B_11.trans (hb12.mono B_11.size)
    have zz12 : w10.heap.size + 1 ≤ w12.heap.size := by have q := hb12.size; first | exact q | simpa using q
    clear hb12 p0_11 p1_11 W_11 X0_11 X1_11 o_11 x0_11 x1_11 B_11
    have od_x2 : OwnS w12 (w10.heap.size + 1) (w12.heap.size) 22 3 g12 n2 z2 := by first | exact ho12 | simpa using ho12
    go_wp2_with fail
    refine (implJoinRows _ _ _ _ _ _ z0 z1 _ _ _ z2 _ hz0 hz1 hz2 hn0 hn1 hn2 (fun h => by cases h) (At.owned x0_12) (At.owned x1_12) (od_x2.atS (fun i hi => Nat.le_trans (hss2 i hi) (by decide)))).mono ?_
    rintro e w13 ⟨r13, m13, d13, rfl, hm13, ho13, hb13⟩
    have p0_13 := cell_later hb13 p0_12
    have p1_13 := cell_later hb13 p1_12
    have W_13 := cell_later hb13 W_12
    have X0_13 := cell_later hb13 X0_12
    have X1_13 := cell_later hb13 X1_12
    have o_13 := owns_below o_12 hb13
    have x0_13 := owns_below x0_12 hb13
    have x1_13 := owns_below x1_12 hb13
    have x2_13 := od_x2.below hb13
    have B_13 := B_12.trans (hb13.mono B_12.size)
    have zz13 : w12.heap.size ≤ w13.heap.size := by have q := hb13.size; first | exact q | simpa using q
    clear hb13 p0_12 p1_12 W_12 X0_12 X1_12 o_12 x0_12 x1_12 od_x2 B_12
    have lt_g : ∀ k, (Value.slice r13 m13 d13).ownBlock = some k → w12.heap.size ≤ k ∧ k < w13.heap.size := fun k hk => by have q := ho13.lt k hk; first | exact q | simpa using q
    obtain rfl : m13 = m7 := hm13.symm.trans hm7
    have hb14 : Below w13.heap.size w13 (w13.alloc (.cells #[.slice r13 m13 d13] 26)) := (Below.refl _ _).alloc (Nat.le_refl _) _
    have p0_14 := cell_later hb14 p0_13
    have p1_14 := cell_later hb14 p1_13
    have W_14 := cell_later hb14 W_13
    have X0_14 := cell_later hb14 X0_13
    have X1_14 := cell_later hb14 X1_13
    have o_14 := owns_below o_13 hb14
    have x0_14 := owns_below x0_13 hb14
    have x1_14 := owns_below x1_13 hb14
    have x2_14 := x2_13.below hb14
    have g_14 := owns_below ho13 hb14
    have B_14 := B_13.trans (hb14.mono B_13.size)
    have zz14 : w13.heap.size ≤ w13.heap.size + 1 := by simp
    have G_14 : (w13.alloc (.cells #[.slice r13 m13 d13] 26)).cell? ⟨w13.heap.size, 0, none⟩ = some (.slice r13 m13 d13) := by simp
    clear hb14 p0_13 p1_13 W_13 X0_13 X1_13 o_13 x0_13 x1_13 x2_13 ho13 B_13
    go_wp2_with fail
    refine (eqRow_any _ _ _ _ _ _ (joinAns z0 z1 z2) (joinAns z0 z1 z2) _ hm13 hm13 (by omega) (by omega) (At.owned g_14) (At.owned o_14)).mono ?_
    rintro e w15 ⟨rfl, hb15⟩
    rw [decide_eq_true (rfl : joinAns z0 z1 z2 = joinAns z0 z1 z2)]
    have p0_15 := cell_later hb15 p0_14
    have p1_15 := cell_later hb15 p1_14
    have W_15 := cell_later hb15 W_14
    have X0_15 := cell_later hb15 X0_14
    have X1_15 := cell_later hb15 X1_14
    have G_15 := cell_later hb15 G_14
    have o_15 := owns_below o_14 hb15
    have x0_15 := owns_below x0_14 hb15
    have x1_15 := owns_below x1_14 hb15
    have x2_15 := x2_14.below hb15
    have g_15 := owns_below g_14 hb15
    have B_15 := B_14.trans (hb15.mono B_14.size)
    have zz15 : w13.heap.size + 1 ≤ w15.heap.size := by have q := hb15.size; first | exact q | simpa using q
    clear hb15 p0_14 p1_14 W_14 X0_14 X1_14 G_14 o_14 x0_14 x1_14 x2_14 g_14 B_14
    go_wp2_with fail
    go_region_held3 (fun w' => w'.cell? ⟨w.heap.size, 0, none⟩ = some (.slice a0 n0 c0) ∧ w'.cell? ⟨w8.heap.size, 0, none⟩ = some (.slice (some ⟨g8, 0, none⟩) n0 n0)) (refine ⟨?_, ?_⟩ <;> assumption)
      (first
        | (go_at_call 7; refine (toRow_any _ _ _ z0 _ hz0 hs0 (ha0.below B_15.drew)).mono ?_; rintro e w16 ⟨g16, rfl, ho16, hb16⟩; have s16 := cell_later hb16 p0_15; have t16 := cell_later hb16 X0_15)
        | (go_at_call 10; refine (eqRow_any _ _ _ _ _ _ z0 z0 _ hz0 hz0 hs0 hs0 (At.owned (owns_below x0_15.drew hb16)) (At.owned ho16)).mono ?_; rintro e w17 ⟨rfl, hb17⟩; have u17 := cell_later hb17 s16; have v17 := cell_later hb17 t16; rw [decide_eq_true (rfl : z0 = z0)]))
    clear ho16 s16 t16 u17 v17
    have p0_16 := cell_later hb16 p0_15
    have p1_16 := cell_later hb16 p1_15
    have W_16 := cell_later hb16 W_15
    have X0_16 := cell_later hb16 X0_15
    have X1_16 := cell_later hb16 X1_15
    have G_16 := cell_later hb16 G_15
    have o_16 := owns_below o_15.drew hb16
    have x0_16 := owns_below x0_15.drew hb16
    have x1_16 := owns_below x1_15.drew hb16
    have x2_16 := x2_15.drew.below hb16
    have g_16 := owns_below g_15.drew hb16
    have B_16 := B_15.drew.trans (hb16.mono B_15.size)
    have zz16 : w15.heap.size ≤ w16.heap.size := by have q := hb16.size; first | exact q | simpa using q
    clear hb16 p0_15 p1_15 W_15 X0_15 X1_15 G_15 o_15 x0_15 x1_15 x2_15 g_15 B_15
    have p0_17 := cell_later hb17 p0_16
    have p1_17 := cell_later hb17 p1_16
    have W_17 := cell_later hb17 W_16
    have X0_17 := cell_later hb17 X0_16
    have X1_17 := cell_later hb17 X1_16
    have G_17 := cell_later hb17 G_16
    have o_17 := owns_below o_16 hb17
    have x0_17 := owns_below x0_16 hb17
    have x1_17 := owns_below x1_16 hb17
    have x2_17 := x2_16.below hb17
    have g_17 := owns_below g_16 hb17
    have B_17 := B_16.trans (hb17.mono B_16.size)
    have zz17 : w16.heap.size ≤ w17.heap.size := by have q := hb17.size; first | exact q | simpa using q
    clear hb17 p0_16 p1_16 W_16 X0_16 X1_16 G_16 o_16 x0_16 x1_16 x2_16 g_16 B_16
    go_wp2_with fail
    go_region_held3 (fun w' => w'.cell? ⟨w.heap.size + 1, 0, none⟩ = some (.slice a1 n1 c1) ∧ w'.cell? ⟨w10.heap.size, 0, none⟩ = some (.slice (some ⟨g10, 0, none⟩) n1 n1)) (refine ⟨?_, ?_⟩ <;> assumption)
      (first
        | (go_at_call 7; refine (toRow_any _ _ _ z1 _ hz1 hs1 (ha1.below B_17.drew)).mono ?_; rintro e w18 ⟨g18, rfl, ho18, hb18⟩; have s18 := cell_later hb18 p1_17; have t18 := cell_later hb18 X1_17)
        | (go_at_call 10; refine (eqRow_any _ _ _ _ _ _ z1 z1 _ hz1 hz1 hs1 hs1 (At.owned (owns_below x1_17.drew hb18)) (At.owned ho18)).mono ?_; rintro e w19 ⟨rfl, hb19⟩; have u19 := cell_later hb19 s18; have v19 := cell_later hb19 t18; rw [decide_eq_true (rfl : z1 = z1)]))
    clear ho18 s18 t18 u19 v19
    have p0_18 := cell_later hb18 p0_17
    have p1_18 := cell_later hb18 p1_17
    have W_18 := cell_later hb18 W_17
    have X0_18 := cell_later hb18 X0_17
    have X1_18 := cell_later hb18 X1_17
    have G_18 := cell_later hb18 G_17
    have o_18 := owns_below o_17.drew hb18
    have x0_18 := owns_below x0_17.drew hb18
    have x1_18 := owns_below x1_17.drew hb18
    have x2_18 := x2_17.drew.below hb18
    have g_18 := owns_below g_17.drew hb18
    have B_18 := B_17.drew.trans (hb18.mono B_17.size)
    have zz18 : w17.heap.size ≤ w18.heap.size := by have q := hb18.size; first | exact q | simpa using q
    clear hb18 p0_17 p1_17 W_17 X0_17 X1_17 G_17 o_17 x0_17 x1_17 x2_17 g_17 B_17
    have p0_19 := cell_later hb19 p0_18
    have p1_19 := cell_later hb19 p1_18
    have W_19 := cell_later hb19 W_18
    have X0_19 := cell_later hb19 X0_18
    have X1_19 := cell_later hb19 X1_18
    have G_19 := cell_later hb19 G_18
    have o_19 := owns_below o_18 hb19
    have x0_19 := owns_below x0_18 hb19
    have x1_19 := owns_below x1_18 hb19
    have x2_19 := x2_18.below hb19
    have g_19 := owns_below g_18 hb19
    have B_19 := B_18.trans (hb19.mono B_18.size)
    have zz19 : w18.heap.size ≤ w19.heap.size := by have q := hb19.size; first | exact q | simpa using q
    clear hb19 p0_18 p1_18 W_18 X0_18 X1_18 G_18 o_18 x0_18 x1_18 x2_18 g_18 B_18
    go_wp2_with fail
    refine (toIntSS_at _ _ _ z2 _ hz2 hs2 hss2 (ha2.below B_19)).mono ?_
    rintro e w20 ⟨g20, rfl, ho20, hb20⟩
    have p0_20 := cell_later hb20 p0_19
    have p1_20 := cell_later hb20 p1_19
    have W_20 := cell_later hb20 W_19
    have X0_20 := cell_later hb20 X0_19
    have X1_20 := cell_later hb20 X1_19
    have G_20 := cell_later hb20 G_19
    have o_20 := owns_below o_19 hb20
    have x0_20 := owns_below x0_19 hb20
    have x1_20 := owns_below x1_19 hb20
    have x2_20 := x2_19.below hb20
    have g_20 := owns_below g_19 hb20
    have B_20 := B_19.trans (hb20.mono B_19.size)
    have zz20 : w19.heap.size ≤ w20.heap.size := by have q := hb20.size; first | exact q | simpa using q
    clear hb20 p0_19 p1_19 W_19 X0_19 X1_19 G_19 o_19 x0_19 x1_19 x2_19 g_19 B_19
    go_wp2_with fail
    refine (eqIntSS_any _ _ _ _ _ _ z2 z2 _ hz2 hz2 hs2 hs2 hss2 hss2 (x2_20.atS (fun i hi => Nat.le_trans (hss2 i hi) (by decide))) (ho20.atS (fun i hi => Nat.le_trans (hss2 i hi) (by decide)))).mono ?_
    rintro e w21 ⟨rfl, hb21⟩
    rw [decide_eq_true (rfl : z2 = z2)]
    have p0_21 := cell_later hb21 p0_20
    have p1_21 := cell_later hb21 p1_20
    have W_21 := cell_later hb21 W_20
    have X0_21 := cell_later hb21 X0_20
    have X1_21 := cell_later hb21 X1_20
    have G_21 := cell_later hb21 G_20
    have o_21 := owns_below o_20 hb21
    have x0_21 := owns_below x0_20 hb21
    have x1_21 := owns_below x1_20 hb21
    have x2_21 := x2_20.below hb21
    have g_21 := owns_below g_20 hb21
    have y_21 := ho20.below hb21
    have B_21 := B_20.trans (hb21.mono B_20.size)
    have zz21 : w20.heap.size ≤ w21.heap.size := by have q := hb21.size; first | exact q | simpa using q
    clear hb21 p0_20 p1_20 W_20 X0_20 X1_20 G_20 o_20 x0_20 x1_20 x2_20 g_20 ho20 B_20
    clear y_21
    go_wp2_with fail
    refine (markRow_any _ _ _ _ _ _ _ hs0 (by omega) (by omega) x0_21).mono ?_
    rintro e w22 ⟨rfl, ho22, hg22⟩
    have p0_22 := hg22.cell p0_21 (fun e => by have q := lt_x0 (w.heap.size) e.symm; omega)
    have p1_22 := hg22.cell p1_21 (fun e => by have q := lt_x0 (w.heap.size + 1) e.symm; omega)
    have W_22 := hg22.cell W_21 (fun e => by have q := lt_x0 (Pb7) e.symm; omega)
    have X0_22 := hg22.cell X0_21 (fun e => by have q := lt_x0 (w8.heap.size) e.symm; omega)
    have X1_22 := hg22.cell X1_21 (fun e => by have q := lt_x0 (w10.heap.size) e.symm; omega)
    have G_22 := hg22.cell G_21 (fun e => by have q := lt_x0 (w13.heap.size) e.symm; omega)
    have o_22 := o_21.kept hg22 (own_apart lt_o lt_x0 (by omega))
    have x1_22 := x1_21.kept hg22 (own_apart lt_x1 lt_x0 (by omega))
    have x2_22 := x2_21.kept hg22 (fun k hk => by have q := lt_x0 k hk; omega)
    have g_22 := g_21.kept hg22 (own_apart lt_g lt_x0 (by omega))
    have B_22 := B_21.grown hg22 B_21.size (fun k hk => by have q := lt_x0 k hk; omega)
    have zz22 : w21.heap.size ≤ w22.heap.size := by have q := hg22.size; first | exact q | simpa using q
    clear hg22 p0_21 p1_21 W_21 X0_21 X1_21 G_21 o_21 x0_21 x1_21 x2_21 g_21 B_21
    go_wp2_with fail
    refine (markRow_any _ _ _ _ _ _ _ hs1 (by omega) (by omega) x1_22).mono ?_
    rintro e w23 ⟨rfl, ho23, hg23⟩
    have p0_23 := hg23.cell p0_22 (fun e => by have q := lt_x1 (w.heap.size) e.symm; omega)
    have p1_23 := hg23.cell p1_22 (fun e => by have q := lt_x1 (w.heap.size + 1) e.symm; omega)
    have W_23 := hg23.cell W_22 (fun e => by have q := lt_x1 (Pb7) e.symm; omega)
    have X0_23 := hg23.cell X0_22 (fun e => by have q := lt_x1 (w8.heap.size) e.symm; omega)
    have X1_23 := hg23.cell X1_22 (fun e => by have q := lt_x1 (w10.heap.size) e.symm; omega)
    have G_23 := hg23.cell G_22 (fun e => by have q := lt_x1 (w13.heap.size) e.symm; omega)
    have o_23 := o_22.kept hg23 (own_apart lt_o lt_x1 (by omega))
    have x0_23 := ho22.kept hg23 (own_apart lt_x0 lt_x1 (by omega))
    have x2_23 := x2_22.kept hg23 (fun k hk => by have q := lt_x1 k hk; omega)
    have g_23 := g_22.kept hg23 (own_apart lt_g lt_x1 (by omega))
    have B_23 := B_22.grown hg23 B_22.size (fun k hk => by have q := lt_x1 k hk; omega)
    have zz23 : w22.heap.size ≤ w23.heap.size := by have q := hg23.size; first | exact q | simpa using q
    clear hg23 p0_22 p1_22 W_22 X0_22 X1_22 G_22 o_22 ho22 x1_22 x2_22 g_22 B_22
    go_wp2_with fail
    refine (markIntSS_any _ _ _ _ z2 _ _ hs2 hss2 ht2 (by omega) (by omega) x2_23).mono ?_
    rintro e w24 ⟨rfl, hg24⟩
    have p0_24 := hg24.cell p0_23 (show w.heap.size < w10.heap.size + 1 ∨ w12.heap.size ≤ w.heap.size by omega)
    have p1_24 := hg24.cell p1_23 (show w.heap.size + 1 < w10.heap.size + 1 ∨ w12.heap.size ≤ w.heap.size + 1 by omega)
    have W_24 := hg24.cell W_23 (show Pb7 < w10.heap.size + 1 ∨ w12.heap.size ≤ Pb7 by omega)
    have X0_24 := hg24.cell X0_23 (show w8.heap.size < w10.heap.size + 1 ∨ w12.heap.size ≤ w8.heap.size by omega)
    have X1_24 := hg24.cell X1_23 (show w10.heap.size < w10.heap.size + 1 ∨ w12.heap.size ≤ w10.heap.size by omega)
    have G_24 := hg24.cell G_23 (show w13.heap.size < w10.heap.size + 1 ∨ w12.heap.size ≤ w13.heap.size by omega)
    have o_24 := hg24.owns o_23 (fun k hk => by have q := lt_o k hk; omega)
    have x0_24 := hg24.owns x0_23 (fun k hk => by have q := lt_x0 k hk; omega)
    have x1_24 := hg24.owns ho23 (fun k hk => by have q := lt_x1 k hk; omega)
    have g_24 := hg24.owns g_23 (fun k hk => by have q := lt_g k hk; omega)
    have B_24 := B_23.trans (hg24.below B_23.size (by omega))
    have zz24 : w23.heap.size ≤ w24.heap.size := by have q := hg24.size; first | exact q | simpa using q
    clear hg24 p0_23 p1_23 W_23 X0_23 X1_23 G_23 o_23 x0_23 ho23 x2_23 g_23 B_23
    have kpos : ¬ (1 : Int) + n0 + n1 + (tot z2 n2 : Nat) < 0 := by omega
    go_wp2_with fail
    refine (eqRow_any _ _ _ _ _ _ (joinAns z0 z1 z2) (joinAns z0 z1 z2) _ hm13 hm13 (by omega) (by omega) (At.owned g_24) (At.owned o_24)).mono ?_
    rintro e w25 ⟨rfl, hb25⟩
    rw [decide_eq_true (rfl : joinAns z0 z1 z2 = joinAns z0 z1 z2)]
    have p0_25 := cell_later hb25 p0_24
    have p1_25 := cell_later hb25 p1_24
    have W_25 := cell_later hb25 W_24
    have X0_25 := cell_later hb25 X0_24
    have X1_25 := cell_later hb25 X1_24
    have G_25 := cell_later hb25 G_24
    have o_25 := owns_below o_24 hb25
    have x0_25 := owns_below x0_24 hb25
    have x1_25 := owns_below x1_24 hb25
    have g_25 := owns_below g_24 hb25
    have B_25 := B_24.trans (hb25.mono B_24.size)
    have zz25 : w24.heap.size ≤ w25.heap.size := by have q := hb25.size; first | exact q | simpa using q
    clear hb25 p0_24 p1_24 W_24 X0_24 X1_24 G_24 o_24 x0_24 x1_24 g_24 B_24
    clear x0_25
    clear x1_25
    go_wp2_with fail
    refine (markRow_any _ _ _ _ _ _ _ (by omega) (by omega) (by omega) g_25).mono ?_
    rintro e w26 ⟨rfl, ho26, hg26⟩
    have p0_26 := hg26.cell p0_25 (fun e => by have q := lt_g (w.heap.size) e.symm; omega)
    have p1_26 := hg26.cell p1_25 (fun e => by have q := lt_g (w.heap.size + 1) e.symm; omega)
    have W_26 := hg26.cell W_25 (fun e => by have q := lt_g (Pb7) e.symm; omega)
    have X0_26 := hg26.cell X0_25 (fun e => by have q := lt_g (w8.heap.size) e.symm; omega)
    have X1_26 := hg26.cell X1_25 (fun e => by have q := lt_g (w10.heap.size) e.symm; omega)
    have G_26 := hg26.cell G_25 (fun e => by have q := lt_g (w13.heap.size) e.symm; omega)
    have o_26 := o_25.kept hg26 (own_apart lt_o lt_g (by omega))
    have B_26 := B_25.grown hg26 B_25.size (fun k hk => by have q := lt_g k hk; omega)
    have zz26 : w25.heap.size ≤ w26.heap.size := by have q := hg26.size; first | exact q | simpa using q
    clear hg26 p0_25 p1_25 W_25 X0_25 X1_25 G_25 o_25 g_25 B_25
    go_wp2_with fail
    refine (heldRow_any _ _ _ _ _ (by omega) (by omega) (by omega) (At.owned ho26)).mono ?_
    rintro e w27 ⟨rfl, hb27⟩
    have p0_27 := cell_later hb27 p0_26
    have p1_27 := cell_later hb27 p1_26
    have W_27 := cell_later hb27 W_26
    have X0_27 := cell_later hb27 X0_26
    have X1_27 := cell_later hb27 X1_26
    have G_27 := cell_later hb27 G_26
    have o_27 := owns_below o_26 hb27
    have g_27 := owns_below ho26 hb27
    have B_27 := B_26.trans (hb27.mono B_26.size)
    have zz27 : w26.heap.size ≤ w27.heap.size := by have q := hb27.size; first | exact q | simpa using q
    clear hb27 p0_26 p1_26 W_26 X0_26 X1_26 G_26 o_26 ho26 B_26
    have qa27 : Below w.heap.size w (w27.alloc (.cells #[(.slice none 0 0)] 26)).drew := (B_27.alloc B_27.size _).drew
    have qd27 := B_27.drew
    have zb0_27 : w.heap.size < w27.heap.size := World.block_lt_of_cell? _ _ p0_27
    have zb1_27 : w.heap.size + 1 < w27.heap.size := World.block_lt_of_cell? _ _ p1_27
    go_upto_region 38 with fail
    go_cut [18, 19] (fun ta tb wx => ∃ (Pb : Nat) (r : Option Addr) (m d : Nat), ta = .pointer (some ⟨Pb, 0, none⟩) ∧ tb = .bool (joinOk z0 z1 z2) ∧ wx.cell? ⟨Pb, 0, none⟩ = some (.slice r m d) ∧ (joinAns z0 z1 z2).length = m ∧ wx.ownsRow w27.heap.size 3 1 (.slice r m d) m ((joinAns z0 z1 z2).map (.int .i64)) ∧ w27.heap.size ≤ Pb ∧ Pb < wx.heap.size ∧ Below w27.heap.size w27 wx)
    have ra0_27 : ∀ o, (w27.alloc o).cell? ⟨w.heap.size, 0, none⟩ = some (.slice a0 n0 c0) := fun o => cell_later ((Below.refl _ _).alloc (Nat.le_refl _) o) p0_27
    have ra1_27 : ∀ o, (w27.alloc o).cell? ⟨w.heap.size + 1, 0, none⟩ = some (.slice a1 n1 c1) := fun o => cell_later ((Below.refl _ _).alloc (Nat.le_refl _) o) p1_27
    case first =>
      go_region_held3 (fun w' => w'.cell? ⟨w.heap.size, 0, none⟩ = some (.slice a0 n0 c0) ∧ w'.cell? ⟨w.heap.size + 1, 0, none⟩ = some (.slice a1 n1 c1)) (first | (refine ⟨?_, ?_⟩ <;> assumption) | exact ⟨ra0_27 _, ra1_27 _⟩ | exact ⟨ra0_28 _, ra1_28 _⟩ | exact ⟨ra0_29 _, ra1_29 _⟩ | exact ⟨ra0_30 _, ra1_30 _⟩ | exact ⟨ra0_31 _, ra1_31 _⟩ | (refine ⟨?_, ?_⟩ <;> exact keep_far (by assumption) (by omega)))
        (first
          | (go_at_call_of 7 (Value.slice a0 n0 c0); refine (toRow_any _ _ _ z0 _ hz0 hs0 (by first | exact ha0.below qd27 | exact ha0.below qa27)).mono ?_; rintro e w28 ⟨g28, rfl, ho28, hb28⟩; have y28 : Below w27.heap.size w27 w28 := (by first | exact (Below.refl _ _).drew.trans hb28 | exact ((Below.refl _ _).alloc (Nat.le_refl _) _).drew.trans (hb28.mono (by simp))); have zy28 := y28.size; have r0_28 := cell_later y28 p0_27; have r1_28 := cell_later y28 p1_27; have ra0_28 : (∀ o, (w28.alloc o).cell? ⟨w.heap.size, 0, none⟩ = some (.slice a0 n0 c0)) := (fun o => cell_later ((Below.refl _ _).alloc (Nat.le_refl _) o) r0_28); have ra1_28 : (∀ o, (w28.alloc o).cell? ⟨w.heap.size + 1, 0, none⟩ = some (.slice a1 n1 c1)) := (fun o => cell_later ((Below.refl _ _).alloc (Nat.le_refl _) o) r1_28); (try have v28_0 := cell_later hb28 (newcell w27 (.slice none 0 0) 26)); (try have f28_0 := frozen_later hb28 (newcell w27 (.slice none 0 0) 26) (newfrozen w27 (.slice none 0 0) 26)); have bq28 := B_27.trans (y28.mono B_27.size); have ba28 := bq28.alloc bq28.size (.cells #[(.slice none 0 0)] 26); have F0_28 := At.owned ho28)
          | (go_at_call_of 7 (Value.slice a1 n1 c1); refine (toRow_any _ _ _ z1 _ hz1 hs1 (by first | exact ha1.below bq28 | exact ha1.below ba28)).mono ?_; rintro e w29 ⟨g29, rfl, ho29, hb29⟩; have s29 : Below w28.heap.size w28 w29 := (by first | exact hb29 | exact ((Below.refl _ _).alloc (Nat.le_refl _) _).trans (hb29.mono (by simp))); have y29 := y28.trans (s29.mono y28.size); have zy29 := y29.size; have r0_29 := cell_later y29 p0_27; have r1_29 := cell_later y29 p1_27; have ra0_29 : (∀ o, (w29.alloc o).cell? ⟨w.heap.size, 0, none⟩ = some (.slice a0 n0 c0)) := (fun o => cell_later ((Below.refl _ _).alloc (Nat.le_refl _) o) r0_29); have ra1_29 : (∀ o, (w29.alloc o).cell? ⟨w.heap.size + 1, 0, none⟩ = some (.slice a1 n1 c1)) := (fun o => cell_later ((Below.refl _ _).alloc (Nat.le_refl _) o) r1_29); (try have v29_0 := cell_later hb29 v28_0); (try have f29_0 := frozen_later hb29 v28_0 f28_0); (try have v29_1 := cell_later hb29 (newcell w28 (.slice none 0 0) 26)); (try have f29_1 := frozen_later hb29 (newcell w28 (.slice none 0 0) 26) (newfrozen w28 (.slice none 0 0) 26)); have bq29 := B_27.trans (y29.mono B_27.size); have ba29 := bq29.alloc bq29.size (.cells #[(.slice none 0 0)] 26); have F0_29 := F0_28.below s29; have F1_29 := At.owned ho29)
          | (go_at_call_of 17 (Value.slice a2 n2 c2); refine (toIntSS_at _ _ _ z2 _ hz2 hs2 hss2 (by first | exact ha2.below bq29 | exact ha2.below ba29)).mono ?_; rintro e w30 ⟨g30, rfl, ho30, hb30⟩; have s30 : Below w29.heap.size w29 w30 := (by first | exact hb30 | exact ((Below.refl _ _).alloc (Nat.le_refl _) _).trans (hb30.mono (by simp))); have y30 := y29.trans (s30.mono y29.size); have zy30 := y30.size; have r0_30 := cell_later y30 p0_27; have r1_30 := cell_later y30 p1_27; have ra0_30 : (∀ o, (w30.alloc o).cell? ⟨w.heap.size, 0, none⟩ = some (.slice a0 n0 c0)) := (fun o => cell_later ((Below.refl _ _).alloc (Nat.le_refl _) o) r0_30); have ra1_30 : (∀ o, (w30.alloc o).cell? ⟨w.heap.size + 1, 0, none⟩ = some (.slice a1 n1 c1)) := (fun o => cell_later ((Below.refl _ _).alloc (Nat.le_refl _) o) r1_30); (try have v30_0 := cell_later hb30 v29_0); (try have f30_0 := frozen_later hb30 v29_0 f29_0); (try have v30_1 := cell_later hb30 v29_1); (try have f30_1 := frozen_later hb30 v29_1 f29_1); (try have v30_2 := cell_later hb30 (newcell w29 (.slice none 0 0) 26)); (try have f30_2 := frozen_later hb30 (newcell w29 (.slice none 0 0) 26) (newfrozen w29 (.slice none 0 0) 26)); have bq30 := B_27.trans (y30.mono B_27.size); have ba30 := bq30.alloc bq30.size (.cells #[(.slice none 0 0)] 26); have F0_30 := F0_29.below s30; have F1_30 := F1_29.below s30; have F2_30 := ho30.atS (fun i hi => Nat.le_trans (hss2 i hi) (by decide)))
          | (go_at_call 18; refine (implJoinRows _ _ _ _ _ _ z0 z1 _ _ _ z2 _ hz0 hz1 hz2 hn0 hn1 hn2 (fun h => by cases h) (by first | exact F0_30 | exact F0_30.below ((Below.refl _ _).alloc (Nat.le_refl _) _)) (by first | exact F1_30 | exact F1_30.below ((Below.refl _ _).alloc (Nat.le_refl _) _)) (by first | exact F2_30 | exact F2_30.below ((Below.refl _ _).alloc (Nat.le_refl _) _))).mono ?_; rintro e w31 ⟨r31, m31, d31, rfl, hm31, ho31, hb31⟩; have s31 : Below w30.heap.size w30 w31 := (by first | exact hb31 | exact ((Below.refl _ _).alloc (Nat.le_refl _) _).trans (hb31.mono (by simp))); have y31 := y30.trans (s31.mono y30.size); have zy31 := y31.size; have r0_31 := cell_later y31 p0_27; have r1_31 := cell_later y31 p1_27; have ra0_31 : (∀ o, (w31.alloc o).cell? ⟨w.heap.size, 0, none⟩ = some (.slice a0 n0 c0)) := (fun o => cell_later ((Below.refl _ _).alloc (Nat.le_refl _) o) r0_31); have ra1_31 : (∀ o, (w31.alloc o).cell? ⟨w.heap.size + 1, 0, none⟩ = some (.slice a1 n1 c1)) := (fun o => cell_later ((Below.refl _ _).alloc (Nat.le_refl _) o) r1_31); (try have v31_0 := cell_later hb31 v30_0); (try have f31_0 := frozen_later hb31 v30_0 f30_0); (try have v31_1 := cell_later hb31 v30_1); (try have f31_1 := frozen_later hb31 v30_1 f30_1); (try have v31_2 := cell_later hb31 v30_2); (try have f31_2 := frozen_later hb31 v30_2 f30_2); (try have v31_3 := cell_later hb31 (newcell w30 (.slice none 0 0) 26)); (try have f31_3 := frozen_later hb31 (newcell w30 (.slice none 0 0) 26) (newfrozen w30 (.slice none 0 0) 26))))
      all_goals
        go_wp2_with fail
        go_meet
        case rel =>
          first
            | exact ⟨w31.heap.size, r31, m31, d31, rfl, rfl, newcell w31 _ _, hm31, owns_mono (ho31.alloc _) (by first | omega | (simp; omega)), y31.size, size_lt _ _, y31.alloc y31.size _⟩
            | exact ⟨w27.heap.size, r31, m31, d31, rfl, rfl, cell_set v31_0 _, hm31, owns_mono (ownsRow_setCell_below ho31 (World.block_lt_of_cell? _ _ v30_0) _) (by first | omega | (simp; omega)), (Nat.le_refl _), lt_set v31_0 _, y31.setCell (Nat.le_refl _) _⟩
            | exact ⟨w28.heap.size, r31, m31, d31, rfl, rfl, cell_set v31_1 _, hm31, owns_mono (ownsRow_setCell_below ho31 (World.block_lt_of_cell? _ _ v30_1) _) (by first | omega | (simp; omega)), y28.size, lt_set v31_1 _, y31.setCell y28.size _⟩
            | exact ⟨w29.heap.size, r31, m31, d31, rfl, rfl, cell_set v31_2 _, hm31, owns_mono (ownsRow_setCell_below ho31 (World.block_lt_of_cell? _ _ v30_2) _) (by first | omega | (simp; omega)), y29.size, lt_set v31_2 _, y31.setCell y29.size _⟩
            | exact ⟨w30.heap.size, r31, m31, d31, rfl, rfl, cell_set v31_3 _, hm31, owns_mono (ownsRow_setCell_below ho31 (size_lt w30 _) _) (by first | omega | (simp; omega)), y30.size, lt_set v31_3 _, y31.setCell y30.size _⟩
    case rest =>
      obtain ⟨Pb31, r31, m31, d31, rfl, rfl, wc31, hm31, ho31, pl31, ph31, hb31⟩ := hcut
      obtain ⟨w31, rfl⟩ : ∃ x, x = wc := ⟨_, rfl⟩
      have p0_31 := cell_later hb31 p0_27
      have p1_31 := cell_later hb31 p1_27
      have W_31 := cell_later hb31 W_27
      have X0_31 := cell_later hb31 X0_27
      have X1_31 := cell_later hb31 X1_27
      have G_31 := cell_later hb31 G_27
      have o_31 := owns_below o_27 hb31
      have g_31 := owns_below g_27 hb31
      have B_31 := B_27.trans (hb31.mono B_27.size)
      have zz31 : w27.heap.size ≤ w31.heap.size := by have q := hb31.size; first | exact q | simpa using q
      clear hb31 p0_27 p1_27 W_27 X0_27 X1_27 G_27 o_27 g_27 B_27
      have lt_hg : ∀ k, (Value.slice r31 m31 d31).ownBlock = some k → w27.heap.size ≤ k ∧ k < w31.heap.size := fun k hk => by have q := ho31.lt k hk; first | exact q | simpa using q
      have pm31 : w27.heap.size ≤ Pb31 := by first | exact pl31 | simpa using pl31
      obtain rfl : m31 = m13 := hm31.symm.trans hm13
      go_wp2_with fail
      refine (eqRow_any _ _ _ _ _ _ (joinAns z0 z1 z2) (joinAns z0 z1 z2) _ hm31 hm31 (by omega) (by omega) (At.owned ho31) (At.owned o_31)).mono ?_
      rintro e w32 ⟨rfl, hb32⟩
      rw [decide_eq_true (rfl : joinAns z0 z1 z2 = joinAns z0 z1 z2)]
      have p0_32 := cell_later hb32 p0_31
      have p1_32 := cell_later hb32 p1_31
      have W_32 := cell_later hb32 W_31
      have X0_32 := cell_later hb32 X0_31
      have X1_32 := cell_later hb32 X1_31
      have G_32 := cell_later hb32 G_31
      have H_32 := cell_later hb32 wc31
      have o_32 := owns_below o_31 hb32
      have g_32 := owns_below g_31 hb32
      have hg_32 := owns_below ho31 hb32
      have B_32 := B_31.trans (hb32.mono B_31.size)
      have zz32 : w31.heap.size ≤ w32.heap.size := by have q := hb32.size; first | exact q | simpa using q
      clear hb32 p0_31 p1_31 W_31 X0_31 X1_31 G_31 wc31 o_31 g_31 ho31 B_31
      go_wp2_with fail
      refine (heldRow_any _ _ _ _ _ (by omega) (by omega) (by omega) (At.owned g_32)).mono ?_
      rintro e w33 ⟨rfl, hb33⟩
      have p0_33 := cell_later hb33 p0_32
      have p1_33 := cell_later hb33 p1_32
      have W_33 := cell_later hb33 W_32
      have X0_33 := cell_later hb33 X0_32
      have X1_33 := cell_later hb33 X1_32
      have G_33 := cell_later hb33 G_32
      have H_33 := cell_later hb33 H_32
      have o_33 := owns_below o_32 hb33
      have g_33 := owns_below g_32 hb33
      have hg_33 := owns_below hg_32 hb33
      have B_33 := B_32.trans (hb33.mono B_32.size)
      have zz33 : w32.heap.size ≤ w33.heap.size := by have q := hb33.size; first | exact q | simpa using q
      clear hb33 p0_32 p1_32 W_32 X0_32 X1_32 G_32 H_32 o_32 g_32 hg_32 B_32
      go_wp2
      go_ret
      exact ⟨rfl, B_33⟩

end Go.Proofs.Ytagijnfiiifppab
