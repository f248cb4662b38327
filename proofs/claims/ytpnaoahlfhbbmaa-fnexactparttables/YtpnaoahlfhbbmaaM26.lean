/- Several texts of one proof, in build order: LawPartTables, Open, OpenS, OpenT. -/
import Derived.Test.YtpnaoahlfhbbmaaM8
import Derived.Test.YtpnaoahlfhbbmaaM9
import Derived.Test.YtpnaoahlfhbbmaaM25
import Derived.Test.YtpnaoahlfhbbmaaM1
import Derived.ProofKit
import Derived.OpenShut
import Derived.ShutString
import Derived.ChangeOld
import Derived.Lib.SmallJoins
import Derived.Deep.Matrix
import Derived.Test.YtpnaoahlfhbbmaaM2
import Derived.Deep.SlicePairs

/- The law FnExactPartTables returns true at every input, and writes nothing that was there. -/
namespace Go.Proofs.Ytpnaoahlfhbbmaa
open Go.RowKit

set_option maxRecDepth 100000 in
set_option maxHeartbeats 16000000 in
theorem lawPartTables (a0 : Option Addr) (n0 c0 : Nat) (z0 : List WRow) (p0x : Int) (a1 : Option Addr) (n1 c1 : Nat) (z1 : List (List Int)) (w : World) (hz0 : z0.length = n0) (hn0 : n0 ≤ 9223372036854775807) (ha0 : AtW w a0 z0) (hz1 : z1.length = n1) (hn1 : n1 ≤ 9223372036854775807) (ha1 : AtS w a1 z1) :
    Calls Try.prog 4 #[.agg #[.int .i64 p0x, .slice a0 n0 c0], .slice a1 n1 c1] w fun e w' => e = .returned (.bool true) ∧ Below w.heap.size w w' := by
  obtain ⟨W, hW⟩ : ∃ W, W = (w.alloc (.cells #[.int .i64 p0x, .slice a0 n0 c0] 29)) := ⟨_, rfl⟩
  have B0 : Below w.heap.size w W := by rw [hW]; exact ((Below.refl _ _).alloc (Nat.le_refl _) _)
  have zW : W.heap.size = w.heap.size + 1 := by rw [hW]; simp
  have qb0 : W.heap[w.heap.size]? = some (.cells #[.int .i64 p0x, .slice a0 n0 c0] 29 (0, 0)) := by
    rw [hW]
    have q := heap_alloc_new w (.cells #[.int .i64 p0x, .slice a0 n0 c0] 29)
    (try simp only [World.size_alloc] at q)
    exact q
  have p0a_0 : W.cell? ⟨w.heap.size, 0, none⟩ = some (.int .i64 p0x) := by rw [cell_of_row W _ 0 _ _ (0, 0) qb0]; rfl
  have p0b_0 : W.cell? ⟨w.heap.size, 1, none⟩ = some (.slice a0 n0 c0) := by rw [cell_of_row W _ 1 _ _ (0, 0) qb0]; rfl
  clear qb0
  by_cases big0 : (1048576 : Int) < (wtot z0 n0 : Nat)
  · go_enter Try.func4, Try.ntmps4
    go_wp2_with fail
    rw [← hW]
    clear hW
    refine (szTable_any _ _ _ z0 _ _ _ hz0 hn0 (by omega) (by omega) (ha0.below B0)).mono ?_
    rintro e v0 ⟨rfl, hv0⟩
    rw [leftOf_no big0]
    have y0 := B0.trans (hv0.mono B0.size)
    go_wp2
    go_ret
    exact ⟨rfl, y0⟩
  have hl0 : ¬ (1048576 : Int) - (wtot z0 n0 : Nat) < 0 := by omega
  have hs0 : SmT z0 n0 := ⟨hz0, by omega⟩
  by_cases big1 : (1048576 : Int) - (wtot z0 n0 : Nat) < (n1 + tot z1 n1 : Nat)
  · go_enter Try.func4, Try.ntmps4
    go_wp2_with fail
    rw [← hW]
    clear hW
    refine (szTable_any _ _ _ z0 _ _ _ hz0 hn0 (by omega) (by omega) (ha0.below B0)).mono ?_
    rintro e v0 ⟨rfl, hv0⟩
    rw [leftOf_yes (by omega)]
    have y0 := B0.trans (hv0.mono B0.size)
    have qp0a_0 := cell_later hv0 p0a_0
    have qp0b_0 := cell_later hv0 p0b_0
    go_wp2_with fail
    refine (szIntSSG _ _ _ z1 _ _ hz1 hn1 (by omega) (by omega) (ha1.below y0)).mono ?_
    rintro e v1 ⟨rfl, hv1⟩
    rw [leftOf_no big1]
    have y1 := y0.trans (hv1.mono y0.size)
    go_wp2
    go_ret
    exact ⟨rfl, y1⟩
  have hl1 : ¬ (1048576 : Int) - (wtot z0 n0 : Nat) - (n1 + tot z1 n1 : Nat) < 0 := by omega
  have hs1 : SmP z1 n1 := ⟨hz1, by omega⟩
  have hx0 := hs0.n
  have hx1 := hs1.n
  obtain ⟨ok, ta, hsA, HS, HI⟩ : ∃ (ok : Bool) (ta : List Tab), SmU ta ta.length ∧ Hid (∀ (x0 : Option Addr) (y0 lo0 hi0 : Nat) (x1 : Option Addr) (y1 lo1 hi1 : Nat) (w : World), OwnT w lo0 hi0 x0 n0 y0 z0 → OwnP w lo1 hi1 x1 n1 y1 z1 → Calls Try.prog 11 #[.agg #[.int .i64 p0x, .slice x0 n0 y0], .slice x1 n1 y1] w fun e w' => TbsRet e w' w.heap.size ok ta ∧ Below w.heap.size w w') ∧ Hid (∀ (x0 : Option Addr) (y0 lo0 hi0 : Nat) (x1 : Option Addr) (y1 lo1 hi1 : Nat) (w : World), OwnT w lo0 hi0 x0 n0 y0 z0 → OwnP w lo1 hi1 x1 n1 y1 z1 → Calls Try.prog 13 #[.agg #[.int .i64 p0x, .slice x0 n0 y0], .slice x1 n1 y1] w fun e w' => TbsRet e w' w.heap.size ok ta ∧ Below w.heap.size w w') := ⟨ptB p0x z0 z1, ansS (ptB p0x z0 z1) (ptL z0 z1), pt_small p0x z0 z1, fun x0 y0 lo0 hi0 x1 y1 lo1 hi1 w o0 o1 => specPartTables x0 x1 n0 n1 y0 y1 z0 p0x z1 w hs0.1 hs1.1 hs0.n hs1.n (by have := hs1.2; omega) (o0.atM hs0) (o1.at hs1), fun x0 y0 lo0 hi0 x1 y1 lo1 hi1 w o0 o1 => implPartTables x0 x1 n0 n1 y0 y1 z0 p0x z1 w hs0.1 hs1.1 hs0.n hs1.n (by have := hs1.2; omega) (o0.atM hs0) (o1.at hs1)⟩
  obtain ⟨na, hna⟩ : ∃ na, ta.length = na := ⟨_, rfl⟩
  rw [hna] at hsA
  have hxA := hsA.n
  have HNA := Hid.mk hna
  clear hna
  have hwA := hsA.2
  have hkA := hsA.mk'
  go_enter Try.func4, Try.ntmps4
  go_wp2_with fail
  rw [← hW]
  clear hW
  refine (szTable_any _ _ _ z0 _ _ _ hz0 hn0 (by omega) (by omega) (ha0.below B0)).mono ?_
  rintro e w1 ⟨rfl, hb1⟩
  rw [leftOf_yes (by omega)]
  have p0a_1 := cell_later hb1 p0a_0
  have p0b_1 := cell_later hb1 p0b_0
  have B_1 := B0.trans (hb1.mono B0.size)
  have zz1 : W.heap.size ≤ w1.heap.size := by have q := hb1.size; first | exact q | simpa using q
  clear p0a_0 p0b_0
  clear hb1
  go_wp2_with fail
  refine (szIntSSG _ _ _ z1 _ _ hz1 hn1 (by omega) (by omega) (ha1.below B_1)).mono ?_
  rintro e w2 ⟨rfl, hb2⟩
  rw [leftOf_yes (by omega)]
  have p0a_2 := cell_later hb2 p0a_1
  have p0b_2 := cell_later hb2 p0b_1
  have B_2 := B_1.trans (hb2.mono B_1.size)
  have zz2 : w1.heap.size ≤ w2.heap.size := by have q := hb2.size; first | exact q | simpa using q
  clear p0a_1 p0b_1 B_1
  clear hb2
  go_wp2_with fail
  refine (toTableG _ _ _ z0 p0x _ hs0 (ha0.below B_2)).mono ?_
  rintro e w3 ⟨g3, rfl, ho3, hb3⟩
  have p0a_3 := cell_later hb3 p0a_2
  have p0b_3 := cell_later hb3 p0b_2
  have B_3 := B_2.trans (hb3.mono B_2.size)
  have zz3 : w2.heap.size ≤ w3.heap.size := by have q := hb3.size; first | exact q | simpa using q
  clear p0a_2 p0b_2 B_2
  clear hb3
  go_wp2_with fail
  refine (toIntSSG _ _ _ z1 _ hs1 (ha1.below B_3)).mono ?_
  rintro e w4 ⟨g4, rfl, ho4, hb4⟩
  have p0a_4 := cell_later hb4 p0a_3
  have p0b_4 := cell_later hb4 p0b_3
  have t0_4 := ho3.below hb4
  have B_4 := B_3.trans (hb4.mono B_3.size)
  have zz4 : w3.heap.size ≤ w4.heap.size := by have q := hb4.size; first | exact q | simpa using q
  clear p0a_3 p0b_3 ho3 B_3
  clear hb4
  go_wp2_with fail
  refine (HS.out _ _ _ _ _ _ _ _ _ t0_4 ho4).mono ?_
  rintro e w5 ⟨⟨r5, m5, d5, rfl, ho5⟩, hb5⟩
  have p0a_5 := cell_later hb5 p0a_4
  have p0b_5 := cell_later hb5 p0b_4
  have t0_5 := t0_4.below hb5
  have t1_5 := ho4.below hb5
  have B_5 := B_4.trans (hb5.mono B_4.size)
  have zz5 : w4.heap.size ≤ w5.heap.size := by have q := hb5.size; first | exact q | simpa using q
  clear p0a_4 p0b_4 t0_4 ho4 B_4
  clear hb5
  clear t0_5
  clear t1_5
  have ow5 : OwnU w5 (w4.heap.size) w5.heap.size r5 m5 d5 ta := by first | exact ho5 | simpa using ho5
  obtain rfl : na = m5 := HNA.out.symm.trans ow5.len
  clear ho5
  go_wp2_with fail
  refine (toTableG _ _ _ z0 p0x _ hs0 (ha0.below B_5)).mono ?_
  rintro e w6 ⟨g6, rfl, ho6, hb6⟩
  have p0a_6 := cell_later hb6 p0a_5
  have p0b_6 := cell_later hb6 p0b_5
  have o_6 := ow5.below hb6
  have B_6 := B_5.trans (hb6.mono B_5.size)
  have zz6 : w5.heap.size ≤ w6.heap.size := by have q := hb6.size; first | exact q | simpa using q
  clear p0a_5 p0b_5 ow5 B_5
  clear hb6
  have ox6 : OwnT w6 (w5.heap.size) w6.heap.size (some ⟨g6, 0, none⟩) n0 n0 z0 := by first | exact ho6 | simpa using ho6
  clear ho6
  have hb7 : Below w6.heap.size w6 (w6.alloc (.cells #[.int .i64 p0x, .slice (some ⟨g6, 0, none⟩) n0 n0] 36)) := (Below.refl _ _).alloc (Nat.le_refl _) _
  have p0a_7 := cell_later hb7 p0a_6
  have p0b_7 := cell_later hb7 p0b_6
  have o_7 := o_6.below hb7
  have x0_7 := ox6.below hb7
  have B_7 := B_6.trans (hb7.mono B_6.size)
  have zz7 : w6.heap.size ≤ w6.heap.size + 1 := by simp
  clear p0a_6 p0b_6 o_6 ox6 B_6
  have X0a_7 : (w6.alloc (.cells #[.int .i64 p0x, .slice (some ⟨g6, 0, none⟩) n0 n0] 36)).cell? ⟨w6.heap.size, 0, none⟩ = some (.int .i64 p0x) := by simp
  have X0b_7 : (w6.alloc (.cells #[.int .i64 p0x, .slice (some ⟨g6, 0, none⟩) n0 n0] 36)).cell? ⟨w6.heap.size, 1, none⟩ = some (.slice (some ⟨g6, 0, none⟩) n0 n0) := by simp
  clear hb7
  go_wp2_with fail
  refine (toIntSSG _ _ _ z1 _ hs1 (ha1.below B_7)).mono ?_
  rintro e w8 ⟨g8, rfl, ho8, hb8⟩
  have p0a_8 := cell_later hb8 p0a_7
  have p0b_8 := cell_later hb8 p0b_7
  have X0a_8 := cell_later hb8 X0a_7
  have X0b_8 := cell_later hb8 X0b_7
  have o_8 := o_7.below hb8
  have x0_8 := x0_7.below hb8
  have B_8 := B_7.trans (hb8.mono B_7.size)
  have zz8 : w6.heap.size + 1 ≤ w8.heap.size := by have q := hb8.size; first | exact q | simpa using q
  clear p0a_7 p0b_7 X0a_7 X0b_7 o_7 x0_7 B_7
  clear hb8
  have ox8 : OwnP w8 (w6.heap.size + 1) w8.heap.size (some ⟨g8, 0, none⟩) n1 n1 z1 := by first | exact ho8 | simpa using ho8
  clear ho8
  go_wp2_with fail
  refine (HI.out _ _ _ _ _ _ _ _ _ x0_8 ox8).mono ?_
  rintro e w9 ⟨⟨r9, m9, d9, rfl, ho9⟩, hb9⟩
  have p0a_9 := cell_later hb9 p0a_8
  have p0b_9 := cell_later hb9 p0b_8
  have X0a_9 := cell_later hb9 X0a_8
  have X0b_9 := cell_later hb9 X0b_8
  have o_9 := o_8.below hb9
  have x0_9 := x0_8.below hb9
  have x1_9 := ox8.below hb9
  have B_9 := B_8.trans (hb9.mono B_8.size)
  have zz9 : w8.heap.size ≤ w9.heap.size := by have q := hb9.size; first | exact q | simpa using q
  clear p0a_8 p0b_8 X0a_8 X0b_8 o_8 x0_8 ox8 B_8
  clear hb9
  have ow9 : OwnU w9 (w8.heap.size) w9.heap.size r9 m9 d9 ta := by first | exact ho9 | simpa using ho9
  obtain rfl : na = m9 := HNA.out.symm.trans ow9.len
  clear ho9
  go_wp2_with fail
  refine (eqTableS_any _ _ _ _ _ ta _ hsA (ow9.atSW hsA) (o_9.atSW hsA)).mono ?_
  rintro e w10 ⟨rfl, hb10⟩
  have p0a_10 := cell_later hb10 p0a_9
  have p0b_10 := cell_later hb10 p0b_9
  have X0a_10 := cell_later hb10 X0a_9
  have X0b_10 := cell_later hb10 X0b_9
  have o_10 := o_9.below hb10
  have x0_10 := x0_9.below hb10
  have x1_10 := x1_9.below hb10
  have g_10 := ow9.below hb10
  have B_10 := B_9.trans (hb10.mono B_9.size)
  have zz10 : w9.heap.size ≤ w10.heap.size := by have q := hb10.size; first | exact q | simpa using q
  clear p0a_9 p0b_9 X0a_9 X0b_9 o_9 x0_9 x1_9 ow9 B_9
  clear hb10
  go_wp2_with fail
  refine wp_region_held_drew (S := fun w' => w'.cell? ⟨w6.heap.size, 0, none⟩ = some (.int .i64 p0x) ∧ w'.cell? ⟨w6.heap.size, 1, none⟩ = some (.slice (some ⟨g6, 0, none⟩) n0 n0) ∧ w'.cell? ⟨w.heap.size, 0, none⟩ = some (.int .i64 p0x) ∧ w'.cell? ⟨w.heap.size, 1, none⟩ = some (.slice a0 n0 c0)) (by kernel_rfl) ?_ (fun hHeld => ?_)
  · (try dsimp only)
    exact ⟨X0a_10, X0b_10, p0a_10, p0b_10⟩
  refine wpAnyH_take (i := 0) (oi := ?_) (v := ?_) ?_ (by kernel_rfl) (by kernel_rfl) (by kernel_rfl) ?_ (Or.inl ⟨?_, ?_⟩) (by assumption) ?_
  rotate_left 2
  · (simp only [List.getElem?_toArray, List.getElem?_cons_zero]; rfl)
  · exact fun _ _ _ h => h
  · rfl
  · (intro wS hSw; (try dsimp only at hSw); go_simp; (try with_reducible rfl))
  (try simp only [Act.put, List.setIfInBounds_toArray, List.set_cons_zero, List.set_cons_succ])
  refine wpAnyH_take (i := 1) (oi := ?_) (v := ?_) ?_ (by kernel_rfl) (by kernel_rfl) (by kernel_rfl) ?_ (Or.inl ⟨?_, ?_⟩) (by assumption) ?_
  rotate_left 2
  · (simp only [List.getElem?_toArray, List.getElem?_cons_zero, List.getElem?_cons_succ]; rfl)
  · exact fun _ _ _ h => h
  · rfl
  · (intro wS hSw; (try dsimp only at hSw); go_simp; (try with_reducible rfl))
  (try simp only [Act.put, List.setIfInBounds_toArray, List.set_cons_zero, List.set_cons_succ])
  refine wpAnyH_ready (rs := [2]) (by kernel_rfl) (by simp) ?_
  refine AllReadyH.cons (o := ?_) ?_ (fun K hK => ?_) AllReadyH.nil
  rotate_left
  · (simp only [List.getElem?_toArray, List.getElem?_cons_zero, List.getElem?_cons_succ]; rfl)
  go_simp
  go_at_call 12
  refine (toTableG _ _ _ z0 p0x _ hs0 (ha0.below B_10.drew)).mono ?_
  rintro e w11 ⟨g11, rfl, ho11, hd11⟩
  have hb11 : Below w10.heap.size w10 w11 := (Below.refl _ _).drew.trans hd11
  have p0a_11 := cell_later hb11 p0a_10
  have p0b_11 := cell_later hb11 p0b_10
  have X0a_11 := cell_later hb11 X0a_10
  have X0b_11 := cell_later hb11 X0b_10
  have o_11 := o_10.below hb11
  have x0_11 := x0_10.below hb11
  have x1_11 := x1_10.below hb11
  have g_11 := g_10.below hb11
  have B_11 := B_10.trans (hb11.mono B_10.size)
  have zz11 : w10.heap.size ≤ w11.heap.size := by have q := hb11.size; first | exact q | simpa using q
  clear p0a_10 p0b_10 X0a_10 X0b_10 o_10 x0_10 x1_10 g_10 B_10
  (try go_wp2_with fail)
  refine hK.out _ _ ?_ (fun hHeld' => ?_)
  · (try dsimp only)
    exact ⟨X0a_11, X0b_11, p0a_11, p0b_11⟩
  clear hK K hHeld
  have hHeld := hHeld'
  clear hHeld'
  (try simp only [Act.put, List.setIfInBounds_toArray, List.set_cons_zero, List.set_cons_succ])
  clear hb11 hd11
  refine wpAnyH_ready (rs := [3]) (by kernel_rfl) (by simp) ?_
  refine AllReadyH.cons (o := ?_) ?_ (fun K hK => ?_) AllReadyH.nil
  rotate_left
  · (simp only [List.getElem?_toArray, List.getElem?_cons_zero, List.getElem?_cons_succ]; rfl)
  go_simp
  go_at_call 15
  refine (eqTableG _ _ _ _ _ z0 p0x _ hs0 (x0_11.atW hs0) (ho11.atW hs0)).mono ?_
  rintro e w12 ⟨rfl, hb12⟩
  clear ho11
  have p0a_12 := cell_later hb12 p0a_11
  have p0b_12 := cell_later hb12 p0b_11
  have X0a_12 := cell_later hb12 X0a_11
  have X0b_12 := cell_later hb12 X0b_11
  have o_12 := o_11.below hb12
  have x0_12 := x0_11.below hb12
  have x1_12 := x1_11.below hb12
  have g_12 := g_11.below hb12
  have B_12 := B_11.trans (hb12.mono B_11.size)
  have zz12 : w11.heap.size ≤ w12.heap.size := by have q := hb12.size; first | exact q | simpa using q
  clear p0a_11 p0b_11 X0a_11 X0b_11 o_11 x0_11 x1_11 g_11 B_11
  (try go_wp2_with fail)
  refine hK.out _ _ ?_ (fun hHeld' => ?_)
  · (try dsimp only)
    exact ⟨X0a_12, X0b_12, p0a_12, p0b_12⟩
  clear hK K hHeld
  have hHeld := hHeld'
  clear hHeld'
  (try simp only [Act.put, List.setIfInBounds_toArray, List.set_cons_zero, List.set_cons_succ])
  refine wpAnyH_take (i := 4) (oi := ?_) (v := ?_) ?_ (by kernel_rfl) (by kernel_rfl) (by kernel_rfl) ?_ (Or.inl ⟨?_, ?_⟩) (by assumption) ?_
  rotate_left 2
  · (simp only [List.getElem?_toArray, List.getElem?_cons_zero, List.getElem?_cons_succ]; rfl)
  · exact fun _ _ _ h => h
  · rfl
  · (intro wS hSw; (try dsimp only at hSw); go_simp; (try with_reducible rfl))
  (try simp only [Act.put, List.setIfInBounds_toArray, List.set_cons_zero, List.set_cons_succ])
  refine wpAnyH_done (by kernel_rfl) ?_ _
  clear hb12 hHeld
  go_wp2_with fail
  refine (toIntSSG _ _ _ z1 _ hs1 (ha1.below B_12)).mono ?_
  rintro e w13 ⟨g13, rfl, ho13, hb13⟩
  have p0a_13 := cell_later hb13 p0a_12
  have p0b_13 := cell_later hb13 p0b_12
  have X0a_13 := cell_later hb13 X0a_12
  have X0b_13 := cell_later hb13 X0b_12
  have o_13 := o_12.below hb13
  have x0_13 := x0_12.below hb13
  have x1_13 := x1_12.below hb13
  have g_13 := g_12.below hb13
  have B_13 := B_12.trans (hb13.mono B_12.size)
  have zz13 : w12.heap.size ≤ w13.heap.size := by have q := hb13.size; first | exact q | simpa using q
  clear p0a_12 p0b_12 X0a_12 X0b_12 o_12 x0_12 x1_12 g_12 B_12
  clear hb13
  go_wp2_with fail
  refine (eqIntSSG _ _ _ _ _ z1 _ hs1 (x1_13.at hs1) (ho13.at hs1)).mono ?_
  rintro e w14 ⟨rfl, hb14⟩
  have p0a_14 := cell_later hb14 p0a_13
  have p0b_14 := cell_later hb14 p0b_13
  have X0a_14 := cell_later hb14 X0a_13
  have X0b_14 := cell_later hb14 X0b_13
  have o_14 := o_13.below hb14
  have x0_14 := x0_13.below hb14
  have x1_14 := x1_13.below hb14
  have g_14 := g_13.below hb14
  have y_14 := ho13.below hb14
  have B_14 := B_13.trans (hb14.mono B_13.size)
  have zz14 : w13.heap.size ≤ w14.heap.size := by have q := hb14.size; first | exact q | simpa using q
  clear p0a_13 p0b_13 X0a_13 X0b_13 o_13 x0_13 x1_13 g_13 ho13 B_13
  clear hb14
  clear y_14
  go_wp2_with fail
  refine (markTableG _ _ _ _ _ z0 p0x _ _ hs0 (by omega) (by omega) x0_14).mono ?_
  rintro e w15 ⟨rfl, ho15, ha15⟩
  have p0a_15 := ha15.cell p0a_14 (show w.heap.size < w5.heap.size ∨ w6.heap.size ≤ w.heap.size by omega)
  have p0b_15 := ha15.cell p0b_14 (show w.heap.size < w5.heap.size ∨ w6.heap.size ≤ w.heap.size by omega)
  have X0a_15 := ha15.cell X0a_14 (show w6.heap.size < w5.heap.size ∨ w6.heap.size ≤ w6.heap.size by omega)
  have X0b_15 := ha15.cell X0b_14 (show w6.heap.size < w5.heap.size ∨ w6.heap.size ≤ w6.heap.size by omega)
  have o_15 := o_14.apartW ha15 (by omega)
  have x1_15 := x1_14.apartW ha15 (by omega)
  have g_15 := g_14.apartW ha15 (by omega)
  have B_15 := B_14.trans (ha15.below B_14.size (by omega))
  have zz15 : w14.heap.size ≤ w15.heap.size := by have q := ha15.size; first | exact q | simpa using q
  clear ha15 p0a_14 p0b_14 X0a_14 X0b_14 o_14 x0_14 x1_14 g_14 B_14
  go_wp2_with fail
  refine (markIntSSG _ _ _ _ _ z1 _ _ hs1 (by omega) (by omega) x1_15).mono ?_
  rintro e w16 ⟨rfl, ho16, ha16⟩
  have p0a_16 := ha16.cell p0a_15 (show w.heap.size < w6.heap.size + 1 ∨ w8.heap.size ≤ w.heap.size by omega)
  have p0b_16 := ha16.cell p0b_15 (show w.heap.size < w6.heap.size + 1 ∨ w8.heap.size ≤ w.heap.size by omega)
  have X0a_16 := ha16.cell X0a_15 (show w6.heap.size < w6.heap.size + 1 ∨ w8.heap.size ≤ w6.heap.size by omega)
  have X0b_16 := ha16.cell X0b_15 (show w6.heap.size < w6.heap.size + 1 ∨ w8.heap.size ≤ w6.heap.size by omega)
  have o_16 := o_15.apartW ha16 (by omega)
  have x0_16 := ho15.apartW ha16 (by omega)
  have g_16 := g_15.apartW ha16 (by omega)
  have B_16 := B_15.trans (ha16.below B_15.size (by omega))
  have zz16 : w15.heap.size ≤ w16.heap.size := by have q := ha16.size; first | exact q | simpa using q
  clear ha16 p0a_15 p0b_15 X0a_15 X0b_15 o_15 ho15 x1_15 g_15 B_15
  have kpos : ¬ (1 : Int) + (wtot z0 n0 : Nat) + (tot z1 n1 : Nat) < 0 := by omega
  go_wp2_with fail
  refine (eqTableS_any _ _ _ _ _ ta _ hsA (g_16.atSW hsA) (o_16.atSW hsA)).mono ?_
  rintro e w17 ⟨rfl, hb17⟩
  have p0a_17 := cell_later hb17 p0a_16
  have p0b_17 := cell_later hb17 p0b_16
  have X0a_17 := cell_later hb17 X0a_16
  have X0b_17 := cell_later hb17 X0b_16
  have o_17 := o_16.below hb17
  have x0_17 := x0_16.below hb17
  have x1_17 := ho16.below hb17
  have g_17 := g_16.below hb17
  have B_17 := B_16.trans (hb17.mono B_16.size)
  have zz17 : w16.heap.size ≤ w17.heap.size := by have q := hb17.size; first | exact q | simpa using q
  clear p0a_16 p0b_16 X0a_16 X0b_16 o_16 x0_16 ho16 g_16 B_16
  clear hb17
  clear x0_17
  clear x1_17
  go_wp2_with fail
  refine (markTableS_any _ _ _ _ _ ta _ _ hsA (by omega) (by omega) g_17).mono ?_
  rintro e w18 ⟨rfl, ho18, ha18⟩
  have p0a_18 := ha18.cell p0a_17 (show w.heap.size < w8.heap.size ∨ w9.heap.size ≤ w.heap.size by omega)
  have p0b_18 := ha18.cell p0b_17 (show w.heap.size < w8.heap.size ∨ w9.heap.size ≤ w.heap.size by omega)
  have X0a_18 := ha18.cell X0a_17 (show w6.heap.size < w8.heap.size ∨ w9.heap.size ≤ w6.heap.size by omega)
  have X0b_18 := ha18.cell X0b_17 (show w6.heap.size < w8.heap.size ∨ w9.heap.size ≤ w6.heap.size by omega)
  have o_18 := o_17.apartW ha18 (by omega)
  have B_18 := B_17.trans (ha18.below B_17.size (by omega))
  have zz18 : w17.heap.size ≤ w18.heap.size := by have q := ha18.size; first | exact q | simpa using q
  clear ha18 p0a_17 p0b_17 X0a_17 X0b_17 o_17 g_17 B_17
  have gpos : ¬ (1 : Int) + (stot ta na : Nat) < 0 := by omega
  go_wp2_with fail
  refine (heldTableS_any _ _ _ ta _ _ hsA (by omega) (by omega) (ho18.atMark hsA)).mono ?_
  rintro e w19 ⟨rfl, hb19⟩
  have p0a_19 := cell_later hb19 p0a_18
  have p0b_19 := cell_later hb19 p0b_18
  have X0a_19 := cell_later hb19 X0a_18
  have X0b_19 := cell_later hb19 X0b_18
  have o_19 := o_18.below hb19
  have g_19 := ho18.below hb19
  have B_19 := B_18.trans (hb19.mono B_18.size)
  have zz19 : w18.heap.size ≤ w19.heap.size := by have q := hb19.size; first | exact q | simpa using q
  clear p0a_18 p0b_18 X0a_18 X0b_18 o_18 ho18 B_18
  clear hb19
  go_wp2_with fail
  refine (toTableG _ _ _ z0 p0x _ hs0 (ha0.below B_19)).mono ?_
  rintro e w20 ⟨g20, rfl, ho20, hb20⟩
  have p0a_20 := cell_later hb20 p0a_19
  have p0b_20 := cell_later hb20 p0b_19
  have X0a_20 := cell_later hb20 X0a_19
  have X0b_20 := cell_later hb20 X0b_19
  have o_20 := o_19.below hb20
  have g_20 := g_19.below hb20
  have B_20 := B_19.trans (hb20.mono B_19.size)
  have zz20 : w19.heap.size ≤ w20.heap.size := by have q := hb20.size; first | exact q | simpa using q
  clear p0a_19 p0b_19 X0a_19 X0b_19 o_19 g_19 B_19
  clear hb20
  go_wp2_with fail
  refine (toIntSSG _ _ _ z1 _ hs1 (ha1.below B_20)).mono ?_
  rintro e w21 ⟨g21, rfl, ho21, hb21⟩
  have p0a_21 := cell_later hb21 p0a_20
  have p0b_21 := cell_later hb21 p0b_20
  have X0a_21 := cell_later hb21 X0a_20
  have X0b_21 := cell_later hb21 X0b_20
  have o_21 := o_20.below hb21
  have g_21 := g_20.below hb21
  have h0_21 := ho20.below hb21
  have B_21 := B_20.trans (hb21.mono B_20.size)
  have zz21 : w20.heap.size ≤ w21.heap.size := by have q := hb21.size; first | exact q | simpa using q
  clear p0a_20 p0b_20 X0a_20 X0b_20 o_20 g_20 ho20 B_20
  clear hb21
  go_wp2_with fail
  refine (HI.out _ _ _ _ _ _ _ _ _ h0_21 ho21).mono ?_
  rintro e w22 ⟨⟨r22, m22, d22, rfl, ho22⟩, hb22⟩
  have p0a_22 := cell_later hb22 p0a_21
  have p0b_22 := cell_later hb22 p0b_21
  have X0a_22 := cell_later hb22 X0a_21
  have X0b_22 := cell_later hb22 X0b_21
  have o_22 := o_21.below hb22
  have g_22 := g_21.below hb22
  have h0_22 := h0_21.below hb22
  have h1_22 := ho21.below hb22
  have B_22 := B_21.trans (hb22.mono B_21.size)
  have zz22 : w21.heap.size ≤ w22.heap.size := by have q := hb22.size; first | exact q | simpa using q
  clear p0a_21 p0b_21 X0a_21 X0b_21 o_21 g_21 h0_21 ho21 B_21
  clear hb22
  clear h0_22
  clear h1_22
  have ow22 : OwnU w22 (w21.heap.size) w22.heap.size r22 m22 d22 ta := by first | exact ho22 | simpa using ho22
  obtain rfl : na = m22 := HNA.out.symm.trans ow22.len
  clear ho22
  go_wp2_with fail
  refine (eqTableS_any _ _ _ _ _ ta _ hsA (ow22.atSW hsA) (o_22.atSW hsA)).mono ?_
  rintro e w23 ⟨rfl, hb23⟩
  have p0a_23 := cell_later hb23 p0a_22
  have p0b_23 := cell_later hb23 p0b_22
  have X0a_23 := cell_later hb23 X0a_22
  have X0b_23 := cell_later hb23 X0b_22
  have o_23 := o_22.below hb23
  have g_23 := g_22.below hb23
  have hg_23 := ow22.below hb23
  have B_23 := B_22.trans (hb23.mono B_22.size)
  have zz23 : w22.heap.size ≤ w23.heap.size := by have q := hb23.size; first | exact q | simpa using q
  clear p0a_22 p0b_22 X0a_22 X0b_22 o_22 g_22 ow22 B_22
  clear hb23
  go_wp2_with fail
  refine (heldTableS_any _ _ _ ta _ _ hsA (by omega) (by omega) (g_23.atMark hsA)).mono ?_
  rintro e w24 ⟨rfl, hb24⟩
  have p0a_24 := cell_later hb24 p0a_23
  have p0b_24 := cell_later hb24 p0b_23
  have X0a_24 := cell_later hb24 X0a_23
  have X0b_24 := cell_later hb24 X0b_23
  have o_24 := o_23.below hb24
  have g_24 := g_23.below hb24
  have hg_24 := hg_23.below hb24
  have B_24 := B_23.trans (hb24.mono B_23.size)
  have zz24 : w23.heap.size ≤ w24.heap.size := by have q := hb24.size; first | exact q | simpa using q
  clear p0a_23 p0b_23 X0a_23 X0b_23 o_23 g_23 hg_23 B_23
  clear hb24
  go_wp2
  go_ret
  exact ⟨rfl, B_24⟩

end Go.Proofs.Ytpnaoahlfhbbmaa

/- Opening the laws' arguments: rows, slices of ints; plain facts on readings. -/
namespace Go.Proofs.Ytpnaoahlfhbbmaa
open Go.ChangeShapes Go.WideShapes Go.ChangeAt Go.RowKit Go.Joins Go.Deep

section
variable {H : Type} {enc : TypeId × Value → H} {P : Program} {w : World} {base : Nat} {spare : Nat → Bool} {held : Bool}

theorem array1 {α : Type} {cs : Array α} (h : cs.size = 1) : ∃ c0, cs = #[c0] := by
  obtain ⟨l⟩ := cs
  match l, h with
  | [c0], _ => exact ⟨c0, rfl⟩

theorem open_agg1 {r : Reach} {b0 : Nat} {t : TypeId} {f0 : Field} {v : Value} {d : DataW H} {p : List MemPlace} (hs : P.underlying t = some (.struct #[f0])) (hone : oneCellFields P #[f0] = true) (hC : P.cellsOf t = 1)
    (hv : Value.okWide P w r b0 t v) (h : DataW.Trod enc P w base spare held t v d p) :
    ∃ (v0 : Value) (y0 : DataW H × List MemPlace) (n : Nat), v = .agg #[v0] ∧ d = .agg [y0.1] ∧ p = y0.2 ∧ DataW.trod enc P w base spare held n f0.type [v0] = some y0 := by
  obtain ⟨cs, rfl, hsz⟩ := okWide_struct hs hv
  obtain ⟨c0, rfl⟩ := array1 (hsz.trans hC)
  obtain ⟨fuel, hf⟩ := h
  obtain ⟨y0, n, hx, _, h0⟩ := trod_struct1 hs hf
  obtain ⟨o0, k0⟩ := hone_of hone 0 f0 rfl
  simp only [Prod.mk.injEq] at hx
  exact ⟨c0, y0, n, rfl, hx.1, hx.2, by simpa [Value.cells, o0, k0] using h0⟩

/-- A slice of ints that reads: its numbers. -/
theorem open_at {t e : TypeId} {fuel n c : Nat} {a : Option Addr} {x : DataW H × List MemPlace} (ht : P.underlying t = some (.slice e)) (he : P.underlying e = some (.int .i64)) (hC : P.cellsOf e = 1)
    (h : DataW.trod enc P w base spare held fuel t [.slice a n c] = some x) : ∃ zs : List Int, zs.length = n ∧ n ≤ 9223372036854775807 ∧ At w a zs := by
  rcases open_ints ht he hC h with ⟨hcs, _⟩ | ⟨ad, l, c', zs, hcs, _, hl, hm, hz, _, hcell, _⟩
  · simp at hcs
    obtain ⟨rfl, rfl, rfl⟩ := hcs
    exact ⟨[], rfl, by omega, At.nil _ _⟩
  · simp at hcs
    obtain ⟨rfl, rfl, rfl⟩ := hcs
    unfold maxLen at hm
    have hz' : n ≤ zs.length := by split at hz <;> omega
    refine ⟨zs.take n, by simp; omega, by omega, ?_⟩
    by_cases h0 : n = 0
    · left; simp [h0]
    · right
      obtain ⟨b, off, spot⟩ := ad
      have hc := hcell 0 (by omega)
      have hspot : spot = none := by simpa [Addr.add] using World.cell?_spot hc
      subst hspot
      refine ⟨b, off, rfl, fun i hi => ?_⟩
      have hin : i < n := by simp at hi; omega
      have := hcell i (by omega)
      rw [show (zs.take n).getD i 0 = zs.getD i 0 by simp [List.getD, hin]]
      rw [Addr.add_lit] at this
      exact this

/-- A struct of one slice of ints, by value. -/
theorem open_row {r : Reach} {b0 : Nat} {t ts e : TypeId} {f0 : Field} {v : Value} {d : DataW H} {p : List MemPlace} (hs : P.underlying t = some (.struct #[f0])) (hf0 : f0.type = ts) (hone : oneCellFields P #[f0] = true) (hC : P.cellsOf t = 1)
    (ht : P.underlying ts = some (.slice e)) (he : P.underlying e = some (.int .i64)) (hCe : P.cellsOf e = 1)
    (hv : Value.okWide P w r b0 t v) (h : DataW.Trod enc P w base spare held t v d p) : ∃ a n c, v = .agg #[.slice a n c] ∧ ∃ zs : List Int, zs.length = n ∧ n ≤ 9223372036854775807 ∧ At w a zs := by
  obtain ⟨v0, y0, m, rfl, _, _, h0⟩ := open_agg1 hs hone hC hv h
  subst hf0
  obtain ⟨a, n, c, hcs⟩ := slice_form ht h0
  obtain rfl : v0 = .slice a n c := by simpa using hcs
  exact ⟨a, n, c, rfl, open_at ht he hCe h0⟩
end

end Go.Proofs.Ytpnaoahlfhbbmaa

/- Opening a slice of slices of ints among the laws' arguments. -/
namespace Go.Proofs.Ytpnaoahlfhbbmaa
open Go.ChangeShapes Go.WideShapes Go.ChangeAt Go.RowKit Go.Joins Go.Deep

theorem at_of_row {w : World} {A : Option Addr} {L C : Nat} {Z : List Int} (h1 : L ≤ C) (h2 : Z.length = C) (h3 : A = none → C = 0) (h4 : ∀ a', A = some a' → ∀ c, c < C → w.cell? (a'.add c) = some (.int .i64 (Z.getD c 0))) : At w A (Z.take L) := by
  by_cases h0 : L = 0
  · left; simp [h0]
  · right
    cases A with
    | none => have := h3 rfl; omega
    | some a' =>
      have hc := h4 a' rfl
      obtain ⟨b, off, spot⟩ := a'
      have hc0 := hc 0 (by omega)
      have hspot : spot = none := by simpa [Addr.add] using World.cell?_spot hc0
      subst hspot
      refine ⟨b, off, rfl, fun i hi => ?_⟩
      have hin : i < L := by simp at hi; omega
      have := hc i (by omega)
      rw [show (Z.take L).getD i 0 = Z.getD i 0 by simp [List.getD, hin]]
      rw [Addr.add_lit] at this
      exact this

theorem open_atS {H : Type} {enc : TypeId × Value → H} {P : Program} {w : World} {base : Nat} {held : Bool} {t e q : TypeId} {fuel n c : Nat} {a : Option Addr} {x : DataW H × List MemPlace} (ht : P.underlying t = some (.slice e)) (he : P.underlying e = some (.slice q)) (hq : P.underlying q = some (.int .i64))
    (ce : P.cellsOf e = 1) (cq : P.cellsOf q = 1) (h : DataW.trod enc P w base (fun _ => true) held fuel t [.slice a n c] = some x) : ∃ zss : List (List Int), zss.length = n ∧ n ≤ 9223372036854775807 ∧ AtS w a zss := by
  rcases open_int_rows ht he hq ce cq h with ⟨hcs, _⟩ | ⟨ad, len, cap, A, L, C, Z, hcs, _, hl, hm, _, hrow⟩
  · simp at hcs
    obtain ⟨rfl, rfl, rfl⟩ := hcs
    exact ⟨[], rfl, by omega, .inl rfl⟩
  · simp at hcs
    obtain ⟨rfl, rfl, rfl⟩ := hcs
    unfold maxLen at hm
    refine ⟨(List.range n).map fun r => (Z r).take (L r), by simp, by omega, ?_⟩
    by_cases h0 : n = 0
    · left; simp [h0]
    · right
      obtain ⟨b, off, spot⟩ := ad
      have hc0 := (hrow 0 (by omega)).1
      have hspot : spot = none := by simpa [Addr.add] using World.cell?_spot hc0
      subst hspot
      refine ⟨b, off, rfl, fun i hi => ?_⟩
      have hin : i < n := by simpa using hi
      obtain ⟨k1, k2, k3, k4, _, k5, k6⟩ := hrow i (by omega)
      unfold maxLen at k3
      rw [show ((List.range n).map fun r => (Z r).take (L r)).getD i [] = (Z i).take (L i) by simp [List.getD, hin]]
      have hlen : ((Z i).take (L i)).length = L i := by simp; omega
      rw [hlen]
      rw [Addr.add_lit] at k1
      exact ⟨A i, C i, k1, by omega, at_of_row k2 k4 k5 (fun a' ha' => (k6 a' ha').2)⟩

end Go.Proofs.Ytpnaoahlfhbbmaa

/- Opening tables and slices of weighted rows among the laws' arguments. -/
namespace Go.Proofs.Ytpnaoahlfhbbmaa
open Go.ChangeShapes Go.WideShapes Go.ChangeAt Go.RowKit Go.Joins Go.Deep

section
variable {H : Type} {enc : TypeId × Value → H} {P : Program} {w : World} {base : Nat} {held : Bool}

theorem open_atW {t e q : TypeId} {f0 f1 g0 : Field} {fuel n c : Nat} {a : Option Addr} {x : DataW H × List MemPlace} (ht : P.underlying t = some (.slice e)) (he : P.underlying e = some (.struct #[f0, f1]))
    (ce : P.cellsOf e = 2) (o0 : f0.offset = 0) (o1 : f1.offset = 1) (c0 : P.cellsOf f0.type = 1) (c1 : P.cellsOf f1.type = 1) (hr : P.underlying f0.type = some (.struct #[g0])) (og : g0.offset = 0) (cg : P.cellsOf g0.type = 1)
    (hs : P.underlying g0.type = some (.slice q)) (hq : P.underlying q = some (.int .i64)) (cq : P.cellsOf q = 1) (hi : P.underlying f1.type = some (.int .i64))
    (h : DataW.trod enc P w base (fun _ => true) held fuel t [.slice a n c] = some x) : ∃ ts : List WRow, ts.length = n ∧ n ≤ 9223372036854775807 ∧ AtW w a ts := by
  rcases open_slice_pairs ht he ce o0 o1 c0 c1 h with ⟨hcs, _⟩ | ⟨ad, len, cap, m, k, V0, V1, D0, D1, P0, P1, hcs, _, hl, hm, hmm, _, hx⟩
  · simp at hcs
    obtain ⟨rfl, rfl, rfl⟩ := hcs
    exact ⟨[], rfl, by omega, .inl rfl⟩
  · simp at hcs
    obtain ⟨rfl, rfl, rfl⟩ := hcs
    simp only [if_true] at hmm
    subst hmm
    unfold maxLen at hm
    have each : ∀ i, i < n → ∃ y : Option Addr × Nat × List Int × Int, V0 i = .slice y.1 y.2.2.1.length y.2.1 ∧ V1 i = .int .i64 y.2.2.2 ∧ y.2.2.1.length ≤ 9223372036854775807 ∧ At w y.1 y.2.2.1 := by
      intro i hi'
      obtain ⟨_, _, r0, r1⟩ := hx i (by omega)
      obtain ⟨z, hz1, _, _⟩ := DataW.trod_int hi r1
      obtain ⟨y0, k', _, _, s0⟩ := trod_struct1 hr r0
      rw [og, cg] at s0
      simp only [List.drop_zero, List.take_succ_cons, List.take_zero] at s0
      obtain ⟨a', n', c', hc'⟩ := slice_form hs s0
      simp only [List.cons.injEq, and_true] at hc'
      rw [hc'] at s0
      obtain ⟨zs, hzl, hzn, hat⟩ := open_at hs hq cq s0
      exact ⟨(a', c', zs, z), by rw [hc', hzl], by simpa using hz1, by rw [hzl]; exact hzn, hat⟩
    obtain ⟨y, hy⟩ := choose_lt each
    refine ⟨(List.range n).map fun i => ((y i).2.2.1, (y i).2.2.2), by simp, by omega, ?_⟩
    by_cases h0 : n = 0
    · left; simp [h0]
    · right
      obtain ⟨b, off, spot⟩ := ad
      have hc0 := (hx 0 (by omega)).1
      have hspot : spot = none := by simpa [Addr.add] using World.cell?_spot hc0
      subst hspot
      refine ⟨b, off, rfl, fun i hi' => ?_⟩
      have hin : i < n := by simpa using hi'
      obtain ⟨k1, k2, _, _⟩ := hx i (by omega)
      obtain ⟨e1, e2, e3, e4⟩ := hy i hin
      have hw : wat ((List.range n).map fun i => ((y i).2.2.1, (y i).2.2.2)) i = ((y i).2.2.1, (y i).2.2.2) := by simp [wat, List.getD, hin]
      rw [hw]
      rw [Addr.add_lit] at k1 k2
      rw [e1] at k1
      rw [e2] at k2
      exact ⟨(y i).1, (y i).2.1, k1, k2, e3, e4⟩

/-- A struct of a number and a slice of weighted rows, by value. -/
theorem open_table {r : Reach} {b0 : Nat} {t e q : TypeId} {h0 h1 f0 f1 g0 : Field} {v : Value} {d : DataW H} {p : List MemPlace} (hst : P.underlying t = some (.struct #[h0, h1])) (hone : oneCellFields P #[h0, h1] = true) (hC : P.cellsOf t = 2)
    (hc : P.underlying h0.type = some (.int .i64)) (ht : P.underlying h1.type = some (.slice e)) (he : P.underlying e = some (.struct #[f0, f1]))
    (ce : P.cellsOf e = 2) (o0 : f0.offset = 0) (o1 : f1.offset = 1) (c0 : P.cellsOf f0.type = 1) (c1 : P.cellsOf f1.type = 1) (hr : P.underlying f0.type = some (.struct #[g0])) (og : g0.offset = 0) (cg : P.cellsOf g0.type = 1)
    (hs : P.underlying g0.type = some (.slice q)) (hq : P.underlying q = some (.int .i64)) (cq : P.cellsOf q = 1) (hi : P.underlying f1.type = some (.int .i64))
    (hv : Value.okWide P w r b0 t v) (h : DataW.Trod enc P w base (fun _ => true) held t v d p) : ∃ (x : Int) (a : Option Addr) (n c : Nat), v = .agg #[.int .i64 x, .slice a n c] ∧ ∃ ts : List WRow, ts.length = n ∧ n ≤ 9223372036854775807 ∧ AtW w a ts := by
  obtain ⟨v0, v1, y0, y1, m, rfl, _, _, k0, k1⟩ := open_agg2 hst hone hC hv h
  obtain ⟨x, hx, _, _⟩ := DataW.trod_int hc k0
  obtain ⟨a, n, c, hcs⟩ := slice_form ht k1
  obtain rfl : v1 = .slice a n c := by simpa using hcs
  obtain rfl : v0 = .int .i64 x := by simpa using hx
  exact ⟨x, a, n, c, rfl, open_atW ht he ce o0 o1 c0 c1 hr og cg hs hq cq hi k1⟩
end

end Go.Proofs.Ytpnaoahlfhbbmaa
