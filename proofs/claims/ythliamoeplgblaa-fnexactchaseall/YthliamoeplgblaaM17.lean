/- Several texts of one proof, in build order: LawChaseAll, Open. -/
import Derived.Test.YthliamoeplgblaaM15
import Derived.Test.YthliamoeplgblaaM16
import Derived.Test.YthliamoeplgblaaM7
import Derived.Test.YthliamoeplgblaaM0
import Derived.ProofKit
import Derived.OpenShut
import Derived.ShutString
import Derived.ChangeOld
import Derived.Lib.SmallJoins

/- The law FnExactChaseAll returns true at every input, and writes nothing that was there. -/
namespace Go.Proofs.Ythliamoeplgblaa
open Go.RowKit

set_option maxRecDepth 100000 in
set_option maxHeartbeats 16000000 in
theorem lawChaseAll (p0 : Int) (a0 : Option Addr) (n0 c0 : Nat) (z0 : List (List Int)) (a1 : Option Addr) (n1 c1 : Nat) (z1 : List Dep) (w : World) (hz0 : z0.length = n0) (hn0 : n0 ≤ 9223372036854775807) (ha0 : AtS w a0 z0) (hz1 : z1.length = n1) (hn1 : n1 ≤ 9223372036854775807) (ha1 : AtD w a1 z1) :
    Calls Try.prog 4 #[.agg #[.int .i64 p0, .slice a0 n0 c0], .slice a1 n1 c1] w fun e w' => e = .returned (.bool true) ∧ Below w.heap.size w w' := by
  have HA0 := Hid.mk ha0
  have HZ0 := Hid.mk hz0
  clear ha0 hz0
  have HA1 := Hid.mk ha1
  have HZ1 := Hid.mk hz1
  clear ha1 hz1
  obtain ⟨W, hW⟩ : ∃ W, W = w.alloc (.cells #[.int .i64 p0, .slice a0 n0 c0] 24) := ⟨_, rfl⟩
  have B0 : Below w.heap.size w W := by rw [hW]; exact (Below.refl _ _).alloc (Nat.le_refl _) _
  have zW : w.heap.size < W.heap.size := by rw [hW]; simp
  have p00_0 : W.cell? ⟨w.heap.size, 0, none⟩ = some (.int .i64 p0) := by rw [hW]; simp
  have p01_0 : W.cell? ⟨w.heap.size, 1, none⟩ = some (.slice a0 n0 c0) := by rw [hW]; simp
  obtain ⟨C0, hC0⟩ : ∃ C : Nat, n0 + tot z0 n0 = C := ⟨_, rfl⟩
  have HC0 := Hid.mk hC0
  clear hC0
  obtain ⟨C1, hC1⟩ : ∃ C : Nat, n1 + dsum z1 n1 = C := ⟨_, rfl⟩
  have HC1 := Hid.mk hC1
  clear hC1
  by_cases big0 : (1048576 : Int) < (C0 : Int)
  · go_enter Try.func4, Try.ntmps4
    go_wp2_with fail
    rw [← hW]
    clear hW
    refine (szTableau_any p0 a0 n0 c0 z0 _ _ HZ0.out hn0 (by omega) (by omega) (AtS.below HA0.out B0)).mono ?_
    rintro e v0 ⟨rfl, hv0⟩
    rw [HC0.out, leftOf_no big0]
    have y0 := B0.trans (hv0.mono B0.size)
    go_wp2
    go_ret
    exact ⟨rfl, y0⟩
  have hl0 : ¬ (1048576 : Int) - (C0 : Int) < 0 := by omega
  have HSM0 : Hid (SmR z0 n0) := ⟨HZ0.out, by have := HC0.out; omega⟩
  have hsn0 : n0 ≤ 1048576 := HSM0.out.n
  have HVB0 := HSM0.out.sum
  by_cases big1 : (1048576 : Int) - (C0 : Int) < (C1 : Int)
  · go_enter Try.func4, Try.ntmps4
    go_wp2_with fail
    rw [← hW]
    clear hW
    refine (szTableau_any p0 a0 n0 c0 z0 _ _ HZ0.out hn0 (by omega) (by omega) (AtS.below HA0.out B0)).mono ?_
    rintro e v0 ⟨rfl, hv0⟩
    rw [HC0.out, leftOf_yes (by omega)]
    have y0 := B0.trans (hv0.mono B0.size)
    have qp00_0 := cell_later hv0 p00_0
    have qp01_0 := cell_later hv0 p01_0
    go_wp2_with fail
    refine (szDependS_any a1 n1 c1 z1 _ _ HZ1.out hn1 (by omega) (by omega) (AtSl.below HA1.out y0)).mono ?_
    rintro e v1 ⟨rfl, hv1⟩
    rw [HC1.out, leftOf_no big1]
    have y1 := y0.trans (hv1.mono y0.size)
    go_wp2
    go_ret
    exact ⟨rfl, y1⟩
  have hl1 : ¬ (1048576 : Int) - (C0 : Int) - (C1 : Int) < 0 := by omega
  have HSM1 : Hid (SmD z1 n1) := ⟨HZ1.out, by have := HC1.out; omega⟩
  have hsn1 : n1 ≤ 1048576 := HSM1.out.n
  have HVB1 := HSM1.out.sum
  obtain ⟨V0, hV0⟩ : ∃ V : Nat, tot z0 n0 = V := ⟨_, rfl⟩
  rw [hV0] at HVB0
  have HV0 := Hid.mk hV0
  clear hV0
  obtain ⟨V1, hV1⟩ : ∃ V : Nat, dsum z1 n1 = V := ⟨_, rfl⟩
  rw [hV1] at HVB1
  have HV1 := Hid.mk hV1
  clear hV1
  obtain ⟨ok, pa, cnt, ta, hsA, HS, HI⟩ : ∃ (ok : Bool) (pa : Int) (cnt : Int) (ta : List (List Int)), SmR ta ta.length ∧ Hid (∀ (x0 : Nat) (x1 : Nat) (w : World) (F0 F1 : Nat → Prop), RTbl.Own w F0 [.int .i64 p0, .slice (some ⟨x0, 0, none⟩) n0 n0] (p0, z0) → RDeps.Own w F1 [.slice (some ⟨x1, 0, none⟩) n1 n1] z1 → Calls Try.prog 18 #[.agg #[.int .i64 p0, .slice (some ⟨x0, 0, none⟩) n0 n0], .slice (some ⟨x1, 0, none⟩) n1 n1] w fun e w' => TblRet3 e w' w.heap.size ok pa cnt ta ∧ Below w.heap.size w w') ∧ Hid (∀ (x0 : Nat) (x1 : Nat) (w : World) (F0 F1 : Nat → Prop), RTbl.Own w F0 [.int .i64 p0, .slice (some ⟨x0, 0, none⟩) n0 n0] (p0, z0) → RDeps.Own w F1 [.slice (some ⟨x1, 0, none⟩) n1 n1] z1 → Calls Try.prog 19 #[.agg #[.int .i64 p0, .slice (some ⟨x0, 0, none⟩) n0 n0], .slice (some ⟨x1, 0, none⟩) n1 n1] w fun e w' => TblRet3 e w' w.heap.size ok pa cnt ta ∧ Below w.heap.size w w') := ⟨caB p0 z0 z1, caP p0 z0 z1, caN p0 z0 z1, caL p0 z0 z1, ca_small p0 z0 z1, fun x0 x1 w F0 F1 o0 o1 => specChaseAll p0 (some ⟨x0, 0, none⟩) n0 n0 z0 (some ⟨x1, 0, none⟩) n1 n1 z1 w HZ0.out hn0 HZ1.out hn1 (RRows.atR (RTbl.own_open o0).2) (deps_at o1), fun x0 x1 w F0 F1 o0 o1 => implChaseAll p0 (some ⟨x0, 0, none⟩) n0 n0 z0 (some ⟨x1, 0, none⟩) n1 n1 z1 w HZ0.out hn0 HZ1.out hn1 (tbl_at o0) (deps_at o1)⟩
  obtain ⟨na, hna⟩ : ∃ na, ta.length = na := ⟨_, rfl⟩
  rw [hna] at hsA
  have hnA := hsA.n
  have hvA := hsA.sum
  have HSA := Hid.mk hsA
  obtain ⟨VA, hVA⟩ : ∃ V : Nat, tot ta na = V := ⟨_, rfl⟩
  rw [hVA] at hvA
  have HVA := Hid.mk hVA
  have HNA := Hid.mk hna
  clear hna hVA hsA
  go_enter Try.func4, Try.ntmps4
  go_wp2_with fail
  rw [← hW]
  clear hW
  refine (szTableau_any p0 a0 n0 c0 z0 _ _ HZ0.out hn0 (by omega) (by omega) (AtS.below HA0.out B0)).mono ?_
  rintro e w1 ⟨rfl, hb1⟩
  rw [HC0.out, leftOf_yes (by omega)]
  have p00_1 := cell_later hb1 p00_0
  have p01_1 := cell_later hb1 p01_0
  have B_1 := B0.trans (hb1.mono B0.size)
  have zz1 : W.heap.size ≤ w1.heap.size := hb1.size
  clear p00_0 p01_0
  clear hb1
  go_wp2_with fail
  refine (szDependS_any a1 n1 c1 z1 _ _ HZ1.out hn1 (by omega) (by omega) (AtSl.below HA1.out B_1)).mono ?_
  rintro e w2 ⟨rfl, hb2⟩
  rw [HC1.out, leftOf_yes (by omega)]
  have p00_2 := cell_later hb2 p00_1
  have p01_2 := cell_later hb2 p01_1
  have B_2 := B_1.trans (hb2.mono B_1.size)
  have zz2 : w1.heap.size ≤ w2.heap.size := hb2.size
  clear p00_1 p01_1 B_1
  clear hb2
  go_wp2_with fail
  refine (toTableau_any p0 a0 n0 c0 z0 _ HSM0.out (AtS.below HA0.out B_2)).mono ?_
  rintro e w3 ⟨g3, rfl, ho3, hb3⟩
  have ot0_3 := Hid.mk ho3
  clear ho3
  have p00_3 := cell_later hb3 p00_2
  have p01_3 := cell_later hb3 p01_2
  have B_3 := B_2.trans (hb3.mono B_2.size)
  have zz3 : w2.heap.size ≤ w3.heap.size := hb3.size
  clear p00_2 p01_2 B_2
  clear hb3
  go_wp2_with fail
  refine (toDependSG a1 n1 c1 z1 _ HSM1.out (AtSl.below HA1.out B_3)).mono ?_
  rintro e w4 ⟨g4, rfl, ho4, hb4⟩
  have ot1_4 := Hid.mk ho4
  clear ho4
  have p00_4 := cell_later hb4 p00_3
  have p01_4 := cell_later hb4 p01_3
  have ot0_4 := Hid.mk (RTbl.ownBelow ot0_3.out hb4)
  have B_4 := B_3.trans (hb4.mono B_3.size)
  have zz4 : w3.heap.size ≤ w4.heap.size := hb4.size
  clear p00_3 p01_3 ot0_3 B_3
  clear hb4
  go_wp2_with fail
  refine (HS.out _ _ _ _ _ ot0_4.out ot1_4.out).mono ?_
  rintro e w5 ⟨⟨r5, m5, d5, rfl, ho5⟩, hb5⟩
  clear ot0_4
  clear ot1_4
  obtain rfl : na = m5 := HNA.out.symm.trans (RRows.atS ho5).1
  have oo_5 := Hid.mk ho5
  clear ho5
  have p00_5 := cell_later hb5 p00_4
  have p01_5 := cell_later hb5 p01_4
  have B_5 := B_4.trans (hb5.mono B_4.size)
  have zz5 : w4.heap.size ≤ w5.heap.size := hb5.size
  clear p00_4 p01_4 B_4
  clear hb5
  obtain ⟨w6, hU6⟩ : ∃ u, u = w5.alloc (.cells #[.int .i64 pa, .slice r5 na d5] 30) := ⟨_, rfl⟩
  have hb6 : Below w5.heap.size w5 w6 := by rw [hU6]; exact (Below.refl _ _).alloc (Nat.le_refl _) _
  have zl6 : w5.heap.size < w6.heap.size := by rw [hU6]; simp
  have nWt0 : w6.cell? ⟨w5.heap.size, 0, none⟩ = some (.int .i64 pa) := by rw [hU6]; simp
  have nWt1 : w6.cell? ⟨w5.heap.size, 1, none⟩ = some (.slice r5 na d5) := by rw [hU6]; simp
  have p00_6 := cell_later hb6 p00_5
  have p01_6 := cell_later hb6 p01_5
  have oo_6 := Hid.mk (RRows.ownBelow oo_5.out hb6)
  have B_6 := B_5.trans (hb6.mono B_5.size)
  have zz6 : w5.heap.size ≤ w6.heap.size := hb6.size
  clear p00_5 p01_5 oo_5 B_5
  clear hb6
  have xp00 := p00_6
  rw [hU6] at xp00
  have xp01 := p01_6
  rw [hU6] at xp01
  have xWt0 := nWt0
  rw [hU6] at xWt0
  have xWt1 := nWt1
  rw [hU6] at xWt1
  go_wp2_with fail
  rw [← hU6]
  clear hU6
  clear xp00 xp01 xWt0 xWt1
  refine (toTableau_any p0 a0 n0 c0 z0 _ HSM0.out (AtS.below HA0.out B_6)).mono ?_
  rintro e w7 ⟨g7, rfl, ho7, hb7⟩
  have ox0_7 := Hid.mk ho7
  clear ho7
  have p00_7 := cell_later hb7 p00_6
  have p01_7 := cell_later hb7 p01_6
  have Wt0_7 := cell_later hb7 nWt0
  have Wt1_7 := cell_later hb7 nWt1
  have oo_7 := Hid.mk (RRows.ownBelow oo_6.out hb7)
  have B_7 := B_6.trans (hb7.mono B_6.size)
  have zz7 : w6.heap.size ≤ w7.heap.size := hb7.size
  clear p00_6 p01_6 nWt0 nWt1 oo_6 B_6
  clear hb7
  obtain ⟨w8, hU8⟩ : ∃ u, u = w7.alloc (.cells #[.int .i64 p0, .slice (some ⟨g7, 0, none⟩) n0 n0] 30) := ⟨_, rfl⟩
  have hb8 : Below w7.heap.size w7 w8 := by rw [hU8]; exact (Below.refl _ _).alloc (Nat.le_refl _) _
  have zl8 : w7.heap.size < w8.heap.size := by rw [hU8]; simp
  have nX00 : w8.cell? ⟨w7.heap.size, 0, none⟩ = some (.int .i64 p0) := by rw [hU8]; simp
  have nX01 : w8.cell? ⟨w7.heap.size, 1, none⟩ = some (.slice (some ⟨g7, 0, none⟩) n0 n0) := by rw [hU8]; simp
  have p00_8 := cell_later hb8 p00_7
  have p01_8 := cell_later hb8 p01_7
  have Wt0_8 := cell_later hb8 Wt0_7
  have Wt1_8 := cell_later hb8 Wt1_7
  have oo_8 := Hid.mk (RRows.ownBelow oo_7.out hb8)
  have ox0_8 := Hid.mk (RTbl.ownBelow ox0_7.out hb8)
  have B_8 := B_7.trans (hb8.mono B_7.size)
  have zz8 : w7.heap.size ≤ w8.heap.size := hb8.size
  clear p00_7 p01_7 Wt0_7 Wt1_7 oo_7 ox0_7 B_7
  clear hb8
  have xp00 := p00_8
  rw [hU8] at xp00
  have xp01 := p01_8
  rw [hU8] at xp01
  have xWt0 := Wt0_8
  rw [hU8] at xWt0
  have xWt1 := Wt1_8
  rw [hU8] at xWt1
  have xX00 := nX00
  rw [hU8] at xX00
  have xX01 := nX01
  rw [hU8] at xX01
  go_wp2_with fail
  rw [← hU8]
  clear hU8
  clear xp00 xp01 xWt0 xWt1 xX00 xX01
  refine (toDependSG a1 n1 c1 z1 _ HSM1.out (AtSl.below HA1.out B_8)).mono ?_
  rintro e w9 ⟨g9, rfl, ho9, hb9⟩
  have ox1_9 := Hid.mk ho9
  clear ho9
  have p00_9 := cell_later hb9 p00_8
  have p01_9 := cell_later hb9 p01_8
  have Wt0_9 := cell_later hb9 Wt0_8
  have Wt1_9 := cell_later hb9 Wt1_8
  have X00_9 := cell_later hb9 nX00
  have X01_9 := cell_later hb9 nX01
  have oo_9 := Hid.mk (RRows.ownBelow oo_8.out hb9)
  have ox0_9 := Hid.mk (RTbl.ownBelow ox0_8.out hb9)
  have B_9 := B_8.trans (hb9.mono B_8.size)
  have zz9 : w8.heap.size ≤ w9.heap.size := hb9.size
  clear p00_8 p01_8 Wt0_8 Wt1_8 nX00 nX01 oo_8 ox0_8 B_8
  clear hb9
  go_wp2_with fail
  refine (HI.out _ _ _ _ _ ox0_9.out ox1_9.out).mono ?_
  rintro e w10 ⟨⟨r10, m10, d10, rfl, ho10⟩, hb10⟩
  obtain rfl : na = m10 := HNA.out.symm.trans (RRows.atS ho10).1
  have og_10 := Hid.mk ho10
  clear ho10
  have p00_10 := cell_later hb10 p00_9
  have p01_10 := cell_later hb10 p01_9
  have Wt0_10 := cell_later hb10 Wt0_9
  have Wt1_10 := cell_later hb10 Wt1_9
  have X00_10 := cell_later hb10 X00_9
  have X01_10 := cell_later hb10 X01_9
  have oo_10 := Hid.mk (RRows.ownBelow oo_9.out hb10)
  have ox0_10 := Hid.mk (RTbl.ownBelow ox0_9.out hb10)
  have ox1_10 := Hid.mk (RDeps.ownBelow ox1_9.out hb10)
  have B_10 := B_9.trans (hb10.mono B_9.size)
  have zz10 : w9.heap.size ≤ w10.heap.size := hb10.size
  clear p00_9 p01_9 Wt0_9 Wt1_9 X00_9 X01_9 oo_9 ox0_9 ox1_9 B_9
  clear hb10
  obtain ⟨w11, hU11⟩ : ∃ u, u = w10.alloc (.cells #[.int .i64 pa, .slice r10 na d10] 30) := ⟨_, rfl⟩
  have hb11 : Below w10.heap.size w10 w11 := by rw [hU11]; exact (Below.refl _ _).alloc (Nat.le_refl _) _
  have zl11 : w10.heap.size < w11.heap.size := by rw [hU11]; simp
  have nGt0 : w11.cell? ⟨w10.heap.size, 0, none⟩ = some (.int .i64 pa) := by rw [hU11]; simp
  have nGt1 : w11.cell? ⟨w10.heap.size, 1, none⟩ = some (.slice r10 na d10) := by rw [hU11]; simp
  have p00_11 := cell_later hb11 p00_10
  have p01_11 := cell_later hb11 p01_10
  have Wt0_11 := cell_later hb11 Wt0_10
  have Wt1_11 := cell_later hb11 Wt1_10
  have X00_11 := cell_later hb11 X00_10
  have X01_11 := cell_later hb11 X01_10
  have oo_11 := Hid.mk (RRows.ownBelow oo_10.out hb11)
  have ox0_11 := Hid.mk (RTbl.ownBelow ox0_10.out hb11)
  have ox1_11 := Hid.mk (RDeps.ownBelow ox1_10.out hb11)
  have og_11 := Hid.mk (RRows.ownBelow og_10.out hb11)
  have B_11 := B_10.trans (hb11.mono B_10.size)
  have zz11 : w10.heap.size ≤ w11.heap.size := hb11.size
  clear p00_10 p01_10 Wt0_10 Wt1_10 X00_10 X01_10 oo_10 ox0_10 ox1_10 og_10 B_10
  clear hb11
  have xp00 := p00_11
  rw [hU11] at xp00
  have xp01 := p01_11
  rw [hU11] at xp01
  have xWt0 := Wt0_11
  rw [hU11] at xWt0
  have xWt1 := Wt1_11
  rw [hU11] at xWt1
  have xX00 := X00_11
  rw [hU11] at xX00
  have xX01 := X01_11
  rw [hU11] at xX01
  have xGt0 := nGt0
  rw [hU11] at xGt0
  have xGt1 := nGt1
  rw [hU11] at xGt1
  go_wp2_with fail
  rw [← hU11]
  clear hU11
  clear xp00 xp01 xWt0 xWt1 xX00 xX01 xGt0 xGt1
  refine (eqTableau_same pa _ _ na _ _ ta _ HSA.out (RRows.atS og_11.out).2 (RRows.atS oo_11.out).2).mono ?_
  rintro e w12 ⟨rfl, hb12⟩
  have p00_12 := cell_later hb12 p00_11
  have p01_12 := cell_later hb12 p01_11
  have Wt0_12 := cell_later hb12 Wt0_11
  have Wt1_12 := cell_later hb12 Wt1_11
  have X00_12 := cell_later hb12 X00_11
  have X01_12 := cell_later hb12 X01_11
  have Gt0_12 := cell_later hb12 nGt0
  have Gt1_12 := cell_later hb12 nGt1
  have oo_12 := Hid.mk (RRows.ownBelow oo_11.out hb12)
  have ox0_12 := Hid.mk (RTbl.ownBelow ox0_11.out hb12)
  have ox1_12 := Hid.mk (RDeps.ownBelow ox1_11.out hb12)
  have og_12 := Hid.mk (RRows.ownBelow og_11.out hb12)
  have B_12 := B_11.trans (hb12.mono B_11.size)
  have zz12 : w11.heap.size ≤ w12.heap.size := hb12.size
  clear p00_11 p01_11 Wt0_11 Wt1_11 X00_11 X01_11 nGt0 nGt1 oo_11 ox0_11 ox1_11 og_11 B_11
  clear hb12
  go_wp2_with fail
  refine wp_region_held_drew (S := fun w' => w'.cell? ⟨w7.heap.size, 0, none⟩ = some (.int .i64 p0) ∧ w'.cell? ⟨w7.heap.size, 1, none⟩ = some (.slice (some ⟨g7, 0, none⟩) n0 n0) ∧ w'.cell? ⟨w.heap.size, 0, none⟩ = some (.int .i64 p0) ∧ w'.cell? ⟨w.heap.size, 1, none⟩ = some (.slice a0 n0 c0)) (by kernel_rfl) ?_ (fun hHeld => ?_)
  · (try dsimp only)
    exact ⟨X00_12, X01_12, p00_12, p01_12⟩
  refine wpAnyH_take (i := 0) (oi := ?_) (v := ?_) ?_ (by kernel_rfl) (by kernel_rfl) (by kernel_rfl) ?_ (Or.inl ⟨?_, ?_⟩) (by assumption) ?_
  rotate_left 2
  · (simp only [List.getElem?_toArray, List.getElem?_cons_zero]; rfl)
  · exact fun _ _ _ h => h
  · rfl
  · (intro wS hSw; (try dsimp only at hSw); go_simp; (try with_reducible rfl))
  (try simp only [Act.put, List.setIfInBounds_toArray, List.set_cons_zero, List.set_cons_succ])
  refine wpAnyH_take (i := 1) (oi := ?_) (v := ?_) ?_ (by kernel_rfl) (by kernel_rfl) (by kernel_rfl) ?_ (Or.inl ⟨?_, ?_⟩) (by assumption) ?_
  rotate_left 2
  · (simp only [List.getElem?_toArray, List.getElem?_cons_zero, List.getElem?_cons_succ]; rfl)
  · exact fun _ _ _ h => h
  · rfl
  · (intro wS hSw; (try dsimp only at hSw); go_simp; (try with_reducible rfl))
  (try simp only [Act.put, List.setIfInBounds_toArray, List.set_cons_zero, List.set_cons_succ])
  refine wpAnyH_ready (rs := [2]) (by kernel_rfl) (by simp) ?_
  refine AllReadyH.cons (o := ?_) ?_ (fun K hK => ?_) AllReadyH.nil
  rotate_left
  · (simp only [List.getElem?_toArray, List.getElem?_cons_zero, List.getElem?_cons_succ]; rfl)
  go_simp
  go_at_call 10
  refine (toTableau_any p0 a0 n0 c0 z0 _ HSM0.out (AtS.below HA0.out B_12.drew)).mono ?_
  rintro e w13 ⟨g13, rfl, ho13, hd13⟩
  have hb13 : Below w12.heap.size w12 w13 := (Below.refl _ _).drew.trans hd13
  clear hd13
  have oy_13 := Hid.mk ho13
  clear ho13
  have p00_13 := cell_later hb13 p00_12
  have p01_13 := cell_later hb13 p01_12
  have Wt0_13 := cell_later hb13 Wt0_12
  have Wt1_13 := cell_later hb13 Wt1_12
  have X00_13 := cell_later hb13 X00_12
  have X01_13 := cell_later hb13 X01_12
  have Gt0_13 := cell_later hb13 Gt0_12
  have Gt1_13 := cell_later hb13 Gt1_12
  have oo_13 := Hid.mk (RRows.ownBelow oo_12.out hb13)
  have ox0_13 := Hid.mk (RTbl.ownBelow ox0_12.out hb13)
  have ox1_13 := Hid.mk (RDeps.ownBelow ox1_12.out hb13)
  have og_13 := Hid.mk (RRows.ownBelow og_12.out hb13)
  have B_13 := B_12.trans (hb13.mono B_12.size)
  have zz13 : w12.heap.size ≤ w13.heap.size := hb13.size
  clear p00_12 p01_12 Wt0_12 Wt1_12 X00_12 X01_12 Gt0_12 Gt1_12 oo_12 ox0_12 ox1_12 og_12 B_12
  clear hb13
  (try go_wp2_with fail)
  refine hK.out _ _ ?_ (fun hHeld' => ?_)
  · (try dsimp only)
    exact ⟨X00_13, X01_13, p00_13, p01_13⟩
  clear hK K hHeld
  have hHeld := hHeld'
  clear hHeld'
  (try simp only [Act.put, List.setIfInBounds_toArray, List.set_cons_zero, List.set_cons_succ])
  refine wpAnyH_ready (rs := [3]) (by kernel_rfl) (by simp) ?_
  refine AllReadyH.cons (o := ?_) ?_ (fun K hK => ?_) AllReadyH.nil
  rotate_left
  · (simp only [List.getElem?_toArray, List.getElem?_cons_zero, List.getElem?_cons_succ]; rfl)
  go_simp
  go_at_call 13
  refine (eqTableau_same p0 _ _ n0 _ _ z0 _ HSM0.out (tbl_at ox0_13.out) (tbl_at oy_13.out)).mono ?_
  rintro e w14 ⟨rfl, hb14⟩
  clear oy_13
  have p00_14 := cell_later hb14 p00_13
  have p01_14 := cell_later hb14 p01_13
  have Wt0_14 := cell_later hb14 Wt0_13
  have Wt1_14 := cell_later hb14 Wt1_13
  have X00_14 := cell_later hb14 X00_13
  have X01_14 := cell_later hb14 X01_13
  have Gt0_14 := cell_later hb14 Gt0_13
  have Gt1_14 := cell_later hb14 Gt1_13
  have oo_14 := Hid.mk (RRows.ownBelow oo_13.out hb14)
  have ox0_14 := Hid.mk (RTbl.ownBelow ox0_13.out hb14)
  have ox1_14 := Hid.mk (RDeps.ownBelow ox1_13.out hb14)
  have og_14 := Hid.mk (RRows.ownBelow og_13.out hb14)
  have B_14 := B_13.trans (hb14.mono B_13.size)
  have zz14 : w13.heap.size ≤ w14.heap.size := hb14.size
  clear p00_13 p01_13 Wt0_13 Wt1_13 X00_13 X01_13 Gt0_13 Gt1_13 oo_13 ox0_13 ox1_13 og_13 B_13
  clear hb14
  (try go_wp2_with fail)
  refine hK.out _ _ ?_ (fun hHeld' => ?_)
  · (try dsimp only)
    exact ⟨X00_14, X01_14, p00_14, p01_14⟩
  clear hK K hHeld
  have hHeld := hHeld'
  clear hHeld'
  (try simp only [Act.put, List.setIfInBounds_toArray, List.set_cons_zero, List.set_cons_succ])
  refine wpAnyH_take (i := 4) (oi := ?_) (v := ?_) ?_ (by kernel_rfl) (by kernel_rfl) (by kernel_rfl) ?_ (Or.inl ⟨?_, ?_⟩) (by assumption) ?_
  rotate_left 2
  · (simp only [List.getElem?_toArray, List.getElem?_cons_zero, List.getElem?_cons_succ]; rfl)
  · exact fun _ _ _ h => h
  · rfl
  · (intro wS hSw; (try dsimp only at hSw); go_simp; (try with_reducible rfl))
  (try simp only [Act.put, List.setIfInBounds_toArray, List.set_cons_zero, List.set_cons_succ])
  refine wpAnyH_done (by kernel_rfl) ?_ _
  clear hHeld
  go_wp2_with fail
  refine (toDependSG a1 n1 c1 z1 _ HSM1.out (AtSl.below HA1.out B_14)).mono ?_
  rintro e w15 ⟨g15, rfl, ho15, hb15⟩
  have oy_15 := Hid.mk ho15
  clear ho15
  have p00_15 := cell_later hb15 p00_14
  have p01_15 := cell_later hb15 p01_14
  have Wt0_15 := cell_later hb15 Wt0_14
  have Wt1_15 := cell_later hb15 Wt1_14
  have X00_15 := cell_later hb15 X00_14
  have X01_15 := cell_later hb15 X01_14
  have Gt0_15 := cell_later hb15 Gt0_14
  have Gt1_15 := cell_later hb15 Gt1_14
  have oo_15 := Hid.mk (RRows.ownBelow oo_14.out hb15)
  have ox0_15 := Hid.mk (RTbl.ownBelow ox0_14.out hb15)
  have ox1_15 := Hid.mk (RDeps.ownBelow ox1_14.out hb15)
  have og_15 := Hid.mk (RRows.ownBelow og_14.out hb15)
  have B_15 := B_14.trans (hb15.mono B_14.size)
  have zz15 : w14.heap.size ≤ w15.heap.size := hb15.size
  clear p00_14 p01_14 Wt0_14 Wt1_14 X00_14 X01_14 Gt0_14 Gt1_14 oo_14 ox0_14 ox1_14 og_14 B_14
  clear hb15
  go_wp2_with fail
  refine (eqDependSG _ _ n1 _ _ z1 _ HSM1.out (OwnD.atD0 ox1_15.out) (OwnD.atD0 oy_15.out)).mono ?_
  rintro e w16 ⟨rfl, hb16⟩
  clear oy_15
  have p00_16 := cell_later hb16 p00_15
  have p01_16 := cell_later hb16 p01_15
  have Wt0_16 := cell_later hb16 Wt0_15
  have Wt1_16 := cell_later hb16 Wt1_15
  have X00_16 := cell_later hb16 X00_15
  have X01_16 := cell_later hb16 X01_15
  have Gt0_16 := cell_later hb16 Gt0_15
  have Gt1_16 := cell_later hb16 Gt1_15
  have oo_16 := Hid.mk (RRows.ownBelow oo_15.out hb16)
  have ox0_16 := Hid.mk (RTbl.ownBelow ox0_15.out hb16)
  have ox1_16 := Hid.mk (RDeps.ownBelow ox1_15.out hb16)
  have og_16 := Hid.mk (RRows.ownBelow og_15.out hb16)
  have B_16 := B_15.trans (hb16.mono B_15.size)
  have zz16 : w15.heap.size ≤ w16.heap.size := hb16.size
  clear p00_15 p01_15 Wt0_15 Wt1_15 X00_15 X01_15 Gt0_15 Gt1_15 oo_15 ox0_15 ox1_15 og_15 B_15
  clear hb16
  go_wp2_with fail
  refine (markTableau_rep (From (w6.heap.size) (w7.heap.size)) p0 _ n0 _ z0 _ _ hsn0 HSM0.out.sum (by omega) (by omega) ox0_16.out).mono ?_
  rintro e w17 ⟨rfl, ho17, hg17⟩
  rw [HV0.out]
  have ox0_17 := Hid.mk ho17
  clear ho17
  have p00_17 := hg17.cell p00_16 (show ¬ From (w6.heap.size) (w7.heap.size) (w.heap.size) from fun h => by have h1 := h.1; have h2 := h.2; omega)
  have p01_17 := hg17.cell p01_16 (show ¬ From (w6.heap.size) (w7.heap.size) (w.heap.size) from fun h => by have h1 := h.1; have h2 := h.2; omega)
  have Wt0_17 := hg17.cell Wt0_16 (show ¬ From (w6.heap.size) (w7.heap.size) (w5.heap.size) from fun h => by have h1 := h.1; have h2 := h.2; omega)
  have Wt1_17 := hg17.cell Wt1_16 (show ¬ From (w6.heap.size) (w7.heap.size) (w5.heap.size) from fun h => by have h1 := h.1; have h2 := h.2; omega)
  have X00_17 := hg17.cell X00_16 (show ¬ From (w6.heap.size) (w7.heap.size) (w7.heap.size) from fun h => by have h1 := h.1; have h2 := h.2; omega)
  have X01_17 := hg17.cell X01_16 (show ¬ From (w6.heap.size) (w7.heap.size) (w7.heap.size) from fun h => by have h1 := h.1; have h2 := h.2; omega)
  have Gt0_17 := hg17.cell Gt0_16 (show ¬ From (w6.heap.size) (w7.heap.size) (w10.heap.size) from fun h => by have h1 := h.1; have h2 := h.2; omega)
  have Gt1_17 := hg17.cell Gt1_16 (show ¬ From (w6.heap.size) (w7.heap.size) (w10.heap.size) from fun h => by have h1 := h.1; have h2 := h.2; omega)
  have oo_17 := Hid.mk (RRows.ownOff oo_16.out hg17 (fun b h1 h2 => by have h3 := h1.1; have h4 := h1.2; have h5 := h2.1; have h6 := h2.2; omega))
  have ox1_17 := Hid.mk (RDeps.ownOff ox1_16.out hg17 (fun b h1 h2 => by have h3 := h1.1; have h4 := h1.2; have h5 := h2.1; have h6 := h2.2; omega))
  have og_17 := Hid.mk (RRows.ownOff og_16.out hg17 (fun b h1 h2 => by have h3 := h1.1; have h4 := h1.2; have h5 := h2.1; have h6 := h2.2; omega))
  have B_17 := B_16.trans (hg17.toBelow (by omega) B_16.size)
  have zz17 : w16.heap.size ≤ w17.heap.size := hg17.size
  clear p00_16 p01_16 Wt0_16 Wt1_16 X00_16 X01_16 Gt0_16 Gt1_16 oo_16 ox0_16 ox1_16 og_16 B_16
  clear hg17
  go_wp2_with fail
  refine (markDependS_rep (From (w8.heap.size) (w9.heap.size)) _ n1 _ z1 _ _ hsn1 HSM1.out.sum (by omega) (by omega) ox1_17.out).mono ?_
  rintro e w18 ⟨rfl, ho18, hg18⟩
  rw [HV1.out]
  have ox1_18 := Hid.mk ho18
  clear ho18
  have p00_18 := hg18.cell p00_17 (show ¬ From (w8.heap.size) (w9.heap.size) (w.heap.size) from fun h => by have h1 := h.1; have h2 := h.2; omega)
  have p01_18 := hg18.cell p01_17 (show ¬ From (w8.heap.size) (w9.heap.size) (w.heap.size) from fun h => by have h1 := h.1; have h2 := h.2; omega)
  have Wt0_18 := hg18.cell Wt0_17 (show ¬ From (w8.heap.size) (w9.heap.size) (w5.heap.size) from fun h => by have h1 := h.1; have h2 := h.2; omega)
  have Wt1_18 := hg18.cell Wt1_17 (show ¬ From (w8.heap.size) (w9.heap.size) (w5.heap.size) from fun h => by have h1 := h.1; have h2 := h.2; omega)
  have X00_18 := hg18.cell X00_17 (show ¬ From (w8.heap.size) (w9.heap.size) (w7.heap.size) from fun h => by have h1 := h.1; have h2 := h.2; omega)
  have X01_18 := hg18.cell X01_17 (show ¬ From (w8.heap.size) (w9.heap.size) (w7.heap.size) from fun h => by have h1 := h.1; have h2 := h.2; omega)
  have Gt0_18 := hg18.cell Gt0_17 (show ¬ From (w8.heap.size) (w9.heap.size) (w10.heap.size) from fun h => by have h1 := h.1; have h2 := h.2; omega)
  have Gt1_18 := hg18.cell Gt1_17 (show ¬ From (w8.heap.size) (w9.heap.size) (w10.heap.size) from fun h => by have h1 := h.1; have h2 := h.2; omega)
  have oo_18 := Hid.mk (RRows.ownOff oo_17.out hg18 (fun b h1 h2 => by have h3 := h1.1; have h4 := h1.2; have h5 := h2.1; have h6 := h2.2; omega))
  have ox0_18 := Hid.mk (RTbl.ownOff ox0_17.out hg18 (fun b h1 h2 => by have h3 := h1.1; have h4 := h1.2; have h5 := h2.1; have h6 := h2.2; omega))
  have og_18 := Hid.mk (RRows.ownOff og_17.out hg18 (fun b h1 h2 => by have h3 := h1.1; have h4 := h1.2; have h5 := h2.1; have h6 := h2.2; omega))
  have B_18 := B_17.trans (hg18.toBelow (by omega) B_17.size)
  have zz18 : w17.heap.size ≤ w18.heap.size := hg18.size
  clear p00_17 p01_17 Wt0_17 Wt1_17 X00_17 X01_17 Gt0_17 Gt1_17 oo_17 ox0_17 ox1_17 og_17 B_17
  clear hg18
  have kpos : ¬ (1 : Int) + (V0 : Int) + (V1 : Int) < 0 := by omega
  go_wp2_with fail
  refine (eqTableau_same pa _ _ na _ _ ta _ HSA.out (RRows.atS og_18.out).2 (RRows.atS oo_18.out).2).mono ?_
  rintro e w19 ⟨rfl, hb19⟩
  have p00_19 := cell_later hb19 p00_18
  have p01_19 := cell_later hb19 p01_18
  have Wt0_19 := cell_later hb19 Wt0_18
  have Wt1_19 := cell_later hb19 Wt1_18
  have X00_19 := cell_later hb19 X00_18
  have X01_19 := cell_later hb19 X01_18
  have Gt0_19 := cell_later hb19 Gt0_18
  have Gt1_19 := cell_later hb19 Gt1_18
  have oo_19 := Hid.mk (RRows.ownBelow oo_18.out hb19)
  have ox0_19 := Hid.mk (RTbl.ownBelow ox0_18.out hb19)
  have ox1_19 := Hid.mk (RDeps.ownBelow ox1_18.out hb19)
  have og_19 := Hid.mk (RRows.ownBelow og_18.out hb19)
  have B_19 := B_18.trans (hb19.mono B_18.size)
  have zz19 : w18.heap.size ≤ w19.heap.size := hb19.size
  clear p00_18 p01_18 Wt0_18 Wt1_18 X00_18 X01_18 Gt0_18 Gt1_18 oo_18 ox0_18 ox1_18 og_18 B_18
  clear hb19
  clear ox0_19
  clear ox1_19
  go_wp2_with fail
  refine (markTableau_rows (From (w9.heap.size) (w10.heap.size)) pa _ na _ ta 1 _ hnA HSA.out.sum (by omega) (by omega) og_19.out).mono ?_
  rintro e w20 ⟨rfl, ho20, hg20⟩
  rw [HVA.out]
  have og_20 := Hid.mk ho20
  clear ho20
  have p00_20 := hg20.cell p00_19 (show ¬ From (w9.heap.size) (w10.heap.size) (w.heap.size) from fun h => by have h1 := h.1; have h2 := h.2; omega)
  have p01_20 := hg20.cell p01_19 (show ¬ From (w9.heap.size) (w10.heap.size) (w.heap.size) from fun h => by have h1 := h.1; have h2 := h.2; omega)
  have Wt0_20 := hg20.cell Wt0_19 (show ¬ From (w9.heap.size) (w10.heap.size) (w5.heap.size) from fun h => by have h1 := h.1; have h2 := h.2; omega)
  have Wt1_20 := hg20.cell Wt1_19 (show ¬ From (w9.heap.size) (w10.heap.size) (w5.heap.size) from fun h => by have h1 := h.1; have h2 := h.2; omega)
  have X00_20 := hg20.cell X00_19 (show ¬ From (w9.heap.size) (w10.heap.size) (w7.heap.size) from fun h => by have h1 := h.1; have h2 := h.2; omega)
  have X01_20 := hg20.cell X01_19 (show ¬ From (w9.heap.size) (w10.heap.size) (w7.heap.size) from fun h => by have h1 := h.1; have h2 := h.2; omega)
  have Gt0_20 := hg20.cell Gt0_19 (show ¬ From (w9.heap.size) (w10.heap.size) (w10.heap.size) from fun h => by have h1 := h.1; have h2 := h.2; omega)
  have Gt1_20 := hg20.cell Gt1_19 (show ¬ From (w9.heap.size) (w10.heap.size) (w10.heap.size) from fun h => by have h1 := h.1; have h2 := h.2; omega)
  have oo_20 := Hid.mk (RRows.ownOff oo_19.out hg20 (fun b h1 h2 => by have h3 := h1.1; have h4 := h1.2; have h5 := h2.1; have h6 := h2.2; omega))
  have B_20 := B_19.trans (hg20.toBelow (by omega) B_19.size)
  have zz20 : w19.heap.size ≤ w20.heap.size := hg20.size
  clear p00_19 p01_19 Wt0_19 Wt1_19 X00_19 X01_19 Gt0_19 Gt1_19 oo_19 og_19 B_19
  clear hg20
  have gpos : ¬ (1 : Int) + (VA : Int) < 0 := by omega
  go_wp2_with fail
  refine (heldTableau_rep pa _ na _ ta 1 _ HNA.out hnA HSA.out.sum (by omega) (by omega) (RRows.atR og_20.out)).mono ?_
  rintro e w21 ⟨rfl, hb21⟩
  rw [HVA.out]
  have p00_21 := cell_later hb21 p00_20
  have p01_21 := cell_later hb21 p01_20
  have Wt0_21 := cell_later hb21 Wt0_20
  have Wt1_21 := cell_later hb21 Wt1_20
  have X00_21 := cell_later hb21 X00_20
  have X01_21 := cell_later hb21 X01_20
  have Gt0_21 := cell_later hb21 Gt0_20
  have Gt1_21 := cell_later hb21 Gt1_20
  have oo_21 := Hid.mk (RRows.ownBelow oo_20.out hb21)
  have og_21 := Hid.mk (RRows.ownBelow og_20.out hb21)
  have B_21 := B_20.trans (hb21.mono B_20.size)
  have zz21 : w20.heap.size ≤ w21.heap.size := hb21.size
  clear p00_20 p01_20 Wt0_20 Wt1_20 X00_20 X01_20 Gt0_20 Gt1_20 oo_20 og_20 B_20
  clear hb21
  go_wp2_with fail
  refine (toTableau_any p0 a0 n0 c0 z0 _ HSM0.out (AtS.below HA0.out B_21)).mono ?_
  rintro e w22 ⟨g22, rfl, ho22, hb22⟩
  have oh0_22 := Hid.mk ho22
  clear ho22
  have p00_22 := cell_later hb22 p00_21
  have p01_22 := cell_later hb22 p01_21
  have Wt0_22 := cell_later hb22 Wt0_21
  have Wt1_22 := cell_later hb22 Wt1_21
  have X00_22 := cell_later hb22 X00_21
  have X01_22 := cell_later hb22 X01_21
  have Gt0_22 := cell_later hb22 Gt0_21
  have Gt1_22 := cell_later hb22 Gt1_21
  have oo_22 := Hid.mk (RRows.ownBelow oo_21.out hb22)
  have og_22 := Hid.mk (RRows.ownBelow og_21.out hb22)
  have B_22 := B_21.trans (hb22.mono B_21.size)
  have zz22 : w21.heap.size ≤ w22.heap.size := hb22.size
  clear p00_21 p01_21 Wt0_21 Wt1_21 X00_21 X01_21 Gt0_21 Gt1_21 oo_21 og_21 B_21
  clear hb22
  go_wp2_with fail
  refine (toDependSG a1 n1 c1 z1 _ HSM1.out (AtSl.below HA1.out B_22)).mono ?_
  rintro e w23 ⟨g23, rfl, ho23, hb23⟩
  have oh1_23 := Hid.mk ho23
  clear ho23
  have p00_23 := cell_later hb23 p00_22
  have p01_23 := cell_later hb23 p01_22
  have Wt0_23 := cell_later hb23 Wt0_22
  have Wt1_23 := cell_later hb23 Wt1_22
  have X00_23 := cell_later hb23 X00_22
  have X01_23 := cell_later hb23 X01_22
  have Gt0_23 := cell_later hb23 Gt0_22
  have Gt1_23 := cell_later hb23 Gt1_22
  have oo_23 := Hid.mk (RRows.ownBelow oo_22.out hb23)
  have og_23 := Hid.mk (RRows.ownBelow og_22.out hb23)
  have oh0_23 := Hid.mk (RTbl.ownBelow oh0_22.out hb23)
  have B_23 := B_22.trans (hb23.mono B_22.size)
  have zz23 : w22.heap.size ≤ w23.heap.size := hb23.size
  clear p00_22 p01_22 Wt0_22 Wt1_22 X00_22 X01_22 Gt0_22 Gt1_22 oo_22 og_22 oh0_22 B_22
  clear hb23
  go_wp2_with fail
  refine (HI.out _ _ _ _ _ oh0_23.out oh1_23.out).mono ?_
  rintro e w24 ⟨⟨r24, m24, d24, rfl, ho24⟩, hb24⟩
  clear oh0_23
  clear oh1_23
  obtain rfl : na = m24 := HNA.out.symm.trans (RRows.atS ho24).1
  have ohg_24 := Hid.mk ho24
  clear ho24
  have p00_24 := cell_later hb24 p00_23
  have p01_24 := cell_later hb24 p01_23
  have Wt0_24 := cell_later hb24 Wt0_23
  have Wt1_24 := cell_later hb24 Wt1_23
  have X00_24 := cell_later hb24 X00_23
  have X01_24 := cell_later hb24 X01_23
  have Gt0_24 := cell_later hb24 Gt0_23
  have Gt1_24 := cell_later hb24 Gt1_23
  have oo_24 := Hid.mk (RRows.ownBelow oo_23.out hb24)
  have og_24 := Hid.mk (RRows.ownBelow og_23.out hb24)
  have B_24 := B_23.trans (hb24.mono B_23.size)
  have zz24 : w23.heap.size ≤ w24.heap.size := hb24.size
  clear p00_23 p01_23 Wt0_23 Wt1_23 X00_23 X01_23 Gt0_23 Gt1_23 oo_23 og_23 B_23
  clear hb24
  obtain ⟨w25, hU25⟩ : ∃ u, u = w24.alloc (.cells #[.int .i64 pa, .slice r24 na d24] 30) := ⟨_, rfl⟩
  have hb25 : Below w24.heap.size w24 w25 := by rw [hU25]; exact (Below.refl _ _).alloc (Nat.le_refl _) _
  have zl25 : w24.heap.size < w25.heap.size := by rw [hU25]; simp
  have nHt0 : w25.cell? ⟨w24.heap.size, 0, none⟩ = some (.int .i64 pa) := by rw [hU25]; simp
  have nHt1 : w25.cell? ⟨w24.heap.size, 1, none⟩ = some (.slice r24 na d24) := by rw [hU25]; simp
  have p00_25 := cell_later hb25 p00_24
  have p01_25 := cell_later hb25 p01_24
  have Wt0_25 := cell_later hb25 Wt0_24
  have Wt1_25 := cell_later hb25 Wt1_24
  have X00_25 := cell_later hb25 X00_24
  have X01_25 := cell_later hb25 X01_24
  have Gt0_25 := cell_later hb25 Gt0_24
  have Gt1_25 := cell_later hb25 Gt1_24
  have oo_25 := Hid.mk (RRows.ownBelow oo_24.out hb25)
  have og_25 := Hid.mk (RRows.ownBelow og_24.out hb25)
  have ohg_25 := Hid.mk (RRows.ownBelow ohg_24.out hb25)
  have B_25 := B_24.trans (hb25.mono B_24.size)
  have zz25 : w24.heap.size ≤ w25.heap.size := hb25.size
  clear p00_24 p01_24 Wt0_24 Wt1_24 X00_24 X01_24 Gt0_24 Gt1_24 oo_24 og_24 ohg_24 B_24
  clear hb25
  have xp00 := p00_25
  rw [hU25] at xp00
  have xp01 := p01_25
  rw [hU25] at xp01
  have xWt0 := Wt0_25
  rw [hU25] at xWt0
  have xWt1 := Wt1_25
  rw [hU25] at xWt1
  have xX00 := X00_25
  rw [hU25] at xX00
  have xX01 := X01_25
  rw [hU25] at xX01
  have xGt0 := Gt0_25
  rw [hU25] at xGt0
  have xGt1 := Gt1_25
  rw [hU25] at xGt1
  have xHt0 := nHt0
  rw [hU25] at xHt0
  have xHt1 := nHt1
  rw [hU25] at xHt1
  go_wp2_with fail
  rw [← hU25]
  clear hU25
  clear xp00 xp01 xWt0 xWt1 xX00 xX01 xGt0 xGt1 xHt0 xHt1
  refine (eqTableau_same pa _ _ na _ _ ta _ HSA.out (RRows.atS ohg_25.out).2 (RRows.atS oo_25.out).2).mono ?_
  rintro e w26 ⟨rfl, hb26⟩
  have p00_26 := cell_later hb26 p00_25
  have p01_26 := cell_later hb26 p01_25
  have Wt0_26 := cell_later hb26 Wt0_25
  have Wt1_26 := cell_later hb26 Wt1_25
  have X00_26 := cell_later hb26 X00_25
  have X01_26 := cell_later hb26 X01_25
  have Gt0_26 := cell_later hb26 Gt0_25
  have Gt1_26 := cell_later hb26 Gt1_25
  have Ht0_26 := cell_later hb26 nHt0
  have Ht1_26 := cell_later hb26 nHt1
  have oo_26 := Hid.mk (RRows.ownBelow oo_25.out hb26)
  have og_26 := Hid.mk (RRows.ownBelow og_25.out hb26)
  have ohg_26 := Hid.mk (RRows.ownBelow ohg_25.out hb26)
  have B_26 := B_25.trans (hb26.mono B_25.size)
  have zz26 : w25.heap.size ≤ w26.heap.size := hb26.size
  clear p00_25 p01_25 Wt0_25 Wt1_25 X00_25 X01_25 Gt0_25 Gt1_25 nHt0 nHt1 oo_25 og_25 ohg_25 B_25
  clear hb26
  go_wp2_with fail
  refine (heldTableau_rep pa _ na _ ta 1 _ HNA.out hnA HSA.out.sum (by omega) (by omega) (RRows.atR og_26.out)).mono ?_
  rintro e w27 ⟨rfl, hb27⟩
  rw [HVA.out]
  have p00_27 := cell_later hb27 p00_26
  have p01_27 := cell_later hb27 p01_26
  have Wt0_27 := cell_later hb27 Wt0_26
  have Wt1_27 := cell_later hb27 Wt1_26
  have X00_27 := cell_later hb27 X00_26
  have X01_27 := cell_later hb27 X01_26
  have Gt0_27 := cell_later hb27 Gt0_26
  have Gt1_27 := cell_later hb27 Gt1_26
  have Ht0_27 := cell_later hb27 Ht0_26
  have Ht1_27 := cell_later hb27 Ht1_26
  have oo_27 := Hid.mk (RRows.ownBelow oo_26.out hb27)
  have og_27 := Hid.mk (RRows.ownBelow og_26.out hb27)
  have ohg_27 := Hid.mk (RRows.ownBelow ohg_26.out hb27)
  have B_27 := B_26.trans (hb27.mono B_26.size)
  have zz27 : w26.heap.size ≤ w27.heap.size := hb27.size
  clear p00_26 p01_26 Wt0_26 Wt1_26 X00_26 X01_26 Gt0_26 Gt1_26 Ht0_26 Ht1_26 oo_26 og_26 ohg_26 B_26
  clear hb27
  go_wp2
  go_ret
  exact ⟨rfl, B_27⟩

end Go.Proofs.Ythliamoeplgblaa

/- Opening the laws' arguments: rows, slices of ints; plain facts on readings. -/
namespace Go.Proofs.Ythliamoeplgblaa
open Go.ChangeShapes Go.WideShapes Go.ChangeAt Go.RowKit Go.Joins Go.Deep

section
variable {H : Type} {enc : TypeId × Value → H} {P : Program} {w : World} {base : Nat} {spare : Nat → Bool} {held : Bool}

theorem array1 {α : Type} {cs : Array α} (h : cs.size = 1) : ∃ c0, cs = #[c0] := by
  obtain ⟨l⟩ := cs
  match l, h with
  | [c0], _ => exact ⟨c0, rfl⟩

theorem open_agg1 {r : Reach} {b0 : Nat} {t : TypeId} {f0 : Field} {v : Value} {d : DataW H} {p : List MemPlace} (hs : P.underlying t = some (.struct #[f0])) (hone : oneCellFields P #[f0] = true) (hC : P.cellsOf t = 1)
    (hv : Value.okWide P w r b0 t v) (h : DataW.Trod enc P w base spare held t v d p) :
    ∃ (v0 : Value) (y0 : DataW H × List MemPlace) (n : Nat), v = .agg #[v0] ∧ d = .agg [y0.1] ∧ p = y0.2 ∧ DataW.trod enc P w base spare held n f0.type [v0] = some y0 := by
  obtain ⟨cs, rfl, hsz⟩ := okWide_struct hs hv
  obtain ⟨c0, rfl⟩ := array1 (hsz.trans hC)
  obtain ⟨fuel, hf⟩ := h
  obtain ⟨y0, n, hx, _, h0⟩ := trod_struct1 hs hf
  obtain ⟨o0, k0⟩ := hone_of hone 0 f0 rfl
  simp only [Prod.mk.injEq] at hx
  exact ⟨c0, y0, n, rfl, hx.1, hx.2, by simpa [Value.cells, o0, k0] using h0⟩

/-- A slice of ints that reads: its numbers. -/
theorem open_at {t e : TypeId} {fuel n c : Nat} {a : Option Addr} {x : DataW H × List MemPlace} (ht : P.underlying t = some (.slice e)) (he : P.underlying e = some (.int .i64)) (hC : P.cellsOf e = 1)
    (h : DataW.trod enc P w base spare held fuel t [.slice a n c] = some x) : ∃ zs : List Int, zs.length = n ∧ n ≤ 9223372036854775807 ∧ At w a zs := by
  rcases open_ints ht he hC h with ⟨hcs, _⟩ | ⟨ad, l, c', zs, hcs, _, hl, hm, hz, _, hcell, _⟩
  · simp at hcs
    obtain ⟨rfl, rfl, rfl⟩ := hcs
    exact ⟨[], rfl, by omega, At.nil _ _⟩
  · simp at hcs
    obtain ⟨rfl, rfl, rfl⟩ := hcs
    unfold maxLen at hm
    have hz' : n ≤ zs.length := by split at hz <;> omega
    refine ⟨zs.take n, by simp; omega, by omega, ?_⟩
    by_cases h0 : n = 0
    · left; simp [h0]
    · right
      obtain ⟨b, off, spot⟩ := ad
      have hc := hcell 0 (by omega)
      have hspot : spot = none := by simpa [Addr.add] using World.cell?_spot hc
      subst hspot
      refine ⟨b, off, rfl, fun i hi => ?_⟩
      have hin : i < n := by simp at hi; omega
      have := hcell i (by omega)
      rw [show (zs.take n).getD i 0 = zs.getD i 0 by simp [List.getD, hin]]
      rw [Addr.add_lit] at this
      exact this

/-- A struct of one slice of ints, by value. -/
theorem open_row {r : Reach} {b0 : Nat} {t ts e : TypeId} {f0 : Field} {v : Value} {d : DataW H} {p : List MemPlace} (hs : P.underlying t = some (.struct #[f0])) (hf0 : f0.type = ts) (hone : oneCellFields P #[f0] = true) (hC : P.cellsOf t = 1)
    (ht : P.underlying ts = some (.slice e)) (he : P.underlying e = some (.int .i64)) (hCe : P.cellsOf e = 1)
    (hv : Value.okWide P w r b0 t v) (h : DataW.Trod enc P w base spare held t v d p) : ∃ a n c, v = .agg #[.slice a n c] ∧ ∃ zs : List Int, zs.length = n ∧ n ≤ 9223372036854775807 ∧ At w a zs := by
  obtain ⟨v0, y0, m, rfl, _, _, h0⟩ := open_agg1 hs hone hC hv h
  subst hf0
  obtain ⟨a, n, c, hcs⟩ := slice_form ht h0
  obtain rfl : v0 = .slice a n c := by simpa using hcs
  exact ⟨a, n, c, rfl, open_at ht he hCe h0⟩
end

end Go.Proofs.Ythliamoeplgblaa
