/- The law FnExactNewSink returns true at every input, and writes nothing that was there. -/
import Derived.Test.YtecaaekilbdgdaaNkI
import Derived.Test.YtecaaekilbdgdaaNkS
import Derived.Test.YtecaaekilbdgdaaSkkL
import Derived.Test.YtecaaekilbdgdaaRepD
import Derived.Test.YtecaaekilbdgdaaIntE
import Derived.Test.YtecaaekilbdgdaaIntM
namespace Go.Proofs.Ytecaaekilbdgdaa
open Go.RowKit

set_option maxRecDepth 100000 in
set_option maxHeartbeats 16000000 in
theorem lawNewSink (a0 : Option Addr) (n0 c0 : Nat) (z0 : List Int) (w : World) (hz0 : z0.length = n0) (hn0 : n0 ≤ 9223372036854775807) (ha0 : At w a0 z0) :
    Calls Try.prog 3 #[.slice a0 n0 c0] w fun e w' => e = .returned (.bool true) ∧ Below w.heap.size w w' := by
  have HA0 := Hid.mk ha0
  have HZ0 := Hid.mk hz0
  clear ha0 hz0
  have B0 : Below w.heap.size w w := Below.refl _ _
  by_cases big0 : 1048576 < n0
  · have big0' : (1048576 : Int) < (n0 : Int) := by omega
    go_enter Try.func3, Try.ntmps3
    go_wp2
    go_ret
    exact ⟨rfl, B0⟩
  have hb0' : ¬ (1048576 : Int) < (n0 : Int) := by omega
  have hsn0 : n0 ≤ 1048576 := by omega
  have HVB0 := hsn0
  obtain ⟨v0, t0, t1, t2, t3, t4, t5, t6, hsA, HS, HI⟩ : ∃ (v0 : Bool) (t0 : List Int) (t1 : Int) (t2 : List Int) (t3 : List TPrepared) (t4 : List Int) (t5 : Int) (t6 : Int), costSink (t0, t1, t2, t3, t4, t5, t6) ≤ 1048576 ∧ Hid (∀ (x0 : Nat) (w : World) (F0 : Nat → Prop), RInts.Own w F0 [.slice (some ⟨x0, 0, none⟩) n0 n0] z0 → Calls Try.prog 8 #[.slice (some ⟨x0, 0, none⟩) n0 n0] w fun e w' => SinkRet e w' w.heap.size v0 (t0, t1, t2, t3, t4, t5, t6) ∧ Below w.heap.size w w') ∧ Hid (∀ (x0 : Nat) (w : World) (F0 : Nat → Prop), RInts.Own w F0 [.slice (some ⟨x0, 0, none⟩) n0 n0] z0 → Calls Try.prog 10 #[.slice (some ⟨x0, 0, none⟩) n0 n0] w fun e w' => SinkRet e w' w.heap.size v0 (t0, t1, t2, t3, t4, t5, t6) ∧ Below w.heap.size w w') := ⟨gkB (newK z0), (if gkB (newK z0) then newK z0 else newK []).1, (if gkB (newK z0) then newK z0 else newK []).2.1, (if gkB (newK z0) then newK z0 else newK []).2.2.1, (if gkB (newK z0) then newK z0 else newK []).2.2.2.1, (if gkB (newK z0) then newK z0 else newK []).2.2.2.2.1, (if gkB (newK z0) then newK z0 else newK []).2.2.2.2.2.1, (if gkB (newK z0) then newK z0 else newK []).2.2.2.2.2.2, new_smallK z0, fun x0 w F0 o0 => specNewSink (some ⟨x0, 0, none⟩) n0 n0 z0 w HZ0.out hsn0 (fun h => by cases h) (ints_at o0), fun x0 w F0 o0 => implNewSink (some ⟨x0, 0, none⟩) n0 n0 z0 w HZ0.out hsn0 (fun h => by cases h) (ints_at o0)⟩
  obtain ⟨l0, hl0⟩ : ∃ l, t0.length = l := ⟨_, rfl⟩
  obtain ⟨l2, hl2⟩ : ∃ l, t2.length = l := ⟨_, rfl⟩
  obtain ⟨l3, hl3⟩ : ∃ l, t3.length = l := ⟨_, rfl⟩
  obtain ⟨l4, hl4⟩ : ∃ l, t4.length = l := ⟨_, rfl⟩
  have hsm := smallSink hl0 hl2 hl3 hl4 (by omega : costSink (t0, t1, t2, t3, t4, t5, t6) ≤ 1048576)
  have hs0 : l0 ≤ 1048576 := hsm.1
  have hs2 : l2 ≤ 1048576 := hsm.2.1
  have hs3 : l3 ≤ 1048576 := hsm.2.2.1
  have HD3 := Hid.mk hsm.2.2.2.1
  have hs4 : l4 ≤ 1048576 := hsm.2.2.2.2
  have hcc : l0 + l2 + (l3 + csumPrepared t3 l3) + l4 ≤ 1048576 := by unfold costSink at hsA; simp only [hl0, hl2, hl3, hl4] at hsA; omega
  have hcs3 : csumPrepared t3 l3 ≤ 1048576 := by omega
  obtain ⟨VA, hVA⟩ : ∃ V : Nat, mknSink (t0, t1, t2, t3, t4, t5, t6) = V := ⟨_, rfl⟩
  have hvA : VA ≤ 8388608 := by
    rw [← hVA]
    unfold mknSink
    simp only [hl0, hl2, hl3, hl4]
    rw [msumPrepared_eq t3 l3 (by omega)]
    omega
  have HVA := Hid.mk hVA
  have HL0 := Hid.mk hl0
  have HL2 := Hid.mk hl2
  have HL3 := Hid.mk hl3
  have HL4 := Hid.mk hl4
  clear hVA hsA hsm hcc hl0 hl2 hl3 hl4
  go_enter Try.func3, Try.ntmps3
  go_wp2_with fail
  refine (toInts_rep a0 n0 c0 z0 _ HZ0.out hsn0 (At.below HA0.out B0)).mono ?_
  rintro e w1 ⟨g1, rfl, ho1, hb1⟩
  have ot0_1 := Hid.mk ho1
  clear ho1
  have B_1 := B0.trans (hb1.mono B0.size)
  have zz1 : w.heap.size ≤ w1.heap.size := hb1.size
  clear hb1
  go_wp2_with fail
  refine (HS.out _ _ _ ot0_1.out).mono ?_
  rintro e w2 ⟨⟨r02, m02, d02, r22, m22, d22, r32, m32, d32, r42, m42, d42, rfl, ho2⟩, hb2⟩
  clear ot0_1
  obtain rfl : l0 = m02 := HL0.out.symm.trans (RSink.lens ho2).1
  obtain rfl : l2 = m22 := HL2.out.symm.trans (RSink.lens ho2).2.2.1
  obtain rfl : l3 = m32 := HL3.out.symm.trans (RSink.lens ho2).2.2.2.2.1
  obtain rfl : l4 = m42 := HL4.out.symm.trans (RSink.lens ho2).2.2.2.2.2.2.1
  have oo_2 := Hid.mk ho2
  clear ho2
  have B_2 := B_1.trans (hb2.mono B_1.size)
  have zz2 : w1.heap.size ≤ w2.heap.size := hb2.size
  clear B_1
  clear hb2
  obtain ⟨w3, hU3⟩ : ∃ u, u = w2.alloc (.cells #[.slice r02 l0 d02, .int .i64 t1, .slice r22 l2 d22, .slice r32 l3 d32, .slice r42 l4 d42, .int .i64 t5, .int .i64 t6] 25) := ⟨_, rfl⟩
  have hb3 : Below w2.heap.size w2 w3 := by rw [hU3]; exact (Below.refl _ _).alloc (Nat.le_refl _) _
  have zl3 : w2.heap.size < w3.heap.size := by rw [hU3]; simp
  have nWt0 : w3.cell? ⟨w2.heap.size, 0, none⟩ = some (.slice r02 l0 d02) := by rw [hU3]; simp
  have nWt1 : w3.cell? ⟨w2.heap.size, 1, none⟩ = some (.int .i64 t1) := by rw [hU3]; simp
  have nWt2 : w3.cell? ⟨w2.heap.size, 2, none⟩ = some (.slice r22 l2 d22) := by rw [hU3]; simp
  have nWt3 : w3.cell? ⟨w2.heap.size, 3, none⟩ = some (.slice r32 l3 d32) := by rw [hU3]; simp
  have nWt4 : w3.cell? ⟨w2.heap.size, 4, none⟩ = some (.slice r42 l4 d42) := by rw [hU3]; simp
  have nWt5 : w3.cell? ⟨w2.heap.size, 5, none⟩ = some (.int .i64 t5) := by rw [hU3]; simp
  have nWt6 : w3.cell? ⟨w2.heap.size, 6, none⟩ = some (.int .i64 t6) := by rw [hU3]; simp
  have oo_3 := Hid.mk (RSink.ownBelow oo_2.out hb3)
  have B_3 := B_2.trans (hb3.mono B_2.size)
  have zz3 : w2.heap.size ≤ w3.heap.size := hb3.size
  clear oo_2 B_2
  clear hb3
  have xWt0 := nWt0
  rw [hU3] at xWt0
  have xWt1 := nWt1
  rw [hU3] at xWt1
  have xWt2 := nWt2
  rw [hU3] at xWt2
  have xWt3 := nWt3
  rw [hU3] at xWt3
  have xWt4 := nWt4
  rw [hU3] at xWt4
  have xWt5 := nWt5
  rw [hU3] at xWt5
  have xWt6 := nWt6
  rw [hU3] at xWt6
  go_wp2_with fail
  rw [← hU3]
  clear hU3
  clear xWt0 xWt1 xWt2 xWt3 xWt4 xWt5 xWt6
  refine (toInts_rep a0 n0 c0 z0 _ HZ0.out hsn0 (At.below HA0.out B_3)).mono ?_
  rintro e w4 ⟨g4, rfl, ho4, hb4⟩
  have ox0_4 := Hid.mk ho4
  clear ho4
  have Wt0_4 := cell_later hb4 nWt0
  have Wt1_4 := cell_later hb4 nWt1
  have Wt2_4 := cell_later hb4 nWt2
  have Wt3_4 := cell_later hb4 nWt3
  have Wt4_4 := cell_later hb4 nWt4
  have Wt5_4 := cell_later hb4 nWt5
  have Wt6_4 := cell_later hb4 nWt6
  have oo_4 := Hid.mk (RSink.ownBelow oo_3.out hb4)
  have B_4 := B_3.trans (hb4.mono B_3.size)
  have zz4 : w3.heap.size ≤ w4.heap.size := hb4.size
  clear nWt0 nWt1 nWt2 nWt3 nWt4 nWt5 nWt6 oo_3 B_3
  clear hb4
  go_wp2_with fail
  refine (HI.out _ _ _ ox0_4.out).mono ?_
  rintro e w5 ⟨⟨r05, m05, d05, r25, m25, d25, r35, m35, d35, r45, m45, d45, rfl, ho5⟩, hb5⟩
  obtain rfl : l0 = m05 := HL0.out.symm.trans (RSink.lens ho5).1
  obtain rfl : l2 = m25 := HL2.out.symm.trans (RSink.lens ho5).2.2.1
  obtain rfl : l3 = m35 := HL3.out.symm.trans (RSink.lens ho5).2.2.2.2.1
  obtain rfl : l4 = m45 := HL4.out.symm.trans (RSink.lens ho5).2.2.2.2.2.2.1
  have og_5 := Hid.mk ho5
  clear ho5
  have Wt0_5 := cell_later hb5 Wt0_4
  have Wt1_5 := cell_later hb5 Wt1_4
  have Wt2_5 := cell_later hb5 Wt2_4
  have Wt3_5 := cell_later hb5 Wt3_4
  have Wt4_5 := cell_later hb5 Wt4_4
  have Wt5_5 := cell_later hb5 Wt5_4
  have Wt6_5 := cell_later hb5 Wt6_4
  have oo_5 := Hid.mk (RSink.ownBelow oo_4.out hb5)
  have ox0_5 := Hid.mk (RInts.ownBelow ox0_4.out hb5)
  have B_5 := B_4.trans (hb5.mono B_4.size)
  have zz5 : w4.heap.size ≤ w5.heap.size := hb5.size
  clear Wt0_4 Wt1_4 Wt2_4 Wt3_4 Wt4_4 Wt5_4 Wt6_4 oo_4 ox0_4 B_4
  clear hb5
  obtain ⟨w6, hU6⟩ : ∃ u, u = w5.alloc (.cells #[.slice r05 l0 d05, .int .i64 t1, .slice r25 l2 d25, .slice r35 l3 d35, .slice r45 l4 d45, .int .i64 t5, .int .i64 t6] 25) := ⟨_, rfl⟩
  have hb6 : Below w5.heap.size w5 w6 := by rw [hU6]; exact (Below.refl _ _).alloc (Nat.le_refl _) _
  have zl6 : w5.heap.size < w6.heap.size := by rw [hU6]; simp
  have nGt0 : w6.cell? ⟨w5.heap.size, 0, none⟩ = some (.slice r05 l0 d05) := by rw [hU6]; simp
  have nGt1 : w6.cell? ⟨w5.heap.size, 1, none⟩ = some (.int .i64 t1) := by rw [hU6]; simp
  have nGt2 : w6.cell? ⟨w5.heap.size, 2, none⟩ = some (.slice r25 l2 d25) := by rw [hU6]; simp
  have nGt3 : w6.cell? ⟨w5.heap.size, 3, none⟩ = some (.slice r35 l3 d35) := by rw [hU6]; simp
  have nGt4 : w6.cell? ⟨w5.heap.size, 4, none⟩ = some (.slice r45 l4 d45) := by rw [hU6]; simp
  have nGt5 : w6.cell? ⟨w5.heap.size, 5, none⟩ = some (.int .i64 t5) := by rw [hU6]; simp
  have nGt6 : w6.cell? ⟨w5.heap.size, 6, none⟩ = some (.int .i64 t6) := by rw [hU6]; simp
  have Wt0_6 := cell_later hb6 Wt0_5
  have Wt1_6 := cell_later hb6 Wt1_5
  have Wt2_6 := cell_later hb6 Wt2_5
  have Wt3_6 := cell_later hb6 Wt3_5
  have Wt4_6 := cell_later hb6 Wt4_5
  have Wt5_6 := cell_later hb6 Wt5_5
  have Wt6_6 := cell_later hb6 Wt6_5
  have oo_6 := Hid.mk (RSink.ownBelow oo_5.out hb6)
  have ox0_6 := Hid.mk (RInts.ownBelow ox0_5.out hb6)
  have og_6 := Hid.mk (RSink.ownBelow og_5.out hb6)
  have B_6 := B_5.trans (hb6.mono B_5.size)
  have zz6 : w5.heap.size ≤ w6.heap.size := hb6.size
  clear Wt0_5 Wt1_5 Wt2_5 Wt3_5 Wt4_5 Wt5_5 Wt6_5 oo_5 ox0_5 og_5 B_5
  clear hb6
  have xWt0 := Wt0_6
  rw [hU6] at xWt0
  have xWt1 := Wt1_6
  rw [hU6] at xWt1
  have xWt2 := Wt2_6
  rw [hU6] at xWt2
  have xWt3 := Wt3_6
  rw [hU6] at xWt3
  have xWt4 := Wt4_6
  rw [hU6] at xWt4
  have xWt5 := Wt5_6
  rw [hU6] at xWt5
  have xWt6 := Wt6_6
  rw [hU6] at xWt6
  have xGt0 := nGt0
  rw [hU6] at xGt0
  have xGt1 := nGt1
  rw [hU6] at xGt1
  have xGt2 := nGt2
  rw [hU6] at xGt2
  have xGt3 := nGt3
  rw [hU6] at xGt3
  have xGt4 := nGt4
  rw [hU6] at xGt4
  have xGt5 := nGt5
  rw [hU6] at xGt5
  have xGt6 := nGt6
  rw [hU6] at xGt6
  go_wp2_with fail
  rw [← hU6]
  clear hU6
  clear xWt0 xWt1 xWt2 xWt3 xWt4 xWt5 xWt6 xGt0 xGt1 xGt2 xGt3 xGt4 xGt5 xGt6
  refine (eqSink_same _ l0 _ _ l2 _ _ l3 _ _ l4 _ _ _ _ _ _ _ _ _ t1 t5 t6 t0 t2 t3 t4 _ HL0.out hs0 HL2.out hs2 HL3.out hs3 HD3.out HL4.out hs4 (RSink.lens og_6.out).2.1 (RSink.lens oo_6.out).2.1 (RSink.lens og_6.out).2.2.2.1 (RSink.lens oo_6.out).2.2.2.1 (RSink.lens og_6.out).2.2.2.2.2.1 (RSink.lens oo_6.out).2.2.2.2.2.1 (RSink.lens og_6.out).2.2.2.2.2.2.2 (RSink.lens oo_6.out).2.2.2.2.2.2.2).mono ?_
  rintro e w7 ⟨rfl, hb7⟩
  have Wt0_7 := cell_later hb7 Wt0_6
  have Wt1_7 := cell_later hb7 Wt1_6
  have Wt2_7 := cell_later hb7 Wt2_6
  have Wt3_7 := cell_later hb7 Wt3_6
  have Wt4_7 := cell_later hb7 Wt4_6
  have Wt5_7 := cell_later hb7 Wt5_6
  have Wt6_7 := cell_later hb7 Wt6_6
  have Gt0_7 := cell_later hb7 nGt0
  have Gt1_7 := cell_later hb7 nGt1
  have Gt2_7 := cell_later hb7 nGt2
  have Gt3_7 := cell_later hb7 nGt3
  have Gt4_7 := cell_later hb7 nGt4
  have Gt5_7 := cell_later hb7 nGt5
  have Gt6_7 := cell_later hb7 nGt6
  have oo_7 := Hid.mk (RSink.ownBelow oo_6.out hb7)
  have ox0_7 := Hid.mk (RInts.ownBelow ox0_6.out hb7)
  have og_7 := Hid.mk (RSink.ownBelow og_6.out hb7)
  have B_7 := B_6.trans (hb7.mono B_6.size)
  have zz7 : w6.heap.size ≤ w7.heap.size := hb7.size
  clear Wt0_6 Wt1_6 Wt2_6 Wt3_6 Wt4_6 Wt5_6 Wt6_6 nGt0 nGt1 nGt2 nGt3 nGt4 nGt5 nGt6 oo_6 ox0_6 og_6 B_6
  clear hb7
  go_wp2_with fail
  refine (toInts_rep a0 n0 c0 z0 _ HZ0.out hsn0 (At.below HA0.out B_7)).mono ?_
  rintro e w8 ⟨g8, rfl, ho8, hb8⟩
  have oy_8 := Hid.mk ho8
  clear ho8
  have Wt0_8 := cell_later hb8 Wt0_7
  have Wt1_8 := cell_later hb8 Wt1_7
  have Wt2_8 := cell_later hb8 Wt2_7
  have Wt3_8 := cell_later hb8 Wt3_7
  have Wt4_8 := cell_later hb8 Wt4_7
  have Wt5_8 := cell_later hb8 Wt5_7
  have Wt6_8 := cell_later hb8 Wt6_7
  have Gt0_8 := cell_later hb8 Gt0_7
  have Gt1_8 := cell_later hb8 Gt1_7
  have Gt2_8 := cell_later hb8 Gt2_7
  have Gt3_8 := cell_later hb8 Gt3_7
  have Gt4_8 := cell_later hb8 Gt4_7
  have Gt5_8 := cell_later hb8 Gt5_7
  have Gt6_8 := cell_later hb8 Gt6_7
  have oo_8 := Hid.mk (RSink.ownBelow oo_7.out hb8)
  have ox0_8 := Hid.mk (RInts.ownBelow ox0_7.out hb8)
  have og_8 := Hid.mk (RSink.ownBelow og_7.out hb8)
  have B_8 := B_7.trans (hb8.mono B_7.size)
  have zz8 : w7.heap.size ≤ w8.heap.size := hb8.size
  clear Wt0_7 Wt1_7 Wt2_7 Wt3_7 Wt4_7 Wt5_7 Wt6_7 Gt0_7 Gt1_7 Gt2_7 Gt3_7 Gt4_7 Gt5_7 Gt6_7 oo_7 ox0_7 og_7 B_7
  clear hb8
  go_wp2_with fail
  refine (eqIntS_same _ _ n0 _ _ z0 _ HZ0.out hsn0 (ints_at ox0_8.out) (ints_at oy_8.out)).mono ?_
  rintro e w9 ⟨rfl, hb9⟩
  clear oy_8
  have Wt0_9 := cell_later hb9 Wt0_8
  have Wt1_9 := cell_later hb9 Wt1_8
  have Wt2_9 := cell_later hb9 Wt2_8
  have Wt3_9 := cell_later hb9 Wt3_8
  have Wt4_9 := cell_later hb9 Wt4_8
  have Wt5_9 := cell_later hb9 Wt5_8
  have Wt6_9 := cell_later hb9 Wt6_8
  have Gt0_9 := cell_later hb9 Gt0_8
  have Gt1_9 := cell_later hb9 Gt1_8
  have Gt2_9 := cell_later hb9 Gt2_8
  have Gt3_9 := cell_later hb9 Gt3_8
  have Gt4_9 := cell_later hb9 Gt4_8
  have Gt5_9 := cell_later hb9 Gt5_8
  have Gt6_9 := cell_later hb9 Gt6_8
  have oo_9 := Hid.mk (RSink.ownBelow oo_8.out hb9)
  have ox0_9 := Hid.mk (RInts.ownBelow ox0_8.out hb9)
  have og_9 := Hid.mk (RSink.ownBelow og_8.out hb9)
  have B_9 := B_8.trans (hb9.mono B_8.size)
  have zz9 : w8.heap.size ≤ w9.heap.size := hb9.size
  clear Wt0_8 Wt1_8 Wt2_8 Wt3_8 Wt4_8 Wt5_8 Wt6_8 Gt0_8 Gt1_8 Gt2_8 Gt3_8 Gt4_8 Gt5_8 Gt6_8 oo_8 ox0_8 og_8 B_8
  clear hb9
  go_wp2_with fail
  refine (markInts_rep (From (w3.heap.size) (w4.heap.size)) _ n0 _ z0 _ _ hsn0 (by omega) (by omega) ox0_9.out).mono ?_
  rintro e w10 ⟨rfl, ho10, hg10⟩
  have ox0_10 := Hid.mk ho10
  clear ho10
  have Wt0_10 := hg10.cell Wt0_9 (show ¬ From (w3.heap.size) (w4.heap.size) (w2.heap.size) from fun h => by have h1 := h.1; have h2 := h.2; omega)
  have Wt1_10 := hg10.cell Wt1_9 (show ¬ From (w3.heap.size) (w4.heap.size) (w2.heap.size) from fun h => by have h1 := h.1; have h2 := h.2; omega)
  have Wt2_10 := hg10.cell Wt2_9 (show ¬ From (w3.heap.size) (w4.heap.size) (w2.heap.size) from fun h => by have h1 := h.1; have h2 := h.2; omega)
  have Wt3_10 := hg10.cell Wt3_9 (show ¬ From (w3.heap.size) (w4.heap.size) (w2.heap.size) from fun h => by have h1 := h.1; have h2 := h.2; omega)
  have Wt4_10 := hg10.cell Wt4_9 (show ¬ From (w3.heap.size) (w4.heap.size) (w2.heap.size) from fun h => by have h1 := h.1; have h2 := h.2; omega)
  have Wt5_10 := hg10.cell Wt5_9 (show ¬ From (w3.heap.size) (w4.heap.size) (w2.heap.size) from fun h => by have h1 := h.1; have h2 := h.2; omega)
  have Wt6_10 := hg10.cell Wt6_9 (show ¬ From (w3.heap.size) (w4.heap.size) (w2.heap.size) from fun h => by have h1 := h.1; have h2 := h.2; omega)
  have Gt0_10 := hg10.cell Gt0_9 (show ¬ From (w3.heap.size) (w4.heap.size) (w5.heap.size) from fun h => by have h1 := h.1; have h2 := h.2; omega)
  have Gt1_10 := hg10.cell Gt1_9 (show ¬ From (w3.heap.size) (w4.heap.size) (w5.heap.size) from fun h => by have h1 := h.1; have h2 := h.2; omega)
  have Gt2_10 := hg10.cell Gt2_9 (show ¬ From (w3.heap.size) (w4.heap.size) (w5.heap.size) from fun h => by have h1 := h.1; have h2 := h.2; omega)
  have Gt3_10 := hg10.cell Gt3_9 (show ¬ From (w3.heap.size) (w4.heap.size) (w5.heap.size) from fun h => by have h1 := h.1; have h2 := h.2; omega)
  have Gt4_10 := hg10.cell Gt4_9 (show ¬ From (w3.heap.size) (w4.heap.size) (w5.heap.size) from fun h => by have h1 := h.1; have h2 := h.2; omega)
  have Gt5_10 := hg10.cell Gt5_9 (show ¬ From (w3.heap.size) (w4.heap.size) (w5.heap.size) from fun h => by have h1 := h.1; have h2 := h.2; omega)
  have Gt6_10 := hg10.cell Gt6_9 (show ¬ From (w3.heap.size) (w4.heap.size) (w5.heap.size) from fun h => by have h1 := h.1; have h2 := h.2; omega)
  have oo_10 := Hid.mk (RSink.ownOff oo_9.out hg10 (fun b h1 h2 => by have h3 := h1.1; have h4 := h1.2; have h5 := h2.1; have h6 := h2.2; omega))
  have og_10 := Hid.mk (RSink.ownOff og_9.out hg10 (fun b h1 h2 => by have h3 := h1.1; have h4 := h1.2; have h5 := h2.1; have h6 := h2.2; omega))
  have B_10 := B_9.trans (hg10.toBelow (by omega) B_9.size)
  have zz10 : w9.heap.size ≤ w10.heap.size := hg10.size
  clear Wt0_9 Wt1_9 Wt2_9 Wt3_9 Wt4_9 Wt5_9 Wt6_9 Gt0_9 Gt1_9 Gt2_9 Gt3_9 Gt4_9 Gt5_9 Gt6_9 oo_9 ox0_9 og_9 B_9
  clear hg10
  have kpos : ¬ (1 : Int) + (n0 : Int) < 0 := by omega
  go_wp2_with fail
  refine (eqSink_same _ l0 _ _ l2 _ _ l3 _ _ l4 _ _ _ _ _ _ _ _ _ t1 t5 t6 t0 t2 t3 t4 _ HL0.out hs0 HL2.out hs2 HL3.out hs3 HD3.out HL4.out hs4 (RSink.lens og_10.out).2.1 (RSink.lens oo_10.out).2.1 (RSink.lens og_10.out).2.2.2.1 (RSink.lens oo_10.out).2.2.2.1 (RSink.lens og_10.out).2.2.2.2.2.1 (RSink.lens oo_10.out).2.2.2.2.2.1 (RSink.lens og_10.out).2.2.2.2.2.2.2 (RSink.lens oo_10.out).2.2.2.2.2.2.2).mono ?_
  rintro e w11 ⟨rfl, hb11⟩
  have Wt0_11 := cell_later hb11 Wt0_10
  have Wt1_11 := cell_later hb11 Wt1_10
  have Wt2_11 := cell_later hb11 Wt2_10
  have Wt3_11 := cell_later hb11 Wt3_10
  have Wt4_11 := cell_later hb11 Wt4_10
  have Wt5_11 := cell_later hb11 Wt5_10
  have Wt6_11 := cell_later hb11 Wt6_10
  have Gt0_11 := cell_later hb11 Gt0_10
  have Gt1_11 := cell_later hb11 Gt1_10
  have Gt2_11 := cell_later hb11 Gt2_10
  have Gt3_11 := cell_later hb11 Gt3_10
  have Gt4_11 := cell_later hb11 Gt4_10
  have Gt5_11 := cell_later hb11 Gt5_10
  have Gt6_11 := cell_later hb11 Gt6_10
  have oo_11 := Hid.mk (RSink.ownBelow oo_10.out hb11)
  have ox0_11 := Hid.mk (RInts.ownBelow ox0_10.out hb11)
  have og_11 := Hid.mk (RSink.ownBelow og_10.out hb11)
  have B_11 := B_10.trans (hb11.mono B_10.size)
  have zz11 : w10.heap.size ≤ w11.heap.size := hb11.size
  clear Wt0_10 Wt1_10 Wt2_10 Wt3_10 Wt4_10 Wt5_10 Wt6_10 Gt0_10 Gt1_10 Gt2_10 Gt3_10 Gt4_10 Gt5_10 Gt6_10 oo_10 ox0_10 og_10 B_10
  clear hb11
  clear ox0_11
  go_wp2_with fail
  refine (markSink_rep (From (w4.heap.size) (w5.heap.size)) _ l0 _ _ l2 _ _ l3 _ _ l4 _ t1 t5 t6 t0 t2 t3 t4 1 _ HL0.out hs0 HL2.out hs2 HL3.out hs3 HD3.out HL4.out hs4 hcs3 (by omega) (by omega) (fun b h => by have h2 := h.2; omega) og_11.out).mono ?_
  rintro e w12 ⟨rfl, ho12, hg12⟩
  rw [HVA.out]
  have og_12 := Hid.mk ho12
  clear ho12
  have Wt0_12 := hg12.cell Wt0_11 (show ¬ From (w4.heap.size) (w5.heap.size) (w2.heap.size) from fun h => by have h1 := h.1; have h2 := h.2; omega)
  have Wt1_12 := hg12.cell Wt1_11 (show ¬ From (w4.heap.size) (w5.heap.size) (w2.heap.size) from fun h => by have h1 := h.1; have h2 := h.2; omega)
  have Wt2_12 := hg12.cell Wt2_11 (show ¬ From (w4.heap.size) (w5.heap.size) (w2.heap.size) from fun h => by have h1 := h.1; have h2 := h.2; omega)
  have Wt3_12 := hg12.cell Wt3_11 (show ¬ From (w4.heap.size) (w5.heap.size) (w2.heap.size) from fun h => by have h1 := h.1; have h2 := h.2; omega)
  have Wt4_12 := hg12.cell Wt4_11 (show ¬ From (w4.heap.size) (w5.heap.size) (w2.heap.size) from fun h => by have h1 := h.1; have h2 := h.2; omega)
  have Wt5_12 := hg12.cell Wt5_11 (show ¬ From (w4.heap.size) (w5.heap.size) (w2.heap.size) from fun h => by have h1 := h.1; have h2 := h.2; omega)
  have Wt6_12 := hg12.cell Wt6_11 (show ¬ From (w4.heap.size) (w5.heap.size) (w2.heap.size) from fun h => by have h1 := h.1; have h2 := h.2; omega)
  have Gt0_12 := hg12.cell Gt0_11 (show ¬ From (w4.heap.size) (w5.heap.size) (w5.heap.size) from fun h => by have h1 := h.1; have h2 := h.2; omega)
  have Gt1_12 := hg12.cell Gt1_11 (show ¬ From (w4.heap.size) (w5.heap.size) (w5.heap.size) from fun h => by have h1 := h.1; have h2 := h.2; omega)
  have Gt2_12 := hg12.cell Gt2_11 (show ¬ From (w4.heap.size) (w5.heap.size) (w5.heap.size) from fun h => by have h1 := h.1; have h2 := h.2; omega)
  have Gt3_12 := hg12.cell Gt3_11 (show ¬ From (w4.heap.size) (w5.heap.size) (w5.heap.size) from fun h => by have h1 := h.1; have h2 := h.2; omega)
  have Gt4_12 := hg12.cell Gt4_11 (show ¬ From (w4.heap.size) (w5.heap.size) (w5.heap.size) from fun h => by have h1 := h.1; have h2 := h.2; omega)
  have Gt5_12 := hg12.cell Gt5_11 (show ¬ From (w4.heap.size) (w5.heap.size) (w5.heap.size) from fun h => by have h1 := h.1; have h2 := h.2; omega)
  have Gt6_12 := hg12.cell Gt6_11 (show ¬ From (w4.heap.size) (w5.heap.size) (w5.heap.size) from fun h => by have h1 := h.1; have h2 := h.2; omega)
  have oo_12 := Hid.mk (RSink.ownOff oo_11.out hg12 (fun b h1 h2 => by have h3 := h1.1; have h4 := h1.2; have h5 := h2.1; have h6 := h2.2; omega))
  have B_12 := B_11.trans (hg12.toBelow (by omega) B_11.size)
  have zz12 : w11.heap.size ≤ w12.heap.size := hg12.size
  clear Wt0_11 Wt1_11 Wt2_11 Wt3_11 Wt4_11 Wt5_11 Wt6_11 Gt0_11 Gt1_11 Gt2_11 Gt3_11 Gt4_11 Gt5_11 Gt6_11 oo_11 og_11 B_11
  clear hg12
  have gpos : ¬ (1 : Int) + (VA : Int) < 0 := by omega
  go_wp2_with fail
  refine (heldSink_rep _ l0 _ _ l2 _ _ l3 _ _ l4 _ t1 t5 t6 t0 t2 t3 t4 1 _ HL0.out hs0 HL2.out hs2 HL3.out hs3 HD3.out HL4.out hs4 hcs3 (by omega) (by omega) (RSink.toAt og_12.out)).mono ?_
  rintro e w13 ⟨rfl, hb13⟩
  rw [HVA.out]
  have Wt0_13 := cell_later hb13 Wt0_12
  have Wt1_13 := cell_later hb13 Wt1_12
  have Wt2_13 := cell_later hb13 Wt2_12
  have Wt3_13 := cell_later hb13 Wt3_12
  have Wt4_13 := cell_later hb13 Wt4_12
  have Wt5_13 := cell_later hb13 Wt5_12
  have Wt6_13 := cell_later hb13 Wt6_12
  have Gt0_13 := cell_later hb13 Gt0_12
  have Gt1_13 := cell_later hb13 Gt1_12
  have Gt2_13 := cell_later hb13 Gt2_12
  have Gt3_13 := cell_later hb13 Gt3_12
  have Gt4_13 := cell_later hb13 Gt4_12
  have Gt5_13 := cell_later hb13 Gt5_12
  have Gt6_13 := cell_later hb13 Gt6_12
  have oo_13 := Hid.mk (RSink.ownBelow oo_12.out hb13)
  have og_13 := Hid.mk (RSink.ownBelow og_12.out hb13)
  have B_13 := B_12.trans (hb13.mono B_12.size)
  have zz13 : w12.heap.size ≤ w13.heap.size := hb13.size
  clear Wt0_12 Wt1_12 Wt2_12 Wt3_12 Wt4_12 Wt5_12 Wt6_12 Gt0_12 Gt1_12 Gt2_12 Gt3_12 Gt4_12 Gt5_12 Gt6_12 oo_12 og_12 B_12
  clear hb13
  go_wp2_with fail
  refine (toInts_rep a0 n0 c0 z0 _ HZ0.out hsn0 (At.below HA0.out B_13)).mono ?_
  rintro e w14 ⟨g14, rfl, ho14, hb14⟩
  have oh0_14 := Hid.mk ho14
  clear ho14
  have Wt0_14 := cell_later hb14 Wt0_13
  have Wt1_14 := cell_later hb14 Wt1_13
  have Wt2_14 := cell_later hb14 Wt2_13
  have Wt3_14 := cell_later hb14 Wt3_13
  have Wt4_14 := cell_later hb14 Wt4_13
  have Wt5_14 := cell_later hb14 Wt5_13
  have Wt6_14 := cell_later hb14 Wt6_13
  have Gt0_14 := cell_later hb14 Gt0_13
  have Gt1_14 := cell_later hb14 Gt1_13
  have Gt2_14 := cell_later hb14 Gt2_13
  have Gt3_14 := cell_later hb14 Gt3_13
  have Gt4_14 := cell_later hb14 Gt4_13
  have Gt5_14 := cell_later hb14 Gt5_13
  have Gt6_14 := cell_later hb14 Gt6_13
  have oo_14 := Hid.mk (RSink.ownBelow oo_13.out hb14)
  have og_14 := Hid.mk (RSink.ownBelow og_13.out hb14)
  have B_14 := B_13.trans (hb14.mono B_13.size)
  have zz14 : w13.heap.size ≤ w14.heap.size := hb14.size
  clear Wt0_13 Wt1_13 Wt2_13 Wt3_13 Wt4_13 Wt5_13 Wt6_13 Gt0_13 Gt1_13 Gt2_13 Gt3_13 Gt4_13 Gt5_13 Gt6_13 oo_13 og_13 B_13
  clear hb14
  go_wp2_with fail
  refine (HI.out _ _ _ oh0_14.out).mono ?_
  rintro e w15 ⟨⟨r015, m015, d015, r215, m215, d215, r315, m315, d315, r415, m415, d415, rfl, ho15⟩, hb15⟩
  clear oh0_14
  obtain rfl : l0 = m015 := HL0.out.symm.trans (RSink.lens ho15).1
  obtain rfl : l2 = m215 := HL2.out.symm.trans (RSink.lens ho15).2.2.1
  obtain rfl : l3 = m315 := HL3.out.symm.trans (RSink.lens ho15).2.2.2.2.1
  obtain rfl : l4 = m415 := HL4.out.symm.trans (RSink.lens ho15).2.2.2.2.2.2.1
  have ohg_15 := Hid.mk ho15
  clear ho15
  have Wt0_15 := cell_later hb15 Wt0_14
  have Wt1_15 := cell_later hb15 Wt1_14
  have Wt2_15 := cell_later hb15 Wt2_14
  have Wt3_15 := cell_later hb15 Wt3_14
  have Wt4_15 := cell_later hb15 Wt4_14
  have Wt5_15 := cell_later hb15 Wt5_14
  have Wt6_15 := cell_later hb15 Wt6_14
  have Gt0_15 := cell_later hb15 Gt0_14
  have Gt1_15 := cell_later hb15 Gt1_14
  have Gt2_15 := cell_later hb15 Gt2_14
  have Gt3_15 := cell_later hb15 Gt3_14
  have Gt4_15 := cell_later hb15 Gt4_14
  have Gt5_15 := cell_later hb15 Gt5_14
  have Gt6_15 := cell_later hb15 Gt6_14
  have oo_15 := Hid.mk (RSink.ownBelow oo_14.out hb15)
  have og_15 := Hid.mk (RSink.ownBelow og_14.out hb15)
  have B_15 := B_14.trans (hb15.mono B_14.size)
  have zz15 : w14.heap.size ≤ w15.heap.size := hb15.size
  clear Wt0_14 Wt1_14 Wt2_14 Wt3_14 Wt4_14 Wt5_14 Wt6_14 Gt0_14 Gt1_14 Gt2_14 Gt3_14 Gt4_14 Gt5_14 Gt6_14 oo_14 og_14 B_14
  clear hb15
  obtain ⟨w16, hU16⟩ : ∃ u, u = w15.alloc (.cells #[.slice r015 l0 d015, .int .i64 t1, .slice r215 l2 d215, .slice r315 l3 d315, .slice r415 l4 d415, .int .i64 t5, .int .i64 t6] 25) := ⟨_, rfl⟩
  have hb16 : Below w15.heap.size w15 w16 := by rw [hU16]; exact (Below.refl _ _).alloc (Nat.le_refl _) _
  have zl16 : w15.heap.size < w16.heap.size := by rw [hU16]; simp
  have nHt0 : w16.cell? ⟨w15.heap.size, 0, none⟩ = some (.slice r015 l0 d015) := by rw [hU16]; simp
  have nHt1 : w16.cell? ⟨w15.heap.size, 1, none⟩ = some (.int .i64 t1) := by rw [hU16]; simp
  have nHt2 : w16.cell? ⟨w15.heap.size, 2, none⟩ = some (.slice r215 l2 d215) := by rw [hU16]; simp
  have nHt3 : w16.cell? ⟨w15.heap.size, 3, none⟩ = some (.slice r315 l3 d315) := by rw [hU16]; simp
  have nHt4 : w16.cell? ⟨w15.heap.size, 4, none⟩ = some (.slice r415 l4 d415) := by rw [hU16]; simp
  have nHt5 : w16.cell? ⟨w15.heap.size, 5, none⟩ = some (.int .i64 t5) := by rw [hU16]; simp
  have nHt6 : w16.cell? ⟨w15.heap.size, 6, none⟩ = some (.int .i64 t6) := by rw [hU16]; simp
  have Wt0_16 := cell_later hb16 Wt0_15
  have Wt1_16 := cell_later hb16 Wt1_15
  have Wt2_16 := cell_later hb16 Wt2_15
  have Wt3_16 := cell_later hb16 Wt3_15
  have Wt4_16 := cell_later hb16 Wt4_15
  have Wt5_16 := cell_later hb16 Wt5_15
  have Wt6_16 := cell_later hb16 Wt6_15
  have Gt0_16 := cell_later hb16 Gt0_15
  have Gt1_16 := cell_later hb16 Gt1_15
  have Gt2_16 := cell_later hb16 Gt2_15
  have Gt3_16 := cell_later hb16 Gt3_15
  have Gt4_16 := cell_later hb16 Gt4_15
  have Gt5_16 := cell_later hb16 Gt5_15
  have Gt6_16 := cell_later hb16 Gt6_15
  have oo_16 := Hid.mk (RSink.ownBelow oo_15.out hb16)
  have og_16 := Hid.mk (RSink.ownBelow og_15.out hb16)
  have ohg_16 := Hid.mk (RSink.ownBelow ohg_15.out hb16)
  have B_16 := B_15.trans (hb16.mono B_15.size)
  have zz16 : w15.heap.size ≤ w16.heap.size := hb16.size
  clear Wt0_15 Wt1_15 Wt2_15 Wt3_15 Wt4_15 Wt5_15 Wt6_15 Gt0_15 Gt1_15 Gt2_15 Gt3_15 Gt4_15 Gt5_15 Gt6_15 oo_15 og_15 ohg_15 B_15
  clear hb16
  have xWt0 := Wt0_16
  rw [hU16] at xWt0
  have xWt1 := Wt1_16
  rw [hU16] at xWt1
  have xWt2 := Wt2_16
  rw [hU16] at xWt2
  have xWt3 := Wt3_16
  rw [hU16] at xWt3
  have xWt4 := Wt4_16
  rw [hU16] at xWt4
  have xWt5 := Wt5_16
  rw [hU16] at xWt5
  have xWt6 := Wt6_16
  rw [hU16] at xWt6
  have xGt0 := Gt0_16
  rw [hU16] at xGt0
  have xGt1 := Gt1_16
  rw [hU16] at xGt1
  have xGt2 := Gt2_16
  rw [hU16] at xGt2
  have xGt3 := Gt3_16
  rw [hU16] at xGt3
  have xGt4 := Gt4_16
  rw [hU16] at xGt4
  have xGt5 := Gt5_16
  rw [hU16] at xGt5
  have xGt6 := Gt6_16
  rw [hU16] at xGt6
  have xHt0 := nHt0
  rw [hU16] at xHt0
  have xHt1 := nHt1
  rw [hU16] at xHt1
  have xHt2 := nHt2
  rw [hU16] at xHt2
  have xHt3 := nHt3
  rw [hU16] at xHt3
  have xHt4 := nHt4
  rw [hU16] at xHt4
  have xHt5 := nHt5
  rw [hU16] at xHt5
  have xHt6 := nHt6
  rw [hU16] at xHt6
  go_wp2_with fail
  rw [← hU16]
  clear hU16
  clear xWt0 xWt1 xWt2 xWt3 xWt4 xWt5 xWt6 xGt0 xGt1 xGt2 xGt3 xGt4 xGt5 xGt6 xHt0 xHt1 xHt2 xHt3 xHt4 xHt5 xHt6
  refine (eqSink_same _ l0 _ _ l2 _ _ l3 _ _ l4 _ _ _ _ _ _ _ _ _ t1 t5 t6 t0 t2 t3 t4 _ HL0.out hs0 HL2.out hs2 HL3.out hs3 HD3.out HL4.out hs4 (RSink.lens ohg_16.out).2.1 (RSink.lens oo_16.out).2.1 (RSink.lens ohg_16.out).2.2.2.1 (RSink.lens oo_16.out).2.2.2.1 (RSink.lens ohg_16.out).2.2.2.2.2.1 (RSink.lens oo_16.out).2.2.2.2.2.1 (RSink.lens ohg_16.out).2.2.2.2.2.2.2 (RSink.lens oo_16.out).2.2.2.2.2.2.2).mono ?_
  rintro e w17 ⟨rfl, hb17⟩
  have Wt0_17 := cell_later hb17 Wt0_16
  have Wt1_17 := cell_later hb17 Wt1_16
  have Wt2_17 := cell_later hb17 Wt2_16
  have Wt3_17 := cell_later hb17 Wt3_16
  have Wt4_17 := cell_later hb17 Wt4_16
  have Wt5_17 := cell_later hb17 Wt5_16
  have Wt6_17 := cell_later hb17 Wt6_16
  have Gt0_17 := cell_later hb17 Gt0_16
  have Gt1_17 := cell_later hb17 Gt1_16
  have Gt2_17 := cell_later hb17 Gt2_16
  have Gt3_17 := cell_later hb17 Gt3_16
  have Gt4_17 := cell_later hb17 Gt4_16
  have Gt5_17 := cell_later hb17 Gt5_16
  have Gt6_17 := cell_later hb17 Gt6_16
  have Ht0_17 := cell_later hb17 nHt0
  have Ht1_17 := cell_later hb17 nHt1
  have Ht2_17 := cell_later hb17 nHt2
  have Ht3_17 := cell_later hb17 nHt3
  have Ht4_17 := cell_later hb17 nHt4
  have Ht5_17 := cell_later hb17 nHt5
  have Ht6_17 := cell_later hb17 nHt6
  have oo_17 := Hid.mk (RSink.ownBelow oo_16.out hb17)
  have og_17 := Hid.mk (RSink.ownBelow og_16.out hb17)
  have ohg_17 := Hid.mk (RSink.ownBelow ohg_16.out hb17)
  have B_17 := B_16.trans (hb17.mono B_16.size)
  have zz17 : w16.heap.size ≤ w17.heap.size := hb17.size
  clear Wt0_16 Wt1_16 Wt2_16 Wt3_16 Wt4_16 Wt5_16 Wt6_16 Gt0_16 Gt1_16 Gt2_16 Gt3_16 Gt4_16 Gt5_16 Gt6_16 nHt0 nHt1 nHt2 nHt3 nHt4 nHt5 nHt6 oo_16 og_16 ohg_16 B_16
  clear hb17
  go_wp2_with fail
  refine (heldSink_rep _ l0 _ _ l2 _ _ l3 _ _ l4 _ t1 t5 t6 t0 t2 t3 t4 1 _ HL0.out hs0 HL2.out hs2 HL3.out hs3 HD3.out HL4.out hs4 hcs3 (by omega) (by omega) (RSink.toAt og_17.out)).mono ?_
  rintro e w18 ⟨rfl, hb18⟩
  rw [HVA.out]
  have Wt0_18 := cell_later hb18 Wt0_17
  have Wt1_18 := cell_later hb18 Wt1_17
  have Wt2_18 := cell_later hb18 Wt2_17
  have Wt3_18 := cell_later hb18 Wt3_17
  have Wt4_18 := cell_later hb18 Wt4_17
  have Wt5_18 := cell_later hb18 Wt5_17
  have Wt6_18 := cell_later hb18 Wt6_17
  have Gt0_18 := cell_later hb18 Gt0_17
  have Gt1_18 := cell_later hb18 Gt1_17
  have Gt2_18 := cell_later hb18 Gt2_17
  have Gt3_18 := cell_later hb18 Gt3_17
  have Gt4_18 := cell_later hb18 Gt4_17
  have Gt5_18 := cell_later hb18 Gt5_17
  have Gt6_18 := cell_later hb18 Gt6_17
  have Ht0_18 := cell_later hb18 Ht0_17
  have Ht1_18 := cell_later hb18 Ht1_17
  have Ht2_18 := cell_later hb18 Ht2_17
  have Ht3_18 := cell_later hb18 Ht3_17
  have Ht4_18 := cell_later hb18 Ht4_17
  have Ht5_18 := cell_later hb18 Ht5_17
  have Ht6_18 := cell_later hb18 Ht6_17
  have oo_18 := Hid.mk (RSink.ownBelow oo_17.out hb18)
  have og_18 := Hid.mk (RSink.ownBelow og_17.out hb18)
  have ohg_18 := Hid.mk (RSink.ownBelow ohg_17.out hb18)
  have B_18 := B_17.trans (hb18.mono B_17.size)
  have zz18 : w17.heap.size ≤ w18.heap.size := hb18.size
  clear Wt0_17 Wt1_17 Wt2_17 Wt3_17 Wt4_17 Wt5_17 Wt6_17 Gt0_17 Gt1_17 Gt2_17 Gt3_17 Gt4_17 Gt5_17 Gt6_17 Ht0_17 Ht1_17 Ht2_17 Ht3_17 Ht4_17 Ht5_17 Ht6_17 oo_17 og_17 ohg_17 B_17
  clear hb18
  go_wp2
  go_ret
  exact ⟨rfl, B_18⟩

end Go.Proofs.Ytecaaekilbdgdaa
