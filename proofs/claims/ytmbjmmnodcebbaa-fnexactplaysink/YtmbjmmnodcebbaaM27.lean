/- The law FnExactPlaySink returns true at every input, and writes nothing that was there. -/
import Derived.Test.YtmbjmmnodcebbaaM20
import Derived.Test.YtmbjmmnodcebbaaM24
import Derived.Test.YtmbjmmnodcebbaaM26
import Derived.Test.YtmbjmmnodcebbaaM6
import Derived.Test.YtmbjmmnodcebbaaM25
namespace Go.Proofs.Ytmbjmmnodcebbaa
open Go.RowKit

set_option maxRecDepth 100000 in
set_option maxHeartbeats 16000000 in
theorem lawPlaySink (a0 : Option Addr) (n0 c0 : Nat) (z0 : List Int) (a1 : Option Addr) (n1 c1 : Nat) (z1 : List Int) (w : World) (hz0 : z0.length = n0) (hn0 : n0 ≤ 9223372036854775807) (ha0 : At w a0 z0) (hz1 : z1.length = n1) (hn1 : n1 ≤ 9223372036854775807) (ha1 : At w a1 z1) :
    Calls Try.prog 4 #[.slice a0 n0 c0, .slice a1 n1 c1] w fun e w' => e = .returned (.bool true) ∧ Below w.heap.size w w' := by
  have HA0 := Hid.mk ha0
  have HZ0 := Hid.mk hz0
  clear ha0 hz0
  have HA1 := Hid.mk ha1
  have HZ1 := Hid.mk hz1
  clear ha1 hz1
  have B0 : Below w.heap.size w w := Below.refl _ _
  by_cases big0 : 1048576 < n0
  · have big0' : (1048576 : Int) < (n0 : Int) := by omega
    go_enter Try.func4, Try.ntmps4
    go_wp2
    go_ret
    exact ⟨rfl, B0⟩
  have hb0' : ¬ (1048576 : Int) < (n0 : Int) := by omega
  have hsn0 : n0 ≤ 1048576 := by omega
  have HVB0 := hsn0
  by_cases big1 : 1048576 < n1
  · have big1' : (1048576 : Int) < (n1 : Int) := by omega
    go_enter Try.func4, Try.ntmps4
    go_wp2
    go_ret
    exact ⟨rfl, B0⟩
  have hb1' : ¬ (1048576 : Int) < (n1 : Int) := by omega
  have hsn1 : n1 ≤ 1048576 := by omega
  have HVB1 := hsn1
  obtain ⟨v0, t0, t1, t2, t3, t4, t5, t6, tb, hsA, hsB, HS, HI⟩ : ∃ (v0 : Bool) (t0 : List Int) (t1 : Int) (t2 : List Int) (t3 : List TPrepared) (t4 : List Int) (t5 : Int) (t6 : Int) (tb : List Bool), costSink (t0, t1, t2, t3, t4, t5, t6) ≤ 1048576 ∧ tb.length ≤ 120 ∧ Hid (∀ (x0 : Nat) (x1 : Nat) (w : World) (F0 F1 : Nat → Prop), RInts.Own w F0 [.slice (some ⟨x0, 0, none⟩) n0 n0] z0 → RInts.Own w F1 [.slice (some ⟨x1, 0, none⟩) n1 n1] z1 → Calls Try.prog 13 #[.slice (some ⟨x0, 0, none⟩) n0 n0, .slice (some ⟨x1, 0, none⟩) n1 n1] w fun e w' => PyRet e w' w.heap.size v0 (t0, t1, t2, t3, t4, t5, t6) tb ∧ Below w.heap.size w w') ∧ Hid (∀ (x0 : Nat) (x1 : Nat) (w : World) (F0 F1 : Nat → Prop), RInts.Own w F0 [.slice (some ⟨x0, 0, none⟩) n0 n0] z0 → RInts.Own w F1 [.slice (some ⟨x1, 0, none⟩) n1 n1] z1 → Calls Try.prog 15 #[.slice (some ⟨x0, 0, none⟩) n0 n0, .slice (some ⟨x1, 0, none⟩) n1 n1] w fun e w' => PyRet e w' w.heap.size v0 (t0, t1, t2, t3, t4, t5, t6) tb ∧ Below w.heap.size w w') := ⟨pyOk z0 z1, (pyX z0 z1).1, (pyX z0 z1).2.1, (pyX z0 z1).2.2.1, (pyX z0 z1).2.2.2.1, (pyX z0 z1).2.2.2.2.1, (pyX z0 z1).2.2.2.2.2.1, (pyX z0 z1).2.2.2.2.2.2, pyB z0 z1, py_small z0 z1, py_len z0 z1, fun x0 x1 w F0 F1 o0 o1 => specPlaySink (some ⟨x0, 0, none⟩) n0 n0 (some ⟨x1, 0, none⟩) n1 n1 z0 z1 w HZ0.out hsn0 (fun h => by cases h) (ints_at o0) HZ1.out hsn1 (ints_at o1), fun x0 x1 w F0 F1 o0 o1 => implPlaySink (some ⟨x0, 0, none⟩) n0 n0 (some ⟨x1, 0, none⟩) n1 n1 z0 z1 w HZ0.out hsn0 (fun h => by cases h) (ints_at o0) HZ1.out hsn1 (ints_at o1)⟩
  obtain ⟨l0, hl0⟩ : ∃ l, t0.length = l := ⟨_, rfl⟩
  obtain ⟨l2, hl2⟩ : ∃ l, t2.length = l := ⟨_, rfl⟩
  obtain ⟨l3, hl3⟩ : ∃ l, t3.length = l := ⟨_, rfl⟩
  obtain ⟨l4, hl4⟩ : ∃ l, t4.length = l := ⟨_, rfl⟩
  have hsm := smallSink hl0 hl2 hl3 hl4 (by omega : costSink (t0, t1, t2, t3, t4, t5, t6) ≤ 1048576)
  have hs0 : l0 ≤ 1048576 := hsm.1
  have hs2 : l2 ≤ 1048576 := hsm.2.1
  have hs3 : l3 ≤ 1048576 := hsm.2.2.1
  have HD3 := Hid.mk hsm.2.2.2.1
  have hs4 : l4 ≤ 1048576 := hsm.2.2.2.2
  have hcc : l0 + l2 + (l3 + csumPrepared t3 l3) + l4 ≤ 1048576 := by unfold costSink at hsA; simp only [hl0, hl2, hl3, hl4] at hsA; omega
  have hcs3 : csumPrepared t3 l3 ≤ 1048576 := by omega
  obtain ⟨VA, hVA⟩ : ∃ V : Nat, mknSink (t0, t1, t2, t3, t4, t5, t6) = V := ⟨_, rfl⟩
  have hvA : VA ≤ 8388608 := by
    rw [← hVA]
    unfold mknSink
    simp only [hl0, hl2, hl3, hl4]
    rw [msumPrepared_eq t3 l3 (by omega)]
    omega
  have HVA := Hid.mk hVA
  have HL0 := Hid.mk hl0
  have HL2 := Hid.mk hl2
  have HL3 := Hid.mk hl3
  have HL4 := Hid.mk hl4
  clear hVA hsA hsm hcc hl0 hl2 hl3 hl4
  obtain ⟨lb, hlb⟩ : ∃ l, tb.length = l := ⟨_, rfl⟩
  have hsb : lb ≤ 120 := by omega
  have HLB := Hid.mk hlb
  clear hlb hsB
  go_enter Try.func4, Try.ntmps4
  go_wp2_with fail
  refine (toInts_rep a0 n0 c0 z0 _ HZ0.out hsn0 (At.below HA0.out B0)).mono ?_
  rintro e w1 ⟨g1, rfl, ho1, hb1⟩
  have ot0_1 := Hid.mk ho1
  clear ho1
  have B_1 := B0.trans (hb1.mono B0.size)
  have zz1 : w.heap.size ≤ w1.heap.size := hb1.size
  clear hb1
  go_wp2_with fail
  refine (toInts_rep a1 n1 c1 z1 _ HZ1.out hsn1 (At.below HA1.out B_1)).mono ?_
  rintro e w2 ⟨g2, rfl, ho2, hb2⟩
  have ot1_2 := Hid.mk ho2
  clear ho2
  have ot0_2 := Hid.mk (RInts.ownBelow ot0_1.out hb2)
  have B_2 := B_1.trans (hb2.mono B_1.size)
  have zz2 : w1.heap.size ≤ w2.heap.size := hb2.size
  clear ot0_1 B_1
  clear hb2
  go_wp2_with fail
  refine (HS.out _ _ _ _ _ ot0_2.out ot1_2.out).mono ?_
  rintro e w3 ⟨⟨r03, m03, d03, r23, m23, d23, r33, m33, d33, r43, m43, d43, rb3, nb3, db3, rfl, ho3⟩, hb3⟩
  clear ot0_2
  clear ot1_2
  obtain rfl : l0 = m03 := HL0.out.symm.trans (RSink.lens (WithB.own1 ho3)).1
  obtain rfl : l2 = m23 := HL2.out.symm.trans (RSink.lens (WithB.own1 ho3)).2.2.1
  obtain rfl : l3 = m33 := HL3.out.symm.trans (RSink.lens (WithB.own1 ho3)).2.2.2.2.1
  obtain rfl : l4 = m43 := HL4.out.symm.trans (RSink.lens (WithB.own1 ho3)).2.2.2.2.2.2.1
  obtain rfl : lb = nb3 := HLB.out.symm.trans (WithB.row ho3).1
  have oo_3 := Hid.mk ho3
  clear ho3
  have B_3 := B_2.trans (hb3.mono B_2.size)
  have zz3 : w2.heap.size ≤ w3.heap.size := hb3.size
  clear B_2
  clear hb3
  obtain ⟨w4, hU4⟩ : ∃ u, u = w3.alloc (.cells #[.slice r03 l0 d03, .int .i64 t1, .slice r23 l2 d23, .slice r33 l3 d33, .slice r43 l4 d43, .int .i64 t5, .int .i64 t6] 29) := ⟨_, rfl⟩
  have hb4 : Below w3.heap.size w3 w4 := by rw [hU4]; exact (Below.refl _ _).alloc (Nat.le_refl _) _
  have zl4 : w3.heap.size < w4.heap.size := by rw [hU4]; simp
  have nWt0 : w4.cell? ⟨w3.heap.size, 0, none⟩ = some (.slice r03 l0 d03) := by rw [hU4]; simp
  have nWt1 : w4.cell? ⟨w3.heap.size, 1, none⟩ = some (.int .i64 t1) := by rw [hU4]; simp
  have nWt2 : w4.cell? ⟨w3.heap.size, 2, none⟩ = some (.slice r23 l2 d23) := by rw [hU4]; simp
  have nWt3 : w4.cell? ⟨w3.heap.size, 3, none⟩ = some (.slice r33 l3 d33) := by rw [hU4]; simp
  have nWt4 : w4.cell? ⟨w3.heap.size, 4, none⟩ = some (.slice r43 l4 d43) := by rw [hU4]; simp
  have nWt5 : w4.cell? ⟨w3.heap.size, 5, none⟩ = some (.int .i64 t5) := by rw [hU4]; simp
  have nWt6 : w4.cell? ⟨w3.heap.size, 6, none⟩ = some (.int .i64 t6) := by rw [hU4]; simp
  have oo_4 := Hid.mk (WithB.ownBelow oo_3.out hb4)
  have B_4 := B_3.trans (hb4.mono B_3.size)
  have zz4 : w3.heap.size ≤ w4.heap.size := hb4.size
  clear oo_3 B_3
  clear hb4
  have xWt0 := nWt0
  rw [hU4] at xWt0
  have xWt1 := nWt1
  rw [hU4] at xWt1
  have xWt2 := nWt2
  rw [hU4] at xWt2
  have xWt3 := nWt3
  rw [hU4] at xWt3
  have xWt4 := nWt4
  rw [hU4] at xWt4
  have xWt5 := nWt5
  rw [hU4] at xWt5
  have xWt6 := nWt6
  rw [hU4] at xWt6
  go_wp2_with fail
  rw [← hU4]
  clear hU4
  clear xWt0 xWt1 xWt2 xWt3 xWt4 xWt5 xWt6
  refine (toInts_rep a0 n0 c0 z0 _ HZ0.out hsn0 (At.below HA0.out B_4)).mono ?_
  rintro e w5 ⟨g5, rfl, ho5, hb5⟩
  have ox0_5 := Hid.mk ho5
  clear ho5
  have Wt0_5 := cell_later hb5 nWt0
  have Wt1_5 := cell_later hb5 nWt1
  have Wt2_5 := cell_later hb5 nWt2
  have Wt3_5 := cell_later hb5 nWt3
  have Wt4_5 := cell_later hb5 nWt4
  have Wt5_5 := cell_later hb5 nWt5
  have Wt6_5 := cell_later hb5 nWt6
  have oo_5 := Hid.mk (WithB.ownBelow oo_4.out hb5)
  have B_5 := B_4.trans (hb5.mono B_4.size)
  have zz5 : w4.heap.size ≤ w5.heap.size := hb5.size
  clear nWt0 nWt1 nWt2 nWt3 nWt4 nWt5 nWt6 oo_4 B_4
  clear hb5
  go_wp2_with fail
  refine (toInts_rep a1 n1 c1 z1 _ HZ1.out hsn1 (At.below HA1.out B_5)).mono ?_
  rintro e w6 ⟨g6, rfl, ho6, hb6⟩
  have ox1_6 := Hid.mk ho6
  clear ho6
  have Wt0_6 := cell_later hb6 Wt0_5
  have Wt1_6 := cell_later hb6 Wt1_5
  have Wt2_6 := cell_later hb6 Wt2_5
  have Wt3_6 := cell_later hb6 Wt3_5
  have Wt4_6 := cell_later hb6 Wt4_5
  have Wt5_6 := cell_later hb6 Wt5_5
  have Wt6_6 := cell_later hb6 Wt6_5
  have oo_6 := Hid.mk (WithB.ownBelow oo_5.out hb6)
  have ox0_6 := Hid.mk (RInts.ownBelow ox0_5.out hb6)
  have B_6 := B_5.trans (hb6.mono B_5.size)
  have zz6 : w5.heap.size ≤ w6.heap.size := hb6.size
  clear Wt0_5 Wt1_5 Wt2_5 Wt3_5 Wt4_5 Wt5_5 Wt6_5 oo_5 ox0_5 B_5
  clear hb6
  go_wp2_with fail
  refine (HI.out _ _ _ _ _ ox0_6.out ox1_6.out).mono ?_
  rintro e w7 ⟨⟨r07, m07, d07, r27, m27, d27, r37, m37, d37, r47, m47, d47, rb7, nb7, db7, rfl, ho7⟩, hb7⟩
  obtain rfl : l0 = m07 := HL0.out.symm.trans (RSink.lens (WithB.own1 ho7)).1
  obtain rfl : l2 = m27 := HL2.out.symm.trans (RSink.lens (WithB.own1 ho7)).2.2.1
  obtain rfl : l3 = m37 := HL3.out.symm.trans (RSink.lens (WithB.own1 ho7)).2.2.2.2.1
  obtain rfl : l4 = m47 := HL4.out.symm.trans (RSink.lens (WithB.own1 ho7)).2.2.2.2.2.2.1
  obtain rfl : lb = nb7 := HLB.out.symm.trans (WithB.row ho7).1
  have og_7 := Hid.mk ho7
  clear ho7
  have Wt0_7 := cell_later hb7 Wt0_6
  have Wt1_7 := cell_later hb7 Wt1_6
  have Wt2_7 := cell_later hb7 Wt2_6
  have Wt3_7 := cell_later hb7 Wt3_6
  have Wt4_7 := cell_later hb7 Wt4_6
  have Wt5_7 := cell_later hb7 Wt5_6
  have Wt6_7 := cell_later hb7 Wt6_6
  have oo_7 := Hid.mk (WithB.ownBelow oo_6.out hb7)
  have ox0_7 := Hid.mk (RInts.ownBelow ox0_6.out hb7)
  have ox1_7 := Hid.mk (RInts.ownBelow ox1_6.out hb7)
  have B_7 := B_6.trans (hb7.mono B_6.size)
  have zz7 : w6.heap.size ≤ w7.heap.size := hb7.size
  clear Wt0_6 Wt1_6 Wt2_6 Wt3_6 Wt4_6 Wt5_6 Wt6_6 oo_6 ox0_6 ox1_6 B_6
  clear hb7
  obtain ⟨w8, hU8⟩ : ∃ u, u = w7.alloc (.cells #[.slice r07 l0 d07, .int .i64 t1, .slice r27 l2 d27, .slice r37 l3 d37, .slice r47 l4 d47, .int .i64 t5, .int .i64 t6] 29) := ⟨_, rfl⟩
  have hb8 : Below w7.heap.size w7 w8 := by rw [hU8]; exact (Below.refl _ _).alloc (Nat.le_refl _) _
  have zl8 : w7.heap.size < w8.heap.size := by rw [hU8]; simp
  have nGt0 : w8.cell? ⟨w7.heap.size, 0, none⟩ = some (.slice r07 l0 d07) := by rw [hU8]; simp
  have nGt1 : w8.cell? ⟨w7.heap.size, 1, none⟩ = some (.int .i64 t1) := by rw [hU8]; simp
  have nGt2 : w8.cell? ⟨w7.heap.size, 2, none⟩ = some (.slice r27 l2 d27) := by rw [hU8]; simp
  have nGt3 : w8.cell? ⟨w7.heap.size, 3, none⟩ = some (.slice r37 l3 d37) := by rw [hU8]; simp
  have nGt4 : w8.cell? ⟨w7.heap.size, 4, none⟩ = some (.slice r47 l4 d47) := by rw [hU8]; simp
  have nGt5 : w8.cell? ⟨w7.heap.size, 5, none⟩ = some (.int .i64 t5) := by rw [hU8]; simp
  have nGt6 : w8.cell? ⟨w7.heap.size, 6, none⟩ = some (.int .i64 t6) := by rw [hU8]; simp
  have Wt0_8 := cell_later hb8 Wt0_7
  have Wt1_8 := cell_later hb8 Wt1_7
  have Wt2_8 := cell_later hb8 Wt2_7
  have Wt3_8 := cell_later hb8 Wt3_7
  have Wt4_8 := cell_later hb8 Wt4_7
  have Wt5_8 := cell_later hb8 Wt5_7
  have Wt6_8 := cell_later hb8 Wt6_7
  have oo_8 := Hid.mk (WithB.ownBelow oo_7.out hb8)
  have ox0_8 := Hid.mk (RInts.ownBelow ox0_7.out hb8)
  have ox1_8 := Hid.mk (RInts.ownBelow ox1_7.out hb8)
  have og_8 := Hid.mk (WithB.ownBelow og_7.out hb8)
  have B_8 := B_7.trans (hb8.mono B_7.size)
  have zz8 : w7.heap.size ≤ w8.heap.size := hb8.size
  clear Wt0_7 Wt1_7 Wt2_7 Wt3_7 Wt4_7 Wt5_7 Wt6_7 oo_7 ox0_7 ox1_7 og_7 B_7
  clear hb8
  have xWt0 := Wt0_8
  rw [hU8] at xWt0
  have xWt1 := Wt1_8
  rw [hU8] at xWt1
  have xWt2 := Wt2_8
  rw [hU8] at xWt2
  have xWt3 := Wt3_8
  rw [hU8] at xWt3
  have xWt4 := Wt4_8
  rw [hU8] at xWt4
  have xWt5 := Wt5_8
  rw [hU8] at xWt5
  have xWt6 := Wt6_8
  rw [hU8] at xWt6
  have xGt0 := nGt0
  rw [hU8] at xGt0
  have xGt1 := nGt1
  rw [hU8] at xGt1
  have xGt2 := nGt2
  rw [hU8] at xGt2
  have xGt3 := nGt3
  rw [hU8] at xGt3
  have xGt4 := nGt4
  rw [hU8] at xGt4
  have xGt5 := nGt5
  rw [hU8] at xGt5
  have xGt6 := nGt6
  rw [hU8] at xGt6
  go_wp2_with fail
  rw [← hU8]
  clear hU8
  clear xWt0 xWt1 xWt2 xWt3 xWt4 xWt5 xWt6 xGt0 xGt1 xGt2 xGt3 xGt4 xGt5 xGt6
  refine (eqSink_same _ l0 _ _ l2 _ _ l3 _ _ l4 _ _ _ _ _ _ _ _ _ t1 t5 t6 t0 t2 t3 t4 _ HL0.out hs0 HL2.out hs2 HL3.out hs3 HD3.out HL4.out hs4 (RSink.lens (WithB.own1 og_8.out)).2.1 (RSink.lens (WithB.own1 oo_8.out)).2.1 (RSink.lens (WithB.own1 og_8.out)).2.2.2.1 (RSink.lens (WithB.own1 oo_8.out)).2.2.2.1 (RSink.lens (WithB.own1 og_8.out)).2.2.2.2.2.1 (RSink.lens (WithB.own1 oo_8.out)).2.2.2.2.2.1 (RSink.lens (WithB.own1 og_8.out)).2.2.2.2.2.2.2 (RSink.lens (WithB.own1 oo_8.out)).2.2.2.2.2.2.2).mono ?_
  rintro e w9 ⟨rfl, hb9⟩
  have Wt0_9 := cell_later hb9 Wt0_8
  have Wt1_9 := cell_later hb9 Wt1_8
  have Wt2_9 := cell_later hb9 Wt2_8
  have Wt3_9 := cell_later hb9 Wt3_8
  have Wt4_9 := cell_later hb9 Wt4_8
  have Wt5_9 := cell_later hb9 Wt5_8
  have Wt6_9 := cell_later hb9 Wt6_8
  have Gt0_9 := cell_later hb9 nGt0
  have Gt1_9 := cell_later hb9 nGt1
  have Gt2_9 := cell_later hb9 nGt2
  have Gt3_9 := cell_later hb9 nGt3
  have Gt4_9 := cell_later hb9 nGt4
  have Gt5_9 := cell_later hb9 nGt5
  have Gt6_9 := cell_later hb9 nGt6
  have oo_9 := Hid.mk (WithB.ownBelow oo_8.out hb9)
  have ox0_9 := Hid.mk (RInts.ownBelow ox0_8.out hb9)
  have ox1_9 := Hid.mk (RInts.ownBelow ox1_8.out hb9)
  have og_9 := Hid.mk (WithB.ownBelow og_8.out hb9)
  have B_9 := B_8.trans (hb9.mono B_8.size)
  have zz9 : w8.heap.size ≤ w9.heap.size := hb9.size
  clear Wt0_8 Wt1_8 Wt2_8 Wt3_8 Wt4_8 Wt5_8 Wt6_8 nGt0 nGt1 nGt2 nGt3 nGt4 nGt5 nGt6 oo_8 ox0_8 ox1_8 og_8 B_8
  clear hb9
  go_wp2_with fail
  refine (eqBoolS_same 0 0 _ _ lb _ _ tb _ (by omega) (WithB.row og_9.out).2 (WithB.row oo_9.out).2).mono ?_
  rintro e w10 ⟨rfl, hb10⟩
  have Wt0_10 := cell_later hb10 Wt0_9
  have Wt1_10 := cell_later hb10 Wt1_9
  have Wt2_10 := cell_later hb10 Wt2_9
  have Wt3_10 := cell_later hb10 Wt3_9
  have Wt4_10 := cell_later hb10 Wt4_9
  have Wt5_10 := cell_later hb10 Wt5_9
  have Wt6_10 := cell_later hb10 Wt6_9
  have Gt0_10 := cell_later hb10 Gt0_9
  have Gt1_10 := cell_later hb10 Gt1_9
  have Gt2_10 := cell_later hb10 Gt2_9
  have Gt3_10 := cell_later hb10 Gt3_9
  have Gt4_10 := cell_later hb10 Gt4_9
  have Gt5_10 := cell_later hb10 Gt5_9
  have Gt6_10 := cell_later hb10 Gt6_9
  have oo_10 := Hid.mk (WithB.ownBelow oo_9.out hb10)
  have ox0_10 := Hid.mk (RInts.ownBelow ox0_9.out hb10)
  have ox1_10 := Hid.mk (RInts.ownBelow ox1_9.out hb10)
  have og_10 := Hid.mk (WithB.ownBelow og_9.out hb10)
  have B_10 := B_9.trans (hb10.mono B_9.size)
  have zz10 : w9.heap.size ≤ w10.heap.size := hb10.size
  clear Wt0_9 Wt1_9 Wt2_9 Wt3_9 Wt4_9 Wt5_9 Wt6_9 Gt0_9 Gt1_9 Gt2_9 Gt3_9 Gt4_9 Gt5_9 Gt6_9 oo_9 ox0_9 ox1_9 og_9 B_9
  clear hb10
  go_wp2_with fail
  refine (toInts_rep a0 n0 c0 z0 _ HZ0.out hsn0 (At.below HA0.out B_10)).mono ?_
  rintro e w11 ⟨g11, rfl, ho11, hb11⟩
  have oy_11 := Hid.mk ho11
  clear ho11
  have Wt0_11 := cell_later hb11 Wt0_10
  have Wt1_11 := cell_later hb11 Wt1_10
  have Wt2_11 := cell_later hb11 Wt2_10
  have Wt3_11 := cell_later hb11 Wt3_10
  have Wt4_11 := cell_later hb11 Wt4_10
  have Wt5_11 := cell_later hb11 Wt5_10
  have Wt6_11 := cell_later hb11 Wt6_10
  have Gt0_11 := cell_later hb11 Gt0_10
  have Gt1_11 := cell_later hb11 Gt1_10
  have Gt2_11 := cell_later hb11 Gt2_10
  have Gt3_11 := cell_later hb11 Gt3_10
  have Gt4_11 := cell_later hb11 Gt4_10
  have Gt5_11 := cell_later hb11 Gt5_10
  have Gt6_11 := cell_later hb11 Gt6_10
  have oo_11 := Hid.mk (WithB.ownBelow oo_10.out hb11)
  have ox0_11 := Hid.mk (RInts.ownBelow ox0_10.out hb11)
  have ox1_11 := Hid.mk (RInts.ownBelow ox1_10.out hb11)
  have og_11 := Hid.mk (WithB.ownBelow og_10.out hb11)
  have B_11 := B_10.trans (hb11.mono B_10.size)
  have zz11 : w10.heap.size ≤ w11.heap.size := hb11.size
  clear Wt0_10 Wt1_10 Wt2_10 Wt3_10 Wt4_10 Wt5_10 Wt6_10 Gt0_10 Gt1_10 Gt2_10 Gt3_10 Gt4_10 Gt5_10 Gt6_10 oo_10 ox0_10 ox1_10 og_10 B_10
  clear hb11
  go_wp2_with fail
  refine (eqIntS_same _ _ n0 _ _ z0 _ HZ0.out hsn0 (ints_at ox0_11.out) (ints_at oy_11.out)).mono ?_
  rintro e w12 ⟨rfl, hb12⟩
  clear oy_11
  have Wt0_12 := cell_later hb12 Wt0_11
  have Wt1_12 := cell_later hb12 Wt1_11
  have Wt2_12 := cell_later hb12 Wt2_11
  have Wt3_12 := cell_later hb12 Wt3_11
  have Wt4_12 := cell_later hb12 Wt4_11
  have Wt5_12 := cell_later hb12 Wt5_11
  have Wt6_12 := cell_later hb12 Wt6_11
  have Gt0_12 := cell_later hb12 Gt0_11
  have Gt1_12 := cell_later hb12 Gt1_11
  have Gt2_12 := cell_later hb12 Gt2_11
  have Gt3_12 := cell_later hb12 Gt3_11
  have Gt4_12 := cell_later hb12 Gt4_11
  have Gt5_12 := cell_later hb12 Gt5_11
  have Gt6_12 := cell_later hb12 Gt6_11
  have oo_12 := Hid.mk (WithB.ownBelow oo_11.out hb12)
  have ox0_12 := Hid.mk (RInts.ownBelow ox0_11.out hb12)
  have ox1_12 := Hid.mk (RInts.ownBelow ox1_11.out hb12)
  have og_12 := Hid.mk (WithB.ownBelow og_11.out hb12)
  have B_12 := B_11.trans (hb12.mono B_11.size)
  have zz12 : w11.heap.size ≤ w12.heap.size := hb12.size
  clear Wt0_11 Wt1_11 Wt2_11 Wt3_11 Wt4_11 Wt5_11 Wt6_11 Gt0_11 Gt1_11 Gt2_11 Gt3_11 Gt4_11 Gt5_11 Gt6_11 oo_11 ox0_11 ox1_11 og_11 B_11
  clear hb12
  go_wp2_with fail
  refine (toInts_rep a1 n1 c1 z1 _ HZ1.out hsn1 (At.below HA1.out B_12)).mono ?_
  rintro e w13 ⟨g13, rfl, ho13, hb13⟩
  have oy_13 := Hid.mk ho13
  clear ho13
  have Wt0_13 := cell_later hb13 Wt0_12
  have Wt1_13 := cell_later hb13 Wt1_12
  have Wt2_13 := cell_later hb13 Wt2_12
  have Wt3_13 := cell_later hb13 Wt3_12
  have Wt4_13 := cell_later hb13 Wt4_12
  have Wt5_13 := cell_later hb13 Wt5_12
  have Wt6_13 := cell_later hb13 Wt6_12
  have Gt0_13 := cell_later hb13 Gt0_12
  have Gt1_13 := cell_later hb13 Gt1_12
  have Gt2_13 := cell_later hb13 Gt2_12
  have Gt3_13 := cell_later hb13 Gt3_12
  have Gt4_13 := cell_later hb13 Gt4_12
  have Gt5_13 := cell_later hb13 Gt5_12
  have Gt6_13 := cell_later hb13 Gt6_12
  have oo_13 := Hid.mk (WithB.ownBelow oo_12.out hb13)
  have ox0_13 := Hid.mk (RInts.ownBelow ox0_12.out hb13)
  have ox1_13 := Hid.mk (RInts.ownBelow ox1_12.out hb13)
  have og_13 := Hid.mk (WithB.ownBelow og_12.out hb13)
  have B_13 := B_12.trans (hb13.mono B_12.size)
  have zz13 : w12.heap.size ≤ w13.heap.size := hb13.size
  clear Wt0_12 Wt1_12 Wt2_12 Wt3_12 Wt4_12 Wt5_12 Wt6_12 Gt0_12 Gt1_12 Gt2_12 Gt3_12 Gt4_12 Gt5_12 Gt6_12 oo_12 ox0_12 ox1_12 og_12 B_12
  clear hb13
  go_wp2_with fail
  refine (eqIntS_same _ _ n1 _ _ z1 _ HZ1.out hsn1 (ints_at ox1_13.out) (ints_at oy_13.out)).mono ?_
  rintro e w14 ⟨rfl, hb14⟩
  clear oy_13
  have Wt0_14 := cell_later hb14 Wt0_13
  have Wt1_14 := cell_later hb14 Wt1_13
  have Wt2_14 := cell_later hb14 Wt2_13
  have Wt3_14 := cell_later hb14 Wt3_13
  have Wt4_14 := cell_later hb14 Wt4_13
  have Wt5_14 := cell_later hb14 Wt5_13
  have Wt6_14 := cell_later hb14 Wt6_13
  have Gt0_14 := cell_later hb14 Gt0_13
  have Gt1_14 := cell_later hb14 Gt1_13
  have Gt2_14 := cell_later hb14 Gt2_13
  have Gt3_14 := cell_later hb14 Gt3_13
  have Gt4_14 := cell_later hb14 Gt4_13
  have Gt5_14 := cell_later hb14 Gt5_13
  have Gt6_14 := cell_later hb14 Gt6_13
  have oo_14 := Hid.mk (WithB.ownBelow oo_13.out hb14)
  have ox0_14 := Hid.mk (RInts.ownBelow ox0_13.out hb14)
  have ox1_14 := Hid.mk (RInts.ownBelow ox1_13.out hb14)
  have og_14 := Hid.mk (WithB.ownBelow og_13.out hb14)
  have B_14 := B_13.trans (hb14.mono B_13.size)
  have zz14 : w13.heap.size ≤ w14.heap.size := hb14.size
  clear Wt0_13 Wt1_13 Wt2_13 Wt3_13 Wt4_13 Wt5_13 Wt6_13 Gt0_13 Gt1_13 Gt2_13 Gt3_13 Gt4_13 Gt5_13 Gt6_13 oo_13 ox0_13 ox1_13 og_13 B_13
  clear hb14
  go_wp2_with fail
  refine (markInts_rep (From (w4.heap.size) (w5.heap.size)) _ n0 _ z0 _ _ hsn0 (by omega) (by omega) ox0_14.out).mono ?_
  rintro e w15 ⟨rfl, ho15, hg15⟩
  have ox0_15 := Hid.mk ho15
  clear ho15
  have Wt0_15 := hg15.cell Wt0_14 (show ¬ From (w4.heap.size) (w5.heap.size) (w3.heap.size) from fun h => by have h1 := h.1; have h2 := h.2; omega)
  have Wt1_15 := hg15.cell Wt1_14 (show ¬ From (w4.heap.size) (w5.heap.size) (w3.heap.size) from fun h => by have h1 := h.1; have h2 := h.2; omega)
  have Wt2_15 := hg15.cell Wt2_14 (show ¬ From (w4.heap.size) (w5.heap.size) (w3.heap.size) from fun h => by have h1 := h.1; have h2 := h.2; omega)
  have Wt3_15 := hg15.cell Wt3_14 (show ¬ From (w4.heap.size) (w5.heap.size) (w3.heap.size) from fun h => by have h1 := h.1; have h2 := h.2; omega)
  have Wt4_15 := hg15.cell Wt4_14 (show ¬ From (w4.heap.size) (w5.heap.size) (w3.heap.size) from fun h => by have h1 := h.1; have h2 := h.2; omega)
  have Wt5_15 := hg15.cell Wt5_14 (show ¬ From (w4.heap.size) (w5.heap.size) (w3.heap.size) from fun h => by have h1 := h.1; have h2 := h.2; omega)
  have Wt6_15 := hg15.cell Wt6_14 (show ¬ From (w4.heap.size) (w5.heap.size) (w3.heap.size) from fun h => by have h1 := h.1; have h2 := h.2; omega)
  have Gt0_15 := hg15.cell Gt0_14 (show ¬ From (w4.heap.size) (w5.heap.size) (w7.heap.size) from fun h => by have h1 := h.1; have h2 := h.2; omega)
  have Gt1_15 := hg15.cell Gt1_14 (show ¬ From (w4.heap.size) (w5.heap.size) (w7.heap.size) from fun h => by have h1 := h.1; have h2 := h.2; omega)
  have Gt2_15 := hg15.cell Gt2_14 (show ¬ From (w4.heap.size) (w5.heap.size) (w7.heap.size) from fun h => by have h1 := h.1; have h2 := h.2; omega)
  have Gt3_15 := hg15.cell Gt3_14 (show ¬ From (w4.heap.size) (w5.heap.size) (w7.heap.size) from fun h => by have h1 := h.1; have h2 := h.2; omega)
  have Gt4_15 := hg15.cell Gt4_14 (show ¬ From (w4.heap.size) (w5.heap.size) (w7.heap.size) from fun h => by have h1 := h.1; have h2 := h.2; omega)
  have Gt5_15 := hg15.cell Gt5_14 (show ¬ From (w4.heap.size) (w5.heap.size) (w7.heap.size) from fun h => by have h1 := h.1; have h2 := h.2; omega)
  have Gt6_15 := hg15.cell Gt6_14 (show ¬ From (w4.heap.size) (w5.heap.size) (w7.heap.size) from fun h => by have h1 := h.1; have h2 := h.2; omega)
  have oo_15 := Hid.mk (WithB.ownOff oo_14.out hg15 (fun b h1 h2 => by have h3 := h1.1; have h4 := h1.2; have h5 := h2.1; have h6 := h2.2; omega))
  have ox1_15 := Hid.mk (RInts.ownOff ox1_14.out hg15 (fun b h1 h2 => by have h3 := h1.1; have h4 := h1.2; have h5 := h2.1; have h6 := h2.2; omega))
  have og_15 := Hid.mk (WithB.ownOff og_14.out hg15 (fun b h1 h2 => by have h3 := h1.1; have h4 := h1.2; have h5 := h2.1; have h6 := h2.2; omega))
  have B_15 := B_14.trans (hg15.toBelow (by omega) B_14.size)
  have zz15 : w14.heap.size ≤ w15.heap.size := hg15.size
  clear Wt0_14 Wt1_14 Wt2_14 Wt3_14 Wt4_14 Wt5_14 Wt6_14 Gt0_14 Gt1_14 Gt2_14 Gt3_14 Gt4_14 Gt5_14 Gt6_14 oo_14 ox0_14 ox1_14 og_14 B_14
  clear hg15
  go_wp2_with fail
  refine (markInts_rep (From (w5.heap.size) (w6.heap.size)) _ n1 _ z1 _ _ hsn1 (by omega) (by omega) ox1_15.out).mono ?_
  rintro e w16 ⟨rfl, ho16, hg16⟩
  have ox1_16 := Hid.mk ho16
  clear ho16
  have Wt0_16 := hg16.cell Wt0_15 (show ¬ From (w5.heap.size) (w6.heap.size) (w3.heap.size) from fun h => by have h1 := h.1; have h2 := h.2; omega)
  have Wt1_16 := hg16.cell Wt1_15 (show ¬ From (w5.heap.size) (w6.heap.size) (w3.heap.size) from fun h => by have h1 := h.1; have h2 := h.2; omega)
  have Wt2_16 := hg16.cell Wt2_15 (show ¬ From (w5.heap.size) (w6.heap.size) (w3.heap.size) from fun h => by have h1 := h.1; have h2 := h.2; omega)
  have Wt3_16 := hg16.cell Wt3_15 (show ¬ From (w5.heap.size) (w6.heap.size) (w3.heap.size) from fun h => by have h1 := h.1; have h2 := h.2; omega)
  have Wt4_16 := hg16.cell Wt4_15 (show ¬ From (w5.heap.size) (w6.heap.size) (w3.heap.size) from fun h => by have h1 := h.1; have h2 := h.2; omega)
  have Wt5_16 := hg16.cell Wt5_15 (show ¬ From (w5.heap.size) (w6.heap.size) (w3.heap.size) from fun h => by have h1 := h.1; have h2 := h.2; omega)
  have Wt6_16 := hg16.cell Wt6_15 (show ¬ From (w5.heap.size) (w6.heap.size) (w3.heap.size) from fun h => by have h1 := h.1; have h2 := h.2; omega)
  have Gt0_16 := hg16.cell Gt0_15 (show ¬ From (w5.heap.size) (w6.heap.size) (w7.heap.size) from fun h => by have h1 := h.1; have h2 := h.2; omega)
  have Gt1_16 := hg16.cell Gt1_15 (show ¬ From (w5.heap.size) (w6.heap.size) (w7.heap.size) from fun h => by have h1 := h.1; have h2 := h.2; omega)
  have Gt2_16 := hg16.cell Gt2_15 (show ¬ From (w5.heap.size) (w6.heap.size) (w7.heap.size) from fun h => by have h1 := h.1; have h2 := h.2; omega)
  have Gt3_16 := hg16.cell Gt3_15 (show ¬ From (w5.heap.size) (w6.heap.size) (w7.heap.size) from fun h => by have h1 := h.1; have h2 := h.2; omega)
  have Gt4_16 := hg16.cell Gt4_15 (show ¬ From (w5.heap.size) (w6.heap.size) (w7.heap.size) from fun h => by have h1 := h.1; have h2 := h.2; omega)
  have Gt5_16 := hg16.cell Gt5_15 (show ¬ From (w5.heap.size) (w6.heap.size) (w7.heap.size) from fun h => by have h1 := h.1; have h2 := h.2; omega)
  have Gt6_16 := hg16.cell Gt6_15 (show ¬ From (w5.heap.size) (w6.heap.size) (w7.heap.size) from fun h => by have h1 := h.1; have h2 := h.2; omega)
  have oo_16 := Hid.mk (WithB.ownOff oo_15.out hg16 (fun b h1 h2 => by have h3 := h1.1; have h4 := h1.2; have h5 := h2.1; have h6 := h2.2; omega))
  have ox0_16 := Hid.mk (RInts.ownOff ox0_15.out hg16 (fun b h1 h2 => by have h3 := h1.1; have h4 := h1.2; have h5 := h2.1; have h6 := h2.2; omega))
  have og_16 := Hid.mk (WithB.ownOff og_15.out hg16 (fun b h1 h2 => by have h3 := h1.1; have h4 := h1.2; have h5 := h2.1; have h6 := h2.2; omega))
  have B_16 := B_15.trans (hg16.toBelow (by omega) B_15.size)
  have zz16 : w15.heap.size ≤ w16.heap.size := hg16.size
  clear Wt0_15 Wt1_15 Wt2_15 Wt3_15 Wt4_15 Wt5_15 Wt6_15 Gt0_15 Gt1_15 Gt2_15 Gt3_15 Gt4_15 Gt5_15 Gt6_15 oo_15 ox0_15 ox1_15 og_15 B_15
  clear hg16
  have kpos : ¬ (1 : Int) + (n0 : Int) + (n1 : Int) < 0 := by omega
  go_wp2_with fail
  refine (eqSink_same _ l0 _ _ l2 _ _ l3 _ _ l4 _ _ _ _ _ _ _ _ _ t1 t5 t6 t0 t2 t3 t4 _ HL0.out hs0 HL2.out hs2 HL3.out hs3 HD3.out HL4.out hs4 (RSink.lens (WithB.own1 og_16.out)).2.1 (RSink.lens (WithB.own1 oo_16.out)).2.1 (RSink.lens (WithB.own1 og_16.out)).2.2.2.1 (RSink.lens (WithB.own1 oo_16.out)).2.2.2.1 (RSink.lens (WithB.own1 og_16.out)).2.2.2.2.2.1 (RSink.lens (WithB.own1 oo_16.out)).2.2.2.2.2.1 (RSink.lens (WithB.own1 og_16.out)).2.2.2.2.2.2.2 (RSink.lens (WithB.own1 oo_16.out)).2.2.2.2.2.2.2).mono ?_
  rintro e w17 ⟨rfl, hb17⟩
  have Wt0_17 := cell_later hb17 Wt0_16
  have Wt1_17 := cell_later hb17 Wt1_16
  have Wt2_17 := cell_later hb17 Wt2_16
  have Wt3_17 := cell_later hb17 Wt3_16
  have Wt4_17 := cell_later hb17 Wt4_16
  have Wt5_17 := cell_later hb17 Wt5_16
  have Wt6_17 := cell_later hb17 Wt6_16
  have Gt0_17 := cell_later hb17 Gt0_16
  have Gt1_17 := cell_later hb17 Gt1_16
  have Gt2_17 := cell_later hb17 Gt2_16
  have Gt3_17 := cell_later hb17 Gt3_16
  have Gt4_17 := cell_later hb17 Gt4_16
  have Gt5_17 := cell_later hb17 Gt5_16
  have Gt6_17 := cell_later hb17 Gt6_16
  have oo_17 := Hid.mk (WithB.ownBelow oo_16.out hb17)
  have ox0_17 := Hid.mk (RInts.ownBelow ox0_16.out hb17)
  have ox1_17 := Hid.mk (RInts.ownBelow ox1_16.out hb17)
  have og_17 := Hid.mk (WithB.ownBelow og_16.out hb17)
  have B_17 := B_16.trans (hb17.mono B_16.size)
  have zz17 : w16.heap.size ≤ w17.heap.size := hb17.size
  clear Wt0_16 Wt1_16 Wt2_16 Wt3_16 Wt4_16 Wt5_16 Wt6_16 Gt0_16 Gt1_16 Gt2_16 Gt3_16 Gt4_16 Gt5_16 Gt6_16 oo_16 ox0_16 ox1_16 og_16 B_16
  clear hb17
  go_wp2_with fail
  refine (eqBoolS_same 0 0 _ _ lb _ _ tb _ (by omega) (WithB.row og_17.out).2 (WithB.row oo_17.out).2).mono ?_
  rintro e w18 ⟨rfl, hb18⟩
  have Wt0_18 := cell_later hb18 Wt0_17
  have Wt1_18 := cell_later hb18 Wt1_17
  have Wt2_18 := cell_later hb18 Wt2_17
  have Wt3_18 := cell_later hb18 Wt3_17
  have Wt4_18 := cell_later hb18 Wt4_17
  have Wt5_18 := cell_later hb18 Wt5_17
  have Wt6_18 := cell_later hb18 Wt6_17
  have Gt0_18 := cell_later hb18 Gt0_17
  have Gt1_18 := cell_later hb18 Gt1_17
  have Gt2_18 := cell_later hb18 Gt2_17
  have Gt3_18 := cell_later hb18 Gt3_17
  have Gt4_18 := cell_later hb18 Gt4_17
  have Gt5_18 := cell_later hb18 Gt5_17
  have Gt6_18 := cell_later hb18 Gt6_17
  have oo_18 := Hid.mk (WithB.ownBelow oo_17.out hb18)
  have ox0_18 := Hid.mk (RInts.ownBelow ox0_17.out hb18)
  have ox1_18 := Hid.mk (RInts.ownBelow ox1_17.out hb18)
  have og_18 := Hid.mk (WithB.ownBelow og_17.out hb18)
  have B_18 := B_17.trans (hb18.mono B_17.size)
  have zz18 : w17.heap.size ≤ w18.heap.size := hb18.size
  clear Wt0_17 Wt1_17 Wt2_17 Wt3_17 Wt4_17 Wt5_17 Wt6_17 Gt0_17 Gt1_17 Gt2_17 Gt3_17 Gt4_17 Gt5_17 Gt6_17 oo_17 ox0_17 ox1_17 og_17 B_17
  clear hb18
  clear ox0_18
  clear ox1_18
  obtain ⟨MF1, MF2, hmA, hmB, mf1, mf2, mfd⟩ := og_18.out
  have HMA := Hid.mk hmA
  have HMB := Hid.mk hmB
  clear hmA hmB
  go_wp2_with fail
  refine (markSink_rep MF1 _ l0 _ _ l2 _ _ l3 _ _ l4 _ t1 t5 t6 t0 t2 t3 t4 1 _ HL0.out hs0 HL2.out hs2 HL3.out hs3 HD3.out HL4.out hs4 hcs3 (by omega) (by omega) (fun b h => by have h2 := (mf1 b h).2; omega) HMA.out).mono ?_
  rintro e w19 ⟨rfl, ho19, hg19⟩
  rw [HVA.out]
  have og_19 := Hid.mk (show WithB RSink _ (From (w6.heap.size) (w7.heap.size)) _ _ _ _ _ _ from ⟨MF1, MF2, ho19, HMB.out.frame (fun b h hl => hg19.block b hl (fun e => mfd b e h)), mf1, mf2, mfd⟩)
  clear ho19 HMA HMB
  have hgx19 := hg19.mono (F' := From (w6.heap.size) (w7.heap.size)) mf1
  clear hg19 mf1 mf2 mfd
  have Wt0_19 := hgx19.cell Wt0_18 (show ¬ From (w6.heap.size) (w7.heap.size) (w3.heap.size) from fun h => by have h1 := h.1; have h2 := h.2; omega)
  have Wt1_19 := hgx19.cell Wt1_18 (show ¬ From (w6.heap.size) (w7.heap.size) (w3.heap.size) from fun h => by have h1 := h.1; have h2 := h.2; omega)
  have Wt2_19 := hgx19.cell Wt2_18 (show ¬ From (w6.heap.size) (w7.heap.size) (w3.heap.size) from fun h => by have h1 := h.1; have h2 := h.2; omega)
  have Wt3_19 := hgx19.cell Wt3_18 (show ¬ From (w6.heap.size) (w7.heap.size) (w3.heap.size) from fun h => by have h1 := h.1; have h2 := h.2; omega)
  have Wt4_19 := hgx19.cell Wt4_18 (show ¬ From (w6.heap.size) (w7.heap.size) (w3.heap.size) from fun h => by have h1 := h.1; have h2 := h.2; omega)
  have Wt5_19 := hgx19.cell Wt5_18 (show ¬ From (w6.heap.size) (w7.heap.size) (w3.heap.size) from fun h => by have h1 := h.1; have h2 := h.2; omega)
  have Wt6_19 := hgx19.cell Wt6_18 (show ¬ From (w6.heap.size) (w7.heap.size) (w3.heap.size) from fun h => by have h1 := h.1; have h2 := h.2; omega)
  have Gt0_19 := hgx19.cell Gt0_18 (show ¬ From (w6.heap.size) (w7.heap.size) (w7.heap.size) from fun h => by have h1 := h.1; have h2 := h.2; omega)
  have Gt1_19 := hgx19.cell Gt1_18 (show ¬ From (w6.heap.size) (w7.heap.size) (w7.heap.size) from fun h => by have h1 := h.1; have h2 := h.2; omega)
  have Gt2_19 := hgx19.cell Gt2_18 (show ¬ From (w6.heap.size) (w7.heap.size) (w7.heap.size) from fun h => by have h1 := h.1; have h2 := h.2; omega)
  have Gt3_19 := hgx19.cell Gt3_18 (show ¬ From (w6.heap.size) (w7.heap.size) (w7.heap.size) from fun h => by have h1 := h.1; have h2 := h.2; omega)
  have Gt4_19 := hgx19.cell Gt4_18 (show ¬ From (w6.heap.size) (w7.heap.size) (w7.heap.size) from fun h => by have h1 := h.1; have h2 := h.2; omega)
  have Gt5_19 := hgx19.cell Gt5_18 (show ¬ From (w6.heap.size) (w7.heap.size) (w7.heap.size) from fun h => by have h1 := h.1; have h2 := h.2; omega)
  have Gt6_19 := hgx19.cell Gt6_18 (show ¬ From (w6.heap.size) (w7.heap.size) (w7.heap.size) from fun h => by have h1 := h.1; have h2 := h.2; omega)
  have oo_19 := Hid.mk (WithB.ownOff oo_18.out hgx19 (fun b h1 h2 => by have h3 := h1.1; have h4 := h1.2; have h5 := h2.1; have h6 := h2.2; omega))
  have B_19 := B_18.trans (hgx19.toBelow (by omega) B_18.size)
  have zz19 : w18.heap.size ≤ w19.heap.size := hgx19.size
  clear Wt0_18 Wt1_18 Wt2_18 Wt3_18 Wt4_18 Wt5_18 Wt6_18 Gt0_18 Gt1_18 Gt2_18 Gt3_18 Gt4_18 Gt5_18 Gt6_18 oo_18 og_18 B_18
  clear hgx19
  have gpos : ¬ (1 : Int) + (VA : Int) < 0 := by omega
  have gpos2 : ¬ (1 : Int) + (VA : Int) + (lb : Int) < 0 := by omega
  obtain ⟨MF1, MF2, hmA, hmB, mf1, mf2, mfd⟩ := og_19.out
  have HMA := Hid.mk hmA
  have HMB := Hid.mk hmB
  clear hmA hmB
  go_wp2_with fail
  refine (markBoolS_any 0 _ lb _ _ (1 + (VA : Int)) _ (by omega) (by omega) (by omega) HMB.out.2.1).mono ?_
  rintro e w20 ⟨rfl, ho20, hg20⟩
  have hgy20 := Off.grown (F := MF2) hg20 (fun b h => HMB.out.2.2 b h)
  have og_20 := Hid.mk (show WithB RSink _ (From (w6.heap.size) (w7.heap.size)) _ _ _ _ _ (marksB (1 + (VA : Int)) lb) from ⟨MF1, MF2, RSink.ownOff HMA.out hgy20 mfd, ⟨marksB_length _ _, ho20, HMB.out.2.2⟩, mf1, mf2, mfd⟩)
  clear ho20 HMA HMB
  have hgx20 := hgy20.mono (F' := From (w6.heap.size) (w7.heap.size)) mf2
  clear hg20 hgy20 mf1 mf2 mfd
  have Wt0_20 := hgx20.cell Wt0_19 (show ¬ From (w6.heap.size) (w7.heap.size) (w3.heap.size) from fun h => by have h1 := h.1; have h2 := h.2; omega)
  have Wt1_20 := hgx20.cell Wt1_19 (show ¬ From (w6.heap.size) (w7.heap.size) (w3.heap.size) from fun h => by have h1 := h.1; have h2 := h.2; omega)
  have Wt2_20 := hgx20.cell Wt2_19 (show ¬ From (w6.heap.size) (w7.heap.size) (w3.heap.size) from fun h => by have h1 := h.1; have h2 := h.2; omega)
  have Wt3_20 := hgx20.cell Wt3_19 (show ¬ From (w6.heap.size) (w7.heap.size) (w3.heap.size) from fun h => by have h1 := h.1; have h2 := h.2; omega)
  have Wt4_20 := hgx20.cell Wt4_19 (show ¬ From (w6.heap.size) (w7.heap.size) (w3.heap.size) from fun h => by have h1 := h.1; have h2 := h.2; omega)
  have Wt5_20 := hgx20.cell Wt5_19 (show ¬ From (w6.heap.size) (w7.heap.size) (w3.heap.size) from fun h => by have h1 := h.1; have h2 := h.2; omega)
  have Wt6_20 := hgx20.cell Wt6_19 (show ¬ From (w6.heap.size) (w7.heap.size) (w3.heap.size) from fun h => by have h1 := h.1; have h2 := h.2; omega)
  have Gt0_20 := hgx20.cell Gt0_19 (show ¬ From (w6.heap.size) (w7.heap.size) (w7.heap.size) from fun h => by have h1 := h.1; have h2 := h.2; omega)
  have Gt1_20 := hgx20.cell Gt1_19 (show ¬ From (w6.heap.size) (w7.heap.size) (w7.heap.size) from fun h => by have h1 := h.1; have h2 := h.2; omega)
  have Gt2_20 := hgx20.cell Gt2_19 (show ¬ From (w6.heap.size) (w7.heap.size) (w7.heap.size) from fun h => by have h1 := h.1; have h2 := h.2; omega)
  have Gt3_20 := hgx20.cell Gt3_19 (show ¬ From (w6.heap.size) (w7.heap.size) (w7.heap.size) from fun h => by have h1 := h.1; have h2 := h.2; omega)
  have Gt4_20 := hgx20.cell Gt4_19 (show ¬ From (w6.heap.size) (w7.heap.size) (w7.heap.size) from fun h => by have h1 := h.1; have h2 := h.2; omega)
  have Gt5_20 := hgx20.cell Gt5_19 (show ¬ From (w6.heap.size) (w7.heap.size) (w7.heap.size) from fun h => by have h1 := h.1; have h2 := h.2; omega)
  have Gt6_20 := hgx20.cell Gt6_19 (show ¬ From (w6.heap.size) (w7.heap.size) (w7.heap.size) from fun h => by have h1 := h.1; have h2 := h.2; omega)
  have oo_20 := Hid.mk (WithB.ownOff oo_19.out hgx20 (fun b h1 h2 => by have h3 := h1.1; have h4 := h1.2; have h5 := h2.1; have h6 := h2.2; omega))
  have B_20 := B_19.trans (hgx20.toBelow (by omega) B_19.size)
  have zz20 : w19.heap.size ≤ w20.heap.size := hgx20.size
  clear Wt0_19 Wt1_19 Wt2_19 Wt3_19 Wt4_19 Wt5_19 Wt6_19 Gt0_19 Gt1_19 Gt2_19 Gt3_19 Gt4_19 Gt5_19 Gt6_19 oo_19 og_19 B_19
  clear hgx20
  go_wp2_with fail
  refine (heldSink_rep _ l0 _ _ l2 _ _ l3 _ _ l4 _ t1 t5 t6 t0 t2 t3 t4 1 _ HL0.out hs0 HL2.out hs2 HL3.out hs3 HD3.out HL4.out hs4 hcs3 (by omega) (by omega) (WithB.toAt og_20.out)).mono ?_
  rintro e w21 ⟨rfl, hb21⟩
  rw [HVA.out]
  have Wt0_21 := cell_later hb21 Wt0_20
  have Wt1_21 := cell_later hb21 Wt1_20
  have Wt2_21 := cell_later hb21 Wt2_20
  have Wt3_21 := cell_later hb21 Wt3_20
  have Wt4_21 := cell_later hb21 Wt4_20
  have Wt5_21 := cell_later hb21 Wt5_20
  have Wt6_21 := cell_later hb21 Wt6_20
  have Gt0_21 := cell_later hb21 Gt0_20
  have Gt1_21 := cell_later hb21 Gt1_20
  have Gt2_21 := cell_later hb21 Gt2_20
  have Gt3_21 := cell_later hb21 Gt3_20
  have Gt4_21 := cell_later hb21 Gt4_20
  have Gt5_21 := cell_later hb21 Gt5_20
  have Gt6_21 := cell_later hb21 Gt6_20
  have oo_21 := Hid.mk (WithB.ownBelow oo_20.out hb21)
  have og_21 := Hid.mk (WithB.ownBelow og_20.out hb21)
  have B_21 := B_20.trans (hb21.mono B_20.size)
  have zz21 : w20.heap.size ≤ w21.heap.size := hb21.size
  clear Wt0_20 Wt1_20 Wt2_20 Wt3_20 Wt4_20 Wt5_20 Wt6_20 Gt0_20 Gt1_20 Gt2_20 Gt3_20 Gt4_20 Gt5_20 Gt6_20 oo_20 og_20 B_20
  clear hb21
  go_wp2_with fail
  refine (heldBoolS_any 0 _ lb _ (1 + (VA : Int)) _ (by omega) (by omega) (by omega) (WithB.row og_21.out).2).mono ?_
  rintro e w22 ⟨rfl, hb22⟩
  have Wt0_22 := cell_later hb22 Wt0_21
  have Wt1_22 := cell_later hb22 Wt1_21
  have Wt2_22 := cell_later hb22 Wt2_21
  have Wt3_22 := cell_later hb22 Wt3_21
  have Wt4_22 := cell_later hb22 Wt4_21
  have Wt5_22 := cell_later hb22 Wt5_21
  have Wt6_22 := cell_later hb22 Wt6_21
  have Gt0_22 := cell_later hb22 Gt0_21
  have Gt1_22 := cell_later hb22 Gt1_21
  have Gt2_22 := cell_later hb22 Gt2_21
  have Gt3_22 := cell_later hb22 Gt3_21
  have Gt4_22 := cell_later hb22 Gt4_21
  have Gt5_22 := cell_later hb22 Gt5_21
  have Gt6_22 := cell_later hb22 Gt6_21
  have oo_22 := Hid.mk (WithB.ownBelow oo_21.out hb22)
  have og_22 := Hid.mk (WithB.ownBelow og_21.out hb22)
  have B_22 := B_21.trans (hb22.mono B_21.size)
  have zz22 : w21.heap.size ≤ w22.heap.size := hb22.size
  clear Wt0_21 Wt1_21 Wt2_21 Wt3_21 Wt4_21 Wt5_21 Wt6_21 Gt0_21 Gt1_21 Gt2_21 Gt3_21 Gt4_21 Gt5_21 Gt6_21 oo_21 og_21 B_21
  clear hb22
  go_wp2_with fail
  refine (toInts_rep a0 n0 c0 z0 _ HZ0.out hsn0 (At.below HA0.out B_22)).mono ?_
  rintro e w23 ⟨g23, rfl, ho23, hb23⟩
  have oh0_23 := Hid.mk ho23
  clear ho23
  have Wt0_23 := cell_later hb23 Wt0_22
  have Wt1_23 := cell_later hb23 Wt1_22
  have Wt2_23 := cell_later hb23 Wt2_22
  have Wt3_23 := cell_later hb23 Wt3_22
  have Wt4_23 := cell_later hb23 Wt4_22
  have Wt5_23 := cell_later hb23 Wt5_22
  have Wt6_23 := cell_later hb23 Wt6_22
  have Gt0_23 := cell_later hb23 Gt0_22
  have Gt1_23 := cell_later hb23 Gt1_22
  have Gt2_23 := cell_later hb23 Gt2_22
  have Gt3_23 := cell_later hb23 Gt3_22
  have Gt4_23 := cell_later hb23 Gt4_22
  have Gt5_23 := cell_later hb23 Gt5_22
  have Gt6_23 := cell_later hb23 Gt6_22
  have oo_23 := Hid.mk (WithB.ownBelow oo_22.out hb23)
  have og_23 := Hid.mk (WithB.ownBelow og_22.out hb23)
  have B_23 := B_22.trans (hb23.mono B_22.size)
  have zz23 : w22.heap.size ≤ w23.heap.size := hb23.size
  clear Wt0_22 Wt1_22 Wt2_22 Wt3_22 Wt4_22 Wt5_22 Wt6_22 Gt0_22 Gt1_22 Gt2_22 Gt3_22 Gt4_22 Gt5_22 Gt6_22 oo_22 og_22 B_22
  clear hb23
  go_wp2_with fail
  refine (toInts_rep a1 n1 c1 z1 _ HZ1.out hsn1 (At.below HA1.out B_23)).mono ?_
  rintro e w24 ⟨g24, rfl, ho24, hb24⟩
  have oh1_24 := Hid.mk ho24
  clear ho24
  have Wt0_24 := cell_later hb24 Wt0_23
  have Wt1_24 := cell_later hb24 Wt1_23
  have Wt2_24 := cell_later hb24 Wt2_23
  have Wt3_24 := cell_later hb24 Wt3_23
  have Wt4_24 := cell_later hb24 Wt4_23
  have Wt5_24 := cell_later hb24 Wt5_23
  have Wt6_24 := cell_later hb24 Wt6_23
  have Gt0_24 := cell_later hb24 Gt0_23
  have Gt1_24 := cell_later hb24 Gt1_23
  have Gt2_24 := cell_later hb24 Gt2_23
  have Gt3_24 := cell_later hb24 Gt3_23
  have Gt4_24 := cell_later hb24 Gt4_23
  have Gt5_24 := cell_later hb24 Gt5_23
  have Gt6_24 := cell_later hb24 Gt6_23
  have oo_24 := Hid.mk (WithB.ownBelow oo_23.out hb24)
  have og_24 := Hid.mk (WithB.ownBelow og_23.out hb24)
  have oh0_24 := Hid.mk (RInts.ownBelow oh0_23.out hb24)
  have B_24 := B_23.trans (hb24.mono B_23.size)
  have zz24 : w23.heap.size ≤ w24.heap.size := hb24.size
  clear Wt0_23 Wt1_23 Wt2_23 Wt3_23 Wt4_23 Wt5_23 Wt6_23 Gt0_23 Gt1_23 Gt2_23 Gt3_23 Gt4_23 Gt5_23 Gt6_23 oo_23 og_23 oh0_23 B_23
  clear hb24
  go_wp2_with fail
  refine (HI.out _ _ _ _ _ oh0_24.out oh1_24.out).mono ?_
  rintro e w25 ⟨⟨r025, m025, d025, r225, m225, d225, r325, m325, d325, r425, m425, d425, rb25, nb25, db25, rfl, ho25⟩, hb25⟩
  clear oh0_24
  clear oh1_24
  obtain rfl : l0 = m025 := HL0.out.symm.trans (RSink.lens (WithB.own1 ho25)).1
  obtain rfl : l2 = m225 := HL2.out.symm.trans (RSink.lens (WithB.own1 ho25)).2.2.1
  obtain rfl : l3 = m325 := HL3.out.symm.trans (RSink.lens (WithB.own1 ho25)).2.2.2.2.1
  obtain rfl : l4 = m425 := HL4.out.symm.trans (RSink.lens (WithB.own1 ho25)).2.2.2.2.2.2.1
  obtain rfl : lb = nb25 := HLB.out.symm.trans (WithB.row ho25).1
  have ohg_25 := Hid.mk ho25
  clear ho25
  have Wt0_25 := cell_later hb25 Wt0_24
  have Wt1_25 := cell_later hb25 Wt1_24
  have Wt2_25 := cell_later hb25 Wt2_24
  have Wt3_25 := cell_later hb25 Wt3_24
  have Wt4_25 := cell_later hb25 Wt4_24
  have Wt5_25 := cell_later hb25 Wt5_24
  have Wt6_25 := cell_later hb25 Wt6_24
  have Gt0_25 := cell_later hb25 Gt0_24
  have Gt1_25 := cell_later hb25 Gt1_24
  have Gt2_25 := cell_later hb25 Gt2_24
  have Gt3_25 := cell_later hb25 Gt3_24
  have Gt4_25 := cell_later hb25 Gt4_24
  have Gt5_25 := cell_later hb25 Gt5_24
  have Gt6_25 := cell_later hb25 Gt6_24
  have oo_25 := Hid.mk (WithB.ownBelow oo_24.out hb25)
  have og_25 := Hid.mk (WithB.ownBelow og_24.out hb25)
  have B_25 := B_24.trans (hb25.mono B_24.size)
  have zz25 : w24.heap.size ≤ w25.heap.size := hb25.size
  clear Wt0_24 Wt1_24 Wt2_24 Wt3_24 Wt4_24 Wt5_24 Wt6_24 Gt0_24 Gt1_24 Gt2_24 Gt3_24 Gt4_24 Gt5_24 Gt6_24 oo_24 og_24 B_24
  clear hb25
  obtain ⟨w26, hU26⟩ : ∃ u, u = w25.alloc (.cells #[.slice r025 l0 d025, .int .i64 t1, .slice r225 l2 d225, .slice r325 l3 d325, .slice r425 l4 d425, .int .i64 t5, .int .i64 t6] 29) := ⟨_, rfl⟩
  have hb26 : Below w25.heap.size w25 w26 := by rw [hU26]; exact (Below.refl _ _).alloc (Nat.le_refl _) _
  have zl26 : w25.heap.size < w26.heap.size := by rw [hU26]; simp
  have nHt0 : w26.cell? ⟨w25.heap.size, 0, none⟩ = some (.slice r025 l0 d025) := by rw [hU26]; simp
  have nHt1 : w26.cell? ⟨w25.heap.size, 1, none⟩ = some (.int .i64 t1) := by rw [hU26]; simp
  have nHt2 : w26.cell? ⟨w25.heap.size, 2, none⟩ = some (.slice r225 l2 d225) := by rw [hU26]; simp
  have nHt3 : w26.cell? ⟨w25.heap.size, 3, none⟩ = some (.slice r325 l3 d325) := by rw [hU26]; simp
  have nHt4 : w26.cell? ⟨w25.heap.size, 4, none⟩ = some (.slice r425 l4 d425) := by rw [hU26]; simp
  have nHt5 : w26.cell? ⟨w25.heap.size, 5, none⟩ = some (.int .i64 t5) := by rw [hU26]; simp
  have nHt6 : w26.cell? ⟨w25.heap.size, 6, none⟩ = some (.int .i64 t6) := by rw [hU26]; simp
  have Wt0_26 := cell_later hb26 Wt0_25
  have Wt1_26 := cell_later hb26 Wt1_25
  have Wt2_26 := cell_later hb26 Wt2_25
  have Wt3_26 := cell_later hb26 Wt3_25
  have Wt4_26 := cell_later hb26 Wt4_25
  have Wt5_26 := cell_later hb26 Wt5_25
  have Wt6_26 := cell_later hb26 Wt6_25
  have Gt0_26 := cell_later hb26 Gt0_25
  have Gt1_26 := cell_later hb26 Gt1_25
  have Gt2_26 := cell_later hb26 Gt2_25
  have Gt3_26 := cell_later hb26 Gt3_25
  have Gt4_26 := cell_later hb26 Gt4_25
  have Gt5_26 := cell_later hb26 Gt5_25
  have Gt6_26 := cell_later hb26 Gt6_25
  have oo_26 := Hid.mk (WithB.ownBelow oo_25.out hb26)
  have og_26 := Hid.mk (WithB.ownBelow og_25.out hb26)
  have ohg_26 := Hid.mk (WithB.ownBelow ohg_25.out hb26)
  have B_26 := B_25.trans (hb26.mono B_25.size)
  have zz26 : w25.heap.size ≤ w26.heap.size := hb26.size
  clear Wt0_25 Wt1_25 Wt2_25 Wt3_25 Wt4_25 Wt5_25 Wt6_25 Gt0_25 Gt1_25 Gt2_25 Gt3_25 Gt4_25 Gt5_25 Gt6_25 oo_25 og_25 ohg_25 B_25
  clear hb26
  have xWt0 := Wt0_26
  rw [hU26] at xWt0
  have xWt1 := Wt1_26
  rw [hU26] at xWt1
  have xWt2 := Wt2_26
  rw [hU26] at xWt2
  have xWt3 := Wt3_26
  rw [hU26] at xWt3
  have xWt4 := Wt4_26
  rw [hU26] at xWt4
  have xWt5 := Wt5_26
  rw [hU26] at xWt5
  have xWt6 := Wt6_26
  rw [hU26] at xWt6
  have xGt0 := Gt0_26
  rw [hU26] at xGt0
  have xGt1 := Gt1_26
  rw [hU26] at xGt1
  have xGt2 := Gt2_26
  rw [hU26] at xGt2
  have xGt3 := Gt3_26
  rw [hU26] at xGt3
  have xGt4 := Gt4_26
  rw [hU26] at xGt4
  have xGt5 := Gt5_26
  rw [hU26] at xGt5
  have xGt6 := Gt6_26
  rw [hU26] at xGt6
  have xHt0 := nHt0
  rw [hU26] at xHt0
  have xHt1 := nHt1
  rw [hU26] at xHt1
  have xHt2 := nHt2
  rw [hU26] at xHt2
  have xHt3 := nHt3
  rw [hU26] at xHt3
  have xHt4 := nHt4
  rw [hU26] at xHt4
  have xHt5 := nHt5
  rw [hU26] at xHt5
  have xHt6 := nHt6
  rw [hU26] at xHt6
  go_wp2_with fail
  rw [← hU26]
  clear hU26
  clear xWt0 xWt1 xWt2 xWt3 xWt4 xWt5 xWt6 xGt0 xGt1 xGt2 xGt3 xGt4 xGt5 xGt6 xHt0 xHt1 xHt2 xHt3 xHt4 xHt5 xHt6
  refine (eqSink_same _ l0 _ _ l2 _ _ l3 _ _ l4 _ _ _ _ _ _ _ _ _ t1 t5 t6 t0 t2 t3 t4 _ HL0.out hs0 HL2.out hs2 HL3.out hs3 HD3.out HL4.out hs4 (RSink.lens (WithB.own1 ohg_26.out)).2.1 (RSink.lens (WithB.own1 oo_26.out)).2.1 (RSink.lens (WithB.own1 ohg_26.out)).2.2.2.1 (RSink.lens (WithB.own1 oo_26.out)).2.2.2.1 (RSink.lens (WithB.own1 ohg_26.out)).2.2.2.2.2.1 (RSink.lens (WithB.own1 oo_26.out)).2.2.2.2.2.1 (RSink.lens (WithB.own1 ohg_26.out)).2.2.2.2.2.2.2 (RSink.lens (WithB.own1 oo_26.out)).2.2.2.2.2.2.2).mono ?_
  rintro e w27 ⟨rfl, hb27⟩
  have Wt0_27 := cell_later hb27 Wt0_26
  have Wt1_27 := cell_later hb27 Wt1_26
  have Wt2_27 := cell_later hb27 Wt2_26
  have Wt3_27 := cell_later hb27 Wt3_26
  have Wt4_27 := cell_later hb27 Wt4_26
  have Wt5_27 := cell_later hb27 Wt5_26
  have Wt6_27 := cell_later hb27 Wt6_26
  have Gt0_27 := cell_later hb27 Gt0_26
  have Gt1_27 := cell_later hb27 Gt1_26
  have Gt2_27 := cell_later hb27 Gt2_26
  have Gt3_27 := cell_later hb27 Gt3_26
  have Gt4_27 := cell_later hb27 Gt4_26
  have Gt5_27 := cell_later hb27 Gt5_26
  have Gt6_27 := cell_later hb27 Gt6_26
  have Ht0_27 := cell_later hb27 nHt0
  have Ht1_27 := cell_later hb27 nHt1
  have Ht2_27 := cell_later hb27 nHt2
  have Ht3_27 := cell_later hb27 nHt3
  have Ht4_27 := cell_later hb27 nHt4
  have Ht5_27 := cell_later hb27 nHt5
  have Ht6_27 := cell_later hb27 nHt6
  have oo_27 := Hid.mk (WithB.ownBelow oo_26.out hb27)
  have og_27 := Hid.mk (WithB.ownBelow og_26.out hb27)
  have ohg_27 := Hid.mk (WithB.ownBelow ohg_26.out hb27)
  have B_27 := B_26.trans (hb27.mono B_26.size)
  have zz27 : w26.heap.size ≤ w27.heap.size := hb27.size
  clear Wt0_26 Wt1_26 Wt2_26 Wt3_26 Wt4_26 Wt5_26 Wt6_26 Gt0_26 Gt1_26 Gt2_26 Gt3_26 Gt4_26 Gt5_26 Gt6_26 nHt0 nHt1 nHt2 nHt3 nHt4 nHt5 nHt6 oo_26 og_26 ohg_26 B_26
  clear hb27
  go_wp2_with fail
  refine (eqBoolS_same 0 0 _ _ lb _ _ tb _ (by omega) (WithB.row ohg_27.out).2 (WithB.row oo_27.out).2).mono ?_
  rintro e w28 ⟨rfl, hb28⟩
  have Wt0_28 := cell_later hb28 Wt0_27
  have Wt1_28 := cell_later hb28 Wt1_27
  have Wt2_28 := cell_later hb28 Wt2_27
  have Wt3_28 := cell_later hb28 Wt3_27
  have Wt4_28 := cell_later hb28 Wt4_27
  have Wt5_28 := cell_later hb28 Wt5_27
  have Wt6_28 := cell_later hb28 Wt6_27
  have Gt0_28 := cell_later hb28 Gt0_27
  have Gt1_28 := cell_later hb28 Gt1_27
  have Gt2_28 := cell_later hb28 Gt2_27
  have Gt3_28 := cell_later hb28 Gt3_27
  have Gt4_28 := cell_later hb28 Gt4_27
  have Gt5_28 := cell_later hb28 Gt5_27
  have Gt6_28 := cell_later hb28 Gt6_27
  have Ht0_28 := cell_later hb28 Ht0_27
  have Ht1_28 := cell_later hb28 Ht1_27
  have Ht2_28 := cell_later hb28 Ht2_27
  have Ht3_28 := cell_later hb28 Ht3_27
  have Ht4_28 := cell_later hb28 Ht4_27
  have Ht5_28 := cell_later hb28 Ht5_27
  have Ht6_28 := cell_later hb28 Ht6_27
  have oo_28 := Hid.mk (WithB.ownBelow oo_27.out hb28)
  have og_28 := Hid.mk (WithB.ownBelow og_27.out hb28)
  have ohg_28 := Hid.mk (WithB.ownBelow ohg_27.out hb28)
  have B_28 := B_27.trans (hb28.mono B_27.size)
  have zz28 : w27.heap.size ≤ w28.heap.size := hb28.size
  clear Wt0_27 Wt1_27 Wt2_27 Wt3_27 Wt4_27 Wt5_27 Wt6_27 Gt0_27 Gt1_27 Gt2_27 Gt3_27 Gt4_27 Gt5_27 Gt6_27 Ht0_27 Ht1_27 Ht2_27 Ht3_27 Ht4_27 Ht5_27 Ht6_27 oo_27 og_27 ohg_27 B_27
  clear hb28
  go_wp2_with fail
  refine (heldSink_rep _ l0 _ _ l2 _ _ l3 _ _ l4 _ t1 t5 t6 t0 t2 t3 t4 1 _ HL0.out hs0 HL2.out hs2 HL3.out hs3 HD3.out HL4.out hs4 hcs3 (by omega) (by omega) (WithB.toAt og_28.out)).mono ?_
  rintro e w29 ⟨rfl, hb29⟩
  rw [HVA.out]
  have Wt0_29 := cell_later hb29 Wt0_28
  have Wt1_29 := cell_later hb29 Wt1_28
  have Wt2_29 := cell_later hb29 Wt2_28
  have Wt3_29 := cell_later hb29 Wt3_28
  have Wt4_29 := cell_later hb29 Wt4_28
  have Wt5_29 := cell_later hb29 Wt5_28
  have Wt6_29 := cell_later hb29 Wt6_28
  have Gt0_29 := cell_later hb29 Gt0_28
  have Gt1_29 := cell_later hb29 Gt1_28
  have Gt2_29 := cell_later hb29 Gt2_28
  have Gt3_29 := cell_later hb29 Gt3_28
  have Gt4_29 := cell_later hb29 Gt4_28
  have Gt5_29 := cell_later hb29 Gt5_28
  have Gt6_29 := cell_later hb29 Gt6_28
  have Ht0_29 := cell_later hb29 Ht0_28
  have Ht1_29 := cell_later hb29 Ht1_28
  have Ht2_29 := cell_later hb29 Ht2_28
  have Ht3_29 := cell_later hb29 Ht3_28
  have Ht4_29 := cell_later hb29 Ht4_28
  have Ht5_29 := cell_later hb29 Ht5_28
  have Ht6_29 := cell_later hb29 Ht6_28
  have oo_29 := Hid.mk (WithB.ownBelow oo_28.out hb29)
  have og_29 := Hid.mk (WithB.ownBelow og_28.out hb29)
  have ohg_29 := Hid.mk (WithB.ownBelow ohg_28.out hb29)
  have B_29 := B_28.trans (hb29.mono B_28.size)
  have zz29 : w28.heap.size ≤ w29.heap.size := hb29.size
  clear Wt0_28 Wt1_28 Wt2_28 Wt3_28 Wt4_28 Wt5_28 Wt6_28 Gt0_28 Gt1_28 Gt2_28 Gt3_28 Gt4_28 Gt5_28 Gt6_28 Ht0_28 Ht1_28 Ht2_28 Ht3_28 Ht4_28 Ht5_28 Ht6_28 oo_28 og_28 ohg_28 B_28
  clear hb29
  go_wp2_with fail
  refine (heldBoolS_any 0 _ lb _ (1 + (VA : Int)) _ (by omega) (by omega) (by omega) (WithB.row og_29.out).2).mono ?_
  rintro e w30 ⟨rfl, hb30⟩
  have Wt0_30 := cell_later hb30 Wt0_29
  have Wt1_30 := cell_later hb30 Wt1_29
  have Wt2_30 := cell_later hb30 Wt2_29
  have Wt3_30 := cell_later hb30 Wt3_29
  have Wt4_30 := cell_later hb30 Wt4_29
  have Wt5_30 := cell_later hb30 Wt5_29
  have Wt6_30 := cell_later hb30 Wt6_29
  have Gt0_30 := cell_later hb30 Gt0_29
  have Gt1_30 := cell_later hb30 Gt1_29
  have Gt2_30 := cell_later hb30 Gt2_29
  have Gt3_30 := cell_later hb30 Gt3_29
  have Gt4_30 := cell_later hb30 Gt4_29
  have Gt5_30 := cell_later hb30 Gt5_29
  have Gt6_30 := cell_later hb30 Gt6_29
  have Ht0_30 := cell_later hb30 Ht0_29
  have Ht1_30 := cell_later hb30 Ht1_29
  have Ht2_30 := cell_later hb30 Ht2_29
  have Ht3_30 := cell_later hb30 Ht3_29
  have Ht4_30 := cell_later hb30 Ht4_29
  have Ht5_30 := cell_later hb30 Ht5_29
  have Ht6_30 := cell_later hb30 Ht6_29
  have oo_30 := Hid.mk (WithB.ownBelow oo_29.out hb30)
  have og_30 := Hid.mk (WithB.ownBelow og_29.out hb30)
  have ohg_30 := Hid.mk (WithB.ownBelow ohg_29.out hb30)
  have B_30 := B_29.trans (hb30.mono B_29.size)
  have zz30 : w29.heap.size ≤ w30.heap.size := hb30.size
  clear Wt0_29 Wt1_29 Wt2_29 Wt3_29 Wt4_29 Wt5_29 Wt6_29 Gt0_29 Gt1_29 Gt2_29 Gt3_29 Gt4_29 Gt5_29 Gt6_29 Ht0_29 Ht1_29 Ht2_29 Ht3_29 Ht4_29 Ht5_29 Ht6_29 oo_29 og_29 ohg_29 B_29
  clear hb30
  go_wp2
  go_ret
  exact ⟨rfl, B_30⟩

end Go.Proofs.Ytmbjmmnodcebbaa
