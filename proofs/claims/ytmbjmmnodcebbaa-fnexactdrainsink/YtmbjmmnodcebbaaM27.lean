/- The law FnExactDrainSink returns true at every input, and writes nothing that was there. -/
import Derived.Test.YtmbjmmnodcebbaaM13
import Derived.Test.YtmbjmmnodcebbaaM24
import Derived.Test.YtmbjmmnodcebbaaM25
import Derived.Test.YtmbjmmnodcebbaaM26
import Derived.Test.YtmbjmmnodcebbaaM6
namespace Go.Proofs.Ytmbjmmnodcebbaa
open Go.RowKit

set_option maxRecDepth 100000 in
set_option maxHeartbeats 16000000 in
theorem lawDrainSink (sa0_0 : Option Addr) (sn0_0 sc0_0 : Nat) (sa2_0 : Option Addr) (sn2_0 sc2_0 : Nat) (sa3_0 : Option Addr) (sn3_0 sc3_0 : Nat) (sa4_0 : Option Addr) (sn4_0 sc4_0 : Nat) (sz1_0 : Int) (sz5_0 : Int) (sz6_0 : Int) (sx0_0 : List Int) (sx2_0 : List Int) (sx3_0 : List TPrepared) (sx4_0 : List Int) (w : World) (ha0 : RSink.At w [.slice sa0_0 sn0_0 sc0_0, .int .i64 sz1_0, .slice sa2_0 sn2_0 sc2_0, .slice sa3_0 sn3_0 sc3_0, .slice sa4_0 sn4_0 sc4_0, .int .i64 sz5_0, .int .i64 sz6_0] (sx0_0, sz1_0, sx2_0, sx3_0, sx4_0, sz5_0, sz6_0)) :
    Calls Try.prog 5 #[.agg #[.slice sa0_0 sn0_0 sc0_0, .int .i64 sz1_0, .slice sa2_0 sn2_0 sc2_0, .slice sa3_0 sn3_0 sc3_0, .slice sa4_0 sn4_0 sc4_0, .int .i64 sz5_0, .int .i64 sz6_0]] w fun e w' => e = .returned (.bool true) ∧ Below w.heap.size w w' := by
  obtain ⟨⟨k0_0, kb0_0, kc0_0, _⟩, ⟨k2_0, kb2_0, kc2_0, _⟩, ⟨k3_0, kb3_0, kc3_0, _⟩, ⟨k4_0, kb4_0, kc4_0, _⟩⟩ := RSink.at_iff ha0
  have HA0 := Hid.mk (And.intro kc0_0 (And.intro kc2_0 (And.intro kc3_0 (kc4_0))))
  have HZ0 : Hid (sx0_0.length = sn0_0 ∧ sx2_0.length = sn2_0 ∧ sx3_0.length = sn3_0 ∧ sx4_0.length = sn4_0) := Hid.mk ⟨k0_0, k2_0, k3_0, k4_0⟩
  clear ha0 k0_0 kc0_0 k2_0 kc2_0 k3_0 kc3_0 k4_0 kc4_0
  obtain ⟨W, hW⟩ : ∃ W, W = w.alloc (.cells #[.slice sa0_0 sn0_0 sc0_0, .int .i64 sz1_0, .slice sa2_0 sn2_0 sc2_0, .slice sa3_0 sn3_0 sc3_0, .slice sa4_0 sn4_0 sc4_0, .int .i64 sz5_0, .int .i64 sz6_0] 25) := ⟨_, rfl⟩
  have B0 : Below w.heap.size w W := by rw [hW]; exact (Below.refl _ _).alloc (Nat.le_refl _) _
  have zW : w.heap.size < W.heap.size := by rw [hW]; simp
  have p00_0 : W.cell? ⟨w.heap.size, 0, none⟩ = some (.slice sa0_0 sn0_0 sc0_0) := by rw [hW]; simp
  have p01_0 : W.cell? ⟨w.heap.size, 1, none⟩ = some (.int .i64 sz1_0) := by rw [hW]; simp
  have p02_0 : W.cell? ⟨w.heap.size, 2, none⟩ = some (.slice sa2_0 sn2_0 sc2_0) := by rw [hW]; simp
  have p03_0 : W.cell? ⟨w.heap.size, 3, none⟩ = some (.slice sa3_0 sn3_0 sc3_0) := by rw [hW]; simp
  have p04_0 : W.cell? ⟨w.heap.size, 4, none⟩ = some (.slice sa4_0 sn4_0 sc4_0) := by rw [hW]; simp
  have p05_0 : W.cell? ⟨w.heap.size, 5, none⟩ = some (.int .i64 sz5_0) := by rw [hW]; simp
  have p06_0 : W.cell? ⟨w.heap.size, 6, none⟩ = some (.int .i64 sz6_0) := by rw [hW]; simp
  obtain ⟨C0, hC0⟩ : ∃ C : Nat, costSink (sx0_0, sz1_0, sx2_0, sx3_0, sx4_0, sz5_0, sz6_0) = C := ⟨_, rfl⟩
  have HC0 := Hid.mk hC0
  clear hC0
  by_cases big0 : (1048576 : Int) < (C0 : Int)
  · go_enter Try.func5, Try.ntmps5
    go_wp2_with fail
    rw [← hW]
    clear hW
    refine (szSink_any sa0_0 sn0_0 sc0_0 sa2_0 sn2_0 sc2_0 sa3_0 sn3_0 sc3_0 sa4_0 sn4_0 sc4_0 sz1_0 sz5_0 sz6_0 sx0_0 sx2_0 sx3_0 sx4_0 _ _ HZ0.out.1 kb0_0 HZ0.out.2.1 kb2_0 HZ0.out.2.2.1 kb3_0 HZ0.out.2.2.2 kb4_0 (At.below HA0.out.1 B0) (At.below HA0.out.2.1 B0) (AtSl.below HA0.out.2.2.1 B0) (At.below HA0.out.2.2.2 B0) (by omega) (by omega)).mono ?_
    rintro e v0 ⟨rfl, hv0⟩
    rw [HC0.out, leftOf_no big0]
    have y0 := B0.trans (hv0.mono B0.size)
    go_wp2
    go_ret
    exact ⟨rfl, y0⟩
  have hl0 : ¬ (1048576 : Int) - (C0 : Int) < 0 := by omega
  have HSM0 := Hid.mk (smallSink HZ0.out.1 HZ0.out.2.1 HZ0.out.2.2.1 HZ0.out.2.2.2 (by have q := HC0.out; omega : costSink (sx0_0, sz1_0, sx2_0, sx3_0, sx4_0, sz5_0, sz6_0) ≤ 1048576))
  have sh0_0 : sn0_0 ≤ 1048576 := HSM0.out.1
  have sh2_0 : sn2_0 ≤ 1048576 := HSM0.out.2.1
  have sh3_0 : sn3_0 ≤ 1048576 := HSM0.out.2.2.1
  have HDD3_0 := Hid.mk HSM0.out.2.2.2.1
  have sh4_0 : sn4_0 ≤ 1048576 := HSM0.out.2.2.2.2
  have HCC0 : Hid (sn0_0 + sn2_0 + (sn3_0 + csumPrepared sx3_0 sn3_0) + sn4_0 ≤ 1048576) := Hid.mk (by have q := HC0.out; unfold costSink at q; simp only [HZ0.out.1, HZ0.out.2.1, HZ0.out.2.2.1, HZ0.out.2.2.2] at q; omega)
  have HVB0 : mknSink (sx0_0, sz1_0, sx2_0, sx3_0, sx4_0, sz5_0, sz6_0) ≤ 8388608 := by
    have q := HCC0.out
    unfold mknSink
    simp only [HZ0.out.1, HZ0.out.2.1, HZ0.out.2.2.1, HZ0.out.2.2.2]
    rw [msumPrepared_eq sx3_0 sn3_0 (by have q2 := HZ0.out.2.2.1; omega)]
    omega
  have hcs3_0 : csumPrepared sx3_0 sn3_0 ≤ 1048576 := by have q := HCC0.out; omega
  obtain ⟨V0, hV0⟩ : ∃ V : Nat, mknSink (sx0_0, sz1_0, sx2_0, sx3_0, sx4_0, sz5_0, sz6_0) = V := ⟨_, rfl⟩
  rw [hV0] at HVB0
  have HV0 := Hid.mk hV0
  clear hV0
  obtain ⟨v0, v1, t0, t1, t2, t3, t4, t5, t6, hsA, HS, HI⟩ : ∃ (v0 : Int) (v1 : Bool) (t0 : List Int) (t1 : Int) (t2 : List Int) (t3 : List TPrepared) (t4 : List Int) (t5 : Int) (t6 : Int), costSink (t0, t1, t2, t3, t4, t5, t6) ≤ 1048576 ∧ Hid (∀ (sp0_0 sp2_0 sp3_0 sp4_0 : Nat) (w : World) (F0 : Nat → Prop), RSink.Own w F0 [.slice (some ⟨sp0_0, 0, none⟩) sn0_0 sn0_0, .int .i64 sz1_0, .slice (some ⟨sp2_0, 0, none⟩) sn2_0 sn2_0, .slice (some ⟨sp3_0, 0, none⟩) sn3_0 sn3_0, .slice (some ⟨sp4_0, 0, none⟩) sn4_0 sn4_0, .int .i64 sz5_0, .int .i64 sz6_0] (sx0_0, sz1_0, sx2_0, sx3_0, sx4_0, sz5_0, sz6_0) → Calls Try.prog 21 #[.agg #[.slice (some ⟨sp0_0, 0, none⟩) sn0_0 sn0_0, .int .i64 sz1_0, .slice (some ⟨sp2_0, 0, none⟩) sn2_0 sn2_0, .slice (some ⟨sp3_0, 0, none⟩) sn3_0 sn3_0, .slice (some ⟨sp4_0, 0, none⟩) sn4_0 sn4_0, .int .i64 sz5_0, .int .i64 sz6_0]] w fun e w' => SinkRetN e w' w.heap.size v0 v1 (t0, t1, t2, t3, t4, t5, t6) ∧ Below w.heap.size w w') ∧ Hid (∀ (sp0_0 sp2_0 sp3_0 sp4_0 : Nat) (w : World) (F0 : Nat → Prop), RSink.Own w F0 [.slice (some ⟨sp0_0, 0, none⟩) sn0_0 sn0_0, .int .i64 sz1_0, .slice (some ⟨sp2_0, 0, none⟩) sn2_0 sn2_0, .slice (some ⟨sp3_0, 0, none⟩) sn3_0 sn3_0, .slice (some ⟨sp4_0, 0, none⟩) sn4_0 sn4_0, .int .i64 sz5_0, .int .i64 sz6_0] (sx0_0, sz1_0, sx2_0, sx3_0, sx4_0, sz5_0, sz6_0) → Calls Try.prog 22 #[.agg #[.slice (some ⟨sp0_0, 0, none⟩) sn0_0 sn0_0, .int .i64 sz1_0, .slice (some ⟨sp2_0, 0, none⟩) sn2_0 sn2_0, .slice (some ⟨sp3_0, 0, none⟩) sn3_0 sn3_0, .slice (some ⟨sp4_0, 0, none⟩) sn4_0 sn4_0, .int .i64 sz5_0, .int .i64 sz6_0]] w fun e w' => SinkRetN e w' w.heap.size v0 v1 (t0, t1, t2, t3, t4, t5, t6) ∧ Below w.heap.size w w') := ⟨drN (sx0_0, sz1_0, sx2_0, sx3_0, sx4_0, sz5_0, sz6_0), gkB (sx0_0, sz1_0, sx2_0, sx3_0, sx4_0, sz5_0, sz6_0), (drX (sx0_0, sz1_0, sx2_0, sx3_0, sx4_0, sz5_0, sz6_0)).1, (drX (sx0_0, sz1_0, sx2_0, sx3_0, sx4_0, sz5_0, sz6_0)).2.1, (drX (sx0_0, sz1_0, sx2_0, sx3_0, sx4_0, sz5_0, sz6_0)).2.2.1, (drX (sx0_0, sz1_0, sx2_0, sx3_0, sx4_0, sz5_0, sz6_0)).2.2.2.1, (drX (sx0_0, sz1_0, sx2_0, sx3_0, sx4_0, sz5_0, sz6_0)).2.2.2.2.1, (drX (sx0_0, sz1_0, sx2_0, sx3_0, sx4_0, sz5_0, sz6_0)).2.2.2.2.2.1, (drX (sx0_0, sz1_0, sx2_0, sx3_0, sx4_0, sz5_0, sz6_0)).2.2.2.2.2.2, drain_small (sx0_0, sz1_0, sx2_0, sx3_0, sx4_0, sz5_0, sz6_0), fun sp0_0 sp2_0 sp3_0 sp4_0 w F0 o0 => specDrainSink (some ⟨sp0_0, 0, none⟩) sn0_0 sn0_0 (some ⟨sp2_0, 0, none⟩) sn2_0 sn2_0 (some ⟨sp3_0, 0, none⟩) sn3_0 sn3_0 (some ⟨sp4_0, 0, none⟩) sn4_0 sn4_0 sz1_0 sz5_0 sz6_0 sx0_0 sx2_0 sx3_0 sx4_0 w (Nat.le_refl _) HZ0.out.1 HZ0.out.2.1 HZ0.out.2.2.1 HZ0.out.2.2.2 sh0_0 sh2_0 sh3_0 sh4_0 HDD3_0.out (RSink.lens o0).2.1 (RSink.lens o0).2.2.2.1 (RSink.lens o0).2.2.2.2.2.1 (RSink.lens o0).2.2.2.2.2.2.2 (fun h => by cases h) (fun h => by cases h) (fun h => by cases h) (fun h => by cases h), fun sp0_0 sp2_0 sp3_0 sp4_0 w F0 o0 => implDrainSink (some ⟨sp0_0, 0, none⟩) sn0_0 sn0_0 (some ⟨sp2_0, 0, none⟩) sn2_0 sn2_0 (some ⟨sp3_0, 0, none⟩) sn3_0 sn3_0 (some ⟨sp4_0, 0, none⟩) sn4_0 sn4_0 sz1_0 sz5_0 sz6_0 sx0_0 sx2_0 sx3_0 sx4_0 w (Nat.le_refl _) HZ0.out.1 HZ0.out.2.1 HZ0.out.2.2.1 HZ0.out.2.2.2 sh0_0 sh2_0 sh3_0 sh4_0 HDD3_0.out (RSink.lens o0).2.1 (RSink.lens o0).2.2.2.1 (RSink.lens o0).2.2.2.2.2.1 (RSink.lens o0).2.2.2.2.2.2.2 (fun h => by cases h) (fun h => by cases h) (fun h => by cases h) (fun h => by cases h)⟩
  obtain ⟨l0, hl0⟩ : ∃ l, t0.length = l := ⟨_, rfl⟩
  obtain ⟨l2, hl2⟩ : ∃ l, t2.length = l := ⟨_, rfl⟩
  obtain ⟨l3, hl3⟩ : ∃ l, t3.length = l := ⟨_, rfl⟩
  obtain ⟨l4, hl4⟩ : ∃ l, t4.length = l := ⟨_, rfl⟩
  have hsm := smallSink hl0 hl2 hl3 hl4 (by omega : costSink (t0, t1, t2, t3, t4, t5, t6) ≤ 1048576)
  have hs0 : l0 ≤ 1048576 := hsm.1
  have hs2 : l2 ≤ 1048576 := hsm.2.1
  have hs3 : l3 ≤ 1048576 := hsm.2.2.1
  have HD3 := Hid.mk hsm.2.2.2.1
  have hs4 : l4 ≤ 1048576 := hsm.2.2.2.2
  have hcc : l0 + l2 + (l3 + csumPrepared t3 l3) + l4 ≤ 1048576 := by unfold costSink at hsA; simp only [hl0, hl2, hl3, hl4] at hsA; omega
  have hcs3 : csumPrepared t3 l3 ≤ 1048576 := by omega
  obtain ⟨VA, hVA⟩ : ∃ V : Nat, mknSink (t0, t1, t2, t3, t4, t5, t6) = V := ⟨_, rfl⟩
  have hvA : VA ≤ 8388608 := by
    rw [← hVA]
    unfold mknSink
    simp only [hl0, hl2, hl3, hl4]
    rw [msumPrepared_eq t3 l3 (by omega)]
    omega
  have HVA := Hid.mk hVA
  have HL0 := Hid.mk hl0
  have HL2 := Hid.mk hl2
  have HL3 := Hid.mk hl3
  have HL4 := Hid.mk hl4
  clear hVA hsA hsm hcc hl0 hl2 hl3 hl4
  go_enter Try.func5, Try.ntmps5
  go_wp2_with fail
  rw [← hW]
  clear hW
  refine (szSink_any sa0_0 sn0_0 sc0_0 sa2_0 sn2_0 sc2_0 sa3_0 sn3_0 sc3_0 sa4_0 sn4_0 sc4_0 sz1_0 sz5_0 sz6_0 sx0_0 sx2_0 sx3_0 sx4_0 _ _ HZ0.out.1 kb0_0 HZ0.out.2.1 kb2_0 HZ0.out.2.2.1 kb3_0 HZ0.out.2.2.2 kb4_0 (At.below HA0.out.1 B0) (At.below HA0.out.2.1 B0) (AtSl.below HA0.out.2.2.1 B0) (At.below HA0.out.2.2.2 B0) (by omega) (by omega)).mono ?_
  rintro e w1 ⟨rfl, hb1⟩
  rw [HC0.out, leftOf_yes (by omega)]
  have p00_1 := cell_later hb1 p00_0
  have p01_1 := cell_later hb1 p01_0
  have p02_1 := cell_later hb1 p02_0
  have p03_1 := cell_later hb1 p03_0
  have p04_1 := cell_later hb1 p04_0
  have p05_1 := cell_later hb1 p05_0
  have p06_1 := cell_later hb1 p06_0
  have B_1 := B0.trans (hb1.mono B0.size)
  have zz1 : W.heap.size ≤ w1.heap.size := hb1.size
  clear p00_0 p01_0 p02_0 p03_0 p04_0 p05_0 p06_0
  clear hb1
  go_wp2_with fail
  refine (toSink_rep sa0_0 sn0_0 sc0_0 sa2_0 sn2_0 sc2_0 sa3_0 sn3_0 sc3_0 sa4_0 sn4_0 sc4_0 sz1_0 sz5_0 sz6_0 sx0_0 sx2_0 sx3_0 sx4_0 _ HZ0.out.1 sh0_0 HZ0.out.2.1 sh2_0 HZ0.out.2.2.1 sh3_0 HDD3_0.out HZ0.out.2.2.2 sh4_0 (At.below HA0.out.1 B_1) (At.below HA0.out.2.1 B_1) (AtSl.below HA0.out.2.2.1 B_1) (At.below HA0.out.2.2.2 B_1)).mono ?_
  rintro e w2 ⟨g2_0, g2_2, g2_3, g2_4, rfl, ho2, hb2⟩
  have ot0_2 := Hid.mk ho2
  clear ho2
  have p00_2 := cell_later hb2 p00_1
  have p01_2 := cell_later hb2 p01_1
  have p02_2 := cell_later hb2 p02_1
  have p03_2 := cell_later hb2 p03_1
  have p04_2 := cell_later hb2 p04_1
  have p05_2 := cell_later hb2 p05_1
  have p06_2 := cell_later hb2 p06_1
  have B_2 := B_1.trans (hb2.mono B_1.size)
  have zz2 : w1.heap.size ≤ w2.heap.size := hb2.size
  clear p00_1 p01_1 p02_1 p03_1 p04_1 p05_1 p06_1 B_1
  clear hb2
  go_wp2_with fail
  refine (HS.out _ _ _ _ _ _ ot0_2.out).mono ?_
  rintro e w3 ⟨⟨r03, m03, d03, r23, m23, d23, r33, m33, d33, r43, m43, d43, rfl, ho3⟩, hb3⟩
  clear ot0_2
  obtain rfl : l0 = m03 := HL0.out.symm.trans (RSink.lens ho3).1
  obtain rfl : l2 = m23 := HL2.out.symm.trans (RSink.lens ho3).2.2.1
  obtain rfl : l3 = m33 := HL3.out.symm.trans (RSink.lens ho3).2.2.2.2.1
  obtain rfl : l4 = m43 := HL4.out.symm.trans (RSink.lens ho3).2.2.2.2.2.2.1
  have oo_3 := Hid.mk ho3
  clear ho3
  have p00_3 := cell_later hb3 p00_2
  have p01_3 := cell_later hb3 p01_2
  have p02_3 := cell_later hb3 p02_2
  have p03_3 := cell_later hb3 p03_2
  have p04_3 := cell_later hb3 p04_2
  have p05_3 := cell_later hb3 p05_2
  have p06_3 := cell_later hb3 p06_2
  have B_3 := B_2.trans (hb3.mono B_2.size)
  have zz3 : w2.heap.size ≤ w3.heap.size := hb3.size
  clear p00_2 p01_2 p02_2 p03_2 p04_2 p05_2 p06_2 B_2
  clear hb3
  obtain ⟨w4, hU4⟩ : ∃ u, u = w3.alloc (.cells #[.slice r03 l0 d03, .int .i64 t1, .slice r23 l2 d23, .slice r33 l3 d33, .slice r43 l4 d43, .int .i64 t5, .int .i64 t6] 29) := ⟨_, rfl⟩
  have hb4 : Below w3.heap.size w3 w4 := by rw [hU4]; exact (Below.refl _ _).alloc (Nat.le_refl _) _
  have zl4 : w3.heap.size < w4.heap.size := by rw [hU4]; simp
  have nWt0 : w4.cell? ⟨w3.heap.size, 0, none⟩ = some (.slice r03 l0 d03) := by rw [hU4]; simp
  have nWt1 : w4.cell? ⟨w3.heap.size, 1, none⟩ = some (.int .i64 t1) := by rw [hU4]; simp
  have nWt2 : w4.cell? ⟨w3.heap.size, 2, none⟩ = some (.slice r23 l2 d23) := by rw [hU4]; simp
  have nWt3 : w4.cell? ⟨w3.heap.size, 3, none⟩ = some (.slice r33 l3 d33) := by rw [hU4]; simp
  have nWt4 : w4.cell? ⟨w3.heap.size, 4, none⟩ = some (.slice r43 l4 d43) := by rw [hU4]; simp
  have nWt5 : w4.cell? ⟨w3.heap.size, 5, none⟩ = some (.int .i64 t5) := by rw [hU4]; simp
  have nWt6 : w4.cell? ⟨w3.heap.size, 6, none⟩ = some (.int .i64 t6) := by rw [hU4]; simp
  have p00_4 := cell_later hb4 p00_3
  have p01_4 := cell_later hb4 p01_3
  have p02_4 := cell_later hb4 p02_3
  have p03_4 := cell_later hb4 p03_3
  have p04_4 := cell_later hb4 p04_3
  have p05_4 := cell_later hb4 p05_3
  have p06_4 := cell_later hb4 p06_3
  have oo_4 := Hid.mk (RSink.ownBelow oo_3.out hb4)
  have B_4 := B_3.trans (hb4.mono B_3.size)
  have zz4 : w3.heap.size ≤ w4.heap.size := hb4.size
  clear p00_3 p01_3 p02_3 p03_3 p04_3 p05_3 p06_3 oo_3 B_3
  clear hb4
  have xp00 := p00_4
  rw [hU4] at xp00
  have xp01 := p01_4
  rw [hU4] at xp01
  have xp02 := p02_4
  rw [hU4] at xp02
  have xp03 := p03_4
  rw [hU4] at xp03
  have xp04 := p04_4
  rw [hU4] at xp04
  have xp05 := p05_4
  rw [hU4] at xp05
  have xp06 := p06_4
  rw [hU4] at xp06
  have xWt0 := nWt0
  rw [hU4] at xWt0
  have xWt1 := nWt1
  rw [hU4] at xWt1
  have xWt2 := nWt2
  rw [hU4] at xWt2
  have xWt3 := nWt3
  rw [hU4] at xWt3
  have xWt4 := nWt4
  rw [hU4] at xWt4
  have xWt5 := nWt5
  rw [hU4] at xWt5
  have xWt6 := nWt6
  rw [hU4] at xWt6
  go_wp2_with fail
  rw [← hU4]
  clear hU4
  clear xp00 xp01 xp02 xp03 xp04 xp05 xp06 xWt0 xWt1 xWt2 xWt3 xWt4 xWt5 xWt6
  refine (toSink_rep sa0_0 sn0_0 sc0_0 sa2_0 sn2_0 sc2_0 sa3_0 sn3_0 sc3_0 sa4_0 sn4_0 sc4_0 sz1_0 sz5_0 sz6_0 sx0_0 sx2_0 sx3_0 sx4_0 _ HZ0.out.1 sh0_0 HZ0.out.2.1 sh2_0 HZ0.out.2.2.1 sh3_0 HDD3_0.out HZ0.out.2.2.2 sh4_0 (At.below HA0.out.1 B_4) (At.below HA0.out.2.1 B_4) (AtSl.below HA0.out.2.2.1 B_4) (At.below HA0.out.2.2.2 B_4)).mono ?_
  rintro e w5 ⟨g5_0, g5_2, g5_3, g5_4, rfl, ho5, hb5⟩
  have ox0_5 := Hid.mk ho5
  clear ho5
  have p00_5 := cell_later hb5 p00_4
  have p01_5 := cell_later hb5 p01_4
  have p02_5 := cell_later hb5 p02_4
  have p03_5 := cell_later hb5 p03_4
  have p04_5 := cell_later hb5 p04_4
  have p05_5 := cell_later hb5 p05_4
  have p06_5 := cell_later hb5 p06_4
  have Wt0_5 := cell_later hb5 nWt0
  have Wt1_5 := cell_later hb5 nWt1
  have Wt2_5 := cell_later hb5 nWt2
  have Wt3_5 := cell_later hb5 nWt3
  have Wt4_5 := cell_later hb5 nWt4
  have Wt5_5 := cell_later hb5 nWt5
  have Wt6_5 := cell_later hb5 nWt6
  have oo_5 := Hid.mk (RSink.ownBelow oo_4.out hb5)
  have B_5 := B_4.trans (hb5.mono B_4.size)
  have zz5 : w4.heap.size ≤ w5.heap.size := hb5.size
  clear p00_4 p01_4 p02_4 p03_4 p04_4 p05_4 p06_4 nWt0 nWt1 nWt2 nWt3 nWt4 nWt5 nWt6 oo_4 B_4
  clear hb5
  obtain ⟨w6, hU6⟩ : ∃ u, u = w5.alloc (.cells #[.slice (some ⟨g5_0, 0, none⟩) sn0_0 sn0_0, .int .i64 sz1_0, .slice (some ⟨g5_2, 0, none⟩) sn2_0 sn2_0, .slice (some ⟨g5_3, 0, none⟩) sn3_0 sn3_0, .slice (some ⟨g5_4, 0, none⟩) sn4_0 sn4_0, .int .i64 sz5_0, .int .i64 sz6_0] 29) := ⟨_, rfl⟩
  have hb6 : Below w5.heap.size w5 w6 := by rw [hU6]; exact (Below.refl _ _).alloc (Nat.le_refl _) _
  have zl6 : w5.heap.size < w6.heap.size := by rw [hU6]; simp
  have nX00 : w6.cell? ⟨w5.heap.size, 0, none⟩ = some (.slice (some ⟨g5_0, 0, none⟩) sn0_0 sn0_0) := by rw [hU6]; simp
  have nX01 : w6.cell? ⟨w5.heap.size, 1, none⟩ = some (.int .i64 sz1_0) := by rw [hU6]; simp
  have nX02 : w6.cell? ⟨w5.heap.size, 2, none⟩ = some (.slice (some ⟨g5_2, 0, none⟩) sn2_0 sn2_0) := by rw [hU6]; simp
  have nX03 : w6.cell? ⟨w5.heap.size, 3, none⟩ = some (.slice (some ⟨g5_3, 0, none⟩) sn3_0 sn3_0) := by rw [hU6]; simp
  have nX04 : w6.cell? ⟨w5.heap.size, 4, none⟩ = some (.slice (some ⟨g5_4, 0, none⟩) sn4_0 sn4_0) := by rw [hU6]; simp
  have nX05 : w6.cell? ⟨w5.heap.size, 5, none⟩ = some (.int .i64 sz5_0) := by rw [hU6]; simp
  have nX06 : w6.cell? ⟨w5.heap.size, 6, none⟩ = some (.int .i64 sz6_0) := by rw [hU6]; simp
  have p00_6 := cell_later hb6 p00_5
  have p01_6 := cell_later hb6 p01_5
  have p02_6 := cell_later hb6 p02_5
  have p03_6 := cell_later hb6 p03_5
  have p04_6 := cell_later hb6 p04_5
  have p05_6 := cell_later hb6 p05_5
  have p06_6 := cell_later hb6 p06_5
  have Wt0_6 := cell_later hb6 Wt0_5
  have Wt1_6 := cell_later hb6 Wt1_5
  have Wt2_6 := cell_later hb6 Wt2_5
  have Wt3_6 := cell_later hb6 Wt3_5
  have Wt4_6 := cell_later hb6 Wt4_5
  have Wt5_6 := cell_later hb6 Wt5_5
  have Wt6_6 := cell_later hb6 Wt6_5
  have oo_6 := Hid.mk (RSink.ownBelow oo_5.out hb6)
  have ox0_6 := Hid.mk (RSink.ownBelow ox0_5.out hb6)
  have B_6 := B_5.trans (hb6.mono B_5.size)
  have zz6 : w5.heap.size ≤ w6.heap.size := hb6.size
  clear p00_5 p01_5 p02_5 p03_5 p04_5 p05_5 p06_5 Wt0_5 Wt1_5 Wt2_5 Wt3_5 Wt4_5 Wt5_5 Wt6_5 oo_5 ox0_5 B_5
  clear hb6
  have xp00 := p00_6
  rw [hU6] at xp00
  have xp01 := p01_6
  rw [hU6] at xp01
  have xp02 := p02_6
  rw [hU6] at xp02
  have xp03 := p03_6
  rw [hU6] at xp03
  have xp04 := p04_6
  rw [hU6] at xp04
  have xp05 := p05_6
  rw [hU6] at xp05
  have xp06 := p06_6
  rw [hU6] at xp06
  have xWt0 := Wt0_6
  rw [hU6] at xWt0
  have xWt1 := Wt1_6
  rw [hU6] at xWt1
  have xWt2 := Wt2_6
  rw [hU6] at xWt2
  have xWt3 := Wt3_6
  rw [hU6] at xWt3
  have xWt4 := Wt4_6
  rw [hU6] at xWt4
  have xWt5 := Wt5_6
  rw [hU6] at xWt5
  have xWt6 := Wt6_6
  rw [hU6] at xWt6
  have xX00 := nX00
  rw [hU6] at xX00
  have xX01 := nX01
  rw [hU6] at xX01
  have xX02 := nX02
  rw [hU6] at xX02
  have xX03 := nX03
  rw [hU6] at xX03
  have xX04 := nX04
  rw [hU6] at xX04
  have xX05 := nX05
  rw [hU6] at xX05
  have xX06 := nX06
  rw [hU6] at xX06
  go_wp2_with fail
  rw [← hU6]
  clear hU6
  clear xp00 xp01 xp02 xp03 xp04 xp05 xp06 xWt0 xWt1 xWt2 xWt3 xWt4 xWt5 xWt6 xX00 xX01 xX02 xX03 xX04 xX05 xX06
  refine (HI.out _ _ _ _ _ _ ox0_6.out).mono ?_
  rintro e w7 ⟨⟨r07, m07, d07, r27, m27, d27, r37, m37, d37, r47, m47, d47, rfl, ho7⟩, hb7⟩
  obtain rfl : l0 = m07 := HL0.out.symm.trans (RSink.lens ho7).1
  obtain rfl : l2 = m27 := HL2.out.symm.trans (RSink.lens ho7).2.2.1
  obtain rfl : l3 = m37 := HL3.out.symm.trans (RSink.lens ho7).2.2.2.2.1
  obtain rfl : l4 = m47 := HL4.out.symm.trans (RSink.lens ho7).2.2.2.2.2.2.1
  have og_7 := Hid.mk ho7
  clear ho7
  have p00_7 := cell_later hb7 p00_6
  have p01_7 := cell_later hb7 p01_6
  have p02_7 := cell_later hb7 p02_6
  have p03_7 := cell_later hb7 p03_6
  have p04_7 := cell_later hb7 p04_6
  have p05_7 := cell_later hb7 p05_6
  have p06_7 := cell_later hb7 p06_6
  have Wt0_7 := cell_later hb7 Wt0_6
  have Wt1_7 := cell_later hb7 Wt1_6
  have Wt2_7 := cell_later hb7 Wt2_6
  have Wt3_7 := cell_later hb7 Wt3_6
  have Wt4_7 := cell_later hb7 Wt4_6
  have Wt5_7 := cell_later hb7 Wt5_6
  have Wt6_7 := cell_later hb7 Wt6_6
  have X00_7 := cell_later hb7 nX00
  have X01_7 := cell_later hb7 nX01
  have X02_7 := cell_later hb7 nX02
  have X03_7 := cell_later hb7 nX03
  have X04_7 := cell_later hb7 nX04
  have X05_7 := cell_later hb7 nX05
  have X06_7 := cell_later hb7 nX06
  have oo_7 := Hid.mk (RSink.ownBelow oo_6.out hb7)
  have ox0_7 := Hid.mk (RSink.ownBelow ox0_6.out hb7)
  have B_7 := B_6.trans (hb7.mono B_6.size)
  have zz7 : w6.heap.size ≤ w7.heap.size := hb7.size
  clear p00_6 p01_6 p02_6 p03_6 p04_6 p05_6 p06_6 Wt0_6 Wt1_6 Wt2_6 Wt3_6 Wt4_6 Wt5_6 Wt6_6 nX00 nX01 nX02 nX03 nX04 nX05 nX06 oo_6 ox0_6 B_6
  clear hb7
  obtain ⟨w8, hU8⟩ : ∃ u, u = w7.alloc (.cells #[.slice r07 l0 d07, .int .i64 t1, .slice r27 l2 d27, .slice r37 l3 d37, .slice r47 l4 d47, .int .i64 t5, .int .i64 t6] 29) := ⟨_, rfl⟩
  have hb8 : Below w7.heap.size w7 w8 := by rw [hU8]; exact (Below.refl _ _).alloc (Nat.le_refl _) _
  have zl8 : w7.heap.size < w8.heap.size := by rw [hU8]; simp
  have nGt0 : w8.cell? ⟨w7.heap.size, 0, none⟩ = some (.slice r07 l0 d07) := by rw [hU8]; simp
  have nGt1 : w8.cell? ⟨w7.heap.size, 1, none⟩ = some (.int .i64 t1) := by rw [hU8]; simp
  have nGt2 : w8.cell? ⟨w7.heap.size, 2, none⟩ = some (.slice r27 l2 d27) := by rw [hU8]; simp
  have nGt3 : w8.cell? ⟨w7.heap.size, 3, none⟩ = some (.slice r37 l3 d37) := by rw [hU8]; simp
  have nGt4 : w8.cell? ⟨w7.heap.size, 4, none⟩ = some (.slice r47 l4 d47) := by rw [hU8]; simp
  have nGt5 : w8.cell? ⟨w7.heap.size, 5, none⟩ = some (.int .i64 t5) := by rw [hU8]; simp
  have nGt6 : w8.cell? ⟨w7.heap.size, 6, none⟩ = some (.int .i64 t6) := by rw [hU8]; simp
  have p00_8 := cell_later hb8 p00_7
  have p01_8 := cell_later hb8 p01_7
  have p02_8 := cell_later hb8 p02_7
  have p03_8 := cell_later hb8 p03_7
  have p04_8 := cell_later hb8 p04_7
  have p05_8 := cell_later hb8 p05_7
  have p06_8 := cell_later hb8 p06_7
  have Wt0_8 := cell_later hb8 Wt0_7
  have Wt1_8 := cell_later hb8 Wt1_7
  have Wt2_8 := cell_later hb8 Wt2_7
  have Wt3_8 := cell_later hb8 Wt3_7
  have Wt4_8 := cell_later hb8 Wt4_7
  have Wt5_8 := cell_later hb8 Wt5_7
  have Wt6_8 := cell_later hb8 Wt6_7
  have X00_8 := cell_later hb8 X00_7
  have X01_8 := cell_later hb8 X01_7
  have X02_8 := cell_later hb8 X02_7
  have X03_8 := cell_later hb8 X03_7
  have X04_8 := cell_later hb8 X04_7
  have X05_8 := cell_later hb8 X05_7
  have X06_8 := cell_later hb8 X06_7
  have oo_8 := Hid.mk (RSink.ownBelow oo_7.out hb8)
  have ox0_8 := Hid.mk (RSink.ownBelow ox0_7.out hb8)
  have og_8 := Hid.mk (RSink.ownBelow og_7.out hb8)
  have B_8 := B_7.trans (hb8.mono B_7.size)
  have zz8 : w7.heap.size ≤ w8.heap.size := hb8.size
  clear p00_7 p01_7 p02_7 p03_7 p04_7 p05_7 p06_7 Wt0_7 Wt1_7 Wt2_7 Wt3_7 Wt4_7 Wt5_7 Wt6_7 X00_7 X01_7 X02_7 X03_7 X04_7 X05_7 X06_7 oo_7 ox0_7 og_7 B_7
  clear hb8
  have xp00 := p00_8
  rw [hU8] at xp00
  have xp01 := p01_8
  rw [hU8] at xp01
  have xp02 := p02_8
  rw [hU8] at xp02
  have xp03 := p03_8
  rw [hU8] at xp03
  have xp04 := p04_8
  rw [hU8] at xp04
  have xp05 := p05_8
  rw [hU8] at xp05
  have xp06 := p06_8
  rw [hU8] at xp06
  have xWt0 := Wt0_8
  rw [hU8] at xWt0
  have xWt1 := Wt1_8
  rw [hU8] at xWt1
  have xWt2 := Wt2_8
  rw [hU8] at xWt2
  have xWt3 := Wt3_8
  rw [hU8] at xWt3
  have xWt4 := Wt4_8
  rw [hU8] at xWt4
  have xWt5 := Wt5_8
  rw [hU8] at xWt5
  have xWt6 := Wt6_8
  rw [hU8] at xWt6
  have xX00 := X00_8
  rw [hU8] at xX00
  have xX01 := X01_8
  rw [hU8] at xX01
  have xX02 := X02_8
  rw [hU8] at xX02
  have xX03 := X03_8
  rw [hU8] at xX03
  have xX04 := X04_8
  rw [hU8] at xX04
  have xX05 := X05_8
  rw [hU8] at xX05
  have xX06 := X06_8
  rw [hU8] at xX06
  have xGt0 := nGt0
  rw [hU8] at xGt0
  have xGt1 := nGt1
  rw [hU8] at xGt1
  have xGt2 := nGt2
  rw [hU8] at xGt2
  have xGt3 := nGt3
  rw [hU8] at xGt3
  have xGt4 := nGt4
  rw [hU8] at xGt4
  have xGt5 := nGt5
  rw [hU8] at xGt5
  have xGt6 := nGt6
  rw [hU8] at xGt6
  go_wp2_with fail
  rw [← hU8]
  clear hU8
  clear xp00 xp01 xp02 xp03 xp04 xp05 xp06 xWt0 xWt1 xWt2 xWt3 xWt4 xWt5 xWt6 xX00 xX01 xX02 xX03 xX04 xX05 xX06 xGt0 xGt1 xGt2 xGt3 xGt4 xGt5 xGt6
  refine (eqSink_same _ l0 _ _ l2 _ _ l3 _ _ l4 _ _ _ _ _ _ _ _ _ t1 t5 t6 t0 t2 t3 t4 _ HL0.out hs0 HL2.out hs2 HL3.out hs3 HD3.out HL4.out hs4 (RSink.lens og_8.out).2.1 (RSink.lens oo_8.out).2.1 (RSink.lens og_8.out).2.2.2.1 (RSink.lens oo_8.out).2.2.2.1 (RSink.lens og_8.out).2.2.2.2.2.1 (RSink.lens oo_8.out).2.2.2.2.2.1 (RSink.lens og_8.out).2.2.2.2.2.2.2 (RSink.lens oo_8.out).2.2.2.2.2.2.2).mono ?_
  rintro e w9 ⟨rfl, hb9⟩
  have p00_9 := cell_later hb9 p00_8
  have p01_9 := cell_later hb9 p01_8
  have p02_9 := cell_later hb9 p02_8
  have p03_9 := cell_later hb9 p03_8
  have p04_9 := cell_later hb9 p04_8
  have p05_9 := cell_later hb9 p05_8
  have p06_9 := cell_later hb9 p06_8
  have Wt0_9 := cell_later hb9 Wt0_8
  have Wt1_9 := cell_later hb9 Wt1_8
  have Wt2_9 := cell_later hb9 Wt2_8
  have Wt3_9 := cell_later hb9 Wt3_8
  have Wt4_9 := cell_later hb9 Wt4_8
  have Wt5_9 := cell_later hb9 Wt5_8
  have Wt6_9 := cell_later hb9 Wt6_8
  have X00_9 := cell_later hb9 X00_8
  have X01_9 := cell_later hb9 X01_8
  have X02_9 := cell_later hb9 X02_8
  have X03_9 := cell_later hb9 X03_8
  have X04_9 := cell_later hb9 X04_8
  have X05_9 := cell_later hb9 X05_8
  have X06_9 := cell_later hb9 X06_8
  have Gt0_9 := cell_later hb9 nGt0
  have Gt1_9 := cell_later hb9 nGt1
  have Gt2_9 := cell_later hb9 nGt2
  have Gt3_9 := cell_later hb9 nGt3
  have Gt4_9 := cell_later hb9 nGt4
  have Gt5_9 := cell_later hb9 nGt5
  have Gt6_9 := cell_later hb9 nGt6
  have oo_9 := Hid.mk (RSink.ownBelow oo_8.out hb9)
  have ox0_9 := Hid.mk (RSink.ownBelow ox0_8.out hb9)
  have og_9 := Hid.mk (RSink.ownBelow og_8.out hb9)
  have B_9 := B_8.trans (hb9.mono B_8.size)
  have zz9 : w8.heap.size ≤ w9.heap.size := hb9.size
  clear p00_8 p01_8 p02_8 p03_8 p04_8 p05_8 p06_8 Wt0_8 Wt1_8 Wt2_8 Wt3_8 Wt4_8 Wt5_8 Wt6_8 X00_8 X01_8 X02_8 X03_8 X04_8 X05_8 X06_8 nGt0 nGt1 nGt2 nGt3 nGt4 nGt5 nGt6 oo_8 ox0_8 og_8 B_8
  clear hb9
  go_wp2_with fail
  refine wp_region_held_drew (S := fun w' => w'.cell? ⟨w5.heap.size, 0, none⟩ = some (.slice (some ⟨g5_0, 0, none⟩) sn0_0 sn0_0) ∧ w'.cell? ⟨w5.heap.size, 1, none⟩ = some (.int .i64 sz1_0) ∧ w'.cell? ⟨w5.heap.size, 2, none⟩ = some (.slice (some ⟨g5_2, 0, none⟩) sn2_0 sn2_0) ∧ w'.cell? ⟨w5.heap.size, 3, none⟩ = some (.slice (some ⟨g5_3, 0, none⟩) sn3_0 sn3_0) ∧ w'.cell? ⟨w5.heap.size, 4, none⟩ = some (.slice (some ⟨g5_4, 0, none⟩) sn4_0 sn4_0) ∧ w'.cell? ⟨w5.heap.size, 5, none⟩ = some (.int .i64 sz5_0) ∧ w'.cell? ⟨w5.heap.size, 6, none⟩ = some (.int .i64 sz6_0) ∧ w'.cell? ⟨w.heap.size, 0, none⟩ = some (.slice sa0_0 sn0_0 sc0_0) ∧ w'.cell? ⟨w.heap.size, 1, none⟩ = some (.int .i64 sz1_0) ∧ w'.cell? ⟨w.heap.size, 2, none⟩ = some (.slice sa2_0 sn2_0 sc2_0) ∧ w'.cell? ⟨w.heap.size, 3, none⟩ = some (.slice sa3_0 sn3_0 sc3_0) ∧ w'.cell? ⟨w.heap.size, 4, none⟩ = some (.slice sa4_0 sn4_0 sc4_0) ∧ w'.cell? ⟨w.heap.size, 5, none⟩ = some (.int .i64 sz5_0) ∧ w'.cell? ⟨w.heap.size, 6, none⟩ = some (.int .i64 sz6_0)) (by kernel_rfl) ?_ (fun hHeld => ?_)
  · (try dsimp only)
    exact ⟨X00_9, X01_9, X02_9, X03_9, X04_9, X05_9, X06_9, p00_9, p01_9, p02_9, p03_9, p04_9, p05_9, p06_9⟩
  refine tk 0 ?_
  refine tk 1 ?_
  refine wpAnyH_ready (rs := [2]) (by kernel_rfl) (by simp) ?_
  refine AllReadyH.cons (o := ?_) ?_ (fun K hK => ?_) AllReadyH.nil
  rotate_left
  · (simp only [List.getElem?_toArray, List.getElem?_cons_zero, List.getElem?_cons_succ]; rfl)
  go_simp
  go_at_call 8
  refine (toSink_rep sa0_0 sn0_0 sc0_0 sa2_0 sn2_0 sc2_0 sa3_0 sn3_0 sc3_0 sa4_0 sn4_0 sc4_0 sz1_0 sz5_0 sz6_0 sx0_0 sx2_0 sx3_0 sx4_0 _ HZ0.out.1 sh0_0 HZ0.out.2.1 sh2_0 HZ0.out.2.2.1 sh3_0 HDD3_0.out HZ0.out.2.2.2 sh4_0 (At.below HA0.out.1 B_9.drew) (At.below HA0.out.2.1 B_9.drew) (AtSl.below HA0.out.2.2.1 B_9.drew) (At.below HA0.out.2.2.2 B_9.drew)).mono ?_
  rintro e w10 ⟨g10_0, g10_2, g10_3, g10_4, rfl, ho10, hd10⟩
  have hb10 : Below w9.heap.size w9 w10 := (Below.refl _ _).drew.trans hd10
  clear hd10
  have oy_10 := Hid.mk ho10
  clear ho10
  have p00_10 := cell_later hb10 p00_9
  have p01_10 := cell_later hb10 p01_9
  have p02_10 := cell_later hb10 p02_9
  have p03_10 := cell_later hb10 p03_9
  have p04_10 := cell_later hb10 p04_9
  have p05_10 := cell_later hb10 p05_9
  have p06_10 := cell_later hb10 p06_9
  have Wt0_10 := cell_later hb10 Wt0_9
  have Wt1_10 := cell_later hb10 Wt1_9
  have Wt2_10 := cell_later hb10 Wt2_9
  have Wt3_10 := cell_later hb10 Wt3_9
  have Wt4_10 := cell_later hb10 Wt4_9
  have Wt5_10 := cell_later hb10 Wt5_9
  have Wt6_10 := cell_later hb10 Wt6_9
  have X00_10 := cell_later hb10 X00_9
  have X01_10 := cell_later hb10 X01_9
  have X02_10 := cell_later hb10 X02_9
  have X03_10 := cell_later hb10 X03_9
  have X04_10 := cell_later hb10 X04_9
  have X05_10 := cell_later hb10 X05_9
  have X06_10 := cell_later hb10 X06_9
  have Gt0_10 := cell_later hb10 Gt0_9
  have Gt1_10 := cell_later hb10 Gt1_9
  have Gt2_10 := cell_later hb10 Gt2_9
  have Gt3_10 := cell_later hb10 Gt3_9
  have Gt4_10 := cell_later hb10 Gt4_9
  have Gt5_10 := cell_later hb10 Gt5_9
  have Gt6_10 := cell_later hb10 Gt6_9
  have oo_10 := Hid.mk (RSink.ownBelow oo_9.out hb10)
  have ox0_10 := Hid.mk (RSink.ownBelow ox0_9.out hb10)
  have og_10 := Hid.mk (RSink.ownBelow og_9.out hb10)
  have B_10 := B_9.trans (hb10.mono B_9.size)
  have zz10 : w9.heap.size ≤ w10.heap.size := hb10.size
  clear p00_9 p01_9 p02_9 p03_9 p04_9 p05_9 p06_9 Wt0_9 Wt1_9 Wt2_9 Wt3_9 Wt4_9 Wt5_9 Wt6_9 X00_9 X01_9 X02_9 X03_9 X04_9 X05_9 X06_9 Gt0_9 Gt1_9 Gt2_9 Gt3_9 Gt4_9 Gt5_9 Gt6_9 oo_9 ox0_9 og_9 B_9
  clear hb10
  (try go_wp2_with fail)
  refine hK.out _ _ ?_ (fun hHeld' => ?_)
  · (try dsimp only)
    exact ⟨X00_10, X01_10, X02_10, X03_10, X04_10, X05_10, X06_10, p00_10, p01_10, p02_10, p03_10, p04_10, p05_10, p06_10⟩
  clear hK K hHeld
  have hHeld := hHeld'
  clear hHeld'
  (try simp only [Act.put, List.setIfInBounds_toArray, List.set_cons_zero, List.set_cons_succ])
  refine wpAnyH_ready (rs := [3]) (by kernel_rfl) (by simp) ?_
  refine AllReadyH.cons (o := ?_) ?_ (fun K hK => ?_) AllReadyH.nil
  rotate_left
  · (simp only [List.getElem?_toArray, List.getElem?_cons_zero, List.getElem?_cons_succ]; rfl)
  go_simp
  go_at_call 10
  refine (eqSink_same _ sn0_0 _ _ sn2_0 _ _ sn3_0 _ _ sn4_0 _ _ _ _ _ _ _ _ _ sz1_0 sz5_0 sz6_0 sx0_0 sx2_0 sx3_0 sx4_0 _ HZ0.out.1 sh0_0 HZ0.out.2.1 sh2_0 HZ0.out.2.2.1 sh3_0 HDD3_0.out HZ0.out.2.2.2 sh4_0 (RSink.lens ox0_10.out).2.1 (RSink.lens oy_10.out).2.1 (RSink.lens ox0_10.out).2.2.2.1 (RSink.lens oy_10.out).2.2.2.1 (RSink.lens ox0_10.out).2.2.2.2.2.1 (RSink.lens oy_10.out).2.2.2.2.2.1 (RSink.lens ox0_10.out).2.2.2.2.2.2.2 (RSink.lens oy_10.out).2.2.2.2.2.2.2).mono ?_
  rintro e w11 ⟨rfl, hb11⟩
  clear oy_10
  have p00_11 := cell_later hb11 p00_10
  have p01_11 := cell_later hb11 p01_10
  have p02_11 := cell_later hb11 p02_10
  have p03_11 := cell_later hb11 p03_10
  have p04_11 := cell_later hb11 p04_10
  have p05_11 := cell_later hb11 p05_10
  have p06_11 := cell_later hb11 p06_10
  have Wt0_11 := cell_later hb11 Wt0_10
  have Wt1_11 := cell_later hb11 Wt1_10
  have Wt2_11 := cell_later hb11 Wt2_10
  have Wt3_11 := cell_later hb11 Wt3_10
  have Wt4_11 := cell_later hb11 Wt4_10
  have Wt5_11 := cell_later hb11 Wt5_10
  have Wt6_11 := cell_later hb11 Wt6_10
  have X00_11 := cell_later hb11 X00_10
  have X01_11 := cell_later hb11 X01_10
  have X02_11 := cell_later hb11 X02_10
  have X03_11 := cell_later hb11 X03_10
  have X04_11 := cell_later hb11 X04_10
  have X05_11 := cell_later hb11 X05_10
  have X06_11 := cell_later hb11 X06_10
  have Gt0_11 := cell_later hb11 Gt0_10
  have Gt1_11 := cell_later hb11 Gt1_10
  have Gt2_11 := cell_later hb11 Gt2_10
  have Gt3_11 := cell_later hb11 Gt3_10
  have Gt4_11 := cell_later hb11 Gt4_10
  have Gt5_11 := cell_later hb11 Gt5_10
  have Gt6_11 := cell_later hb11 Gt6_10
  have oo_11 := Hid.mk (RSink.ownBelow oo_10.out hb11)
  have ox0_11 := Hid.mk (RSink.ownBelow ox0_10.out hb11)
  have og_11 := Hid.mk (RSink.ownBelow og_10.out hb11)
  have B_11 := B_10.trans (hb11.mono B_10.size)
  have zz11 : w10.heap.size ≤ w11.heap.size := hb11.size
  clear p00_10 p01_10 p02_10 p03_10 p04_10 p05_10 p06_10 Wt0_10 Wt1_10 Wt2_10 Wt3_10 Wt4_10 Wt5_10 Wt6_10 X00_10 X01_10 X02_10 X03_10 X04_10 X05_10 X06_10 Gt0_10 Gt1_10 Gt2_10 Gt3_10 Gt4_10 Gt5_10 Gt6_10 oo_10 ox0_10 og_10 B_10
  clear hb11
  (try go_wp2_with fail)
  refine hK.out _ _ ?_ (fun hHeld' => ?_)
  · (try dsimp only)
    exact ⟨X00_11, X01_11, X02_11, X03_11, X04_11, X05_11, X06_11, p00_11, p01_11, p02_11, p03_11, p04_11, p05_11, p06_11⟩
  clear hK K hHeld
  have hHeld := hHeld'
  clear hHeld'
  (try simp only [Act.put, List.setIfInBounds_toArray, List.set_cons_zero, List.set_cons_succ])
  refine tk 4 ?_
  refine wpAnyH_done (by kernel_rfl) ?_ _
  clear hHeld
  go_wp2_with fail
  refine (markSink_rep (From (w4.heap.size) (w5.heap.size)) _ sn0_0 _ _ sn2_0 _ _ sn3_0 _ _ sn4_0 _ sz1_0 sz5_0 sz6_0 sx0_0 sx2_0 sx3_0 sx4_0 _ _ HZ0.out.1 sh0_0 HZ0.out.2.1 sh2_0 HZ0.out.2.2.1 sh3_0 HDD3_0.out HZ0.out.2.2.2 sh4_0 hcs3_0 (by omega) (by omega) (fun b h => by have h2 := h.2; omega) ox0_11.out).mono ?_
  rintro e w12 ⟨rfl, ho12, hg12⟩
  rw [HV0.out]
  have ox0_12 := Hid.mk ho12
  clear ho12
  have p00_12 := hg12.cell p00_11 (show ¬ From (w4.heap.size) (w5.heap.size) (w.heap.size) from fun h => by have h1 := h.1; have h2 := h.2; omega)
  have p01_12 := hg12.cell p01_11 (show ¬ From (w4.heap.size) (w5.heap.size) (w.heap.size) from fun h => by have h1 := h.1; have h2 := h.2; omega)
  have p02_12 := hg12.cell p02_11 (show ¬ From (w4.heap.size) (w5.heap.size) (w.heap.size) from fun h => by have h1 := h.1; have h2 := h.2; omega)
  have p03_12 := hg12.cell p03_11 (show ¬ From (w4.heap.size) (w5.heap.size) (w.heap.size) from fun h => by have h1 := h.1; have h2 := h.2; omega)
  have p04_12 := hg12.cell p04_11 (show ¬ From (w4.heap.size) (w5.heap.size) (w.heap.size) from fun h => by have h1 := h.1; have h2 := h.2; omega)
  have p05_12 := hg12.cell p05_11 (show ¬ From (w4.heap.size) (w5.heap.size) (w.heap.size) from fun h => by have h1 := h.1; have h2 := h.2; omega)
  have p06_12 := hg12.cell p06_11 (show ¬ From (w4.heap.size) (w5.heap.size) (w.heap.size) from fun h => by have h1 := h.1; have h2 := h.2; omega)
  have Wt0_12 := hg12.cell Wt0_11 (show ¬ From (w4.heap.size) (w5.heap.size) (w3.heap.size) from fun h => by have h1 := h.1; have h2 := h.2; omega)
  have Wt1_12 := hg12.cell Wt1_11 (show ¬ From (w4.heap.size) (w5.heap.size) (w3.heap.size) from fun h => by have h1 := h.1; have h2 := h.2; omega)
  have Wt2_12 := hg12.cell Wt2_11 (show ¬ From (w4.heap.size) (w5.heap.size) (w3.heap.size) from fun h => by have h1 := h.1; have h2 := h.2; omega)
  have Wt3_12 := hg12.cell Wt3_11 (show ¬ From (w4.heap.size) (w5.heap.size) (w3.heap.size) from fun h => by have h1 := h.1; have h2 := h.2; omega)
  have Wt4_12 := hg12.cell Wt4_11 (show ¬ From (w4.heap.size) (w5.heap.size) (w3.heap.size) from fun h => by have h1 := h.1; have h2 := h.2; omega)
  have Wt5_12 := hg12.cell Wt5_11 (show ¬ From (w4.heap.size) (w5.heap.size) (w3.heap.size) from fun h => by have h1 := h.1; have h2 := h.2; omega)
  have Wt6_12 := hg12.cell Wt6_11 (show ¬ From (w4.heap.size) (w5.heap.size) (w3.heap.size) from fun h => by have h1 := h.1; have h2 := h.2; omega)
  have X00_12 := hg12.cell X00_11 (show ¬ From (w4.heap.size) (w5.heap.size) (w5.heap.size) from fun h => by have h1 := h.1; have h2 := h.2; omega)
  have X01_12 := hg12.cell X01_11 (show ¬ From (w4.heap.size) (w5.heap.size) (w5.heap.size) from fun h => by have h1 := h.1; have h2 := h.2; omega)
  have X02_12 := hg12.cell X02_11 (show ¬ From (w4.heap.size) (w5.heap.size) (w5.heap.size) from fun h => by have h1 := h.1; have h2 := h.2; omega)
  have X03_12 := hg12.cell X03_11 (show ¬ From (w4.heap.size) (w5.heap.size) (w5.heap.size) from fun h => by have h1 := h.1; have h2 := h.2; omega)
  have X04_12 := hg12.cell X04_11 (show ¬ From (w4.heap.size) (w5.heap.size) (w5.heap.size) from fun h => by have h1 := h.1; have h2 := h.2; omega)
  have X05_12 := hg12.cell X05_11 (show ¬ From (w4.heap.size) (w5.heap.size) (w5.heap.size) from fun h => by have h1 := h.1; have h2 := h.2; omega)
  have X06_12 := hg12.cell X06_11 (show ¬ From (w4.heap.size) (w5.heap.size) (w5.heap.size) from fun h => by have h1 := h.1; have h2 := h.2; omega)
  have Gt0_12 := hg12.cell Gt0_11 (show ¬ From (w4.heap.size) (w5.heap.size) (w7.heap.size) from fun h => by have h1 := h.1; have h2 := h.2; omega)
  have Gt1_12 := hg12.cell Gt1_11 (show ¬ From (w4.heap.size) (w5.heap.size) (w7.heap.size) from fun h => by have h1 := h.1; have h2 := h.2; omega)
  have Gt2_12 := hg12.cell Gt2_11 (show ¬ From (w4.heap.size) (w5.heap.size) (w7.heap.size) from fun h => by have h1 := h.1; have h2 := h.2; omega)
  have Gt3_12 := hg12.cell Gt3_11 (show ¬ From (w4.heap.size) (w5.heap.size) (w7.heap.size) from fun h => by have h1 := h.1; have h2 := h.2; omega)
  have Gt4_12 := hg12.cell Gt4_11 (show ¬ From (w4.heap.size) (w5.heap.size) (w7.heap.size) from fun h => by have h1 := h.1; have h2 := h.2; omega)
  have Gt5_12 := hg12.cell Gt5_11 (show ¬ From (w4.heap.size) (w5.heap.size) (w7.heap.size) from fun h => by have h1 := h.1; have h2 := h.2; omega)
  have Gt6_12 := hg12.cell Gt6_11 (show ¬ From (w4.heap.size) (w5.heap.size) (w7.heap.size) from fun h => by have h1 := h.1; have h2 := h.2; omega)
  have oo_12 := Hid.mk (RSink.ownOff oo_11.out hg12 (fun b h1 h2 => by have h3 := h1.1; have h4 := h1.2; have h5 := h2.1; have h6 := h2.2; omega))
  have og_12 := Hid.mk (RSink.ownOff og_11.out hg12 (fun b h1 h2 => by have h3 := h1.1; have h4 := h1.2; have h5 := h2.1; have h6 := h2.2; omega))
  have B_12 := B_11.trans (hg12.toBelow (by omega) B_11.size)
  have zz12 : w11.heap.size ≤ w12.heap.size := hg12.size
  clear p00_11 p01_11 p02_11 p03_11 p04_11 p05_11 p06_11 Wt0_11 Wt1_11 Wt2_11 Wt3_11 Wt4_11 Wt5_11 Wt6_11 X00_11 X01_11 X02_11 X03_11 X04_11 X05_11 X06_11 Gt0_11 Gt1_11 Gt2_11 Gt3_11 Gt4_11 Gt5_11 Gt6_11 oo_11 ox0_11 og_11 B_11
  clear hg12
  have kpos : ¬ (1 : Int) + (V0 : Int) < 0 := by omega
  go_wp2_with fail
  refine (eqSink_same _ l0 _ _ l2 _ _ l3 _ _ l4 _ _ _ _ _ _ _ _ _ t1 t5 t6 t0 t2 t3 t4 _ HL0.out hs0 HL2.out hs2 HL3.out hs3 HD3.out HL4.out hs4 (RSink.lens og_12.out).2.1 (RSink.lens oo_12.out).2.1 (RSink.lens og_12.out).2.2.2.1 (RSink.lens oo_12.out).2.2.2.1 (RSink.lens og_12.out).2.2.2.2.2.1 (RSink.lens oo_12.out).2.2.2.2.2.1 (RSink.lens og_12.out).2.2.2.2.2.2.2 (RSink.lens oo_12.out).2.2.2.2.2.2.2).mono ?_
  rintro e w13 ⟨rfl, hb13⟩
  have p00_13 := cell_later hb13 p00_12
  have p01_13 := cell_later hb13 p01_12
  have p02_13 := cell_later hb13 p02_12
  have p03_13 := cell_later hb13 p03_12
  have p04_13 := cell_later hb13 p04_12
  have p05_13 := cell_later hb13 p05_12
  have p06_13 := cell_later hb13 p06_12
  have Wt0_13 := cell_later hb13 Wt0_12
  have Wt1_13 := cell_later hb13 Wt1_12
  have Wt2_13 := cell_later hb13 Wt2_12
  have Wt3_13 := cell_later hb13 Wt3_12
  have Wt4_13 := cell_later hb13 Wt4_12
  have Wt5_13 := cell_later hb13 Wt5_12
  have Wt6_13 := cell_later hb13 Wt6_12
  have X00_13 := cell_later hb13 X00_12
  have X01_13 := cell_later hb13 X01_12
  have X02_13 := cell_later hb13 X02_12
  have X03_13 := cell_later hb13 X03_12
  have X04_13 := cell_later hb13 X04_12
  have X05_13 := cell_later hb13 X05_12
  have X06_13 := cell_later hb13 X06_12
  have Gt0_13 := cell_later hb13 Gt0_12
  have Gt1_13 := cell_later hb13 Gt1_12
  have Gt2_13 := cell_later hb13 Gt2_12
  have Gt3_13 := cell_later hb13 Gt3_12
  have Gt4_13 := cell_later hb13 Gt4_12
  have Gt5_13 := cell_later hb13 Gt5_12
  have Gt6_13 := cell_later hb13 Gt6_12
  have oo_13 := Hid.mk (RSink.ownBelow oo_12.out hb13)
  have ox0_13 := Hid.mk (RSink.ownBelow ox0_12.out hb13)
  have og_13 := Hid.mk (RSink.ownBelow og_12.out hb13)
  have B_13 := B_12.trans (hb13.mono B_12.size)
  have zz13 : w12.heap.size ≤ w13.heap.size := hb13.size
  clear p00_12 p01_12 p02_12 p03_12 p04_12 p05_12 p06_12 Wt0_12 Wt1_12 Wt2_12 Wt3_12 Wt4_12 Wt5_12 Wt6_12 X00_12 X01_12 X02_12 X03_12 X04_12 X05_12 X06_12 Gt0_12 Gt1_12 Gt2_12 Gt3_12 Gt4_12 Gt5_12 Gt6_12 oo_12 ox0_12 og_12 B_12
  clear hb13
  clear ox0_13
  go_wp2_with fail
  refine (markSink_rep (From (w6.heap.size) (w7.heap.size)) _ l0 _ _ l2 _ _ l3 _ _ l4 _ t1 t5 t6 t0 t2 t3 t4 1 _ HL0.out hs0 HL2.out hs2 HL3.out hs3 HD3.out HL4.out hs4 hcs3 (by omega) (by omega) (fun b h => by have h2 := h.2; omega) og_13.out).mono ?_
  rintro e w14 ⟨rfl, ho14, hg14⟩
  rw [HVA.out]
  have og_14 := Hid.mk ho14
  clear ho14
  have p00_14 := hg14.cell p00_13 (show ¬ From (w6.heap.size) (w7.heap.size) (w.heap.size) from fun h => by have h1 := h.1; have h2 := h.2; omega)
  have p01_14 := hg14.cell p01_13 (show ¬ From (w6.heap.size) (w7.heap.size) (w.heap.size) from fun h => by have h1 := h.1; have h2 := h.2; omega)
  have p02_14 := hg14.cell p02_13 (show ¬ From (w6.heap.size) (w7.heap.size) (w.heap.size) from fun h => by have h1 := h.1; have h2 := h.2; omega)
  have p03_14 := hg14.cell p03_13 (show ¬ From (w6.heap.size) (w7.heap.size) (w.heap.size) from fun h => by have h1 := h.1; have h2 := h.2; omega)
  have p04_14 := hg14.cell p04_13 (show ¬ From (w6.heap.size) (w7.heap.size) (w.heap.size) from fun h => by have h1 := h.1; have h2 := h.2; omega)
  have p05_14 := hg14.cell p05_13 (show ¬ From (w6.heap.size) (w7.heap.size) (w.heap.size) from fun h => by have h1 := h.1; have h2 := h.2; omega)
  have p06_14 := hg14.cell p06_13 (show ¬ From (w6.heap.size) (w7.heap.size) (w.heap.size) from fun h => by have h1 := h.1; have h2 := h.2; omega)
  have Wt0_14 := hg14.cell Wt0_13 (show ¬ From (w6.heap.size) (w7.heap.size) (w3.heap.size) from fun h => by have h1 := h.1; have h2 := h.2; omega)
  have Wt1_14 := hg14.cell Wt1_13 (show ¬ From (w6.heap.size) (w7.heap.size) (w3.heap.size) from fun h => by have h1 := h.1; have h2 := h.2; omega)
  have Wt2_14 := hg14.cell Wt2_13 (show ¬ From (w6.heap.size) (w7.heap.size) (w3.heap.size) from fun h => by have h1 := h.1; have h2 := h.2; omega)
  have Wt3_14 := hg14.cell Wt3_13 (show ¬ From (w6.heap.size) (w7.heap.size) (w3.heap.size) from fun h => by have h1 := h.1; have h2 := h.2; omega)
  have Wt4_14 := hg14.cell Wt4_13 (show ¬ From (w6.heap.size) (w7.heap.size) (w3.heap.size) from fun h => by have h1 := h.1; have h2 := h.2; omega)
  have Wt5_14 := hg14.cell Wt5_13 (show ¬ From (w6.heap.size) (w7.heap.size) (w3.heap.size) from fun h => by have h1 := h.1; have h2 := h.2; omega)
  have Wt6_14 := hg14.cell Wt6_13 (show ¬ From (w6.heap.size) (w7.heap.size) (w3.heap.size) from fun h => by have h1 := h.1; have h2 := h.2; omega)
  have X00_14 := hg14.cell X00_13 (show ¬ From (w6.heap.size) (w7.heap.size) (w5.heap.size) from fun h => by have h1 := h.1; have h2 := h.2; omega)
  have X01_14 := hg14.cell X01_13 (show ¬ From (w6.heap.size) (w7.heap.size) (w5.heap.size) from fun h => by have h1 := h.1; have h2 := h.2; omega)
  have X02_14 := hg14.cell X02_13 (show ¬ From (w6.heap.size) (w7.heap.size) (w5.heap.size) from fun h => by have h1 := h.1; have h2 := h.2; omega)
  have X03_14 := hg14.cell X03_13 (show ¬ From (w6.heap.size) (w7.heap.size) (w5.heap.size) from fun h => by have h1 := h.1; have h2 := h.2; omega)
  have X04_14 := hg14.cell X04_13 (show ¬ From (w6.heap.size) (w7.heap.size) (w5.heap.size) from fun h => by have h1 := h.1; have h2 := h.2; omega)
  have X05_14 := hg14.cell X05_13 (show ¬ From (w6.heap.size) (w7.heap.size) (w5.heap.size) from fun h => by have h1 := h.1; have h2 := h.2; omega)
  have X06_14 := hg14.cell X06_13 (show ¬ From (w6.heap.size) (w7.heap.size) (w5.heap.size) from fun h => by have h1 := h.1; have h2 := h.2; omega)
  have Gt0_14 := hg14.cell Gt0_13 (show ¬ From (w6.heap.size) (w7.heap.size) (w7.heap.size) from fun h => by have h1 := h.1; have h2 := h.2; omega)
  have Gt1_14 := hg14.cell Gt1_13 (show ¬ From (w6.heap.size) (w7.heap.size) (w7.heap.size) from fun h => by have h1 := h.1; have h2 := h.2; omega)
  have Gt2_14 := hg14.cell Gt2_13 (show ¬ From (w6.heap.size) (w7.heap.size) (w7.heap.size) from fun h => by have h1 := h.1; have h2 := h.2; omega)
  have Gt3_14 := hg14.cell Gt3_13 (show ¬ From (w6.heap.size) (w7.heap.size) (w7.heap.size) from fun h => by have h1 := h.1; have h2 := h.2; omega)
  have Gt4_14 := hg14.cell Gt4_13 (show ¬ From (w6.heap.size) (w7.heap.size) (w7.heap.size) from fun h => by have h1 := h.1; have h2 := h.2; omega)
  have Gt5_14 := hg14.cell Gt5_13 (show ¬ From (w6.heap.size) (w7.heap.size) (w7.heap.size) from fun h => by have h1 := h.1; have h2 := h.2; omega)
  have Gt6_14 := hg14.cell Gt6_13 (show ¬ From (w6.heap.size) (w7.heap.size) (w7.heap.size) from fun h => by have h1 := h.1; have h2 := h.2; omega)
  have oo_14 := Hid.mk (RSink.ownOff oo_13.out hg14 (fun b h1 h2 => by have h3 := h1.1; have h4 := h1.2; have h5 := h2.1; have h6 := h2.2; omega))
  have B_14 := B_13.trans (hg14.toBelow (by omega) B_13.size)
  have zz14 : w13.heap.size ≤ w14.heap.size := hg14.size
  clear p00_13 p01_13 p02_13 p03_13 p04_13 p05_13 p06_13 Wt0_13 Wt1_13 Wt2_13 Wt3_13 Wt4_13 Wt5_13 Wt6_13 X00_13 X01_13 X02_13 X03_13 X04_13 X05_13 X06_13 Gt0_13 Gt1_13 Gt2_13 Gt3_13 Gt4_13 Gt5_13 Gt6_13 oo_13 og_13 B_13
  clear hg14
  have gpos : ¬ (1 : Int) + (VA : Int) < 0 := by omega
  go_wp2_with fail
  refine (heldSink_rep _ l0 _ _ l2 _ _ l3 _ _ l4 _ t1 t5 t6 t0 t2 t3 t4 1 _ HL0.out hs0 HL2.out hs2 HL3.out hs3 HD3.out HL4.out hs4 hcs3 (by omega) (by omega) (RSink.toAt og_14.out)).mono ?_
  rintro e w15 ⟨rfl, hb15⟩
  rw [HVA.out]
  have p00_15 := cell_later hb15 p00_14
  have p01_15 := cell_later hb15 p01_14
  have p02_15 := cell_later hb15 p02_14
  have p03_15 := cell_later hb15 p03_14
  have p04_15 := cell_later hb15 p04_14
  have p05_15 := cell_later hb15 p05_14
  have p06_15 := cell_later hb15 p06_14
  have Wt0_15 := cell_later hb15 Wt0_14
  have Wt1_15 := cell_later hb15 Wt1_14
  have Wt2_15 := cell_later hb15 Wt2_14
  have Wt3_15 := cell_later hb15 Wt3_14
  have Wt4_15 := cell_later hb15 Wt4_14
  have Wt5_15 := cell_later hb15 Wt5_14
  have Wt6_15 := cell_later hb15 Wt6_14
  have X00_15 := cell_later hb15 X00_14
  have X01_15 := cell_later hb15 X01_14
  have X02_15 := cell_later hb15 X02_14
  have X03_15 := cell_later hb15 X03_14
  have X04_15 := cell_later hb15 X04_14
  have X05_15 := cell_later hb15 X05_14
  have X06_15 := cell_later hb15 X06_14
  have Gt0_15 := cell_later hb15 Gt0_14
  have Gt1_15 := cell_later hb15 Gt1_14
  have Gt2_15 := cell_later hb15 Gt2_14
  have Gt3_15 := cell_later hb15 Gt3_14
  have Gt4_15 := cell_later hb15 Gt4_14
  have Gt5_15 := cell_later hb15 Gt5_14
  have Gt6_15 := cell_later hb15 Gt6_14
  have oo_15 := Hid.mk (RSink.ownBelow oo_14.out hb15)
  have og_15 := Hid.mk (RSink.ownBelow og_14.out hb15)
  have B_15 := B_14.trans (hb15.mono B_14.size)
  have zz15 : w14.heap.size ≤ w15.heap.size := hb15.size
  clear p00_14 p01_14 p02_14 p03_14 p04_14 p05_14 p06_14 Wt0_14 Wt1_14 Wt2_14 Wt3_14 Wt4_14 Wt5_14 Wt6_14 X00_14 X01_14 X02_14 X03_14 X04_14 X05_14 X06_14 Gt0_14 Gt1_14 Gt2_14 Gt3_14 Gt4_14 Gt5_14 Gt6_14 oo_14 og_14 B_14
  clear hb15
  go_wp2_with fail
  refine (toSink_rep sa0_0 sn0_0 sc0_0 sa2_0 sn2_0 sc2_0 sa3_0 sn3_0 sc3_0 sa4_0 sn4_0 sc4_0 sz1_0 sz5_0 sz6_0 sx0_0 sx2_0 sx3_0 sx4_0 _ HZ0.out.1 sh0_0 HZ0.out.2.1 sh2_0 HZ0.out.2.2.1 sh3_0 HDD3_0.out HZ0.out.2.2.2 sh4_0 (At.below HA0.out.1 B_15) (At.below HA0.out.2.1 B_15) (AtSl.below HA0.out.2.2.1 B_15) (At.below HA0.out.2.2.2 B_15)).mono ?_
  rintro e w16 ⟨g16_0, g16_2, g16_3, g16_4, rfl, ho16, hb16⟩
  have oh0_16 := Hid.mk ho16
  clear ho16
  have p00_16 := cell_later hb16 p00_15
  have p01_16 := cell_later hb16 p01_15
  have p02_16 := cell_later hb16 p02_15
  have p03_16 := cell_later hb16 p03_15
  have p04_16 := cell_later hb16 p04_15
  have p05_16 := cell_later hb16 p05_15
  have p06_16 := cell_later hb16 p06_15
  have Wt0_16 := cell_later hb16 Wt0_15
  have Wt1_16 := cell_later hb16 Wt1_15
  have Wt2_16 := cell_later hb16 Wt2_15
  have Wt3_16 := cell_later hb16 Wt3_15
  have Wt4_16 := cell_later hb16 Wt4_15
  have Wt5_16 := cell_later hb16 Wt5_15
  have Wt6_16 := cell_later hb16 Wt6_15
  have X00_16 := cell_later hb16 X00_15
  have X01_16 := cell_later hb16 X01_15
  have X02_16 := cell_later hb16 X02_15
  have X03_16 := cell_later hb16 X03_15
  have X04_16 := cell_later hb16 X04_15
  have X05_16 := cell_later hb16 X05_15
  have X06_16 := cell_later hb16 X06_15
  have Gt0_16 := cell_later hb16 Gt0_15
  have Gt1_16 := cell_later hb16 Gt1_15
  have Gt2_16 := cell_later hb16 Gt2_15
  have Gt3_16 := cell_later hb16 Gt3_15
  have Gt4_16 := cell_later hb16 Gt4_15
  have Gt5_16 := cell_later hb16 Gt5_15
  have Gt6_16 := cell_later hb16 Gt6_15
  have oo_16 := Hid.mk (RSink.ownBelow oo_15.out hb16)
  have og_16 := Hid.mk (RSink.ownBelow og_15.out hb16)
  have B_16 := B_15.trans (hb16.mono B_15.size)
  have zz16 : w15.heap.size ≤ w16.heap.size := hb16.size
  clear p00_15 p01_15 p02_15 p03_15 p04_15 p05_15 p06_15 Wt0_15 Wt1_15 Wt2_15 Wt3_15 Wt4_15 Wt5_15 Wt6_15 X00_15 X01_15 X02_15 X03_15 X04_15 X05_15 X06_15 Gt0_15 Gt1_15 Gt2_15 Gt3_15 Gt4_15 Gt5_15 Gt6_15 oo_15 og_15 B_15
  clear hb16
  go_wp2_with fail
  refine (HI.out _ _ _ _ _ _ oh0_16.out).mono ?_
  rintro e w17 ⟨⟨r017, m017, d017, r217, m217, d217, r317, m317, d317, r417, m417, d417, rfl, ho17⟩, hb17⟩
  clear oh0_16
  obtain rfl : l0 = m017 := HL0.out.symm.trans (RSink.lens ho17).1
  obtain rfl : l2 = m217 := HL2.out.symm.trans (RSink.lens ho17).2.2.1
  obtain rfl : l3 = m317 := HL3.out.symm.trans (RSink.lens ho17).2.2.2.2.1
  obtain rfl : l4 = m417 := HL4.out.symm.trans (RSink.lens ho17).2.2.2.2.2.2.1
  have ohg_17 := Hid.mk ho17
  clear ho17
  have p00_17 := cell_later hb17 p00_16
  have p01_17 := cell_later hb17 p01_16
  have p02_17 := cell_later hb17 p02_16
  have p03_17 := cell_later hb17 p03_16
  have p04_17 := cell_later hb17 p04_16
  have p05_17 := cell_later hb17 p05_16
  have p06_17 := cell_later hb17 p06_16
  have Wt0_17 := cell_later hb17 Wt0_16
  have Wt1_17 := cell_later hb17 Wt1_16
  have Wt2_17 := cell_later hb17 Wt2_16
  have Wt3_17 := cell_later hb17 Wt3_16
  have Wt4_17 := cell_later hb17 Wt4_16
  have Wt5_17 := cell_later hb17 Wt5_16
  have Wt6_17 := cell_later hb17 Wt6_16
  have X00_17 := cell_later hb17 X00_16
  have X01_17 := cell_later hb17 X01_16
  have X02_17 := cell_later hb17 X02_16
  have X03_17 := cell_later hb17 X03_16
  have X04_17 := cell_later hb17 X04_16
  have X05_17 := cell_later hb17 X05_16
  have X06_17 := cell_later hb17 X06_16
  have Gt0_17 := cell_later hb17 Gt0_16
  have Gt1_17 := cell_later hb17 Gt1_16
  have Gt2_17 := cell_later hb17 Gt2_16
  have Gt3_17 := cell_later hb17 Gt3_16
  have Gt4_17 := cell_later hb17 Gt4_16
  have Gt5_17 := cell_later hb17 Gt5_16
  have Gt6_17 := cell_later hb17 Gt6_16
  have oo_17 := Hid.mk (RSink.ownBelow oo_16.out hb17)
  have og_17 := Hid.mk (RSink.ownBelow og_16.out hb17)
  have B_17 := B_16.trans (hb17.mono B_16.size)
  have zz17 : w16.heap.size ≤ w17.heap.size := hb17.size
  clear p00_16 p01_16 p02_16 p03_16 p04_16 p05_16 p06_16 Wt0_16 Wt1_16 Wt2_16 Wt3_16 Wt4_16 Wt5_16 Wt6_16 X00_16 X01_16 X02_16 X03_16 X04_16 X05_16 X06_16 Gt0_16 Gt1_16 Gt2_16 Gt3_16 Gt4_16 Gt5_16 Gt6_16 oo_16 og_16 B_16
  clear hb17
  obtain ⟨w18, hU18⟩ : ∃ u, u = w17.alloc (.cells #[.slice r017 l0 d017, .int .i64 t1, .slice r217 l2 d217, .slice r317 l3 d317, .slice r417 l4 d417, .int .i64 t5, .int .i64 t6] 29) := ⟨_, rfl⟩
  have hb18 : Below w17.heap.size w17 w18 := by rw [hU18]; exact (Below.refl _ _).alloc (Nat.le_refl _) _
  have zl18 : w17.heap.size < w18.heap.size := by rw [hU18]; simp
  have nHt0 : w18.cell? ⟨w17.heap.size, 0, none⟩ = some (.slice r017 l0 d017) := by rw [hU18]; simp
  have nHt1 : w18.cell? ⟨w17.heap.size, 1, none⟩ = some (.int .i64 t1) := by rw [hU18]; simp
  have nHt2 : w18.cell? ⟨w17.heap.size, 2, none⟩ = some (.slice r217 l2 d217) := by rw [hU18]; simp
  have nHt3 : w18.cell? ⟨w17.heap.size, 3, none⟩ = some (.slice r317 l3 d317) := by rw [hU18]; simp
  have nHt4 : w18.cell? ⟨w17.heap.size, 4, none⟩ = some (.slice r417 l4 d417) := by rw [hU18]; simp
  have nHt5 : w18.cell? ⟨w17.heap.size, 5, none⟩ = some (.int .i64 t5) := by rw [hU18]; simp
  have nHt6 : w18.cell? ⟨w17.heap.size, 6, none⟩ = some (.int .i64 t6) := by rw [hU18]; simp
  have p00_18 := cell_later hb18 p00_17
  have p01_18 := cell_later hb18 p01_17
  have p02_18 := cell_later hb18 p02_17
  have p03_18 := cell_later hb18 p03_17
  have p04_18 := cell_later hb18 p04_17
  have p05_18 := cell_later hb18 p05_17
  have p06_18 := cell_later hb18 p06_17
  have Wt0_18 := cell_later hb18 Wt0_17
  have Wt1_18 := cell_later hb18 Wt1_17
  have Wt2_18 := cell_later hb18 Wt2_17
  have Wt3_18 := cell_later hb18 Wt3_17
  have Wt4_18 := cell_later hb18 Wt4_17
  have Wt5_18 := cell_later hb18 Wt5_17
  have Wt6_18 := cell_later hb18 Wt6_17
  have X00_18 := cell_later hb18 X00_17
  have X01_18 := cell_later hb18 X01_17
  have X02_18 := cell_later hb18 X02_17
  have X03_18 := cell_later hb18 X03_17
  have X04_18 := cell_later hb18 X04_17
  have X05_18 := cell_later hb18 X05_17
  have X06_18 := cell_later hb18 X06_17
  have Gt0_18 := cell_later hb18 Gt0_17
  have Gt1_18 := cell_later hb18 Gt1_17
  have Gt2_18 := cell_later hb18 Gt2_17
  have Gt3_18 := cell_later hb18 Gt3_17
  have Gt4_18 := cell_later hb18 Gt4_17
  have Gt5_18 := cell_later hb18 Gt5_17
  have Gt6_18 := cell_later hb18 Gt6_17
  have oo_18 := Hid.mk (RSink.ownBelow oo_17.out hb18)
  have og_18 := Hid.mk (RSink.ownBelow og_17.out hb18)
  have ohg_18 := Hid.mk (RSink.ownBelow ohg_17.out hb18)
  have B_18 := B_17.trans (hb18.mono B_17.size)
  have zz18 : w17.heap.size ≤ w18.heap.size := hb18.size
  clear p00_17 p01_17 p02_17 p03_17 p04_17 p05_17 p06_17 Wt0_17 Wt1_17 Wt2_17 Wt3_17 Wt4_17 Wt5_17 Wt6_17 X00_17 X01_17 X02_17 X03_17 X04_17 X05_17 X06_17 Gt0_17 Gt1_17 Gt2_17 Gt3_17 Gt4_17 Gt5_17 Gt6_17 oo_17 og_17 ohg_17 B_17
  clear hb18
  have xp00 := p00_18
  rw [hU18] at xp00
  have xp01 := p01_18
  rw [hU18] at xp01
  have xp02 := p02_18
  rw [hU18] at xp02
  have xp03 := p03_18
  rw [hU18] at xp03
  have xp04 := p04_18
  rw [hU18] at xp04
  have xp05 := p05_18
  rw [hU18] at xp05
  have xp06 := p06_18
  rw [hU18] at xp06
  have xWt0 := Wt0_18
  rw [hU18] at xWt0
  have xWt1 := Wt1_18
  rw [hU18] at xWt1
  have xWt2 := Wt2_18
  rw [hU18] at xWt2
  have xWt3 := Wt3_18
  rw [hU18] at xWt3
  have xWt4 := Wt4_18
  rw [hU18] at xWt4
  have xWt5 := Wt5_18
  rw [hU18] at xWt5
  have xWt6 := Wt6_18
  rw [hU18] at xWt6
  have xX00 := X00_18
  rw [hU18] at xX00
  have xX01 := X01_18
  rw [hU18] at xX01
  have xX02 := X02_18
  rw [hU18] at xX02
  have xX03 := X03_18
  rw [hU18] at xX03
  have xX04 := X04_18
  rw [hU18] at xX04
  have xX05 := X05_18
  rw [hU18] at xX05
  have xX06 := X06_18
  rw [hU18] at xX06
  have xGt0 := Gt0_18
  rw [hU18] at xGt0
  have xGt1 := Gt1_18
  rw [hU18] at xGt1
  have xGt2 := Gt2_18
  rw [hU18] at xGt2
  have xGt3 := Gt3_18
  rw [hU18] at xGt3
  have xGt4 := Gt4_18
  rw [hU18] at xGt4
  have xGt5 := Gt5_18
  rw [hU18] at xGt5
  have xGt6 := Gt6_18
  rw [hU18] at xGt6
  have xHt0 := nHt0
  rw [hU18] at xHt0
  have xHt1 := nHt1
  rw [hU18] at xHt1
  have xHt2 := nHt2
  rw [hU18] at xHt2
  have xHt3 := nHt3
  rw [hU18] at xHt3
  have xHt4 := nHt4
  rw [hU18] at xHt4
  have xHt5 := nHt5
  rw [hU18] at xHt5
  have xHt6 := nHt6
  rw [hU18] at xHt6
  go_wp2_with fail
  rw [← hU18]
  clear hU18
  clear xp00 xp01 xp02 xp03 xp04 xp05 xp06 xWt0 xWt1 xWt2 xWt3 xWt4 xWt5 xWt6 xX00 xX01 xX02 xX03 xX04 xX05 xX06 xGt0 xGt1 xGt2 xGt3 xGt4 xGt5 xGt6 xHt0 xHt1 xHt2 xHt3 xHt4 xHt5 xHt6
  refine (eqSink_same _ l0 _ _ l2 _ _ l3 _ _ l4 _ _ _ _ _ _ _ _ _ t1 t5 t6 t0 t2 t3 t4 _ HL0.out hs0 HL2.out hs2 HL3.out hs3 HD3.out HL4.out hs4 (RSink.lens ohg_18.out).2.1 (RSink.lens oo_18.out).2.1 (RSink.lens ohg_18.out).2.2.2.1 (RSink.lens oo_18.out).2.2.2.1 (RSink.lens ohg_18.out).2.2.2.2.2.1 (RSink.lens oo_18.out).2.2.2.2.2.1 (RSink.lens ohg_18.out).2.2.2.2.2.2.2 (RSink.lens oo_18.out).2.2.2.2.2.2.2).mono ?_
  rintro e w19 ⟨rfl, hb19⟩
  have p00_19 := cell_later hb19 p00_18
  have p01_19 := cell_later hb19 p01_18
  have p02_19 := cell_later hb19 p02_18
  have p03_19 := cell_later hb19 p03_18
  have p04_19 := cell_later hb19 p04_18
  have p05_19 := cell_later hb19 p05_18
  have p06_19 := cell_later hb19 p06_18
  have Wt0_19 := cell_later hb19 Wt0_18
  have Wt1_19 := cell_later hb19 Wt1_18
  have Wt2_19 := cell_later hb19 Wt2_18
  have Wt3_19 := cell_later hb19 Wt3_18
  have Wt4_19 := cell_later hb19 Wt4_18
  have Wt5_19 := cell_later hb19 Wt5_18
  have Wt6_19 := cell_later hb19 Wt6_18
  have X00_19 := cell_later hb19 X00_18
  have X01_19 := cell_later hb19 X01_18
  have X02_19 := cell_later hb19 X02_18
  have X03_19 := cell_later hb19 X03_18
  have X04_19 := cell_later hb19 X04_18
  have X05_19 := cell_later hb19 X05_18
  have X06_19 := cell_later hb19 X06_18
  have Gt0_19 := cell_later hb19 Gt0_18
  have Gt1_19 := cell_later hb19 Gt1_18
  have Gt2_19 := cell_later hb19 Gt2_18
  have Gt3_19 := cell_later hb19 Gt3_18
  have Gt4_19 := cell_later hb19 Gt4_18
  have Gt5_19 := cell_later hb19 Gt5_18
  have Gt6_19 := cell_later hb19 Gt6_18
  have Ht0_19 := cell_later hb19 nHt0
  have Ht1_19 := cell_later hb19 nHt1
  have Ht2_19 := cell_later hb19 nHt2
  have Ht3_19 := cell_later hb19 nHt3
  have Ht4_19 := cell_later hb19 nHt4
  have Ht5_19 := cell_later hb19 nHt5
  have Ht6_19 := cell_later hb19 nHt6
  have oo_19 := Hid.mk (RSink.ownBelow oo_18.out hb19)
  have og_19 := Hid.mk (RSink.ownBelow og_18.out hb19)
  have ohg_19 := Hid.mk (RSink.ownBelow ohg_18.out hb19)
  have B_19 := B_18.trans (hb19.mono B_18.size)
  have zz19 : w18.heap.size ≤ w19.heap.size := hb19.size
  clear p00_18 p01_18 p02_18 p03_18 p04_18 p05_18 p06_18 Wt0_18 Wt1_18 Wt2_18 Wt3_18 Wt4_18 Wt5_18 Wt6_18 X00_18 X01_18 X02_18 X03_18 X04_18 X05_18 X06_18 Gt0_18 Gt1_18 Gt2_18 Gt3_18 Gt4_18 Gt5_18 Gt6_18 nHt0 nHt1 nHt2 nHt3 nHt4 nHt5 nHt6 oo_18 og_18 ohg_18 B_18
  clear hb19
  go_wp2_with fail
  refine (heldSink_rep _ l0 _ _ l2 _ _ l3 _ _ l4 _ t1 t5 t6 t0 t2 t3 t4 1 _ HL0.out hs0 HL2.out hs2 HL3.out hs3 HD3.out HL4.out hs4 hcs3 (by omega) (by omega) (RSink.toAt og_19.out)).mono ?_
  rintro e w20 ⟨rfl, hb20⟩
  rw [HVA.out]
  have p00_20 := cell_later hb20 p00_19
  have p01_20 := cell_later hb20 p01_19
  have p02_20 := cell_later hb20 p02_19
  have p03_20 := cell_later hb20 p03_19
  have p04_20 := cell_later hb20 p04_19
  have p05_20 := cell_later hb20 p05_19
  have p06_20 := cell_later hb20 p06_19
  have Wt0_20 := cell_later hb20 Wt0_19
  have Wt1_20 := cell_later hb20 Wt1_19
  have Wt2_20 := cell_later hb20 Wt2_19
  have Wt3_20 := cell_later hb20 Wt3_19
  have Wt4_20 := cell_later hb20 Wt4_19
  have Wt5_20 := cell_later hb20 Wt5_19
  have Wt6_20 := cell_later hb20 Wt6_19
  have X00_20 := cell_later hb20 X00_19
  have X01_20 := cell_later hb20 X01_19
  have X02_20 := cell_later hb20 X02_19
  have X03_20 := cell_later hb20 X03_19
  have X04_20 := cell_later hb20 X04_19
  have X05_20 := cell_later hb20 X05_19
  have X06_20 := cell_later hb20 X06_19
  have Gt0_20 := cell_later hb20 Gt0_19
  have Gt1_20 := cell_later hb20 Gt1_19
  have Gt2_20 := cell_later hb20 Gt2_19
  have Gt3_20 := cell_later hb20 Gt3_19
  have Gt4_20 := cell_later hb20 Gt4_19
  have Gt5_20 := cell_later hb20 Gt5_19
  have Gt6_20 := cell_later hb20 Gt6_19
  have Ht0_20 := cell_later hb20 Ht0_19
  have Ht1_20 := cell_later hb20 Ht1_19
  have Ht2_20 := cell_later hb20 Ht2_19
  have Ht3_20 := cell_later hb20 Ht3_19
  have Ht4_20 := cell_later hb20 Ht4_19
  have Ht5_20 := cell_later hb20 Ht5_19
  have Ht6_20 := cell_later hb20 Ht6_19
  have oo_20 := Hid.mk (RSink.ownBelow oo_19.out hb20)
  have og_20 := Hid.mk (RSink.ownBelow og_19.out hb20)
  have ohg_20 := Hid.mk (RSink.ownBelow ohg_19.out hb20)
  have B_20 := B_19.trans (hb20.mono B_19.size)
  have zz20 : w19.heap.size ≤ w20.heap.size := hb20.size
  clear p00_19 p01_19 p02_19 p03_19 p04_19 p05_19 p06_19 Wt0_19 Wt1_19 Wt2_19 Wt3_19 Wt4_19 Wt5_19 Wt6_19 X00_19 X01_19 X02_19 X03_19 X04_19 X05_19 X06_19 Gt0_19 Gt1_19 Gt2_19 Gt3_19 Gt4_19 Gt5_19 Gt6_19 Ht0_19 Ht1_19 Ht2_19 Ht3_19 Ht4_19 Ht5_19 Ht6_19 oo_19 og_19 ohg_19 B_19
  clear hb20
  go_wp2
  go_ret
  exact ⟨rfl, B_20⟩

end Go.Proofs.Ytmbjmmnodcebbaa
