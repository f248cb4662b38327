/- The law FnExactOutOf returns true at every input, and writes nothing that was there. -/
import Derived.Test.YtecaaekilbdgdaaOuI
import Derived.Test.YtecaaekilbdgdaaOuS
import Derived.Test.YtecaaekilbdgdaaSkkH
import Derived.Test.YtecaaekilbdgdaaSkkE
import Derived.Test.YtecaaekilbdgdaaRepD
import Derived.Test.YtecaaekilbdgdaaIntE
import Derived.Test.YtecaaekilbdgdaaIntM
import Derived.Test.YtecaaekilbdgdaaSkkL
namespace Go.Proofs.Ytecaaekilbdgdaa
open Go.RowKit

set_option maxRecDepth 100000 in
set_option maxHeartbeats 16000000 in
theorem lawOutOf (sa0_0 : Option Addr) (sn0_0 sc0_0 : Nat) (sa2_0 : Option Addr) (sn2_0 sc2_0 : Nat) (sa3_0 : Option Addr) (sn3_0 sc3_0 : Nat) (sa4_0 : Option Addr) (sn4_0 sc4_0 : Nat) (sz1_0 : Int) (sz5_0 : Int) (sz6_0 : Int) (sx0_0 : List Int) (sx2_0 : List Int) (sx3_0 : List TPrepared) (sx4_0 : List Int) (w : World) (ha0 : RSink.At w [.slice sa0_0 sn0_0 sc0_0, .int .i64 sz1_0, .slice sa2_0 sn2_0 sc2_0, .slice sa3_0 sn3_0 sc3_0, .slice sa4_0 sn4_0 sc4_0, .int .i64 sz5_0, .int .i64 sz6_0] (sx0_0, sz1_0, sx2_0, sx3_0, sx4_0, sz5_0, sz6_0)) :
    Calls Try.prog 7 #[.agg #[.slice sa0_0 sn0_0 sc0_0, .int .i64 sz1_0, .slice sa2_0 sn2_0 sc2_0, .slice sa3_0 sn3_0 sc3_0, .slice sa4_0 sn4_0 sc4_0, .int .i64 sz5_0, .int .i64 sz6_0]] w fun e w' => e = .returned (.bool true) ∧ Below w.heap.size w w' := by
  obtain ⟨⟨k0_0, kb0_0, kc0_0, _⟩, ⟨k2_0, kb2_0, kc2_0, _⟩, ⟨k3_0, kb3_0, kc3_0, _⟩, ⟨k4_0, kb4_0, kc4_0, _⟩⟩ := RSink.at_iff ha0
  have HA0 := Hid.mk (And.intro kc0_0 (And.intro kc2_0 (And.intro kc3_0 (kc4_0))))
  have HZ0 : Hid (sx0_0.length = sn0_0 ∧ sx2_0.length = sn2_0 ∧ sx3_0.length = sn3_0 ∧ sx4_0.length = sn4_0) := Hid.mk ⟨k0_0, k2_0, k3_0, k4_0⟩
  clear ha0 k0_0 kc0_0 k2_0 kc2_0 k3_0 kc3_0 k4_0 kc4_0
  obtain ⟨W, hW⟩ : ∃ W, W = w.alloc (.cells #[.slice sa0_0 sn0_0 sc0_0, .int .i64 sz1_0, .slice sa2_0 sn2_0 sc2_0, .slice sa3_0 sn3_0 sc3_0, .slice sa4_0 sn4_0 sc4_0, .int .i64 sz5_0, .int .i64 sz6_0] 36) := ⟨_, rfl⟩
  have B0 : Below w.heap.size w W := by rw [hW]; exact (Below.refl _ _).alloc (Nat.le_refl _) _
  have zW : w.heap.size < W.heap.size := by rw [hW]; simp
  have p00_0 : W.cell? ⟨w.heap.size, 0, none⟩ = some (.slice sa0_0 sn0_0 sc0_0) := by rw [hW]; simp
  have p01_0 : W.cell? ⟨w.heap.size, 1, none⟩ = some (.int .i64 sz1_0) := by rw [hW]; simp
  have p02_0 : W.cell? ⟨w.heap.size, 2, none⟩ = some (.slice sa2_0 sn2_0 sc2_0) := by rw [hW]; simp
  have p03_0 : W.cell? ⟨w.heap.size, 3, none⟩ = some (.slice sa3_0 sn3_0 sc3_0) := by rw [hW]; simp
  have p04_0 : W.cell? ⟨w.heap.size, 4, none⟩ = some (.slice sa4_0 sn4_0 sc4_0) := by rw [hW]; simp
  have p05_0 : W.cell? ⟨w.heap.size, 5, none⟩ = some (.int .i64 sz5_0) := by rw [hW]; simp
  have p06_0 : W.cell? ⟨w.heap.size, 6, none⟩ = some (.int .i64 sz6_0) := by rw [hW]; simp
  obtain ⟨C0, hC0⟩ : ∃ C : Nat, costSink (sx0_0, sz1_0, sx2_0, sx3_0, sx4_0, sz5_0, sz6_0) = C := ⟨_, rfl⟩
  have HC0 := Hid.mk hC0
  clear hC0
  by_cases big0 : (1048576 : Int) < (C0 : Int)
  · go_enter Try.func7, Try.ntmps7
    go_wp2_with fail
    rw [← hW]
    clear hW
    refine (szSink_any sa0_0 sn0_0 sc0_0 sa2_0 sn2_0 sc2_0 sa3_0 sn3_0 sc3_0 sa4_0 sn4_0 sc4_0 sz1_0 sz5_0 sz6_0 sx0_0 sx2_0 sx3_0 sx4_0 _ _ HZ0.out.1 kb0_0 HZ0.out.2.1 kb2_0 HZ0.out.2.2.1 kb3_0 HZ0.out.2.2.2 kb4_0 (At.below HA0.out.1 B0) (At.below HA0.out.2.1 B0) (AtSl.below HA0.out.2.2.1 B0) (At.below HA0.out.2.2.2 B0) (by omega) (by omega)).mono ?_
    rintro e v0 ⟨rfl, hv0⟩
    rw [HC0.out, leftOf_no big0]
    have y0 := B0.trans (hv0.mono B0.size)
    go_wp2
    go_ret
    exact ⟨rfl, y0⟩
  have hl0 : ¬ (1048576 : Int) - (C0 : Int) < 0 := by omega
  have HSM0 := Hid.mk (smallSink HZ0.out.1 HZ0.out.2.1 HZ0.out.2.2.1 HZ0.out.2.2.2 (by have q := HC0.out; omega : costSink (sx0_0, sz1_0, sx2_0, sx3_0, sx4_0, sz5_0, sz6_0) ≤ 1048576))
  have sh0_0 : sn0_0 ≤ 1048576 := HSM0.out.1
  have sh2_0 : sn2_0 ≤ 1048576 := HSM0.out.2.1
  have sh3_0 : sn3_0 ≤ 1048576 := HSM0.out.2.2.1
  have HDD3_0 := Hid.mk HSM0.out.2.2.2.1
  have sh4_0 : sn4_0 ≤ 1048576 := HSM0.out.2.2.2.2
  have HCC0 : Hid (sn0_0 + sn2_0 + (sn3_0 + csumPrepared sx3_0 sn3_0) + sn4_0 ≤ 1048576) := Hid.mk (by have q := HC0.out; unfold costSink at q; simp only [HZ0.out.1, HZ0.out.2.1, HZ0.out.2.2.1, HZ0.out.2.2.2] at q; omega)
  have HVB0 : mknSink (sx0_0, sz1_0, sx2_0, sx3_0, sx4_0, sz5_0, sz6_0) ≤ 8388608 := by
    have q := HCC0.out
    unfold mknSink
    simp only [HZ0.out.1, HZ0.out.2.1, HZ0.out.2.2.1, HZ0.out.2.2.2]
    rw [msumPrepared_eq sx3_0 sn3_0 (by have q2 := HZ0.out.2.2.1; omega)]
    omega
  have hcs3_0 : csumPrepared sx3_0 sn3_0 ≤ 1048576 := by have q := HCC0.out; omega
  obtain ⟨V0, hV0⟩ : ∃ V : Nat, mknSink (sx0_0, sz1_0, sx2_0, sx3_0, sx4_0, sz5_0, sz6_0) = V := ⟨_, rfl⟩
  rw [hV0] at HVB0
  have HV0 := Hid.mk hV0
  clear hV0
  obtain ⟨ok, cc, ta, hta, HS, HI⟩ : ∃ (ok : Bool) (cc : Int) (ta : List Int), ta.length ≤ 30 ∧ Hid (∀ (sp0_0 sp2_0 sp3_0 sp4_0 : Nat) (w : World) (F0 : Nat → Prop), RSink.Own w F0 [.slice (some ⟨sp0_0, 0, none⟩) sn0_0 sn0_0, .int .i64 sz1_0, .slice (some ⟨sp2_0, 0, none⟩) sn2_0 sn2_0, .slice (some ⟨sp3_0, 0, none⟩) sn3_0 sn3_0, .slice (some ⟨sp4_0, 0, none⟩) sn4_0 sn4_0, .int .i64 sz5_0, .int .i64 sz6_0] (sx0_0, sz1_0, sx2_0, sx3_0, sx4_0, sz5_0, sz6_0) → Calls Try.prog 24 #[.agg #[.slice (some ⟨sp0_0, 0, none⟩) sn0_0 sn0_0, .int .i64 sz1_0, .slice (some ⟨sp2_0, 0, none⟩) sn2_0 sn2_0, .slice (some ⟨sp3_0, 0, none⟩) sn3_0 sn3_0, .slice (some ⟨sp4_0, 0, none⟩) sn4_0 sn4_0, .int .i64 sz5_0, .int .i64 sz6_0]] w fun e w' => BoRet e w' w.heap.size ok cc ta ∧ Below w.heap.size w w') ∧ Hid (∀ (sp0_0 sp2_0 sp3_0 sp4_0 : Nat) (w : World) (F0 : Nat → Prop), RSink.Own w F0 [.slice (some ⟨sp0_0, 0, none⟩) sn0_0 sn0_0, .int .i64 sz1_0, .slice (some ⟨sp2_0, 0, none⟩) sn2_0 sn2_0, .slice (some ⟨sp3_0, 0, none⟩) sn3_0 sn3_0, .slice (some ⟨sp4_0, 0, none⟩) sn4_0 sn4_0, .int .i64 sz5_0, .int .i64 sz6_0] (sx0_0, sz1_0, sx2_0, sx3_0, sx4_0, sz5_0, sz6_0) → Calls Try.prog 25 #[.agg #[.slice (some ⟨sp0_0, 0, none⟩) sn0_0 sn0_0, .int .i64 sz1_0, .slice (some ⟨sp2_0, 0, none⟩) sn2_0 sn2_0, .slice (some ⟨sp3_0, 0, none⟩) sn3_0 sn3_0, .slice (some ⟨sp4_0, 0, none⟩) sn4_0 sn4_0, .int .i64 sz5_0, .int .i64 sz6_0]] w fun e w' => BoRet e w' w.heap.size ok cc ta ∧ Below w.heap.size w w') := ⟨gkB (sx0_0, sz1_0, sx2_0, sx3_0, sx4_0, sz5_0, sz6_0), outN (sx0_0, sz1_0, sx2_0, sx3_0, sx4_0, sz5_0, sz6_0), outL (sx0_0, sz1_0, sx2_0, sx3_0, sx4_0, sz5_0, sz6_0), out_small (sx0_0, sz1_0, sx2_0, sx3_0, sx4_0, sz5_0, sz6_0), fun sp0_0 sp2_0 sp3_0 sp4_0 w F0 o0 => specOutOf (some ⟨sp0_0, 0, none⟩) sn0_0 sn0_0 (some ⟨sp2_0, 0, none⟩) sn2_0 sn2_0 (some ⟨sp3_0, 0, none⟩) sn3_0 sn3_0 (some ⟨sp4_0, 0, none⟩) sn4_0 sn4_0 sz1_0 sz5_0 sz6_0 sx0_0 sx2_0 sx3_0 sx4_0 w (Nat.le_refl _) HZ0.out.1 HZ0.out.2.1 HZ0.out.2.2.1 HZ0.out.2.2.2 sh0_0 sh2_0 sh3_0 sh4_0 HDD3_0.out (RSink.lens o0).2.1 (RSink.lens o0).2.2.2.1 (RSink.lens o0).2.2.2.2.2.1 (RSink.lens o0).2.2.2.2.2.2.2 (fun h => by cases h), fun sp0_0 sp2_0 sp3_0 sp4_0 w F0 o0 => implOutOf (some ⟨sp0_0, 0, none⟩) sn0_0 sn0_0 (some ⟨sp2_0, 0, none⟩) sn2_0 sn2_0 (some ⟨sp3_0, 0, none⟩) sn3_0 sn3_0 (some ⟨sp4_0, 0, none⟩) sn4_0 sn4_0 sz1_0 sz5_0 sz6_0 sx0_0 sx2_0 sx3_0 sx4_0 w (Nat.le_refl _) HZ0.out.1 HZ0.out.2.1 HZ0.out.2.2.1 HZ0.out.2.2.2 sh0_0 sh2_0 sh3_0 sh4_0 HDD3_0.out (RSink.lens o0).2.1 (RSink.lens o0).2.2.2.1 (RSink.lens o0).2.2.2.2.2.1 (RSink.lens o0).2.2.2.2.2.2.2 (fun h => by cases h)⟩
  obtain ⟨na, hna⟩ : ∃ na, ta.length = na := ⟨_, rfl⟩
  rw [hna] at hta
  have HNA := Hid.mk hna
  clear hna
  go_enter Try.func7, Try.ntmps7
  go_wp2_with fail
  rw [← hW]
  clear hW
  refine (szSink_any sa0_0 sn0_0 sc0_0 sa2_0 sn2_0 sc2_0 sa3_0 sn3_0 sc3_0 sa4_0 sn4_0 sc4_0 sz1_0 sz5_0 sz6_0 sx0_0 sx2_0 sx3_0 sx4_0 _ _ HZ0.out.1 kb0_0 HZ0.out.2.1 kb2_0 HZ0.out.2.2.1 kb3_0 HZ0.out.2.2.2 kb4_0 (At.below HA0.out.1 B0) (At.below HA0.out.2.1 B0) (AtSl.below HA0.out.2.2.1 B0) (At.below HA0.out.2.2.2 B0) (by omega) (by omega)).mono ?_
  rintro e w1 ⟨rfl, hb1⟩
  rw [HC0.out, leftOf_yes (by omega)]
  have p00_1 := cell_later hb1 p00_0
  have p01_1 := cell_later hb1 p01_0
  have p02_1 := cell_later hb1 p02_0
  have p03_1 := cell_later hb1 p03_0
  have p04_1 := cell_later hb1 p04_0
  have p05_1 := cell_later hb1 p05_0
  have p06_1 := cell_later hb1 p06_0
  have B_1 := B0.trans (hb1.mono B0.size)
  have zz1 : W.heap.size ≤ w1.heap.size := hb1.size
  clear p00_0 p01_0 p02_0 p03_0 p04_0 p05_0 p06_0
  clear hb1
  go_wp2_with fail
  refine (toSink_rep sa0_0 sn0_0 sc0_0 sa2_0 sn2_0 sc2_0 sa3_0 sn3_0 sc3_0 sa4_0 sn4_0 sc4_0 sz1_0 sz5_0 sz6_0 sx0_0 sx2_0 sx3_0 sx4_0 _ HZ0.out.1 sh0_0 HZ0.out.2.1 sh2_0 HZ0.out.2.2.1 sh3_0 HDD3_0.out HZ0.out.2.2.2 sh4_0 (At.below HA0.out.1 B_1) (At.below HA0.out.2.1 B_1) (AtSl.below HA0.out.2.2.1 B_1) (At.below HA0.out.2.2.2 B_1)).mono ?_
  rintro e w2 ⟨g2_0, g2_2, g2_3, g2_4, rfl, ho2, hb2⟩
  have ot0_2 := Hid.mk ho2
  clear ho2
  have p00_2 := cell_later hb2 p00_1
  have p01_2 := cell_later hb2 p01_1
  have p02_2 := cell_later hb2 p02_1
  have p03_2 := cell_later hb2 p03_1
  have p04_2 := cell_later hb2 p04_1
  have p05_2 := cell_later hb2 p05_1
  have p06_2 := cell_later hb2 p06_1
  have B_2 := B_1.trans (hb2.mono B_1.size)
  have zz2 : w1.heap.size ≤ w2.heap.size := hb2.size
  clear p00_1 p01_1 p02_1 p03_1 p04_1 p05_1 p06_1 B_1
  clear hb2
  go_wp2_with fail
  refine (HS.out _ _ _ _ _ _ ot0_2.out).mono ?_
  rintro e w3 ⟨⟨r3, m3, d3, rfl, hm3, ho3⟩, hb3⟩
  clear ot0_2
  obtain rfl : na = m3 := HNA.out.symm.trans hm3
  have oo_3 := Hid.mk (RInts.of_owns HNA.out (by omega) ho3)
  clear ho3 hm3
  have p00_3 := cell_later hb3 p00_2
  have p01_3 := cell_later hb3 p01_2
  have p02_3 := cell_later hb3 p02_2
  have p03_3 := cell_later hb3 p03_2
  have p04_3 := cell_later hb3 p04_2
  have p05_3 := cell_later hb3 p05_2
  have p06_3 := cell_later hb3 p06_2
  have B_3 := B_2.trans (hb3.mono B_2.size)
  have zz3 : w2.heap.size ≤ w3.heap.size := hb3.size
  clear p00_2 p01_2 p02_2 p03_2 p04_2 p05_2 p06_2 B_2
  clear hb3
  go_wp2_with fail
  refine (toSink_rep sa0_0 sn0_0 sc0_0 sa2_0 sn2_0 sc2_0 sa3_0 sn3_0 sc3_0 sa4_0 sn4_0 sc4_0 sz1_0 sz5_0 sz6_0 sx0_0 sx2_0 sx3_0 sx4_0 _ HZ0.out.1 sh0_0 HZ0.out.2.1 sh2_0 HZ0.out.2.2.1 sh3_0 HDD3_0.out HZ0.out.2.2.2 sh4_0 (At.below HA0.out.1 B_3) (At.below HA0.out.2.1 B_3) (AtSl.below HA0.out.2.2.1 B_3) (At.below HA0.out.2.2.2 B_3)).mono ?_
  rintro e w4 ⟨g4_0, g4_2, g4_3, g4_4, rfl, ho4, hb4⟩
  have ox0_4 := Hid.mk ho4
  clear ho4
  have p00_4 := cell_later hb4 p00_3
  have p01_4 := cell_later hb4 p01_3
  have p02_4 := cell_later hb4 p02_3
  have p03_4 := cell_later hb4 p03_3
  have p04_4 := cell_later hb4 p04_3
  have p05_4 := cell_later hb4 p05_3
  have p06_4 := cell_later hb4 p06_3
  have oo_4 := Hid.mk (RInts.ownBelow oo_3.out hb4)
  have B_4 := B_3.trans (hb4.mono B_3.size)
  have zz4 : w3.heap.size ≤ w4.heap.size := hb4.size
  clear p00_3 p01_3 p02_3 p03_3 p04_3 p05_3 p06_3 oo_3 B_3
  clear hb4
  obtain ⟨w5, hU5⟩ : ∃ u, u = w4.alloc (.cells #[.slice (some ⟨g4_0, 0, none⟩) sn0_0 sn0_0, .int .i64 sz1_0, .slice (some ⟨g4_2, 0, none⟩) sn2_0 sn2_0, .slice (some ⟨g4_3, 0, none⟩) sn3_0 sn3_0, .slice (some ⟨g4_4, 0, none⟩) sn4_0 sn4_0, .int .i64 sz5_0, .int .i64 sz6_0] 25) := ⟨_, rfl⟩
  have hb5 : Below w4.heap.size w4 w5 := by rw [hU5]; exact (Below.refl _ _).alloc (Nat.le_refl _) _
  have zl5 : w4.heap.size < w5.heap.size := by rw [hU5]; simp
  have nX00 : w5.cell? ⟨w4.heap.size, 0, none⟩ = some (.slice (some ⟨g4_0, 0, none⟩) sn0_0 sn0_0) := by rw [hU5]; simp
  have nX01 : w5.cell? ⟨w4.heap.size, 1, none⟩ = some (.int .i64 sz1_0) := by rw [hU5]; simp
  have nX02 : w5.cell? ⟨w4.heap.size, 2, none⟩ = some (.slice (some ⟨g4_2, 0, none⟩) sn2_0 sn2_0) := by rw [hU5]; simp
  have nX03 : w5.cell? ⟨w4.heap.size, 3, none⟩ = some (.slice (some ⟨g4_3, 0, none⟩) sn3_0 sn3_0) := by rw [hU5]; simp
  have nX04 : w5.cell? ⟨w4.heap.size, 4, none⟩ = some (.slice (some ⟨g4_4, 0, none⟩) sn4_0 sn4_0) := by rw [hU5]; simp
  have nX05 : w5.cell? ⟨w4.heap.size, 5, none⟩ = some (.int .i64 sz5_0) := by rw [hU5]; simp
  have nX06 : w5.cell? ⟨w4.heap.size, 6, none⟩ = some (.int .i64 sz6_0) := by rw [hU5]; simp
  have p00_5 := cell_later hb5 p00_4
  have p01_5 := cell_later hb5 p01_4
  have p02_5 := cell_later hb5 p02_4
  have p03_5 := cell_later hb5 p03_4
  have p04_5 := cell_later hb5 p04_4
  have p05_5 := cell_later hb5 p05_4
  have p06_5 := cell_later hb5 p06_4
  have oo_5 := Hid.mk (RInts.ownBelow oo_4.out hb5)
  have ox0_5 := Hid.mk (RSink.ownBelow ox0_4.out hb5)
  have B_5 := B_4.trans (hb5.mono B_4.size)
  have zz5 : w4.heap.size ≤ w5.heap.size := hb5.size
  clear p00_4 p01_4 p02_4 p03_4 p04_4 p05_4 p06_4 oo_4 ox0_4 B_4
  clear hb5
  have xp00 := p00_5
  rw [hU5] at xp00
  have xp01 := p01_5
  rw [hU5] at xp01
  have xp02 := p02_5
  rw [hU5] at xp02
  have xp03 := p03_5
  rw [hU5] at xp03
  have xp04 := p04_5
  rw [hU5] at xp04
  have xp05 := p05_5
  rw [hU5] at xp05
  have xp06 := p06_5
  rw [hU5] at xp06
  have xX00 := nX00
  rw [hU5] at xX00
  have xX01 := nX01
  rw [hU5] at xX01
  have xX02 := nX02
  rw [hU5] at xX02
  have xX03 := nX03
  rw [hU5] at xX03
  have xX04 := nX04
  rw [hU5] at xX04
  have xX05 := nX05
  rw [hU5] at xX05
  have xX06 := nX06
  rw [hU5] at xX06
  go_wp2_with fail
  rw [← hU5]
  clear hU5
  clear xp00 xp01 xp02 xp03 xp04 xp05 xp06 xX00 xX01 xX02 xX03 xX04 xX05 xX06
  refine (HI.out _ _ _ _ _ _ ox0_5.out).mono ?_
  rintro e w6 ⟨⟨r6, m6, d6, rfl, hm6, ho6⟩, hb6⟩
  obtain rfl : na = m6 := HNA.out.symm.trans hm6
  have og_6 := Hid.mk (RInts.of_owns HNA.out (by omega) ho6)
  clear ho6 hm6
  have p00_6 := cell_later hb6 p00_5
  have p01_6 := cell_later hb6 p01_5
  have p02_6 := cell_later hb6 p02_5
  have p03_6 := cell_later hb6 p03_5
  have p04_6 := cell_later hb6 p04_5
  have p05_6 := cell_later hb6 p05_5
  have p06_6 := cell_later hb6 p06_5
  have X00_6 := cell_later hb6 nX00
  have X01_6 := cell_later hb6 nX01
  have X02_6 := cell_later hb6 nX02
  have X03_6 := cell_later hb6 nX03
  have X04_6 := cell_later hb6 nX04
  have X05_6 := cell_later hb6 nX05
  have X06_6 := cell_later hb6 nX06
  have oo_6 := Hid.mk (RInts.ownBelow oo_5.out hb6)
  have ox0_6 := Hid.mk (RSink.ownBelow ox0_5.out hb6)
  have B_6 := B_5.trans (hb6.mono B_5.size)
  have zz6 : w5.heap.size ≤ w6.heap.size := hb6.size
  clear p00_5 p01_5 p02_5 p03_5 p04_5 p05_5 p06_5 nX00 nX01 nX02 nX03 nX04 nX05 nX06 oo_5 ox0_5 B_5
  clear hb6
  go_wp2_with fail
  refine (eqIntS_same _ _ na _ _ ta _ HNA.out (by omega) (ints_at og_6.out) (ints_at oo_6.out)).mono ?_
  rintro e w7 ⟨rfl, hb7⟩
  have p00_7 := cell_later hb7 p00_6
  have p01_7 := cell_later hb7 p01_6
  have p02_7 := cell_later hb7 p02_6
  have p03_7 := cell_later hb7 p03_6
  have p04_7 := cell_later hb7 p04_6
  have p05_7 := cell_later hb7 p05_6
  have p06_7 := cell_later hb7 p06_6
  have X00_7 := cell_later hb7 X00_6
  have X01_7 := cell_later hb7 X01_6
  have X02_7 := cell_later hb7 X02_6
  have X03_7 := cell_later hb7 X03_6
  have X04_7 := cell_later hb7 X04_6
  have X05_7 := cell_later hb7 X05_6
  have X06_7 := cell_later hb7 X06_6
  have oo_7 := Hid.mk (RInts.ownBelow oo_6.out hb7)
  have ox0_7 := Hid.mk (RSink.ownBelow ox0_6.out hb7)
  have og_7 := Hid.mk (RInts.ownBelow og_6.out hb7)
  have B_7 := B_6.trans (hb7.mono B_6.size)
  have zz7 : w6.heap.size ≤ w7.heap.size := hb7.size
  clear p00_6 p01_6 p02_6 p03_6 p04_6 p05_6 p06_6 X00_6 X01_6 X02_6 X03_6 X04_6 X05_6 X06_6 oo_6 ox0_6 og_6 B_6
  clear hb7
  go_wp2_with fail
  refine wp_region_held_drew (S := fun w' => w'.cell? ⟨w4.heap.size, 0, none⟩ = some (.slice (some ⟨g4_0, 0, none⟩) sn0_0 sn0_0) ∧ w'.cell? ⟨w4.heap.size, 1, none⟩ = some (.int .i64 sz1_0) ∧ w'.cell? ⟨w4.heap.size, 2, none⟩ = some (.slice (some ⟨g4_2, 0, none⟩) sn2_0 sn2_0) ∧ w'.cell? ⟨w4.heap.size, 3, none⟩ = some (.slice (some ⟨g4_3, 0, none⟩) sn3_0 sn3_0) ∧ w'.cell? ⟨w4.heap.size, 4, none⟩ = some (.slice (some ⟨g4_4, 0, none⟩) sn4_0 sn4_0) ∧ w'.cell? ⟨w4.heap.size, 5, none⟩ = some (.int .i64 sz5_0) ∧ w'.cell? ⟨w4.heap.size, 6, none⟩ = some (.int .i64 sz6_0) ∧ w'.cell? ⟨w.heap.size, 0, none⟩ = some (.slice sa0_0 sn0_0 sc0_0) ∧ w'.cell? ⟨w.heap.size, 1, none⟩ = some (.int .i64 sz1_0) ∧ w'.cell? ⟨w.heap.size, 2, none⟩ = some (.slice sa2_0 sn2_0 sc2_0) ∧ w'.cell? ⟨w.heap.size, 3, none⟩ = some (.slice sa3_0 sn3_0 sc3_0) ∧ w'.cell? ⟨w.heap.size, 4, none⟩ = some (.slice sa4_0 sn4_0 sc4_0) ∧ w'.cell? ⟨w.heap.size, 5, none⟩ = some (.int .i64 sz5_0) ∧ w'.cell? ⟨w.heap.size, 6, none⟩ = some (.int .i64 sz6_0)) (by kernel_rfl) ?_ (fun hHeld => ?_)
  · (try dsimp only)
    exact ⟨X00_7, X01_7, X02_7, X03_7, X04_7, X05_7, X06_7, p00_7, p01_7, p02_7, p03_7, p04_7, p05_7, p06_7⟩
  refine tk 0 ?_
  refine tk 1 ?_
  refine wpAnyH_ready (rs := [2]) (by kernel_rfl) (by simp) ?_
  refine AllReadyH.cons (o := ?_) ?_ (fun K hK => ?_) AllReadyH.nil
  rotate_left
  · (simp only [List.getElem?_toArray, List.getElem?_cons_zero, List.getElem?_cons_succ]; rfl)
  go_simp
  go_at_call 18
  refine (toSink_rep sa0_0 sn0_0 sc0_0 sa2_0 sn2_0 sc2_0 sa3_0 sn3_0 sc3_0 sa4_0 sn4_0 sc4_0 sz1_0 sz5_0 sz6_0 sx0_0 sx2_0 sx3_0 sx4_0 _ HZ0.out.1 sh0_0 HZ0.out.2.1 sh2_0 HZ0.out.2.2.1 sh3_0 HDD3_0.out HZ0.out.2.2.2 sh4_0 (At.below HA0.out.1 B_7.drew) (At.below HA0.out.2.1 B_7.drew) (AtSl.below HA0.out.2.2.1 B_7.drew) (At.below HA0.out.2.2.2 B_7.drew)).mono ?_
  rintro e w8 ⟨g8_0, g8_2, g8_3, g8_4, rfl, ho8, hd8⟩
  have hb8 : Below w7.heap.size w7 w8 := (Below.refl _ _).drew.trans hd8
  clear hd8
  have oy_8 := Hid.mk ho8
  clear ho8
  have p00_8 := cell_later hb8 p00_7
  have p01_8 := cell_later hb8 p01_7
  have p02_8 := cell_later hb8 p02_7
  have p03_8 := cell_later hb8 p03_7
  have p04_8 := cell_later hb8 p04_7
  have p05_8 := cell_later hb8 p05_7
  have p06_8 := cell_later hb8 p06_7
  have X00_8 := cell_later hb8 X00_7
  have X01_8 := cell_later hb8 X01_7
  have X02_8 := cell_later hb8 X02_7
  have X03_8 := cell_later hb8 X03_7
  have X04_8 := cell_later hb8 X04_7
  have X05_8 := cell_later hb8 X05_7
  have X06_8 := cell_later hb8 X06_7
  have oo_8 := Hid.mk (RInts.ownBelow oo_7.out hb8)
  have ox0_8 := Hid.mk (RSink.ownBelow ox0_7.out hb8)
  have og_8 := Hid.mk (RInts.ownBelow og_7.out hb8)
  have B_8 := B_7.trans (hb8.mono B_7.size)
  have zz8 : w7.heap.size ≤ w8.heap.size := hb8.size
  clear p00_7 p01_7 p02_7 p03_7 p04_7 p05_7 p06_7 X00_7 X01_7 X02_7 X03_7 X04_7 X05_7 X06_7 oo_7 ox0_7 og_7 B_7
  clear hb8
  (try go_wp2_with fail)
  refine hK.out _ _ ?_ (fun hHeld' => ?_)
  · (try dsimp only)
    exact ⟨X00_8, X01_8, X02_8, X03_8, X04_8, X05_8, X06_8, p00_8, p01_8, p02_8, p03_8, p04_8, p05_8, p06_8⟩
  clear hK K hHeld
  have hHeld := hHeld'
  clear hHeld'
  (try simp only [Act.put, List.setIfInBounds_toArray, List.set_cons_zero, List.set_cons_succ])
  refine wpAnyH_ready (rs := [3]) (by kernel_rfl) (by simp) ?_
  refine AllReadyH.cons (o := ?_) ?_ (fun K hK => ?_) AllReadyH.nil
  rotate_left
  · (simp only [List.getElem?_toArray, List.getElem?_cons_zero, List.getElem?_cons_succ]; rfl)
  go_simp
  go_at_call 11
  refine (eqSink_same _ sn0_0 _ _ sn2_0 _ _ sn3_0 _ _ sn4_0 _ _ _ _ _ _ _ _ _ sz1_0 sz5_0 sz6_0 sx0_0 sx2_0 sx3_0 sx4_0 _ HZ0.out.1 sh0_0 HZ0.out.2.1 sh2_0 HZ0.out.2.2.1 sh3_0 HDD3_0.out HZ0.out.2.2.2 sh4_0 (RSink.lens ox0_8.out).2.1 (RSink.lens oy_8.out).2.1 (RSink.lens ox0_8.out).2.2.2.1 (RSink.lens oy_8.out).2.2.2.1 (RSink.lens ox0_8.out).2.2.2.2.2.1 (RSink.lens oy_8.out).2.2.2.2.2.1 (RSink.lens ox0_8.out).2.2.2.2.2.2.2 (RSink.lens oy_8.out).2.2.2.2.2.2.2).mono ?_
  rintro e w9 ⟨rfl, hb9⟩
  clear oy_8
  have p00_9 := cell_later hb9 p00_8
  have p01_9 := cell_later hb9 p01_8
  have p02_9 := cell_later hb9 p02_8
  have p03_9 := cell_later hb9 p03_8
  have p04_9 := cell_later hb9 p04_8
  have p05_9 := cell_later hb9 p05_8
  have p06_9 := cell_later hb9 p06_8
  have X00_9 := cell_later hb9 X00_8
  have X01_9 := cell_later hb9 X01_8
  have X02_9 := cell_later hb9 X02_8
  have X03_9 := cell_later hb9 X03_8
  have X04_9 := cell_later hb9 X04_8
  have X05_9 := cell_later hb9 X05_8
  have X06_9 := cell_later hb9 X06_8
  have oo_9 := Hid.mk (RInts.ownBelow oo_8.out hb9)
  have ox0_9 := Hid.mk (RSink.ownBelow ox0_8.out hb9)
  have og_9 := Hid.mk (RInts.ownBelow og_8.out hb9)
  have B_9 := B_8.trans (hb9.mono B_8.size)
  have zz9 : w8.heap.size ≤ w9.heap.size := hb9.size
  clear p00_8 p01_8 p02_8 p03_8 p04_8 p05_8 p06_8 X00_8 X01_8 X02_8 X03_8 X04_8 X05_8 X06_8 oo_8 ox0_8 og_8 B_8
  clear hb9
  (try go_wp2_with fail)
  refine hK.out _ _ ?_ (fun hHeld' => ?_)
  · (try dsimp only)
    exact ⟨X00_9, X01_9, X02_9, X03_9, X04_9, X05_9, X06_9, p00_9, p01_9, p02_9, p03_9, p04_9, p05_9, p06_9⟩
  clear hK K hHeld
  have hHeld := hHeld'
  clear hHeld'
  (try simp only [Act.put, List.setIfInBounds_toArray, List.set_cons_zero, List.set_cons_succ])
  refine tk 4 ?_
  refine wpAnyH_done (by kernel_rfl) ?_ _
  clear hHeld
  go_wp2_with fail
  refine (markSink_rep (From (w3.heap.size) (w4.heap.size)) _ sn0_0 _ _ sn2_0 _ _ sn3_0 _ _ sn4_0 _ sz1_0 sz5_0 sz6_0 sx0_0 sx2_0 sx3_0 sx4_0 _ _ HZ0.out.1 sh0_0 HZ0.out.2.1 sh2_0 HZ0.out.2.2.1 sh3_0 HDD3_0.out HZ0.out.2.2.2 sh4_0 hcs3_0 (by omega) (by omega) (fun b h => by have h2 := h.2; omega) ox0_9.out).mono ?_
  rintro e w10 ⟨rfl, ho10, hg10⟩
  rw [HV0.out]
  have ox0_10 := Hid.mk ho10
  clear ho10
  have p00_10 := hg10.cell p00_9 (show ¬ From (w3.heap.size) (w4.heap.size) (w.heap.size) from fun h => by have h1 := h.1; have h2 := h.2; omega)
  have p01_10 := hg10.cell p01_9 (show ¬ From (w3.heap.size) (w4.heap.size) (w.heap.size) from fun h => by have h1 := h.1; have h2 := h.2; omega)
  have p02_10 := hg10.cell p02_9 (show ¬ From (w3.heap.size) (w4.heap.size) (w.heap.size) from fun h => by have h1 := h.1; have h2 := h.2; omega)
  have p03_10 := hg10.cell p03_9 (show ¬ From (w3.heap.size) (w4.heap.size) (w.heap.size) from fun h => by have h1 := h.1; have h2 := h.2; omega)
  have p04_10 := hg10.cell p04_9 (show ¬ From (w3.heap.size) (w4.heap.size) (w.heap.size) from fun h => by have h1 := h.1; have h2 := h.2; omega)
  have p05_10 := hg10.cell p05_9 (show ¬ From (w3.heap.size) (w4.heap.size) (w.heap.size) from fun h => by have h1 := h.1; have h2 := h.2; omega)
  have p06_10 := hg10.cell p06_9 (show ¬ From (w3.heap.size) (w4.heap.size) (w.heap.size) from fun h => by have h1 := h.1; have h2 := h.2; omega)
  have X00_10 := hg10.cell X00_9 (show ¬ From (w3.heap.size) (w4.heap.size) (w4.heap.size) from fun h => by have h1 := h.1; have h2 := h.2; omega)
  have X01_10 := hg10.cell X01_9 (show ¬ From (w3.heap.size) (w4.heap.size) (w4.heap.size) from fun h => by have h1 := h.1; have h2 := h.2; omega)
  have X02_10 := hg10.cell X02_9 (show ¬ From (w3.heap.size) (w4.heap.size) (w4.heap.size) from fun h => by have h1 := h.1; have h2 := h.2; omega)
  have X03_10 := hg10.cell X03_9 (show ¬ From (w3.heap.size) (w4.heap.size) (w4.heap.size) from fun h => by have h1 := h.1; have h2 := h.2; omega)
  have X04_10 := hg10.cell X04_9 (show ¬ From (w3.heap.size) (w4.heap.size) (w4.heap.size) from fun h => by have h1 := h.1; have h2 := h.2; omega)
  have X05_10 := hg10.cell X05_9 (show ¬ From (w3.heap.size) (w4.heap.size) (w4.heap.size) from fun h => by have h1 := h.1; have h2 := h.2; omega)
  have X06_10 := hg10.cell X06_9 (show ¬ From (w3.heap.size) (w4.heap.size) (w4.heap.size) from fun h => by have h1 := h.1; have h2 := h.2; omega)
  have oo_10 := Hid.mk (RInts.ownOff oo_9.out hg10 (fun b h1 h2 => by have h3 := h1.1; have h4 := h1.2; have h5 := h2.1; have h6 := h2.2; omega))
  have og_10 := Hid.mk (RInts.ownOff og_9.out hg10 (fun b h1 h2 => by have h3 := h1.1; have h4 := h1.2; have h5 := h2.1; have h6 := h2.2; omega))
  have B_10 := B_9.trans (hg10.toBelow (by omega) B_9.size)
  have zz10 : w9.heap.size ≤ w10.heap.size := hg10.size
  clear p00_9 p01_9 p02_9 p03_9 p04_9 p05_9 p06_9 X00_9 X01_9 X02_9 X03_9 X04_9 X05_9 X06_9 oo_9 ox0_9 og_9 B_9
  clear hg10
  have kpos : ¬ (1 : Int) + (V0 : Int) < 0 := by omega
  go_wp2_with fail
  refine (eqIntS_same _ _ na _ _ ta _ HNA.out (by omega) (ints_at og_10.out) (ints_at oo_10.out)).mono ?_
  rintro e w11 ⟨rfl, hb11⟩
  have p00_11 := cell_later hb11 p00_10
  have p01_11 := cell_later hb11 p01_10
  have p02_11 := cell_later hb11 p02_10
  have p03_11 := cell_later hb11 p03_10
  have p04_11 := cell_later hb11 p04_10
  have p05_11 := cell_later hb11 p05_10
  have p06_11 := cell_later hb11 p06_10
  have X00_11 := cell_later hb11 X00_10
  have X01_11 := cell_later hb11 X01_10
  have X02_11 := cell_later hb11 X02_10
  have X03_11 := cell_later hb11 X03_10
  have X04_11 := cell_later hb11 X04_10
  have X05_11 := cell_later hb11 X05_10
  have X06_11 := cell_later hb11 X06_10
  have oo_11 := Hid.mk (RInts.ownBelow oo_10.out hb11)
  have ox0_11 := Hid.mk (RSink.ownBelow ox0_10.out hb11)
  have og_11 := Hid.mk (RInts.ownBelow og_10.out hb11)
  have B_11 := B_10.trans (hb11.mono B_10.size)
  have zz11 : w10.heap.size ≤ w11.heap.size := hb11.size
  clear p00_10 p01_10 p02_10 p03_10 p04_10 p05_10 p06_10 X00_10 X01_10 X02_10 X03_10 X04_10 X05_10 X06_10 oo_10 ox0_10 og_10 B_10
  clear hb11
  clear ox0_11
  go_wp2_with fail
  refine (markInts_rep (From (w5.heap.size) (w6.heap.size)) _ na _ ta 1 _ (by omega) (by omega) (by omega) og_11.out).mono ?_
  rintro e w12 ⟨rfl, ho12, hg12⟩
  have og_12 := Hid.mk ho12
  clear ho12
  have p00_12 := hg12.cell p00_11 (show ¬ From (w5.heap.size) (w6.heap.size) (w.heap.size) from fun h => by have h1 := h.1; have h2 := h.2; omega)
  have p01_12 := hg12.cell p01_11 (show ¬ From (w5.heap.size) (w6.heap.size) (w.heap.size) from fun h => by have h1 := h.1; have h2 := h.2; omega)
  have p02_12 := hg12.cell p02_11 (show ¬ From (w5.heap.size) (w6.heap.size) (w.heap.size) from fun h => by have h1 := h.1; have h2 := h.2; omega)
  have p03_12 := hg12.cell p03_11 (show ¬ From (w5.heap.size) (w6.heap.size) (w.heap.size) from fun h => by have h1 := h.1; have h2 := h.2; omega)
  have p04_12 := hg12.cell p04_11 (show ¬ From (w5.heap.size) (w6.heap.size) (w.heap.size) from fun h => by have h1 := h.1; have h2 := h.2; omega)
  have p05_12 := hg12.cell p05_11 (show ¬ From (w5.heap.size) (w6.heap.size) (w.heap.size) from fun h => by have h1 := h.1; have h2 := h.2; omega)
  have p06_12 := hg12.cell p06_11 (show ¬ From (w5.heap.size) (w6.heap.size) (w.heap.size) from fun h => by have h1 := h.1; have h2 := h.2; omega)
  have X00_12 := hg12.cell X00_11 (show ¬ From (w5.heap.size) (w6.heap.size) (w4.heap.size) from fun h => by have h1 := h.1; have h2 := h.2; omega)
  have X01_12 := hg12.cell X01_11 (show ¬ From (w5.heap.size) (w6.heap.size) (w4.heap.size) from fun h => by have h1 := h.1; have h2 := h.2; omega)
  have X02_12 := hg12.cell X02_11 (show ¬ From (w5.heap.size) (w6.heap.size) (w4.heap.size) from fun h => by have h1 := h.1; have h2 := h.2; omega)
  have X03_12 := hg12.cell X03_11 (show ¬ From (w5.heap.size) (w6.heap.size) (w4.heap.size) from fun h => by have h1 := h.1; have h2 := h.2; omega)
  have X04_12 := hg12.cell X04_11 (show ¬ From (w5.heap.size) (w6.heap.size) (w4.heap.size) from fun h => by have h1 := h.1; have h2 := h.2; omega)
  have X05_12 := hg12.cell X05_11 (show ¬ From (w5.heap.size) (w6.heap.size) (w4.heap.size) from fun h => by have h1 := h.1; have h2 := h.2; omega)
  have X06_12 := hg12.cell X06_11 (show ¬ From (w5.heap.size) (w6.heap.size) (w4.heap.size) from fun h => by have h1 := h.1; have h2 := h.2; omega)
  have oo_12 := Hid.mk (RInts.ownOff oo_11.out hg12 (fun b h1 h2 => by have h3 := h1.1; have h4 := h1.2; have h5 := h2.1; have h6 := h2.2; omega))
  have B_12 := B_11.trans (hg12.toBelow (by omega) B_11.size)
  have zz12 : w11.heap.size ≤ w12.heap.size := hg12.size
  clear p00_11 p01_11 p02_11 p03_11 p04_11 p05_11 p06_11 X00_11 X01_11 X02_11 X03_11 X04_11 X05_11 X06_11 oo_11 og_11 B_11
  clear hg12
  have gpos : ¬ (1 : Int) + (na : Int) < 0 := by omega
  go_wp2_with fail
  refine (heldInts_rep _ na _ ta 1 _ HNA.out (by omega) (by omega) (by omega) (ints_at og_12.out)).mono ?_
  rintro e w13 ⟨rfl, hb13⟩
  have p00_13 := cell_later hb13 p00_12
  have p01_13 := cell_later hb13 p01_12
  have p02_13 := cell_later hb13 p02_12
  have p03_13 := cell_later hb13 p03_12
  have p04_13 := cell_later hb13 p04_12
  have p05_13 := cell_later hb13 p05_12
  have p06_13 := cell_later hb13 p06_12
  have X00_13 := cell_later hb13 X00_12
  have X01_13 := cell_later hb13 X01_12
  have X02_13 := cell_later hb13 X02_12
  have X03_13 := cell_later hb13 X03_12
  have X04_13 := cell_later hb13 X04_12
  have X05_13 := cell_later hb13 X05_12
  have X06_13 := cell_later hb13 X06_12
  have oo_13 := Hid.mk (RInts.ownBelow oo_12.out hb13)
  have og_13 := Hid.mk (RInts.ownBelow og_12.out hb13)
  have B_13 := B_12.trans (hb13.mono B_12.size)
  have zz13 : w12.heap.size ≤ w13.heap.size := hb13.size
  clear p00_12 p01_12 p02_12 p03_12 p04_12 p05_12 p06_12 X00_12 X01_12 X02_12 X03_12 X04_12 X05_12 X06_12 oo_12 og_12 B_12
  clear hb13
  go_wp2_with fail
  refine (toSink_rep sa0_0 sn0_0 sc0_0 sa2_0 sn2_0 sc2_0 sa3_0 sn3_0 sc3_0 sa4_0 sn4_0 sc4_0 sz1_0 sz5_0 sz6_0 sx0_0 sx2_0 sx3_0 sx4_0 _ HZ0.out.1 sh0_0 HZ0.out.2.1 sh2_0 HZ0.out.2.2.1 sh3_0 HDD3_0.out HZ0.out.2.2.2 sh4_0 (At.below HA0.out.1 B_13) (At.below HA0.out.2.1 B_13) (AtSl.below HA0.out.2.2.1 B_13) (At.below HA0.out.2.2.2 B_13)).mono ?_
  rintro e w14 ⟨g14_0, g14_2, g14_3, g14_4, rfl, ho14, hb14⟩
  have oh0_14 := Hid.mk ho14
  clear ho14
  have p00_14 := cell_later hb14 p00_13
  have p01_14 := cell_later hb14 p01_13
  have p02_14 := cell_later hb14 p02_13
  have p03_14 := cell_later hb14 p03_13
  have p04_14 := cell_later hb14 p04_13
  have p05_14 := cell_later hb14 p05_13
  have p06_14 := cell_later hb14 p06_13
  have X00_14 := cell_later hb14 X00_13
  have X01_14 := cell_later hb14 X01_13
  have X02_14 := cell_later hb14 X02_13
  have X03_14 := cell_later hb14 X03_13
  have X04_14 := cell_later hb14 X04_13
  have X05_14 := cell_later hb14 X05_13
  have X06_14 := cell_later hb14 X06_13
  have oo_14 := Hid.mk (RInts.ownBelow oo_13.out hb14)
  have og_14 := Hid.mk (RInts.ownBelow og_13.out hb14)
  have B_14 := B_13.trans (hb14.mono B_13.size)
  have zz14 : w13.heap.size ≤ w14.heap.size := hb14.size
  clear p00_13 p01_13 p02_13 p03_13 p04_13 p05_13 p06_13 X00_13 X01_13 X02_13 X03_13 X04_13 X05_13 X06_13 oo_13 og_13 B_13
  clear hb14
  go_wp2_with fail
  refine (HI.out _ _ _ _ _ _ oh0_14.out).mono ?_
  rintro e w15 ⟨⟨r15, m15, d15, rfl, hm15, ho15⟩, hb15⟩
  clear oh0_14
  obtain rfl : na = m15 := HNA.out.symm.trans hm15
  have ohg_15 := Hid.mk (RInts.of_owns HNA.out (by omega) ho15)
  clear ho15 hm15
  have p00_15 := cell_later hb15 p00_14
  have p01_15 := cell_later hb15 p01_14
  have p02_15 := cell_later hb15 p02_14
  have p03_15 := cell_later hb15 p03_14
  have p04_15 := cell_later hb15 p04_14
  have p05_15 := cell_later hb15 p05_14
  have p06_15 := cell_later hb15 p06_14
  have X00_15 := cell_later hb15 X00_14
  have X01_15 := cell_later hb15 X01_14
  have X02_15 := cell_later hb15 X02_14
  have X03_15 := cell_later hb15 X03_14
  have X04_15 := cell_later hb15 X04_14
  have X05_15 := cell_later hb15 X05_14
  have X06_15 := cell_later hb15 X06_14
  have oo_15 := Hid.mk (RInts.ownBelow oo_14.out hb15)
  have og_15 := Hid.mk (RInts.ownBelow og_14.out hb15)
  have B_15 := B_14.trans (hb15.mono B_14.size)
  have zz15 : w14.heap.size ≤ w15.heap.size := hb15.size
  clear p00_14 p01_14 p02_14 p03_14 p04_14 p05_14 p06_14 X00_14 X01_14 X02_14 X03_14 X04_14 X05_14 X06_14 oo_14 og_14 B_14
  clear hb15
  go_wp2_with fail
  refine (eqIntS_same _ _ na _ _ ta _ HNA.out (by omega) (ints_at ohg_15.out) (ints_at oo_15.out)).mono ?_
  rintro e w16 ⟨rfl, hb16⟩
  have p00_16 := cell_later hb16 p00_15
  have p01_16 := cell_later hb16 p01_15
  have p02_16 := cell_later hb16 p02_15
  have p03_16 := cell_later hb16 p03_15
  have p04_16 := cell_later hb16 p04_15
  have p05_16 := cell_later hb16 p05_15
  have p06_16 := cell_later hb16 p06_15
  have X00_16 := cell_later hb16 X00_15
  have X01_16 := cell_later hb16 X01_15
  have X02_16 := cell_later hb16 X02_15
  have X03_16 := cell_later hb16 X03_15
  have X04_16 := cell_later hb16 X04_15
  have X05_16 := cell_later hb16 X05_15
  have X06_16 := cell_later hb16 X06_15
  have oo_16 := Hid.mk (RInts.ownBelow oo_15.out hb16)
  have og_16 := Hid.mk (RInts.ownBelow og_15.out hb16)
  have ohg_16 := Hid.mk (RInts.ownBelow ohg_15.out hb16)
  have B_16 := B_15.trans (hb16.mono B_15.size)
  have zz16 : w15.heap.size ≤ w16.heap.size := hb16.size
  clear p00_15 p01_15 p02_15 p03_15 p04_15 p05_15 p06_15 X00_15 X01_15 X02_15 X03_15 X04_15 X05_15 X06_15 oo_15 og_15 ohg_15 B_15
  clear hb16
  go_wp2_with fail
  refine (heldInts_rep _ na _ ta 1 _ HNA.out (by omega) (by omega) (by omega) (ints_at og_16.out)).mono ?_
  rintro e w17 ⟨rfl, hb17⟩
  have p00_17 := cell_later hb17 p00_16
  have p01_17 := cell_later hb17 p01_16
  have p02_17 := cell_later hb17 p02_16
  have p03_17 := cell_later hb17 p03_16
  have p04_17 := cell_later hb17 p04_16
  have p05_17 := cell_later hb17 p05_16
  have p06_17 := cell_later hb17 p06_16
  have X00_17 := cell_later hb17 X00_16
  have X01_17 := cell_later hb17 X01_16
  have X02_17 := cell_later hb17 X02_16
  have X03_17 := cell_later hb17 X03_16
  have X04_17 := cell_later hb17 X04_16
  have X05_17 := cell_later hb17 X05_16
  have X06_17 := cell_later hb17 X06_16
  have oo_17 := Hid.mk (RInts.ownBelow oo_16.out hb17)
  have og_17 := Hid.mk (RInts.ownBelow og_16.out hb17)
  have ohg_17 := Hid.mk (RInts.ownBelow ohg_16.out hb17)
  have B_17 := B_16.trans (hb17.mono B_16.size)
  have zz17 : w16.heap.size ≤ w17.heap.size := hb17.size
  clear p00_16 p01_16 p02_16 p03_16 p04_16 p05_16 p06_16 X00_16 X01_16 X02_16 X03_16 X04_16 X05_16 X06_16 oo_16 og_16 ohg_16 B_16
  clear hb17
  go_wp2
  go_ret
  exact ⟨rfl, B_17⟩

end Go.Proofs.Ytecaaekilbdgdaa
