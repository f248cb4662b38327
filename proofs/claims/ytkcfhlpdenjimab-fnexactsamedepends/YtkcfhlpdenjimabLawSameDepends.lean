/- The law FnExactSameDepends returns true at every input, and writes nothing that was there. -/
import Derived.Test.YtkcfhlpdenjimabSameD
import Derived.Test.YtkcfhlpdenjimabLawD6
namespace Go.Proofs.Ytkcfhlpdenjimab
open Go.RowKit

set_option maxRecDepth 100000 in
set_option maxHeartbeats 16000000 in
theorem lawSameDepends (a0 : Option Addr) (n0 c0 : Nat) (z0 : List Dep) (a1 : Option Addr) (n1 c1 : Nat) (z1 : List Dep) (a2 : Int) (w : World) (hz0 : z0.length = n0) (hn0 : n0 ≤ 9223372036854775807) (ha0 : AtD w a0 z0) (hz1 : z1.length = n1) (hn1 : n1 ≤ 9223372036854775807) (ha1 : AtD w a1 z1) (_w2 : (Lit.int .i64 a2).wf = true) :
    Calls Try.prog 3 #[.slice a0 n0 c0, .slice a1 n1 c1, .int .i64 a2] w fun e w' => e = .returned (.bool true) ∧ Below w.heap.size w w' := by
  have HA0 := Hid.mk ha0
  have HZ0 := Hid.mk hz0
  clear ha0 hz0
  have HA1 := Hid.mk ha1
  have HZ1 := Hid.mk hz1
  clear ha1 hz1
  have B0 : Below w.heap.size w w := Below.refl _ _
  obtain ⟨C0, hC0⟩ : ∃ C : Nat, n0 + dsum z0 n0 = C := ⟨_, rfl⟩
  have HC0 := Hid.mk hC0
  clear hC0
  obtain ⟨C1, hC1⟩ : ∃ C : Nat, n1 + dsum z1 n1 = C := ⟨_, rfl⟩
  have HC1 := Hid.mk hC1
  clear hC1
  by_cases big0 : (1048576 : Int) < (C0 : Int)
  · go_enter Try.func3, Try.ntmps3
    go_wp2_with fail
    refine (szDependS_any a0 n0 c0 z0 _ _ HZ0.out hn0 (by omega) (by omega) (AtSl.below HA0.out B0)).mono ?_
    rintro e v0 ⟨rfl, hv0⟩
    rw [HC0.out, leftOf_no big0]
    have y0 := B0.trans (hv0.mono B0.size)
    go_wp2
    go_ret
    exact ⟨rfl, y0⟩
  have hl0 : ¬ (1048576 : Int) - (C0 : Int) < 0 := by omega
  have HSM0 : Hid (SmD z0 n0) := ⟨HZ0.out, by have := HC0.out; omega⟩
  have hsn0 : n0 ≤ 1048576 := HSM0.out.n
  have HVB0 := HSM0.out.sum
  by_cases big1 : (1048576 : Int) - (C0 : Int) < (C1 : Int)
  · go_enter Try.func3, Try.ntmps3
    go_wp2_with fail
    refine (szDependS_any a0 n0 c0 z0 _ _ HZ0.out hn0 (by omega) (by omega) (AtSl.below HA0.out B0)).mono ?_
    rintro e v0 ⟨rfl, hv0⟩
    rw [HC0.out, leftOf_yes (by omega)]
    have y0 := B0.trans (hv0.mono B0.size)
    go_wp2_with fail
    refine (szDependS_any a1 n1 c1 z1 _ _ HZ1.out hn1 (by omega) (by omega) (AtSl.below HA1.out y0)).mono ?_
    rintro e v1 ⟨rfl, hv1⟩
    rw [HC1.out, leftOf_no big1]
    have y1 := y0.trans (hv1.mono y0.size)
    go_wp2
    go_ret
    exact ⟨rfl, y1⟩
  have hl1 : ¬ (1048576 : Int) - (C0 : Int) - (C1 : Int) < 0 := by omega
  have HSM1 : Hid (SmD z1 n1) := ⟨HZ1.out, by have := HC1.out; omega⟩
  have hsn1 : n1 ≤ 1048576 := HSM1.out.n
  have HVB1 := HSM1.out.sum
  obtain ⟨V0, hV0⟩ : ∃ V : Nat, dsum z0 n0 = V := ⟨_, rfl⟩
  rw [hV0] at HVB0
  have HV0 := Hid.mk hV0
  clear hV0
  obtain ⟨V1, hV1⟩ : ∃ V : Nat, dsum z1 n1 = V := ⟨_, rfl⟩
  rw [hV1] at HVB1
  have HV1 := Hid.mk hV1
  clear hV1
  obtain ⟨b1, b2, HS, HI⟩ : ∃ (b1 b2 : Bool), Hid (∀ (x0 : Nat) (x1 : Nat) (w : World) (F0 F1 : Nat → Prop), RDeps.Own w F0 [.slice (some ⟨x0, 0, none⟩) n0 n0] z0 → RDeps.Own w F1 [.slice (some ⟨x1, 0, none⟩) n1 n1] z1 → Calls Try.prog 5 #[.slice (some ⟨x0, 0, none⟩) n0 n0, .slice (some ⟨x1, 0, none⟩) n1 n1, .int .i64 a2] w fun e w' => e = .returned (.tuple #[.bool b1, .bool b2]) ∧ Below w.heap.size w w') ∧ Hid (∀ (x0 : Nat) (x1 : Nat) (w : World) (F0 F1 : Nat → Prop), RDeps.Own w F0 [.slice (some ⟨x0, 0, none⟩) n0 n0] z0 → RDeps.Own w F1 [.slice (some ⟨x1, 0, none⟩) n1 n1] z1 → Calls Try.prog 7 #[.slice (some ⟨x0, 0, none⟩) n0 n0, .slice (some ⟨x1, 0, none⟩) n1 n1, .int .i64 a2] w fun e w' => e = .returned (.tuple #[.bool b1, .bool b2]) ∧ Below w.heap.size w w') := ⟨sameB z0 z1 a2 && sameV z0 z1, sameB z0 z1 a2, fun x0 x1 w F0 F1 o0 o1 => specSameDepends (some ⟨x0, 0, none⟩) n0 n0 z0 (some ⟨x1, 0, none⟩) n1 n1 z1 a2 w HZ0.out hsn0 (deps_at o0) HZ1.out hsn1 (deps_at o1), fun x0 x1 w F0 F1 o0 o1 => implSameDepends (some ⟨x0, 0, none⟩) n0 n0 z0 (some ⟨x1, 0, none⟩) n1 n1 z1 a2 w HZ0.out hsn0 (deps_at o0) HZ1.out hsn1 (deps_at o1)⟩
  go_enter Try.func3, Try.ntmps3
  go_wp2_with fail
  refine (szDependS_any a0 n0 c0 z0 _ _ HZ0.out hn0 (by omega) (by omega) (AtSl.below HA0.out B0)).mono ?_
  rintro e w1 ⟨rfl, hb1⟩
  rw [HC0.out, leftOf_yes (by omega)]
  have B_1 := B0.trans (hb1.mono B0.size)
  have zz1 : w.heap.size ≤ w1.heap.size := hb1.size
  clear hb1
  go_wp2_with fail
  refine (szDependS_any a1 n1 c1 z1 _ _ HZ1.out hn1 (by omega) (by omega) (AtSl.below HA1.out B_1)).mono ?_
  rintro e w2 ⟨rfl, hb2⟩
  rw [HC1.out, leftOf_yes (by omega)]
  have B_2 := B_1.trans (hb2.mono B_1.size)
  have zz2 : w1.heap.size ≤ w2.heap.size := hb2.size
  clear B_1
  clear hb2
  go_wp2_with fail
  refine (toDependSG a0 n0 c0 z0 _ HSM0.out (AtSl.below HA0.out B_2)).mono ?_
  rintro e w3 ⟨g3, rfl, ho3, hb3⟩
  have ot0_3 := Hid.mk ho3
  clear ho3
  have B_3 := B_2.trans (hb3.mono B_2.size)
  have zz3 : w2.heap.size ≤ w3.heap.size := hb3.size
  clear B_2
  clear hb3
  go_wp2_with fail
  refine (toDependSG a1 n1 c1 z1 _ HSM1.out (AtSl.below HA1.out B_3)).mono ?_
  rintro e w4 ⟨g4, rfl, ho4, hb4⟩
  have ot1_4 := Hid.mk ho4
  clear ho4
  have ot0_4 := Hid.mk (RDeps.ownBelow ot0_3.out hb4)
  have B_4 := B_3.trans (hb4.mono B_3.size)
  have zz4 : w3.heap.size ≤ w4.heap.size := hb4.size
  clear ot0_3 B_3
  clear hb4
  go_wp2_with fail
  refine (HS.out _ _ _ _ _ ot0_4.out ot1_4.out).mono ?_
  rintro e w5 ⟨rfl, hb5⟩
  clear ot0_4
  clear ot1_4
  have B_5 := B_4.trans (hb5.mono B_4.size)
  have zz5 : w4.heap.size ≤ w5.heap.size := hb5.size
  clear B_4
  clear hb5
  go_wp2_with fail
  refine (toDependSG a0 n0 c0 z0 _ HSM0.out (AtSl.below HA0.out B_5)).mono ?_
  rintro e w6 ⟨g6, rfl, ho6, hb6⟩
  have ox0_6 := Hid.mk ho6
  clear ho6
  have B_6 := B_5.trans (hb6.mono B_5.size)
  have zz6 : w5.heap.size ≤ w6.heap.size := hb6.size
  clear B_5
  clear hb6
  go_wp2_with fail
  refine (toDependSG a1 n1 c1 z1 _ HSM1.out (AtSl.below HA1.out B_6)).mono ?_
  rintro e w7 ⟨g7, rfl, ho7, hb7⟩
  have ox1_7 := Hid.mk ho7
  clear ho7
  have ox0_7 := Hid.mk (RDeps.ownBelow ox0_6.out hb7)
  have B_7 := B_6.trans (hb7.mono B_6.size)
  have zz7 : w6.heap.size ≤ w7.heap.size := hb7.size
  clear ox0_6 B_6
  clear hb7
  go_wp2_with fail
  refine (HI.out _ _ _ _ _ ox0_7.out ox1_7.out).mono ?_
  rintro e w8 ⟨rfl, hb8⟩
  have ox0_8 := Hid.mk (RDeps.ownBelow ox0_7.out hb8)
  have ox1_8 := Hid.mk (RDeps.ownBelow ox1_7.out hb8)
  have B_8 := B_7.trans (hb8.mono B_7.size)
  have zz8 : w7.heap.size ≤ w8.heap.size := hb8.size
  clear ox0_7 ox1_7 B_7
  clear hb8
  go_wp2_with fail
  refine (toDependSG a0 n0 c0 z0 _ HSM0.out (AtSl.below HA0.out B_8)).mono ?_
  rintro e w9 ⟨g9, rfl, ho9, hb9⟩
  have oy_9 := Hid.mk ho9
  clear ho9
  have ox0_9 := Hid.mk (RDeps.ownBelow ox0_8.out hb9)
  have ox1_9 := Hid.mk (RDeps.ownBelow ox1_8.out hb9)
  have B_9 := B_8.trans (hb9.mono B_8.size)
  have zz9 : w8.heap.size ≤ w9.heap.size := hb9.size
  clear ox0_8 ox1_8 B_8
  clear hb9
  go_wp2_with fail
  refine (eqDependSG _ _ n0 _ _ z0 _ HSM0.out (OwnD.atD0 ox0_9.out) (OwnD.atD0 oy_9.out)).mono ?_
  rintro e w10 ⟨rfl, hb10⟩
  clear oy_9
  have ox0_10 := Hid.mk (RDeps.ownBelow ox0_9.out hb10)
  have ox1_10 := Hid.mk (RDeps.ownBelow ox1_9.out hb10)
  have B_10 := B_9.trans (hb10.mono B_9.size)
  have zz10 : w9.heap.size ≤ w10.heap.size := hb10.size
  clear ox0_9 ox1_9 B_9
  clear hb10
  go_wp2_with fail
  refine (toDependSG a1 n1 c1 z1 _ HSM1.out (AtSl.below HA1.out B_10)).mono ?_
  rintro e w11 ⟨g11, rfl, ho11, hb11⟩
  have oy_11 := Hid.mk ho11
  clear ho11
  have ox0_11 := Hid.mk (RDeps.ownBelow ox0_10.out hb11)
  have ox1_11 := Hid.mk (RDeps.ownBelow ox1_10.out hb11)
  have B_11 := B_10.trans (hb11.mono B_10.size)
  have zz11 : w10.heap.size ≤ w11.heap.size := hb11.size
  clear ox0_10 ox1_10 B_10
  clear hb11
  go_wp2_with fail
  refine (eqDependSG _ _ n1 _ _ z1 _ HSM1.out (OwnD.atD0 ox1_11.out) (OwnD.atD0 oy_11.out)).mono ?_
  rintro e w12 ⟨rfl, hb12⟩
  clear oy_11
  have ox0_12 := Hid.mk (RDeps.ownBelow ox0_11.out hb12)
  have ox1_12 := Hid.mk (RDeps.ownBelow ox1_11.out hb12)
  have B_12 := B_11.trans (hb12.mono B_11.size)
  have zz12 : w11.heap.size ≤ w12.heap.size := hb12.size
  clear ox0_11 ox1_11 B_11
  clear hb12
  go_wp2
  go_ret
  exact ⟨rfl, B_12⟩

end Go.Proofs.Ytkcfhlpdenjimab
