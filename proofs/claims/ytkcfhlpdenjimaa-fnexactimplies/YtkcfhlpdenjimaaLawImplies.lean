/- The law FnExactImplies returns true at every input, and writes nothing that was there. -/
import Derived.Test.YtkcfhlpdenjimaaCloU
import Derived.Test.YtkcfhlpdenjimaaLawD6
namespace Go.Proofs.Ytkcfhlpdenjimaa
open Go.RowKit

set_option maxRecDepth 100000 in
set_option maxHeartbeats 16000000 in
theorem lawImplies (a0 : Option Addr) (n0 c0 : Nat) (z0 : List Dep) (a1 : Int) (fa2 : Option Addr) (fn2 fc2 : Nat) (ta2 : Option Addr) (tn2 tc2 : Nat) (z2 : Dep) (w : World) (hz0 : z0.length = n0) (hn0 : n0 ≤ 9223372036854775807) (ha0 : AtD w a0 z0) (_w1 : (Lit.int .i64 a1).wf = true) (ha2 : RDep.At w [.slice fa2 fn2 fc2, .slice ta2 tn2 tc2] z2) :
    Calls Try.prog 4 #[.slice a0 n0 c0, .int .i64 a1, .agg #[.slice fa2 fn2 fc2, .slice ta2 tn2 tc2]] w fun e w' => e = .returned (.bool true) ∧ Below w.heap.size w w' := by
  have HA0 := Hid.mk ha0
  have HZ0 := Hid.mk hz0
  clear ha0 hz0
  obtain ⟨zf2, zt2⟩ := z2
  obtain ⟨⟨h12, h22, h32, _⟩, ⟨k12, k22, k32, _⟩⟩ := RDep.at_iff ha2
  have HA2 := Hid.mk (And.intro h32 k32)
  have HZ2 : Hid (zf2.length = fn2 ∧ zt2.length = tn2) := ⟨h12, k12⟩
  clear ha2 h12 h32 k12 k32
  obtain ⟨W, hW⟩ : ∃ W, W = w.alloc (.cells #[.slice fa2 fn2 fc2, .slice ta2 tn2 tc2] 31) := ⟨_, rfl⟩
  have B0 : Below w.heap.size w W := by rw [hW]; exact (Below.refl _ _).alloc (Nat.le_refl _) _
  have zW : w.heap.size < W.heap.size := by rw [hW]; simp
  have p20_0 : W.cell? ⟨w.heap.size, 0, none⟩ = some (.slice fa2 fn2 fc2) := by rw [hW]; simp
  have p21_0 : W.cell? ⟨w.heap.size, 1, none⟩ = some (.slice ta2 tn2 tc2) := by rw [hW]; simp
  obtain ⟨C0, hC0⟩ : ∃ C : Nat, n0 + dsum z0 n0 = C := ⟨_, rfl⟩
  have HC0 := Hid.mk hC0
  clear hC0
  obtain ⟨C2, hC2⟩ : ∃ C : Nat, dcost (zf2, zt2) = C := ⟨_, rfl⟩
  have HC2 := Hid.mk hC2
  clear hC2
  by_cases big0 : (1048576 : Int) < (C0 : Int)
  · go_enter Try.func4, Try.ntmps4
    go_wp2_with fail
    rw [← hW]
    clear hW
    refine (szDependS_any a0 n0 c0 z0 _ _ HZ0.out hn0 (by omega) (by omega) (AtSl.below HA0.out B0)).mono ?_
    rintro e v0 ⟨rfl, hv0⟩
    rw [HC0.out, leftOf_no big0]
    have y0 := B0.trans (hv0.mono B0.size)
    go_wp2
    go_ret
    exact ⟨rfl, y0⟩
  have hl0 : ¬ (1048576 : Int) - (C0 : Int) < 0 := by omega
  have HSM0 : Hid (SmD z0 n0) := ⟨HZ0.out, by have := HC0.out; omega⟩
  have hsn0 : n0 ≤ 1048576 := HSM0.out.n
  have HVB0 := HSM0.out.sum
  by_cases big2 : (1048576 : Int) - (C0 : Int) < (C2 : Int)
  · go_enter Try.func4, Try.ntmps4
    go_wp2_with fail
    rw [← hW]
    clear hW
    refine (szDependS_any a0 n0 c0 z0 _ _ HZ0.out hn0 (by omega) (by omega) (AtSl.below HA0.out B0)).mono ?_
    rintro e v0 ⟨rfl, hv0⟩
    rw [HC0.out, leftOf_yes (by omega)]
    have y0 := B0.trans (hv0.mono B0.size)
    have qp20_0 := cell_later hv0 p20_0
    have qp21_0 := cell_later hv0 p21_0
    go_wp2_with fail
    refine (szDepend_any fa2 fn2 fc2 ta2 tn2 tc2 zf2 zt2 _ _ HZ2.out.1 h22 HZ2.out.2 k22 (by omega) (by omega)).mono ?_
    rintro e v1 ⟨rfl, hv1⟩
    rw [HC2.out, leftOf_no big2]
    have y1 := y0.trans (hv1.mono y0.size)
    go_wp2
    go_ret
    exact ⟨rfl, y1⟩
  have hl2 : ¬ (1048576 : Int) - (C0 : Int) - (C2 : Int) < 0 := by omega
  have HSM2 : fn2 ≤ 1048576 ∧ tn2 ≤ 1048576 ∧ dcost (zf2, zt2) ≤ 1048576 := by
    have q := HC2.out
    have q1 := HZ2.out
    have q2 : dcost (zf2, zt2) = zf2.length + zt2.length := rfl
    refine ⟨?_, ?_, ?_⟩ <;> omega
  have hs12 := HSM2.1
  have hs22 := HSM2.2.1
  have HVB2 := HSM2.2.2
  obtain ⟨V0, hV0⟩ : ∃ V : Nat, dsum z0 n0 = V := ⟨_, rfl⟩
  rw [hV0] at HVB0
  have HV0 := Hid.mk hV0
  clear hV0
  obtain ⟨V2, hV2⟩ : ∃ V : Nat, dcost (zf2, zt2) = V := ⟨_, rfl⟩
  rw [hV2] at HVB2
  have HV2 := Hid.mk hV2
  clear hV2
  obtain ⟨b1, b2, HS, HI⟩ : ∃ (b1 b2 : Bool), Hid (∀ (x0 : Nat) (x2 y2 : Nat) (w : World) (F0 F2 : Nat → Prop), RDeps.Own w F0 [.slice (some ⟨x0, 0, none⟩) n0 n0] z0 → RDep.Own w F2 [.slice (some ⟨x2, 0, none⟩) fn2 fn2, .slice (some ⟨y2, 0, none⟩) tn2 tn2] (zf2, zt2) → Calls Try.prog 11 #[.slice (some ⟨x0, 0, none⟩) n0 n0, .int .i64 a1, .agg #[.slice (some ⟨x2, 0, none⟩) fn2 fn2, .slice (some ⟨y2, 0, none⟩) tn2 tn2]] w fun e w' => e = .returned (.tuple #[.bool b1, .bool b2]) ∧ Below w.heap.size w w') ∧ Hid (∀ (x0 : Nat) (x2 y2 : Nat) (w : World) (F0 F2 : Nat → Prop), RDeps.Own w F0 [.slice (some ⟨x0, 0, none⟩) n0 n0] z0 → RDep.Own w F2 [.slice (some ⟨x2, 0, none⟩) fn2 fn2, .slice (some ⟨y2, 0, none⟩) tn2 tn2] (zf2, zt2) → Calls Try.prog 13 #[.slice (some ⟨x0, 0, none⟩) n0 n0, .int .i64 a1, .agg #[.slice (some ⟨x2, 0, none⟩) fn2 fn2, .slice (some ⟨y2, 0, none⟩) tn2 tn2]] w fun e w' => e = .returned (.tuple #[.bool b1, .bool b2]) ∧ Below w.heap.size w w') := ⟨impB z0 a1 (zf2, zt2) && impV z0 (zf2, zt2), impB z0 a1 (zf2, zt2), fun x0 x2 y2 w F0 F2 o0 o2 => specImplies (some ⟨x0, 0, none⟩) n0 n0 z0 a1 (some ⟨x2, 0, none⟩) fn2 fn2 (some ⟨y2, 0, none⟩) tn2 tn2 (zf2, zt2) w HZ0.out hsn0 (deps_at o0) (RDep.toAt o2), fun x0 x2 y2 w F0 F2 o0 o2 => implImplies (some ⟨x0, 0, none⟩) n0 n0 z0 a1 (some ⟨x2, 0, none⟩) fn2 fn2 (some ⟨y2, 0, none⟩) tn2 tn2 (zf2, zt2) w HZ0.out hsn0 (deps_at o0) (RDep.toAt o2)⟩
  go_enter Try.func4, Try.ntmps4
  go_wp2_with fail
  rw [← hW]
  clear hW
  refine (szDependS_any a0 n0 c0 z0 _ _ HZ0.out hn0 (by omega) (by omega) (AtSl.below HA0.out B0)).mono ?_
  rintro e w1 ⟨rfl, hb1⟩
  rw [HC0.out, leftOf_yes (by omega)]
  have p20_1 := cell_later hb1 p20_0
  have p21_1 := cell_later hb1 p21_0
  have B_1 := B0.trans (hb1.mono B0.size)
  have zz1 : W.heap.size ≤ w1.heap.size := hb1.size
  clear p20_0 p21_0
  clear hb1
  go_wp2_with fail
  refine (szDepend_any fa2 fn2 fc2 ta2 tn2 tc2 zf2 zt2 _ _ HZ2.out.1 h22 HZ2.out.2 k22 (by omega) (by omega)).mono ?_
  rintro e w2 ⟨rfl, hb2⟩
  rw [HC2.out, leftOf_yes (by omega)]
  have p20_2 := cell_later hb2 p20_1
  have p21_2 := cell_later hb2 p21_1
  have B_2 := B_1.trans (hb2.mono B_1.size)
  have zz2 : w1.heap.size ≤ w2.heap.size := hb2.size
  clear p20_1 p21_1 B_1
  clear hb2
  go_wp2_with fail
  refine wp_region_held_drew (S := fun w' => w'.cell? ⟨w.heap.size, 0, none⟩ = some (.slice fa2 fn2 fc2) ∧ w'.cell? ⟨w.heap.size, 1, none⟩ = some (.slice ta2 tn2 tc2)) (by kernel_rfl) ?_ (fun hHeld => ?_)
  · (try dsimp only)
    exact ⟨p20_2, p21_2⟩
  refine wpAnyH_take (i := 0) (oi := ?_) (v := ?_) ?_ (by kernel_rfl) (by kernel_rfl) (by kernel_rfl) ?_ (Or.inl ⟨?_, ?_⟩) (by assumption) ?_
  rotate_left 2
  · (simp only [List.getElem?_toArray, List.getElem?_cons_zero]; rfl)
  · exact fun _ _ _ h => h
  · rfl
  · (intro wS hSw; (try dsimp only at hSw); go_simp; (try with_reducible rfl))
  (try simp only [Act.put, List.setIfInBounds_toArray, List.set_cons_zero, List.set_cons_succ])
  refine wpAnyH_take (i := 2) (oi := ?_) (v := ?_) ?_ (by kernel_rfl) (by kernel_rfl) (by kernel_rfl) ?_ (Or.inl ⟨?_, ?_⟩) (by assumption) ?_
  rotate_left 2
  · (simp only [List.getElem?_toArray, List.getElem?_cons_zero, List.getElem?_cons_succ]; rfl)
  · exact fun _ _ _ h => h
  · rfl
  · (intro wS hSw; (try dsimp only at hSw); go_simp; (try with_reducible rfl))
  (try simp only [Act.put, List.setIfInBounds_toArray, List.set_cons_zero, List.set_cons_succ])
  refine wpAnyH_take (i := 3) (oi := ?_) (v := ?_) ?_ (by kernel_rfl) (by kernel_rfl) (by kernel_rfl) ?_ (Or.inl ⟨?_, ?_⟩) (by assumption) ?_
  rotate_left 2
  · (simp only [List.getElem?_toArray, List.getElem?_cons_zero, List.getElem?_cons_succ]; rfl)
  · exact fun _ _ _ h => h
  · rfl
  · (intro wS hSw; (try dsimp only at hSw); go_simp; (try with_reducible rfl))
  (try simp only [Act.put, List.setIfInBounds_toArray, List.set_cons_zero, List.set_cons_succ])
  refine wpAnyH_ready (rs := [1]) (by kernel_rfl) (by simp) ?_
  refine AllReadyH.cons (o := ?_) ?_ (fun K hK => ?_) AllReadyH.nil
  rotate_left
  · (simp only [List.getElem?_toArray, List.getElem?_cons_zero, List.getElem?_cons_succ]; rfl)
  go_simp
  go_at_call 7
  refine (toDependSG a0 n0 c0 z0 _ HSM0.out (AtSl.below HA0.out B_2.drew)).mono ?_
  rintro e w3 ⟨g3, rfl, ho3, hd3⟩
  have hb3 : Below w2.heap.size w2 w3 := (Below.refl _ _).drew.trans hd3
  clear hd3
  have ot0_3 := Hid.mk ho3
  clear ho3
  have p20_3 := cell_later hb3 p20_2
  have p21_3 := cell_later hb3 p21_2
  have B_3 := B_2.trans (hb3.mono B_2.size)
  have zz3 : w2.heap.size ≤ w3.heap.size := hb3.size
  clear p20_2 p21_2 B_2
  clear hb3
  (try go_wp2_with fail)
  refine hK.out _ _ ?_ (fun hHeld' => ?_)
  · (try dsimp only)
    exact ⟨p20_3, p21_3⟩
  clear hK K hHeld
  have hHeld := hHeld'
  clear hHeld'
  (try simp only [Act.put, List.setIfInBounds_toArray, List.set_cons_zero, List.set_cons_succ])
  refine wpAnyH_ready (rs := [4]) (by kernel_rfl) (by simp) ?_
  refine AllReadyH.cons (o := ?_) ?_ (fun K hK => ?_) AllReadyH.nil
  rotate_left
  · (simp only [List.getElem?_toArray, List.getElem?_cons_zero, List.getElem?_cons_succ]; rfl)
  go_simp
  go_at_call 12
  refine (toDepend_any fa2 fn2 fc2 ta2 tn2 tc2 zf2 zt2 _ HZ2.out.1 HZ2.out.2 hs12 hs22 (At.below HA2.out.1 B_3) (At.below HA2.out.2 B_3)).mono ?_
  rintro e w4 ⟨g4_1, g4_2, rfl, ho4, hb4⟩
  have ot2_4 := Hid.mk ho4
  clear ho4
  have p20_4 := cell_later hb4 p20_3
  have p21_4 := cell_later hb4 p21_3
  have ot0_4 := Hid.mk (RDeps.ownBelow ot0_3.out hb4)
  have B_4 := B_3.trans (hb4.mono B_3.size)
  have zz4 : w3.heap.size ≤ w4.heap.size := hb4.size
  clear p20_3 p21_3 ot0_3 B_3
  clear hb4
  (try go_wp2_with fail)
  refine hK.out _ _ ?_ (fun hHeld' => ?_)
  · (try dsimp only)
    exact ⟨p20_4, p21_4⟩
  clear hK K hHeld
  have hHeld := hHeld'
  clear hHeld'
  (try simp only [Act.put, List.setIfInBounds_toArray, List.set_cons_zero, List.set_cons_succ])
  refine wpAnyH_ready (rs := [5]) (by kernel_rfl) (by simp) ?_
  refine AllReadyH.cons (o := ?_) ?_ (fun K hK => ?_) AllReadyH.nil
  rotate_left
  · (simp only [List.getElem?_toArray, List.getElem?_cons_zero, List.getElem?_cons_succ]; rfl)
  go_simp
  go_at_call 11
  refine (HS.out _ _ _ _ _ _ ot0_4.out ot2_4.out).mono ?_
  rintro e w5 ⟨rfl, hb5⟩
  clear ot0_4
  clear ot2_4
  have p20_5 := cell_later hb5 p20_4
  have p21_5 := cell_later hb5 p21_4
  have B_5 := B_4.trans (hb5.mono B_4.size)
  have zz5 : w4.heap.size ≤ w5.heap.size := hb5.size
  clear p20_4 p21_4 B_4
  clear hb5
  (try go_wp2_with fail)
  refine hK.out _ _ ?_ (fun hHeld' => ?_)
  · (try dsimp only)
    exact ⟨p20_5, p21_5⟩
  clear hK K hHeld
  have hHeld := hHeld'
  clear hHeld'
  (try simp only [Act.put, List.setIfInBounds_toArray, List.set_cons_zero, List.set_cons_succ])
  refine wpAnyH_take (i := 6) (oi := ?_) (v := ?_) ?_ (by kernel_rfl) (by kernel_rfl) (by kernel_rfl) ?_ (Or.inl ⟨?_, ?_⟩) (by assumption) ?_
  rotate_left 2
  · (simp only [List.getElem?_toArray, List.getElem?_cons_zero, List.getElem?_cons_succ]; rfl)
  · exact fun _ _ _ h => h
  · rfl
  · (intro wS hSw; (try dsimp only at hSw); go_simp; (try with_reducible rfl))
  (try simp only [Act.put, List.setIfInBounds_toArray, List.set_cons_zero, List.set_cons_succ])
  refine wpAnyH_take (i := 7) (oi := ?_) (v := ?_) ?_ (by kernel_rfl) (by kernel_rfl) (by kernel_rfl) ?_ (Or.inl ⟨?_, ?_⟩) (by assumption) ?_
  rotate_left 2
  · (simp only [List.getElem?_toArray, List.getElem?_cons_zero, List.getElem?_cons_succ]; rfl)
  · exact fun _ _ _ h => h
  · rfl
  · (intro wS hSw; (try dsimp only at hSw); go_simp; (try with_reducible rfl))
  (try simp only [Act.put, List.setIfInBounds_toArray, List.set_cons_zero, List.set_cons_succ])
  refine wpAnyH_take (i := 8) (oi := ?_) (v := ?_) ?_ (by kernel_rfl) (by kernel_rfl) (by kernel_rfl) ?_ (Or.inl ⟨?_, ?_⟩) (by assumption) ?_
  rotate_left 2
  · (simp only [List.getElem?_toArray, List.getElem?_cons_zero, List.getElem?_cons_succ]; rfl)
  · exact fun _ _ _ h => h
  · rfl
  · (intro wS hSw; (try dsimp only at hSw); go_simp; (try with_reducible rfl))
  (try simp only [Act.put, List.setIfInBounds_toArray, List.set_cons_zero, List.set_cons_succ])
  refine wpAnyH_take (i := 9) (oi := ?_) (v := ?_) ?_ (by kernel_rfl) (by kernel_rfl) (by kernel_rfl) ?_ (Or.inl ⟨?_, ?_⟩) (by assumption) ?_
  rotate_left 2
  · (simp only [List.getElem?_toArray, List.getElem?_cons_zero, List.getElem?_cons_succ]; rfl)
  · exact fun _ _ _ h => h
  · rfl
  · (intro wS hSw; (try dsimp only at hSw); go_simp; (try with_reducible rfl))
  (try simp only [Act.put, List.setIfInBounds_toArray, List.set_cons_zero, List.set_cons_succ])
  refine wpAnyH_take (i := 10) (oi := ?_) (v := ?_) ?_ (by kernel_rfl) (by kernel_rfl) (by kernel_rfl) ?_ (Or.inl ⟨?_, ?_⟩) (by assumption) ?_
  rotate_left 2
  · (simp only [List.getElem?_toArray, List.getElem?_cons_zero, List.getElem?_cons_succ]; rfl)
  · exact fun _ _ _ h => h
  · rfl
  · (intro wS hSw; (try dsimp only at hSw); go_simp; (try with_reducible rfl))
  (try simp only [Act.put, List.setIfInBounds_toArray, List.set_cons_zero, List.set_cons_succ])
  refine wpAnyH_done (by kernel_rfl) ?_ _
  clear hHeld
  go_wp2_with fail
  refine (toDependSG a0 n0 c0 z0 _ HSM0.out (AtSl.below HA0.out B_5)).mono ?_
  rintro e w6 ⟨g6, rfl, ho6, hb6⟩
  have ox0_6 := Hid.mk ho6
  clear ho6
  have p20_6 := cell_later hb6 p20_5
  have p21_6 := cell_later hb6 p21_5
  have B_6 := B_5.trans (hb6.mono B_5.size)
  have zz6 : w5.heap.size ≤ w6.heap.size := hb6.size
  clear p20_5 p21_5 B_5
  clear hb6
  go_wp2_with fail
  refine (toDepend_any fa2 fn2 fc2 ta2 tn2 tc2 zf2 zt2 _ HZ2.out.1 HZ2.out.2 hs12 hs22 (At.below HA2.out.1 B_6) (At.below HA2.out.2 B_6)).mono ?_
  rintro e w7 ⟨g7_1, g7_2, rfl, ho7, hb7⟩
  have ox2_7 := Hid.mk ho7
  clear ho7
  have p20_7 := cell_later hb7 p20_6
  have p21_7 := cell_later hb7 p21_6
  have ox0_7 := Hid.mk (RDeps.ownBelow ox0_6.out hb7)
  have B_7 := B_6.trans (hb7.mono B_6.size)
  have zz7 : w6.heap.size ≤ w7.heap.size := hb7.size
  clear p20_6 p21_6 ox0_6 B_6
  clear hb7
  obtain ⟨w8, hU8⟩ : ∃ u, u = w7.alloc (.cells #[.slice (some ⟨g7_1, 0, none⟩) fn2 fn2, .slice (some ⟨g7_2, 0, none⟩) tn2 tn2] 35) := ⟨_, rfl⟩
  have hb8 : Below w7.heap.size w7 w8 := by rw [hU8]; exact (Below.refl _ _).alloc (Nat.le_refl _) _
  have zl8 : w7.heap.size < w8.heap.size := by rw [hU8]; simp
  have nX20 : w8.cell? ⟨w7.heap.size, 0, none⟩ = some (.slice (some ⟨g7_1, 0, none⟩) fn2 fn2) := by rw [hU8]; simp
  have nX21 : w8.cell? ⟨w7.heap.size, 1, none⟩ = some (.slice (some ⟨g7_2, 0, none⟩) tn2 tn2) := by rw [hU8]; simp
  have p20_8 := cell_later hb8 p20_7
  have p21_8 := cell_later hb8 p21_7
  have ox0_8 := Hid.mk (RDeps.ownBelow ox0_7.out hb8)
  have ox2_8 := Hid.mk (RDep.ownBelow ox2_7.out hb8)
  have B_8 := B_7.trans (hb8.mono B_7.size)
  have zz8 : w7.heap.size ≤ w8.heap.size := hb8.size
  clear p20_7 p21_7 ox0_7 ox2_7 B_7
  clear hb8
  go_wp2_with fail
  rw [← hU8]
  clear hU8
  refine (HI.out _ _ _ _ _ _ ox0_8.out ox2_8.out).mono ?_
  rintro e w9 ⟨rfl, hb9⟩
  have p20_9 := cell_later hb9 p20_8
  have p21_9 := cell_later hb9 p21_8
  have X20_9 := cell_later hb9 nX20
  have X21_9 := cell_later hb9 nX21
  have ox0_9 := Hid.mk (RDeps.ownBelow ox0_8.out hb9)
  have ox2_9 := Hid.mk (RDep.ownBelow ox2_8.out hb9)
  have B_9 := B_8.trans (hb9.mono B_8.size)
  have zz9 : w8.heap.size ≤ w9.heap.size := hb9.size
  clear p20_8 p21_8 nX20 nX21 ox0_8 ox2_8 B_8
  clear hb9
  go_wp2_with fail
  refine (toDependSG a0 n0 c0 z0 _ HSM0.out (AtSl.below HA0.out B_9)).mono ?_
  rintro e w10 ⟨g10, rfl, ho10, hb10⟩
  have oy_10 := Hid.mk ho10
  clear ho10
  have p20_10 := cell_later hb10 p20_9
  have p21_10 := cell_later hb10 p21_9
  have X20_10 := cell_later hb10 X20_9
  have X21_10 := cell_later hb10 X21_9
  have ox0_10 := Hid.mk (RDeps.ownBelow ox0_9.out hb10)
  have ox2_10 := Hid.mk (RDep.ownBelow ox2_9.out hb10)
  have B_10 := B_9.trans (hb10.mono B_9.size)
  have zz10 : w9.heap.size ≤ w10.heap.size := hb10.size
  clear p20_9 p21_9 X20_9 X21_9 ox0_9 ox2_9 B_9
  clear hb10
  go_wp2_with fail
  refine (eqDependSG _ _ n0 _ _ z0 _ HSM0.out (OwnD.atD0 ox0_10.out) (OwnD.atD0 oy_10.out)).mono ?_
  rintro e w11 ⟨rfl, hb11⟩
  clear oy_10
  have p20_11 := cell_later hb11 p20_10
  have p21_11 := cell_later hb11 p21_10
  have X20_11 := cell_later hb11 X20_10
  have X21_11 := cell_later hb11 X21_10
  have ox0_11 := Hid.mk (RDeps.ownBelow ox0_10.out hb11)
  have ox2_11 := Hid.mk (RDep.ownBelow ox2_10.out hb11)
  have B_11 := B_10.trans (hb11.mono B_10.size)
  have zz11 : w10.heap.size ≤ w11.heap.size := hb11.size
  clear p20_10 p21_10 X20_10 X21_10 ox0_10 ox2_10 B_10
  clear hb11
  go_wp2_with fail
  refine wp_region_held_drew (S := fun w' => w'.cell? ⟨w7.heap.size, 0, none⟩ = some (.slice (some ⟨g7_1, 0, none⟩) fn2 fn2) ∧ w'.cell? ⟨w7.heap.size, 1, none⟩ = some (.slice (some ⟨g7_2, 0, none⟩) tn2 tn2) ∧ w'.cell? ⟨w.heap.size, 0, none⟩ = some (.slice fa2 fn2 fc2) ∧ w'.cell? ⟨w.heap.size, 1, none⟩ = some (.slice ta2 tn2 tc2)) (by kernel_rfl) ?_ (fun hHeld => ?_)
  · (try dsimp only)
    exact ⟨X20_11, X21_11, p20_11, p21_11⟩
  refine wpAnyH_take (i := 0) (oi := ?_) (v := ?_) ?_ (by kernel_rfl) (by kernel_rfl) (by kernel_rfl) ?_ (Or.inl ⟨?_, ?_⟩) (by assumption) ?_
  rotate_left 2
  · (simp only [List.getElem?_toArray, List.getElem?_cons_zero]; rfl)
  · exact fun _ _ _ h => h
  · rfl
  · (intro wS hSw; (try dsimp only at hSw); go_simp; (try with_reducible rfl))
  (try simp only [Act.put, List.setIfInBounds_toArray, List.set_cons_zero, List.set_cons_succ])
  refine wpAnyH_take (i := 1) (oi := ?_) (v := ?_) ?_ (by kernel_rfl) (by kernel_rfl) (by kernel_rfl) ?_ (Or.inl ⟨?_, ?_⟩) (by assumption) ?_
  rotate_left 2
  · (simp only [List.getElem?_toArray, List.getElem?_cons_zero, List.getElem?_cons_succ]; rfl)
  · exact fun _ _ _ h => h
  · rfl
  · (intro wS hSw; (try dsimp only at hSw); go_simp; (try with_reducible rfl))
  (try simp only [Act.put, List.setIfInBounds_toArray, List.set_cons_zero, List.set_cons_succ])
  refine wpAnyH_ready (rs := [2]) (by kernel_rfl) (by simp) ?_
  refine AllReadyH.cons (o := ?_) ?_ (fun K hK => ?_) AllReadyH.nil
  rotate_left
  · (simp only [List.getElem?_toArray, List.getElem?_cons_zero, List.getElem?_cons_succ]; rfl)
  go_simp
  go_at_call 12
  refine (toDepend_any fa2 fn2 fc2 ta2 tn2 tc2 zf2 zt2 _ HZ2.out.1 HZ2.out.2 hs12 hs22 (At.below HA2.out.1 B_11.drew) (At.below HA2.out.2 B_11.drew)).mono ?_
  rintro e w12 ⟨g12_1, g12_2, rfl, ho12, hd12⟩
  have hb12 : Below w11.heap.size w11 w12 := (Below.refl _ _).drew.trans hd12
  clear hd12
  have oy_12 := Hid.mk ho12
  clear ho12
  have p20_12 := cell_later hb12 p20_11
  have p21_12 := cell_later hb12 p21_11
  have X20_12 := cell_later hb12 X20_11
  have X21_12 := cell_later hb12 X21_11
  have ox0_12 := Hid.mk (RDeps.ownBelow ox0_11.out hb12)
  have ox2_12 := Hid.mk (RDep.ownBelow ox2_11.out hb12)
  have B_12 := B_11.trans (hb12.mono B_11.size)
  have zz12 : w11.heap.size ≤ w12.heap.size := hb12.size
  clear p20_11 p21_11 X20_11 X21_11 ox0_11 ox2_11 B_11
  clear hb12
  (try go_wp2_with fail)
  refine hK.out _ _ ?_ (fun hHeld' => ?_)
  · (try dsimp only)
    exact ⟨X20_12, X21_12, p20_12, p21_12⟩
  clear hK K hHeld
  have hHeld := hHeld'
  clear hHeld'
  (try simp only [Act.put, List.setIfInBounds_toArray, List.set_cons_zero, List.set_cons_succ])
  refine wpAnyH_ready (rs := [3]) (by kernel_rfl) (by simp) ?_
  refine AllReadyH.cons (o := ?_) ?_ (fun K hK => ?_) AllReadyH.nil
  rotate_left
  · (simp only [List.getElem?_toArray, List.getElem?_cons_zero, List.getElem?_cons_succ]; rfl)
  go_simp
  go_at_call 14
  refine (eqDepend_same _ _ fn2 _ _ _ _ tn2 _ _ zf2 zt2 _ HZ2.out.1 HZ2.out.2 hs12 hs22 (dep_at ox2_12.out).1 (dep_at ox2_12.out).2 (dep_at oy_12.out).1 (dep_at oy_12.out).2).mono ?_
  rintro e w13 ⟨rfl, hb13⟩
  clear oy_12
  have p20_13 := cell_later hb13 p20_12
  have p21_13 := cell_later hb13 p21_12
  have X20_13 := cell_later hb13 X20_12
  have X21_13 := cell_later hb13 X21_12
  have ox0_13 := Hid.mk (RDeps.ownBelow ox0_12.out hb13)
  have ox2_13 := Hid.mk (RDep.ownBelow ox2_12.out hb13)
  have B_13 := B_12.trans (hb13.mono B_12.size)
  have zz13 : w12.heap.size ≤ w13.heap.size := hb13.size
  clear p20_12 p21_12 X20_12 X21_12 ox0_12 ox2_12 B_12
  clear hb13
  (try go_wp2_with fail)
  refine hK.out _ _ ?_ (fun hHeld' => ?_)
  · (try dsimp only)
    exact ⟨X20_13, X21_13, p20_13, p21_13⟩
  clear hK K hHeld
  have hHeld := hHeld'
  clear hHeld'
  (try simp only [Act.put, List.setIfInBounds_toArray, List.set_cons_zero, List.set_cons_succ])
  refine wpAnyH_take (i := 4) (oi := ?_) (v := ?_) ?_ (by kernel_rfl) (by kernel_rfl) (by kernel_rfl) ?_ (Or.inl ⟨?_, ?_⟩) (by assumption) ?_
  rotate_left 2
  · (simp only [List.getElem?_toArray, List.getElem?_cons_zero, List.getElem?_cons_succ]; rfl)
  · exact fun _ _ _ h => h
  · rfl
  · (intro wS hSw; (try dsimp only at hSw); go_simp; (try with_reducible rfl))
  (try simp only [Act.put, List.setIfInBounds_toArray, List.set_cons_zero, List.set_cons_succ])
  refine wpAnyH_done (by kernel_rfl) ?_ _
  clear hHeld
  go_wp2
  go_ret
  exact ⟨rfl, B_13⟩

end Go.Proofs.Ytkcfhlpdenjimaa
