/- The law FnExactWitnessFor returns true at every input, and writes nothing that was there. -/
import Derived.Test.YtkcfhlpdenjimaaDoorM15
import Derived.Test.YtkcfhlpdenjimaaDoorM16
import Derived.Test.YtkcfhlpdenjimaaDoorM11
namespace Go.Proofs.YtkcfhlpdenjimaaDoor
open Go.RowKit

set_option maxRecDepth 100000 in
set_option maxHeartbeats 16000000 in
theorem lawWitnessFor (a0 : Option Addr) (n0 c0 : Nat) (z0 : List Dep) (a1 : Int) (fa2 : Option Addr) (fn2 fc2 : Nat) (ta2 : Option Addr) (tn2 tc2 : Nat) (z2 : Dep) (w : World) (hz0 : z0.length = n0) (hn0 : n0 ≤ 9223372036854775807) (ha0 : AtD w a0 z0) (_w1 : (Lit.int .i64 a1).wf = true) (ha2 : RDep.At w [.slice fa2 fn2 fc2, .slice ta2 tn2 tc2] z2) (htab : TabB w) :
    Calls Tryd.prog 4 #[.slice a0 n0 c0, .int .i64 a1, .agg #[.slice fa2 fn2 fc2, .slice ta2 tn2 tc2]] w fun e w' => e = .returned (.bool true) ∧ Below w.heap.size w w' := by
  have HA0 := Hid.mk ha0
  have HZ0 := Hid.mk hz0
  clear ha0 hz0
  obtain ⟨zf2, zt2⟩ := z2
  obtain ⟨⟨h12, h22, h32, _⟩, ⟨k12, k22, k32, _⟩⟩ := RDep.at_iff ha2
  have HA2 := Hid.mk (And.intro h32 k32)
  have HZ2 : Hid (zf2.length = fn2 ∧ zt2.length = tn2) := ⟨h12, k12⟩
  clear ha2 h12 h32 k12 k32
  have HTAB := Hid.mk htab
  clear htab
  obtain ⟨W, hW⟩ : ∃ W, W = w.alloc (.cells #[.slice fa2 fn2 fc2, .slice ta2 tn2 tc2] 36) := ⟨_, rfl⟩
  have B0 : Below w.heap.size w W := by rw [hW]; exact (Below.refl _ _).alloc (Nat.le_refl _) _
  have zW : w.heap.size < W.heap.size := by rw [hW]; simp
  have p20_0 : W.cell? ⟨w.heap.size, 0, none⟩ = some (.slice fa2 fn2 fc2) := by rw [hW]; simp
  have p21_0 : W.cell? ⟨w.heap.size, 1, none⟩ = some (.slice ta2 tn2 tc2) := by rw [hW]; simp
  obtain ⟨C0, hC0⟩ : ∃ C : Nat, n0 + dsum z0 n0 = C := ⟨_, rfl⟩
  have HC0 := Hid.mk hC0
  clear hC0
  obtain ⟨C2, hC2⟩ : ∃ C : Nat, dcost (zf2, zt2) = C := ⟨_, rfl⟩
  have HC2 := Hid.mk hC2
  clear hC2
  by_cases big0 : (1048576 : Int) < (C0 : Int)
  · go_enter Tryd.func4, Tryd.ntmps4
    go_wp2_with fail
    rw [← hW]
    clear hW
    refine (szDependS_any a0 n0 c0 z0 _ _ HZ0.out hn0 (by omega) (by omega) (AtSl.below HA0.out B0)).mono ?_
    rintro e v0 ⟨rfl, hv0⟩
    rw [HC0.out, leftOf_no big0]
    have y0 := B0.trans (hv0.mono B0.size)
    go_wp2
    go_ret
    exact ⟨rfl, y0⟩
  have hl0 : ¬ (1048576 : Int) - (C0 : Int) < 0 := by omega
  have HSM0 : Hid (SmD z0 n0) := ⟨HZ0.out, by have := HC0.out; omega⟩
  have hsn0 : n0 ≤ 1048576 := HSM0.out.n
  have HVB0 := HSM0.out.sum
  by_cases big2 : (1048576 : Int) - (C0 : Int) < (C2 : Int)
  · go_enter Tryd.func4, Tryd.ntmps4
    go_wp2_with fail
    rw [← hW]
    clear hW
    refine (szDependS_any a0 n0 c0 z0 _ _ HZ0.out hn0 (by omega) (by omega) (AtSl.below HA0.out B0)).mono ?_
    rintro e v0 ⟨rfl, hv0⟩
    rw [HC0.out, leftOf_yes (by omega)]
    have y0 := B0.trans (hv0.mono B0.size)
    have qp20_0 := cell_later hv0 p20_0
    have qp21_0 := cell_later hv0 p21_0
    go_wp2_with fail
    refine (szDepend_any fa2 fn2 fc2 ta2 tn2 tc2 zf2 zt2 _ _ HZ2.out.1 h22 HZ2.out.2 k22 (by omega) (by omega)).mono ?_
    rintro e v1 ⟨rfl, hv1⟩
    rw [HC2.out, leftOf_no big2]
    have y1 := y0.trans (hv1.mono y0.size)
    go_wp2
    go_ret
    exact ⟨rfl, y1⟩
  have hl2 : ¬ (1048576 : Int) - (C0 : Int) - (C2 : Int) < 0 := by omega
  have HSM2 : fn2 ≤ 1048576 ∧ tn2 ≤ 1048576 ∧ dcost (zf2, zt2) ≤ 1048576 := by
    have q := HC2.out
    have q1 := HZ2.out
    have q2 : dcost (zf2, zt2) = zf2.length + zt2.length := rfl
    refine ⟨?_, ?_, ?_⟩ <;> omega
  have hs12 := HSM2.1
  have hs22 := HSM2.2.1
  have HVB2 := HSM2.2.2
  obtain ⟨V0, hV0⟩ : ∃ V : Nat, dsum z0 n0 = V := ⟨_, rfl⟩
  rw [hV0] at HVB0
  have HV0 := Hid.mk hV0
  clear hV0
  obtain ⟨V2, hV2⟩ : ∃ V : Nat, dcost (zf2, zt2) = V := ⟨_, rfl⟩
  rw [hV2] at HVB2
  have HV2 := Hid.mk hV2
  clear hV2
  obtain ⟨ok, pa, ta, hsA, HS, HI⟩ : ∃ (ok : Bool) (pa : Int) (ta : List WRow), SmT ta ta.length ∧ Hid (∀ (x0 : Nat) (x2 y2 : Nat) (w : World) (F0 F2 : Nat → Prop), RDeps.Own w F0 [.slice (some ⟨x0, 0, none⟩) n0 n0] z0 → RDep.Own w F2 [.slice (some ⟨x2, 0, none⟩) fn2 fn2, .slice (some ⟨y2, 0, none⟩) tn2 tn2] (zf2, zt2) → Calls Tryd.prog 18 #[.slice (some ⟨x0, 0, none⟩) n0 n0, .int .i64 a1, .agg #[.slice (some ⟨x2, 0, none⟩) fn2 fn2, .slice (some ⟨y2, 0, none⟩) tn2 tn2]] w fun e w' => TabRet e w' w.heap.size ok pa ta ∧ Below w.heap.size w w') ∧ Hid (∀ (x0 : Nat) (x2 y2 : Nat) (w : World) (F0 F2 : Nat → Prop), RDeps.Own w F0 [.slice (some ⟨x0, 0, none⟩) n0 n0] z0 → RDep.Own w F2 [.slice (some ⟨x2, 0, none⟩) fn2 fn2, .slice (some ⟨y2, 0, none⟩) tn2 tn2] (zf2, zt2) → TabB w → Calls Tryd.prog 20 #[.slice (some ⟨x0, 0, none⟩) n0 n0, .int .i64 a1, .agg #[.slice (some ⟨x2, 0, none⟩) fn2 fn2, .slice (some ⟨y2, 0, none⟩) tn2 tn2]] w fun e w' => TabRet e w' w.heap.size ok pa ta ∧ Below w.heap.size w w') := ⟨witB z0 a1 (zf2, zt2), ansP (witB z0 a1 (zf2, zt2)) (a1), ansT (witB z0 a1 (zf2, zt2)) (witL z0 a1 (zf2, zt2)), wit_small z0 a1 (zf2, zt2), fun x0 x2 y2 w F0 F2 o0 o2 => specWitnessFor (some ⟨x0, 0, none⟩) n0 n0 z0 a1 (some ⟨x2, 0, none⟩) fn2 fn2 (some ⟨y2, 0, none⟩) tn2 tn2 (zf2, zt2) w HZ0.out hsn0 (deps_at o0) (RDep.toAt o2), fun x0 x2 y2 w F0 F2 o0 o2 ht => implWitnessFor (some ⟨x0, 0, none⟩) n0 n0 z0 a1 (some ⟨x2, 0, none⟩) fn2 fn2 (some ⟨y2, 0, none⟩) tn2 tn2 (zf2, zt2) w HZ0.out hsn0 (deps_at o0) (RDep.toAt o2) ht⟩
  obtain ⟨na, hna⟩ : ∃ na, ta.length = na := ⟨_, rfl⟩
  rw [hna] at hsA
  have hxA := hsA.n
  have HNA := Hid.mk hna
  clear hna
  have hwA := hsA.2
  go_enter Tryd.func4, Tryd.ntmps4
  go_wp2_with fail
  rw [← hW]
  clear hW
  refine (szDependS_any a0 n0 c0 z0 _ _ HZ0.out hn0 (by omega) (by omega) (AtSl.below HA0.out B0)).mono ?_
  rintro e w1 ⟨rfl, hb1⟩
  rw [HC0.out, leftOf_yes (by omega)]
  have p20_1 := cell_later hb1 p20_0
  have p21_1 := cell_later hb1 p21_0
  have B_1 := B0.trans (hb1.mono B0.size)
  have zz1 : W.heap.size ≤ w1.heap.size := hb1.size
  clear p20_0 p21_0
  clear hb1
  go_wp2_with fail
  refine (szDepend_any fa2 fn2 fc2 ta2 tn2 tc2 zf2 zt2 _ _ HZ2.out.1 h22 HZ2.out.2 k22 (by omega) (by omega)).mono ?_
  rintro e w2 ⟨rfl, hb2⟩
  rw [HC2.out, leftOf_yes (by omega)]
  have p20_2 := cell_later hb2 p20_1
  have p21_2 := cell_later hb2 p21_1
  have B_2 := B_1.trans (hb2.mono B_1.size)
  have zz2 : w1.heap.size ≤ w2.heap.size := hb2.size
  clear p20_1 p21_1 B_1
  clear hb2
  go_upto_region 8 with fail
  go_cut [8, 9] (fun ta' tb wx => ∃ (Pb : Nat) (r : Option Addr) (m d lo hi : Nat), ta' = .pointer (some ⟨Pb, 0, none⟩) ∧ tb = .bool ok ∧ wx.cell? ⟨Pb, 0, none⟩ = some (.int .i64 pa) ∧ wx.cell? ⟨Pb, 1, none⟩ = some (.slice r m d) ∧ OwnT wx lo hi r m d ta ∧ w2.heap.size ≤ lo ∧ hi ≤ wx.heap.size ∧ w2.heap.size ≤ Pb ∧ Pb < wx.heap.size ∧ (Pb < lo ∨ hi ≤ Pb) ∧ Below w2.heap.size w2 wx)
  case first =>
    refine wp_region_held_drew (S := fun w' => w'.cell? ⟨w.heap.size, 0, none⟩ = some (.slice fa2 fn2 fc2) ∧ w'.cell? ⟨w.heap.size, 1, none⟩ = some (.slice ta2 tn2 tc2)) (by kernel_rfl) ?_ (fun hHeld => ?_)
    · (try dsimp only)
      exact ⟨p20_2, p21_2⟩
    refine wpAnyH_take (i := 0) (oi := ?_) (v := ?_) ?_ (by kernel_rfl) (by kernel_rfl) (by kernel_rfl) ?_ (Or.inl ⟨?_, ?_⟩) (by assumption) ?_
    rotate_left 2
    · (simp only [List.getElem?_toArray, List.getElem?_cons_zero]; rfl)
    · exact fun _ _ _ h => h
    · rfl
    · (intro wS hSw; (try dsimp only at hSw); go_simp; (try with_reducible rfl))
    (try simp only [Act.put, List.setIfInBounds_toArray, List.set_cons_zero, List.set_cons_succ])
    refine wpAnyH_take (i := 2) (oi := ?_) (v := ?_) ?_ (by kernel_rfl) (by kernel_rfl) (by kernel_rfl) ?_ (Or.inl ⟨?_, ?_⟩) (by assumption) ?_
    rotate_left 2
    · (simp only [List.getElem?_toArray, List.getElem?_cons_zero, List.getElem?_cons_succ]; rfl)
    · exact fun _ _ _ h => h
    · rfl
    · (intro wS hSw; (try dsimp only at hSw); go_simp; (try with_reducible rfl))
    (try simp only [Act.put, List.setIfInBounds_toArray, List.set_cons_zero, List.set_cons_succ])
    refine wpAnyH_take (i := 3) (oi := ?_) (v := ?_) ?_ (by kernel_rfl) (by kernel_rfl) (by kernel_rfl) ?_ (Or.inl ⟨?_, ?_⟩) (by assumption) ?_
    rotate_left 2
    · (simp only [List.getElem?_toArray, List.getElem?_cons_zero, List.getElem?_cons_succ]; rfl)
    · exact fun _ _ _ h => h
    · rfl
    · (intro wS hSw; (try dsimp only at hSw); go_simp; (try with_reducible rfl))
    (try simp only [Act.put, List.setIfInBounds_toArray, List.set_cons_zero, List.set_cons_succ])
    obtain ⟨w4, hU4⟩ : ∃ u, u = w2.drew := ⟨_, rfl⟩
    have hb4 : Below w2.heap.size w2 w4 := by rw [hU4]; exact (Below.refl _ _).drew
    rw [← hU4]
    clear hU4
    have p20_4 := cell_later hb4 p20_2
    have p21_4 := cell_later hb4 p21_2
    have B_4 := B_2.trans (hb4.mono B_2.size)
    have Y_4 : Below w2.heap.size w2 w4 := hb4
    have zz4 : w2.heap.size ≤ w4.heap.size := by have q := hb4.size; first | exact q | simpa using q
    refine wpAnyH_ready (rs := [1, 9]) (by kernel_rfl) (by simp) ?_
    refine AllReadyH.cons (o := ?_) ?_ (fun K hK => ?_) ?_
    rotate_left
    · (simp only [List.getElem?_toArray, List.getElem?_cons_zero, List.getElem?_cons_succ]; rfl)
    · go_simp
      go_at_call 9
      refine (toDependSG a0 n0 c0 z0 _ HSM0.out (AtSl.below HA0.out B_4)).mono ?_
      rintro e w5 ⟨g5, rfl, ho5, hb5⟩
      have p20_5 := cell_later hb5 p20_4
      have p21_5 := cell_later hb5 p21_4
      have B_5 := B_4.trans (hb5.mono B_4.size)
      have Y_5 : Below w2.heap.size w2 w5 := Y_4.trans (hb5.mono Y_4.size)
      have zz5 : w4.heap.size ≤ w5.heap.size := by have q := hb5.size; first | exact q | simpa using q
      have ot0_5 := Hid.mk ho5
      (try go_wp2_with fail)
      refine hK.out _ _ ?_ (fun hHeld' => ?_)
      · (try dsimp only)
        exact ⟨p20_5, p21_5⟩
      clear hK K hHeld
      have hHeld := hHeld'
      clear hHeld'
      (try simp only [Act.put, List.setIfInBounds_toArray, List.set_cons_zero, List.set_cons_succ])
      refine wpAnyH_ready (rs := [4, 9]) (by kernel_rfl) (by simp) ?_
      refine AllReadyH.cons (o := ?_) ?_ (fun K hK => ?_) ?_
      rotate_left
      · (simp only [List.getElem?_toArray, List.getElem?_cons_zero, List.getElem?_cons_succ]; rfl)
      · go_simp
        go_at_call 19
        refine (toDepend_any fa2 fn2 fc2 ta2 tn2 tc2 zf2 zt2 _ HZ2.out.1 HZ2.out.2 hs12 hs22 (At.below HA2.out.1 B_5) (At.below HA2.out.2 B_5)).mono ?_
        rintro e w6 ⟨g6_1, g6_2, rfl, ho6, hb6⟩
        have p20_6 := cell_later hb6 p20_5
        have p21_6 := cell_later hb6 p21_5
        have ot0_6 := Hid.mk (RDeps.ownBelow ot0_5.out hb6)
        have B_6 := B_5.trans (hb6.mono B_5.size)
        have Y_6 : Below w2.heap.size w2 w6 := Y_5.trans (hb6.mono Y_5.size)
        have zz6 : w5.heap.size ≤ w6.heap.size := by have q := hb6.size; first | exact q | simpa using q
        have ot2_6 := Hid.mk ho6
        (try go_wp2_with fail)
        refine hK.out _ _ ?_ (fun hHeld' => ?_)
        · (try dsimp only)
          exact ⟨p20_6, p21_6⟩
        clear hK K hHeld
        have hHeld := hHeld'
        clear hHeld'
        (try simp only [Act.put, List.setIfInBounds_toArray, List.set_cons_zero, List.set_cons_succ])
        refine wpAnyH_ready (rs := [5, 9]) (by kernel_rfl) (by simp) ?_
        refine AllReadyH.cons (o := ?_) ?_ (fun K hK => ?_) ?_
        rotate_left
        · (simp only [List.getElem?_toArray, List.getElem?_cons_zero, List.getElem?_cons_succ]; rfl)
        · go_simp
          go_at_call 18
          refine (HS.out _ _ _ _ _ _ ot0_6.out ot2_6.out).mono ?_
          rintro e w7 ⟨⟨r7, m7, d7, cs7, rfl, ho7⟩, hb7⟩
          have p20_7 := cell_later hb7 p20_6
          have p21_7 := cell_later hb7 p21_6
          have B_7 := B_6.trans (hb7.mono B_6.size)
          have Y_7 : Below w2.heap.size w2 w7 := Y_6.trans (hb7.mono Y_6.size)
          have zz7 : w6.heap.size ≤ w7.heap.size := by have q := hb7.size; first | exact q | simpa using q
          (try go_wp2_with fail)
          refine hK.out _ _ ?_ (fun hHeld' => ?_)
          · (try dsimp only)
            exact ⟨p20_7, p21_7⟩
          clear hK K hHeld
          have hHeld := hHeld'
          clear hHeld'
          (try simp only [Act.put, List.setIfInBounds_toArray, List.set_cons_zero, List.set_cons_succ])
          refine wpAnyH_take (i := 6) (oi := ?_) (v := ?_) ?_ (by kernel_rfl) (by kernel_rfl) (by kernel_rfl) ?_ (Or.inl ⟨?_, ?_⟩) (by assumption) ?_
          rotate_left 2
          · (simp only [List.getElem?_toArray, List.getElem?_cons_zero, List.getElem?_cons_succ]; rfl)
          · exact fun _ _ _ h => h
          · rfl
          · (intro wS hSw; (try dsimp only at hSw); go_simp; (try with_reducible rfl))
          (try simp only [Act.put, List.setIfInBounds_toArray, List.set_cons_zero, List.set_cons_succ])
          refine wpAnyH_take (i := 7) (oi := ?_) (v := ?_) ?_ (by kernel_rfl) (by kernel_rfl) (by kernel_rfl) ?_ (Or.inl ⟨?_, ?_⟩) (by assumption) ?_
          rotate_left 2
          · (simp only [List.getElem?_toArray, List.getElem?_cons_zero, List.getElem?_cons_succ]; rfl)
          · exact fun _ _ _ h => h
          · rfl
          · (intro wS hSw; (try dsimp only at hSw); go_simp; (try with_reducible rfl))
          (try simp only [Act.put, List.setIfInBounds_toArray, List.set_cons_zero, List.set_cons_succ])
          refine wpAnyH_take (i := 8) (oi := ?_) (v := ?_) ?_ (by kernel_rfl) (by kernel_rfl) (by kernel_rfl) ?_ (Or.inl ⟨?_, ?_⟩) (by assumption) ?_
          rotate_left 2
          · (simp only [List.getElem?_toArray, List.getElem?_cons_zero, List.getElem?_cons_succ]; rfl)
          · exact fun _ _ _ h => h
          · rfl
          · (intro wS hSw; (try dsimp only at hSw); go_simp; (try with_reducible rfl))
          (try simp only [Act.put, List.setIfInBounds_toArray, List.set_cons_zero, List.set_cons_succ])
          refine wpAnyH_ready (rs := [9]) (by kernel_rfl) (by simp) ?_
          refine AllReadyH.cons (o := ?_) ?_ (fun K hK => ?_) AllReadyH.nil
          rotate_left
          · (simp only [List.getElem?_toArray, List.getElem?_cons_zero, List.getElem?_cons_succ]; rfl)
          go_simp
          skip
          (try go_wp2_with fail)
          refine hK.out _ _ ?_ (fun hHeld' => ?_)
          · (try dsimp only)
            exact ⟨cell_later ((Below.refl _ _).alloc (Nat.le_refl _) _) p20_7, cell_later ((Below.refl _ _).alloc (Nat.le_refl _) _) p21_7⟩
          clear hK K hHeld
          have hHeld := hHeld'
          clear hHeld'
          (try simp only [Act.put, List.setIfInBounds_toArray, List.set_cons_zero, List.set_cons_succ])
          refine wpAnyH_ready (rs := [10]) (by kernel_rfl) (by simp) ?_
          refine AllReadyH.cons (o := ?_) ?_ (fun K hK => ?_) AllReadyH.nil
          rotate_left
          · (simp only [List.getElem?_toArray, List.getElem?_cons_zero, List.getElem?_cons_succ]; rfl)
          go_simp
          skip
          (try go_wp2_with fail)
          refine hK.out _ _ ?_ (fun hHeld' => ?_)
          · (try dsimp only)
            exact ⟨cell_later ((Below.refl _ _).alloc (Nat.le_refl _) _) p20_7, cell_later ((Below.refl _ _).alloc (Nat.le_refl _) _) p21_7⟩
          clear hK K hHeld
          have hHeld := hHeld'
          clear hHeld'
          (try simp only [Act.put, List.setIfInBounds_toArray, List.set_cons_zero, List.set_cons_succ])
          refine wpAnyH_take (i := 11) (oi := ?_) (v := ?_) ?_ (by kernel_rfl) (by kernel_rfl) (by kernel_rfl) ?_ (Or.inl ⟨?_, ?_⟩) (by assumption) ?_
          rotate_left 2
          · (simp only [List.getElem?_toArray, List.getElem?_cons_zero, List.getElem?_cons_succ]; rfl)
          · exact fun _ _ _ h => h
          · rfl
          · (intro wS hSw; (try dsimp only at hSw); go_simp; (try with_reducible rfl))
          (try simp only [Act.put, List.setIfInBounds_toArray, List.set_cons_zero, List.set_cons_succ])
          refine wpAnyH_done (by kernel_rfl) ?_ _
          (try go_wp2_with fail)
          go_meet
          case rel =>
            have owk : OwnT w7 w6.heap.size w7.heap.size r7 m7 d7 ta := ⟨cs7, ho7⟩
            exact ⟨w7.heap.size, r7, m7, d7, w6.heap.size, w7.heap.size, rfl, rfl, pair0 w7 _ _ _, pair1 w7 _ _ _, owk.below ((Below.refl _ _).alloc (Nat.le_refl _) _), by omega, by simp, by omega, by simp, .inr (Nat.le_refl _), Y_7.alloc Y_7.size _⟩
        refine AllReadyH.cons (o := ?_) ?_ (fun K hK => ?_) AllReadyH.nil
        rotate_left
        · (simp only [List.getElem?_toArray, List.getElem?_cons_zero, List.getElem?_cons_succ]; rfl)
        · go_simp
          (try go_wp2_with fail)
          refine hK.out _ _ ?_ (fun hHeld' => ?_)
          · (try dsimp only)
            exact ⟨cell_later ((Below.refl _ _).alloc (Nat.le_refl _) _) p20_6, cell_later ((Below.refl _ _).alloc (Nat.le_refl _) _) p21_6⟩
          clear hK K hHeld
          have hHeld := hHeld'
          clear hHeld'
          (try simp only [Act.put, List.setIfInBounds_toArray, List.set_cons_zero, List.set_cons_succ])
          obtain ⟨w7, hU7⟩ : ∃ u, u = w6.alloc (.cells #[.int .i64 0, .slice none 0 0] 40) := ⟨_, rfl⟩
          have hb7 : Below w6.heap.size w6 w7 := by rw [hU7]; exact (Below.refl _ _).alloc (Nat.le_refl _) _
          have zp7 : w6.heap.size < w7.heap.size := by rw [hU7]; simp
          have hp7 : w7.heap[w6.heap.size]? = some (.cells #[.int .i64 0, .slice none 0 0] 40 (0, 0)) := by rw [hU7]; exact heap_alloc_new _ _
          rw [← hU7]
          clear hU7
          have p20_7 := cell_later hb7 p20_6
          have p21_7 := cell_later hb7 p21_6
          have ot0_7 := Hid.mk (RDeps.ownBelow ot0_6.out hb7)
          have ot2_7 := Hid.mk (RDep.ownBelow ot2_6.out hb7)
          have B_7 := B_6.trans (hb7.mono B_6.size)
          have Y_7 : Below w2.heap.size w2 w7 := Y_6.trans (hb7.mono Y_6.size)
          have zz7 : w6.heap.size ≤ w7.heap.size := by have q := hb7.size; first | exact q | simpa using q
          refine wpAnyH_ready (rs := [5]) (by kernel_rfl) (by simp) ?_
          refine AllReadyH.cons (o := ?_) ?_ (fun K hK => ?_) AllReadyH.nil
          rotate_left
          · (simp only [List.getElem?_toArray, List.getElem?_cons_zero, List.getElem?_cons_succ]; rfl)
          go_simp
          go_at_call 18
          refine (HS.out _ _ _ _ _ _ ot0_7.out ot2_7.out).mono ?_
          rintro e w8 ⟨⟨r8, m8, d8, cs8, rfl, ho8⟩, hb8⟩
          have p20_8 := cell_later hb8 p20_7
          have p21_8 := cell_later hb8 p21_7
          have hq8 := (hb8.block (w6.heap.size) (Array.getElem?_eq_some_iff.1 hp7).1).trans hp7
          have B_8 := B_7.trans (hb8.mono B_7.size)
          have Y_8 : Below w2.heap.size w2 w8 := Y_7.trans (hb8.mono Y_7.size)
          have zz8 : w7.heap.size ≤ w8.heap.size := by have q := hb8.size; first | exact q | simpa using q
          (try go_wp2_with fail)
          refine hK.out _ _ ?_ (fun hHeld' => ?_)
          · (try dsimp only)
            exact ⟨p20_8, p21_8⟩
          clear hK K hHeld
          have hHeld := hHeld'
          clear hHeld'
          (try simp only [Act.put, List.setIfInBounds_toArray, List.set_cons_zero, List.set_cons_succ])
          refine wpAnyH_take (i := 6) (oi := ?_) (v := ?_) ?_ (by kernel_rfl) (by kernel_rfl) (by kernel_rfl) ?_ (Or.inl ⟨?_, ?_⟩) (by assumption) ?_
          rotate_left 2
          · (simp only [List.getElem?_toArray, List.getElem?_cons_zero, List.getElem?_cons_succ]; rfl)
          · exact fun _ _ _ h => h
          · rfl
          · (intro wS hSw; (try dsimp only at hSw); go_simp; (try with_reducible rfl))
          (try simp only [Act.put, List.setIfInBounds_toArray, List.set_cons_zero, List.set_cons_succ])
          refine wpAnyH_take (i := 7) (oi := ?_) (v := ?_) ?_ (by kernel_rfl) (by kernel_rfl) (by kernel_rfl) ?_ (Or.inl ⟨?_, ?_⟩) (by assumption) ?_
          rotate_left 2
          · (simp only [List.getElem?_toArray, List.getElem?_cons_zero, List.getElem?_cons_succ]; rfl)
          · exact fun _ _ _ h => h
          · rfl
          · (intro wS hSw; (try dsimp only at hSw); go_simp; (try with_reducible rfl))
          (try simp only [Act.put, List.setIfInBounds_toArray, List.set_cons_zero, List.set_cons_succ])
          refine wpAnyH_take (i := 8) (oi := ?_) (v := ?_) ?_ (by kernel_rfl) (by kernel_rfl) (by kernel_rfl) ?_ (Or.inl ⟨?_, ?_⟩) (by assumption) ?_
          rotate_left 2
          · (simp only [List.getElem?_toArray, List.getElem?_cons_zero, List.getElem?_cons_succ]; rfl)
          · exact fun _ _ _ h => h
          · rfl
          · (intro wS hSw; (try dsimp only at hSw); go_simp; (try with_reducible rfl))
          (try simp only [Act.put, List.setIfInBounds_toArray, List.set_cons_zero, List.set_cons_succ])
          have u0 : w8.cell? ⟨w6.heap.size, 0, none⟩ = some (.int .i64 0) := by rw [cell_of_row _ _ 0 _ _ (0, 0) hq8]; rfl
          have u1 : w8.cell? ⟨w6.heap.size, 1, none⟩ = some (.slice none 0 0) := by rw [cell_of_row _ _ 1 _ _ (0, 0) hq8]; rfl
          have v0 : w8.frozen? ⟨w6.heap.size, 0, none⟩ = false := frozen_of_row _ _ 0 _ _ hq8
          have v1 : w8.frozen? ⟨w6.heap.size, 1, none⟩ = false := frozen_of_row _ _ 1 _ _ hq8
          refine wpAnyH_ready (rs := [10]) (by kernel_rfl) (by simp) ?_
          refine AllReadyH.cons (o := ?_) ?_ (fun K hK => ?_) AllReadyH.nil
          rotate_left
          · (simp only [List.getElem?_toArray, List.getElem?_cons_zero, List.getElem?_cons_succ]; rfl)
          go_simp
          skip
          (try go_wp2_with fail)
          refine hK.out _ _ ?_ (fun hHeld' => ?_)
          · (try dsimp only)
            exact ⟨keep_far (keep_far p20_8 (by omega)) (by omega), keep_far (keep_far p21_8 (by omega)) (by omega)⟩
          clear hK K hHeld
          have hHeld := hHeld'
          clear hHeld'
          (try simp only [Act.put, List.setIfInBounds_toArray, List.set_cons_zero, List.set_cons_succ])
          refine wpAnyH_take (i := 11) (oi := ?_) (v := ?_) ?_ (by kernel_rfl) (by kernel_rfl) (by kernel_rfl) ?_ (Or.inl ⟨?_, ?_⟩) (by assumption) ?_
          rotate_left 2
          · (simp only [List.getElem?_toArray, List.getElem?_cons_zero, List.getElem?_cons_succ]; rfl)
          · exact fun _ _ _ h => h
          · rfl
          · (intro wS hSw; (try dsimp only at hSw); go_simp; (try with_reducible rfl))
          (try simp only [Act.put, List.setIfInBounds_toArray, List.set_cons_zero, List.set_cons_succ])
          refine wpAnyH_done (by kernel_rfl) ?_ _
          (try go_wp2_with fail)
          go_meet
          case rel =>
            have owk : OwnT w8 w7.heap.size w8.heap.size r8 m8 d8 ta := ⟨cs8, ho8⟩
            exact ⟨w6.heap.size, r8, m8, d8, w7.heap.size, w8.heap.size, rfl, rfl, set2_0 hq8 _ _, set2_1 hq8 _ _, owk.set2 (.inl (by omega)) _ _, by omega, by simp [World.setCell], by omega, by simp only [World.setCell, Array.size_modify]; omega, .inl (by omega), (Y_8.setCell (by show w2.heap.size ≤ w6.heap.size; omega) _).setCell (by show w2.heap.size ≤ w6.heap.size; omega) _⟩
      refine AllReadyH.cons (o := ?_) ?_ (fun K hK => ?_) AllReadyH.nil
      rotate_left
      · (simp only [List.getElem?_toArray, List.getElem?_cons_zero, List.getElem?_cons_succ]; rfl)
      · go_simp
        (try go_wp2_with fail)
        refine hK.out _ _ ?_ (fun hHeld' => ?_)
        · (try dsimp only)
          exact ⟨cell_later ((Below.refl _ _).alloc (Nat.le_refl _) _) p20_5, cell_later ((Below.refl _ _).alloc (Nat.le_refl _) _) p21_5⟩
        clear hK K hHeld
        have hHeld := hHeld'
        clear hHeld'
        (try simp only [Act.put, List.setIfInBounds_toArray, List.set_cons_zero, List.set_cons_succ])
        obtain ⟨w6, hU6⟩ : ∃ u, u = w5.alloc (.cells #[.int .i64 0, .slice none 0 0] 40) := ⟨_, rfl⟩
        have hb6 : Below w5.heap.size w5 w6 := by rw [hU6]; exact (Below.refl _ _).alloc (Nat.le_refl _) _
        have zp6 : w5.heap.size < w6.heap.size := by rw [hU6]; simp
        have hp6 : w6.heap[w5.heap.size]? = some (.cells #[.int .i64 0, .slice none 0 0] 40 (0, 0)) := by rw [hU6]; exact heap_alloc_new _ _
        rw [← hU6]
        clear hU6
        have p20_6 := cell_later hb6 p20_5
        have p21_6 := cell_later hb6 p21_5
        have ot0_6 := Hid.mk (RDeps.ownBelow ot0_5.out hb6)
        have B_6 := B_5.trans (hb6.mono B_5.size)
        have Y_6 : Below w2.heap.size w2 w6 := Y_5.trans (hb6.mono Y_5.size)
        have zz6 : w5.heap.size ≤ w6.heap.size := by have q := hb6.size; first | exact q | simpa using q
        refine wpAnyH_ready (rs := [4]) (by kernel_rfl) (by simp) ?_
        refine AllReadyH.cons (o := ?_) ?_ (fun K hK => ?_) AllReadyH.nil
        rotate_left
        · (simp only [List.getElem?_toArray, List.getElem?_cons_zero, List.getElem?_cons_succ]; rfl)
        go_simp
        go_at_call 19
        refine (toDepend_any fa2 fn2 fc2 ta2 tn2 tc2 zf2 zt2 _ HZ2.out.1 HZ2.out.2 hs12 hs22 (At.below HA2.out.1 B_6) (At.below HA2.out.2 B_6)).mono ?_
        rintro e w7 ⟨g7_1, g7_2, rfl, ho7, hb7⟩
        have p20_7 := cell_later hb7 p20_6
        have p21_7 := cell_later hb7 p21_6
        have ot0_7 := Hid.mk (RDeps.ownBelow ot0_6.out hb7)
        have hq7 := (hb7.block (w5.heap.size) (Array.getElem?_eq_some_iff.1 hp6).1).trans hp6
        have B_7 := B_6.trans (hb7.mono B_6.size)
        have Y_7 : Below w2.heap.size w2 w7 := Y_6.trans (hb7.mono Y_6.size)
        have zz7 : w6.heap.size ≤ w7.heap.size := by have q := hb7.size; first | exact q | simpa using q
        have ot2_7 := Hid.mk ho7
        (try go_wp2_with fail)
        refine hK.out _ _ ?_ (fun hHeld' => ?_)
        · (try dsimp only)
          exact ⟨p20_7, p21_7⟩
        clear hK K hHeld
        have hHeld := hHeld'
        clear hHeld'
        (try simp only [Act.put, List.setIfInBounds_toArray, List.set_cons_zero, List.set_cons_succ])
        refine wpAnyH_ready (rs := [5]) (by kernel_rfl) (by simp) ?_
        refine AllReadyH.cons (o := ?_) ?_ (fun K hK => ?_) AllReadyH.nil
        rotate_left
        · (simp only [List.getElem?_toArray, List.getElem?_cons_zero, List.getElem?_cons_succ]; rfl)
        go_simp
        go_at_call 18
        refine (HS.out _ _ _ _ _ _ ot0_7.out ot2_7.out).mono ?_
        rintro e w8 ⟨⟨r8, m8, d8, cs8, rfl, ho8⟩, hb8⟩
        have p20_8 := cell_later hb8 p20_7
        have p21_8 := cell_later hb8 p21_7
        have hq8 := (hb8.block (w5.heap.size) (Array.getElem?_eq_some_iff.1 hq7).1).trans hq7
        have B_8 := B_7.trans (hb8.mono B_7.size)
        have Y_8 : Below w2.heap.size w2 w8 := Y_7.trans (hb8.mono Y_7.size)
        have zz8 : w7.heap.size ≤ w8.heap.size := by have q := hb8.size; first | exact q | simpa using q
        (try go_wp2_with fail)
        refine hK.out _ _ ?_ (fun hHeld' => ?_)
        · (try dsimp only)
          exact ⟨p20_8, p21_8⟩
        clear hK K hHeld
        have hHeld := hHeld'
        clear hHeld'
        (try simp only [Act.put, List.setIfInBounds_toArray, List.set_cons_zero, List.set_cons_succ])
        refine wpAnyH_take (i := 6) (oi := ?_) (v := ?_) ?_ (by kernel_rfl) (by kernel_rfl) (by kernel_rfl) ?_ (Or.inl ⟨?_, ?_⟩) (by assumption) ?_
        rotate_left 2
        · (simp only [List.getElem?_toArray, List.getElem?_cons_zero, List.getElem?_cons_succ]; rfl)
        · exact fun _ _ _ h => h
        · rfl
        · (intro wS hSw; (try dsimp only at hSw); go_simp; (try with_reducible rfl))
        (try simp only [Act.put, List.setIfInBounds_toArray, List.set_cons_zero, List.set_cons_succ])
        refine wpAnyH_take (i := 7) (oi := ?_) (v := ?_) ?_ (by kernel_rfl) (by kernel_rfl) (by kernel_rfl) ?_ (Or.inl ⟨?_, ?_⟩) (by assumption) ?_
        rotate_left 2
        · (simp only [List.getElem?_toArray, List.getElem?_cons_zero, List.getElem?_cons_succ]; rfl)
        · exact fun _ _ _ h => h
        · rfl
        · (intro wS hSw; (try dsimp only at hSw); go_simp; (try with_reducible rfl))
        (try simp only [Act.put, List.setIfInBounds_toArray, List.set_cons_zero, List.set_cons_succ])
        refine wpAnyH_take (i := 8) (oi := ?_) (v := ?_) ?_ (by kernel_rfl) (by kernel_rfl) (by kernel_rfl) ?_ (Or.inl ⟨?_, ?_⟩) (by assumption) ?_
        rotate_left 2
        · (simp only [List.getElem?_toArray, List.getElem?_cons_zero, List.getElem?_cons_succ]; rfl)
        · exact fun _ _ _ h => h
        · rfl
        · (intro wS hSw; (try dsimp only at hSw); go_simp; (try with_reducible rfl))
        (try simp only [Act.put, List.setIfInBounds_toArray, List.set_cons_zero, List.set_cons_succ])
        have u0 : w8.cell? ⟨w5.heap.size, 0, none⟩ = some (.int .i64 0) := by rw [cell_of_row _ _ 0 _ _ (0, 0) hq8]; rfl
        have u1 : w8.cell? ⟨w5.heap.size, 1, none⟩ = some (.slice none 0 0) := by rw [cell_of_row _ _ 1 _ _ (0, 0) hq8]; rfl
        have v0 : w8.frozen? ⟨w5.heap.size, 0, none⟩ = false := frozen_of_row _ _ 0 _ _ hq8
        have v1 : w8.frozen? ⟨w5.heap.size, 1, none⟩ = false := frozen_of_row _ _ 1 _ _ hq8
        refine wpAnyH_ready (rs := [10]) (by kernel_rfl) (by simp) ?_
        refine AllReadyH.cons (o := ?_) ?_ (fun K hK => ?_) AllReadyH.nil
        rotate_left
        · (simp only [List.getElem?_toArray, List.getElem?_cons_zero, List.getElem?_cons_succ]; rfl)
        go_simp
        skip
        (try go_wp2_with fail)
        refine hK.out _ _ ?_ (fun hHeld' => ?_)
        · (try dsimp only)
          exact ⟨keep_far (keep_far p20_8 (by omega)) (by omega), keep_far (keep_far p21_8 (by omega)) (by omega)⟩
        clear hK K hHeld
        have hHeld := hHeld'
        clear hHeld'
        (try simp only [Act.put, List.setIfInBounds_toArray, List.set_cons_zero, List.set_cons_succ])
        refine wpAnyH_take (i := 11) (oi := ?_) (v := ?_) ?_ (by kernel_rfl) (by kernel_rfl) (by kernel_rfl) ?_ (Or.inl ⟨?_, ?_⟩) (by assumption) ?_
        rotate_left 2
        · (simp only [List.getElem?_toArray, List.getElem?_cons_zero, List.getElem?_cons_succ]; rfl)
        · exact fun _ _ _ h => h
        · rfl
        · (intro wS hSw; (try dsimp only at hSw); go_simp; (try with_reducible rfl))
        (try simp only [Act.put, List.setIfInBounds_toArray, List.set_cons_zero, List.set_cons_succ])
        refine wpAnyH_done (by kernel_rfl) ?_ _
        (try go_wp2_with fail)
        go_meet
        case rel =>
          have owk : OwnT w8 w7.heap.size w8.heap.size r8 m8 d8 ta := ⟨cs8, ho8⟩
          exact ⟨w5.heap.size, r8, m8, d8, w7.heap.size, w8.heap.size, rfl, rfl, set2_0 hq8 _ _, set2_1 hq8 _ _, owk.set2 (.inl (by omega)) _ _, by omega, by simp [World.setCell], by omega, by simp only [World.setCell, Array.size_modify]; omega, .inl (by omega), (Y_8.setCell (by show w2.heap.size ≤ w5.heap.size; omega) _).setCell (by show w2.heap.size ≤ w5.heap.size; omega) _⟩
    refine AllReadyH.cons (o := ?_) ?_ (fun K hK => ?_) AllReadyH.nil
    rotate_left
    · (simp only [List.getElem?_toArray, List.getElem?_cons_zero, List.getElem?_cons_succ]; rfl)
    · go_simp
      (try go_wp2_with fail)
      refine hK.out _ _ ?_ (fun hHeld' => ?_)
      · (try dsimp only)
        exact ⟨cell_later ((Below.refl _ _).alloc (Nat.le_refl _) _) p20_4, cell_later ((Below.refl _ _).alloc (Nat.le_refl _) _) p21_4⟩
      clear hK K hHeld
      have hHeld := hHeld'
      clear hHeld'
      (try simp only [Act.put, List.setIfInBounds_toArray, List.set_cons_zero, List.set_cons_succ])
      obtain ⟨w5, hU5⟩ : ∃ u, u = w4.alloc (.cells #[.int .i64 0, .slice none 0 0] 40) := ⟨_, rfl⟩
      have hb5 : Below w4.heap.size w4 w5 := by rw [hU5]; exact (Below.refl _ _).alloc (Nat.le_refl _) _
      have zp5 : w4.heap.size < w5.heap.size := by rw [hU5]; simp
      have hp5 : w5.heap[w4.heap.size]? = some (.cells #[.int .i64 0, .slice none 0 0] 40 (0, 0)) := by rw [hU5]; exact heap_alloc_new _ _
      rw [← hU5]
      clear hU5
      have p20_5 := cell_later hb5 p20_4
      have p21_5 := cell_later hb5 p21_4
      have B_5 := B_4.trans (hb5.mono B_4.size)
      have Y_5 : Below w2.heap.size w2 w5 := Y_4.trans (hb5.mono Y_4.size)
      have zz5 : w4.heap.size ≤ w5.heap.size := by have q := hb5.size; first | exact q | simpa using q
      refine wpAnyH_ready (rs := [1]) (by kernel_rfl) (by simp) ?_
      refine AllReadyH.cons (o := ?_) ?_ (fun K hK => ?_) AllReadyH.nil
      rotate_left
      · (simp only [List.getElem?_toArray, List.getElem?_cons_zero, List.getElem?_cons_succ]; rfl)
      go_simp
      go_at_call 9
      refine (toDependSG a0 n0 c0 z0 _ HSM0.out (AtSl.below HA0.out B_5)).mono ?_
      rintro e w6 ⟨g6, rfl, ho6, hb6⟩
      have p20_6 := cell_later hb6 p20_5
      have p21_6 := cell_later hb6 p21_5
      have hq6 := (hb6.block (w4.heap.size) (Array.getElem?_eq_some_iff.1 hp5).1).trans hp5
      have B_6 := B_5.trans (hb6.mono B_5.size)
      have Y_6 : Below w2.heap.size w2 w6 := Y_5.trans (hb6.mono Y_5.size)
      have zz6 : w5.heap.size ≤ w6.heap.size := by have q := hb6.size; first | exact q | simpa using q
      have ot0_6 := Hid.mk ho6
      (try go_wp2_with fail)
      refine hK.out _ _ ?_ (fun hHeld' => ?_)
      · (try dsimp only)
        exact ⟨p20_6, p21_6⟩
      clear hK K hHeld
      have hHeld := hHeld'
      clear hHeld'
      (try simp only [Act.put, List.setIfInBounds_toArray, List.set_cons_zero, List.set_cons_succ])
      refine wpAnyH_ready (rs := [4]) (by kernel_rfl) (by simp) ?_
      refine AllReadyH.cons (o := ?_) ?_ (fun K hK => ?_) AllReadyH.nil
      rotate_left
      · (simp only [List.getElem?_toArray, List.getElem?_cons_zero, List.getElem?_cons_succ]; rfl)
      go_simp
      go_at_call 19
      refine (toDepend_any fa2 fn2 fc2 ta2 tn2 tc2 zf2 zt2 _ HZ2.out.1 HZ2.out.2 hs12 hs22 (At.below HA2.out.1 B_6) (At.below HA2.out.2 B_6)).mono ?_
      rintro e w7 ⟨g7_1, g7_2, rfl, ho7, hb7⟩
      have p20_7 := cell_later hb7 p20_6
      have p21_7 := cell_later hb7 p21_6
      have ot0_7 := Hid.mk (RDeps.ownBelow ot0_6.out hb7)
      have hq7 := (hb7.block (w4.heap.size) (Array.getElem?_eq_some_iff.1 hq6).1).trans hq6
      have B_7 := B_6.trans (hb7.mono B_6.size)
      have Y_7 : Below w2.heap.size w2 w7 := Y_6.trans (hb7.mono Y_6.size)
      have zz7 : w6.heap.size ≤ w7.heap.size := by have q := hb7.size; first | exact q | simpa using q
      have ot2_7 := Hid.mk ho7
      (try go_wp2_with fail)
      refine hK.out _ _ ?_ (fun hHeld' => ?_)
      · (try dsimp only)
        exact ⟨p20_7, p21_7⟩
      clear hK K hHeld
      have hHeld := hHeld'
      clear hHeld'
      (try simp only [Act.put, List.setIfInBounds_toArray, List.set_cons_zero, List.set_cons_succ])
      refine wpAnyH_ready (rs := [5]) (by kernel_rfl) (by simp) ?_
      refine AllReadyH.cons (o := ?_) ?_ (fun K hK => ?_) AllReadyH.nil
      rotate_left
      · (simp only [List.getElem?_toArray, List.getElem?_cons_zero, List.getElem?_cons_succ]; rfl)
      go_simp
      go_at_call 18
      refine (HS.out _ _ _ _ _ _ ot0_7.out ot2_7.out).mono ?_
      rintro e w8 ⟨⟨r8, m8, d8, cs8, rfl, ho8⟩, hb8⟩
      have p20_8 := cell_later hb8 p20_7
      have p21_8 := cell_later hb8 p21_7
      have hq8 := (hb8.block (w4.heap.size) (Array.getElem?_eq_some_iff.1 hq7).1).trans hq7
      have B_8 := B_7.trans (hb8.mono B_7.size)
      have Y_8 : Below w2.heap.size w2 w8 := Y_7.trans (hb8.mono Y_7.size)
      have zz8 : w7.heap.size ≤ w8.heap.size := by have q := hb8.size; first | exact q | simpa using q
      (try go_wp2_with fail)
      refine hK.out _ _ ?_ (fun hHeld' => ?_)
      · (try dsimp only)
        exact ⟨p20_8, p21_8⟩
      clear hK K hHeld
      have hHeld := hHeld'
      clear hHeld'
      (try simp only [Act.put, List.setIfInBounds_toArray, List.set_cons_zero, List.set_cons_succ])
      refine wpAnyH_take (i := 6) (oi := ?_) (v := ?_) ?_ (by kernel_rfl) (by kernel_rfl) (by kernel_rfl) ?_ (Or.inl ⟨?_, ?_⟩) (by assumption) ?_
      rotate_left 2
      · (simp only [List.getElem?_toArray, List.getElem?_cons_zero, List.getElem?_cons_succ]; rfl)
      · exact fun _ _ _ h => h
      · rfl
      · (intro wS hSw; (try dsimp only at hSw); go_simp; (try with_reducible rfl))
      (try simp only [Act.put, List.setIfInBounds_toArray, List.set_cons_zero, List.set_cons_succ])
      refine wpAnyH_take (i := 7) (oi := ?_) (v := ?_) ?_ (by kernel_rfl) (by kernel_rfl) (by kernel_rfl) ?_ (Or.inl ⟨?_, ?_⟩) (by assumption) ?_
      rotate_left 2
      · (simp only [List.getElem?_toArray, List.getElem?_cons_zero, List.getElem?_cons_succ]; rfl)
      · exact fun _ _ _ h => h
      · rfl
      · (intro wS hSw; (try dsimp only at hSw); go_simp; (try with_reducible rfl))
      (try simp only [Act.put, List.setIfInBounds_toArray, List.set_cons_zero, List.set_cons_succ])
      refine wpAnyH_take (i := 8) (oi := ?_) (v := ?_) ?_ (by kernel_rfl) (by kernel_rfl) (by kernel_rfl) ?_ (Or.inl ⟨?_, ?_⟩) (by assumption) ?_
      rotate_left 2
      · (simp only [List.getElem?_toArray, List.getElem?_cons_zero, List.getElem?_cons_succ]; rfl)
      · exact fun _ _ _ h => h
      · rfl
      · (intro wS hSw; (try dsimp only at hSw); go_simp; (try with_reducible rfl))
      (try simp only [Act.put, List.setIfInBounds_toArray, List.set_cons_zero, List.set_cons_succ])
      have u0 : w8.cell? ⟨w4.heap.size, 0, none⟩ = some (.int .i64 0) := by rw [cell_of_row _ _ 0 _ _ (0, 0) hq8]; rfl
      have u1 : w8.cell? ⟨w4.heap.size, 1, none⟩ = some (.slice none 0 0) := by rw [cell_of_row _ _ 1 _ _ (0, 0) hq8]; rfl
      have v0 : w8.frozen? ⟨w4.heap.size, 0, none⟩ = false := frozen_of_row _ _ 0 _ _ hq8
      have v1 : w8.frozen? ⟨w4.heap.size, 1, none⟩ = false := frozen_of_row _ _ 1 _ _ hq8
      refine wpAnyH_ready (rs := [10]) (by kernel_rfl) (by simp) ?_
      refine AllReadyH.cons (o := ?_) ?_ (fun K hK => ?_) AllReadyH.nil
      rotate_left
      · (simp only [List.getElem?_toArray, List.getElem?_cons_zero, List.getElem?_cons_succ]; rfl)
      go_simp
      skip
      (try go_wp2_with fail)
      refine hK.out _ _ ?_ (fun hHeld' => ?_)
      · (try dsimp only)
        exact ⟨keep_far (keep_far p20_8 (by omega)) (by omega), keep_far (keep_far p21_8 (by omega)) (by omega)⟩
      clear hK K hHeld
      have hHeld := hHeld'
      clear hHeld'
      (try simp only [Act.put, List.setIfInBounds_toArray, List.set_cons_zero, List.set_cons_succ])
      refine wpAnyH_take (i := 11) (oi := ?_) (v := ?_) ?_ (by kernel_rfl) (by kernel_rfl) (by kernel_rfl) ?_ (Or.inl ⟨?_, ?_⟩) (by assumption) ?_
      rotate_left 2
      · (simp only [List.getElem?_toArray, List.getElem?_cons_zero, List.getElem?_cons_succ]; rfl)
      · exact fun _ _ _ h => h
      · rfl
      · (intro wS hSw; (try dsimp only at hSw); go_simp; (try with_reducible rfl))
      (try simp only [Act.put, List.setIfInBounds_toArray, List.set_cons_zero, List.set_cons_succ])
      refine wpAnyH_done (by kernel_rfl) ?_ _
      (try go_wp2_with fail)
      go_meet
      case rel =>
        have owk : OwnT w8 w7.heap.size w8.heap.size r8 m8 d8 ta := ⟨cs8, ho8⟩
        exact ⟨w4.heap.size, r8, m8, d8, w7.heap.size, w8.heap.size, rfl, rfl, set2_0 hq8 _ _, set2_1 hq8 _ _, owk.set2 (.inl (by omega)) _ _, by omega, by simp [World.setCell], by omega, by simp only [World.setCell, Array.size_modify]; omega, .inl (by omega), (Y_8.setCell (by show w2.heap.size ≤ w4.heap.size; omega) _).setCell (by show w2.heap.size ≤ w4.heap.size; omega) _⟩
  case rest =>
    obtain ⟨Pb63, r63, m63, d63, lo63, hi63, rfl, rfl, Wt0_63, Wt1_63, ow63, pl63, ph63, pm63, pn63, pd63, hb63⟩ := hcut
    obtain ⟨w63, rfl⟩ : ∃ x, x = wc := ⟨_, rfl⟩
    obtain rfl : na = m63 := HNA.out.symm.trans ow63.len
    have oo_63 := Hid.mk ow63
    clear ow63
    have p20_63 := cell_later hb63 p20_2
    have p21_63 := cell_later hb63 p21_2
    have B_63 := B_2.trans (hb63.mono B_2.size)
    have zz63 : w2.heap.size ≤ w63.heap.size := hb63.size
    clear p20_2 p21_2 B_2
    clear hb63
    go_wp2_with fail
    refine (toDependSG a0 n0 c0 z0 _ HSM0.out (AtSl.below HA0.out B_63)).mono ?_
    rintro e w64 ⟨g64, rfl, ho64, hb64⟩
    have ox0_64 := Hid.mk ho64
    clear ho64
    have p20_64 := cell_later hb64 p20_63
    have p21_64 := cell_later hb64 p21_63
    have Wt0_64 := cell_later hb64 Wt0_63
    have Wt1_64 := cell_later hb64 Wt1_63
    have oo_64 := Hid.mk (OwnT.below oo_63.out hb64)
    have B_64 := B_63.trans (hb64.mono B_63.size)
    have zz64 : w63.heap.size ≤ w64.heap.size := hb64.size
    clear p20_63 p21_63 Wt0_63 Wt1_63 oo_63 B_63
    clear hb64
    go_wp2_with fail
    refine (toDepend_any fa2 fn2 fc2 ta2 tn2 tc2 zf2 zt2 _ HZ2.out.1 HZ2.out.2 hs12 hs22 (At.below HA2.out.1 B_64) (At.below HA2.out.2 B_64)).mono ?_
    rintro e w65 ⟨g65_1, g65_2, rfl, ho65, hb65⟩
    have ox2_65 := Hid.mk ho65
    clear ho65
    have p20_65 := cell_later hb65 p20_64
    have p21_65 := cell_later hb65 p21_64
    have Wt0_65 := cell_later hb65 Wt0_64
    have Wt1_65 := cell_later hb65 Wt1_64
    have oo_65 := Hid.mk (OwnT.below oo_64.out hb65)
    have ox0_65 := Hid.mk (RDeps.ownBelow ox0_64.out hb65)
    have B_65 := B_64.trans (hb65.mono B_64.size)
    have zz65 : w64.heap.size ≤ w65.heap.size := hb65.size
    clear p20_64 p21_64 Wt0_64 Wt1_64 oo_64 ox0_64 B_64
    clear hb65
    obtain ⟨w66, hU66⟩ : ∃ u, u = w65.alloc (.cells #[.slice (some ⟨g65_1, 0, none⟩) fn2 fn2, .slice (some ⟨g65_2, 0, none⟩) tn2 tn2] 43) := ⟨_, rfl⟩
    have hb66 : Below w65.heap.size w65 w66 := by rw [hU66]; exact (Below.refl _ _).alloc (Nat.le_refl _) _
    have zl66 : w65.heap.size < w66.heap.size := by rw [hU66]; simp
    have nX20 : w66.cell? ⟨w65.heap.size, 0, none⟩ = some (.slice (some ⟨g65_1, 0, none⟩) fn2 fn2) := by rw [hU66]; simp
    have nX21 : w66.cell? ⟨w65.heap.size, 1, none⟩ = some (.slice (some ⟨g65_2, 0, none⟩) tn2 tn2) := by rw [hU66]; simp
    have p20_66 := cell_later hb66 p20_65
    have p21_66 := cell_later hb66 p21_65
    have Wt0_66 := cell_later hb66 Wt0_65
    have Wt1_66 := cell_later hb66 Wt1_65
    have oo_66 := Hid.mk (OwnT.below oo_65.out hb66)
    have ox0_66 := Hid.mk (RDeps.ownBelow ox0_65.out hb66)
    have ox2_66 := Hid.mk (RDep.ownBelow ox2_65.out hb66)
    have B_66 := B_65.trans (hb66.mono B_65.size)
    have zz66 : w65.heap.size ≤ w66.heap.size := hb66.size
    clear p20_65 p21_65 Wt0_65 Wt1_65 oo_65 ox0_65 ox2_65 B_65
    clear hb66
    have xp20 := p20_66
    rw [hU66] at xp20
    have xp21 := p21_66
    rw [hU66] at xp21
    have xWt0 := Wt0_66
    rw [hU66] at xWt0
    have xWt1 := Wt1_66
    rw [hU66] at xWt1
    have xX20 := nX20
    rw [hU66] at xX20
    have xX21 := nX21
    rw [hU66] at xX21
    go_wp2_with fail
    rw [← hU66]
    clear hU66
    clear xp20 xp21 xWt0 xWt1 xX20 xX21
    refine (HI.out _ _ _ _ _ _ ox0_66.out ox2_66.out (TabIs.below HTAB.out B_66)).mono ?_
    rintro e w67 ⟨⟨r67, m67, d67, cs67, rfl, ho67⟩, hb67⟩
    have ow67 : OwnT w67 (w66.heap.size) w67.heap.size r67 m67 d67 ta := ⟨cs67, ho67⟩
    obtain rfl : na = m67 := HNA.out.symm.trans ow67.len
    have og_67 := Hid.mk ow67
    clear ho67 ow67
    have p20_67 := cell_later hb67 p20_66
    have p21_67 := cell_later hb67 p21_66
    have Wt0_67 := cell_later hb67 Wt0_66
    have Wt1_67 := cell_later hb67 Wt1_66
    have X20_67 := cell_later hb67 nX20
    have X21_67 := cell_later hb67 nX21
    have oo_67 := Hid.mk (OwnT.below oo_66.out hb67)
    have ox0_67 := Hid.mk (RDeps.ownBelow ox0_66.out hb67)
    have ox2_67 := Hid.mk (RDep.ownBelow ox2_66.out hb67)
    have B_67 := B_66.trans (hb67.mono B_66.size)
    have zz67 : w66.heap.size ≤ w67.heap.size := hb67.size
    clear p20_66 p21_66 Wt0_66 Wt1_66 nX20 nX21 oo_66 ox0_66 ox2_66 B_66
    clear hb67
    obtain ⟨w68, hU68⟩ : ∃ u, u = w67.alloc (.cells #[.int .i64 pa, .slice r67 na d67] 40) := ⟨_, rfl⟩
    have hb68 : Below w67.heap.size w67 w68 := by rw [hU68]; exact (Below.refl _ _).alloc (Nat.le_refl _) _
    have zl68 : w67.heap.size < w68.heap.size := by rw [hU68]; simp
    have nGt0 : w68.cell? ⟨w67.heap.size, 0, none⟩ = some (.int .i64 pa) := by rw [hU68]; simp
    have nGt1 : w68.cell? ⟨w67.heap.size, 1, none⟩ = some (.slice r67 na d67) := by rw [hU68]; simp
    have p20_68 := cell_later hb68 p20_67
    have p21_68 := cell_later hb68 p21_67
    have Wt0_68 := cell_later hb68 Wt0_67
    have Wt1_68 := cell_later hb68 Wt1_67
    have X20_68 := cell_later hb68 X20_67
    have X21_68 := cell_later hb68 X21_67
    have oo_68 := Hid.mk (OwnT.below oo_67.out hb68)
    have ox0_68 := Hid.mk (RDeps.ownBelow ox0_67.out hb68)
    have ox2_68 := Hid.mk (RDep.ownBelow ox2_67.out hb68)
    have og_68 := Hid.mk (OwnT.below og_67.out hb68)
    have B_68 := B_67.trans (hb68.mono B_67.size)
    have zz68 : w67.heap.size ≤ w68.heap.size := hb68.size
    clear p20_67 p21_67 Wt0_67 Wt1_67 X20_67 X21_67 oo_67 ox0_67 ox2_67 og_67 B_67
    clear hb68
    have xp20 := p20_68
    rw [hU68] at xp20
    have xp21 := p21_68
    rw [hU68] at xp21
    have xWt0 := Wt0_68
    rw [hU68] at xWt0
    have xWt1 := Wt1_68
    rw [hU68] at xWt1
    have xX20 := X20_68
    rw [hU68] at xX20
    have xX21 := X21_68
    rw [hU68] at xX21
    have xGt0 := nGt0
    rw [hU68] at xGt0
    have xGt1 := nGt1
    rw [hU68] at xGt1
    go_wp2_with fail
    rw [← hU68]
    clear hU68
    clear xp20 xp21 xWt0 xWt1 xX20 xX21 xGt0 xGt1
    refine (eqTableG _ _ _ _ _ ta pa _ hsA (og_68.out.atW hsA) (oo_68.out.atW hsA)).mono ?_
    rintro e w69 ⟨rfl, hb69⟩
    have p20_69 := cell_later hb69 p20_68
    have p21_69 := cell_later hb69 p21_68
    have Wt0_69 := cell_later hb69 Wt0_68
    have Wt1_69 := cell_later hb69 Wt1_68
    have X20_69 := cell_later hb69 X20_68
    have X21_69 := cell_later hb69 X21_68
    have Gt0_69 := cell_later hb69 nGt0
    have Gt1_69 := cell_later hb69 nGt1
    have oo_69 := Hid.mk (OwnT.below oo_68.out hb69)
    have ox0_69 := Hid.mk (RDeps.ownBelow ox0_68.out hb69)
    have ox2_69 := Hid.mk (RDep.ownBelow ox2_68.out hb69)
    have og_69 := Hid.mk (OwnT.below og_68.out hb69)
    have B_69 := B_68.trans (hb69.mono B_68.size)
    have zz69 : w68.heap.size ≤ w69.heap.size := hb69.size
    clear p20_68 p21_68 Wt0_68 Wt1_68 X20_68 X21_68 nGt0 nGt1 oo_68 ox0_68 ox2_68 og_68 B_68
    clear hb69
    go_wp2_with fail
    refine (toDependSG a0 n0 c0 z0 _ HSM0.out (AtSl.below HA0.out B_69)).mono ?_
    rintro e w70 ⟨g70, rfl, ho70, hb70⟩
    have oy_70 := Hid.mk ho70
    clear ho70
    have p20_70 := cell_later hb70 p20_69
    have p21_70 := cell_later hb70 p21_69
    have Wt0_70 := cell_later hb70 Wt0_69
    have Wt1_70 := cell_later hb70 Wt1_69
    have X20_70 := cell_later hb70 X20_69
    have X21_70 := cell_later hb70 X21_69
    have Gt0_70 := cell_later hb70 Gt0_69
    have Gt1_70 := cell_later hb70 Gt1_69
    have oo_70 := Hid.mk (OwnT.below oo_69.out hb70)
    have ox0_70 := Hid.mk (RDeps.ownBelow ox0_69.out hb70)
    have ox2_70 := Hid.mk (RDep.ownBelow ox2_69.out hb70)
    have og_70 := Hid.mk (OwnT.below og_69.out hb70)
    have B_70 := B_69.trans (hb70.mono B_69.size)
    have zz70 : w69.heap.size ≤ w70.heap.size := hb70.size
    clear p20_69 p21_69 Wt0_69 Wt1_69 X20_69 X21_69 Gt0_69 Gt1_69 oo_69 ox0_69 ox2_69 og_69 B_69
    clear hb70
    go_wp2_with fail
    refine (eqDependSG _ _ n0 _ _ z0 _ HSM0.out (OwnD.atD0 ox0_70.out) (OwnD.atD0 oy_70.out)).mono ?_
    rintro e w71 ⟨rfl, hb71⟩
    clear oy_70
    have p20_71 := cell_later hb71 p20_70
    have p21_71 := cell_later hb71 p21_70
    have Wt0_71 := cell_later hb71 Wt0_70
    have Wt1_71 := cell_later hb71 Wt1_70
    have X20_71 := cell_later hb71 X20_70
    have X21_71 := cell_later hb71 X21_70
    have Gt0_71 := cell_later hb71 Gt0_70
    have Gt1_71 := cell_later hb71 Gt1_70
    have oo_71 := Hid.mk (OwnT.below oo_70.out hb71)
    have ox0_71 := Hid.mk (RDeps.ownBelow ox0_70.out hb71)
    have ox2_71 := Hid.mk (RDep.ownBelow ox2_70.out hb71)
    have og_71 := Hid.mk (OwnT.below og_70.out hb71)
    have B_71 := B_70.trans (hb71.mono B_70.size)
    have zz71 : w70.heap.size ≤ w71.heap.size := hb71.size
    clear p20_70 p21_70 Wt0_70 Wt1_70 X20_70 X21_70 Gt0_70 Gt1_70 oo_70 ox0_70 ox2_70 og_70 B_70
    clear hb71
    go_wp2_with fail
    refine wp_region_held_drew (S := fun w' => w'.cell? ⟨w65.heap.size, 0, none⟩ = some (.slice (some ⟨g65_1, 0, none⟩) fn2 fn2) ∧ w'.cell? ⟨w65.heap.size, 1, none⟩ = some (.slice (some ⟨g65_2, 0, none⟩) tn2 tn2) ∧ w'.cell? ⟨w.heap.size, 0, none⟩ = some (.slice fa2 fn2 fc2) ∧ w'.cell? ⟨w.heap.size, 1, none⟩ = some (.slice ta2 tn2 tc2)) (by kernel_rfl) ?_ (fun hHeld => ?_)
    · (try dsimp only)
      exact ⟨X20_71, X21_71, p20_71, p21_71⟩
    refine wpAnyH_take (i := 0) (oi := ?_) (v := ?_) ?_ (by kernel_rfl) (by kernel_rfl) (by kernel_rfl) ?_ (Or.inl ⟨?_, ?_⟩) (by assumption) ?_
    rotate_left 2
    · (simp only [List.getElem?_toArray, List.getElem?_cons_zero]; rfl)
    · exact fun _ _ _ h => h
    · rfl
    · (intro wS hSw; (try dsimp only at hSw); go_simp; (try with_reducible rfl))
    (try simp only [Act.put, List.setIfInBounds_toArray, List.set_cons_zero, List.set_cons_succ])
    refine wpAnyH_take (i := 1) (oi := ?_) (v := ?_) ?_ (by kernel_rfl) (by kernel_rfl) (by kernel_rfl) ?_ (Or.inl ⟨?_, ?_⟩) (by assumption) ?_
    rotate_left 2
    · (simp only [List.getElem?_toArray, List.getElem?_cons_zero, List.getElem?_cons_succ]; rfl)
    · exact fun _ _ _ h => h
    · rfl
    · (intro wS hSw; (try dsimp only at hSw); go_simp; (try with_reducible rfl))
    (try simp only [Act.put, List.setIfInBounds_toArray, List.set_cons_zero, List.set_cons_succ])
    refine wpAnyH_ready (rs := [2]) (by kernel_rfl) (by simp) ?_
    refine AllReadyH.cons (o := ?_) ?_ (fun K hK => ?_) AllReadyH.nil
    rotate_left
    · (simp only [List.getElem?_toArray, List.getElem?_cons_zero, List.getElem?_cons_succ]; rfl)
    go_simp
    go_at_call 19
    refine (toDepend_any fa2 fn2 fc2 ta2 tn2 tc2 zf2 zt2 _ HZ2.out.1 HZ2.out.2 hs12 hs22 (At.below HA2.out.1 B_71.drew) (At.below HA2.out.2 B_71.drew)).mono ?_
    rintro e w72 ⟨g72_1, g72_2, rfl, ho72, hd72⟩
    have hb72 : Below w71.heap.size w71 w72 := (Below.refl _ _).drew.trans hd72
    clear hd72
    have oy_72 := Hid.mk ho72
    clear ho72
    have p20_72 := cell_later hb72 p20_71
    have p21_72 := cell_later hb72 p21_71
    have Wt0_72 := cell_later hb72 Wt0_71
    have Wt1_72 := cell_later hb72 Wt1_71
    have X20_72 := cell_later hb72 X20_71
    have X21_72 := cell_later hb72 X21_71
    have Gt0_72 := cell_later hb72 Gt0_71
    have Gt1_72 := cell_later hb72 Gt1_71
    have oo_72 := Hid.mk (OwnT.below oo_71.out hb72)
    have ox0_72 := Hid.mk (RDeps.ownBelow ox0_71.out hb72)
    have ox2_72 := Hid.mk (RDep.ownBelow ox2_71.out hb72)
    have og_72 := Hid.mk (OwnT.below og_71.out hb72)
    have B_72 := B_71.trans (hb72.mono B_71.size)
    have zz72 : w71.heap.size ≤ w72.heap.size := hb72.size
    clear p20_71 p21_71 Wt0_71 Wt1_71 X20_71 X21_71 Gt0_71 Gt1_71 oo_71 ox0_71 ox2_71 og_71 B_71
    clear hb72
    (try go_wp2_with fail)
    refine hK.out _ _ ?_ (fun hHeld' => ?_)
    · (try dsimp only)
      exact ⟨X20_72, X21_72, p20_72, p21_72⟩
    clear hK K hHeld
    have hHeld := hHeld'
    clear hHeld'
    (try simp only [Act.put, List.setIfInBounds_toArray, List.set_cons_zero, List.set_cons_succ])
    refine wpAnyH_ready (rs := [3]) (by kernel_rfl) (by simp) ?_
    refine AllReadyH.cons (o := ?_) ?_ (fun K hK => ?_) AllReadyH.nil
    rotate_left
    · (simp only [List.getElem?_toArray, List.getElem?_cons_zero, List.getElem?_cons_succ]; rfl)
    go_simp
    go_at_call 22
    refine (eqDepend_same _ _ fn2 _ _ _ _ tn2 _ _ zf2 zt2 _ HZ2.out.1 HZ2.out.2 hs12 hs22 (dep_at ox2_72.out).1 (dep_at ox2_72.out).2 (dep_at oy_72.out).1 (dep_at oy_72.out).2).mono ?_
    rintro e w73 ⟨rfl, hb73⟩
    clear oy_72
    have p20_73 := cell_later hb73 p20_72
    have p21_73 := cell_later hb73 p21_72
    have Wt0_73 := cell_later hb73 Wt0_72
    have Wt1_73 := cell_later hb73 Wt1_72
    have X20_73 := cell_later hb73 X20_72
    have X21_73 := cell_later hb73 X21_72
    have Gt0_73 := cell_later hb73 Gt0_72
    have Gt1_73 := cell_later hb73 Gt1_72
    have oo_73 := Hid.mk (OwnT.below oo_72.out hb73)
    have ox0_73 := Hid.mk (RDeps.ownBelow ox0_72.out hb73)
    have ox2_73 := Hid.mk (RDep.ownBelow ox2_72.out hb73)
    have og_73 := Hid.mk (OwnT.below og_72.out hb73)
    have B_73 := B_72.trans (hb73.mono B_72.size)
    have zz73 : w72.heap.size ≤ w73.heap.size := hb73.size
    clear p20_72 p21_72 Wt0_72 Wt1_72 X20_72 X21_72 Gt0_72 Gt1_72 oo_72 ox0_72 ox2_72 og_72 B_72
    clear hb73
    (try go_wp2_with fail)
    refine hK.out _ _ ?_ (fun hHeld' => ?_)
    · (try dsimp only)
      exact ⟨X20_73, X21_73, p20_73, p21_73⟩
    clear hK K hHeld
    have hHeld := hHeld'
    clear hHeld'
    (try simp only [Act.put, List.setIfInBounds_toArray, List.set_cons_zero, List.set_cons_succ])
    refine wpAnyH_take (i := 4) (oi := ?_) (v := ?_) ?_ (by kernel_rfl) (by kernel_rfl) (by kernel_rfl) ?_ (Or.inl ⟨?_, ?_⟩) (by assumption) ?_
    rotate_left 2
    · (simp only [List.getElem?_toArray, List.getElem?_cons_zero, List.getElem?_cons_succ]; rfl)
    · exact fun _ _ _ h => h
    · rfl
    · (intro wS hSw; (try dsimp only at hSw); go_simp; (try with_reducible rfl))
    (try simp only [Act.put, List.setIfInBounds_toArray, List.set_cons_zero, List.set_cons_succ])
    refine wpAnyH_done (by kernel_rfl) ?_ _
    clear hHeld
    go_wp2_with fail
    refine (markDependS_rep (From (w63.heap.size) (w64.heap.size)) _ n0 _ z0 _ _ hsn0 HSM0.out.sum (by omega) (by omega) ox0_73.out).mono ?_
    rintro e w74 ⟨rfl, ho74, hg74⟩
    rw [HV0.out]
    have ox0_74 := Hid.mk ho74
    clear ho74
    have p20_74 := hg74.cell p20_73 (show ¬ From (w63.heap.size) (w64.heap.size) (w.heap.size) from fun h => by have h1 := h.1; have h2 := h.2; omega)
    have p21_74 := hg74.cell p21_73 (show ¬ From (w63.heap.size) (w64.heap.size) (w.heap.size) from fun h => by have h1 := h.1; have h2 := h.2; omega)
    have Wt0_74 := hg74.cell Wt0_73 (show ¬ From (w63.heap.size) (w64.heap.size) (Pb63) from fun h => by have h1 := h.1; have h2 := h.2; omega)
    have Wt1_74 := hg74.cell Wt1_73 (show ¬ From (w63.heap.size) (w64.heap.size) (Pb63) from fun h => by have h1 := h.1; have h2 := h.2; omega)
    have X20_74 := hg74.cell X20_73 (show ¬ From (w63.heap.size) (w64.heap.size) (w65.heap.size) from fun h => by have h1 := h.1; have h2 := h.2; omega)
    have X21_74 := hg74.cell X21_73 (show ¬ From (w63.heap.size) (w64.heap.size) (w65.heap.size) from fun h => by have h1 := h.1; have h2 := h.2; omega)
    have Gt0_74 := hg74.cell Gt0_73 (show ¬ From (w63.heap.size) (w64.heap.size) (w67.heap.size) from fun h => by have h1 := h.1; have h2 := h.2; omega)
    have Gt1_74 := hg74.cell Gt1_73 (show ¬ From (w63.heap.size) (w64.heap.size) (w67.heap.size) from fun h => by have h1 := h.1; have h2 := h.2; omega)
    have oo_74 := Hid.mk (OwnT.apartW oo_73.out (Off.apart hg74) (by omega))
    have ox2_74 := Hid.mk (RDep.ownOff ox2_73.out hg74 (fun b h1 h2 => by have h3 := h1.1; have h4 := h1.2; have h5 := h2.1; have h6 := h2.2; omega))
    have og_74 := Hid.mk (OwnT.apartW og_73.out (Off.apart hg74) (by omega))
    have B_74 := B_73.trans (hg74.toBelow (by omega) B_73.size)
    have zz74 : w73.heap.size ≤ w74.heap.size := hg74.size
    clear p20_73 p21_73 Wt0_73 Wt1_73 X20_73 X21_73 Gt0_73 Gt1_73 oo_73 ox0_73 ox2_73 og_73 B_73
    clear hg74
    go_wp2_with fail
    refine (markDepend_rep (From (w64.heap.size) (w65.heap.size)) _ fn2 _ _ tn2 _ zf2 zt2 _ _ hs12 hs22 (by omega) (by omega) (fun b h => by have h2 := h.2; omega) ox2_74.out).mono ?_
    rintro e w75 ⟨rfl, ho75, hg75⟩
    rw [HV2.out]
    have ox2_75 := Hid.mk ho75
    clear ho75
    have p20_75 := hg75.cell p20_74 (show ¬ From (w64.heap.size) (w65.heap.size) (w.heap.size) from fun h => by have h1 := h.1; have h2 := h.2; omega)
    have p21_75 := hg75.cell p21_74 (show ¬ From (w64.heap.size) (w65.heap.size) (w.heap.size) from fun h => by have h1 := h.1; have h2 := h.2; omega)
    have Wt0_75 := hg75.cell Wt0_74 (show ¬ From (w64.heap.size) (w65.heap.size) (Pb63) from fun h => by have h1 := h.1; have h2 := h.2; omega)
    have Wt1_75 := hg75.cell Wt1_74 (show ¬ From (w64.heap.size) (w65.heap.size) (Pb63) from fun h => by have h1 := h.1; have h2 := h.2; omega)
    have X20_75 := hg75.cell X20_74 (show ¬ From (w64.heap.size) (w65.heap.size) (w65.heap.size) from fun h => by have h1 := h.1; have h2 := h.2; omega)
    have X21_75 := hg75.cell X21_74 (show ¬ From (w64.heap.size) (w65.heap.size) (w65.heap.size) from fun h => by have h1 := h.1; have h2 := h.2; omega)
    have Gt0_75 := hg75.cell Gt0_74 (show ¬ From (w64.heap.size) (w65.heap.size) (w67.heap.size) from fun h => by have h1 := h.1; have h2 := h.2; omega)
    have Gt1_75 := hg75.cell Gt1_74 (show ¬ From (w64.heap.size) (w65.heap.size) (w67.heap.size) from fun h => by have h1 := h.1; have h2 := h.2; omega)
    have oo_75 := Hid.mk (OwnT.apartW oo_74.out (Off.apart hg75) (by omega))
    have ox0_75 := Hid.mk (RDeps.ownOff ox0_74.out hg75 (fun b h1 h2 => by have h3 := h1.1; have h4 := h1.2; have h5 := h2.1; have h6 := h2.2; omega))
    have og_75 := Hid.mk (OwnT.apartW og_74.out (Off.apart hg75) (by omega))
    have B_75 := B_74.trans (hg75.toBelow (by omega) B_74.size)
    have zz75 : w74.heap.size ≤ w75.heap.size := hg75.size
    clear p20_74 p21_74 Wt0_74 Wt1_74 X20_74 X21_74 Gt0_74 Gt1_74 oo_74 ox0_74 ox2_74 og_74 B_74
    clear hg75
    have kpos : ¬ (1 : Int) + (V0 : Int) + (V2 : Int) < 0 := by omega
    go_wp2_with fail
    refine (eqTableG _ _ _ _ _ ta pa _ hsA (og_75.out.atW hsA) (oo_75.out.atW hsA)).mono ?_
    rintro e w76 ⟨rfl, hb76⟩
    have p20_76 := cell_later hb76 p20_75
    have p21_76 := cell_later hb76 p21_75
    have Wt0_76 := cell_later hb76 Wt0_75
    have Wt1_76 := cell_later hb76 Wt1_75
    have X20_76 := cell_later hb76 X20_75
    have X21_76 := cell_later hb76 X21_75
    have Gt0_76 := cell_later hb76 Gt0_75
    have Gt1_76 := cell_later hb76 Gt1_75
    have oo_76 := Hid.mk (OwnT.below oo_75.out hb76)
    have ox0_76 := Hid.mk (RDeps.ownBelow ox0_75.out hb76)
    have ox2_76 := Hid.mk (RDep.ownBelow ox2_75.out hb76)
    have og_76 := Hid.mk (OwnT.below og_75.out hb76)
    have B_76 := B_75.trans (hb76.mono B_75.size)
    have zz76 : w75.heap.size ≤ w76.heap.size := hb76.size
    clear p20_75 p21_75 Wt0_75 Wt1_75 X20_75 X21_75 Gt0_75 Gt1_75 oo_75 ox0_75 ox2_75 og_75 B_75
    clear hb76
    clear ox0_76
    clear ox2_76
    go_wp2_with fail
    refine (markTableG (w66.heap.size) (w67.heap.size) _ _ _ ta pa 1 _ hsA (by omega) (by omega) og_76.out).mono ?_
    rintro e w77 ⟨rfl, ho77, hp77⟩
    have og_77 := Hid.mk ho77
    have hg77 := Off.of_apart hp77
    clear ho77 hp77
    have p20_77 := hg77.cell p20_76 (show ¬ From (w66.heap.size) (w67.heap.size) (w.heap.size) from fun h => by have h1 := h.1; have h2 := h.2; omega)
    have p21_77 := hg77.cell p21_76 (show ¬ From (w66.heap.size) (w67.heap.size) (w.heap.size) from fun h => by have h1 := h.1; have h2 := h.2; omega)
    have Wt0_77 := hg77.cell Wt0_76 (show ¬ From (w66.heap.size) (w67.heap.size) (Pb63) from fun h => by have h1 := h.1; have h2 := h.2; omega)
    have Wt1_77 := hg77.cell Wt1_76 (show ¬ From (w66.heap.size) (w67.heap.size) (Pb63) from fun h => by have h1 := h.1; have h2 := h.2; omega)
    have X20_77 := hg77.cell X20_76 (show ¬ From (w66.heap.size) (w67.heap.size) (w65.heap.size) from fun h => by have h1 := h.1; have h2 := h.2; omega)
    have X21_77 := hg77.cell X21_76 (show ¬ From (w66.heap.size) (w67.heap.size) (w65.heap.size) from fun h => by have h1 := h.1; have h2 := h.2; omega)
    have Gt0_77 := hg77.cell Gt0_76 (show ¬ From (w66.heap.size) (w67.heap.size) (w67.heap.size) from fun h => by have h1 := h.1; have h2 := h.2; omega)
    have Gt1_77 := hg77.cell Gt1_76 (show ¬ From (w66.heap.size) (w67.heap.size) (w67.heap.size) from fun h => by have h1 := h.1; have h2 := h.2; omega)
    have oo_77 := Hid.mk (OwnT.apartW oo_76.out (Off.apart hg77) (by omega))
    have B_77 := B_76.trans (hg77.toBelow (by omega) B_76.size)
    have zz77 : w76.heap.size ≤ w77.heap.size := hg77.size
    clear p20_76 p21_76 Wt0_76 Wt1_76 X20_76 X21_76 Gt0_76 Gt1_76 oo_76 og_76 B_76
    clear hg77
    have gpos : ¬ (1 : Int) + (wtot ta na : Nat) < 0 := by omega
    go_wp2_with fail
    refine (heldTableG _ _ _ ta pa 1 _ hsA (by omega) (by omega) (og_77.out.atMark hsA)).mono ?_
    rintro e w78 ⟨rfl, hb78⟩
    have p20_78 := cell_later hb78 p20_77
    have p21_78 := cell_later hb78 p21_77
    have Wt0_78 := cell_later hb78 Wt0_77
    have Wt1_78 := cell_later hb78 Wt1_77
    have X20_78 := cell_later hb78 X20_77
    have X21_78 := cell_later hb78 X21_77
    have Gt0_78 := cell_later hb78 Gt0_77
    have Gt1_78 := cell_later hb78 Gt1_77
    have oo_78 := Hid.mk (OwnT.below oo_77.out hb78)
    have og_78 := Hid.mk (OwnT.below og_77.out hb78)
    have B_78 := B_77.trans (hb78.mono B_77.size)
    have zz78 : w77.heap.size ≤ w78.heap.size := hb78.size
    clear p20_77 p21_77 Wt0_77 Wt1_77 X20_77 X21_77 Gt0_77 Gt1_77 oo_77 og_77 B_77
    clear hb78
    go_upto_region 31 with fail
    go_cut [17, 18] (fun ta' tb wx => ∃ (Pb : Nat) (r : Option Addr) (m d lo hi : Nat), ta' = .pointer (some ⟨Pb, 0, none⟩) ∧ tb = .bool ok ∧ wx.cell? ⟨Pb, 0, none⟩ = some (.int .i64 pa) ∧ wx.cell? ⟨Pb, 1, none⟩ = some (.slice r m d) ∧ OwnT wx lo hi r m d ta ∧ w78.heap.size ≤ lo ∧ hi ≤ wx.heap.size ∧ w78.heap.size ≤ Pb ∧ Pb < wx.heap.size ∧ (Pb < lo ∨ hi ≤ Pb) ∧ Below w78.heap.size w78 wx)
    case first =>
      refine wp_region_held_drew (S := fun w' => w'.cell? ⟨w.heap.size, 0, none⟩ = some (.slice fa2 fn2 fc2) ∧ w'.cell? ⟨w.heap.size, 1, none⟩ = some (.slice ta2 tn2 tc2)) (by kernel_rfl) ?_ (fun hHeld => ?_)
      · (try dsimp only)
        exact ⟨p20_78, p21_78⟩
      refine wpAnyH_take (i := 0) (oi := ?_) (v := ?_) ?_ (by kernel_rfl) (by kernel_rfl) (by kernel_rfl) ?_ (Or.inl ⟨?_, ?_⟩) (by assumption) ?_
      rotate_left 2
      · (simp only [List.getElem?_toArray, List.getElem?_cons_zero]; rfl)
      · exact fun _ _ _ h => h
      · rfl
      · (intro wS hSw; (try dsimp only at hSw); go_simp; (try with_reducible rfl))
      (try simp only [Act.put, List.setIfInBounds_toArray, List.set_cons_zero, List.set_cons_succ])
      refine wpAnyH_take (i := 2) (oi := ?_) (v := ?_) ?_ (by kernel_rfl) (by kernel_rfl) (by kernel_rfl) ?_ (Or.inl ⟨?_, ?_⟩) (by assumption) ?_
      rotate_left 2
      · (simp only [List.getElem?_toArray, List.getElem?_cons_zero, List.getElem?_cons_succ]; rfl)
      · exact fun _ _ _ h => h
      · rfl
      · (intro wS hSw; (try dsimp only at hSw); go_simp; (try with_reducible rfl))
      (try simp only [Act.put, List.setIfInBounds_toArray, List.set_cons_zero, List.set_cons_succ])
      refine wpAnyH_take (i := 3) (oi := ?_) (v := ?_) ?_ (by kernel_rfl) (by kernel_rfl) (by kernel_rfl) ?_ (Or.inl ⟨?_, ?_⟩) (by assumption) ?_
      rotate_left 2
      · (simp only [List.getElem?_toArray, List.getElem?_cons_zero, List.getElem?_cons_succ]; rfl)
      · exact fun _ _ _ h => h
      · rfl
      · (intro wS hSw; (try dsimp only at hSw); go_simp; (try with_reducible rfl))
      (try simp only [Act.put, List.setIfInBounds_toArray, List.set_cons_zero, List.set_cons_succ])
      obtain ⟨w80, hU80⟩ : ∃ u, u = w78.drew := ⟨_, rfl⟩
      have hb80 : Below w78.heap.size w78 w80 := by rw [hU80]; exact (Below.refl _ _).drew
      rw [← hU80]
      clear hU80
      have p20_80 := cell_later hb80 p20_78
      have p21_80 := cell_later hb80 p21_78
      have B_80 := B_78.trans (hb80.mono B_78.size)
      have Y_80 : Below w78.heap.size w78 w80 := hb80
      have zz80 : w78.heap.size ≤ w80.heap.size := by have q := hb80.size; first | exact q | simpa using q
      refine wpAnyH_ready (rs := [1, 9]) (by kernel_rfl) (by simp) ?_
      refine AllReadyH.cons (o := ?_) ?_ (fun K hK => ?_) ?_
      rotate_left
      · (simp only [List.getElem?_toArray, List.getElem?_cons_zero, List.getElem?_cons_succ]; rfl)
      · go_simp
        go_at_call 9
        refine (toDependSG a0 n0 c0 z0 _ HSM0.out (AtSl.below HA0.out B_80)).mono ?_
        rintro e w81 ⟨g81, rfl, ho81, hb81⟩
        have p20_81 := cell_later hb81 p20_80
        have p21_81 := cell_later hb81 p21_80
        have B_81 := B_80.trans (hb81.mono B_80.size)
        have Y_81 : Below w78.heap.size w78 w81 := Y_80.trans (hb81.mono Y_80.size)
        have zz81 : w80.heap.size ≤ w81.heap.size := by have q := hb81.size; first | exact q | simpa using q
        have oh0_81 := Hid.mk ho81
        (try go_wp2_with fail)
        refine hK.out _ _ ?_ (fun hHeld' => ?_)
        · (try dsimp only)
          exact ⟨p20_81, p21_81⟩
        clear hK K hHeld
        have hHeld := hHeld'
        clear hHeld'
        (try simp only [Act.put, List.setIfInBounds_toArray, List.set_cons_zero, List.set_cons_succ])
        refine wpAnyH_ready (rs := [4, 9]) (by kernel_rfl) (by simp) ?_
        refine AllReadyH.cons (o := ?_) ?_ (fun K hK => ?_) ?_
        rotate_left
        · (simp only [List.getElem?_toArray, List.getElem?_cons_zero, List.getElem?_cons_succ]; rfl)
        · go_simp
          go_at_call 19
          refine (toDepend_any fa2 fn2 fc2 ta2 tn2 tc2 zf2 zt2 _ HZ2.out.1 HZ2.out.2 hs12 hs22 (At.below HA2.out.1 B_81) (At.below HA2.out.2 B_81)).mono ?_
          rintro e w82 ⟨g82_1, g82_2, rfl, ho82, hb82⟩
          have p20_82 := cell_later hb82 p20_81
          have p21_82 := cell_later hb82 p21_81
          have oh0_82 := Hid.mk (RDeps.ownBelow oh0_81.out hb82)
          have B_82 := B_81.trans (hb82.mono B_81.size)
          have Y_82 : Below w78.heap.size w78 w82 := Y_81.trans (hb82.mono Y_81.size)
          have zz82 : w81.heap.size ≤ w82.heap.size := by have q := hb82.size; first | exact q | simpa using q
          have oh2_82 := Hid.mk ho82
          (try go_wp2_with fail)
          refine hK.out _ _ ?_ (fun hHeld' => ?_)
          · (try dsimp only)
            exact ⟨p20_82, p21_82⟩
          clear hK K hHeld
          have hHeld := hHeld'
          clear hHeld'
          (try simp only [Act.put, List.setIfInBounds_toArray, List.set_cons_zero, List.set_cons_succ])
          refine wpAnyH_ready (rs := [5, 9]) (by kernel_rfl) (by simp) ?_
          refine AllReadyH.cons (o := ?_) ?_ (fun K hK => ?_) ?_
          rotate_left
          · (simp only [List.getElem?_toArray, List.getElem?_cons_zero, List.getElem?_cons_succ]; rfl)
          · go_simp
            go_at_call 20
            refine (HI.out _ _ _ _ _ _ oh0_82.out oh2_82.out (TabIs.below HTAB.out B_82)).mono ?_
            rintro e w83 ⟨⟨r83, m83, d83, cs83, rfl, ho83⟩, hb83⟩
            have p20_83 := cell_later hb83 p20_82
            have p21_83 := cell_later hb83 p21_82
            have B_83 := B_82.trans (hb83.mono B_82.size)
            have Y_83 : Below w78.heap.size w78 w83 := Y_82.trans (hb83.mono Y_82.size)
            have zz83 : w82.heap.size ≤ w83.heap.size := by have q := hb83.size; first | exact q | simpa using q
            (try go_wp2_with fail)
            refine hK.out _ _ ?_ (fun hHeld' => ?_)
            · (try dsimp only)
              exact ⟨p20_83, p21_83⟩
            clear hK K hHeld
            have hHeld := hHeld'
            clear hHeld'
            (try simp only [Act.put, List.setIfInBounds_toArray, List.set_cons_zero, List.set_cons_succ])
            refine wpAnyH_take (i := 6) (oi := ?_) (v := ?_) ?_ (by kernel_rfl) (by kernel_rfl) (by kernel_rfl) ?_ (Or.inl ⟨?_, ?_⟩) (by assumption) ?_
            rotate_left 2
            · (simp only [List.getElem?_toArray, List.getElem?_cons_zero, List.getElem?_cons_succ]; rfl)
            · exact fun _ _ _ h => h
            · rfl
            · (intro wS hSw; (try dsimp only at hSw); go_simp; (try with_reducible rfl))
            (try simp only [Act.put, List.setIfInBounds_toArray, List.set_cons_zero, List.set_cons_succ])
            refine wpAnyH_take (i := 7) (oi := ?_) (v := ?_) ?_ (by kernel_rfl) (by kernel_rfl) (by kernel_rfl) ?_ (Or.inl ⟨?_, ?_⟩) (by assumption) ?_
            rotate_left 2
            · (simp only [List.getElem?_toArray, List.getElem?_cons_zero, List.getElem?_cons_succ]; rfl)
            · exact fun _ _ _ h => h
            · rfl
            · (intro wS hSw; (try dsimp only at hSw); go_simp; (try with_reducible rfl))
            (try simp only [Act.put, List.setIfInBounds_toArray, List.set_cons_zero, List.set_cons_succ])
            refine wpAnyH_take (i := 8) (oi := ?_) (v := ?_) ?_ (by kernel_rfl) (by kernel_rfl) (by kernel_rfl) ?_ (Or.inl ⟨?_, ?_⟩) (by assumption) ?_
            rotate_left 2
            · (simp only [List.getElem?_toArray, List.getElem?_cons_zero, List.getElem?_cons_succ]; rfl)
            · exact fun _ _ _ h => h
            · rfl
            · (intro wS hSw; (try dsimp only at hSw); go_simp; (try with_reducible rfl))
            (try simp only [Act.put, List.setIfInBounds_toArray, List.set_cons_zero, List.set_cons_succ])
            refine wpAnyH_ready (rs := [9]) (by kernel_rfl) (by simp) ?_
            refine AllReadyH.cons (o := ?_) ?_ (fun K hK => ?_) AllReadyH.nil
            rotate_left
            · (simp only [List.getElem?_toArray, List.getElem?_cons_zero, List.getElem?_cons_succ]; rfl)
            go_simp
            skip
            (try go_wp2_with fail)
            refine hK.out _ _ ?_ (fun hHeld' => ?_)
            · (try dsimp only)
              exact ⟨cell_later ((Below.refl _ _).alloc (Nat.le_refl _) _) p20_83, cell_later ((Below.refl _ _).alloc (Nat.le_refl _) _) p21_83⟩
            clear hK K hHeld
            have hHeld := hHeld'
            clear hHeld'
            (try simp only [Act.put, List.setIfInBounds_toArray, List.set_cons_zero, List.set_cons_succ])
            refine wpAnyH_ready (rs := [10]) (by kernel_rfl) (by simp) ?_
            refine AllReadyH.cons (o := ?_) ?_ (fun K hK => ?_) AllReadyH.nil
            rotate_left
            · (simp only [List.getElem?_toArray, List.getElem?_cons_zero, List.getElem?_cons_succ]; rfl)
            go_simp
            skip
            (try go_wp2_with fail)
            refine hK.out _ _ ?_ (fun hHeld' => ?_)
            · (try dsimp only)
              exact ⟨cell_later ((Below.refl _ _).alloc (Nat.le_refl _) _) p20_83, cell_later ((Below.refl _ _).alloc (Nat.le_refl _) _) p21_83⟩
            clear hK K hHeld
            have hHeld := hHeld'
            clear hHeld'
            (try simp only [Act.put, List.setIfInBounds_toArray, List.set_cons_zero, List.set_cons_succ])
            refine wpAnyH_take (i := 11) (oi := ?_) (v := ?_) ?_ (by kernel_rfl) (by kernel_rfl) (by kernel_rfl) ?_ (Or.inl ⟨?_, ?_⟩) (by assumption) ?_
            rotate_left 2
            · (simp only [List.getElem?_toArray, List.getElem?_cons_zero, List.getElem?_cons_succ]; rfl)
            · exact fun _ _ _ h => h
            · rfl
            · (intro wS hSw; (try dsimp only at hSw); go_simp; (try with_reducible rfl))
            (try simp only [Act.put, List.setIfInBounds_toArray, List.set_cons_zero, List.set_cons_succ])
            refine wpAnyH_done (by kernel_rfl) ?_ _
            (try go_wp2_with fail)
            go_meet
            case rel =>
              have owk : OwnT w83 w82.heap.size w83.heap.size r83 m83 d83 ta := ⟨cs83, ho83⟩
              exact ⟨w83.heap.size, r83, m83, d83, w82.heap.size, w83.heap.size, rfl, rfl, pair0 w83 _ _ _, pair1 w83 _ _ _, owk.below ((Below.refl _ _).alloc (Nat.le_refl _) _), by omega, by simp, by omega, by simp, .inr (Nat.le_refl _), Y_83.alloc Y_83.size _⟩
          refine AllReadyH.cons (o := ?_) ?_ (fun K hK => ?_) AllReadyH.nil
          rotate_left
          · (simp only [List.getElem?_toArray, List.getElem?_cons_zero, List.getElem?_cons_succ]; rfl)
          · go_simp
            (try go_wp2_with fail)
            refine hK.out _ _ ?_ (fun hHeld' => ?_)
            · (try dsimp only)
              exact ⟨cell_later ((Below.refl _ _).alloc (Nat.le_refl _) _) p20_82, cell_later ((Below.refl _ _).alloc (Nat.le_refl _) _) p21_82⟩
            clear hK K hHeld
            have hHeld := hHeld'
            clear hHeld'
            (try simp only [Act.put, List.setIfInBounds_toArray, List.set_cons_zero, List.set_cons_succ])
            obtain ⟨w83, hU83⟩ : ∃ u, u = w82.alloc (.cells #[.int .i64 0, .slice none 0 0] 40) := ⟨_, rfl⟩
            have hb83 : Below w82.heap.size w82 w83 := by rw [hU83]; exact (Below.refl _ _).alloc (Nat.le_refl _) _
            have zp83 : w82.heap.size < w83.heap.size := by rw [hU83]; simp
            have hp83 : w83.heap[w82.heap.size]? = some (.cells #[.int .i64 0, .slice none 0 0] 40 (0, 0)) := by rw [hU83]; exact heap_alloc_new _ _
            rw [← hU83]
            clear hU83
            have p20_83 := cell_later hb83 p20_82
            have p21_83 := cell_later hb83 p21_82
            have oh0_83 := Hid.mk (RDeps.ownBelow oh0_82.out hb83)
            have oh2_83 := Hid.mk (RDep.ownBelow oh2_82.out hb83)
            have B_83 := B_82.trans (hb83.mono B_82.size)
            have Y_83 : Below w78.heap.size w78 w83 := Y_82.trans (hb83.mono Y_82.size)
            have zz83 : w82.heap.size ≤ w83.heap.size := by have q := hb83.size; first | exact q | simpa using q
            refine wpAnyH_ready (rs := [5]) (by kernel_rfl) (by simp) ?_
            refine AllReadyH.cons (o := ?_) ?_ (fun K hK => ?_) AllReadyH.nil
            rotate_left
            · (simp only [List.getElem?_toArray, List.getElem?_cons_zero, List.getElem?_cons_succ]; rfl)
            go_simp
            go_at_call 20
            refine (HI.out _ _ _ _ _ _ oh0_83.out oh2_83.out (TabIs.below HTAB.out B_83)).mono ?_
            rintro e w84 ⟨⟨r84, m84, d84, cs84, rfl, ho84⟩, hb84⟩
            have p20_84 := cell_later hb84 p20_83
            have p21_84 := cell_later hb84 p21_83
            have hq84 := (hb84.block (w82.heap.size) (Array.getElem?_eq_some_iff.1 hp83).1).trans hp83
            have B_84 := B_83.trans (hb84.mono B_83.size)
            have Y_84 : Below w78.heap.size w78 w84 := Y_83.trans (hb84.mono Y_83.size)
            have zz84 : w83.heap.size ≤ w84.heap.size := by have q := hb84.size; first | exact q | simpa using q
            (try go_wp2_with fail)
            refine hK.out _ _ ?_ (fun hHeld' => ?_)
            · (try dsimp only)
              exact ⟨p20_84, p21_84⟩
            clear hK K hHeld
            have hHeld := hHeld'
            clear hHeld'
            (try simp only [Act.put, List.setIfInBounds_toArray, List.set_cons_zero, List.set_cons_succ])
            refine wpAnyH_take (i := 6) (oi := ?_) (v := ?_) ?_ (by kernel_rfl) (by kernel_rfl) (by kernel_rfl) ?_ (Or.inl ⟨?_, ?_⟩) (by assumption) ?_
            rotate_left 2
            · (simp only [List.getElem?_toArray, List.getElem?_cons_zero, List.getElem?_cons_succ]; rfl)
            · exact fun _ _ _ h => h
            · rfl
            · (intro wS hSw; (try dsimp only at hSw); go_simp; (try with_reducible rfl))
            (try simp only [Act.put, List.setIfInBounds_toArray, List.set_cons_zero, List.set_cons_succ])
            refine wpAnyH_take (i := 7) (oi := ?_) (v := ?_) ?_ (by kernel_rfl) (by kernel_rfl) (by kernel_rfl) ?_ (Or.inl ⟨?_, ?_⟩) (by assumption) ?_
            rotate_left 2
            · (simp only [List.getElem?_toArray, List.getElem?_cons_zero, List.getElem?_cons_succ]; rfl)
            · exact fun _ _ _ h => h
            · rfl
            · (intro wS hSw; (try dsimp only at hSw); go_simp; (try with_reducible rfl))
            (try simp only [Act.put, List.setIfInBounds_toArray, List.set_cons_zero, List.set_cons_succ])
            refine wpAnyH_take (i := 8) (oi := ?_) (v := ?_) ?_ (by kernel_rfl) (by kernel_rfl) (by kernel_rfl) ?_ (Or.inl ⟨?_, ?_⟩) (by assumption) ?_
            rotate_left 2
            · (simp only [List.getElem?_toArray, List.getElem?_cons_zero, List.getElem?_cons_succ]; rfl)
            · exact fun _ _ _ h => h
            · rfl
            · (intro wS hSw; (try dsimp only at hSw); go_simp; (try with_reducible rfl))
            (try simp only [Act.put, List.setIfInBounds_toArray, List.set_cons_zero, List.set_cons_succ])
            have u0 : w84.cell? ⟨w82.heap.size, 0, none⟩ = some (.int .i64 0) := by rw [cell_of_row _ _ 0 _ _ (0, 0) hq84]; rfl
            have u1 : w84.cell? ⟨w82.heap.size, 1, none⟩ = some (.slice none 0 0) := by rw [cell_of_row _ _ 1 _ _ (0, 0) hq84]; rfl
            have v0 : w84.frozen? ⟨w82.heap.size, 0, none⟩ = false := frozen_of_row _ _ 0 _ _ hq84
            have v1 : w84.frozen? ⟨w82.heap.size, 1, none⟩ = false := frozen_of_row _ _ 1 _ _ hq84
            refine wpAnyH_ready (rs := [10]) (by kernel_rfl) (by simp) ?_
            refine AllReadyH.cons (o := ?_) ?_ (fun K hK => ?_) AllReadyH.nil
            rotate_left
            · (simp only [List.getElem?_toArray, List.getElem?_cons_zero, List.getElem?_cons_succ]; rfl)
            go_simp
            skip
            (try go_wp2_with fail)
            refine hK.out _ _ ?_ (fun hHeld' => ?_)
            · (try dsimp only)
              exact ⟨keep_far (keep_far p20_84 (by omega)) (by omega), keep_far (keep_far p21_84 (by omega)) (by omega)⟩
            clear hK K hHeld
            have hHeld := hHeld'
            clear hHeld'
            (try simp only [Act.put, List.setIfInBounds_toArray, List.set_cons_zero, List.set_cons_succ])
            refine wpAnyH_take (i := 11) (oi := ?_) (v := ?_) ?_ (by kernel_rfl) (by kernel_rfl) (by kernel_rfl) ?_ (Or.inl ⟨?_, ?_⟩) (by assumption) ?_
            rotate_left 2
            · (simp only [List.getElem?_toArray, List.getElem?_cons_zero, List.getElem?_cons_succ]; rfl)
            · exact fun _ _ _ h => h
            · rfl
            · (intro wS hSw; (try dsimp only at hSw); go_simp; (try with_reducible rfl))
            (try simp only [Act.put, List.setIfInBounds_toArray, List.set_cons_zero, List.set_cons_succ])
            refine wpAnyH_done (by kernel_rfl) ?_ _
            (try go_wp2_with fail)
            go_meet
            case rel =>
              have owk : OwnT w84 w83.heap.size w84.heap.size r84 m84 d84 ta := ⟨cs84, ho84⟩
              exact ⟨w82.heap.size, r84, m84, d84, w83.heap.size, w84.heap.size, rfl, rfl, set2_0 hq84 _ _, set2_1 hq84 _ _, owk.set2 (.inl (by omega)) _ _, by omega, by simp [World.setCell], by omega, by simp only [World.setCell, Array.size_modify]; omega, .inl (by omega), (Y_84.setCell (by show w78.heap.size ≤ w82.heap.size; omega) _).setCell (by show w78.heap.size ≤ w82.heap.size; omega) _⟩
        refine AllReadyH.cons (o := ?_) ?_ (fun K hK => ?_) AllReadyH.nil
        rotate_left
        · (simp only [List.getElem?_toArray, List.getElem?_cons_zero, List.getElem?_cons_succ]; rfl)
        · go_simp
          (try go_wp2_with fail)
          refine hK.out _ _ ?_ (fun hHeld' => ?_)
          · (try dsimp only)
            exact ⟨cell_later ((Below.refl _ _).alloc (Nat.le_refl _) _) p20_81, cell_later ((Below.refl _ _).alloc (Nat.le_refl _) _) p21_81⟩
          clear hK K hHeld
          have hHeld := hHeld'
          clear hHeld'
          (try simp only [Act.put, List.setIfInBounds_toArray, List.set_cons_zero, List.set_cons_succ])
          obtain ⟨w82, hU82⟩ : ∃ u, u = w81.alloc (.cells #[.int .i64 0, .slice none 0 0] 40) := ⟨_, rfl⟩
          have hb82 : Below w81.heap.size w81 w82 := by rw [hU82]; exact (Below.refl _ _).alloc (Nat.le_refl _) _
          have zp82 : w81.heap.size < w82.heap.size := by rw [hU82]; simp
          have hp82 : w82.heap[w81.heap.size]? = some (.cells #[.int .i64 0, .slice none 0 0] 40 (0, 0)) := by rw [hU82]; exact heap_alloc_new _ _
          rw [← hU82]
          clear hU82
          have p20_82 := cell_later hb82 p20_81
          have p21_82 := cell_later hb82 p21_81
          have oh0_82 := Hid.mk (RDeps.ownBelow oh0_81.out hb82)
          have B_82 := B_81.trans (hb82.mono B_81.size)
          have Y_82 : Below w78.heap.size w78 w82 := Y_81.trans (hb82.mono Y_81.size)
          have zz82 : w81.heap.size ≤ w82.heap.size := by have q := hb82.size; first | exact q | simpa using q
          refine wpAnyH_ready (rs := [4]) (by kernel_rfl) (by simp) ?_
          refine AllReadyH.cons (o := ?_) ?_ (fun K hK => ?_) AllReadyH.nil
          rotate_left
          · (simp only [List.getElem?_toArray, List.getElem?_cons_zero, List.getElem?_cons_succ]; rfl)
          go_simp
          go_at_call 19
          refine (toDepend_any fa2 fn2 fc2 ta2 tn2 tc2 zf2 zt2 _ HZ2.out.1 HZ2.out.2 hs12 hs22 (At.below HA2.out.1 B_82) (At.below HA2.out.2 B_82)).mono ?_
          rintro e w83 ⟨g83_1, g83_2, rfl, ho83, hb83⟩
          have p20_83 := cell_later hb83 p20_82
          have p21_83 := cell_later hb83 p21_82
          have oh0_83 := Hid.mk (RDeps.ownBelow oh0_82.out hb83)
          have hq83 := (hb83.block (w81.heap.size) (Array.getElem?_eq_some_iff.1 hp82).1).trans hp82
          have B_83 := B_82.trans (hb83.mono B_82.size)
          have Y_83 : Below w78.heap.size w78 w83 := Y_82.trans (hb83.mono Y_82.size)
          have zz83 : w82.heap.size ≤ w83.heap.size := by have q := hb83.size; first | exact q | simpa using q
          have oh2_83 := Hid.mk ho83
          (try go_wp2_with fail)
          refine hK.out _ _ ?_ (fun hHeld' => ?_)
          · (try dsimp only)
            exact ⟨p20_83, p21_83⟩
          clear hK K hHeld
          have hHeld := hHeld'
          clear hHeld'
          (try simp only [Act.put, List.setIfInBounds_toArray, List.set_cons_zero, List.set_cons_succ])
          refine wpAnyH_ready (rs := [5]) (by kernel_rfl) (by simp) ?_
          refine AllReadyH.cons (o := ?_) ?_ (fun K hK => ?_) AllReadyH.nil
          rotate_left
          · (simp only [List.getElem?_toArray, List.getElem?_cons_zero, List.getElem?_cons_succ]; rfl)
          go_simp
          go_at_call 20
          refine (HI.out _ _ _ _ _ _ oh0_83.out oh2_83.out (TabIs.below HTAB.out B_83)).mono ?_
          rintro e w84 ⟨⟨r84, m84, d84, cs84, rfl, ho84⟩, hb84⟩
          have p20_84 := cell_later hb84 p20_83
          have p21_84 := cell_later hb84 p21_83
          have hq84 := (hb84.block (w81.heap.size) (Array.getElem?_eq_some_iff.1 hq83).1).trans hq83
          have B_84 := B_83.trans (hb84.mono B_83.size)
          have Y_84 : Below w78.heap.size w78 w84 := Y_83.trans (hb84.mono Y_83.size)
          have zz84 : w83.heap.size ≤ w84.heap.size := by have q := hb84.size; first | exact q | simpa using q
          (try go_wp2_with fail)
          refine hK.out _ _ ?_ (fun hHeld' => ?_)
          · (try dsimp only)
            exact ⟨p20_84, p21_84⟩
          clear hK K hHeld
          have hHeld := hHeld'
          clear hHeld'
          (try simp only [Act.put, List.setIfInBounds_toArray, List.set_cons_zero, List.set_cons_succ])
          refine wpAnyH_take (i := 6) (oi := ?_) (v := ?_) ?_ (by kernel_rfl) (by kernel_rfl) (by kernel_rfl) ?_ (Or.inl ⟨?_, ?_⟩) (by assumption) ?_
          rotate_left 2
          · (simp only [List.getElem?_toArray, List.getElem?_cons_zero, List.getElem?_cons_succ]; rfl)
          · exact fun _ _ _ h => h
          · rfl
          · (intro wS hSw; (try dsimp only at hSw); go_simp; (try with_reducible rfl))
          (try simp only [Act.put, List.setIfInBounds_toArray, List.set_cons_zero, List.set_cons_succ])
          refine wpAnyH_take (i := 7) (oi := ?_) (v := ?_) ?_ (by kernel_rfl) (by kernel_rfl) (by kernel_rfl) ?_ (Or.inl ⟨?_, ?_⟩) (by assumption) ?_
          rotate_left 2
          · (simp only [List.getElem?_toArray, List.getElem?_cons_zero, List.getElem?_cons_succ]; rfl)
          · exact fun _ _ _ h => h
          · rfl
          · (intro wS hSw; (try dsimp only at hSw); go_simp; (try with_reducible rfl))
          (try simp only [Act.put, List.setIfInBounds_toArray, List.set_cons_zero, List.set_cons_succ])
          refine wpAnyH_take (i := 8) (oi := ?_) (v := ?_) ?_ (by kernel_rfl) (by kernel_rfl) (by kernel_rfl) ?_ (Or.inl ⟨?_, ?_⟩) (by assumption) ?_
          rotate_left 2
          · (simp only [List.getElem?_toArray, List.getElem?_cons_zero, List.getElem?_cons_succ]; rfl)
          · exact fun _ _ _ h => h
          · rfl
          · (intro wS hSw; (try dsimp only at hSw); go_simp; (try with_reducible rfl))
          (try simp only [Act.put, List.setIfInBounds_toArray, List.set_cons_zero, List.set_cons_succ])
          have u0 : w84.cell? ⟨w81.heap.size, 0, none⟩ = some (.int .i64 0) := by rw [cell_of_row _ _ 0 _ _ (0, 0) hq84]; rfl
          have u1 : w84.cell? ⟨w81.heap.size, 1, none⟩ = some (.slice none 0 0) := by rw [cell_of_row _ _ 1 _ _ (0, 0) hq84]; rfl
          have v0 : w84.frozen? ⟨w81.heap.size, 0, none⟩ = false := frozen_of_row _ _ 0 _ _ hq84
          have v1 : w84.frozen? ⟨w81.heap.size, 1, none⟩ = false := frozen_of_row _ _ 1 _ _ hq84
          refine wpAnyH_ready (rs := [10]) (by kernel_rfl) (by simp) ?_
          refine AllReadyH.cons (o := ?_) ?_ (fun K hK => ?_) AllReadyH.nil
          rotate_left
          · (simp only [List.getElem?_toArray, List.getElem?_cons_zero, List.getElem?_cons_succ]; rfl)
          go_simp
          skip
          (try go_wp2_with fail)
          refine hK.out _ _ ?_ (fun hHeld' => ?_)
          · (try dsimp only)
            exact ⟨keep_far (keep_far p20_84 (by omega)) (by omega), keep_far (keep_far p21_84 (by omega)) (by omega)⟩
          clear hK K hHeld
          have hHeld := hHeld'
          clear hHeld'
          (try simp only [Act.put, List.setIfInBounds_toArray, List.set_cons_zero, List.set_cons_succ])
          refine wpAnyH_take (i := 11) (oi := ?_) (v := ?_) ?_ (by kernel_rfl) (by kernel_rfl) (by kernel_rfl) ?_ (Or.inl ⟨?_, ?_⟩) (by assumption) ?_
          rotate_left 2
          · (simp only [List.getElem?_toArray, List.getElem?_cons_zero, List.getElem?_cons_succ]; rfl)
          · exact fun _ _ _ h => h
          · rfl
          · (intro wS hSw; (try dsimp only at hSw); go_simp; (try with_reducible rfl))
          (try simp only [Act.put, List.setIfInBounds_toArray, List.set_cons_zero, List.set_cons_succ])
          refine wpAnyH_done (by kernel_rfl) ?_ _
          (try go_wp2_with fail)
          go_meet
          case rel =>
            have owk : OwnT w84 w83.heap.size w84.heap.size r84 m84 d84 ta := ⟨cs84, ho84⟩
            exact ⟨w81.heap.size, r84, m84, d84, w83.heap.size, w84.heap.size, rfl, rfl, set2_0 hq84 _ _, set2_1 hq84 _ _, owk.set2 (.inl (by omega)) _ _, by omega, by simp [World.setCell], by omega, by simp only [World.setCell, Array.size_modify]; omega, .inl (by omega), (Y_84.setCell (by show w78.heap.size ≤ w81.heap.size; omega) _).setCell (by show w78.heap.size ≤ w81.heap.size; omega) _⟩
      refine AllReadyH.cons (o := ?_) ?_ (fun K hK => ?_) AllReadyH.nil
      rotate_left
      · (simp only [List.getElem?_toArray, List.getElem?_cons_zero, List.getElem?_cons_succ]; rfl)
      · go_simp
        (try go_wp2_with fail)
        refine hK.out _ _ ?_ (fun hHeld' => ?_)
        · (try dsimp only)
          exact ⟨cell_later ((Below.refl _ _).alloc (Nat.le_refl _) _) p20_80, cell_later ((Below.refl _ _).alloc (Nat.le_refl _) _) p21_80⟩
        clear hK K hHeld
        have hHeld := hHeld'
        clear hHeld'
        (try simp only [Act.put, List.setIfInBounds_toArray, List.set_cons_zero, List.set_cons_succ])
        obtain ⟨w81, hU81⟩ : ∃ u, u = w80.alloc (.cells #[.int .i64 0, .slice none 0 0] 40) := ⟨_, rfl⟩
        have hb81 : Below w80.heap.size w80 w81 := by rw [hU81]; exact (Below.refl _ _).alloc (Nat.le_refl _) _
        have zp81 : w80.heap.size < w81.heap.size := by rw [hU81]; simp
        have hp81 : w81.heap[w80.heap.size]? = some (.cells #[.int .i64 0, .slice none 0 0] 40 (0, 0)) := by rw [hU81]; exact heap_alloc_new _ _
        rw [← hU81]
        clear hU81
        have p20_81 := cell_later hb81 p20_80
        have p21_81 := cell_later hb81 p21_80
        have B_81 := B_80.trans (hb81.mono B_80.size)
        have Y_81 : Below w78.heap.size w78 w81 := Y_80.trans (hb81.mono Y_80.size)
        have zz81 : w80.heap.size ≤ w81.heap.size := by have q := hb81.size; first | exact q | simpa using q
        refine wpAnyH_ready (rs := [1]) (by kernel_rfl) (by simp) ?_
        refine AllReadyH.cons (o := ?_) ?_ (fun K hK => ?_) AllReadyH.nil
        rotate_left
        · (simp only [List.getElem?_toArray, List.getElem?_cons_zero, List.getElem?_cons_succ]; rfl)
        go_simp
        go_at_call 9
        refine (toDependSG a0 n0 c0 z0 _ HSM0.out (AtSl.below HA0.out B_81)).mono ?_
        rintro e w82 ⟨g82, rfl, ho82, hb82⟩
        have p20_82 := cell_later hb82 p20_81
        have p21_82 := cell_later hb82 p21_81
        have hq82 := (hb82.block (w80.heap.size) (Array.getElem?_eq_some_iff.1 hp81).1).trans hp81
        have B_82 := B_81.trans (hb82.mono B_81.size)
        have Y_82 : Below w78.heap.size w78 w82 := Y_81.trans (hb82.mono Y_81.size)
        have zz82 : w81.heap.size ≤ w82.heap.size := by have q := hb82.size; first | exact q | simpa using q
        have oh0_82 := Hid.mk ho82
        (try go_wp2_with fail)
        refine hK.out _ _ ?_ (fun hHeld' => ?_)
        · (try dsimp only)
          exact ⟨p20_82, p21_82⟩
        clear hK K hHeld
        have hHeld := hHeld'
        clear hHeld'
        (try simp only [Act.put, List.setIfInBounds_toArray, List.set_cons_zero, List.set_cons_succ])
        refine wpAnyH_ready (rs := [4]) (by kernel_rfl) (by simp) ?_
        refine AllReadyH.cons (o := ?_) ?_ (fun K hK => ?_) AllReadyH.nil
        rotate_left
        · (simp only [List.getElem?_toArray, List.getElem?_cons_zero, List.getElem?_cons_succ]; rfl)
        go_simp
        go_at_call 19
        refine (toDepend_any fa2 fn2 fc2 ta2 tn2 tc2 zf2 zt2 _ HZ2.out.1 HZ2.out.2 hs12 hs22 (At.below HA2.out.1 B_82) (At.below HA2.out.2 B_82)).mono ?_
        rintro e w83 ⟨g83_1, g83_2, rfl, ho83, hb83⟩
        have p20_83 := cell_later hb83 p20_82
        have p21_83 := cell_later hb83 p21_82
        have oh0_83 := Hid.mk (RDeps.ownBelow oh0_82.out hb83)
        have hq83 := (hb83.block (w80.heap.size) (Array.getElem?_eq_some_iff.1 hq82).1).trans hq82
        have B_83 := B_82.trans (hb83.mono B_82.size)
        have Y_83 : Below w78.heap.size w78 w83 := Y_82.trans (hb83.mono Y_82.size)
        have zz83 : w82.heap.size ≤ w83.heap.size := by have q := hb83.size; first | exact q | simpa using q
        have oh2_83 := Hid.mk ho83
        (try go_wp2_with fail)
        refine hK.out _ _ ?_ (fun hHeld' => ?_)
        · (try dsimp only)
          exact ⟨p20_83, p21_83⟩
        clear hK K hHeld
        have hHeld := hHeld'
        clear hHeld'
        (try simp only [Act.put, List.setIfInBounds_toArray, List.set_cons_zero, List.set_cons_succ])
        refine wpAnyH_ready (rs := [5]) (by kernel_rfl) (by simp) ?_
        refine AllReadyH.cons (o := ?_) ?_ (fun K hK => ?_) AllReadyH.nil
        rotate_left
        · (simp only [List.getElem?_toArray, List.getElem?_cons_zero, List.getElem?_cons_succ]; rfl)
        go_simp
        go_at_call 20
        refine (HI.out _ _ _ _ _ _ oh0_83.out oh2_83.out (TabIs.below HTAB.out B_83)).mono ?_
        rintro e w84 ⟨⟨r84, m84, d84, cs84, rfl, ho84⟩, hb84⟩
        have p20_84 := cell_later hb84 p20_83
        have p21_84 := cell_later hb84 p21_83
        have hq84 := (hb84.block (w80.heap.size) (Array.getElem?_eq_some_iff.1 hq83).1).trans hq83
        have B_84 := B_83.trans (hb84.mono B_83.size)
        have Y_84 : Below w78.heap.size w78 w84 := Y_83.trans (hb84.mono Y_83.size)
        have zz84 : w83.heap.size ≤ w84.heap.size := by have q := hb84.size; first | exact q | simpa using q
        (try go_wp2_with fail)
        refine hK.out _ _ ?_ (fun hHeld' => ?_)
        · (try dsimp only)
          exact ⟨p20_84, p21_84⟩
        clear hK K hHeld
        have hHeld := hHeld'
        clear hHeld'
        (try simp only [Act.put, List.setIfInBounds_toArray, List.set_cons_zero, List.set_cons_succ])
        refine wpAnyH_take (i := 6) (oi := ?_) (v := ?_) ?_ (by kernel_rfl) (by kernel_rfl) (by kernel_rfl) ?_ (Or.inl ⟨?_, ?_⟩) (by assumption) ?_
        rotate_left 2
        · (simp only [List.getElem?_toArray, List.getElem?_cons_zero, List.getElem?_cons_succ]; rfl)
        · exact fun _ _ _ h => h
        · rfl
        · (intro wS hSw; (try dsimp only at hSw); go_simp; (try with_reducible rfl))
        (try simp only [Act.put, List.setIfInBounds_toArray, List.set_cons_zero, List.set_cons_succ])
        refine wpAnyH_take (i := 7) (oi := ?_) (v := ?_) ?_ (by kernel_rfl) (by kernel_rfl) (by kernel_rfl) ?_ (Or.inl ⟨?_, ?_⟩) (by assumption) ?_
        rotate_left 2
        · (simp only [List.getElem?_toArray, List.getElem?_cons_zero, List.getElem?_cons_succ]; rfl)
        · exact fun _ _ _ h => h
        · rfl
        · (intro wS hSw; (try dsimp only at hSw); go_simp; (try with_reducible rfl))
        (try simp only [Act.put, List.setIfInBounds_toArray, List.set_cons_zero, List.set_cons_succ])
        refine wpAnyH_take (i := 8) (oi := ?_) (v := ?_) ?_ (by kernel_rfl) (by kernel_rfl) (by kernel_rfl) ?_ (Or.inl ⟨?_, ?_⟩) (by assumption) ?_
        rotate_left 2
        · (simp only [List.getElem?_toArray, List.getElem?_cons_zero, List.getElem?_cons_succ]; rfl)
        · exact fun _ _ _ h => h
        · rfl
        · (intro wS hSw; (try dsimp only at hSw); go_simp; (try with_reducible rfl))
        (try simp only [Act.put, List.setIfInBounds_toArray, List.set_cons_zero, List.set_cons_succ])
        have u0 : w84.cell? ⟨w80.heap.size, 0, none⟩ = some (.int .i64 0) := by rw [cell_of_row _ _ 0 _ _ (0, 0) hq84]; rfl
        have u1 : w84.cell? ⟨w80.heap.size, 1, none⟩ = some (.slice none 0 0) := by rw [cell_of_row _ _ 1 _ _ (0, 0) hq84]; rfl
        have v0 : w84.frozen? ⟨w80.heap.size, 0, none⟩ = false := frozen_of_row _ _ 0 _ _ hq84
        have v1 : w84.frozen? ⟨w80.heap.size, 1, none⟩ = false := frozen_of_row _ _ 1 _ _ hq84
        refine wpAnyH_ready (rs := [10]) (by kernel_rfl) (by simp) ?_
        refine AllReadyH.cons (o := ?_) ?_ (fun K hK => ?_) AllReadyH.nil
        rotate_left
        · (simp only [List.getElem?_toArray, List.getElem?_cons_zero, List.getElem?_cons_succ]; rfl)
        go_simp
        skip
        (try go_wp2_with fail)
        refine hK.out _ _ ?_ (fun hHeld' => ?_)
        · (try dsimp only)
          exact ⟨keep_far (keep_far p20_84 (by omega)) (by omega), keep_far (keep_far p21_84 (by omega)) (by omega)⟩
        clear hK K hHeld
        have hHeld := hHeld'
        clear hHeld'
        (try simp only [Act.put, List.setIfInBounds_toArray, List.set_cons_zero, List.set_cons_succ])
        refine wpAnyH_take (i := 11) (oi := ?_) (v := ?_) ?_ (by kernel_rfl) (by kernel_rfl) (by kernel_rfl) ?_ (Or.inl ⟨?_, ?_⟩) (by assumption) ?_
        rotate_left 2
        · (simp only [List.getElem?_toArray, List.getElem?_cons_zero, List.getElem?_cons_succ]; rfl)
        · exact fun _ _ _ h => h
        · rfl
        · (intro wS hSw; (try dsimp only at hSw); go_simp; (try with_reducible rfl))
        (try simp only [Act.put, List.setIfInBounds_toArray, List.set_cons_zero, List.set_cons_succ])
        refine wpAnyH_done (by kernel_rfl) ?_ _
        (try go_wp2_with fail)
        go_meet
        case rel =>
          have owk : OwnT w84 w83.heap.size w84.heap.size r84 m84 d84 ta := ⟨cs84, ho84⟩
          exact ⟨w80.heap.size, r84, m84, d84, w83.heap.size, w84.heap.size, rfl, rfl, set2_0 hq84 _ _, set2_1 hq84 _ _, owk.set2 (.inl (by omega)) _ _, by omega, by simp [World.setCell], by omega, by simp only [World.setCell, Array.size_modify]; omega, .inl (by omega), (Y_84.setCell (by show w78.heap.size ≤ w80.heap.size; omega) _).setCell (by show w78.heap.size ≤ w80.heap.size; omega) _⟩
    case rest =>
      obtain ⟨Pb139, r139, m139, d139, lo139, hi139, rfl, rfl, Ht0_139, Ht1_139, ow139, pl139, ph139, pm139, pn139, pd139, hb139⟩ := hcut
      obtain ⟨w139, rfl⟩ : ∃ x, x = wc := ⟨_, rfl⟩
      obtain rfl : na = m139 := HNA.out.symm.trans ow139.len
      have ohg_139 := Hid.mk ow139
      clear ow139
      have p20_139 := cell_later hb139 p20_78
      have p21_139 := cell_later hb139 p21_78
      have Wt0_139 := cell_later hb139 Wt0_78
      have Wt1_139 := cell_later hb139 Wt1_78
      have X20_139 := cell_later hb139 X20_78
      have X21_139 := cell_later hb139 X21_78
      have Gt0_139 := cell_later hb139 Gt0_78
      have Gt1_139 := cell_later hb139 Gt1_78
      have oo_139 := Hid.mk (OwnT.below oo_78.out hb139)
      have og_139 := Hid.mk (OwnT.below og_78.out hb139)
      have B_139 := B_78.trans (hb139.mono B_78.size)
      have zz139 : w78.heap.size ≤ w139.heap.size := hb139.size
      clear p20_78 p21_78 Wt0_78 Wt1_78 X20_78 X21_78 Gt0_78 Gt1_78 oo_78 og_78 B_78
      clear hb139
      go_wp2_with fail
      refine (eqTableG _ _ _ _ _ ta pa _ hsA (ohg_139.out.atW hsA) (oo_139.out.atW hsA)).mono ?_
      rintro e w140 ⟨rfl, hb140⟩
      have p20_140 := cell_later hb140 p20_139
      have p21_140 := cell_later hb140 p21_139
      have Wt0_140 := cell_later hb140 Wt0_139
      have Wt1_140 := cell_later hb140 Wt1_139
      have X20_140 := cell_later hb140 X20_139
      have X21_140 := cell_later hb140 X21_139
      have Gt0_140 := cell_later hb140 Gt0_139
      have Gt1_140 := cell_later hb140 Gt1_139
      have Ht0_140 := cell_later hb140 Ht0_139
      have Ht1_140 := cell_later hb140 Ht1_139
      have oo_140 := Hid.mk (OwnT.below oo_139.out hb140)
      have og_140 := Hid.mk (OwnT.below og_139.out hb140)
      have ohg_140 := Hid.mk (OwnT.below ohg_139.out hb140)
      have B_140 := B_139.trans (hb140.mono B_139.size)
      have zz140 : w139.heap.size ≤ w140.heap.size := hb140.size
      clear p20_139 p21_139 Wt0_139 Wt1_139 X20_139 X21_139 Gt0_139 Gt1_139 Ht0_139 Ht1_139 oo_139 og_139 ohg_139 B_139
      clear hb140
      go_wp2_with fail
      refine (heldTableG _ _ _ ta pa 1 _ hsA (by omega) (by omega) (og_140.out.atMark hsA)).mono ?_
      rintro e w141 ⟨rfl, hb141⟩
      have p20_141 := cell_later hb141 p20_140
      have p21_141 := cell_later hb141 p21_140
      have Wt0_141 := cell_later hb141 Wt0_140
      have Wt1_141 := cell_later hb141 Wt1_140
      have X20_141 := cell_later hb141 X20_140
      have X21_141 := cell_later hb141 X21_140
      have Gt0_141 := cell_later hb141 Gt0_140
      have Gt1_141 := cell_later hb141 Gt1_140
      have Ht0_141 := cell_later hb141 Ht0_140
      have Ht1_141 := cell_later hb141 Ht1_140
      have oo_141 := Hid.mk (OwnT.below oo_140.out hb141)
      have og_141 := Hid.mk (OwnT.below og_140.out hb141)
      have ohg_141 := Hid.mk (OwnT.below ohg_140.out hb141)
      have B_141 := B_140.trans (hb141.mono B_140.size)
      have zz141 : w140.heap.size ≤ w141.heap.size := hb141.size
      clear p20_140 p21_140 Wt0_140 Wt1_140 X20_140 X21_140 Gt0_140 Gt1_140 Ht0_140 Ht1_140 oo_140 og_140 ohg_140 B_140
      clear hb141
      go_wp2
      go_ret
      exact ⟨rfl, B_141⟩

end Go.Proofs.YtkcfhlpdenjimaaDoor
