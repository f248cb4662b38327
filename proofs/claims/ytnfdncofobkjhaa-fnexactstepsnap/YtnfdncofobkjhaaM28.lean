/- The law FnExactStepSnap returns true at every input, and writes nothing that was there. -/
import Derived.Test.YtnfdncofobkjhaaM13
import Derived.Test.YtnfdncofobkjhaaM24
import Derived.Test.YtnfdncofobkjhaaM26
import Derived.Test.YtnfdncofobkjhaaM27
import Derived.Test.YtnfdncofobkjhaaM4
import Derived.Test.YtnfdncofobkjhaaM25
namespace Go.Proofs.Ytnfdncofobkjhaa
open Go.RowKit

set_option maxRecDepth 100000 in
set_option maxHeartbeats 16000000 in
theorem lawStepSnap (sa0_0 : Option Addr) (sn0_0 sc0_0 : Nat) (sa1_0 : Option Addr) (sn1_0 sc1_0 : Nat)  (sx0_0 : List TProc) (sx1_0 : List TWire) (sz0_1 : Int) (sz1_1 : Int) (sz2_1 : Int) (sz3_1 : Int) (w : World) (ha0 : RSnap.At w [.slice sa0_0 sn0_0 sc0_0, .slice sa1_0 sn1_0 sc1_0] (sx0_0, sx1_0)) (_ha1 : RSnapStep.At w [.int .i64 sz0_1, .int .i64 sz1_1, .int .i64 sz2_1, .int .i64 sz3_1] (sz0_1, sz1_1, sz2_1, sz3_1)) :
    Calls Try.prog 3 #[.agg #[.slice sa0_0 sn0_0 sc0_0, .slice sa1_0 sn1_0 sc1_0], .agg #[.int .i64 sz0_1, .int .i64 sz1_1, .int .i64 sz2_1, .int .i64 sz3_1]] w fun e w' => e = .returned (.bool true) ∧ Below w.heap.size w w' := by
  obtain ⟨⟨k0_0, kb0_0, kc0_0, _⟩, ⟨k1_0, kb1_0, kc1_0, _⟩⟩ := RSnap.at_iff ha0
  have HA0 := Hid.mk (And.intro kc0_0 (kc1_0))
  have HZ0 : Hid (sx0_0.length = sn0_0 ∧ sx1_0.length = sn1_0) := Hid.mk ⟨k0_0, k1_0⟩
  clear ha0 k0_0 kc0_0 k1_0 kc1_0
  obtain ⟨W, hW⟩ : ∃ W, W = (w.alloc (.cells #[.slice sa0_0 sn0_0 sc0_0, .slice sa1_0 sn1_0 sc1_0] 25)).alloc (.cells #[.int .i64 sz0_1, .int .i64 sz1_1, .int .i64 sz2_1, .int .i64 sz3_1] 27) := ⟨_, rfl⟩
  have B0 : Below w.heap.size w W := by rw [hW]; exact ((Below.refl _ _).alloc (Nat.le_refl _) _).alloc (by simp) _
  have zW : w.heap.size + 1 < W.heap.size := by rw [hW]; simp
  have p00_0 : W.cell? ⟨w.heap.size, 0, none⟩ = some (.slice sa0_0 sn0_0 sc0_0) := by rw [hW]; simp
  have p01_0 : W.cell? ⟨w.heap.size, 1, none⟩ = some (.slice sa1_0 sn1_0 sc1_0) := by rw [hW]; simp
  have p10_0 : W.cell? ⟨w.heap.size + 1, 0, none⟩ = some (.int .i64 sz0_1) := by rw [hW]; simp
  have p11_0 : W.cell? ⟨w.heap.size + 1, 1, none⟩ = some (.int .i64 sz1_1) := by rw [hW]; simp
  have p12_0 : W.cell? ⟨w.heap.size + 1, 2, none⟩ = some (.int .i64 sz2_1) := by rw [hW]; simp
  have p13_0 : W.cell? ⟨w.heap.size + 1, 3, none⟩ = some (.int .i64 sz3_1) := by rw [hW]; simp
  obtain ⟨C0, hC0⟩ : ∃ C : Nat, costSnap (sx0_0, sx1_0) = C := ⟨_, rfl⟩
  have HC0 := Hid.mk hC0
  clear hC0
  by_cases big0 : (1048576 : Int) < (C0 : Int)
  · go_enter Try.func3, Try.ntmps3
    go_wp2_with fail
    rw [← hW]
    clear hW
    refine (szSnap_any sa0_0 sn0_0 sc0_0 sa1_0 sn1_0 sc1_0  sx0_0 sx1_0 _ _ HZ0.out.1 kb0_0 HZ0.out.2 kb1_0 (AtSl.below HA0.out.1 B0) (AtSl.below HA0.out.2 B0) (by omega) (by omega)).mono ?_
    rintro e v0 ⟨rfl, hv0⟩
    rw [HC0.out, leftOf_no big0]
    have y0 := B0.trans (hv0.mono B0.size)
    go_wp2
    go_ret
    exact ⟨rfl, y0⟩
  have hl0 : ¬ (1048576 : Int) - (C0 : Int) < 0 := by omega
  have HSM0 := Hid.mk (smallSnap HZ0.out.1 HZ0.out.2 (by have q := HC0.out; omega : costSnap (sx0_0, sx1_0) ≤ 1048576))
  have sh0_0 : sn0_0 ≤ 1048576 := HSM0.out.1
  have sh1_0 : sn1_0 ≤ 1048576 := HSM0.out.2.1
  have HDD1_0 := Hid.mk HSM0.out.2.2
  have HCC0 : Hid (sn0_0 + (sn1_0 + csumWire sx1_0 sn1_0) ≤ 1048576) := Hid.mk (by have q := HC0.out; unfold costSnap at q; simp only [HZ0.out.1, HZ0.out.2] at q; omega)
  have HVB0 : mknSnap (sx0_0, sx1_0) ≤ 8388608 := by
    have q := HCC0.out
    unfold mknSnap
    simp only [HZ0.out.1, HZ0.out.2]
    rw [msumProc_eq sx0_0 sn0_0 (by have q2 := HZ0.out.1; omega), msumWire_eq sx1_0 sn1_0 (by have q2 := HZ0.out.2; omega)]
    omega
  have hcs1_0 : csumWire sx1_0 sn1_0 ≤ 1048576 := by have q := HCC0.out; omega
  obtain ⟨V0, hV0⟩ : ∃ V : Nat, mknSnap (sx0_0, sx1_0) = V := ⟨_, rfl⟩
  rw [hV0] at HVB0
  have HV0 := Hid.mk hV0
  clear hV0
  obtain ⟨v0, t0, t1, hsA, HS, HI⟩ : ∃ (v0 : Bool) (t0 : List TProc) (t1 : List TWire), costSnap (t0, t1) ≤ 1048576 ∧ Hid (∀ (sp0_0 sp1_0 : Nat) (w : World) (F0 : Nat → Prop), RSnap.Own w F0 [.slice (some ⟨sp0_0, 0, none⟩) sn0_0 sn0_0, .slice (some ⟨sp1_0, 0, none⟩) sn1_0 sn1_0] (sx0_0, sx1_0) → Calls Try.prog 7 #[.agg #[.slice (some ⟨sp0_0, 0, none⟩) sn0_0 sn0_0, .slice (some ⟨sp1_0, 0, none⟩) sn1_0 sn1_0], .agg #[.int .i64 sz0_1, .int .i64 sz1_1, .int .i64 sz2_1, .int .i64 sz3_1]] w fun e w' => SnapRet e w' w.heap.size v0 (t0, t1) ∧ Below w.heap.size w w') ∧ Hid (∀ (sp0_0 sp1_0 : Nat) (w : World) (F0 : Nat → Prop), RSnap.Own w F0 [.slice (some ⟨sp0_0, 0, none⟩) sn0_0 sn0_0, .slice (some ⟨sp1_0, 0, none⟩) sn1_0 sn1_0] (sx0_0, sx1_0) → Calls Try.prog 10 #[.agg #[.slice (some ⟨sp0_0, 0, none⟩) sn0_0 sn0_0, .slice (some ⟨sp1_0, 0, none⟩) sn1_0 sn1_0], .agg #[.int .i64 sz0_1, .int .i64 sz1_1, .int .i64 sz2_1, .int .i64 sz3_1]] w fun e w' => SnapRet e w' w.heap.size v0 (t0, t1) ∧ Below w.heap.size w w') := ⟨spB (sx0_0, sx1_0) sz0_1 sz1_1 sz2_1 sz3_1, (spX (sx0_0, sx1_0) sz0_1 sz1_1 sz2_1 sz3_1).1, (spX (sx0_0, sx1_0) sz0_1 sz1_1 sz2_1 sz3_1).2, spX_small (sx0_0, sx1_0) sz0_1 sz1_1 sz2_1 sz3_1, fun sp0_0 sp1_0 w F0 o0 => specStepSnap (some ⟨sp0_0, 0, none⟩) sn0_0 sn0_0 (some ⟨sp1_0, 0, none⟩) sn1_0 sn1_0 sz0_1 sz1_1 sz2_1 sz3_1 sx0_0 sx1_0 w HZ0.out.1 HZ0.out.2 sh0_0 sh1_0 HDD1_0.out (RSnap.lens o0).2.1 (RSnap.lens o0).2.2.2, fun sp0_0 sp1_0 w F0 o0 => implStepSnap (some ⟨sp0_0, 0, none⟩) sn0_0 sn0_0 (some ⟨sp1_0, 0, none⟩) sn1_0 sn1_0 sz0_1 sz1_1 sz2_1 sz3_1 sx0_0 sx1_0 w HZ0.out.1 HZ0.out.2 sh0_0 sh1_0 HDD1_0.out (RSnap.lens o0).2.1 (RSnap.lens o0).2.2.2⟩
  obtain ⟨l0, hl0⟩ : ∃ l, t0.length = l := ⟨_, rfl⟩
  obtain ⟨l1, hl1⟩ : ∃ l, t1.length = l := ⟨_, rfl⟩
  have hsm := smallSnap hl0 hl1 (by omega : costSnap (t0, t1) ≤ 1048576)
  have hs0 : l0 ≤ 1048576 := hsm.1
  have hs1 : l1 ≤ 1048576 := hsm.2.1
  have HD1 := Hid.mk hsm.2.2
  have hcc : l0 + (l1 + csumWire t1 l1) ≤ 1048576 := by unfold costSnap at hsA; simp only [hl0, hl1] at hsA; omega
  have hcs1 : csumWire t1 l1 ≤ 1048576 := by omega
  obtain ⟨VA, hVA⟩ : ∃ V : Nat, mknSnap (t0, t1) = V := ⟨_, rfl⟩
  have hvA : VA ≤ 8388608 := by
    rw [← hVA]
    unfold mknSnap
    simp only [hl0, hl1]
    rw [msumProc_eq t0 l0 (by omega), msumWire_eq t1 l1 (by omega)]
    omega
  have HVA := Hid.mk hVA
  have HL0 := Hid.mk hl0
  have HL1 := Hid.mk hl1
  clear hVA hsA hsm hcc hl0 hl1
  go_enter Try.func3, Try.ntmps3
  go_wp2_with fail
  rw [← hW]
  clear hW
  refine (szSnap_any sa0_0 sn0_0 sc0_0 sa1_0 sn1_0 sc1_0  sx0_0 sx1_0 _ _ HZ0.out.1 kb0_0 HZ0.out.2 kb1_0 (AtSl.below HA0.out.1 B0) (AtSl.below HA0.out.2 B0) (by omega) (by omega)).mono ?_
  rintro e w1 ⟨rfl, hb1⟩
  rw [HC0.out, leftOf_yes (by omega)]
  have p00_1 := cell_later hb1 p00_0
  have p01_1 := cell_later hb1 p01_0
  have p10_1 := cell_later hb1 p10_0
  have p11_1 := cell_later hb1 p11_0
  have p12_1 := cell_later hb1 p12_0
  have p13_1 := cell_later hb1 p13_0
  have B_1 := B0.trans (hb1.mono B0.size)
  have zz1 : W.heap.size ≤ w1.heap.size := hb1.size
  clear p00_0 p01_0 p10_0 p11_0 p12_0 p13_0
  clear hb1
  go_upto_region 5 with fail
  go_cut [6, 7] (fun ta' tb wx => ∃ (P : Nat) (r0 : Option Addr) (d0 : Nat) (r1 : Option Addr) (d1 : Nat) (lo hi : Nat), ta' = .pointer (some ⟨P, 0, none⟩) ∧ tb = .bool v0 ∧ wx.heap[P]? = some (.cells #[.slice r0 l0 d0, .slice r1 l1 d1] 32 (0, 0)) ∧ RSnap.Own wx (From lo hi) [.slice r0 l0 d0, .slice r1 l1 d1] (t0, t1) ∧ w1.heap.size ≤ lo ∧ hi ≤ wx.heap.size ∧ w1.heap.size ≤ P ∧ P < wx.heap.size ∧ (P < lo ∨ hi ≤ P) ∧ Below w1.heap.size w1 wx)
  case first =>
    refine wp_region_held_drew (S := fun w' => Below w1.heap.size w1 w') (by kernel_rfl) ?_ (fun hHeld => ?_)
    · (try dsimp only)
      exact (Below.refl _ _).drew
    refine tk 0 ?_ (hy := fun wS hSw => by (have p00_1 := cell_later hSw p00_1; have p01_1 := cell_later hSw p01_1; go_simp; (try with_reducible rfl)))
    refine tk 2 ?_ (hy := fun wS hSw => by (have p10_1 := cell_later hSw p10_1; have p11_1 := cell_later hSw p11_1; have p12_1 := cell_later hSw p12_1; have p13_1 := cell_later hSw p13_1; go_simp; (try with_reducible rfl)))
    obtain ⟨ud, hud⟩ : ∃ z, z = w1.drew := ⟨_, rfl⟩
    have Yd : Below w1.heap.size w1 ud := by rw [hud]; exact (Below.refl _ _).drew
    have zud := Yd.size
    have YB := B_1.trans (Yd.mono B_1.size)
    rw [← hud]
    clear hud
    refine wpAnyH_ready (rs := [1, 8]) (by kernel_rfl) (by simp) ?_
    refine AllReadyH.cons (o := ?_) ?_ (fun K hK => ?_) ?_
    rotate_left
    · (simp only [List.getElem?_toArray, List.getElem?_cons_zero, List.getElem?_cons_succ]; rfl)
    · go_simp
      go_at_call 8
      refine (toSnap_rep sa0_0 sn0_0 sc0_0 sa1_0 sn1_0 sc1_0  sx0_0 sx1_0 _ HZ0.out.1 sh0_0 HZ0.out.2 sh1_0 HDD1_0.out (AtSl.below HA0.out.1 YB) (AtSl.below HA0.out.2 YB)).mono ?_
      rintro e wr1 ⟨gr1_0, gr1_1, rfl, hoX, hb1⟩
      have HBwr1 : Below w1.heap.size w1 wr1 := Yd.trans (hb1.mono Yd.size)
      have BBwr1 := B_1.trans (HBwr1.mono B_1.size)
      have zwr1 := hb1.size
      have OX := Hid.mk hoX
      clear hoX
      (try go_wp2_with fail)
      refine hK.out _ _ ?_ (fun hHeld' => ?_)
      · (try dsimp only)
        exact HBwr1
      clear hK K hHeld
      have hHeld := hHeld'
      clear hHeld'
      (try simp only [Act.put, List.setIfInBounds_toArray, List.set_cons_zero, List.set_cons_succ])
      refine wpAnyH_ready (rs := [3, 8]) (by kernel_rfl) (by simp) ?_
      refine AllReadyH.cons (o := ?_) ?_ (fun K hK => ?_) ?_
      rotate_left
      · (simp only [List.getElem?_toArray, List.getElem?_cons_zero, List.getElem?_cons_succ]; rfl)
      · go_simp
        go_at_call 9
        refine (toSnapStep_rep sz0_1 sz1_1 sz2_1 sz3_1 wr1).mono ?_
        rintro e wr2 ⟨rfl, _, hb2⟩
        have HBwr2 : Below w1.heap.size w1 wr2 := HBwr1.trans (hb2.mono HBwr1.size)
        have BBwr2 := B_1.trans (HBwr2.mono B_1.size)
        have zwr2 := hb2.size
        have OX := Hid.mk (RSnap.ownBelow OX.out hb2)
        (try go_wp2_with fail)
        refine hK.out _ _ ?_ (fun hHeld' => ?_)
        · (try dsimp only)
          exact HBwr2
        clear hK K hHeld
        have hHeld := hHeld'
        clear hHeld'
        (try simp only [Act.put, List.setIfInBounds_toArray, List.set_cons_zero, List.set_cons_succ])
        refine wpAnyH_ready (rs := [4, 8]) (by kernel_rfl) (by simp) ?_
        refine AllReadyH.cons (o := ?_) ?_ (fun K hK => ?_) ?_
        rotate_left
        · (simp only [List.getElem?_toArray, List.getElem?_cons_zero, List.getElem?_cons_succ]; rfl)
        · go_simp
          go_at_call 7
          refine (HS.out _ _ _ _ OX.out).mono ?_
          rintro e wr3 ⟨⟨r0, m0, d0, r1, m1, d1, rfl, hoR⟩, hb3⟩
          obtain rfl : l0 = m0 := HL0.out.symm.trans (RSnap.lens hoR).1
          obtain rfl : l1 = m1 := HL1.out.symm.trans (RSnap.lens hoR).2.2.1
          have HBwr3 : Below w1.heap.size w1 wr3 := HBwr2.trans (hb3.mono HBwr2.size)
          have BBwr3 := B_1.trans (HBwr3.mono B_1.size)
          have zwr3 := hb3.size
          have HO := Hid.mk hoR
          clear hoR OX
          (try go_wp2_with fail)
          refine hK.out _ _ ?_ (fun hHeld' => ?_)
          · (try dsimp only)
            exact HBwr3
          clear hK K hHeld
          have hHeld := hHeld'
          clear hHeld'
          (try simp only [Act.put, List.setIfInBounds_toArray, List.set_cons_zero, List.set_cons_succ])
          refine tk 5 ?_
          refine tk 6 ?_
          refine tk 7 ?_
          refine wpAnyH_ready (rs := [8]) (by kernel_rfl) (by simp) ?_
          refine AllReadyH.cons (o := ?_) ?_ (fun K hK => ?_) AllReadyH.nil
          rotate_left
          · (simp only [List.getElem?_toArray, List.getElem?_cons_zero, List.getElem?_cons_succ]; rfl)
          go_simp
          (try go_wp2_with fail)
          refine hK.out _ _ ?_ (fun hHeld' => ?_)
          · (try dsimp only)
            exact HBwr3.alloc HBwr3.size _
          clear hK K hHeld
          have hHeld := hHeld'
          clear hHeld'
          (try simp only [Act.put, List.setIfInBounds_toArray, List.set_cons_zero, List.set_cons_succ])
          obtain ⟨wr4, hv4⟩ : ∃ zz, zz = wr3.alloc (.cells #[.slice none 0 0, .slice none 0 0] 32) := ⟨_, rfl⟩
          have hb4 : Below wr3.heap.size wr3 wr4 := by rw [hv4]; exact (Below.refl _ _).alloc (Nat.le_refl _) _
          have HBwr4 : Below w1.heap.size w1 wr4 := HBwr3.trans (hb4.mono HBwr3.size)
          have BBwr4 := B_1.trans (HBwr4.mono B_1.size)
          have zwr4 := hb4.size
          have HO := Hid.mk (RSnap.ownBelow HO.out hb4)
          have pb : wr4.heap[wr3.heap.size]? = some (.cells #[.slice none 0 0, .slice none 0 0] 32 (0, 0)) := by rw [hv4]; exact heap_alloc_new _ _
          have zp4 : wr4.heap.size = wr3.heap.size + 1 := by rw [hv4]; simp
          rw [← hv4]
          clear hv4
          have yy0 := blk_cell pb 0 (v := .slice none 0 0) rfl
          have yy1 := blk_cell pb 1 (v := .slice none 0 0) rfl
          have fy0 := blk_frozen pb 0
          have fy1 := blk_frozen pb 1
          have zl := HBwr4.size
          have HBE : Below w1.heap.size w1 ((wr4.setCell ⟨wr3.heap.size, 0, none⟩ (.slice r0 l0 d0)).setCell ⟨wr3.heap.size, 1, none⟩ (.slice r1 l1 d1)) := ((HBwr4.setCell (by show w1.heap.size ≤ wr3.heap.size; omega) _).setCell (by show w1.heap.size ≤ wr3.heap.size; omega) _)
          refine wpAnyH_ready (rs := [9]) (by kernel_rfl) (by simp) ?_
          refine AllReadyH.cons (o := ?_) ?_ (fun K hK => ?_) AllReadyH.nil
          rotate_left
          · (simp only [List.getElem?_toArray, List.getElem?_cons_zero, List.getElem?_cons_succ]; rfl)
          go_simp
          skip
          (try go_wp2_with fail)
          refine hK.out _ _ ?_ (fun hHeld' => ?_)
          · (try dsimp only)
            exact HBE
          clear hK K hHeld
          have hHeld := hHeld'
          clear hHeld'
          (try simp only [Act.put, List.setIfInBounds_toArray, List.set_cons_zero, List.set_cons_succ])
          refine tk 10 ?_
          refine wpAnyH_done (by kernel_rfl) ?_ _
          (try go_wp2_with fail)
          go_meet
          case rel =>
            exact ⟨wr3.heap.size, r0, d0, r1, d1, wr2.heap.size, wr3.heap.size, rfl, rfl, (blk_set (blk_set pb 0 _) 1 _), RSnap.ownOff HO.out ((Off.set (F := fun b => b = wr3.heap.size) (a := ⟨wr3.heap.size, 0, none⟩) rfl _).trans (Off.set (F := fun b => b = wr3.heap.size) (a := ⟨wr3.heap.size, 1, none⟩) rfl _)) (fun b h e => by have h2 : b = wr3.heap.size := e; have h3 := h.1; have h4 := h.2; omega), by omega, by rw [size_set, size_set]; omega, by omega, by rw [size_set, size_set]; omega, by omega, HBE⟩
        refine AllReadyH.cons (o := ?_) ?_ (fun K hK => ?_) AllReadyH.nil
        rotate_left
        · (simp only [List.getElem?_toArray, List.getElem?_cons_zero, List.getElem?_cons_succ]; rfl)
        · go_simp
          (try go_wp2_with fail)
          refine hK.out _ _ ?_ (fun hHeld' => ?_)
          · (try dsimp only)
            exact HBwr2.alloc HBwr2.size _
          clear hK K hHeld
          have hHeld := hHeld'
          clear hHeld'
          (try simp only [Act.put, List.setIfInBounds_toArray, List.set_cons_zero, List.set_cons_succ])
          obtain ⟨wr5, hv5⟩ : ∃ zz, zz = wr2.alloc (.cells #[.slice none 0 0, .slice none 0 0] 32) := ⟨_, rfl⟩
          have hb5 : Below wr2.heap.size wr2 wr5 := by rw [hv5]; exact (Below.refl _ _).alloc (Nat.le_refl _) _
          have HBwr5 : Below w1.heap.size w1 wr5 := HBwr2.trans (hb5.mono HBwr2.size)
          have BBwr5 := B_1.trans (HBwr5.mono B_1.size)
          have zwr5 := hb5.size
          have OX := Hid.mk (RSnap.ownBelow OX.out hb5)
          have pb : wr5.heap[wr2.heap.size]? = some (.cells #[.slice none 0 0, .slice none 0 0] 32 (0, 0)) := by rw [hv5]; exact heap_alloc_new _ _
          have zp5 : wr5.heap.size = wr2.heap.size + 1 := by rw [hv5]; simp
          rw [← hv5]
          clear hv5
          refine wpAnyH_ready (rs := [4]) (by kernel_rfl) (by simp) ?_
          refine AllReadyH.cons (o := ?_) ?_ (fun K hK => ?_) AllReadyH.nil
          rotate_left
          · (simp only [List.getElem?_toArray, List.getElem?_cons_zero, List.getElem?_cons_succ]; rfl)
          go_simp
          go_at_call 7
          refine (HS.out _ _ _ _ OX.out).mono ?_
          rintro e wr6 ⟨⟨r0, m0, d0, r1, m1, d1, rfl, hoR⟩, hb6⟩
          obtain rfl : l0 = m0 := HL0.out.symm.trans (RSnap.lens hoR).1
          obtain rfl : l1 = m1 := HL1.out.symm.trans (RSnap.lens hoR).2.2.1
          have HBwr6 : Below w1.heap.size w1 wr6 := HBwr5.trans (hb6.mono HBwr5.size)
          have BBwr6 := B_1.trans (HBwr6.mono B_1.size)
          have zwr6 := hb6.size
          have pb := blk_below pb hb6
          have HO := Hid.mk hoR
          clear hoR OX
          (try go_wp2_with fail)
          refine hK.out _ _ ?_ (fun hHeld' => ?_)
          · (try dsimp only)
            exact HBwr6
          clear hK K hHeld
          have hHeld := hHeld'
          clear hHeld'
          (try simp only [Act.put, List.setIfInBounds_toArray, List.set_cons_zero, List.set_cons_succ])
          refine tk 5 ?_
          refine tk 6 ?_
          refine tk 7 ?_
          have yy0 := blk_cell pb 0 (v := .slice none 0 0) rfl
          have yy1 := blk_cell pb 1 (v := .slice none 0 0) rfl
          have fy0 := blk_frozen pb 0
          have fy1 := blk_frozen pb 1
          have zl := HBwr6.size
          have HBE : Below w1.heap.size w1 ((wr6.setCell ⟨wr2.heap.size, 0, none⟩ (.slice r0 l0 d0)).setCell ⟨wr2.heap.size, 1, none⟩ (.slice r1 l1 d1)) := ((HBwr6.setCell (by show w1.heap.size ≤ wr2.heap.size; omega) _).setCell (by show w1.heap.size ≤ wr2.heap.size; omega) _)
          refine wpAnyH_ready (rs := [9]) (by kernel_rfl) (by simp) ?_
          refine AllReadyH.cons (o := ?_) ?_ (fun K hK => ?_) AllReadyH.nil
          rotate_left
          · (simp only [List.getElem?_toArray, List.getElem?_cons_zero, List.getElem?_cons_succ]; rfl)
          go_simp
          skip
          (try go_wp2_with fail)
          refine hK.out _ _ ?_ (fun hHeld' => ?_)
          · (try dsimp only)
            exact HBE
          clear hK K hHeld
          have hHeld := hHeld'
          clear hHeld'
          (try simp only [Act.put, List.setIfInBounds_toArray, List.set_cons_zero, List.set_cons_succ])
          refine tk 10 ?_
          refine wpAnyH_done (by kernel_rfl) ?_ _
          (try go_wp2_with fail)
          go_meet
          case rel =>
            exact ⟨wr2.heap.size, r0, d0, r1, d1, wr5.heap.size, wr6.heap.size, rfl, rfl, (blk_set (blk_set pb 0 _) 1 _), RSnap.ownOff HO.out ((Off.set (F := fun b => b = wr2.heap.size) (a := ⟨wr2.heap.size, 0, none⟩) rfl _).trans (Off.set (F := fun b => b = wr2.heap.size) (a := ⟨wr2.heap.size, 1, none⟩) rfl _)) (fun b h e => by have h2 : b = wr2.heap.size := e; have h3 := h.1; have h4 := h.2; omega), by omega, by rw [size_set, size_set]; omega, by omega, by rw [size_set, size_set]; omega, by omega, HBE⟩
      refine AllReadyH.cons (o := ?_) ?_ (fun K hK => ?_) AllReadyH.nil
      rotate_left
      · (simp only [List.getElem?_toArray, List.getElem?_cons_zero, List.getElem?_cons_succ]; rfl)
      · go_simp
        (try go_wp2_with fail)
        refine hK.out _ _ ?_ (fun hHeld' => ?_)
        · (try dsimp only)
          exact HBwr1.alloc HBwr1.size _
        clear hK K hHeld
        have hHeld := hHeld'
        clear hHeld'
        (try simp only [Act.put, List.setIfInBounds_toArray, List.set_cons_zero, List.set_cons_succ])
        obtain ⟨wr7, hv7⟩ : ∃ zz, zz = wr1.alloc (.cells #[.slice none 0 0, .slice none 0 0] 32) := ⟨_, rfl⟩
        have hb7 : Below wr1.heap.size wr1 wr7 := by rw [hv7]; exact (Below.refl _ _).alloc (Nat.le_refl _) _
        have HBwr7 : Below w1.heap.size w1 wr7 := HBwr1.trans (hb7.mono HBwr1.size)
        have BBwr7 := B_1.trans (HBwr7.mono B_1.size)
        have zwr7 := hb7.size
        have OX := Hid.mk (RSnap.ownBelow OX.out hb7)
        have pb : wr7.heap[wr1.heap.size]? = some (.cells #[.slice none 0 0, .slice none 0 0] 32 (0, 0)) := by rw [hv7]; exact heap_alloc_new _ _
        have zp7 : wr7.heap.size = wr1.heap.size + 1 := by rw [hv7]; simp
        rw [← hv7]
        clear hv7
        refine wpAnyH_ready (rs := [3]) (by kernel_rfl) (by simp) ?_
        refine AllReadyH.cons (o := ?_) ?_ (fun K hK => ?_) AllReadyH.nil
        rotate_left
        · (simp only [List.getElem?_toArray, List.getElem?_cons_zero, List.getElem?_cons_succ]; rfl)
        go_simp
        go_at_call 9
        refine (toSnapStep_rep sz0_1 sz1_1 sz2_1 sz3_1 wr7).mono ?_
        rintro e wr8 ⟨rfl, _, hb8⟩
        have HBwr8 : Below w1.heap.size w1 wr8 := HBwr7.trans (hb8.mono HBwr7.size)
        have BBwr8 := B_1.trans (HBwr8.mono B_1.size)
        have zwr8 := hb8.size
        have OX := Hid.mk (RSnap.ownBelow OX.out hb8)
        have pb := blk_below pb hb8
        (try go_wp2_with fail)
        refine hK.out _ _ ?_ (fun hHeld' => ?_)
        · (try dsimp only)
          exact HBwr8
        clear hK K hHeld
        have hHeld := hHeld'
        clear hHeld'
        (try simp only [Act.put, List.setIfInBounds_toArray, List.set_cons_zero, List.set_cons_succ])
        refine wpAnyH_ready (rs := [4]) (by kernel_rfl) (by simp) ?_
        refine AllReadyH.cons (o := ?_) ?_ (fun K hK => ?_) AllReadyH.nil
        rotate_left
        · (simp only [List.getElem?_toArray, List.getElem?_cons_zero, List.getElem?_cons_succ]; rfl)
        go_simp
        go_at_call 7
        refine (HS.out _ _ _ _ OX.out).mono ?_
        rintro e wr9 ⟨⟨r0, m0, d0, r1, m1, d1, rfl, hoR⟩, hb9⟩
        obtain rfl : l0 = m0 := HL0.out.symm.trans (RSnap.lens hoR).1
        obtain rfl : l1 = m1 := HL1.out.symm.trans (RSnap.lens hoR).2.2.1
        have HBwr9 : Below w1.heap.size w1 wr9 := HBwr8.trans (hb9.mono HBwr8.size)
        have BBwr9 := B_1.trans (HBwr9.mono B_1.size)
        have zwr9 := hb9.size
        have pb := blk_below pb hb9
        have HO := Hid.mk hoR
        clear hoR OX
        (try go_wp2_with fail)
        refine hK.out _ _ ?_ (fun hHeld' => ?_)
        · (try dsimp only)
          exact HBwr9
        clear hK K hHeld
        have hHeld := hHeld'
        clear hHeld'
        (try simp only [Act.put, List.setIfInBounds_toArray, List.set_cons_zero, List.set_cons_succ])
        refine tk 5 ?_
        refine tk 6 ?_
        refine tk 7 ?_
        have yy0 := blk_cell pb 0 (v := .slice none 0 0) rfl
        have yy1 := blk_cell pb 1 (v := .slice none 0 0) rfl
        have fy0 := blk_frozen pb 0
        have fy1 := blk_frozen pb 1
        have zl := HBwr9.size
        have HBE : Below w1.heap.size w1 ((wr9.setCell ⟨wr1.heap.size, 0, none⟩ (.slice r0 l0 d0)).setCell ⟨wr1.heap.size, 1, none⟩ (.slice r1 l1 d1)) := ((HBwr9.setCell (by show w1.heap.size ≤ wr1.heap.size; omega) _).setCell (by show w1.heap.size ≤ wr1.heap.size; omega) _)
        refine wpAnyH_ready (rs := [9]) (by kernel_rfl) (by simp) ?_
        refine AllReadyH.cons (o := ?_) ?_ (fun K hK => ?_) AllReadyH.nil
        rotate_left
        · (simp only [List.getElem?_toArray, List.getElem?_cons_zero, List.getElem?_cons_succ]; rfl)
        go_simp
        skip
        (try go_wp2_with fail)
        refine hK.out _ _ ?_ (fun hHeld' => ?_)
        · (try dsimp only)
          exact HBE
        clear hK K hHeld
        have hHeld := hHeld'
        clear hHeld'
        (try simp only [Act.put, List.setIfInBounds_toArray, List.set_cons_zero, List.set_cons_succ])
        refine tk 10 ?_
        refine wpAnyH_done (by kernel_rfl) ?_ _
        (try go_wp2_with fail)
        go_meet
        case rel =>
          exact ⟨wr1.heap.size, r0, d0, r1, d1, wr8.heap.size, wr9.heap.size, rfl, rfl, (blk_set (blk_set pb 0 _) 1 _), RSnap.ownOff HO.out ((Off.set (F := fun b => b = wr1.heap.size) (a := ⟨wr1.heap.size, 0, none⟩) rfl _).trans (Off.set (F := fun b => b = wr1.heap.size) (a := ⟨wr1.heap.size, 1, none⟩) rfl _)) (fun b h e => by have h2 : b = wr1.heap.size := e; have h3 := h.1; have h4 := h.2; omega), by omega, by rw [size_set, size_set]; omega, by omega, by rw [size_set, size_set]; omega, by omega, HBE⟩
    refine AllReadyH.cons (o := ?_) ?_ (fun K hK => ?_) AllReadyH.nil
    rotate_left
    · (simp only [List.getElem?_toArray, List.getElem?_cons_zero, List.getElem?_cons_succ]; rfl)
    · go_simp
      (try go_wp2_with fail)
      refine hK.out _ _ ?_ (fun hHeld' => ?_)
      · (try dsimp only)
        exact Yd.alloc Yd.size _
      clear hK K hHeld
      have hHeld := hHeld'
      clear hHeld'
      (try simp only [Act.put, List.setIfInBounds_toArray, List.set_cons_zero, List.set_cons_succ])
      obtain ⟨wr10, hv10⟩ : ∃ zz, zz = ud.alloc (.cells #[.slice none 0 0, .slice none 0 0] 32) := ⟨_, rfl⟩
      have hb10 : Below ud.heap.size ud wr10 := by rw [hv10]; exact (Below.refl _ _).alloc (Nat.le_refl _) _
      have HBwr10 : Below w1.heap.size w1 wr10 := Yd.trans (hb10.mono Yd.size)
      have BBwr10 := B_1.trans (HBwr10.mono B_1.size)
      have zwr10 := hb10.size
      have pb : wr10.heap[ud.heap.size]? = some (.cells #[.slice none 0 0, .slice none 0 0] 32 (0, 0)) := by rw [hv10]; exact heap_alloc_new _ _
      have zp10 : wr10.heap.size = ud.heap.size + 1 := by rw [hv10]; simp
      rw [← hv10]
      clear hv10
      refine wpAnyH_ready (rs := [1]) (by kernel_rfl) (by simp) ?_
      refine AllReadyH.cons (o := ?_) ?_ (fun K hK => ?_) AllReadyH.nil
      rotate_left
      · (simp only [List.getElem?_toArray, List.getElem?_cons_zero, List.getElem?_cons_succ]; rfl)
      go_simp
      go_at_call 8
      refine (toSnap_rep sa0_0 sn0_0 sc0_0 sa1_0 sn1_0 sc1_0  sx0_0 sx1_0 _ HZ0.out.1 sh0_0 HZ0.out.2 sh1_0 HDD1_0.out (AtSl.below HA0.out.1 BBwr10) (AtSl.below HA0.out.2 BBwr10)).mono ?_
      rintro e wr11 ⟨gr11_0, gr11_1, rfl, hoX, hb11⟩
      have HBwr11 : Below w1.heap.size w1 wr11 := HBwr10.trans (hb11.mono HBwr10.size)
      have BBwr11 := B_1.trans (HBwr11.mono B_1.size)
      have zwr11 := hb11.size
      have pb := blk_below pb hb11
      have OX := Hid.mk hoX
      clear hoX
      (try go_wp2_with fail)
      refine hK.out _ _ ?_ (fun hHeld' => ?_)
      · (try dsimp only)
        exact HBwr11
      clear hK K hHeld
      have hHeld := hHeld'
      clear hHeld'
      (try simp only [Act.put, List.setIfInBounds_toArray, List.set_cons_zero, List.set_cons_succ])
      refine wpAnyH_ready (rs := [3]) (by kernel_rfl) (by simp) ?_
      refine AllReadyH.cons (o := ?_) ?_ (fun K hK => ?_) AllReadyH.nil
      rotate_left
      · (simp only [List.getElem?_toArray, List.getElem?_cons_zero, List.getElem?_cons_succ]; rfl)
      go_simp
      go_at_call 9
      refine (toSnapStep_rep sz0_1 sz1_1 sz2_1 sz3_1 wr11).mono ?_
      rintro e wr12 ⟨rfl, _, hb12⟩
      have HBwr12 : Below w1.heap.size w1 wr12 := HBwr11.trans (hb12.mono HBwr11.size)
      have BBwr12 := B_1.trans (HBwr12.mono B_1.size)
      have zwr12 := hb12.size
      have OX := Hid.mk (RSnap.ownBelow OX.out hb12)
      have pb := blk_below pb hb12
      (try go_wp2_with fail)
      refine hK.out _ _ ?_ (fun hHeld' => ?_)
      · (try dsimp only)
        exact HBwr12
      clear hK K hHeld
      have hHeld := hHeld'
      clear hHeld'
      (try simp only [Act.put, List.setIfInBounds_toArray, List.set_cons_zero, List.set_cons_succ])
      refine wpAnyH_ready (rs := [4]) (by kernel_rfl) (by simp) ?_
      refine AllReadyH.cons (o := ?_) ?_ (fun K hK => ?_) AllReadyH.nil
      rotate_left
      · (simp only [List.getElem?_toArray, List.getElem?_cons_zero, List.getElem?_cons_succ]; rfl)
      go_simp
      go_at_call 7
      refine (HS.out _ _ _ _ OX.out).mono ?_
      rintro e wr13 ⟨⟨r0, m0, d0, r1, m1, d1, rfl, hoR⟩, hb13⟩
      obtain rfl : l0 = m0 := HL0.out.symm.trans (RSnap.lens hoR).1
      obtain rfl : l1 = m1 := HL1.out.symm.trans (RSnap.lens hoR).2.2.1
      have HBwr13 : Below w1.heap.size w1 wr13 := HBwr12.trans (hb13.mono HBwr12.size)
      have BBwr13 := B_1.trans (HBwr13.mono B_1.size)
      have zwr13 := hb13.size
      have pb := blk_below pb hb13
      have HO := Hid.mk hoR
      clear hoR OX
      (try go_wp2_with fail)
      refine hK.out _ _ ?_ (fun hHeld' => ?_)
      · (try dsimp only)
        exact HBwr13
      clear hK K hHeld
      have hHeld := hHeld'
      clear hHeld'
      (try simp only [Act.put, List.setIfInBounds_toArray, List.set_cons_zero, List.set_cons_succ])
      refine tk 5 ?_
      refine tk 6 ?_
      refine tk 7 ?_
      have yy0 := blk_cell pb 0 (v := .slice none 0 0) rfl
      have yy1 := blk_cell pb 1 (v := .slice none 0 0) rfl
      have fy0 := blk_frozen pb 0
      have fy1 := blk_frozen pb 1
      have zl := HBwr13.size
      have HBE : Below w1.heap.size w1 ((wr13.setCell ⟨ud.heap.size, 0, none⟩ (.slice r0 l0 d0)).setCell ⟨ud.heap.size, 1, none⟩ (.slice r1 l1 d1)) := ((HBwr13.setCell (by show w1.heap.size ≤ ud.heap.size; omega) _).setCell (by show w1.heap.size ≤ ud.heap.size; omega) _)
      refine wpAnyH_ready (rs := [9]) (by kernel_rfl) (by simp) ?_
      refine AllReadyH.cons (o := ?_) ?_ (fun K hK => ?_) AllReadyH.nil
      rotate_left
      · (simp only [List.getElem?_toArray, List.getElem?_cons_zero, List.getElem?_cons_succ]; rfl)
      go_simp
      skip
      (try go_wp2_with fail)
      refine hK.out _ _ ?_ (fun hHeld' => ?_)
      · (try dsimp only)
        exact HBE
      clear hK K hHeld
      have hHeld := hHeld'
      clear hHeld'
      (try simp only [Act.put, List.setIfInBounds_toArray, List.set_cons_zero, List.set_cons_succ])
      refine tk 10 ?_
      refine wpAnyH_done (by kernel_rfl) ?_ _
      (try go_wp2_with fail)
      go_meet
      case rel =>
        exact ⟨ud.heap.size, r0, d0, r1, d1, wr12.heap.size, wr13.heap.size, rfl, rfl, (blk_set (blk_set pb 0 _) 1 _), RSnap.ownOff HO.out ((Off.set (F := fun b => b = ud.heap.size) (a := ⟨ud.heap.size, 0, none⟩) rfl _).trans (Off.set (F := fun b => b = ud.heap.size) (a := ⟨ud.heap.size, 1, none⟩) rfl _)) (fun b h e => by have h2 : b = ud.heap.size := e; have h3 := h.1; have h4 := h.2; omega), by omega, by rw [size_set, size_set]; omega, by omega, by rw [size_set, size_set]; omega, by omega, HBE⟩
  case rest =>
    obtain ⟨Pb2, r02, d02, r12, d12, lo2, hi2, rfl, rfl, bp2, ow2, pl2, ph2, pm2, pn2, pd2, hb2⟩ := hcut
    obtain ⟨w2, rfl⟩ : ∃ x, x = wc := ⟨_, rfl⟩
    have Wt0_2 := blk_cell bp2 0 (v := .slice r02 l0 d02) rfl
    have Wt1_2 := blk_cell bp2 1 (v := .slice r12 l1 d12) rfl
    have oo_2 := Hid.mk ow2
    clear ow2 bp2
    have p00_2 := cell_later hb2 p00_1
    have p01_2 := cell_later hb2 p01_1
    have p10_2 := cell_later hb2 p10_1
    have p11_2 := cell_later hb2 p11_1
    have p12_2 := cell_later hb2 p12_1
    have p13_2 := cell_later hb2 p13_1
    have B_2 := B_1.trans (hb2.mono B_1.size)
    have zz2 : w1.heap.size ≤ w2.heap.size := hb2.size
    clear p00_1 p01_1 p10_1 p11_1 p12_1 p13_1 B_1
    clear hb2
    go_wp2_with fail
    refine (toSnap_rep sa0_0 sn0_0 sc0_0 sa1_0 sn1_0 sc1_0  sx0_0 sx1_0 _ HZ0.out.1 sh0_0 HZ0.out.2 sh1_0 HDD1_0.out (AtSl.below HA0.out.1 B_2) (AtSl.below HA0.out.2 B_2)).mono ?_
    rintro e w3 ⟨g3_0, g3_1, rfl, ho3, hb3⟩
    have ox0_3 := Hid.mk ho3
    clear ho3
    have p00_3 := cell_later hb3 p00_2
    have p01_3 := cell_later hb3 p01_2
    have p10_3 := cell_later hb3 p10_2
    have p11_3 := cell_later hb3 p11_2
    have p12_3 := cell_later hb3 p12_2
    have p13_3 := cell_later hb3 p13_2
    have Wt0_3 := cell_later hb3 Wt0_2
    have Wt1_3 := cell_later hb3 Wt1_2
    have oo_3 := Hid.mk (RSnap.ownBelow oo_2.out hb3)
    have B_3 := B_2.trans (hb3.mono B_2.size)
    have zz3 : w2.heap.size ≤ w3.heap.size := hb3.size
    clear p00_2 p01_2 p10_2 p11_2 p12_2 p13_2 Wt0_2 Wt1_2 oo_2 B_2
    clear hb3
    obtain ⟨w4, hU4⟩ : ∃ u, u = w3.alloc (.cells #[.slice (some ⟨g3_0, 0, none⟩) sn0_0 sn0_0, .slice (some ⟨g3_1, 0, none⟩) sn1_0 sn1_0] 32) := ⟨_, rfl⟩
    have hb4 : Below w3.heap.size w3 w4 := by rw [hU4]; exact (Below.refl _ _).alloc (Nat.le_refl _) _
    have zl4 : w3.heap.size < w4.heap.size := by rw [hU4]; simp
    have nX00 : w4.cell? ⟨w3.heap.size, 0, none⟩ = some (.slice (some ⟨g3_0, 0, none⟩) sn0_0 sn0_0) := by rw [hU4]; simp
    have nX01 : w4.cell? ⟨w3.heap.size, 1, none⟩ = some (.slice (some ⟨g3_1, 0, none⟩) sn1_0 sn1_0) := by rw [hU4]; simp
    have p00_4 := cell_later hb4 p00_3
    have p01_4 := cell_later hb4 p01_3
    have p10_4 := cell_later hb4 p10_3
    have p11_4 := cell_later hb4 p11_3
    have p12_4 := cell_later hb4 p12_3
    have p13_4 := cell_later hb4 p13_3
    have Wt0_4 := cell_later hb4 Wt0_3
    have Wt1_4 := cell_later hb4 Wt1_3
    have oo_4 := Hid.mk (RSnap.ownBelow oo_3.out hb4)
    have ox0_4 := Hid.mk (RSnap.ownBelow ox0_3.out hb4)
    have B_4 := B_3.trans (hb4.mono B_3.size)
    have zz4 : w3.heap.size ≤ w4.heap.size := hb4.size
    clear p00_3 p01_3 p10_3 p11_3 p12_3 p13_3 Wt0_3 Wt1_3 oo_3 ox0_3 B_3
    clear hb4
    have xp00 := p00_4
    rw [hU4] at xp00
    have xp01 := p01_4
    rw [hU4] at xp01
    have xp10 := p10_4
    rw [hU4] at xp10
    have xp11 := p11_4
    rw [hU4] at xp11
    have xp12 := p12_4
    rw [hU4] at xp12
    have xp13 := p13_4
    rw [hU4] at xp13
    have xWt0 := Wt0_4
    rw [hU4] at xWt0
    have xWt1 := Wt1_4
    rw [hU4] at xWt1
    have xX00 := nX00
    rw [hU4] at xX00
    have xX01 := nX01
    rw [hU4] at xX01
    go_upto_region 7 with fail
    rw [← hU4]
    clear hU4
    clear xp00 xp01 xp10 xp11 xp12 xp13 xWt0 xWt1 xX00 xX01
    go_cut [9, 10] (fun ta' tb wx => ∃ (P : Nat) (r0 : Option Addr) (d0 : Nat) (r1 : Option Addr) (d1 : Nat) (lo hi : Nat), ta' = .pointer (some ⟨P, 0, none⟩) ∧ tb = .bool v0 ∧ wx.heap[P]? = some (.cells #[.slice r0 l0 d0, .slice r1 l1 d1] 32 (0, 0)) ∧ RSnap.Own wx (From lo hi) [.slice r0 l0 d0, .slice r1 l1 d1] (t0, t1) ∧ w4.heap.size ≤ lo ∧ hi ≤ wx.heap.size ∧ w4.heap.size ≤ P ∧ P < wx.heap.size ∧ (P < lo ∨ hi ≤ P) ∧ Below w4.heap.size w4 wx)
    case first =>
      refine wp_region_held_drew (S := fun w' => Below w4.heap.size w4 w') (by kernel_rfl) ?_ (fun hHeld => ?_)
      · (try dsimp only)
        exact (Below.refl _ _).drew
      refine tk 0 ?_ (hy := fun wS hSw => by (have nX00 := cell_later hSw nX00; have nX01 := cell_later hSw nX01; go_simp; (try with_reducible rfl)))
      refine tk 1 ?_ (hy := fun wS hSw => by (have p10_4 := cell_later hSw p10_4; have p11_4 := cell_later hSw p11_4; have p12_4 := cell_later hSw p12_4; have p13_4 := cell_later hSw p13_4; go_simp; (try with_reducible rfl)))
      obtain ⟨ud, hud⟩ : ∃ z, z = w4.drew := ⟨_, rfl⟩
      have Yd : Below w4.heap.size w4 ud := by rw [hud]; exact (Below.refl _ _).drew
      have zud := Yd.size
      have YB := B_4.trans (Yd.mono B_4.size)
      rw [← hud]
      clear hud
      have OX := Hid.mk (RSnap.ownBelow ox0_4.out Yd)
      refine wpAnyH_ready (rs := [2, 7]) (by kernel_rfl) (by simp) ?_
      refine AllReadyH.cons (o := ?_) ?_ (fun K hK => ?_) ?_
      rotate_left
      · (simp only [List.getElem?_toArray, List.getElem?_cons_zero, List.getElem?_cons_succ]; rfl)
      · go_simp
        go_at_call 9
        refine (toSnapStep_rep sz0_1 sz1_1 sz2_1 sz3_1 ud).mono ?_
        rintro e wr1 ⟨rfl, _, hb1⟩
        have HBwr1 : Below w4.heap.size w4 wr1 := Yd.trans (hb1.mono Yd.size)
        have BBwr1 := B_4.trans (HBwr1.mono B_4.size)
        have zwr1 := hb1.size
        have OX := Hid.mk (RSnap.ownBelow OX.out hb1)
        (try go_wp2_with fail)
        refine hK.out _ _ ?_ (fun hHeld' => ?_)
        · (try dsimp only)
          exact HBwr1
        clear hK K hHeld
        have hHeld := hHeld'
        clear hHeld'
        (try simp only [Act.put, List.setIfInBounds_toArray, List.set_cons_zero, List.set_cons_succ])
        refine wpAnyH_ready (rs := [3, 7]) (by kernel_rfl) (by simp) ?_
        refine AllReadyH.cons (o := ?_) ?_ (fun K hK => ?_) ?_
        rotate_left
        · (simp only [List.getElem?_toArray, List.getElem?_cons_zero, List.getElem?_cons_succ]; rfl)
        · go_simp
          go_at_call 10
          refine (HI.out _ _ _ _ OX.out).mono ?_
          rintro e wr2 ⟨⟨r0, m0, d0, r1, m1, d1, rfl, hoR⟩, hb2⟩
          obtain rfl : l0 = m0 := HL0.out.symm.trans (RSnap.lens hoR).1
          obtain rfl : l1 = m1 := HL1.out.symm.trans (RSnap.lens hoR).2.2.1
          have HBwr2 : Below w4.heap.size w4 wr2 := HBwr1.trans (hb2.mono HBwr1.size)
          have BBwr2 := B_4.trans (HBwr2.mono B_4.size)
          have zwr2 := hb2.size
          have HO := Hid.mk hoR
          clear hoR OX
          (try go_wp2_with fail)
          refine hK.out _ _ ?_ (fun hHeld' => ?_)
          · (try dsimp only)
            exact HBwr2
          clear hK K hHeld
          have hHeld := hHeld'
          clear hHeld'
          (try simp only [Act.put, List.setIfInBounds_toArray, List.set_cons_zero, List.set_cons_succ])
          refine tk 4 ?_
          refine tk 5 ?_
          refine tk 6 ?_
          refine wpAnyH_ready (rs := [7]) (by kernel_rfl) (by simp) ?_
          refine AllReadyH.cons (o := ?_) ?_ (fun K hK => ?_) AllReadyH.nil
          rotate_left
          · (simp only [List.getElem?_toArray, List.getElem?_cons_zero, List.getElem?_cons_succ]; rfl)
          go_simp
          (try go_wp2_with fail)
          refine hK.out _ _ ?_ (fun hHeld' => ?_)
          · (try dsimp only)
            exact HBwr2.alloc HBwr2.size _
          clear hK K hHeld
          have hHeld := hHeld'
          clear hHeld'
          (try simp only [Act.put, List.setIfInBounds_toArray, List.set_cons_zero, List.set_cons_succ])
          obtain ⟨wr3, hv3⟩ : ∃ zz, zz = wr2.alloc (.cells #[.slice none 0 0, .slice none 0 0] 32) := ⟨_, rfl⟩
          have hb3 : Below wr2.heap.size wr2 wr3 := by rw [hv3]; exact (Below.refl _ _).alloc (Nat.le_refl _) _
          have HBwr3 : Below w4.heap.size w4 wr3 := HBwr2.trans (hb3.mono HBwr2.size)
          have BBwr3 := B_4.trans (HBwr3.mono B_4.size)
          have zwr3 := hb3.size
          have HO := Hid.mk (RSnap.ownBelow HO.out hb3)
          have pb : wr3.heap[wr2.heap.size]? = some (.cells #[.slice none 0 0, .slice none 0 0] 32 (0, 0)) := by rw [hv3]; exact heap_alloc_new _ _
          have zp3 : wr3.heap.size = wr2.heap.size + 1 := by rw [hv3]; simp
          rw [← hv3]
          clear hv3
          have yy0 := blk_cell pb 0 (v := .slice none 0 0) rfl
          have yy1 := blk_cell pb 1 (v := .slice none 0 0) rfl
          have fy0 := blk_frozen pb 0
          have fy1 := blk_frozen pb 1
          have zl := HBwr3.size
          have HBE : Below w4.heap.size w4 ((wr3.setCell ⟨wr2.heap.size, 0, none⟩ (.slice r0 l0 d0)).setCell ⟨wr2.heap.size, 1, none⟩ (.slice r1 l1 d1)) := ((HBwr3.setCell (by show w4.heap.size ≤ wr2.heap.size; omega) _).setCell (by show w4.heap.size ≤ wr2.heap.size; omega) _)
          refine wpAnyH_ready (rs := [8]) (by kernel_rfl) (by simp) ?_
          refine AllReadyH.cons (o := ?_) ?_ (fun K hK => ?_) AllReadyH.nil
          rotate_left
          · (simp only [List.getElem?_toArray, List.getElem?_cons_zero, List.getElem?_cons_succ]; rfl)
          go_simp
          skip
          (try go_wp2_with fail)
          refine hK.out _ _ ?_ (fun hHeld' => ?_)
          · (try dsimp only)
            exact HBE
          clear hK K hHeld
          have hHeld := hHeld'
          clear hHeld'
          (try simp only [Act.put, List.setIfInBounds_toArray, List.set_cons_zero, List.set_cons_succ])
          refine tk 9 ?_
          refine wpAnyH_done (by kernel_rfl) ?_ _
          (try go_wp2_with fail)
          go_meet
          case rel =>
            exact ⟨wr2.heap.size, r0, d0, r1, d1, wr1.heap.size, wr2.heap.size, rfl, rfl, (blk_set (blk_set pb 0 _) 1 _), RSnap.ownOff HO.out ((Off.set (F := fun b => b = wr2.heap.size) (a := ⟨wr2.heap.size, 0, none⟩) rfl _).trans (Off.set (F := fun b => b = wr2.heap.size) (a := ⟨wr2.heap.size, 1, none⟩) rfl _)) (fun b h e => by have h2 : b = wr2.heap.size := e; have h3 := h.1; have h4 := h.2; omega), by omega, by rw [size_set, size_set]; omega, by omega, by rw [size_set, size_set]; omega, by omega, HBE⟩
        refine AllReadyH.cons (o := ?_) ?_ (fun K hK => ?_) AllReadyH.nil
        rotate_left
        · (simp only [List.getElem?_toArray, List.getElem?_cons_zero, List.getElem?_cons_succ]; rfl)
        · go_simp
          (try go_wp2_with fail)
          refine hK.out _ _ ?_ (fun hHeld' => ?_)
          · (try dsimp only)
            exact HBwr1.alloc HBwr1.size _
          clear hK K hHeld
          have hHeld := hHeld'
          clear hHeld'
          (try simp only [Act.put, List.setIfInBounds_toArray, List.set_cons_zero, List.set_cons_succ])
          obtain ⟨wr4, hv4⟩ : ∃ zz, zz = wr1.alloc (.cells #[.slice none 0 0, .slice none 0 0] 32) := ⟨_, rfl⟩
          have hb4 : Below wr1.heap.size wr1 wr4 := by rw [hv4]; exact (Below.refl _ _).alloc (Nat.le_refl _) _
          have HBwr4 : Below w4.heap.size w4 wr4 := HBwr1.trans (hb4.mono HBwr1.size)
          have BBwr4 := B_4.trans (HBwr4.mono B_4.size)
          have zwr4 := hb4.size
          have OX := Hid.mk (RSnap.ownBelow OX.out hb4)
          have pb : wr4.heap[wr1.heap.size]? = some (.cells #[.slice none 0 0, .slice none 0 0] 32 (0, 0)) := by rw [hv4]; exact heap_alloc_new _ _
          have zp4 : wr4.heap.size = wr1.heap.size + 1 := by rw [hv4]; simp
          rw [← hv4]
          clear hv4
          refine wpAnyH_ready (rs := [3]) (by kernel_rfl) (by simp) ?_
          refine AllReadyH.cons (o := ?_) ?_ (fun K hK => ?_) AllReadyH.nil
          rotate_left
          · (simp only [List.getElem?_toArray, List.getElem?_cons_zero, List.getElem?_cons_succ]; rfl)
          go_simp
          go_at_call 10
          refine (HI.out _ _ _ _ OX.out).mono ?_
          rintro e wr5 ⟨⟨r0, m0, d0, r1, m1, d1, rfl, hoR⟩, hb5⟩
          obtain rfl : l0 = m0 := HL0.out.symm.trans (RSnap.lens hoR).1
          obtain rfl : l1 = m1 := HL1.out.symm.trans (RSnap.lens hoR).2.2.1
          have HBwr5 : Below w4.heap.size w4 wr5 := HBwr4.trans (hb5.mono HBwr4.size)
          have BBwr5 := B_4.trans (HBwr5.mono B_4.size)
          have zwr5 := hb5.size
          have pb := blk_below pb hb5
          have HO := Hid.mk hoR
          clear hoR OX
          (try go_wp2_with fail)
          refine hK.out _ _ ?_ (fun hHeld' => ?_)
          · (try dsimp only)
            exact HBwr5
          clear hK K hHeld
          have hHeld := hHeld'
          clear hHeld'
          (try simp only [Act.put, List.setIfInBounds_toArray, List.set_cons_zero, List.set_cons_succ])
          refine tk 4 ?_
          refine tk 5 ?_
          refine tk 6 ?_
          have yy0 := blk_cell pb 0 (v := .slice none 0 0) rfl
          have yy1 := blk_cell pb 1 (v := .slice none 0 0) rfl
          have fy0 := blk_frozen pb 0
          have fy1 := blk_frozen pb 1
          have zl := HBwr5.size
          have HBE : Below w4.heap.size w4 ((wr5.setCell ⟨wr1.heap.size, 0, none⟩ (.slice r0 l0 d0)).setCell ⟨wr1.heap.size, 1, none⟩ (.slice r1 l1 d1)) := ((HBwr5.setCell (by show w4.heap.size ≤ wr1.heap.size; omega) _).setCell (by show w4.heap.size ≤ wr1.heap.size; omega) _)
          refine wpAnyH_ready (rs := [8]) (by kernel_rfl) (by simp) ?_
          refine AllReadyH.cons (o := ?_) ?_ (fun K hK => ?_) AllReadyH.nil
          rotate_left
          · (simp only [List.getElem?_toArray, List.getElem?_cons_zero, List.getElem?_cons_succ]; rfl)
          go_simp
          skip
          (try go_wp2_with fail)
          refine hK.out _ _ ?_ (fun hHeld' => ?_)
          · (try dsimp only)
            exact HBE
          clear hK K hHeld
          have hHeld := hHeld'
          clear hHeld'
          (try simp only [Act.put, List.setIfInBounds_toArray, List.set_cons_zero, List.set_cons_succ])
          refine tk 9 ?_
          refine wpAnyH_done (by kernel_rfl) ?_ _
          (try go_wp2_with fail)
          go_meet
          case rel =>
            exact ⟨wr1.heap.size, r0, d0, r1, d1, wr4.heap.size, wr5.heap.size, rfl, rfl, (blk_set (blk_set pb 0 _) 1 _), RSnap.ownOff HO.out ((Off.set (F := fun b => b = wr1.heap.size) (a := ⟨wr1.heap.size, 0, none⟩) rfl _).trans (Off.set (F := fun b => b = wr1.heap.size) (a := ⟨wr1.heap.size, 1, none⟩) rfl _)) (fun b h e => by have h2 : b = wr1.heap.size := e; have h3 := h.1; have h4 := h.2; omega), by omega, by rw [size_set, size_set]; omega, by omega, by rw [size_set, size_set]; omega, by omega, HBE⟩
      refine AllReadyH.cons (o := ?_) ?_ (fun K hK => ?_) AllReadyH.nil
      rotate_left
      · (simp only [List.getElem?_toArray, List.getElem?_cons_zero, List.getElem?_cons_succ]; rfl)
      · go_simp
        (try go_wp2_with fail)
        refine hK.out _ _ ?_ (fun hHeld' => ?_)
        · (try dsimp only)
          exact Yd.alloc Yd.size _
        clear hK K hHeld
        have hHeld := hHeld'
        clear hHeld'
        (try simp only [Act.put, List.setIfInBounds_toArray, List.set_cons_zero, List.set_cons_succ])
        obtain ⟨wr6, hv6⟩ : ∃ zz, zz = ud.alloc (.cells #[.slice none 0 0, .slice none 0 0] 32) := ⟨_, rfl⟩
        have hb6 : Below ud.heap.size ud wr6 := by rw [hv6]; exact (Below.refl _ _).alloc (Nat.le_refl _) _
        have HBwr6 : Below w4.heap.size w4 wr6 := Yd.trans (hb6.mono Yd.size)
        have BBwr6 := B_4.trans (HBwr6.mono B_4.size)
        have zwr6 := hb6.size
        have OX := Hid.mk (RSnap.ownBelow OX.out hb6)
        have pb : wr6.heap[ud.heap.size]? = some (.cells #[.slice none 0 0, .slice none 0 0] 32 (0, 0)) := by rw [hv6]; exact heap_alloc_new _ _
        have zp6 : wr6.heap.size = ud.heap.size + 1 := by rw [hv6]; simp
        rw [← hv6]
        clear hv6
        refine wpAnyH_ready (rs := [2]) (by kernel_rfl) (by simp) ?_
        refine AllReadyH.cons (o := ?_) ?_ (fun K hK => ?_) AllReadyH.nil
        rotate_left
        · (simp only [List.getElem?_toArray, List.getElem?_cons_zero, List.getElem?_cons_succ]; rfl)
        go_simp
        go_at_call 9
        refine (toSnapStep_rep sz0_1 sz1_1 sz2_1 sz3_1 wr6).mono ?_
        rintro e wr7 ⟨rfl, _, hb7⟩
        have HBwr7 : Below w4.heap.size w4 wr7 := HBwr6.trans (hb7.mono HBwr6.size)
        have BBwr7 := B_4.trans (HBwr7.mono B_4.size)
        have zwr7 := hb7.size
        have OX := Hid.mk (RSnap.ownBelow OX.out hb7)
        have pb := blk_below pb hb7
        (try go_wp2_with fail)
        refine hK.out _ _ ?_ (fun hHeld' => ?_)
        · (try dsimp only)
          exact HBwr7
        clear hK K hHeld
        have hHeld := hHeld'
        clear hHeld'
        (try simp only [Act.put, List.setIfInBounds_toArray, List.set_cons_zero, List.set_cons_succ])
        refine wpAnyH_ready (rs := [3]) (by kernel_rfl) (by simp) ?_
        refine AllReadyH.cons (o := ?_) ?_ (fun K hK => ?_) AllReadyH.nil
        rotate_left
        · (simp only [List.getElem?_toArray, List.getElem?_cons_zero, List.getElem?_cons_succ]; rfl)
        go_simp
        go_at_call 10
        refine (HI.out _ _ _ _ OX.out).mono ?_
        rintro e wr8 ⟨⟨r0, m0, d0, r1, m1, d1, rfl, hoR⟩, hb8⟩
        obtain rfl : l0 = m0 := HL0.out.symm.trans (RSnap.lens hoR).1
        obtain rfl : l1 = m1 := HL1.out.symm.trans (RSnap.lens hoR).2.2.1
        have HBwr8 : Below w4.heap.size w4 wr8 := HBwr7.trans (hb8.mono HBwr7.size)
        have BBwr8 := B_4.trans (HBwr8.mono B_4.size)
        have zwr8 := hb8.size
        have pb := blk_below pb hb8
        have HO := Hid.mk hoR
        clear hoR OX
        (try go_wp2_with fail)
        refine hK.out _ _ ?_ (fun hHeld' => ?_)
        · (try dsimp only)
          exact HBwr8
        clear hK K hHeld
        have hHeld := hHeld'
        clear hHeld'
        (try simp only [Act.put, List.setIfInBounds_toArray, List.set_cons_zero, List.set_cons_succ])
        refine tk 4 ?_
        refine tk 5 ?_
        refine tk 6 ?_
        have yy0 := blk_cell pb 0 (v := .slice none 0 0) rfl
        have yy1 := blk_cell pb 1 (v := .slice none 0 0) rfl
        have fy0 := blk_frozen pb 0
        have fy1 := blk_frozen pb 1
        have zl := HBwr8.size
        have HBE : Below w4.heap.size w4 ((wr8.setCell ⟨ud.heap.size, 0, none⟩ (.slice r0 l0 d0)).setCell ⟨ud.heap.size, 1, none⟩ (.slice r1 l1 d1)) := ((HBwr8.setCell (by show w4.heap.size ≤ ud.heap.size; omega) _).setCell (by show w4.heap.size ≤ ud.heap.size; omega) _)
        refine wpAnyH_ready (rs := [8]) (by kernel_rfl) (by simp) ?_
        refine AllReadyH.cons (o := ?_) ?_ (fun K hK => ?_) AllReadyH.nil
        rotate_left
        · (simp only [List.getElem?_toArray, List.getElem?_cons_zero, List.getElem?_cons_succ]; rfl)
        go_simp
        skip
        (try go_wp2_with fail)
        refine hK.out _ _ ?_ (fun hHeld' => ?_)
        · (try dsimp only)
          exact HBE
        clear hK K hHeld
        have hHeld := hHeld'
        clear hHeld'
        (try simp only [Act.put, List.setIfInBounds_toArray, List.set_cons_zero, List.set_cons_succ])
        refine tk 9 ?_
        refine wpAnyH_done (by kernel_rfl) ?_ _
        (try go_wp2_with fail)
        go_meet
        case rel =>
          exact ⟨ud.heap.size, r0, d0, r1, d1, wr7.heap.size, wr8.heap.size, rfl, rfl, (blk_set (blk_set pb 0 _) 1 _), RSnap.ownOff HO.out ((Off.set (F := fun b => b = ud.heap.size) (a := ⟨ud.heap.size, 0, none⟩) rfl _).trans (Off.set (F := fun b => b = ud.heap.size) (a := ⟨ud.heap.size, 1, none⟩) rfl _)) (fun b h e => by have h2 : b = ud.heap.size := e; have h3 := h.1; have h4 := h.2; omega), by omega, by rw [size_set, size_set]; omega, by omega, by rw [size_set, size_set]; omega, by omega, HBE⟩
    case rest =>
      obtain ⟨Pb5, r05, d05, r15, d15, lo5, hi5, rfl, rfl, bp5, ow5, pl5, ph5, pm5, pn5, pd5, hb5⟩ := hcut
      obtain ⟨w5, rfl⟩ : ∃ x, x = wc := ⟨_, rfl⟩
      have Gt0_5 := blk_cell bp5 0 (v := .slice r05 l0 d05) rfl
      have Gt1_5 := blk_cell bp5 1 (v := .slice r15 l1 d15) rfl
      have og_5 := Hid.mk ow5
      clear ow5 bp5
      have p00_5 := cell_later hb5 p00_4
      have p01_5 := cell_later hb5 p01_4
      have p10_5 := cell_later hb5 p10_4
      have p11_5 := cell_later hb5 p11_4
      have p12_5 := cell_later hb5 p12_4
      have p13_5 := cell_later hb5 p13_4
      have Wt0_5 := cell_later hb5 Wt0_4
      have Wt1_5 := cell_later hb5 Wt1_4
      have X00_5 := cell_later hb5 nX00
      have X01_5 := cell_later hb5 nX01
      have oo_5 := Hid.mk (RSnap.ownBelow oo_4.out hb5)
      have ox0_5 := Hid.mk (RSnap.ownBelow ox0_4.out hb5)
      have B_5 := B_4.trans (hb5.mono B_4.size)
      have zz5 : w4.heap.size ≤ w5.heap.size := hb5.size
      clear p00_4 p01_4 p10_4 p11_4 p12_4 p13_4 Wt0_4 Wt1_4 nX00 nX01 oo_4 ox0_4 B_4
      clear hb5
      go_wp2_with fail
      refine (eqSnap_same _ l0 _ _ l1 _ _ _ _ _  t0 t1 _ HL0.out hs0 HL1.out hs1 HD1.out (RSnap.lens og_5.out).2.1 (RSnap.lens oo_5.out).2.1 (RSnap.lens og_5.out).2.2.2 (RSnap.lens oo_5.out).2.2.2).mono ?_
      rintro e w6 ⟨rfl, hb6⟩
      have p00_6 := cell_later hb6 p00_5
      have p01_6 := cell_later hb6 p01_5
      have p10_6 := cell_later hb6 p10_5
      have p11_6 := cell_later hb6 p11_5
      have p12_6 := cell_later hb6 p12_5
      have p13_6 := cell_later hb6 p13_5
      have Wt0_6 := cell_later hb6 Wt0_5
      have Wt1_6 := cell_later hb6 Wt1_5
      have X00_6 := cell_later hb6 X00_5
      have X01_6 := cell_later hb6 X01_5
      have Gt0_6 := cell_later hb6 Gt0_5
      have Gt1_6 := cell_later hb6 Gt1_5
      have oo_6 := Hid.mk (RSnap.ownBelow oo_5.out hb6)
      have ox0_6 := Hid.mk (RSnap.ownBelow ox0_5.out hb6)
      have og_6 := Hid.mk (RSnap.ownBelow og_5.out hb6)
      have B_6 := B_5.trans (hb6.mono B_5.size)
      have zz6 : w5.heap.size ≤ w6.heap.size := hb6.size
      clear p00_5 p01_5 p10_5 p11_5 p12_5 p13_5 Wt0_5 Wt1_5 X00_5 X01_5 Gt0_5 Gt1_5 oo_5 ox0_5 og_5 B_5
      clear hb6
      go_wp2_with fail
      refine wp_region_held_drew (S := fun w' => w'.cell? ⟨w3.heap.size, 0, none⟩ = some (.slice (some ⟨g3_0, 0, none⟩) sn0_0 sn0_0) ∧ w'.cell? ⟨w3.heap.size, 1, none⟩ = some (.slice (some ⟨g3_1, 0, none⟩) sn1_0 sn1_0) ∧ w'.cell? ⟨w.heap.size, 0, none⟩ = some (.slice sa0_0 sn0_0 sc0_0) ∧ w'.cell? ⟨w.heap.size, 1, none⟩ = some (.slice sa1_0 sn1_0 sc1_0)) (by kernel_rfl) ?_ (fun hHeld => ?_)
      · (try dsimp only)
        exact ⟨X00_6, X01_6, p00_6, p01_6⟩
      refine tk 0 ?_
      refine tk 1 ?_
      refine wpAnyH_ready (rs := [2]) (by kernel_rfl) (by simp) ?_
      refine AllReadyH.cons (o := ?_) ?_ (fun K hK => ?_) AllReadyH.nil
      rotate_left
      · (simp only [List.getElem?_toArray, List.getElem?_cons_zero, List.getElem?_cons_succ]; rfl)
      go_simp
      go_at_call 8
      refine (toSnap_rep sa0_0 sn0_0 sc0_0 sa1_0 sn1_0 sc1_0  sx0_0 sx1_0 _ HZ0.out.1 sh0_0 HZ0.out.2 sh1_0 HDD1_0.out (AtSl.below HA0.out.1 B_6.drew) (AtSl.below HA0.out.2 B_6.drew)).mono ?_
      rintro e w7 ⟨g7_0, g7_1, rfl, ho7, hd7⟩
      have hb7 : Below w6.heap.size w6 w7 := (Below.refl _ _).drew.trans hd7
      clear hd7
      have oy_7 := Hid.mk ho7
      clear ho7
      have p00_7 := cell_later hb7 p00_6
      have p01_7 := cell_later hb7 p01_6
      have p10_7 := cell_later hb7 p10_6
      have p11_7 := cell_later hb7 p11_6
      have p12_7 := cell_later hb7 p12_6
      have p13_7 := cell_later hb7 p13_6
      have Wt0_7 := cell_later hb7 Wt0_6
      have Wt1_7 := cell_later hb7 Wt1_6
      have X00_7 := cell_later hb7 X00_6
      have X01_7 := cell_later hb7 X01_6
      have Gt0_7 := cell_later hb7 Gt0_6
      have Gt1_7 := cell_later hb7 Gt1_6
      have oo_7 := Hid.mk (RSnap.ownBelow oo_6.out hb7)
      have ox0_7 := Hid.mk (RSnap.ownBelow ox0_6.out hb7)
      have og_7 := Hid.mk (RSnap.ownBelow og_6.out hb7)
      have B_7 := B_6.trans (hb7.mono B_6.size)
      have zz7 : w6.heap.size ≤ w7.heap.size := hb7.size
      clear p00_6 p01_6 p10_6 p11_6 p12_6 p13_6 Wt0_6 Wt1_6 X00_6 X01_6 Gt0_6 Gt1_6 oo_6 ox0_6 og_6 B_6
      clear hb7
      (try go_wp2_with fail)
      refine hK.out _ _ ?_ (fun hHeld' => ?_)
      · (try dsimp only)
        exact ⟨X00_7, X01_7, p00_7, p01_7⟩
      clear hK K hHeld
      have hHeld := hHeld'
      clear hHeld'
      (try simp only [Act.put, List.setIfInBounds_toArray, List.set_cons_zero, List.set_cons_succ])
      refine wpAnyH_ready (rs := [3]) (by kernel_rfl) (by simp) ?_
      refine AllReadyH.cons (o := ?_) ?_ (fun K hK => ?_) AllReadyH.nil
      rotate_left
      · (simp only [List.getElem?_toArray, List.getElem?_cons_zero, List.getElem?_cons_succ]; rfl)
      go_simp
      go_at_call 11
      refine (eqSnap_same _ sn0_0 _ _ sn1_0 _ _ _ _ _  sx0_0 sx1_0 _ HZ0.out.1 sh0_0 HZ0.out.2 sh1_0 HDD1_0.out (RSnap.lens ox0_7.out).2.1 (RSnap.lens oy_7.out).2.1 (RSnap.lens ox0_7.out).2.2.2 (RSnap.lens oy_7.out).2.2.2).mono ?_
      rintro e w8 ⟨rfl, hb8⟩
      clear oy_7
      have p00_8 := cell_later hb8 p00_7
      have p01_8 := cell_later hb8 p01_7
      have p10_8 := cell_later hb8 p10_7
      have p11_8 := cell_later hb8 p11_7
      have p12_8 := cell_later hb8 p12_7
      have p13_8 := cell_later hb8 p13_7
      have Wt0_8 := cell_later hb8 Wt0_7
      have Wt1_8 := cell_later hb8 Wt1_7
      have X00_8 := cell_later hb8 X00_7
      have X01_8 := cell_later hb8 X01_7
      have Gt0_8 := cell_later hb8 Gt0_7
      have Gt1_8 := cell_later hb8 Gt1_7
      have oo_8 := Hid.mk (RSnap.ownBelow oo_7.out hb8)
      have ox0_8 := Hid.mk (RSnap.ownBelow ox0_7.out hb8)
      have og_8 := Hid.mk (RSnap.ownBelow og_7.out hb8)
      have B_8 := B_7.trans (hb8.mono B_7.size)
      have zz8 : w7.heap.size ≤ w8.heap.size := hb8.size
      clear p00_7 p01_7 p10_7 p11_7 p12_7 p13_7 Wt0_7 Wt1_7 X00_7 X01_7 Gt0_7 Gt1_7 oo_7 ox0_7 og_7 B_7
      clear hb8
      (try go_wp2_with fail)
      refine hK.out _ _ ?_ (fun hHeld' => ?_)
      · (try dsimp only)
        exact ⟨X00_8, X01_8, p00_8, p01_8⟩
      clear hK K hHeld
      have hHeld := hHeld'
      clear hHeld'
      (try simp only [Act.put, List.setIfInBounds_toArray, List.set_cons_zero, List.set_cons_succ])
      refine tk 4 ?_
      refine wpAnyH_done (by kernel_rfl) ?_ _
      clear hHeld
      go_wp2_with fail
      refine (markSnap_rep (From (w2.heap.size) (w3.heap.size)) _ sn0_0 _ _ sn1_0 _  sx0_0 sx1_0 _ _ HZ0.out.1 sh0_0 HZ0.out.2 sh1_0 HDD1_0.out hcs1_0 (by omega) (by omega) (fun b h => by have h2 := h.2; omega) ox0_8.out).mono ?_
      rintro e w9 ⟨rfl, ho9, hg9⟩
      rw [HV0.out]
      have ox0_9 := Hid.mk ho9
      clear ho9
      have p00_9 := hg9.cell p00_8 (show ¬ From (w2.heap.size) (w3.heap.size) (w.heap.size) from fun h => by have h1 := h.1; have h2 := h.2; omega)
      have p01_9 := hg9.cell p01_8 (show ¬ From (w2.heap.size) (w3.heap.size) (w.heap.size) from fun h => by have h1 := h.1; have h2 := h.2; omega)
      have p10_9 := hg9.cell p10_8 (show ¬ From (w2.heap.size) (w3.heap.size) (w.heap.size + 1) from fun h => by have h1 := h.1; have h2 := h.2; omega)
      have p11_9 := hg9.cell p11_8 (show ¬ From (w2.heap.size) (w3.heap.size) (w.heap.size + 1) from fun h => by have h1 := h.1; have h2 := h.2; omega)
      have p12_9 := hg9.cell p12_8 (show ¬ From (w2.heap.size) (w3.heap.size) (w.heap.size + 1) from fun h => by have h1 := h.1; have h2 := h.2; omega)
      have p13_9 := hg9.cell p13_8 (show ¬ From (w2.heap.size) (w3.heap.size) (w.heap.size + 1) from fun h => by have h1 := h.1; have h2 := h.2; omega)
      have Wt0_9 := hg9.cell Wt0_8 (show ¬ From (w2.heap.size) (w3.heap.size) (Pb2) from fun h => by have h1 := h.1; have h2 := h.2; omega)
      have Wt1_9 := hg9.cell Wt1_8 (show ¬ From (w2.heap.size) (w3.heap.size) (Pb2) from fun h => by have h1 := h.1; have h2 := h.2; omega)
      have X00_9 := hg9.cell X00_8 (show ¬ From (w2.heap.size) (w3.heap.size) (w3.heap.size) from fun h => by have h1 := h.1; have h2 := h.2; omega)
      have X01_9 := hg9.cell X01_8 (show ¬ From (w2.heap.size) (w3.heap.size) (w3.heap.size) from fun h => by have h1 := h.1; have h2 := h.2; omega)
      have Gt0_9 := hg9.cell Gt0_8 (show ¬ From (w2.heap.size) (w3.heap.size) (Pb5) from fun h => by have h1 := h.1; have h2 := h.2; omega)
      have Gt1_9 := hg9.cell Gt1_8 (show ¬ From (w2.heap.size) (w3.heap.size) (Pb5) from fun h => by have h1 := h.1; have h2 := h.2; omega)
      have oo_9 := Hid.mk (RSnap.ownOff oo_8.out hg9 (fun b h1 h2 => by have h3 := h1.1; have h4 := h1.2; have h5 := h2.1; have h6 := h2.2; omega))
      have og_9 := Hid.mk (RSnap.ownOff og_8.out hg9 (fun b h1 h2 => by have h3 := h1.1; have h4 := h1.2; have h5 := h2.1; have h6 := h2.2; omega))
      have B_9 := B_8.trans (hg9.toBelow (by omega) B_8.size)
      have zz9 : w8.heap.size ≤ w9.heap.size := hg9.size
      clear p00_8 p01_8 p10_8 p11_8 p12_8 p13_8 Wt0_8 Wt1_8 X00_8 X01_8 Gt0_8 Gt1_8 oo_8 ox0_8 og_8 B_8
      clear hg9
      have kpos : ¬ (1 : Int) + (V0 : Int) < 0 := by omega
      go_wp2_with fail
      refine (eqSnap_same _ l0 _ _ l1 _ _ _ _ _  t0 t1 _ HL0.out hs0 HL1.out hs1 HD1.out (RSnap.lens og_9.out).2.1 (RSnap.lens oo_9.out).2.1 (RSnap.lens og_9.out).2.2.2 (RSnap.lens oo_9.out).2.2.2).mono ?_
      rintro e w10 ⟨rfl, hb10⟩
      have p00_10 := cell_later hb10 p00_9
      have p01_10 := cell_later hb10 p01_9
      have p10_10 := cell_later hb10 p10_9
      have p11_10 := cell_later hb10 p11_9
      have p12_10 := cell_later hb10 p12_9
      have p13_10 := cell_later hb10 p13_9
      have Wt0_10 := cell_later hb10 Wt0_9
      have Wt1_10 := cell_later hb10 Wt1_9
      have X00_10 := cell_later hb10 X00_9
      have X01_10 := cell_later hb10 X01_9
      have Gt0_10 := cell_later hb10 Gt0_9
      have Gt1_10 := cell_later hb10 Gt1_9
      have oo_10 := Hid.mk (RSnap.ownBelow oo_9.out hb10)
      have ox0_10 := Hid.mk (RSnap.ownBelow ox0_9.out hb10)
      have og_10 := Hid.mk (RSnap.ownBelow og_9.out hb10)
      have B_10 := B_9.trans (hb10.mono B_9.size)
      have zz10 : w9.heap.size ≤ w10.heap.size := hb10.size
      clear p00_9 p01_9 p10_9 p11_9 p12_9 p13_9 Wt0_9 Wt1_9 X00_9 X01_9 Gt0_9 Gt1_9 oo_9 ox0_9 og_9 B_9
      clear hb10
      clear ox0_10
      go_wp2_with fail
      refine (markSnap_rep (From (lo5) (hi5)) _ l0 _ _ l1 _  t0 t1 1 _ HL0.out hs0 HL1.out hs1 HD1.out hcs1 (by omega) (by omega) (fun b h => by have h2 := h.2; omega) og_10.out).mono ?_
      rintro e w11 ⟨rfl, ho11, hg11⟩
      rw [HVA.out]
      have og_11 := Hid.mk ho11
      clear ho11
      have p00_11 := hg11.cell p00_10 (show ¬ From (lo5) (hi5) (w.heap.size) from fun h => by have h1 := h.1; have h2 := h.2; omega)
      have p01_11 := hg11.cell p01_10 (show ¬ From (lo5) (hi5) (w.heap.size) from fun h => by have h1 := h.1; have h2 := h.2; omega)
      have p10_11 := hg11.cell p10_10 (show ¬ From (lo5) (hi5) (w.heap.size + 1) from fun h => by have h1 := h.1; have h2 := h.2; omega)
      have p11_11 := hg11.cell p11_10 (show ¬ From (lo5) (hi5) (w.heap.size + 1) from fun h => by have h1 := h.1; have h2 := h.2; omega)
      have p12_11 := hg11.cell p12_10 (show ¬ From (lo5) (hi5) (w.heap.size + 1) from fun h => by have h1 := h.1; have h2 := h.2; omega)
      have p13_11 := hg11.cell p13_10 (show ¬ From (lo5) (hi5) (w.heap.size + 1) from fun h => by have h1 := h.1; have h2 := h.2; omega)
      have Wt0_11 := hg11.cell Wt0_10 (show ¬ From (lo5) (hi5) (Pb2) from fun h => by have h1 := h.1; have h2 := h.2; omega)
      have Wt1_11 := hg11.cell Wt1_10 (show ¬ From (lo5) (hi5) (Pb2) from fun h => by have h1 := h.1; have h2 := h.2; omega)
      have X00_11 := hg11.cell X00_10 (show ¬ From (lo5) (hi5) (w3.heap.size) from fun h => by have h1 := h.1; have h2 := h.2; omega)
      have X01_11 := hg11.cell X01_10 (show ¬ From (lo5) (hi5) (w3.heap.size) from fun h => by have h1 := h.1; have h2 := h.2; omega)
      have Gt0_11 := hg11.cell Gt0_10 (show ¬ From (lo5) (hi5) (Pb5) from fun h => by have h1 := h.1; have h2 := h.2; omega)
      have Gt1_11 := hg11.cell Gt1_10 (show ¬ From (lo5) (hi5) (Pb5) from fun h => by have h1 := h.1; have h2 := h.2; omega)
      have oo_11 := Hid.mk (RSnap.ownOff oo_10.out hg11 (fun b h1 h2 => by have h3 := h1.1; have h4 := h1.2; have h5 := h2.1; have h6 := h2.2; omega))
      have B_11 := B_10.trans (hg11.toBelow (by omega) B_10.size)
      have zz11 : w10.heap.size ≤ w11.heap.size := hg11.size
      clear p00_10 p01_10 p10_10 p11_10 p12_10 p13_10 Wt0_10 Wt1_10 X00_10 X01_10 Gt0_10 Gt1_10 oo_10 og_10 B_10
      clear hg11
      have gpos : ¬ (1 : Int) + (VA : Int) < 0 := by omega
      go_wp2_with fail
      refine (heldSnap_rep _ l0 _ _ l1 _  t0 t1 1 _ HL0.out hs0 HL1.out hs1 HD1.out hcs1 (by omega) (by omega) (RSnap.toAt og_11.out)).mono ?_
      rintro e w12 ⟨rfl, hb12⟩
      rw [HVA.out]
      have p00_12 := cell_later hb12 p00_11
      have p01_12 := cell_later hb12 p01_11
      have p10_12 := cell_later hb12 p10_11
      have p11_12 := cell_later hb12 p11_11
      have p12_12 := cell_later hb12 p12_11
      have p13_12 := cell_later hb12 p13_11
      have Wt0_12 := cell_later hb12 Wt0_11
      have Wt1_12 := cell_later hb12 Wt1_11
      have X00_12 := cell_later hb12 X00_11
      have X01_12 := cell_later hb12 X01_11
      have Gt0_12 := cell_later hb12 Gt0_11
      have Gt1_12 := cell_later hb12 Gt1_11
      have oo_12 := Hid.mk (RSnap.ownBelow oo_11.out hb12)
      have og_12 := Hid.mk (RSnap.ownBelow og_11.out hb12)
      have B_12 := B_11.trans (hb12.mono B_11.size)
      have zz12 : w11.heap.size ≤ w12.heap.size := hb12.size
      clear p00_11 p01_11 p10_11 p11_11 p12_11 p13_11 Wt0_11 Wt1_11 X00_11 X01_11 Gt0_11 Gt1_11 oo_11 og_11 B_11
      clear hb12
      go_upto_region 24 with fail
      go_cut [14, 15] (fun ta' tb wx => ∃ (P : Nat) (r0 : Option Addr) (d0 : Nat) (r1 : Option Addr) (d1 : Nat) (lo hi : Nat), ta' = .pointer (some ⟨P, 0, none⟩) ∧ tb = .bool v0 ∧ wx.heap[P]? = some (.cells #[.slice r0 l0 d0, .slice r1 l1 d1] 32 (0, 0)) ∧ RSnap.Own wx (From lo hi) [.slice r0 l0 d0, .slice r1 l1 d1] (t0, t1) ∧ w12.heap.size ≤ lo ∧ hi ≤ wx.heap.size ∧ w12.heap.size ≤ P ∧ P < wx.heap.size ∧ (P < lo ∨ hi ≤ P) ∧ Below w12.heap.size w12 wx)
      case first =>
        refine wp_region_held_drew (S := fun w' => Below w12.heap.size w12 w') (by kernel_rfl) ?_ (fun hHeld => ?_)
        · (try dsimp only)
          exact (Below.refl _ _).drew
        refine tk 0 ?_ (hy := fun wS hSw => by (have p00_12 := cell_later hSw p00_12; have p01_12 := cell_later hSw p01_12; go_simp; (try with_reducible rfl)))
        refine tk 2 ?_ (hy := fun wS hSw => by (have p10_12 := cell_later hSw p10_12; have p11_12 := cell_later hSw p11_12; have p12_12 := cell_later hSw p12_12; have p13_12 := cell_later hSw p13_12; go_simp; (try with_reducible rfl)))
        obtain ⟨ud, hud⟩ : ∃ z, z = w12.drew := ⟨_, rfl⟩
        have Yd : Below w12.heap.size w12 ud := by rw [hud]; exact (Below.refl _ _).drew
        have zud := Yd.size
        have YB := B_12.trans (Yd.mono B_12.size)
        rw [← hud]
        clear hud
        refine wpAnyH_ready (rs := [1, 8]) (by kernel_rfl) (by simp) ?_
        refine AllReadyH.cons (o := ?_) ?_ (fun K hK => ?_) ?_
        rotate_left
        · (simp only [List.getElem?_toArray, List.getElem?_cons_zero, List.getElem?_cons_succ]; rfl)
        · go_simp
          go_at_call 8
          refine (toSnap_rep sa0_0 sn0_0 sc0_0 sa1_0 sn1_0 sc1_0  sx0_0 sx1_0 _ HZ0.out.1 sh0_0 HZ0.out.2 sh1_0 HDD1_0.out (AtSl.below HA0.out.1 YB) (AtSl.below HA0.out.2 YB)).mono ?_
          rintro e wr1 ⟨gr1_0, gr1_1, rfl, hoX, hb1⟩
          have HBwr1 : Below w12.heap.size w12 wr1 := Yd.trans (hb1.mono Yd.size)
          have BBwr1 := B_12.trans (HBwr1.mono B_12.size)
          have zwr1 := hb1.size
          have OX := Hid.mk hoX
          clear hoX
          (try go_wp2_with fail)
          refine hK.out _ _ ?_ (fun hHeld' => ?_)
          · (try dsimp only)
            exact HBwr1
          clear hK K hHeld
          have hHeld := hHeld'
          clear hHeld'
          (try simp only [Act.put, List.setIfInBounds_toArray, List.set_cons_zero, List.set_cons_succ])
          refine wpAnyH_ready (rs := [3, 8]) (by kernel_rfl) (by simp) ?_
          refine AllReadyH.cons (o := ?_) ?_ (fun K hK => ?_) ?_
          rotate_left
          · (simp only [List.getElem?_toArray, List.getElem?_cons_zero, List.getElem?_cons_succ]; rfl)
          · go_simp
            go_at_call 9
            refine (toSnapStep_rep sz0_1 sz1_1 sz2_1 sz3_1 wr1).mono ?_
            rintro e wr2 ⟨rfl, _, hb2⟩
            have HBwr2 : Below w12.heap.size w12 wr2 := HBwr1.trans (hb2.mono HBwr1.size)
            have BBwr2 := B_12.trans (HBwr2.mono B_12.size)
            have zwr2 := hb2.size
            have OX := Hid.mk (RSnap.ownBelow OX.out hb2)
            (try go_wp2_with fail)
            refine hK.out _ _ ?_ (fun hHeld' => ?_)
            · (try dsimp only)
              exact HBwr2
            clear hK K hHeld
            have hHeld := hHeld'
            clear hHeld'
            (try simp only [Act.put, List.setIfInBounds_toArray, List.set_cons_zero, List.set_cons_succ])
            refine wpAnyH_ready (rs := [4, 8]) (by kernel_rfl) (by simp) ?_
            refine AllReadyH.cons (o := ?_) ?_ (fun K hK => ?_) ?_
            rotate_left
            · (simp only [List.getElem?_toArray, List.getElem?_cons_zero, List.getElem?_cons_succ]; rfl)
            · go_simp
              go_at_call 10
              refine (HI.out _ _ _ _ OX.out).mono ?_
              rintro e wr3 ⟨⟨r0, m0, d0, r1, m1, d1, rfl, hoR⟩, hb3⟩
              obtain rfl : l0 = m0 := HL0.out.symm.trans (RSnap.lens hoR).1
              obtain rfl : l1 = m1 := HL1.out.symm.trans (RSnap.lens hoR).2.2.1
              have HBwr3 : Below w12.heap.size w12 wr3 := HBwr2.trans (hb3.mono HBwr2.size)
              have BBwr3 := B_12.trans (HBwr3.mono B_12.size)
              have zwr3 := hb3.size
              have HO := Hid.mk hoR
              clear hoR OX
              (try go_wp2_with fail)
              refine hK.out _ _ ?_ (fun hHeld' => ?_)
              · (try dsimp only)
                exact HBwr3
              clear hK K hHeld
              have hHeld := hHeld'
              clear hHeld'
              (try simp only [Act.put, List.setIfInBounds_toArray, List.set_cons_zero, List.set_cons_succ])
              refine tk 5 ?_
              refine tk 6 ?_
              refine tk 7 ?_
              refine wpAnyH_ready (rs := [8]) (by kernel_rfl) (by simp) ?_
              refine AllReadyH.cons (o := ?_) ?_ (fun K hK => ?_) AllReadyH.nil
              rotate_left
              · (simp only [List.getElem?_toArray, List.getElem?_cons_zero, List.getElem?_cons_succ]; rfl)
              go_simp
              (try go_wp2_with fail)
              refine hK.out _ _ ?_ (fun hHeld' => ?_)
              · (try dsimp only)
                exact HBwr3.alloc HBwr3.size _
              clear hK K hHeld
              have hHeld := hHeld'
              clear hHeld'
              (try simp only [Act.put, List.setIfInBounds_toArray, List.set_cons_zero, List.set_cons_succ])
              obtain ⟨wr4, hv4⟩ : ∃ zz, zz = wr3.alloc (.cells #[.slice none 0 0, .slice none 0 0] 32) := ⟨_, rfl⟩
              have hb4 : Below wr3.heap.size wr3 wr4 := by rw [hv4]; exact (Below.refl _ _).alloc (Nat.le_refl _) _
              have HBwr4 : Below w12.heap.size w12 wr4 := HBwr3.trans (hb4.mono HBwr3.size)
              have BBwr4 := B_12.trans (HBwr4.mono B_12.size)
              have zwr4 := hb4.size
              have HO := Hid.mk (RSnap.ownBelow HO.out hb4)
              have pb : wr4.heap[wr3.heap.size]? = some (.cells #[.slice none 0 0, .slice none 0 0] 32 (0, 0)) := by rw [hv4]; exact heap_alloc_new _ _
              have zp4 : wr4.heap.size = wr3.heap.size + 1 := by rw [hv4]; simp
              rw [← hv4]
              clear hv4
              have yy0 := blk_cell pb 0 (v := .slice none 0 0) rfl
              have yy1 := blk_cell pb 1 (v := .slice none 0 0) rfl
              have fy0 := blk_frozen pb 0
              have fy1 := blk_frozen pb 1
              have zl := HBwr4.size
              have HBE : Below w12.heap.size w12 ((wr4.setCell ⟨wr3.heap.size, 0, none⟩ (.slice r0 l0 d0)).setCell ⟨wr3.heap.size, 1, none⟩ (.slice r1 l1 d1)) := ((HBwr4.setCell (by show w12.heap.size ≤ wr3.heap.size; omega) _).setCell (by show w12.heap.size ≤ wr3.heap.size; omega) _)
              refine wpAnyH_ready (rs := [9]) (by kernel_rfl) (by simp) ?_
              refine AllReadyH.cons (o := ?_) ?_ (fun K hK => ?_) AllReadyH.nil
              rotate_left
              · (simp only [List.getElem?_toArray, List.getElem?_cons_zero, List.getElem?_cons_succ]; rfl)
              go_simp
              skip
              (try go_wp2_with fail)
              refine hK.out _ _ ?_ (fun hHeld' => ?_)
              · (try dsimp only)
                exact HBE
              clear hK K hHeld
              have hHeld := hHeld'
              clear hHeld'
              (try simp only [Act.put, List.setIfInBounds_toArray, List.set_cons_zero, List.set_cons_succ])
              refine tk 10 ?_
              refine wpAnyH_done (by kernel_rfl) ?_ _
              (try go_wp2_with fail)
              go_meet
              case rel =>
                exact ⟨wr3.heap.size, r0, d0, r1, d1, wr2.heap.size, wr3.heap.size, rfl, rfl, (blk_set (blk_set pb 0 _) 1 _), RSnap.ownOff HO.out ((Off.set (F := fun b => b = wr3.heap.size) (a := ⟨wr3.heap.size, 0, none⟩) rfl _).trans (Off.set (F := fun b => b = wr3.heap.size) (a := ⟨wr3.heap.size, 1, none⟩) rfl _)) (fun b h e => by have h2 : b = wr3.heap.size := e; have h3 := h.1; have h4 := h.2; omega), by omega, by rw [size_set, size_set]; omega, by omega, by rw [size_set, size_set]; omega, by omega, HBE⟩
            refine AllReadyH.cons (o := ?_) ?_ (fun K hK => ?_) AllReadyH.nil
            rotate_left
            · (simp only [List.getElem?_toArray, List.getElem?_cons_zero, List.getElem?_cons_succ]; rfl)
            · go_simp
              (try go_wp2_with fail)
              refine hK.out _ _ ?_ (fun hHeld' => ?_)
              · (try dsimp only)
                exact HBwr2.alloc HBwr2.size _
              clear hK K hHeld
              have hHeld := hHeld'
              clear hHeld'
              (try simp only [Act.put, List.setIfInBounds_toArray, List.set_cons_zero, List.set_cons_succ])
              obtain ⟨wr5, hv5⟩ : ∃ zz, zz = wr2.alloc (.cells #[.slice none 0 0, .slice none 0 0] 32) := ⟨_, rfl⟩
              have hb5 : Below wr2.heap.size wr2 wr5 := by rw [hv5]; exact (Below.refl _ _).alloc (Nat.le_refl _) _
              have HBwr5 : Below w12.heap.size w12 wr5 := HBwr2.trans (hb5.mono HBwr2.size)
              have BBwr5 := B_12.trans (HBwr5.mono B_12.size)
              have zwr5 := hb5.size
              have OX := Hid.mk (RSnap.ownBelow OX.out hb5)
              have pb : wr5.heap[wr2.heap.size]? = some (.cells #[.slice none 0 0, .slice none 0 0] 32 (0, 0)) := by rw [hv5]; exact heap_alloc_new _ _
              have zp5 : wr5.heap.size = wr2.heap.size + 1 := by rw [hv5]; simp
              rw [← hv5]
              clear hv5
              refine wpAnyH_ready (rs := [4]) (by kernel_rfl) (by simp) ?_
              refine AllReadyH.cons (o := ?_) ?_ (fun K hK => ?_) AllReadyH.nil
              rotate_left
              · (simp only [List.getElem?_toArray, List.getElem?_cons_zero, List.getElem?_cons_succ]; rfl)
              go_simp
              go_at_call 10
              refine (HI.out _ _ _ _ OX.out).mono ?_
              rintro e wr6 ⟨⟨r0, m0, d0, r1, m1, d1, rfl, hoR⟩, hb6⟩
              obtain rfl : l0 = m0 := HL0.out.symm.trans (RSnap.lens hoR).1
              obtain rfl : l1 = m1 := HL1.out.symm.trans (RSnap.lens hoR).2.2.1
              have HBwr6 : Below w12.heap.size w12 wr6 := HBwr5.trans (hb6.mono HBwr5.size)
              have BBwr6 := B_12.trans (HBwr6.mono B_12.size)
              have zwr6 := hb6.size
              have pb := blk_below pb hb6
              have HO := Hid.mk hoR
              clear hoR OX
              (try go_wp2_with fail)
              refine hK.out _ _ ?_ (fun hHeld' => ?_)
              · (try dsimp only)
                exact HBwr6
              clear hK K hHeld
              have hHeld := hHeld'
              clear hHeld'
              (try simp only [Act.put, List.setIfInBounds_toArray, List.set_cons_zero, List.set_cons_succ])
              refine tk 5 ?_
              refine tk 6 ?_
              refine tk 7 ?_
              have yy0 := blk_cell pb 0 (v := .slice none 0 0) rfl
              have yy1 := blk_cell pb 1 (v := .slice none 0 0) rfl
              have fy0 := blk_frozen pb 0
              have fy1 := blk_frozen pb 1
              have zl := HBwr6.size
              have HBE : Below w12.heap.size w12 ((wr6.setCell ⟨wr2.heap.size, 0, none⟩ (.slice r0 l0 d0)).setCell ⟨wr2.heap.size, 1, none⟩ (.slice r1 l1 d1)) := ((HBwr6.setCell (by show w12.heap.size ≤ wr2.heap.size; omega) _).setCell (by show w12.heap.size ≤ wr2.heap.size; omega) _)
              refine wpAnyH_ready (rs := [9]) (by kernel_rfl) (by simp) ?_
              refine AllReadyH.cons (o := ?_) ?_ (fun K hK => ?_) AllReadyH.nil
              rotate_left
              · (simp only [List.getElem?_toArray, List.getElem?_cons_zero, List.getElem?_cons_succ]; rfl)
              go_simp
              skip
              (try go_wp2_with fail)
              refine hK.out _ _ ?_ (fun hHeld' => ?_)
              · (try dsimp only)
                exact HBE
              clear hK K hHeld
              have hHeld := hHeld'
              clear hHeld'
              (try simp only [Act.put, List.setIfInBounds_toArray, List.set_cons_zero, List.set_cons_succ])
              refine tk 10 ?_
              refine wpAnyH_done (by kernel_rfl) ?_ _
              (try go_wp2_with fail)
              go_meet
              case rel =>
                exact ⟨wr2.heap.size, r0, d0, r1, d1, wr5.heap.size, wr6.heap.size, rfl, rfl, (blk_set (blk_set pb 0 _) 1 _), RSnap.ownOff HO.out ((Off.set (F := fun b => b = wr2.heap.size) (a := ⟨wr2.heap.size, 0, none⟩) rfl _).trans (Off.set (F := fun b => b = wr2.heap.size) (a := ⟨wr2.heap.size, 1, none⟩) rfl _)) (fun b h e => by have h2 : b = wr2.heap.size := e; have h3 := h.1; have h4 := h.2; omega), by omega, by rw [size_set, size_set]; omega, by omega, by rw [size_set, size_set]; omega, by omega, HBE⟩
          refine AllReadyH.cons (o := ?_) ?_ (fun K hK => ?_) AllReadyH.nil
          rotate_left
          · (simp only [List.getElem?_toArray, List.getElem?_cons_zero, List.getElem?_cons_succ]; rfl)
          · go_simp
            (try go_wp2_with fail)
            refine hK.out _ _ ?_ (fun hHeld' => ?_)
            · (try dsimp only)
              exact HBwr1.alloc HBwr1.size _
            clear hK K hHeld
            have hHeld := hHeld'
            clear hHeld'
            (try simp only [Act.put, List.setIfInBounds_toArray, List.set_cons_zero, List.set_cons_succ])
            obtain ⟨wr7, hv7⟩ : ∃ zz, zz = wr1.alloc (.cells #[.slice none 0 0, .slice none 0 0] 32) := ⟨_, rfl⟩
            have hb7 : Below wr1.heap.size wr1 wr7 := by rw [hv7]; exact (Below.refl _ _).alloc (Nat.le_refl _) _
            have HBwr7 : Below w12.heap.size w12 wr7 := HBwr1.trans (hb7.mono HBwr1.size)
            have BBwr7 := B_12.trans (HBwr7.mono B_12.size)
            have zwr7 := hb7.size
            have OX := Hid.mk (RSnap.ownBelow OX.out hb7)
            have pb : wr7.heap[wr1.heap.size]? = some (.cells #[.slice none 0 0, .slice none 0 0] 32 (0, 0)) := by rw [hv7]; exact heap_alloc_new _ _
            have zp7 : wr7.heap.size = wr1.heap.size + 1 := by rw [hv7]; simp
            rw [← hv7]
            clear hv7
            refine wpAnyH_ready (rs := [3]) (by kernel_rfl) (by simp) ?_
            refine AllReadyH.cons (o := ?_) ?_ (fun K hK => ?_) AllReadyH.nil
            rotate_left
            · (simp only [List.getElem?_toArray, List.getElem?_cons_zero, List.getElem?_cons_succ]; rfl)
            go_simp
            go_at_call 9
            refine (toSnapStep_rep sz0_1 sz1_1 sz2_1 sz3_1 wr7).mono ?_
            rintro e wr8 ⟨rfl, _, hb8⟩
            have HBwr8 : Below w12.heap.size w12 wr8 := HBwr7.trans (hb8.mono HBwr7.size)
            have BBwr8 := B_12.trans (HBwr8.mono B_12.size)
            have zwr8 := hb8.size
            have OX := Hid.mk (RSnap.ownBelow OX.out hb8)
            have pb := blk_below pb hb8
            (try go_wp2_with fail)
            refine hK.out _ _ ?_ (fun hHeld' => ?_)
            · (try dsimp only)
              exact HBwr8
            clear hK K hHeld
            have hHeld := hHeld'
            clear hHeld'
            (try simp only [Act.put, List.setIfInBounds_toArray, List.set_cons_zero, List.set_cons_succ])
            refine wpAnyH_ready (rs := [4]) (by kernel_rfl) (by simp) ?_
            refine AllReadyH.cons (o := ?_) ?_ (fun K hK => ?_) AllReadyH.nil
            rotate_left
            · (simp only [List.getElem?_toArray, List.getElem?_cons_zero, List.getElem?_cons_succ]; rfl)
            go_simp
            go_at_call 10
            refine (HI.out _ _ _ _ OX.out).mono ?_
            rintro e wr9 ⟨⟨r0, m0, d0, r1, m1, d1, rfl, hoR⟩, hb9⟩
            obtain rfl : l0 = m0 := HL0.out.symm.trans (RSnap.lens hoR).1
            obtain rfl : l1 = m1 := HL1.out.symm.trans (RSnap.lens hoR).2.2.1
            have HBwr9 : Below w12.heap.size w12 wr9 := HBwr8.trans (hb9.mono HBwr8.size)
            have BBwr9 := B_12.trans (HBwr9.mono B_12.size)
            have zwr9 := hb9.size
            have pb := blk_below pb hb9
            have HO := Hid.mk hoR
            clear hoR OX
            (try go_wp2_with fail)
            refine hK.out _ _ ?_ (fun hHeld' => ?_)
            · (try dsimp only)
              exact HBwr9
            clear hK K hHeld
            have hHeld := hHeld'
            clear hHeld'
            (try simp only [Act.put, List.setIfInBounds_toArray, List.set_cons_zero, List.set_cons_succ])
            refine tk 5 ?_
            refine tk 6 ?_
            refine tk 7 ?_
            have yy0 := blk_cell pb 0 (v := .slice none 0 0) rfl
            have yy1 := blk_cell pb 1 (v := .slice none 0 0) rfl
            have fy0 := blk_frozen pb 0
            have fy1 := blk_frozen pb 1
            have zl := HBwr9.size
            have HBE : Below w12.heap.size w12 ((wr9.setCell ⟨wr1.heap.size, 0, none⟩ (.slice r0 l0 d0)).setCell ⟨wr1.heap.size, 1, none⟩ (.slice r1 l1 d1)) := ((HBwr9.setCell (by show w12.heap.size ≤ wr1.heap.size; omega) _).setCell (by show w12.heap.size ≤ wr1.heap.size; omega) _)
            refine wpAnyH_ready (rs := [9]) (by kernel_rfl) (by simp) ?_
            refine AllReadyH.cons (o := ?_) ?_ (fun K hK => ?_) AllReadyH.nil
            rotate_left
            · (simp only [List.getElem?_toArray, List.getElem?_cons_zero, List.getElem?_cons_succ]; rfl)
            go_simp
            skip
            (try go_wp2_with fail)
            refine hK.out _ _ ?_ (fun hHeld' => ?_)
            · (try dsimp only)
              exact HBE
            clear hK K hHeld
            have hHeld := hHeld'
            clear hHeld'
            (try simp only [Act.put, List.setIfInBounds_toArray, List.set_cons_zero, List.set_cons_succ])
            refine tk 10 ?_
            refine wpAnyH_done (by kernel_rfl) ?_ _
            (try go_wp2_with fail)
            go_meet
            case rel =>
              exact ⟨wr1.heap.size, r0, d0, r1, d1, wr8.heap.size, wr9.heap.size, rfl, rfl, (blk_set (blk_set pb 0 _) 1 _), RSnap.ownOff HO.out ((Off.set (F := fun b => b = wr1.heap.size) (a := ⟨wr1.heap.size, 0, none⟩) rfl _).trans (Off.set (F := fun b => b = wr1.heap.size) (a := ⟨wr1.heap.size, 1, none⟩) rfl _)) (fun b h e => by have h2 : b = wr1.heap.size := e; have h3 := h.1; have h4 := h.2; omega), by omega, by rw [size_set, size_set]; omega, by omega, by rw [size_set, size_set]; omega, by omega, HBE⟩
        refine AllReadyH.cons (o := ?_) ?_ (fun K hK => ?_) AllReadyH.nil
        rotate_left
        · (simp only [List.getElem?_toArray, List.getElem?_cons_zero, List.getElem?_cons_succ]; rfl)
        · go_simp
          (try go_wp2_with fail)
          refine hK.out _ _ ?_ (fun hHeld' => ?_)
          · (try dsimp only)
            exact Yd.alloc Yd.size _
          clear hK K hHeld
          have hHeld := hHeld'
          clear hHeld'
          (try simp only [Act.put, List.setIfInBounds_toArray, List.set_cons_zero, List.set_cons_succ])
          obtain ⟨wr10, hv10⟩ : ∃ zz, zz = ud.alloc (.cells #[.slice none 0 0, .slice none 0 0] 32) := ⟨_, rfl⟩
          have hb10 : Below ud.heap.size ud wr10 := by rw [hv10]; exact (Below.refl _ _).alloc (Nat.le_refl _) _
          have HBwr10 : Below w12.heap.size w12 wr10 := Yd.trans (hb10.mono Yd.size)
          have BBwr10 := B_12.trans (HBwr10.mono B_12.size)
          have zwr10 := hb10.size
          have pb : wr10.heap[ud.heap.size]? = some (.cells #[.slice none 0 0, .slice none 0 0] 32 (0, 0)) := by rw [hv10]; exact heap_alloc_new _ _
          have zp10 : wr10.heap.size = ud.heap.size + 1 := by rw [hv10]; simp
          rw [← hv10]
          clear hv10
          refine wpAnyH_ready (rs := [1]) (by kernel_rfl) (by simp) ?_
          refine AllReadyH.cons (o := ?_) ?_ (fun K hK => ?_) AllReadyH.nil
          rotate_left
          · (simp only [List.getElem?_toArray, List.getElem?_cons_zero, List.getElem?_cons_succ]; rfl)
          go_simp
          go_at_call 8
          refine (toSnap_rep sa0_0 sn0_0 sc0_0 sa1_0 sn1_0 sc1_0  sx0_0 sx1_0 _ HZ0.out.1 sh0_0 HZ0.out.2 sh1_0 HDD1_0.out (AtSl.below HA0.out.1 BBwr10) (AtSl.below HA0.out.2 BBwr10)).mono ?_
          rintro e wr11 ⟨gr11_0, gr11_1, rfl, hoX, hb11⟩
          have HBwr11 : Below w12.heap.size w12 wr11 := HBwr10.trans (hb11.mono HBwr10.size)
          have BBwr11 := B_12.trans (HBwr11.mono B_12.size)
          have zwr11 := hb11.size
          have pb := blk_below pb hb11
          have OX := Hid.mk hoX
          clear hoX
          (try go_wp2_with fail)
          refine hK.out _ _ ?_ (fun hHeld' => ?_)
          · (try dsimp only)
            exact HBwr11
          clear hK K hHeld
          have hHeld := hHeld'
          clear hHeld'
          (try simp only [Act.put, List.setIfInBounds_toArray, List.set_cons_zero, List.set_cons_succ])
          refine wpAnyH_ready (rs := [3]) (by kernel_rfl) (by simp) ?_
          refine AllReadyH.cons (o := ?_) ?_ (fun K hK => ?_) AllReadyH.nil
          rotate_left
          · (simp only [List.getElem?_toArray, List.getElem?_cons_zero, List.getElem?_cons_succ]; rfl)
          go_simp
          go_at_call 9
          refine (toSnapStep_rep sz0_1 sz1_1 sz2_1 sz3_1 wr11).mono ?_
          rintro e wr12 ⟨rfl, _, hb12⟩
          have HBwr12 : Below w12.heap.size w12 wr12 := HBwr11.trans (hb12.mono HBwr11.size)
          have BBwr12 := B_12.trans (HBwr12.mono B_12.size)
          have zwr12 := hb12.size
          have OX := Hid.mk (RSnap.ownBelow OX.out hb12)
          have pb := blk_below pb hb12
          (try go_wp2_with fail)
          refine hK.out _ _ ?_ (fun hHeld' => ?_)
          · (try dsimp only)
            exact HBwr12
          clear hK K hHeld
          have hHeld := hHeld'
          clear hHeld'
          (try simp only [Act.put, List.setIfInBounds_toArray, List.set_cons_zero, List.set_cons_succ])
          refine wpAnyH_ready (rs := [4]) (by kernel_rfl) (by simp) ?_
          refine AllReadyH.cons (o := ?_) ?_ (fun K hK => ?_) AllReadyH.nil
          rotate_left
          · (simp only [List.getElem?_toArray, List.getElem?_cons_zero, List.getElem?_cons_succ]; rfl)
          go_simp
          go_at_call 10
          refine (HI.out _ _ _ _ OX.out).mono ?_
          rintro e wr13 ⟨⟨r0, m0, d0, r1, m1, d1, rfl, hoR⟩, hb13⟩
          obtain rfl : l0 = m0 := HL0.out.symm.trans (RSnap.lens hoR).1
          obtain rfl : l1 = m1 := HL1.out.symm.trans (RSnap.lens hoR).2.2.1
          have HBwr13 : Below w12.heap.size w12 wr13 := HBwr12.trans (hb13.mono HBwr12.size)
          have BBwr13 := B_12.trans (HBwr13.mono B_12.size)
          have zwr13 := hb13.size
          have pb := blk_below pb hb13
          have HO := Hid.mk hoR
          clear hoR OX
          (try go_wp2_with fail)
          refine hK.out _ _ ?_ (fun hHeld' => ?_)
          · (try dsimp only)
            exact HBwr13
          clear hK K hHeld
          have hHeld := hHeld'
          clear hHeld'
          (try simp only [Act.put, List.setIfInBounds_toArray, List.set_cons_zero, List.set_cons_succ])
          refine tk 5 ?_
          refine tk 6 ?_
          refine tk 7 ?_
          have yy0 := blk_cell pb 0 (v := .slice none 0 0) rfl
          have yy1 := blk_cell pb 1 (v := .slice none 0 0) rfl
          have fy0 := blk_frozen pb 0
          have fy1 := blk_frozen pb 1
          have zl := HBwr13.size
          have HBE : Below w12.heap.size w12 ((wr13.setCell ⟨ud.heap.size, 0, none⟩ (.slice r0 l0 d0)).setCell ⟨ud.heap.size, 1, none⟩ (.slice r1 l1 d1)) := ((HBwr13.setCell (by show w12.heap.size ≤ ud.heap.size; omega) _).setCell (by show w12.heap.size ≤ ud.heap.size; omega) _)
          refine wpAnyH_ready (rs := [9]) (by kernel_rfl) (by simp) ?_
          refine AllReadyH.cons (o := ?_) ?_ (fun K hK => ?_) AllReadyH.nil
          rotate_left
          · (simp only [List.getElem?_toArray, List.getElem?_cons_zero, List.getElem?_cons_succ]; rfl)
          go_simp
          skip
          (try go_wp2_with fail)
          refine hK.out _ _ ?_ (fun hHeld' => ?_)
          · (try dsimp only)
            exact HBE
          clear hK K hHeld
          have hHeld := hHeld'
          clear hHeld'
          (try simp only [Act.put, List.setIfInBounds_toArray, List.set_cons_zero, List.set_cons_succ])
          refine tk 10 ?_
          refine wpAnyH_done (by kernel_rfl) ?_ _
          (try go_wp2_with fail)
          go_meet
          case rel =>
            exact ⟨ud.heap.size, r0, d0, r1, d1, wr12.heap.size, wr13.heap.size, rfl, rfl, (blk_set (blk_set pb 0 _) 1 _), RSnap.ownOff HO.out ((Off.set (F := fun b => b = ud.heap.size) (a := ⟨ud.heap.size, 0, none⟩) rfl _).trans (Off.set (F := fun b => b = ud.heap.size) (a := ⟨ud.heap.size, 1, none⟩) rfl _)) (fun b h e => by have h2 : b = ud.heap.size := e; have h3 := h.1; have h4 := h.2; omega), by omega, by rw [size_set, size_set]; omega, by omega, by rw [size_set, size_set]; omega, by omega, HBE⟩
      case rest =>
        obtain ⟨Pb13, r013, d013, r113, d113, lo13, hi13, rfl, rfl, bp13, ow13, pl13, ph13, pm13, pn13, pd13, hb13⟩ := hcut
        obtain ⟨w13, rfl⟩ : ∃ x, x = wc := ⟨_, rfl⟩
        have Ht0_13 := blk_cell bp13 0 (v := .slice r013 l0 d013) rfl
        have Ht1_13 := blk_cell bp13 1 (v := .slice r113 l1 d113) rfl
        have ohg_13 := Hid.mk ow13
        clear ow13 bp13
        have p00_13 := cell_later hb13 p00_12
        have p01_13 := cell_later hb13 p01_12
        have p10_13 := cell_later hb13 p10_12
        have p11_13 := cell_later hb13 p11_12
        have p12_13 := cell_later hb13 p12_12
        have p13_13 := cell_later hb13 p13_12
        have Wt0_13 := cell_later hb13 Wt0_12
        have Wt1_13 := cell_later hb13 Wt1_12
        have X00_13 := cell_later hb13 X00_12
        have X01_13 := cell_later hb13 X01_12
        have Gt0_13 := cell_later hb13 Gt0_12
        have Gt1_13 := cell_later hb13 Gt1_12
        have oo_13 := Hid.mk (RSnap.ownBelow oo_12.out hb13)
        have og_13 := Hid.mk (RSnap.ownBelow og_12.out hb13)
        have B_13 := B_12.trans (hb13.mono B_12.size)
        have zz13 : w12.heap.size ≤ w13.heap.size := hb13.size
        clear p00_12 p01_12 p10_12 p11_12 p12_12 p13_12 Wt0_12 Wt1_12 X00_12 X01_12 Gt0_12 Gt1_12 oo_12 og_12 B_12
        clear hb13
        go_wp2_with fail
        refine (eqSnap_same _ l0 _ _ l1 _ _ _ _ _  t0 t1 _ HL0.out hs0 HL1.out hs1 HD1.out (RSnap.lens ohg_13.out).2.1 (RSnap.lens oo_13.out).2.1 (RSnap.lens ohg_13.out).2.2.2 (RSnap.lens oo_13.out).2.2.2).mono ?_
        rintro e w14 ⟨rfl, hb14⟩
        have p00_14 := cell_later hb14 p00_13
        have p01_14 := cell_later hb14 p01_13
        have p10_14 := cell_later hb14 p10_13
        have p11_14 := cell_later hb14 p11_13
        have p12_14 := cell_later hb14 p12_13
        have p13_14 := cell_later hb14 p13_13
        have Wt0_14 := cell_later hb14 Wt0_13
        have Wt1_14 := cell_later hb14 Wt1_13
        have X00_14 := cell_later hb14 X00_13
        have X01_14 := cell_later hb14 X01_13
        have Gt0_14 := cell_later hb14 Gt0_13
        have Gt1_14 := cell_later hb14 Gt1_13
        have Ht0_14 := cell_later hb14 Ht0_13
        have Ht1_14 := cell_later hb14 Ht1_13
        have oo_14 := Hid.mk (RSnap.ownBelow oo_13.out hb14)
        have og_14 := Hid.mk (RSnap.ownBelow og_13.out hb14)
        have ohg_14 := Hid.mk (RSnap.ownBelow ohg_13.out hb14)
        have B_14 := B_13.trans (hb14.mono B_13.size)
        have zz14 : w13.heap.size ≤ w14.heap.size := hb14.size
        clear p00_13 p01_13 p10_13 p11_13 p12_13 p13_13 Wt0_13 Wt1_13 X00_13 X01_13 Gt0_13 Gt1_13 Ht0_13 Ht1_13 oo_13 og_13 ohg_13 B_13
        clear hb14
        go_wp2_with fail
        refine (heldSnap_rep _ l0 _ _ l1 _  t0 t1 1 _ HL0.out hs0 HL1.out hs1 HD1.out hcs1 (by omega) (by omega) (RSnap.toAt og_14.out)).mono ?_
        rintro e w15 ⟨rfl, hb15⟩
        rw [HVA.out]
        have p00_15 := cell_later hb15 p00_14
        have p01_15 := cell_later hb15 p01_14
        have p10_15 := cell_later hb15 p10_14
        have p11_15 := cell_later hb15 p11_14
        have p12_15 := cell_later hb15 p12_14
        have p13_15 := cell_later hb15 p13_14
        have Wt0_15 := cell_later hb15 Wt0_14
        have Wt1_15 := cell_later hb15 Wt1_14
        have X00_15 := cell_later hb15 X00_14
        have X01_15 := cell_later hb15 X01_14
        have Gt0_15 := cell_later hb15 Gt0_14
        have Gt1_15 := cell_later hb15 Gt1_14
        have Ht0_15 := cell_later hb15 Ht0_14
        have Ht1_15 := cell_later hb15 Ht1_14
        have oo_15 := Hid.mk (RSnap.ownBelow oo_14.out hb15)
        have og_15 := Hid.mk (RSnap.ownBelow og_14.out hb15)
        have ohg_15 := Hid.mk (RSnap.ownBelow ohg_14.out hb15)
        have B_15 := B_14.trans (hb15.mono B_14.size)
        have zz15 : w14.heap.size ≤ w15.heap.size := hb15.size
        clear p00_14 p01_14 p10_14 p11_14 p12_14 p13_14 Wt0_14 Wt1_14 X00_14 X01_14 Gt0_14 Gt1_14 Ht0_14 Ht1_14 oo_14 og_14 ohg_14 B_14
        clear hb15
        go_wp2
        go_ret
        exact ⟨rfl, B_15⟩

end Go.Proofs.Ytnfdncofobkjhaa
