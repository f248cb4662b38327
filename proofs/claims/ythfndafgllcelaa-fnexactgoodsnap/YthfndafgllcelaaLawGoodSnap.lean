/- The law FnExactGoodSnap returns true at every input, and writes nothing that was there. -/
import Derived.Test.YthfndafgllcelaaNapG
import Derived.Test.YthfndafgllcelaaNapS
import Derived.Test.YthfndafgllcelaaSnpH
import Derived.Test.YthfndafgllcelaaSnpE
namespace Go.Proofs.Ythfndafgllcelaa
open Go.RowKit

set_option maxRecDepth 100000 in
set_option maxHeartbeats 16000000 in
theorem lawGoodSnap (sa0_0 : Option Addr) (sn0_0 sc0_0 : Nat) (sa1_0 : Option Addr) (sn1_0 sc1_0 : Nat)  (sx0_0 : List TProc) (sx1_0 : List TWire) (w : World) (ha0 : RSnap.At w [.slice sa0_0 sn0_0 sc0_0, .slice sa1_0 sn1_0 sc1_0] (sx0_0, sx1_0)) :
    Calls Try.prog 4 #[.agg #[.slice sa0_0 sn0_0 sc0_0, .slice sa1_0 sn1_0 sc1_0]] w fun e w' => e = .returned (.bool true) ∧ Below w.heap.size w w' := by
  obtain ⟨⟨k0_0, kb0_0, kc0_0, _⟩, ⟨k1_0, kb1_0, kc1_0, _⟩⟩ := RSnap.at_iff ha0
  have HA0 := Hid.mk (And.intro kc0_0 (kc1_0))
  have HZ0 : Hid (sx0_0.length = sn0_0 ∧ sx1_0.length = sn1_0) := Hid.mk ⟨k0_0, k1_0⟩
  clear ha0 k0_0 kc0_0 k1_0 kc1_0
  obtain ⟨W, hW⟩ : ∃ W, W = w.alloc (.cells #[.slice sa0_0 sn0_0 sc0_0, .slice sa1_0 sn1_0 sc1_0] 38) := ⟨_, rfl⟩
  have B0 : Below w.heap.size w W := by rw [hW]; exact (Below.refl _ _).alloc (Nat.le_refl _) _
  have zW : w.heap.size < W.heap.size := by rw [hW]; simp
  have p00_0 : W.cell? ⟨w.heap.size, 0, none⟩ = some (.slice sa0_0 sn0_0 sc0_0) := by rw [hW]; simp
  have p01_0 : W.cell? ⟨w.heap.size, 1, none⟩ = some (.slice sa1_0 sn1_0 sc1_0) := by rw [hW]; simp
  obtain ⟨C0, hC0⟩ : ∃ C : Nat, costSnap (sx0_0, sx1_0) = C := ⟨_, rfl⟩
  have HC0 := Hid.mk hC0
  clear hC0
  by_cases big0 : (1048576 : Int) < (C0 : Int)
  · go_enter Try.func4, Try.ntmps4
    go_wp2_with fail
    rw [← hW]
    clear hW
    refine (szSnap_any sa0_0 sn0_0 sc0_0 sa1_0 sn1_0 sc1_0  sx0_0 sx1_0 _ _ HZ0.out.1 kb0_0 HZ0.out.2 kb1_0 (AtSl.below HA0.out.1 B0) (AtSl.below HA0.out.2 B0) (by omega) (by omega)).mono ?_
    rintro e v0 ⟨rfl, hv0⟩
    rw [HC0.out, leftOf_no big0]
    have y0 := B0.trans (hv0.mono B0.size)
    go_wp2
    go_ret
    exact ⟨rfl, y0⟩
  have hl0 : ¬ (1048576 : Int) - (C0 : Int) < 0 := by omega
  have HSM0 := Hid.mk (smallSnap HZ0.out.1 HZ0.out.2 (by have q := HC0.out; omega))
  have sh0_0 : sn0_0 ≤ 1048576 := HSM0.out.1
  have sh1_0 : sn1_0 ≤ 1048576 := HSM0.out.2.1
  have HDD1_0 := Hid.mk HSM0.out.2.2
  have HCC0 : Hid (sn0_0 + (sn1_0 + csumWire sx1_0 sn1_0) ≤ 1048576) := Hid.mk (by have q := HC0.out; unfold costSnap at q; simp only [HZ0.out.1, HZ0.out.2] at q; omega)
  have HVB0 : mknSnap (sx0_0, sx1_0) ≤ 8388608 := by
    have q := HCC0.out
    unfold mknSnap
    simp only [HZ0.out.1, HZ0.out.2]
    rw [msumProc_eq sx0_0 sn0_0 (by have q2 := HZ0.out.1; omega), msumWire_eq sx1_0 sn1_0 (by have q2 := HZ0.out.2; omega)]
    omega
  have hcs1_0 : csumWire sx1_0 sn1_0 ≤ 1048576 := by have q := HCC0.out; omega
  obtain ⟨V0, hV0⟩ : ∃ V : Nat, mknSnap (sx0_0, sx1_0) = V := ⟨_, rfl⟩
  rw [hV0] at HVB0
  have HV0 := Hid.mk hV0
  clear hV0
  obtain ⟨b1, HS, HI⟩ : ∃ (b1 : Bool), Hid (∀ (sp0_0 sp1_0 : Nat) (w : World) (F0 : Nat → Prop), RSnap.Own w F0 [.slice (some ⟨sp0_0, 0, none⟩) sn0_0 sn0_0, .slice (some ⟨sp1_0, 0, none⟩) sn1_0 sn1_0] (sx0_0, sx1_0) → Calls Try.prog 18 #[.agg #[.slice (some ⟨sp0_0, 0, none⟩) sn0_0 sn0_0, .slice (some ⟨sp1_0, 0, none⟩) sn1_0 sn1_0]] w fun e w' => e = .returned (.bool b1) ∧ Below w.heap.size w w') ∧ Hid (∀ (sp0_0 sp1_0 : Nat) (w : World) (F0 : Nat → Prop), RSnap.Own w F0 [.slice (some ⟨sp0_0, 0, none⟩) sn0_0 sn0_0, .slice (some ⟨sp1_0, 0, none⟩) sn1_0 sn1_0] (sx0_0, sx1_0) → Calls Try.prog 20 #[.agg #[.slice (some ⟨sp0_0, 0, none⟩) sn0_0 sn0_0, .slice (some ⟨sp1_0, 0, none⟩) sn1_0 sn1_0]] w fun e w' => e = .returned (.bool b1) ∧ Below w.heap.size w w') := ⟨gsB (sx0_0, sx1_0), fun sp0_0 sp1_0 w F0 o0 => specGoodSnap (some ⟨sp0_0, 0, none⟩) sn0_0 sn0_0 (some ⟨sp1_0, 0, none⟩) sn1_0 sn1_0 sx0_0 sx1_0 w HZ0.out.1 HZ0.out.2 sh0_0 sh1_0 HDD1_0.out (RSnap.lens o0).2.1 (RSnap.lens o0).2.2.2, fun sp0_0 sp1_0 w F0 o0 => implGoodSnap (some ⟨sp0_0, 0, none⟩) sn0_0 sn0_0 (some ⟨sp1_0, 0, none⟩) sn1_0 sn1_0 sx0_0 sx1_0 w HZ0.out.1 HZ0.out.2 sh0_0 sh1_0 (RSnap.lens o0).2.1 (RSnap.lens o0).2.2.2⟩
  go_enter Try.func4, Try.ntmps4
  go_wp2_with fail
  rw [← hW]
  clear hW
  refine (szSnap_any sa0_0 sn0_0 sc0_0 sa1_0 sn1_0 sc1_0  sx0_0 sx1_0 _ _ HZ0.out.1 kb0_0 HZ0.out.2 kb1_0 (AtSl.below HA0.out.1 B0) (AtSl.below HA0.out.2 B0) (by omega) (by omega)).mono ?_
  rintro e w1 ⟨rfl, hb1⟩
  rw [HC0.out, leftOf_yes (by omega)]
  have p00_1 := cell_later hb1 p00_0
  have p01_1 := cell_later hb1 p01_0
  have B_1 := B0.trans (hb1.mono B0.size)
  have zz1 : W.heap.size ≤ w1.heap.size := hb1.size
  clear p00_0 p01_0
  clear hb1
  go_wp2_with fail
  refine (toSnap_rep sa0_0 sn0_0 sc0_0 sa1_0 sn1_0 sc1_0  sx0_0 sx1_0 _ HZ0.out.1 sh0_0 HZ0.out.2 sh1_0 HDD1_0.out (AtSl.below HA0.out.1 B_1) (AtSl.below HA0.out.2 B_1)).mono ?_
  rintro e w2 ⟨g2_0, g2_1, rfl, ho2, hb2⟩
  have ot0_2 := Hid.mk ho2
  clear ho2
  have p00_2 := cell_later hb2 p00_1
  have p01_2 := cell_later hb2 p01_1
  have B_2 := B_1.trans (hb2.mono B_1.size)
  have zz2 : w1.heap.size ≤ w2.heap.size := hb2.size
  clear p00_1 p01_1 B_1
  clear hb2
  go_wp2_with fail
  refine (HS.out _ _ _ _ ot0_2.out).mono ?_
  rintro e w3 ⟨rfl, hb3⟩
  clear ot0_2
  have p00_3 := cell_later hb3 p00_2
  have p01_3 := cell_later hb3 p01_2
  have B_3 := B_2.trans (hb3.mono B_2.size)
  have zz3 : w2.heap.size ≤ w3.heap.size := hb3.size
  clear p00_2 p01_2 B_2
  clear hb3
  go_wp2_with fail
  refine (toSnap_rep sa0_0 sn0_0 sc0_0 sa1_0 sn1_0 sc1_0  sx0_0 sx1_0 _ HZ0.out.1 sh0_0 HZ0.out.2 sh1_0 HDD1_0.out (AtSl.below HA0.out.1 B_3) (AtSl.below HA0.out.2 B_3)).mono ?_
  rintro e w4 ⟨g4_0, g4_1, rfl, ho4, hb4⟩
  have ox0_4 := Hid.mk ho4
  clear ho4
  have p00_4 := cell_later hb4 p00_3
  have p01_4 := cell_later hb4 p01_3
  have B_4 := B_3.trans (hb4.mono B_3.size)
  have zz4 : w3.heap.size ≤ w4.heap.size := hb4.size
  clear p00_3 p01_3 B_3
  clear hb4
  obtain ⟨w5, hU5⟩ : ∃ u, u = w4.alloc (.cells #[.slice (some ⟨g4_0, 0, none⟩) sn0_0 sn0_0, .slice (some ⟨g4_1, 0, none⟩) sn1_0 sn1_0] 26) := ⟨_, rfl⟩
  have hb5 : Below w4.heap.size w4 w5 := by rw [hU5]; exact (Below.refl _ _).alloc (Nat.le_refl _) _
  have zl5 : w4.heap.size < w5.heap.size := by rw [hU5]; simp
  have nX00 : w5.cell? ⟨w4.heap.size, 0, none⟩ = some (.slice (some ⟨g4_0, 0, none⟩) sn0_0 sn0_0) := by rw [hU5]; simp
  have nX01 : w5.cell? ⟨w4.heap.size, 1, none⟩ = some (.slice (some ⟨g4_1, 0, none⟩) sn1_0 sn1_0) := by rw [hU5]; simp
  have p00_5 := cell_later hb5 p00_4
  have p01_5 := cell_later hb5 p01_4
  have ox0_5 := Hid.mk (RSnap.ownBelow ox0_4.out hb5)
  have B_5 := B_4.trans (hb5.mono B_4.size)
  have zz5 : w4.heap.size ≤ w5.heap.size := hb5.size
  clear p00_4 p01_4 ox0_4 B_4
  clear hb5
  have xp00 := p00_5
  rw [hU5] at xp00
  have xp01 := p01_5
  rw [hU5] at xp01
  have xX00 := nX00
  rw [hU5] at xX00
  have xX01 := nX01
  rw [hU5] at xX01
  go_wp2_with fail
  rw [← hU5]
  clear hU5
  clear xp00 xp01 xX00 xX01
  refine (HI.out _ _ _ _ ox0_5.out).mono ?_
  rintro e w6 ⟨rfl, hb6⟩
  have p00_6 := cell_later hb6 p00_5
  have p01_6 := cell_later hb6 p01_5
  have X00_6 := cell_later hb6 nX00
  have X01_6 := cell_later hb6 nX01
  have ox0_6 := Hid.mk (RSnap.ownBelow ox0_5.out hb6)
  have B_6 := B_5.trans (hb6.mono B_5.size)
  have zz6 : w5.heap.size ≤ w6.heap.size := hb6.size
  clear p00_5 p01_5 nX00 nX01 ox0_5 B_5
  clear hb6
  go_wp2_with fail
  refine wp_region_held_drew (S := fun w' => w'.cell? ⟨w4.heap.size, 0, none⟩ = some (.slice (some ⟨g4_0, 0, none⟩) sn0_0 sn0_0) ∧ w'.cell? ⟨w4.heap.size, 1, none⟩ = some (.slice (some ⟨g4_1, 0, none⟩) sn1_0 sn1_0) ∧ w'.cell? ⟨w.heap.size, 0, none⟩ = some (.slice sa0_0 sn0_0 sc0_0) ∧ w'.cell? ⟨w.heap.size, 1, none⟩ = some (.slice sa1_0 sn1_0 sc1_0)) (by kernel_rfl) ?_ (fun hHeld => ?_)
  · (try dsimp only)
    exact ⟨X00_6, X01_6, p00_6, p01_6⟩
  refine tk 0 ?_
  refine tk 1 ?_
  refine wpAnyH_ready (rs := [2]) (by kernel_rfl) (by simp) ?_
  refine AllReadyH.cons (o := ?_) ?_ (fun K hK => ?_) AllReadyH.nil
  rotate_left
  · (simp only [List.getElem?_toArray, List.getElem?_cons_zero, List.getElem?_cons_succ]; rfl)
  go_simp
  go_at_call 19
  refine (toSnap_rep sa0_0 sn0_0 sc0_0 sa1_0 sn1_0 sc1_0  sx0_0 sx1_0 _ HZ0.out.1 sh0_0 HZ0.out.2 sh1_0 HDD1_0.out (AtSl.below HA0.out.1 B_6.drew) (AtSl.below HA0.out.2 B_6.drew)).mono ?_
  rintro e w7 ⟨g7_0, g7_1, rfl, ho7, hd7⟩
  have hb7 : Below w6.heap.size w6 w7 := (Below.refl _ _).drew.trans hd7
  clear hd7
  have oy_7 := Hid.mk ho7
  clear ho7
  have p00_7 := cell_later hb7 p00_6
  have p01_7 := cell_later hb7 p01_6
  have X00_7 := cell_later hb7 X00_6
  have X01_7 := cell_later hb7 X01_6
  have ox0_7 := Hid.mk (RSnap.ownBelow ox0_6.out hb7)
  have B_7 := B_6.trans (hb7.mono B_6.size)
  have zz7 : w6.heap.size ≤ w7.heap.size := hb7.size
  clear p00_6 p01_6 X00_6 X01_6 ox0_6 B_6
  clear hb7
  (try go_wp2_with fail)
  refine hK.out _ _ ?_ (fun hHeld' => ?_)
  · (try dsimp only)
    exact ⟨X00_7, X01_7, p00_7, p01_7⟩
  clear hK K hHeld
  have hHeld := hHeld'
  clear hHeld'
  (try simp only [Act.put, List.setIfInBounds_toArray, List.set_cons_zero, List.set_cons_succ])
  refine wpAnyH_ready (rs := [3]) (by kernel_rfl) (by simp) ?_
  refine AllReadyH.cons (o := ?_) ?_ (fun K hK => ?_) AllReadyH.nil
  rotate_left
  · (simp only [List.getElem?_toArray, List.getElem?_cons_zero, List.getElem?_cons_succ]; rfl)
  go_simp
  go_at_call 12
  refine (eqSnap_same _ sn0_0 _ _ sn1_0 _ _ _ _ _  sx0_0 sx1_0 _ HZ0.out.1 sh0_0 HZ0.out.2 sh1_0 HDD1_0.out (RSnap.lens ox0_7.out).2.1 (RSnap.lens oy_7.out).2.1 (RSnap.lens ox0_7.out).2.2.2 (RSnap.lens oy_7.out).2.2.2).mono ?_
  rintro e w8 ⟨rfl, hb8⟩
  clear oy_7
  have p00_8 := cell_later hb8 p00_7
  have p01_8 := cell_later hb8 p01_7
  have X00_8 := cell_later hb8 X00_7
  have X01_8 := cell_later hb8 X01_7
  have ox0_8 := Hid.mk (RSnap.ownBelow ox0_7.out hb8)
  have B_8 := B_7.trans (hb8.mono B_7.size)
  have zz8 : w7.heap.size ≤ w8.heap.size := hb8.size
  clear p00_7 p01_7 X00_7 X01_7 ox0_7 B_7
  clear hb8
  (try go_wp2_with fail)
  refine hK.out _ _ ?_ (fun hHeld' => ?_)
  · (try dsimp only)
    exact ⟨X00_8, X01_8, p00_8, p01_8⟩
  clear hK K hHeld
  have hHeld := hHeld'
  clear hHeld'
  (try simp only [Act.put, List.setIfInBounds_toArray, List.set_cons_zero, List.set_cons_succ])
  refine tk 4 ?_
  refine wpAnyH_done (by kernel_rfl) ?_ _
  clear hHeld
  go_wp2
  go_ret
  exact ⟨rfl, B_8⟩

end Go.Proofs.Ythfndafgllcelaa
