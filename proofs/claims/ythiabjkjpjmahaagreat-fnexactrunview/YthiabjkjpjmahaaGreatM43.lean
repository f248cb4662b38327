/- Several texts of one proof, in build order: LawRunView, Open, OpenT. -/
import Derived.Test.YthiabjkjpjmahaaGreatM41
import Derived.Test.YthiabjkjpjmahaaGreatM42
import Derived.Test.YthiabjkjpjmahaaGreatM10
import Derived.Test.YthiabjkjpjmahaaGreatM0
import Derived.ProofKit
import Derived.OpenShut
import Derived.ShutString
import Derived.ChangeOld
import Derived.Lib.SmallJoins
import Derived.Deep.SlicePairs

/- The law FnExactRunView returns true at every input, and writes nothing that was there. -/
namespace Go.Proofs.YthiabjkjpjmahaaGreat
open Go.RowKit

theorem rv_good (v : ViewD) (l : List Tab) (h : raB v l = true) : goodT (rvT v l).1 (rvT v l).2 = true := by
  cases hr : raO v l with
  | none => rw [(ra_none hr).1] at h; cases h
  | some ah =>
   have hl := raO_len hr
   unfold rvT
   rw [(ra_some hr).2]
   unfold raO at hr
   split at hr
   ·exact (runTo_some hr).2 _ (tat_mem (by omega))
   ·cases hr

set_option maxRecDepth 100000 in
set_option maxHeartbeats 16000000 in
theorem lawRunView (sa0 : Option Addr) (sn0 sc0 : Nat) (pa0 : Option Addr) (pn0 pc0 : Nat) (ss0 : List Int) (xs0 : List PartD) (a1 : Option Addr) (n1 c1 : Nat) (l1 : List Tab) (w : World) (hs0 : ss0.length = sn0) (hsn0 : sn0 ≤ 9223372036854775807) (hz0 : xs0.length = pn0) (hn0 : pn0 ≤ 9223372036854775807) (hat0 : At w sa0 ss0) (ha0 : AtSl RPart w pa0 xs0) (hz1 : l1.length = n1) (hn1 : n1 ≤ 9223372036854775807) (ha1 : AtSW w a1 l1) :
   Calls Tryz.prog 4 #[.agg #[.slice sa0 sn0 sc0, .slice pa0 pn0 pc0], .slice a1 n1 c1] w fun e w' => e = .returned (.bool true) ∧ Below w.heap.size w w' := by
  obtain ⟨W, hW⟩ : ∃ W, W = w.alloc (.cells #[.slice sa0 sn0 sc0, .slice pa0 pn0 pc0] 41) := ⟨_, rfl⟩
  have B0 : Below w.heap.size w W := by rw [hW]; exact (Below.refl _ _).alloc (Nat.le_refl _) _
  have zW : w.heap.size < W.heap.size := by rw [hW]; simp
  have p00_0 : W.cell? ⟨w.heap.size, 0, none⟩ = some (.slice sa0 sn0 sc0) := by rw [hW]; simp
  have p01_0 : W.cell? ⟨w.heap.size, 1, none⟩ = some (.slice pa0 pn0 pc0) := by rw [hW]; simp
  have HA0 := Hid.mk (And.intro hat0 ha0)
  clear hat0 ha0
  have HT1 := Hid.mk ha1
  clear ha1
  by_cases big0 : (1048576 : Int) < (vcost (ss0, xs0) : Nat)
  ·go_enter Tryz.func4, Tryz.ntmps4
   go_wp2_with fail
   rw [← hW]
   clear hW
   refine (szView_any sa0 sn0 sc0 pa0 pn0 pc0 ss0 xs0 _ _ hs0 hsn0 hz0 hn0 (by omega) (by omega) (HA0.out.2.below B0)).mono ?_
   rintro e v0 ⟨rfl, hv0⟩
   rw [leftOf_no big0]
   have y0 := B0.trans (hv0.mono B0.size)
   go_wp2
   go_ret
   exact ⟨rfl, y0⟩
  have HSM0 : Hid (SmView (ss0, xs0)) := by show vcost _ ≤ _; omega
  have hl0 : ¬ (1048576 : Int) - (vcost (ss0, xs0) : Nat) < 0 := by omega
  have hge0 : ¬ (1048576 : Int) < (vcost (ss0, xs0) : Nat) := big0
  clear big0
  have HSZ0 := HSM0.out.size.2
  obtain ⟨C0, hC0⟩ : ∃ C : Nat, vcost (ss0, xs0) = C := ⟨_, rfl⟩
  rw [hC0] at hl0 hge0
  have HC0 := Hid.mk hC0
  clear hC0
  obtain ⟨V0, hV0⟩ : ∃ C : Nat, vsize (ss0, xs0) = C := ⟨_, rfl⟩
  rw [hV0] at HSZ0
  have HV0 := Hid.mk hV0
  clear hV0
  obtain ⟨C1, hC1⟩ : ∃ C : Nat, stot l1 n1 = C := ⟨_, rfl⟩
  have HC1 := Hid.mk hC1
  clear hC1
  by_cases big1 : (1048576 : Int) - (C0 : Int) < (C1 : Int)
  ·go_enter Tryz.func4, Tryz.ntmps4
   go_wp2_with fail
   rw [← hW]
   clear hW
   refine (szView_any sa0 sn0 sc0 pa0 pn0 pc0 ss0 xs0 _ _ hs0 hsn0 hz0 hn0 (by omega) (by omega) (HA0.out.2.below B0)).mono ?_
   rintro e v0 ⟨rfl, hv0⟩
   rw [HC0.out, leftOf_yes (by omega)]
   have y0 := B0.trans (hv0.mono B0.size)
   have qa := cell_later hv0 p00_0
   have qb := cell_later hv0 p01_0
   go_wp2_with fail
   refine (szTableS_any a1 n1 c1 l1 _ _ hz1 hn1 (by omega) (by omega) (HT1.out.below y0)).mono ?_
   rintro e v1 ⟨rfl, hv1⟩
   rw [HC1.out, leftOf_no big1]
   have y1 := y0.trans (hv1.mono y0.size)
   go_wp2
   go_ret
   exact ⟨rfl, y1⟩
  have hge1 : ¬ (1048576 : Int) - (C0 : Int) < (C1 : Int) := big1
  have hl1 : ¬ (1048576 : Int) - (C0 : Int) - (C1 : Int) < 0 := by omega
  clear big1
  have HSU : Hid (SmU l1 n1) := ⟨hz1, by rw [HC1.out]; omega⟩
  obtain ⟨ok, pa, ta, hsA, HS, HI⟩ : ∃ (ok : Bool) (pa : Int) (ta : List WRow), SmT ta ta.length ∧ Hid (∀ (x1 x2 g lo hi : Nat) (w : World) (F : Nat → Prop), RView.Own w F [.slice (some ⟨x1, 0, none⟩) sn0 sn0, .slice (some ⟨x2, 0, none⟩) pn0 pn0] (ss0, xs0) → OwnU w lo hi (some ⟨g, 0, none⟩) n1 n1 l1 → Calls Tryz.prog 15 #[.agg #[.slice (some ⟨x1, 0, none⟩) sn0 sn0, .slice (some ⟨x2, 0, none⟩) pn0 pn0], .slice (some ⟨g, 0, none⟩) n1 n1] w fun e w' => TabRet e w' w.heap.size ok pa ta ∧ Below w.heap.size w w') ∧ Hid (∀ (x1 x2 g lo hi : Nat) (w : World) (F : Nat → Prop), RView.Own w F [.slice (some ⟨x1, 0, none⟩) sn0 sn0, .slice (some ⟨x2, 0, none⟩) pn0 pn0] (ss0, xs0) → OwnU w lo hi (some ⟨g, 0, none⟩) n1 n1 l1 → Calls Tryz.prog 12 #[.agg #[.slice (some ⟨x1, 0, none⟩) sn0 sn0, .slice (some ⟨x2, 0, none⟩) pn0 pn0], .slice (some ⟨g, 0, none⟩) n1 n1] w fun e w' => TabRet e w' w.heap.size ok pa ta ∧ Below w.heap.size w w') := ⟨raB (ss0, xs0) l1, ansP (raB (ss0, xs0) l1) (rvT (ss0, xs0) l1).1, ansT (raB (ss0, xs0) l1) (rvT (ss0, xs0) l1).2, ans_small (p := (rvT (ss0, xs0) l1).1) (rv_good (ss0, xs0) l1), fun x1 x2 g lo hi w F o u => specRunView (some ⟨x1, 0, none⟩) sn0 sn0 (some ⟨x2, 0, none⟩) pn0 pn0 ss0 xs0 (some ⟨g, 0, none⟩) n1 n1 l1 w hs0 hz0 HSM0.out (view_at o).1 (view_at o).2 HSU.out (u.atM HSU.out), fun x1 x2 g lo hi w F o u => implRunView (some ⟨x1, 0, none⟩) sn0 sn0 (some ⟨x2, 0, none⟩) pn0 pn0 ss0 xs0 (some ⟨g, 0, none⟩) n1 n1 l1 w hs0 hz0 HSM0.out (view_at o).1 (view_at o).2 HSU.out (u.atM HSU.out)⟩
  obtain ⟨na, hna⟩ : ∃ na, ta.length = na := ⟨_, rfl⟩
  rw [hna] at hsA
  have HNA := Hid.mk hna
  clear hna
  have HSA := Hid.mk hsA
  obtain ⟨G0, hG0⟩ : ∃ C : Nat, wtot ta na = C := ⟨_, rfl⟩
  have hGs : G0 ≤ 1048576 := by have := hsA.2; omega
  have HG0 := Hid.mk hG0
  clear hG0 hsA
  go_enter Tryz.func4, Tryz.ntmps4
  go_wp2_with fail
  rw [← hW]
  clear hW
  refine (szView_any sa0 sn0 sc0 pa0 pn0 pc0 ss0 xs0 _ _ hs0 hsn0 hz0 hn0 (by omega) (by omega) (HA0.out.2.below B0)).mono ?_
  rintro e w1 ⟨rfl, hb1⟩
  rw [HC0.out, leftOf_yes (by omega)]
  have p00_1 := cell_later hb1 p00_0
  have p01_1 := cell_later hb1 p01_0
  have B_1 := B0.trans (hb1.mono B0.size)
  have zz1 : W.heap.size ≤ w1.heap.size := hb1.size
  clear p00_0 p01_0
  clear hb1
  go_wp2_with fail
  refine (szTableS_any a1 n1 c1 l1 _ _ hz1 hn1 (by omega) (by omega) (HT1.out.below B_1)).mono ?_
  rintro e w2 ⟨rfl, hb2⟩
  rw [HC1.out, leftOf_yes (by omega)]
  have p00_2 := cell_later hb2 p00_1
  have p01_2 := cell_later hb2 p01_1
  have B_2 := B_1.trans (hb2.mono B_1.size)
  have zz2 : w1.heap.size ≤ w2.heap.size := hb2.size
  clear p00_1 p01_1 B_1
  clear hb2
  go_wp2_with fail
  refine (toView_any sa0 sn0 sc0 pa0 pn0 pc0 ss0 xs0 _ hs0 hz0 HSM0.out (HA0.out.1.below B_2) (HA0.out.2.below B_2)).mono ?_
  rintro e w3 ⟨g3_1, g3_2, rfl, ho3, hb3⟩
  have ot_3 := Hid.mk ho3
  clear ho3
  have p00_3 := cell_later hb3 p00_2
  have p01_3 := cell_later hb3 p01_2
  have B_3 := B_2.trans (hb3.mono B_2.size)
  have zz3 : w2.heap.size ≤ w3.heap.size := hb3.size
  clear p00_2 p01_2 B_2
  clear hb3
  go_wp2_with fail
  refine (toTableS_any a1 n1 c1 l1 _ HSU.out (HT1.out.below B_3)).mono ?_
  rintro e w4 ⟨g4, rfl, ho4, hb4⟩
  have ou_4 := Hid.mk ho4
  clear ho4
  have p00_4 := cell_later hb4 p00_3
  have p01_4 := cell_later hb4 p01_3
  have ot_4 := Hid.mk (RView.ownBelow ot_3.out hb4)
  have B_4 := B_3.trans (hb4.mono B_3.size)
  have zz4 : w3.heap.size ≤ w4.heap.size := hb4.size
  clear p00_3 p01_3 ot_3 B_3
  clear hb4
  go_wp2_with fail
  refine (HS.out _ _ _ _ _ _ _ ot_4.out ou_4.out).mono ?_
  rintro e w5 ⟨⟨r5, m5, d5, cs5, rfl, ho5⟩, hb5⟩
  have ow5 : OwnT w5 (w4.heap.size) w5.heap.size r5 m5 d5 ta := ⟨cs5, ho5⟩
  obtain rfl : na = m5 := HNA.out.symm.trans ow5.len
  have oo_5 := Hid.mk ow5
  clear ho5 ow5
  clear ot_4 ou_4
  have p00_5 := cell_later hb5 p00_4
  have p01_5 := cell_later hb5 p01_4
  have B_5 := B_4.trans (hb5.mono B_4.size)
  have zz5 : w4.heap.size ≤ w5.heap.size := hb5.size
  clear p00_4 p01_4 B_4
  clear hb5
  obtain ⟨w6, hU6⟩ : ∃ u, u = w5.alloc (.cells #[.int .i64 pa, .slice r5 na d5] 32) := ⟨_, rfl⟩
  have hb6 : Below w5.heap.size w5 w6 := by rw [hU6]; exact (Below.refl _ _).alloc (Nat.le_refl _) _
  have zl6 : w5.heap.size < w6.heap.size := by rw [hU6]; simp
  have nov0 : w6.cell? ⟨w5.heap.size, 0, none⟩ = some (.int .i64 pa) := by rw [hU6]; simp
  have nov1 : w6.cell? ⟨w5.heap.size, 1, none⟩ = some (.slice r5 na d5) := by rw [hU6]; simp
  have p00_6 := cell_later hb6 p00_5
  have p01_6 := cell_later hb6 p01_5
  have oo_6 := Hid.mk (OwnT.below oo_5.out hb6)
  have B_6 := B_5.trans (hb6.mono B_5.size)
  have zz6 : w5.heap.size ≤ w6.heap.size := hb6.size
  clear p00_5 p01_5 oo_5 B_5
  clear hb6
  go_upto_region 9 with fail
  rw [← hU6]
  clear hU6
  go_wp2_with fail
  refine (toView_any sa0 sn0 sc0 pa0 pn0 pc0 ss0 xs0 _ hs0 hz0 HSM0.out (HA0.out.1.below B_6) (HA0.out.2.below B_6)).mono ?_
  rintro e w7 ⟨g7_1, g7_2, rfl, ho7, hb7⟩
  have ox_7 := Hid.mk ho7
  clear ho7
  have p00_7 := cell_later hb7 p00_6
  have p01_7 := cell_later hb7 p01_6
  have ov0_7 := cell_later hb7 nov0
  have ov1_7 := cell_later hb7 nov1
  have oo_7 := Hid.mk (OwnT.below oo_6.out hb7)
  have B_7 := B_6.trans (hb7.mono B_6.size)
  have zz7 : w6.heap.size ≤ w7.heap.size := hb7.size
  clear p00_6 p01_6 nov0 nov1 oo_6 B_6
  clear hb7
  obtain ⟨w8, hU8⟩ : ∃ u, u = w7.alloc (.cells #[.slice (some ⟨g7_1, 0, none⟩) sn0 sn0, .slice (some ⟨g7_2, 0, none⟩) pn0 pn0] 26) := ⟨_, rfl⟩
  have hb8 : Below w7.heap.size w7 w8 := by rw [hU8]; exact (Below.refl _ _).alloc (Nat.le_refl _) _
  have zl8 : w7.heap.size < w8.heap.size := by rw [hU8]; simp
  have nx0 : w8.cell? ⟨w7.heap.size, 0, none⟩ = some (.slice (some ⟨g7_1, 0, none⟩) sn0 sn0) := by rw [hU8]; simp
  have nx1 : w8.cell? ⟨w7.heap.size, 1, none⟩ = some (.slice (some ⟨g7_2, 0, none⟩) pn0 pn0) := by rw [hU8]; simp
  have p00_8 := cell_later hb8 p00_7
  have p01_8 := cell_later hb8 p01_7
  have ov0_8 := cell_later hb8 ov0_7
  have ov1_8 := cell_later hb8 ov1_7
  have oo_8 := Hid.mk (OwnT.below oo_7.out hb8)
  have ox_8 := Hid.mk (RView.ownBelow ox_7.out hb8)
  have B_8 := B_7.trans (hb8.mono B_7.size)
  have zz8 : w7.heap.size ≤ w8.heap.size := hb8.size
  clear p00_7 p01_7 ov0_7 ov1_7 oo_7 ox_7 B_7
  clear hb8
  go_upto_region 10 with fail
  rw [← hU8]
  clear hU8
  go_wp2_with fail
  refine (toTableS_any a1 n1 c1 l1 _ HSU.out (HT1.out.below B_8)).mono ?_
  rintro e w9 ⟨g9, rfl, ho9, hb9⟩
  have oy_9 := Hid.mk ho9
  clear ho9
  have p00_9 := cell_later hb9 p00_8
  have p01_9 := cell_later hb9 p01_8
  have ov0_9 := cell_later hb9 ov0_8
  have ov1_9 := cell_later hb9 ov1_8
  have x0_9 := cell_later hb9 nx0
  have x1_9 := cell_later hb9 nx1
  have oo_9 := Hid.mk (OwnT.below oo_8.out hb9)
  have ox_9 := Hid.mk (RView.ownBelow ox_8.out hb9)
  have B_9 := B_8.trans (hb9.mono B_8.size)
  have zz9 : w8.heap.size ≤ w9.heap.size := hb9.size
  clear p00_8 p01_8 ov0_8 ov1_8 nx0 nx1 oo_8 ox_8 B_8
  clear hb9
  go_wp2_with fail
  refine (HI.out _ _ _ _ _ _ _ ox_9.out oy_9.out).mono ?_
  rintro e w10 ⟨⟨r10, m10, d10, cs10, rfl, ho10⟩, hb10⟩
  have ow10 : OwnT w10 (w9.heap.size) w10.heap.size r10 m10 d10 ta := ⟨cs10, ho10⟩
  obtain rfl : na = m10 := HNA.out.symm.trans ow10.len
  have og_10 := Hid.mk ow10
  clear ho10 ow10
  have p00_10 := cell_later hb10 p00_9
  have p01_10 := cell_later hb10 p01_9
  have ov0_10 := cell_later hb10 ov0_9
  have ov1_10 := cell_later hb10 ov1_9
  have x0_10 := cell_later hb10 x0_9
  have x1_10 := cell_later hb10 x1_9
  have oo_10 := Hid.mk (OwnT.below oo_9.out hb10)
  have ox_10 := Hid.mk (RView.ownBelow ox_9.out hb10)
  have oy_10 := Hid.mk (OwnU.below oy_9.out hb10)
  have B_10 := B_9.trans (hb10.mono B_9.size)
  have zz10 : w9.heap.size ≤ w10.heap.size := hb10.size
  clear p00_9 p01_9 ov0_9 ov1_9 x0_9 x1_9 oo_9 ox_9 oy_9 B_9
  clear hb10
  obtain ⟨w11, hU11⟩ : ∃ u, u = w10.alloc (.cells #[.int .i64 pa, .slice r10 na d10] 32) := ⟨_, rfl⟩
  have hb11 : Below w10.heap.size w10 w11 := by rw [hU11]; exact (Below.refl _ _).alloc (Nat.le_refl _) _
  have zl11 : w10.heap.size < w11.heap.size := by rw [hU11]; simp
  have ngv0 : w11.cell? ⟨w10.heap.size, 0, none⟩ = some (.int .i64 pa) := by rw [hU11]; simp
  have ngv1 : w11.cell? ⟨w10.heap.size, 1, none⟩ = some (.slice r10 na d10) := by rw [hU11]; simp
  have p00_11 := cell_later hb11 p00_10
  have p01_11 := cell_later hb11 p01_10
  have ov0_11 := cell_later hb11 ov0_10
  have ov1_11 := cell_later hb11 ov1_10
  have x0_11 := cell_later hb11 x0_10
  have x1_11 := cell_later hb11 x1_10
  have oo_11 := Hid.mk (OwnT.below oo_10.out hb11)
  have ox_11 := Hid.mk (RView.ownBelow ox_10.out hb11)
  have oy_11 := Hid.mk (OwnU.below oy_10.out hb11)
  have og_11 := Hid.mk (OwnT.below og_10.out hb11)
  have B_11 := B_10.trans (hb11.mono B_10.size)
  have zz11 : w10.heap.size ≤ w11.heap.size := hb11.size
  clear p00_10 p01_10 ov0_10 ov1_10 x0_10 x1_10 oo_10 ox_10 oy_10 og_10 B_10
  clear hb11
  go_upto_region 12 with fail
  rw [← hU11]
  clear hU11
  go_wp2_with fail
  refine (eqTableG _ _ na _ _ ta pa _ HSA.out (og_11.out.atW HSA.out) (oo_11.out.atW HSA.out)).mono ?_
  rintro e w12 ⟨rfl, hb12⟩
  have p00_12 := cell_later hb12 p00_11
  have p01_12 := cell_later hb12 p01_11
  have ov0_12 := cell_later hb12 ov0_11
  have ov1_12 := cell_later hb12 ov1_11
  have x0_12 := cell_later hb12 x0_11
  have x1_12 := cell_later hb12 x1_11
  have gv0_12 := cell_later hb12 ngv0
  have gv1_12 := cell_later hb12 ngv1
  have oo_12 := Hid.mk (OwnT.below oo_11.out hb12)
  have ox_12 := Hid.mk (RView.ownBelow ox_11.out hb12)
  have oy_12 := Hid.mk (OwnU.below oy_11.out hb12)
  have og_12 := Hid.mk (OwnT.below og_11.out hb12)
  have B_12 := B_11.trans (hb12.mono B_11.size)
  have zz12 : w11.heap.size ≤ w12.heap.size := hb12.size
  clear p00_11 p01_11 ov0_11 ov1_11 x0_11 x1_11 ngv0 ngv1 oo_11 ox_11 oy_11 og_11 B_11
  clear hb12
  go_wp2_with fail
  refine wp_region_held_drew (S := fun w' => w'.cell? ⟨w7.heap.size, 0, none⟩ = some (.slice (some ⟨g7_1, 0, none⟩) sn0 sn0) ∧ w'.cell? ⟨w7.heap.size, 1, none⟩ = some (.slice (some ⟨g7_2, 0, none⟩) pn0 pn0) ∧ w'.cell? ⟨w.heap.size, 0, none⟩ = some (.slice sa0 sn0 sc0) ∧ w'.cell? ⟨w.heap.size, 1, none⟩ = some (.slice pa0 pn0 pc0)) (by kernel_rfl) ?_ (fun hHeld => ?_)
  ·(try dsimp only)
   exact ⟨x0_12, x1_12, p00_12, p01_12⟩
  refine tk 0 ?_
  refine tk 1 ?_
  refine tr 2 (fun K hK => ?_)
  go_simp
  go_at_call 16
  refine (toView_any sa0 sn0 sc0 pa0 pn0 pc0 ss0 xs0 _ hs0 hz0 HSM0.out (HA0.out.1.below B_12.drew) (HA0.out.2.below B_12.drew)).mono ?_
  rintro e w13 ⟨g13_1, g13_2, rfl, ho13, hd13⟩
  have hb13 : Below w12.heap.size w12 w13 := (Below.refl _ _).drew.trans hd13
  clear hd13
  have oz_13 := Hid.mk ho13
  clear ho13
  have p00_13 := cell_later hb13 p00_12
  have p01_13 := cell_later hb13 p01_12
  have ov0_13 := cell_later hb13 ov0_12
  have ov1_13 := cell_later hb13 ov1_12
  have x0_13 := cell_later hb13 x0_12
  have x1_13 := cell_later hb13 x1_12
  have gv0_13 := cell_later hb13 gv0_12
  have gv1_13 := cell_later hb13 gv1_12
  have oo_13 := Hid.mk (OwnT.below oo_12.out hb13)
  have ox_13 := Hid.mk (RView.ownBelow ox_12.out hb13)
  have oy_13 := Hid.mk (OwnU.below oy_12.out hb13)
  have og_13 := Hid.mk (OwnT.below og_12.out hb13)
  have B_13 := B_12.trans (hb13.mono B_12.size)
  have zz13 : w12.heap.size ≤ w13.heap.size := hb13.size
  clear p00_12 p01_12 ov0_12 ov1_12 x0_12 x1_12 gv0_12 gv1_12 oo_12 ox_12 oy_12 og_12 B_12
  clear hb13
  (try go_wp2_with fail)
  refine hK.out _ _ ?_ (fun hHeld' => ?_)
  ·(try dsimp only)
   exact ⟨x0_13, x1_13, p00_13, p01_13⟩
  clear hK K hHeld
  have hHeld := hHeld'
  clear hHeld'
  (try simp only [Act.put, List.setIfInBounds_toArray, List.set_cons_zero, List.set_cons_succ])
  refine tr 3 (fun K hK => ?_)
  go_simp
  go_at_call 19
  refine (eqView_same _ _ _ _ _ _ _ _ _ _ ss0 xs0 _ hs0 hz0 HSM0.out.two (view_at ox_13.out).1 (view_at ox_13.out).2 (view_at oz_13.out).1 (view_at oz_13.out).2).mono ?_
  rintro e w14 ⟨rfl, hb14⟩
  clear oz_13
  have p00_14 := cell_later hb14 p00_13
  have p01_14 := cell_later hb14 p01_13
  have ov0_14 := cell_later hb14 ov0_13
  have ov1_14 := cell_later hb14 ov1_13
  have x0_14 := cell_later hb14 x0_13
  have x1_14 := cell_later hb14 x1_13
  have gv0_14 := cell_later hb14 gv0_13
  have gv1_14 := cell_later hb14 gv1_13
  have oo_14 := Hid.mk (OwnT.below oo_13.out hb14)
  have ox_14 := Hid.mk (RView.ownBelow ox_13.out hb14)
  have oy_14 := Hid.mk (OwnU.below oy_13.out hb14)
  have og_14 := Hid.mk (OwnT.below og_13.out hb14)
  have B_14 := B_13.trans (hb14.mono B_13.size)
  have zz14 : w13.heap.size ≤ w14.heap.size := hb14.size
  clear p00_13 p01_13 ov0_13 ov1_13 x0_13 x1_13 gv0_13 gv1_13 oo_13 ox_13 oy_13 og_13 B_13
  clear hb14
  (try go_wp2_with fail)
  refine hK.out _ _ ?_ (fun hHeld' => ?_)
  ·(try dsimp only)
   exact ⟨x0_14, x1_14, p00_14, p01_14⟩
  clear hK K hHeld
  have hHeld := hHeld'
  clear hHeld'
  (try simp only [Act.put, List.setIfInBounds_toArray, List.set_cons_zero, List.set_cons_succ])
  refine tk 4 ?_
  refine wpAnyH_done (by kernel_rfl) ?_ _
  clear hHeld
  go_wp2_with fail
  refine (toTableS_any a1 n1 c1 l1 _ HSU.out (HT1.out.below B_14)).mono ?_
  rintro e w15 ⟨g15, rfl, ho15, hb15⟩
  have oz_15 := Hid.mk ho15
  clear ho15
  have p00_15 := cell_later hb15 p00_14
  have p01_15 := cell_later hb15 p01_14
  have ov0_15 := cell_later hb15 ov0_14
  have ov1_15 := cell_later hb15 ov1_14
  have x0_15 := cell_later hb15 x0_14
  have x1_15 := cell_later hb15 x1_14
  have gv0_15 := cell_later hb15 gv0_14
  have gv1_15 := cell_later hb15 gv1_14
  have oo_15 := Hid.mk (OwnT.below oo_14.out hb15)
  have ox_15 := Hid.mk (RView.ownBelow ox_14.out hb15)
  have oy_15 := Hid.mk (OwnU.below oy_14.out hb15)
  have og_15 := Hid.mk (OwnT.below og_14.out hb15)
  have B_15 := B_14.trans (hb15.mono B_14.size)
  have zz15 : w14.heap.size ≤ w15.heap.size := hb15.size
  clear p00_14 p01_14 ov0_14 ov1_14 x0_14 x1_14 gv0_14 gv1_14 oo_14 ox_14 oy_14 og_14 B_14
  clear hb15
  go_wp2_with fail
  refine (eqTableS_any _ _ n1 _ _ l1 _ HSU.out (oy_15.out.atSW HSU.out) (oz_15.out.atSW HSU.out)).mono ?_
  rintro e w16 ⟨rfl, hb16⟩
  clear oz_15
  have p00_16 := cell_later hb16 p00_15
  have p01_16 := cell_later hb16 p01_15
  have ov0_16 := cell_later hb16 ov0_15
  have ov1_16 := cell_later hb16 ov1_15
  have x0_16 := cell_later hb16 x0_15
  have x1_16 := cell_later hb16 x1_15
  have gv0_16 := cell_later hb16 gv0_15
  have gv1_16 := cell_later hb16 gv1_15
  have oo_16 := Hid.mk (OwnT.below oo_15.out hb16)
  have ox_16 := Hid.mk (RView.ownBelow ox_15.out hb16)
  have oy_16 := Hid.mk (OwnU.below oy_15.out hb16)
  have og_16 := Hid.mk (OwnT.below og_15.out hb16)
  have B_16 := B_15.trans (hb16.mono B_15.size)
  have zz16 : w15.heap.size ≤ w16.heap.size := hb16.size
  clear p00_15 p01_15 ov0_15 ov1_15 x0_15 x1_15 gv0_15 gv1_15 oo_15 ox_15 oy_15 og_15 B_15
  clear hb16
  go_wp2_with fail
  refine (markView_rep (From (w6.heap.size) (w7.heap.size)) _ _ _ _ _ _ ss0 xs0 _ _ HSM0.out.two (by omega) (by omega) (fun b h => by have h2 := h.2; omega) ox_16.out).mono ?_
  rintro e w17 ⟨rfl, ho17, hg17⟩
  rw [HV0.out]
  have ox_17 := Hid.mk ho17
  clear ho17
  have p00_17 := hg17.cell p00_16 (show ¬ From (w6.heap.size) (w7.heap.size) (w.heap.size) from fun h => by have h1 := h.1; have h2 := h.2; omega)
  have p01_17 := hg17.cell p01_16 (show ¬ From (w6.heap.size) (w7.heap.size) (w.heap.size) from fun h => by have h1 := h.1; have h2 := h.2; omega)
  have ov0_17 := hg17.cell ov0_16 (show ¬ From (w6.heap.size) (w7.heap.size) (w5.heap.size) from fun h => by have h1 := h.1; have h2 := h.2; omega)
  have ov1_17 := hg17.cell ov1_16 (show ¬ From (w6.heap.size) (w7.heap.size) (w5.heap.size) from fun h => by have h1 := h.1; have h2 := h.2; omega)
  have x0_17 := hg17.cell x0_16 (show ¬ From (w6.heap.size) (w7.heap.size) (w7.heap.size) from fun h => by have h1 := h.1; have h2 := h.2; omega)
  have x1_17 := hg17.cell x1_16 (show ¬ From (w6.heap.size) (w7.heap.size) (w7.heap.size) from fun h => by have h1 := h.1; have h2 := h.2; omega)
  have gv0_17 := hg17.cell gv0_16 (show ¬ From (w6.heap.size) (w7.heap.size) (w10.heap.size) from fun h => by have h1 := h.1; have h2 := h.2; omega)
  have gv1_17 := hg17.cell gv1_16 (show ¬ From (w6.heap.size) (w7.heap.size) (w10.heap.size) from fun h => by have h1 := h.1; have h2 := h.2; omega)
  have oo_17 := Hid.mk (OwnT.apartW oo_16.out (Off.apart hg17) (by omega))
  have oy_17 := Hid.mk (OwnU.apartW oy_16.out (Off.apart hg17) (by omega))
  have og_17 := Hid.mk (OwnT.apartW og_16.out (Off.apart hg17) (by omega))
  have B_17 := B_16.trans (hg17.toBelow (by omega) B_16.size)
  have zz17 : w16.heap.size ≤ w17.heap.size := hg17.size
  clear p00_16 p01_16 ov0_16 ov1_16 x0_16 x1_16 gv0_16 gv1_16 oo_16 ox_16 oy_16 og_16 B_16
  clear hg17
  clear ox_17
  go_wp2_with fail
  refine (markTableS_any (w8.heap.size) (w9.heap.size) _ _ _ l1 _ _ HSU.out (by omega) (by omega) oy_17.out).mono ?_
  rintro e w18 ⟨rfl, ho18, hp18⟩
  rw [HC1.out]
  have oy_18 := Hid.mk ho18
  have hg18 := Off.of_apart hp18
  clear ho18 hp18
  have p00_18 := hg18.cell p00_17 (show ¬ From (w8.heap.size) (w9.heap.size) (w.heap.size) from fun h => by have h1 := h.1; have h2 := h.2; omega)
  have p01_18 := hg18.cell p01_17 (show ¬ From (w8.heap.size) (w9.heap.size) (w.heap.size) from fun h => by have h1 := h.1; have h2 := h.2; omega)
  have ov0_18 := hg18.cell ov0_17 (show ¬ From (w8.heap.size) (w9.heap.size) (w5.heap.size) from fun h => by have h1 := h.1; have h2 := h.2; omega)
  have ov1_18 := hg18.cell ov1_17 (show ¬ From (w8.heap.size) (w9.heap.size) (w5.heap.size) from fun h => by have h1 := h.1; have h2 := h.2; omega)
  have x0_18 := hg18.cell x0_17 (show ¬ From (w8.heap.size) (w9.heap.size) (w7.heap.size) from fun h => by have h1 := h.1; have h2 := h.2; omega)
  have x1_18 := hg18.cell x1_17 (show ¬ From (w8.heap.size) (w9.heap.size) (w7.heap.size) from fun h => by have h1 := h.1; have h2 := h.2; omega)
  have gv0_18 := hg18.cell gv0_17 (show ¬ From (w8.heap.size) (w9.heap.size) (w10.heap.size) from fun h => by have h1 := h.1; have h2 := h.2; omega)
  have gv1_18 := hg18.cell gv1_17 (show ¬ From (w8.heap.size) (w9.heap.size) (w10.heap.size) from fun h => by have h1 := h.1; have h2 := h.2; omega)
  have oo_18 := Hid.mk (OwnT.apartW oo_17.out (Off.apart hg18) (by omega))
  have og_18 := Hid.mk (OwnT.apartW og_17.out (Off.apart hg18) (by omega))
  have B_18 := B_17.trans (hg18.toBelow (by omega) B_17.size)
  have zz18 : w17.heap.size ≤ w18.heap.size := hg18.size
  clear p00_17 p01_17 ov0_17 ov1_17 x0_17 x1_17 gv0_17 gv1_17 oo_17 oy_17 og_17 B_17
  clear hg18
  clear oy_18
  have kpos : ¬ (1 : Int) + (V0 : Int) + (C1 : Int) < 0 := by omega
  go_wp2_with fail
  refine (eqTableG _ _ na _ _ ta pa _ HSA.out (og_18.out.atW HSA.out) (oo_18.out.atW HSA.out)).mono ?_
  rintro e w19 ⟨rfl, hb19⟩
  have p00_19 := cell_later hb19 p00_18
  have p01_19 := cell_later hb19 p01_18
  have ov0_19 := cell_later hb19 ov0_18
  have ov1_19 := cell_later hb19 ov1_18
  have x0_19 := cell_later hb19 x0_18
  have x1_19 := cell_later hb19 x1_18
  have gv0_19 := cell_later hb19 gv0_18
  have gv1_19 := cell_later hb19 gv1_18
  have oo_19 := Hid.mk (OwnT.below oo_18.out hb19)
  have og_19 := Hid.mk (OwnT.below og_18.out hb19)
  have B_19 := B_18.trans (hb19.mono B_18.size)
  have zz19 : w18.heap.size ≤ w19.heap.size := hb19.size
  clear p00_18 p01_18 ov0_18 ov1_18 x0_18 x1_18 gv0_18 gv1_18 oo_18 og_18 B_18
  clear hb19
  go_wp2_with fail
  refine (markTableG (w9.heap.size) (w10.heap.size) _ _ _ ta pa 1 _ HSA.out (by omega) (by omega) og_19.out).mono ?_
  rintro e w20 ⟨rfl, ho20, hp20⟩
  rw [HG0.out]
  have og_20 := Hid.mk ho20
  have hg20 := Off.of_apart hp20
  clear ho20 hp20
  have p00_20 := hg20.cell p00_19 (show ¬ From (w9.heap.size) (w10.heap.size) (w.heap.size) from fun h => by have h1 := h.1; have h2 := h.2; omega)
  have p01_20 := hg20.cell p01_19 (show ¬ From (w9.heap.size) (w10.heap.size) (w.heap.size) from fun h => by have h1 := h.1; have h2 := h.2; omega)
  have ov0_20 := hg20.cell ov0_19 (show ¬ From (w9.heap.size) (w10.heap.size) (w5.heap.size) from fun h => by have h1 := h.1; have h2 := h.2; omega)
  have ov1_20 := hg20.cell ov1_19 (show ¬ From (w9.heap.size) (w10.heap.size) (w5.heap.size) from fun h => by have h1 := h.1; have h2 := h.2; omega)
  have x0_20 := hg20.cell x0_19 (show ¬ From (w9.heap.size) (w10.heap.size) (w7.heap.size) from fun h => by have h1 := h.1; have h2 := h.2; omega)
  have x1_20 := hg20.cell x1_19 (show ¬ From (w9.heap.size) (w10.heap.size) (w7.heap.size) from fun h => by have h1 := h.1; have h2 := h.2; omega)
  have gv0_20 := hg20.cell gv0_19 (show ¬ From (w9.heap.size) (w10.heap.size) (w10.heap.size) from fun h => by have h1 := h.1; have h2 := h.2; omega)
  have gv1_20 := hg20.cell gv1_19 (show ¬ From (w9.heap.size) (w10.heap.size) (w10.heap.size) from fun h => by have h1 := h.1; have h2 := h.2; omega)
  have oo_20 := Hid.mk (OwnT.apartW oo_19.out (Off.apart hg20) (by omega))
  have B_20 := B_19.trans (hg20.toBelow (by omega) B_19.size)
  have zz20 : w19.heap.size ≤ w20.heap.size := hg20.size
  clear p00_19 p01_19 ov0_19 ov1_19 x0_19 x1_19 gv0_19 gv1_19 oo_19 og_19 B_19
  clear hg20
  have gpos : ¬ (1 : Int) + (G0 : Int) < 0 := by omega
  go_wp2_with fail
  refine (heldTableG _ na _ ta pa 1 _ HSA.out (by omega) (by omega) (og_20.out.atMark HSA.out)).mono ?_
  rintro e w21 ⟨rfl, hb21⟩
  rw [HG0.out]
  have p00_21 := cell_later hb21 p00_20
  have p01_21 := cell_later hb21 p01_20
  have ov0_21 := cell_later hb21 ov0_20
  have ov1_21 := cell_later hb21 ov1_20
  have x0_21 := cell_later hb21 x0_20
  have x1_21 := cell_later hb21 x1_20
  have gv0_21 := cell_later hb21 gv0_20
  have gv1_21 := cell_later hb21 gv1_20
  have oo_21 := Hid.mk (OwnT.below oo_20.out hb21)
  have og_21 := Hid.mk (OwnT.below og_20.out hb21)
  have B_21 := B_20.trans (hb21.mono B_20.size)
  have zz21 : w20.heap.size ≤ w21.heap.size := hb21.size
  clear p00_20 p01_20 ov0_20 ov1_20 x0_20 x1_20 gv0_20 gv1_20 oo_20 og_20 B_20
  clear hb21
  go_wp2_with fail
  refine (toView_any sa0 sn0 sc0 pa0 pn0 pc0 ss0 xs0 _ hs0 hz0 HSM0.out (HA0.out.1.below B_21) (HA0.out.2.below B_21)).mono ?_
  rintro e w22 ⟨g22_1, g22_2, rfl, ho22, hb22⟩
  have ot_22 := Hid.mk ho22
  clear ho22
  have p00_22 := cell_later hb22 p00_21
  have p01_22 := cell_later hb22 p01_21
  have ov0_22 := cell_later hb22 ov0_21
  have ov1_22 := cell_later hb22 ov1_21
  have x0_22 := cell_later hb22 x0_21
  have x1_22 := cell_later hb22 x1_21
  have gv0_22 := cell_later hb22 gv0_21
  have gv1_22 := cell_later hb22 gv1_21
  have oo_22 := Hid.mk (OwnT.below oo_21.out hb22)
  have og_22 := Hid.mk (OwnT.below og_21.out hb22)
  have B_22 := B_21.trans (hb22.mono B_21.size)
  have zz22 : w21.heap.size ≤ w22.heap.size := hb22.size
  clear p00_21 p01_21 ov0_21 ov1_21 x0_21 x1_21 gv0_21 gv1_21 oo_21 og_21 B_21
  clear hb22
  go_wp2_with fail
  refine (toTableS_any a1 n1 c1 l1 _ HSU.out (HT1.out.below B_22)).mono ?_
  rintro e w23 ⟨g23, rfl, ho23, hb23⟩
  have ou_23 := Hid.mk ho23
  clear ho23
  have p00_23 := cell_later hb23 p00_22
  have p01_23 := cell_later hb23 p01_22
  have ov0_23 := cell_later hb23 ov0_22
  have ov1_23 := cell_later hb23 ov1_22
  have x0_23 := cell_later hb23 x0_22
  have x1_23 := cell_later hb23 x1_22
  have gv0_23 := cell_later hb23 gv0_22
  have gv1_23 := cell_later hb23 gv1_22
  have oo_23 := Hid.mk (OwnT.below oo_22.out hb23)
  have og_23 := Hid.mk (OwnT.below og_22.out hb23)
  have ot_23 := Hid.mk (RView.ownBelow ot_22.out hb23)
  have B_23 := B_22.trans (hb23.mono B_22.size)
  have zz23 : w22.heap.size ≤ w23.heap.size := hb23.size
  clear p00_22 p01_22 ov0_22 ov1_22 x0_22 x1_22 gv0_22 gv1_22 oo_22 og_22 ot_22 B_22
  clear hb23
  go_wp2_with fail
  refine (HI.out _ _ _ _ _ _ _ ot_23.out ou_23.out).mono ?_
  rintro e w24 ⟨⟨r24, m24, d24, cs24, rfl, ho24⟩, hb24⟩
  have ow24 : OwnT w24 (w23.heap.size) w24.heap.size r24 m24 d24 ta := ⟨cs24, ho24⟩
  obtain rfl : na = m24 := HNA.out.symm.trans ow24.len
  have oh_24 := Hid.mk ow24
  clear ho24 ow24
  clear ot_23 ou_23
  have p00_24 := cell_later hb24 p00_23
  have p01_24 := cell_later hb24 p01_23
  have ov0_24 := cell_later hb24 ov0_23
  have ov1_24 := cell_later hb24 ov1_23
  have x0_24 := cell_later hb24 x0_23
  have x1_24 := cell_later hb24 x1_23
  have gv0_24 := cell_later hb24 gv0_23
  have gv1_24 := cell_later hb24 gv1_23
  have oo_24 := Hid.mk (OwnT.below oo_23.out hb24)
  have og_24 := Hid.mk (OwnT.below og_23.out hb24)
  have B_24 := B_23.trans (hb24.mono B_23.size)
  have zz24 : w23.heap.size ≤ w24.heap.size := hb24.size
  clear p00_23 p01_23 ov0_23 ov1_23 x0_23 x1_23 gv0_23 gv1_23 oo_23 og_23 B_23
  clear hb24
  obtain ⟨w25, hU25⟩ : ∃ u, u = w24.alloc (.cells #[.int .i64 pa, .slice r24 na d24] 32) := ⟨_, rfl⟩
  have hb25 : Below w24.heap.size w24 w25 := by rw [hU25]; exact (Below.refl _ _).alloc (Nat.le_refl _) _
  have zl25 : w24.heap.size < w25.heap.size := by rw [hU25]; simp
  have nhv0 : w25.cell? ⟨w24.heap.size, 0, none⟩ = some (.int .i64 pa) := by rw [hU25]; simp
  have nhv1 : w25.cell? ⟨w24.heap.size, 1, none⟩ = some (.slice r24 na d24) := by rw [hU25]; simp
  have p00_25 := cell_later hb25 p00_24
  have p01_25 := cell_later hb25 p01_24
  have ov0_25 := cell_later hb25 ov0_24
  have ov1_25 := cell_later hb25 ov1_24
  have x0_25 := cell_later hb25 x0_24
  have x1_25 := cell_later hb25 x1_24
  have gv0_25 := cell_later hb25 gv0_24
  have gv1_25 := cell_later hb25 gv1_24
  have oo_25 := Hid.mk (OwnT.below oo_24.out hb25)
  have og_25 := Hid.mk (OwnT.below og_24.out hb25)
  have oh_25 := Hid.mk (OwnT.below oh_24.out hb25)
  have B_25 := B_24.trans (hb25.mono B_24.size)
  have zz25 : w24.heap.size ≤ w25.heap.size := hb25.size
  clear p00_24 p01_24 ov0_24 ov1_24 x0_24 x1_24 gv0_24 gv1_24 oo_24 og_24 oh_24 B_24
  clear hb25
  go_upto_region 32 with fail
  rw [← hU25]
  clear hU25
  go_wp2_with fail
  refine (eqTableG _ _ na _ _ ta pa _ HSA.out (oh_25.out.atW HSA.out) (oo_25.out.atW HSA.out)).mono ?_
  rintro e w26 ⟨rfl, hb26⟩
  have p00_26 := cell_later hb26 p00_25
  have p01_26 := cell_later hb26 p01_25
  have ov0_26 := cell_later hb26 ov0_25
  have ov1_26 := cell_later hb26 ov1_25
  have x0_26 := cell_later hb26 x0_25
  have x1_26 := cell_later hb26 x1_25
  have gv0_26 := cell_later hb26 gv0_25
  have gv1_26 := cell_later hb26 gv1_25
  have hv0_26 := cell_later hb26 nhv0
  have hv1_26 := cell_later hb26 nhv1
  have oo_26 := Hid.mk (OwnT.below oo_25.out hb26)
  have og_26 := Hid.mk (OwnT.below og_25.out hb26)
  have oh_26 := Hid.mk (OwnT.below oh_25.out hb26)
  have B_26 := B_25.trans (hb26.mono B_25.size)
  have zz26 : w25.heap.size ≤ w26.heap.size := hb26.size
  clear p00_25 p01_25 ov0_25 ov1_25 x0_25 x1_25 gv0_25 gv1_25 nhv0 nhv1 oo_25 og_25 oh_25 B_25
  clear hb26
  go_wp2_with fail
  refine (heldTableG _ na _ ta pa 1 _ HSA.out (by omega) (by omega) (og_26.out.atMark HSA.out)).mono ?_
  rintro e w27 ⟨rfl, hb27⟩
  rw [HG0.out]
  have p00_27 := cell_later hb27 p00_26
  have p01_27 := cell_later hb27 p01_26
  have ov0_27 := cell_later hb27 ov0_26
  have ov1_27 := cell_later hb27 ov1_26
  have x0_27 := cell_later hb27 x0_26
  have x1_27 := cell_later hb27 x1_26
  have gv0_27 := cell_later hb27 gv0_26
  have gv1_27 := cell_later hb27 gv1_26
  have hv0_27 := cell_later hb27 hv0_26
  have hv1_27 := cell_later hb27 hv1_26
  have oo_27 := Hid.mk (OwnT.below oo_26.out hb27)
  have og_27 := Hid.mk (OwnT.below og_26.out hb27)
  have oh_27 := Hid.mk (OwnT.below oh_26.out hb27)
  have B_27 := B_26.trans (hb27.mono B_26.size)
  have zz27 : w26.heap.size ≤ w27.heap.size := hb27.size
  clear p00_26 p01_26 ov0_26 ov1_26 x0_26 x1_26 gv0_26 gv1_26 hv0_26 hv1_26 oo_26 og_26 oh_26 B_26
  clear hb27
  go_wp2
  go_ret
  exact ⟨rfl, B_27⟩

end Go.Proofs.YthiabjkjpjmahaaGreat

/- Opening the laws' arguments: rows, slices of ints; plain facts on readings. -/
namespace Go.Proofs.YthiabjkjpjmahaaGreat
open Go.ChangeShapes Go.WideShapes Go.ChangeAt Go.RowKit Go.Joins Go.Deep

section
variable {H : Type} {enc : TypeId × Value → H} {P : Program} {w : World} {base : Nat} {spare : Nat → Bool} {held : Bool}

/-- A slice of ints that reads: its numbers. -/
theorem open_at {t e : TypeId} {fuel n c : Nat} {a : Option Addr} {x : DataW H × List MemPlace} (ht : P.underlying t = some (.slice e)) (he : P.underlying e = some (.int .i64)) (hC : P.cellsOf e = 1)
    (h : DataW.trod enc P w base spare held fuel t [.slice a n c] = some x) : ∃ zs : List Int, zs.length = n ∧ n ≤ 9223372036854775807 ∧ At w a zs := by
  rcases open_ints ht he hC h with ⟨hcs, _⟩ | ⟨ad, l, c', zs, hcs, _, hl, hm, hz, _, hcell, _⟩
  · simp at hcs
    obtain ⟨rfl, rfl, rfl⟩ := hcs
    exact ⟨[], rfl, by omega, At.nil _ _⟩
  · simp at hcs
    obtain ⟨rfl, rfl, rfl⟩ := hcs
    unfold maxLen at hm
    have hz' : n ≤ zs.length := by split at hz <;> omega
    refine ⟨zs.take n, by simp; omega, by omega, ?_⟩
    by_cases h0 : n = 0
    · left; simp [h0]
    · right
      obtain ⟨b, off, spot⟩ := ad
      have hc := hcell 0 (by omega)
      have hspot : spot = none := by simpa [Addr.add] using World.cell?_spot hc
      subst hspot
      refine ⟨b, off, rfl, fun i hi => ?_⟩
      have hin : i < n := by simp at hi; omega
      have := hcell i (by omega)
      rw [show (zs.take n).getD i 0 = zs.getD i 0 by simp [List.getD, hin]]
      rw [Addr.add_lit] at this
      exact this

end

end Go.Proofs.YthiabjkjpjmahaaGreat

/- Opening tables and slices of weighted rows among the laws' arguments. -/
namespace Go.Proofs.YthiabjkjpjmahaaGreat
open Go.ChangeShapes Go.WideShapes Go.ChangeAt Go.RowKit Go.Joins Go.Deep

section
variable {H : Type} {enc : TypeId × Value → H} {P : Program} {w : World} {base : Nat} {held : Bool}

theorem open_atW {t e q : TypeId} {f0 f1 g0 : Field} {fuel n c : Nat} {a : Option Addr} {x : DataW H × List MemPlace} (ht : P.underlying t = some (.slice e)) (he : P.underlying e = some (.struct #[f0, f1]))
    (ce : P.cellsOf e = 2) (o0 : f0.offset = 0) (o1 : f1.offset = 1) (c0 : P.cellsOf f0.type = 1) (c1 : P.cellsOf f1.type = 1) (hr : P.underlying f0.type = some (.struct #[g0])) (og : g0.offset = 0) (cg : P.cellsOf g0.type = 1)
    (hs : P.underlying g0.type = some (.slice q)) (hq : P.underlying q = some (.int .i64)) (cq : P.cellsOf q = 1) (hi : P.underlying f1.type = some (.int .i64))
    (h : DataW.trod enc P w base (fun _ => true) held fuel t [.slice a n c] = some x) : ∃ ts : List WRow, ts.length = n ∧ n ≤ 9223372036854775807 ∧ AtW w a ts := by
  rcases open_slice_pairs ht he ce o0 o1 c0 c1 h with ⟨hcs, _⟩ | ⟨ad, len, cap, m, k, V0, V1, D0, D1, P0, P1, hcs, _, hl, hm, hmm, _, hx⟩
  · simp at hcs
    obtain ⟨rfl, rfl, rfl⟩ := hcs
    exact ⟨[], rfl, by omega, .inl rfl⟩
  · simp at hcs
    obtain ⟨rfl, rfl, rfl⟩ := hcs
    simp only [if_true] at hmm
    subst hmm
    unfold maxLen at hm
    have each : ∀ i, i < n → ∃ y : Option Addr × Nat × List Int × Int, V0 i = .slice y.1 y.2.2.1.length y.2.1 ∧ V1 i = .int .i64 y.2.2.2 ∧ y.2.2.1.length ≤ 9223372036854775807 ∧ At w y.1 y.2.2.1 := by
      intro i hi'
      obtain ⟨_, _, r0, r1⟩ := hx i (by omega)
      obtain ⟨z, hz1, _, _⟩ := DataW.trod_int hi r1
      obtain ⟨y0, k', _, _, s0⟩ := trod_struct1 hr r0
      rw [og, cg] at s0
      simp only [List.drop_zero, List.take_succ_cons, List.take_zero] at s0
      obtain ⟨a', n', c', hc'⟩ := slice_form hs s0
      simp only [List.cons.injEq, and_true] at hc'
      rw [hc'] at s0
      obtain ⟨zs, hzl, hzn, hat⟩ := open_at hs hq cq s0
      exact ⟨(a', c', zs, z), by rw [hc', hzl], by simpa using hz1, by rw [hzl]; exact hzn, hat⟩
    obtain ⟨y, hy⟩ := choose_lt each
    refine ⟨(List.range n).map fun i => ((y i).2.2.1, (y i).2.2.2), by simp, by omega, ?_⟩
    by_cases h0 : n = 0
    · left; simp [h0]
    · right
      obtain ⟨b, off, spot⟩ := ad
      have hc0 := (hx 0 (by omega)).1
      have hspot : spot = none := by simpa [Addr.add] using World.cell?_spot hc0
      subst hspot
      refine ⟨b, off, rfl, fun i hi' => ?_⟩
      have hin : i < n := by simpa using hi'
      obtain ⟨k1, k2, _, _⟩ := hx i (by omega)
      obtain ⟨e1, e2, e3, e4⟩ := hy i hin
      have hw : wat ((List.range n).map fun i => ((y i).2.2.1, (y i).2.2.2)) i = ((y i).2.2.1, (y i).2.2.2) := by simp [wat, List.getD, hin]
      rw [hw]
      rw [Addr.add_lit] at k1 k2
      rw [e1] at k1
      rw [e2] at k2
      exact ⟨(y i).1, (y i).2.1, k1, k2, e3, e4⟩

end

end Go.Proofs.YthiabjkjpjmahaaGreat
