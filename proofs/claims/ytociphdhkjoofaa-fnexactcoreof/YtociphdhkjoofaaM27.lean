/- Several texts of one proof, in build order: CoU, LawCoreOf. -/
import Derived.Test.YtociphdhkjoofaaM24
import Derived.Test.YtociphdhkjoofaaM26
import Derived.Test.YtociphdhkjoofaaM5
import Derived.Test.YtociphdhkjoofaaM4

/- What is told of a question's core is small. -/
namespace Go.Proofs.Ytociphdhkjoofaa
open Go.RowKit

theorem asum_le {zs : List Atm} (h : ∀ x ∈ zs, x.2.length ≤ 6) : ∀ k, k ≤ zs.length → asum zs k ≤ 6 * k
  | 0, _ => by rw [asum_zero]; omega
  | k + 1, hk => by
    have hx : zs[k]? = some zs[k] := List.getElem?_eq_getElem (by omega)
    have h1 := asum_le h k (by omega)
    have h2 := asum_succ hx
    have h3 := h zs[k] (List.getElem_mem ..)
    have h4 : acost zs[k] = zs[k].2.length := rfl
    omega
theorem cr_small (hs : List Int) (zs : List Atm) (ts : List Int) : qcost (crH hs zs ts, crZ hs zs ts) ≤ 1048576 := by
  unfold crH crZ
  split
  · rename_i h
    have hh : hs.length ≤ 6 := by
      have h9 := h
      simp only [gqB, Bool.and_eq_true, decide_eq_true_eq] at h9
      exact h9.1.1.1.2
    have hg := coreF_good (hs := hs) (ts := ts) zs.length zs 0 h
    have h5 := gq_five hg
    have h1 := (gq_parts hg).2.2.1
    simp only [qvB, Bool.and_eq_true, decide_eq_true_eq, List.all_eq_true] at h1
    have hv : ∀ x ∈ coreF hs ts zs.length zs 0, x.2.length ≤ 6 := fun x hx => by
      have h2 := h1.2 x hx
      simp only [aOk, Bool.and_eq_true, decide_eq_true_eq] at h2
      omega
    have h6 := asum_le hv _ (Nat.le_refl _)
    unfold qcost
    simp only
    omega
  · decide
theorem qry_lens {w : World} {F : Nat → Prop} {fa : Option Addr} {fn fc : Nat} {ta : Option Addr} {tn tc : Nat} {x : Qry} (h : RQry.Own w F [.slice fa fn fc, .slice ta tn tc] x) : x.1.length = fn ∧ x.2.length = tn :=
  ⟨(RQry.at_iff (RQry.toAt h)).1.1, (RQry.at_iff (RQry.toAt h)).2.1⟩
theorem qry_marked {w : World} {F : Nat → Prop} {fa : Option Addr} {fn fc : Nat} {ta : Option Addr} {tn tc : Nat} {hs : List Int} {zs : List Atm} {na : Nat} {m : Int} (hn : hs.length = na) (h : RQry.Own w F [.slice fa fn fc, .slice ta tn tc] (mkQry m (hs, zs))) : AtQ w ta (mkAtms (m + (na : Int)) zs) := by
  have h9 := (qry_at h).2
  rw [← hn]
  exact h9

end Go.Proofs.Ytociphdhkjoofaa

/- The law FnExactCoreOf returns true at every input, and writes nothing that was there. -/
namespace Go.Proofs.Ytociphdhkjoofaa
open Go.RowKit

set_option maxRecDepth 100000 in
set_option maxHeartbeats 16000000 in
theorem lawCoreOf (fa0 : Option Addr) (fn0 fc0 : Nat) (ta0 : Option Addr) (tn0 tc0 : Nat) (z0 : Qry) (a1 : Option Addr) (n1 c1 : Nat) (z1 : List Int) (w : World) (ha0 : RQry.At w [.slice fa0 fn0 fc0, .slice ta0 tn0 tc0] z0) (hz1 : z1.length = n1) (hn1 : n1 ≤ 9223372036854775807) (ha1 : At w a1 z1) :
    Calls Try.prog 3 #[.agg #[.slice fa0 fn0 fc0, .slice ta0 tn0 tc0], .slice a1 n1 c1] w fun e w' => e = .returned (.bool true) ∧ Below w.heap.size w w' := by
  obtain ⟨zf0, zt0⟩ := z0
  obtain ⟨⟨h10, h20, h30, _⟩, ⟨k10, k20, k30, _⟩⟩ := RQry.at_iff ha0
  have HA0 := Hid.mk (And.intro h30 k30)
  have HZ0 : Hid (zf0.length = fn0 ∧ zt0.length = tn0) := ⟨h10, k10⟩
  clear ha0 h10 h30 k10 k30
  have HA1 := Hid.mk ha1
  have HZ1 := Hid.mk hz1
  clear ha1 hz1
  obtain ⟨W, hW⟩ : ∃ W, W = w.alloc (.cells #[.slice fa0 fn0 fc0, .slice ta0 tn0 tc0] 25) := ⟨_, rfl⟩
  have B0 : Below w.heap.size w W := by rw [hW]; exact (Below.refl _ _).alloc (Nat.le_refl _) _
  have zW : w.heap.size < W.heap.size := by rw [hW]; simp
  have p00_0 : W.cell? ⟨w.heap.size, 0, none⟩ = some (.slice fa0 fn0 fc0) := by rw [hW]; simp
  have p01_0 : W.cell? ⟨w.heap.size, 1, none⟩ = some (.slice ta0 tn0 tc0) := by rw [hW]; simp
  by_cases big1 : 1048576 < n1
  · have big1' : (1048576 : Int) < (n1 : Int) := by omega
    go_enter Try.func3, Try.ntmps3
    go_wp2
    go_ret
    exact ⟨rfl, by rw [← hW]; exact B0⟩
  have hb1' : ¬ (1048576 : Int) < (n1 : Int) := by omega
  have hsn1 : n1 ≤ 1048576 := by omega
  have HVB1 := hsn1
  obtain ⟨C0, hC0⟩ : ∃ C : Nat, qcost (zf0, zt0) = C := ⟨_, rfl⟩
  have HC0 := Hid.mk hC0
  clear hC0
  by_cases big0 : (1048576 : Int) < (C0 : Int)
  · go_enter Try.func3, Try.ntmps3
    go_wp2_with fail
    rw [← hW]
    clear hW
    refine (szQuery_any fa0 fn0 fc0 ta0 tn0 tc0 zf0 zt0 _ _ HZ0.out.1 h20 HZ0.out.2 k20 (by omega) (by omega) (AtSl.below HA0.out.2 B0)).mono ?_
    rintro e v0 ⟨rfl, hv0⟩
    rw [HC0.out, leftOf_no big0]
    have y0 := B0.trans (hv0.mono B0.size)
    go_wp2
    go_ret
    exact ⟨rfl, y0⟩
  have hl0 : ¬ (1048576 : Int) - (C0 : Int) < 0 := by omega
  have HSM0 : Hid (fn0 ≤ 1048576 ∧ SmA zt0 tn0 ∧ qmk (zf0, zt0) ≤ 1048576) := qry_small HZ0.out.1 HZ0.out.2 (by have := HC0.out; omega)
  have hs10 := HSM0.out.1
  have hs20 : tn0 ≤ 1048576 := HSM0.out.2.1.n
  have HVB0 := HSM0.out.2.2
  obtain ⟨V0, hV0⟩ : ∃ V : Nat, qmk (zf0, zt0) = V := ⟨_, rfl⟩
  rw [hV0] at HVB0
  have HV0 := Hid.mk hV0
  clear hV0
  have HEV : Hid (∀ x ∈ zt0, x.2.length ≤ 1048576) := Hid.mk (fun x hx => by obtain ⟨j, hj, rfl⟩ := List.mem_iff_getElem.1 hx; exact HSM0.out.2.1.each (List.getElem?_eq_getElem hj))
  have HCS := Hid.mk (cr_small zf0 zt0 z1)
  obtain ⟨ok, ha, za, hsA, HS, HI⟩ : ∃ (ok : Bool) (ha : List Int) (za : List Atm), qcost (ha, za) ≤ 1048576 ∧ Hid (∀ (x0 y0 : Nat) (x1 : Nat) (w : World) (F0 F1 : Nat → Prop), RQry.Own w F0 [.slice (some ⟨x0, 0, none⟩) fn0 fn0, .slice (some ⟨y0, 0, none⟩) tn0 tn0] (zf0, zt0) → RInts.Own w F1 [.slice (some ⟨x1, 0, none⟩) n1 n1] z1 → Calls Try.prog 7 #[.agg #[.slice (some ⟨x0, 0, none⟩) fn0 fn0, .slice (some ⟨y0, 0, none⟩) tn0 tn0], .slice (some ⟨x1, 0, none⟩) n1 n1] w fun e w' => QryRet e w' w.heap.size ok ha za ∧ Below w.heap.size w w') ∧ Hid (∀ (x0 y0 : Nat) (x1 : Nat) (w : World) (F0 F1 : Nat → Prop), RQry.Own w F0 [.slice (some ⟨x0, 0, none⟩) fn0 fn0, .slice (some ⟨y0, 0, none⟩) tn0 tn0] (zf0, zt0) → RInts.Own w F1 [.slice (some ⟨x1, 0, none⟩) n1 n1] z1 → Calls Try.prog 10 #[.agg #[.slice (some ⟨x0, 0, none⟩) fn0 fn0, .slice (some ⟨y0, 0, none⟩) tn0 tn0], .slice (some ⟨x1, 0, none⟩) n1 n1] w fun e w' => QryRet e w' w.heap.size ok ha za ∧ Below w.heap.size w w') := ⟨gqB zf0 zt0 z1, crH zf0 zt0 z1, crZ zf0 zt0 z1, HCS.out, fun x0 y0 x1 w F0 F1 o0 o1 => specCoreOf (some ⟨x0, 0, none⟩) fn0 fn0 zf0 (some ⟨y0, 0, none⟩) tn0 tn0 zt0 (some ⟨x1, 0, none⟩) n1 n1 z1 w HZ0.out.1 hs10 (fun h => by cases h) (qry_at o0).1 HZ0.out.2 hs20 HEV.out (qry_at o0).2 HZ1.out hn1 (ints_at o1), fun x0 y0 x1 w F0 F1 o0 o1 => implCoreOf (some ⟨x0, 0, none⟩) fn0 fn0 zf0 (some ⟨y0, 0, none⟩) tn0 tn0 zt0 (some ⟨x1, 0, none⟩) n1 n1 z1 w HZ0.out.1 hs10 (fun h => by cases h) (qry_at o0).1 HZ0.out.2 hs20 HEV.out (qry_at o0).2 HZ1.out hn1 (ints_at o1)⟩
  obtain ⟨na, hna⟩ : ∃ na, ha.length = na := ⟨_, rfl⟩
  obtain ⟨nb, hnb⟩ : ∃ nb, za.length = nb := ⟨_, rfl⟩
  have HSA : Hid (na ≤ 1048576 ∧ SmA za nb ∧ qmk (ha, za) ≤ 1048576) := Hid.mk (qry_small hna hnb hsA)
  have hnA := HSA.out.1
  have hnB : nb ≤ 1048576 := HSA.out.2.1.n
  have hvA := HSA.out.2.2
  obtain ⟨VA, hVA⟩ : ∃ V : Nat, qmk (ha, za) = V := ⟨_, rfl⟩
  rw [hVA] at hvA
  have HVA := Hid.mk hVA
  have HNA := Hid.mk hna
  have HNB := Hid.mk hnb
  clear hna hnb hVA hsA
  go_enter Try.func3, Try.ntmps3
  go_wp2_with fail
  rw [← hW]
  clear hW
  refine (szQuery_any fa0 fn0 fc0 ta0 tn0 tc0 zf0 zt0 _ _ HZ0.out.1 h20 HZ0.out.2 k20 (by omega) (by omega) (AtSl.below HA0.out.2 B0)).mono ?_
  rintro e w1 ⟨rfl, hb1⟩
  rw [HC0.out, leftOf_yes (by omega)]
  have p00_1 := cell_later hb1 p00_0
  have p01_1 := cell_later hb1 p01_0
  have B_1 := B0.trans (hb1.mono B0.size)
  have zz1 : W.heap.size ≤ w1.heap.size := hb1.size
  clear p00_0 p01_0
  clear hb1
  go_wp2_with fail
  refine (toQuery_any fa0 fn0 fc0 ta0 tn0 tc0 zf0 zt0 _ HZ0.out.1 HZ0.out.2 hs10 hs20 (fun _ _ h => HSM0.out.2.1.each h) (At.below HA0.out.1 B_1) (AtSl.below HA0.out.2 B_1)).mono ?_
  rintro e w2 ⟨g2_1, g2_2, rfl, ho2, hb2⟩
  have ot0_2 := Hid.mk ho2
  clear ho2
  have p00_2 := cell_later hb2 p00_1
  have p01_2 := cell_later hb2 p01_1
  have B_2 := B_1.trans (hb2.mono B_1.size)
  have zz2 : w1.heap.size ≤ w2.heap.size := hb2.size
  clear p00_1 p01_1 B_1
  clear hb2
  go_wp2_with fail
  refine (toInts_rep a1 n1 c1 z1 _ HZ1.out hsn1 (At.below HA1.out B_2)).mono ?_
  rintro e w3 ⟨g3, rfl, ho3, hb3⟩
  have ot1_3 := Hid.mk ho3
  clear ho3
  have p00_3 := cell_later hb3 p00_2
  have p01_3 := cell_later hb3 p01_2
  have ot0_3 := Hid.mk (RQry.ownBelow ot0_2.out hb3)
  have B_3 := B_2.trans (hb3.mono B_2.size)
  have zz3 : w2.heap.size ≤ w3.heap.size := hb3.size
  clear p00_2 p01_2 ot0_2 B_2
  clear hb3
  go_wp2_with fail
  refine (HS.out _ _ _ _ _ _ ot0_3.out ot1_3.out).mono ?_
  rintro e w4 ⟨⟨rA4, mA4, dA4, rB4, mB4, dB4, rfl, ho4⟩, hb4⟩
  clear ot0_3
  clear ot1_3
  obtain rfl : na = mA4 := HNA.out.symm.trans (qry_lens ho4).1
  obtain rfl : nb = mB4 := HNB.out.symm.trans (qry_lens ho4).2
  have oo_4 := Hid.mk ho4
  clear ho4
  have p00_4 := cell_later hb4 p00_3
  have p01_4 := cell_later hb4 p01_3
  have B_4 := B_3.trans (hb4.mono B_3.size)
  have zz4 : w3.heap.size ≤ w4.heap.size := hb4.size
  clear p00_3 p01_3 B_3
  clear hb4
  obtain ⟨w5, hU5⟩ : ∃ u, u = w4.alloc (.cells #[.slice rA4 na dA4, .slice rB4 nb dB4] 29) := ⟨_, rfl⟩
  have hb5 : Below w4.heap.size w4 w5 := by rw [hU5]; exact (Below.refl _ _).alloc (Nat.le_refl _) _
  have zl5 : w4.heap.size < w5.heap.size := by rw [hU5]; simp
  have nWt0 : w5.cell? ⟨w4.heap.size, 0, none⟩ = some (.slice rA4 na dA4) := by rw [hU5]; simp
  have nWt1 : w5.cell? ⟨w4.heap.size, 1, none⟩ = some (.slice rB4 nb dB4) := by rw [hU5]; simp
  have p00_5 := cell_later hb5 p00_4
  have p01_5 := cell_later hb5 p01_4
  have oo_5 := Hid.mk (RQry.ownBelow oo_4.out hb5)
  have B_5 := B_4.trans (hb5.mono B_4.size)
  have zz5 : w4.heap.size ≤ w5.heap.size := hb5.size
  clear p00_4 p01_4 oo_4 B_4
  clear hb5
  have xp00 := p00_5
  rw [hU5] at xp00
  have xp01 := p01_5
  rw [hU5] at xp01
  have xWt0 := nWt0
  rw [hU5] at xWt0
  have xWt1 := nWt1
  rw [hU5] at xWt1
  go_wp2_with fail
  rw [← hU5]
  clear hU5
  clear xp00 xp01 xWt0 xWt1
  refine (toQuery_any fa0 fn0 fc0 ta0 tn0 tc0 zf0 zt0 _ HZ0.out.1 HZ0.out.2 hs10 hs20 (fun _ _ h => HSM0.out.2.1.each h) (At.below HA0.out.1 B_5) (AtSl.below HA0.out.2 B_5)).mono ?_
  rintro e w6 ⟨g6_1, g6_2, rfl, ho6, hb6⟩
  have ox0_6 := Hid.mk ho6
  clear ho6
  have p00_6 := cell_later hb6 p00_5
  have p01_6 := cell_later hb6 p01_5
  have Wt0_6 := cell_later hb6 nWt0
  have Wt1_6 := cell_later hb6 nWt1
  have oo_6 := Hid.mk (RQry.ownBelow oo_5.out hb6)
  have B_6 := B_5.trans (hb6.mono B_5.size)
  have zz6 : w5.heap.size ≤ w6.heap.size := hb6.size
  clear p00_5 p01_5 nWt0 nWt1 oo_5 B_5
  clear hb6
  obtain ⟨w7, hU7⟩ : ∃ u, u = w6.alloc (.cells #[.slice (some ⟨g6_1, 0, none⟩) fn0 fn0, .slice (some ⟨g6_2, 0, none⟩) tn0 tn0] 29) := ⟨_, rfl⟩
  have hb7 : Below w6.heap.size w6 w7 := by rw [hU7]; exact (Below.refl _ _).alloc (Nat.le_refl _) _
  have zl7 : w6.heap.size < w7.heap.size := by rw [hU7]; simp
  have nX00 : w7.cell? ⟨w6.heap.size, 0, none⟩ = some (.slice (some ⟨g6_1, 0, none⟩) fn0 fn0) := by rw [hU7]; simp
  have nX01 : w7.cell? ⟨w6.heap.size, 1, none⟩ = some (.slice (some ⟨g6_2, 0, none⟩) tn0 tn0) := by rw [hU7]; simp
  have p00_7 := cell_later hb7 p00_6
  have p01_7 := cell_later hb7 p01_6
  have Wt0_7 := cell_later hb7 Wt0_6
  have Wt1_7 := cell_later hb7 Wt1_6
  have oo_7 := Hid.mk (RQry.ownBelow oo_6.out hb7)
  have ox0_7 := Hid.mk (RQry.ownBelow ox0_6.out hb7)
  have B_7 := B_6.trans (hb7.mono B_6.size)
  have zz7 : w6.heap.size ≤ w7.heap.size := hb7.size
  clear p00_6 p01_6 Wt0_6 Wt1_6 oo_6 ox0_6 B_6
  clear hb7
  have xp00 := p00_7
  rw [hU7] at xp00
  have xp01 := p01_7
  rw [hU7] at xp01
  have xWt0 := Wt0_7
  rw [hU7] at xWt0
  have xWt1 := Wt1_7
  rw [hU7] at xWt1
  have xX00 := nX00
  rw [hU7] at xX00
  have xX01 := nX01
  rw [hU7] at xX01
  go_wp2_with fail
  rw [← hU7]
  clear hU7
  clear xp00 xp01 xWt0 xWt1 xX00 xX01
  refine (toInts_rep a1 n1 c1 z1 _ HZ1.out hsn1 (At.below HA1.out B_7)).mono ?_
  rintro e w8 ⟨g8, rfl, ho8, hb8⟩
  have ox1_8 := Hid.mk ho8
  clear ho8
  have p00_8 := cell_later hb8 p00_7
  have p01_8 := cell_later hb8 p01_7
  have Wt0_8 := cell_later hb8 Wt0_7
  have Wt1_8 := cell_later hb8 Wt1_7
  have X00_8 := cell_later hb8 nX00
  have X01_8 := cell_later hb8 nX01
  have oo_8 := Hid.mk (RQry.ownBelow oo_7.out hb8)
  have ox0_8 := Hid.mk (RQry.ownBelow ox0_7.out hb8)
  have B_8 := B_7.trans (hb8.mono B_7.size)
  have zz8 : w7.heap.size ≤ w8.heap.size := hb8.size
  clear p00_7 p01_7 Wt0_7 Wt1_7 nX00 nX01 oo_7 ox0_7 B_7
  clear hb8
  go_wp2_with fail
  refine (HI.out _ _ _ _ _ _ ox0_8.out ox1_8.out).mono ?_
  rintro e w9 ⟨⟨rA9, mA9, dA9, rB9, mB9, dB9, rfl, ho9⟩, hb9⟩
  obtain rfl : na = mA9 := HNA.out.symm.trans (qry_lens ho9).1
  obtain rfl : nb = mB9 := HNB.out.symm.trans (qry_lens ho9).2
  have og_9 := Hid.mk ho9
  clear ho9
  have p00_9 := cell_later hb9 p00_8
  have p01_9 := cell_later hb9 p01_8
  have Wt0_9 := cell_later hb9 Wt0_8
  have Wt1_9 := cell_later hb9 Wt1_8
  have X00_9 := cell_later hb9 X00_8
  have X01_9 := cell_later hb9 X01_8
  have oo_9 := Hid.mk (RQry.ownBelow oo_8.out hb9)
  have ox0_9 := Hid.mk (RQry.ownBelow ox0_8.out hb9)
  have ox1_9 := Hid.mk (RInts.ownBelow ox1_8.out hb9)
  have B_9 := B_8.trans (hb9.mono B_8.size)
  have zz9 : w8.heap.size ≤ w9.heap.size := hb9.size
  clear p00_8 p01_8 Wt0_8 Wt1_8 X00_8 X01_8 oo_8 ox0_8 ox1_8 B_8
  clear hb9
  obtain ⟨w10, hU10⟩ : ∃ u, u = w9.alloc (.cells #[.slice rA9 na dA9, .slice rB9 nb dB9] 29) := ⟨_, rfl⟩
  have hb10 : Below w9.heap.size w9 w10 := by rw [hU10]; exact (Below.refl _ _).alloc (Nat.le_refl _) _
  have zl10 : w9.heap.size < w10.heap.size := by rw [hU10]; simp
  have nGt0 : w10.cell? ⟨w9.heap.size, 0, none⟩ = some (.slice rA9 na dA9) := by rw [hU10]; simp
  have nGt1 : w10.cell? ⟨w9.heap.size, 1, none⟩ = some (.slice rB9 nb dB9) := by rw [hU10]; simp
  have p00_10 := cell_later hb10 p00_9
  have p01_10 := cell_later hb10 p01_9
  have Wt0_10 := cell_later hb10 Wt0_9
  have Wt1_10 := cell_later hb10 Wt1_9
  have X00_10 := cell_later hb10 X00_9
  have X01_10 := cell_later hb10 X01_9
  have oo_10 := Hid.mk (RQry.ownBelow oo_9.out hb10)
  have ox0_10 := Hid.mk (RQry.ownBelow ox0_9.out hb10)
  have ox1_10 := Hid.mk (RInts.ownBelow ox1_9.out hb10)
  have og_10 := Hid.mk (RQry.ownBelow og_9.out hb10)
  have B_10 := B_9.trans (hb10.mono B_9.size)
  have zz10 : w9.heap.size ≤ w10.heap.size := hb10.size
  clear p00_9 p01_9 Wt0_9 Wt1_9 X00_9 X01_9 oo_9 ox0_9 ox1_9 og_9 B_9
  clear hb10
  have xp00 := p00_10
  rw [hU10] at xp00
  have xp01 := p01_10
  rw [hU10] at xp01
  have xWt0 := Wt0_10
  rw [hU10] at xWt0
  have xWt1 := Wt1_10
  rw [hU10] at xWt1
  have xX00 := X00_10
  rw [hU10] at xX00
  have xX01 := X01_10
  rw [hU10] at xX01
  have xGt0 := nGt0
  rw [hU10] at xGt0
  have xGt1 := nGt1
  rw [hU10] at xGt1
  go_wp2_with fail
  rw [← hU10]
  clear hU10
  clear xp00 xp01 xWt0 xWt1 xX00 xX01 xGt0 xGt1
  refine (eqQuery_same _ _ na _ _ _ _ nb _ _ ha za _ HNA.out HNB.out hnA hnB (fun _ _ h => HSA.out.2.1.each h) (qry_at og_10.out).1 (qry_at og_10.out).2 (qry_at oo_10.out).1 (qry_at oo_10.out).2).mono ?_
  rintro e w11 ⟨rfl, hb11⟩
  have p00_11 := cell_later hb11 p00_10
  have p01_11 := cell_later hb11 p01_10
  have Wt0_11 := cell_later hb11 Wt0_10
  have Wt1_11 := cell_later hb11 Wt1_10
  have X00_11 := cell_later hb11 X00_10
  have X01_11 := cell_later hb11 X01_10
  have Gt0_11 := cell_later hb11 nGt0
  have Gt1_11 := cell_later hb11 nGt1
  have oo_11 := Hid.mk (RQry.ownBelow oo_10.out hb11)
  have ox0_11 := Hid.mk (RQry.ownBelow ox0_10.out hb11)
  have ox1_11 := Hid.mk (RInts.ownBelow ox1_10.out hb11)
  have og_11 := Hid.mk (RQry.ownBelow og_10.out hb11)
  have B_11 := B_10.trans (hb11.mono B_10.size)
  have zz11 : w10.heap.size ≤ w11.heap.size := hb11.size
  clear p00_10 p01_10 Wt0_10 Wt1_10 X00_10 X01_10 nGt0 nGt1 oo_10 ox0_10 ox1_10 og_10 B_10
  clear hb11
  go_wp2_with fail
  refine wp_region_held_drew (S := fun w' => w'.cell? ⟨w6.heap.size, 0, none⟩ = some (.slice (some ⟨g6_1, 0, none⟩) fn0 fn0) ∧ w'.cell? ⟨w6.heap.size, 1, none⟩ = some (.slice (some ⟨g6_2, 0, none⟩) tn0 tn0) ∧ w'.cell? ⟨w.heap.size, 0, none⟩ = some (.slice fa0 fn0 fc0) ∧ w'.cell? ⟨w.heap.size, 1, none⟩ = some (.slice ta0 tn0 tc0)) (by kernel_rfl) ?_ (fun hHeld => ?_)
  · (try dsimp only)
    exact ⟨X00_11, X01_11, p00_11, p01_11⟩
  refine tk 0 ?_
  refine tk 1 ?_
  refine wpAnyH_ready (rs := [2]) (by kernel_rfl) (by simp) ?_
  refine AllReadyH.cons (o := ?_) ?_ (fun K hK => ?_) AllReadyH.nil
  rotate_left
  · (simp only [List.getElem?_toArray, List.getElem?_cons_zero, List.getElem?_cons_succ]; rfl)
  go_simp
  go_at_call 8
  refine (toQuery_any fa0 fn0 fc0 ta0 tn0 tc0 zf0 zt0 _ HZ0.out.1 HZ0.out.2 hs10 hs20 (fun _ _ h => HSM0.out.2.1.each h) (At.below HA0.out.1 B_11.drew) (AtSl.below HA0.out.2 B_11.drew)).mono ?_
  rintro e w12 ⟨g12_1, g12_2, rfl, ho12, hd12⟩
  have hb12 : Below w11.heap.size w11 w12 := (Below.refl _ _).drew.trans hd12
  clear hd12
  have oy_12 := Hid.mk ho12
  clear ho12
  have p00_12 := cell_later hb12 p00_11
  have p01_12 := cell_later hb12 p01_11
  have Wt0_12 := cell_later hb12 Wt0_11
  have Wt1_12 := cell_later hb12 Wt1_11
  have X00_12 := cell_later hb12 X00_11
  have X01_12 := cell_later hb12 X01_11
  have Gt0_12 := cell_later hb12 Gt0_11
  have Gt1_12 := cell_later hb12 Gt1_11
  have oo_12 := Hid.mk (RQry.ownBelow oo_11.out hb12)
  have ox0_12 := Hid.mk (RQry.ownBelow ox0_11.out hb12)
  have ox1_12 := Hid.mk (RInts.ownBelow ox1_11.out hb12)
  have og_12 := Hid.mk (RQry.ownBelow og_11.out hb12)
  have B_12 := B_11.trans (hb12.mono B_11.size)
  have zz12 : w11.heap.size ≤ w12.heap.size := hb12.size
  clear p00_11 p01_11 Wt0_11 Wt1_11 X00_11 X01_11 Gt0_11 Gt1_11 oo_11 ox0_11 ox1_11 og_11 B_11
  clear hb12
  (try go_wp2_with fail)
  refine hK.out _ _ ?_ (fun hHeld' => ?_)
  · (try dsimp only)
    exact ⟨X00_12, X01_12, p00_12, p01_12⟩
  clear hK K hHeld
  have hHeld := hHeld'
  clear hHeld'
  (try simp only [Act.put, List.setIfInBounds_toArray, List.set_cons_zero, List.set_cons_succ])
  refine wpAnyH_ready (rs := [3]) (by kernel_rfl) (by simp) ?_
  refine AllReadyH.cons (o := ?_) ?_ (fun K hK => ?_) AllReadyH.nil
  rotate_left
  · (simp only [List.getElem?_toArray, List.getElem?_cons_zero, List.getElem?_cons_succ]; rfl)
  go_simp
  go_at_call 11
  refine (eqQuery_same _ _ fn0 _ _ _ _ tn0 _ _ zf0 zt0 _ HZ0.out.1 HZ0.out.2 hs10 hs20 (fun _ _ h => HSM0.out.2.1.each h) (qry_at ox0_12.out).1 (qry_at ox0_12.out).2 (qry_at oy_12.out).1 (qry_at oy_12.out).2).mono ?_
  rintro e w13 ⟨rfl, hb13⟩
  clear oy_12
  have p00_13 := cell_later hb13 p00_12
  have p01_13 := cell_later hb13 p01_12
  have Wt0_13 := cell_later hb13 Wt0_12
  have Wt1_13 := cell_later hb13 Wt1_12
  have X00_13 := cell_later hb13 X00_12
  have X01_13 := cell_later hb13 X01_12
  have Gt0_13 := cell_later hb13 Gt0_12
  have Gt1_13 := cell_later hb13 Gt1_12
  have oo_13 := Hid.mk (RQry.ownBelow oo_12.out hb13)
  have ox0_13 := Hid.mk (RQry.ownBelow ox0_12.out hb13)
  have ox1_13 := Hid.mk (RInts.ownBelow ox1_12.out hb13)
  have og_13 := Hid.mk (RQry.ownBelow og_12.out hb13)
  have B_13 := B_12.trans (hb13.mono B_12.size)
  have zz13 : w12.heap.size ≤ w13.heap.size := hb13.size
  clear p00_12 p01_12 Wt0_12 Wt1_12 X00_12 X01_12 Gt0_12 Gt1_12 oo_12 ox0_12 ox1_12 og_12 B_12
  clear hb13
  (try go_wp2_with fail)
  refine hK.out _ _ ?_ (fun hHeld' => ?_)
  · (try dsimp only)
    exact ⟨X00_13, X01_13, p00_13, p01_13⟩
  clear hK K hHeld
  have hHeld := hHeld'
  clear hHeld'
  (try simp only [Act.put, List.setIfInBounds_toArray, List.set_cons_zero, List.set_cons_succ])
  refine tk 4 ?_
  refine wpAnyH_done (by kernel_rfl) ?_ _
  clear hHeld
  go_wp2_with fail
  refine (toInts_rep a1 n1 c1 z1 _ HZ1.out hsn1 (At.below HA1.out B_13)).mono ?_
  rintro e w14 ⟨g14, rfl, ho14, hb14⟩
  have oy_14 := Hid.mk ho14
  clear ho14
  have p00_14 := cell_later hb14 p00_13
  have p01_14 := cell_later hb14 p01_13
  have Wt0_14 := cell_later hb14 Wt0_13
  have Wt1_14 := cell_later hb14 Wt1_13
  have X00_14 := cell_later hb14 X00_13
  have X01_14 := cell_later hb14 X01_13
  have Gt0_14 := cell_later hb14 Gt0_13
  have Gt1_14 := cell_later hb14 Gt1_13
  have oo_14 := Hid.mk (RQry.ownBelow oo_13.out hb14)
  have ox0_14 := Hid.mk (RQry.ownBelow ox0_13.out hb14)
  have ox1_14 := Hid.mk (RInts.ownBelow ox1_13.out hb14)
  have og_14 := Hid.mk (RQry.ownBelow og_13.out hb14)
  have B_14 := B_13.trans (hb14.mono B_13.size)
  have zz14 : w13.heap.size ≤ w14.heap.size := hb14.size
  clear p00_13 p01_13 Wt0_13 Wt1_13 X00_13 X01_13 Gt0_13 Gt1_13 oo_13 ox0_13 ox1_13 og_13 B_13
  clear hb14
  go_wp2_with fail
  refine (eqIntS_same _ _ n1 _ _ z1 _ HZ1.out hsn1 (ints_at ox1_14.out) (ints_at oy_14.out)).mono ?_
  rintro e w15 ⟨rfl, hb15⟩
  clear oy_14
  have p00_15 := cell_later hb15 p00_14
  have p01_15 := cell_later hb15 p01_14
  have Wt0_15 := cell_later hb15 Wt0_14
  have Wt1_15 := cell_later hb15 Wt1_14
  have X00_15 := cell_later hb15 X00_14
  have X01_15 := cell_later hb15 X01_14
  have Gt0_15 := cell_later hb15 Gt0_14
  have Gt1_15 := cell_later hb15 Gt1_14
  have oo_15 := Hid.mk (RQry.ownBelow oo_14.out hb15)
  have ox0_15 := Hid.mk (RQry.ownBelow ox0_14.out hb15)
  have ox1_15 := Hid.mk (RInts.ownBelow ox1_14.out hb15)
  have og_15 := Hid.mk (RQry.ownBelow og_14.out hb15)
  have B_15 := B_14.trans (hb15.mono B_14.size)
  have zz15 : w14.heap.size ≤ w15.heap.size := hb15.size
  clear p00_14 p01_14 Wt0_14 Wt1_14 X00_14 X01_14 Gt0_14 Gt1_14 oo_14 ox0_14 ox1_14 og_14 B_14
  clear hb15
  go_wp2_with fail
  refine (markQuery_rep (From (w5.heap.size) (w6.heap.size)) _ fn0 _ _ tn0 _ zf0 zt0 _ _ hs10 hs20 HSM0.out.2.1.msum (by omega) (by omega) (fun b h => by have h2 := h.2; omega) ox0_15.out).mono ?_
  rintro e w16 ⟨rfl, ho16, hg16⟩
  rw [HV0.out]
  have ox0_16 := Hid.mk ho16
  clear ho16
  have p00_16 := hg16.cell p00_15 (show ¬ From (w5.heap.size) (w6.heap.size) (w.heap.size) from fun h => by have h1 := h.1; have h2 := h.2; omega)
  have p01_16 := hg16.cell p01_15 (show ¬ From (w5.heap.size) (w6.heap.size) (w.heap.size) from fun h => by have h1 := h.1; have h2 := h.2; omega)
  have Wt0_16 := hg16.cell Wt0_15 (show ¬ From (w5.heap.size) (w6.heap.size) (w4.heap.size) from fun h => by have h1 := h.1; have h2 := h.2; omega)
  have Wt1_16 := hg16.cell Wt1_15 (show ¬ From (w5.heap.size) (w6.heap.size) (w4.heap.size) from fun h => by have h1 := h.1; have h2 := h.2; omega)
  have X00_16 := hg16.cell X00_15 (show ¬ From (w5.heap.size) (w6.heap.size) (w6.heap.size) from fun h => by have h1 := h.1; have h2 := h.2; omega)
  have X01_16 := hg16.cell X01_15 (show ¬ From (w5.heap.size) (w6.heap.size) (w6.heap.size) from fun h => by have h1 := h.1; have h2 := h.2; omega)
  have Gt0_16 := hg16.cell Gt0_15 (show ¬ From (w5.heap.size) (w6.heap.size) (w9.heap.size) from fun h => by have h1 := h.1; have h2 := h.2; omega)
  have Gt1_16 := hg16.cell Gt1_15 (show ¬ From (w5.heap.size) (w6.heap.size) (w9.heap.size) from fun h => by have h1 := h.1; have h2 := h.2; omega)
  have oo_16 := Hid.mk (RQry.ownOff oo_15.out hg16 (fun b h1 h2 => by have h3 := h1.1; have h4 := h1.2; have h5 := h2.1; have h6 := h2.2; omega))
  have ox1_16 := Hid.mk (RInts.ownOff ox1_15.out hg16 (fun b h1 h2 => by have h3 := h1.1; have h4 := h1.2; have h5 := h2.1; have h6 := h2.2; omega))
  have og_16 := Hid.mk (RQry.ownOff og_15.out hg16 (fun b h1 h2 => by have h3 := h1.1; have h4 := h1.2; have h5 := h2.1; have h6 := h2.2; omega))
  have B_16 := B_15.trans (hg16.toBelow (by omega) B_15.size)
  have zz16 : w15.heap.size ≤ w16.heap.size := hg16.size
  clear p00_15 p01_15 Wt0_15 Wt1_15 X00_15 X01_15 Gt0_15 Gt1_15 oo_15 ox0_15 ox1_15 og_15 B_15
  clear hg16
  go_wp2_with fail
  refine (markInts_rep (From (w7.heap.size) (w8.heap.size)) _ n1 _ z1 _ _ hsn1 (by omega) (by omega) ox1_16.out).mono ?_
  rintro e w17 ⟨rfl, ho17, hg17⟩
  have ox1_17 := Hid.mk ho17
  clear ho17
  have p00_17 := hg17.cell p00_16 (show ¬ From (w7.heap.size) (w8.heap.size) (w.heap.size) from fun h => by have h1 := h.1; have h2 := h.2; omega)
  have p01_17 := hg17.cell p01_16 (show ¬ From (w7.heap.size) (w8.heap.size) (w.heap.size) from fun h => by have h1 := h.1; have h2 := h.2; omega)
  have Wt0_17 := hg17.cell Wt0_16 (show ¬ From (w7.heap.size) (w8.heap.size) (w4.heap.size) from fun h => by have h1 := h.1; have h2 := h.2; omega)
  have Wt1_17 := hg17.cell Wt1_16 (show ¬ From (w7.heap.size) (w8.heap.size) (w4.heap.size) from fun h => by have h1 := h.1; have h2 := h.2; omega)
  have X00_17 := hg17.cell X00_16 (show ¬ From (w7.heap.size) (w8.heap.size) (w6.heap.size) from fun h => by have h1 := h.1; have h2 := h.2; omega)
  have X01_17 := hg17.cell X01_16 (show ¬ From (w7.heap.size) (w8.heap.size) (w6.heap.size) from fun h => by have h1 := h.1; have h2 := h.2; omega)
  have Gt0_17 := hg17.cell Gt0_16 (show ¬ From (w7.heap.size) (w8.heap.size) (w9.heap.size) from fun h => by have h1 := h.1; have h2 := h.2; omega)
  have Gt1_17 := hg17.cell Gt1_16 (show ¬ From (w7.heap.size) (w8.heap.size) (w9.heap.size) from fun h => by have h1 := h.1; have h2 := h.2; omega)
  have oo_17 := Hid.mk (RQry.ownOff oo_16.out hg17 (fun b h1 h2 => by have h3 := h1.1; have h4 := h1.2; have h5 := h2.1; have h6 := h2.2; omega))
  have ox0_17 := Hid.mk (RQry.ownOff ox0_16.out hg17 (fun b h1 h2 => by have h3 := h1.1; have h4 := h1.2; have h5 := h2.1; have h6 := h2.2; omega))
  have og_17 := Hid.mk (RQry.ownOff og_16.out hg17 (fun b h1 h2 => by have h3 := h1.1; have h4 := h1.2; have h5 := h2.1; have h6 := h2.2; omega))
  have B_17 := B_16.trans (hg17.toBelow (by omega) B_16.size)
  have zz17 : w16.heap.size ≤ w17.heap.size := hg17.size
  clear p00_16 p01_16 Wt0_16 Wt1_16 X00_16 X01_16 Gt0_16 Gt1_16 oo_16 ox0_16 ox1_16 og_16 B_16
  clear hg17
  have kpos : ¬ (1 : Int) + (V0 : Int) + (n1 : Int) < 0 := by omega
  go_wp2_with fail
  refine (eqQuery_same _ _ na _ _ _ _ nb _ _ ha za _ HNA.out HNB.out hnA hnB (fun _ _ h => HSA.out.2.1.each h) (qry_at og_17.out).1 (qry_at og_17.out).2 (qry_at oo_17.out).1 (qry_at oo_17.out).2).mono ?_
  rintro e w18 ⟨rfl, hb18⟩
  have p00_18 := cell_later hb18 p00_17
  have p01_18 := cell_later hb18 p01_17
  have Wt0_18 := cell_later hb18 Wt0_17
  have Wt1_18 := cell_later hb18 Wt1_17
  have X00_18 := cell_later hb18 X00_17
  have X01_18 := cell_later hb18 X01_17
  have Gt0_18 := cell_later hb18 Gt0_17
  have Gt1_18 := cell_later hb18 Gt1_17
  have oo_18 := Hid.mk (RQry.ownBelow oo_17.out hb18)
  have ox0_18 := Hid.mk (RQry.ownBelow ox0_17.out hb18)
  have ox1_18 := Hid.mk (RInts.ownBelow ox1_17.out hb18)
  have og_18 := Hid.mk (RQry.ownBelow og_17.out hb18)
  have B_18 := B_17.trans (hb18.mono B_17.size)
  have zz18 : w17.heap.size ≤ w18.heap.size := hb18.size
  clear p00_17 p01_17 Wt0_17 Wt1_17 X00_17 X01_17 Gt0_17 Gt1_17 oo_17 ox0_17 ox1_17 og_17 B_17
  clear hb18
  clear ox0_18
  clear ox1_18
  go_wp2_with fail
  refine (markQuery_rep (From (w8.heap.size) (w9.heap.size)) _ na _ _ nb _ ha za 1 _ hnA hnB HSA.out.2.1.msum (by omega) (by omega) (fun b h => by have h2 := h.2; omega) og_18.out).mono ?_
  rintro e w19 ⟨rfl, ho19, hg19⟩
  rw [HVA.out]
  have og_19 := Hid.mk ho19
  clear ho19
  have p00_19 := hg19.cell p00_18 (show ¬ From (w8.heap.size) (w9.heap.size) (w.heap.size) from fun h => by have h1 := h.1; have h2 := h.2; omega)
  have p01_19 := hg19.cell p01_18 (show ¬ From (w8.heap.size) (w9.heap.size) (w.heap.size) from fun h => by have h1 := h.1; have h2 := h.2; omega)
  have Wt0_19 := hg19.cell Wt0_18 (show ¬ From (w8.heap.size) (w9.heap.size) (w4.heap.size) from fun h => by have h1 := h.1; have h2 := h.2; omega)
  have Wt1_19 := hg19.cell Wt1_18 (show ¬ From (w8.heap.size) (w9.heap.size) (w4.heap.size) from fun h => by have h1 := h.1; have h2 := h.2; omega)
  have X00_19 := hg19.cell X00_18 (show ¬ From (w8.heap.size) (w9.heap.size) (w6.heap.size) from fun h => by have h1 := h.1; have h2 := h.2; omega)
  have X01_19 := hg19.cell X01_18 (show ¬ From (w8.heap.size) (w9.heap.size) (w6.heap.size) from fun h => by have h1 := h.1; have h2 := h.2; omega)
  have Gt0_19 := hg19.cell Gt0_18 (show ¬ From (w8.heap.size) (w9.heap.size) (w9.heap.size) from fun h => by have h1 := h.1; have h2 := h.2; omega)
  have Gt1_19 := hg19.cell Gt1_18 (show ¬ From (w8.heap.size) (w9.heap.size) (w9.heap.size) from fun h => by have h1 := h.1; have h2 := h.2; omega)
  have oo_19 := Hid.mk (RQry.ownOff oo_18.out hg19 (fun b h1 h2 => by have h3 := h1.1; have h4 := h1.2; have h5 := h2.1; have h6 := h2.2; omega))
  have B_19 := B_18.trans (hg19.toBelow (by omega) B_18.size)
  have zz19 : w18.heap.size ≤ w19.heap.size := hg19.size
  clear p00_18 p01_18 Wt0_18 Wt1_18 X00_18 X01_18 Gt0_18 Gt1_18 oo_18 og_18 B_18
  clear hg19
  have gpos : ¬ (1 : Int) + (VA : Int) < 0 := by omega
  go_wp2_with fail
  refine (heldQuery_rep _ na _ _ nb _ ha za 1 _ HNA.out HNB.out hnA hnB HSA.out.2.1.msum (by omega) (by omega) (qry_at og_19.out).1 (qry_marked HNA.out og_19.out)).mono ?_
  rintro e w20 ⟨rfl, hb20⟩
  rw [HVA.out]
  have p00_20 := cell_later hb20 p00_19
  have p01_20 := cell_later hb20 p01_19
  have Wt0_20 := cell_later hb20 Wt0_19
  have Wt1_20 := cell_later hb20 Wt1_19
  have X00_20 := cell_later hb20 X00_19
  have X01_20 := cell_later hb20 X01_19
  have Gt0_20 := cell_later hb20 Gt0_19
  have Gt1_20 := cell_later hb20 Gt1_19
  have oo_20 := Hid.mk (RQry.ownBelow oo_19.out hb20)
  have og_20 := Hid.mk (RQry.ownBelow og_19.out hb20)
  have B_20 := B_19.trans (hb20.mono B_19.size)
  have zz20 : w19.heap.size ≤ w20.heap.size := hb20.size
  clear p00_19 p01_19 Wt0_19 Wt1_19 X00_19 X01_19 Gt0_19 Gt1_19 oo_19 og_19 B_19
  clear hb20
  go_wp2_with fail
  refine (toQuery_any fa0 fn0 fc0 ta0 tn0 tc0 zf0 zt0 _ HZ0.out.1 HZ0.out.2 hs10 hs20 (fun _ _ h => HSM0.out.2.1.each h) (At.below HA0.out.1 B_20) (AtSl.below HA0.out.2 B_20)).mono ?_
  rintro e w21 ⟨g21_1, g21_2, rfl, ho21, hb21⟩
  have oh0_21 := Hid.mk ho21
  clear ho21
  have p00_21 := cell_later hb21 p00_20
  have p01_21 := cell_later hb21 p01_20
  have Wt0_21 := cell_later hb21 Wt0_20
  have Wt1_21 := cell_later hb21 Wt1_20
  have X00_21 := cell_later hb21 X00_20
  have X01_21 := cell_later hb21 X01_20
  have Gt0_21 := cell_later hb21 Gt0_20
  have Gt1_21 := cell_later hb21 Gt1_20
  have oo_21 := Hid.mk (RQry.ownBelow oo_20.out hb21)
  have og_21 := Hid.mk (RQry.ownBelow og_20.out hb21)
  have B_21 := B_20.trans (hb21.mono B_20.size)
  have zz21 : w20.heap.size ≤ w21.heap.size := hb21.size
  clear p00_20 p01_20 Wt0_20 Wt1_20 X00_20 X01_20 Gt0_20 Gt1_20 oo_20 og_20 B_20
  clear hb21
  go_wp2_with fail
  refine (toInts_rep a1 n1 c1 z1 _ HZ1.out hsn1 (At.below HA1.out B_21)).mono ?_
  rintro e w22 ⟨g22, rfl, ho22, hb22⟩
  have oh1_22 := Hid.mk ho22
  clear ho22
  have p00_22 := cell_later hb22 p00_21
  have p01_22 := cell_later hb22 p01_21
  have Wt0_22 := cell_later hb22 Wt0_21
  have Wt1_22 := cell_later hb22 Wt1_21
  have X00_22 := cell_later hb22 X00_21
  have X01_22 := cell_later hb22 X01_21
  have Gt0_22 := cell_later hb22 Gt0_21
  have Gt1_22 := cell_later hb22 Gt1_21
  have oo_22 := Hid.mk (RQry.ownBelow oo_21.out hb22)
  have og_22 := Hid.mk (RQry.ownBelow og_21.out hb22)
  have oh0_22 := Hid.mk (RQry.ownBelow oh0_21.out hb22)
  have B_22 := B_21.trans (hb22.mono B_21.size)
  have zz22 : w21.heap.size ≤ w22.heap.size := hb22.size
  clear p00_21 p01_21 Wt0_21 Wt1_21 X00_21 X01_21 Gt0_21 Gt1_21 oo_21 og_21 oh0_21 B_21
  clear hb22
  go_wp2_with fail
  refine (HI.out _ _ _ _ _ _ oh0_22.out oh1_22.out).mono ?_
  rintro e w23 ⟨⟨rA23, mA23, dA23, rB23, mB23, dB23, rfl, ho23⟩, hb23⟩
  clear oh0_22
  clear oh1_22
  obtain rfl : na = mA23 := HNA.out.symm.trans (qry_lens ho23).1
  obtain rfl : nb = mB23 := HNB.out.symm.trans (qry_lens ho23).2
  have ohg_23 := Hid.mk ho23
  clear ho23
  have p00_23 := cell_later hb23 p00_22
  have p01_23 := cell_later hb23 p01_22
  have Wt0_23 := cell_later hb23 Wt0_22
  have Wt1_23 := cell_later hb23 Wt1_22
  have X00_23 := cell_later hb23 X00_22
  have X01_23 := cell_later hb23 X01_22
  have Gt0_23 := cell_later hb23 Gt0_22
  have Gt1_23 := cell_later hb23 Gt1_22
  have oo_23 := Hid.mk (RQry.ownBelow oo_22.out hb23)
  have og_23 := Hid.mk (RQry.ownBelow og_22.out hb23)
  have B_23 := B_22.trans (hb23.mono B_22.size)
  have zz23 : w22.heap.size ≤ w23.heap.size := hb23.size
  clear p00_22 p01_22 Wt0_22 Wt1_22 X00_22 X01_22 Gt0_22 Gt1_22 oo_22 og_22 B_22
  clear hb23
  obtain ⟨w24, hU24⟩ : ∃ u, u = w23.alloc (.cells #[.slice rA23 na dA23, .slice rB23 nb dB23] 29) := ⟨_, rfl⟩
  have hb24 : Below w23.heap.size w23 w24 := by rw [hU24]; exact (Below.refl _ _).alloc (Nat.le_refl _) _
  have zl24 : w23.heap.size < w24.heap.size := by rw [hU24]; simp
  have nHt0 : w24.cell? ⟨w23.heap.size, 0, none⟩ = some (.slice rA23 na dA23) := by rw [hU24]; simp
  have nHt1 : w24.cell? ⟨w23.heap.size, 1, none⟩ = some (.slice rB23 nb dB23) := by rw [hU24]; simp
  have p00_24 := cell_later hb24 p00_23
  have p01_24 := cell_later hb24 p01_23
  have Wt0_24 := cell_later hb24 Wt0_23
  have Wt1_24 := cell_later hb24 Wt1_23
  have X00_24 := cell_later hb24 X00_23
  have X01_24 := cell_later hb24 X01_23
  have Gt0_24 := cell_later hb24 Gt0_23
  have Gt1_24 := cell_later hb24 Gt1_23
  have oo_24 := Hid.mk (RQry.ownBelow oo_23.out hb24)
  have og_24 := Hid.mk (RQry.ownBelow og_23.out hb24)
  have ohg_24 := Hid.mk (RQry.ownBelow ohg_23.out hb24)
  have B_24 := B_23.trans (hb24.mono B_23.size)
  have zz24 : w23.heap.size ≤ w24.heap.size := hb24.size
  clear p00_23 p01_23 Wt0_23 Wt1_23 X00_23 X01_23 Gt0_23 Gt1_23 oo_23 og_23 ohg_23 B_23
  clear hb24
  have xp00 := p00_24
  rw [hU24] at xp00
  have xp01 := p01_24
  rw [hU24] at xp01
  have xWt0 := Wt0_24
  rw [hU24] at xWt0
  have xWt1 := Wt1_24
  rw [hU24] at xWt1
  have xX00 := X00_24
  rw [hU24] at xX00
  have xX01 := X01_24
  rw [hU24] at xX01
  have xGt0 := Gt0_24
  rw [hU24] at xGt0
  have xGt1 := Gt1_24
  rw [hU24] at xGt1
  have xHt0 := nHt0
  rw [hU24] at xHt0
  have xHt1 := nHt1
  rw [hU24] at xHt1
  go_wp2_with fail
  rw [← hU24]
  clear hU24
  clear xp00 xp01 xWt0 xWt1 xX00 xX01 xGt0 xGt1 xHt0 xHt1
  refine (eqQuery_same _ _ na _ _ _ _ nb _ _ ha za _ HNA.out HNB.out hnA hnB (fun _ _ h => HSA.out.2.1.each h) (qry_at ohg_24.out).1 (qry_at ohg_24.out).2 (qry_at oo_24.out).1 (qry_at oo_24.out).2).mono ?_
  rintro e w25 ⟨rfl, hb25⟩
  have p00_25 := cell_later hb25 p00_24
  have p01_25 := cell_later hb25 p01_24
  have Wt0_25 := cell_later hb25 Wt0_24
  have Wt1_25 := cell_later hb25 Wt1_24
  have X00_25 := cell_later hb25 X00_24
  have X01_25 := cell_later hb25 X01_24
  have Gt0_25 := cell_later hb25 Gt0_24
  have Gt1_25 := cell_later hb25 Gt1_24
  have Ht0_25 := cell_later hb25 nHt0
  have Ht1_25 := cell_later hb25 nHt1
  have oo_25 := Hid.mk (RQry.ownBelow oo_24.out hb25)
  have og_25 := Hid.mk (RQry.ownBelow og_24.out hb25)
  have ohg_25 := Hid.mk (RQry.ownBelow ohg_24.out hb25)
  have B_25 := B_24.trans (hb25.mono B_24.size)
  have zz25 : w24.heap.size ≤ w25.heap.size := hb25.size
  clear p00_24 p01_24 Wt0_24 Wt1_24 X00_24 X01_24 Gt0_24 Gt1_24 nHt0 nHt1 oo_24 og_24 ohg_24 B_24
  clear hb25
  go_wp2_with fail
  refine (heldQuery_rep _ na _ _ nb _ ha za 1 _ HNA.out HNB.out hnA hnB HSA.out.2.1.msum (by omega) (by omega) (qry_at og_25.out).1 (qry_marked HNA.out og_25.out)).mono ?_
  rintro e w26 ⟨rfl, hb26⟩
  rw [HVA.out]
  have p00_26 := cell_later hb26 p00_25
  have p01_26 := cell_later hb26 p01_25
  have Wt0_26 := cell_later hb26 Wt0_25
  have Wt1_26 := cell_later hb26 Wt1_25
  have X00_26 := cell_later hb26 X00_25
  have X01_26 := cell_later hb26 X01_25
  have Gt0_26 := cell_later hb26 Gt0_25
  have Gt1_26 := cell_later hb26 Gt1_25
  have Ht0_26 := cell_later hb26 Ht0_25
  have Ht1_26 := cell_later hb26 Ht1_25
  have oo_26 := Hid.mk (RQry.ownBelow oo_25.out hb26)
  have og_26 := Hid.mk (RQry.ownBelow og_25.out hb26)
  have ohg_26 := Hid.mk (RQry.ownBelow ohg_25.out hb26)
  have B_26 := B_25.trans (hb26.mono B_25.size)
  have zz26 : w25.heap.size ≤ w26.heap.size := hb26.size
  clear p00_25 p01_25 Wt0_25 Wt1_25 X00_25 X01_25 Gt0_25 Gt1_25 Ht0_25 Ht1_25 oo_25 og_25 ohg_25 B_25
  clear hb26
  go_wp2
  go_ret
  exact ⟨rfl, B_26⟩

end Go.Proofs.Ytociphdhkjoofaa
