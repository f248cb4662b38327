/- Several texts of one proof, in build order: CsS, CsO, LawCostOf, Open, OpenP, OpenSa. -/
import Derived.Test.YteggbamjfhbmfaaM6
import Derived.Test.YteggbamjfhbmfaaM8
import Derived.Test.YteggbamjfhbmfaaM10
import Derived.Test.YteggbamjfhbmfaaM7
import Derived.Test.YteggbamjfhbmfaaM4
import Derived.Test.YteggbamjfhbmfaaM1
import Derived.ProofKit
import Derived.OpenShut
import Derived.ShutString
import Derived.ChangeOld
import Derived.Lib.SmallJoins
import Derived.Test.YteggbamjfhbmfaaM3

/- Contract of the model's l12Cost. -/
namespace Go.Proofs.Yteggbamjfhbmfaa
open Go.RowKit

set_option maxRecDepth 100000 in
set_option maxHeartbeats 4000000 in
theorem l12Cost_any (sa : Option Addr) (sn sc : Nat) (zs : List Int) (pa : Option Addr) (pn pc : Nat) (fs : List (List Int)) (a : Option Addr) (n c : Nat) (l : List Int) (w : World) (hs : zs.length = sn) (hsa : At w sa zs) (hz : fs.length = pn) (ha : AtS w pa fs) (hl : l.length = n) (hla : At w a l) (hg : GsF zs fs) (ht : TbL zs.length l) :
    Calls Try.prog 60 #[.agg #[.slice sa sn sc, .slice pa pn pc], .slice a n c] w fun e w' => e = .returned (.int .i64 (costL zs fs l)) ∧ Below w.heap.size w w' := by
  have hn6 : n ≤ 6 := by have := ht.len; have := hg.n6; omega
  obtain ⟨W, hW⟩ : ∃ W, W = w.alloc (.cells #[.slice sa sn sc, .slice pa pn pc] 53) := ⟨_, rfl⟩
  have B0 : Below w.heap.size w W := by rw [hW]; exact (Below.refl _ _).alloc (Nat.le_refl _) _
  have q0 : W.cell? ⟨w.heap.size, 0, none⟩ = some (.slice sa sn sc) := by rw [hW]; simp
  have q1 : W.cell? ⟨w.heap.size, 1, none⟩ = some (.slice pa pn pc) := by rw [hW]; simp
  have zW : w.heap.size < W.heap.size := by rw [hW]; simp
  have HS := Hid.mk hs
  have HZ := Hid.mk hz
  have HL := Hid.mk hl
  have HSA := Hid.mk (At.below hsa B0)
  have HA := Hid.mk (AtS.below ha B0)
  have HLA := Hid.mk (At.below hla B0)
  have HG := Hid.mk hg
  have HT := Hid.mk ht
  clear hs hz hl hsa ha hla hg ht
  go_enter Try.func60, Try.ntmps60
  go_upto_region 3 with fail
  rw [← hW]
  clear hW
  go_wp2
  go_loopw [5, 6, 11] (fun s p i wr => ∃ (k : Nat) (T : Int) (r : Option Addr) (d : Nat), k ≤ n ∧ i = .int .i64 k ∧ s = .int .i64 T ∧ p = .slice r k d ∧ T = csN zs fs l k ∧ wr.ownsRow W.heap.size 3 1 (.slice r k d) k ((putI [] (l.take k)).map (.int .i64)) ∧ Below W.heap.size W wr) (fun _ _ i _ => n - (intOf i).toNat)
  case atStart => exact ⟨0, 0, none, 0, Nat.zero_le _, rfl, rfl, rfl, rfl, World.ownsRow_nil _ _ _ _, Below.refl _ _⟩
  case round =>
    obtain ⟨k, T, r, d, hk, rfl, rfl, rfl, hT, ho, hbw⟩ := hrel
    by_cases hlt : k < n
    · obtain ⟨x, hx⟩ : ∃ x, l[k]? = some x := ⟨_, List.getElem?_eq_getElem (by have := HL.out; omega)⟩
      obtain ⟨b, off, rfl, hb, hcl⟩ := HLA.out.some (by have := HL.out; omega)
      have hcx : wr.cell? ⟨b, off + k, none⟩ = some (.int .i64 x) := by
        have h9 := (hbw.cell hb).trans (hcl k (by have := HL.out; omega))
        rw [h9]
        have : l.getD k 0 = x := by simp [List.getD, hx]
        rw [this]
      have h6 := HG.out.n6
      have hpt := putI_take hx
      obtain ⟨hp0, _⟩ := putI_tbl h6 (HT.out.take k)
      obtain ⟨hp1, hpp⟩ := putI_tbl h6 (HT.out.take (k + 1))
      have hlen0 : (putI [] (l.take k)).length = k := by rw [hp0.length_eq, List.length_take]; have := HL.out; omega
      have hlen1 : (putI [] (l.take (k + 1))).length = k + 1 := by rw [hp1.length_eq, List.length_take]; have := HL.out; omega
      have K7 := Hid.mk (l7Put_any W.heap.size r k d (putI [] (l.take k)) x wr hlen0 (by omega) hbw.size ho)
      rw [← hpt, hlen1] at K7
      have hki : (k : Int) < (n : Int) := by omega
      have hnx : csN zs fs l (k + 1) = csN zs fs l k + lastC zs fs (l.take (k + 1)) := rfl
      rw [← hT] at hnx
      have hci := lastC_in HG.out (HT.out.take (k + 1))
      have hsi := csN_in HG.out HT.out k
      rw [← hT] at hsi
      have p0 := cell_later hbw q0
      have p1 := cell_later hbw q1
      have HLS : Hid (0 < k → lastC zs fs (l.take (k + 1)) = szQ zs fs (putI [] (l.take (k + 1)))) := fun h0 => by
        unfold lastC
        rw [if_neg (by rw [List.length_take]; have := HL.out; omega)]
        exact (szQ_perm zs fs hp1).symm
      have HL0 : Hid (k = 0 → lastC zs fs (l.take (k + 1)) = 0) := fun h0 => by
        unfold lastC
        rw [if_pos (by rw [List.length_take]; omega)]
      have HTB := Hid.mk (HT.out.take (k + 1) |>.perm hp1.symm)
      have HPP := Hid.mk hpp
      have HLN := Hid.mk hlen1
      have HN := Hid.mk hnx
      have HB := Hid.mk hbw
      clear hnx hbw hT hcl hx ho hpt hp0 hp1 hpp hlen0 hlen1 h6
      go_wp2_with fail
      refine K7.out.mono ?_
      rintro e w2 ⟨r2, m2, d2, rfl, hm2, ho2, hb2⟩
      obtain rfl := hm2
      have p0 := cell_later hb2 p0
      have p1 := cell_later hb2 p1
      have HB2 := Hid.mk (HB.out.trans (hb2.mono HB.out.size))
      have HO2 := Hid.mk ho2
      clear ho2 hb2 K7 HB
      by_cases k0 : k = 0
      · have hk0 : ¬ (0 : Int) < (k : Int) := by omega
        have HN2 : Hid (csN zs fs l (k + 1) = T) := by show _ = _; rw [HN.out, HL0.out k0]; simp
        clear k0
        go_wp2
        go_roundw
        case rel => exact ⟨k + 1, T, r2, d2, by omega, by go_num, rfl, rfl, HN2.out.symm, HO2.out, HB2.out⟩
        case measure => simp [intOf]; omega
      · have hk0 : (0 : Int) < (k : Int) := by omega
        have hlq := HLS.out (by omega)
        rw [hlq] at hci HN
        obtain ⟨y, hy⟩ : ∃ y, szQ zs fs (putI [] (l.take (k + 1))) = y := ⟨_, rfl⟩
        have K2 := Hid.mk (l12Size_any sa sn sc zs pa pn pc fs r2 (k + 1) d2 (putI [] (l.take (k + 1))) w2 HS.out (At.below HSA.out HB2.out) HZ.out (AtS.below HA.out HB2.out) HLN.out (own_cap HO2.out) (At.owned HO2.out) HG.out HTB.out (pair_lt HPP.out))
        rw [hy] at hci HN K2
        obtain ⟨T2, hT2⟩ : ∃ T2, T + y = T2 := ⟨_, rfl⟩
        rw [hT2] at HN
        have hw1 : IntKind.i64.wrap (T + y) = T2 := by rw [hT2]; exact IntWalk.i64_in _ (by omega)
        clear hlq hy hT2 k0 hci hsi
        go_wp2_with fail
        refine K2.out.mono ?_
        rintro e w3 ⟨rfl, hb3⟩
        have HO3 := Hid.mk (owns_below HO2.out hb3)
        have HB3 := Hid.mk (HB2.out.trans (hb3.mono HB2.out.size))
        clear hb3 K2
        go_wp2
        go_roundw
        case rel => exact ⟨k + 1, T2, r2, d2, by omega, by go_num, rfl, rfl, HN.out.symm, HO3.out, HB3.out⟩
        case measure => simp [intOf]; omega
    · obtain rfl : k = n := by omega
      have hki : ¬ (k : Int) < (k : Int) := by omega
      have HV : Hid (costL zs fs l = T) := by show _ = _; unfold costL; rw [HL.out, hT]
      have HB := Hid.mk hbw
      clear hT hbw ho
      go_wp2
      go_ret
      exact ⟨ret_int (by rw [HV.out]), B0.trans (HB.out.mono (by omega))⟩

end Go.Proofs.Yteggbamjfhbmfaa

/- Contracts of CostOf, the program's and the model's. -/
namespace Go.Proofs.Yteggbamjfhbmfaa
open Go.RowKit

def coA (zs : List Int) (fs : List (List Int)) (l : List Int) : Int := if ordB zs fs l then costL zs fs l else 0
theorem ordB_open {zs : List Int} {fs : List (List Int)} {l : List Int} (h : ordB zs fs l = true) : GsF zs fs ∧ TbL zs.length l := by
  simp only [ordB, Bool.and_eq_true] at h
  exact ⟨gsF h.1, each_tbl (eachB_iff.1 h.2)⟩

set_option maxRecDepth 100000 in
set_option maxHeartbeats 4000000 in
theorem implCostOf (sa : Option Addr) (sn sc : Nat) (zs : List Int) (pa : Option Addr) (pn pc : Nat) (fs : List (List Int)) (a : Option Addr) (n c : Nat) (l : List Int) (w : World) (hs : zs.length = sn) (hsn : sn ≤ 9223372036854775807) (hsa : At w sa zs) (hz : fs.length = pn) (hpn : pn ≤ 9223372036854775807) (ha : AtS w pa fs) (hl : l.length = n) (hn : n ≤ 1048576) (hc : n ≤ c) (hla : At w a l) :
    Calls Try.prog 33 #[.agg #[.slice sa sn sc, .slice pa pn pc], .slice a n c] w fun e w' => e = .returned (.tuple #[.int .i64 (coA zs fs l), .bool (ordB zs fs l)]) ∧ Below w.heap.size w w' := by
  obtain ⟨W, hW⟩ : ∃ W, W = w.alloc (.cells #[.slice sa sn sc, .slice pa pn pc] 53) := ⟨_, rfl⟩
  have B0 : Below w.heap.size w W := by rw [hW]; exact (Below.refl _ _).alloc (Nat.le_refl _) _
  have q0 : W.cell? ⟨w.heap.size, 0, none⟩ = some (.slice sa sn sc) := by rw [hW]; simp
  have q1 : W.cell? ⟨w.heap.size, 1, none⟩ = some (.slice pa pn pc) := by rw [hW]; simp
  have HS := Hid.mk hs
  have HZ := Hid.mk hz
  have HL := Hid.mk hl
  have HC := Hid.mk hc
  have HSA := Hid.mk (At.below hsa B0)
  have HA := Hid.mk (AtS.below ha B0)
  have HLA := Hid.mk (At.below hla B0)
  have K := Hid.mk (implIsOrder sa sn sc zs pa pn pc fs a n c l W hs hsn (At.below hsa B0) hz hpn (AtS.below ha B0) hl hn (At.below hla B0))
  clear hs hz hl hsa ha hla hc
  go_enter Try.func33, Try.ntmps33
  go_wp2_with fail
  rw [← hW]
  clear hW
  refine K.out.mono ?_
  rintro e w1 ⟨rfl, hb1⟩
  have q0 := cell_later hb1 q0
  have q1 := cell_later hb1 q1
  have B1 := Hid.mk (B0.trans (hb1.mono B0.size))
  have HLA1 := Hid.mk (At.below HLA.out hb1)
  have HSA1 := Hid.mk (At.below HSA.out hb1)
  have HA1 := Hid.mk (AtS.below HA.out hb1)
  clear hb1 K HLA HSA HA
  cases hg : ordB zs fs l with
  | false =>
    go_wp2
    exact bodyPost_ret (v := .tuple #[.int .i64 0, .bool false]) (by simp [results, Try.results33, go_sem]) rfl ⟨by unfold coA; rw [hg]; rfl, B1.out⟩
  | true =>
    have HV : Hid (coA zs fs l = costL zs fs l) := by show _ = _; unfold coA; rw [hg]; rfl
    obtain ⟨hgf, htb⟩ := ordB_open hg
    have HW := Hid.mk hg
    have HGF := Hid.mk hgf
    have HTB := Hid.mk htb
    clear hg hgf htb
    have K1 := Hid.mk (costsBy_any sa sn sc zs pa pn pc fs w1 HS.out HSA1.out HZ.out HA1.out)
    go_wp2_with fail
    refine K1.out.mono ?_
    rintro e w2 ⟨b, rfl, hbx, hb2⟩
    have K2 := Hid.mk (ofOrder_any b zs fs a n c l w2 hbx HL.out HC.out (At.below HLA1.out hb2) HGF.out HTB.out)
    have B2 := Hid.mk (B1.out.trans (hb2.mono B1.out.size))
    clear hbx hb2 K1
    go_wp2_with fail
    refine K2.out.mono ?_
    rintro e w3 ⟨rfl, hb3⟩
    have B3 := Hid.mk (B2.out.trans (hb3.mono B2.out.size))
    clear hb3 K2
    go_wp2
    exact bodyPost_ret (v := .tuple #[.int .i64 (costL zs fs l), .bool true]) (by simp [results, Try.results33, go_sem]) rfl ⟨by rw [HV.out, HW.out], B3.out⟩

set_option maxRecDepth 100000 in
set_option maxHeartbeats 4000000 in
theorem specCostOf (sa : Option Addr) (sn sc : Nat) (zs : List Int) (pa : Option Addr) (pn pc : Nat) (fs : List (List Int)) (a : Option Addr) (n c : Nat) (l : List Int) (w : World) (hs : zs.length = sn) (hsn : sn ≤ 9223372036854775807) (hsa : At w sa zs) (hz : fs.length = pn) (hpn : pn ≤ 9223372036854775807) (ha : AtS w pa fs) (hl : l.length = n) (hn : n ≤ 1048576) (_hc : n ≤ c) (hla : At w a l) :
    Calls Try.prog 32 #[.agg #[.slice sa sn sc, .slice pa pn pc], .slice a n c] w fun e w' => e = .returned (.tuple #[.int .i64 (coA zs fs l), .bool (ordB zs fs l)]) ∧ Below w.heap.size w w' := by
  obtain ⟨W, hW⟩ : ∃ W, W = w.alloc (.cells #[.slice sa sn sc, .slice pa pn pc] 53) := ⟨_, rfl⟩
  have B0 : Below w.heap.size w W := by rw [hW]; exact (Below.refl _ _).alloc (Nat.le_refl _) _
  have q0 : W.cell? ⟨w.heap.size, 0, none⟩ = some (.slice sa sn sc) := by rw [hW]; simp
  have q1 : W.cell? ⟨w.heap.size, 1, none⟩ = some (.slice pa pn pc) := by rw [hW]; simp
  have HS := Hid.mk hs
  have HZ := Hid.mk hz
  have HL := Hid.mk hl
  have HSA := Hid.mk (At.below hsa B0)
  have HA := Hid.mk (AtS.below ha B0)
  have HLA := Hid.mk (At.below hla B0)
  have K := Hid.mk (specIsOrder sa sn sc zs pa pn pc fs a n c l W hs hsn (At.below hsa B0) hz hpn (AtS.below ha B0) hl hn (At.below hla B0))
  clear hs hz hl hsa ha hla
  go_enter Try.func32, Try.ntmps32
  go_wp2_with fail
  rw [← hW]
  clear hW
  refine K.out.mono ?_
  rintro e w1 ⟨rfl, hb1⟩
  have q0 := cell_later hb1 q0
  have q1 := cell_later hb1 q1
  have B1 := Hid.mk (B0.trans (hb1.mono B0.size))
  have HLA1 := Hid.mk (At.below HLA.out hb1)
  have HSA1 := Hid.mk (At.below HSA.out hb1)
  have HA1 := Hid.mk (AtS.below HA.out hb1)
  clear hb1 K HLA HSA HA
  cases hg : ordB zs fs l with
  | false =>
    go_wp2
    exact bodyPost_ret (v := .tuple #[.int .i64 0, .bool false]) (by simp [results, Try.results32, go_sem]) rfl ⟨by unfold coA; rw [hg]; rfl, B1.out⟩
  | true =>
    have HV : Hid (coA zs fs l = costL zs fs l) := by show _ = _; unfold coA; rw [hg]; rfl
    obtain ⟨hgf, htb⟩ := ordB_open hg
    have HW := Hid.mk hg
    have HGF := Hid.mk hgf
    have HTB := Hid.mk htb
    clear hg hgf htb
    have K2 := Hid.mk (l12Cost_any sa sn sc zs pa pn pc fs a n c l w1 HS.out HSA1.out HZ.out HA1.out HL.out HLA1.out HGF.out HTB.out)
    go_wp2_with fail
    refine K2.out.mono ?_
    rintro e w3 ⟨rfl, hb3⟩
    have B3 := Hid.mk (B1.out.trans (hb3.mono B1.out.size))
    clear hb3 K2
    go_wp2
    exact bodyPost_ret (v := .tuple #[.int .i64 (costL zs fs l), .bool true]) (by simp [results, Try.results32, go_sem]) rfl ⟨by rw [HV.out, HW.out], B3.out⟩

end Go.Proofs.Yteggbamjfhbmfaa

/- The law FnExactCostOf returns true at every input, and writes nothing that was there. -/
namespace Go.Proofs.Yteggbamjfhbmfaa
open Go.RowKit

set_option maxRecDepth 100000 in
set_option maxHeartbeats 16000000 in
theorem lawCostOf (fa0 : Option Addr) (fn0 fc0 : Nat) (ta0 : Option Addr) (tn0 tc0 : Nat) (z0 : Sta) (a1 : Option Addr) (n1 c1 : Nat) (z1 : List Int) (w : World) (ha0 : RSta.At w [.slice fa0 fn0 fc0, .slice ta0 tn0 tc0] z0) (hz1 : z1.length = n1) (hn1 : n1 ≤ 9223372036854775807) (ha1 : At w a1 z1) :
    Calls Try.prog 7 #[.agg #[.slice fa0 fn0 fc0, .slice ta0 tn0 tc0], .slice a1 n1 c1] w fun e w' => e = .returned (.bool true) ∧ Below w.heap.size w w' := by
  obtain ⟨zf0, zt0⟩ := z0
  obtain ⟨⟨h10, h20, h30, _⟩, ⟨k10, k20, k30, _⟩⟩ := RSta.at_iff ha0
  have HA0 := Hid.mk (And.intro h30 k30)
  have HZ0 : Hid (zf0.length = fn0 ∧ zt0.length = tn0) := ⟨h10, k10⟩
  clear ha0 h10 h30 k10 k30
  have HA1 := Hid.mk ha1
  have HZ1 := Hid.mk hz1
  clear ha1 hz1
  obtain ⟨W, hW⟩ : ∃ W, W = w.alloc (.cells #[.slice fa0 fn0 fc0, .slice ta0 tn0 tc0] 50) := ⟨_, rfl⟩
  have B0 : Below w.heap.size w W := by rw [hW]; exact (Below.refl _ _).alloc (Nat.le_refl _) _
  have zW : w.heap.size < W.heap.size := by rw [hW]; simp
  have p00_0 : W.cell? ⟨w.heap.size, 0, none⟩ = some (.slice fa0 fn0 fc0) := by rw [hW]; simp
  have p01_0 : W.cell? ⟨w.heap.size, 1, none⟩ = some (.slice ta0 tn0 tc0) := by rw [hW]; simp
  by_cases big1 : 1048576 < n1
  · have big1' : (1048576 : Int) < (n1 : Int) := by omega
    go_enter Try.func7, Try.ntmps7
    go_wp2
    go_ret
    exact ⟨rfl, by rw [← hW]; exact B0⟩
  have hb1' : ¬ (1048576 : Int) < (n1 : Int) := by omega
  have hsn1 : n1 ≤ 1048576 := by omega
  have HVB1 := hsn1
  obtain ⟨C0, hC0⟩ : ∃ C : Nat, scost (zf0, zt0) = C := ⟨_, rfl⟩
  have HC0 := Hid.mk hC0
  clear hC0
  by_cases big0 : (1048576 : Int) < (C0 : Int)
  · go_enter Try.func7, Try.ntmps7
    go_wp2_with fail
    rw [← hW]
    clear hW
    refine (szStats_any fa0 fn0 fc0 ta0 tn0 tc0 zf0 zt0 _ _ HZ0.out.1 h20 HZ0.out.2 k20 (by omega) (by omega) (AtS.below HA0.out.2 B0)).mono ?_
    rintro e v0 ⟨rfl, hv0⟩
    rw [HC0.out, leftOf_no big0]
    have y0 := B0.trans (hv0.mono B0.size)
    go_wp2
    go_ret
    exact ⟨rfl, y0⟩
  have hl0 : ¬ (1048576 : Int) - (C0 : Int) < 0 := by omega
  have HSM0 : Hid (fn0 ≤ 1048576 ∧ SmF zt0 tn0 ∧ smk (zf0, zt0) ≤ 1048576) := sta_small HZ0.out.1 HZ0.out.2 (by have := HC0.out; omega)
  have hs10 := HSM0.out.1
  have hs20 : tn0 ≤ 1048576 := HSM0.out.2.1.n
  have HVB0 := HSM0.out.2.2
  obtain ⟨V0, hV0⟩ : ∃ V : Nat, smk (zf0, zt0) = V := ⟨_, rfl⟩
  rw [hV0] at HVB0
  have HV0 := Hid.mk hV0
  clear hV0
  obtain ⟨b1, b2, HS, HI⟩ : ∃ (b1 : Int) (b2 : Bool), Hid (∀ (x0 y0 : Nat) (x1 : Nat) (w : World) (F0 F1 : Nat → Prop), RSta.Own w F0 [.slice (some ⟨x0, 0, none⟩) fn0 fn0, .slice (some ⟨y0, 0, none⟩) tn0 tn0] (zf0, zt0) → RInts.Own w F1 [.slice (some ⟨x1, 0, none⟩) n1 n1] z1 → Calls Try.prog 32 #[.agg #[.slice (some ⟨x0, 0, none⟩) fn0 fn0, .slice (some ⟨y0, 0, none⟩) tn0 tn0], .slice (some ⟨x1, 0, none⟩) n1 n1] w fun e w' => e = .returned (.tuple #[.int .i64 b1, .bool b2]) ∧ Below w.heap.size w w') ∧ Hid (∀ (x0 y0 : Nat) (x1 : Nat) (w : World) (F0 F1 : Nat → Prop), RSta.Own w F0 [.slice (some ⟨x0, 0, none⟩) fn0 fn0, .slice (some ⟨y0, 0, none⟩) tn0 tn0] (zf0, zt0) → RInts.Own w F1 [.slice (some ⟨x1, 0, none⟩) n1 n1] z1 → Calls Try.prog 33 #[.agg #[.slice (some ⟨x0, 0, none⟩) fn0 fn0, .slice (some ⟨y0, 0, none⟩) tn0 tn0], .slice (some ⟨x1, 0, none⟩) n1 n1] w fun e w' => e = .returned (.tuple #[.int .i64 b1, .bool b2]) ∧ Below w.heap.size w w') := ⟨coA zf0 zt0 z1, ordB zf0 zt0 z1, fun x0 y0 x1 w F0 F1 o0 o1 => specCostOf (some ⟨x0, 0, none⟩) fn0 fn0 zf0 (some ⟨y0, 0, none⟩) tn0 tn0 zt0 (some ⟨x1, 0, none⟩) n1 n1 z1 w HZ0.out.1 h20 (sta_at o0).1 HZ0.out.2 k20 (sta_at o0).2 HZ1.out hsn1 (Nat.le_refl _) (ints_at o1), fun x0 y0 x1 w F0 F1 o0 o1 => implCostOf (some ⟨x0, 0, none⟩) fn0 fn0 zf0 (some ⟨y0, 0, none⟩) tn0 tn0 zt0 (some ⟨x1, 0, none⟩) n1 n1 z1 w HZ0.out.1 h20 (sta_at o0).1 HZ0.out.2 k20 (sta_at o0).2 HZ1.out hsn1 (Nat.le_refl _) (ints_at o1)⟩
  go_enter Try.func7, Try.ntmps7
  go_wp2_with fail
  rw [← hW]
  clear hW
  refine (szStats_any fa0 fn0 fc0 ta0 tn0 tc0 zf0 zt0 _ _ HZ0.out.1 h20 HZ0.out.2 k20 (by omega) (by omega) (AtS.below HA0.out.2 B0)).mono ?_
  rintro e w1 ⟨rfl, hb1⟩
  rw [HC0.out, leftOf_yes (by omega)]
  have p00_1 := cell_later hb1 p00_0
  have p01_1 := cell_later hb1 p01_0
  have B_1 := B0.trans (hb1.mono B0.size)
  have zz1 : W.heap.size ≤ w1.heap.size := hb1.size
  clear p00_0 p01_0
  clear hb1
  go_wp2_with fail
  refine (toStats_any fa0 fn0 fc0 ta0 tn0 tc0 zf0 zt0 _ HZ0.out.1 HZ0.out.2 hs10 hs20 HSM0.out.2.1.each (At.below HA0.out.1 B_1) (AtS.below HA0.out.2 B_1)).mono ?_
  rintro e w2 ⟨g2_1, g2_2, rfl, ho2, hb2⟩
  have ot0_2 := Hid.mk ho2
  clear ho2
  have p00_2 := cell_later hb2 p00_1
  have p01_2 := cell_later hb2 p01_1
  have B_2 := B_1.trans (hb2.mono B_1.size)
  have zz2 : w1.heap.size ≤ w2.heap.size := hb2.size
  clear p00_1 p01_1 B_1
  clear hb2
  go_wp2_with fail
  refine (toInts_rep a1 n1 c1 z1 _ HZ1.out hsn1 (At.below HA1.out B_2)).mono ?_
  rintro e w3 ⟨g3, rfl, ho3, hb3⟩
  have ot1_3 := Hid.mk ho3
  clear ho3
  have p00_3 := cell_later hb3 p00_2
  have p01_3 := cell_later hb3 p01_2
  have ot0_3 := Hid.mk (RSta.ownBelow ot0_2.out hb3)
  have B_3 := B_2.trans (hb3.mono B_2.size)
  have zz3 : w2.heap.size ≤ w3.heap.size := hb3.size
  clear p00_2 p01_2 ot0_2 B_2
  clear hb3
  go_wp2_with fail
  refine (HS.out _ _ _ _ _ _ ot0_3.out ot1_3.out).mono ?_
  rintro e w4 ⟨rfl, hb4⟩
  clear ot0_3
  clear ot1_3
  have p00_4 := cell_later hb4 p00_3
  have p01_4 := cell_later hb4 p01_3
  have B_4 := B_3.trans (hb4.mono B_3.size)
  have zz4 : w3.heap.size ≤ w4.heap.size := hb4.size
  clear p00_3 p01_3 B_3
  clear hb4
  go_wp2_with fail
  refine (toStats_any fa0 fn0 fc0 ta0 tn0 tc0 zf0 zt0 _ HZ0.out.1 HZ0.out.2 hs10 hs20 HSM0.out.2.1.each (At.below HA0.out.1 B_4) (AtS.below HA0.out.2 B_4)).mono ?_
  rintro e w5 ⟨g5_1, g5_2, rfl, ho5, hb5⟩
  have ox0_5 := Hid.mk ho5
  clear ho5
  have p00_5 := cell_later hb5 p00_4
  have p01_5 := cell_later hb5 p01_4
  have B_5 := B_4.trans (hb5.mono B_4.size)
  have zz5 : w4.heap.size ≤ w5.heap.size := hb5.size
  clear p00_4 p01_4 B_4
  clear hb5
  obtain ⟨w6, hU6⟩ : ∃ u, u = w5.alloc (.cells #[.slice (some ⟨g5_1, 0, none⟩) fn0 fn0, .slice (some ⟨g5_2, 0, none⟩) tn0 tn0] 53) := ⟨_, rfl⟩
  have hb6 : Below w5.heap.size w5 w6 := by rw [hU6]; exact (Below.refl _ _).alloc (Nat.le_refl _) _
  have zl6 : w5.heap.size < w6.heap.size := by rw [hU6]; simp
  have nX00 : w6.cell? ⟨w5.heap.size, 0, none⟩ = some (.slice (some ⟨g5_1, 0, none⟩) fn0 fn0) := by rw [hU6]; simp
  have nX01 : w6.cell? ⟨w5.heap.size, 1, none⟩ = some (.slice (some ⟨g5_2, 0, none⟩) tn0 tn0) := by rw [hU6]; simp
  have p00_6 := cell_later hb6 p00_5
  have p01_6 := cell_later hb6 p01_5
  have ox0_6 := Hid.mk (RSta.ownBelow ox0_5.out hb6)
  have B_6 := B_5.trans (hb6.mono B_5.size)
  have zz6 : w5.heap.size ≤ w6.heap.size := hb6.size
  clear p00_5 p01_5 ox0_5 B_5
  clear hb6
  have xp00 := p00_6
  rw [hU6] at xp00
  have xp01 := p01_6
  rw [hU6] at xp01
  have xX00 := nX00
  rw [hU6] at xX00
  have xX01 := nX01
  rw [hU6] at xX01
  go_wp2_with fail
  rw [← hU6]
  clear hU6
  clear xp00 xp01 xX00 xX01
  refine (toInts_rep a1 n1 c1 z1 _ HZ1.out hsn1 (At.below HA1.out B_6)).mono ?_
  rintro e w7 ⟨g7, rfl, ho7, hb7⟩
  have ox1_7 := Hid.mk ho7
  clear ho7
  have p00_7 := cell_later hb7 p00_6
  have p01_7 := cell_later hb7 p01_6
  have X00_7 := cell_later hb7 nX00
  have X01_7 := cell_later hb7 nX01
  have ox0_7 := Hid.mk (RSta.ownBelow ox0_6.out hb7)
  have B_7 := B_6.trans (hb7.mono B_6.size)
  have zz7 : w6.heap.size ≤ w7.heap.size := hb7.size
  clear p00_6 p01_6 nX00 nX01 ox0_6 B_6
  clear hb7
  go_wp2_with fail
  refine (HI.out _ _ _ _ _ _ ox0_7.out ox1_7.out).mono ?_
  rintro e w8 ⟨rfl, hb8⟩
  have p00_8 := cell_later hb8 p00_7
  have p01_8 := cell_later hb8 p01_7
  have X00_8 := cell_later hb8 X00_7
  have X01_8 := cell_later hb8 X01_7
  have ox0_8 := Hid.mk (RSta.ownBelow ox0_7.out hb8)
  have ox1_8 := Hid.mk (RInts.ownBelow ox1_7.out hb8)
  have B_8 := B_7.trans (hb8.mono B_7.size)
  have zz8 : w7.heap.size ≤ w8.heap.size := hb8.size
  clear p00_7 p01_7 X00_7 X01_7 ox0_7 ox1_7 B_7
  clear hb8
  go_wp2_with fail
  refine wp_region_held_drew (S := fun w' => w'.cell? ⟨w5.heap.size, 0, none⟩ = some (.slice (some ⟨g5_1, 0, none⟩) fn0 fn0) ∧ w'.cell? ⟨w5.heap.size, 1, none⟩ = some (.slice (some ⟨g5_2, 0, none⟩) tn0 tn0) ∧ w'.cell? ⟨w.heap.size, 0, none⟩ = some (.slice fa0 fn0 fc0) ∧ w'.cell? ⟨w.heap.size, 1, none⟩ = some (.slice ta0 tn0 tc0)) (by kernel_rfl) ?_ (fun hHeld => ?_)
  · (try dsimp only)
    exact ⟨X00_8, X01_8, p00_8, p01_8⟩
  refine tk 0 ?_
  refine tk 1 ?_
  refine wpAnyH_ready (rs := [2]) (by kernel_rfl) (by simp) ?_
  refine AllReadyH.cons (o := ?_) ?_ (fun K hK => ?_) AllReadyH.nil
  rotate_left
  · (simp only [List.getElem?_toArray, List.getElem?_cons_zero, List.getElem?_cons_succ]; rfl)
  go_simp
  go_at_call 27
  refine (toStats_any fa0 fn0 fc0 ta0 tn0 tc0 zf0 zt0 _ HZ0.out.1 HZ0.out.2 hs10 hs20 HSM0.out.2.1.each (At.below HA0.out.1 B_8.drew) (AtS.below HA0.out.2 B_8.drew)).mono ?_
  rintro e w9 ⟨g9_1, g9_2, rfl, ho9, hd9⟩
  have hb9 : Below w8.heap.size w8 w9 := (Below.refl _ _).drew.trans hd9
  clear hd9
  have oy_9 := Hid.mk ho9
  clear ho9
  have p00_9 := cell_later hb9 p00_8
  have p01_9 := cell_later hb9 p01_8
  have X00_9 := cell_later hb9 X00_8
  have X01_9 := cell_later hb9 X01_8
  have ox0_9 := Hid.mk (RSta.ownBelow ox0_8.out hb9)
  have ox1_9 := Hid.mk (RInts.ownBelow ox1_8.out hb9)
  have B_9 := B_8.trans (hb9.mono B_8.size)
  have zz9 : w8.heap.size ≤ w9.heap.size := hb9.size
  clear p00_8 p01_8 X00_8 X01_8 ox0_8 ox1_8 B_8
  clear hb9
  (try go_wp2_with fail)
  refine hK.out _ _ ?_ (fun hHeld' => ?_)
  · (try dsimp only)
    exact ⟨X00_9, X01_9, p00_9, p01_9⟩
  clear hK K hHeld
  have hHeld := hHeld'
  clear hHeld'
  (try simp only [Act.put, List.setIfInBounds_toArray, List.set_cons_zero, List.set_cons_succ])
  refine wpAnyH_ready (rs := [3]) (by kernel_rfl) (by simp) ?_
  refine AllReadyH.cons (o := ?_) ?_ (fun K hK => ?_) AllReadyH.nil
  rotate_left
  · (simp only [List.getElem?_toArray, List.getElem?_cons_zero, List.getElem?_cons_succ]; rfl)
  go_simp
  go_at_call 29
  refine (eqStats_same _ _ fn0 _ _ _ _ tn0 _ _ zf0 zt0 _ HZ0.out.1 HZ0.out.2 hs10 hs20 HSM0.out.2.1.each (sta_at ox0_9.out).1 (sta_at ox0_9.out).2 (sta_at oy_9.out).1 (sta_at oy_9.out).2).mono ?_
  rintro e w10 ⟨rfl, hb10⟩
  clear oy_9
  have p00_10 := cell_later hb10 p00_9
  have p01_10 := cell_later hb10 p01_9
  have X00_10 := cell_later hb10 X00_9
  have X01_10 := cell_later hb10 X01_9
  have ox0_10 := Hid.mk (RSta.ownBelow ox0_9.out hb10)
  have ox1_10 := Hid.mk (RInts.ownBelow ox1_9.out hb10)
  have B_10 := B_9.trans (hb10.mono B_9.size)
  have zz10 : w9.heap.size ≤ w10.heap.size := hb10.size
  clear p00_9 p01_9 X00_9 X01_9 ox0_9 ox1_9 B_9
  clear hb10
  (try go_wp2_with fail)
  refine hK.out _ _ ?_ (fun hHeld' => ?_)
  · (try dsimp only)
    exact ⟨X00_10, X01_10, p00_10, p01_10⟩
  clear hK K hHeld
  have hHeld := hHeld'
  clear hHeld'
  (try simp only [Act.put, List.setIfInBounds_toArray, List.set_cons_zero, List.set_cons_succ])
  refine tk 4 ?_
  refine wpAnyH_done (by kernel_rfl) ?_ _
  clear hHeld
  go_wp2_with fail
  refine (toInts_rep a1 n1 c1 z1 _ HZ1.out hsn1 (At.below HA1.out B_10)).mono ?_
  rintro e w11 ⟨g11, rfl, ho11, hb11⟩
  have oy_11 := Hid.mk ho11
  clear ho11
  have p00_11 := cell_later hb11 p00_10
  have p01_11 := cell_later hb11 p01_10
  have X00_11 := cell_later hb11 X00_10
  have X01_11 := cell_later hb11 X01_10
  have ox0_11 := Hid.mk (RSta.ownBelow ox0_10.out hb11)
  have ox1_11 := Hid.mk (RInts.ownBelow ox1_10.out hb11)
  have B_11 := B_10.trans (hb11.mono B_10.size)
  have zz11 : w10.heap.size ≤ w11.heap.size := hb11.size
  clear p00_10 p01_10 X00_10 X01_10 ox0_10 ox1_10 B_10
  clear hb11
  go_wp2_with fail
  refine (eqIntS_same _ _ n1 _ _ z1 _ HZ1.out hsn1 (ints_at ox1_11.out) (ints_at oy_11.out)).mono ?_
  rintro e w12 ⟨rfl, hb12⟩
  clear oy_11
  have p00_12 := cell_later hb12 p00_11
  have p01_12 := cell_later hb12 p01_11
  have X00_12 := cell_later hb12 X00_11
  have X01_12 := cell_later hb12 X01_11
  have ox0_12 := Hid.mk (RSta.ownBelow ox0_11.out hb12)
  have ox1_12 := Hid.mk (RInts.ownBelow ox1_11.out hb12)
  have B_12 := B_11.trans (hb12.mono B_11.size)
  have zz12 : w11.heap.size ≤ w12.heap.size := hb12.size
  clear p00_11 p01_11 X00_11 X01_11 ox0_11 ox1_11 B_11
  clear hb12
  go_wp2
  go_ret
  exact ⟨rfl, B_12⟩

end Go.Proofs.Yteggbamjfhbmfaa

/- Opening the laws' arguments: rows, slices of ints; plain facts on readings. -/
namespace Go.Proofs.Yteggbamjfhbmfaa
open Go.ChangeShapes Go.WideShapes Go.ChangeAt Go.RowKit Go.Joins Go.Deep

section
variable {H : Type} {enc : TypeId × Value → H} {P : Program} {w : World} {base : Nat} {spare : Nat → Bool} {held : Bool}

theorem array1 {α : Type} {cs : Array α} (h : cs.size = 1) : ∃ c0, cs = #[c0] := by
  obtain ⟨l⟩ := cs
  match l, h with
  | [c0], _ => exact ⟨c0, rfl⟩

theorem open_agg1 {r : Reach} {b0 : Nat} {t : TypeId} {f0 : Field} {v : Value} {d : DataW H} {p : List MemPlace} (hs : P.underlying t = some (.struct #[f0])) (hone : oneCellFields P #[f0] = true) (hC : P.cellsOf t = 1)
    (hv : Value.okWide P w r b0 t v) (h : DataW.Trod enc P w base spare held t v d p) :
    ∃ (v0 : Value) (y0 : DataW H × List MemPlace) (n : Nat), v = .agg #[v0] ∧ d = .agg [y0.1] ∧ p = y0.2 ∧ DataW.trod enc P w base spare held n f0.type [v0] = some y0 := by
  obtain ⟨cs, rfl, hsz⟩ := okWide_struct hs hv
  obtain ⟨c0, rfl⟩ := array1 (hsz.trans hC)
  obtain ⟨fuel, hf⟩ := h
  obtain ⟨y0, n, hx, _, h0⟩ := trod_struct1 hs hf
  obtain ⟨o0, k0⟩ := hone_of hone 0 f0 rfl
  simp only [Prod.mk.injEq] at hx
  exact ⟨c0, y0, n, rfl, hx.1, hx.2, by simpa [Value.cells, o0, k0] using h0⟩

/-- A slice of ints that reads: its numbers. -/
theorem open_at {t e : TypeId} {fuel n c : Nat} {a : Option Addr} {x : DataW H × List MemPlace} (ht : P.underlying t = some (.slice e)) (he : P.underlying e = some (.int .i64)) (hC : P.cellsOf e = 1)
    (h : DataW.trod enc P w base spare held fuel t [.slice a n c] = some x) : ∃ zs : List Int, zs.length = n ∧ n ≤ 9223372036854775807 ∧ At w a zs := by
  rcases open_ints ht he hC h with ⟨hcs, _⟩ | ⟨ad, l, c', zs, hcs, _, hl, hm, hz, _, hcell, _⟩
  · simp at hcs
    obtain ⟨rfl, rfl, rfl⟩ := hcs
    exact ⟨[], rfl, by omega, At.nil _ _⟩
  · simp at hcs
    obtain ⟨rfl, rfl, rfl⟩ := hcs
    unfold maxLen at hm
    have hz' : n ≤ zs.length := by split at hz <;> omega
    refine ⟨zs.take n, by simp; omega, by omega, ?_⟩
    by_cases h0 : n = 0
    · left; simp [h0]
    · right
      obtain ⟨b, off, spot⟩ := ad
      have hc := hcell 0 (by omega)
      have hspot : spot = none := by simpa [Addr.add] using World.cell?_spot hc
      subst hspot
      refine ⟨b, off, rfl, fun i hi => ?_⟩
      have hin : i < n := by simp at hi; omega
      have := hcell i (by omega)
      rw [show (zs.take n).getD i 0 = zs.getD i 0 by simp [List.getD, hin]]
      rw [Addr.add_lit] at this
      exact this

/-- A struct of one slice of ints, by value. -/
theorem open_row {r : Reach} {b0 : Nat} {t ts e : TypeId} {f0 : Field} {v : Value} {d : DataW H} {p : List MemPlace} (hs : P.underlying t = some (.struct #[f0])) (hf0 : f0.type = ts) (hone : oneCellFields P #[f0] = true) (hC : P.cellsOf t = 1)
    (ht : P.underlying ts = some (.slice e)) (he : P.underlying e = some (.int .i64)) (hCe : P.cellsOf e = 1)
    (hv : Value.okWide P w r b0 t v) (h : DataW.Trod enc P w base spare held t v d p) : ∃ a n c, v = .agg #[.slice a n c] ∧ ∃ zs : List Int, zs.length = n ∧ n ≤ 9223372036854775807 ∧ At w a zs := by
  obtain ⟨v0, y0, m, rfl, _, _, h0⟩ := open_agg1 hs hone hC hv h
  subst hf0
  obtain ⟨a, n, c, hcs⟩ := slice_form ht h0
  obtain rfl : v0 = .slice a n c := by simpa using hcs
  exact ⟨a, n, c, rfl, open_at ht he hCe h0⟩
end

end Go.Proofs.Yteggbamjfhbmfaa

/- Opening things in memory among the laws' arguments, by their shape. -/
namespace Go.Proofs.Yteggbamjfhbmfaa
open Go.ChangeShapes Go.WideShapes Go.ChangeAt Go.RowKit Go.Joins Go.Deep

section
variable {H : Type} (enc : TypeId × Value → H) (P : Program) (w : World) (base : Nat) (held : Bool)
/-- Whatever reads as a value of type t is such a thing. -/
def Opens {α : Type} (t : TypeId) (A : Rep α) : Prop := ∀ fuel cs x, DataW.trod enc P w base (fun _ => true) held fuel t cs = some x → ∃ y, A.At w cs y
variable {enc P w base held}

theorem Opens.int {t : TypeId} (ht : P.underlying t = some (.int .i64)) : Opens enc P w base held t Rep.int := fun fuel cs x h => by
  obtain ⟨z, hz, _, _⟩ := DataW.trod_int ht h
  exact ⟨z, hz⟩

theorem Opens.slice {α : Type} [Inhabited α] {A : Rep α} {t e e' : TypeId} (ht : P.underlying t = some (.slice e)) (ce : P.cellsOf e = A.k) (hA : Opens enc P w base held e A) (hk : 0 < A.k) : Opens enc P w base held t (Rep.slice e' A) := fun fuel cs x h => by
  rcases open_slice ht h with ⟨rfl, _⟩ | ⟨ad, len, cap, m, k, D, Pl, rfl, _, hl, hm, hmm, _, hx⟩
  · exact ⟨[], none, 0, 0, rfl, rfl, by omega, .inl rfl, fun _ => rfl⟩
  · simp only [if_true] at hmm
    subst hmm
    unfold maxLen at hm
    have each : ∀ i, i < len → ∃ y : α × List Value, (∀ j v, y.2[j]? = some v → w.cell? (ad.add (i * A.k + j)) = some v) ∧ A.At w y.2 y.1 ∧ y.2.length = A.k := by
      intro i hi
      obtain ⟨cs', h1, h2⟩ := hx i (by omega)
      rw [ce] at h1
      obtain ⟨_, hlen, hcell⟩ := World.cells?_some h1
      obtain ⟨y, hy⟩ := hA _ _ _ h2
      refine ⟨(y, cs'), fun j v hv => ?_, hy, by simpa using hlen⟩
      have hj := (List.getElem?_eq_some_iff.1 hv).1
      have := hcell j (by have h5 : cs'.length = A.k := hlen; have h6 : j < cs'.length := hj; omega)
      rw [add_add] at this
      rw [this]
      simpa using hv
    obtain ⟨y, hy⟩ := choose_lt each
    refine ⟨(List.range len).map fun i => (y i).1, some ad, len, _, rfl, by simp, by omega, ?_, fun h => by cases h⟩
    by_cases h0 : len = 0
    · left; simp [h0]
    · right
      obtain ⟨b, off, spot⟩ := ad
      obtain ⟨e1, _, e3⟩ := hy 0 (by omega)
      obtain ⟨v0, hv0⟩ : ∃ v0, (y 0).2[0]? = some v0 := ⟨_, List.getElem?_eq_getElem (by omega)⟩
      have hc0 := e1 0 v0 hv0
      have hspot : spot = none := by simpa [Addr.add] using World.cell?_spot hc0
      subst hspot
      refine ⟨b, off, rfl, fun i x hx' => ?_⟩
      have hi : i < len := by have := (List.getElem?_eq_some_iff.1 hx').1; simpa using this
      obtain ⟨k1, k2, _⟩ := hy i hi
      have hxe : (y i).1 = x := by simpa [hi] using hx'
      refine ⟨(y i).2, fun j v hv => ?_, hxe ▸ k2⟩
      have := k1 j v hv
      rw [Addr.add_lit] at this
      rw [Nat.add_assoc]; exact this

theorem take_one {cs : List Value} {v : Value} (i : Nat) (h : cs[i]? = some v) : (cs.drop i).take 1 = [v] := by
  obtain ⟨hi, rfl⟩ := List.getElem?_eq_some_iff.1 h
  rw [List.drop_eq_getElem_cons hi]; rfl

theorem Opens.struct2 {α β : Type} {A : Rep α} {B : Rep β} {t : TypeId} {f0 f1 : Field} (ht : P.underlying t = some (.struct #[f0, f1])) (hC : P.cellsOf t = 2) (o0 : f0.offset = 0) (o1 : f1.offset = 1)
    (c0 : P.cellsOf f0.type = 1) (c1 : P.cellsOf f1.type = 1) (h0 : Opens enc P w base held f0.type A) (h1 : Opens enc P w base held f1.type B) : Opens enc P w base held t (Rep.pair A B) := fun fuel cs x h => by
  obtain ⟨xs, n, _, rfl, hl, hlen, hf⟩ := DataW.trod_struct ht h
  match xs, hlen, cs, hl.trans hC with
  | [y0, y1], _, [v0, v1], _ =>
    have g0 := hf 0 f0 rfl
    have g1 := hf 1 f1 rfl
    simp [o0, o1, c0, c1] at g0 g1
    obtain ⟨x0, q0⟩ := h0 _ _ _ g0
    obtain ⟨x1, q1⟩ := h1 _ _ _ g1
    exact ⟨(x0, x1), [v0], [v1], rfl, q0, q1⟩

theorem Opens.struct3 {α β γ : Type} {A : Rep α} {B : Rep β} {C : Rep γ} {t : TypeId} {f0 f1 f2 : Field} (ht : P.underlying t = some (.struct #[f0, f1, f2])) (hC : P.cellsOf t = 3) (o0 : f0.offset = 0) (o1 : f1.offset = 1) (o2 : f2.offset = 2)
    (c0 : P.cellsOf f0.type = 1) (c1 : P.cellsOf f1.type = 1) (c2 : P.cellsOf f2.type = 1) (h0 : Opens enc P w base held f0.type A) (h1 : Opens enc P w base held f1.type B) (h2 : Opens enc P w base held f2.type C) : Opens enc P w base held t (Rep.pair A (Rep.pair B C)) := fun fuel cs x h => by
  obtain ⟨xs, n, _, rfl, hl, hlen, hf⟩ := DataW.trod_struct ht h
  match xs, hlen, cs, hl.trans hC with
  | [y0, y1, y2], _, [v0, v1, v2], _ =>
    have g0 := hf 0 f0 rfl
    have g1 := hf 1 f1 rfl
    have g2 := hf 2 f2 rfl
    simp [o0, o1, o2, c0, c1, c2] at g0 g1 g2
    obtain ⟨x0, q0⟩ := h0 _ _ _ g0
    obtain ⟨x1, q1⟩ := h1 _ _ _ g1
    obtain ⟨x2, q2⟩ := h2 _ _ _ g2
    exact ⟨(x0, x1, x2), [v0], _, rfl, q0, [v1], [v2], rfl, q1, q2⟩

theorem Opens.struct6 {α β γ δ ε ζ : Type} {A : Rep α} {B : Rep β} {C : Rep γ} {D : Rep δ} {E : Rep ε} {Z : Rep ζ} {t : TypeId} {f0 f1 f2 f3 f4 f5 : Field} (ht : P.underlying t = some (.struct #[f0, f1, f2, f3, f4, f5])) (hC : P.cellsOf t = 6)
    (o0 : f0.offset = 0) (o1 : f1.offset = 1) (o2 : f2.offset = 2) (o3 : f3.offset = 3) (o4 : f4.offset = 4) (o5 : f5.offset = 5)
    (c0 : P.cellsOf f0.type = 1) (c1 : P.cellsOf f1.type = 1) (c2 : P.cellsOf f2.type = 1) (c3 : P.cellsOf f3.type = 1) (c4 : P.cellsOf f4.type = 1) (c5 : P.cellsOf f5.type = 1)
    (h0 : Opens enc P w base held f0.type A) (h1 : Opens enc P w base held f1.type B) (h2 : Opens enc P w base held f2.type C) (h3 : Opens enc P w base held f3.type D) (h4 : Opens enc P w base held f4.type E) (h5 : Opens enc P w base held f5.type Z) :
    Opens enc P w base held t (Rep.pair A (Rep.pair B (Rep.pair C (Rep.pair D (Rep.pair E Z))))) := fun fuel cs x h => by
  obtain ⟨xs, n, _, rfl, hl, hlen, hf⟩ := DataW.trod_struct ht h
  match xs, hlen, cs, hl.trans hC with
  | [y0, y1, y2, y3, y4, y5], _, [v0, v1, v2, v3, v4, v5], _ =>
    have g0 := hf 0 f0 rfl
    have g1 := hf 1 f1 rfl
    have g2 := hf 2 f2 rfl
    have g3 := hf 3 f3 rfl
    have g4 := hf 4 f4 rfl
    have g5 := hf 5 f5 rfl
    simp [o0, o1, o2, o3, o4, o5, c0, c1, c2, c3, c4, c5] at g0 g1 g2 g3 g4 g5
    obtain ⟨x0, q0⟩ := h0 _ _ _ g0
    obtain ⟨x1, q1⟩ := h1 _ _ _ g1
    obtain ⟨x2, q2⟩ := h2 _ _ _ g2
    obtain ⟨x3, q3⟩ := h3 _ _ _ g3
    obtain ⟨x4, q4⟩ := h4 _ _ _ g4
    obtain ⟨x5, q5⟩ := h5 _ _ _ g5
    exact ⟨(x0, x1, x2, x3, x4, x5), [v0], _, rfl, q0, [v1], _, rfl, q1, [v2], _, rfl, q2, [v3], _, rfl, q3, [v4], [v5], rfl, q4, q5⟩

/-- A struct by value. -/
theorem open_struct {α : Type} {A : Rep α} {r : Reach} {b0 : Nat} {t : TypeId} {fs : Array Field} {v : Value} {d : DataW H} {p : List MemPlace} (hs : P.underlying t = some (.struct fs)) (hA : Opens enc P w base held t A) (hv : Value.okWide P w r b0 t v)
    (h : DataW.Trod enc P w base (fun _ => true) held t v d p) : ∃ cs x, v = .agg cs.toArray ∧ A.At w cs x := by
  obtain ⟨cs, rfl, _⟩ := okWide_struct hs hv
  obtain ⟨fuel, hf⟩ := h
  obtain ⟨x, hx⟩ := hA _ _ _ hf
  exact ⟨_, x, by simp [Value.cells], hx⟩
end

end Go.Proofs.Yteggbamjfhbmfaa

/- Opening statistics among the laws' arguments. -/
namespace Go.Proofs.Yteggbamjfhbmfaa
open Go.ChangeShapes Go.WideShapes Go.ChangeAt Go.RowKit Go.Joins Go.Deep

section
variable {H : Type} {enc : TypeId × Value → H} {w : World} {base b0 : Nat} {held : Bool}
set_option maxRecDepth 100000 in
theorem opens_stats : Opens enc Try.prog w base held 50 RSta := by
  have oi : Opens enc Try.prog w base held 3 Rep.int := Opens.int Try.underlying3
  have ois : Opens enc Try.prog w base held 22 RInts := Opens.slice Try.underlying22 (by kernel_rfl) oi (by decide)
  have oa : Opens enc Try.prog w base held 48 RPairs := Opens.slice Try.underlying48 (by kernel_rfl) ois (by decide)
  exact Opens.struct2 Try.underlying50 (by kernel_rfl) rfl rfl (by kernel_rfl) (by kernel_rfl) ois oa

set_option maxRecDepth 100000 in
/-- A statistics by value. -/
theorem open_stats {r : Reach} {v : Value} {d : DataW H} {p : List MemPlace} (hv : Value.okWide Try.prog w r b0 50 v) (h : DataW.Trod enc Try.prog w base (fun _ => true) held 50 v d p) :
    ∃ (fa : Option Addr) (fn fc : Nat) (ta : Option Addr) (tn tc : Nat) (z : Sta), v = .agg #[.slice fa fn fc, .slice ta tn tc] ∧ RSta.At w [.slice fa fn fc, .slice ta tn tc] z := by
  obtain ⟨cs, x, rfl, hx⟩ := open_struct Try.underlying50 opens_stats hv h
  obtain ⟨fa, fn, fc, ta, tn, tc, rfl⟩ := RSta.at_open hx
  exact ⟨fa, fn, fc, ta, tn, tc, x, rfl, hx⟩
end

end Go.Proofs.Yteggbamjfhbmfaa
