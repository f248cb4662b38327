/- Several texts of one proof, in build order: ErX, EaL, LawEarsOf, Open. -/
import Derived.Test.YteggbamjfhbmfaaM14
import Derived.Test.YteggbamjfhbmfaaM5
import Derived.Test.YteggbamjfhbmfaaM0
import Derived.ProofKit
import Derived.OpenShut
import Derived.ShutString
import Derived.ChangeOld
import Derived.Lib.SmallJoins

/- Contracts of impl.EarsOf, spec.EarsOf. -/
namespace Go.Proofs.Yteggbamjfhbmfaa
open Go.RowKit

def erL (hs : List Int) (zs : List Atm) (ts : List Int) : List (Int × Int) := if gqB hs zs ts = true then (earsF (edges zs) zs.length (upN zs.length)).1 else []
def erA (hs : List Int) (zs : List Atm) (ts : List Int) : Bool := if gqB hs zs ts = true then (earsF (edges zs) zs.length (upN zs.length)).2 else false
theorem EarRet.zero {w' : World} {lo : Nat} {hs : List Int} {zs : List Atm} {ts : List Int} (h : gqB hs zs ts = false) : EarRet (.returned (.tuple #[.slice none 0 0, .bool false, .bool false])) w' lo (erA hs zs ts) (gqB hs zs ts) (erL hs zs ts) := by
  have e1 : erA hs zs ts = false := by unfold erA; rw [h]; rfl
  have e2 : erL hs zs ts = [] := by unfold erL; rw [h]; rfl
  rw [e1, e2, h]
  exact ⟨none, 0, 0, rfl, rfl, World.ownsRow_nil _ _ _ _⟩
theorem gq_some {hs : List Int} {zs : List Atm} {ts : List Int} (h : gqB hs zs ts = true) : 1 ≤ zs.length := by
  simp only [gqB, Bool.and_eq_true, decide_eq_true_eq] at h
  exact h.1.1.1.1.2

set_option maxRecDepth 100000 in
set_option maxHeartbeats 4000000 in
theorem implEarsOf (ha : Option Addr) (hn hc : Nat) (hs : List Int) (a : Option Addr) (n c : Nat) (zs : List Atm) (ta : Option Addr) (tn tc : Nat) (ts : List Int) (w : World) (hh : hs.length = hn) (hhb : hn ≤ 9223372036854775807) (hat : At w ha hs) (hz : zs.length = n) (hb : n ≤ 9223372036854775807) (haz : AtQ w a zs) (htz : ts.length = tn) (htb : tn ≤ 9223372036854775807) (hta : At w ta ts) :
    Calls Try.prog 13 #[.agg #[.slice ha hn hc, .slice a n c], .slice ta tn tc] w fun e w' => EarRet e w' w.heap.size (erA hs zs ts) (gqB hs zs ts) (erL hs zs ts) ∧ Below w.heap.size w w' := by
  obtain ⟨W, hW⟩ : ∃ W, W = w.alloc (.cells #[.slice ha hn hc, .slice a n c] 32) := ⟨_, rfl⟩
  have B0 : Below w.heap.size w W := by rw [hW]; exact (Below.refl _ _).alloc (Nat.le_refl _) _
  have q0 : W.cell? ⟨w.heap.size, 0, none⟩ = some (.slice ha hn hc) := by rw [hW]; exact pair0 w _ _ _
  have q1 : W.cell? ⟨w.heap.size, 1, none⟩ = some (.slice a n c) := by rw [hW]; exact pair1 w _ _ _
  have HZ := Hid.mk hz
  have HC := Hid.mk (implEdgesOf ha hn hc hs a n c zs ta tn tc ts W hh hhb (At.below hat B0) hz hb (AtSl.below haz B0) htz htb (At.below hta B0))
  clear hh hat hz haz htz hta
  go_enter Try.func13, Try.ntmps13
  go_upto_region 1 with fail
  rw [← hW]
  clear hW
  go_wp2_with fail
  refine HC.out.mono ?_
  rintro e w1 ⟨⟨r1, m1, d1, rfl, ho1⟩, B1⟩
  have BW := B0.trans (B1.mono B0.size)
  clear HC
  cases hg : gqB hs zs ts with
  | false =>
    have HN := Hid.mk (EarRet.zero (w' := w1) (lo := w.heap.size) hg)
    clear ho1 hg
    go_wp2
    exact bodyPost_ret (v := .tuple #[.slice none 0 0, .bool false, .bool false]) (by simp [results, Try.results13, go_sem]) rfl ⟨HN.out, BW⟩
  | true =>
    rw [edL_yes hg] at ho1
    obtain ⟨hl1, hat1⟩ := pairs_at ho1
    rw [edges_len, HZ.out] at hl1
    subst hl1
    have h15 : 1 ≤ n ∧ n ≤ 5 := by have := gq_some hg; have := (gq_ok hg).1; have := HZ.out; omega
    have K := Hid.mk (takenEars_any r1 n d1 (edges zs) w1 (by rw [edges_len]; exact HZ.out) h15.1 h15.2 hat1)
    have HR : Hid (erA hs zs ts = (earsF (edges zs) n (upN n)).2 ∧ erL hs zs ts = (earsF (edges zs) n (upN n)).1) := by
      refine ⟨?_, ?_⟩
      · unfold erA; rw [if_pos hg, HZ.out]
      · unfold erL; rw [if_pos hg, HZ.out]
    have HG := Hid.mk hg
    obtain ⟨F, hF⟩ : ∃ F, earsF (edges zs) n (upN n) = F := ⟨_, rfl⟩
    rw [hF] at K HR
    clear ho1 hat1 hg hF
    go_wp2_with fail
    refine K.out.mono ?_
    rintro e w2 ⟨r2, m2, d2, rfl, hm2, ho2, hb2⟩
    have HM := Hid.mk hm2
    have HO := Hid.mk (owns_mono ho2 BW.size)
    have HB := Hid.mk (BW.trans (hb2.mono BW.size))
    clear hm2 ho2 hb2 K
    go_wp2
    refine bodyPost_ret (v := .tuple #[.slice r2 m2 d2, .bool F.2, .bool true]) (by simp [results, Try.results13, go_sem]) rfl ⟨?_, HB.out⟩
    rw [HR.out.1, HR.out.2, HG.out]
    exact ⟨r2, m2, d2, rfl, HM.out, HO.out⟩

set_option maxRecDepth 100000 in
set_option maxHeartbeats 4000000 in
theorem specEarsOf (ha : Option Addr) (hn hc : Nat) (hs : List Int) (a : Option Addr) (n c : Nat) (zs : List Atm) (ta : Option Addr) (tn tc : Nat) (ts : List Int) (w : World) (hh : hs.length = hn) (hhb : hn ≤ 9223372036854775807) (hat : At w ha hs) (hz : zs.length = n) (hb : n ≤ 9223372036854775807) (haz : AtQ w a zs) (htz : ts.length = tn) (htb : tn ≤ 9223372036854775807) (hta : At w ta ts) :
    Calls Try.prog 10 #[.agg #[.slice ha hn hc, .slice a n c], .slice ta tn tc] w fun e w' => EarRet e w' w.heap.size (erA hs zs ts) (gqB hs zs ts) (erL hs zs ts) ∧ Below w.heap.size w w' := by
  obtain ⟨W, hW⟩ : ∃ W, W = w.alloc (.cells #[.slice ha hn hc, .slice a n c] 32) := ⟨_, rfl⟩
  have B0 : Below w.heap.size w W := by rw [hW]; exact (Below.refl _ _).alloc (Nat.le_refl _) _
  have q0 : W.cell? ⟨w.heap.size, 0, none⟩ = some (.slice ha hn hc) := by rw [hW]; exact pair0 w _ _ _
  have q1 : W.cell? ⟨w.heap.size, 1, none⟩ = some (.slice a n c) := by rw [hW]; exact pair1 w _ _ _
  have HZ := Hid.mk hz
  have HA := Hid.mk haz
  have HC := Hid.mk (specGoodQuery ha hn hc hs a n c zs ta tn tc ts W hh hhb (At.below hat B0) hz hb (AtSl.below haz B0) htz htb (At.below hta B0))
  clear hh hat hz haz htz hta
  go_enter Try.func10, Try.ntmps10
  go_upto_region 1 with fail
  rw [← hW]
  clear hW
  go_wp2_with fail
  refine HC.out.mono ?_
  rintro e w1 ⟨rfl, B1⟩
  have BW := B0.trans (B1.mono B0.size)
  have q0 := cell_later B1 q0
  have q1 := cell_later B1 q1
  clear HC
  cases hg : gqB hs zs ts with
  | false =>
    have HN := Hid.mk (EarRet.zero (w' := w1) (lo := w.heap.size) hg)
    clear hg
    go_wp2
    exact bodyPost_ret (v := .tuple #[.slice none 0 0, .bool false, .bool false]) (by simp [results, Try.results10, go_sem]) rfl ⟨HN.out, BW⟩
  | true =>
    have h15 : 1 ≤ n ∧ n ≤ 5 := by have := gq_some hg; have := (gq_ok hg).1; have := HZ.out; omega
    have K := Hid.mk (l11Ears_any ha hn hc a n c zs w1 HZ.out h15.1 h15.2 (AtSl.below HA.out BW) (gq_ok hg).2)
    have HR : Hid (erA hs zs ts = (earsF (edges zs) n (upN n)).2 ∧ erL hs zs ts = (earsF (edges zs) n (upN n)).1) := by
      refine ⟨?_, ?_⟩
      · unfold erA; rw [if_pos hg, HZ.out]
      · unfold erL; rw [if_pos hg, HZ.out]
    have HG := Hid.mk hg
    obtain ⟨F, hF⟩ : ∃ F, earsF (edges zs) n (upN n) = F := ⟨_, rfl⟩
    rw [hF] at K HR
    clear hg hF
    go_wp2_with fail
    refine K.out.mono ?_
    rintro e w2 ⟨r2, m2, d2, rfl, hm2, ho2, hb2⟩
    have HM := Hid.mk hm2
    have HO := Hid.mk (owns_mono ho2 BW.size)
    have HB := Hid.mk (BW.trans (hb2.mono BW.size))
    clear hm2 ho2 hb2 K
    go_wp2
    refine bodyPost_ret (v := .tuple #[.slice r2 m2 d2, .bool F.2, .bool true]) (by simp [results, Try.results10, go_sem]) rfl ⟨?_, HB.out⟩
    rw [HR.out.1, HR.out.2, HG.out]
    exact ⟨r2, m2, d2, rfl, HM.out, HO.out⟩

end Go.Proofs.Yteggbamjfhbmfaa

/- Ears that are told, as things that are owned. -/
namespace Go.Proofs.Yteggbamjfhbmfaa
open Go.RowKit

theorem ears_flat : ∀ l : List (Int × Int), flatE l = (flEar l).map (.int .i64)
  | [] => rfl
  | x :: l => by
    have ih := ears_flat l
    unfold flatE at *
    show _ = (flatF enEar (x :: l)).map (Value.int .i64)
    unfold flatF
    rw [List.flatMap_cons, List.flatMap_cons, List.map_append, ih]
    rfl
theorem ears_own {w : World} {base : Nat} {a : Option Addr} {n c : Nat} {xs : List TEar} (hz : xs.length = n) (hn : n ≤ 9223372036854775807) (h : w.ownsRow base 71 2 (.slice a n c) n (flatE xs)) : REars.Own w (From base w.heap.size) [.slice a n c] xs :=
  REars.of_owns hz hn (by rw [← ears_flat]; exact h)
theorem earsF_lenN (E : List (List Int)) : ∀ (f : Nat) (L : List Int), (earsF E f L).1.length ≤ f
  | 0, L => by simp [earsF]
  | f + 1, L => by
    have := earsF_lenN E f
    by_cases h : L.length ≤ 1
    · rw [earsF_end h]; simp
    · cases hE : earO E L with
      | none => rw [earsF_none h hE]; simp
      | some ku =>
        rw [earsF_some h hE]
        have h9 := this (woI L ku.1)
        simp only [List.length_cons]
        omega
theorem er_small (hs : List Int) (zs : List Atm) (ts : List Int) : (erL hs zs ts).length ≤ 5 := by
  unfold erL
  split
  · rename_i h
    have := (gq_ok h).1
    exact Nat.le_trans (earsF_lenN _ _ _) this
  · simp

end Go.Proofs.Yteggbamjfhbmfaa

/- The law FnExactEarsOf returns true at every input, and writes nothing that was there. -/
namespace Go.Proofs.Yteggbamjfhbmfaa
open Go.RowKit

set_option maxRecDepth 100000 in
set_option maxHeartbeats 16000000 in
theorem lawEarsOf (fa0 : Option Addr) (fn0 fc0 : Nat) (ta0 : Option Addr) (tn0 tc0 : Nat) (z0 : Qry) (a1 : Option Addr) (n1 c1 : Nat) (z1 : List Int) (w : World) (ha0 : RQry.At w [.slice fa0 fn0 fc0, .slice ta0 tn0 tc0] z0) (hz1 : z1.length = n1) (hn1 : n1 ≤ 9223372036854775807) (ha1 : At w a1 z1) :
    Calls Try.prog 3 #[.agg #[.slice fa0 fn0 fc0, .slice ta0 tn0 tc0], .slice a1 n1 c1] w fun e w' => e = .returned (.bool true) ∧ Below w.heap.size w w' := by
  obtain ⟨zf0, zt0⟩ := z0
  obtain ⟨⟨h10, h20, h30, _⟩, ⟨k10, k20, k30, _⟩⟩ := RQry.at_iff ha0
  have HA0 := Hid.mk (And.intro h30 k30)
  have HZ0 : Hid (zf0.length = fn0 ∧ zt0.length = tn0) := ⟨h10, k10⟩
  clear ha0 h10 h30 k10 k30
  have HA1 := Hid.mk ha1
  have HZ1 := Hid.mk hz1
  clear ha1 hz1
  obtain ⟨W, hW⟩ : ∃ W, W = w.alloc (.cells #[.slice fa0 fn0 fc0, .slice ta0 tn0 tc0] 25) := ⟨_, rfl⟩
  have B0 : Below w.heap.size w W := by rw [hW]; exact (Below.refl _ _).alloc (Nat.le_refl _) _
  have zW : w.heap.size < W.heap.size := by rw [hW]; simp
  have p00_0 : W.cell? ⟨w.heap.size, 0, none⟩ = some (.slice fa0 fn0 fc0) := by rw [hW]; simp
  have p01_0 : W.cell? ⟨w.heap.size, 1, none⟩ = some (.slice ta0 tn0 tc0) := by rw [hW]; simp
  by_cases big1 : 1048576 < n1
  · have big1' : (1048576 : Int) < (n1 : Int) := by omega
    go_enter Try.func3, Try.ntmps3
    go_wp2
    go_ret
    exact ⟨rfl, by rw [← hW]; exact B0⟩
  have hb1' : ¬ (1048576 : Int) < (n1 : Int) := by omega
  have hsn1 : n1 ≤ 1048576 := by omega
  have HVB1 := hsn1
  obtain ⟨C0, hC0⟩ : ∃ C : Nat, qcost (zf0, zt0) = C := ⟨_, rfl⟩
  have HC0 := Hid.mk hC0
  clear hC0
  by_cases big0 : (1048576 : Int) < (C0 : Int)
  · go_enter Try.func3, Try.ntmps3
    go_wp2_with fail
    rw [← hW]
    clear hW
    refine (szQuery_any fa0 fn0 fc0 ta0 tn0 tc0 zf0 zt0 _ _ HZ0.out.1 h20 HZ0.out.2 k20 (by omega) (by omega) (AtSl.below HA0.out.2 B0)).mono ?_
    rintro e v0 ⟨rfl, hv0⟩
    rw [HC0.out, leftOf_no big0]
    have y0 := B0.trans (hv0.mono B0.size)
    go_wp2
    go_ret
    exact ⟨rfl, y0⟩
  have hl0 : ¬ (1048576 : Int) - (C0 : Int) < 0 := by omega
  have HSM0 : Hid (fn0 ≤ 1048576 ∧ SmA zt0 tn0 ∧ qmk (zf0, zt0) ≤ 1048576) := qry_small HZ0.out.1 HZ0.out.2 (by have := HC0.out; omega)
  have hs10 := HSM0.out.1
  have hs20 : tn0 ≤ 1048576 := HSM0.out.2.1.n
  have HVB0 := HSM0.out.2.2
  obtain ⟨V0, hV0⟩ : ∃ V : Nat, qmk (zf0, zt0) = V := ⟨_, rfl⟩
  rw [hV0] at HVB0
  have HV0 := Hid.mk hV0
  clear hV0
  obtain ⟨v0, v1, ta, hta, HS, HI⟩ : ∃ (v0 v1 : Bool) (ta : List TEar), ta.length ≤ 5 ∧ Hid (∀ (x0 y0 : Nat) (x1 : Nat) (w : World) (F0 F1 : Nat → Prop), RQry.Own w F0 [.slice (some ⟨x0, 0, none⟩) fn0 fn0, .slice (some ⟨y0, 0, none⟩) tn0 tn0] (zf0, zt0) → RInts.Own w F1 [.slice (some ⟨x1, 0, none⟩) n1 n1] z1 → Calls Try.prog 10 #[.agg #[.slice (some ⟨x0, 0, none⟩) fn0 fn0, .slice (some ⟨y0, 0, none⟩) tn0 tn0], .slice (some ⟨x1, 0, none⟩) n1 n1] w fun e w' => EarRet e w' w.heap.size v0 v1 ta ∧ Below w.heap.size w w') ∧ Hid (∀ (x0 y0 : Nat) (x1 : Nat) (w : World) (F0 F1 : Nat → Prop), RQry.Own w F0 [.slice (some ⟨x0, 0, none⟩) fn0 fn0, .slice (some ⟨y0, 0, none⟩) tn0 tn0] (zf0, zt0) → RInts.Own w F1 [.slice (some ⟨x1, 0, none⟩) n1 n1] z1 → Calls Try.prog 13 #[.agg #[.slice (some ⟨x0, 0, none⟩) fn0 fn0, .slice (some ⟨y0, 0, none⟩) tn0 tn0], .slice (some ⟨x1, 0, none⟩) n1 n1] w fun e w' => EarRet e w' w.heap.size v0 v1 ta ∧ Below w.heap.size w w') := ⟨erA zf0 zt0 z1, gqB zf0 zt0 z1, erL zf0 zt0 z1, er_small zf0 zt0 z1, fun x0 y0 x1 w F0 F1 o0 o1 => specEarsOf (some ⟨x0, 0, none⟩) fn0 fn0 zf0 (some ⟨y0, 0, none⟩) tn0 tn0 zt0 (some ⟨x1, 0, none⟩) n1 n1 z1 w HZ0.out.1 h20 (qry_at o0).1 HZ0.out.2 k20 (qry_at o0).2 HZ1.out hn1 (ints_at o1), fun x0 y0 x1 w F0 F1 o0 o1 => implEarsOf (some ⟨x0, 0, none⟩) fn0 fn0 zf0 (some ⟨y0, 0, none⟩) tn0 tn0 zt0 (some ⟨x1, 0, none⟩) n1 n1 z1 w HZ0.out.1 h20 (qry_at o0).1 HZ0.out.2 k20 (qry_at o0).2 HZ1.out hn1 (ints_at o1)⟩
  obtain ⟨na, hna⟩ : ∃ na, ta.length = na := ⟨_, rfl⟩
  rw [hna] at hta
  have HNA := Hid.mk hna
  clear hna
  obtain ⟨VA, hVA⟩ : ∃ V : Nat, na * 2 = V := ⟨_, rfl⟩
  have hvA : VA ≤ 1048576 := by omega
  have HVA := Hid.mk hVA
  clear hVA
  go_enter Try.func3, Try.ntmps3
  go_wp2_with fail
  rw [← hW]
  clear hW
  refine (szQuery_any fa0 fn0 fc0 ta0 tn0 tc0 zf0 zt0 _ _ HZ0.out.1 h20 HZ0.out.2 k20 (by omega) (by omega) (AtSl.below HA0.out.2 B0)).mono ?_
  rintro e w1 ⟨rfl, hb1⟩
  rw [HC0.out, leftOf_yes (by omega)]
  have p00_1 := cell_later hb1 p00_0
  have p01_1 := cell_later hb1 p01_0
  have B_1 := B0.trans (hb1.mono B0.size)
  have zz1 : W.heap.size ≤ w1.heap.size := hb1.size
  clear p00_0 p01_0
  clear hb1
  go_wp2_with fail
  refine (toQuery_any fa0 fn0 fc0 ta0 tn0 tc0 zf0 zt0 _ HZ0.out.1 HZ0.out.2 hs10 hs20 (fun _ _ h => HSM0.out.2.1.each h) (At.below HA0.out.1 B_1) (AtSl.below HA0.out.2 B_1)).mono ?_
  rintro e w2 ⟨g2_1, g2_2, rfl, ho2, hb2⟩
  have ot0_2 := Hid.mk ho2
  clear ho2
  have p00_2 := cell_later hb2 p00_1
  have p01_2 := cell_later hb2 p01_1
  have B_2 := B_1.trans (hb2.mono B_1.size)
  have zz2 : w1.heap.size ≤ w2.heap.size := hb2.size
  clear p00_1 p01_1 B_1
  clear hb2
  go_wp2_with fail
  refine (toInts_rep a1 n1 c1 z1 _ HZ1.out hsn1 (At.below HA1.out B_2)).mono ?_
  rintro e w3 ⟨g3, rfl, ho3, hb3⟩
  have ot1_3 := Hid.mk ho3
  clear ho3
  have p00_3 := cell_later hb3 p00_2
  have p01_3 := cell_later hb3 p01_2
  have ot0_3 := Hid.mk (RQry.ownBelow ot0_2.out hb3)
  have B_3 := B_2.trans (hb3.mono B_2.size)
  have zz3 : w2.heap.size ≤ w3.heap.size := hb3.size
  clear p00_2 p01_2 ot0_2 B_2
  clear hb3
  go_wp2_with fail
  refine (HS.out _ _ _ _ _ _ ot0_3.out ot1_3.out).mono ?_
  rintro e w4 ⟨⟨r4, m4, d4, rfl, hm4, ho4⟩, hb4⟩
  clear ot0_3
  clear ot1_3
  obtain rfl : na = m4 := HNA.out.symm.trans hm4
  have oo_4 := Hid.mk (ears_own HNA.out (by omega) ho4)
  clear ho4 hm4
  have p00_4 := cell_later hb4 p00_3
  have p01_4 := cell_later hb4 p01_3
  have B_4 := B_3.trans (hb4.mono B_3.size)
  have zz4 : w3.heap.size ≤ w4.heap.size := hb4.size
  clear p00_3 p01_3 B_3
  clear hb4
  go_wp2_with fail
  refine (toQuery_any fa0 fn0 fc0 ta0 tn0 tc0 zf0 zt0 _ HZ0.out.1 HZ0.out.2 hs10 hs20 (fun _ _ h => HSM0.out.2.1.each h) (At.below HA0.out.1 B_4) (AtSl.below HA0.out.2 B_4)).mono ?_
  rintro e w5 ⟨g5_1, g5_2, rfl, ho5, hb5⟩
  have ox0_5 := Hid.mk ho5
  clear ho5
  have p00_5 := cell_later hb5 p00_4
  have p01_5 := cell_later hb5 p01_4
  have oo_5 := Hid.mk (REars.ownBelow oo_4.out hb5)
  have B_5 := B_4.trans (hb5.mono B_4.size)
  have zz5 : w4.heap.size ≤ w5.heap.size := hb5.size
  clear p00_4 p01_4 oo_4 B_4
  clear hb5
  obtain ⟨w6, hU6⟩ : ∃ u, u = w5.alloc (.cells #[.slice (some ⟨g5_1, 0, none⟩) fn0 fn0, .slice (some ⟨g5_2, 0, none⟩) tn0 tn0] 32) := ⟨_, rfl⟩
  have hb6 : Below w5.heap.size w5 w6 := by rw [hU6]; exact (Below.refl _ _).alloc (Nat.le_refl _) _
  have zl6 : w5.heap.size < w6.heap.size := by rw [hU6]; simp
  have nX00 : w6.cell? ⟨w5.heap.size, 0, none⟩ = some (.slice (some ⟨g5_1, 0, none⟩) fn0 fn0) := by rw [hU6]; simp
  have nX01 : w6.cell? ⟨w5.heap.size, 1, none⟩ = some (.slice (some ⟨g5_2, 0, none⟩) tn0 tn0) := by rw [hU6]; simp
  have p00_6 := cell_later hb6 p00_5
  have p01_6 := cell_later hb6 p01_5
  have oo_6 := Hid.mk (REars.ownBelow oo_5.out hb6)
  have ox0_6 := Hid.mk (RQry.ownBelow ox0_5.out hb6)
  have B_6 := B_5.trans (hb6.mono B_5.size)
  have zz6 : w5.heap.size ≤ w6.heap.size := hb6.size
  clear p00_5 p01_5 oo_5 ox0_5 B_5
  clear hb6
  have xp00 := p00_6
  rw [hU6] at xp00
  have xp01 := p01_6
  rw [hU6] at xp01
  have xX00 := nX00
  rw [hU6] at xX00
  have xX01 := nX01
  rw [hU6] at xX01
  go_wp2_with fail
  rw [← hU6]
  clear hU6
  clear xp00 xp01 xX00 xX01
  refine (toInts_rep a1 n1 c1 z1 _ HZ1.out hsn1 (At.below HA1.out B_6)).mono ?_
  rintro e w7 ⟨g7, rfl, ho7, hb7⟩
  have ox1_7 := Hid.mk ho7
  clear ho7
  have p00_7 := cell_later hb7 p00_6
  have p01_7 := cell_later hb7 p01_6
  have X00_7 := cell_later hb7 nX00
  have X01_7 := cell_later hb7 nX01
  have oo_7 := Hid.mk (REars.ownBelow oo_6.out hb7)
  have ox0_7 := Hid.mk (RQry.ownBelow ox0_6.out hb7)
  have B_7 := B_6.trans (hb7.mono B_6.size)
  have zz7 : w6.heap.size ≤ w7.heap.size := hb7.size
  clear p00_6 p01_6 nX00 nX01 oo_6 ox0_6 B_6
  clear hb7
  go_wp2_with fail
  refine (HI.out _ _ _ _ _ _ ox0_7.out ox1_7.out).mono ?_
  rintro e w8 ⟨⟨r8, m8, d8, rfl, hm8, ho8⟩, hb8⟩
  obtain rfl : na = m8 := HNA.out.symm.trans hm8
  have og_8 := Hid.mk (ears_own HNA.out (by omega) ho8)
  clear ho8 hm8
  have p00_8 := cell_later hb8 p00_7
  have p01_8 := cell_later hb8 p01_7
  have X00_8 := cell_later hb8 X00_7
  have X01_8 := cell_later hb8 X01_7
  have oo_8 := Hid.mk (REars.ownBelow oo_7.out hb8)
  have ox0_8 := Hid.mk (RQry.ownBelow ox0_7.out hb8)
  have ox1_8 := Hid.mk (RInts.ownBelow ox1_7.out hb8)
  have B_8 := B_7.trans (hb8.mono B_7.size)
  have zz8 : w7.heap.size ≤ w8.heap.size := hb8.size
  clear p00_7 p01_7 X00_7 X01_7 oo_7 ox0_7 ox1_7 B_7
  clear hb8
  go_wp2_with fail
  refine (eqEarS_same _ _ na _ _ ta _ HNA.out (by omega) (REars.at og_8.out) (REars.at oo_8.out)).mono ?_
  rintro e w9 ⟨rfl, hb9⟩
  have p00_9 := cell_later hb9 p00_8
  have p01_9 := cell_later hb9 p01_8
  have X00_9 := cell_later hb9 X00_8
  have X01_9 := cell_later hb9 X01_8
  have oo_9 := Hid.mk (REars.ownBelow oo_8.out hb9)
  have ox0_9 := Hid.mk (RQry.ownBelow ox0_8.out hb9)
  have ox1_9 := Hid.mk (RInts.ownBelow ox1_8.out hb9)
  have og_9 := Hid.mk (REars.ownBelow og_8.out hb9)
  have B_9 := B_8.trans (hb9.mono B_8.size)
  have zz9 : w8.heap.size ≤ w9.heap.size := hb9.size
  clear p00_8 p01_8 X00_8 X01_8 oo_8 ox0_8 ox1_8 og_8 B_8
  clear hb9
  go_wp2_with fail
  refine wp_region_held_drew (S := fun w' => w'.cell? ⟨w5.heap.size, 0, none⟩ = some (.slice (some ⟨g5_1, 0, none⟩) fn0 fn0) ∧ w'.cell? ⟨w5.heap.size, 1, none⟩ = some (.slice (some ⟨g5_2, 0, none⟩) tn0 tn0) ∧ w'.cell? ⟨w.heap.size, 0, none⟩ = some (.slice fa0 fn0 fc0) ∧ w'.cell? ⟨w.heap.size, 1, none⟩ = some (.slice ta0 tn0 tc0)) (by kernel_rfl) ?_ (fun hHeld => ?_)
  · (try dsimp only)
    exact ⟨X00_9, X01_9, p00_9, p01_9⟩
  refine tk 0 ?_
  refine tk 1 ?_
  refine wpAnyH_ready (rs := [2]) (by kernel_rfl) (by simp) ?_
  refine AllReadyH.cons (o := ?_) ?_ (fun K hK => ?_) AllReadyH.nil
  rotate_left
  · (simp only [List.getElem?_toArray, List.getElem?_cons_zero, List.getElem?_cons_succ]; rfl)
  go_simp
  go_at_call 11
  refine (toQuery_any fa0 fn0 fc0 ta0 tn0 tc0 zf0 zt0 _ HZ0.out.1 HZ0.out.2 hs10 hs20 (fun _ _ h => HSM0.out.2.1.each h) (At.below HA0.out.1 B_9.drew) (AtSl.below HA0.out.2 B_9.drew)).mono ?_
  rintro e w10 ⟨g10_1, g10_2, rfl, ho10, hd10⟩
  have hb10 : Below w9.heap.size w9 w10 := (Below.refl _ _).drew.trans hd10
  clear hd10
  have oy_10 := Hid.mk ho10
  clear ho10
  have p00_10 := cell_later hb10 p00_9
  have p01_10 := cell_later hb10 p01_9
  have X00_10 := cell_later hb10 X00_9
  have X01_10 := cell_later hb10 X01_9
  have oo_10 := Hid.mk (REars.ownBelow oo_9.out hb10)
  have ox0_10 := Hid.mk (RQry.ownBelow ox0_9.out hb10)
  have ox1_10 := Hid.mk (RInts.ownBelow ox1_9.out hb10)
  have og_10 := Hid.mk (REars.ownBelow og_9.out hb10)
  have B_10 := B_9.trans (hb10.mono B_9.size)
  have zz10 : w9.heap.size ≤ w10.heap.size := hb10.size
  clear p00_9 p01_9 X00_9 X01_9 oo_9 ox0_9 ox1_9 og_9 B_9
  clear hb10
  (try go_wp2_with fail)
  refine hK.out _ _ ?_ (fun hHeld' => ?_)
  · (try dsimp only)
    exact ⟨X00_10, X01_10, p00_10, p01_10⟩
  clear hK K hHeld
  have hHeld := hHeld'
  clear hHeld'
  (try simp only [Act.put, List.setIfInBounds_toArray, List.set_cons_zero, List.set_cons_succ])
  refine wpAnyH_ready (rs := [3]) (by kernel_rfl) (by simp) ?_
  refine AllReadyH.cons (o := ?_) ?_ (fun K hK => ?_) AllReadyH.nil
  rotate_left
  · (simp only [List.getElem?_toArray, List.getElem?_cons_zero, List.getElem?_cons_succ]; rfl)
  go_simp
  go_at_call 15
  refine (eqQuery_same _ _ fn0 _ _ _ _ tn0 _ _ zf0 zt0 _ HZ0.out.1 HZ0.out.2 hs10 hs20 (fun _ _ h => HSM0.out.2.1.each h) (qry_at ox0_10.out).1 (qry_at ox0_10.out).2 (qry_at oy_10.out).1 (qry_at oy_10.out).2).mono ?_
  rintro e w11 ⟨rfl, hb11⟩
  clear oy_10
  have p00_11 := cell_later hb11 p00_10
  have p01_11 := cell_later hb11 p01_10
  have X00_11 := cell_later hb11 X00_10
  have X01_11 := cell_later hb11 X01_10
  have oo_11 := Hid.mk (REars.ownBelow oo_10.out hb11)
  have ox0_11 := Hid.mk (RQry.ownBelow ox0_10.out hb11)
  have ox1_11 := Hid.mk (RInts.ownBelow ox1_10.out hb11)
  have og_11 := Hid.mk (REars.ownBelow og_10.out hb11)
  have B_11 := B_10.trans (hb11.mono B_10.size)
  have zz11 : w10.heap.size ≤ w11.heap.size := hb11.size
  clear p00_10 p01_10 X00_10 X01_10 oo_10 ox0_10 ox1_10 og_10 B_10
  clear hb11
  (try go_wp2_with fail)
  refine hK.out _ _ ?_ (fun hHeld' => ?_)
  · (try dsimp only)
    exact ⟨X00_11, X01_11, p00_11, p01_11⟩
  clear hK K hHeld
  have hHeld := hHeld'
  clear hHeld'
  (try simp only [Act.put, List.setIfInBounds_toArray, List.set_cons_zero, List.set_cons_succ])
  refine tk 4 ?_
  refine wpAnyH_done (by kernel_rfl) ?_ _
  clear hHeld
  go_wp2_with fail
  refine (toInts_rep a1 n1 c1 z1 _ HZ1.out hsn1 (At.below HA1.out B_11)).mono ?_
  rintro e w12 ⟨g12, rfl, ho12, hb12⟩
  have oy_12 := Hid.mk ho12
  clear ho12
  have p00_12 := cell_later hb12 p00_11
  have p01_12 := cell_later hb12 p01_11
  have X00_12 := cell_later hb12 X00_11
  have X01_12 := cell_later hb12 X01_11
  have oo_12 := Hid.mk (REars.ownBelow oo_11.out hb12)
  have ox0_12 := Hid.mk (RQry.ownBelow ox0_11.out hb12)
  have ox1_12 := Hid.mk (RInts.ownBelow ox1_11.out hb12)
  have og_12 := Hid.mk (REars.ownBelow og_11.out hb12)
  have B_12 := B_11.trans (hb12.mono B_11.size)
  have zz12 : w11.heap.size ≤ w12.heap.size := hb12.size
  clear p00_11 p01_11 X00_11 X01_11 oo_11 ox0_11 ox1_11 og_11 B_11
  clear hb12
  go_wp2_with fail
  refine (eqIntS_same _ _ n1 _ _ z1 _ HZ1.out hsn1 (ints_at ox1_12.out) (ints_at oy_12.out)).mono ?_
  rintro e w13 ⟨rfl, hb13⟩
  clear oy_12
  have p00_13 := cell_later hb13 p00_12
  have p01_13 := cell_later hb13 p01_12
  have X00_13 := cell_later hb13 X00_12
  have X01_13 := cell_later hb13 X01_12
  have oo_13 := Hid.mk (REars.ownBelow oo_12.out hb13)
  have ox0_13 := Hid.mk (RQry.ownBelow ox0_12.out hb13)
  have ox1_13 := Hid.mk (RInts.ownBelow ox1_12.out hb13)
  have og_13 := Hid.mk (REars.ownBelow og_12.out hb13)
  have B_13 := B_12.trans (hb13.mono B_12.size)
  have zz13 : w12.heap.size ≤ w13.heap.size := hb13.size
  clear p00_12 p01_12 X00_12 X01_12 oo_12 ox0_12 ox1_12 og_12 B_12
  clear hb13
  go_wp2_with fail
  refine (markQuery_rep (From (w4.heap.size) (w5.heap.size)) _ fn0 _ _ tn0 _ zf0 zt0 _ _ hs10 hs20 HSM0.out.2.1.msum (by omega) (by omega) (fun b h => by have h2 := h.2; omega) ox0_13.out).mono ?_
  rintro e w14 ⟨rfl, ho14, hg14⟩
  rw [HV0.out]
  have ox0_14 := Hid.mk ho14
  clear ho14
  have p00_14 := hg14.cell p00_13 (show ¬ From (w4.heap.size) (w5.heap.size) (w.heap.size) from fun h => by have h1 := h.1; have h2 := h.2; omega)
  have p01_14 := hg14.cell p01_13 (show ¬ From (w4.heap.size) (w5.heap.size) (w.heap.size) from fun h => by have h1 := h.1; have h2 := h.2; omega)
  have X00_14 := hg14.cell X00_13 (show ¬ From (w4.heap.size) (w5.heap.size) (w5.heap.size) from fun h => by have h1 := h.1; have h2 := h.2; omega)
  have X01_14 := hg14.cell X01_13 (show ¬ From (w4.heap.size) (w5.heap.size) (w5.heap.size) from fun h => by have h1 := h.1; have h2 := h.2; omega)
  have oo_14 := Hid.mk (REars.ownOff oo_13.out hg14 (fun b h1 h2 => by have h3 := h1.1; have h4 := h1.2; have h5 := h2.1; have h6 := h2.2; omega))
  have ox1_14 := Hid.mk (RInts.ownOff ox1_13.out hg14 (fun b h1 h2 => by have h3 := h1.1; have h4 := h1.2; have h5 := h2.1; have h6 := h2.2; omega))
  have og_14 := Hid.mk (REars.ownOff og_13.out hg14 (fun b h1 h2 => by have h3 := h1.1; have h4 := h1.2; have h5 := h2.1; have h6 := h2.2; omega))
  have B_14 := B_13.trans (hg14.toBelow (by omega) B_13.size)
  have zz14 : w13.heap.size ≤ w14.heap.size := hg14.size
  clear p00_13 p01_13 X00_13 X01_13 oo_13 ox0_13 ox1_13 og_13 B_13
  clear hg14
  go_wp2_with fail
  refine (markInts_rep (From (w6.heap.size) (w7.heap.size)) _ n1 _ z1 _ _ hsn1 (by omega) (by omega) ox1_14.out).mono ?_
  rintro e w15 ⟨rfl, ho15, hg15⟩
  have ox1_15 := Hid.mk ho15
  clear ho15
  have p00_15 := hg15.cell p00_14 (show ¬ From (w6.heap.size) (w7.heap.size) (w.heap.size) from fun h => by have h1 := h.1; have h2 := h.2; omega)
  have p01_15 := hg15.cell p01_14 (show ¬ From (w6.heap.size) (w7.heap.size) (w.heap.size) from fun h => by have h1 := h.1; have h2 := h.2; omega)
  have X00_15 := hg15.cell X00_14 (show ¬ From (w6.heap.size) (w7.heap.size) (w5.heap.size) from fun h => by have h1 := h.1; have h2 := h.2; omega)
  have X01_15 := hg15.cell X01_14 (show ¬ From (w6.heap.size) (w7.heap.size) (w5.heap.size) from fun h => by have h1 := h.1; have h2 := h.2; omega)
  have oo_15 := Hid.mk (REars.ownOff oo_14.out hg15 (fun b h1 h2 => by have h3 := h1.1; have h4 := h1.2; have h5 := h2.1; have h6 := h2.2; omega))
  have ox0_15 := Hid.mk (RQry.ownOff ox0_14.out hg15 (fun b h1 h2 => by have h3 := h1.1; have h4 := h1.2; have h5 := h2.1; have h6 := h2.2; omega))
  have og_15 := Hid.mk (REars.ownOff og_14.out hg15 (fun b h1 h2 => by have h3 := h1.1; have h4 := h1.2; have h5 := h2.1; have h6 := h2.2; omega))
  have B_15 := B_14.trans (hg15.toBelow (by omega) B_14.size)
  have zz15 : w14.heap.size ≤ w15.heap.size := hg15.size
  clear p00_14 p01_14 X00_14 X01_14 oo_14 ox0_14 ox1_14 og_14 B_14
  clear hg15
  have kpos : ¬ (1 : Int) + (V0 : Int) + (n1 : Int) < 0 := by omega
  go_wp2_with fail
  refine (eqEarS_same _ _ na _ _ ta _ HNA.out (by omega) (REars.at og_15.out) (REars.at oo_15.out)).mono ?_
  rintro e w16 ⟨rfl, hb16⟩
  have p00_16 := cell_later hb16 p00_15
  have p01_16 := cell_later hb16 p01_15
  have X00_16 := cell_later hb16 X00_15
  have X01_16 := cell_later hb16 X01_15
  have oo_16 := Hid.mk (REars.ownBelow oo_15.out hb16)
  have ox0_16 := Hid.mk (RQry.ownBelow ox0_15.out hb16)
  have ox1_16 := Hid.mk (RInts.ownBelow ox1_15.out hb16)
  have og_16 := Hid.mk (REars.ownBelow og_15.out hb16)
  have B_16 := B_15.trans (hb16.mono B_15.size)
  have zz16 : w15.heap.size ≤ w16.heap.size := hb16.size
  clear p00_15 p01_15 X00_15 X01_15 oo_15 ox0_15 ox1_15 og_15 B_15
  clear hb16
  clear ox0_16
  clear ox1_16
  go_wp2_with fail
  refine (markEarS_rep (From (w7.heap.size) (w8.heap.size)) _ na _ ta 1 _ (by omega) (by omega) (by omega) og_16.out).mono ?_
  rintro e w17 ⟨rfl, ho17, hg17⟩
  rw [HVA.out]
  have og_17 := Hid.mk ho17
  clear ho17
  have p00_17 := hg17.cell p00_16 (show ¬ From (w7.heap.size) (w8.heap.size) (w.heap.size) from fun h => by have h1 := h.1; have h2 := h.2; omega)
  have p01_17 := hg17.cell p01_16 (show ¬ From (w7.heap.size) (w8.heap.size) (w.heap.size) from fun h => by have h1 := h.1; have h2 := h.2; omega)
  have X00_17 := hg17.cell X00_16 (show ¬ From (w7.heap.size) (w8.heap.size) (w5.heap.size) from fun h => by have h1 := h.1; have h2 := h.2; omega)
  have X01_17 := hg17.cell X01_16 (show ¬ From (w7.heap.size) (w8.heap.size) (w5.heap.size) from fun h => by have h1 := h.1; have h2 := h.2; omega)
  have oo_17 := Hid.mk (REars.ownOff oo_16.out hg17 (fun b h1 h2 => by have h3 := h1.1; have h4 := h1.2; have h5 := h2.1; have h6 := h2.2; omega))
  have B_17 := B_16.trans (hg17.toBelow (by omega) B_16.size)
  have zz17 : w16.heap.size ≤ w17.heap.size := hg17.size
  clear p00_16 p01_16 X00_16 X01_16 oo_16 og_16 B_16
  clear hg17
  have gpos : ¬ (1 : Int) + (VA : Int) < 0 := by omega
  go_wp2_with fail
  refine (heldEarS_rep _ na _ ta 1 _ HNA.out (by omega) (by omega) (by omega) (REars.at og_17.out)).mono ?_
  rintro e w18 ⟨rfl, hb18⟩
  rw [HVA.out]
  have p00_18 := cell_later hb18 p00_17
  have p01_18 := cell_later hb18 p01_17
  have X00_18 := cell_later hb18 X00_17
  have X01_18 := cell_later hb18 X01_17
  have oo_18 := Hid.mk (REars.ownBelow oo_17.out hb18)
  have og_18 := Hid.mk (REars.ownBelow og_17.out hb18)
  have B_18 := B_17.trans (hb18.mono B_17.size)
  have zz18 : w17.heap.size ≤ w18.heap.size := hb18.size
  clear p00_17 p01_17 X00_17 X01_17 oo_17 og_17 B_17
  clear hb18
  go_wp2_with fail
  refine (toQuery_any fa0 fn0 fc0 ta0 tn0 tc0 zf0 zt0 _ HZ0.out.1 HZ0.out.2 hs10 hs20 (fun _ _ h => HSM0.out.2.1.each h) (At.below HA0.out.1 B_18) (AtSl.below HA0.out.2 B_18)).mono ?_
  rintro e w19 ⟨g19_1, g19_2, rfl, ho19, hb19⟩
  have oh0_19 := Hid.mk ho19
  clear ho19
  have p00_19 := cell_later hb19 p00_18
  have p01_19 := cell_later hb19 p01_18
  have X00_19 := cell_later hb19 X00_18
  have X01_19 := cell_later hb19 X01_18
  have oo_19 := Hid.mk (REars.ownBelow oo_18.out hb19)
  have og_19 := Hid.mk (REars.ownBelow og_18.out hb19)
  have B_19 := B_18.trans (hb19.mono B_18.size)
  have zz19 : w18.heap.size ≤ w19.heap.size := hb19.size
  clear p00_18 p01_18 X00_18 X01_18 oo_18 og_18 B_18
  clear hb19
  go_wp2_with fail
  refine (toInts_rep a1 n1 c1 z1 _ HZ1.out hsn1 (At.below HA1.out B_19)).mono ?_
  rintro e w20 ⟨g20, rfl, ho20, hb20⟩
  have oh1_20 := Hid.mk ho20
  clear ho20
  have p00_20 := cell_later hb20 p00_19
  have p01_20 := cell_later hb20 p01_19
  have X00_20 := cell_later hb20 X00_19
  have X01_20 := cell_later hb20 X01_19
  have oo_20 := Hid.mk (REars.ownBelow oo_19.out hb20)
  have og_20 := Hid.mk (REars.ownBelow og_19.out hb20)
  have oh0_20 := Hid.mk (RQry.ownBelow oh0_19.out hb20)
  have B_20 := B_19.trans (hb20.mono B_19.size)
  have zz20 : w19.heap.size ≤ w20.heap.size := hb20.size
  clear p00_19 p01_19 X00_19 X01_19 oo_19 og_19 oh0_19 B_19
  clear hb20
  go_wp2_with fail
  refine (HI.out _ _ _ _ _ _ oh0_20.out oh1_20.out).mono ?_
  rintro e w21 ⟨⟨r21, m21, d21, rfl, hm21, ho21⟩, hb21⟩
  clear oh0_20
  clear oh1_20
  obtain rfl : na = m21 := HNA.out.symm.trans hm21
  have ohg_21 := Hid.mk (ears_own HNA.out (by omega) ho21)
  clear ho21 hm21
  have p00_21 := cell_later hb21 p00_20
  have p01_21 := cell_later hb21 p01_20
  have X00_21 := cell_later hb21 X00_20
  have X01_21 := cell_later hb21 X01_20
  have oo_21 := Hid.mk (REars.ownBelow oo_20.out hb21)
  have og_21 := Hid.mk (REars.ownBelow og_20.out hb21)
  have B_21 := B_20.trans (hb21.mono B_20.size)
  have zz21 : w20.heap.size ≤ w21.heap.size := hb21.size
  clear p00_20 p01_20 X00_20 X01_20 oo_20 og_20 B_20
  clear hb21
  go_wp2_with fail
  refine (eqEarS_same _ _ na _ _ ta _ HNA.out (by omega) (REars.at ohg_21.out) (REars.at oo_21.out)).mono ?_
  rintro e w22 ⟨rfl, hb22⟩
  have p00_22 := cell_later hb22 p00_21
  have p01_22 := cell_later hb22 p01_21
  have X00_22 := cell_later hb22 X00_21
  have X01_22 := cell_later hb22 X01_21
  have oo_22 := Hid.mk (REars.ownBelow oo_21.out hb22)
  have og_22 := Hid.mk (REars.ownBelow og_21.out hb22)
  have ohg_22 := Hid.mk (REars.ownBelow ohg_21.out hb22)
  have B_22 := B_21.trans (hb22.mono B_21.size)
  have zz22 : w21.heap.size ≤ w22.heap.size := hb22.size
  clear p00_21 p01_21 X00_21 X01_21 oo_21 og_21 ohg_21 B_21
  clear hb22
  go_wp2_with fail
  refine (heldEarS_rep _ na _ ta 1 _ HNA.out (by omega) (by omega) (by omega) (REars.at og_22.out)).mono ?_
  rintro e w23 ⟨rfl, hb23⟩
  rw [HVA.out]
  have p00_23 := cell_later hb23 p00_22
  have p01_23 := cell_later hb23 p01_22
  have X00_23 := cell_later hb23 X00_22
  have X01_23 := cell_later hb23 X01_22
  have oo_23 := Hid.mk (REars.ownBelow oo_22.out hb23)
  have og_23 := Hid.mk (REars.ownBelow og_22.out hb23)
  have ohg_23 := Hid.mk (REars.ownBelow ohg_22.out hb23)
  have B_23 := B_22.trans (hb23.mono B_22.size)
  have zz23 : w22.heap.size ≤ w23.heap.size := hb23.size
  clear p00_22 p01_22 X00_22 X01_22 oo_22 og_22 ohg_22 B_22
  clear hb23
  go_wp2
  go_ret
  exact ⟨rfl, B_23⟩

end Go.Proofs.Yteggbamjfhbmfaa

/- Opening the laws' arguments: rows, slices of ints; plain facts on readings. -/
namespace Go.Proofs.Yteggbamjfhbmfaa
open Go.ChangeShapes Go.WideShapes Go.ChangeAt Go.RowKit Go.Joins Go.Deep

section
variable {H : Type} {enc : TypeId × Value → H} {P : Program} {w : World} {base : Nat} {spare : Nat → Bool} {held : Bool}

theorem array1 {α : Type} {cs : Array α} (h : cs.size = 1) : ∃ c0, cs = #[c0] := by
  obtain ⟨l⟩ := cs
  match l, h with
  | [c0], _ => exact ⟨c0, rfl⟩

theorem open_agg1 {r : Reach} {b0 : Nat} {t : TypeId} {f0 : Field} {v : Value} {d : DataW H} {p : List MemPlace} (hs : P.underlying t = some (.struct #[f0])) (hone : oneCellFields P #[f0] = true) (hC : P.cellsOf t = 1)
    (hv : Value.okWide P w r b0 t v) (h : DataW.Trod enc P w base spare held t v d p) :
    ∃ (v0 : Value) (y0 : DataW H × List MemPlace) (n : Nat), v = .agg #[v0] ∧ d = .agg [y0.1] ∧ p = y0.2 ∧ DataW.trod enc P w base spare held n f0.type [v0] = some y0 := by
  obtain ⟨cs, rfl, hsz⟩ := okWide_struct hs hv
  obtain ⟨c0, rfl⟩ := array1 (hsz.trans hC)
  obtain ⟨fuel, hf⟩ := h
  obtain ⟨y0, n, hx, _, h0⟩ := trod_struct1 hs hf
  obtain ⟨o0, k0⟩ := hone_of hone 0 f0 rfl
  simp only [Prod.mk.injEq] at hx
  exact ⟨c0, y0, n, rfl, hx.1, hx.2, by simpa [Value.cells, o0, k0] using h0⟩

/-- A slice of ints that reads: its numbers. -/
theorem open_at {t e : TypeId} {fuel n c : Nat} {a : Option Addr} {x : DataW H × List MemPlace} (ht : P.underlying t = some (.slice e)) (he : P.underlying e = some (.int .i64)) (hC : P.cellsOf e = 1)
    (h : DataW.trod enc P w base spare held fuel t [.slice a n c] = some x) : ∃ zs : List Int, zs.length = n ∧ n ≤ 9223372036854775807 ∧ At w a zs := by
  rcases open_ints ht he hC h with ⟨hcs, _⟩ | ⟨ad, l, c', zs, hcs, _, hl, hm, hz, _, hcell, _⟩
  · simp at hcs
    obtain ⟨rfl, rfl, rfl⟩ := hcs
    exact ⟨[], rfl, by omega, At.nil _ _⟩
  · simp at hcs
    obtain ⟨rfl, rfl, rfl⟩ := hcs
    unfold maxLen at hm
    have hz' : n ≤ zs.length := by split at hz <;> omega
    refine ⟨zs.take n, by simp; omega, by omega, ?_⟩
    by_cases h0 : n = 0
    · left; simp [h0]
    · right
      obtain ⟨b, off, spot⟩ := ad
      have hc := hcell 0 (by omega)
      have hspot : spot = none := by simpa [Addr.add] using World.cell?_spot hc
      subst hspot
      refine ⟨b, off, rfl, fun i hi => ?_⟩
      have hin : i < n := by simp at hi; omega
      have := hcell i (by omega)
      rw [show (zs.take n).getD i 0 = zs.getD i 0 by simp [List.getD, hin]]
      rw [Addr.add_lit] at this
      exact this

/-- A struct of one slice of ints, by value. -/
theorem open_row {r : Reach} {b0 : Nat} {t ts e : TypeId} {f0 : Field} {v : Value} {d : DataW H} {p : List MemPlace} (hs : P.underlying t = some (.struct #[f0])) (hf0 : f0.type = ts) (hone : oneCellFields P #[f0] = true) (hC : P.cellsOf t = 1)
    (ht : P.underlying ts = some (.slice e)) (he : P.underlying e = some (.int .i64)) (hCe : P.cellsOf e = 1)
    (hv : Value.okWide P w r b0 t v) (h : DataW.Trod enc P w base spare held t v d p) : ∃ a n c, v = .agg #[.slice a n c] ∧ ∃ zs : List Int, zs.length = n ∧ n ≤ 9223372036854775807 ∧ At w a zs := by
  obtain ⟨v0, y0, m, rfl, _, _, h0⟩ := open_agg1 hs hone hC hv h
  subst hf0
  obtain ⟨a, n, c, hcs⟩ := slice_form ht h0
  obtain rfl : v0 = .slice a n c := by simpa using hcs
  exact ⟨a, n, c, rfl, open_at ht he hCe h0⟩
end

end Go.Proofs.Yteggbamjfhbmfaa
