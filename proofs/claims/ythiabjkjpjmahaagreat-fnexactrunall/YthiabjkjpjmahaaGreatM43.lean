/- Several texts of one proof, in build order: StreamM, LawRunAll, Open, OpenT. -/
import Derived.Test.YthiabjkjpjmahaaGreatM35
import Derived.Test.YthiabjkjpjmahaaGreatM38
import Derived.Test.YthiabjkjpjmahaaGreatM41
import Derived.Test.YthiabjkjpjmahaaGreatM42
import Derived.Test.YthiabjkjpjmahaaGreatM0
import Derived.ProofKit
import Derived.OpenShut
import Derived.ShutString
import Derived.ChangeOld
import Derived.Lib.SmallJoins
import Derived.Deep.SlicePairs

/- Contracts of the laws' helpers that mark streams: markTableS, markStream, heldTableS, heldStream. -/
namespace Go.Proofs.YthiabjkjpjmahaaGreat
open Go.RowKit

set_option maxHeartbeats 2000000 in
theorem markTableS_any (lo hi : Nat) (a : Option Addr) (n c : Nat) (ss : List Tab) (m : Int) (w : World) (hs : SmU ss n) (h0 : 0 ≤ m) (h1 : m ≤ 134217728) (ho : OwnU w lo hi a n c ss) :
    Calls Tryz.prog 22 #[.slice a n c, .int .i64 m] w fun e w' => e = .returned (.int .i64 (m + stot ss n)) ∧ OwnU w' lo hi a n c (markU m ss) ∧ Apart lo hi w w' := by
  obtain ⟨cells, L, H, ho⟩ := ho
  have hz := hs.1
  have hn := hs.n
  have ht := hs.2
  by_cases hn0 : n = 0
  · subst hn0
    obtain rfl := List.eq_nil_of_length_eq_zero hz
    go_enter Tryz.func22, Tryz.ntmps22
    go_wp2
    refine wp_loop_rounds 1 ?_
    rw [rounds_succ]
    go_wp2
    go_ret
    exact ⟨ret_int (by simp [stot]), ⟨cells, L, H, ho⟩, Apart.refl _ _ _⟩
  · obtain ⟨g, hgv⟩ : ∃ g, a = some ⟨g, 0, none⟩ := by
      rcases ho.outer.2 with ⟨_, h⟩ | ⟨g, cap, cur, hv, _⟩
      · omega
      · simp only [Value.slice.injEq, true_and] at hv
        exact ⟨g, hv.1⟩
    subst hgv
    have ho0 : OwnUk w lo hi (some ⟨g, 0, none⟩) n c (mixU m ss 0) cells L H n := by rw [mixU_zero]; exact ho
    clear ho
    go_enter Tryz.func22, Tryz.ntmps22
    go_wp2
    go_loopw [1, 5] (fun q i wr => ∃ (k : Nat) (cells : List Value), k ≤ n ∧ i = .int .i64 k ∧ q = .int .i64 (m + stot ss k) ∧ OwnUk wr lo hi (some ⟨g, 0, none⟩) n c (mixU m ss k) cells L H n ∧ Apart lo hi w wr) (fun _ i _ => n - (intOf i).toNat)
    case atStart => exact ⟨0, cells, Nat.zero_le _, rfl, by simp [stot_zero], ho0, Apart.refl _ _ _⟩
    case round =>
      clear ho0 cells
      obtain ⟨k, cells, hk, rfl, rfl, ho, hap⟩ := hrel
      by_cases hlt : k < n
      · obtain ⟨a', c', k1, k2, k3⟩ := ho.row k hlt
        rw [mixU_at m ss k k (by omega), if_neg (by omega)] at k1 k2 k3
        have hsm := hs.tab k hlt
        have hts := stot_succ ss k (by omega)
        have htm := stot_mono ss (k + 1) n (by omega) (by omega)
        have hout := ho.outer
        have hln := hout.1
        have hw := ho.within k hlt
        have hgo := ho.out k hlt g rfl
        have hgl := ho.blocks g rfl
        have HO := Hid.mk ho
        obtain ⟨us, hus⟩ : ∃ us, (tat ss k).2 = us := ⟨_, rfl⟩
        rw [hus] at k2 k3 hsm hts
        obtain ⟨l, hl⟩ : ∃ l, us.length = l := ⟨_, rfl⟩
        rw [hl] at k2 k3 hsm hts
        obtain ⟨T, hT⟩ : ∃ T : Nat, stot ss k = T := ⟨_, rfl⟩
        obtain ⟨v, hv⟩ : ∃ v : Int, m + (T : Int) = v := ⟨_, rfl⟩
        have hb1 : v + 1 ≤ 268435456 := by omega
        have hb0 : 0 ≤ v + 1 := by omega
        have hw0 : -9223372036854775808 ≤ v := by omega
        have hcx : wr.cell? ⟨g, k * 2 + 1, none⟩ = some (.slice a' l c') := (hout.cellAt _ (by omega)).trans k2
        have hco : wr.cell? ⟨g, k * 2, none⟩ = some (.int .i64 (tat ss k).1) := (hout.cellAt _ (by omega)).trans k1
        have hfo : wr.frozen? ⟨g, k * 2, none⟩ = false := hout.frozenAt _
        have HK := Hid.mk k2
        have HUS := Hid.mk hus
        have HL := Hid.mk hl
        have HT := Hid.mk hT
        have HV := Hid.mk hv
        have HTS := Hid.mk hts
        have HAP := Hid.mk hap
        rw [hT, hv]
        have hki : (k : Int) < (n : Int) := by omega
        have hO1 : OwnT (wr.setCell ⟨g, k * 2, none⟩ (.int .i64 v)) (L k) (H k) a' l c' us := k3.setCell (a0 := ⟨g, k * 2, none⟩) hgo _
        have hcx1 : (wr.setCell ⟨g, k * 2, none⟩ (.int .i64 v)).cell? ⟨g, k * 2 + 1, none⟩ = some (.slice a' l c') := by
          have := ((hout.stored (k * 2) (.int .i64 v)).1.cellAt (k * 2 + 1) (by omega))
          rw [this, List.getElem?_set_ne (by omega)]; exact k2
        clear k1 k2 hus hl hT hts htm hap ho hout hv
        go_wp2_with fail
        refine (markWeightedSG (L k) (H k) _ _ _ us _ _ hsm hb0 hb1 hO1).mono ?_
        rintro e w2 ⟨rfl, hr2, hg2⟩
        have hmk := HO.out.marked (m := m) (ss := ss) (v := v) (by have := HO.out.len; rwa [mixU_length] at this) hlt (by rw [HUS.out]; exact HL.out) (by rw [HT.out]; exact HV.out) HK.out (by rw [HUS.out]; exact hr2) hg2
        have HM := Hid.mk hmk
        have hA1 : Apart lo hi wr (wr.setCell ⟨g, k * 2, none⟩ (.int .i64 v)) := Apart.grown (row := some g) ⟨rfl, rfl, rfl, by simp [World.setCell], fun j _ hn => Below.heap_setCell _ _ _ j (fun e => hn (by rw [e]))⟩ (fun b hb => by simp at hb; omega)
        have HA : Hid (Apart lo hi w w2) := (HAP.out.trans hA1).trans (hg2.widen hw.1 hw.2)
        clear hmk hr2 hg2 k3 hcx HO HK hO1 hcx1 hco hA1
        go_wp2
        go_roundw
        case rel => exact ⟨k + 1, _, by omega, by go_num, by have := HTS.out; have := HT.out; have := HV.out; go_num, HM.out, HA.out⟩
        case measure => simp [intOf]; omega
      · obtain rfl : k = n := by omega
        have ho' : OwnUk wr lo hi (some ⟨g, 0, none⟩) k c (markU m ss) cells L H k := by
          rw [← mixU_all, hz]; exact ho
        go_wp2
        go_ret
        exact ⟨rfl, ⟨cells, L, H, ho'⟩, hap⟩

set_option maxHeartbeats 2000000 in
theorem heldTableS_any (a : Option Addr) (n c : Nat) (ss : List Tab) (m : Int) (w : World) (hs : SmU ss n) (h0 : 0 ≤ m) (h1 : m ≤ 134217728) (ha : AtSW w a (markU m ss)) :
    Calls Tryz.prog 27 #[.slice a n c, .int .i64 m] w fun e w' => e = .returned (.int .i64 (m + stot ss n)) ∧ Below w.heap.size w w' := by
  have hz := hs.1
  have hn := hs.n
  have ht := hs.2
  by_cases hn0 : n = 0
  · subst hn0
    obtain rfl := List.eq_nil_of_length_eq_zero hz
    go_enter Tryz.func27, Tryz.ntmps27
    go_wp2
    refine wp_loop_rounds 1 ?_
    rw [rounds_succ]
    go_wp2
    go_ret
    exact ⟨ret_int (by simp [stot]), Below.refl _ _⟩
  · go_enter Tryz.func27, Tryz.ntmps27
    go_wp2
    go_loopw [1, 5] (fun q i wr => ∃ (k : Nat), k ≤ n ∧ i = .int .i64 k ∧ q = .int .i64 (m + stot ss k) ∧ Below w.heap.size w wr) (fun _ i _ => n - (intOf i).toNat)
    case atStart => exact ⟨0, Nat.zero_le _, rfl, by simp [stot_zero], Below.refl _ _⟩
    case round =>
      obtain ⟨k, hk, rfl, rfl, hbw⟩ := hrel
      by_cases hlt : k < n
      · obtain ⟨b, off, rfl, hc⟩ := (ha.below hbw).some (by rw [markU_length]; omega)
        obtain ⟨q, d, hwx, hcx, _, hat⟩ := hc k (by rw [markU_length]; omega)
        rw [markU_at m ss k (by omega)] at hcx hwx hat
        simp only [markW_length] at hcx
        have hsm := hs.tab k hlt
        have hts := stot_succ ss k (by omega)
        have htm := stot_mono ss (k + 1) n (by omega) (by omega)
        obtain ⟨us, hus⟩ : ∃ us, (tat ss k).2 = us := ⟨_, rfl⟩
        simp only [hus] at hcx hat hsm hts
        obtain ⟨l, hl⟩ : ∃ l, us.length = l := ⟨_, rfl⟩
        rw [hl] at hcx hsm hts
        obtain ⟨T, hT⟩ : ∃ T : Nat, stot ss k = T := ⟨_, rfl⟩
        obtain ⟨v, hv⟩ : ∃ v : Int, m + (T : Int) = v := ⟨_, rfl⟩
        simp only [hT, hv] at hwx hat
        rw [hT, hv]
        have hb1 : v + 1 ≤ 268435456 := by omega
        have hb0 : 0 ≤ v + 1 := by omega
        have HT := Hid.mk hT
        have HV := Hid.mk hv
        have HTS := Hid.mk hts
        have hki : (k : Int) < (n : Int) := by omega
        have hnn : ¬ v + 1 + (wtot us l : Int) < 0 := by omega
        have hwt : wtot us l ≤ 1048576 := hsm.2
        clear hc hl hT hts htm ha hus hv
        go_wp2_with fail
        refine (heldWeightedS_any _ _ _ us _ _ hsm.1 hsm.row hsm.2 hb0 hb1 hat).mono ?_
        rintro e w2 ⟨rfl, hb2⟩
        have HB := Hid.mk (hbw.trans (hb2.mono hbw.size))
        clear hb2 hwx hcx hat hbw
        go_wp2
        go_roundw
        case rel => exact ⟨k + 1, by omega, by go_num, by have := HTS.out; have := HT.out; have := HV.out; go_num, HB.out⟩
        case measure => simp [intOf]; omega
      · obtain rfl : k = n := by omega
        go_wp2
        go_ret
        exact ⟨rfl, hbw⟩

end Go.Proofs.YthiabjkjpjmahaaGreat

/- The law FnExactRunAll returns true at every input, and writes nothing that was there. -/
namespace Go.Proofs.YthiabjkjpjmahaaGreat
open Go.RowKit

theorem run_small (v : ViewD) (l : List Tab) : SmU ((raO v l).getD []) ((raO v l).getD []).length := by
  cases h : raO v l with
  | none => exact ⟨rfl, by simp [stot]⟩
  | some ah =>
    unfold raO at h
    split at h
    · rename_i hc
      have h1 := runTo_some h
      have h12 : v.2.length ≤ 12 := by
        cases hk : checkV v with
        | none => rw [(ck_none hk).1] at hc; simp at hc
        | some wd => exact (checkV_good hk).2.2.1
      exact small_tabs rfl (by show ah.length ≤ 12; omega) h1.2
    · cases h

set_option maxRecDepth 100000 in
set_option maxHeartbeats 16000000 in
theorem lawRunAll (sa0 : Option Addr) (sn0 sc0 : Nat) (pa0 : Option Addr) (pn0 pc0 : Nat) (ss0 : List Int) (xs0 : List PartD) (a1 : Option Addr) (n1 c1 : Nat) (l1 : List Tab) (w : World) (hs0 : ss0.length = sn0) (hsn0 : sn0 ≤ 9223372036854775807) (hz0 : xs0.length = pn0) (hn0 : pn0 ≤ 9223372036854775807) (hat0 : At w sa0 ss0) (ha0 : AtSl RPart w pa0 xs0) (hz1 : l1.length = n1) (hn1 : n1 ≤ 9223372036854775807) (ha1 : AtSW w a1 l1) :
    Calls Tryz.prog 6 #[.agg #[.slice sa0 sn0 sc0, .slice pa0 pn0 pc0], .slice a1 n1 c1] w fun e w' => e = .returned (.bool true) ∧ Below w.heap.size w w' := by
  obtain ⟨W, hW⟩ : ∃ W, W = w.alloc (.cells #[.slice sa0 sn0 sc0, .slice pa0 pn0 pc0] 41) := ⟨_, rfl⟩
  have B0 : Below w.heap.size w W := by rw [hW]; exact (Below.refl _ _).alloc (Nat.le_refl _) _
  have zW : w.heap.size < W.heap.size := by rw [hW]; simp
  have p00_0 : W.cell? ⟨w.heap.size, 0, none⟩ = some (.slice sa0 sn0 sc0) := by rw [hW]; simp
  have p01_0 : W.cell? ⟨w.heap.size, 1, none⟩ = some (.slice pa0 pn0 pc0) := by rw [hW]; simp
  have HA0 := Hid.mk (And.intro hat0 ha0)
  clear hat0 ha0
  have HT1 := Hid.mk ha1
  clear ha1
  by_cases big0 : (1048576 : Int) < (vcost (ss0, xs0) : Nat)
  · go_enter Tryz.func6, Tryz.ntmps6
    go_wp2_with fail
    rw [← hW]
    clear hW
    refine (szView_any sa0 sn0 sc0 pa0 pn0 pc0 ss0 xs0 _ _ hs0 hsn0 hz0 hn0 (by omega) (by omega) (HA0.out.2.below B0)).mono ?_
    rintro e v0 ⟨rfl, hv0⟩
    rw [leftOf_no big0]
    have y0 := B0.trans (hv0.mono B0.size)
    go_wp2
    go_ret
    exact ⟨rfl, y0⟩
  have HSM0 : Hid (SmView (ss0, xs0)) := by show vcost _ ≤ _; omega
  have hl0 : ¬ (1048576 : Int) - (vcost (ss0, xs0) : Nat) < 0 := by omega
  have hge0 : ¬ (1048576 : Int) < (vcost (ss0, xs0) : Nat) := big0
  clear big0
  have HSZ0 := HSM0.out.size.2
  obtain ⟨C0, hC0⟩ : ∃ C : Nat, vcost (ss0, xs0) = C := ⟨_, rfl⟩
  rw [hC0] at hl0 hge0
  have HC0 := Hid.mk hC0
  clear hC0
  obtain ⟨V0, hV0⟩ : ∃ C : Nat, vsize (ss0, xs0) = C := ⟨_, rfl⟩
  rw [hV0] at HSZ0
  have HV0 := Hid.mk hV0
  clear hV0
  obtain ⟨C1, hC1⟩ : ∃ C : Nat, stot l1 n1 = C := ⟨_, rfl⟩
  have HC1 := Hid.mk hC1
  clear hC1
  by_cases big1 : (1048576 : Int) - (C0 : Int) < (C1 : Int)
  · go_enter Tryz.func6, Tryz.ntmps6
    go_wp2_with fail
    rw [← hW]
    clear hW
    refine (szView_any sa0 sn0 sc0 pa0 pn0 pc0 ss0 xs0 _ _ hs0 hsn0 hz0 hn0 (by omega) (by omega) (HA0.out.2.below B0)).mono ?_
    rintro e v0 ⟨rfl, hv0⟩
    rw [HC0.out, leftOf_yes (by omega)]
    have y0 := B0.trans (hv0.mono B0.size)
    have qa := cell_later hv0 p00_0
    have qb := cell_later hv0 p01_0
    go_wp2_with fail
    refine (szTableS_any a1 n1 c1 l1 _ _ hz1 hn1 (by omega) (by omega) (HT1.out.below y0)).mono ?_
    rintro e v1 ⟨rfl, hv1⟩
    rw [HC1.out, leftOf_no big1]
    have y1 := y0.trans (hv1.mono y0.size)
    go_wp2
    go_ret
    exact ⟨rfl, y1⟩
  have hge1 : ¬ (1048576 : Int) - (C0 : Int) < (C1 : Int) := big1
  have hl1 : ¬ (1048576 : Int) - (C0 : Int) - (C1 : Int) < 0 := by omega
  clear big1
  have HSU : Hid (SmU l1 n1) := ⟨hz1, by rw [HC1.out]; omega⟩
  obtain ⟨ok, ta, hsA, HS, HI⟩ : ∃ (ok : Bool) (ta : List Tab), SmU ta ta.length ∧ Hid (∀ (x1 x2 g lo hi : Nat) (w : World) (F : Nat → Prop), RView.Own w F [.slice (some ⟨x1, 0, none⟩) sn0 sn0, .slice (some ⟨x2, 0, none⟩) pn0 pn0] (ss0, xs0) → OwnU w lo hi (some ⟨g, 0, none⟩) n1 n1 l1 → Calls Tryz.prog 25 #[.agg #[.slice (some ⟨x1, 0, none⟩) sn0 sn0, .slice (some ⟨x2, 0, none⟩) pn0 pn0], .slice (some ⟨g, 0, none⟩) n1 n1] w fun e w' => TbsRet e w' w.heap.size ok ta ∧ Below w.heap.size w w') ∧ Hid (∀ (x1 x2 g lo hi : Nat) (w : World) (F : Nat → Prop), RView.Own w F [.slice (some ⟨x1, 0, none⟩) sn0 sn0, .slice (some ⟨x2, 0, none⟩) pn0 pn0] (ss0, xs0) → OwnU w lo hi (some ⟨g, 0, none⟩) n1 n1 l1 → Calls Tryz.prog 26 #[.agg #[.slice (some ⟨x1, 0, none⟩) sn0 sn0, .slice (some ⟨x2, 0, none⟩) pn0 pn0], .slice (some ⟨g, 0, none⟩) n1 n1] w fun e w' => TbsRet e w' w.heap.size ok ta ∧ Below w.heap.size w w') := ⟨_, _, run_small (ss0, xs0) l1, fun x1 x2 g lo hi w F o u => specRunAll (some ⟨x1, 0, none⟩) sn0 sn0 (some ⟨x2, 0, none⟩) pn0 pn0 ss0 xs0 (some ⟨g, 0, none⟩) n1 n1 l1 w hs0 hz0 HSM0.out (view_at o).1 (view_at o).2 HSU.out (u.atM HSU.out), fun x1 x2 g lo hi w F o u => implRunAll (some ⟨x1, 0, none⟩) sn0 sn0 (some ⟨x2, 0, none⟩) pn0 pn0 ss0 xs0 (some ⟨g, 0, none⟩) n1 n1 l1 w hs0 hz0 HSM0.out (view_at o).1 (view_at o).2 HSU.out (u.atM HSU.out)⟩
  obtain ⟨na, hna⟩ : ∃ na, ta.length = na := ⟨_, rfl⟩
  rw [hna] at hsA
  have HNA := Hid.mk hna
  clear hna
  have HSA := Hid.mk hsA
  obtain ⟨G0, hG0⟩ : ∃ C : Nat, stot ta na = C := ⟨_, rfl⟩
  have hGs : G0 ≤ 1048576 := by have := hsA.2; omega
  have HG0 := Hid.mk hG0
  clear hG0 hsA
  go_enter Tryz.func6, Tryz.ntmps6
  go_wp2_with fail
  rw [← hW]
  clear hW
  refine (szView_any sa0 sn0 sc0 pa0 pn0 pc0 ss0 xs0 _ _ hs0 hsn0 hz0 hn0 (by omega) (by omega) (HA0.out.2.below B0)).mono ?_
  rintro e w1 ⟨rfl, hb1⟩
  rw [HC0.out, leftOf_yes (by omega)]
  have p00_1 := cell_later hb1 p00_0
  have p01_1 := cell_later hb1 p01_0
  have B_1 := B0.trans (hb1.mono B0.size)
  have zz1 : W.heap.size ≤ w1.heap.size := hb1.size
  clear p00_0 p01_0
  clear hb1
  go_wp2_with fail
  refine (szTableS_any a1 n1 c1 l1 _ _ hz1 hn1 (by omega) (by omega) (HT1.out.below B_1)).mono ?_
  rintro e w2 ⟨rfl, hb2⟩
  rw [HC1.out, leftOf_yes (by omega)]
  have p00_2 := cell_later hb2 p00_1
  have p01_2 := cell_later hb2 p01_1
  have B_2 := B_1.trans (hb2.mono B_1.size)
  have zz2 : w1.heap.size ≤ w2.heap.size := hb2.size
  clear p00_1 p01_1 B_1
  clear hb2
  go_wp2_with fail
  refine (toView_any sa0 sn0 sc0 pa0 pn0 pc0 ss0 xs0 _ hs0 hz0 HSM0.out (HA0.out.1.below B_2) (HA0.out.2.below B_2)).mono ?_
  rintro e w3 ⟨g3_1, g3_2, rfl, ho3, hb3⟩
  have ot_3 := Hid.mk ho3
  clear ho3
  have p00_3 := cell_later hb3 p00_2
  have p01_3 := cell_later hb3 p01_2
  have B_3 := B_2.trans (hb3.mono B_2.size)
  have zz3 : w2.heap.size ≤ w3.heap.size := hb3.size
  clear p00_2 p01_2 B_2
  clear hb3
  go_wp2_with fail
  refine (toTableS_any a1 n1 c1 l1 _ HSU.out (HT1.out.below B_3)).mono ?_
  rintro e w4 ⟨g4, rfl, ho4, hb4⟩
  have ou_4 := Hid.mk ho4
  clear ho4
  have p00_4 := cell_later hb4 p00_3
  have p01_4 := cell_later hb4 p01_3
  have ot_4 := Hid.mk (RView.ownBelow ot_3.out hb4)
  have B_4 := B_3.trans (hb4.mono B_3.size)
  have zz4 : w3.heap.size ≤ w4.heap.size := hb4.size
  clear p00_3 p01_3 ot_3 B_3
  clear hb4
  go_wp2_with fail
  refine (HS.out _ _ _ _ _ _ _ ot_4.out ou_4.out).mono ?_
  rintro e w5 ⟨⟨r5, m5, d5, rfl, ho5⟩, hb5⟩
  obtain rfl : na = m5 := HNA.out.symm.trans ho5.len
  have oo_5 := Hid.mk ho5
  clear ho5
  clear ot_4 ou_4
  have p00_5 := cell_later hb5 p00_4
  have p01_5 := cell_later hb5 p01_4
  have B_5 := B_4.trans (hb5.mono B_4.size)
  have zz5 : w4.heap.size ≤ w5.heap.size := hb5.size
  clear p00_4 p01_4 B_4
  clear hb5
  go_wp2_with fail
  refine (toView_any sa0 sn0 sc0 pa0 pn0 pc0 ss0 xs0 _ hs0 hz0 HSM0.out (HA0.out.1.below B_5) (HA0.out.2.below B_5)).mono ?_
  rintro e w6 ⟨g6_1, g6_2, rfl, ho6, hb6⟩
  have ox_6 := Hid.mk ho6
  clear ho6
  have p00_6 := cell_later hb6 p00_5
  have p01_6 := cell_later hb6 p01_5
  have oo_6 := Hid.mk (OwnU.below oo_5.out hb6)
  have B_6 := B_5.trans (hb6.mono B_5.size)
  have zz6 : w5.heap.size ≤ w6.heap.size := hb6.size
  clear p00_5 p01_5 oo_5 B_5
  clear hb6
  obtain ⟨w7, hU7⟩ : ∃ u, u = w6.alloc (.cells #[.slice (some ⟨g6_1, 0, none⟩) sn0 sn0, .slice (some ⟨g6_2, 0, none⟩) pn0 pn0] 26) := ⟨_, rfl⟩
  have hb7 : Below w6.heap.size w6 w7 := by rw [hU7]; exact (Below.refl _ _).alloc (Nat.le_refl _) _
  have zl7 : w6.heap.size < w7.heap.size := by rw [hU7]; simp
  have nx0 : w7.cell? ⟨w6.heap.size, 0, none⟩ = some (.slice (some ⟨g6_1, 0, none⟩) sn0 sn0) := by rw [hU7]; simp
  have nx1 : w7.cell? ⟨w6.heap.size, 1, none⟩ = some (.slice (some ⟨g6_2, 0, none⟩) pn0 pn0) := by rw [hU7]; simp
  have p00_7 := cell_later hb7 p00_6
  have p01_7 := cell_later hb7 p01_6
  have oo_7 := Hid.mk (OwnU.below oo_6.out hb7)
  have ox_7 := Hid.mk (RView.ownBelow ox_6.out hb7)
  have B_7 := B_6.trans (hb7.mono B_6.size)
  have zz7 : w6.heap.size ≤ w7.heap.size := hb7.size
  clear p00_6 p01_6 oo_6 ox_6 B_6
  clear hb7
  go_upto_region 10 with fail
  rw [← hU7]
  clear hU7
  go_wp2_with fail
  refine (toTableS_any a1 n1 c1 l1 _ HSU.out (HT1.out.below B_7)).mono ?_
  rintro e w8 ⟨g8, rfl, ho8, hb8⟩
  have oy_8 := Hid.mk ho8
  clear ho8
  have p00_8 := cell_later hb8 p00_7
  have p01_8 := cell_later hb8 p01_7
  have x0_8 := cell_later hb8 nx0
  have x1_8 := cell_later hb8 nx1
  have oo_8 := Hid.mk (OwnU.below oo_7.out hb8)
  have ox_8 := Hid.mk (RView.ownBelow ox_7.out hb8)
  have B_8 := B_7.trans (hb8.mono B_7.size)
  have zz8 : w7.heap.size ≤ w8.heap.size := hb8.size
  clear p00_7 p01_7 nx0 nx1 oo_7 ox_7 B_7
  clear hb8
  go_wp2_with fail
  refine (HI.out _ _ _ _ _ _ _ ox_8.out oy_8.out).mono ?_
  rintro e w9 ⟨⟨r9, m9, d9, rfl, ho9⟩, hb9⟩
  obtain rfl : na = m9 := HNA.out.symm.trans ho9.len
  have og_9 := Hid.mk ho9
  clear ho9
  have p00_9 := cell_later hb9 p00_8
  have p01_9 := cell_later hb9 p01_8
  have x0_9 := cell_later hb9 x0_8
  have x1_9 := cell_later hb9 x1_8
  have oo_9 := Hid.mk (OwnU.below oo_8.out hb9)
  have ox_9 := Hid.mk (RView.ownBelow ox_8.out hb9)
  have oy_9 := Hid.mk (OwnU.below oy_8.out hb9)
  have B_9 := B_8.trans (hb9.mono B_8.size)
  have zz9 : w8.heap.size ≤ w9.heap.size := hb9.size
  clear p00_8 p01_8 x0_8 x1_8 oo_8 ox_8 oy_8 B_8
  clear hb9
  go_wp2_with fail
  refine (eqTableS_any _ _ na _ _ ta _ HSA.out (og_9.out.atSW HSA.out) (oo_9.out.atSW HSA.out)).mono ?_
  rintro e w10 ⟨rfl, hb10⟩
  have p00_10 := cell_later hb10 p00_9
  have p01_10 := cell_later hb10 p01_9
  have x0_10 := cell_later hb10 x0_9
  have x1_10 := cell_later hb10 x1_9
  have oo_10 := Hid.mk (OwnU.below oo_9.out hb10)
  have ox_10 := Hid.mk (RView.ownBelow ox_9.out hb10)
  have oy_10 := Hid.mk (OwnU.below oy_9.out hb10)
  have og_10 := Hid.mk (OwnU.below og_9.out hb10)
  have B_10 := B_9.trans (hb10.mono B_9.size)
  have zz10 : w9.heap.size ≤ w10.heap.size := hb10.size
  clear p00_9 p01_9 x0_9 x1_9 oo_9 ox_9 oy_9 og_9 B_9
  clear hb10
  go_wp2_with fail
  refine wp_region_held_drew (S := fun w' => w'.cell? ⟨w6.heap.size, 0, none⟩ = some (.slice (some ⟨g6_1, 0, none⟩) sn0 sn0) ∧ w'.cell? ⟨w6.heap.size, 1, none⟩ = some (.slice (some ⟨g6_2, 0, none⟩) pn0 pn0) ∧ w'.cell? ⟨w.heap.size, 0, none⟩ = some (.slice sa0 sn0 sc0) ∧ w'.cell? ⟨w.heap.size, 1, none⟩ = some (.slice pa0 pn0 pc0)) (by kernel_rfl) ?_ (fun hHeld => ?_)
  · (try dsimp only)
    exact ⟨x0_10, x1_10, p00_10, p01_10⟩
  refine tk 0 ?_
  refine tk 1 ?_
  refine tr 2 (fun K hK => ?_)
  go_simp
  go_at_call 16
  refine (toView_any sa0 sn0 sc0 pa0 pn0 pc0 ss0 xs0 _ hs0 hz0 HSM0.out (HA0.out.1.below B_10.drew) (HA0.out.2.below B_10.drew)).mono ?_
  rintro e w11 ⟨g11_1, g11_2, rfl, ho11, hd11⟩
  have hb11 : Below w10.heap.size w10 w11 := (Below.refl _ _).drew.trans hd11
  clear hd11
  have oz_11 := Hid.mk ho11
  clear ho11
  have p00_11 := cell_later hb11 p00_10
  have p01_11 := cell_later hb11 p01_10
  have x0_11 := cell_later hb11 x0_10
  have x1_11 := cell_later hb11 x1_10
  have oo_11 := Hid.mk (OwnU.below oo_10.out hb11)
  have ox_11 := Hid.mk (RView.ownBelow ox_10.out hb11)
  have oy_11 := Hid.mk (OwnU.below oy_10.out hb11)
  have og_11 := Hid.mk (OwnU.below og_10.out hb11)
  have B_11 := B_10.trans (hb11.mono B_10.size)
  have zz11 : w10.heap.size ≤ w11.heap.size := hb11.size
  clear p00_10 p01_10 x0_10 x1_10 oo_10 ox_10 oy_10 og_10 B_10
  clear hb11
  (try go_wp2_with fail)
  refine hK.out _ _ ?_ (fun hHeld' => ?_)
  · (try dsimp only)
    exact ⟨x0_11, x1_11, p00_11, p01_11⟩
  clear hK K hHeld
  have hHeld := hHeld'
  clear hHeld'
  (try simp only [Act.put, List.setIfInBounds_toArray, List.set_cons_zero, List.set_cons_succ])
  refine tr 3 (fun K hK => ?_)
  go_simp
  go_at_call 19
  refine (eqView_same _ _ _ _ _ _ _ _ _ _ ss0 xs0 _ hs0 hz0 HSM0.out.two (view_at ox_11.out).1 (view_at ox_11.out).2 (view_at oz_11.out).1 (view_at oz_11.out).2).mono ?_
  rintro e w12 ⟨rfl, hb12⟩
  clear oz_11
  have p00_12 := cell_later hb12 p00_11
  have p01_12 := cell_later hb12 p01_11
  have x0_12 := cell_later hb12 x0_11
  have x1_12 := cell_later hb12 x1_11
  have oo_12 := Hid.mk (OwnU.below oo_11.out hb12)
  have ox_12 := Hid.mk (RView.ownBelow ox_11.out hb12)
  have oy_12 := Hid.mk (OwnU.below oy_11.out hb12)
  have og_12 := Hid.mk (OwnU.below og_11.out hb12)
  have B_12 := B_11.trans (hb12.mono B_11.size)
  have zz12 : w11.heap.size ≤ w12.heap.size := hb12.size
  clear p00_11 p01_11 x0_11 x1_11 oo_11 ox_11 oy_11 og_11 B_11
  clear hb12
  (try go_wp2_with fail)
  refine hK.out _ _ ?_ (fun hHeld' => ?_)
  · (try dsimp only)
    exact ⟨x0_12, x1_12, p00_12, p01_12⟩
  clear hK K hHeld
  have hHeld := hHeld'
  clear hHeld'
  (try simp only [Act.put, List.setIfInBounds_toArray, List.set_cons_zero, List.set_cons_succ])
  refine tk 4 ?_
  refine wpAnyH_done (by kernel_rfl) ?_ _
  clear hHeld
  go_wp2_with fail
  refine (toTableS_any a1 n1 c1 l1 _ HSU.out (HT1.out.below B_12)).mono ?_
  rintro e w13 ⟨g13, rfl, ho13, hb13⟩
  have oz_13 := Hid.mk ho13
  clear ho13
  have p00_13 := cell_later hb13 p00_12
  have p01_13 := cell_later hb13 p01_12
  have x0_13 := cell_later hb13 x0_12
  have x1_13 := cell_later hb13 x1_12
  have oo_13 := Hid.mk (OwnU.below oo_12.out hb13)
  have ox_13 := Hid.mk (RView.ownBelow ox_12.out hb13)
  have oy_13 := Hid.mk (OwnU.below oy_12.out hb13)
  have og_13 := Hid.mk (OwnU.below og_12.out hb13)
  have B_13 := B_12.trans (hb13.mono B_12.size)
  have zz13 : w12.heap.size ≤ w13.heap.size := hb13.size
  clear p00_12 p01_12 x0_12 x1_12 oo_12 ox_12 oy_12 og_12 B_12
  clear hb13
  go_wp2_with fail
  refine (eqTableS_any _ _ n1 _ _ l1 _ HSU.out (oy_13.out.atSW HSU.out) (oz_13.out.atSW HSU.out)).mono ?_
  rintro e w14 ⟨rfl, hb14⟩
  clear oz_13
  have p00_14 := cell_later hb14 p00_13
  have p01_14 := cell_later hb14 p01_13
  have x0_14 := cell_later hb14 x0_13
  have x1_14 := cell_later hb14 x1_13
  have oo_14 := Hid.mk (OwnU.below oo_13.out hb14)
  have ox_14 := Hid.mk (RView.ownBelow ox_13.out hb14)
  have oy_14 := Hid.mk (OwnU.below oy_13.out hb14)
  have og_14 := Hid.mk (OwnU.below og_13.out hb14)
  have B_14 := B_13.trans (hb14.mono B_13.size)
  have zz14 : w13.heap.size ≤ w14.heap.size := hb14.size
  clear p00_13 p01_13 x0_13 x1_13 oo_13 ox_13 oy_13 og_13 B_13
  clear hb14
  go_wp2_with fail
  refine (markView_rep (From (w5.heap.size) (w6.heap.size)) _ _ _ _ _ _ ss0 xs0 _ _ HSM0.out.two (by omega) (by omega) (fun b h => by have h2 := h.2; omega) ox_14.out).mono ?_
  rintro e w15 ⟨rfl, ho15, hg15⟩
  rw [HV0.out]
  have ox_15 := Hid.mk ho15
  clear ho15
  have p00_15 := hg15.cell p00_14 (show ¬ From (w5.heap.size) (w6.heap.size) (w.heap.size) from fun h => by have h1 := h.1; have h2 := h.2; omega)
  have p01_15 := hg15.cell p01_14 (show ¬ From (w5.heap.size) (w6.heap.size) (w.heap.size) from fun h => by have h1 := h.1; have h2 := h.2; omega)
  have x0_15 := hg15.cell x0_14 (show ¬ From (w5.heap.size) (w6.heap.size) (w6.heap.size) from fun h => by have h1 := h.1; have h2 := h.2; omega)
  have x1_15 := hg15.cell x1_14 (show ¬ From (w5.heap.size) (w6.heap.size) (w6.heap.size) from fun h => by have h1 := h.1; have h2 := h.2; omega)
  have oo_15 := Hid.mk (OwnU.apartW oo_14.out (Off.apart hg15) (by omega))
  have oy_15 := Hid.mk (OwnU.apartW oy_14.out (Off.apart hg15) (by omega))
  have og_15 := Hid.mk (OwnU.apartW og_14.out (Off.apart hg15) (by omega))
  have B_15 := B_14.trans (hg15.toBelow (by omega) B_14.size)
  have zz15 : w14.heap.size ≤ w15.heap.size := hg15.size
  clear p00_14 p01_14 x0_14 x1_14 oo_14 ox_14 oy_14 og_14 B_14
  clear hg15
  clear ox_15
  go_wp2_with fail
  refine (markTableS_any (w7.heap.size) (w8.heap.size) _ _ _ l1 _ _ HSU.out (by omega) (by omega) oy_15.out).mono ?_
  rintro e w16 ⟨rfl, ho16, hp16⟩
  rw [HC1.out]
  have oy_16 := Hid.mk ho16
  have hg16 := Off.of_apart hp16
  clear ho16 hp16
  have p00_16 := hg16.cell p00_15 (show ¬ From (w7.heap.size) (w8.heap.size) (w.heap.size) from fun h => by have h1 := h.1; have h2 := h.2; omega)
  have p01_16 := hg16.cell p01_15 (show ¬ From (w7.heap.size) (w8.heap.size) (w.heap.size) from fun h => by have h1 := h.1; have h2 := h.2; omega)
  have x0_16 := hg16.cell x0_15 (show ¬ From (w7.heap.size) (w8.heap.size) (w6.heap.size) from fun h => by have h1 := h.1; have h2 := h.2; omega)
  have x1_16 := hg16.cell x1_15 (show ¬ From (w7.heap.size) (w8.heap.size) (w6.heap.size) from fun h => by have h1 := h.1; have h2 := h.2; omega)
  have oo_16 := Hid.mk (OwnU.apartW oo_15.out (Off.apart hg16) (by omega))
  have og_16 := Hid.mk (OwnU.apartW og_15.out (Off.apart hg16) (by omega))
  have B_16 := B_15.trans (hg16.toBelow (by omega) B_15.size)
  have zz16 : w15.heap.size ≤ w16.heap.size := hg16.size
  clear p00_15 p01_15 x0_15 x1_15 oo_15 oy_15 og_15 B_15
  clear hg16
  clear oy_16
  have kpos : ¬ (1 : Int) + (V0 : Int) + (C1 : Int) < 0 := by omega
  go_wp2_with fail
  refine (eqTableS_any _ _ na _ _ ta _ HSA.out (og_16.out.atSW HSA.out) (oo_16.out.atSW HSA.out)).mono ?_
  rintro e w17 ⟨rfl, hb17⟩
  have p00_17 := cell_later hb17 p00_16
  have p01_17 := cell_later hb17 p01_16
  have x0_17 := cell_later hb17 x0_16
  have x1_17 := cell_later hb17 x1_16
  have oo_17 := Hid.mk (OwnU.below oo_16.out hb17)
  have og_17 := Hid.mk (OwnU.below og_16.out hb17)
  have B_17 := B_16.trans (hb17.mono B_16.size)
  have zz17 : w16.heap.size ≤ w17.heap.size := hb17.size
  clear p00_16 p01_16 x0_16 x1_16 oo_16 og_16 B_16
  clear hb17
  go_wp2_with fail
  refine (markTableS_any (w8.heap.size) (w9.heap.size) _ _ _ ta 1 _ HSA.out (by omega) (by omega) og_17.out).mono ?_
  rintro e w18 ⟨rfl, ho18, hp18⟩
  rw [HG0.out]
  have og_18 := Hid.mk ho18
  have hg18 := Off.of_apart hp18
  clear ho18 hp18
  have p00_18 := hg18.cell p00_17 (show ¬ From (w8.heap.size) (w9.heap.size) (w.heap.size) from fun h => by have h1 := h.1; have h2 := h.2; omega)
  have p01_18 := hg18.cell p01_17 (show ¬ From (w8.heap.size) (w9.heap.size) (w.heap.size) from fun h => by have h1 := h.1; have h2 := h.2; omega)
  have x0_18 := hg18.cell x0_17 (show ¬ From (w8.heap.size) (w9.heap.size) (w6.heap.size) from fun h => by have h1 := h.1; have h2 := h.2; omega)
  have x1_18 := hg18.cell x1_17 (show ¬ From (w8.heap.size) (w9.heap.size) (w6.heap.size) from fun h => by have h1 := h.1; have h2 := h.2; omega)
  have oo_18 := Hid.mk (OwnU.apartW oo_17.out (Off.apart hg18) (by omega))
  have B_18 := B_17.trans (hg18.toBelow (by omega) B_17.size)
  have zz18 : w17.heap.size ≤ w18.heap.size := hg18.size
  clear p00_17 p01_17 x0_17 x1_17 oo_17 og_17 B_17
  clear hg18
  have gpos : ¬ (1 : Int) + (G0 : Int) < 0 := by omega
  go_wp2_with fail
  refine (heldTableS_any _ na _ ta 1 _ HSA.out (by omega) (by omega) (og_18.out.atMark HSA.out)).mono ?_
  rintro e w19 ⟨rfl, hb19⟩
  rw [HG0.out]
  have p00_19 := cell_later hb19 p00_18
  have p01_19 := cell_later hb19 p01_18
  have x0_19 := cell_later hb19 x0_18
  have x1_19 := cell_later hb19 x1_18
  have oo_19 := Hid.mk (OwnU.below oo_18.out hb19)
  have og_19 := Hid.mk (OwnU.below og_18.out hb19)
  have B_19 := B_18.trans (hb19.mono B_18.size)
  have zz19 : w18.heap.size ≤ w19.heap.size := hb19.size
  clear p00_18 p01_18 x0_18 x1_18 oo_18 og_18 B_18
  clear hb19
  go_wp2_with fail
  refine (toView_any sa0 sn0 sc0 pa0 pn0 pc0 ss0 xs0 _ hs0 hz0 HSM0.out (HA0.out.1.below B_19) (HA0.out.2.below B_19)).mono ?_
  rintro e w20 ⟨g20_1, g20_2, rfl, ho20, hb20⟩
  have ot_20 := Hid.mk ho20
  clear ho20
  have p00_20 := cell_later hb20 p00_19
  have p01_20 := cell_later hb20 p01_19
  have x0_20 := cell_later hb20 x0_19
  have x1_20 := cell_later hb20 x1_19
  have oo_20 := Hid.mk (OwnU.below oo_19.out hb20)
  have og_20 := Hid.mk (OwnU.below og_19.out hb20)
  have B_20 := B_19.trans (hb20.mono B_19.size)
  have zz20 : w19.heap.size ≤ w20.heap.size := hb20.size
  clear p00_19 p01_19 x0_19 x1_19 oo_19 og_19 B_19
  clear hb20
  go_wp2_with fail
  refine (toTableS_any a1 n1 c1 l1 _ HSU.out (HT1.out.below B_20)).mono ?_
  rintro e w21 ⟨g21, rfl, ho21, hb21⟩
  have ou_21 := Hid.mk ho21
  clear ho21
  have p00_21 := cell_later hb21 p00_20
  have p01_21 := cell_later hb21 p01_20
  have x0_21 := cell_later hb21 x0_20
  have x1_21 := cell_later hb21 x1_20
  have oo_21 := Hid.mk (OwnU.below oo_20.out hb21)
  have og_21 := Hid.mk (OwnU.below og_20.out hb21)
  have ot_21 := Hid.mk (RView.ownBelow ot_20.out hb21)
  have B_21 := B_20.trans (hb21.mono B_20.size)
  have zz21 : w20.heap.size ≤ w21.heap.size := hb21.size
  clear p00_20 p01_20 x0_20 x1_20 oo_20 og_20 ot_20 B_20
  clear hb21
  go_wp2_with fail
  refine (HI.out _ _ _ _ _ _ _ ot_21.out ou_21.out).mono ?_
  rintro e w22 ⟨⟨r22, m22, d22, rfl, ho22⟩, hb22⟩
  obtain rfl : na = m22 := HNA.out.symm.trans ho22.len
  have oh_22 := Hid.mk ho22
  clear ho22
  clear ot_21 ou_21
  have p00_22 := cell_later hb22 p00_21
  have p01_22 := cell_later hb22 p01_21
  have x0_22 := cell_later hb22 x0_21
  have x1_22 := cell_later hb22 x1_21
  have oo_22 := Hid.mk (OwnU.below oo_21.out hb22)
  have og_22 := Hid.mk (OwnU.below og_21.out hb22)
  have B_22 := B_21.trans (hb22.mono B_21.size)
  have zz22 : w21.heap.size ≤ w22.heap.size := hb22.size
  clear p00_21 p01_21 x0_21 x1_21 oo_21 og_21 B_21
  clear hb22
  go_wp2_with fail
  refine (eqTableS_any _ _ na _ _ ta _ HSA.out (oh_22.out.atSW HSA.out) (oo_22.out.atSW HSA.out)).mono ?_
  rintro e w23 ⟨rfl, hb23⟩
  have p00_23 := cell_later hb23 p00_22
  have p01_23 := cell_later hb23 p01_22
  have x0_23 := cell_later hb23 x0_22
  have x1_23 := cell_later hb23 x1_22
  have oo_23 := Hid.mk (OwnU.below oo_22.out hb23)
  have og_23 := Hid.mk (OwnU.below og_22.out hb23)
  have oh_23 := Hid.mk (OwnU.below oh_22.out hb23)
  have B_23 := B_22.trans (hb23.mono B_22.size)
  have zz23 : w22.heap.size ≤ w23.heap.size := hb23.size
  clear p00_22 p01_22 x0_22 x1_22 oo_22 og_22 oh_22 B_22
  clear hb23
  go_wp2_with fail
  refine (heldTableS_any _ na _ ta 1 _ HSA.out (by omega) (by omega) (og_23.out.atMark HSA.out)).mono ?_
  rintro e w24 ⟨rfl, hb24⟩
  rw [HG0.out]
  have p00_24 := cell_later hb24 p00_23
  have p01_24 := cell_later hb24 p01_23
  have x0_24 := cell_later hb24 x0_23
  have x1_24 := cell_later hb24 x1_23
  have oo_24 := Hid.mk (OwnU.below oo_23.out hb24)
  have og_24 := Hid.mk (OwnU.below og_23.out hb24)
  have oh_24 := Hid.mk (OwnU.below oh_23.out hb24)
  have B_24 := B_23.trans (hb24.mono B_23.size)
  have zz24 : w23.heap.size ≤ w24.heap.size := hb24.size
  clear p00_23 p01_23 x0_23 x1_23 oo_23 og_23 oh_23 B_23
  clear hb24
  go_wp2
  go_ret
  exact ⟨rfl, B_24⟩

end Go.Proofs.YthiabjkjpjmahaaGreat

/- Opening the laws' arguments: rows, slices of ints; plain facts on readings. -/
namespace Go.Proofs.YthiabjkjpjmahaaGreat
open Go.ChangeShapes Go.WideShapes Go.ChangeAt Go.RowKit Go.Joins Go.Deep

section
variable {H : Type} {enc : TypeId × Value → H} {P : Program} {w : World} {base : Nat} {spare : Nat → Bool} {held : Bool}

/-- A slice of ints that reads: its numbers. -/
theorem open_at {t e : TypeId} {fuel n c : Nat} {a : Option Addr} {x : DataW H × List MemPlace} (ht : P.underlying t = some (.slice e)) (he : P.underlying e = some (.int .i64)) (hC : P.cellsOf e = 1)
    (h : DataW.trod enc P w base spare held fuel t [.slice a n c] = some x) : ∃ zs : List Int, zs.length = n ∧ n ≤ 9223372036854775807 ∧ At w a zs := by
  rcases open_ints ht he hC h with ⟨hcs, _⟩ | ⟨ad, l, c', zs, hcs, _, hl, hm, hz, _, hcell, _⟩
  · simp at hcs
    obtain ⟨rfl, rfl, rfl⟩ := hcs
    exact ⟨[], rfl, by omega, At.nil _ _⟩
  · simp at hcs
    obtain ⟨rfl, rfl, rfl⟩ := hcs
    unfold maxLen at hm
    have hz' : n ≤ zs.length := by split at hz <;> omega
    refine ⟨zs.take n, by simp; omega, by omega, ?_⟩
    by_cases h0 : n = 0
    · left; simp [h0]
    · right
      obtain ⟨b, off, spot⟩ := ad
      have hc := hcell 0 (by omega)
      have hspot : spot = none := by simpa [Addr.add] using World.cell?_spot hc
      subst hspot
      refine ⟨b, off, rfl, fun i hi => ?_⟩
      have hin : i < n := by simp at hi; omega
      have := hcell i (by omega)
      rw [show (zs.take n).getD i 0 = zs.getD i 0 by simp [List.getD, hin]]
      rw [Addr.add_lit] at this
      exact this

end

end Go.Proofs.YthiabjkjpjmahaaGreat

/- Opening tables and slices of weighted rows among the laws' arguments. -/
namespace Go.Proofs.YthiabjkjpjmahaaGreat
open Go.ChangeShapes Go.WideShapes Go.ChangeAt Go.RowKit Go.Joins Go.Deep

section
variable {H : Type} {enc : TypeId × Value → H} {P : Program} {w : World} {base : Nat} {held : Bool}

theorem open_atW {t e q : TypeId} {f0 f1 g0 : Field} {fuel n c : Nat} {a : Option Addr} {x : DataW H × List MemPlace} (ht : P.underlying t = some (.slice e)) (he : P.underlying e = some (.struct #[f0, f1]))
    (ce : P.cellsOf e = 2) (o0 : f0.offset = 0) (o1 : f1.offset = 1) (c0 : P.cellsOf f0.type = 1) (c1 : P.cellsOf f1.type = 1) (hr : P.underlying f0.type = some (.struct #[g0])) (og : g0.offset = 0) (cg : P.cellsOf g0.type = 1)
    (hs : P.underlying g0.type = some (.slice q)) (hq : P.underlying q = some (.int .i64)) (cq : P.cellsOf q = 1) (hi : P.underlying f1.type = some (.int .i64))
    (h : DataW.trod enc P w base (fun _ => true) held fuel t [.slice a n c] = some x) : ∃ ts : List WRow, ts.length = n ∧ n ≤ 9223372036854775807 ∧ AtW w a ts := by
  rcases open_slice_pairs ht he ce o0 o1 c0 c1 h with ⟨hcs, _⟩ | ⟨ad, len, cap, m, k, V0, V1, D0, D1, P0, P1, hcs, _, hl, hm, hmm, _, hx⟩
  · simp at hcs
    obtain ⟨rfl, rfl, rfl⟩ := hcs
    exact ⟨[], rfl, by omega, .inl rfl⟩
  · simp at hcs
    obtain ⟨rfl, rfl, rfl⟩ := hcs
    simp only [if_true] at hmm
    subst hmm
    unfold maxLen at hm
    have each : ∀ i, i < n → ∃ y : Option Addr × Nat × List Int × Int, V0 i = .slice y.1 y.2.2.1.length y.2.1 ∧ V1 i = .int .i64 y.2.2.2 ∧ y.2.2.1.length ≤ 9223372036854775807 ∧ At w y.1 y.2.2.1 := by
      intro i hi'
      obtain ⟨_, _, r0, r1⟩ := hx i (by omega)
      obtain ⟨z, hz1, _, _⟩ := DataW.trod_int hi r1
      obtain ⟨y0, k', _, _, s0⟩ := trod_struct1 hr r0
      rw [og, cg] at s0
      simp only [List.drop_zero, List.take_succ_cons, List.take_zero] at s0
      obtain ⟨a', n', c', hc'⟩ := slice_form hs s0
      simp only [List.cons.injEq, and_true] at hc'
      rw [hc'] at s0
      obtain ⟨zs, hzl, hzn, hat⟩ := open_at hs hq cq s0
      exact ⟨(a', c', zs, z), by rw [hc', hzl], by simpa using hz1, by rw [hzl]; exact hzn, hat⟩
    obtain ⟨y, hy⟩ := choose_lt each
    refine ⟨(List.range n).map fun i => ((y i).2.2.1, (y i).2.2.2), by simp, by omega, ?_⟩
    by_cases h0 : n = 0
    · left; simp [h0]
    · right
      obtain ⟨b, off, spot⟩ := ad
      have hc0 := (hx 0 (by omega)).1
      have hspot : spot = none := by simpa [Addr.add] using World.cell?_spot hc0
      subst hspot
      refine ⟨b, off, rfl, fun i hi' => ?_⟩
      have hin : i < n := by simpa using hi'
      obtain ⟨k1, k2, _, _⟩ := hx i (by omega)
      obtain ⟨e1, e2, e3, e4⟩ := hy i hin
      have hw : wat ((List.range n).map fun i => ((y i).2.2.1, (y i).2.2.2)) i = ((y i).2.2.1, (y i).2.2.2) := by simp [wat, List.getD, hin]
      rw [hw]
      rw [Addr.add_lit] at k1 k2
      rw [e1] at k1
      rw [e2] at k2
      exact ⟨(y i).1, (y i).2.1, k1, k2, e3, e4⟩

end

end Go.Proofs.YthiabjkjpjmahaaGreat
