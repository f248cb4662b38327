/- Several texts of one proof, in build order: RaT, RaU. -/
import Derived.Test.YthiabjkjpjmahaaGreatM39
import Derived.Test.YthiabjkjpjmahaaGreatM37
import Derived.Test.YthiabjkjpjmahaaGreatM23
import Derived.Test.YthiabjkjpjmahaaGreatM38

/- Contracts of spec.l6Tables, spec.l6All, spec.RunAll. -/
namespace Go.Proofs.YthiabjkjpjmahaaGreat
open Go.RowKit

set_option maxRecDepth 100000 in
set_option maxHeartbeats 8000000 in
theorem l6Tables_any (a : Option Addr) (n c : Nat) (l : List Tab) (a' : Option Addr) (n' c' : Nat) (ss : List Int) (pa : Option Addr) (pn pc : Nat) (w : World) (hs : SmU l n) (hz : ss.length = n') (hn' : n' ≤ 1048576) (ha : AtSM w a l) (ha' : At w a' ss) :
    Calls Tryz.prog 36 #[.agg #[.slice a' n' c', .slice pa pn pc], .slice a n c] w fun e w' => e = .returned (.bool (suitB l ss)) ∧ Below w.heap.size w w' := by
  obtain ⟨V, hV⟩ : ∃ V, V = w.alloc (.cells #[.slice a' n' c', .slice pa pn pc] 26) := ⟨_, rfl⟩
  have B0 : Below w.heap.size w V := by rw [hV]; exact (Below.refl _ _).alloc (Nat.le_refl _) _
  have v0 : V.cell? ⟨w.heap.size, 0, none⟩ = some (.slice a' n' c') := by rw [hV]; exact pair0 _ _ _ _
  have zV : w.heap.size < V.heap.size := by rw [hV]; simp
  have HA := Hid.mk (ha.below B0)
  have HP := Hid.mk (ha'.below B0)
  have HS := Hid.mk hs
  have HZ := Hid.mk hz
  have HLN := Hid.mk hs.1
  have hn20 := hs.n
  have HB0 := Hid.mk B0
  clear ha ha' hs hz B0
  by_cases hnn : n = n'
  · subst hnn
    have HSB : Hid (suitB l ss = suitTo l ss n) := by
      show _ = _
      unfold suitB
      rw [HLN.out, HZ.out, decide_eq_true rfl]; rfl
    go_enter Tryz.func36, Tryz.ntmps36
    go_upto_region 1 with fail
    rw [← hV]
    clear hV
    go_wp2_with fail
    go_loopw [15] (fun i wx => ∃ (k : Nat), k ≤ n ∧ i = .int .i64 k ∧ suitTo l ss k = true ∧ Below V.heap.size V wx) (fun i _ => n - (intOf i).toNat)
    case atStart => exact ⟨0, Nat.zero_le _, rfl, rfl, Below.refl _ _⟩
    case round =>
      obtain ⟨k, hkn, rfl, htk, hbw⟩ := hrel
      have zw := hbw.size
      have v0 := cell_later hbw v0
      by_cases hlt : k < n
      · obtain ⟨b, off, a1, c1, hab, hc0, hc1, hf1, ham⟩ := (HA.out.below hbw).at HLN.out hlt
        subst hab
        obtain ⟨pb, poff, hpb, hpl, hpc⟩ := At.some (HP.out.below hbw) (by have := HZ.out; omega)
        subst hpb
        have hpk := hpc k (by have := HZ.out; omega)
        obtain ⟨z, hzz⟩ : ∃ z, ss.getD k 0 = z := ⟨_, rfl⟩
        rw [hzz] at hpk
        have HSM := Hid.mk (HS.out.tab k (by omega))
        obtain ⟨ok, hok⟩ : ∃ ok, suit1 l ss k = ok := ⟨_, rfl⟩
        have HOK := Hid.mk hok
        have HOE : Hid ((decide ((tat l k).1 = z) && goodT (tat l k).1 (tat l k).2) = ok) := by
          show _ = _
          rw [← hok, ← hzz]; rfl
        have HAM := Hid.mk ham
        obtain ⟨p1, hp1⟩ : ∃ p1, (tat l k).1 = p1 := ⟨_, rfl⟩
        obtain ⟨ts, hts⟩ : ∃ ts, (tat l k).2 = ts := ⟨_, rfl⟩
        rw [hp1] at hc0 HOE
        rw [hts] at hc1 HOE HAM HSM
        obtain ⟨m1, hm1e⟩ : ∃ m1, ts.length = m1 := ⟨_, rfl⟩
        rw [hm1e] at hc1 HSM
        obtain ⟨W1, hW1⟩ : ∃ W1, W1 = wr.alloc (.cells #[.int .i64 p1, .slice a1 m1 c1] 32) := ⟨_, rfl⟩
        have b1 : Below wr.heap.size wr W1 := by rw [hW1]; exact (Below.refl _ _).alloc (Nat.le_refl _) _
        have t0 : W1.cell? ⟨wr.heap.size, 0, none⟩ = some (.int .i64 p1) := by rw [hW1]; exact pair0 _ _ _ _
        have t1 : W1.cell? ⟨wr.heap.size, 1, none⟩ = some (.slice a1 m1 c1) := by rw [hW1]; exact pair1 _ _ _ _
        have hpk1 := cell_later b1 hpk
        have v1 := cell_later b1 v0
        have KT := Hid.mk (specGoodTable_any a1 m1 c1 ts p1 W1.drew hm1e HSM.out.n ((HAM.out.below b1).below (Below.refl _ _).drew).atW)
        have HTK := Hid.mk htk
        have HBW1 : Hid (Below V.heap.size V W1) := hbw.trans (b1.mono hbw.size)
        have hki : (k : Int) < (n : Int) := by omega
        clear hpc hf1 ham hok hp1 hts htk hbw b1 hm1e hzz hpl
        cases hgt : goodT p1 ts with
        | true =>
          obtain ⟨dz, hdz⟩ : ∃ dz, decide (p1 = z) = dz := ⟨_, rfl⟩
          have HDZ : Hid (dz = ok) := by show _ = _; rw [← HOE.out, hdz, hgt, Bool.and_true]
          have hd : (p1 != z) = !dz := by rw [← hdz]; by_cases h : p1 = z <;> simp [h]
          rw [hgt] at KT
          clear hgt hdz
          go_wp2_with fail
          rw [← hW1]
          clear hW1 hc0 hc1
          refine wp_region_held_drew (S := fun w' => w'.cell? ⟨wr.heap.size, 0, none⟩ = some (.int .i64 p1) ∧ w'.cell? ⟨wr.heap.size, 1, none⟩ = some (.slice a1 m1 c1) ∧ w'.cell? ⟨pb, poff + k, none⟩ = some (.int .i64 z) ∧ w'.cell? ⟨w.heap.size, 0, none⟩ = some (.slice (some ⟨pb, poff, none⟩) n c')) (by kernel_rfl) ?_ (fun hHeld => ?_)
          · (try dsimp only)
            exact ⟨t0, t1, hpk1, v1⟩
          refine tk 0 ?_
          refine tr 1 (fun K hK => ?_)
          go_simp
          go_at_call 76
          refine KT.out.mono ?_
          rintro e w5 ⟨rfl, hb5⟩
          have t0 := cell_later (w := W1.drew) hb5 t0
          have t1 := cell_later (w := W1.drew) hb5 t1
          have hpk1 := cell_later (w := W1.drew) hb5 hpk1
          have v1 := cell_later (w := W1.drew) hb5 v1
          have HB5 : Hid (Below V.heap.size V w5) := HBW1.out.drew.trans (hb5.mono HBW1.out.size)
          clear hb5
          (try go_wp2_with fail)
          refine hK.out _ _ ?_ (fun hHeld' => ?_)
          · (try dsimp only)
            exact ⟨t0, t1, hpk1, v1⟩
          clear hK K hHeld
          have hHeld := hHeld'
          clear hHeld'
          (try simp only [Act.put, List.setIfInBounds_toArray, List.set_cons_zero, List.set_cons_succ])
          refine tk 2 ?_
          refine tk 3 ?_
          refine tk 4 ?_
          refine tk 5 ?_
          refine tk 6 ?_
          refine tk 7 ?_
          refine tk 8 ?_
          refine tk 9 ?_
          refine tk 10 ?_
          refine tk 11 ?_
          refine tk 12 ?_
          refine wpAnyH_done (by kernel_rfl) ?_ _
          clear hHeld t0 t1 hpk1 hpk KT HBW1
          cases dz with
          | false =>
            have HN : Hid (suitB l ss = false) := by show _ = _; rw [HSB.out, suitTo_no hlt (by rw [HOK.out, ← HDZ.out])]
            have HBZ : Hid (Below w.heap.size w w5) := HB0.out.trans (HB5.out.mono HB0.out.size)
            go_wp2
            exact bodyPost_ret (v := .bool false) (by simp [results, Tryz.results36, go_sem]) rfl ⟨by rw [HN.out], HBZ.out⟩
          | true =>
            have HN : Hid (suit1 l ss k = true) := by show _ = _; rw [HOK.out, ← HDZ.out]
            go_wp2
            go_roundw
            case rel => exact ⟨k + 1, by omega, by go_num, by rw [suitTo_succ, HTK.out, HN.out]; rfl, HB5.out⟩
            case measure => simp [intOf]; omega
        | false =>
          have HN : Hid (suitB l ss = false) := by show _ = _; rw [HSB.out, suitTo_no hlt (by rw [HOK.out, ← HOE.out, hgt, Bool.and_false])]
          rw [hgt] at KT
          clear hgt
          go_wp2_with fail
          rw [← hW1]
          clear hW1 hc0 hc1
          refine wp_region_held_drew (S := fun w' => w'.cell? ⟨wr.heap.size, 0, none⟩ = some (.int .i64 p1) ∧ w'.cell? ⟨wr.heap.size, 1, none⟩ = some (.slice a1 m1 c1) ∧ w'.cell? ⟨pb, poff + k, none⟩ = some (.int .i64 z) ∧ w'.cell? ⟨w.heap.size, 0, none⟩ = some (.slice (some ⟨pb, poff, none⟩) n c')) (by kernel_rfl) ?_ (fun hHeld => ?_)
          · (try dsimp only)
            exact ⟨t0, t1, hpk1, v1⟩
          refine tk 0 ?_
          refine tr 1 (fun K hK => ?_)
          go_simp
          go_at_call 76
          refine KT.out.mono ?_
          rintro e w5 ⟨rfl, hb5⟩
          have t0 := cell_later (w := W1.drew) hb5 t0
          have t1 := cell_later (w := W1.drew) hb5 t1
          have hpk1 := cell_later (w := W1.drew) hb5 hpk1
          have v1 := cell_later (w := W1.drew) hb5 v1
          have HB5 : Hid (Below V.heap.size V w5) := HBW1.out.drew.trans (hb5.mono HBW1.out.size)
          clear hb5
          (try go_wp2_with fail)
          refine hK.out _ _ ?_ (fun hHeld' => ?_)
          · (try dsimp only)
            exact ⟨t0, t1, hpk1, v1⟩
          clear hK K hHeld
          have hHeld := hHeld'
          clear hHeld'
          (try simp only [Act.put, List.setIfInBounds_toArray, List.set_cons_zero, List.set_cons_succ])
          refine tk 2 ?_
          refine tk 3 ?_
          refine tu 4 ?_
          refine tu 5 ?_
          refine tu 6 ?_
          refine tu 7 ?_
          refine tu 8 ?_
          refine tu 9 ?_
          refine tu 10 ?_
          refine tu 11 ?_
          refine tk 12 ?_
          refine wpAnyH_done (by kernel_rfl) ?_ _
          clear hHeld t0 t1 hpk1 hpk KT HBW1
          have HBZ : Hid (Below w.heap.size w w5) := HB0.out.trans (HB5.out.mono HB0.out.size)
          go_wp2
          exact bodyPost_ret (v := .bool false) (by simp [results, Tryz.results36, go_sem]) rfl ⟨by rw [HN.out], HBZ.out⟩
      · obtain rfl : k = n := by omega
        have hkk : ¬ (k : Int) < (k : Int) := by omega
        have HN : Hid (suitB l ss = true) := by show _ = _; rw [HSB.out, htk]
        have HBZ : Hid (Below w.heap.size w wr) := HB0.out.trans (hbw.mono HB0.out.size)
        clear htk
        go_wp2
        exact bodyPost_ret (v := .bool true) (by simp [results, Tryz.results36, go_sem]) rfl ⟨by rw [HN.out], HBZ.out⟩
  · have HSB : Hid (suitB l ss = false) := by
      show _ = _
      unfold suitB
      rw [HLN.out, HZ.out, decide_eq_false hnn]; rfl
    have hd : ((n : Int) != (n' : Int)) = true := by simp; omega
    have hd2 : ((n : Int) == (n' : Int)) = false := by simp; omega
    have hd3 : ¬ (n : Int) = (n' : Int) := by omega
    go_enter Tryz.func36, Tryz.ntmps36
    go_upto_region 1 with fail
    rw [← hV]
    clear hV
    go_wp2
    exact bodyPost_ret (v := .bool false) (by simp [results, Tryz.results36, go_sem]) rfl ⟨by rw [HSB.out], HB0.out⟩

end Go.Proofs.YthiabjkjpjmahaaGreat

/- Contracts of spec.l6All and spec.RunAll. -/
namespace Go.Proofs.YthiabjkjpjmahaaGreat
open Go.RowKit

set_option maxRecDepth 100000 in
set_option maxHeartbeats 16000000 in
theorem l6All_any (sa : Option Addr) (sn sc : Nat) (pa : Option Addr) (pn pc : Nat) (ss : List Int) (xs : List PartD) (la : Option Addr) (ln lc : Nat) (l : List Tab) (wd : List Int) (w : World) (hsz : ss.length = sn) (hz : xs.length = pn) (hs : SmView (ss, xs)) (hsa : At w sa ss) (ha : AtSl RPart w pa xs) (hl : SmU l ln) (hla : AtSM w la l) (hck : checkV (ss, xs) = some wd) (hsu : suitB l ss = true) :
   Calls Tryz.prog 38 #[.agg #[.slice sa sn sc, .slice pa pn pc], .slice la ln lc] w fun e w' => RunRet e w' w.heap.size (runTo l xs pn) ∧ Below w.heap.size w w' := by
  obtain ⟨i0, hi, hz0, hz1, hz2⟩ := info_parts Tryz.infoT
  have hsn : sn ≤ 1048576 := by have := hs.src; simp only at this; omega
  have hpn : pn ≤ 1048576 := by have := hs.len; simp only at this; omega
  obtain ⟨V, hV⟩ : ∃ V, V = w.alloc (.cells #[.slice sa sn sc, .slice pa pn pc] 26) := ⟨_, rfl⟩
  have B0 : Below w.heap.size w V := by rw [hV]; exact (Below.refl _ _).alloc (Nat.le_refl _) _
  have v1 : V.cell? ⟨w.heap.size, 1, none⟩ = some (.slice pa pn pc) := by rw [hV]; exact pair1 _ _ _ _
  obtain ⟨hlen, hfit⟩ := suitB_fit hsu
  have hgood := checkV_good hck
  simp only [hz] at hgood
  obtain ⟨gs, gp1, gp12, gwl, _, gck⟩ := hgood
  have hat := checkTo_at (srcOk_all gs) gck
  have hll : ln = sn := by have := hl.1; omega
  have HC : Hid (Calls Tryz.prog 35 #[.agg #[.slice sa sn sc, .slice pa pn pc]] V fun e w' => IntsRet e w' V.heap.size true wd ∧ Below V.heap.size V w') := by
   have := l6Check_any sa sn sc pa pn pc ss xs V hsz hsn hz hpn (fun i x hx => hs.part hx) (hsa.below B0) (ha.below B0)
   rw [(ck_some hck).1, (ck_some hck).2] at this
   exact this
  have HZ := Hid.mk hz
  have HSZ := Hid.mk hsz
  have HA := Hid.mk (ha.below B0)
  have HLA := Hid.mk (hla.below B0)
  have HSM := Hid.mk hs
  have HL := Hid.mk hl
  have HB0 := Hid.mk B0
  have HFIT := Hid.mk hfit
  have HATW := Hid.mk hat
  have HWL := Hid.mk gwl
  have HLL := Hid.mk hll
  clear hsz hz hs hsa ha hl hla B0 hck hsu hlen hfit gs gwl gck hat hll
  go_enter Tryz.func38, Tryz.ntmps38
  go_wp2_with fail
  rw [← hV]
  clear hV
  refine HC.out.mono ?_
  rintro e w1 ⟨⟨rc, mc, dc, rfl, hmc, hoc⟩, hb1⟩
  have hmc' : mc = pn := by rw [← hmc]; exact HWL.out
  subst hmc'
  have HWA := Hid.mk (At.owned hoc)
  have v1 := cell_later hb1 v1
  have HA1 := Hid.mk (HA.out.below hb1)
  have HLA1 := Hid.mk (HLA.out.below hb1)
  have HB1 := Hid.mk (HB0.out.trans (hb1.mono HB0.out.size))
  have HLN := Hid.mk HL.out.1
  clear HC HA HLA hb1 hoc hmc
  obtain ⟨q, hq⟩ : ∃ q, q = w1.heap.size := ⟨_, rfl⟩
  have HQ := Hid.mk hq
  clear hq
  go_wp2_with fail
  go_loopw [8, 22] (fun pp i wx => ∃ (k : Nat) (r : Option Addr) (d : Nat) (ah : List Tab), k ≤ mc ∧ i = .int .i64 k ∧ pp = .slice r k d ∧ runTo l xs k = some ah ∧ Fit ah (wd.take k) ∧ OwnU wx q wx.heap.size r k d ah ∧ q ≤ wx.heap.size ∧ Below w1.heap.size w1 wx) (fun _ i _ => mc - (intOf i).toNat)
  case atStart => exact ⟨0, none, 0, [], Nat.zero_le _, rfl, rfl, rfl, Fit.nil _, OwnU.nil _ _, Nat.le_of_eq HQ.out, Below.refl _ _⟩
  case round =>
   obtain ⟨k, r, d, ah, hk, rfl, rfl, hrun, hfa, hown, zr, hbw⟩ := hrel
   by_cases hlt : k < mc
   ·obtain ⟨x, hx⟩ : ∃ x, xs[k]? = some x := ⟨_, List.getElem?_eq_getElem (by have := HZ.out; omega)⟩
    obtain ⟨z, hw, hwk, hwt⟩ := HATW.out k x hlt hx
    have hrs := runTo_some hrun
    have hsm : SmU ah k := small_tabs hrs.1 (by omega) hrs.2
    have htk : (wd.take k).length = k := by rw [List.length_take]; have := HWL.out; omega
    obtain ⟨hC, hR, hB⟩ := tab_tell HFIT.out hfa hw
    obtain ⟨hrl, hr6⟩ := rows_small HFIT.out hfa hw
    have HYES : Hid (goodT z (rowsM l ah x) = true → runTo l xs (k + 1) = some (ah ++ [(z, rowsM l ah x)])) := fun h => by
     rw [runTo_yes hrun hx (by rw [hB]; exact h), hC, hR]
    have HNO : Hid (goodT z (rowsM l ah x) = false → runTo l xs mc = none) := fun h => runTo_none (runTo_no hrun hx (by rw [hB]; exact h)) (by omega)
    have HFN : Hid (goodT z (rowsM l ah x) = true → Fit (ah ++ [(z, rowsM l ah x)]) (wd.take (k + 1))) := fun h => by
     rw [hwt]
     exact hfa.push (by rw [hrs.1, htk]) h
    obtain ⟨b, off, hpa, hc⟩ := (HA1.out.below hbw).each (by rw [HZ.out]; omega)
    subst hpa
    obtain ⟨cx, hcx, hatx⟩ := hc k x hx
    obtain ⟨ta, tn, tc, ca, cn, cc, qa, qn, qc, rfl, ⟨t1, t2, t3⟩, ⟨u1, u2, u3⟩, ⟨y1, y2, y3⟩⟩ := RPart.at_open hatx
    have g0 := hcx 0 _ rfl
    have g1 := hcx 1 _ rfl
    have g2 := hcx 2 _ rfl
    have g3 := hcx 3 _ rfl
    have g4 := hcx 4 _ rfl
    have g5 := hcx 5 _ rfl
    rw [RPart_k] at g0 g1 g2 g3 g4 g5
    rw [Nat.add_zero] at g0
    obtain ⟨cb, coff, hcb, _, hcc⟩ := At.some (HWA.out.below hbw) (by have := HWL.out; omega)
    subst hcb
    have hck := hcc k (by have := HWL.out; omega)
    rw [show wd.getD k 0 = z by simp [List.getD, hwk]] at hck
    have hki : (k : Int) < (mc : Int) := by omega
    obtain ⟨W1, hW1⟩ : ∃ W1, W1 = wr.alloc (.cells (cellsP x.K x.A x.B ta tn tc ca cn cc qa qn qc).toArray 74) := ⟨_, rfl⟩
    have b1 : Below wr.heap.size wr W1 := by rw [hW1]; exact (Below.refl _ _).alloc (Nat.le_refl _) _
    have q0 : W1.heap[wr.heap.size]? = some (.cells (cellsP x.K x.A x.B ta tn tc ca cn cc qa qn qc).toArray 74 (0, 0)) := by rw [hW1]; exact heap_alloc_new wr _
    have k0 := blk_cell q0 0 (v := .int .i64 x.K) rfl
    have k1 := blk_cell q0 1 (v := .int .i64 x.A) rfl
    have k2 := blk_cell q0 2 (v := .int .i64 x.B) rfl
    have k3 := blk_cell q0 3 (v := .slice ta tn tc) rfl
    have k4 := blk_cell q0 4 (v := .slice ca cn cc) rfl
    have k5 := blk_cell q0 5 (v := .slice qa qn qc) rfl
    have hck1 := cell_later b1 hck
    have HAA := Hid.mk ((hown.atM hsm).below b1)
    have HLW := Hid.mk ((HLA1.out.below hbw).below b1)
    have HBW1 := Hid.mk (hbw.trans (b1.mono hbw.size))
    have HOW := Hid.mk (hown.below b1)
    have HRL := Hid.mk hrl
    have HR6 := Hid.mk hr6
    have HAL := Hid.mk hrs.1
    have HAS := Hid.mk hsm
    have HTE := Hid.mk (AtE.below t3 b1)
    have HUE := Hid.mk (At.below u3 b1)
    have HYE := Hid.mk (AtS.below y3 b1)
    have HT1 := Hid.mk t1
    have HU1 := Hid.mk u1
    have HY1 := Hid.mk y1
    have HW := Hid.mk hw
    have HFA := Hid.mk hfa
    have HTK := Hid.mk htk
    have zW1 : wr.heap.size < W1.heap.size := by rw [hW1]; simp
    have HWZ : Hid (wr.heap.size ≤ W1.heap.size) := by show _ ≤ _; omega
    clear hrun hfa hown hbw hx hw hwk hwt hrs hsm htk hC hR hB hrl hr6 hc hcx hatx t1 t2 t3 u1 u2 u3 y1 y2 y3 hcc hck b1 q0
    obtain ⟨K, A, B, es, zs, ps⟩ := x
    simp only [PartD.K, PartD.A, PartD.B, PartD.ts, PartD.cs, PartD.ps] at *

    by_cases n4 : K = 4
    ·subst n4
     have hjw := HW.out
     rw [widthP_4 rfl] at hjw
     obtain ⟨za, h1, h2⟩ := Option.bind_eq_some_iff.1 hjw
     obtain ⟨zb, h3, h4⟩ := Option.bind_eq_some_iff.1 h2
     obtain ⟨jA, pA, hjA, hjl, rfl, gA⟩ := HFA.out.nat h1
     obtain ⟨jB, pB, hjB, hil, rfl, gB⟩ := HFA.out.nat h3
     simp only [PartD.A, PartD.B, PartD.ps] at hjA hjB h4
     subst hjA hjB
     have hpo : pairsOk ps pA pB = true := by
      split at h4
      ·rename_i h; have := h.1; rw [Int.toNat_natCast, Int.toNat_natCast] at this; exact this
      ·cases h4
     rw [HTK.out] at hjl hil
     obtain ⟨tb, toff, a1, c1, hab, s0, s1, hf1, at1⟩ := HAA.out.at HAL.out hjl
     obtain ⟨tb', toff', a2, c2, hbb, _, s2, hf2, at2⟩ := HAA.out.at HAL.out hil
     subst hab
     simp only [Option.some.injEq, Addr.mk.injEq, and_true] at hbb
     obtain ⟨rfl, rfl⟩ := hbb
     have hrw : rowsM l ah (4, (jA : Int), (jB : Int), es, zs, ps) = joinW (tat ah jA).2 (tat ah jB).2 ps := by rw [rowsM_4 rfl]; simp only [PartD.A, PartD.B, PartD.ps, Int.toNat_natCast]
     rw [hrw] at HYES HNO HFN HRL HR6
     have hjAi : (jA : Int) < (k : Int) := by omega
     have hjBi : (jB : Int) < (k : Int) := by omega
     have KJ := Hid.mk (l3Join_any a1 a2 qa (tat ah jA).2.length (tat ah jB).2.length qn c1 c2 qc (tat ah jA).2 (tat ah jB).2 ps pA pB W1.drew rfl rfl HY1.out gA gB hpo at1.drew at2.drew (AtS.below HYE.out (Below.refl _ _).drew))
     generalize joinW (tat ah jA).2 (tat ah jB).2 ps = RW at *
     generalize (tat ah jA).2.length = mA at *
     generalize (tat ah jB).2.length = mB at *
     clear hjw h1 h2 h3 h4 at1 at2 hf1 hf2 gA gB hpo hrw s0
     go_upto_region 10 with fail
     rw [← hW1]
     clear hW1
     go_region_held3 (fun w' => w'.cell? ⟨wr.heap.size, 1, none⟩ = some (.int .i64 (jA : Nat)) ∧ w'.cell? ⟨wr.heap.size, 2, none⟩ = some (.int .i64 (jB : Nat)) ∧ w'.cell? ⟨wr.heap.size, 5, none⟩ = some (.slice qa qn qc) ∧ w'.cell? ⟨tb, toff + jA * 2 + 1, none⟩ = some (.slice a1 mA c1) ∧ w'.cell? ⟨tb, toff + jB * 2 + 1, none⟩ = some (.slice a2 mB c2)) (refine ⟨?_, ?_, ?_, ?_, ?_⟩ <;> assumption)
      (first
       | (go_at_call 78; refine KJ.out.mono ?_; rintro e w3 ⟨r3, m3, d3, rfl, hm3, ha3, hb3⟩; have k1 := cell_later hb3 k1; have k2 := cell_later hb3 k2; have k5 := cell_later hb3 k5; have s1 := cell_later hb3 s1; have s2 := cell_later hb3 s2))
     have hb3 : Below W1.heap.size W1 w3 := (Below.refl _ _).drew.trans hb3
     clear KJ s1 s2
     have HB3 := Hid.mk (HBW1.out.trans (hb3.mono HBW1.out.size))
     have HM3 := Hid.mk hm3
     have z3 := hb3.size
     have hck3 := cell_later hb3 hck1
     have HB13 := Hid.mk hb3
     have HRT := Hid.mk (l2Tell_any r3 m3 d3 RW z w3 hm3 (by have := HRL.out; omega) (fun i hi => by have := at_of_mem HR6.out i (by omega); omega) ha3)
     clear hb3 hm3 ha3 k0 k1 k2 k3 k4 k5 hck1
     go_wp2_with fail
     refine HRT.out.mono ?_
     rintro e w4 ⟨⟨r4, m4, d4, cells4, rfl, ho4⟩, hb4⟩
     have z4 := hb4.size
     have HBR := Hid.mk (HB13.out.trans (hb4.mono z3))
     clear HRT hck3
     cases hgt : goodT z RW with
     | false =>
      have HN := Hid.mk (HNO.out hgt)
      obtain ⟨P4, hP4⟩ : ∃ P4, tellP z RW = P4 := ⟨_, rfl⟩
      rw [hP4]
      obtain ⟨W4, hW4⟩ : ∃ W4, W4 = w4.alloc (.cells #[.int .i64 P4, .slice r4 m4 d4] 32) := ⟨_, rfl⟩
      have HBE : Hid (Below w.heap.size w W4) := by
       rw [hW4]
       have h9 := HB1.out.trans ((HB3.out.trans (hb4.mono HB3.out.size)).mono HB1.out.size)
       exact h9.alloc h9.size _
      clear hP4 hb4 ho4 hgt
      go_upto_region 14 with fail
      rw [← hW4]
      clear hW4
      go_wp2
      exact bodyPost_ret (v := .tuple #[.slice none 0 0, .bool false]) (by simp [results, Tryz.results38, go_sem]) rfl ⟨RunRet.no HN.out, HBE.out⟩
     | true =>
      have HRN := Hid.mk (HYES.out hgt)
      have HFX := Hid.mk (HFN.out hgt)
      have e1 : tellT z RW = RW := by unfold tellT; rw [hgt]; rfl
      have e2 : tellP z RW = z := by unfold tellP; rw [hgt]; rfl
      rw [e1] at ho4
      rw [e2]
      have ho4' : OwnT w4 w3.heap.size w4.heap.size r4 m4 d4 RW := ⟨cells4, ho4⟩
      have HM4 := Hid.mk ho4'.len
      have HO4 := Hid.mk (ho4'.widen (lo' := W1.heap.size) z3 (Nat.le_refl _) (Nat.le_refl _))
      obtain ⟨cells, L, H, hou⟩ := HOW.out
      have HOU := Hid.mk (hou.widen (Nat.le_refl q) HWZ.out (Nat.le_refl _))
      obtain ⟨W4, hW4⟩ : ∃ W4, W4 = w4.alloc (.cells #[.int .i64 z, .slice r4 m4 d4] 32) := ⟨_, rfl⟩
      have hbX : Below w4.heap.size w4 W4 := by rw [hW4]; exact (Below.refl _ _).alloc (Nat.le_refl _) _
      have HBX := Hid.mk hbX
      have j0 : W4.cell? ⟨w4.heap.size, 0, none⟩ = some (.int .i64 z) := by rw [hW4]; exact pair0 _ _ _ _
      have j1 : W4.cell? ⟨w4.heap.size, 1, none⟩ = some (.slice r4 m4 d4) := by rw [hW4]; exact pair1 _ _ _ _
      have HO5 := Hid.mk ((HOU.out.below HBR.out).below hbX)
      have h9 := HB3.out.trans (hb4.mono HB3.out.size)
      have HBW4 := Hid.mk (h9.trans (hbX.mono h9.size))
      have zX := hbX.size
      clear hb4 ho4 ho4' hou hbX hgt e1 e2 h9
      go_upto_region 16 with fail
      rw [← hW4]
      clear hW4
      go_wp2_with (at_builtin; refine wpList_append_lies _ rfl (.tmp 70) (.tmp 72) 27 rfl q 32 i0 (.agg #[.int .i64 0, .slice none 0 0]) 2 32 Tryz.underlying27 hi hz0 hz1 hz2 rfl (by decide) (.slice (some ⟨tb, toff, none⟩) k d) k cells rfl (HO5.out.outer.alloc _) ⟨W4.heap.size, 0, none⟩ 1 1 [.int .i64 z, .slice r4 m4 d4] (by simp [Act.eval]) rfl (by simpa using news_at W4 #[.int .i64 z, .slice r4 m4 d4] 32) (by intro u hu; simp at hu; rcases hu with rfl | rfl <;> rfl) (by decide) (by unfold maxLen; omega) (by omega) (by simp; omega) (W4.heap.size + 1) (by simp) ?_)
      intro g5 cap5 w5 hown5 hgrow5 hat5 hlt5
      have hob : ∀ j, (Value.slice (some ⟨tb, toff, none⟩) k d).ownBlock = some j → q ≤ j := fun j hj => (HO5.out.blocks j hj).1
      have hbB : Below w4.heap.size w4 (W4.alloc (.cells #[.int .i64 z, .slice r4 m4 d4] 32)) := HBX.out.alloc HBX.out.size _
      have hpu := HOU.out.pushed (p := z) (by omega) HBR.out HM4.out HO4.out hbB hown5 hgrow5 (by
       rcases hat5 with e | e
       ·left; exact e
       ·right; omega) hlt5
      have HPU := Hid.mk hpu
      have z5 : W4.heap.size ≤ w5.heap.size := by have := hgrow5.size; simp at this; omega
      have HB5 : Hid (Below w1.heap.size w1 w5) := (HBW4.out.alloc HBW4.out.size _).grown hgrow5 (by have := HBW4.out.size; simp; omega) (fun j hj => by have := hob j hj; have := HQ.out; omega)
      clear hpu hob hbB hown5 hgrow5 hat5 HOU HO5 HO4
      go_wp2
      go_roundw
      case rel => exact ⟨k + 1, _, _, _, by omega, by go_num, rfl, HRN.out, HFX.out, ⟨_, _, _, HPU.out⟩, by omega, HB5.out⟩
      case measure => simp [intOf]; omega
    by_cases n7 : K = 7
    ·subst n7
     have hjw := HW.out
     rw [widthP_7 rfl] at hjw
     obtain ⟨jA, pA, hjA, hjl, hzp, gA⟩ := HFA.out.nat hjw
     clear hzp
     simp only [PartD.A] at hjA
     subst hjA
     rw [HTK.out] at hjl
     obtain ⟨tb, toff, a1, c1, hab, s0, s1, hf1, at1⟩ := HAA.out.at HAL.out hjl
     subst hab
     have hrw : rowsM l ah (7, (jA : Int), B, es, zs, ps) = distW (tat ah jA).2 := by rw [rowsM_7 rfl]; simp only [PartD.A, Int.toNat_natCast]
     rw [hrw] at HYES HNO HFN HRL HR6
     have hjAi : (jA : Int) < (k : Int) := by omega
     have KJ := Hid.mk (l3Distinct_any a1 (tat ah jA).2.length c1 (tat ah jA).2 W1 rfl (by have := goodT_len60 gA; omega) (fun t ht => (goodT_six gA t ht).1) at1)
     generalize distW (tat ah jA).2 = RW at *
     generalize (tat ah jA).2.length = mA at *
     clear hjw at1 hf1 gA hrw s0
     go_upto_region 12 with fail
     rw [← hW1]
     clear hW1
     go_wp2_with fail
     refine KJ.out.mono ?_
     rintro e w3 ⟨r3, m3, d3, rfl, hm3, ha3, hb3⟩
     clear KJ s1
     have HB3 := Hid.mk (HBW1.out.trans (hb3.mono HBW1.out.size))
     have HM3 := Hid.mk hm3
     have z3 := hb3.size
     have hck3 := cell_later hb3 hck1
     have HB13 := Hid.mk hb3
     have HRT := Hid.mk (l2Tell_any r3 m3 d3 RW z w3 hm3 (by have := HRL.out; omega) (fun i hi => by have := at_of_mem HR6.out i (by omega); omega) ha3)
     clear hb3 hm3 ha3 k0 k1 k2 k3 k4 k5 hck1
     go_wp2_with fail
     refine HRT.out.mono ?_
     rintro e w4 ⟨⟨r4, m4, d4, cells4, rfl, ho4⟩, hb4⟩
     have z4 := hb4.size
     have HBR := Hid.mk (HB13.out.trans (hb4.mono z3))
     clear HRT hck3
     cases hgt : goodT z RW with
     | false =>
      have HN := Hid.mk (HNO.out hgt)
      obtain ⟨P4, hP4⟩ : ∃ P4, tellP z RW = P4 := ⟨_, rfl⟩
      rw [hP4]
      obtain ⟨W4, hW4⟩ : ∃ W4, W4 = w4.alloc (.cells #[.int .i64 P4, .slice r4 m4 d4] 32) := ⟨_, rfl⟩
      have HBE : Hid (Below w.heap.size w W4) := by
       rw [hW4]
       have h9 := HB1.out.trans ((HB3.out.trans (hb4.mono HB3.out.size)).mono HB1.out.size)
       exact h9.alloc h9.size _
      clear hP4 hb4 ho4 hgt
      go_upto_region 14 with fail
      rw [← hW4]
      clear hW4
      go_wp2
      exact bodyPost_ret (v := .tuple #[.slice none 0 0, .bool false]) (by simp [results, Tryz.results38, go_sem]) rfl ⟨RunRet.no HN.out, HBE.out⟩
     | true =>
      have HRN := Hid.mk (HYES.out hgt)
      have HFX := Hid.mk (HFN.out hgt)
      have e1 : tellT z RW = RW := by unfold tellT; rw [hgt]; rfl
      have e2 : tellP z RW = z := by unfold tellP; rw [hgt]; rfl
      rw [e1] at ho4
      rw [e2]
      have ho4' : OwnT w4 w3.heap.size w4.heap.size r4 m4 d4 RW := ⟨cells4, ho4⟩
      have HM4 := Hid.mk ho4'.len
      have HO4 := Hid.mk (ho4'.widen (lo' := W1.heap.size) z3 (Nat.le_refl _) (Nat.le_refl _))
      obtain ⟨cells, L, H, hou⟩ := HOW.out
      have HOU := Hid.mk (hou.widen (Nat.le_refl q) HWZ.out (Nat.le_refl _))
      obtain ⟨W4, hW4⟩ : ∃ W4, W4 = w4.alloc (.cells #[.int .i64 z, .slice r4 m4 d4] 32) := ⟨_, rfl⟩
      have hbX : Below w4.heap.size w4 W4 := by rw [hW4]; exact (Below.refl _ _).alloc (Nat.le_refl _) _
      have HBX := Hid.mk hbX
      have j0 : W4.cell? ⟨w4.heap.size, 0, none⟩ = some (.int .i64 z) := by rw [hW4]; exact pair0 _ _ _ _
      have j1 : W4.cell? ⟨w4.heap.size, 1, none⟩ = some (.slice r4 m4 d4) := by rw [hW4]; exact pair1 _ _ _ _
      have HO5 := Hid.mk ((HOU.out.below HBR.out).below hbX)
      have h9 := HB3.out.trans (hb4.mono HB3.out.size)
      have HBW4 := Hid.mk (h9.trans (hbX.mono h9.size))
      have zX := hbX.size
      clear hb4 ho4 ho4' hou hbX hgt e1 e2 h9
      go_upto_region 16 with fail
      rw [← hW4]
      clear hW4
      go_wp2_with (at_builtin; refine wpList_append_lies _ rfl (.tmp 70) (.tmp 72) 27 rfl q 32 i0 (.agg #[.int .i64 0, .slice none 0 0]) 2 32 Tryz.underlying27 hi hz0 hz1 hz2 rfl (by decide) (.slice (some ⟨tb, toff, none⟩) k d) k cells rfl (HO5.out.outer.alloc _) ⟨W4.heap.size, 0, none⟩ 1 1 [.int .i64 z, .slice r4 m4 d4] (by simp [Act.eval]) rfl (by simpa using news_at W4 #[.int .i64 z, .slice r4 m4 d4] 32) (by intro u hu; simp at hu; rcases hu with rfl | rfl <;> rfl) (by decide) (by unfold maxLen; omega) (by omega) (by simp; omega) (W4.heap.size + 1) (by simp) ?_)
      intro g5 cap5 w5 hown5 hgrow5 hat5 hlt5
      have hob : ∀ j, (Value.slice (some ⟨tb, toff, none⟩) k d).ownBlock = some j → q ≤ j := fun j hj => (HO5.out.blocks j hj).1
      have hbB : Below w4.heap.size w4 (W4.alloc (.cells #[.int .i64 z, .slice r4 m4 d4] 32)) := HBX.out.alloc HBX.out.size _
      have hpu := HOU.out.pushed (p := z) (by omega) HBR.out HM4.out HO4.out hbB hown5 hgrow5 (by
       rcases hat5 with e | e
       ·left; exact e
       ·right; omega) hlt5
      have HPU := Hid.mk hpu
      have z5 : W4.heap.size ≤ w5.heap.size := by have := hgrow5.size; simp at this; omega
      have HB5 : Hid (Below w1.heap.size w1 w5) := (HBW4.out.alloc HBW4.out.size _).grown hgrow5 (by have := HBW4.out.size; simp; omega) (fun j hj => by have := hob j hj; have := HQ.out; omega)
      clear hpu hob hbB hown5 hgrow5 hat5 HOU HO5 HO4
      go_wp2
      go_roundw
      case rel => exact ⟨k + 1, _, _, _, by omega, by go_num, rfl, HRN.out, HFX.out, ⟨_, _, _, HPU.out⟩, by omega, HB5.out⟩
      case measure => simp [intOf]; omega
    have KJ := Hid.mk (l6Part_any (K, A, B, es, zs, ps) ta tn tc ca cn cc qa qn qc la ln lc r k d l ah ss (wd.take k) z W1 n4 n7 HW.out HFIT.out HFA.out HLN.out (by rw [HSZ.out, HLL.out]) (by have := HL.out.n; omega) HAL.out HTK.out (by omega) HLW.out HAA.out HT1.out HTE.out HU1.out HUE.out)
    generalize rowsM l ah (K, A, B, es, zs, ps) = RW at *
    have q4 : (K == 4) = false := by simpa using n4
    have q7 : (K == 7) = false := by simpa using n7
    go_wp2_with fail
    rw [← hW1]
    clear hW1
    refine KJ.out.mono ?_
    rintro e w3 ⟨r3, m3, d3, rfl, hm3, ha3, hb3⟩
    clear KJ
    have HB3 := Hid.mk (HBW1.out.trans (hb3.mono HBW1.out.size))
    have HM3 := Hid.mk hm3
    have z3 := hb3.size
    have hck3 := cell_later hb3 hck1
    have HB13 := Hid.mk hb3
    have HRT := Hid.mk (l2Tell_any r3 m3 d3 RW z w3 hm3 (by have := HRL.out; omega) (fun i hi => by have := at_of_mem HR6.out i (by omega); omega) ha3)
    clear hb3 hm3 ha3 k0 k1 k2 k3 k4 k5 hck1
    go_wp2_with fail
    refine HRT.out.mono ?_
    rintro e w4 ⟨⟨r4, m4, d4, cells4, rfl, ho4⟩, hb4⟩
    have z4 := hb4.size
    have HBR := Hid.mk (HB13.out.trans (hb4.mono z3))
    clear HRT hck3
    cases hgt : goodT z RW with
    | false =>
     have HN := Hid.mk (HNO.out hgt)
     obtain ⟨P4, hP4⟩ : ∃ P4, tellP z RW = P4 := ⟨_, rfl⟩
     rw [hP4]
     obtain ⟨W4, hW4⟩ : ∃ W4, W4 = w4.alloc (.cells #[.int .i64 P4, .slice r4 m4 d4] 32) := ⟨_, rfl⟩
     have HBE : Hid (Below w.heap.size w W4) := by
      rw [hW4]
      have h9 := HB1.out.trans ((HB3.out.trans (hb4.mono HB3.out.size)).mono HB1.out.size)
      exact h9.alloc h9.size _
     clear hP4 hb4 ho4 hgt
     go_upto_region 14 with fail
     rw [← hW4]
     clear hW4
     go_wp2
     exact bodyPost_ret (v := .tuple #[.slice none 0 0, .bool false]) (by simp [results, Tryz.results38, go_sem]) rfl ⟨RunRet.no HN.out, HBE.out⟩
    | true =>
     have HRN := Hid.mk (HYES.out hgt)
     have HFX := Hid.mk (HFN.out hgt)
     have e1 : tellT z RW = RW := by unfold tellT; rw [hgt]; rfl
     have e2 : tellP z RW = z := by unfold tellP; rw [hgt]; rfl
     rw [e1] at ho4
     rw [e2]
     have ho4' : OwnT w4 w3.heap.size w4.heap.size r4 m4 d4 RW := ⟨cells4, ho4⟩
     have HM4 := Hid.mk ho4'.len
     have HO4 := Hid.mk (ho4'.widen (lo' := W1.heap.size) z3 (Nat.le_refl _) (Nat.le_refl _))
     obtain ⟨cells, L, H, hou⟩ := HOW.out
     have HOU := Hid.mk (hou.widen (Nat.le_refl q) HWZ.out (Nat.le_refl _))
     obtain ⟨W4, hW4⟩ : ∃ W4, W4 = w4.alloc (.cells #[.int .i64 z, .slice r4 m4 d4] 32) := ⟨_, rfl⟩
     have hbX : Below w4.heap.size w4 W4 := by rw [hW4]; exact (Below.refl _ _).alloc (Nat.le_refl _) _
     have HBX := Hid.mk hbX
     have j0 : W4.cell? ⟨w4.heap.size, 0, none⟩ = some (.int .i64 z) := by rw [hW4]; exact pair0 _ _ _ _
     have j1 : W4.cell? ⟨w4.heap.size, 1, none⟩ = some (.slice r4 m4 d4) := by rw [hW4]; exact pair1 _ _ _ _
     have HO5 := Hid.mk ((HOU.out.below HBR.out).below hbX)
     have h9 := HB3.out.trans (hb4.mono HB3.out.size)
     have HBW4 := Hid.mk (h9.trans (hbX.mono h9.size))
     have zX := hbX.size
     clear hb4 ho4 ho4' hou hbX hgt e1 e2 h9
     go_upto_region 16 with fail
     rw [← hW4]
     clear hW4
     go_wp2_with (at_builtin; refine wpList_append_lies _ rfl (.tmp 70) (.tmp 72) 27 rfl q 32 i0 (.agg #[.int .i64 0, .slice none 0 0]) 2 32 Tryz.underlying27 hi hz0 hz1 hz2 rfl (by decide) (.slice r k d) k cells rfl (HO5.out.outer.alloc _) ⟨W4.heap.size, 0, none⟩ 1 1 [.int .i64 z, .slice r4 m4 d4] (by simp [Act.eval]) rfl (by simpa using news_at W4 #[.int .i64 z, .slice r4 m4 d4] 32) (by intro u hu; simp at hu; rcases hu with rfl | rfl <;> rfl) (by decide) (by unfold maxLen; omega) (by omega) (by simp; omega) (W4.heap.size + 1) (by simp) ?_)
     intro g5 cap5 w5 hown5 hgrow5 hat5 hlt5
     have hob : ∀ j, (Value.slice r k d).ownBlock = some j → q ≤ j := fun j hj => (HO5.out.blocks j hj).1
     have hbB : Below w4.heap.size w4 (W4.alloc (.cells #[.int .i64 z, .slice r4 m4 d4] 32)) := HBX.out.alloc HBX.out.size _
     have hpu := HOU.out.pushed (p := z) (by omega) HBR.out HM4.out HO4.out hbB hown5 hgrow5 (by
      rcases hat5 with e | e
      ·left; exact e
      ·right; omega) hlt5
     have HPU := Hid.mk hpu
     have z5 : W4.heap.size ≤ w5.heap.size := by have := hgrow5.size; simp at this; omega
     have HB5 : Hid (Below w1.heap.size w1 w5) := (HBW4.out.alloc HBW4.out.size _).grown hgrow5 (by have := HBW4.out.size; simp; omega) (fun j hj => by have := hob j hj; have := HQ.out; omega)
     clear hpu hob hbB hown5 hgrow5 hat5 HOU HO5 HO4
     go_wp2
     go_roundw
     case rel => exact ⟨k + 1, _, _, _, by omega, by go_num, rfl, HRN.out, HFX.out, ⟨_, _, _, HPU.out⟩, by omega, HB5.out⟩
     case measure => simp [intOf]; omega
   ·obtain rfl : k = mc := by omega
    have hki : ¬ (k : Int) < (k : Int) := by omega
    have HBW := Hid.mk (HB1.out.trans (hbw.mono HB1.out.size))
    have HR : Hid (RunRet (.returned (.tuple #[.slice r k d, .bool true])) wr w.heap.size (runTo l xs k)) := by
     show RunRet _ _ _ _
     rw [hrun]
     exact ⟨r, k, d, rfl, hown.widen (by have := HQ.out; have := HB1.out.size; omega) (Nat.le_refl _) (Nat.le_refl _)⟩
    clear hown hrun hbw hfa
    go_wp2
    exact bodyPost_ret (v := .tuple #[.slice r k d, .bool true]) (by simp [results, Tryz.results38, go_sem]) rfl ⟨HR.out, HBW.out⟩

set_option maxRecDepth 100000 in
set_option maxHeartbeats 8000000 in
theorem specRunAll (sa : Option Addr) (sn sc : Nat) (pa : Option Addr) (pn pc : Nat) (ss : List Int) (xs : List PartD) (la : Option Addr) (ln lc : Nat) (l : List Tab) (w : World) (hsz : ss.length = sn) (hz : xs.length = pn) (hs : SmView (ss, xs)) (hsa : At w sa ss) (ha : AtSl RPart w pa xs) (hl : SmU l ln) (hla : AtSM w la l) :
   Calls Tryz.prog 25 #[.agg #[.slice sa sn sc, .slice pa pn pc], .slice la ln lc] w fun e w' => RunRet e w' w.heap.size (raO (ss, xs) l) ∧ Below w.heap.size w w' := by
  have hsn : sn ≤ 1048576 := by have := hs.src; simp only at this; omega
  have hpn : pn ≤ 1048576 := by have := hs.len; simp only at this; omega
  obtain ⟨V, hV⟩ : ∃ V, V = w.alloc (.cells #[.slice sa sn sc, .slice pa pn pc] 26) := ⟨_, rfl⟩
  have B0 : Below w.heap.size w V := by rw [hV]; exact (Below.refl _ _).alloc (Nat.le_refl _) _
  have v0 : V.cell? ⟨w.heap.size, 0, none⟩ = some (.slice sa sn sc) := by rw [hV]; exact pair0 _ _ _ _
  have v1 : V.cell? ⟨w.heap.size, 1, none⟩ = some (.slice pa pn pc) := by rw [hV]; exact pair1 _ _ _ _
  have HC := Hid.mk (l6Check_any sa sn sc pa pn pc ss xs V hsz hsn hz hpn (fun i x hx => hs.part hx) (hsa.below B0) (ha.below B0))
  have HZ := Hid.mk hz
  have HSZ := Hid.mk hsz
  have HA := Hid.mk (ha.below B0)
  have HSA := Hid.mk (hsa.below B0)
  have HLA := Hid.mk (hla.below B0)
  have HSM := Hid.mk hs
  have HL := Hid.mk hl
  have HB0 := Hid.mk B0
  clear hsz hz hs hsa ha hl hla B0
  go_enter Tryz.func25, Tryz.ntmps25
  go_wp2_with fail
  rw [← hV]
  clear hV
  refine HC.out.mono ?_
  rintro e w1 ⟨⟨rc, mc, dc, rfl, _, _⟩, hb1⟩
  have HB1 := Hid.mk (HB0.out.trans (hb1.mono HB0.out.size))
  have v0 := cell_later hb1 v0
  have v1 := cell_later hb1 v1
  have HA1 := Hid.mk (HA.out.below hb1)
  have HSA1 := Hid.mk (HSA.out.below hb1)
  have HLA1 := Hid.mk (HLA.out.below hb1)
  clear HC HA HSA HLA hb1
  cases hck : checkV (ss, xs) with
  | none =>
   have HR : Hid (raO (ss, xs) l = none) := by show _ = _; unfold raO; rw [(ck_none hck).1, if_neg (fun h => by simp at h)]
   rw [(ck_none hck).1]
   clear hck
   go_wp2
   exact bodyPost_ret (v := .tuple #[.slice none 0 0, .bool false]) (by simp [results, Tryz.results25, go_sem]) rfl ⟨RunRet.no HR.out, HB1.out⟩
  | some wd =>
   have HCK := Hid.mk (ck_some hck).1
   have HWD := Hid.mk hck
   rw [(ck_some hck).1]
   have KS := Hid.mk (l6Tables_any la ln lc l sa sn sc ss pa pn pc w1 HL.out HSZ.out hsn HLA1.out HSA1.out)
   clear hck
   go_wp2_with fail
   refine KS.out.mono ?_
   rintro e w2 ⟨rfl, hb2⟩
   have HB2 := Hid.mk (HB1.out.trans (hb2.mono HB1.out.size))
   have v0 := cell_later hb2 v0
   have v1 := cell_later hb2 v1
   cases hsu : suitB l ss with
   | false =>
    have HR : Hid (raO (ss, xs) l = none) := by show _ = _; unfold raO; rw [if_neg (fun h => by rw [hsu] at h; simp at h)]
    clear hsu hb2
    go_wp2
    exact bodyPost_ret (v := .tuple #[.slice none 0 0, .bool false]) (by simp [results, Tryz.results25, go_sem]) rfl ⟨RunRet.no HR.out, HB2.out⟩
   | true =>
    have HR : Hid (raO (ss, xs) l = runTo l xs pn) := by show _ = _; unfold raO; rw [if_pos ⟨HCK.out, hsu⟩]; simp only [HZ.out]
    have KT := Hid.mk (l6All_any sa sn sc pa pn pc ss xs la ln lc l wd w2 HSZ.out HZ.out HSM.out (HSA1.out.below hb2) (HA1.out.below hb2) HL.out (HLA1.out.below hb2) HWD.out hsu)
    clear hsu hb2 KS
    go_wp2_with fail
    refine KT.out.mono ?_
    rintro e w3 ⟨⟨r3, m3, d3, rfl, ho3⟩, hb3⟩
    have HB3 := Hid.mk (HB2.out.trans (hb3.mono HB2.out.size))
    have HO : Hid (RunRet (.returned (.tuple #[.slice r3 m3 d3, .bool (runTo l xs pn).isSome])) w3 w.heap.size (raO (ss, xs) l)) := by
     show RunRet _ _ _ _
     rw [HR.out]
     exact ⟨r3, m3, d3, rfl, ho3.widen HB2.out.size (Nat.le_refl _) (Nat.le_refl _)⟩
    obtain ⟨ok, hok⟩ : ∃ ok, (runTo l xs pn).isSome = ok := ⟨_, rfl⟩
    rw [hok] at HO ⊢
    clear ho3 hb3 KT hok
    go_wp2
    exact bodyPost_ret (v := .tuple #[.slice r3 m3 d3, .bool ok]) (by simp [results, Tryz.results25, go_sem]) rfl ⟨HO.out, HB3.out⟩

end Go.Proofs.YthiabjkjpjmahaaGreat
