/- Contract of spec.JoinParts. -/
import Derived.Test.YtpnaoahlfhbbmaaGreatM31
import Derived.Test.YtpnaoahlfhbbmaaGreatM32
import Derived.Test.YtpnaoahlfhbbmaaGreatM29
import Derived.Test.YtpnaoahlfhbbmaaGreatM13
import Derived.Test.YtpnaoahlfhbbmaaGreatM12
namespace Go.Proofs.YtpnaoahlfhbbmaaGreat
open Go.RowKit

theorem jh_ex {q : Nat} {l : List Tab} {zss : List (List Int)} {n : Nat} (h6 : q ≤ 6) (hcl : ∀ zs ∈ zss, Cls q zs) (hz : zss.length = n) (ht : tkB l zss n = true) : ∀ k, k ≤ n → jok q l zss k = true → ∃ cols T, JH q l zss k cols T
  | 0, _, _ => ⟨_, _, JH.start _ _ _⟩
  | k + 1, hk, hj => by
    rw [jok_succ, Bool.and_eq_true] at hj
    obtain ⟨cols, T, h⟩ := jh_ex h6 hcl hz ht k (by omega) hj.1
    have hlt : k < zss.length := by omega
    exact ⟨_, _, (h.step h6 (hcl _ (by simp [List.getD, hlt])) (tkB_at ht (by omega))).2.2 (of_decide_eq_true hj.2)⟩
theorem jm_good {q : Nat} {l : List Tab} {zss : List (List Int)} {n : Nat} (h6 : q ≤ 6) (hcl : ∀ zs ∈ zss, Cls q zs) (hall : ∀ c, c < q → ∃ zs ∈ zss, (c : Int) ∈ zs) (hz : zss.length = n) (ht : tkB l zss n = true) (hj : jok q l zss n = true) : goodT q (jm q l zss n) = true := by
  obtain ⟨cols, T, h⟩ := jh_ex h6 hcl hz ht n (Nat.le_refl _) hj
  exact (h.1.end h6 (h.all (by omega) hall)).2.2.1

set_option maxRecDepth 100000 in
set_option maxHeartbeats 32000000 in
theorem specJoinParts (a : Option Addr) (n c : Nat) (l : List Tab) (a' : Option Addr) (n' c' : Nat) (zss : List (List Int)) (C : Int) (w : World) (hs : SmU l n) (hz : zss.length = n') (hn' : n' ≤ 1048576) (ht : tot zss n' ≤ 1048576) (ha : AtSM w a l) (ha' : AtS w a' zss) :
    Calls Tryz.prog 6 #[.slice a n c, .slice a' n' c', .int .i64 C] w fun e w' => TabAns e w' w.heap.size (jpB l zss C) C (jpW l zss C) ∧ Below w.heap.size w w' := by
  obtain ⟨i0, hi, hz0, hz1, hz2⟩ := info_parts Tryz.infoInt
  obtain ⟨W, hW⟩ : ∃ W, W = w.alloc (.cells #[.int .i64 0, .slice none 0 0] 28) := ⟨_, rfl⟩
  have zW : w.heap.size < W.heap.size := by rw [hW]; simp
  have B0 : Below w.heap.size w W := by rw [hW]; exact (Below.refl _ _).alloc (Nat.le_refl _) _
  have q0 : W.heap[w.heap.size]? = some (.cells #[.int .i64 0, .slice none 0 0] 28 (0, 0)) := by rw [hW]; exact heap_alloc_new w _
  have e0 : W.cell? ⟨w.heap.size, 0, none⟩ = some (.int .i64 0) := by rw [cell_of_row _ _ 0 _ _ (0, 0) q0]; rfl
  have e1 : W.cell? ⟨w.heap.size, 1, none⟩ = some (.slice none 0 0) := by rw [cell_of_row _ _ 1 _ _ (0, 0) q0]; rfl
  have f0 : W.frozen? ⟨w.heap.size, 0, none⟩ = false := frozen_of_row _ _ 0 _ _ q0
  have f1 : W.frozen? ⟨w.heap.size, 1, none⟩ = false := frozen_of_row _ _ 1 _ _ q0
  have HA := Hid.mk (ha.below B0)
  have HP := Hid.mk (ha'.below B0)
  have HS := Hid.mk hs
  have HZ := Hid.mk hz
  have HB0 := Hid.mk B0
  have hln := hs.1
  have hn20 := hs.n
  have HLN := Hid.mk hln
  have KG := Hid.mk (specGoodParts a' n' c' zss C W hz hn' ht HP.out)
  clear q0 ha ha' hs hz B0 hln ht
  cases hg : gpB zss C with
  | false =>
    have HN : Hid (jpB l zss C = false) := by show _ = _; unfold jpB; rw [hg]; rfl
    go_enter Tryz.func6, Tryz.ntmps6
    go_wp2_with fail
    rw [← hW]
    clear hW
    refine KG.out.mono ?_
    rintro e w1 ⟨rfl, hb1⟩
    rw [hg]
    have f0 := frozen_later hb1 e0 f0
    have f1 := frozen_later hb1 e1 f1
    have e0 := cell_later hb1 e0
    have e1 := cell_later hb1 e1
    have HBW : Hid (Below w.heap.size w w1) := HB0.out.trans (hb1.mono HB0.out.size)
    clear hb1 KG hg
    go_wp2
    refine bodyPost_ret (v := .tuple #[.agg #[.int .i64 0, .slice none 0 0], .bool false]) (by simp [results, Tryz.results6, go_sem, e0, e1]) rfl ⟨TabAns.zero HN.out rfl, ?_⟩
    exact (HBW.out.setCell (by show w.heap.size ≤ w.heap.size; omega) _).setCell (by show w.heap.size ≤ w.heap.size; omega) _
  | true =>
  obtain ⟨q, rfl, hq1, hq6, hl1, hl8, hcls, hall⟩ := gpB_parts hg
  have HG := Hid.mk hg
  have HCL := Hid.mk hcls
  have HALL := Hid.mk hall
  have hn8 : n' ≤ 8 := by have := HZ.out; omega
  clear hg hcls hall hl1 hl8
  by_cases hnn : n = n'
  · subst hnn
    have HJB : Hid (jpB l zss (q : Int) = (tkB l zss n && jok q l zss n)) := by
      show _ = _
      unfold jpB
      rw [HG.out, HLN.out, HZ.out, decide_eq_true rfl, Int.toNat_natCast]; rfl
    have HJW : Hid (jpW l zss (q : Int) = jm q l zss n) := by show _ = _; unfold jpW; rw [HLN.out, Int.toNat_natCast]
    go_enter Tryz.func6, Tryz.ntmps6
    go_wp2_with fail
    rw [← hW]
    clear hW
    refine KG.out.mono ?_
    rintro e w1 ⟨rfl, hb1⟩
    rw [HG.out]
    obtain ⟨W3, hW3⟩ : ∃ W3, W3 = w1.alloc (.cells #[.slice none 0 0] 48) := ⟨_, rfl⟩
    obtain ⟨F, hF⟩ : ∃ F, F = w1.heap.size := ⟨_, rfl⟩
    have b3 : Below w1.heap.size w1 W3 := by rw [hW3]; exact (Below.refl _ _).alloc (Nat.le_refl _) _
    obtain ⟨base, hbase⟩ : ∃ base, base = W3.heap.size := ⟨_, rfl⟩
    have hFb : F < base := by rw [hbase, hF, hW3]; simp
    have HV3 : Hid (RowVar W3 F 48 base 3 none 0 0 []) := by rw [hW3]; exact Hid.mk (RowVar.new hF hFb)
    have HB3 : Hid (Below W.heap.size W W3) := hb1.trans (b3.mono hb1.size)
    have hFW : W.heap.size ≤ F := by rw [hF]; exact hb1.size
    have HBE : Hid (base ≤ W3.heap.size) := Nat.le_of_eq hbase
    have HW3 := Hid.mk hW3
    have HFE := Hid.mk hF
    clear hb1 KG b3 hW3 hF hbase
    go_upto_region 4 with fail
    rw [← HW3.out, ← HFE.out]
    clear HW3 HFE
    go_wp2_with fail
    go_loopw [9] (fun i wx => ∃ (k : Nat) (r : Option Addr) (d : Nat), k ≤ q ∧ i = .int .i64 k ∧ RowVar wx F 48 base 3 r k d (List.replicate k miss) ∧ base ≤ wx.heap.size ∧ Below W.heap.size W wx) (fun i _ => q - (intOf i).toNat)
    case atStart => exact ⟨0, none, 0, Nat.zero_le _, rfl, HV3.out, HBE.out, HB3.out⟩
    case round =>
      clear HV3 HB3 HBE
      obtain ⟨k, r, d, hkq, rfl, hv, hbl, hbw⟩ := hrel
      have hcf := hv.cell
      by_cases hlt : k < q
      · have hki : (k : Int) < (q : Int) := by omega
        have HR : Hid (List.replicate (k + 1) miss = List.replicate k miss ++ [miss]) := List.replicate_succ'
        go_wp2_with (at_builtin; refine wpList_append_lies _ rfl (.tmp 41) (.tmp 42) 45 rfl base 3 i0 (.int .i64 0) 1 8 Tryz.underlying45 hi hz0 hz1 hz2 rfl (by decide) _ _ _ rfl (hv.own.alloc _) ⟨wr.heap.size, 0, none⟩ 1 1 [.int .i64 100001] rfl rfl (news_at wr _ _) (by simp; rfl) (by decide) (by unfold maxLen; omega) (by omega) (by simp; omega) (wr.heap.size + 1) (by simp) ?_; intro g4 cap4 w4 hown4 hgrow4 _ _; obtain ⟨t1, t2, hv4⟩ := hv.pushed hown4 hgrow4)
        have HB4 := Hid.mk (hv.pushed_below (v := .slice (some ⟨g4, 0, none⟩) (k + 1) cap4) hgrow4 hbw hFW)
        have z4 : base ≤ w4.heap.size := by have := hgrow4.size; simp at this; omega
        have hv5 : RowVar (w4.setCell ⟨F, 0, none⟩ (.slice (some ⟨g4, 0, none⟩) (k + 1) cap4)) F 48 base 3 (some ⟨g4, 0, none⟩) (k + 1) cap4 (List.replicate (k + 1) miss) := by rw [HR.out]; exact hv4
        have HV := Hid.mk hv5
        clear hv4 hv5 hown4 hgrow4 hv hbw t1 t2 hcf
        go_roundw
        case rel => exact ⟨k + 1, _, _, by omega, by go_num, HV.out, by simpa using z4, HB4.out⟩
        case measure => simp [intOf]; omega
      · obtain rfl : k = q := by omega
        have hkk : ¬ (k : Int) < (k : Int) := by omega
        obtain ⟨W4, hW4⟩ : ∃ W4, W4 = wr.alloc (.cells #[.slice r k d, .int .i64 1] 50) := ⟨_, rfl⟩
        have b4 : Below wr.heap.size wr W4 := by rw [hW4]; exact (Below.refl _ _).alloc (Nat.le_refl _) _
        obtain ⟨g, hgE⟩ : ∃ g, g = wr.heap.size := ⟨_, rfl⟩
        have HAT : Hid (AtM W4 (some ⟨g, 0, none⟩) (jm k l zss 0)) := by
          have k0 := pair0 wr (.slice r k d) (.int .i64 1) 50
          have k1 := pair1 wr (.slice r k d) (.int .i64 1) 50
          rw [← hW4, ← hgE] at k0 k1
          refine .inr ⟨g, 0, [.slice r k d, .int .i64 1], rfl, Means.one hv.1 (by omega) (owns_formed hv.own).2.1 (At.below (At.owned hv.own) b4), fun j u hu => ?_⟩
          match j, hu with
          | 0, hu => obtain rfl := Option.some.inj hu; exact k0
          | 1, hu => obtain rfl := Option.some.inj hu; exact k1
        have HB4 : Hid (Below W.heap.size W W4) := hbw.trans (b4.mono hbw.size)
        have HW4 := Hid.mk hW4
        have HGE := Hid.mk hgE
        clear hv hbw b4 hW4 hgE
        go_upto_region 9 with fail
        rw [← HW4.out, ← HGE.out]
        clear HW4 HGE hcf
        go_wp2_with fail
        go_loopw [50] (fun i wx => ∃ (j : Nat), j ≤ n ∧ i = .int .i64 j ∧ tkB l zss j = true ∧ Below W4.heap.size W4 wx) (fun i _ => n - (intOf i).toNat)
        case atStart => exact ⟨0, Nat.zero_le _, rfl, rfl, Below.refl _ _⟩
        case round =>
          obtain ⟨j, hjn, rfl, htk, hb4⟩ := hrel
          have hbw := HB4.out.trans (hb4.mono HB4.out.size)
          have zw := hbw.size
          by_cases hlt : j < n
          · obtain ⟨b, off, hab, hc⟩ := (HA.out.below hbw).some (by have := HLN.out; omega)
            subst hab
            obtain ⟨a1, c1, hc0, hc1, hm1, hf1, ham⟩ := hc j (by have := HLN.out; omega)
            obtain ⟨zs, hzk⟩ : ∃ zs, zss[j]? = some zs := ⟨_, List.getElem?_eq_getElem (by have := HZ.out; omega)⟩
            have hgd : zss.getD j [] = zs := by simp [List.getD, hzk]
            obtain ⟨pb, poff, pa, pc, hpb, hpc, hpl, hpat⟩ := atS_row (HP.out.below hbw) hzk
            subst hpb
            have HSM := Hid.mk (HS.out.tab j (by omega))
            have HTL : Hid (tl1 l zss j = (goodT (tat l j).1 (tat l j).2 && (decide ((tat l j).1 = (zs.length : Int)) && oneB (tat l j).2))) := by
              show _ = _
              unfold tl1; rw [hgd]
            have HAM := Hid.mk ham
            obtain ⟨p1, hp1⟩ : ∃ p1, (tat l j).1 = p1 := ⟨_, rfl⟩
            obtain ⟨ts, hts⟩ : ∃ ts, (tat l j).2 = ts := ⟨_, rfl⟩
            rw [hp1] at hc0 HTL
            rw [hts] at hc1 HTL HAM HSM hm1
            obtain ⟨m1, hm1e⟩ : ∃ m1, ts.length = m1 := ⟨_, rfl⟩
            obtain ⟨pn, hpn⟩ : ∃ pn, zs.length = pn := ⟨_, rfl⟩
            rw [hm1e] at hc1 HSM hm1
            rw [hpn] at hpc HTL
            obtain ⟨W1, hW1⟩ : ∃ W1, W1 = wr.alloc (.cells #[.int .i64 p1, .slice a1 m1 c1] 28) := ⟨_, rfl⟩
            have b1 : Below wr.heap.size wr W1 := by rw [hW1]; exact (Below.refl _ _).alloc (Nat.le_refl _) _
            have t0 : W1.cell? ⟨wr.heap.size, 0, none⟩ = some (.int .i64 p1) := by rw [hW1]; exact pair0 _ _ _ _
            have t1 : W1.cell? ⟨wr.heap.size, 1, none⟩ = some (.slice a1 m1 c1) := by rw [hW1]; exact pair1 _ _ _ _
            have hpc1 := cell_later b1 hpc
            have HAM1 := Hid.mk ((HAM.out.below b1).below (Below.refl _ _).drew).atW
            have KT := Hid.mk (specGoodTable_any a1 m1 c1 ts p1 W1.drew hm1e HSM.out.n HAM1.out)
            have HM1 := Hid.mk hm1e
            have HTK := Hid.mk htk
            have HBW1 : Hid (Below W4.heap.size W4 W1) := hb4.trans (b1.mono hb4.size)
            have hki : (j : Int) < (n : Int) := by omega
            clear hc hm1 hf1 ham hzk hgd hpl hpat hp1 hts htk hbw b1 hm1e hpn hb4
            go_upto_region 12 with fail
            rw [← hW1]
            clear hW1 hc0 hc1
            cases hgt : goodT p1 ts with
            | false =>
              have HGT := Hid.mk hgt
              clear hgt
              refine wp_region_held_drew (S := fun w' => w'.cell? ⟨wr.heap.size, 0, none⟩ = some (.int .i64 p1) ∧ w'.cell? ⟨wr.heap.size, 1, none⟩ = some (.slice a1 m1 c1) ∧ w'.cell? ⟨pb, poff + j, none⟩ = some (.slice pa pn pc)) (by kernel_rfl) ?_ (fun hHeld => ?_)
              · (try dsimp only)
                exact ⟨t0, t1, hpc1⟩
              refine wpAnyH_take (i := 0) (oi := ?_) (v := ?_) ?_ (by kernel_rfl) (by kernel_rfl) (by kernel_rfl) ?_ (Or.inl ⟨?_, ?_⟩) (by assumption) ?_
              rotate_left 2
              · (simp only [List.getElem?_toArray, List.getElem?_cons_zero]; rfl)
              · exact fun _ _ _ h => h
              · rfl
              · (intro wS hSw; (try dsimp only at hSw); go_simp; (try with_reducible rfl))
              (try simp only [Act.put, List.setIfInBounds_toArray, List.set_cons_zero, List.set_cons_succ])
              refine wpAnyH_ready (rs := [1]) (by kernel_rfl) (by simp) ?_
              refine AllReadyH.cons (o := ?_) ?_ (fun K hK => ?_) AllReadyH.nil
              rotate_left
              · (simp only [List.getElem?_toArray, List.getElem?_cons_zero, List.getElem?_cons_succ]; rfl)
              go_simp
              go_at_call 20
              refine KT.out.mono ?_
              rintro e w5 ⟨rfl, hb5⟩
              rw [HGT.out]
              have t0 := cell_later (w := W1.drew) hb5 t0
              have t1 := cell_later (w := W1.drew) hb5 t1
              have hpc1 := cell_later (w := W1.drew) hb5 hpc1
              have HB5 : Hid (Below W4.heap.size W4 w5) := HBW1.out.drew.trans (hb5.mono HBW1.out.size)
              have HAM5 := Hid.mk (HAM1.out.below hb5)
              clear hb5
              (try go_wp2_with fail)
              refine hK.out _ _ ?_ (fun hHeld' => ?_)
              · (try dsimp only)
                exact ⟨t0, t1, hpc1⟩
              clear hK K hHeld
              have hHeld := hHeld'
              clear hHeld'
              (try simp only [Act.put, List.setIfInBounds_toArray, List.set_cons_zero, List.set_cons_succ])
              refine wpAnyH_take (i := 2) (oi := ?_) (v := ?_) ?_ (by kernel_rfl) (by kernel_rfl) (by kernel_rfl) ?_ (Or.inl ⟨?_, ?_⟩) (by assumption) ?_
              rotate_left 2
              · (simp only [List.getElem?_toArray, List.getElem?_cons_zero, List.getElem?_cons_succ]; rfl)
              · exact fun _ _ _ h => h
              · rfl
              · (intro wS hSw; (try dsimp only at hSw); go_simp; (try with_reducible rfl))
              (try simp only [Act.put, List.setIfInBounds_toArray, List.set_cons_zero, List.set_cons_succ])
              refine wpAnyH_take (i := 3) (oi := ?_) (v := ?_) ?_ (by kernel_rfl) (by kernel_rfl) (by kernel_rfl) ?_ (Or.inl ⟨?_, ?_⟩) (by assumption) ?_
              rotate_left 2
              · (simp only [List.getElem?_toArray, List.getElem?_cons_zero, List.getElem?_cons_succ]; rfl)
              · exact fun _ _ _ h => h
              · rfl
              · (intro wS hSw; (try dsimp only at hSw); go_simp; (try with_reducible rfl))
              (try simp only [Act.put, List.setIfInBounds_toArray, List.set_cons_zero, List.set_cons_succ])
              refine wpAnyH_take (i := 4) (oi := ?_) (v := undef) ?_ (by kernel_rfl) (by kernel_rfl) (by kernel_rfl) ?_ (Or.inr ⟨?_, rfl⟩) (by assumption) ?_
              rotate_left
              · (simp only [List.getElem?_toArray, List.getElem?_cons_zero, List.getElem?_cons_succ]; rfl)
              · exact fun _ _ _ h => h
              · rfl
              (try simp only [Act.put, List.setIfInBounds_toArray, List.set_cons_zero, List.set_cons_succ])
              refine wpAnyH_take (i := 5) (oi := ?_) (v := undef) ?_ (by kernel_rfl) (by kernel_rfl) (by kernel_rfl) ?_ (Or.inr ⟨?_, rfl⟩) (by assumption) ?_
              rotate_left
              · (simp only [List.getElem?_toArray, List.getElem?_cons_zero, List.getElem?_cons_succ]; rfl)
              · exact fun _ _ _ h => h
              · rfl
              (try simp only [Act.put, List.setIfInBounds_toArray, List.set_cons_zero, List.set_cons_succ])
              refine wpAnyH_take (i := 6) (oi := ?_) (v := undef) ?_ (by kernel_rfl) (by kernel_rfl) (by kernel_rfl) ?_ (Or.inr ⟨?_, rfl⟩) (by assumption) ?_
              rotate_left
              · (simp only [List.getElem?_toArray, List.getElem?_cons_zero, List.getElem?_cons_succ]; rfl)
              · exact fun _ _ _ h => h
              · rfl
              (try simp only [Act.put, List.setIfInBounds_toArray, List.set_cons_zero, List.set_cons_succ])
              refine wpAnyH_take (i := 7) (oi := ?_) (v := ?_) ?_ (by kernel_rfl) (by kernel_rfl) (by kernel_rfl) ?_ (Or.inl ⟨?_, ?_⟩) (by assumption) ?_
              rotate_left 2
              · (simp only [List.getElem?_toArray, List.getElem?_cons_zero, List.getElem?_cons_succ]; rfl)
              · exact fun _ _ _ h => h
              · rfl
              · (intro wS hSw; (try dsimp only at hSw); go_simp; (try with_reducible rfl))
              (try simp only [Act.put, List.setIfInBounds_toArray, List.set_cons_zero, List.set_cons_succ])
              refine wpAnyH_take (i := 8) (oi := ?_) (v := ?_) ?_ (by kernel_rfl) (by kernel_rfl) (by kernel_rfl) ?_ (Or.inl ⟨?_, ?_⟩) (by assumption) ?_
              rotate_left 2
              · (simp only [List.getElem?_toArray, List.getElem?_cons_zero, List.getElem?_cons_succ]; rfl)
              · exact fun _ _ _ h => h
              · rfl
              · (intro wS hSw; (try dsimp only at hSw); go_simp; (try with_reducible rfl))
              (try simp only [Act.put, List.setIfInBounds_toArray, List.set_cons_zero, List.set_cons_succ])
              refine wpAnyH_take (i := 9) (oi := ?_) (v := undef) ?_ (by kernel_rfl) (by kernel_rfl) (by kernel_rfl) ?_ (Or.inr ⟨?_, rfl⟩) (by assumption) ?_
              rotate_left
              · (simp only [List.getElem?_toArray, List.getElem?_cons_zero, List.getElem?_cons_succ]; rfl)
              · exact fun _ _ _ h => h
              · rfl
              (try simp only [Act.put, List.setIfInBounds_toArray, List.set_cons_zero, List.set_cons_succ])
              refine wpAnyH_take (i := 10) (oi := ?_) (v := undef) ?_ (by kernel_rfl) (by kernel_rfl) (by kernel_rfl) ?_ (Or.inr ⟨?_, rfl⟩) (by assumption) ?_
              rotate_left
              · (simp only [List.getElem?_toArray, List.getElem?_cons_zero, List.getElem?_cons_succ]; rfl)
              · exact fun _ _ _ h => h
              · rfl
              (try simp only [Act.put, List.setIfInBounds_toArray, List.set_cons_zero, List.set_cons_succ])
              refine wpAnyH_take (i := 11) (oi := ?_) (v := undef) ?_ (by kernel_rfl) (by kernel_rfl) (by kernel_rfl) ?_ (Or.inr ⟨?_, rfl⟩) (by assumption) ?_
              rotate_left
              · (simp only [List.getElem?_toArray, List.getElem?_cons_zero, List.getElem?_cons_succ]; rfl)
              · exact fun _ _ _ h => h
              · rfl
              (try simp only [Act.put, List.setIfInBounds_toArray, List.set_cons_zero, List.set_cons_succ])
              refine wpAnyH_take (i := 12) (oi := ?_) (v := undef) ?_ (by kernel_rfl) (by kernel_rfl) (by kernel_rfl) ?_ (Or.inr ⟨?_, rfl⟩) (by assumption) ?_
              rotate_left
              · (simp only [List.getElem?_toArray, List.getElem?_cons_zero, List.getElem?_cons_succ]; rfl)
              · exact fun _ _ _ h => h
              · rfl
              (try simp only [Act.put, List.setIfInBounds_toArray, List.set_cons_zero, List.set_cons_succ])
              refine wpAnyH_take (i := 13) (oi := ?_) (v := undef) ?_ (by kernel_rfl) (by kernel_rfl) (by kernel_rfl) ?_ (Or.inr ⟨?_, rfl⟩) (by assumption) ?_
              rotate_left
              · (simp only [List.getElem?_toArray, List.getElem?_cons_zero, List.getElem?_cons_succ]; rfl)
              · exact fun _ _ _ h => h
              · rfl
              (try simp only [Act.put, List.setIfInBounds_toArray, List.set_cons_zero, List.set_cons_succ])
              refine wpAnyH_take (i := 14) (oi := ?_) (v := undef) ?_ (by kernel_rfl) (by kernel_rfl) (by kernel_rfl) ?_ (Or.inr ⟨?_, rfl⟩) (by assumption) ?_
              rotate_left
              · (simp only [List.getElem?_toArray, List.getElem?_cons_zero, List.getElem?_cons_succ]; rfl)
              · exact fun _ _ _ h => h
              · rfl
              (try simp only [Act.put, List.setIfInBounds_toArray, List.set_cons_zero, List.set_cons_succ])
              refine wpAnyH_take (i := 15) (oi := ?_) (v := undef) ?_ (by kernel_rfl) (by kernel_rfl) (by kernel_rfl) ?_ (Or.inr ⟨?_, rfl⟩) (by assumption) ?_
              rotate_left
              · (simp only [List.getElem?_toArray, List.getElem?_cons_zero, List.getElem?_cons_succ]; rfl)
              · exact fun _ _ _ h => h
              · rfl
              (try simp only [Act.put, List.setIfInBounds_toArray, List.set_cons_zero, List.set_cons_succ])
              refine wpAnyH_take (i := 16) (oi := ?_) (v := undef) ?_ (by kernel_rfl) (by kernel_rfl) (by kernel_rfl) ?_ (Or.inr ⟨?_, rfl⟩) (by assumption) ?_
              rotate_left
              · (simp only [List.getElem?_toArray, List.getElem?_cons_zero, List.getElem?_cons_succ]; rfl)
              · exact fun _ _ _ h => h
              · rfl
              (try simp only [Act.put, List.setIfInBounds_toArray, List.set_cons_zero, List.set_cons_succ])
              refine wpAnyH_take (i := 17) (oi := ?_) (v := ?_) ?_ (by kernel_rfl) (by kernel_rfl) (by kernel_rfl) ?_ (Or.inl ⟨?_, ?_⟩) (by assumption) ?_
              rotate_left 2
              · (simp only [List.getElem?_toArray, List.getElem?_cons_zero, List.getElem?_cons_succ]; rfl)
              · exact fun _ _ _ h => h
              · rfl
              · (intro wS hSw; (try dsimp only at hSw); go_simp; (try with_reducible rfl))
              (try simp only [Act.put, List.setIfInBounds_toArray, List.set_cons_zero, List.set_cons_succ])
              refine wpAnyH_done (by kernel_rfl) ?_ _
              clear hHeld t0 t1 hpc1 hpc KT HBW1
              have HN : Hid (jpB l zss (k : Int) = false) := by show _ = _; rw [HJB.out, tkB_no hlt (by rw [HTL.out, HGT.out, Bool.false_and])]; rfl
              have HX : Hid (Below W.heap.size W w5) := HB4.out.trans (HB5.out.mono HB4.out.size)
              have HBW : Hid (Below w.heap.size w w5) := HB0.out.trans (HX.out.mono HB0.out.size)
              have f0 := frozen_later HX.out e0 f0
              have f1 := frozen_later HX.out e1 f1
              have e0 := cell_later HX.out e0
              have e1 := cell_later HX.out e1
              go_wp2
              refine bodyPost_ret (v := .tuple #[.agg #[.int .i64 0, .slice none 0 0], .bool false]) (by simp [results, Tryz.results6, go_sem, e0, e1]) rfl ⟨TabAns.zero HN.out rfl, ?_⟩
              exact (HBW.out.setCell (by show w.heap.size ≤ w.heap.size; omega) _).setCell (by show w.heap.size ≤ w.heap.size; omega) _
            | true =>
              have HGT := Hid.mk hgt
              clear hgt
              cases hon : oneB ts with
              | false =>
                have HON := Hid.mk hon
                clear hon
                refine wp_region_held_drew (S := fun w' => w'.cell? ⟨wr.heap.size, 0, none⟩ = some (.int .i64 p1) ∧ w'.cell? ⟨wr.heap.size, 1, none⟩ = some (.slice a1 m1 c1) ∧ w'.cell? ⟨pb, poff + j, none⟩ = some (.slice pa pn pc)) (by kernel_rfl) ?_ (fun hHeld => ?_)
                · (try dsimp only)
                  exact ⟨t0, t1, hpc1⟩
                refine wpAnyH_take (i := 0) (oi := ?_) (v := ?_) ?_ (by kernel_rfl) (by kernel_rfl) (by kernel_rfl) ?_ (Or.inl ⟨?_, ?_⟩) (by assumption) ?_
                rotate_left 2
                · (simp only [List.getElem?_toArray, List.getElem?_cons_zero]; rfl)
                · exact fun _ _ _ h => h
                · rfl
                · (intro wS hSw; (try dsimp only at hSw); go_simp; (try with_reducible rfl))
                (try simp only [Act.put, List.setIfInBounds_toArray, List.set_cons_zero, List.set_cons_succ])
                refine wpAnyH_ready (rs := [1]) (by kernel_rfl) (by simp) ?_
                refine AllReadyH.cons (o := ?_) ?_ (fun K hK => ?_) AllReadyH.nil
                rotate_left
                · (simp only [List.getElem?_toArray, List.getElem?_cons_zero, List.getElem?_cons_succ]; rfl)
                go_simp
                go_at_call 20
                refine KT.out.mono ?_
                rintro e w5 ⟨rfl, hb5⟩
                rw [HGT.out]
                have t0 := cell_later (w := W1.drew) hb5 t0
                have t1 := cell_later (w := W1.drew) hb5 t1
                have hpc1 := cell_later (w := W1.drew) hb5 hpc1
                have HB5 : Hid (Below W4.heap.size W4 w5) := HBW1.out.drew.trans (hb5.mono HBW1.out.size)
                have HAM5 := Hid.mk (HAM1.out.below hb5)
                clear hb5
                (try go_wp2_with fail)
                refine hK.out _ _ ?_ (fun hHeld' => ?_)
                · (try dsimp only)
                  exact ⟨t0, t1, hpc1⟩
                clear hK K hHeld
                have hHeld := hHeld'
                clear hHeld'
                (try simp only [Act.put, List.setIfInBounds_toArray, List.set_cons_zero, List.set_cons_succ])
                refine wpAnyH_take (i := 2) (oi := ?_) (v := ?_) ?_ (by kernel_rfl) (by kernel_rfl) (by kernel_rfl) ?_ (Or.inl ⟨?_, ?_⟩) (by assumption) ?_
                rotate_left 2
                · (simp only [List.getElem?_toArray, List.getElem?_cons_zero, List.getElem?_cons_succ]; rfl)
                · exact fun _ _ _ h => h
                · rfl
                · (intro wS hSw; (try dsimp only at hSw); go_simp; (try with_reducible rfl))
                (try simp only [Act.put, List.setIfInBounds_toArray, List.set_cons_zero, List.set_cons_succ])
                refine wpAnyH_take (i := 3) (oi := ?_) (v := ?_) ?_ (by kernel_rfl) (by kernel_rfl) (by kernel_rfl) ?_ (Or.inl ⟨?_, ?_⟩) (by assumption) ?_
                rotate_left 2
                · (simp only [List.getElem?_toArray, List.getElem?_cons_zero, List.getElem?_cons_succ]; rfl)
                · exact fun _ _ _ h => h
                · rfl
                · (intro wS hSw; (try dsimp only at hSw); go_simp; (try with_reducible rfl))
                (try simp only [Act.put, List.setIfInBounds_toArray, List.set_cons_zero, List.set_cons_succ])
                refine wpAnyH_take (i := 4) (oi := ?_) (v := ?_) ?_ (by kernel_rfl) (by kernel_rfl) (by kernel_rfl) ?_ (Or.inl ⟨?_, ?_⟩) (by assumption) ?_
                rotate_left 2
                · (simp only [List.getElem?_toArray, List.getElem?_cons_zero, List.getElem?_cons_succ]; rfl)
                · exact fun _ _ _ h => h
                · rfl
                · (intro wS hSw; (try dsimp only at hSw); go_simp; (try with_reducible rfl))
                (try simp only [Act.put, List.setIfInBounds_toArray, List.set_cons_zero, List.set_cons_succ])
                refine wpAnyH_ready (rs := [5]) (by kernel_rfl) (by simp) ?_
                refine AllReadyH.cons (o := ?_) ?_ (fun K hK => ?_) AllReadyH.nil
                rotate_left
                · (simp only [List.getElem?_toArray, List.getElem?_cons_zero, List.getElem?_cons_succ]; rfl)
                go_simp
                go_at_call 21
                refine (l8Plain_any a1 m1 c1 ts p1 w5 HM1.out HSM.out.n HAM5.out).mono ?_
                rintro e w6 ⟨rfl, hb6⟩
                rw [HON.out]
                have t0 := cell_later hb6 t0
                have t1 := cell_later hb6 t1
                have hpc1 := cell_later hb6 hpc1
                have HB6 : Hid (Below W4.heap.size W4 w6) := HB5.out.trans (hb6.mono HB5.out.size)
                clear hb6
                (try go_wp2_with fail)
                refine hK.out _ _ ?_ (fun hHeld' => ?_)
                · (try dsimp only)
                  exact ⟨t0, t1, hpc1⟩
                clear hK K hHeld
                have hHeld := hHeld'
                clear hHeld'
                (try simp only [Act.put, List.setIfInBounds_toArray, List.set_cons_zero, List.set_cons_succ])
                refine wpAnyH_take (i := 6) (oi := ?_) (v := ?_) ?_ (by kernel_rfl) (by kernel_rfl) (by kernel_rfl) ?_ (Or.inl ⟨?_, ?_⟩) (by assumption) ?_
                rotate_left 2
                · (simp only [List.getElem?_toArray, List.getElem?_cons_zero, List.getElem?_cons_succ]; rfl)
                · exact fun _ _ _ h => h
                · rfl
                · (intro wS hSw; (try dsimp only at hSw); go_simp; (try with_reducible rfl))
                (try simp only [Act.put, List.setIfInBounds_toArray, List.set_cons_zero, List.set_cons_succ])
                refine wpAnyH_take (i := 7) (oi := ?_) (v := ?_) ?_ (by kernel_rfl) (by kernel_rfl) (by kernel_rfl) ?_ (Or.inl ⟨?_, ?_⟩) (by assumption) ?_
                rotate_left 2
                · (simp only [List.getElem?_toArray, List.getElem?_cons_zero, List.getElem?_cons_succ]; rfl)
                · exact fun _ _ _ h => h
                · rfl
                · (intro wS hSw; (try dsimp only at hSw); go_simp; (try with_reducible rfl))
                (try simp only [Act.put, List.setIfInBounds_toArray, List.set_cons_zero, List.set_cons_succ])
                refine wpAnyH_take (i := 8) (oi := ?_) (v := ?_) ?_ (by kernel_rfl) (by kernel_rfl) (by kernel_rfl) ?_ (Or.inl ⟨?_, ?_⟩) (by assumption) ?_
                rotate_left 2
                · (simp only [List.getElem?_toArray, List.getElem?_cons_zero, List.getElem?_cons_succ]; rfl)
                · exact fun _ _ _ h => h
                · rfl
                · (intro wS hSw; (try dsimp only at hSw); go_simp; (try with_reducible rfl))
                (try simp only [Act.put, List.setIfInBounds_toArray, List.set_cons_zero, List.set_cons_succ])
                refine wpAnyH_take (i := 9) (oi := ?_) (v := undef) ?_ (by kernel_rfl) (by kernel_rfl) (by kernel_rfl) ?_ (Or.inr ⟨?_, rfl⟩) (by assumption) ?_
                rotate_left
                · (simp only [List.getElem?_toArray, List.getElem?_cons_zero, List.getElem?_cons_succ]; rfl)
                · exact fun _ _ _ h => h
                · rfl
                (try simp only [Act.put, List.setIfInBounds_toArray, List.set_cons_zero, List.set_cons_succ])
                refine wpAnyH_take (i := 10) (oi := ?_) (v := undef) ?_ (by kernel_rfl) (by kernel_rfl) (by kernel_rfl) ?_ (Or.inr ⟨?_, rfl⟩) (by assumption) ?_
                rotate_left
                · (simp only [List.getElem?_toArray, List.getElem?_cons_zero, List.getElem?_cons_succ]; rfl)
                · exact fun _ _ _ h => h
                · rfl
                (try simp only [Act.put, List.setIfInBounds_toArray, List.set_cons_zero, List.set_cons_succ])
                refine wpAnyH_take (i := 11) (oi := ?_) (v := undef) ?_ (by kernel_rfl) (by kernel_rfl) (by kernel_rfl) ?_ (Or.inr ⟨?_, rfl⟩) (by assumption) ?_
                rotate_left
                · (simp only [List.getElem?_toArray, List.getElem?_cons_zero, List.getElem?_cons_succ]; rfl)
                · exact fun _ _ _ h => h
                · rfl
                (try simp only [Act.put, List.setIfInBounds_toArray, List.set_cons_zero, List.set_cons_succ])
                refine wpAnyH_take (i := 12) (oi := ?_) (v := undef) ?_ (by kernel_rfl) (by kernel_rfl) (by kernel_rfl) ?_ (Or.inr ⟨?_, rfl⟩) (by assumption) ?_
                rotate_left
                · (simp only [List.getElem?_toArray, List.getElem?_cons_zero, List.getElem?_cons_succ]; rfl)
                · exact fun _ _ _ h => h
                · rfl
                (try simp only [Act.put, List.setIfInBounds_toArray, List.set_cons_zero, List.set_cons_succ])
                refine wpAnyH_take (i := 13) (oi := ?_) (v := undef) ?_ (by kernel_rfl) (by kernel_rfl) (by kernel_rfl) ?_ (Or.inr ⟨?_, rfl⟩) (by assumption) ?_
                rotate_left
                · (simp only [List.getElem?_toArray, List.getElem?_cons_zero, List.getElem?_cons_succ]; rfl)
                · exact fun _ _ _ h => h
                · rfl
                (try simp only [Act.put, List.setIfInBounds_toArray, List.set_cons_zero, List.set_cons_succ])
                refine wpAnyH_take (i := 14) (oi := ?_) (v := undef) ?_ (by kernel_rfl) (by kernel_rfl) (by kernel_rfl) ?_ (Or.inr ⟨?_, rfl⟩) (by assumption) ?_
                rotate_left
                · (simp only [List.getElem?_toArray, List.getElem?_cons_zero, List.getElem?_cons_succ]; rfl)
                · exact fun _ _ _ h => h
                · rfl
                (try simp only [Act.put, List.setIfInBounds_toArray, List.set_cons_zero, List.set_cons_succ])
                refine wpAnyH_take (i := 15) (oi := ?_) (v := undef) ?_ (by kernel_rfl) (by kernel_rfl) (by kernel_rfl) ?_ (Or.inr ⟨?_, rfl⟩) (by assumption) ?_
                rotate_left
                · (simp only [List.getElem?_toArray, List.getElem?_cons_zero, List.getElem?_cons_succ]; rfl)
                · exact fun _ _ _ h => h
                · rfl
                (try simp only [Act.put, List.setIfInBounds_toArray, List.set_cons_zero, List.set_cons_succ])
                refine wpAnyH_take (i := 16) (oi := ?_) (v := undef) ?_ (by kernel_rfl) (by kernel_rfl) (by kernel_rfl) ?_ (Or.inr ⟨?_, rfl⟩) (by assumption) ?_
                rotate_left
                · (simp only [List.getElem?_toArray, List.getElem?_cons_zero, List.getElem?_cons_succ]; rfl)
                · exact fun _ _ _ h => h
                · rfl
                (try simp only [Act.put, List.setIfInBounds_toArray, List.set_cons_zero, List.set_cons_succ])
                refine wpAnyH_take (i := 17) (oi := ?_) (v := ?_) ?_ (by kernel_rfl) (by kernel_rfl) (by kernel_rfl) ?_ (Or.inl ⟨?_, ?_⟩) (by assumption) ?_
                rotate_left 2
                · (simp only [List.getElem?_toArray, List.getElem?_cons_zero, List.getElem?_cons_succ]; rfl)
                · exact fun _ _ _ h => h
                · rfl
                · (intro wS hSw; (try dsimp only at hSw); go_simp; (try with_reducible rfl))
                (try simp only [Act.put, List.setIfInBounds_toArray, List.set_cons_zero, List.set_cons_succ])
                refine wpAnyH_done (by kernel_rfl) ?_ _
                clear hHeld t0 t1 hpc1 hpc KT HBW1
                have HN : Hid (jpB l zss (k : Int) = false) := by show _ = _; rw [HJB.out, tkB_no hlt (by rw [HTL.out, HON.out, Bool.and_false, Bool.and_false])]; rfl
                have HX : Hid (Below W.heap.size W w6) := HB4.out.trans (HB6.out.mono HB4.out.size)
                have HBW : Hid (Below w.heap.size w w6) := HB0.out.trans (HX.out.mono HB0.out.size)
                have f0 := frozen_later HX.out e0 f0
                have f1 := frozen_later HX.out e1 f1
                have e0 := cell_later HX.out e0
                have e1 := cell_later HX.out e1
                go_wp2
                refine bodyPost_ret (v := .tuple #[.agg #[.int .i64 0, .slice none 0 0], .bool false]) (by simp [results, Tryz.results6, go_sem, e0, e1]) rfl ⟨TabAns.zero HN.out rfl, ?_⟩
                exact (HBW.out.setCell (by show w.heap.size ≤ w.heap.size; omega) _).setCell (by show w.heap.size ≤ w.heap.size; omega) _
              | true =>
                have HON := Hid.mk hon
                clear hon
                by_cases hpp : p1 = (pn : Int)
                · have hpb' : (p1 != (pn : Int)) = false := by simp [hpp]
                  have HPP := Hid.mk hpp
                  clear hpp
                  refine wp_region_held_drew (S := fun w' => w'.cell? ⟨wr.heap.size, 0, none⟩ = some (.int .i64 p1) ∧ w'.cell? ⟨wr.heap.size, 1, none⟩ = some (.slice a1 m1 c1) ∧ w'.cell? ⟨pb, poff + j, none⟩ = some (.slice pa pn pc)) (by kernel_rfl) ?_ (fun hHeld => ?_)
                  · (try dsimp only)
                    exact ⟨t0, t1, hpc1⟩
                  refine wpAnyH_take (i := 0) (oi := ?_) (v := ?_) ?_ (by kernel_rfl) (by kernel_rfl) (by kernel_rfl) ?_ (Or.inl ⟨?_, ?_⟩) (by assumption) ?_
                  rotate_left 2
                  · (simp only [List.getElem?_toArray, List.getElem?_cons_zero]; rfl)
                  · exact fun _ _ _ h => h
                  · rfl
                  · (intro wS hSw; (try dsimp only at hSw); go_simp; (try with_reducible rfl))
                  (try simp only [Act.put, List.setIfInBounds_toArray, List.set_cons_zero, List.set_cons_succ])
                  refine wpAnyH_ready (rs := [1]) (by kernel_rfl) (by simp) ?_
                  refine AllReadyH.cons (o := ?_) ?_ (fun K hK => ?_) AllReadyH.nil
                  rotate_left
                  · (simp only [List.getElem?_toArray, List.getElem?_cons_zero, List.getElem?_cons_succ]; rfl)
                  go_simp
                  go_at_call 20
                  refine KT.out.mono ?_
                  rintro e w5 ⟨rfl, hb5⟩
                  rw [HGT.out]
                  have t0 := cell_later (w := W1.drew) hb5 t0
                  have t1 := cell_later (w := W1.drew) hb5 t1
                  have hpc1 := cell_later (w := W1.drew) hb5 hpc1
                  have HB5 : Hid (Below W4.heap.size W4 w5) := HBW1.out.drew.trans (hb5.mono HBW1.out.size)
                  have HAM5 := Hid.mk (HAM1.out.below hb5)
                  clear hb5
                  (try go_wp2_with fail)
                  refine hK.out _ _ ?_ (fun hHeld' => ?_)
                  · (try dsimp only)
                    exact ⟨t0, t1, hpc1⟩
                  clear hK K hHeld
                  have hHeld := hHeld'
                  clear hHeld'
                  (try simp only [Act.put, List.setIfInBounds_toArray, List.set_cons_zero, List.set_cons_succ])
                  refine wpAnyH_take (i := 2) (oi := ?_) (v := ?_) ?_ (by kernel_rfl) (by kernel_rfl) (by kernel_rfl) ?_ (Or.inl ⟨?_, ?_⟩) (by assumption) ?_
                  rotate_left 2
                  · (simp only [List.getElem?_toArray, List.getElem?_cons_zero, List.getElem?_cons_succ]; rfl)
                  · exact fun _ _ _ h => h
                  · rfl
                  · (intro wS hSw; (try dsimp only at hSw); go_simp; (try with_reducible rfl))
                  (try simp only [Act.put, List.setIfInBounds_toArray, List.set_cons_zero, List.set_cons_succ])
                  refine wpAnyH_take (i := 3) (oi := ?_) (v := ?_) ?_ (by kernel_rfl) (by kernel_rfl) (by kernel_rfl) ?_ (Or.inl ⟨?_, ?_⟩) (by assumption) ?_
                  rotate_left 2
                  · (simp only [List.getElem?_toArray, List.getElem?_cons_zero, List.getElem?_cons_succ]; rfl)
                  · exact fun _ _ _ h => h
                  · rfl
                  · (intro wS hSw; (try dsimp only at hSw); go_simp; (try with_reducible rfl))
                  (try simp only [Act.put, List.setIfInBounds_toArray, List.set_cons_zero, List.set_cons_succ])
                  refine wpAnyH_take (i := 4) (oi := ?_) (v := ?_) ?_ (by kernel_rfl) (by kernel_rfl) (by kernel_rfl) ?_ (Or.inl ⟨?_, ?_⟩) (by assumption) ?_
                  rotate_left 2
                  · (simp only [List.getElem?_toArray, List.getElem?_cons_zero, List.getElem?_cons_succ]; rfl)
                  · exact fun _ _ _ h => h
                  · rfl
                  · (intro wS hSw; (try dsimp only at hSw); go_simp; (try with_reducible rfl))
                  (try simp only [Act.put, List.setIfInBounds_toArray, List.set_cons_zero, List.set_cons_succ])
                  refine wpAnyH_ready (rs := [5]) (by kernel_rfl) (by simp) ?_
                  refine AllReadyH.cons (o := ?_) ?_ (fun K hK => ?_) AllReadyH.nil
                  rotate_left
                  · (simp only [List.getElem?_toArray, List.getElem?_cons_zero, List.getElem?_cons_succ]; rfl)
                  go_simp
                  go_at_call 21
                  refine (l8Plain_any a1 m1 c1 ts p1 w5 HM1.out HSM.out.n HAM5.out).mono ?_
                  rintro e w6 ⟨rfl, hb6⟩
                  rw [HON.out]
                  have t0 := cell_later hb6 t0
                  have t1 := cell_later hb6 t1
                  have hpc1 := cell_later hb6 hpc1
                  have HB6 : Hid (Below W4.heap.size W4 w6) := HB5.out.trans (hb6.mono HB5.out.size)
                  clear hb6
                  (try go_wp2_with fail)
                  refine hK.out _ _ ?_ (fun hHeld' => ?_)
                  · (try dsimp only)
                    exact ⟨t0, t1, hpc1⟩
                  clear hK K hHeld
                  have hHeld := hHeld'
                  clear hHeld'
                  (try simp only [Act.put, List.setIfInBounds_toArray, List.set_cons_zero, List.set_cons_succ])
                  refine wpAnyH_take (i := 6) (oi := ?_) (v := ?_) ?_ (by kernel_rfl) (by kernel_rfl) (by kernel_rfl) ?_ (Or.inl ⟨?_, ?_⟩) (by assumption) ?_
                  rotate_left 2
                  · (simp only [List.getElem?_toArray, List.getElem?_cons_zero, List.getElem?_cons_succ]; rfl)
                  · exact fun _ _ _ h => h
                  · rfl
                  · (intro wS hSw; (try dsimp only at hSw); go_simp; (try with_reducible rfl))
                  (try simp only [Act.put, List.setIfInBounds_toArray, List.set_cons_zero, List.set_cons_succ])
                  refine wpAnyH_take (i := 7) (oi := ?_) (v := ?_) ?_ (by kernel_rfl) (by kernel_rfl) (by kernel_rfl) ?_ (Or.inl ⟨?_, ?_⟩) (by assumption) ?_
                  rotate_left 2
                  · (simp only [List.getElem?_toArray, List.getElem?_cons_zero, List.getElem?_cons_succ]; rfl)
                  · exact fun _ _ _ h => h
                  · rfl
                  · (intro wS hSw; (try dsimp only at hSw); go_simp; (try with_reducible rfl))
                  (try simp only [Act.put, List.setIfInBounds_toArray, List.set_cons_zero, List.set_cons_succ])
                  refine wpAnyH_take (i := 8) (oi := ?_) (v := ?_) ?_ (by kernel_rfl) (by kernel_rfl) (by kernel_rfl) ?_ (Or.inl ⟨?_, ?_⟩) (by assumption) ?_
                  rotate_left 2
                  · (simp only [List.getElem?_toArray, List.getElem?_cons_zero, List.getElem?_cons_succ]; rfl)
                  · exact fun _ _ _ h => h
                  · rfl
                  · (intro wS hSw; (try dsimp only at hSw); go_simp; (try with_reducible rfl))
                  (try simp only [Act.put, List.setIfInBounds_toArray, List.set_cons_zero, List.set_cons_succ])
                  refine wpAnyH_take (i := 9) (oi := ?_) (v := ?_) ?_ (by kernel_rfl) (by kernel_rfl) (by kernel_rfl) ?_ (Or.inl ⟨?_, ?_⟩) (by assumption) ?_
                  rotate_left 2
                  · (simp only [List.getElem?_toArray, List.getElem?_cons_zero, List.getElem?_cons_succ]; rfl)
                  · exact fun _ _ _ h => h
                  · rfl
                  · (intro wS hSw; (try dsimp only at hSw); go_simp; (try with_reducible rfl))
                  (try simp only [Act.put, List.setIfInBounds_toArray, List.set_cons_zero, List.set_cons_succ])
                  refine wpAnyH_take (i := 10) (oi := ?_) (v := ?_) ?_ (by kernel_rfl) (by kernel_rfl) (by kernel_rfl) ?_ (Or.inl ⟨?_, ?_⟩) (by assumption) ?_
                  rotate_left 2
                  · (simp only [List.getElem?_toArray, List.getElem?_cons_zero, List.getElem?_cons_succ]; rfl)
                  · exact fun _ _ _ h => h
                  · rfl
                  · (intro wS hSw; (try dsimp only at hSw); go_simp; (try with_reducible rfl))
                  (try simp only [Act.put, List.setIfInBounds_toArray, List.set_cons_zero, List.set_cons_succ])
                  refine wpAnyH_take (i := 11) (oi := ?_) (v := ?_) ?_ (by kernel_rfl) (by kernel_rfl) (by kernel_rfl) ?_ (Or.inl ⟨?_, ?_⟩) (by assumption) ?_
                  rotate_left 2
                  · (simp only [List.getElem?_toArray, List.getElem?_cons_zero, List.getElem?_cons_succ]; rfl)
                  · exact fun _ _ _ h => h
                  · rfl
                  · (intro wS hSw; (try dsimp only at hSw); go_simp; (try with_reducible rfl))
                  (try simp only [Act.put, List.setIfInBounds_toArray, List.set_cons_zero, List.set_cons_succ])
                  refine wpAnyH_take (i := 12) (oi := ?_) (v := ?_) ?_ (by kernel_rfl) (by kernel_rfl) (by kernel_rfl) ?_ (Or.inl ⟨?_, ?_⟩) (by assumption) ?_
                  rotate_left 2
                  · (simp only [List.getElem?_toArray, List.getElem?_cons_zero, List.getElem?_cons_succ]; rfl)
                  · exact fun _ _ _ h => h
                  · rfl
                  · (intro wS hSw; (try dsimp only at hSw); go_simp; (try with_reducible rfl))
                  (try simp only [Act.put, List.setIfInBounds_toArray, List.set_cons_zero, List.set_cons_succ])
                  refine wpAnyH_take (i := 13) (oi := ?_) (v := ?_) ?_ (by kernel_rfl) (by kernel_rfl) (by kernel_rfl) ?_ (Or.inl ⟨?_, ?_⟩) (by assumption) ?_
                  rotate_left 2
                  · (simp only [List.getElem?_toArray, List.getElem?_cons_zero, List.getElem?_cons_succ]; rfl)
                  · exact fun _ _ _ h => h
                  · rfl
                  · (intro wS hSw; (try dsimp only at hSw); go_simp; (try with_reducible rfl))
                  (try simp only [Act.put, List.setIfInBounds_toArray, List.set_cons_zero, List.set_cons_succ])
                  refine wpAnyH_take (i := 14) (oi := ?_) (v := ?_) ?_ (by kernel_rfl) (by kernel_rfl) (by kernel_rfl) ?_ (Or.inl ⟨?_, ?_⟩) (by assumption) ?_
                  rotate_left 2
                  · (simp only [List.getElem?_toArray, List.getElem?_cons_zero, List.getElem?_cons_succ]; rfl)
                  · exact fun _ _ _ h => h
                  · rfl
                  · (intro wS hSw; (try dsimp only at hSw); go_simp; (try with_reducible rfl))
                  (try simp only [Act.put, List.setIfInBounds_toArray, List.set_cons_zero, List.set_cons_succ])
                  refine wpAnyH_take (i := 15) (oi := ?_) (v := ?_) ?_ (by kernel_rfl) (by kernel_rfl) (by kernel_rfl) ?_ (Or.inl ⟨?_, ?_⟩) (by assumption) ?_
                  rotate_left 2
                  · (simp only [List.getElem?_toArray, List.getElem?_cons_zero, List.getElem?_cons_succ]; rfl)
                  · exact fun _ _ _ h => h
                  · rfl
                  · (intro wS hSw; (try dsimp only at hSw); go_simp; (try with_reducible rfl))
                  (try simp only [Act.put, List.setIfInBounds_toArray, List.set_cons_zero, List.set_cons_succ])
                  refine wpAnyH_take (i := 16) (oi := ?_) (v := ?_) ?_ (by kernel_rfl) (by kernel_rfl) (by kernel_rfl) ?_ (Or.inl ⟨?_, ?_⟩) (by assumption) ?_
                  rotate_left 2
                  · (simp only [List.getElem?_toArray, List.getElem?_cons_zero, List.getElem?_cons_succ]; rfl)
                  · exact fun _ _ _ h => h
                  · rfl
                  · (intro wS hSw; (try dsimp only at hSw); go_simp; (try with_reducible rfl))
                  (try simp only [Act.put, List.setIfInBounds_toArray, List.set_cons_zero, List.set_cons_succ])
                  refine wpAnyH_take (i := 17) (oi := ?_) (v := ?_) ?_ (by kernel_rfl) (by kernel_rfl) (by kernel_rfl) ?_ (Or.inl ⟨?_, ?_⟩) (by assumption) ?_
                  rotate_left 2
                  · (simp only [List.getElem?_toArray, List.getElem?_cons_zero, List.getElem?_cons_succ]; rfl)
                  · exact fun _ _ _ h => h
                  · rfl
                  · (intro wS hSw; (try dsimp only at hSw); go_simp; (try with_reducible rfl))
                  (try simp only [Act.put, List.setIfInBounds_toArray, List.set_cons_zero, List.set_cons_succ])
                  refine wpAnyH_done (by kernel_rfl) ?_ _
                  clear hHeld t0 t1 hpc1 hpc KT HBW1
                  go_wp2
                  go_roundw
                  case rel => exact ⟨j + 1, by omega, by go_num, by rw [tkB_succ, HTK.out, HTL.out, HGT.out, HON.out, decide_eq_true HPP.out]; rfl, HB6.out⟩
                  case measure => simp [intOf]; omega
                · have hpb' : (p1 != (pn : Int)) = true := by simp [hpp]
                  have HPP := Hid.mk hpp
                  clear hpp
                  refine wp_region_held_drew (S := fun w' => w'.cell? ⟨wr.heap.size, 0, none⟩ = some (.int .i64 p1) ∧ w'.cell? ⟨wr.heap.size, 1, none⟩ = some (.slice a1 m1 c1) ∧ w'.cell? ⟨pb, poff + j, none⟩ = some (.slice pa pn pc)) (by kernel_rfl) ?_ (fun hHeld => ?_)
                  · (try dsimp only)
                    exact ⟨t0, t1, hpc1⟩
                  refine wpAnyH_take (i := 0) (oi := ?_) (v := ?_) ?_ (by kernel_rfl) (by kernel_rfl) (by kernel_rfl) ?_ (Or.inl ⟨?_, ?_⟩) (by assumption) ?_
                  rotate_left 2
                  · (simp only [List.getElem?_toArray, List.getElem?_cons_zero]; rfl)
                  · exact fun _ _ _ h => h
                  · rfl
                  · (intro wS hSw; (try dsimp only at hSw); go_simp; (try with_reducible rfl))
                  (try simp only [Act.put, List.setIfInBounds_toArray, List.set_cons_zero, List.set_cons_succ])
                  refine wpAnyH_ready (rs := [1]) (by kernel_rfl) (by simp) ?_
                  refine AllReadyH.cons (o := ?_) ?_ (fun K hK => ?_) AllReadyH.nil
                  rotate_left
                  · (simp only [List.getElem?_toArray, List.getElem?_cons_zero, List.getElem?_cons_succ]; rfl)
                  go_simp
                  go_at_call 20
                  refine KT.out.mono ?_
                  rintro e w5 ⟨rfl, hb5⟩
                  rw [HGT.out]
                  have t0 := cell_later (w := W1.drew) hb5 t0
                  have t1 := cell_later (w := W1.drew) hb5 t1
                  have hpc1 := cell_later (w := W1.drew) hb5 hpc1
                  have HB5 : Hid (Below W4.heap.size W4 w5) := HBW1.out.drew.trans (hb5.mono HBW1.out.size)
                  have HAM5 := Hid.mk (HAM1.out.below hb5)
                  clear hb5
                  (try go_wp2_with fail)
                  refine hK.out _ _ ?_ (fun hHeld' => ?_)
                  · (try dsimp only)
                    exact ⟨t0, t1, hpc1⟩
                  clear hK K hHeld
                  have hHeld := hHeld'
                  clear hHeld'
                  (try simp only [Act.put, List.setIfInBounds_toArray, List.set_cons_zero, List.set_cons_succ])
                  refine wpAnyH_take (i := 2) (oi := ?_) (v := ?_) ?_ (by kernel_rfl) (by kernel_rfl) (by kernel_rfl) ?_ (Or.inl ⟨?_, ?_⟩) (by assumption) ?_
                  rotate_left 2
                  · (simp only [List.getElem?_toArray, List.getElem?_cons_zero, List.getElem?_cons_succ]; rfl)
                  · exact fun _ _ _ h => h
                  · rfl
                  · (intro wS hSw; (try dsimp only at hSw); go_simp; (try with_reducible rfl))
                  (try simp only [Act.put, List.setIfInBounds_toArray, List.set_cons_zero, List.set_cons_succ])
                  refine wpAnyH_take (i := 3) (oi := ?_) (v := ?_) ?_ (by kernel_rfl) (by kernel_rfl) (by kernel_rfl) ?_ (Or.inl ⟨?_, ?_⟩) (by assumption) ?_
                  rotate_left 2
                  · (simp only [List.getElem?_toArray, List.getElem?_cons_zero, List.getElem?_cons_succ]; rfl)
                  · exact fun _ _ _ h => h
                  · rfl
                  · (intro wS hSw; (try dsimp only at hSw); go_simp; (try with_reducible rfl))
                  (try simp only [Act.put, List.setIfInBounds_toArray, List.set_cons_zero, List.set_cons_succ])
                  refine wpAnyH_take (i := 4) (oi := ?_) (v := ?_) ?_ (by kernel_rfl) (by kernel_rfl) (by kernel_rfl) ?_ (Or.inl ⟨?_, ?_⟩) (by assumption) ?_
                  rotate_left 2
                  · (simp only [List.getElem?_toArray, List.getElem?_cons_zero, List.getElem?_cons_succ]; rfl)
                  · exact fun _ _ _ h => h
                  · rfl
                  · (intro wS hSw; (try dsimp only at hSw); go_simp; (try with_reducible rfl))
                  (try simp only [Act.put, List.setIfInBounds_toArray, List.set_cons_zero, List.set_cons_succ])
                  refine wpAnyH_ready (rs := [5]) (by kernel_rfl) (by simp) ?_
                  refine AllReadyH.cons (o := ?_) ?_ (fun K hK => ?_) AllReadyH.nil
                  rotate_left
                  · (simp only [List.getElem?_toArray, List.getElem?_cons_zero, List.getElem?_cons_succ]; rfl)
                  go_simp
                  go_at_call 21
                  refine (l8Plain_any a1 m1 c1 ts p1 w5 HM1.out HSM.out.n HAM5.out).mono ?_
                  rintro e w6 ⟨rfl, hb6⟩
                  rw [HON.out]
                  have t0 := cell_later hb6 t0
                  have t1 := cell_later hb6 t1
                  have hpc1 := cell_later hb6 hpc1
                  have HB6 : Hid (Below W4.heap.size W4 w6) := HB5.out.trans (hb6.mono HB5.out.size)
                  clear hb6
                  (try go_wp2_with fail)
                  refine hK.out _ _ ?_ (fun hHeld' => ?_)
                  · (try dsimp only)
                    exact ⟨t0, t1, hpc1⟩
                  clear hK K hHeld
                  have hHeld := hHeld'
                  clear hHeld'
                  (try simp only [Act.put, List.setIfInBounds_toArray, List.set_cons_zero, List.set_cons_succ])
                  refine wpAnyH_take (i := 6) (oi := ?_) (v := ?_) ?_ (by kernel_rfl) (by kernel_rfl) (by kernel_rfl) ?_ (Or.inl ⟨?_, ?_⟩) (by assumption) ?_
                  rotate_left 2
                  · (simp only [List.getElem?_toArray, List.getElem?_cons_zero, List.getElem?_cons_succ]; rfl)
                  · exact fun _ _ _ h => h
                  · rfl
                  · (intro wS hSw; (try dsimp only at hSw); go_simp; (try with_reducible rfl))
                  (try simp only [Act.put, List.setIfInBounds_toArray, List.set_cons_zero, List.set_cons_succ])
                  refine wpAnyH_take (i := 7) (oi := ?_) (v := ?_) ?_ (by kernel_rfl) (by kernel_rfl) (by kernel_rfl) ?_ (Or.inl ⟨?_, ?_⟩) (by assumption) ?_
                  rotate_left 2
                  · (simp only [List.getElem?_toArray, List.getElem?_cons_zero, List.getElem?_cons_succ]; rfl)
                  · exact fun _ _ _ h => h
                  · rfl
                  · (intro wS hSw; (try dsimp only at hSw); go_simp; (try with_reducible rfl))
                  (try simp only [Act.put, List.setIfInBounds_toArray, List.set_cons_zero, List.set_cons_succ])
                  refine wpAnyH_take (i := 8) (oi := ?_) (v := ?_) ?_ (by kernel_rfl) (by kernel_rfl) (by kernel_rfl) ?_ (Or.inl ⟨?_, ?_⟩) (by assumption) ?_
                  rotate_left 2
                  · (simp only [List.getElem?_toArray, List.getElem?_cons_zero, List.getElem?_cons_succ]; rfl)
                  · exact fun _ _ _ h => h
                  · rfl
                  · (intro wS hSw; (try dsimp only at hSw); go_simp; (try with_reducible rfl))
                  (try simp only [Act.put, List.setIfInBounds_toArray, List.set_cons_zero, List.set_cons_succ])
                  refine wpAnyH_take (i := 9) (oi := ?_) (v := ?_) ?_ (by kernel_rfl) (by kernel_rfl) (by kernel_rfl) ?_ (Or.inl ⟨?_, ?_⟩) (by assumption) ?_
                  rotate_left 2
                  · (simp only [List.getElem?_toArray, List.getElem?_cons_zero, List.getElem?_cons_succ]; rfl)
                  · exact fun _ _ _ h => h
                  · rfl
                  · (intro wS hSw; (try dsimp only at hSw); go_simp; (try with_reducible rfl))
                  (try simp only [Act.put, List.setIfInBounds_toArray, List.set_cons_zero, List.set_cons_succ])
                  refine wpAnyH_take (i := 10) (oi := ?_) (v := ?_) ?_ (by kernel_rfl) (by kernel_rfl) (by kernel_rfl) ?_ (Or.inl ⟨?_, ?_⟩) (by assumption) ?_
                  rotate_left 2
                  · (simp only [List.getElem?_toArray, List.getElem?_cons_zero, List.getElem?_cons_succ]; rfl)
                  · exact fun _ _ _ h => h
                  · rfl
                  · (intro wS hSw; (try dsimp only at hSw); go_simp; (try with_reducible rfl))
                  (try simp only [Act.put, List.setIfInBounds_toArray, List.set_cons_zero, List.set_cons_succ])
                  refine wpAnyH_take (i := 11) (oi := ?_) (v := ?_) ?_ (by kernel_rfl) (by kernel_rfl) (by kernel_rfl) ?_ (Or.inl ⟨?_, ?_⟩) (by assumption) ?_
                  rotate_left 2
                  · (simp only [List.getElem?_toArray, List.getElem?_cons_zero, List.getElem?_cons_succ]; rfl)
                  · exact fun _ _ _ h => h
                  · rfl
                  · (intro wS hSw; (try dsimp only at hSw); go_simp; (try with_reducible rfl))
                  (try simp only [Act.put, List.setIfInBounds_toArray, List.set_cons_zero, List.set_cons_succ])
                  refine wpAnyH_take (i := 12) (oi := ?_) (v := ?_) ?_ (by kernel_rfl) (by kernel_rfl) (by kernel_rfl) ?_ (Or.inl ⟨?_, ?_⟩) (by assumption) ?_
                  rotate_left 2
                  · (simp only [List.getElem?_toArray, List.getElem?_cons_zero, List.getElem?_cons_succ]; rfl)
                  · exact fun _ _ _ h => h
                  · rfl
                  · (intro wS hSw; (try dsimp only at hSw); go_simp; (try with_reducible rfl))
                  (try simp only [Act.put, List.setIfInBounds_toArray, List.set_cons_zero, List.set_cons_succ])
                  refine wpAnyH_take (i := 13) (oi := ?_) (v := ?_) ?_ (by kernel_rfl) (by kernel_rfl) (by kernel_rfl) ?_ (Or.inl ⟨?_, ?_⟩) (by assumption) ?_
                  rotate_left 2
                  · (simp only [List.getElem?_toArray, List.getElem?_cons_zero, List.getElem?_cons_succ]; rfl)
                  · exact fun _ _ _ h => h
                  · rfl
                  · (intro wS hSw; (try dsimp only at hSw); go_simp; (try with_reducible rfl))
                  (try simp only [Act.put, List.setIfInBounds_toArray, List.set_cons_zero, List.set_cons_succ])
                  refine wpAnyH_take (i := 14) (oi := ?_) (v := ?_) ?_ (by kernel_rfl) (by kernel_rfl) (by kernel_rfl) ?_ (Or.inl ⟨?_, ?_⟩) (by assumption) ?_
                  rotate_left 2
                  · (simp only [List.getElem?_toArray, List.getElem?_cons_zero, List.getElem?_cons_succ]; rfl)
                  · exact fun _ _ _ h => h
                  · rfl
                  · (intro wS hSw; (try dsimp only at hSw); go_simp; (try with_reducible rfl))
                  (try simp only [Act.put, List.setIfInBounds_toArray, List.set_cons_zero, List.set_cons_succ])
                  refine wpAnyH_take (i := 15) (oi := ?_) (v := ?_) ?_ (by kernel_rfl) (by kernel_rfl) (by kernel_rfl) ?_ (Or.inl ⟨?_, ?_⟩) (by assumption) ?_
                  rotate_left 2
                  · (simp only [List.getElem?_toArray, List.getElem?_cons_zero, List.getElem?_cons_succ]; rfl)
                  · exact fun _ _ _ h => h
                  · rfl
                  · (intro wS hSw; (try dsimp only at hSw); go_simp; (try with_reducible rfl))
                  (try simp only [Act.put, List.setIfInBounds_toArray, List.set_cons_zero, List.set_cons_succ])
                  refine wpAnyH_take (i := 16) (oi := ?_) (v := ?_) ?_ (by kernel_rfl) (by kernel_rfl) (by kernel_rfl) ?_ (Or.inl ⟨?_, ?_⟩) (by assumption) ?_
                  rotate_left 2
                  · (simp only [List.getElem?_toArray, List.getElem?_cons_zero, List.getElem?_cons_succ]; rfl)
                  · exact fun _ _ _ h => h
                  · rfl
                  · (intro wS hSw; (try dsimp only at hSw); go_simp; (try with_reducible rfl))
                  (try simp only [Act.put, List.setIfInBounds_toArray, List.set_cons_zero, List.set_cons_succ])
                  refine wpAnyH_take (i := 17) (oi := ?_) (v := ?_) ?_ (by kernel_rfl) (by kernel_rfl) (by kernel_rfl) ?_ (Or.inl ⟨?_, ?_⟩) (by assumption) ?_
                  rotate_left 2
                  · (simp only [List.getElem?_toArray, List.getElem?_cons_zero, List.getElem?_cons_succ]; rfl)
                  · exact fun _ _ _ h => h
                  · rfl
                  · (intro wS hSw; (try dsimp only at hSw); go_simp; (try with_reducible rfl))
                  (try simp only [Act.put, List.setIfInBounds_toArray, List.set_cons_zero, List.set_cons_succ])
                  refine wpAnyH_done (by kernel_rfl) ?_ _
                  clear hHeld t0 t1 hpc1 hpc KT HBW1
                  have HN : Hid (jpB l zss (k : Int) = false) := by show _ = _; rw [HJB.out, tkB_no hlt (by rw [HTL.out, decide_eq_false HPP.out, Bool.false_and, Bool.and_false])]; rfl
                  have HX : Hid (Below W.heap.size W w6) := HB4.out.trans (HB6.out.mono HB4.out.size)
                  have HBW : Hid (Below w.heap.size w w6) := HB0.out.trans (HX.out.mono HB0.out.size)
                  have f0 := frozen_later HX.out e0 f0
                  have f1 := frozen_later HX.out e1 f1
                  have e0 := cell_later HX.out e0
                  have e1 := cell_later HX.out e1
                  go_wp2
                  refine bodyPost_ret (v := .tuple #[.agg #[.int .i64 0, .slice none 0 0], .bool false]) (by simp [results, Tryz.results6, go_sem, e0, e1]) rfl ⟨TabAns.zero HN.out rfl, ?_⟩
                  exact (HBW.out.setCell (by show w.heap.size ≤ w.heap.size; omega) _).setCell (by show w.heap.size ≤ w.heap.size; omega) _
          · obtain rfl : j = n := by omega
            have hkk : ¬ (j : Int) < (j : Int) := by omega
            have HTK := Hid.mk htk
            have HBX := Hid.mk hbw
            have HATX := Hid.mk (HAT.out.below hb4)
            clear htk hbw hb4 HAT HB4
            go_wp2_with fail
            go_loopw [10, 77] (fun o i wx => ∃ (t : Nat) (r : Option Addr) (m d : Nat), t ≤ j ∧ i = .int .i64 t ∧ o = .slice r m d ∧ jok k l zss t = true ∧ (jm k l zss t).length = m ∧ Formed r m d ∧ AtM wx r (jm k l zss t) ∧ Below W.heap.size W wx) (fun _ i _ => j - (intOf i).toNat)
            case atStart => exact ⟨0, _, 1, 1, Nat.zero_le _, rfl, rfl, rfl, rfl, Formed.some (Nat.le_refl _), HATX.out, HBX.out⟩
            case round =>
              clear HATX HBX
              obtain ⟨t, r3, m, d3, htj, rfl, rfl, hjo, hm, hFr3, har, hbw⟩ := hrel
              have zw := hbw.size
              by_cases hlt : t < j
              · obtain ⟨b, off, hab, hc⟩ := (HA.out.below hbw).some (by have := HLN.out; omega)
                subst hab
                obtain ⟨a1, c1, hc0, hc1, hm1, hf1, ham⟩ := hc t (by have := HLN.out; omega)
                obtain ⟨zs, hzk⟩ : ∃ zs, zss[t]? = some zs := ⟨_, List.getElem?_eq_getElem (by have := HZ.out; omega)⟩
                have hgd : zss.getD t [] = zs := by simp [List.getD, hzk]
                obtain ⟨pb, poff, pa, pc, hpb, hpc, hpl, hpat⟩ := atS_row (HP.out.below hbw) hzk
                subst hpb
                have hcz := HCL.out zs (List.mem_of_getElem? hzk)
                obtain ⟨x1, x2, x3⟩ := tl1_parts (tkB_at HTK.out hlt)
                rw [hgd] at x1 x2
                have hnx : jm k l zss (t + 1) = fitW zs (jm k l zss t) (tat l t).2 := by rw [← hgd]; rfl
                have hjs := jok_succ k l zss t
                have hmr := jm_row k l zss t
                have hml := jm_len hjo
                obtain ⟨M, hME⟩ : ∃ M, jm k l zss t = M := ⟨_, rfl⟩
                rw [hME] at hm har hnx hmr hml
                obtain ⟨us, hus⟩ : ∃ us, (tat l t).2 = us := ⟨_, rfl⟩
                obtain ⟨p1, hp1⟩ : ∃ p1, (tat l t).1 = p1 := ⟨_, rfl⟩
                rw [hp1] at hc0
                rw [hus] at hc1 ham x2 hnx
                have hu60 : us.length ≤ 60 := (goodT_parts x2).2.1
                have hrow : ∀ e, e < us.length → (wat us e).1.length = zs.length := fun e he => (goodT_row x2 (wat_mem he)).2
                obtain ⟨m1, hm1e⟩ : ∃ m1, us.length = m1 := ⟨_, rfl⟩
                obtain ⟨pn, hpn⟩ : ∃ pn, zs.length = pn := ⟨_, rfl⟩
                rw [hm1e] at hc1 hrow hu60
                rw [hpn] at hpc hrow
                have HPK : Hid (∀ s, s < m → _) := fun s hs => accF_pack (part := zs) (k := s) hq6 hmr hml (by rw [hm1e]; exact hu60) (show s < M.length by omega) hm1e
                obtain ⟨V, hV⟩ : ∃ V, V = wr.alloc (.cells #[.int .i64 p1, .slice a1 m1 c1] 28) := ⟨_, rfl⟩
                obtain ⟨S, hS⟩ : ∃ S, S = wr.heap.size := ⟨_, rfl⟩
                have bV : Below wr.heap.size wr V := by rw [hV]; exact (Below.refl _ _).alloc (Nat.le_refl _) _
                have v1 : V.cell? ⟨S, 1, none⟩ = some (.slice a1 m1 c1) := by rw [hV, hS]; exact pair1 _ _ _ _
                have vp := cell_later bV hpc
                have HVA := Hid.mk (At.below hpat bV)
                have HVM := Hid.mk (har.below bV)
                have HVU := Hid.mk (ham.below bV)
                have HBV : Hid (Below W.heap.size W V) := hbw.trans (bV.mono hbw.size)
                have HM := Hid.mk hm
                have HM1 := Hid.mk hm1e
                have HPN := Hid.mk hpn
                have HCZ := Hid.mk hcz
                have HMR : Hid (∀ s, s < m → (wat M s).1.length = k) := fun s hs => hmr _ (wat_mem (by omega))
                have HROW := Hid.mk hrow
                have HNX := Hid.mk hnx
                have HJO := Hid.mk hjo
                have HJS := Hid.mk hjs
                have hm60 : m ≤ 60 := by omega
                have hki : (t : Int) < (j : Int) := by omega
                have HV := Hid.mk hV
                have HSE := Hid.mk hS
                clear hc hm1 hf1 ham hzk hgd hpl hpat hcz x1 x2 x3 hnx hjs hmr hml hME hus hp1 hrow hm1e hpn hm har hbw bV hjo hV hS
                go_upto_region 18 with fail
                rw [← HV.out, ← HSE.out]
                clear HV HSE hc0 hc1
                go_wp2_with fail
                go_loopw [15, 84] (fun o i wx => ∃ (s : Nat) (r : Option Addr) (mo d : Nat), s ≤ m ∧ i = .int .i64 s ∧ o = .slice r mo d ∧ (putAll [] (fitL zs (M.take s) us)).length = mo ∧ Formed r mo d ∧ AtM wx r (putAll [] (fitL zs (M.take s) us)) ∧ Below V.heap.size V wx) (fun _ i _ => m - (intOf i).toNat)
                case atStart => exact ⟨0, none, 0, 0, Nat.zero_le _, rfl, rfl, rfl, Formed.nil, atM_nil _ _, Below.refl _ _⟩
                case round =>
                  obtain ⟨s, r, mo, d, hsm, rfl, rfl, hmo, hFr, har, hbw⟩ := hrel
                  have zwv := hbw.size
                  by_cases hst : s < m
                  · obtain ⟨b2, off2, hab2, hc2⟩ := (HVM.out.below hbw).some (by have := HM.out; omega)
                    subst hab2
                    obtain ⟨q2, dd2, hcx, hwx, hm2, hnil2, hat2⟩ := hc2 s (by have := HM.out; omega)
                    obtain ⟨AC, a0, aS, aN, aA, aB⟩ := HPK.out s hst
                    rw [← a0] at hmo har
                    have HAS := Hid.mk aS
                    have HAN := Hid.mk aN
                    have HAA := Hid.mk aA
                    have HAB := Hid.mk aB
                    have hxl := HMR.out s hst
                    clear aS aN aA aB a0
                    obtain ⟨xz, hxz⟩ : ∃ xz, (wat M s).1 = xz := ⟨_, rfl⟩
                    obtain ⟨xw, hxw⟩ : ∃ xw, (wat M s).2 = xw := ⟨_, rfl⟩
                    rw [hxz] at hxl hcx hat2 HAS HAN
                    rw [hxw] at hwx
                    rw [hxl] at hcx
                    obtain ⟨V2, hV2⟩ : ∃ V2, V2 = wr.alloc (.cells #[.slice q2 k dd2, .int .i64 xw] 50) := ⟨_, rfl⟩
                    obtain ⟨S2, hS2⟩ : ∃ S2, S2 = wr.heap.size := ⟨_, rfl⟩
                    have bV2 : Below wr.heap.size wr V2 := by rw [hV2]; exact (Below.refl _ _).alloc (Nat.le_refl _) _
                    have BV2 := hbw.trans (bV2.mono hbw.size)
                    have y0 : V2.cell? ⟨S2, 0, none⟩ = some (.slice q2 k dd2) := by rw [hV2, hS2]; exact pair0 wr _ _ _
                    have v1 := cell_later BV2 v1
                    have vp := cell_later BV2 vp
                    have HXL := Hid.mk hxl
                    have HAT2 := Hid.mk (At.below hat2 bV2)
                    have HAR2 := Hid.mk (har.below bV2)
                    have HMO := Hid.mk hmo
                    have HVA2 := Hid.mk (At.below HVA.out BV2)
                    have HVU2 := Hid.mk (HVU.out.below BV2)
                    have HBV2 := Hid.mk BV2
                    have hsi : (s : Int) < (m : Int) := by omega
                    have HV2 := Hid.mk hV2
                    have HS2E := Hid.mk hS2
                    clear hc2 hm2 hat2 hxl hxz hxw hmo har hbw bV2 BV2 hV2 hS2
                    go_upto_region 22 with fail
                    rw [← HV2.out, ← HS2E.out]
                    clear HV2 HS2E hcx hwx
                    go_wp2_with fail
                    go_loopw [15, 91] (fun o i wx => ∃ (e : Nat) (r : Option Addr) (mo d : Nat), e ≤ m1 ∧ i = .int .i64 e ∧ o = .slice r mo d ∧ (AC e).length = mo ∧ Formed r mo d ∧ AtM wx r (AC e) ∧ Below V2.heap.size V2 wx) (fun _ i _ => m1 - (intOf i).toNat)
                    case atStart => exact ⟨0, r, mo, d, Nat.zero_le _, rfl, rfl, HMO.out, hFr, HAR2.out, Below.refl _ _⟩
                    case round =>
                      clear HMO hFr HAR2
                      obtain ⟨e, r, mo, d, hem, rfl, rfl, hmo, hFr, har, hbs⟩ := hrel
                      have zws := hbs.size
                      by_cases het : e < m1
                      · obtain ⟨b3, off3, hab3, hc3⟩ := (HVU2.out.below hbs).some (by have := HM1.out; omega)
                        subst hab3
                        obtain ⟨q3, dd3, hcx3, hwx3, hm3, hnil3, hat3⟩ := hc3 e (by have := HM1.out; omega)
                        have hyl := HROW.out e het
                        have HS1 := Hid.mk (HAS.out e het)
                        have HN1 := Hid.mk (HAN.out e het)
                        have HLB := Hid.mk (HAB.out e)
                        have hm36 : mo ≤ 3600 := by have := HLB.out.1; omega
                        obtain ⟨yz, hyz⟩ : ∃ yz, (wat us e).1 = yz := ⟨_, rfl⟩
                        obtain ⟨yw, hyw⟩ : ∃ yw, (wat us e).2 = yw := ⟨_, rfl⟩
                        rw [hyz] at hyl hcx3 hat3 HS1 HN1
                        rw [hyw] at hwx3
                        rw [hyl] at hcx3
                        obtain ⟨fo, hfo⟩ : ∃ fo, fitOk xz zs yz = fo := ⟨_, rfl⟩
                        obtain ⟨fz, hfz⟩ : ∃ fz, fit xz zs yz = fz := ⟨_, rfl⟩
                        have hfl : fz.length = k := by rw [← hfz, fit_len]; exact HXL.out
                        rw [hfo] at HS1 HN1
                        rw [hfz] at HS1
                        have KF : Hid (∀ v, Below wr.heap.size wr v → Calls Tryz.prog 22 #[.agg #[.slice q2 k dd2], .slice pa pn pc, .agg #[.slice q3 pn dd3]] v fun e w' => (∃ r m5 d, e = .returned (.tuple #[.agg #[.slice r m5 d], .bool fo]) ∧ (fo = true → m5 = k ∧ w'.ownsRow v.heap.size 3 1 (.slice r k d) k (fz.map (.int .i64)))) ∧ Below v.heap.size v w') := by
                          intro v hv
                          have hbv := hbs.trans (hv.mono hbs.size)
                          have h9 := l8Fits_any q2 k dd2 xz pa pn pc zs q3 dd3 yz v HXL.out hq6 hnil2 (At.below HAT2.out hbv) HPN.out HCZ.out (At.below HVA2.out hbv) hyl (At.below hat3 hv)
                          rw [hfo, hfz] at h9
                          exact h9
                        obtain ⟨U, hU⟩ : ∃ U, U = wr.alloc (.cells #[.slice q3 pn dd3, .int .i64 yw] 50) := ⟨_, rfl⟩
                        have bU : Below wr.heap.size wr U := by rw [hU]; exact (Below.refl _ _).alloc (Nat.le_refl _) _
                        have k0 : U.cell? ⟨wr.heap.size, 0, none⟩ = some (.slice q3 pn dd3) := by rw [hU]; exact pair0 wr _ _ _
                        have zU : wr.heap.size < U.heap.size := by rw [hU]; simp
                        have BUs := hbs.trans (bU.mono hbs.size)
                        have k1 := cell_later BUs y0
                        have k2 := cell_later BUs vp
                        have hS2l := World.block_lt_of_cell? _ _ y0
                        have hpbl := World.block_lt_of_cell? _ _ vp
                        simp only at hS2l hpbl
                        have HBU := Hid.mk bU
                        have HBS := Hid.mk hbs
                        have HAR := Hid.mk har
                        have HMO := Hid.mk hmo
                        have HFL := Hid.mk hfl
                        have hei : (e : Int) < (m1 : Int) := by omega
                        clear hc3 hm3 hat3 hyl hyz hyw hfo hfz hfl hmo har hbs bU BUs
                        go_upto_region 25 with fail
                        rw [← hU]
                        clear hU hcx3 hwx3
                        go_cut [20, 21] from 95 to 111 (fun ta tb wx => ∃ (B : Nat) (r5 : Option Addr) (m5 d5 : Nat), ta = .pointer (some ⟨B, 0, none⟩) ∧ tb = .bool fo ∧ wx.cell? ⟨B, 0, none⟩ = some (.slice r5 m5 d5) ∧ (fo = true → m5 = k ∧ (r5 = none → d5 = 0) ∧ At wx r5 fz) ∧ Below wr.heap.size wr wx)
                        case first =>

                          refine wp_region_held_drew (S := fun w' => w'.cell? ⟨S2, 0, none⟩ = some (.slice q2 k dd2) ∧ w'.cell? ⟨pb, poff + t, none⟩ = some (.slice pa pn pc) ∧ w'.cell? ⟨wr.heap.size, 0, none⟩ = some (.slice q3 pn dd3)) (by kernel_rfl) ?_ (fun hHeld => ?_)
                          · (try dsimp only)
                            exact ⟨k1, k2, k0⟩
                          refine wpAnyH_take (i := 0) (oi := ?_) (v := ?_) ?_ (by kernel_rfl) (by kernel_rfl) (by kernel_rfl) ?_ (Or.inl ⟨?_, ?_⟩) (by assumption) ?_
                          rotate_left 2
                          · (simp only [List.getElem?_toArray, List.getElem?_cons_zero]; rfl)
                          · exact fun _ _ _ h => h
                          · rfl
                          · (intro wS hSw; (try dsimp only at hSw); go_simp; (try with_reducible rfl))
                          (try simp only [Act.put, List.setIfInBounds_toArray, List.set_cons_zero, List.set_cons_succ])
                          refine wpAnyH_take (i := 1) (oi := ?_) (v := ?_) ?_ (by kernel_rfl) (by kernel_rfl) (by kernel_rfl) ?_ (Or.inl ⟨?_, ?_⟩) (by assumption) ?_
                          rotate_left 2
                          · (simp only [List.getElem?_toArray, List.getElem?_cons_zero, List.getElem?_cons_succ]; rfl)
                          · exact fun _ _ _ h => h
                          · rfl
                          · (intro wS hSw; (try dsimp only at hSw); go_simp; (try with_reducible rfl))
                          (try simp only [Act.put, List.setIfInBounds_toArray, List.set_cons_zero, List.set_cons_succ])
                          refine wpAnyH_take (i := 2) (oi := ?_) (v := ?_) ?_ (by kernel_rfl) (by kernel_rfl) (by kernel_rfl) ?_ (Or.inl ⟨?_, ?_⟩) (by assumption) ?_
                          rotate_left 2
                          · (simp only [List.getElem?_toArray, List.getElem?_cons_zero, List.getElem?_cons_succ]; rfl)
                          · exact fun _ _ _ h => h
                          · rfl
                          · (intro wS hSw; (try dsimp only at hSw); go_simp; (try with_reducible rfl))
                          (try simp only [Act.put, List.setIfInBounds_toArray, List.set_cons_zero, List.set_cons_succ])
                          refine wpAnyH_take (i := 3) (oi := ?_) (v := ?_) ?_ (by kernel_rfl) (by kernel_rfl) (by kernel_rfl) ?_ (Or.inl ⟨?_, ?_⟩) (by assumption) ?_
                          rotate_left 2
                          · (simp only [List.getElem?_toArray, List.getElem?_cons_zero, List.getElem?_cons_succ]; rfl)
                          · exact fun _ _ _ h => h
                          · rfl
                          · (intro wS hSw; (try dsimp only at hSw); go_simp; (try with_reducible rfl))
                          (try simp only [Act.put, List.setIfInBounds_toArray, List.set_cons_zero, List.set_cons_succ])
                          refine wpAnyH_take (i := 4) (oi := ?_) (v := ?_) ?_ (by kernel_rfl) (by kernel_rfl) (by kernel_rfl) ?_ (Or.inl ⟨?_, ?_⟩) (by assumption) ?_
                          rotate_left 2
                          · (simp only [List.getElem?_toArray, List.getElem?_cons_zero, List.getElem?_cons_succ]; rfl)
                          · exact fun _ _ _ h => h
                          · rfl
                          · (intro wS hSw; (try dsimp only at hSw); go_simp; (try with_reducible rfl))
                          (try simp only [Act.put, List.setIfInBounds_toArray, List.set_cons_zero, List.set_cons_succ])
                          refine wpAnyH_take (i := 5) (oi := ?_) (v := ?_) ?_ (by kernel_rfl) (by kernel_rfl) (by kernel_rfl) ?_ (Or.inl ⟨?_, ?_⟩) (by assumption) ?_
                          rotate_left 2
                          · (simp only [List.getElem?_toArray, List.getElem?_cons_zero, List.getElem?_cons_succ]; rfl)
                          · exact fun _ _ _ h => h
                          · rfl
                          · (intro wS hSw; (try dsimp only at hSw); go_simp; (try with_reducible rfl))
                          (try simp only [Act.put, List.setIfInBounds_toArray, List.set_cons_zero, List.set_cons_succ])
                          refine wpAnyH_take (i := 6) (oi := ?_) (v := ?_) ?_ (by kernel_rfl) (by kernel_rfl) (by kernel_rfl) ?_ (Or.inl ⟨?_, ?_⟩) (by assumption) ?_
                          rotate_left 2
                          · (simp only [List.getElem?_toArray, List.getElem?_cons_zero, List.getElem?_cons_succ]; rfl)
                          · exact fun _ _ _ h => h
                          · rfl
                          · (intro wS hSw; (try dsimp only at hSw); go_simp; (try with_reducible rfl))
                          (try simp only [Act.put, List.setIfInBounds_toArray, List.set_cons_zero, List.set_cons_succ])
                          refine wpAnyH_take (i := 7) (oi := ?_) (v := ?_) ?_ (by kernel_rfl) (by kernel_rfl) (by kernel_rfl) ?_ (Or.inl ⟨?_, ?_⟩) (by assumption) ?_
                          rotate_left 2
                          · (simp only [List.getElem?_toArray, List.getElem?_cons_zero, List.getElem?_cons_succ]; rfl)
                          · exact fun _ _ _ h => h
                          · rfl
                          · (intro wS hSw; (try dsimp only at hSw); go_simp; (try with_reducible rfl))
                          (try simp only [Act.put, List.setIfInBounds_toArray, List.set_cons_zero, List.set_cons_succ])
                          obtain ⟨u0, hu0⟩ : ∃ u, u = U.drew := ⟨_, rfl⟩
                          have Y0 : Below U.heap.size U u0 := by rw [hu0]; exact (Below.refl _ _).drew
                          have zu : u0.heap.size = U.heap.size := by rw [hu0]; rfl
                          rw [← hu0]
                          clear hu0
                          have k1 := cell_later Y0 k1
                          have k2 := cell_later Y0 k2
                          have k0 := cell_later Y0 k0
                          have HU := Hid.mk (HBU.out.trans (Y0.mono HBU.out.size))
                          have zu1 : wr.heap.size < u0.heap.size := by omega
                          clear Y0 zu
                          refine wpAnyH_ready (rs := [8, 12]) (by kernel_rfl) (by simp) ?_
                          refine AllReadyH.cons (o := ?_) ?_ (fun K hK => ?_) ?_
                          rotate_left
                          · (simp only [List.getElem?_toArray, List.getElem?_cons_zero, List.getElem?_cons_succ]; rfl)
                          · go_simp
                            go_at_call 22
                            refine (KF.out _ HU.out).mono ?_
                            rintro e w5 ⟨⟨r5, m5, d5, rfl, hw5⟩, hb5⟩
                            have k1 := cell_later hb5 k1
                            have k2 := cell_later hb5 k2
                            have k0 := cell_later hb5 k0
                            have HW5 := Hid.mk hw5
                            have HB5 := Hid.mk (HU.out.trans (hb5.mono HU.out.size))
                            have z5 := hb5.size
                            clear hw5 hb5
                            (try go_wp2_with fail)
                            refine hK.out _ _ ?_ (fun hHeld' => ?_)
                            · (try dsimp only)
                              exact ⟨k1, k2, k0⟩
                            clear hK K hHeld
                            have hHeld := hHeld'
                            clear hHeld'
                            (try simp only [Act.put, List.setIfInBounds_toArray, List.set_cons_zero, List.set_cons_succ])
                            refine wpAnyH_take (i := 9) (oi := ?_) (v := ?_) ?_ (by kernel_rfl) (by kernel_rfl) (by kernel_rfl) ?_ (Or.inl ⟨?_, ?_⟩) (by assumption) ?_
                            rotate_left 2
                            · (simp only [List.getElem?_toArray, List.getElem?_cons_zero, List.getElem?_cons_succ]; rfl)
                            · exact fun _ _ _ h => h
                            · rfl
                            · (intro wS hSw; (try dsimp only at hSw); go_simp; (try with_reducible rfl))
                            (try simp only [Act.put, List.setIfInBounds_toArray, List.set_cons_zero, List.set_cons_succ])
                            refine wpAnyH_take (i := 10) (oi := ?_) (v := ?_) ?_ (by kernel_rfl) (by kernel_rfl) (by kernel_rfl) ?_ (Or.inl ⟨?_, ?_⟩) (by assumption) ?_
                            rotate_left 2
                            · (simp only [List.getElem?_toArray, List.getElem?_cons_zero, List.getElem?_cons_succ]; rfl)
                            · exact fun _ _ _ h => h
                            · rfl
                            · (intro wS hSw; (try dsimp only at hSw); go_simp; (try with_reducible rfl))
                            (try simp only [Act.put, List.setIfInBounds_toArray, List.set_cons_zero, List.set_cons_succ])
                            refine wpAnyH_take (i := 11) (oi := ?_) (v := ?_) ?_ (by kernel_rfl) (by kernel_rfl) (by kernel_rfl) ?_ (Or.inl ⟨?_, ?_⟩) (by assumption) ?_
                            rotate_left 2
                            · (simp only [List.getElem?_toArray, List.getElem?_cons_zero, List.getElem?_cons_succ]; rfl)
                            · exact fun _ _ _ h => h
                            · rfl
                            · (intro wS hSw; (try dsimp only at hSw); go_simp; (try with_reducible rfl))
                            (try simp only [Act.put, List.setIfInBounds_toArray, List.set_cons_zero, List.set_cons_succ])
                            refine wpAnyH_ready (rs := [12]) (by kernel_rfl) (by simp) ?_
                            refine AllReadyH.cons (o := ?_) ?_ (fun K hK => ?_) AllReadyH.nil
                            rotate_left
                            · (simp only [List.getElem?_toArray, List.getElem?_cons_zero, List.getElem?_cons_succ]; rfl)
                            go_simp
                            skip
                            (try go_wp2_with fail)
                            refine hK.out _ _ ?_ (fun hHeld' => ?_)
                            · (try dsimp only)
                              exact ⟨cell_later ((Below.refl _ _).alloc (Nat.le_refl _) _) k1, cell_later ((Below.refl _ _).alloc (Nat.le_refl _) _) k2, cell_later ((Below.refl _ _).alloc (Nat.le_refl _) _) k0⟩
                            clear hK K hHeld
                            have hHeld := hHeld'
                            clear hHeld'
                            (try simp only [Act.put, List.setIfInBounds_toArray, List.set_cons_zero, List.set_cons_succ])
                            refine wpAnyH_ready (rs := [13]) (by kernel_rfl) (by simp) ?_
                            refine AllReadyH.cons (o := ?_) ?_ (fun K hK => ?_) AllReadyH.nil
                            rotate_left
                            · (simp only [List.getElem?_toArray, List.getElem?_cons_zero, List.getElem?_cons_succ]; rfl)
                            go_simp
                            skip
                            (try go_wp2_with fail)
                            refine hK.out _ _ ?_ (fun hHeld' => ?_)
                            · (try dsimp only)
                              exact ⟨cell_later ((Below.refl _ _).alloc (Nat.le_refl _) _) k1, cell_later ((Below.refl _ _).alloc (Nat.le_refl _) _) k2, cell_later ((Below.refl _ _).alloc (Nat.le_refl _) _) k0⟩
                            clear hK K hHeld
                            have hHeld := hHeld'
                            clear hHeld'
                            (try simp only [Act.put, List.setIfInBounds_toArray, List.set_cons_zero, List.set_cons_succ])
                            refine wpAnyH_take (i := 14) (oi := ?_) (v := ?_) ?_ (by kernel_rfl) (by kernel_rfl) (by kernel_rfl) ?_ (Or.inl ⟨?_, ?_⟩) (by assumption) ?_
                            rotate_left 2
                            · (simp only [List.getElem?_toArray, List.getElem?_cons_zero, List.getElem?_cons_succ]; rfl)
                            · exact fun _ _ _ h => h
                            · rfl
                            · (intro wS hSw; (try dsimp only at hSw); go_simp; (try with_reducible rfl))
                            (try simp only [Act.put, List.setIfInBounds_toArray, List.set_cons_zero, List.set_cons_succ])
                            refine wpAnyH_done (by kernel_rfl) ?_ _
                            (try go_wp2_with fail)
                            go_meet
                            case rel =>
                              refine ⟨w5.heap.size, r5, m5, d5, rfl, rfl, by simp, fun h9 => ?_, HB5.out.alloc (by omega) _⟩
                              obtain ⟨rfl, y2⟩ := HW5.out h9
                              exact ⟨rfl, (owns_formed y2).2.1, At.below (At.owned y2) ((Below.refl _ _).alloc (Nat.le_refl _) _)⟩
                          refine AllReadyH.cons (o := ?_) ?_ (fun K hK => ?_) AllReadyH.nil
                          rotate_left
                          · (simp only [List.getElem?_toArray, List.getElem?_cons_zero, List.getElem?_cons_succ]; rfl)
                          · go_simp
                            (try go_wp2_with fail)
                            refine hK.out _ _ ?_ (fun hHeld' => ?_)
                            · (try dsimp only)
                              exact ⟨cell_later ((Below.refl _ _).alloc (Nat.le_refl _) _) k1, cell_later ((Below.refl _ _).alloc (Nat.le_refl _) _) k2, cell_later ((Below.refl _ _).alloc (Nat.le_refl _) _) k0⟩
                            clear hK K hHeld
                            have hHeld := hHeld'
                            clear hHeld'
                            (try simp only [Act.put, List.setIfInBounds_toArray, List.set_cons_zero, List.set_cons_succ])
                            obtain ⟨v9, hv9⟩ : ∃ u, u = u0.alloc (.cells #[.slice none 0 0] 48) := ⟨_, rfl⟩
                            have hb9 : Below u0.heap.size u0 v9 := by rw [hv9]; exact (Below.refl _ _).alloc (Nat.le_refl _) _
                            have hp9 : v9.heap[u0.heap.size]? = some (.cells #[.slice none 0 0] 48 (0, 0)) := by rw [hv9]; exact heap_alloc_new _ _
                            have zv : u0.heap.size < v9.heap.size := by rw [hv9]; simp
                            rw [← hv9]
                            clear hv9
                            have k1 := cell_later hb9 k1
                            have k2 := cell_later hb9 k2
                            have k0 := cell_later hb9 k0
                            have HU9 := Hid.mk (HU.out.trans (hb9.mono HU.out.size))
                            have HP9 := Hid.mk hp9
                            clear hb9 hp9
                            refine wpAnyH_ready (rs := [8]) (by kernel_rfl) (by simp) ?_
                            refine AllReadyH.cons (o := ?_) ?_ (fun K hK => ?_) AllReadyH.nil
                            rotate_left
                            · (simp only [List.getElem?_toArray, List.getElem?_cons_zero, List.getElem?_cons_succ]; rfl)
                            go_simp
                            go_at_call 22
                            refine (KF.out _ HU9.out).mono ?_
                            rintro e w5 ⟨⟨r5, m5, d5, rfl, hw5⟩, hb5⟩
                            have k1 := cell_later hb5 k1
                            have k2 := cell_later hb5 k2
                            have k0 := cell_later hb5 k0
                            have HW5 := Hid.mk hw5
                            have HB5 := Hid.mk (HU9.out.trans (hb5.mono HU9.out.size))
                            have z5 := hb5.size
                            have hp5 := (hb5.block _ zv).trans HP9.out
                            have g0 : w5.cell? ⟨u0.heap.size, 0, none⟩ = some (.slice none 0 0) := by rw [cell_of_row _ _ 0 _ _ (0, 0) hp5]; rfl
                            have g1 : w5.frozen? ⟨u0.heap.size, 0, none⟩ = false := frozen_of_row _ _ 0 _ _ hp5
                            clear hw5 hb5 hp5
                            (try go_wp2_with fail)
                            refine hK.out _ _ ?_ (fun hHeld' => ?_)
                            · (try dsimp only)
                              exact ⟨k1, k2, k0⟩
                            clear hK K hHeld
                            have hHeld := hHeld'
                            clear hHeld'
                            (try simp only [Act.put, List.setIfInBounds_toArray, List.set_cons_zero, List.set_cons_succ])
                            refine wpAnyH_take (i := 9) (oi := ?_) (v := ?_) ?_ (by kernel_rfl) (by kernel_rfl) (by kernel_rfl) ?_ (Or.inl ⟨?_, ?_⟩) (by assumption) ?_
                            rotate_left 2
                            · (simp only [List.getElem?_toArray, List.getElem?_cons_zero, List.getElem?_cons_succ]; rfl)
                            · exact fun _ _ _ h => h
                            · rfl
                            · (intro wS hSw; (try dsimp only at hSw); go_simp; (try with_reducible rfl))
                            (try simp only [Act.put, List.setIfInBounds_toArray, List.set_cons_zero, List.set_cons_succ])
                            refine wpAnyH_take (i := 10) (oi := ?_) (v := ?_) ?_ (by kernel_rfl) (by kernel_rfl) (by kernel_rfl) ?_ (Or.inl ⟨?_, ?_⟩) (by assumption) ?_
                            rotate_left 2
                            · (simp only [List.getElem?_toArray, List.getElem?_cons_zero, List.getElem?_cons_succ]; rfl)
                            · exact fun _ _ _ h => h
                            · rfl
                            · (intro wS hSw; (try dsimp only at hSw); go_simp; (try with_reducible rfl))
                            (try simp only [Act.put, List.setIfInBounds_toArray, List.set_cons_zero, List.set_cons_succ])
                            refine wpAnyH_take (i := 11) (oi := ?_) (v := ?_) ?_ (by kernel_rfl) (by kernel_rfl) (by kernel_rfl) ?_ (Or.inl ⟨?_, ?_⟩) (by assumption) ?_
                            rotate_left 2
                            · (simp only [List.getElem?_toArray, List.getElem?_cons_zero, List.getElem?_cons_succ]; rfl)
                            · exact fun _ _ _ h => h
                            · rfl
                            · (intro wS hSw; (try dsimp only at hSw); go_simp; (try with_reducible rfl))
                            (try simp only [Act.put, List.setIfInBounds_toArray, List.set_cons_zero, List.set_cons_succ])
                            refine wpAnyH_ready (rs := [13]) (by kernel_rfl) (by simp) ?_
                            refine AllReadyH.cons (o := ?_) ?_ (fun K hK => ?_) AllReadyH.nil
                            rotate_left
                            · (simp only [List.getElem?_toArray, List.getElem?_cons_zero, List.getElem?_cons_succ]; rfl)
                            go_simp
                            skip
                            (try go_wp2_with fail)
                            refine hK.out _ _ ?_ (fun hHeld' => ?_)
                            · (try dsimp only)
                              exact ⟨keep_far k1 (by omega), keep_far k2 (by omega), keep_far k0 (by omega)⟩
                            clear hK K hHeld
                            have hHeld := hHeld'
                            clear hHeld'
                            (try simp only [Act.put, List.setIfInBounds_toArray, List.set_cons_zero, List.set_cons_succ])
                            refine wpAnyH_take (i := 14) (oi := ?_) (v := ?_) ?_ (by kernel_rfl) (by kernel_rfl) (by kernel_rfl) ?_ (Or.inl ⟨?_, ?_⟩) (by assumption) ?_
                            rotate_left 2
                            · (simp only [List.getElem?_toArray, List.getElem?_cons_zero, List.getElem?_cons_succ]; rfl)
                            · exact fun _ _ _ h => h
                            · rfl
                            · (intro wS hSw; (try dsimp only at hSw); go_simp; (try with_reducible rfl))
                            (try simp only [Act.put, List.setIfInBounds_toArray, List.set_cons_zero, List.set_cons_succ])
                            refine wpAnyH_done (by kernel_rfl) ?_ _
                            (try go_wp2_with fail)
                            go_meet
                            case rel =>
                              refine ⟨u0.heap.size, r5, m5, d5, rfl, rfl, cell_set g0 _, fun h9 => ?_, HB5.out.setCell (by show wr.heap.size ≤ u0.heap.size; omega) _⟩
                              obtain ⟨rfl, y2⟩ := HW5.out h9
                              exact ⟨rfl, (owns_formed y2).2.1, At.owned (ownsRow_setCell_below y2 zv _)⟩
                        case rest =>
                          obtain ⟨B, r5, m5, d5, rfl, rfl, g0, hok5, hb3⟩ := hcut
                          obtain ⟨w3, rfl⟩ : ∃ x, x = wc := ⟨_, rfl⟩
                          have HB3 : Hid (Below V2.heap.size V2 w3) := HBS.out.trans (hb3.mono HBS.out.size)
                          have HAR3 := Hid.mk (HAR.out.below hb3)
                          clear k0 k1 k2 KF hb3
                          cases fo with
                          | true =>
                            obtain ⟨rfl, y2, y3⟩ := hok5 rfl
                            have KP := Hid.mk (l2Put_any r r5 mo m5 d d5 (AC e) fz 1 w3 HMO.out HFL.out (by omega) hFr hq6 y2 (fun i hi => HLB.out.2 i (by have := HMO.out; omega)) (by omega) (by omega) HAR3.out y3)
                            have HS2 := Hid.mk (HS1.out rfl)
                            clear hok5 y2 y3 HS1 HN1
                            go_wp2_with fail
                            refine KP.out.mono ?_
                            rintro e7 w7 ⟨r7, m7, d7, rfl, hm7, hF7, ha7, hb7⟩
                            rw [← HS2.out] at hm7 ha7
                            have HM7 := Hid.mk hm7
                            have HF7 := Hid.mk hF7
                            have HA7 := Hid.mk ha7
                            have HB7 := Hid.mk (HB3.out.trans (hb7.mono HB3.out.size))
                            clear hm7 hF7 ha7 hb7 KP HB3 HAR3 HAR HMO hFr
                            go_wp2
                            go_roundw
                            case rel => exact ⟨e + 1, _, _, _, by omega, by go_num, rfl, HM7.out, HF7.out, HA7.out, HB7.out⟩
                            case measure => simp [intOf]; omega
                          | false =>
                            have HE := Hid.mk (HN1.out rfl)
                            have HM7 : Hid ((AC (e + 1)).length = mo) := by show _ = _; rw [HE.out]; exact HMO.out
                            have HA7 : Hid (AtM w3 r (AC (e + 1))) := by show AtM _ _ _; rw [HE.out]; exact HAR3.out
                            clear hok5 HAR HAR3 HMO
                            go_wp2
                            go_roundw
                            case rel => exact ⟨e + 1, _, _, _, by omega, by go_num, rfl, HM7.out, hFr, HA7.out, HB3.out⟩
                            case measure => simp [intOf]; omega
                      · obtain rfl : e = m1 := by omega
                        rw [HAA.out] at hmo har
                        have hei : ¬ (e : Int) < (e : Int) := by omega
                        have HMO := Hid.mk hmo
                        have HAR := Hid.mk har
                        have HB7 := Hid.mk (HBV2.out.trans (hbs.mono HBV2.out.size))
                        clear hmo har hbs
                        go_wp2
                        go_roundw
                        case rel => exact ⟨s + 1, _, _, _, by omega, by go_num, rfl, HMO.out, hFr, HAR.out, HB7.out⟩
                        case measure => simp [intOf]; omega
                  · obtain rfl : s = m := by omega
                    have hsi : ¬ (s : Int) < (s : Int) := by omega
                    rw [List.take_of_length_le (by have := HM.out; omega)] at hmo har
                    have hmo' : (jm k l zss (t + 1)).length = mo := by rw [HNX.out]; exact hmo
                    have har' : AtM wr r (jm k l zss (t + 1)) := by rw [HNX.out]; exact har
                    have HB7 := Hid.mk (HBV.out.trans (hbw.mono HBV.out.size))
                    have HMO := Hid.mk hmo'
                    have HAR := Hid.mk har'
                    clear hmo har hmo' har' hbw
                    by_cases h60 : 60 < mo
                    · have h60' : (60 : Int) < (mo : Int) := by omega
                      have HN : Hid (jpB l zss (k : Int) = false) := by show _ = _; rw [HJB.out, jok_no hlt (by rw [HMO.out]; omega)]; simp
                      have HBW : Hid (Below w.heap.size w wr) := HB0.out.trans (HB7.out.mono HB0.out.size)
                      have f0 := frozen_later HB7.out e0 f0
                      have f1 := frozen_later HB7.out e1 f1
                      have e0 := cell_later HB7.out e0
                      have e1 := cell_later HB7.out e1
                      go_wp2
                      refine bodyPost_ret (v := .tuple #[.agg #[.int .i64 0, .slice none 0 0], .bool false]) (by simp [results, Tryz.results6, go_sem, e0, e1]) rfl ⟨TabAns.zero HN.out rfl, ?_⟩
                      exact (HBW.out.setCell (by show w.heap.size ≤ w.heap.size; omega) _).setCell (by show w.heap.size ≤ w.heap.size; omega) _
                    · have h60' : ¬ (60 : Int) < (mo : Int) := by omega
                      have HJO' : Hid (jok k l zss (t + 1) = true) := by show _ = _; rw [HJS.out, HJO.out, HMO.out, decide_eq_true (by omega)]; rfl
                      go_wp2
                      go_roundw
                      case rel => exact ⟨t + 1, _, _, _, by omega, by go_num, rfl, HJO'.out, HMO.out, hFr, HAR.out, HB7.out⟩
                      case measure => simp [intOf]; omega
              · obtain rfl : t = j := by omega
                have hti : ¬ (t : Int) < (t : Int) := by omega
                have hgd := jm_good hq6 HCL.out HALL.out HZ.out HTK.out hjo
                have hml := jm_len hjo
                have HYES : Hid (jpB l zss (k : Int) = true) := by show _ = _; rw [HJB.out, HTK.out, hjo]; rfl
                have KL := Hid.mk (l2Tell_any r3 m d3 (jm k l zss t) (k : Int) wr hm (by omega) (fun i hi => by rw [jm_row k l zss t _ (wat_mem (by omega))]; omega) har)
                rw [hgd] at KL
                have HTP : Hid (tellP (k : Int) (jm k l zss t) = ansP true (k : Int)) := by show _ = _; unfold tellP; rw [if_pos hgd]; rfl
                have HTT : Hid (tellT (k : Int) (jm k l zss t) = ansT true (jm k l zss t)) := by show _ = _; unfold tellT; rw [if_pos hgd]; rfl
                rw [HTP.out, HTT.out] at KL
                have HBW : Hid (Below w.heap.size w wr) := HB0.out.trans (hbw.mono HB0.out.size)
                have f0 := frozen_later hbw e0 f0
                have f1 := frozen_later hbw e1 f1
                have e0 := cell_later hbw e0
                have e1 := cell_later hbw e1
                clear hgd hml hm hFr3 har hbw hjo HTP HTT
                go_wp2_with fail
                refine KL.out.mono ?_
                rintro e w3 ⟨⟨r4, m4, d4, cells4, rfl, ho4⟩, hb4⟩
                have f0 := frozen_later hb4 e0 f0
                have f1 := frozen_later hb4 e1 f1
                have e0 := cell_later hb4 e0
                have e1 := cell_later hb4 e1
                have HO3 := Hid.mk ho4
                have HB3 := Hid.mk hb4
                have z3 := hb4.size
                obtain ⟨P1, hP1⟩ : ∃ P1, ansP true (k : Int) = P1 := ⟨_, rfl⟩
                have HP1 := Hid.mk hP1
                rw [hP1]
                clear KL ho4 hb4 hP1
                go_wp2
                have hof : Off (From w.heap.size (w.heap.size + 1)) w3 ((w3.setCell ⟨w.heap.size, 0, none⟩ (.int .i64 P1)).setCell ⟨w.heap.size, 1, none⟩ (.slice r4 m4 d4)) :=
                  (Off.set (by exact ⟨Nat.le_refl _, Nat.lt_succ_self _⟩) _).trans (Off.set (by exact ⟨Nat.le_refl _, Nat.lt_succ_self _⟩) _)
                refine bodyPost_ret (v := .tuple #[.agg #[.int .i64 P1, .slice r4 m4 d4], .bool true]) (by simp [results, Tryz.results6, go_sem, e0, e1]) rfl ⟨?_, ?_⟩
                · rw [HYES.out, HJW.out]
                  refine ⟨r4, m4, d4, cells4, by rw [HP1.out], ?_⟩
                  have h9 := HO3.out.apartW hof.apart (.inr (by omega))
                  exact h9.widen (by have := HBW.out.size; omega) (by simp) (Nat.le_refl _)
                · exact ((HBW.out.trans (HB3.out.mono HBW.out.size)).setCell (by show w.heap.size ≤ w.heap.size; omega) _).setCell (by show w.heap.size ≤ w.heap.size; omega) _
  · have hnn' : ¬ (n : Int) = (n' : Int) := by omega
    have HN : Hid (jpB l zss (q : Int) = false) := by
      show _ = _
      unfold jpB
      rw [HG.out, HLN.out, HZ.out, decide_eq_false hnn]; rfl
    go_enter Tryz.func6, Tryz.ntmps6
    go_wp2_with fail
    rw [← hW]
    clear hW
    refine KG.out.mono ?_
    rintro e w1 ⟨rfl, hb1⟩
    rw [HG.out]
    have f0 := frozen_later hb1 e0 f0
    have f1 := frozen_later hb1 e1 f1
    have e0 := cell_later hb1 e0
    have e1 := cell_later hb1 e1
    have HBW : Hid (Below w.heap.size w w1) := HB0.out.trans (hb1.mono HB0.out.size)
    clear hb1 KG
    go_wp2
    refine bodyPost_ret (v := .tuple #[.agg #[.int .i64 0, .slice none 0 0], .bool false]) (by simp [results, Tryz.results6, go_sem, e0, e1]) rfl ⟨TabAns.zero HN.out rfl, ?_⟩
    exact (HBW.out.setCell (by show w.heap.size ≤ w.heap.size; omega) _).setCell (by show w.heap.size ≤ w.heap.size; omega) _

end Go.Proofs.YtpnaoahlfhbbmaaGreat
