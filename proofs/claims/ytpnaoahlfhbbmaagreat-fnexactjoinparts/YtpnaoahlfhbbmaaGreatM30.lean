/- Contract of impl.JoinParts. -/
import Derived.Test.YtpnaoahlfhbbmaaGreatM25
import Derived.Test.YtpnaoahlfhbbmaaGreatM28
import Derived.Test.YtpnaoahlfhbbmaaGreatM29
namespace Go.Proofs.YtpnaoahlfhbbmaaGreat
open Go.RowKit

/-- Two lists that a struct in block J holds by its slices: they read so whatever is written into J. -/
def Kp (w : World) (J : Nat) (r : Option Addr) (cols : List Int) (r2 : Option Addr) (T : List WRow) : Prop := ∀ w'', Off (From J (J + 1)) w w'' → At w'' r cols ∧ AtM w'' r2 T
theorem Kp.off {w w' : World} {J : Nat} {r : Option Addr} {cols : List Int} {r2 : Option Addr} {T : List WRow} (h : Kp w J r cols r2 T) (ho : Off (From J (J + 1)) w w') : Kp w' J r cols r2 T := fun w'' h2 => h w'' (ho.trans h2)
theorem Kp.below {w w' : World} {J : Nat} {r : Option Addr} {cols : List Int} {r2 : Option Addr} {T : List WRow} (h : Kp w J r cols r2 T) (hb : Below w.heap.size w w') : Kp w' J r cols r2 T := h.off (Off.below hb)
theorem Kp.here {w : World} {J : Nat} {r : Option Addr} {cols : List Int} {r2 : Option Addr} {T : List WRow} (h : Kp w J r cols r2 T) : At w r cols ∧ AtM w r2 T := h w (Off.refl _ _)

set_option maxRecDepth 100000 in
set_option maxHeartbeats 16000000 in
theorem implJoinParts (a : Option Addr) (n c : Nat) (l : List Tab) (a' : Option Addr) (n' c' : Nat) (zss : List (List Int)) (C : Int) (w : World) (hs : SmU l n) (hz : zss.length = n') (hn' : n' ≤ 1048576) (ha : AtSM w a l) (ha' : AtS w a' zss) :
    Calls Tryz.prog 9 #[.slice a n c, .slice a' n' c', .int .i64 C] w fun e w' => TabAns e w' w.heap.size (jpB l zss C) C (jpW l zss C) ∧ Below w.heap.size w w' := by
  obtain ⟨W, hW⟩ : ∃ W, W = w.alloc (.cells #[.int .i64 0, .slice none 0 0] 28) := ⟨_, rfl⟩
  have zW : w.heap.size < W.heap.size := by rw [hW]; simp
  have B0 : Below w.heap.size w W := by rw [hW]; exact (Below.refl _ _).alloc (Nat.le_refl _) _
  have q0 : W.heap[w.heap.size]? = some (.cells #[.int .i64 0, .slice none 0 0] 28 (0, 0)) := by rw [hW]; exact heap_alloc_new w _
  have e0 : W.cell? ⟨w.heap.size, 0, none⟩ = some (.int .i64 0) := by rw [cell_of_row _ _ 0 _ _ (0, 0) q0]; rfl
  have e1 : W.cell? ⟨w.heap.size, 1, none⟩ = some (.slice none 0 0) := by rw [cell_of_row _ _ 1 _ _ (0, 0) q0]; rfl
  have f0 : W.frozen? ⟨w.heap.size, 0, none⟩ = false := frozen_of_row _ _ 0 _ _ q0
  have f1 : W.frozen? ⟨w.heap.size, 1, none⟩ = false := frozen_of_row _ _ 1 _ _ q0
  have HA := Hid.mk (ha.below B0)
  have HP := Hid.mk (ha'.below B0)
  have HS := Hid.mk hs
  have HZ := Hid.mk hz
  have HB0 := Hid.mk B0
  have hln := hs.1
  have hn20 := hs.n
  have HLN := Hid.mk hln
  have KG := Hid.mk (implGoodParts a' n' c' zss C W hz (by omega) HP.out)
  clear q0 ha ha' hs hz B0 hln
  cases hg : gpB zss C with
  | false =>
    have HN : Hid (jpB l zss C = false) := by show _ = _; unfold jpB; rw [hg]; rfl
    go_enter Tryz.func9, Tryz.ntmps9
    go_wp2_with fail
    rw [← hW]
    clear hW
    refine KG.out.mono ?_
    rintro e w1 ⟨rfl, hb1⟩
    rw [hg]
    have f0 := frozen_later hb1 e0 f0
    have f1 := frozen_later hb1 e1 f1
    have e0 := cell_later hb1 e0
    have e1 := cell_later hb1 e1
    have HBW : Hid (Below w.heap.size w w1) := HB0.out.trans (hb1.mono HB0.out.size)
    clear hb1 KG hg
    go_wp2
    refine bodyPost_ret (v := .tuple #[.agg #[.int .i64 0, .slice none 0 0], .bool false]) (by simp [results, Tryz.results9, go_sem, e0, e1]) rfl ⟨TabAns.zero HN.out rfl, ?_⟩
    exact (HBW.out.setCell (by show w.heap.size ≤ w.heap.size; omega) _).setCell (by show w.heap.size ≤ w.heap.size; omega) _
  | true =>
  obtain ⟨q, rfl, hq1, hq6, hl1, hl8, hcls, hall⟩ := gpB_parts hg
  have HG := Hid.mk hg
  have HCL := Hid.mk hcls
  have HALL := Hid.mk hall
  have hn8 : n' ≤ 8 := by have := HZ.out; omega
  clear hg hcls hall hl1 hl8
  by_cases hnn : n = n'
  · subst hnn
    have HJB : Hid (jpB l zss (q : Int) = (tkB l zss n && jok q l zss n)) := by
      show _ = _
      unfold jpB
      rw [HG.out, HLN.out, HZ.out, decide_eq_true rfl, Int.toNat_natCast]; rfl
    have HJW : Hid (jpW l zss (q : Int) = jm q l zss n) := by show _ = _; unfold jpW; rw [HLN.out, Int.toNat_natCast]
    go_enter Tryz.func9, Tryz.ntmps9
    go_wp2_with fail
    rw [← hW]
    clear hW
    refine KG.out.mono ?_
    rintro e w1 ⟨rfl, hb1⟩
    rw [HG.out]
    have HB1 := Hid.mk hb1
    clear hb1 KG
    go_wp2_with fail
    go_loopw [29] (fun i wx => ∃ (k : Nat), k ≤ n ∧ i = .int .i64 k ∧ tkB l zss k = true ∧ Below W.heap.size W wx) (fun i _ => n - (intOf i).toNat)
    case atStart => exact ⟨0, Nat.zero_le _, rfl, rfl, HB1.out⟩
    case round =>
      clear HB1
      obtain ⟨k, hkn, rfl, htk, hbw⟩ := hrel
      have zw := hbw.size
      by_cases hlt : k < n
      · obtain ⟨b, off, hab, hc⟩ := (HA.out.below hbw).some (by have := HLN.out; omega)
        subst hab
        obtain ⟨a1, c1, hc0, hc1, hm1, hf1, ham⟩ := hc k (by have := HLN.out; omega)
        obtain ⟨zs, hzk⟩ : ∃ zs, zss[k]? = some zs := ⟨_, List.getElem?_eq_getElem (by have := HZ.out; omega)⟩
        have hgd : zss.getD k [] = zs := by simp [List.getD, hzk]
        obtain ⟨pb, poff, pa, pc, hpb, hpc, hpl, hpat⟩ := atS_row (HP.out.below hbw) hzk
        subst hpb
        have HSM := Hid.mk (HS.out.tab k (by omega))
        obtain ⟨ok, hok⟩ : ∃ ok, tl1 l zss k = ok := ⟨_, rfl⟩
        have HOK := Hid.mk hok
        have HOE : Hid ((goodT (tat l k).1 (tat l k).2 && (decide ((tat l k).1 = (zs.length : Int)) && oneB (tat l k).2)) = ok) := by
          show _ = _
          rw [← hok]; unfold tl1; rw [hgd]
        have HAM := Hid.mk ham
        obtain ⟨p1, hp1⟩ : ∃ p1, (tat l k).1 = p1 := ⟨_, rfl⟩
        obtain ⟨ts, hts⟩ : ∃ ts, (tat l k).2 = ts := ⟨_, rfl⟩
        rw [hp1] at hc0 HOE
        rw [hts] at hc1 HOE HAM HSM hm1
        obtain ⟨m1, hm1e⟩ : ∃ m1, ts.length = m1 := ⟨_, rfl⟩
        obtain ⟨pn, hpn⟩ : ∃ pn, zs.length = pn := ⟨_, rfl⟩
        rw [hm1e] at hc1 HSM hm1
        rw [hpn] at hpc HOE
        obtain ⟨W1, hW1⟩ : ∃ W1, W1 = wr.alloc (.cells #[.int .i64 p1, .slice a1 m1 c1] 28) := ⟨_, rfl⟩
        have b1 : Below wr.heap.size wr W1 := by rw [hW1]; exact (Below.refl _ _).alloc (Nat.le_refl _) _
        have t0 : W1.cell? ⟨wr.heap.size, 0, none⟩ = some (.int .i64 p1) := by rw [hW1]; exact pair0 _ _ _ _
        have t1 : W1.cell? ⟨wr.heap.size, 1, none⟩ = some (.slice a1 m1 c1) := by rw [hW1]; exact pair1 _ _ _ _
        have hpc1 := cell_later b1 hpc
        have KT := Hid.mk (tellsColumns_any a1 m1 c1 ts p1 pa pn pc W1.drew hm1e HSM.out.n ((HAM.out.below b1).below (Below.refl _ _).drew).atW)
        have HTK := Hid.mk htk
        have HBW1 : Hid (Below W.heap.size W W1) := hbw.trans (b1.mono hbw.size)
        have hki : (k : Int) < (n : Int) := by omega
        clear hc hm1 hf1 ham hzk hgd hpl hpat hok hp1 hts htk hbw b1 hm1e hpn
        go_wp2_with fail
        rw [← hW1]
        clear hW1 hc0 hc1
        refine wp_region_held_drew (S := fun w' => w'.cell? ⟨wr.heap.size, 0, none⟩ = some (.int .i64 p1) ∧ w'.cell? ⟨wr.heap.size, 1, none⟩ = some (.slice a1 m1 c1) ∧ w'.cell? ⟨pb, poff + k, none⟩ = some (.slice pa pn pc)) (by kernel_rfl) ?_ (fun hHeld => ?_)
        · (try dsimp only)
          exact ⟨t0, t1, hpc1⟩
        refine wpAnyH_take (i := 0) (oi := ?_) (v := ?_) ?_ (by kernel_rfl) (by kernel_rfl) (by kernel_rfl) ?_ (Or.inl ⟨?_, ?_⟩) (by assumption) ?_
        rotate_left 2
        · (simp only [List.getElem?_toArray, List.getElem?_cons_zero]; rfl)
        · exact fun _ _ _ h => h
        · rfl
        · (intro wS hSw; (try dsimp only at hSw); go_simp; (try with_reducible rfl))
        (try simp only [Act.put, List.setIfInBounds_toArray, List.set_cons_zero, List.set_cons_succ])
        refine wpAnyH_take (i := 1) (oi := ?_) (v := ?_) ?_ (by kernel_rfl) (by kernel_rfl) (by kernel_rfl) ?_ (Or.inl ⟨?_, ?_⟩) (by assumption) ?_
        rotate_left 2
        · (simp only [List.getElem?_toArray, List.getElem?_cons_zero, List.getElem?_cons_succ]; rfl)
        · exact fun _ _ _ h => h
        · rfl
        · (intro wS hSw; (try dsimp only at hSw); go_simp; (try with_reducible rfl))
        (try simp only [Act.put, List.setIfInBounds_toArray, List.set_cons_zero, List.set_cons_succ])
        refine wpAnyH_take (i := 2) (oi := ?_) (v := ?_) ?_ (by kernel_rfl) (by kernel_rfl) (by kernel_rfl) ?_ (Or.inl ⟨?_, ?_⟩) (by assumption) ?_
        rotate_left 2
        · (simp only [List.getElem?_toArray, List.getElem?_cons_zero, List.getElem?_cons_succ]; rfl)
        · exact fun _ _ _ h => h
        · rfl
        · (intro wS hSw; (try dsimp only at hSw); go_simp; (try with_reducible rfl))
        (try simp only [Act.put, List.setIfInBounds_toArray, List.set_cons_zero, List.set_cons_succ])
        refine wpAnyH_take (i := 3) (oi := ?_) (v := ?_) ?_ (by kernel_rfl) (by kernel_rfl) (by kernel_rfl) ?_ (Or.inl ⟨?_, ?_⟩) (by assumption) ?_
        rotate_left 2
        · (simp only [List.getElem?_toArray, List.getElem?_cons_zero, List.getElem?_cons_succ]; rfl)
        · exact fun _ _ _ h => h
        · rfl
        · (intro wS hSw; (try dsimp only at hSw); go_simp; (try with_reducible rfl))
        (try simp only [Act.put, List.setIfInBounds_toArray, List.set_cons_zero, List.set_cons_succ])
        refine wpAnyH_take (i := 4) (oi := ?_) (v := ?_) ?_ (by kernel_rfl) (by kernel_rfl) (by kernel_rfl) ?_ (Or.inl ⟨?_, ?_⟩) (by assumption) ?_
        rotate_left 2
        · (simp only [List.getElem?_toArray, List.getElem?_cons_zero, List.getElem?_cons_succ]; rfl)
        · exact fun _ _ _ h => h
        · rfl
        · (intro wS hSw; (try dsimp only at hSw); go_simp; (try with_reducible rfl))
        (try simp only [Act.put, List.setIfInBounds_toArray, List.set_cons_zero, List.set_cons_succ])
        refine wpAnyH_ready (rs := [5]) (by kernel_rfl) (by simp) ?_
        refine AllReadyH.cons (o := ?_) ?_ (fun K hK => ?_) AllReadyH.nil
        rotate_left
        · (simp only [List.getElem?_toArray, List.getElem?_cons_zero, List.getElem?_cons_succ]; rfl)
        go_simp
        go_at_call 28
        refine KT.out.mono ?_
        rintro e w5 ⟨rfl, hb5⟩
        rw [HOE.out]
        have t0 := cell_later (w := W1.drew) hb5 t0
        have t1 := cell_later (w := W1.drew) hb5 t1
        have hpc1 := cell_later (w := W1.drew) hb5 hpc1
        have HB5 : Hid (Below W.heap.size W w5) := HBW1.out.drew.trans (hb5.mono HBW1.out.size)
        clear hb5
        (try go_wp2_with fail)
        refine hK.out _ _ ?_ (fun hHeld' => ?_)
        · (try dsimp only)
          exact ⟨t0, t1, hpc1⟩
        clear hK K hHeld
        have hHeld := hHeld'
        clear hHeld'
        (try simp only [Act.put, List.setIfInBounds_toArray, List.set_cons_zero, List.set_cons_succ])
        refine wpAnyH_take (i := 6) (oi := ?_) (v := ?_) ?_ (by kernel_rfl) (by kernel_rfl) (by kernel_rfl) ?_ (Or.inl ⟨?_, ?_⟩) (by assumption) ?_
        rotate_left 2
        · (simp only [List.getElem?_toArray, List.getElem?_cons_zero, List.getElem?_cons_succ]; rfl)
        · exact fun _ _ _ h => h
        · rfl
        · (intro wS hSw; (try dsimp only at hSw); go_simp; (try with_reducible rfl))
        (try simp only [Act.put, List.setIfInBounds_toArray, List.set_cons_zero, List.set_cons_succ])
        refine wpAnyH_done (by kernel_rfl) ?_ _
        clear hHeld t0 t1 hpc1 hpc KT HBW1
        cases ok with
        | false =>
          have HN : Hid (jpB l zss (q : Int) = false) := by show _ = _; rw [HJB.out, tkB_no hlt HOK.out]; rfl
          have HBW : Hid (Below w.heap.size w w5) := HB0.out.trans (HB5.out.mono HB0.out.size)
          have f0 := frozen_later HB5.out e0 f0
          have f1 := frozen_later HB5.out e1 f1
          have e0 := cell_later HB5.out e0
          have e1 := cell_later HB5.out e1
          go_wp2
          refine bodyPost_ret (v := .tuple #[.agg #[.int .i64 0, .slice none 0 0], .bool false]) (by simp [results, Tryz.results9, go_sem, e0, e1]) rfl ⟨TabAns.zero HN.out rfl, ?_⟩
          exact (HBW.out.setCell (by show w.heap.size ≤ w.heap.size; omega) _).setCell (by show w.heap.size ≤ w.heap.size; omega) _
        | true =>
          go_wp2
          go_roundw
          case rel => exact ⟨k + 1, by omega, by go_num, by rw [tkB_succ, HTK.out, HOK.out]; rfl, HB5.out⟩
          case measure => simp [intOf]; omega
      · obtain rfl : k = n := by omega
        have hkk : ¬ (k : Int) < (k : Int) := by omega
        have HTK := Hid.mk htk
        have HBX := Hid.mk hbw
        have KN := Hid.mk (nothingJoined_any wr)
        clear htk hbw
        go_wp2_with fail
        refine KN.out.mono ?_
        rintro e w2 ⟨g, rfl, hat2, hb2⟩
        obtain ⟨W2, hW2⟩ : ∃ W2, W2 = w2.alloc (.cells #[.slice none 0 0, .int .i64 0, .slice (some ⟨g, 0, none⟩) 1 1] 60) := ⟨_, rfl⟩
        have b2 : Below w2.heap.size w2 W2 := by rw [hW2]; exact (Below.refl _ _).alloc (Nat.le_refl _) _
        obtain ⟨J, hJ⟩ : ∃ J, J = w2.heap.size := ⟨_, rfl⟩
        have HJ0 : Hid (W2.cell? ⟨J, 0, none⟩ = some (.slice none 0 0)) := by rw [hW2, hJ]; show _ = _; simp
        have HJ1 : Hid (W2.cell? ⟨J, 1, none⟩ = some (.int .i64 ((0 : Nat) : Int))) := by rw [hW2, hJ]; show _ = _; simp
        have HJ2 : Hid (W2.cell? ⟨J, 2, none⟩ = some (.slice (some ⟨g, 0, none⟩) 1 1)) := by rw [hW2, hJ]; show _ = _; simp
        have HF0 : Hid (W2.frozen? ⟨J, 0, none⟩ = false) := by rw [hW2, hJ]; show _ = _; simp
        have HF1 : Hid (W2.frozen? ⟨J, 1, none⟩ = false) := by rw [hW2, hJ]; show _ = _; simp
        have HF2 : Hid (W2.frozen? ⟨J, 2, none⟩ = false) := by rw [hW2, hJ]; show _ = _; simp
        have HK2 : Hid (Kp W2 J none [] (some ⟨g, 0, none⟩) [([], 1)]) := fun w'' h9 => ⟨.inl rfl, hat2 w'' (Off.below (b2.trans (h9.toBelow (Nat.le_of_eq hJ.symm) b2.size)))⟩
        have HB2 : Hid (Below W.heap.size W W2) := (HBX.out.trans (hb2.mono HBX.out.size)).trans (b2.mono (by have := HBX.out.size; have := hb2.size; omega))
        have hJW : W.heap.size ≤ J := by rw [hJ]; have := HBX.out.size; have := hb2.size; omega
        have hJl : J < W2.heap.size := by rw [hJ, hW2]; simp
        have HJL := Hid.mk hJl
        have HW2 := Hid.mk hW2
        have HJE := Hid.mk hJ
        clear hat2 hb2 b2 KN hW2 hJ hJl
        go_upto_region 10 with fail
        rw [← HW2.out, ← HJE.out]
        clear HW2 HJE
        go_wp2_with fail
        go_loopw [46] (fun i wx => ∃ (j : Nat) (cols : List Int) (T : List WRow) (r : Option Addr) (m d : Nat) (r2 : Option Addr) (m2 d2 : Nat), j ≤ k ∧ i = .int .i64 j ∧ JH q l zss j cols T ∧ jok q l zss j = true ∧ cols.length = m ∧ (r = none → d = 0) ∧ T.length = m2 ∧ wx.cell? ⟨J, 0, none⟩ = some (.slice r m d) ∧ wx.cell? ⟨J, 1, none⟩ = some (.int .i64 (m : Nat)) ∧ wx.cell? ⟨J, 2, none⟩ = some (.slice r2 m2 d2) ∧ wx.frozen? ⟨J, 0, none⟩ = false ∧ wx.frozen? ⟨J, 1, none⟩ = false ∧ wx.frozen? ⟨J, 2, none⟩ = false ∧ Kp wx J r cols r2 T ∧ J < wx.heap.size ∧ Below W.heap.size W wx) (fun i _ => k - (intOf i).toNat)
        case atStart => exact ⟨0, [], [([], 1)], none, 0, 0, some ⟨g, 0, none⟩, 1, 1, Nat.zero_le _, rfl, JH.start _ _ _, rfl, rfl, fun _ => rfl, rfl, HJ0.out, HJ1.out, HJ2.out, HF0.out, HF1.out, HF2.out, HK2.out, HJL.out, HB2.out⟩
        case round =>
          clear HJ0 HJ1 HJ2 HF0 HF1 HF2 HK2 HJL HB2 HBX
          obtain ⟨j, cols, T, r, m, d, r2, m2, d2, hjn, rfl, hjh, hjo, hcm, hrd, hTm, j0, j1, j2, x0, x1, x2, hkp, hJl, hbw⟩ := hrel
          have zw := hbw.size
          obtain ⟨hc6, hT60⟩ := hjh.len hq6
          by_cases hlt : j < k
          · obtain ⟨b, off, hab, hc⟩ := (HA.out.below hbw).some (by have := HLN.out; omega)
            subst hab
            obtain ⟨a1, c1, hc0, hc1, hm1, hf1, ham⟩ := hc j (by have := HLN.out; omega)
            obtain ⟨zs, hzk⟩ : ∃ zs, zss[j]? = some zs := ⟨_, List.getElem?_eq_getElem (by have := HZ.out; omega)⟩
            have hgd : zss.getD j [] = zs := by simp [List.getD, hzk]
            obtain ⟨pb, poff, pa, pc, hpb, hpc, hpl, hpat⟩ := atS_row (HP.out.below hbw) hzk
            subst hpb
            have hcz := HCL.out zs (List.mem_of_getElem? hzk)
            have hz6 := cls_le hcz hq6
            obtain ⟨g1, g2, g3⟩ := hjh.step hq6 (by rw [hgd]; exact hcz) (tkB_at HTK.out hlt)
            rw [hgd, hcm] at g1 g2
            rw [hgd] at g3
            have hsm := HS.out.tab j (by omega)
            obtain ⟨p1, hp1⟩ : ∃ p1, (tat l j).1 = p1 := ⟨_, rfl⟩
            obtain ⟨ts, hts⟩ : ∃ ts, (tat l j).2 = ts := ⟨_, rfl⟩
            rw [hp1] at hc0 g1 g2
            rw [hts] at hc1 ham hsm hm1 g1 g3
            obtain ⟨m1, hm1e⟩ : ∃ m1, ts.length = m1 := ⟨_, rfl⟩
            obtain ⟨pn, hpn⟩ : ∃ pn, zs.length = pn := ⟨_, rfl⟩
            rw [hm1e] at hc1 hsm
            rw [hpn] at hpc hz6
            have hm6 : m ≤ 6 := by omega
            have hm60 : m2 ≤ 60 := by omega
            have hs20 := hsm.n
            obtain ⟨ok, hok⟩ : ∃ ok, joinB (m : Int) p1 T ts (prs cols zs) = ok := ⟨_, rfl⟩
            obtain ⟨cols', hcE⟩ : ∃ cols', cols ++ newC cols zs = cols' := ⟨_, rfl⟩
            obtain ⟨T', hTE⟩ : ∃ T', joinW T ts (prs cols zs) = T' := ⟨_, rfl⟩
            have KW : Hid (∀ v, Below wr.heap.size wr v → Calls Tryz.prog 30 #[.agg #[.slice r m d, .int .i64 (m : Nat), .slice r2 m2 d2], .agg #[.int .i64 p1, .slice a1 m1 c1], .slice pa pn pc] v fun e w' => WithRet e w' v.heap.size ok cols' cols'.length T' ∧ Below v.heap.size v w') := by
              intro v hv
              have h9 := with_any r m d cols (m : Int) r2 m2 d2 T p1 a1 m1 c1 ts pa pn pc zs v hcm hm6 hrd (hkp.below hv).here.1 hTm (by omega) (hkp.below hv).here.2 hm1e hs20 (ham.below hv) hpn hz6 (At.below hpat hv)
              rw [hok, g2, hcE, hTE] at h9
              exact h9
            rw [hok] at g1
            rw [hcE, hTE] at g3
            have HG1 := Hid.mk g1
            have HG3 := Hid.mk g3
            have HJO := Hid.mk hjo
            obtain ⟨W1, hW1⟩ : ∃ W1, W1 = wr.alloc (.cells #[.int .i64 p1, .slice a1 m1 c1] 28) := ⟨_, rfl⟩
            have b1 : Below wr.heap.size wr W1 := by rw [hW1]; exact (Below.refl _ _).alloc (Nat.le_refl _) _
            have t0 : W1.cell? ⟨wr.heap.size, 0, none⟩ = some (.int .i64 p1) := by rw [hW1]; exact pair0 _ _ _ _
            have t1 : W1.cell? ⟨wr.heap.size, 1, none⟩ = some (.slice a1 m1 c1) := by rw [hW1]; exact pair1 _ _ _ _
            have z1 : wr.heap.size < W1.heap.size := by rw [hW1]; simp
            have hpc1 := cell_later b1 hpc
            have i0 := cell_later b1 j0
            have i1 := cell_later b1 j1
            have i2 := cell_later b1 j2
            have HBW := Hid.mk hbw
            have HB1 := Hid.mk b1
            have hpbl := World.block_lt_of_cell? _ _ hpc
            simp only at hpbl
            have hki : (j : Int) < (k : Int) := by omega
            clear hc hm1 hf1 ham hzk hgd hpl hpat hjh hjo hcz g1 g2 g3 hp1 hts hsm hok hcE hTE hm1e hpn hrd hkp hbw b1 hcm hTm hc6 hT60 hs20 hm60
            go_upto_region 13 with fail
            rw [← hW1]
            clear hW1 hc0 hc1
            go_cut [13, 14] from 48 to 65 (fun ta tb wx => ∃ (B : Nat) (r5 : Option Addr) (m5 d5 : Nat) (r6 : Option Addr) (m6 d6 : Nat) (P5 : Int), ta = .pointer (some ⟨B, 0, none⟩) ∧ tb = .bool ok ∧ wx.cell? ⟨B, 0, none⟩ = some (.slice r5 m5 d5) ∧ wx.cell? ⟨B, 1, none⟩ = some (.int .i64 P5) ∧ wx.cell? ⟨B, 2, none⟩ = some (.slice r6 m6 d6) ∧ (ok = true → cols'.length = m5 ∧ (r5 = none → d5 = 0) ∧ P5 = (m5 : Int) ∧ T'.length = m6 ∧ Kp wx J r5 cols' r6 T') ∧ J < B ∧ Below wr.heap.size wr wx)
            case first =>

              refine wp_region_held_drew (S := fun w' => w'.cell? ⟨J, 0, none⟩ = some (.slice r m d) ∧ w'.cell? ⟨J, 1, none⟩ = some (.int .i64 (m : Nat)) ∧ w'.cell? ⟨J, 2, none⟩ = some (.slice r2 m2 d2) ∧ w'.cell? ⟨wr.heap.size, 0, none⟩ = some (.int .i64 p1) ∧ w'.cell? ⟨wr.heap.size, 1, none⟩ = some (.slice a1 m1 c1) ∧ w'.cell? ⟨pb, poff + j, none⟩ = some (.slice pa pn pc)) (by kernel_rfl) ?_ (fun hHeld => ?_)
              · (try dsimp only)
                exact ⟨i0, i1, i2, t0, t1, hpc1⟩
              refine wpAnyH_take (i := 0) (oi := ?_) (v := ?_) ?_ (by kernel_rfl) (by kernel_rfl) (by kernel_rfl) ?_ (Or.inl ⟨?_, ?_⟩) (by assumption) ?_
              rotate_left 2
              · (simp only [List.getElem?_toArray, List.getElem?_cons_zero]; rfl)
              · exact fun _ _ _ h => h
              · rfl
              · (intro wS hSw; (try dsimp only at hSw); go_simp; (try with_reducible rfl))
              (try simp only [Act.put, List.setIfInBounds_toArray, List.set_cons_zero, List.set_cons_succ])
              refine wpAnyH_take (i := 1) (oi := ?_) (v := ?_) ?_ (by kernel_rfl) (by kernel_rfl) (by kernel_rfl) ?_ (Or.inl ⟨?_, ?_⟩) (by assumption) ?_
              rotate_left 2
              · (simp only [List.getElem?_toArray, List.getElem?_cons_zero, List.getElem?_cons_succ]; rfl)
              · exact fun _ _ _ h => h
              · rfl
              · (intro wS hSw; (try dsimp only at hSw); go_simp; (try with_reducible rfl))
              (try simp only [Act.put, List.setIfInBounds_toArray, List.set_cons_zero, List.set_cons_succ])
              refine wpAnyH_take (i := 2) (oi := ?_) (v := ?_) ?_ (by kernel_rfl) (by kernel_rfl) (by kernel_rfl) ?_ (Or.inl ⟨?_, ?_⟩) (by assumption) ?_
              rotate_left 2
              · (simp only [List.getElem?_toArray, List.getElem?_cons_zero, List.getElem?_cons_succ]; rfl)
              · exact fun _ _ _ h => h
              · rfl
              · (intro wS hSw; (try dsimp only at hSw); go_simp; (try with_reducible rfl))
              (try simp only [Act.put, List.setIfInBounds_toArray, List.set_cons_zero, List.set_cons_succ])
              refine wpAnyH_take (i := 3) (oi := ?_) (v := ?_) ?_ (by kernel_rfl) (by kernel_rfl) (by kernel_rfl) ?_ (Or.inl ⟨?_, ?_⟩) (by assumption) ?_
              rotate_left 2
              · (simp only [List.getElem?_toArray, List.getElem?_cons_zero, List.getElem?_cons_succ]; rfl)
              · exact fun _ _ _ h => h
              · rfl
              · (intro wS hSw; (try dsimp only at hSw); go_simp; (try with_reducible rfl))
              (try simp only [Act.put, List.setIfInBounds_toArray, List.set_cons_zero, List.set_cons_succ])
              refine wpAnyH_take (i := 4) (oi := ?_) (v := ?_) ?_ (by kernel_rfl) (by kernel_rfl) (by kernel_rfl) ?_ (Or.inl ⟨?_, ?_⟩) (by assumption) ?_
              rotate_left 2
              · (simp only [List.getElem?_toArray, List.getElem?_cons_zero, List.getElem?_cons_succ]; rfl)
              · exact fun _ _ _ h => h
              · rfl
              · (intro wS hSw; (try dsimp only at hSw); go_simp; (try with_reducible rfl))
              (try simp only [Act.put, List.setIfInBounds_toArray, List.set_cons_zero, List.set_cons_succ])
              refine wpAnyH_take (i := 5) (oi := ?_) (v := ?_) ?_ (by kernel_rfl) (by kernel_rfl) (by kernel_rfl) ?_ (Or.inl ⟨?_, ?_⟩) (by assumption) ?_
              rotate_left 2
              · (simp only [List.getElem?_toArray, List.getElem?_cons_zero, List.getElem?_cons_succ]; rfl)
              · exact fun _ _ _ h => h
              · rfl
              · (intro wS hSw; (try dsimp only at hSw); go_simp; (try with_reducible rfl))
              (try simp only [Act.put, List.setIfInBounds_toArray, List.set_cons_zero, List.set_cons_succ])
              obtain ⟨u0, hu0⟩ : ∃ u, u = W1.drew := ⟨_, rfl⟩
              have Y0 : Below W1.heap.size W1 u0 := by rw [hu0]; exact (Below.refl _ _).drew
              have zu : u0.heap.size = W1.heap.size := by rw [hu0]; rfl
              rw [← hu0]
              clear hu0
              have i0 := cell_later Y0 i0
              have i1 := cell_later Y0 i1
              have i2 := cell_later Y0 i2
              have t0 := cell_later Y0 t0
              have t1 := cell_later Y0 t1
              have hpc1 := cell_later Y0 hpc1
              have HU := Hid.mk (HB1.out.trans (Y0.mono HB1.out.size))
              have HZU := Hid.mk zu
              have zu1 : wr.heap.size < u0.heap.size := by omega
              clear Y0 zu
              refine wpAnyH_ready (rs := [6, 10]) (by kernel_rfl) (by simp) ?_
              refine AllReadyH.cons (o := ?_) ?_ (fun K hK => ?_) ?_
              rotate_left
              · (simp only [List.getElem?_toArray, List.getElem?_cons_zero, List.getElem?_cons_succ]; rfl)
              · go_simp
                go_at_call 30
                refine (KW.out _ HU.out).mono ?_
                rintro e w5 ⟨⟨r5, m5, d5, r6, m6, d6, P5, rfl, hw5⟩, hb5⟩
                have i0 := cell_later hb5 i0
                have i1 := cell_later hb5 i1
                have i2 := cell_later hb5 i2
                have t0 := cell_later hb5 t0
                have t1 := cell_later hb5 t1
                have hpc1 := cell_later hb5 hpc1
                have HW5 := Hid.mk hw5
                have HB5 := Hid.mk (HU.out.trans (hb5.mono HU.out.size))
                have z5 := hb5.size
                clear hw5 hb5
                (try go_wp2_with fail)
                refine hK.out _ _ ?_ (fun hHeld' => ?_)
                · (try dsimp only)
                  exact ⟨i0, i1, i2, t0, t1, hpc1⟩
                clear hK K hHeld
                have hHeld := hHeld'
                clear hHeld'
                (try simp only [Act.put, List.setIfInBounds_toArray, List.set_cons_zero, List.set_cons_succ])
                refine wpAnyH_take (i := 7) (oi := ?_) (v := ?_) ?_ (by kernel_rfl) (by kernel_rfl) (by kernel_rfl) ?_ (Or.inl ⟨?_, ?_⟩) (by assumption) ?_
                rotate_left 2
                · (simp only [List.getElem?_toArray, List.getElem?_cons_zero, List.getElem?_cons_succ]; rfl)
                · exact fun _ _ _ h => h
                · rfl
                · (intro wS hSw; (try dsimp only at hSw); go_simp; (try with_reducible rfl))
                (try simp only [Act.put, List.setIfInBounds_toArray, List.set_cons_zero, List.set_cons_succ])
                refine wpAnyH_take (i := 8) (oi := ?_) (v := ?_) ?_ (by kernel_rfl) (by kernel_rfl) (by kernel_rfl) ?_ (Or.inl ⟨?_, ?_⟩) (by assumption) ?_
                rotate_left 2
                · (simp only [List.getElem?_toArray, List.getElem?_cons_zero, List.getElem?_cons_succ]; rfl)
                · exact fun _ _ _ h => h
                · rfl
                · (intro wS hSw; (try dsimp only at hSw); go_simp; (try with_reducible rfl))
                (try simp only [Act.put, List.setIfInBounds_toArray, List.set_cons_zero, List.set_cons_succ])
                refine wpAnyH_take (i := 9) (oi := ?_) (v := ?_) ?_ (by kernel_rfl) (by kernel_rfl) (by kernel_rfl) ?_ (Or.inl ⟨?_, ?_⟩) (by assumption) ?_
                rotate_left 2
                · (simp only [List.getElem?_toArray, List.getElem?_cons_zero, List.getElem?_cons_succ]; rfl)
                · exact fun _ _ _ h => h
                · rfl
                · (intro wS hSw; (try dsimp only at hSw); go_simp; (try with_reducible rfl))
                (try simp only [Act.put, List.setIfInBounds_toArray, List.set_cons_zero, List.set_cons_succ])
                refine wpAnyH_ready (rs := [10]) (by kernel_rfl) (by simp) ?_
                refine AllReadyH.cons (o := ?_) ?_ (fun K hK => ?_) AllReadyH.nil
                rotate_left
                · (simp only [List.getElem?_toArray, List.getElem?_cons_zero, List.getElem?_cons_succ]; rfl)
                go_simp
                skip
                (try go_wp2_with fail)
                refine hK.out _ _ ?_ (fun hHeld' => ?_)
                · (try dsimp only)
                  exact ⟨cell_later ((Below.refl _ _).alloc (Nat.le_refl _) _) i0, cell_later ((Below.refl _ _).alloc (Nat.le_refl _) _) i1, cell_later ((Below.refl _ _).alloc (Nat.le_refl _) _) i2, cell_later ((Below.refl _ _).alloc (Nat.le_refl _) _) t0, cell_later ((Below.refl _ _).alloc (Nat.le_refl _) _) t1, cell_later ((Below.refl _ _).alloc (Nat.le_refl _) _) hpc1⟩
                clear hK K hHeld
                have hHeld := hHeld'
                clear hHeld'
                (try simp only [Act.put, List.setIfInBounds_toArray, List.set_cons_zero, List.set_cons_succ])
                refine wpAnyH_ready (rs := [11]) (by kernel_rfl) (by simp) ?_
                refine AllReadyH.cons (o := ?_) ?_ (fun K hK => ?_) AllReadyH.nil
                rotate_left
                · (simp only [List.getElem?_toArray, List.getElem?_cons_zero, List.getElem?_cons_succ]; rfl)
                go_simp
                skip
                (try go_wp2_with fail)
                refine hK.out _ _ ?_ (fun hHeld' => ?_)
                · (try dsimp only)
                  exact ⟨cell_later ((Below.refl _ _).alloc (Nat.le_refl _) _) i0, cell_later ((Below.refl _ _).alloc (Nat.le_refl _) _) i1, cell_later ((Below.refl _ _).alloc (Nat.le_refl _) _) i2, cell_later ((Below.refl _ _).alloc (Nat.le_refl _) _) t0, cell_later ((Below.refl _ _).alloc (Nat.le_refl _) _) t1, cell_later ((Below.refl _ _).alloc (Nat.le_refl _) _) hpc1⟩
                clear hK K hHeld
                have hHeld := hHeld'
                clear hHeld'
                (try simp only [Act.put, List.setIfInBounds_toArray, List.set_cons_zero, List.set_cons_succ])
                refine wpAnyH_take (i := 12) (oi := ?_) (v := ?_) ?_ (by kernel_rfl) (by kernel_rfl) (by kernel_rfl) ?_ (Or.inl ⟨?_, ?_⟩) (by assumption) ?_
                rotate_left 2
                · (simp only [List.getElem?_toArray, List.getElem?_cons_zero, List.getElem?_cons_succ]; rfl)
                · exact fun _ _ _ h => h
                · rfl
                · (intro wS hSw; (try dsimp only at hSw); go_simp; (try with_reducible rfl))
                (try simp only [Act.put, List.setIfInBounds_toArray, List.set_cons_zero, List.set_cons_succ])
                refine wpAnyH_done (by kernel_rfl) ?_ _
                (try go_wp2_with fail)
                go_meet
                case rel =>
                  refine ⟨w5.heap.size, r5, m5, d5, r6, m6, d6, P5, rfl, rfl, by simp, by simp, by simp, fun h9 => ?_, by omega, HB5.out.alloc (by omega) _⟩
                  obtain ⟨y1, y2, y3, y4, y5⟩ := HW5.out h9
                  exact ⟨y1, y2, by rw [y3, y1], y4, fun w'' h8 => y5 w'' ((Off.below ((Below.refl _ _).alloc (Nat.le_refl _) _)).trans (h8.mono fun b hb => ⟨Nat.zero_le _, by have := hb.2; omega⟩))⟩
              refine AllReadyH.cons (o := ?_) ?_ (fun K hK => ?_) AllReadyH.nil
              rotate_left
              · (simp only [List.getElem?_toArray, List.getElem?_cons_zero, List.getElem?_cons_succ]; rfl)
              · go_simp
                (try go_wp2_with fail)
                refine hK.out _ _ ?_ (fun hHeld' => ?_)
                · (try dsimp only)
                  exact ⟨cell_later ((Below.refl _ _).alloc (Nat.le_refl _) _) i0, cell_later ((Below.refl _ _).alloc (Nat.le_refl _) _) i1, cell_later ((Below.refl _ _).alloc (Nat.le_refl _) _) i2, cell_later ((Below.refl _ _).alloc (Nat.le_refl _) _) t0, cell_later ((Below.refl _ _).alloc (Nat.le_refl _) _) t1, cell_later ((Below.refl _ _).alloc (Nat.le_refl _) _) hpc1⟩
                clear hK K hHeld
                have hHeld := hHeld'
                clear hHeld'
                (try simp only [Act.put, List.setIfInBounds_toArray, List.set_cons_zero, List.set_cons_succ])
                obtain ⟨v1, hv1⟩ : ∃ u, u = u0.alloc (.cells #[.slice none 0 0, .int .i64 0, .slice none 0 0] 60) := ⟨_, rfl⟩
                have hb1 : Below u0.heap.size u0 v1 := by rw [hv1]; exact (Below.refl _ _).alloc (Nat.le_refl _) _
                have hp1 : v1.heap[u0.heap.size]? = some (.cells #[.slice none 0 0, .int .i64 0, .slice none 0 0] 60 (0, 0)) := by rw [hv1]; exact heap_alloc_new _ _
                have zv : u0.heap.size < v1.heap.size := by rw [hv1]; simp
                rw [← hv1]
                clear hv1
                have i0 := cell_later hb1 i0
                have i1 := cell_later hb1 i1
                have i2 := cell_later hb1 i2
                have t0 := cell_later hb1 t0
                have t1 := cell_later hb1 t1
                have hpc1 := cell_later hb1 hpc1
                have HU1 := Hid.mk (HU.out.trans (hb1.mono HU.out.size))
                have HP1 := Hid.mk hp1
                clear hb1 hp1
                refine wpAnyH_ready (rs := [6]) (by kernel_rfl) (by simp) ?_
                refine AllReadyH.cons (o := ?_) ?_ (fun K hK => ?_) AllReadyH.nil
                rotate_left
                · (simp only [List.getElem?_toArray, List.getElem?_cons_zero, List.getElem?_cons_succ]; rfl)
                go_simp
                go_at_call 30
                refine (KW.out _ HU1.out).mono ?_
                rintro e w5 ⟨⟨r5, m5, d5, r6, m6, d6, P5, rfl, hw5⟩, hb5⟩
                have i0 := cell_later hb5 i0
                have i1 := cell_later hb5 i1
                have i2 := cell_later hb5 i2
                have t0 := cell_later hb5 t0
                have t1 := cell_later hb5 t1
                have hpc1 := cell_later hb5 hpc1
                have HW5 := Hid.mk hw5
                have HB5 := Hid.mk (HU1.out.trans (hb5.mono HU1.out.size))
                have z5 := hb5.size
                have hp5 := (hb5.block _ zv).trans HP1.out
                have g0 : w5.cell? ⟨u0.heap.size, 0, none⟩ = some (.slice none 0 0) := by rw [cell_of_row _ _ 0 _ _ (0, 0) hp5]; rfl
                have g1 : w5.cell? ⟨u0.heap.size, 1, none⟩ = some (.int .i64 0) := by rw [cell_of_row _ _ 1 _ _ (0, 0) hp5]; rfl
                have g2 : w5.cell? ⟨u0.heap.size, 2, none⟩ = some (.slice none 0 0) := by rw [cell_of_row _ _ 2 _ _ (0, 0) hp5]; rfl
                have y0 : w5.frozen? ⟨u0.heap.size, 0, none⟩ = false := frozen_of_row _ _ 0 _ _ hp5
                have y1 : w5.frozen? ⟨u0.heap.size, 1, none⟩ = false := frozen_of_row _ _ 1 _ _ hp5
                have y2 : w5.frozen? ⟨u0.heap.size, 2, none⟩ = false := frozen_of_row _ _ 2 _ _ hp5
                clear hw5 hb5 hp5
                (try go_wp2_with fail)
                refine hK.out _ _ ?_ (fun hHeld' => ?_)
                · (try dsimp only)
                  exact ⟨i0, i1, i2, t0, t1, hpc1⟩
                clear hK K hHeld
                have hHeld := hHeld'
                clear hHeld'
                (try simp only [Act.put, List.setIfInBounds_toArray, List.set_cons_zero, List.set_cons_succ])
                refine wpAnyH_take (i := 7) (oi := ?_) (v := ?_) ?_ (by kernel_rfl) (by kernel_rfl) (by kernel_rfl) ?_ (Or.inl ⟨?_, ?_⟩) (by assumption) ?_
                rotate_left 2
                · (simp only [List.getElem?_toArray, List.getElem?_cons_zero, List.getElem?_cons_succ]; rfl)
                · exact fun _ _ _ h => h
                · rfl
                · (intro wS hSw; (try dsimp only at hSw); go_simp; (try with_reducible rfl))
                (try simp only [Act.put, List.setIfInBounds_toArray, List.set_cons_zero, List.set_cons_succ])
                refine wpAnyH_take (i := 8) (oi := ?_) (v := ?_) ?_ (by kernel_rfl) (by kernel_rfl) (by kernel_rfl) ?_ (Or.inl ⟨?_, ?_⟩) (by assumption) ?_
                rotate_left 2
                · (simp only [List.getElem?_toArray, List.getElem?_cons_zero, List.getElem?_cons_succ]; rfl)
                · exact fun _ _ _ h => h
                · rfl
                · (intro wS hSw; (try dsimp only at hSw); go_simp; (try with_reducible rfl))
                (try simp only [Act.put, List.setIfInBounds_toArray, List.set_cons_zero, List.set_cons_succ])
                refine wpAnyH_take (i := 9) (oi := ?_) (v := ?_) ?_ (by kernel_rfl) (by kernel_rfl) (by kernel_rfl) ?_ (Or.inl ⟨?_, ?_⟩) (by assumption) ?_
                rotate_left 2
                · (simp only [List.getElem?_toArray, List.getElem?_cons_zero, List.getElem?_cons_succ]; rfl)
                · exact fun _ _ _ h => h
                · rfl
                · (intro wS hSw; (try dsimp only at hSw); go_simp; (try with_reducible rfl))
                (try simp only [Act.put, List.setIfInBounds_toArray, List.set_cons_zero, List.set_cons_succ])
                refine wpAnyH_ready (rs := [11]) (by kernel_rfl) (by simp) ?_
                refine AllReadyH.cons (o := ?_) ?_ (fun K hK => ?_) AllReadyH.nil
                rotate_left
                · (simp only [List.getElem?_toArray, List.getElem?_cons_zero, List.getElem?_cons_succ]; rfl)
                go_simp
                skip
                (try go_wp2_with fail)
                refine hK.out _ _ ?_ (fun hHeld' => ?_)
                · (try dsimp only)
                  exact ⟨keep_far (keep_far (keep_far i0 (by omega)) (by omega)) (by omega), keep_far (keep_far (keep_far i1 (by omega)) (by omega)) (by omega), keep_far (keep_far (keep_far i2 (by omega)) (by omega)) (by omega), keep_far (keep_far (keep_far t0 (by omega)) (by omega)) (by omega), keep_far (keep_far (keep_far t1 (by omega)) (by omega)) (by omega), keep_far (keep_far (keep_far hpc1 (by omega)) (by omega)) (by omega)⟩
                clear hK K hHeld
                have hHeld := hHeld'
                clear hHeld'
                (try simp only [Act.put, List.setIfInBounds_toArray, List.set_cons_zero, List.set_cons_succ])
                refine wpAnyH_take (i := 12) (oi := ?_) (v := ?_) ?_ (by kernel_rfl) (by kernel_rfl) (by kernel_rfl) ?_ (Or.inl ⟨?_, ?_⟩) (by assumption) ?_
                rotate_left 2
                · (simp only [List.getElem?_toArray, List.getElem?_cons_zero, List.getElem?_cons_succ]; rfl)
                · exact fun _ _ _ h => h
                · rfl
                · (intro wS hSw; (try dsimp only at hSw); go_simp; (try with_reducible rfl))
                (try simp only [Act.put, List.setIfInBounds_toArray, List.set_cons_zero, List.set_cons_succ])
                refine wpAnyH_done (by kernel_rfl) ?_ _
                (try go_wp2_with fail)
                go_meet
                case rel =>
                  have hof : Off (From 0 v1.heap.size) w5 (((w5.setCell ⟨u0.heap.size, 0, none⟩ (.slice r5 m5 d5)).setCell ⟨u0.heap.size, 1, none⟩ (.int .i64 P5)).setCell ⟨u0.heap.size, 2, none⟩ (.slice r6 m6 d6)) :=
                    ((Off.set (by exact ⟨Nat.zero_le _, zv⟩) _).trans (Off.set (by exact ⟨Nat.zero_le _, zv⟩) _)).trans (Off.set (by exact ⟨Nat.zero_le _, zv⟩) _)
                  refine ⟨u0.heap.size, r5, m5, d5, r6, m6, d6, P5, rfl, rfl, by simp [go_sem, g0], by simp [go_sem, g1], by simp [go_sem, g2], fun h9 => ?_, by omega, ((HB5.out.setCell (by show wr.heap.size ≤ u0.heap.size; omega) _).setCell (by show wr.heap.size ≤ u0.heap.size; omega) _).setCell (by show wr.heap.size ≤ u0.heap.size; omega) _⟩
                  obtain ⟨y1, y2, y3, y4, y5⟩ := HW5.out h9
                  exact ⟨y1, y2, by rw [y3, y1], y4, fun w'' h8 => y5 w'' (hof.trans (h8.mono fun b hb => ⟨Nat.zero_le _, by have := hb.2; omega⟩))⟩
            case rest =>
              obtain ⟨B, r5, m5, d5, r6, m6, d6, P5, rfl, rfl, g0, g1, g2, hok5, hJB, hb3⟩ := hcut
              obtain ⟨w3, rfl⟩ : ∃ x, x = wc := ⟨_, rfl⟩
              have HB3 : Hid (Below W.heap.size W w3) := HBW.out.trans (hb3.mono HBW.out.size)
              clear i0 i1 i2 t0 t1 hpc1 hpc KW
              cases ok with
              | false =>
                have HN : Hid (jpB l zss (q : Int) = false) := by show _ = _; rw [HJB.out, jok_no hlt (of_decide_eq_false HG1.out.symm)]; simp
                have HBW : Hid (Below w.heap.size w w3) := HB0.out.trans (HB3.out.mono HB0.out.size)
                have f0 := frozen_later HB3.out e0 f0
                have f1 := frozen_later HB3.out e1 f1
                have e0 := cell_later HB3.out e0
                have e1 := cell_later HB3.out e1
                clear hok5 hb3 HG1 HG3
                go_wp2
                refine bodyPost_ret (v := .tuple #[.agg #[.int .i64 0, .slice none 0 0], .bool false]) (by simp [results, Tryz.results9, go_sem, e0, e1]) rfl ⟨TabAns.zero HN.out rfl, ?_⟩
                exact (HBW.out.setCell (by show w.heap.size ≤ w.heap.size; omega) _).setCell (by show w.heap.size ≤ w.heap.size; omega) _
              | true =>
                obtain ⟨y1, y2, rfl, y4, y5⟩ := hok5 rfl
                have h60 := of_decide_eq_true HG1.out.symm
                have HJH := Hid.mk (HG3.out h60)
                have HJO' : Hid (jok q l zss (j + 1) = true) := by show _ = _; rw [jok_succ, HJO.out, decide_eq_true h60]; rfl
                have x0 := frozen_later hb3 j0 x0
                have x1 := frozen_later hb3 j1 x1
                have x2 := frozen_later hb3 j2 x2
                have j0 := cell_later hb3 j0
                have j1 := cell_later hb3 j1
                have j2 := cell_later hb3 j2
                have z3 := hb3.size
                have HY1 := Hid.mk y1
                have HY2 := Hid.mk y2
                have HY4 := Hid.mk y4
                have HY5 := Hid.mk y5
                clear hok5 hb3 HG1 HG3 h60 y1 y2 y4 y5
                go_wp2
                go_roundw
                case rel =>
                  have hof : Off (From J (J + 1)) w3 (((w3.setCell ⟨J, 0, none⟩ (.slice r5 m5 d5)).setCell ⟨J, 1, none⟩ (.int .i64 (m5 : Nat))).setCell ⟨J, 2, none⟩ (.slice r6 m6 d6)) :=
                    ((Off.set (by exact ⟨Nat.le_refl _, Nat.lt_succ_self _⟩) _).trans (Off.set (by exact ⟨Nat.le_refl _, Nat.lt_succ_self _⟩) _)).trans (Off.set (by exact ⟨Nat.le_refl _, Nat.lt_succ_self _⟩) _)
                  exact ⟨j + 1, cols', T', r5, m5, d5, r6, m6, d6, by omega, by go_num, HJH.out, HJO'.out, HY1.out, HY2.out, HY4.out, by simp [go_sem, j0], by simp [go_sem, j1], by simp [go_sem, j2], by simp [go_sem, x0], by simp [go_sem, x1], by simp [go_sem, x2], HY5.out.off hof, by have := hof.size; omega, HB3.out.trans (hof.toBelow hJW (by omega))⟩
                case measure => simp [intOf]; omega
          · obtain rfl : j = k := by omega
            have hkk : ¬ (j : Int) < (j : Int) := by omega
            have hal := hjh.all (by have := HZ.out; omega) HALL.out
            obtain ⟨v1, v2, v3, v4⟩ := hjh.1.end hq6 hal
            have hcq := cls_full hjh.1.cls hal
            have hmq : m = q := by omega
            subst hmq
            rw [hcm] at v1
            have KI := Hid.mk (inOrderJ_any r m d cols (m : Int) r2 m2 d2 T wr hcm hq6 hkp.here.1 hjh.1.cls.1 hjh.1.cls.2 hal hTm (by omega) hkp.here.2)
            rw [v1, v2, v4] at KI
            have HYES : Hid (jpB l zss (m : Int) = true) := by show _ = _; rw [HJB.out, HTK.out, hjo]; rfl
            have HBW : Hid (Below w.heap.size w wr) := HB0.out.trans (hbw.mono HB0.out.size)
            have f0 := frozen_later hbw e0 f0
            have f1 := frozen_later hbw e1 f1
            have e0 := cell_later hbw e0
            have e1 := cell_later hbw e1
            clear hal v1 v2 v3 v4 hcq hjh hjo hcm hrd hTm hkp hbw hc6 hT60
            go_wp2_with fail
            refine KI.out.mono ?_
            rintro e w3 ⟨⟨r3, m3, d3, cells3, rfl, ho3⟩, hb3⟩
            have f0 := frozen_later hb3 e0 f0
            have f1 := frozen_later hb3 e1 f1
            have e0 := cell_later hb3 e0
            have e1 := cell_later hb3 e1
            have HO3 := Hid.mk ho3
            have HB3 := Hid.mk hb3
            have z3 := hb3.size
            obtain ⟨P1, hP1⟩ : ∃ P1, ansP true (m : Int) = P1 := ⟨_, rfl⟩
            have HP1 := Hid.mk hP1
            rw [hP1]
            clear KI ho3 hb3 hP1
            go_wp2
            have hof : Off (From w.heap.size (w.heap.size + 1)) w3 ((w3.setCell ⟨w.heap.size, 0, none⟩ (.int .i64 P1)).setCell ⟨w.heap.size, 1, none⟩ (.slice r3 m3 d3)) :=
              (Off.set (by exact ⟨Nat.le_refl _, Nat.lt_succ_self _⟩) _).trans (Off.set (by exact ⟨Nat.le_refl _, Nat.lt_succ_self _⟩) _)
            refine bodyPost_ret (v := .tuple #[.agg #[.int .i64 P1, .slice r3 m3 d3], .bool true]) (by simp [results, Tryz.results9, go_sem, e0, e1]) rfl ⟨?_, ?_⟩
            · rw [HYES.out, HJW.out]
              refine ⟨r3, m3, d3, cells3, by rw [HP1.out], ?_⟩
              have h9 := HO3.out.apartW hof.apart (.inr (by omega))
              exact h9.widen (by have := HBW.out.size; omega) (by simp) (Nat.le_refl _)
            · exact (HBW.out.trans (HB3.out.mono HBW.out.size)).trans (hof.toBelow (Nat.le_refl _) (by omega))
  · have hnn' : ¬ (n : Int) = (n' : Int) := by omega
    have HN : Hid (jpB l zss (q : Int) = false) := by
      show _ = _
      unfold jpB
      rw [HG.out, HLN.out, HZ.out, decide_eq_false hnn]; rfl
    go_enter Tryz.func9, Tryz.ntmps9
    go_wp2_with fail
    rw [← hW]
    clear hW
    refine KG.out.mono ?_
    rintro e w1 ⟨rfl, hb1⟩
    rw [HG.out]
    have f0 := frozen_later hb1 e0 f0
    have f1 := frozen_later hb1 e1 f1
    have e0 := cell_later hb1 e0
    have e1 := cell_later hb1 e1
    have HBW : Hid (Below w.heap.size w w1) := HB0.out.trans (hb1.mono HB0.out.size)
    clear hb1 KG
    go_wp2
    refine bodyPost_ret (v := .tuple #[.agg #[.int .i64 0, .slice none 0 0], .bool false]) (by simp [results, Tryz.results9, go_sem, e0, e1]) rfl ⟨TabAns.zero HN.out rfl, ?_⟩
    exact (HBW.out.setCell (by show w.heap.size ≤ w.heap.size; omega) _).setCell (by show w.heap.size ≤ w.heap.size; omega) _

end Go.Proofs.YtpnaoahlfhbbmaaGreat
