/- Several texts of one proof, in build order: ItS, QrH. -/
import Derived.Test.YteggbamjfhbmfaaM15
import Derived.Test.YteggbamjfhbmfaaM4

/- Contract of the model's IsTree. -/
namespace Go.Proofs.Yteggbamjfhbmfaa
open Go.RowKit

set_option maxRecDepth 100000 in
set_option maxHeartbeats 8000000 in
theorem specIsTree (ha : Option Addr) (hn hc : Nat) (hs : List Int) (a : Option Addr) (n c : Nat) (zs : List Atm) (ea : Option Addr) (en ec : Nat) (es : List TEar) (ta : Option Addr) (tn tc : Nat) (ts : List Int) (w : World) (hh : hs.length = hn) (hhb : hn ≤ 9223372036854775807) (hat : At w ha hs) (hz : zs.length = n) (hb : n ≤ 9223372036854775807) (haz : AtQ w a zs) (hez : es.length = en) (heb : en ≤ 1048576) (_hec : en ≤ ec) (hea : At w ea (flEar es)) (htz : ts.length = tn) (htb : tn ≤ 9223372036854775807) (hta : At w ta ts) :
    Calls Try.prog 22 #[.agg #[.slice ha hn hc, .slice a n c], .slice ea en ec, .slice ta tn tc] w fun e w' => e = .returned (.tuple #[.bool (itB hs zs es ts), .bool (gqB hs zs ts)]) ∧ Below w.heap.size w w' := by
  obtain ⟨j0, hj0, hy0, hy1, hy2⟩ := info_parts Try.infoInt
  obtain ⟨W, hW⟩ : ∃ W, W = w.alloc (.cells #[.slice ha hn hc, .slice a n c] 32) := ⟨_, rfl⟩
  have B0 : Below w.heap.size w W := by rw [hW]; exact (Below.refl _ _).alloc (Nat.le_refl _) _
  have q0 : W.cell? ⟨w.heap.size, 0, none⟩ = some (.slice ha hn hc) := by rw [hW]; exact pair0 w _ _ _
  have q1 : W.cell? ⟨w.heap.size, 1, none⟩ = some (.slice a n c) := by rw [hW]; exact pair1 w _ _ _
  have HZ := Hid.mk hz
  have HEZ := Hid.mk hez
  have HEA := Hid.mk (At.below hea B0)
  have HAZ := Hid.mk (AtSl.below haz B0)
  have HC := Hid.mk (specGoodQuery ha hn hc hs a n c zs ta tn tc ts W hh hhb (At.below hat B0) hz hb (AtSl.below haz B0) htz htb (At.below hta B0))
  clear hh hat hz haz htz hta hez hea
  go_enter Try.func22, Try.ntmps22
  go_upto_region 1 with fail
  rw [← hW]
  clear hW
  go_wp2_with fail
  refine HC.out.mono ?_
  rintro e W1 ⟨rfl, B1⟩
  have BW := Hid.mk (B0.trans (B1.mono B0.size))
  have HEA1 := Hid.mk (At.below HEA.out B1)
  have HAZ1 := Hid.mk (AtSl.below HAZ.out B1)
  have q0 := cell_later B1 q0
  have q1 := cell_later B1 q1
  clear HC HEA HAZ B1
  cases hg : gqB hs zs ts with
  | false =>
    have HV : Hid (itB hs zs es ts = false) := by show _ = _; unfold itB; rw [hg]; rfl
    have HG := Hid.mk hg
    clear hg
    go_wp2
    exact bodyPost_ret (v := .tuple #[.bool false, .bool false]) (by simp [results, Try.results22, go_sem]) rfl ⟨by rw [HV.out, HG.out], BW.out⟩
  | true =>
  have h15 : 1 ≤ n ∧ n ≤ 5 := by have := gq_some hg; have := (gq_ok hg).1; have := HZ.out; omega
  have HOK := Hid.mk (gq_ok hg).2
  have HV : Hid (itB hs zs es ts = (mdS zs es && decide (en = n))) := by
    show _ = _
    unfold itB
    rw [hg, tree_same HOK.out (by have := HZ.out; omega) (by have := HZ.out; omega), HEZ.out, HZ.out]; rfl
  have HG := Hid.mk hg
  have hn5 : n ≤ 5 := h15.2
  have zB : w.heap.size ≤ W1.heap.size := BW.out.size
  have hwe : IntKind.i64.wrap ((en : Int) - 1) = (en : Int) - 1 := IntWalk.i64_in _ (by omega)
  clear hg h15
  go_wp2
  go_loopw [8, 9] (fun p i wr => ∃ (j : Nat) (I : Int) (r : Option Addr) (d : Nat), j ≤ en ∧ i = .int .i64 I ∧ I = (j : Int) - 1 ∧ p = .slice r (en - j) d ∧ mdS zs (es.drop j) = true ∧ wr.ownsRow W1.heap.size 3 1 (.slice r (en - j) d) (en - j) ((itA (es.drop j)).reverse.map (.int .i64)) ∧ Below W1.heap.size W1 wr) (fun _ i _ => (intOf i + 1).toNat)
  case atStart => exact ⟨en, (en : Int) - 1, none, 0, Nat.le_refl _, rfl, rfl, by simp, by rw [List.drop_of_length_le (by have := HEZ.out; omega)]; rfl, by rw [List.drop_of_length_le (by have := HEZ.out; omega), Nat.sub_self]; exact World.ownsRow_nil _ _ _ _, Below.refl _ _⟩
  case round =>
    obtain ⟨j, I, r, d, hj, rfl, hI, rfl, hmd, ho, hbw⟩ := hrel
    obtain ⟨wY, rfl⟩ : ∃ x, x = wr := ⟨_, rfl⟩
    have t0 := cell_later hbw q0
    have t1 := cell_later hbw q1
    have hlj : (itA (es.drop j)).reverse.length = en - j := by simp [itA]; have := HEZ.out; omega
    have htbj := mdS_tbl _ hmd
    have HLJ := Hid.mk hlj
    clear hlj
    cases j with
    | zero =>
      obtain rfl : I = -1 := by omega
      have hmd0 : mdS zs es = true := hmd
      have HF : Hid (itB hs zs es ts = decide (en = n)) := by show _ = _; rw [HV.out, hmd0]; rfl
      have HB := Hid.mk hbw
      clear hmd hmd0 ho hbw hI htbj
      rw [Nat.sub_zero]
      by_cases e1 : en = n
      · subst e1
        have e1' : ((en : Int) == (en : Int)) = true := by simp
        go_wp2
        exact bodyPost_ret (v := .tuple #[.bool true, .bool true]) (by simp [results, Try.results22, go_sem]) rfl ⟨by rw [HF.out, HG.out]; simp, BW.out.trans (HB.out.mono zB)⟩
      · have e1' : ((en : Int) == (n : Int)) = false := beq_eq_false_iff_ne.2 (by omega)
        go_wp2
        exact bodyPost_ret (v := .tuple #[.bool false, .bool true]) (by simp [results, Try.results22, go_sem]) rfl ⟨by rw [HF.out, HG.out, decide_eq_false e1], BW.out.trans (HB.out.mono zB)⟩
    | succ k =>
    obtain rfl : I = (k : Int) := by omega
    clear hI
    obtain ⟨⟨x0, x1⟩, hx⟩ : ∃ x, es[k]? = some x := ⟨_, List.getElem?_eq_getElem (by have := HEZ.out; omega)⟩
    obtain ⟨b, off, rfl, hbb, hcc⟩ := flEar_some HEA1.out (by have := HEZ.out; omega)
    obtain ⟨c0, c1⟩ := hcc k _ hx
    have c0 := (hbw.cell hbb).trans c0
    have c1 := (hbw.cell hbb).trans c1
    simp only at c0 c1
    have hst := mdS_at zs hx
    rw [hmd, Bool.true_and] at hst
    have HNO : Hid (mdS zs (es.drop k) = false → itB hs zs es ts = false) := fun h => by
      rw [HV.out]
      cases h9 : mdS zs es with
      | false => rfl
      | true => rw [mdS_drop zs es k h9] at h; cases h
    have HIR : Hid ((itA (es.drop k)).reverse = (itA (es.drop (k + 1))).reverse ++ [x0]) := by
      obtain ⟨hk9, e9⟩ := List.getElem?_eq_some_iff.1 hx
      show _ = _
      rw [List.drop_eq_getElem_cons hk9, e9]
      simp [itA]
    have HIE : Hid ((es.drop (k + 1)).isEmpty = decide (k + 1 = en)) := by
      show _ = _
      rw [Bool.eq_iff_iff, List.isEmpty_iff, List.drop_eq_nil_iff, decide_eq_true_eq]
      have := HEZ.out
      omega
    obtain ⟨Sn, hSn⟩ : ∃ Sn, (itA (es.drop (k + 1))).reverse = Sn := ⟨_, rfl⟩
    have HSR : Hid (∀ o ∈ Sn, 0 ≤ o ∧ o < (n : Int)) := fun o ho9 => by
      rw [← hSn] at ho9
      have h9 := htbj.lt o (List.mem_reverse.1 ho9)
      have := HZ.out
      omega
    rw [HIE.out, hSn] at hst
    rw [hSn] at ho HIR HLJ
    obtain ⟨m, hm⟩ : ∃ m, en - (k + 1) = m := ⟨_, rfl⟩
    rw [hm] at ho HLJ ⊢
    have HMK := Hid.mk hm
    have hm20 : m ≤ 1048576 := by omega
    have hken : k < en := by omega
    have HMD := Hid.mk hst
    obtain ⟨V, hVV⟩ : ∃ V, V = wY.alloc (.cells #[.int .i64 x0, .int .i64 x1] 71) := ⟨_, rfl⟩
    have hbV : Below wY.heap.size wY V := by rw [hVV]; exact (Below.refl _ _).alloc (Nat.le_refl _) _
    have p0 : V.cell? ⟨wY.heap.size, 0, none⟩ = some (.int .i64 x0) := by rw [hVV]; simp
    have p1 : V.cell? ⟨wY.heap.size, 1, none⟩ = some (.int .i64 x1) := by rw [hVV]; simp
    have t0 := cell_later hbV t0
    have t1 := cell_later hbV t1
    have HO := Hid.mk (owns_below ho hbV)
    have HB := Hid.mk (hbw.trans (hbV.mono hbw.size))
    have KHA := Hid.mk (l1Has_any r m d Sn x0 V HLJ.out (by omega) (At.owned HO.out))
    have KHU : Hid (∀ w' : World, Below V.heap.size V w' → Calls Try.prog 46 #[.slice r m d, .int .i64 x1] w' fun e w'' => e = .returned (.bool (decide (x1 ∈ Sn))) ∧ w'' = w') := fun w' hw' => l1Has_any r m d Sn x1 w' HLJ.out (by omega) (At.below (At.owned HO.out) hw')
    have hk0 : ¬ (k : Int) < 0 := by omega
    have hk0' : (0 : Int) ≤ (k : Int) := by omega
    clear hmd ho hbw hx hcc hst hSn hm htbj hbV hbb hj
    go_upto_region 8 with fail
    rw [← hVV]
    clear hVV c0 c1
    by_cases c2 : x0 < 0
    · have HF : Hid (itB hs zs es ts = false) := HNO.out (by rw [HMD.out]; unfold stp stR; rw [decide_eq_false (by omega : ¬ 0 ≤ x0)]; rfl)
      clear KHA KHU
      go_wp2
      exact bodyPost_ret (v := .tuple #[.bool false, .bool true]) (by simp [results, Try.results22, go_sem]) rfl ⟨by rw [HF.out, HG.out], BW.out.trans (HB.out.mono zB)⟩
    by_cases c3 : (n : Int) ≤ x0
    · have HF : Hid (itB hs zs es ts = false) := HNO.out (by rw [HMD.out]; unfold stp stR; rw [HZ.out, decide_eq_false (by omega : ¬ x0 < (n : Int))]; simp)
      clear KHA KHU
      go_wp2
      exact bodyPost_ret (v := .tuple #[.bool false, .bool true]) (by simp [results, Try.results22, go_sem]) rfl ⟨by rw [HF.out, HG.out], BW.out.trans (HB.out.mono zB)⟩
    obtain ⟨p, rfl⟩ : ∃ p : Nat, x0 = (p : Int) := ⟨x0.toNat, by omega⟩
    have hpn : p < n := by omega
    cases hm0 : decide ((p : Int) ∈ Sn) with
    | true =>
      have HF : Hid (itB hs zs es ts = false) := HNO.out (by rw [HMD.out]; unfold stp stR; rw [hm0]; simp)
      rw [hm0] at KHA
      clear KHU
      go_wp2_with fail
      refine KHA.out.mono ?_
      rintro e w2 ⟨rfl, hw2⟩
      obtain rfl := hw2.symm
      go_wp2
      exact bodyPost_ret (v := .tuple #[.bool false, .bool true]) (by simp [results, Try.results22, go_sem]) rfl ⟨by rw [HF.out, HG.out], BW.out.trans (HB.out.mono zB)⟩
    | false =>
    rw [hm0] at KHA
    have HR : Hid (stp zs ((p : Int), x1) Sn (decide (k + 1 = en)) = ((decide (x1 = -1) == decide (k + 1 = en)) && (decide (x1 = -1) || stA zs ((p : Int), x1) Sn))) := by
      show _ = _
      unfold stp stR
      rw [hm0, HZ.out, decide_eq_true (by omega : (0 : Int) ≤ (p : Int)), decide_eq_true (by omega : (p : Int) < (n : Int))]; rfl
    rw [HR.out] at HMD
    clear hm0 HR
    by_cases cu : x1 = -1
    · subst cu
      have cu1 : ((-1 : Int) == -1) = true := rfl
      by_cases cl : k + 1 = en
      · have cl1 : ((k : Int) == (en : Int) - 1) = true := by rw [beq_iff_eq]; omega
        have HST : Hid (((decide ((-1 : Int) = -1) == decide (k + 1 = en)) && (decide ((-1 : Int) = -1) || stA zs ((p : Int), -1) Sn)) = true) := by show _ = _; rw [decide_eq_true cl]; simp
        clear KHU
        go_wp2_with fail
        refine KHA.out.mono ?_
        rintro e w2 ⟨rfl, hw2⟩
        obtain rfl := hw2.symm
        clear KHA hw2
        go_wp2_with fail
        refine wp_region_held_drew (S := fun w' => w'.cell? ⟨wY.heap.size, 1, none⟩ = some (.int .i64 (-1))) (by kernel_rfl) ?_ (fun hHeld => ?_)
        · (try dsimp only)
          exact p1
        refine tk 0 ?_
        refine tk 1 ?_
        refine tk 2 ?_
        refine tk 3 ?_
        refine tu 4 ?_
        refine tu 5 ?_
        refine tu 6 ?_
        refine tu 7 ?_
        refine tu 8 ?_
        refine tu 9 ?_
        refine tu 10 ?_
        refine tu 11 ?_
        refine tu 12 ?_
        refine tu 13 ?_
        refine tu 14 ?_
        refine tu 15 ?_
        refine tu 16 ?_
        refine tu 17 ?_
        refine tu 18 ?_
        refine tu 19 ?_
        refine tu 20 ?_
        refine tu 21 ?_
        refine tu 22 ?_
        refine tu 23 ?_
        refine tu 24 ?_
        refine tk 25 ?_
        refine wpAnyH_done (by kernel_rfl) ?_ _
        obtain ⟨Z, hZ⟩ : ∃ Z, Z = V.drew := ⟨_, rfl⟩
        have HBZ : Hid (Below V.heap.size V Z) := by rw [hZ]; exact (Below.refl _ V).drew
        have p0 := cell_later HBZ.out p0
        rw [← hZ]
        clear hZ
        have HO4 := Hid.mk (owns_below HO.out HBZ.out)
        have HB4 := Hid.mk (HB.out.trans (HBZ.out.mono HB.out.size))
        have zw : W1.heap.size ≤ Z.heap.size := HB4.out.size
        go_wp2_with (at_builtin; refine wpList_app_vals rfl (.tmp 80) (.tmp 83) 22 rfl W1.heap.size 3 j0 (.int .i64 0) 1 8 Try.underlying22 hj0 hy0 hy1 hy2 rfl (by decide) (.slice r m d) m (Sn.map (.int .i64)) rfl (HO4.out.alloc _) (some ⟨Z.heap.size, 0, none⟩) 1 1 [.int .i64 (p : Nat)] rfl rfl (fun ad he => by cases he; simpa using news_at Z #[.int .i64 (p : Nat)] 3) (by simp; rfl) (fun h => by cases h) (by unfold maxLen; omega) (by omega) (by simp; omega) ?_)
        intro r5 d5 w5 ho5 hg5 ht5
        have HB5 : Hid (Below W1.heap.size W1 w5) := (HB4.out.alloc zw _).grown hg5 (by simp; omega) (fun j hj => (HO4.out.lt j hj).1)
        have HO5 : Hid (w5.ownsRow W1.heap.size 3 1 (.slice r5 (en - k) d5) (en - k) ((itA (es.drop k)).reverse.map (.int .i64))) := by
          show World.ownsRow _ _ _ _ _ _ _
          have e1 : en - k = m + 1 := by have := HMK.out; omega
          rw [HIR.out, List.map_append, e1]; exact ho5
        clear ho5 hg5 ht5 HO4 HB4
        have hwk : IntKind.i64.wrap ((k : Int) - 1) = (k : Int) - 1 := IntWalk.i64_in _ (by omega)
        have e5 : m + 1 = en - k := by have := HMK.out; omega
        rw [e5]
        go_wp2
        go_roundw
        case rel => exact ⟨k, (k : Int) - 1, r5, d5, by omega, rfl, rfl, rfl, by rw [HMD.out, HST.out], HO5.out, HB5.out⟩
        case measure => first | (simp [intOf]; done) | (simp [intOf]; omega)
      · have cl1 : ((k : Int) == (en : Int) - 1) = false := beq_eq_false_iff_ne.2 (by omega)
        have HF : Hid (itB hs zs es ts = false) := HNO.out (by rw [HMD.out, decide_eq_false cl]; rfl)
        clear KHU
        go_wp2_with fail
        refine KHA.out.mono ?_
        rintro e w2 ⟨rfl, hw2⟩
        obtain rfl := hw2.symm
        go_wp2
        exact bodyPost_ret (v := .tuple #[.bool false, .bool true]) (by simp [results, Try.results22, go_sem]) rfl ⟨by rw [HF.out, HG.out], BW.out.trans ((HB.out.trans ((Below.refl _ V).mono HB.out.size)).mono zB)⟩
    · have cu1 : (x1 == -1) = false := beq_eq_false_iff_ne.2 cu
      have cu2 : (x1 != -1) = true := by rw [bne, cu1]; rfl
      by_cases cl : k + 1 = en
      · have cl1 : ((k : Int) == (en : Int) - 1) = true := by rw [beq_iff_eq]; omega
        have HF : Hid (itB hs zs es ts = false) := HNO.out (by rw [HMD.out, decide_eq_false cu, decide_eq_true cl]; rfl)
        clear KHU
        go_wp2_with fail
        refine KHA.out.mono ?_
        rintro e w2 ⟨rfl, hw2⟩
        obtain rfl := hw2.symm
        go_wp2
        exact bodyPost_ret (v := .tuple #[.bool false, .bool true]) (by simp [results, Try.results22, go_sem]) rfl ⟨by rw [HF.out, HG.out], BW.out.trans ((HB.out.trans ((Below.refl _ V).mono HB.out.size)).mono zB)⟩
      have cl1 : ((k : Int) == (en : Int) - 1) = false := beq_eq_false_iff_ne.2 (by omega)
      have HMD2 : Hid (mdS zs (es.drop k) = stA zs ((p : Int), x1) Sn) := by show _ = _; rw [HMD.out, decide_eq_false cu, decide_eq_false cl]; rfl
      cases hmu : decide (x1 ∈ Sn) with
      | false =>
        have HF : Hid (itB hs zs es ts = false) := HNO.out (by rw [HMD2.out]; unfold stA; rw [hmu]; rfl)
        go_wp2_with fail
        refine KHA.out.mono ?_
        rintro e w2 ⟨rfl, hw2⟩
        obtain rfl := hw2.symm
        clear KHA hw2
        go_wp2_with fail
        refine wp_region_held_drew (S := fun w' => w'.cell? ⟨wY.heap.size, 1, none⟩ = some (.int .i64 (x1))) (by kernel_rfl) ?_ (fun hHeld => ?_)
        · (try dsimp only)
          exact p1
        refine tk 0 ?_
        refine tk 1 ?_
        refine tk 2 ?_
        refine tk 3 ?_
        refine tk 4 ?_
        refine tk 5 ?_
        refine tk 6 ?_
        refine tr 7 (fun K hK => ?_)
        go_simp
        go_at_call 46
        refine (KHU.out V.drew (Below.refl _ _).drew).mono ?_
        rintro e wa ⟨rfl, hwa⟩
        obtain rfl := hwa.symm
        rw [hmu]
        (try go_wp2_with fail)
        refine hK.out _ _ ?_ (fun hHeld' => ?_)
        · (try dsimp only)
          exact p1
        clear hK K hHeld
        have hHeld := hHeld'
        clear hHeld'
        (try simp only [Act.put, List.setIfInBounds_toArray, List.set_cons_zero, List.set_cons_succ])
        refine tk 8 ?_
        refine tk 9 ?_
        refine tu 10 ?_
        refine tu 11 ?_
        refine tu 12 ?_
        refine tu 13 ?_
        refine tu 14 ?_
        refine tu 15 ?_
        refine tu 16 ?_
        refine tu 17 ?_
        refine tu 18 ?_
        refine tu 19 ?_
        refine tu 20 ?_
        refine tu 21 ?_
        refine tu 22 ?_
        refine tu 23 ?_
        refine tk 24 ?_
        refine tk 25 ?_
        refine wpAnyH_done (by kernel_rfl) ?_ _
        go_wp2
        exact bodyPost_ret (v := .tuple #[.bool false, .bool true]) (by simp [results, Try.results22, go_sem]) rfl ⟨by rw [HF.out, HG.out], BW.out.trans ((HB.out.trans ((Below.refl _ V).drew.mono HB.out.size)).mono zB)⟩
      | true =>
        have hmem : x1 ∈ Sn := by simpa using hmu
        have hxr := HSR.out x1 hmem
        obtain ⟨q, rfl⟩ : ∃ q : Nat, x1 = (q : Int) := ⟨x1.toNat, by omega⟩
        have hqn : q < n := by omega
        have hqi : (q : Int) < (n : Int) := by omega
        obtain ⟨y, hy⟩ : ∃ y, zs[q]? = some y := ⟨_, List.getElem?_eq_getElem (by have := HZ.out; omega)⟩
        obtain ⟨yp, hyp⟩ : ∃ yp, zs[p]? = some yp := ⟨_, List.getElem?_eq_getElem (by have := HZ.out; omega)⟩
        have hatq := AtSl.below HAZ1.out HB.out
        obtain ⟨ab, aoff, rfl, _, hrow⟩ := AtQ.row hatq (by have := HZ.out; omega)
        obtain ⟨va, vn, vc, g0, g1, u1, u2, u3, u4⟩ := hrow q y hy
        have hstA : stA zs ((p : Int), (q : Int)) Sn = ((bl (mk (shT zs Sn (edge yp)))).all fun v => decide (v ∈ y.2)) := by
          unfold stA
          simp only
          rw [hmu, Bool.true_and, show zs.getD ((p : Int)).toNat (0, []) = yp by simp [List.getD, hyp], show atv zs (q : Int) = y.2 by simp [atv, hy]]
        have KSH : Hid (∀ w' : World, Below V.heap.size V w' → Calls Try.prog 48 #[.agg #[.slice ha hn hc, .slice (some ⟨ab, aoff, none⟩) n c], .int .i64 (p : Nat), .slice r m d] w' fun e w'' => ∃ r3 m3 d3, e = .returned (.slice r3 m3 d3) ∧ (bl (mk (shT zs Sn (edge yp)))).length = m3 ∧ w''.ownsRow w'.heap.size 3 1 (.slice r3 m3 d3) m3 ((bl (mk (shT zs Sn (edge yp)))).map (.int .i64)) ∧ Below w'.heap.size w' w'') := fun w' hw' =>
          l11Shared_any ha hn hc (some ⟨ab, aoff, none⟩) n c zs p r m d Sn w' yp HZ.out (by omega) (AtSl.below hatq hw') HOK.out hyp HLJ.out hm20 (At.below (At.owned HO.out) hw') HSR.out
        obtain ⟨bb, hbb⟩ : ∃ bb, stA zs ((p : Int), (q : Int)) Sn = bb := ⟨_, rfl⟩
        have KAL : Hid (∀ (wb : World), Below V.drew.heap.size V.drew wb → ∀ r3 m3 d3, (bl (mk (shT zs Sn (edge yp)))).length = m3 → wb.ownsRow V.drew.heap.size 3 1 (.slice r3 m3 d3) m3 ((bl (mk (shT zs Sn (edge yp)))).map (.int .i64)) → Calls Try.prog 47 #[.slice va vn vc, .slice r3 m3 d3] wb fun e w'' => e = .returned (.bool bb) ∧ w'' = wb) := fun wb hwb r3 m3 d3 hm3 ho3 => by
          rw [← hbb, hstA]
          exact l7All_any va vn vc y.2 r3 m3 d3 _ wb u1 u2 (At.below u3 ((Below.refl _ V).drew.trans hwb)) hm3 (by have := bl_len (mk (shT zs Sn (edge yp))); omega) (At.owned ho3)
        have HBBB := Hid.mk hbb
        rw [hbb] at HMD2
        clear hstA hrow hy hyp u1 u2 u3 u4 hatq hbb hxr hmem
        cases bb with
        | false =>
          have HF : Hid (itB hs zs es ts = false) := HNO.out HMD2.out
          go_wp2_with fail
          refine KHA.out.mono ?_
          rintro e w2 ⟨rfl, hw2⟩
          obtain rfl := hw2.symm
          clear KHA hw2
          go_wp2_with fail
          refine wp_region_held_drew (S := fun w' => w'.cell? ⟨wY.heap.size, 1, none⟩ = some (.int .i64 ((q : Nat))) ∧ w'.cell? ⟨wY.heap.size, 0, none⟩ = some (.int .i64 (p : Nat)) ∧ w'.cell? ⟨w.heap.size, 0, none⟩ = some (.slice ha hn hc) ∧ w'.cell? ⟨w.heap.size, 1, none⟩ = some (.slice (some ⟨ab, aoff, none⟩) n c) ∧ w'.cell? ⟨ab, aoff + q * 2 + 1, none⟩ = some (.slice va vn vc)) (by kernel_rfl) ?_ (fun hHeld => ?_)
          · (try dsimp only)
            (refine ⟨?_, ?_, ?_, ?_, ?_⟩ <;> assumption)
          refine tk 0 ?_
          refine tk 1 ?_
          refine tk 2 ?_
          refine tk 3 ?_
          refine tk 4 ?_
          refine tk 5 ?_
          refine tk 6 ?_
          refine tr 7 (fun K hK => ?_)
          go_simp
          go_at_call 46
          refine (KHU.out V.drew (Below.refl _ _).drew).mono ?_
          rintro e wa ⟨rfl, hwa⟩
          obtain rfl := hwa.symm
          rw [hmu]
          (try go_wp2_with fail)
          refine hK.out _ _ ?_ (fun hHeld' => ?_)
          · (try dsimp only)
            (refine ⟨?_, ?_, ?_, ?_, ?_⟩ <;> assumption)
          clear hK K hHeld
          have hHeld := hHeld'
          clear hHeld'
          (try simp only [Act.put, List.setIfInBounds_toArray, List.set_cons_zero, List.set_cons_succ])
          refine tk 8 ?_
          refine tk 9 ?_
          refine tk 10 ?_
          refine tk 11 ?_
          refine tk 12 ?_
          refine tk 13 ?_
          refine tk 14 ?_
          refine tk 15 ?_
          refine tk 16 ?_
          refine tk 17 ?_
          refine tk 18 ?_
          refine tk 19 ?_
          refine tk 20 ?_
          refine tr 21 (fun K hK => ?_)
          go_simp
          go_at_call 48
          refine (KSH.out V.drew (Below.refl _ _).drew).mono ?_
          rintro e wb ⟨r3, m3, d3, rfl, hm3, ho3, hb3⟩
          have p1 := cell_later hb3 p1
          have p0 := cell_later hb3 p0
          have t0 := cell_later hb3 t0
          have t1 := cell_later hb3 t1
          have g1 := cell_later hb3 g1
          have KA := Hid.mk (KAL.out wb hb3 r3 m3 d3 hm3 ho3)
          have HB3 := Hid.mk ((Below.refl _ V).drew.trans hb3)
          clear hm3 ho3 hb3
          (try go_wp2_with fail)
          refine hK.out _ _ ?_ (fun hHeld' => ?_)
          · (try dsimp only)
            (refine ⟨?_, ?_, ?_, ?_, ?_⟩ <;> assumption)
          clear hK K hHeld
          have hHeld := hHeld'
          clear hHeld'
          (try simp only [Act.put, List.setIfInBounds_toArray, List.set_cons_zero, List.set_cons_succ])
          refine tr 22 (fun K hK => ?_)
          go_simp
          go_at_call 47
          refine (KA.out).mono ?_
          rintro e wc ⟨rfl, hwc⟩
          obtain rfl := hwc.symm
          clear hwc
          (try go_wp2_with fail)
          refine hK.out _ _ ?_ (fun hHeld' => ?_)
          · (try dsimp only)
            (refine ⟨?_, ?_, ?_, ?_, ?_⟩ <;> assumption)
          clear hK K hHeld
          have hHeld := hHeld'
          clear hHeld'
          (try simp only [Act.put, List.setIfInBounds_toArray, List.set_cons_zero, List.set_cons_succ])
          refine tk 23 ?_
          refine tk 24 ?_
          refine tk 25 ?_
          refine wpAnyH_done (by kernel_rfl) ?_ _
          go_wp2
          exact bodyPost_ret (v := .tuple #[.bool false, .bool true]) (by simp [results, Try.results22, go_sem]) rfl ⟨by rw [HF.out, HG.out], BW.out.trans ((HB.out.trans (HB3.out.mono HB.out.size)).mono zB)⟩
        | true =>
          have HST : Hid (((decide ((q : Int) = -1) == decide (k + 1 = en)) && (decide ((q : Int) = -1) || stA zs ((p : Int), (q : Int)) Sn)) = true) := by show _ = _; rw [HBBB.out, decide_eq_false cl, decide_eq_false cu]; rfl
          go_wp2_with fail
          refine KHA.out.mono ?_
          rintro e w2 ⟨rfl, hw2⟩
          obtain rfl := hw2.symm
          clear KHA hw2
          go_wp2_with fail
          refine wp_region_held_drew (S := fun w' => w'.cell? ⟨wY.heap.size, 1, none⟩ = some (.int .i64 ((q : Nat))) ∧ w'.cell? ⟨wY.heap.size, 0, none⟩ = some (.int .i64 (p : Nat)) ∧ w'.cell? ⟨w.heap.size, 0, none⟩ = some (.slice ha hn hc) ∧ w'.cell? ⟨w.heap.size, 1, none⟩ = some (.slice (some ⟨ab, aoff, none⟩) n c) ∧ w'.cell? ⟨ab, aoff + q * 2 + 1, none⟩ = some (.slice va vn vc)) (by kernel_rfl) ?_ (fun hHeld => ?_)
          · (try dsimp only)
            (refine ⟨?_, ?_, ?_, ?_, ?_⟩ <;> assumption)
          refine tk 0 ?_
          refine tk 1 ?_
          refine tk 2 ?_
          refine tk 3 ?_
          refine tk 4 ?_
          refine tk 5 ?_
          refine tk 6 ?_
          refine tr 7 (fun K hK => ?_)
          go_simp
          go_at_call 46
          refine (KHU.out V.drew (Below.refl _ _).drew).mono ?_
          rintro e wa ⟨rfl, hwa⟩
          obtain rfl := hwa.symm
          rw [hmu]
          (try go_wp2_with fail)
          refine hK.out _ _ ?_ (fun hHeld' => ?_)
          · (try dsimp only)
            (refine ⟨?_, ?_, ?_, ?_, ?_⟩ <;> assumption)
          clear hK K hHeld
          have hHeld := hHeld'
          clear hHeld'
          (try simp only [Act.put, List.setIfInBounds_toArray, List.set_cons_zero, List.set_cons_succ])
          refine tk 8 ?_
          refine tk 9 ?_
          refine tk 10 ?_
          refine tk 11 ?_
          refine tk 12 ?_
          refine tk 13 ?_
          refine tk 14 ?_
          refine tk 15 ?_
          refine tk 16 ?_
          refine tk 17 ?_
          refine tk 18 ?_
          refine tk 19 ?_
          refine tk 20 ?_
          refine tr 21 (fun K hK => ?_)
          go_simp
          go_at_call 48
          refine (KSH.out V.drew (Below.refl _ _).drew).mono ?_
          rintro e wb ⟨r3, m3, d3, rfl, hm3, ho3, hb3⟩
          have p1 := cell_later hb3 p1
          have p0 := cell_later hb3 p0
          have t0 := cell_later hb3 t0
          have t1 := cell_later hb3 t1
          have g1 := cell_later hb3 g1
          have KA := Hid.mk (KAL.out wb hb3 r3 m3 d3 hm3 ho3)
          have HB3 := Hid.mk ((Below.refl _ V).drew.trans hb3)
          clear hm3 ho3 hb3
          (try go_wp2_with fail)
          refine hK.out _ _ ?_ (fun hHeld' => ?_)
          · (try dsimp only)
            (refine ⟨?_, ?_, ?_, ?_, ?_⟩ <;> assumption)
          clear hK K hHeld
          have hHeld := hHeld'
          clear hHeld'
          (try simp only [Act.put, List.setIfInBounds_toArray, List.set_cons_zero, List.set_cons_succ])
          refine tr 22 (fun K hK => ?_)
          go_simp
          go_at_call 47
          refine (KA.out).mono ?_
          rintro e wc ⟨rfl, hwc⟩
          obtain rfl := hwc.symm
          clear hwc
          (try go_wp2_with fail)
          refine hK.out _ _ ?_ (fun hHeld' => ?_)
          · (try dsimp only)
            (refine ⟨?_, ?_, ?_, ?_, ?_⟩ <;> assumption)
          clear hK K hHeld
          have hHeld := hHeld'
          clear hHeld'
          (try simp only [Act.put, List.setIfInBounds_toArray, List.set_cons_zero, List.set_cons_succ])
          refine tk 23 ?_
          refine tk 24 ?_
          refine tk 25 ?_
          refine wpAnyH_done (by kernel_rfl) ?_ _
          obtain ⟨Z, hZ⟩ : ∃ Z, Z = wb := ⟨_, rfl⟩
          have HBZ : Hid (Below V.heap.size V Z) := by rw [hZ]; exact HB3.out
          rw [← hZ] at p0 p1 t0 t1 g1 ⊢
          clear hZ
          have HO4 := Hid.mk (owns_below HO.out HBZ.out)
          have HB4 := Hid.mk (HB.out.trans (HBZ.out.mono HB.out.size))
          have zw : W1.heap.size ≤ Z.heap.size := HB4.out.size
          go_wp2_with (at_builtin; refine wpList_app_vals rfl (.tmp 80) (.tmp 83) 22 rfl W1.heap.size 3 j0 (.int .i64 0) 1 8 Try.underlying22 hj0 hy0 hy1 hy2 rfl (by decide) (.slice r m d) m (Sn.map (.int .i64)) rfl (HO4.out.alloc _) (some ⟨Z.heap.size, 0, none⟩) 1 1 [.int .i64 (p : Nat)] rfl rfl (fun ad he => by cases he; simpa using news_at Z #[.int .i64 (p : Nat)] 3) (by simp; rfl) (fun h => by cases h) (by unfold maxLen; omega) (by omega) (by simp; omega) ?_)
          intro r5 d5 w5 ho5 hg5 ht5
          have HB5 : Hid (Below W1.heap.size W1 w5) := (HB4.out.alloc zw _).grown hg5 (by simp; omega) (fun j hj => (HO4.out.lt j hj).1)
          have HO5 : Hid (w5.ownsRow W1.heap.size 3 1 (.slice r5 (en - k) d5) (en - k) ((itA (es.drop k)).reverse.map (.int .i64))) := by
            show World.ownsRow _ _ _ _ _ _ _
            have e1 : en - k = m + 1 := by have := HMK.out; omega
            rw [HIR.out, List.map_append, e1]; exact ho5
          clear ho5 hg5 ht5 HO4 HB4
          have hwk : IntKind.i64.wrap ((k : Int) - 1) = (k : Int) - 1 := IntWalk.i64_in _ (by omega)
          have e5 : m + 1 = en - k := by have := HMK.out; omega
          rw [e5]
          go_wp2
          go_roundw
          case rel => exact ⟨k, (k : Int) - 1, r5, d5, by omega, rfl, rfl, rfl, by rw [HMD.out, HST.out], HO5.out, HB5.out⟩
          case measure => first | (simp [intOf]; done) | (simp [intOf]; omega)

end Go.Proofs.Yteggbamjfhbmfaa

/- Contracts of the laws' helpers over queries: szAtom, szAtomS, szQuery. -/
namespace Go.Proofs.Yteggbamjfhbmfaa
open Go.RowKit

set_option maxRecDepth 100000 in
set_option maxHeartbeats 1000000 in
theorem szAtom_any (p : Int) (pa : Option Addr) (pn pc : Nat) (xs : List Int) (l : Int) (w : World) (hz : xs.length = pn) (hn : pn ≤ 9223372036854775807) (h0 : 0 ≤ l) (h1 : l ≤ 1048576) :
    Calls Try.prog 65 #[.agg #[.int .i64 p, .slice pa pn pc], .int .i64 l] w fun e w' => e = .returned (.int .i64 (leftOf l (acost (p, xs)))) ∧ Below w.heap.size w w' := by
  have hv : acost (p, xs) = pn := by unfold acost; simp only; rw [hz]
  rw [hv]
  clear hv
  obtain ⟨W, hW⟩ : ∃ W, W = w.alloc (.cells #[.int .i64 p, .slice pa pn pc] 92) := ⟨_, rfl⟩
  have B0 : Below w.heap.size w W := by rw [hW]; exact (Below.refl _ _).alloc (Nat.le_refl _) _
  clear hz
  by_cases c1 : l < pn
  · go_enter Try.func65, Try.ntmps65
    go_wp2_with fail
    rw [← hW]
    clear hW
    refine (szIntS_any pa pn pc l W hn h0 h1).mono ?_
    rintro e w2 ⟨rfl, rfl⟩
    rw [if_pos c1]
    go_wp2
    go_ret
    exact ⟨ret_int (leftOf_no (by omega)).symm, B0⟩
  · go_enter Try.func65, Try.ntmps65
    have d1 : ¬ l - (pn : Int) < 0 := by omega
    go_wp2_with fail
    rw [← hW]
    clear hW
    refine (szIntS_any pa pn pc l W hn h0 h1).mono ?_
    rintro e w2 ⟨rfl, rfl⟩
    rw [if_neg (by omega)]
    go_wp2
    go_ret
    exact ⟨ret_int (by rw [leftOf_yes (by omega)]), B0⟩

set_option maxRecDepth 100000 in
set_option maxHeartbeats 2000000 in
theorem szAtomS_any (a : Option Addr) (n c : Nat) (xs : List Atm) (l : Int) (w : World) (hz : xs.length = n) (hn : n ≤ 9223372036854775807) (h0 : 0 ≤ l) (h1 : l ≤ 1048576) (ha : AtQ w a xs) :
    Calls Try.prog 37 #[.slice a n c, .int .i64 l] w fun e w' => e = .returned (.int .i64 (leftOf l (n + asum xs n : Nat))) ∧ Below w.heap.size w w' := by
  by_cases hb : l < n
  · have h' : l - (n : Int) < 0 := by omega
    go_enter Try.func37, Try.ntmps37
    go_wp2
    go_ret
    exact ⟨ret_int (leftOf_no (by omega)).symm, Below.refl _ _⟩
  have h' : ¬ l - (n : Int) < 0 := by omega
  by_cases hn0 : n = 0
  · subst hn0
    have ht : asum xs 0 = 0 := asum_zero xs
    go_enter Try.func37, Try.ntmps37
    go_wp2
    refine wp_loop_rounds 1 ?_
    rw [rounds_succ]
    go_wp2
    go_ret
    exact ⟨ret_int (by rw [ht, leftOf_yes (by omega)]; omega), Below.refl _ _⟩
  · go_enter Try.func37, Try.ntmps37
    go_wp2
    go_loopw [1, 5] (fun q i wr => ∃ (k : Nat) (r : Int), k ≤ n ∧ i = .int .i64 k ∧ q = .int .i64 r ∧ 0 ≤ r ∧ r ≤ 1048576 ∧ r + asum xs k = l - n ∧ Below w.heap.size w wr) (fun _ i _ => n - (intOf i).toNat)
    case atStart => exact ⟨0, l - n, Nat.zero_le _, rfl, rfl, by omega, by omega, by rw [asum_zero]; omega, Below.refl _ _⟩
    case round =>
      obtain ⟨k, r, hk, rfl, rfl, hr0, hr1, hr, hbw⟩ := hrel
      by_cases hlt : k < n
      · obtain ⟨b, off, rfl, _, hc⟩ := AtQ.row (AtSl.below ha hbw) (by omega)
        obtain ⟨⟨xp, xt⟩, hx⟩ : ∃ x, xs[k]? = some x := ⟨_, List.getElem?_eq_getElem (by omega)⟩
        obtain ⟨ta, tn, tc, g0, g1, u1, u2, _⟩ := hc k _ hx
        have hts := asum_succ hx
        have htm := asum_mono xs (k + 1) n (by omega)
        have HR := Hid.mk hr
        have HT := Hid.mk hts
        have HM := Hid.mk htm
        have HX2 := Hid.mk u1
        have hki : (k : Int) < (n : Int) := by omega
        clear hc hr hts ha htm hx u1
        by_cases hfit : r < acost (xp, xt)
        · go_wp2_with fail
          refine (szAtom_any xp ta tn tc xt r wr HX2.out u2 hr0 hr1).mono ?_
          rintro e w' ⟨rfl, hb'⟩
          rw [leftOf_no hfit]
          go_wp2
          go_ret
          exact ⟨ret_int (leftOf_no (by have := HR.out; have := HT.out; have := HM.out; omega)).symm, hbw.trans (hb'.mono hbw.size)⟩
        · have hd : ¬ r - (acost (xp, xt) : Int) < 0 := by omega
          go_wp2_with fail
          refine (szAtom_any xp ta tn tc xt r wr HX2.out u2 hr0 hr1).mono ?_
          rintro e w' ⟨rfl, hb'⟩
          rw [leftOf_yes (by omega)]
          go_wp2
          go_roundw
          case rel => exact ⟨k + 1, r - acost (xp, xt), by omega, by go_num, rfl, by omega, by omega, by have := HR.out; have := HT.out; omega, hbw.trans (hb'.mono hbw.size)⟩
          case measure => simp [intOf]; omega
      · obtain rfl : k = n := by omega
        have HR := Hid.mk hr
        clear hr
        go_wp2
        go_ret
        exact ⟨ret_int (by have := HR.out; rw [leftOf_yes (by omega)]; omega), hbw⟩

/-- What the laws count for a query. -/
def qcost (x : Qry) : Nat := x.1.length + (x.2.length + asum x.2 x.2.length)

set_option maxRecDepth 100000 in
set_option maxHeartbeats 1000000 in
theorem szQuery_any (sa : Option Addr) (sn sc : Nat) (pa : Option Addr) (pn pc : Nat) (ss : List Int) (xs : List Atm) (l : Int) (w : World) (hs : ss.length = sn) (hsn : sn ≤ 9223372036854775807) (hz : xs.length = pn) (hn : pn ≤ 9223372036854775807) (h0 : 0 ≤ l) (h1 : l ≤ 1048576) (ha : AtQ w pa xs) :
    Calls Try.prog 9 #[.agg #[.slice sa sn sc, .slice pa pn pc], .int .i64 l] w fun e w' => e = .returned (.int .i64 (leftOf l (qcost (ss, xs)))) ∧ Below w.heap.size w w' := by
  obtain ⟨C, hC⟩ : ∃ C, pn + asum xs pn = C := ⟨_, rfl⟩
  have hv : qcost (ss, xs) = sn + C := by unfold qcost; simp only; rw [hs, hz, hC]
  rw [hv]
  clear hv
  have HC := Hid.mk hC
  clear hC
  obtain ⟨W, hW⟩ : ∃ W, W = w.alloc (.cells #[.slice sa sn sc, .slice pa pn pc] 25) := ⟨_, rfl⟩
  have B0 : Below w.heap.size w W := by rw [hW]; exact (Below.refl _ _).alloc (Nat.le_refl _) _
  have q1 : W.cell? ⟨w.heap.size, 1, none⟩ = some (.slice pa pn pc) := by rw [hW]; simp
  have HZ := Hid.mk hz
  have HA := Hid.mk (AtSl.below ha B0)
  clear hz hs ha
  by_cases c1 : l < sn
  · go_enter Try.func9, Try.ntmps9
    go_wp2_with fail
    rw [← hW]
    clear hW
    refine (szIntS_any sa sn sc l W hsn h0 h1).mono ?_
    rintro e w2 ⟨rfl, rfl⟩
    rw [if_pos c1]
    go_wp2
    go_ret
    exact ⟨ret_int (leftOf_no (by omega)).symm, B0⟩
  by_cases c2 : l - sn < (C : Int)
  · go_enter Try.func9, Try.ntmps9
    have d1 : ¬ l - (sn : Int) < 0 := by omega
    go_wp2_with fail
    rw [← hW]
    clear hW
    refine (szIntS_any sa sn sc l W hsn h0 h1).mono ?_
    rintro e w2 ⟨rfl, h9⟩
    obtain rfl := h9.symm
    rw [if_neg (by omega)]
    go_wp2_with fail
    refine (szAtomS_any pa pn pc xs (l - sn) _ HZ.out hn (by omega) (by omega) HA.out).mono ?_
    rintro e w3 ⟨rfl, hb⟩
    rw [HC.out, leftOf_no c2]
    go_wp2
    go_ret
    exact ⟨ret_int (leftOf_no (by omega)).symm, B0.trans (hb.mono B0.size)⟩
  · go_enter Try.func9, Try.ntmps9
    have d1 : ¬ l - (sn : Int) < 0 := by omega
    have d2 : ¬ l - (sn : Int) - (C : Int) < 0 := by omega
    go_wp2_with fail
    rw [← hW]
    clear hW
    refine (szIntS_any sa sn sc l W hsn h0 h1).mono ?_
    rintro e w2 ⟨rfl, h9⟩
    obtain rfl := h9.symm
    rw [if_neg (by omega)]
    go_wp2_with fail
    refine (szAtomS_any pa pn pc xs (l - sn) _ HZ.out hn (by omega) (by omega) HA.out).mono ?_
    rintro e w3 ⟨rfl, hb⟩
    rw [HC.out, leftOf_yes (by omega)]
    go_wp2
    go_ret
    exact ⟨ret_int (by rw [leftOf_yes (by omega)]; omega), B0.trans (hb.mono B0.size)⟩

end Go.Proofs.Yteggbamjfhbmfaa
