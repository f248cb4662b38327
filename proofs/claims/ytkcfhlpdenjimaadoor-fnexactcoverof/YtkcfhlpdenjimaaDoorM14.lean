/- Contract of the model's CoverOf. -/
import Derived.Test.YtkcfhlpdenjimaaDoorM13
namespace Go.Proofs.YtkcfhlpdenjimaaDoor
open Go.RowKit

set_option maxRecDepth 100000 in
set_option maxHeartbeats 16000000 in
theorem specCoverOf (a : Option Addr) (n c : Nat) (xs : List Dep) (C : Int) (w : World) (hz : xs.length = n) (hn : n ≤ 1048576) (ha : AtD w a xs) :
    Calls Tryd.prog 31 #[.slice a n c, .int .i64 C] w fun e w' => DepsRet e w' w.heap.size (covB xs C) (covL xs C) ∧ Below w.heap.size w w' := by
  obtain ⟨i0, hi, hz0, hz1, hz2⟩ := info_parts Tryd.infoDepend
  obtain ⟨j0, hj, hy0', hy1, hy2⟩ := info_parts Tryd.infoInt
  have HA := Hid.mk ha
  have HZ := Hid.mk hz
  clear ha hz
  go_enter Tryd.func31, Tryd.ntmps31
  go_wp2_with fail
  refine (specGoodDepends a n c xs C w HZ.out (by omega) HA.out).mono ?_
  rintro e w1 ⟨rfl, B1⟩
  cases hg1 : goodDeps xs C with
  | false =>
    have HB : Hid (covB xs C = false) := by show _ = _; unfold covB; rw [hg1]; rfl
    go_wp2
    exact bodyPost_ret (v := .tuple #[.slice none 0 0, .bool false]) (by simp [results, Tryd.results31, go_sem]) rfl ⟨DepsRet.none _ _ HB.out (covL_no HB.out), B1⟩
  | true =>
    obtain ⟨hC1, hC6, hx10⟩ := goodDeps_C hg1
    obtain ⟨q, hq⟩ : ∃ q : Nat, C = (q : Int) := ⟨C.toNat, by omega⟩
    have hq6 : q ≤ 6 := by omega
    have hq1 : 1 ≤ q := by omega
    have hall : ∀ d ∈ xs, ris (q : Int) d.1 = true ∧ ris (q : Int) d.2 = true := by
      rw [hq] at hg1
      simp only [goodDeps, allDep, goodDep, Bool.and_eq_true, decide_eq_true_eq, List.all_eq_true] at hg1
      exact hg1.2.2.2
    have HQ := Hid.mk hq
    have hn10 : n ≤ 10 := by have := HZ.out; omega
    have HALL := Hid.mk hall
    have hone : ∀ d ∈ xs, ∀ k ∈ d.2, 0 ≤ k ∧ k < 6 := fun d hd k hk => by have := ris_range (hall d hd).2 k hk; omega
    have HONE := Hid.mk (partA_one xs hone)
    have HPOK := Hid.mk (partA_ok hq6 xs hall)
    have zw1 := B1.size
    have HB1 := Hid.mk B1
    clear hq hall hone B1
    go_wp2_with fail
    go_loopw [6, 28] (fun p i wx => ∃ k : Nat, k ≤ n ∧ i = .int .i64 k ∧ ∃ (r : Option Addr) (m d : Nat) (cells : List Value) (G : Nat → Nat → Prop), p = .slice r m d ∧ (partA (xs.take k)).length = m ∧ Laid RDep wx (From w1.heap.size wx.heap.size) 43 r m d ((partA (xs.take k)).map und) cells G m ∧ w1.heap.size ≤ wx.heap.size ∧ Below w.heap.size w wx) (fun _ i _ => n - (intOf i).toNat)
    case atStart => exact ⟨0, Nat.zero_le _, rfl, none, 0, 0, [], _, rfl, rfl, Laid.none _ _ _ _, Nat.le_refl _, HB1.out⟩
    case round =>
      clear HB1
      obtain ⟨k, hk, rfl, r, m, d, cells, G, rfl, hm, hlaid, zr, hbw⟩ := hrel
      by_cases hlt : k < n
      · obtain ⟨b, off, rfl, hc⟩ := AtD.rowD HA.out (by have := HZ.out; omega)
        obtain ⟨x, hx⟩ : ∃ x, xs[k]? = some x := ⟨_, List.getElem?_eq_getElem (by have := HZ.out; omega)⟩
        obtain ⟨fa, fn, fc, ta, tn, tc, g0, g1, hrd⟩ := hc k x hx
        obtain ⟨⟨t1, t2, t3, t4⟩, ⟨u1, u2, u3, u4⟩⟩ := RDep.at_iff hrd
        have g0 := cell_later (hbw.mono (Nat.le_refl _)) g0
        have g1 := cell_later (hbw.mono (Nat.le_refl _)) g1
        have hgx := HALL.out x (List.mem_of_getElem? hx)
        have told1 := Told.of (by omega) hgx.1
        have told2 := Told.of (by omega) hgx.2
        have hki : (k : Int) < (n : Int) := by omega
        have htn6 : tn ≤ 6 := by rw [← u1]; exact told2.len
        have hfn6 : fn ≤ 6 := by rw [← t1]; exact told1.len
        obtain ⟨M0, hM0⟩ : ∃ M0, partA (xs.take k) = M0 := ⟨_, rfl⟩
        have hpa := HPOK.out k (by have := HZ.out; omega)
        have hon := HONE.out k (by have := HZ.out; omega)
        have HNX : Hid (partA (xs.take (k + 1)) = partT (mk x.1) M0 x.2) := by show _ = _; rw [partA_take hx, hM0]; rfl
        rw [hM0] at hm hlaid hpa hon
        have hm60 : M0.length ≤ 54 := by have := hpa.2; omega
        have HLIM0 := Hid.mk hpa.1
        have HON0 := Hid.mk hon
        have hfl := mk_lim hgx.1
        have HRX := Hid.mk (ris_range hgx.2)
        obtain ⟨W, hW⟩ : ∃ W, W = wr.alloc (.cells #[.slice fa fn fc, .slice ta tn tc] 43) := ⟨_, rfl⟩
        have bW : Below wr.heap.size wr W := by rw [hW]; exact (Below.refl _ _).alloc (Nat.le_refl _) _
        have zW : wr.heap.size < W.heap.size := by rw [hW]; simp
        have kW : W.heap[wr.heap.size]? = some (.cells #[.slice fa fn fc, .slice ta tn tc] 43 (0, 0)) := by rw [hW]; exact heap_alloc_new wr _
        have HLA := Hid.mk ((hlaid.below bW).mono (F' := From w1.heap.size W.heap.size) (fun b h => ⟨h.1, by have := h.2; omega⟩))
        have HM := Hid.mk hm
        have HB := Hid.mk (hbw.trans (bW.mono hbw.size))
        have HOB : Hid (∀ b, (Value.slice r m d).ownBlock = some b → b ≠ wr.heap.size) := fun b hb e => by have := (hlaid.outerF b hb).2; omega
        obtain ⟨P, hP⟩ : ∃ P, P = wr.heap.size := ⟨_, rfl⟩
        have cT := blk_cell kW 1 (v := .slice ta tn tc) rfl
        rw [hW] at cT
        rw [← hP] at kW HOB zW zr
        have HT1 := Hid.mk (And.intro t1 (And.intro t3 (And.intro t4 told1)))
        have HT2 := Hid.mk (And.intro u1 (And.intro u3 told2))
        have HKW := Hid.mk kW
        clear hc hx hrd t1 t3 t4 u1 u3 u4 told1 told2 hlaid hm hbw bW hM0 hpa hgx hon kW
        go_wp2_with fail
        rw [← hW, ← hP]
        clear hW hP cT
        go_loopw [6, 35] (fun p i wx => ∃ (j : Nat) (r : Option Addr) (m d : Nat) (cells : List Value) (G : Nat → Nat → Prop), j ≤ tn ∧ i = .int .i64 j ∧ p = .slice r m d ∧ (partT (mk x.1) M0 (x.2.take j)).length = m ∧ Laid RDep wx (From w1.heap.size wx.heap.size) 43 r m d ((partT (mk x.1) M0 (x.2.take j)).map und) cells G m ∧ (∀ b, (Value.slice r m d).ownBlock = some b → b ≠ P) ∧ wx.heap[P]? = some (.cells #[.slice fa fn fc, .slice ta tn tc] 43 (0, 0)) ∧ w1.heap.size ≤ wx.heap.size ∧ Below w.heap.size w wx) (fun _ i _ => tn - (intOf i).toNat)
        case atStart => exact ⟨0, r, m, d, cells, G, Nat.zero_le _, rfl, rfl, HM.out, HLA.out, HOB.out, HKW.out, by omega, HB.out⟩
        case round =>
          clear HLA HM HB HOB HKW
          obtain ⟨j, r, m, d, cells, G, hjt, rfl, rfl, hm, hlaid, hob, hkz, zz, hbz⟩ := hrel
          by_cases hjlt : j < tn
          · have hat := At.below HT2.out.2.1 hbz
            obtain ⟨b2, off2, rfl, hb2, hc2⟩ := hat.some (by have := HT2.out.1; omega)
            have hcx := hc2 j (by have := HT2.out.1; omega)
            have hin := HT2.out.2.2.in (x.2.getD j 0) (by simp [List.getD, show j < x.2.length by have := HT2.out.1; omega])
            have hnx := partT_take (f := mk x.1) (M := M0) (ks := x.2) (j := j) (by have := HT2.out.1; omega)
            have hrt : ∀ k ∈ x.2.take j, 0 ≤ k ∧ k < (q : Int) := fun k hk => HRX.out k (List.mem_of_mem_take hk)
            have hlim1 := partT_lim (ks := x.2.take j) HLIM0.out hfl hrt
            have hone1 := partT_one (f := mk x.1) (ks := x.2.take j) HON0.out (fun k hk => by have := hrt k hk; omega)
            obtain ⟨M1, hM1⟩ : ∃ M1, partT (mk x.1) M0 (x.2.take j) = M1 := ⟨_, rfl⟩
            obtain ⟨y, hy⟩ : ∃ y, y = x.2.getD j 0 := ⟨_, rfl⟩
            rw [← hy] at hcx hin hnx
            rw [hM1] at hm hlaid hnx hlim1 hone1
            have hml : M1.length ≤ 60 := by rw [← hM1]; have h9 := partT_len (mk x.1) M0 (x.2.take j); rw [List.length_take] at h9; omega
            have HF64 := Hid.mk HT1.out.2.2.2.lt
            have HFB := Hid.mk HT1.out.2.2.2.is
            obtain ⟨F, hF⟩ : ∃ F, mk x.1 = F := ⟨_, rfl⟩
            rw [hF] at hnx HF64 HFB
            have hy0 := hin.1
            have hy6 := hin.2
            have HNX1 := Hid.mk hnx
            have HM1 := Hid.mk hm
            have HFE := Hid.mk hF
            have HLIM1 := Hid.mk hlim1
            have HONE1 := Hid.mk hone1
            have HOB1 := Hid.mk hob
            have hm60 : m ≤ 60 := by rw [← hm]; exact hml
            have hji : (j : Int) < (tn : Int) := by omega
            have HLA1 := Hid.mk hlaid
            have HK1 := Hid.mk hkz
            have HB1 := Hid.mk hbz
            clear hc2 hat hm hlaid hob hkz hbz hin hnx hy hM1 hF hlim1 hone1 hrt
            go_wp2_with fail
            go_loopw [11, 41] (fun fl i wx => ∃ t : Nat, t ≤ m ∧ i = .int .i64 t ∧ fl = .bool (seenT (F, 2 ^ y.toNat) M1 t) ∧ Laid RDep wx (From w1.heap.size wx.heap.size) 43 r m d (M1.map und) cells G m ∧ wx.heap[P]? = some (.cells #[.slice fa fn fc, .slice (some ⟨b2, off2, none⟩) tn tc] 43 (0, 0)) ∧ w1.heap.size ≤ wx.heap.size ∧ Below w.heap.size w wx) (fun _ i _ => m - (intOf i).toNat)
            case atStart => exact ⟨0, Nat.zero_le _, rfl, by rw [seenT_zero], HLA1.out, HK1.out, zz, HB1.out⟩
            case round =>
              clear HLA1 HK1 HB1 hcx hb2 zz
              obtain ⟨t, htm, rfl, rfl, hlaid, hkz, zz, hbz⟩ := hrel
              by_cases htlt : t < m
              · obtain ⟨g, rfl, hgl, hgF, hcap⟩ := laid_some hlaid (by omega)
                obtain ⟨⟨p1, p2⟩, hp⟩ : ∃ p, M1[t]? = some p := ⟨_, List.getElem?_eq_getElem (by have := HM1.out; omega)⟩
                obtain ⟨ga, gn, gc, ha', hn', hc', hsub, c0, c1, hown⟩ := laid_row hlaid (und_at hp)
                obtain ⟨⟨a1, a2, a3, a4⟩, ⟨b1, b2', b3, b4⟩⟩ := RDep.at_iff (RDep.toAt hown)
                obtain ⟨cc, hcc6, hpc⟩ := HONE1.out _ (List.mem_of_getElem? hp)
                simp only at hpc a1 a3 b1 b3
                subst hpc
                rw [bl_one_all cc hcc6] at b1 b3
                obtain rfl : 1 = hn' := b1
                obtain ⟨b5, off5, rfl, hb5, hc5⟩ := b3.some (by simp)
                have hc50 := hc5 0 (by simp)
                simp only [List.getD_cons_zero, Nat.add_zero] at hc50
                have hp64 := (HLIM1.out.sets hq6 _ (List.mem_of_getElem? hp)).1
                simp only at hp64
                have hti : (t : Int) < (m : Int) := by omega
                have HP := Hid.mk hp
                obtain ⟨W, hW⟩ : ∃ W, W = wr.alloc (.cells #[.slice ga gn gc, .slice (some ⟨b5, off5, none⟩) 1 hc'] 43) := ⟨_, rfl⟩
                have bW : Below wr.heap.size wr W := by rw [hW]; exact (Below.refl _ _).alloc (Nat.le_refl _) _
                have zW : wr.heap.size < W.heap.size := by rw [hW]; simp
                have cF := cell_later bW (blk_cell hkz 0 (v := .slice fa fn fc) rfl)
                have d50 := cell_later bW hc50
                have HKW := Hid.mk (blk_below hkz bW)
                have HLW := Hid.mk ((hlaid.below bW).mono (F' := From w1.heap.size W.heap.size) (fun b h => ⟨h.1, by have := h.2; omega⟩))
                have HBW := Hid.mk (hbz.trans (bW.mono hbz.size))
                have KS := Hid.mk (l7Same_any ga gn gc (bl p1) fa fn fc x.1 W a1 a2 (At.below a3 bW) HT1.out.1 t2 (At.below HT1.out.2.1 HBW.out))
                have HE := Hid.mk (same_bl hp64 HF64.out a1 HFB.out HT1.out.1)
                rw [hW] at cF d50
                clear hc5 hlaid hkz hbz hp hsub hown a1 a3 a4 b3 b4 hc50 bW
                cases hfl : seenT (F, 2 ^ y.toNat) M1 t with
                | true =>
                  have HS := Hid.mk (seenT_yes HP.out hfl)
                  go_wp2
                  rw [← hW]
                  clear hW cF d50
                  go_roundw
                  case rel => exact ⟨t + 1, by omega, by go_num, by rw [HS.out], HLW.out, HKW.out, by omega, HBW.out⟩
                  case measure => simp [intOf]; omega
                | false =>
                  by_cases hyc : (cc : Int) = y
                  · have HS := Hid.mk (seenT_eq HP.out hyc hfl)
                    have hbe : ((cc : Int) == y) = true := beq_iff_eq.2 hyc
                    clear hyc
                    go_wp2_with fail
                    rw [← hW]
                    clear hW cF d50
                    refine KS.out.mono ?_
                    rintro e w3 ⟨rfl, rfl⟩
                    rw [HE.out, ← HS.out]
                    go_wp2
                    go_roundw
                    case rel => exact ⟨t + 1, by omega, by go_num, rfl, HLW.out, HKW.out, by omega, HBW.out⟩
                    case measure => simp [intOf]; omega
                  · have HS := Hid.mk (seenT_ne (F := F) HP.out hy0 hyc)
                    have hbe : ((cc : Int) == y) = false := beq_eq_false_iff_ne.2 hyc
                    clear hyc
                    go_wp2
                    rw [← hW]
                    clear hW cF d50
                    go_roundw
                    case rel => exact ⟨t + 1, by omega, by go_num, by rw [HS.out, hfl], HLW.out, HKW.out, by omega, HBW.out⟩
                    case measure => simp [intOf]; omega
              · obtain rfl : t = m := by omega
                cases hin : seenT (F, 2 ^ y.toNat) M1 t with
                | true =>
                  have HSAME : Hid (partT F M0 (x.2.take (j + 1)) = M1) := by
                    show _ = _
                    rw [seenT_all HM1.out] at hin
                    rw [HNX1.out]; unfold addT; rw [if_pos (of_decide_eq_true hin)]
                  have HLA2 := Hid.mk hlaid
                  have HK2 := Hid.mk hkz
                  have HB2 := Hid.mk hbz
                  clear hlaid hkz hbz
                  go_wp2
                  go_roundw
                  case rel => exact ⟨j + 1, r, t, d, cells, G, by omega, by go_num, rfl, by rw [HFE.out, HSAME.out]; exact HM1.out, by rw [HFE.out, HSAME.out]; exact HLA2.out, HOB1.out, HK2.out, zz, HB2.out⟩
                  case measure => simp [intOf]; omega
                | false =>
                  have HNEW : Hid (partT F M0 (x.2.take (j + 1)) = M1 ++ [(F, 2 ^ y.toNat)]) := by
                    show _ = _
                    rw [seenT_all HM1.out] at hin
                    rw [HNX1.out]; unfold addT; rw [if_neg (of_decide_eq_false hin)]
                  have HUND : Hid (und (F, 2 ^ y.toNat) = (x.1, [y])) := by
                    show _ = _
                    unfold und
                    rw [bl_one_all y.toNat (by omega), HFB.out]
                    simp; omega
                  have HLA2 := Hid.mk hlaid
                  have HB2 := Hid.mk hbz
                  have HK2 := Hid.mk hkz
                  have hPl := (Array.getElem?_eq_some_iff.1 hkz).1
                  have cF := cell_later ((Below.refl wr.heap.size wr).alloc (Nat.le_refl _) (.cells #[] 3)) (blk_cell hkz 0 (v := .slice fa fn fc) rfl)
                  have OE := Hid.mk (owns_void wr 3 1)
                  have HFA := Hid.mk (At.alloc (At.below HT1.out.2.1 hbz) (.cells #[] 3))
                  clear hlaid hkz hbz
                  go_wp2_with (at_builtin; refine wpList_append_all rfl (.tmp 65) (.tmp 67) 23 rfl wr.heap.size 3 j0 (.int .i64 0) 8 Tryd.underlying23 hj hy0' hy1 hy2 rfl (.slice (some ⟨wr.heap.size, 0, none⟩) 0 0) 0 [] rfl OE.out fa fn fc x.1 rfl HT1.out.1 HFA.out HT1.out.2.2.1 (by unfold maxLen; omega) (by omega) (by simp) ?_)
                  intro r1 d1 w2 ho1 hg1
                  have B1 : Below wr.heap.size wr w2 := ((Below.refl _ _).alloc (Nat.le_refl _) _).grown hg1 (by simp) (fun j hj => by simp [Value.ownBlock] at hj; omega)
                  (try simp only [Nat.zero_add, List.nil_append] at ho1)
                  (try simp only [Nat.zero_add])
                  obtain ⟨V, hV⟩ : ∃ V, V = w2.alloc (.cells #[.int .i64 y] 3) := ⟨_, rfl⟩
                  have zV : V.heap.size = w2.heap.size + 1 := by rw [hV]; simp
                  have HZV := Hid.mk zV
                  have bV : Below w2.heap.size w2 V := by rw [hV]; exact (Below.refl _ _).alloc (Nat.le_refl _) _
                  have oV : V.ownsRow w2.heap.size 3 1 (.slice (some ⟨w2.heap.size, 0, none⟩) 1 1) 1 [.int .i64 y] := by rw [hV]; exact owns_one _ _ _
                  have hRD : RDep.Own V (From wr.heap.size V.heap.size) [.slice r1 fn d1, .slice (some ⟨w2.heap.size, 0, none⟩) 1 1] (und (F, 2 ^ y.toNat)) := by
                    rw [HUND.out]
                    exact RDep.own_mk (RInts.ownBelow (RInts.of_owns HT1.out.1 t2 ho1) bV) (RInts.of_owns (zs := [y]) rfl (by omega) oV)
                      (fun b h => ⟨h.1, by have h1 := h.2; omega⟩) (fun b h => ⟨by have h1 := h.1; have := B1.size; omega, h.2⟩)
                      (fun b h1 h2 => by have h3 := h1.2; have h4 := h2.1; omega)
                  have HRD := Hid.mk hRD
                  have BV := Hid.mk (B1.trans (bV.mono B1.size))
                  have hbase := laid_base HLA2.out
                  have HBASE := Hid.mk hbase
                  have z2 := B1.size
                  have zV' : w2.heap.size < V.heap.size := by omega
                  have HOV := Hid.mk ((owns_below hbase BV.out).alloc (.cells #[.slice r1 fn d1, .slice (some ⟨w2.heap.size, 0, none⟩) 1 1] 43))
                  have HNA := Hid.mk (news_at V #[.slice r1 fn d1, .slice (some ⟨w2.heap.size, 0, none⟩) 1 1] 43)
                  rw [HZV.out] at HNA
                  rw [hV] at HOV HNA
                  clear ho1 hg1 B1 bV oV hRD zV OE HFA cF
                  go_wp2_with (at_builtin; refine wpList_app_vals rfl (.tmp 64) (.tmp 72) 27 rfl w1.heap.size 43 i0 (.agg #[.slice none 0 0, .slice none 0 0]) 2 48 Tryd.underlying27 hi hz0 hz1 hz2 rfl (by decide) (.slice r t d) t cells rfl HOV.out (some ⟨w2.heap.size + 1, 0, none⟩) 1 1 [.slice r1 fn d1, .slice (some ⟨w2.heap.size, 0, none⟩) 1 1] rfl rfl (fun ad he => by cases he; exact HNA.out) (by intro u hu; simp at hu; rcases hu with rfl | rfl <;> rfl) (fun h => by cases h) (by unfold maxLen; omega) (by omega) (by simp; omega) ?_)
                  intro r7 d7 w7 ho7 hg7 ht7
                  rw [← hV] at hg7
                  have hfar : ∀ b, b < V.heap.size → (Value.slice r t d).ownBlock ≠ some b → w7.heap[b]? = V.heap[b]? := fun b hb hn => (hg7.block b (by simp; omega) (fun e => hn e.symm)).trans (Below.heap_alloc V _ b hb)
                  have z7 : V.heap.size < w7.heap.size := by have h9 := hg7.size; simp at h9; omega
                  have ht7' : (Value.slice r7 (t + 1) d7).ownBlock = (Value.slice r t d).ownBlock ∨ (Value.slice r7 (t + 1) d7).ownBlock = some (V.heap.size + 1) := by
                    rcases ht7 with h9 | h9
                    · exact .inl h9
                    · refine .inr (h9.trans ?_); rw [HZV.out]
                  have hpush := HLA2.out.push (F' := From w1.heap.size w7.heap.size) (fun b h => h.2) BV.out HRD.out (fun b h => h) hfar (owns_mono ho7 (Nat.zero_le _)) (by
                    rcases ht7' with h9 | h9
                    · exact .inl h9
                    · refine .inr (fun b e => ?_)
                      rw [h9] at e
                      simp at e
                      omega) (by omega) (fun b h => ⟨h.1, by have := h.2; omega⟩) (fun b h => ⟨by have := h.1; omega, by have := h.2; omega⟩) (fun b h => ho7.lt b h)
                  obtain ⟨G', HL'⟩ : ∃ G', Hid (Laid RDep w7 (From w1.heap.size w7.heap.size) 43 r7 (t + 1) d7 ((partT F M0 (x.2.take (j + 1))).map und) (cells ++ [.slice r1 fn d1, .slice (some ⟨w2.heap.size, 0, none⟩) 1 1]) G' (t + 1)) := by
                    rw [HNEW.out, List.map_append]
                    exact ⟨_, Hid.mk hpush⟩
                  have HB7 : Hid (Below w.heap.size w w7) := ((HB2.out.trans (BV.out.mono HB2.out.size)).alloc (by have := HB2.out.size; omega) _).grown hg7 (by have := HB2.out.size; simp; omega) (fun j hj => by have h1 := (HBASE.out.lt j hj).1; omega)
                  have HOB7 : Hid (∀ b, (Value.slice r7 (t + 1) d7).ownBlock = some b → b ≠ P) := fun b hb e => by
                    rcases ht7' with h9 | h9
                    · exact HOB1.out b (h9 ▸ hb) e
                    · rw [h9] at hb; simp at hb; omega
                  have HK7 : Hid (w7.heap[P]? = some (.cells #[.slice fa fn fc, .slice (some ⟨b2, off2, none⟩) tn tc] 43 (0, 0))) := (hfar P (by omega) (fun e => HOB1.out P e rfl)).trans (blk_below HK2.out BV.out)
                  have HLN : Hid ((partT F M0 (x.2.take (j + 1))).length = t + 1) := by show _ = _; rw [HNEW.out]; have := HM1.out; simp; omega
                  clear hpush hfar ho7 hg7 ht7 ht7' HLA2 HK2 HB2 HRD BV HOV HNA HBASE hbase hV
                  go_wp2
                  go_roundw
                  case rel => exact ⟨j + 1, r7, t + 1, d7, _, G', by omega, by go_num, rfl, by rw [HFE.out]; exact HLN.out, by rw [HFE.out]; exact HL'.out, HOB7.out, HK7.out, by omega, HB7.out⟩
                  case measure => simp [intOf]; omega
          · obtain rfl : j = tn := by omega
            rw [List.take_of_length_le (by have := HT2.out.1; omega), ← HNX.out] at hm hlaid
            have HM1 := Hid.mk hm
            have HLA1 := Hid.mk hlaid
            have hji : ¬ (j : Int) < (j : Int) := by omega
            clear hm hlaid
            go_wp2
            go_roundw
            case rel => exact ⟨k + 1, by omega, by go_num, r, m, d, cells, G, rfl, HM1.out, HLA1.out, zz, hbz⟩
            case measure => simp [intOf]; omega
      · obtain rfl : k = n := by omega
        rw [List.take_of_length_le (by have := HZ.out; omega)] at hm hlaid
        obtain ⟨N, hN⟩ : ∃ N, partA xs = N := ⟨_, rfl⟩
        have hpk := HPOK.out xs.length (Nat.le_refl _)
        rw [List.take_length, hN] at hpk
        rw [hN] at hm hlaid
        have HCM : Hid (coverM xs = dropA (lessA N N.length)) := by show _ = _; unfold coverM; rw [hN]
        have HLN := Hid.mk hpk.1
        have hm60 : m ≤ 60 := by have h1 := hpk.2; have h2 := HZ.out; omega
        have HMN := Hid.mk hm
        have HLA0 := Hid.mk hlaid
        have HB0 := Hid.mk hbw
        have hki : ¬ (k : Int) < (k : Int) := by omega
        clear hm hlaid hbw hN hpk HPOK HONE HALL
        go_wp2_with fail
        go_loopw [78] (fun i wx => ∃ (k : Nat) (cells : List Value) (G : Nat → Nat → Prop), k ≤ m ∧ i = .int .i64 k ∧ Laid RDep wx (From w1.heap.size wx.heap.size) 43 r m d ((lessA N k).map und) cells G m ∧ w1.heap.size ≤ wx.heap.size ∧ Below w.heap.size w wx) (fun i _ => m - (intOf i).toNat)
        case atStart => exact ⟨0, cells, G, Nat.zero_le _, rfl, HLA0.out, zr, HB0.out⟩
        case round =>
          clear HLA0 HB0 zr hki
          obtain ⟨k, cells, G, hk, rfl, hlaid, zr, hbw⟩ := hrel
          by_cases hlt : k < m
          · obtain ⟨g, rfl, hgl, hgF, hcap⟩ := laid_some hlaid (by omega)
            obtain ⟨hlim, hlen⟩ := lessA_ok HLN.out k (by have := HMN.out; omega)
            have HNX : Hid (lessA N (k + 1) = lessL k (lessA N k) (bl (tatT (lessA N k) k).1)) := lessA_succ N k
            obtain ⟨M1, hM1⟩ : ∃ M1, lessA N k = M1 := ⟨_, rfl⟩
            rw [hM1] at hlaid hlim hlen HNX
            have hlen' : M1.length = m := hlen.trans HMN.out
            obtain ⟨⟨f0, t0⟩, hp⟩ : ∃ p, M1[k]? = some p := ⟨_, List.getElem?_eq_getElem (by omega)⟩
            rw [tatT_of hp] at HNX
            obtain ⟨fa, fn, fc, ta, tn, tc, hsub, c0, c1, hown⟩ := laid_row hlaid (und_at hp)
            obtain ⟨⟨a1, a2, a3, a4⟩, _⟩ := RDep.at_iff (RDep.toAt hown)
            simp only at a1 a3
            have hfn6 : fn ≤ 6 := by rw [← a1]; exact bl_len f0
            have hki : (k : Int) < (m : Int) := by omega
            have c0 := cell_later ((Below.refl wr.heap.size wr).alloc (Nat.le_refl _) (.cells #[] 3)) c0
            have OE := Hid.mk (owns_void wr 3 1)
            have HFA := Hid.mk (At.alloc a3 (.cells #[] 3))
            have HA1 := Hid.mk a1
            have HA4 := Hid.mk a4
            have HLA := Hid.mk hlaid
            have HB := Hid.mk hbw
            have HLIM := Hid.mk hlim
            have HLEN := Hid.mk hlen'
            clear hlaid hbw hlim hlen hlen' hsub hown a1 a3 a4 c1 hp hM1
            go_wp2_with (at_builtin; refine wpList_append_all rfl (.tmp 81) (.tmp 86) 23 rfl wr.heap.size 3 j0 (.int .i64 0) 8 Tryd.underlying23 hj hy0' hy1 hy2 rfl (.slice (some ⟨wr.heap.size, 0, none⟩) 0 0) 0 [] rfl OE.out fa fn fc (bl f0) rfl HA1.out HFA.out HA4.out (by unfold maxLen; omega) (by omega) (by simp) ?_)
            intro rl dl w2 hol hg1
            (try simp only [Nat.zero_add, List.nil_append] at hol)
            (try simp only [Nat.zero_add])
            have B1 : Below wr.heap.size wr w2 := ((Below.refl _ _).alloc (Nat.le_refl _) _).grown hg1 (by simp) (fun j hj => by simp [Value.ownBlock] at hj; omega)
            have HLA2 := Hid.mk ((HLA.out.below B1).mono (F' := From w1.heap.size w2.heap.size) (fun b h => ⟨h.1, by have := h.2; have := B1.size; omega⟩))
            have HB2 := Hid.mk (HB.out.trans (B1.mono HB.out.size))
            have z2 := B1.size
            obtain ⟨L, hL⟩ : ∃ L, L = wr.heap.size := ⟨_, rfl⟩
            rw [← hL] at hol hgl z2 zr
            have HOL := Hid.mk hol
            clear hol hg1 B1 hL OE HFA c0 HLA HB
            go_wp2_with fail
            go_loopw [89] (fun i wx => ∃ (j : Nat) (cells : List Value) (G : Nat → Nat → Prop), j ≤ fn ∧ i = .int .i64 j ∧ Laid RDep wx (From w1.heap.size wx.heap.size) 43 (some ⟨g, 0, none⟩) m d ((lessL k M1 ((bl f0).take j)).map und) cells G m ∧ wx.ownsRow L 3 1 (.slice rl fn dl) fn ((bl f0).map (.int .i64)) ∧ L ≤ wx.heap.size ∧ Below w.heap.size w wx) (fun i _ => fn - (intOf i).toNat)
            case atStart => exact ⟨0, cells, G, Nat.zero_le _, rfl, HLA2.out, HOL.out, z2, HB2.out⟩
            case round =>
              clear HLA2 HOL HB2 z2
              obtain ⟨j, cells, G, hj', rfl, hlaid, hol, zL, hbz⟩ := hrel
              by_cases hjlt : j < fn
              · have hat : At wr rl (bl f0) := At.owned hol
                obtain ⟨b2, off2, rfl, hb2, hc2⟩ := hat.some (by have := HA1.out; omega)
                have hcx := hc2 j (by have := HA1.out; omega)
                have hin := bl_in (s := f0) (x := (bl f0).getD j 0) (by simp [List.getD, show j < (bl f0).length by have := HA1.out; omega])
                have hnx := lessL_take (i := k) (M := M1) (cs := bl f0) (j := j) (by have := HA1.out; omega)
                have hlim2 := lessL_lim (i := k) ((bl f0).take j) HLIM.out (by have := HLEN.out; omega)
                have hlen2 := lessL_len k M1 ((bl f0).take j)
                obtain ⟨M2, hM2⟩ : ∃ M2, lessL k M1 ((bl f0).take j) = M2 := ⟨_, rfl⟩
                obtain ⟨y, hy⟩ : ∃ y, y = (bl f0).getD j 0 := ⟨_, rfl⟩
                rw [← hy] at hcx hin hnx
                rw [hM2] at hlaid hnx hlim2 hlen2
                have hlen3 : M2.length = m := hlen2.trans HLEN.out
                obtain ⟨⟨f, t⟩, hp⟩ : ∃ p, M2[k]? = some p := ⟨_, List.getElem?_eq_getElem (by omega)⟩
                obtain ⟨ga, gn, gc, ta, tn, tc, hsub, c0, c1, hown⟩ := laid_row hlaid (und_at hp)
                obtain ⟨⟨a1, a2', a3, a4⟩, _⟩ := RDep.at_iff (RDep.toAt hown)
                simp only at a1 a3
                have hp64 := hlim2.sets hq6 _ (List.mem_of_getElem? hp)
                simp only at hp64
                unfold lessC at hnx
                rw [tatT_of hp] at hnx
                simp only at hnx
                have hgn6 : gn ≤ 6 := by rw [← a1]; exact bl_len f
                have hy0 := hin.1
                have hy6 := hin.2
                have hji : (j : Int) < (fn : Int) := by omega
                have hki : (k : Int) < (m : Int) := by omega
                have hf64 := hp64.1
                have ht64 := hp64.2
                have HNX1 := Hid.mk hnx
                have HLA3 := Hid.mk hlaid
                have HOL3 := Hid.mk hol
                have HB3 := Hid.mk hbz
                have HLIM2 := Hid.mk hlim2
                have HLEN3 := Hid.mk hlen3
                have HP := Hid.mk hp
                have HTO := Hid.mk (dep_to hown)
                have HGA := Hid.mk a3
                have HGN := Hid.mk a1
                have HC01 := Hid.mk (And.intro c0 c1)
                clear hc2 hat hlaid hol hbz hin hnx hlim2 hlen2 hlen3 hM2 hy hp hown a1 a3 a4 c1 hp64 hsub
                go_wp2_with fail
                go_loopw [17, 99] (fun p i wx => ∃ (s : Nat) (r3 : Option Addr) (m3 d3 : Nat), s ≤ gn ∧ i = .int .i64 s ∧ p = .slice r3 m3 d3 ∧ (lessf y (bl f) s).length = m3 ∧ wx.ownsRow wr.heap.size 3 1 (.slice r3 m3 d3) m3 ((lessf y (bl f) s).map (.int .i64)) ∧ Below wr.heap.size wr wx) (fun _ i _ => gn - (intOf i).toNat)
                case atStart => exact ⟨0, none, 0, 0, Nat.zero_le _, rfl, rfl, by rw [lessf_zero]; rfl, by rw [lessf_zero]; exact World.ownsRow_nil _ _ _ _, Below.refl _ _⟩
                case round =>
                  clear hcx hb2 c0
                  obtain ⟨s, r3, m3, d3, hs, rfl, rfl, hm3, ho3, hb3⟩ := hrel
                  have hm36 : m3 ≤ 6 := by rw [← hm3]; exact Nat.le_trans (lessf_len _ _ _) (bl_len f)
                  by_cases hslt : s < gn
                  · have hat := At.below HGA.out hb3
                    obtain ⟨b5, off5, rfl, hb5, hc5⟩ := hat.some (by have := HGN.out; omega)
                    have hcv := hc5 s (by have := HGN.out; omega)
                    have hyes := lessf_yes (y := y) (l := bl f) (s := s) (by have := HGN.out; omega)
                    have hno := lessf_no (y := y) (l := bl f) (s := s) (by have := HGN.out; omega)
                    obtain ⟨v, hv⟩ : ∃ v, v = (bl f).getD s 0 := ⟨_, rfl⟩
                    rw [← hv] at hcv hyes hno
                    have hsi : (s : Int) < (gn : Int) := by omega
                    have HO3 := Hid.mk ho3
                    have HBX := Hid.mk hb3
                    have HM3 := Hid.mk hm3
                    have z3 := hb3.size
                    clear hat hc5 hv ho3 hb3 hm3
                    by_cases hvy : v = y
                    · have HS := Hid.mk (hno hvy)
                      clear hyes hno
                      subst hvy
                      go_wp2
                      go_roundw
                      case rel => exact ⟨s + 1, r3, m3, d3, by omega, by go_num, rfl, by rw [HS.out]; exact HM3.out, by rw [HS.out]; exact HO3.out, HBX.out⟩
                      case measure => simp [intOf]; omega
                    · have HS := Hid.mk (hyes hvy)
                      have hbe : (v == y) = false := beq_eq_false_iff_ne.2 hvy
                      clear hyes hno
                      go_wp2_with (at_builtin; refine wpList_append_lies _ rfl (.tmp 106) (.tmp 108) 23 rfl _ 3 j0 (.int .i64 0) 1 8 Tryd.underlying23 hj hy0' hy1 hy2 rfl (by decide) _ _ _ rfl (HO3.out.alloc _) ⟨wr.heap.size, 0, none⟩ 1 1 [.int .i64 v] rfl rfl (news_at wr _ _) (by intro u hu; simp at hu; subst hu; rfl) (by decide) (by unfold maxLen; omega) (by omega) (by simp; omega) (wr.heap.size + 1) (by simp) ?_)
                      intro g6 cap6 w6 ho6 hg6 hat6 hlt6
                      have HB6 := Hid.mk ((HBX.out.alloc z3 _).grown hg6 (by simp; omega) (fun j hj => (HO3.out.lt j hj).1))
                      have e6 : (lessf y (bl f) (s + 1)).map (Value.int .i64) = (lessf y (bl f) s).map (Value.int .i64) ++ [.int .i64 v] := by rw [HS.out, List.map_append]; rfl
                      rw [← e6] at ho6
                      have HO6 := Hid.mk ho6
                      clear ho6 hg6 hat6 HO3 HBX e6
                      go_wp2
                      go_roundw
                      case rel => exact ⟨s + 1, _, m3 + 1, _, by omega, by go_num, rfl, by rw [HS.out]; have := HM3.out; simp; omega, HO6.out, HB6.out⟩
                      case measure => simp [intOf]; omega
                  · obtain rfl : s = gn := by omega
                    rw [lessf_all hf64 hy0 hy6 HGN.out] at hm3 ho3
                    have hwl : wo f y < 64 := wo_lt y hf64
                    have HNX2 := HNX1
                    obtain ⟨E, hE⟩ : ∃ E, wo f y = E := ⟨_, rfl⟩
                    rw [hE] at hm3 ho3 hwl HNX2
                    have d0 := cell_later hb3 HC01.out.1
                    have d1 := cell_later hb3 HC01.out.2
                    have HLA4 := Hid.mk (HLA3.out.below hb3)
                    have HOL4 := Hid.mk (owns_below HOL3.out hb3)
                    have HB4 := Hid.mk (HB3.out.trans (hb3.mono HB3.out.size))
                    have HAT : Hid (RDep.At wr [.slice r3 m3 d3, .slice ta tn tc] (bl E, bl t)) := ⟨[_], [_], rfl, RInts.toAt (RInts.of_owns hm3 (by omega) ho3), RInts.below HTO.out hb3⟩
                    have KI := Hid.mk (l7Implies_any (some ⟨g, 0, none⟩) m d (M2.map und) r3 m3 d3 ta tn tc (bl E, bl t) wr (by rw [List.length_map]; exact HLEN3.out) (by omega) (tolds_und (HLIM2.out.sets hq6)) (laid_atD HLA4.out) (told_bl hwl) (told_bl ht64) HAT.out)
                    rw [impV_und (HLIM2.out.sets hq6) hwl ht64] at KI
                    have HO3 := Hid.mk ho3
                    have HM3 := Hid.mk hm3
                    have z3 := hb3.size
                    have hss : ¬ (s : Int) < (s : Int) := by omega
                    clear hm3 ho3 hb3 hE HAT HNX1 HC01 HLA3 HOL3 HB3 HTO HGA
                    go_wp2_with fail
                    refine KI.out.mono ?_
                    rintro e w5 ⟨rfl, hb5⟩
                    have d0 := cell_later hb5 d0
                    have d1 := cell_later hb5 d1
                    have HLA5 := Hid.mk (HLA4.out.below hb5)
                    have HOL5 := Hid.mk (owns_below HOL4.out hb5)
                    have HO5 := Hid.mk (owns_below HO3.out hb5)
                    have HB5 := Hid.mk (HB4.out.trans (hb5.mono HB4.out.size))
                    have z5 := hb5.size
                    clear hb5 HLA4 HOL4 HO3 HB4 KI
                    cases hr : sb t (clo M2 E) with
                    | false =>
                      have HS : Hid (lessL k M1 ((bl f0).take (j + 1)) = M2) := by show _ = _; rw [HNX2.out, hr]; rfl
                      have HLA6 := Hid.mk (HLA5.out.mono (F' := From w1.heap.size w5.heap.size) (fun b h => ⟨h.1, by have := h.2; omega⟩))
                      go_wp2
                      go_roundw
                      case rel => exact ⟨j + 1, cells, G, by omega, by go_num, by rw [HS.out]; exact HLA6.out, HOL5.out, by omega, HB5.out⟩
                      case measure => simp [intOf]; omega
                    | true =>
                      have HS : Hid (lessL k M1 ((bl f0).take (j + 1)) = M2.set k (E, t)) := by show _ = _; rw [HNX2.out, hr]; rfl
                      have y0 : w5.frozen? ⟨g, k * 2, none⟩ = false := HLA5.out.outer.frozenAt _
                      obtain ⟨cells', G', hl'⟩ := laid_turnF HLA5.out HP.out (by omega) (by omega) HO5.out HM3.out
                      have HL' : Hid (Laid RDep (w5.setCell ⟨g, k * 2, none⟩ (.slice r3 m3 d3)) (From w1.heap.size (w5.setCell ⟨g, k * 2, none⟩ (.slice r3 m3 d3)).heap.size) 43 (some ⟨g, 0, none⟩) m d ((lessL k M1 ((bl f0).take (j + 1))).map und) cells' G' m) := by
                        rw [HS.out]
                        exact Hid.mk (hl'.mono (fun b h => ⟨h.1, by simp [World.setCell]; exact h.2⟩))
                      have HOL6 := Hid.mk (ownsRow_setCell_below HOL5.out (show (⟨g, k * 2, none⟩ : Addr).block < L from hgl) (.slice r3 m3 d3))
                      have HB6 : Hid (Below w.heap.size w (w5.setCell ⟨g, k * 2, none⟩ (.slice r3 m3 d3))) := HB5.out.setCell (by show w.heap.size ≤ g; have := hgF.1; omega) _
                      clear hl' HLA5 HOL5 HB5 HO5
                      go_wp2
                      go_roundw
                      case rel => exact ⟨j + 1, cells', G', by omega, by go_num, HL'.out, HOL6.out, by simp [World.setCell]; omega, HB6.out⟩
                      case measure => simp [intOf]; omega
              · obtain rfl : j = fn := by omega
                rw [List.take_of_length_le (by have := HA1.out; omega), ← HNX.out] at hlaid
                have HLA3 := Hid.mk hlaid
                have hji : ¬ (j : Int) < (j : Int) := by omega
                clear hlaid hol
                go_wp2
                go_roundw
                case rel => exact ⟨k + 1, cells, G, by omega, by go_num, HLA3.out, by omega, hbz⟩
                case measure => simp [intOf]; omega
          · obtain rfl : k = m := by omega
            obtain ⟨hlim, hlen⟩ := lessA_ok HLN.out k (by have := HMN.out; omega)
            have hcm := HCM.out
            rw [HMN.out] at hcm
            obtain ⟨M3, hM3⟩ : ∃ M3, lessA N k = M3 := ⟨_, rfl⟩
            rw [hM3] at hlaid hlim hlen hcm
            have HCM3 := Hid.mk hcm
            have HLIM := Hid.mk hlim
            have HLEN := Hid.mk (hlen.trans HMN.out)
            have HLA3 := Hid.mk hlaid
            have HB3 := Hid.mk hbw
            have hki : ¬ (k : Int) < (k : Int) := by omega
            clear hlaid hbw hlim hlen hcm hM3 HCM HMN HLN
            go_wp2_with fail
            go_loopg [6, 20] k (fun gk p i wx => ∃ (a m : Nat) (M' : List (Nat × Nat)) (r : Option Addr) (d : Nat) (cells : List Value) (G : Nat → Nat → Prop), m = a + gk ∧ M'.length = m ∧ m ≤ 60 ∧ p = .slice r m d ∧ i = .int .i64 a ∧ dropG (M'.length - a) a M' = coverM xs ∧ Lim q M' ∧ Laid RDep wx (From w1.heap.size wx.heap.size) 43 r m d (M'.map und) cells G m ∧ w1.heap.size ≤ wx.heap.size ∧ Below w.heap.size w wx)
            case atStart => exact ⟨0, k, M3, r, d, cells, G, by omega, HLEN.out, hm60, rfl, rfl, HCM3.out.symm, HLIM.out, HLA3.out, zr, HB3.out⟩
            case round =>
              clear HLA3 HB3 zr hki HCM3 HLIM HLEN hm60
              obtain ⟨k, m, M', r, d, cells, G, hmk, hm, hm60, rfl, rfl, hdr, hlim, hlaid, zr, hbw⟩ := hrel
              have HMK := Hid.mk hmk
              have hkm : k ≤ m := by omega
              clear hmk
              by_cases hlt : k < m
              · obtain ⟨g, rfl, hgl, hgF, hcap⟩ := laid_some hlaid (by omega)
                obtain ⟨⟨f, t⟩, hp⟩ : ∃ p, M'[k]? = some p := ⟨_, List.getElem?_eq_getElem (by omega)⟩
                obtain ⟨fa, fn, fc, ta, tn, tc, hsub, c0, c1, hown⟩ := laid_row hlaid (und_at hp)
                have hp64 := hlim.sets hq6 _ (List.mem_of_getElem? hp)
                simp only at hp64
                have hyes := dropG_yes (i := k) (M := M') (by omega)
                have hno := dropG_no (i := k) (M := M') (by omega)
                rw [tatT_of hp] at hyes hno
                simp only at hyes hno
                have hf64 := hp64.1
                have ht64 := hp64.2
                have helen : (M'.eraseIdx k).length = m - 1 := by rw [List.length_eraseIdx, if_pos (by omega), hm]
                have hki : (k : Int) < (m : Int) := by omega
                have hw1 : IntKind.i64.wrap ((k : Int) + 1) = ((k + 1 : Nat) : Int) := by rw [IntWalk.i64_in _ (by omega)]; omega
                have hcl : cells.length = m * 2 := hlaid.outer.1
                have HCL := Hid.mk hcl
                have HONES := Hid.mk (laid_ones hlaid)
                have HCELLS := Hid.mk (laid_cells hlaid)
                have HLA := Hid.mk hlaid
                have HB := Hid.mk hbw
                have HLM := Hid.mk hlim
                have HDR := Hid.mk hdr
                have HYES := Hid.mk hyes
                have HNO := Hid.mk hno
                have HEL := Hid.mk helen
                have HM := Hid.mk hm
                have HAT := Hid.mk (RDep.toAt hown)
                clear hlaid hbw hlim hdr hyes hno helen hp hsub hown hp64 hm hcl
                by_cases hdk : d = k + 1

                · skip
                  have hdk' : k + 1 = d := hdk.symm
                  subst hdk'
                  have hkc : (k : Int) ≤ (k : Int) + 1 := by omega
                  have hk1 : (k : Int) + 1 ≤ (m : Int) := by omega
                  have hk00 : (0 : Int) ≤ (k : Int) + 1 := by omega
                  have hmd : (m : Int) ≤ (k : Int) + 1 := by omega
                  obtain ⟨X, hX⟩ : ∃ X, X = (wr.alloc (.cells #[] 43)).drew := ⟨_, rfl⟩
                  have bX : Below wr.heap.size wr X := by rw [hX]; exact ((Below.refl _ _).alloc (Nat.le_refl _) _).drew
                  have zX : wr.heap.size < X.heap.size := by rw [hX]; show _ < (World.alloc _ _).heap.size; simp
                  have oX : Hid (X.ownsRow wr.heap.size 43 2 (.slice (some ⟨wr.heap.size, 0, none⟩) 0 0) 0 []) := by rw [hX]; exact owns_void wr 43 2
                  have HBX := Hid.mk bX
                  have c0w := c0
                  have c1w := c1
                  have c0 := cell_later bX c0
                  have c1 := cell_later bX c1
                  clear bX
                  go_wp2_with fail
                  refine wp_region_held_drew (S := fun w' => w'.cell? ⟨g, k * 2, none⟩ = some (.slice fa fn fc) ∧ w'.cell? ⟨g, k * 2 + 1, none⟩ = some (.slice ta tn tc)) (by kernel_rfl) ?_ (fun hHeld => ?_)
                  · (try dsimp only)
                    exact ⟨c0w, c1w⟩
                  refine wpAnyH_take (i := 1) (oi := ?_) (v := ?_) ?_ (by kernel_rfl) (by kernel_rfl) (by kernel_rfl) ?_ (Or.inl ⟨?_, ?_⟩) (by assumption) ?_
                  rotate_left 2
                  · (simp only [List.getElem?_toArray, List.getElem?_cons_zero, List.getElem?_cons_succ]; rfl)
                  · exact fun _ _ _ h => h
                  · rfl
                  · (intro wS hSw; (try dsimp only at hSw); go_simp; (try with_reducible rfl))
                  (try simp only [Act.put, List.setIfInBounds_toArray, List.set_cons_zero, List.set_cons_succ])
                  refine wpAnyH_take (i := 2) (oi := ?_) (v := ?_) ?_ (by kernel_rfl) (by kernel_rfl) (by kernel_rfl) ?_ (Or.inl ⟨?_, ?_⟩) (by assumption) ?_
                  rotate_left 2
                  · (simp only [List.getElem?_toArray, List.getElem?_cons_zero, List.getElem?_cons_succ]; rfl)
                  · exact fun _ _ _ h => h
                  · rfl
                  · (intro wS hSw; (try dsimp only at hSw); go_simp; (try with_reducible rfl))
                  (try simp only [Act.put, List.setIfInBounds_toArray, List.set_cons_zero, List.set_cons_succ])
                  refine wpAnyH_take (i := 3) (oi := ?_) (v := ?_) ?_ (by kernel_rfl) (by kernel_rfl) (by kernel_rfl) ?_ (Or.inl ⟨?_, ?_⟩) (by assumption) ?_
                  rotate_left 2
                  · (simp only [List.getElem?_toArray, List.getElem?_cons_zero, List.getElem?_cons_succ]; rfl)
                  · exact fun _ _ _ h => h
                  · rfl
                  · (intro wS hSw; (try dsimp only at hSw); go_simp; (try with_reducible rfl))
                  (try simp only [Act.put, List.setIfInBounds_toArray, List.set_cons_zero, List.set_cons_succ])
                  refine wpAnyH_take (i := 5) (oi := ?_) (v := ?_) ?_ (by kernel_rfl) (by kernel_rfl) (by kernel_rfl) ?_ (Or.inl ⟨?_, ?_⟩) (by assumption) ?_
                  rotate_left 2
                  · (simp only [List.getElem?_toArray, List.getElem?_cons_zero, List.getElem?_cons_succ]; rfl)
                  · exact fun _ _ _ h => h
                  · rfl
                  · (intro wS hSw; (try dsimp only at hSw); go_simp; (try with_reducible rfl))
                  (try simp only [Act.put, List.setIfInBounds_toArray, List.set_cons_zero, List.set_cons_succ])
                  refine wpAnyH_take (i := 6) (oi := ?_) (v := ?_) ?_ (by kernel_rfl) (by kernel_rfl) (by kernel_rfl) ?_ (Or.inl ⟨?_, ?_⟩) (by assumption) ?_
                  rotate_left 2
                  · (simp only [List.getElem?_toArray, List.getElem?_cons_zero, List.getElem?_cons_succ]; rfl)
                  · exact fun _ _ _ h => h
                  · rfl
                  · (intro wS hSw; (try dsimp only at hSw); go_simp; (try with_reducible rfl))
                  (try simp only [Act.put, List.setIfInBounds_toArray, List.set_cons_zero, List.set_cons_succ])
                  refine wpAnyH_take (i := 7) (oi := ?_) (v := ?_) ?_ (by kernel_rfl) (by kernel_rfl) (by kernel_rfl) ?_ (Or.inl ⟨?_, ?_⟩) (by assumption) ?_
                  rotate_left 2
                  · (simp only [List.getElem?_toArray, List.getElem?_cons_zero, List.getElem?_cons_succ]; rfl)
                  · exact fun _ _ _ h => h
                  · rfl
                  · (intro wS hSw; (try dsimp only at hSw); go_simp; (try with_reducible rfl))
                  (try simp only [Act.put, List.setIfInBounds_toArray, List.set_cons_zero, List.set_cons_succ])
                  refine wpAnyH_take (i := 8) (oi := ?_) (v := ?_) ?_ (by kernel_rfl) (by kernel_rfl) (by kernel_rfl) ?_ (Or.inl ⟨?_, ?_⟩) (by assumption) ?_
                  rotate_left 2
                  · (simp only [List.getElem?_toArray, List.getElem?_cons_zero, List.getElem?_cons_succ]; rfl)
                  · exact fun _ _ _ h => h
                  · rfl
                  · (intro wS hSw; (try dsimp only at hSw); go_simp; (try with_reducible rfl))
                  (try simp only [Act.put, List.setIfInBounds_toArray, List.set_cons_zero, List.set_cons_succ])
                  refine wpAnyH_ready (rs := [0]) (by kernel_rfl) (by simp) ?_
                  refine AllReadyH.cons (o := ?_) ?_ (fun K hK => ?_) AllReadyH.nil
                  rotate_left
                  · (simp only [List.getElem?_toArray, List.getElem?_cons_zero]; rfl)
                  go_simp
                  skip
                  (try go_wp2_with fail)
                  refine hK.out _ _ ?_ (fun hHeld' => ?_)
                  · (try dsimp only)
                    exact ⟨cell_later (((Below.refl _ _).alloc (Nat.le_refl _) _).drew) c0w, cell_later (((Below.refl _ _).alloc (Nat.le_refl _) _).drew) c1w⟩
                  clear hK K hHeld
                  have hHeld := hHeld'
                  clear hHeld'
                  (try simp only [Act.put, List.setIfInBounds_toArray, List.set_cons_zero, List.set_cons_succ])
                  (try rw [← hX])
                  (try clear hX)
                  refine wpAnyH_ready (rs := [4]) (by kernel_rfl) (by simp) ?_
                  refine AllReadyH.cons (o := ?_) ?_ (fun K hK => ?_) AllReadyH.nil
                  rotate_left
                  · (simp only [List.getElem?_toArray, List.getElem?_cons_zero, List.getElem?_cons_succ]; rfl)
                  refine step_append_vals rfl (.tmp 131) (.tmp 134) 27 rfl wr.heap.size 43 i0 (.agg #[.slice none 0 0, .slice none 0 0]) 2 48 Tryd.underlying27 hi hz0 hz1 hz2 rfl (by decide) (.slice (some ⟨wr.heap.size, 0, none⟩) 0 0) 0 [] (by simp [Act.eval]) oX.out (some ⟨g, 0, none⟩) k (k + 1) (cells.take (k * 2)) (by simp [Act.eval]) (by rw [List.length_take]; have := HCL.out; omega) (fun ad he j u hu => by cases he; have h9 := HCELLS.out j u (by rw [List.getElem?_take] at hu; split at hu; exact hu; cases hu); rw [Addr.add_lit, Nat.zero_add]; exact cell_later HBX.out h9) (fun u hu => HONES.out u (List.mem_of_mem_take hu)) (fun h => by cases h) (by unfold maxLen; omega) (by omega) (by omega) ?_
                  intro r5 d5 w5 ho5 hg5 ht5
                  (try simp only [Nat.zero_add, List.nil_append] at ho5)
                  (try simp only [Nat.zero_add])
                  have b5 : Below wr.heap.size wr w5 := HBX.out.grown hg5 (by omega) (fun j hj => by simp [Value.ownBlock] at hj; omega)
                  have HB5 := Hid.mk b5
                  have HO5 := Hid.mk ho5
                  have z5 := b5.size
                  have c0 := cell_later b5 c0w
                  have c1 := cell_later b5 c1w
                  clear ho5 hg5 ht5 b5
                  refine hK.out _ _ ?_ (fun hHeld' => ?_)
                  · (try dsimp only)
                    exact ⟨c0, c1⟩
                  clear hK K hHeld
                  have hHeld := hHeld'
                  clear hHeld'
                  (try simp only [Act.put, List.setIfInBounds_toArray, List.set_cons_zero, List.set_cons_succ])
                  refine wpAnyH_ready (rs := [9]) (by kernel_rfl) (by simp) ?_
                  refine AllReadyH.cons (o := ?_) ?_ (fun K hK => ?_) AllReadyH.nil
                  rotate_left
                  · (simp only [List.getElem?_toArray, List.getElem?_cons_zero, List.getElem?_cons_succ]; rfl)
                  refine step_append_vals rfl (.tmp 135) (.tmp 139) 27 rfl wr.heap.size 43 i0 (.agg #[.slice none 0 0, .slice none 0 0]) 2 48 Tryd.underlying27 hi hz0 hz1 hz2 rfl (by decide) (.slice r5 k d5) k (cells.take (k * 2)) (by simp [Act.eval]) HO5.out (some ⟨g, 0, none⟩) (0) (0) ([]) (by simp [Act.eval]) (by rfl) (fun ad he j u hu => by cases hu) (fun u hu => by cases hu) (fun h => by cases h) (by unfold maxLen; omega) (by omega) (by omega) ?_
                  intro r6 d6 w6 ho6 hg6 ht6
                  have b6 : Below wr.heap.size wr w6 := HB5.out.grown hg6 (by omega) (fun j hj => (HO5.out.lt j hj).1)
                  have HB6 := Hid.mk b6
                  have HO6 := Hid.mk ho6
                  have z6 := b6.size
                  have c0 := cell_later b6 c0w
                  have c1 := cell_later b6 c1w
                  clear ho6 hg6 ht6 b6
                  refine hK.out _ _ ?_ (fun hHeld' => ?_)
                  · (try dsimp only)
                    exact ⟨c0, c1⟩
                  clear hK K hHeld
                  have hHeld := hHeld'
                  clear hHeld'
                  (try simp only [Act.put, List.setIfInBounds_toArray, List.set_cons_zero, List.set_cons_succ])
                  refine wpAnyH_take (i := 10) (oi := ?_) (v := ?_) ?_ (by kernel_rfl) (by kernel_rfl) (by kernel_rfl) ?_ (Or.inl ⟨?_, ?_⟩) (by assumption) ?_
                  rotate_left 2
                  · (simp only [List.getElem?_toArray, List.getElem?_cons_zero, List.getElem?_cons_succ]; rfl)
                  · exact fun _ _ _ h => h
                  · rfl
                  · (intro wS hSw; (try dsimp only at hSw); go_simp; (try with_reducible rfl))
                  (try simp only [Act.put, List.setIfInBounds_toArray, List.set_cons_zero, List.set_cons_succ])
                  refine wpAnyH_done (by kernel_rfl) ?_ _
                  (try simp only [Nat.add_zero])
                  (try simp only [Nat.add_zero] at HO6)
                  have HSUM : Hid (k = m - 1) := by show _ = _; omega
                  have HO6' : Hid (w6.ownsRow wr.heap.size 43 2 (.slice r6 (k) d6) (k) (cells.take (k * 2) ++ cells.drop ((k + 1) * 2))) := by
                    show World.ownsRow _ _ _ _ _ _ _
                    rw [List.drop_of_length_le (by have := HCL.out; omega)]; exact HO6.out
                  obtain ⟨cells6, G6, hl6⟩ := laid_wo HLA.out hlt zr HB6.out HO6'.out HSUM.out
                  have HL6 := Hid.mk hl6
                  have HLX := Hid.mk ((HLA.out.below HB6.out).mono (F' := From w1.heap.size w6.heap.size) (fun b h => ⟨h.1, by have := h.2; omega⟩))
                  have HEL' : Hid ((M'.eraseIdx k).length = k) := HEL.out.trans HSUM.out.symm
                  have HBZ := Hid.mk (HB.out.trans (HB6.out.mono HB.out.size))
                  have KI := Hid.mk (l7Implies_any r6 (k) d6 ((M'.eraseIdx k).map und) fa fn fc ta tn tc (bl f, bl t) w6 (by rw [List.length_map]; exact HEL'.out) (by omega) (tolds_und ((HLM.out.erase k).sets hq6)) (laid_atD hl6) (told_bl hf64) (told_bl ht64) (RDep.below HAT.out HB6.out))
                  rw [impV_und ((HLM.out.erase k).sets hq6) hf64 ht64] at KI
                  clear hl6 HO6 HO6' HO5 HB5 HB6 HBX HLA HB HONES HCELLS HCL HAT oX hHeld c0w c1w
                  go_wp2_with fail
                  refine KI.out.mono ?_
                  rintro e w7 ⟨rfl, hb7⟩
                  have HL7 := Hid.mk ((HL6.out.below hb7).mono (F' := From w1.heap.size w7.heap.size) (fun b h => ⟨h.1, by have h1 := h.2; have h2 := hb7.size; omega⟩))
                  have HLX7 := Hid.mk ((HLX.out.below hb7).mono (F' := From w1.heap.size w7.heap.size) (fun b h => ⟨h.1, by have h1 := h.2; have h2 := hb7.size; omega⟩))
                  have HB7 := Hid.mk (HBZ.out.trans (hb7.mono HBZ.out.size))
                  have z7 := hb7.size
                  clear hb7 HL6 HLX HBZ KI c0 c1
                  cases hr : sb t (clo (M'.eraseIdx k) f) with
                  | true =>
                    have HD2 : Hid (dropG ((M'.eraseIdx k).length - k) k (M'.eraseIdx k) = coverM xs) := by show _ = _; rw [← HYES.out hr]; exact HDR.out
                    have HLM2 := Hid.mk (HLM.out.erase k)
                    go_wp2
                    go_roundg (m - 1 - k)
                    case measure => have := HMK.out; omega
                    case rel => exact ⟨k, k, M'.eraseIdx k, r6, d6, cells6, G6, by have := HSUM.out; omega, HEL'.out, by omega, rfl, rfl, HD2.out, HLM2.out, HL7.out, by omega, HB7.out⟩
                  | false =>
                    have HD2 : Hid (dropG (M'.length - (k + 1)) (k + 1) M' = coverM xs) := by show _ = _; rw [← HNO.out hr]; exact HDR.out
                    go_wp2
                    go_roundg (m - (k + 1))
                    case measure => have := HMK.out; omega
                    case rel => exact ⟨k + 1, m, M', _, _, cells, G, by omega, HM.out, hm60, rfl, by go_num, HD2.out, HLM.out, HLX7.out, by omega, HB7.out⟩
                · skip
                  skip
                  have hkc : (k : Int) ≤ (d : Int) := by omega
                  have hk1 : (k : Int) + 1 ≤ (m : Int) := by omega
                  have hk00 : (0 : Int) ≤ (k : Int) + 1 := by omega
                  have hmd : (m : Int) ≤ (d : Int) := by omega
                  have hdk2 : ¬ d = k + 1 := hdk
                  obtain ⟨X, hX⟩ : ∃ X, X = (wr.alloc (.cells #[] 43)).drew := ⟨_, rfl⟩
                  have bX : Below wr.heap.size wr X := by rw [hX]; exact ((Below.refl _ _).alloc (Nat.le_refl _) _).drew
                  have zX : wr.heap.size < X.heap.size := by rw [hX]; show _ < (World.alloc _ _).heap.size; simp
                  have oX : Hid (X.ownsRow wr.heap.size 43 2 (.slice (some ⟨wr.heap.size, 0, none⟩) 0 0) 0 []) := by rw [hX]; exact owns_void wr 43 2
                  have HBX := Hid.mk bX
                  have c0w := c0
                  have c1w := c1
                  have c0 := cell_later bX c0
                  have c1 := cell_later bX c1
                  clear bX
                  go_wp2_with fail
                  refine wp_region_held_drew (S := fun w' => w'.cell? ⟨g, k * 2, none⟩ = some (.slice fa fn fc) ∧ w'.cell? ⟨g, k * 2 + 1, none⟩ = some (.slice ta tn tc)) (by kernel_rfl) ?_ (fun hHeld => ?_)
                  · (try dsimp only)
                    exact ⟨c0w, c1w⟩
                  refine wpAnyH_take (i := 1) (oi := ?_) (v := ?_) ?_ (by kernel_rfl) (by kernel_rfl) (by kernel_rfl) ?_ (Or.inl ⟨?_, ?_⟩) (by assumption) ?_
                  rotate_left 2
                  · (simp only [List.getElem?_toArray, List.getElem?_cons_zero, List.getElem?_cons_succ]; rfl)
                  · exact fun _ _ _ h => h
                  · rfl
                  · (intro wS hSw; (try dsimp only at hSw); go_simp; (try with_reducible rfl))
                  (try simp only [Act.put, List.setIfInBounds_toArray, List.set_cons_zero, List.set_cons_succ])
                  refine wpAnyH_take (i := 2) (oi := ?_) (v := ?_) ?_ (by kernel_rfl) (by kernel_rfl) (by kernel_rfl) ?_ (Or.inl ⟨?_, ?_⟩) (by assumption) ?_
                  rotate_left 2
                  · (simp only [List.getElem?_toArray, List.getElem?_cons_zero, List.getElem?_cons_succ]; rfl)
                  · exact fun _ _ _ h => h
                  · rfl
                  · (intro wS hSw; (try dsimp only at hSw); go_simp; (try with_reducible rfl))
                  (try simp only [Act.put, List.setIfInBounds_toArray, List.set_cons_zero, List.set_cons_succ])
                  refine wpAnyH_take (i := 3) (oi := ?_) (v := ?_) ?_ (by kernel_rfl) (by kernel_rfl) (by kernel_rfl) ?_ (Or.inl ⟨?_, ?_⟩) (by assumption) ?_
                  rotate_left 2
                  · (simp only [List.getElem?_toArray, List.getElem?_cons_zero, List.getElem?_cons_succ]; rfl)
                  · exact fun _ _ _ h => h
                  · rfl
                  · (intro wS hSw; (try dsimp only at hSw); go_simp; (try with_reducible rfl))
                  (try simp only [Act.put, List.setIfInBounds_toArray, List.set_cons_zero, List.set_cons_succ])
                  refine wpAnyH_take (i := 5) (oi := ?_) (v := ?_) ?_ (by kernel_rfl) (by kernel_rfl) (by kernel_rfl) ?_ (Or.inl ⟨?_, ?_⟩) (by assumption) ?_
                  rotate_left 2
                  · (simp only [List.getElem?_toArray, List.getElem?_cons_zero, List.getElem?_cons_succ]; rfl)
                  · exact fun _ _ _ h => h
                  · rfl
                  · (intro wS hSw; (try dsimp only at hSw); go_simp; (try with_reducible rfl))
                  (try simp only [Act.put, List.setIfInBounds_toArray, List.set_cons_zero, List.set_cons_succ])
                  refine wpAnyH_take (i := 6) (oi := ?_) (v := ?_) ?_ (by kernel_rfl) (by kernel_rfl) (by kernel_rfl) ?_ (Or.inl ⟨?_, ?_⟩) (by assumption) ?_
                  rotate_left 2
                  · (simp only [List.getElem?_toArray, List.getElem?_cons_zero, List.getElem?_cons_succ]; rfl)
                  · exact fun _ _ _ h => h
                  · rfl
                  · (intro wS hSw; (try dsimp only at hSw); go_simp; (try with_reducible rfl))
                  (try simp only [Act.put, List.setIfInBounds_toArray, List.set_cons_zero, List.set_cons_succ])
                  refine wpAnyH_take (i := 7) (oi := ?_) (v := ?_) ?_ (by kernel_rfl) (by kernel_rfl) (by kernel_rfl) ?_ (Or.inl ⟨?_, ?_⟩) (by assumption) ?_
                  rotate_left 2
                  · (simp only [List.getElem?_toArray, List.getElem?_cons_zero, List.getElem?_cons_succ]; rfl)
                  · exact fun _ _ _ h => h
                  · rfl
                  · (intro wS hSw; (try dsimp only at hSw); go_simp; (try with_reducible rfl))
                  (try simp only [Act.put, List.setIfInBounds_toArray, List.set_cons_zero, List.set_cons_succ])
                  refine wpAnyH_take (i := 8) (oi := ?_) (v := ?_) ?_ (by kernel_rfl) (by kernel_rfl) (by kernel_rfl) ?_ (Or.inl ⟨?_, ?_⟩) (by assumption) ?_
                  rotate_left 2
                  · (simp only [List.getElem?_toArray, List.getElem?_cons_zero, List.getElem?_cons_succ]; rfl)
                  · exact fun _ _ _ h => h
                  · rfl
                  · (intro wS hSw; (try dsimp only at hSw); go_simp; (try with_reducible rfl))
                  (try simp only [Act.put, List.setIfInBounds_toArray, List.set_cons_zero, List.set_cons_succ])
                  refine wpAnyH_ready (rs := [0]) (by kernel_rfl) (by simp) ?_
                  refine AllReadyH.cons (o := ?_) ?_ (fun K hK => ?_) AllReadyH.nil
                  rotate_left
                  · (simp only [List.getElem?_toArray, List.getElem?_cons_zero]; rfl)
                  go_simp
                  skip
                  (try go_wp2_with fail)
                  refine hK.out _ _ ?_ (fun hHeld' => ?_)
                  · (try dsimp only)
                    exact ⟨cell_later (((Below.refl _ _).alloc (Nat.le_refl _) _).drew) c0w, cell_later (((Below.refl _ _).alloc (Nat.le_refl _) _).drew) c1w⟩
                  clear hK K hHeld
                  have hHeld := hHeld'
                  clear hHeld'
                  (try simp only [Act.put, List.setIfInBounds_toArray, List.set_cons_zero, List.set_cons_succ])
                  (try rw [← hX])
                  (try clear hX)
                  refine wpAnyH_ready (rs := [4]) (by kernel_rfl) (by simp) ?_
                  refine AllReadyH.cons (o := ?_) ?_ (fun K hK => ?_) AllReadyH.nil
                  rotate_left
                  · (simp only [List.getElem?_toArray, List.getElem?_cons_zero, List.getElem?_cons_succ]; rfl)
                  refine step_append_vals rfl (.tmp 131) (.tmp 134) 27 rfl wr.heap.size 43 i0 (.agg #[.slice none 0 0, .slice none 0 0]) 2 48 Tryd.underlying27 hi hz0 hz1 hz2 rfl (by decide) (.slice (some ⟨wr.heap.size, 0, none⟩) 0 0) 0 [] (by simp [Act.eval]) oX.out (some ⟨g, 0, none⟩) k (d) (cells.take (k * 2)) (by simp [Act.eval]) (by rw [List.length_take]; have := HCL.out; omega) (fun ad he j u hu => by cases he; have h9 := HCELLS.out j u (by rw [List.getElem?_take] at hu; split at hu; exact hu; cases hu); rw [Addr.add_lit, Nat.zero_add]; exact cell_later HBX.out h9) (fun u hu => HONES.out u (List.mem_of_mem_take hu)) (fun h => by cases h) (by unfold maxLen; omega) (by omega) (by omega) ?_
                  intro r5 d5 w5 ho5 hg5 ht5
                  (try simp only [Nat.zero_add, List.nil_append] at ho5)
                  (try simp only [Nat.zero_add])
                  have b5 : Below wr.heap.size wr w5 := HBX.out.grown hg5 (by omega) (fun j hj => by simp [Value.ownBlock] at hj; omega)
                  have HB5 := Hid.mk b5
                  have HO5 := Hid.mk ho5
                  have z5 := b5.size
                  have c0 := cell_later b5 c0w
                  have c1 := cell_later b5 c1w
                  clear ho5 hg5 ht5 b5
                  refine hK.out _ _ ?_ (fun hHeld' => ?_)
                  · (try dsimp only)
                    exact ⟨c0, c1⟩
                  clear hK K hHeld
                  have hHeld := hHeld'
                  clear hHeld'
                  (try simp only [Act.put, List.setIfInBounds_toArray, List.set_cons_zero, List.set_cons_succ])
                  refine wpAnyH_ready (rs := [9]) (by kernel_rfl) (by simp) ?_
                  refine AllReadyH.cons (o := ?_) ?_ (fun K hK => ?_) AllReadyH.nil
                  rotate_left
                  · (simp only [List.getElem?_toArray, List.getElem?_cons_zero, List.getElem?_cons_succ]; rfl)
                  refine step_append_vals rfl (.tmp 135) (.tmp 139) 27 rfl wr.heap.size 43 i0 (.agg #[.slice none 0 0, .slice none 0 0]) 2 48 Tryd.underlying27 hi hz0 hz1 hz2 rfl (by decide) (.slice r5 k d5) k (cells.take (k * 2)) (by simp [Act.eval]) HO5.out (some ⟨g, (k + 1) * 2, none⟩) (m - (k + 1)) (d - (k + 1)) (cells.drop ((k + 1) * 2)) (by simp [Act.eval]) (by rw [List.length_drop]; have := HCL.out; omega) (fun ad he j u hu => by cases he; rw [List.getElem?_drop] at hu; rw [Addr.add_lit]; exact cell_later HB5.out (HCELLS.out _ u hu)) (fun u hu => HONES.out u (List.mem_of_mem_drop hu)) (fun h => by cases h) (by unfold maxLen; omega) (by omega) (by omega) ?_
                  intro r6 d6 w6 ho6 hg6 ht6
                  have b6 : Below wr.heap.size wr w6 := HB5.out.grown hg6 (by omega) (fun j hj => (HO5.out.lt j hj).1)
                  have HB6 := Hid.mk b6
                  have HO6 := Hid.mk ho6
                  have z6 := b6.size
                  have c0 := cell_later b6 c0w
                  have c1 := cell_later b6 c1w
                  clear ho6 hg6 ht6 b6
                  refine hK.out _ _ ?_ (fun hHeld' => ?_)
                  · (try dsimp only)
                    exact ⟨c0, c1⟩
                  clear hK K hHeld
                  have hHeld := hHeld'
                  clear hHeld'
                  (try simp only [Act.put, List.setIfInBounds_toArray, List.set_cons_zero, List.set_cons_succ])
                  refine wpAnyH_take (i := 10) (oi := ?_) (v := ?_) ?_ (by kernel_rfl) (by kernel_rfl) (by kernel_rfl) ?_ (Or.inl ⟨?_, ?_⟩) (by assumption) ?_
                  rotate_left 2
                  · (simp only [List.getElem?_toArray, List.getElem?_cons_zero, List.getElem?_cons_succ]; rfl)
                  · exact fun _ _ _ h => h
                  · rfl
                  · (intro wS hSw; (try dsimp only at hSw); go_simp; (try with_reducible rfl))
                  (try simp only [Act.put, List.setIfInBounds_toArray, List.set_cons_zero, List.set_cons_succ])
                  refine wpAnyH_done (by kernel_rfl) ?_ _
                  (try simp only [Nat.add_zero])
                  (try simp only [Nat.add_zero] at HO6)
                  have HSUM : Hid (k + (m - (k + 1)) = m - 1) := by show _ = _; omega
                  have HO6' : Hid (w6.ownsRow wr.heap.size 43 2 (.slice r6 (k + (m - (k + 1))) d6) (k + (m - (k + 1))) (cells.take (k * 2) ++ cells.drop ((k + 1) * 2))) := by
                    show World.ownsRow _ _ _ _ _ _ _
                    exact HO6.out
                  obtain ⟨cells6, G6, hl6⟩ := laid_wo HLA.out hlt zr HB6.out HO6'.out HSUM.out
                  have HL6 := Hid.mk hl6
                  have HLX := Hid.mk ((HLA.out.below HB6.out).mono (F' := From w1.heap.size w6.heap.size) (fun b h => ⟨h.1, by have := h.2; omega⟩))
                  have HEL' : Hid ((M'.eraseIdx k).length = k + (m - (k + 1))) := HEL.out.trans HSUM.out.symm
                  have HBZ := Hid.mk (HB.out.trans (HB6.out.mono HB.out.size))
                  have KI := Hid.mk (l7Implies_any r6 (k + (m - (k + 1))) d6 ((M'.eraseIdx k).map und) fa fn fc ta tn tc (bl f, bl t) w6 (by rw [List.length_map]; exact HEL'.out) (by omega) (tolds_und ((HLM.out.erase k).sets hq6)) (laid_atD hl6) (told_bl hf64) (told_bl ht64) (RDep.below HAT.out HB6.out))
                  rw [impV_und ((HLM.out.erase k).sets hq6) hf64 ht64] at KI
                  clear hl6 HO6 HO6' HO5 HB5 HB6 HBX HLA HB HONES HCELLS HCL HAT oX hHeld c0w c1w
                  go_wp2_with fail
                  refine KI.out.mono ?_
                  rintro e w7 ⟨rfl, hb7⟩
                  have HL7 := Hid.mk ((HL6.out.below hb7).mono (F' := From w1.heap.size w7.heap.size) (fun b h => ⟨h.1, by have h1 := h.2; have h2 := hb7.size; omega⟩))
                  have HLX7 := Hid.mk ((HLX.out.below hb7).mono (F' := From w1.heap.size w7.heap.size) (fun b h => ⟨h.1, by have h1 := h.2; have h2 := hb7.size; omega⟩))
                  have HB7 := Hid.mk (HBZ.out.trans (hb7.mono HBZ.out.size))
                  have z7 := hb7.size
                  clear hb7 HL6 HLX HBZ KI c0 c1
                  cases hr : sb t (clo (M'.eraseIdx k) f) with
                  | true =>
                    have HD2 : Hid (dropG ((M'.eraseIdx k).length - k) k (M'.eraseIdx k) = coverM xs) := by show _ = _; rw [← HYES.out hr]; exact HDR.out
                    have HLM2 := Hid.mk (HLM.out.erase k)
                    go_wp2
                    go_roundg (m - 1 - k)
                    case measure => have := HMK.out; omega
                    case rel => exact ⟨k, k + (m - (k + 1)), M'.eraseIdx k, r6, d6, cells6, G6, by have := HSUM.out; omega, HEL'.out, by omega, rfl, rfl, HD2.out, HLM2.out, HL7.out, by omega, HB7.out⟩
                  | false =>
                    have HD2 : Hid (dropG (M'.length - (k + 1)) (k + 1) M' = coverM xs) := by show _ = _; rw [← HNO.out hr]; exact HDR.out
                    go_wp2
                    go_roundg (m - (k + 1))
                    case measure => have := HMK.out; omega
                    case rel => exact ⟨k + 1, m, M', _, _, cells, G, by omega, HM.out, hm60, rfl, by go_num, HD2.out, HLM.out, HLX7.out, by omega, HB7.out⟩
              · obtain rfl : k = m := by omega
                rw [dropG_end rfl (by omega)] at hdr
                have HGD : Hid (goodDeps (M'.map und) C = decide (M'.length ≤ 10)) := by show _ = _; rw [HQ.out]; exact good_und hq1 hq6 hlim
                have HCB : Hid (covB xs C = decide (M'.length ≤ 10)) := by show _ = _; unfold covB; rw [hg1, ← hdr]; rfl
                have HML := Hid.mk hm
                have HDR := Hid.mk hdr
                have KG := Hid.mk (specGoodDepends r k d (M'.map und) C wr (by rw [List.length_map]; exact hm) (by omega) (laid_atD hlaid))
                rw [HGD.out] at KG
                have HLA := Hid.mk hlaid
                have HB := Hid.mk hbw
                have hkk : ¬ (k : Int) < (k : Int) := by omega
                clear hdr hm hlim hlaid hbw
                go_wp2_with fail
                refine KG.out.mono ?_
                rintro e w9 ⟨rfl, hb9⟩
                have HB9 := Hid.mk (HB.out.trans (hb9.mono HB.out.size))
                have HL9 := Hid.mk ((HLA.out.below hb9).mono (F' := From w.heap.size w9.heap.size) (fun b h => ⟨by have := h.1; omega, by have h1 := h.2; have h2 := hb9.size; omega⟩))
                clear hb9 HLA HB KG
                cases h10 : decide (M'.length ≤ 10) with
                | false =>
                  have HBF : Hid (covB xs C = false) := HCB.out.trans h10
                  go_wp2
                  exact bodyPost_ret (v := .tuple #[.slice none 0 0, .bool false]) (by simp [results, Tryd.results31, go_sem]) rfl ⟨DepsRet.none _ _ HBF.out (covL_no HBF.out), HB9.out⟩
                | true =>
                  have HBT : Hid (covB xs C = true) := HCB.out.trans h10
                  have HCL : Hid (covL xs C = M'.map und) := by show _ = _; unfold covL; rw [HBT.out, HDR.out]; rfl
                  have HR : Hid (DepsRet (.returned (.tuple #[.slice r k d, .bool true])) w9 w.heap.size (covB xs C) (covL xs C)) := by
                    show DepsRet _ _ _ _ _
                    rw [HBT.out, HCL.out]
                    exact ⟨r, k, d, rfl, r, k, d, cells, G, rfl, HL9.out⟩
                  go_wp2
                  exact bodyPost_ret (v := .tuple #[.slice r k d, .bool true]) (by simp [results, Tryd.results31, go_sem]) rfl ⟨HR.out, HB9.out⟩

end Go.Proofs.YtkcfhlpdenjimaaDoor
