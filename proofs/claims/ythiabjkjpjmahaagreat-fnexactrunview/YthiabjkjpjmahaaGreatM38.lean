/- Several texts of one proof, in build order: StreamH, RaL, RaJ, SpecA. -/
import Derived.Test.YthiabjkjpjmahaaGreatM35
import Derived.Test.YthiabjkjpjmahaaGreatM37
import Derived.Test.YthiabjkjpjmahaaGreatM36
import Derived.Test.YthiabjkjpjmahaaGreatM12
import Derived.Test.YthiabjkjpjmahaaGreatM30

/- Contracts of the laws' helpers over tables in a slice and streams: szTableS, szStream, toTableS, toStream, eqTableS, eqStream. -/
namespace Go.Proofs.YthiabjkjpjmahaaGreat
open Go.RowKit

set_option maxHeartbeats 1000000 in
theorem szTableS_any (a : Option Addr) (n c : Nat) (ss : List Tab) (l : Int) (w : World) (hz : ss.length = n) (hn : n ≤ 9223372036854775807) (h0 : 0 ≤ l) (h1 : l ≤ 1048576) (ha : AtSW w a ss) :
    Calls Tryz.prog 14 #[.slice a n c, .int .i64 l] w fun e w' => e = .returned (.int .i64 (leftOf l (stot ss n))) ∧ Below w.heap.size w w' := by
  have hle := stot_len ss n (by omega)
  by_cases hb : l < n
  · have h' : l - (n : Int) < 0 := by omega
    go_enter Tryz.func14, Tryz.ntmps14
    go_wp2
    go_ret
    exact ⟨ret_int (leftOf_no (by omega)).symm, Below.refl _ _⟩
  · have h' : ¬ l - (n : Int) < 0 := by omega
    by_cases hn0 : n = 0
    · subst hn0
      have ht : stot ss 0 = 0 := rfl
      go_enter Tryz.func14, Tryz.ntmps14
      go_wp2
      refine wp_loop_rounds 1 ?_
      rw [rounds_succ]
      go_wp2
      go_ret
      exact ⟨ret_int (by rw [ht, leftOf_yes (by omega)]; omega), Below.refl _ _⟩
    · go_enter Tryz.func14, Tryz.ntmps14
      go_wp2
      go_loopw [1, 5] (fun q i wr => ∃ (k : Nat) (r : Int), k ≤ n ∧ i = .int .i64 k ∧ q = .int .i64 r ∧ 0 ≤ r ∧ r ≤ 1048576 ∧ r + stot ss k - k = l - n ∧ Below w.heap.size w wr) (fun _ i _ => n - (intOf i).toNat)
      case atStart => exact ⟨0, l - n, Nat.zero_le _, rfl, rfl, by omega, by omega, by rw [stot_zero]; omega, Below.refl _ _⟩
      case round =>
        obtain ⟨k, r, hk, rfl, rfl, hr0, hr1, hr, hbw⟩ := hrel
        by_cases hlt : k < n
        · obtain ⟨b, off, rfl, hc⟩ := (ha.below hbw).some (by omega)
          obtain ⟨a', c', hcw, hcx, hm, hat⟩ := hc k (by omega)
          have hts := stot_succ ss k (by omega)
          have htl := stot_mono ss (k + 1) n (by omega) (by omega)
          generalize tat ss k = Y at *
          obtain ⟨x, us⟩ := Y
          simp only at hcw hcx hm hat hts
          obtain ⟨m, hmm⟩ : ∃ m, us.length = m := ⟨_, rfl⟩
          rw [hmm] at hcx hm hts
          obtain ⟨T, hT⟩ : ∃ T : Nat, wtot us m = T := ⟨_, rfl⟩
          rw [hT] at hts
          have HM := Hid.mk hmm
          have HTT := Hid.mk hT
          have HR := Hid.mk hr
          have HT := Hid.mk hts
          have HL := Hid.mk htl
          have hki : (k : Int) < (n : Int) := by omega
          clear hmm hc hr hts ha htl hT
          by_cases hfit : r < T
          · go_wp2_with fail
            refine (szTable_any _ _ _ us _ _ _ HM.out hm hr0 hr1 hat).mono ?_
            rintro e w' ⟨rfl, hb'⟩
            rw [HTT.out, leftOf_no (by omega)]
            go_wp2
            go_ret
            exact ⟨ret_int (leftOf_no (by have := HR.out; have := HT.out; have := HL.out; omega)).symm, hbw.trans (hb'.mono hbw.size)⟩
          · have hd : ¬ r - (T : Int) < 0 := by omega
            go_wp2_with fail
            refine (szTable_any _ _ _ us _ _ _ HM.out hm hr0 hr1 hat).mono ?_
            rintro e w' ⟨rfl, hb'⟩
            rw [HTT.out, leftOf_yes (by omega)]
            go_wp2
            go_roundw
            case rel => exact ⟨k + 1, r - T, by omega, by go_num, rfl, by omega, by omega, by have := HR.out; have := HT.out; omega, hbw.trans (hb'.mono hbw.size)⟩
            case measure => simp [intOf]; omega
        · obtain rfl : k = n := by omega
          have HR := Hid.mk hr
          clear hr
          go_wp2
          go_ret
          exact ⟨ret_int (by have := HR.out; rw [leftOf_yes (by omega)]; omega), hbw⟩

theorem Tryz.infoT : (Tryz.prog.info? 32).map (fun i => (i.zero, i.size, i.bytes)) = some (some (.agg #[.int .i64 0, .slice none 0 0]), 2, 32) := by kernel_rfl

set_option maxHeartbeats 2000000 in
theorem toTableS_any (a : Option Addr) (n c : Nat) (ss : List Tab) (w : World) (hs : SmU ss n) (ha : AtSW w a ss) :
    Calls Tryz.prog 17 #[.slice a n c] w fun e w' => ∃ g, e = .returned (.slice (some ⟨g, 0, none⟩) n n) ∧ OwnU w' w.heap.size w'.heap.size (some ⟨g, 0, none⟩) n n ss ∧ Below w.heap.size w w' := by
  obtain ⟨i0, hi, hz0, hz1, hz2⟩ := info_parts Tryz.infoT
  have hz := hs.1
  have hn := hs.n
  go_enter Tryz.func17, Tryz.ntmps17
  go_wp2_with (at_make; refine wpList_make_full _ rfl _ _ 27 rfl w.heap.size 32 i0 (.agg #[.int .i64 0, .slice none 0 0]) 2 Tryz.underlying27 hi hz0 hz1 .i64 .i64 _ _ n rfl rfl rfl rfl (by rw [hz2]; omega) (by unfold maxLen; omega) (Nat.le_refl _) ?_; intro w1 hown hg)
  have hb1 : Below w.heap.size w w1 := (Below.refl _ _).grown hg (Nat.le_refl _) (by simp)
  have hlt1 := (hown.lt w.heap.size rfl).2
  have hst : OwnUk w1 w.heap.size w1.heap.size (some ⟨w.heap.size, 0, none⟩) n n ss _ (fun _ => 0) (fun _ => 0) 0 := OwnUk.start hz (Nat.le_refl _) hown (fun b hb => (hown.lt b hb).2)
  obtain ⟨cs, hcs⟩ : ∃ cs, cs = (madeCells (Value.agg #[.int .i64 0, .slice none 0 0]).cells (n * 2)).toList := ⟨_, rfl⟩
  rw [← hcs] at hst
  clear hcs hown hg
  go_loopw [4] (fun i wr => ∃ (k : Nat) (cells : List Value) (L H : Nat → Nat), k ≤ n ∧ i = .int .i64 k ∧ OwnUk wr w.heap.size wr.heap.size (some ⟨w.heap.size, 0, none⟩) n n ss cells L H k ∧ w.heap.size < wr.heap.size ∧ Below w.heap.size w wr) (fun i _ => n - (intOf i).toNat)
  case atStart => exact ⟨0, cs, _, _, Nat.zero_le _, rfl, hst, hlt1, hb1⟩
  case round =>
    clear hst hb1 hlt1 cs
    obtain ⟨k, cells, L, H, hk, rfl, ho, hzr, hbw⟩ := hrel
    by_cases hlt : k < n
    · obtain ⟨b, off, rfl, hc⟩ := (ha.below hbw).some (by omega)
      obtain ⟨a', c', hcy, hcx, _, hat⟩ := hc k (by omega)
      have hsm := hs.tab k hlt
      have hki : (k : Int) < (n : Int) := by omega
      have HO := Hid.mk ho
      obtain ⟨ys, hys⟩ : ∃ ys, ys = (tat ss k).2 := ⟨_, rfl⟩
      obtain ⟨x, hx⟩ : ∃ x, x = (tat ss k).1 := ⟨_, rfl⟩
      obtain ⟨m, hm⟩ : ∃ m, ys.length = m := ⟨_, rfl⟩
      rw [← hys, hm] at hcx hsm
      rw [← hys] at hat
      rw [← hx] at hcy
      have HYS := Hid.mk hys
      have HX := Hid.mk hx
      have HM := Hid.mk hm
      clear hys hm hx hc ha ho hs
      go_wp2_with fail
      refine (toTableG a' _ c' ys _ _ hsm hat).mono ?_
      rintro e w2 ⟨g2, rfl, ho2, hb2⟩
      have hput := HO.out.put (m := m) (c' := m) (a' := some ⟨g2, 0, none⟩) hb2 hlt (by rw [← HYS.out]; exact HM.out) HX.out.symm (Nat.le_of_lt hzr) (by rw [← HYS.out]; exact ho2)
      have hout := (HO.out.below hb2).outer
      have hln := hout.1
      obtain ⟨u, hu⟩ : ∃ u, cells[k * 2]? = some u := ⟨_, List.getElem?_eq_getElem (by omega)⟩
      obtain ⟨u', hu'⟩ : ∃ u, cells[k * 2 + 1]? = some u := ⟨_, List.getElem?_eq_getElem (by omega)⟩
      have hco : w2.cell? ⟨w.heap.size, k * 2, none⟩ = some u := (hout.cellAt _ (by omega)).trans hu
      have hco' : w2.cell? ⟨w.heap.size, k * 2 + 1, none⟩ = some u' := (hout.cellAt _ (by omega)).trans hu'
      have hfo : w2.frozen? ⟨w.heap.size, k * 2, none⟩ = false := hout.frozenAt _
      have hfo' : w2.frozen? ⟨w.heap.size, k * 2 + 1, none⟩ = false := hout.frozenAt _
      have HP := Hid.mk hput
      have z2 := hb2.size
      have HB : Hid (Below w.heap.size w ((w2.setCell ⟨w.heap.size, k * 2, none⟩ (.int .i64 x)).setCell ⟨w.heap.size, k * 2 + 1, none⟩ (.slice (some ⟨g2, 0, none⟩) m m))) := ((hbw.trans (hb2.mono hbw.size)).setCell (Nat.le_refl _) _).setCell (Nat.le_refl _) _
      clear hput hout hln hu hu' hb2 hbw ho2 hcx hcy hat
      go_wp2
      go_roundw
      case rel => exact ⟨k + 1, _, _, _, by omega, by go_num, by simpa [World.setCell] using HP.out, by simp [World.setCell]; omega, HB.out⟩
      case measure => simp [intOf]; omega
    · obtain rfl : k = n := by omega
      go_wp2
      go_ret
      exact ⟨_, rfl, ⟨_, _, _, ho⟩, hbw⟩

set_option maxHeartbeats 2000000 in
theorem eqTableS_any (a a' : Option Addr) (n c c' : Nat) (ss : List Tab) (w : World) (hs : SmU ss n) (ha : AtSW w a ss) (ha' : AtSW w a' ss) :
    Calls Tryz.prog 20 #[.slice a n c, .slice a' n c'] w fun e w' => e = .returned (.bool true) ∧ Below w.heap.size w w' := by
  have hz := hs.1
  have hn := hs.n
  by_cases h0 : n = 0
  · subst h0
    go_enter Tryz.func20, Tryz.ntmps20
    go_wp2
    refine wp_loop_rounds 1 ?_
    rw [rounds_succ]
    go_wp2
    go_ret
    exact ⟨rfl, Below.refl _ _⟩
  · go_enter Tryz.func20, Tryz.ntmps20
    go_wp2
    go_loopw [5] (fun i wr => ∃ (k : Nat), k ≤ n ∧ i = .int .i64 k ∧ Below w.heap.size w wr) (fun i _ => n - (intOf i).toNat)
    case atStart => exact ⟨0, Nat.zero_le _, rfl, Below.refl _ _⟩
    case round =>
      obtain ⟨k, hk, rfl, hbw⟩ := hrel
      by_cases hlt : k < n
      · obtain ⟨b, off, rfl, hc⟩ := (ha.below hbw).some (by omega)
        obtain ⟨b', off', rfl, hc'⟩ := (ha'.below hbw).some (by omega)
        obtain ⟨q, d, hwx, hcx, _, hat⟩ := hc k (by omega)
        obtain ⟨q', d', hwy, hcy, _, hat'⟩ := hc' k (by omega)
        have hsm := hs.tab k hlt
        generalize tat ss k = Y at *
        obtain ⟨x, us⟩ := Y
        simp only at hcx hcy hwx hwy hat hat' hsm
        obtain ⟨m, hmm⟩ : ∃ m, us.length = m := ⟨_, rfl⟩
        rw [hmm] at hcx hcy hsm
        have HM := Hid.mk hmm
        have hki : (k : Int) < (n : Int) := by omega
        clear hc hc' hmm ha ha' hs
        go_wp2_with fail
        go_region_held3 (fun w' => w'.cell? ⟨b, off + k * 2, none⟩ = some (.int .i64 x) ∧ w'.cell? ⟨b, off + k * 2 + 1, none⟩ = some (.slice q m d) ∧ w'.cell? ⟨b', off' + k * 2, none⟩ = some (.int .i64 x) ∧ w'.cell? ⟨b', off' + k * 2 + 1, none⟩ = some (.slice q' m d')) (refine ⟨?_, ?_, ?_, ?_⟩ <;> assumption)
          (first | (go_at_call 18; refine (eqTableG _ _ _ _ _ us _ _ hsm hat.drew hat'.drew).mono ?_; rintro e w2 ⟨rfl, hb2⟩; have e1 := cell_later hb2 hcx; have e2 := cell_later hb2 hcy; have e3 := cell_later hb2 hwx; have e4 := cell_later hb2 hwy))
        go_wp2
        go_roundw
        case rel => exact ⟨k + 1, by omega, by go_num, hbw.drew.trans (hb2.mono hbw.size)⟩
        case measure => simp [intOf]; omega
      · go_wp2
        go_ret
        exact ⟨rfl, hbw⟩

end Go.Proofs.YthiabjkjpjmahaaGreat

/- Contract of impl.tablesOfParts. -/
namespace Go.Proofs.YthiabjkjpjmahaaGreat
open Go.RowKit

set_option maxRecDepth 100000 in
set_option maxHeartbeats 8000000 in
theorem tablesOfParts_any (gg pn pc : Nat) (vs : List Value) (xs : List PartD) (sa : Option Addr) (sn sc : Nat) (src : List Tab) (w : World) (hpn : pn ≤ 12) (hvl : vs.length = pn) (hz : xs.length = pn) (hap : AreParts w vs xs)
    (hcell : ∀ (k : Nat) (v : Value), vs[k]? = some v → w.cell? ⟨gg, k, none⟩ = some v) (hth : ∀ (i : Nat) (x : PartD), xs[i]? = some x → SmPart x ∧ (1 ≤ x.K ∧ x.K ≤ 7) ∧ (x.K = 1 → 0 ≤ x.A ∧ x.A < sn) ∧ (¬ x.K = 1 → 0 ≤ x.A ∧ x.A < i) ∧ (x.K = 4 ∨ x.K = 5 ∨ x.K = 6 → 0 ≤ x.B ∧ x.B < i))
    (hs : SmU src sn) (hsa : AtSM w sa src) :
    Calls Tryz.prog 33 #[.slice (some ⟨gg, 0, none⟩) pn pc, .slice sa sn sc] w fun e w' => RunRet e w' w.heap.size (runTo src xs pn) ∧ Below w.heap.size w w' := by
  obtain ⟨i0, hi, hz0, hz1, hz2⟩ := info_parts Tryz.infoT
  have HVL := Hid.mk hvl
  have HZ := Hid.mk hz
  have HAP := Hid.mk hap
  have HCELL := Hid.mk hcell
  have HTH := Hid.mk hth
  have HS := Hid.mk hs
  have HSA := Hid.mk hsa
  obtain ⟨q, hq⟩ : ∃ q, q = w.heap.size := ⟨_, rfl⟩
  have HQ := Hid.mk hq
  clear hvl hz hap hcell hth hs hsa hq
  go_enter Tryz.func33, Tryz.ntmps33
  go_wp2_with fail
  go_loopw [6, 13] (fun pp i wx => ∃ (k : Nat) (r : Option Addr) (d : Nat) (ah : List Tab), k ≤ pn ∧ i = .int .i64 k ∧ pp = .slice r k d ∧ runTo src xs k = some ah ∧ OwnU wx q wx.heap.size r k d ah ∧ q ≤ wx.heap.size ∧ Below w.heap.size w wx) (fun _ i _ => pn - (intOf i).toNat)
  case atStart => exact ⟨0, none, 0, [], Nat.zero_le _, rfl, rfl, rfl, OwnU.nil _ _, Nat.le_of_eq HQ.out, Below.refl _ _⟩
  case round =>
    obtain ⟨k, r, d, ah, hk, rfl, rfl, hrun, hown, zr, hbw⟩ := hrel
    by_cases hlt : k < pn
    · obtain ⟨x, hx⟩ : ∃ x, xs[k]? = some x := ⟨_, List.getElem?_eq_getElem (by have := HZ.out; omega)⟩
      obtain ⟨v, hv⟩ : ∃ v, vs[k]? = some v := ⟨_, List.getElem?_eq_getElem (by have := HVL.out; omega)⟩
      have hcx : wr.cell? ⟨gg, k, none⟩ = some v := cell_later hbw (HCELL.out k v hv)
      obtain ⟨s1, s2, s3, s4, s5⟩ := HTH.out k x hx
      have hrs := runTo_some hrun
      have hsm : SmU ah k := small_tabs hrs.1 (by omega) hrs.2
      have hki : (k : Int) < (pn : Int) := by omega
      obtain ⟨wy, rfl⟩ : ∃ x, x = wr := ⟨_, rfl⟩
      have K := Hid.mk (tableOfPart_any v x sa sn sc r k d src ah wy ((HAP.out k v x hv hx).below hbw) s1 s2 s3 s4 s5 HS.out.1 HS.out.n hrs.1 (by omega) (HSA.out.below hbw) (hown.atM hsm) (fun i hi => (HS.out.tab i hi).n) (fun i hi => (hsm.tab i hi).n))
      have HY := Hid.mk (fun h => runTo_yes hrun hx h)
      have HNO : Hid (tabB src ah x = false → runTo src xs pn = none) := fun h => runTo_none (runTo_no hrun hx h) (by omega)
      have HOW := Hid.mk hown
      have HB := Hid.mk hbw
      clear hrun hown hbw hx hv s1 s2 s3 s4 s5 hrs hsm
      go_wp2_with fail
      refine K.out.mono ?_
      rintro e w4 ⟨⟨r3, m3, d3, cells3, rfl, ho3⟩, hb4⟩
      have HBR := Hid.mk hb4
      have z4 := hb4.size
      have HBW3 := Hid.mk (HB.out.trans (hb4.mono HB.out.size))
      clear K
      cases hpr : tabB src ah x with
      | false =>
        have HN := Hid.mk (HNO.out hpr)
        rw [hpr] at ho3
        obtain ⟨P3, hP3⟩ : ∃ P3, ansP false (tabC src ah x) = P3 := ⟨_, rfl⟩
        rw [hP3]
        obtain ⟨W4, hW4⟩ : ∃ W4, W4 = w4.alloc (.cells #[.int .i64 P3, .slice r3 m3 d3] 32) := ⟨_, rfl⟩
        have HBW3 : Hid (Below w.heap.size w W4) := by rw [hW4]; exact HBW3.out.alloc HBW3.out.size _
        clear hP3 hb4 ho3 hpr
        go_upto_region 6 with fail
        rw [← hW4]
        clear hW4
        go_wp2
        exact bodyPost_ret (v := .tuple #[.slice none 0 0, .bool false]) (by simp [results, Tryz.results33, go_sem]) rfl ⟨RunRet.no HN.out, HBW3.out⟩
      | true =>
        have HR := Hid.mk (HY.out hpr)
        rw [hpr] at ho3
        obtain ⟨TW, hTW⟩ : ∃ TW, tabW src ah x = TW := ⟨_, rfl⟩
        have ho3' : OwnT w4 wy.heap.size w4.heap.size r3 m3 d3 TW := ⟨cells3, by rw [← hTW]; exact ho3⟩
        have HM3 := Hid.mk ho3'.len
        have HO3 := Hid.mk ho3'
        obtain ⟨P3, hP3⟩ : ∃ P3, ansP true (tabC src ah x) = P3 := ⟨_, rfl⟩
        rw [hP3]
        have HR : Hid (runTo src xs (k + 1) = some (ah ++ [(P3, TW)])) := by
          show _ = _
          rw [HR.out, ← hP3, ← hTW]; rfl
        obtain ⟨cells, L, H, hou⟩ := HOW.out
        have HOU := Hid.mk hou
        obtain ⟨W4, hW4⟩ : ∃ W4, W4 = w4.alloc (.cells #[.int .i64 P3, .slice r3 m3 d3] 32) := ⟨_, rfl⟩
        have hbX : Below w4.heap.size w4 W4 := by rw [hW4]; exact (Below.refl _ _).alloc (Nat.le_refl _) _
        have HB4 := Hid.mk hbX
        have k0 : W4.cell? ⟨w4.heap.size, 0, none⟩ = some (.int .i64 P3) := by rw [hW4]; exact pair0 _ _ _ _
        have k1 : W4.cell? ⟨w4.heap.size, 1, none⟩ = some (.slice r3 m3 d3) := by rw [hW4]; exact pair1 _ _ _ _
        have HO4 := Hid.mk ((hou.below hb4).below hbX)
        have HBW4 := Hid.mk (HBW3.out.trans (hbX.mono (by have := HBW3.out.size; omega)))
        have zX := hbX.size
        clear hP3 hb4 ho3 ho3' hou hbX hpr hTW
        go_upto_region 8 with fail
        rw [← hW4]
        clear hW4
        go_wp2_with (at_builtin; refine wpList_append_lies _ rfl (.tmp 26) (.tmp 28) 27 rfl q 32 i0 (.agg #[.int .i64 0, .slice none 0 0]) 2 32 Tryz.underlying27 hi hz0 hz1 hz2 rfl (by decide) (.slice r k d) k cells rfl (HO4.out.outer.alloc _) ⟨W4.heap.size, 0, none⟩ 1 1 [.int .i64 P3, .slice r3 m3 d3] (by simp [Act.eval]) rfl (by simpa using news_at W4 #[.int .i64 P3, .slice r3 m3 d3] 32) (by intro u hu; simp at hu; rcases hu with rfl | rfl <;> rfl) (by decide) (by unfold maxLen; omega) (by omega) (by simp; omega) (W4.heap.size + 1) (by simp) ?_)
        intro g5 cap5 w5 hown5 hgrow5 hat5 hlt5
        have hob : ∀ j, (Value.slice r k d).ownBlock = some j → q ≤ j := fun j hj => (HO4.out.blocks j hj).1
        have hbB : Below w4.heap.size w4 (W4.alloc (.cells #[.int .i64 P3, .slice r3 m3 d3] 32)) := HB4.out.alloc HB4.out.size _
        have hpu := HOU.out.pushed (p := P3) (by omega) HBR.out HM3.out HO3.out hbB hown5 hgrow5 (by
          rcases hat5 with e | e
          · left; exact e
          · right; omega) hlt5
        have HPU := Hid.mk hpu
        have z5 : W4.heap.size ≤ w5.heap.size := by have := hgrow5.size; simp at this; omega
        have HB5 : Hid (Below w.heap.size w w5) := (HBW4.out.alloc HBW4.out.size _).grown hgrow5 (by have := HBW4.out.size; simp; omega) (fun j hj => by have := hob j hj; have := HQ.out; omega)
        clear hpu hob hbB hown5 hgrow5 hat5 HOU HO4 HO3
        go_wp2
        go_roundw
        case rel => exact ⟨k + 1, _, _, _, by omega, by go_num, rfl, HR.out, ⟨_, _, _, HPU.out⟩, by omega, HB5.out⟩
        case measure => simp [intOf]; omega
    · obtain rfl : k = pn := by omega
      have hki : ¬ (k : Int) < (k : Int) := by omega
      have HR : Hid (RunRet (.returned (.tuple #[.slice r k d, .bool true])) wr w.heap.size (runTo src xs k)) := by
        show RunRet _ _ _ _
        rw [hrun]
        exact ⟨r, k, d, rfl, hown.widen (by have := HQ.out; omega) (Nat.le_refl _) (Nat.le_refl _)⟩
      have HBW := Hid.mk hbw
      clear hown hrun hbw
      go_wp2
      exact bodyPost_ret (v := .tuple #[.slice r k d, .bool true]) (by simp [results, Tryz.results33, go_sem]) rfl ⟨HR.out, HBW.out⟩

end Go.Proofs.YthiabjkjpjmahaaGreat

/- Contract of impl.RunAll. -/
namespace Go.Proofs.YthiabjkjpjmahaaGreat
open Go.RowKit

set_option maxRecDepth 100000 in
set_option maxHeartbeats 8000000 in
theorem implRunAll (sa : Option Addr) (sn sc : Nat) (pa : Option Addr) (pn pc : Nat) (ss : List Int) (xs : List PartD) (la : Option Addr) (ln lc : Nat) (l : List Tab) (w : World) (hsz : ss.length = sn) (hz : xs.length = pn) (hs : SmView (ss, xs)) (hsa : At w sa ss) (ha : AtSl RPart w pa xs) (hl : SmU l ln) (hla : AtSM w la l) :
    Calls Tryz.prog 26 #[.agg #[.slice sa sn sc, .slice pa pn pc], .slice la ln lc] w fun e w' => RunRet e w' w.heap.size (raO (ss, xs) l) ∧ Below w.heap.size w w' := by
  have hsn : sn ≤ 1048576 := by have := hs.src; simp only at this; omega
  have hpn : pn ≤ 1048576 := by have := hs.len; simp only at this; omega
  obtain ⟨W, hW⟩ : ∃ W, W = w.alloc (.cells #[.slice sa sn sc, .slice pa pn pc] 26) := ⟨_, rfl⟩
  have B0 : Below w.heap.size w W := by rw [hW]; exact (Below.refl _ _).alloc (Nat.le_refl _) _
  have c0 : W.cell? ⟨w.heap.size, 0, none⟩ = some (.slice sa sn sc) := by rw [hW]; exact pair0 _ _ _ _
  have c1 : W.cell? ⟨w.heap.size, 1, none⟩ = some (.slice pa pn pc) := by rw [hW]; exact pair1 _ _ _ _
  have HC := Hid.mk (partsOf_any sa sn sc pa pn pc ss xs W hsz hsn hz hpn (fun i x hx => hs.part hx) (hsa.below B0) (ha.below B0))
  have HZ := Hid.mk hz
  have HSZ := Hid.mk hsz
  have HA := Hid.mk ha
  have HSA := Hid.mk (hsa.below B0)
  have HLA := Hid.mk (hla.below B0)
  have HSM := Hid.mk hs
  have HL := Hid.mk hl
  have HB0 := Hid.mk B0
  clear hsz hz hs hsa ha hl hla B0
  go_enter Tryz.func26, Tryz.ntmps26
  go_wp2_with fail
  rw [← hW]
  clear hW
  refine HC.out.mono ?_
  rintro e w1 ⟨hret, hb1⟩
  have HB1 := Hid.mk (HB0.out.trans (hb1.mono HB0.out.size))
  have c0 := cell_later hb1 c0
  have HSA1 := Hid.mk (HSA.out.below hb1)
  have HLA1 := Hid.mk (HLA.out.below hb1)
  have HBW := Hid.mk hb1
  clear HC HSA HLA hb1 c1
  unfold PartsRet at hret
  cases hck : checkV (ss, xs) with
  | none =>
    rw [hck] at hret
    obtain rfl := hret
    have HR : Hid (raO (ss, xs) l = none) := by show _ = _; unfold raO; rw [(ck_none hck).1, if_neg (fun h => by simp at h)]
    clear hck
    go_wp2
    exact bodyPost_ret (v := .tuple #[.slice none 0 0, .bool false]) (by simp [results, Tryz.results26, go_sem]) rfl ⟨RunRet.no HR.out, HB1.out⟩
  | some wd =>
    rw [hck] at hret
    obtain ⟨r, d, r', d', vs, rfl, hvl, hap, hop, _⟩ := hret
    simp only [HZ.out] at hvl hop ⊢
    have hgood := checkV_good hck
    simp only [HZ.out] at hgood
    obtain ⟨gs, gp1, gp12, gwl, _, gck⟩ := hgood
    have HCK := Hid.mk (ck_some hck).1
    have HTH := Hid.mk (checkTo_there (srcOk_all gs) gck)
    rcases hop.2 with ⟨_, h00⟩ | ⟨gg, cap, cur, hv, _⟩
    · omega
    simp only [Value.slice.injEq, true_and] at hv
    obtain ⟨rfl, rfl⟩ := hv
    have KS := Hid.mk (suitSources_any la ln lc l sa sn sc ss w1 HL.out HSZ.out hsn HLA1.out HSA1.out)
    have HOP := Hid.mk hop
    have HAP := Hid.mk (hap.below HBW.out)
    have HVL := Hid.mk hvl
    have hglt : gg < w1.heap.size := (hop.lt gg rfl).2
    clear hck hop hap hvl gs gwl gck
    go_wp2_with fail
    refine KS.out.mono ?_
    rintro e w2 ⟨rfl, hb2⟩
    cases hsu : suitB l ss with
    | false =>
      have HR : Hid (raO (ss, xs) l = none) := by show _ = _; unfold raO; rw [if_neg (fun h => by rw [hsu] at h; simp at h)]
      have HB2 := Hid.mk (HB1.out.trans (hb2.mono HB1.out.size))
      clear hsu hb2
      go_wp2
      exact bodyPost_ret (v := .tuple #[.slice none 0 0, .bool false]) (by simp [results, Tryz.results26, go_sem]) rfl ⟨RunRet.no HR.out, HB2.out⟩
    | true =>
      have HR : Hid (raO (ss, xs) l = runTo l xs pn) := by show _ = _; unfold raO; rw [if_pos ⟨HCK.out, hsu⟩]; simp only [HZ.out]
      have HB2 := Hid.mk (HB1.out.trans (hb2.mono HB1.out.size))
      have hll : ln = sn := by
        unfold suitB at hsu
        rw [Bool.and_eq_true, decide_eq_true_eq, HL.out.1, HSZ.out] at hsu
        exact hsu.1
      have KT := Hid.mk (tablesOfParts_any gg pn d vs xs la ln lc l w2 gp12 HVL.out HZ.out (HAP.out.below hb2) (fun k v hv => cell_later hb2 ((HOP.out.cellAt k (by have := HVL.out; have := (List.getElem?_eq_some_iff.1 hv).1; omega)).trans hv)) (fun i x hx => ⟨HSM.out.part hx, by
        have := HTH.out i x (by have := HZ.out; have := (List.getElem?_eq_some_iff.1 hx).1; omega) hx
        rw [HSZ.out, ← hll] at this
        exact this⟩) HL.out (HLA1.out.below hb2))
      clear hsu hb2 KS hll
      go_wp2_with fail
      refine KT.out.mono ?_
      rintro e w3 ⟨⟨r3, m3, d3, rfl, ho3⟩, hb3⟩
      have HB3 := Hid.mk (HB2.out.trans (hb3.mono HB2.out.size))
      have HO : Hid (RunRet (.returned (.tuple #[.slice r3 m3 d3, .bool (runTo l xs pn).isSome])) w3 w.heap.size (raO (ss, xs) l)) := by
        show RunRet _ _ _ _
        rw [HR.out]
        exact ⟨r3, m3, d3, rfl, ho3.widen HB2.out.size (Nat.le_refl _) (Nat.le_refl _)⟩
      obtain ⟨ok, hok⟩ : ∃ ok, (runTo l xs pn).isSome = ok := ⟨_, rfl⟩
      rw [hok] at HO ⊢
      clear ho3 hb3 KT hok
      go_wp2
      exact bodyPost_ret (v := .tuple #[.slice r3 m3 d3, .bool ok]) (by simp [results, Tryz.results26, go_sem]) rfl ⟨HO.out, HB3.out⟩

end Go.Proofs.YthiabjkjpjmahaaGreat

/- Contracts of spec.l2Add and spec.l2Scale. -/
namespace Go.Proofs.YthiabjkjpjmahaaGreat
open Go.RowKit

theorem wrap64_in {v : Int} (h1 : -9223372036854775808 ≤ v) (h2 : v ≤ 9223372036854775807) : wrap64 v = v := by unfold wrap64; omega

/-- Weights that were put stay within their sum. -/
theorem putAll_ok {ts l : List WRow} {M0 M : Int} (h0 : 0 ≤ M0) (hM : 0 ≤ M) (hr : Rises ts) (ht : ∀ t ∈ ts, t.1.length ≤ 6 ∧ -M0 ≤ t.2 ∧ t.2 ≤ M0) (hl : ∀ t ∈ l, t.1.length ≤ 6 ∧ -M ≤ t.2 ∧ t.2 ≤ M) :
    ∀ t ∈ putAll ts l, t.1.length ≤ 6 ∧ -(M0 + M * l.length) ≤ t.2 ∧ t.2 ≤ M0 + M * l.length := fun t h => by
  have h6 : t.1.length ≤ 6 := by
    rcases putAll_rows h with ⟨s, hs, e⟩ | ⟨s, hs, e⟩
    · rw [← e]; exact (ht s hs).1
    · rw [← e]; exact (hl s hs).1
  have hw := wOf_mem (putAll_rises (l := l) hr) h
  rw [putAll_wOf t.1 hr] at hw
  have b1 := wOf_bound (zs := t.1) h0 (fun s hs => (ht s hs).2)
  have b2 := sumW_bound (zs := t.1) hM (fun s hs => (hl s hs).2)
  omega

set_option maxRecDepth 100000 in
set_option maxHeartbeats 4000000 in
theorem l2Add_gen (a a' : Option Addr) (n n' c c' : Nat) (ts ts' : List WRow) (w : World) (hz : ts.length = n) (hz' : ts'.length = n') (hn : n ≤ 500000) (hn' : n' ≤ 500000) (hF : Formed a n c)
    (hgo : ∀ k, k ≤ n' → ∀ t ∈ putAll ts (ts'.take k), t.1.length ≤ 6 ∧ -4000000000000000000 ≤ t.2 ∧ t.2 ≤ 4000000000000000000) (hg' : ∀ t ∈ ts', t.1.length ≤ 6 ∧ -4000000000000000000 ≤ t.2 ∧ t.2 ≤ 4000000000000000000) (ha : AtM w a ts) (ha' : AtM w a' ts') :
    Calls Tryz.prog 77 #[.slice a n c, .slice a' n' c'] w fun e w' => ∃ r k d, e = .returned (.slice r k d) ∧ (putAll ts ts').length = k ∧ Formed r k d ∧ AtM w' r (putAll ts ts') ∧ Below w.heap.size w w' := by
  go_enter Tryz.func77, Tryz.ntmps77
  go_wp2
  go_loopw [5, 11] (fun o i wr => ∃ (k : Nat) (r : Option Addr) (m d : Nat), k ≤ n' ∧ i = .int .i64 k ∧ o = .slice r m d ∧ (putAll ts (ts'.take k)).length = m ∧ Formed r m d ∧ AtM wr r (putAll ts (ts'.take k)) ∧ Below w.heap.size w wr) (fun _ i _ => n' - (intOf i).toNat)
  case atStart => exact ⟨0, a, n, c, Nat.zero_le _, rfl, rfl, hz, hF, ha, Below.refl _ _⟩
  case round =>
    obtain ⟨k, r, m, d, hk, rfl, rfl, hm, hFr, har, hbw⟩ := hrel
    by_cases hlt : k < n'
    · obtain ⟨b, off, rfl, hc⟩ := (ha'.below hbw).some (by omega)
      obtain ⟨q, dd, hcx, hwx, hm1, hnil, hat⟩ := hc k (by omega)
      have hgk := at_of_mem hg' k (by omega)
      have HS := Hid.mk (putAll_take ts ts' k (by omega))
      have hki : (k : Int) < (n' : Int) := by omega
      have hml : m ≤ n + k := by have := putAll_len (ts'.take k) ts; rw [List.length_take] at this; omega
      have hok : ∀ j, j < m → (wat (putAll ts (ts'.take k)) j).1.length ≤ 6 ∧ -4000000000000000000 ≤ (wat (putAll ts (ts'.take k)) j).2 ∧ (wat (putAll ts (ts'.take k)) j).2 ≤ 4000000000000000000 := fun j hj => at_of_mem (hgo k hk) j (show j < (putAll ts (ts'.take k)).length by omega)
      generalize wat ts' k = Y at *
      obtain ⟨ys, x⟩ := Y
      simp only at hcx hwx hat hm1 hgk HS
      obtain ⟨m2, hmm⟩ : ∃ m2, ys.length = m2 := ⟨_, rfl⟩
      rw [hmm] at hcx hm1 hgk
      have HM := Hid.mk hmm
      obtain ⟨h6, hx1, hx2⟩ := hgk
      obtain ⟨V, hV⟩ : ∃ V, V = wr.alloc (.cells #[.slice q m2 dd, .int .i64 x] 82) := ⟨_, rfl⟩
      have hbV : Below wr.heap.size wr V := by rw [hV]; exact (Below.refl _ _).alloc (Nat.le_refl _) _
      have B1 := hbw.trans (hbV.mono hbw.size)
      clear hmm hc
      go_wp2_with fail
      rw [← hV]
      clear hV hcx hwx
      refine (l2Put_any _ _ _ _ _ _ (putAll ts (ts'.take k)) ys x _ hm HM.out (by omega) hFr h6 hnil hok (by omega) (by omega) (har.below hbV) (hat.below hbV)).mono ?_
      rintro e w2 ⟨r2, m3, d2, rfl, hm3, hF2, ha2, hb2⟩
      rw [← HS.out] at hm3 ha2
      have HM3 := Hid.mk hm3
      have HF2 := Hid.mk hF2
      have HA2 := Hid.mk ha2
      have HB := Hid.mk (B1.trans (hb2.mono B1.size))
      clear hm3 hF2 ha2 hb2 B1 hbw har hm hFr hok hat hbV
      go_wp2
      go_roundw
      case rel => exact ⟨k + 1, _, _, _, by omega, by go_num, rfl, HM3.out, HF2.out, HA2.out, HB.out⟩
      case measure => simp [intOf]; omega
    · obtain rfl : k = n' := by omega
      rw [wtake_all' ts' hz'] at hm har
      go_wp2
      go_ret
      exact ⟨_, _, _, rfl, hm, hFr, har, hbw⟩

theorem l2Add_any (a a' : Option Addr) (n n' c c' : Nat) (ts ts' : List WRow) (w : World) (hz : ts.length = n) (hz' : ts'.length = n') (hn : n ≤ 2048) (hn' : n' ≤ 2048) (hF : Formed a n c) (hr : Rises ts)
    (hg : ∀ t ∈ ts, t.1.length ≤ 6 ∧ -1000000 ≤ t.2 ∧ t.2 ≤ 1000000) (hg' : ∀ t ∈ ts', t.1.length ≤ 6 ∧ -1000000 ≤ t.2 ∧ t.2 ≤ 1000000) (ha : AtM w a ts) (ha' : AtM w a' ts') :
    Calls Tryz.prog 77 #[.slice a n c, .slice a' n' c'] w fun e w' => ∃ r k d, e = .returned (.slice r k d) ∧ (putAll ts ts').length = k ∧ Formed r k d ∧ AtM w' r (putAll ts ts') ∧ Below w.heap.size w w' := by
  refine l2Add_gen a a' n n' c c' ts ts' w hz hz' (by omega) (by omega) hF (fun k hk t ht => ?_) (fun t ht => by have := hg' t ht; omega) ha ha'
  have := putAll_ok (M0 := 1000000) (M := 1000000) (by omega) (by omega) hr hg (fun t ht => hg' t (List.mem_of_mem_take ht)) t ht
  rw [List.length_take] at this
  refine ⟨this.1, ?_, ?_⟩ <;> omega


theorem scaleW_take (ts : List WRow) (t : Int) (k : Nat) (h : k < ts.length) (ht : t ≠ 0) : scaleW (ts.take (k + 1)) t = scaleW (ts.take k) t ++ [((wat ts k).1, t * (wat ts k).2)] := by
  unfold scaleW
  rw [if_neg ht, if_neg ht, wtake_succ ts k h, List.map_append]
  rfl
theorem scaleW_len (ts : List WRow) (t : Int) (ht : t ≠ 0) : (scaleW ts t).length = ts.length := by unfold scaleW; rw [if_neg ht, List.length_map]

set_option maxRecDepth 100000 in
set_option maxHeartbeats 4000000 in
theorem l2Scale_any (a : Option Addr) (n c : Nat) (ts : List WRow) (t : Int) (w : World) (hz : ts.length = n) (hn : n ≤ 2048) (h1 : -1000 ≤ t) (h2 : t ≤ 1000)
    (hg : ∀ s ∈ ts, s.1.length ≤ 6 ∧ -1000000 ≤ s.2 ∧ s.2 ≤ 1000000) (ha : AtM w a ts) :
    Calls Tryz.prog 83 #[.slice a n c, .int .i64 t] w fun e w' => ∃ r k d, e = .returned (.slice r k d) ∧ (scaleW ts t).length = k ∧ AtM w' r (scaleW ts t) ∧ Below w.heap.size w w' := by
  obtain ⟨i0, hi, hz0, hz1, hz2⟩ := info_parts Tryz.infoW
  by_cases ht : t = 0
  · have hne : (t != 0) = false := by simp [ht]
    have HT := Hid.mk ht
    clear ht
    go_enter Tryz.func83, Tryz.ntmps83
    go_wp2
    go_loopw [5, 10] (fun o i wr => ∃ (k : Nat), k ≤ n ∧ i = .int .i64 k ∧ o = .slice none 0 0 ∧ Below w.heap.size w wr) (fun _ i _ => n - (intOf i).toNat)
    case atStart => exact ⟨0, Nat.zero_le _, rfl, rfl, Below.refl _ _⟩
    case round =>
      obtain ⟨k, hk, rfl, rfl, hbw⟩ := hrel
      by_cases hlt : k < n
      · obtain ⟨b, off, rfl, hc⟩ := (ha.below hbw).some (by omega)
        obtain ⟨q, dd, hcx, hwx, hm1, hnil, hat⟩ := hc k (by omega)
        have hki : (k : Int) < (n : Int) := by omega
        clear hc
        go_wp2
        go_roundw
        case rel => exact ⟨k + 1, by omega, by go_num, rfl, hbw.alloc hbw.size _⟩
        case measure => simp [intOf]; omega
      · go_wp2
        go_ret
        have hs : scaleW ts t = [] := if_pos HT.out
        rw [hs]
        exact ⟨_, _, _, rfl, rfl, atM_nil _ _, hbw⟩
  · have hne : (t != 0) = true := by simp [ht]
    have HT := Hid.mk ht
    clear ht
    go_enter Tryz.func83, Tryz.ntmps83
    go_wp2
    go_loopw [5, 10] (fun o i wr => ∃ (k : Nat) (r : Option Addr) (d : Nat) (cs : List Value), k ≤ n ∧ i = .int .i64 k ∧ o = .slice r k d ∧ wr.ownsRow w.heap.size 82 2 (.slice r k d) k cs ∧ Means w cs (scaleW (ts.take k) t) ∧ Below w.heap.size w wr) (fun _ i _ => n - (intOf i).toNat)
    case atStart => exact ⟨0, none, 0, [], Nat.zero_le _, rfl, rfl, World.ownsRow_nil _ _ _ _, by rw [show scaleW (ts.take 0) t = [] by unfold scaleW; rw [if_neg HT.out]; rfl]; trivial, Below.refl _ _⟩
    case round =>
      obtain ⟨k, r, d, cs, hk, rfl, rfl, ho, hme, hbw⟩ := hrel
      by_cases hlt : k < n
      · obtain ⟨b, off, rfl, hc⟩ := ha.some (by omega)
        obtain ⟨q, dd, hcx, hwx, hm1, hnil, hat⟩ := hc k (by omega)
        have hgk := at_of_mem hg k (by omega)
        have HS := Hid.mk (scaleW_take ts t k (by omega) HT.out)
        have hki : (k : Int) < (n : Int) := by omega
        generalize wat ts k = Y at *
        obtain ⟨ys, x⟩ := Y
        simp only at hcx hwx hat hm1 hgk HS
        obtain ⟨m2, hmm⟩ : ∃ m2, ys.length = m2 := ⟨_, rfl⟩
        rw [hmm] at hcx hm1 hgk
        have HM := Hid.mk hmm
        obtain ⟨h6, hx1, hx2⟩ := hgk
        have hmul := mul_bound hx1 hx2 h1 h2
        have hmw : IntKind.i64.wrap (t * x) = t * x := IntWalk.i64_in _ (by rw [Int.mul_comm]; omega)
        have HATW := Hid.mk hat
        have hcx := cell_later hbw hcx
        have hwx := cell_later hbw hwx
        obtain ⟨V, hV⟩ : ∃ V, V = wr.alloc (.cells #[.slice q m2 dd, .int .i64 x] 82) := ⟨_, rfl⟩
        have hbV : Below wr.heap.size wr V := by rw [hV]; exact (Below.refl _ _).alloc (Nat.le_refl _) _
        have c3 : V.cell? ⟨wr.heap.size, 0, none⟩ = some (.slice q m2 dd) := by rw [hV]; exact pair0 wr _ _ _
        have c4 : V.cell? ⟨wr.heap.size, 1, none⟩ = some (.int .i64 x) := by rw [hV]; exact pair1 wr _ _ _
        have zV : V.heap.size = wr.heap.size + 1 := by rw [hV]; simp
        have oV := owns_below ho hbV
        have zz := hbw.size
        clear hmm hc hat
        obtain ⟨y, hy⟩ : ∃ y, y = t * x := ⟨_, rfl⟩
        have hmw2 : wrap64 (t * x) = y := by rw [hy]; exact wrap64_in (by rw [Int.mul_comm]; omega) (by rw [Int.mul_comm]; omega)
        rw [← hy] at HS
        clear hy hmw
        subst hV
        go_wp2_with (at_builtin; refine wpList_append_lies _ rfl (.tmp 16) (.tmp 24) 30 rfl w.heap.size 82 i0 (.agg #[.slice none 0 0, .int .i64 0]) 2 32 Tryz.underlying30 hi hz0 hz1 hz2 rfl (by decide) (.slice r k d) k cs rfl (oV.alloc _) ⟨wr.heap.size + 1, 0, none⟩ 1 1 [.slice q m2 dd, .int .i64 y] (by simp [Act.eval]) rfl (by simpa using news_at (wr.alloc (.cells #[.slice q m2 dd, .int .i64 x] 82)) #[.slice q m2 dd, .int .i64 y] 82) (by intro u hu; simp at hu; rcases hu with rfl | rfl <;> rfl) (by decide) (by unfold maxLen; omega) (by omega) (by simp; omega) (wr.heap.size + 1 + 1) (by simp) ?_; intro g2 cap2 w4 hown4 hgrow4 hat4 hlt4)
        have hgr : wr.grownBy w4 (Value.slice r k d).ownBlock := grown_alloc (grown_alloc hgrow4)
        have B4 : Below w.heap.size w w4 := hbw.grown hgr hbw.size (fun j hj => (ho.lt j hj).1)
        have HB := Hid.mk B4
        have HO := Hid.mk hown4
        have HME : Hid (Means w (cs ++ [.slice q m2 dd, .int .i64 y]) (scaleW (ts.take (k + 1)) t)) := by
          show Means _ _ _
          rw [HS.out]
          exact hme.append (Means.one HM.out (by omega) hnil HATW.out)
        clear hown4 hgrow4 hat4 hlt4 hgr B4 ho hme hbw hcx hwx c3 c4 oV hbV
        go_wp2
        go_roundw
        case rel => exact ⟨k + 1, _, _, _, by omega, by go_num, rfl, HO.out, HME.out, HB.out⟩
        case measure => simp [intOf]; omega
      · obtain rfl : k = n := by omega
        rw [wtake_all' ts hz] at hme
        have hl : (scaleW ts t).length = k := by rw [scaleW_len ts t HT.out]; exact hz
        go_wp2
        go_ret
        exact ⟨_, _, _, rfl, hl, (hme.below hbw).ownedM hl ho, hbw⟩

end Go.Proofs.YthiabjkjpjmahaaGreat
