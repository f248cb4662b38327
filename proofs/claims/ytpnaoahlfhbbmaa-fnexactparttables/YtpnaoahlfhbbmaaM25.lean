/- Several texts of one proof, in build order: PtJ, PtS, StreamM, PtU. -/
import Derived.Test.YtpnaoahlfhbbmaaM24

/- Contract of impl.PartTables. -/
namespace Go.Proofs.Ytpnaoahlfhbbmaa
open Go.RowKit Go.Shelf

set_option maxRecDepth 100000 in
set_option maxHeartbeats 8000000 in
theorem implPartTables (a a' : Option Addr) (n n' c c' : Nat) (ts : List WRow) (p : Int) (zss : List (List Int)) (w : World) (hz : ts.length = n) (hz' : zss.length = n') (hn : n ≤ 1048576) (hn' : n' ≤ 1048576) (htot : tot zss n' ≤ 1048576) (ha : AtM w a ts) (ha' : AtS w a' zss) :
    Calls Try.prog 13 #[.agg #[.int .i64 p, .slice a n c], .slice a' n' c'] w fun e w' => TbsRet e w' w.heap.size (ptB p ts zss) (ansS (ptB p ts zss) (ptL ts zss)) ∧ Below w.heap.size w w' := by
  obtain ⟨i0, hi, hz0, hz1, hz2⟩ := info_parts Try.infoT
  obtain ⟨W, hW⟩ : ∃ W, W = w.alloc (.cells #[.int .i64 p, .slice a n c] 36) := ⟨_, rfl⟩
  have B0 : Below w.heap.size w W := by rw [hW]; exact (Below.refl _ _).alloc (Nat.le_refl _) _
  have zW : w.heap.size < W.heap.size := by rw [hW]; simp
  have c0 : W.cell? ⟨w.heap.size, 0, none⟩ = some (.int .i64 p) := by rw [hW]; exact pair0 _ _ _ _
  have c1 : W.cell? ⟨w.heap.size, 1, none⟩ = some (.slice a n c) := by rw [hW]; exact pair1 _ _ _ _
  have HA := Hid.mk (ha.below B0)
  have HA' := Hid.mk (AtS.below ha' B0)
  have HZ := Hid.mk hz
  have HZ' := Hid.mk hz'
  have HTOT := Hid.mk htot
  have HB0 := Hid.mk B0
  have K1 := Hid.mk (implGoodTable_any a n c ts p W hz hn HA.out.atW)
  clear ha ha' hz hz' B0 htot
  go_enter Try.func13, Try.ntmps13
  go_wp2_with fail
  rw [← hW]
  clear hW
  refine K1.out.mono ?_
  rintro e w1 ⟨rfl, hb1⟩
  have c0 := cell_later hb1 c0
  have c1 := cell_later hb1 c1
  have HA1 := Hid.mk (HA.out.below hb1)
  have HA1' := Hid.mk (AtS.below HA'.out hb1)
  have HB1 := Hid.mk (HB0.out.trans (hb1.mono HB0.out.size))
  have z1 := hb1.size
  clear hb1 K1 HA HA' HB0
  cases hg : goodT p ts with
  | false =>
    have HN : Hid (ptB p ts zss = false) := by show _ = _; unfold ptB; rw [hg]; rfl
    go_wp2
    exact bodyPost_ret (v := .tuple #[.slice none 0 0, .bool false]) (by simp [results, Try.results13, go_sem]) rfl ⟨TbsRet.zero HN.out, HB1.out⟩
  | true =>
    have K2 := Hid.mk (implGoodParts a' n' c' zss p w1 HZ'.out (by omega) HA1'.out)
    go_wp2_with fail
    refine K2.out.mono ?_
    rintro e w2 ⟨rfl, hb2⟩
    have c0 := cell_later hb2 c0
    have c1 := cell_later hb2 c1
    have HA2 := Hid.mk (HA1.out.below hb2)
    have HA2' := Hid.mk (AtS.below HA1'.out hb2)
    have HB2 := Hid.mk (HB1.out.trans (hb2.mono HB1.out.size))
    have z2 := hb2.size
    clear hb2 K2 HA1 HA1' HB1
    cases hgp : gpB zss p with
    | false =>
      have HN : Hid (ptB p ts zss = false) := by show _ = _; unfold ptB; rw [hg, hgp]; rfl
      go_wp2
      exact bodyPost_ret (v := .tuple #[.slice none 0 0, .bool false]) (by simp [results, Try.results13, go_sem]) rfl ⟨TbsRet.zero HN.out, HB2.out⟩
    | true =>
      have HPB : Hid (ptB p ts zss = zss.all (projB p ts)) := by show _ = _; unfold ptB; rw [hg, hgp]; rfl
      have h8 := gpB_len hgp
      have HRW := Hid.mk (gpB_row hgp)
      have hn8 : n' ≤ 8 := by have := HZ'.out; omega
      obtain ⟨q, hq⟩ : ∃ q, q = w2.heap.size := ⟨_, rfl⟩
      have zq : w.heap.size < q := by omega
      have HQ := Hid.mk hq
      clear hg hgp h8 hq
      go_wp2_with fail
      go_loopw [6, 23] (fun pp i wx => ∃ (k : Nat) (r : Option Addr) (d : Nat), k ≤ n' ∧ i = .int .i64 k ∧ pp = .slice r k d ∧ OwnU wx q wx.heap.size r k d (ptL ts (zss.take k)) ∧ zss.all (projB p ts) = (zss.drop k).all (projB p ts) ∧ q ≤ wx.heap.size ∧ Below w2.heap.size w2 wx) (fun _ i _ => n' - (intOf i).toNat)
      case atStart => exact ⟨0, none, 0, Nat.zero_le _, rfl, rfl, OwnU.nil _ _, rfl, Nat.le_of_eq HQ.out, Below.refl _ _⟩
      case round =>
        obtain ⟨k, r, d, hk, rfl, rfl, hown, hall, zr, hbw⟩ := hrel
        by_cases hlt : k < n'
        · obtain ⟨zs, hzs⟩ : ∃ zs, zss[k]? = some zs := ⟨_, List.getElem?_eq_getElem (by have := HZ'.out; omega)⟩
          obtain ⟨b, off, a2, c2, rfl, hcx, hm1, hax⟩ := atS_row (AtS.below HA2'.out hbw) hzs
          rw [all_drop hzs] at hall
          have htk := ptL_take (ts := ts) hzs
          have hz6 := HRW.out zs (List.mem_of_getElem? hzs)
          obtain ⟨mz, hmz⟩ : ∃ m, zs.length = m := ⟨_, rfl⟩
          rw [hmz] at hcx hm1 hz6
          have c0 := cell_later hbw c0
          have c1 := cell_later hbw c1
          have hki : (k : Int) < (n' : Int) := by omega
          have HALL := Hid.mk hall
          have HTK := Hid.mk htk
          have HMZ := Hid.mk hmz
          have HOW := Hid.mk hown
          have HB := Hid.mk hbw
          have HAR := Hid.mk (HA2.out.below hbw)
          have HAX := Hid.mk hax
          obtain ⟨wy, rfl⟩ : ∃ x, x = wr := ⟨_, rfl⟩
          clear hall htk hmz hown hbw hzs hax
          have K := Hid.mk (plainPart_any a a2 n mz c c2 ts p zs wy HZ.out HMZ.out hn (by omega) HAR.out HAX.out)
          go_wp2_with fail
          refine K.out.mono ?_
          rintro e w4 ⟨⟨r3, m3, d3, cells3, rfl, ho3⟩, hb4⟩
          have HBR := Hid.mk hb4
          have z4 := hb4.size
          have HBW3 := Hid.mk (HB2.out.trans ((HB.out.trans (hb4.mono HB.out.size)).mono HB2.out.size))
          clear K
          cases hpr : projB p ts zs with
          | false =>
            have HN := Hid.mk hpr
            obtain ⟨P3, hP3⟩ : ∃ P3, ansP false (zs.length : Int) = P3 := ⟨_, rfl⟩
            rw [hP3]
            obtain ⟨W4, hW4⟩ : ∃ W4, W4 = w4.alloc (.cells #[.int .i64 P3, .slice r3 m3 d3] 36) := ⟨_, rfl⟩
            have HBW3 : Hid (Below w.heap.size w W4) := by rw [hW4]; exact HBW3.out.alloc HBW3.out.size _
            clear hP3 hb4 ho3 hpr
            go_upto_region 8 with fail
            rw [← hW4]
            clear hW4
            have HF : Hid (ptB p ts zss = false) := by show _ = _; rw [HPB.out, HALL.out, HN.out]; rfl
            go_wp2
            exact bodyPost_ret (v := .tuple #[.slice none 0 0, .bool false]) (by simp [results, Try.results13, go_sem]) rfl ⟨TbsRet.zero HF.out, HBW3.out⟩
          | true =>
            rw [hpr] at ho3
            have HN := Hid.mk hpr
            have ho3' : OwnT w4 wy.heap.size w4.heap.size r3 m3 d3 (distW (projW ts zs)) := ⟨cells3, ho3⟩
            have HM3 := Hid.mk ho3'.len
            have HO3 := Hid.mk ho3'
            obtain ⟨P3, hP3⟩ : ∃ P3, ansP true (zs.length : Int) = P3 := ⟨_, rfl⟩
            rw [hP3]
            have HP3 : Hid (P3 = (zs.length : Int)) := hP3.symm
            obtain ⟨cells, L, H, hou⟩ := HOW.out
            have HOU := Hid.mk hou
            obtain ⟨W4, hW4⟩ : ∃ W4, W4 = w4.alloc (.cells #[.int .i64 P3, .slice r3 m3 d3] 36) := ⟨_, rfl⟩
            have hbX : Below w4.heap.size w4 W4 := by rw [hW4]; exact (Below.refl _ _).alloc (Nat.le_refl _) _
            have HB4 := Hid.mk hbX
            have k0 : W4.cell? ⟨w4.heap.size, 0, none⟩ = some (.int .i64 P3) := by rw [hW4]; exact pair0 _ _ _ _
            have k1 : W4.cell? ⟨w4.heap.size, 1, none⟩ = some (.slice r3 m3 d3) := by rw [hW4]; exact pair1 _ _ _ _
            have HO4 := Hid.mk ((hou.below hb4).below hbX)
            have HBW4 := Hid.mk ((HB.out.trans (hb4.mono HB.out.size)).trans (hbX.mono (by have := HB.out.size; omega)))
            have zX := hbX.size
            clear hP3 hb4 ho3 ho3' hou hbX hpr
            go_upto_region 8 with fail
            rw [← hW4]
            clear hW4
            go_wp2_with (at_builtin; refine wpList_append_lies _ rfl (.tmp 35) (.tmp 37) 31 rfl q 36 i0 (.agg #[.int .i64 0, .slice none 0 0]) 2 32 Try.underlying31 hi hz0 hz1 hz2 rfl (by decide) (.slice r k d) k cells rfl (HO4.out.outer.alloc _) ⟨W4.heap.size, 0, none⟩ 1 1 [.int .i64 P3, .slice r3 m3 d3] (by simp [Act.eval]) rfl (by simpa using news_at W4 #[.int .i64 P3, .slice r3 m3 d3] 36) (by intro u hu; simp at hu; rcases hu with rfl | rfl <;> rfl) (by decide) (by unfold maxLen; omega) (by omega) (by simp; omega) (W4.heap.size + 1) (by simp) ?_)
            intro g5 cap5 w5 hown5 hgrow5 hat5 hlt5
            have hob : ∀ j, (Value.slice r k d).ownBlock = some j → q ≤ j := fun j hj => (HO4.out.blocks j hj).1
            have hbB : Below w4.heap.size w4 (W4.alloc (.cells #[.int .i64 P3, .slice r3 m3 d3] 36)) := HB4.out.alloc HB4.out.size _
            have hpu := HOU.out.pushed (p := P3) (by omega) HBR.out HM3.out HO3.out hbB hown5 hgrow5 (by
              rcases hat5 with e | e
              · left; exact e
              · right; omega) hlt5
            have HE : Hid (ptL ts (zss.take (k + 1)) = ptL ts (zss.take k) ++ [(P3, distW (projW ts zs))]) := by show _ = _; rw [HTK.out, HP3.out]; rfl
            rw [← HE.out] at hpu
            have HPU := Hid.mk hpu
            have z5 : W4.heap.size ≤ w5.heap.size := by have := hgrow5.size; simp at this; omega
            have HB5 : Hid (Below w2.heap.size w2 w5) := (HBW4.out.alloc HBW4.out.size _).grown hgrow5 (by have := HBW4.out.size; simp; omega) (fun j hj => by have := hob j hj; have := HQ.out; omega)
            have HA5 : Hid (zss.all (projB p ts) = (zss.drop (k + 1)).all (projB p ts)) := by show _ = _; rw [HALL.out, HN.out]; rfl
            clear hpu hob hbB hown5 hgrow5 hat5 HOU HO4 HO3
            go_wp2
            go_roundw
            case rel => exact ⟨k + 1, _, _, by omega, by go_num, rfl, ⟨_, _, _, HPU.out⟩, HA5.out, by omega, HB5.out⟩
            case measure => simp [intOf]; omega
        · obtain rfl : k = n' := by omega
          have hki : ¬ (k : Int) < (k : Int) := by omega
          rw [List.take_of_length_le (by have := HZ'.out; omega)] at hown
          rw [List.drop_of_length_le (by have := HZ'.out; omega)] at hall
          have HY : Hid (ptB p ts zss = true) := by show _ = _; rw [HPB.out, hall]; rfl
          have HR : Hid (TbsRet (.returned (.tuple #[.slice r k d, .bool true])) wr w.heap.size (ptB p ts zss) (ansS (ptB p ts zss) (ptL ts zss))) := by
            rw [HY.out]
            exact ⟨r, k, d, rfl, hown.widen (by omega) (Nat.le_refl _) (Nat.le_refl _)⟩
          have HBW := Hid.mk (HB2.out.trans (hbw.mono HB2.out.size))
          clear hown hall
          go_wp2
          exact bodyPost_ret (v := .tuple #[.slice r k d, .bool true]) (by simp [results, Try.results13, go_sem]) rfl ⟨HR.out, HBW.out⟩

end Go.Proofs.Ytpnaoahlfhbbmaa

/- Contract of spec.PartTables. -/
namespace Go.Proofs.Ytpnaoahlfhbbmaa
open Go.RowKit Go.Shelf

set_option maxRecDepth 100000 in
set_option maxHeartbeats 8000000 in
theorem specPartTables (a a' : Option Addr) (n n' c c' : Nat) (ts : List WRow) (p : Int) (zss : List (List Int)) (w : World) (hz : ts.length = n) (hz' : zss.length = n') (hn : n ≤ 1048576) (hn' : n' ≤ 1048576) (htot : tot zss n' ≤ 1048576) (ha : AtM w a ts) (ha' : AtS w a' zss) :
    Calls Try.prog 11 #[.agg #[.int .i64 p, .slice a n c], .slice a' n' c'] w fun e w' => TbsRet e w' w.heap.size (ptB p ts zss) (ansS (ptB p ts zss) (ptL ts zss)) ∧ Below w.heap.size w w' := by
  obtain ⟨i0, hi, hz0, hz1, hz2⟩ := info_parts Try.infoT
  obtain ⟨W, hW⟩ : ∃ W, W = w.alloc (.cells #[.int .i64 p, .slice a n c] 36) := ⟨_, rfl⟩
  have B0 : Below w.heap.size w W := by rw [hW]; exact (Below.refl _ _).alloc (Nat.le_refl _) _
  have zW : w.heap.size < W.heap.size := by rw [hW]; simp
  have c0 : W.cell? ⟨w.heap.size, 0, none⟩ = some (.int .i64 p) := by rw [hW]; exact pair0 _ _ _ _
  have c1 : W.cell? ⟨w.heap.size, 1, none⟩ = some (.slice a n c) := by rw [hW]; exact pair1 _ _ _ _
  have HA := Hid.mk (ha.below B0)
  have HA' := Hid.mk (AtS.below ha' B0)
  have HZ := Hid.mk hz
  have HZ' := Hid.mk hz'
  have HTOT := Hid.mk htot
  have HB0 := Hid.mk B0
  have K1 := Hid.mk (specGoodTable_any a n c ts p W hz hn HA.out.atW)
  clear ha ha' hz hz' B0 htot
  go_enter Try.func11, Try.ntmps11
  go_wp2_with fail
  rw [← hW]
  clear hW
  refine K1.out.mono ?_
  rintro e w1 ⟨rfl, hb1⟩
  have c0 := cell_later hb1 c0
  have c1 := cell_later hb1 c1
  have HA1 := Hid.mk (HA.out.below hb1)
  have HA1' := Hid.mk (AtS.below HA'.out hb1)
  have HB1 := Hid.mk (HB0.out.trans (hb1.mono HB0.out.size))
  have z1 := hb1.size
  clear hb1 K1 HA HA' HB0
  cases hg : goodT p ts with
  | false =>
    have HN : Hid (ptB p ts zss = false) := by show _ = _; unfold ptB; rw [hg]; rfl
    go_wp2
    exact bodyPost_ret (v := .tuple #[.slice none 0 0, .bool false]) (by simp [results, Try.results11, go_sem]) rfl ⟨TbsRet.zero HN.out, HB1.out⟩
  | true =>
    have K2 := Hid.mk (specGoodParts a' n' c' zss p w1 HZ'.out hn' HTOT.out HA1'.out)
    go_wp2_with fail
    refine K2.out.mono ?_
    rintro e w2 ⟨rfl, hb2⟩
    have c0 := cell_later hb2 c0
    have c1 := cell_later hb2 c1
    have HA2 := Hid.mk (HA1.out.below hb2)
    have HA2' := Hid.mk (AtS.below HA1'.out hb2)
    have HB2 := Hid.mk (HB1.out.trans (hb2.mono HB1.out.size))
    have z2 := hb2.size
    clear hb2 K2 HA1 HA1' HB1
    cases hgp : gpB zss p with
    | false =>
      have HN : Hid (ptB p ts zss = false) := by show _ = _; unfold ptB; rw [hg, hgp]; rfl
      go_wp2
      exact bodyPost_ret (v := .tuple #[.slice none 0 0, .bool false]) (by simp [results, Try.results11, go_sem]) rfl ⟨TbsRet.zero HN.out, HB2.out⟩
    | true =>
      have HPB : Hid (ptB p ts zss = zss.all (projB p ts)) := by show _ = _; unfold ptB; rw [hg, hgp]; rfl
      have h8 := gpB_len hgp
      have HRW := Hid.mk (gpB_row hgp)
      have hn8 : n' ≤ 8 := by have := HZ'.out; omega
      obtain ⟨q, hq⟩ : ∃ q, q = w2.heap.size := ⟨_, rfl⟩
      have zq : w.heap.size < q := by omega
      have HQ := Hid.mk hq
      clear hg hgp h8 hq
      go_wp2_with fail
      go_loopw [6, 25] (fun pp i wx => ∃ (k : Nat) (r : Option Addr) (d : Nat), k ≤ n' ∧ i = .int .i64 k ∧ pp = .slice r k d ∧ OwnU wx q wx.heap.size r k d (ptL ts (zss.take k)) ∧ zss.all (projB p ts) = (zss.drop k).all (projB p ts) ∧ q ≤ wx.heap.size ∧ Below w2.heap.size w2 wx) (fun _ i _ => n' - (intOf i).toNat)
      case atStart => exact ⟨0, none, 0, Nat.zero_le _, rfl, rfl, OwnU.nil _ _, rfl, Nat.le_of_eq HQ.out, Below.refl _ _⟩
      case round =>
        obtain ⟨k, r, d, hk, rfl, rfl, hown, hall, zr, hbw⟩ := hrel
        by_cases hlt : k < n'
        · obtain ⟨zs, hzs⟩ : ∃ zs, zss[k]? = some zs := ⟨_, List.getElem?_eq_getElem (by have := HZ'.out; omega)⟩
          obtain ⟨b, off, a2, c2, rfl, hcx, hm1, hax⟩ := atS_row (AtS.below HA2'.out hbw) hzs
          rw [all_drop hzs] at hall
          have htk := ptL_take (ts := ts) hzs
          have hz6 := HRW.out zs (List.mem_of_getElem? hzs)
          obtain ⟨mz, hmz⟩ : ∃ m, zs.length = m := ⟨_, rfl⟩
          rw [hmz] at hcx hm1 hz6
          have c0 := cell_later hbw c0
          have c1 := cell_later hbw c1
          have hki : (k : Int) < (n' : Int) := by omega
          have HALL := Hid.mk hall
          have HTK := Hid.mk htk
          have HMZ := Hid.mk hmz
          have HOW := Hid.mk hown
          have HB := Hid.mk hbw
          have HAR := Hid.mk (HA2.out.below hbw)
          have HAX := Hid.mk hax
          obtain ⟨wy, rfl⟩ : ∃ x, x = wr := ⟨_, rfl⟩
          clear hall htk hmz hown hbw hzs hax
          have K := Hid.mk (specProjectTable a a2 n mz c c2 ts p zs wy HZ.out HMZ.out hn (by omega) HAR.out HAX.out)
          go_wp2_with fail
          refine K.out.mono ?_
          rintro e w3 ⟨⟨r1, m1, d1, cells1, rfl, ho1⟩, hb3⟩
          have z3 := hb3.size
          have HBW3 := Hid.mk (HB2.out.trans ((HB.out.trans (hb3.mono HB.out.size)).mono HB2.out.size))
          clear K
          cases hpr : projB p ts zs with
          | false =>
            have HN := Hid.mk hpr
            obtain ⟨P3, hP3⟩ : ∃ P3, ansP false (zs.length : Int) = P3 := ⟨_, rfl⟩
            rw [hP3]
            obtain ⟨W4, hW4⟩ : ∃ W4, W4 = w3.alloc (.cells #[.int .i64 P3, .slice r1 m1 d1] 36) := ⟨_, rfl⟩
            have HBW3 : Hid (Below w.heap.size w W4) := by rw [hW4]; exact HBW3.out.alloc HBW3.out.size _
            clear hP3 hb3 ho1 hpr
            go_upto_region 8 with fail
            rw [← hW4]
            clear hW4
            have HF : Hid (ptB p ts zss = false) := by show _ = _; rw [HPB.out, HALL.out, HN.out]; rfl
            go_wp2
            exact bodyPost_ret (v := .tuple #[.slice none 0 0, .bool false]) (by simp [results, Try.results11, go_sem]) rfl ⟨TbsRet.zero HF.out, HBW3.out⟩
          | true =>
            rw [hpr] at ho1
            have HN := Hid.mk hpr
            have hgt := projB_goodT hpr
            have hs1 : SmT (projW ts zs) (projW ts zs).length := ans_small (ok := true) (fun _ => hgt)
            have ho1' : OwnT w3 wy.heap.size w3.heap.size r1 m1 d1 (projW ts zs) := ⟨cells1, ho1⟩
            have hm1' : (projW ts zs).length = m1 := ho1'.len
            rw [hm1'] at hs1
            have hdb : distB zs.length (projW ts zs) = true := by rw [distB_yes hgt]; exact dist_good hgt
            obtain ⟨P1, hP1⟩ : ∃ P1, ansP true (zs.length : Int) = P1 := ⟨_, rfl⟩
            rw [hP1]
            have hP1' : P1 = (zs.length : Int) := hP1.symm
            obtain ⟨W3, hW3⟩ : ∃ W3, W3 = w3.alloc (.cells #[.int .i64 P1, .slice r1 m1 d1] 36) := ⟨_, rfl⟩
            have hbX : Below w3.heap.size w3 W3 := by rw [hW3]; exact (Below.refl _ _).alloc (Nat.le_refl _) _
            have k0 : W3.cell? ⟨w3.heap.size, 0, none⟩ = some (.int .i64 P1) := by rw [hW3]; exact pair0 _ _ _ _
            have k1 : W3.cell? ⟨w3.heap.size, 1, none⟩ = some (.slice r1 m1 d1) := by rw [hW3]; exact pair1 _ _ _ _
            have zX := hbX.size
            have HB3 := Hid.mk (hb3.trans (hbX.mono hb3.size))
            have K2 := Hid.mk (specDistinctTable r1 m1 d1 (projW ts zs) P1 W3 hm1' (by have := hs1.n; omega) ((ho1'.below hbX).atM hs1))
            rw [hP1', hdb] at K2
            rw [← hP1'] at K2
            have HP1 := Hid.mk hP1'
            clear hP1 hP1' hb3 ho1 ho1' hbX hpr hgt hs1 hm1' hdb
            go_upto_region 8 with fail
            rw [← hW3]
            clear hW3
            go_wp2_with fail
            refine K2.out.mono ?_
            rintro e w4 ⟨⟨r3, m3, d3, cells3, rfl, ho3⟩, hb4⟩
            have hbr := HB3.out.trans (hb4.mono HB3.out.size)
            have HBR := Hid.mk hbr
            have z4 := hbr.size
            have ho3' : OwnT w4 wy.heap.size w4.heap.size r3 m3 d3 (distW (projW ts zs)) := OwnT.widen ⟨cells3, ho3⟩ (by omega) (Nat.le_refl _) (Nat.le_refl _)
            have HM3 := Hid.mk ho3'.len
            have HO3 := Hid.mk ho3'
            obtain ⟨P3, hP3⟩ : ∃ P3, ansP true P1 = P3 := ⟨_, rfl⟩
            rw [hP3]
            have HP3 : Hid (P3 = (zs.length : Int)) := hP3.symm.trans HP1.out
            obtain ⟨cells, L, H, hou⟩ := HOW.out
            have HOU := Hid.mk hou
            obtain ⟨W4, hW4⟩ : ∃ W4, W4 = w4.alloc (.cells #[.int .i64 P3, .slice r3 m3 d3] 36) := ⟨_, rfl⟩
            have hbX : Below w4.heap.size w4 W4 := by rw [hW4]; exact (Below.refl _ _).alloc (Nat.le_refl _) _
            have HB4 := Hid.mk hbX
            have k0 : W4.cell? ⟨w4.heap.size, 0, none⟩ = some (.int .i64 P3) := by rw [hW4]; exact pair0 _ _ _ _
            have k1 : W4.cell? ⟨w4.heap.size, 1, none⟩ = some (.slice r3 m3 d3) := by rw [hW4]; exact pair1 _ _ _ _
            have HO4 := Hid.mk ((hou.below hbr).below hbX)
            have HBW4 := Hid.mk ((HB.out.trans (hbr.mono HB.out.size)).trans (hbX.mono (by have := HB.out.size; omega)))
            have zX4 := hbX.size
            clear hP3 hb4 ho3 ho3' hou hbX hbr
            go_upto_region 11 with fail
            rw [← hW4]
            clear hW4
            go_wp2_with (at_builtin; refine wpList_append_lies _ rfl (.tmp 42) (.tmp 44) 31 rfl q 36 i0 (.agg #[.int .i64 0, .slice none 0 0]) 2 32 Try.underlying31 hi hz0 hz1 hz2 rfl (by decide) (.slice r k d) k cells rfl (HO4.out.outer.alloc _) ⟨W4.heap.size, 0, none⟩ 1 1 [.int .i64 P3, .slice r3 m3 d3] (by simp [Act.eval]) rfl (by simpa using news_at W4 #[.int .i64 P3, .slice r3 m3 d3] 36) (by intro u hu; simp at hu; rcases hu with rfl | rfl <;> rfl) (by decide) (by unfold maxLen; omega) (by omega) (by simp; omega) (W4.heap.size + 1) (by simp) ?_)
            intro g5 cap5 w5 hown5 hgrow5 hat5 hlt5
            have hob : ∀ j, (Value.slice r k d).ownBlock = some j → q ≤ j := fun j hj => (HO4.out.blocks j hj).1
            have hbB : Below w4.heap.size w4 (W4.alloc (.cells #[.int .i64 P3, .slice r3 m3 d3] 36)) := HB4.out.alloc HB4.out.size _
            have hpu := HOU.out.pushed (p := P3) (by omega) HBR.out HM3.out HO3.out hbB hown5 hgrow5 (by
              rcases hat5 with e | e
              · left; exact e
              · right; omega) hlt5
            have HE : Hid (ptL ts (zss.take (k + 1)) = ptL ts (zss.take k) ++ [(P3, distW (projW ts zs))]) := by show _ = _; rw [HTK.out, HP3.out]; rfl
            rw [← HE.out] at hpu
            have HPU := Hid.mk hpu
            have z5 : W4.heap.size ≤ w5.heap.size := by have := hgrow5.size; simp at this; omega
            have HB5 : Hid (Below w2.heap.size w2 w5) := (HBW4.out.alloc HBW4.out.size _).grown hgrow5 (by have := HBW4.out.size; simp; omega) (fun j hj => by have := hob j hj; have := HQ.out; omega)
            have HA5 : Hid (zss.all (projB p ts) = (zss.drop (k + 1)).all (projB p ts)) := by show _ = _; rw [HALL.out, HN.out]; rfl
            clear hpu hob hbB hown5 hgrow5 hat5 HOU HO4 HO3
            go_wp2
            go_roundw
            case rel => exact ⟨k + 1, _, _, by omega, by go_num, rfl, ⟨_, _, _, HPU.out⟩, HA5.out, by omega, HB5.out⟩
            case measure => simp [intOf]; omega
        · obtain rfl : k = n' := by omega
          have hki : ¬ (k : Int) < (k : Int) := by omega
          rw [List.take_of_length_le (by have := HZ'.out; omega)] at hown
          rw [List.drop_of_length_le (by have := HZ'.out; omega)] at hall
          have HY : Hid (ptB p ts zss = true) := by show _ = _; rw [HPB.out, hall]; rfl
          have HR : Hid (TbsRet (.returned (.tuple #[.slice r k d, .bool true])) wr w.heap.size (ptB p ts zss) (ansS (ptB p ts zss) (ptL ts zss))) := by
            rw [HY.out]
            exact ⟨r, k, d, rfl, hown.widen (by omega) (Nat.le_refl _) (Nat.le_refl _)⟩
          have HBW := Hid.mk (HB2.out.trans (hbw.mono HB2.out.size))
          clear hown hall
          go_wp2
          exact bodyPost_ret (v := .tuple #[.slice r k d, .bool true]) (by simp [results, Try.results11, go_sem]) rfl ⟨HR.out, HBW.out⟩

end Go.Proofs.Ytpnaoahlfhbbmaa

/- Contracts of the laws' helpers that mark streams: markTableS, markStream, heldTableS, heldStream. -/
namespace Go.Proofs.Ytpnaoahlfhbbmaa
open Go.RowKit

set_option maxHeartbeats 2000000 in
theorem markTableS_any (lo hi : Nat) (a : Option Addr) (n c : Nat) (ss : List Tab) (m : Int) (w : World) (hs : SmU ss n) (h0 : 0 ≤ m) (h1 : m ≤ 134217728) (ho : OwnU w lo hi a n c ss) :
    Calls Try.prog 18 #[.slice a n c, .int .i64 m] w fun e w' => e = .returned (.int .i64 (m + stot ss n)) ∧ OwnU w' lo hi a n c (markU m ss) ∧ Apart lo hi w w' := by
  obtain ⟨cells, L, H, ho⟩ := ho
  have hz := hs.1
  have hn := hs.n
  have ht := hs.2
  by_cases hn0 : n = 0
  · subst hn0
    obtain rfl := List.eq_nil_of_length_eq_zero hz
    go_enter Try.func18, Try.ntmps18
    go_wp2
    refine wp_loop_rounds 1 ?_
    rw [rounds_succ]
    go_wp2
    go_ret
    exact ⟨ret_int (by simp [stot]), ⟨cells, L, H, ho⟩, Apart.refl _ _ _⟩
  · obtain ⟨g, hgv⟩ : ∃ g, a = some ⟨g, 0, none⟩ := by
      rcases ho.outer.2 with ⟨_, h⟩ | ⟨g, cap, cur, hv, _⟩
      · omega
      · simp only [Value.slice.injEq, true_and] at hv
        exact ⟨g, hv.1⟩
    subst hgv
    have ho0 : OwnUk w lo hi (some ⟨g, 0, none⟩) n c (mixU m ss 0) cells L H n := by rw [mixU_zero]; exact ho
    clear ho
    go_enter Try.func18, Try.ntmps18
    go_wp2
    go_loopw [1, 5] (fun q i wr => ∃ (k : Nat) (cells : List Value), k ≤ n ∧ i = .int .i64 k ∧ q = .int .i64 (m + stot ss k) ∧ OwnUk wr lo hi (some ⟨g, 0, none⟩) n c (mixU m ss k) cells L H n ∧ Apart lo hi w wr) (fun _ i _ => n - (intOf i).toNat)
    case atStart => exact ⟨0, cells, Nat.zero_le _, rfl, by simp [stot_zero], ho0, Apart.refl _ _ _⟩
    case round =>
      clear ho0 cells
      obtain ⟨k, cells, hk, rfl, rfl, ho, hap⟩ := hrel
      by_cases hlt : k < n
      · obtain ⟨a', c', k1, k2, k3⟩ := ho.row k hlt
        rw [mixU_at m ss k k (by omega), if_neg (by omega)] at k1 k2 k3
        have hsm := hs.tab k hlt
        have hts := stot_succ ss k (by omega)
        have htm := stot_mono ss (k + 1) n (by omega) (by omega)
        have hout := ho.outer
        have hln := hout.1
        have hw := ho.within k hlt
        have hgo := ho.out k hlt g rfl
        have hgl := ho.blocks g rfl
        have HO := Hid.mk ho
        obtain ⟨us, hus⟩ : ∃ us, (tat ss k).2 = us := ⟨_, rfl⟩
        rw [hus] at k2 k3 hsm hts
        obtain ⟨l, hl⟩ : ∃ l, us.length = l := ⟨_, rfl⟩
        rw [hl] at k2 k3 hsm hts
        obtain ⟨T, hT⟩ : ∃ T : Nat, stot ss k = T := ⟨_, rfl⟩
        obtain ⟨v, hv⟩ : ∃ v : Int, m + (T : Int) = v := ⟨_, rfl⟩
        have hb1 : v + 1 ≤ 268435456 := by omega
        have hb0 : 0 ≤ v + 1 := by omega
        have hw0 : -9223372036854775808 ≤ v := by omega
        have hcx : wr.cell? ⟨g, k * 2 + 1, none⟩ = some (.slice a' l c') := (hout.cellAt _ (by omega)).trans k2
        have hco : wr.cell? ⟨g, k * 2, none⟩ = some (.int .i64 (tat ss k).1) := (hout.cellAt _ (by omega)).trans k1
        have hfo : wr.frozen? ⟨g, k * 2, none⟩ = false := hout.frozenAt _
        have HK := Hid.mk k2
        have HUS := Hid.mk hus
        have HL := Hid.mk hl
        have HT := Hid.mk hT
        have HV := Hid.mk hv
        have HTS := Hid.mk hts
        have HAP := Hid.mk hap
        rw [hT, hv]
        have hki : (k : Int) < (n : Int) := by omega
        have hO1 : OwnT (wr.setCell ⟨g, k * 2, none⟩ (.int .i64 v)) (L k) (H k) a' l c' us := k3.setCell (a0 := ⟨g, k * 2, none⟩) hgo _
        have hcx1 : (wr.setCell ⟨g, k * 2, none⟩ (.int .i64 v)).cell? ⟨g, k * 2 + 1, none⟩ = some (.slice a' l c') := by
          have := ((hout.stored (k * 2) (.int .i64 v)).1.cellAt (k * 2 + 1) (by omega))
          rw [this, List.getElem?_set_ne (by omega)]; exact k2
        clear k1 k2 hus hl hT hts htm hap ho hout hv
        go_wp2_with fail
        refine (markWeightedSG (L k) (H k) _ _ _ us _ _ hsm hb0 hb1 hO1).mono ?_
        rintro e w2 ⟨rfl, hr2, hg2⟩
        have hmk := HO.out.marked (m := m) (ss := ss) (v := v) (by have := HO.out.len; rwa [mixU_length] at this) hlt (by rw [HUS.out]; exact HL.out) (by rw [HT.out]; exact HV.out) HK.out (by rw [HUS.out]; exact hr2) hg2
        have HM := Hid.mk hmk
        have hA1 : Apart lo hi wr (wr.setCell ⟨g, k * 2, none⟩ (.int .i64 v)) := Apart.grown (row := some g) ⟨rfl, rfl, rfl, by simp [World.setCell], fun j _ hn => Below.heap_setCell _ _ _ j (fun e => hn (by rw [e]))⟩ (fun b hb => by simp at hb; omega)
        have HA : Hid (Apart lo hi w w2) := (HAP.out.trans hA1).trans (hg2.widen hw.1 hw.2)
        clear hmk hr2 hg2 k3 hcx HO HK hO1 hcx1 hco hA1
        go_wp2
        go_roundw
        case rel => exact ⟨k + 1, _, by omega, by go_num, by have := HTS.out; have := HT.out; have := HV.out; go_num, HM.out, HA.out⟩
        case measure => simp [intOf]; omega
      · obtain rfl : k = n := by omega
        have ho' : OwnUk wr lo hi (some ⟨g, 0, none⟩) k c (markU m ss) cells L H k := by
          rw [← mixU_all, hz]; exact ho
        go_wp2
        go_ret
        exact ⟨rfl, ⟨cells, L, H, ho'⟩, hap⟩

set_option maxHeartbeats 2000000 in
theorem heldTableS_any (a : Option Addr) (n c : Nat) (ss : List Tab) (m : Int) (w : World) (hs : SmU ss n) (h0 : 0 ≤ m) (h1 : m ≤ 134217728) (ha : AtSW w a (markU m ss)) :
    Calls Try.prog 19 #[.slice a n c, .int .i64 m] w fun e w' => e = .returned (.int .i64 (m + stot ss n)) ∧ Below w.heap.size w w' := by
  have hz := hs.1
  have hn := hs.n
  have ht := hs.2
  by_cases hn0 : n = 0
  · subst hn0
    obtain rfl := List.eq_nil_of_length_eq_zero hz
    go_enter Try.func19, Try.ntmps19
    go_wp2
    refine wp_loop_rounds 1 ?_
    rw [rounds_succ]
    go_wp2
    go_ret
    exact ⟨ret_int (by simp [stot]), Below.refl _ _⟩
  · go_enter Try.func19, Try.ntmps19
    go_wp2
    go_loopw [1, 5] (fun q i wr => ∃ (k : Nat), k ≤ n ∧ i = .int .i64 k ∧ q = .int .i64 (m + stot ss k) ∧ Below w.heap.size w wr) (fun _ i _ => n - (intOf i).toNat)
    case atStart => exact ⟨0, Nat.zero_le _, rfl, by simp [stot_zero], Below.refl _ _⟩
    case round =>
      obtain ⟨k, hk, rfl, rfl, hbw⟩ := hrel
      by_cases hlt : k < n
      · obtain ⟨b, off, rfl, hc⟩ := (ha.below hbw).some (by rw [markU_length]; omega)
        obtain ⟨q, d, hwx, hcx, _, hat⟩ := hc k (by rw [markU_length]; omega)
        rw [markU_at m ss k (by omega)] at hcx hwx hat
        simp only [markW_length] at hcx
        have hsm := hs.tab k hlt
        have hts := stot_succ ss k (by omega)
        have htm := stot_mono ss (k + 1) n (by omega) (by omega)
        obtain ⟨us, hus⟩ : ∃ us, (tat ss k).2 = us := ⟨_, rfl⟩
        simp only [hus] at hcx hat hsm hts
        obtain ⟨l, hl⟩ : ∃ l, us.length = l := ⟨_, rfl⟩
        rw [hl] at hcx hsm hts
        obtain ⟨T, hT⟩ : ∃ T : Nat, stot ss k = T := ⟨_, rfl⟩
        obtain ⟨v, hv⟩ : ∃ v : Int, m + (T : Int) = v := ⟨_, rfl⟩
        simp only [hT, hv] at hwx hat
        rw [hT, hv]
        have hb1 : v + 1 ≤ 268435456 := by omega
        have hb0 : 0 ≤ v + 1 := by omega
        have HT := Hid.mk hT
        have HV := Hid.mk hv
        have HTS := Hid.mk hts
        have hki : (k : Int) < (n : Int) := by omega
        have hnn : ¬ v + 1 + (wtot us l : Int) < 0 := by omega
        have hwt : wtot us l ≤ 1048576 := hsm.2
        clear hc hl hT hts htm ha hus hv
        go_wp2_with fail
        refine (heldWeightedS_any _ _ _ us _ _ hsm.1 hsm.row hsm.2 hb0 hb1 hat).mono ?_
        rintro e w2 ⟨rfl, hb2⟩
        have HB := Hid.mk (hbw.trans (hb2.mono hbw.size))
        clear hb2 hwx hcx hat hbw
        go_wp2
        go_roundw
        case rel => exact ⟨k + 1, by omega, by go_num, by have := HTS.out; have := HT.out; have := HV.out; go_num, HB.out⟩
        case measure => simp [intOf]; omega
      · obtain rfl : k = n := by omega
        go_wp2
        go_ret
        exact ⟨rfl, hbw⟩

end Go.Proofs.Ytpnaoahlfhbbmaa

/- The parts that are told are small. -/
namespace Go.Proofs.Ytpnaoahlfhbbmaa
open Go.RowKit

theorem stot_leP {ss : List Tab} {M : Nat} (h : ∀ i, i < ss.length → wtot (tat ss i).2 (tat ss i).2.length ≤ M) : ∀ k, k ≤ ss.length → stot ss k ≤ k * (M + 1) := by
  intro k hk
  induction k with
  | zero => simp [stot_zero]
  | succ k ih =>
    have h1 := ih (by omega)
    have h2 := h k (by omega)
    rw [stot_succ ss k (by omega), Nat.add_mul]
    omega
theorem goodT_w420P {p : Int} {ts : List WRow} (h : goodT p ts = true) : wtot ts ts.length ≤ 420 := by
  have h1 := wtot_le (M := 6) (fun t ht => good_len (goodL_mem (goodL_of_goodT h) t ht).1) ts.length (Nat.le_refl _)
  have h2 := (goodT_parts h).2.1
  omega
theorem SmU.mk' {ss : List Tab} {n : Nat} (h : SmU ss n) : stot ss n ≤ 2097152 := by have := h.2; omega
theorem pt_small (p : Int) (ts : List WRow) (zss : List (List Int)) : SmU (ansS (ptB p ts zss) (ptL ts zss)) (ansS (ptB p ts zss) (ptL ts zss)).length := by
  refine ⟨rfl, ?_⟩
  cases hb : ptB p ts zss with
  | false => simp [ansS, stot]
  | true =>
    unfold ptB at hb
    simp only [Bool.and_eq_true] at hb
    have h8 := gpB_len hb.2.1
    have hl : (ptL ts zss).length = zss.length := by simp [ptL]
    show stot (ptL ts zss) (ptL ts zss).length ≤ 1048576
    have := stot_leP (ss := ptL ts zss) (M := 420) (fun i hi => by
      rw [hl] at hi
      have e : tat (ptL ts zss) i = ptT ts zss[i] := by simp [tat, ptL, List.getD, hi]
      rw [e]
      have hp := List.all_eq_true.1 hb.2.2 zss[i] (List.getElem_mem hi)
      exact goodT_w420P (p := zss[i].length) (dist_good (projB_goodT hp))) (ptL ts zss).length (Nat.le_refl _)
    omega

end Go.Proofs.Ytpnaoahlfhbbmaa
