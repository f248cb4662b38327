/- Several texts of one proof, in build order: NpT, IntM, IntsR, PairM, DepH, RepD, Blk. -/
import Derived.Test.YtpnaoahlfhbbmaaDoorM10
import Derived.Test.YtpnaoahlfhbbmaaDoorM14
import Derived.Test.YtpnaoahlfhbbmaaDoorM3

/- Contract of the model's NormalParts. -/
namespace Go.Proofs.YtpnaoahlfhbbmaaDoor
open Go.RowKit

theorem subs_full_all : ∀ q : Nat, q < 7 → 0 < q → subsL q q 0 = [bl (2 ^ q - 1)] := by decide +kernel
theorem gt_len_all : ∀ x : Nat, x < 64 → ∀ y : Nat, y < 64 → sb x y = true → decide ((bl x).length < (bl y).length) = !decide (y = x) := by decide +kernel

set_option maxRecDepth 100000 in
set_option maxHeartbeats 16000000 in
theorem specNormalParts (a : Option Addr) (n c : Nat) (xs : List Dep) (C : Int) (w : World) (hz : xs.length = n) (hn : n ≤ 1048576) (ha : AtD w a xs) :
    Calls Tryd.prog 13 #[.slice a n c, .int .i64 C] w fun e w' => KeysRet e w' w.heap.size (npB xs C) (npL xs C) ∧ Below w.heap.size w w' := by
  obtain ⟨k0, hk, hx0, hx1, hx2⟩ := info_parts Tryd.infoInts
  have HA := Hid.mk ha
  have HZ := Hid.mk hz
  clear ha hz
  go_enter Tryd.func13, Tryd.ntmps13
  go_wp2_with fail
  refine (specGoodDepends a n c xs C w HZ.out (by omega) HA.out).mono ?_
  rintro e w1 ⟨rfl, B1⟩
  cases hg1 : goodDeps xs C with
  | false =>
    have HN : Hid (npB xs C = false) := by show _ = _; unfold npB; rw [hg1]; rfl
    go_wp2
    exact bodyPost_ret (v := .tuple #[.slice none 0 0, .bool false]) (by simp [results, Tryd.results13, go_sem]) rfl ⟨keysRet_none _ _ HN.out (npL_no HN.out), B1⟩
  | true =>
    obtain ⟨hC1, hC6, hx10⟩ := goodDeps_C hg1
    obtain ⟨q, hq⟩ : ∃ q : Nat, C = (q : Int) := ⟨C.toNat, by omega⟩
    have hq6 : q ≤ 6 := by omega
    have h64 : 2 ^ q - 1 < 64 := by have := Nat.pow_le_pow_right (n := 2) (by omega) hq6; omega
    have HSS := Hid.mk (Cols.of hg1).sets
    have HTS := Hid.mk (Tolds.of hg1)
    have HCLO := Hid.mk (hasClo HSS.out)
    have HM : Hid (npM xs C = outm (nsets (dms xs) (2 ^ q - 1))) := by show _ = _; unfold npM; rw [show C.toNat = q by omega]
    have HNB : Hid (npB xs C = decide ((npM xs C).length ≤ 8)) := by show _ = _; unfold npB; rw [hg1]; rfl
    have HNL : Hid (npB xs C = true → npL xs C = (npM xs C).map bl) := fun h => by unfold npL; rw [h]; rfl
    have K0 : Hid (Calls Tryd.prog 33 #[.int .i64 C, .int .i64 C, .int .i64 0] w1 fun e w' => ∃ r n d, e = .returned (.slice r n d) ∧ RPairs.Own w' (From w1.heap.size w'.heap.size) [.slice r n d] [bl (2 ^ q - 1)] ∧ Below w1.heap.size w1 w') := by
      have := l7Subsets_zero q hq6 q hq6 w1
      rw [subs_full_all q (by omega) (by omega)] at this
      show Calls _ _ _ _ _
      rw [hq]; exact this
    have HLT := Hid.mk (nsets_lt HCLO.out h64)
    have HLN := nsets_len (dms xs) (2 ^ q - 1)
    obtain ⟨P, hP⟩ : ∃ P, 2 ^ q - 1 = P := ⟨_, rfl⟩
    rw [hP] at h64 HM K0 HLT HLN
    obtain ⟨D, hD⟩ : ∃ D, dms xs = D := ⟨_, rfl⟩
    have HDD := Hid.mk hD
    rw [hD] at HM HLT HLN HCLO
    obtain ⟨R, hR⟩ : ∃ R, nsets D P = R := ⟨_, rfl⟩
    have HR := Hid.mk hR
    rw [hR] at HM HLT HLN
    obtain ⟨N, hN⟩ : ∃ N, R.length = N := ⟨_, rfl⟩
    have HN := Hid.mk hN
    rw [hN] at HLN
    have hN64 := HLN.1
    have HB1 := Hid.mk B1
    clear hq hP hD B1 hC1 hC6 hx10 hR hN
    go_wp2_with fail
    refine K0.out.mono ?_
    rintro e w2 ⟨r2, m2, d2, rfl, ho2, hb2⟩
    obtain ⟨a', n', c', cells2, G2, he, hl2⟩ := ho2
    simp only [List.cons.injEq, Value.slice.injEq, and_true] at he
    obtain ⟨rfl, rfl, rfl⟩ := he
    have hm2 : m2 = 1 := by have := hl2.len; simpa using this.symm
    obtain ⟨g2, rfl⟩ := laidI_some hl2 (by omega)
    have HL2 := Hid.mk hl2
    have HB2 := Hid.mk (HB1.out.trans (hb2.mono HB1.out.size))
    have z12 := HB1.out.size
    clear hl2 hb2 HB1 K0
    go_wp2_with fail
    go_loopg [6] (N - 1) (fun gh p wx => ∃ (ps : List Nat) (g pn pd : Nat) (F : Nat → Prop) (cells : List Value) (G : Nat → Nat → Prop), pn + gh = N ∧ p = .slice (some ⟨g, 0, none⟩) pn pd ∧ ps.length = pn ∧ (∀ x ∈ ps, x < 64) ∧ splitAll D ps = R ∧ Laid RInts wx F 23 (some ⟨g, 0, none⟩) pn pd (ps.map bl) cells G pn ∧ (∀ b, F b → w.heap.size ≤ b ∧ b < wx.heap.size) ∧ Below w.heap.size w wx)
    case atStart =>
      subst hm2
      exact ⟨[P], g2, 1, d2, _, cells2, G2, by have := HLN.2; omega, rfl, rfl, fun x hx => by simp at hx; omega, by unfold splitAll; simp [HR.out], HL2.out, fun b hb => ⟨by have := hb.1; omega, hb.2⟩, HB2.out⟩
    case round =>
      clear HL2 HB2
      obtain ⟨ps, g, pn, pd, F, cells, G, hpg, rfl, hpl, hp64, hsa, hlaid, hFw, hbw⟩ := hrel
      have K := Hid.mk (l8Step_any a n c xs g pn pd F ps cells G wr HZ.out hn HTS.out (AtSl.below HA.out hbw) (by omega) hp64 hlaid (fun b hb => (hFw b hb).2))
      rw [HDD.out] at K
      have HPL := Hid.mk hpl
      have HP64 := Hid.mk hp64
      have HSA := Hid.mk hsa
      have HLA := Hid.mk hlaid
      have HFW := Hid.mk hFw
      have HB := Hid.mk hbw
      clear hpl hp64 hsa hlaid hFw hbw
      go_wp2_with fail
      refine K.out.mono ?_
      rintro e w3 ⟨hret, hb3⟩
      have z3 := hb3.size
      rcases hret with ⟨hall, rfl⟩ | ⟨i, x, g', d', cells', G', hxi, hfo, rfl, hl3⟩
      · have hps : ps = R := by rw [← HSA.out]; exact (splitAll_done HCLO.out HP64.out hall).symm
        subst hps
        have HLA3 := Hid.mk (HLA.out.below hb3)
        have HB3 := Hid.mk (HB.out.trans (hb3.mono HB.out.size))
        have HFW3 : Hid (∀ b, F b → w.heap.size ≤ b ∧ b < w3.heap.size) := fun b hb => ⟨(HFW.out b hb).1, by have := (HFW.out b hb).2; omega⟩
        have HFIN : Hid (npM xs C = outT ps pn) := by show _ = _; rw [HM.out, ← HPL.out]; rfl
        obtain ⟨q1, hq1⟩ : ∃ q, q = w3.heap.size := ⟨_, rfl⟩
        have HQ1 := Hid.mk hq1
        have zq1 : q1 ≤ w3.heap.size := by omega
        have HFQ : Hid (∀ b, F b → w.heap.size ≤ b ∧ b < q1) := fun b hb => by rw [hq1]; exact HFW3.out b hb
        have zw1 : w.heap.size ≤ q1 := by rw [hq1]; exact HB3.out.size
        clear hb3 K HLA HB HFW HFW3 hall hq1
        go_wp2_with fail
        go_loopw [9, 33] (fun p i wx => ∃ (j m : Nat) (r : Option Addr) (d : Nat) (cellsO : List Value) (Fo : Nat → Prop) (Go : Nat → Nat → Prop), j ≤ pn ∧ m ≤ j ∧ i = .int .i64 j ∧ p = .slice r m d ∧ Laid RInts wx Fo 23 r m d ((outT ps j).map bl) cellsO Go m ∧ (∀ b, Fo b → w.heap.size ≤ b ∧ b < wx.heap.size) ∧ (∀ b, Fo b → b < q1 → ∃ i, i < j ∧ G i b) ∧ (∀ b, (Value.slice r m d).ownBlock = some b → q1 ≤ b) ∧ Laid RInts wx F 23 (some ⟨g, 0, none⟩) pn pd (ps.map bl) cells G pn ∧ q1 ≤ wx.heap.size ∧ Below w.heap.size w wx) (fun _ i _ => pn - (intOf i).toNat)
        case atStart => exact ⟨0, 0, none, 0, [], fun _ => False, _, Nat.zero_le _, Nat.le_refl _, rfl, rfl, Laid.none _ _ _ _, fun b h => h.elim, fun b h => h.elim, (fun b h => by cases h), HLA3.out, zq1, HB3.out⟩
        case round =>
          clear HLA3 HB3 zq1
          obtain ⟨j, m, r, d, cellsO, Fo, Go, hjp, hmj, rfl, rfl, hlo, hFow, hFoq, hFoo, hlp, zr, hbw⟩ := hrel
          by_cases hjlt : j < pn
          · obtain ⟨x, hx⟩ : ∃ x, ps[j]? = some x := ⟨_, List.getElem?_eq_getElem (by have := HPL.out; omega)⟩
            have hx64 := HP64.out x (List.mem_of_getElem? hx)
            obtain ⟨sa, sn, sc, hcx, hos⟩ := laidI_row hlp (i := j) (x := bl x) (by rw [List.getElem?_map, hx]; rfl)
            obtain ⟨s1, s2, s3, s4⟩ := RInts.at_iff.1 (RInts.toAt hos)
            have HOT := Hid.mk (outT_succ hx)
            rw [HPL.out] at HOT
            have hji : (j : Int) < (pn : Int) := by omega
            have HLO := Hid.mk hlo
            have HLP := Hid.mk hlp
            have HFOW := Hid.mk hFow
            have HFOQ := Hid.mk hFoq
            have HFOO := Hid.mk hFoo
            have HOS := Hid.mk hos
            have HS1 := Hid.mk s1
            have HS3 := Hid.mk s3
            have HB := Hid.mk hbw
            have HXJ := Hid.mk hx
            obtain ⟨wy, rfl⟩ : ∃ x, x = wr := ⟨_, rfl⟩
            clear hlo hlp hFow hFoq hFoo hos s1 s3 s4 hbw hx
            go_wp2_with fail
            go_loopw [12, 40] (fun fl i wx => ∃ t : Nat, t ≤ pn ∧ i = .int .i64 t ∧ fl = .bool (wthn ps j x t) ∧ wx = wy) (fun _ i _ => pn - (intOf i).toNat)
            case atStart => exact ⟨0, Nat.zero_le _, rfl, rfl, rfl⟩
            case round =>
              obtain ⟨t, htp, rfl, rfl, hwy⟩ := hrel
              obtain rfl := hwy
              by_cases htl : t < pn
              · obtain ⟨y, hy⟩ : ∃ y, ps[t]? = some y := ⟨_, List.getElem?_eq_getElem (by have := HPL.out; omega)⟩
                have hy64 := HP64.out y (List.mem_of_getElem? hy)
                obtain ⟨oa, on, oc, hcy, hok⟩ := laidI_row HLP.out (i := t) (x := bl y) (by rw [List.getElem?_map, hy]; rfl)
                obtain ⟨o1, o2, o3, o4⟩ := RInts.at_iff.1 (RInts.toAt hok)
                have HWS := Hid.mk (wthn_succ (i := j) (x := x) hy)
                have HYT := Hid.mk hy
                have hti : (t : Int) < (pn : Int) := by omega
                have KA := Hid.mk (l7All_any oa on oc (bl y) sa sn sc (bl x) wr o1 o2 o3 HS1.out s2 HS3.out)
                rw [all_bl hx64] at KA
                have HGT := Hid.mk (gt_len_all x hx64 y hy64)
                rw [HS1.out, o1] at HGT
                obtain ⟨fl, hfl⟩ : ∃ fl, wthn ps j x t = fl := ⟨_, rfl⟩
                rw [hfl] at HWS ⊢
                clear hok o1 o3 o4 hy hfl
                by_cases hjt : j = t
                · have hjt' : ((j : Int) != (t : Int)) = false := by rw [hjt]; simp
                  have HE : Hid (wthn ps j x (t + 1) = fl) := by
                    show _ = _
                    have hxy : y = x := by
                      have h8 := HXJ.out
                      have h9 := HYT.out
                      rw [hjt, h9] at h8
                      exact Option.some.inj h8
                    rw [HWS.out, hxy, decide_eq_true rfl, decide_eq_false (show ¬ t < j by omega)]; simp
                  clear hjt
                  go_wp2
                  go_roundw
                  case rel => exact ⟨t + 1, by omega, by go_num, by rw [HE.out], by first | rfl | trivial⟩
                  case measure => simp [intOf]; omega
                · have hjt' : ((j : Int) != (t : Int)) = true := bne_iff_ne.2 (by omega)
                  clear hjt
                  go_wp2_with fail
                  refine KA.out.mono ?_
                  rintro e w5 ⟨rfl, hw5⟩
                  obtain rfl := hw5.symm
                  clear hw5
                  cases h1 : sb x y with
                  | false =>
                    have HE : Hid (wthn ps j x (t + 1) = fl) := by show _ = _; rw [HWS.out, h1]; simp
                    go_wp2
                    go_roundw
                    case rel => exact ⟨t + 1, by omega, by go_num, by rw [HE.out], by first | rfl | trivial⟩
                    case measure => simp [intOf]; omega
                  | true =>
                    have hgt := HGT.out h1
                    by_cases h2 : sn < on
                    · have h2' : (sn : Int) < (on : Int) := by omega
                      rw [decide_eq_true h2] at hgt
                      have HE : Hid (wthn ps j x (t + 1) = true) := by show _ = _; rw [HWS.out, h1, ← hgt]; simp
                      clear hgt
                      go_wp2
                      go_roundw
                      case rel => exact ⟨t + 1, by omega, by go_num, by rw [HE.out], by first | rfl | trivial⟩
                      case measure => simp [intOf]; omega
                    · have h2' : ¬ (sn : Int) < (on : Int) := by omega
                      rw [decide_eq_false h2] at hgt
                      by_cases h3 : t < j
                      · have h3' : (t : Int) < (j : Int) := by omega
                        have HE : Hid (wthn ps j x (t + 1) = true) := by show _ = _; rw [HWS.out, h1, ← hgt, decide_eq_true h3]; simp
                        clear hgt
                        go_wp2
                        go_roundw
                        case rel => exact ⟨t + 1, by omega, by go_num, by rw [HE.out], by first | rfl | trivial⟩
                        case measure => simp [intOf]; omega
                      · have h3' : ¬ (t : Int) < (j : Int) := by omega
                        have HE : Hid (wthn ps j x (t + 1) = fl) := by show _ = _; rw [HWS.out, h1, ← hgt, decide_eq_false h3]; simp
                        clear hgt
                        go_wp2
                        go_roundw
                        case rel => exact ⟨t + 1, by omega, by go_num, by rw [HE.out], by first | rfl | trivial⟩
                        case measure => simp [intOf]; omega
              · obtain rfl : t = pn := by omega
                have hti : ¬ (t : Int) < (t : Int) := by omega
                cases hfl : wthn ps j x t with
                | true =>
                  have HE : Hid (outT ps (j + 1) = outT ps j) := by show _ = _; rw [HOT.out, hfl]; rfl
                  go_wp2
                  go_roundw
                  case rel => exact ⟨j + 1, m, r, d, cellsO, Fo, Go, by omega, by omega, by go_num, rfl, by rw [HE.out]; exact HLO.out, HFOW.out, fun b h h1 => by obtain ⟨i, hi', hg⟩ := HFOQ.out b h h1; exact ⟨i, by omega, hg⟩, HFOO.out, HLP.out, zr, HB.out⟩
                  case measure => simp [intOf]; omega
                | false =>
                  have HE : Hid ((outT ps (j + 1)).map bl = (outT ps j).map bl ++ [bl x]) := by show _ = _; rw [HOT.out, hfl]; show (outT ps j ++ [x]).map bl = _; rw [List.map_append]; rfl
                  have hbase : wr.ownsRow w.heap.size 23 1 (.slice r m d) m cellsO := owns_base HLO.out.outer (fun b hb => (HFOW.out b (HLO.out.outerF b hb)).1)
                  have HBASE := Hid.mk hbase
                  have zw := HB.out.size
                  clear hbase
                  go_wp2_with (at_builtin; refine wpList_app_vals rfl (.tmp 68) (.tmp 70) 33 rfl w.heap.size 23 k0 (.slice none 0 0) 1 24 Tryd.underlying33 hk hx0 hx1 hx2 rfl (by decide) (.slice r m d) m cellsO rfl (HBASE.out.alloc _) (some ⟨wr.heap.size, 0, none⟩) 1 1 [.slice sa sn sc] rfl rfl (fun ad he => by cases he; simpa using news_at wr #[.slice sa sn sc] 23) (by simp; rfl) (fun h => by cases h) (by unfold maxLen; omega) (by omega) (by simp; omega) ?_)
                  intro r6 d6 w6 ho6 hg6 ht6
                  have z6 : wr.heap.size < w6.heap.size := by have h9 := hg6.size; simp at h9; omega
                  have BG : ∀ b, b < wr.heap.size → (Value.slice r m d).ownBlock ≠ some b → w6.heap[b]? = wr.heap[b]? := fun b hb hn => (hg6.block b (by simp; omega) (fun e => hn e.symm)).trans (Below.heap_alloc wr _ b hb)
                  have ht6' : (Value.slice r6 (m + 1) d6).ownBlock = (Value.slice r m d).ownBlock ∨ (Value.slice r6 (m + 1) d6).ownBlock = some (wr.heap.size + 1) := by
                    rcases ht6 with h9 | h9
                    · exact .inl h9
                    · exact .inr (by rw [h9])
                  have hGY : ∀ b, G j b → w.heap.size ≤ b ∧ b < q1 := fun b h => HFQ.out b (HLP.out.rowF j b hjlt h).1
                  have hpush := Laid.pushH (F' := fun b => Fo b ∨ G j b ∨ b = wr.heap.size + 1) HLO.out (fun b h => (HFOW.out b h).2) HOS.out (fun b h => by have := (hGY b h).2; omega)
                    (fun b h1 h2 => by
                      obtain ⟨i, hi', hg⟩ := HFOQ.out b h1 (hGY b h2).2
                      exact HLP.out.apart i j b (by omega) hjlt (by omega) hg h2) BG (owns_mono ho6 (Nat.zero_le _)) (by
                      rcases ht6' with h9 | h9
                      · exact .inl h9
                      · refine .inr (fun b e => ?_)
                        rw [h9] at e
                        simp at e
                        omega) (by omega) (fun b h => .inl h) (fun b h => .inr (.inl h)) (fun b h => by
                      rcases ht6' with h9 | h9
                      · rw [h9] at h; exact .inl (HLO.out.outerF b h)
                      · rw [h9] at h; simp at h; exact .inr (.inr h.symm))
                  obtain ⟨G6, HL6⟩ : ∃ G6, Hid (Laid RInts w6 (fun b => Fo b ∨ G j b ∨ b = wr.heap.size + 1) 23 r6 (m + 1) d6 ((outT ps (j + 1)).map bl) (cellsO ++ [.slice sa sn sc]) G6 (m + 1)) := by
                    rw [HE.out]
                    exact ⟨_, Hid.mk hpush⟩
                  have HFW6 : Hid (∀ b, (Fo b ∨ G j b ∨ b = wr.heap.size + 1) → w.heap.size ≤ b) := fun b h => by
                    rcases h with h | h | h
                    · exact (HFOW.out b h).1
                    · exact (hGY b h).1
                    · omega
                  have HLT6 := Hid.mk (HL6.out.tight)
                  have HFO6 : Hid (∀ b, (Value.slice r6 (m + 1) d6).ownBlock = some b → q1 ≤ b) := fun b h => by
                    rcases ht6' with h9 | h9
                    · rw [h9] at h; exact HFOO.out b h
                    · rw [h9] at h; simp at h; omega
                  have HLP6 := Hid.mk (HLP.out.frame (w' := w6) (fun b h hb => BG b hb (fun e => by have h1 := (HFQ.out b h).2; have h9 := HFOO.out b e; omega)))
                  have HB6 : Hid (Below w.heap.size w w6) := (HB.out.alloc zw _).grown hg6 (by simp; omega) (fun j hj => (HBASE.out.lt j hj).1)
                  clear hpush BG ho6 hg6 ht6 ht6' hGY HLO HLP HB HOS HBASE
                  go_wp2
                  go_roundw
                  case rel => exact ⟨j + 1, m + 1, r6, d6, _, fun b => (Fo b ∨ G j b ∨ b = wr.heap.size + 1) ∧ b < w6.heap.size, _, by omega, by omega, by go_num, rfl, HLT6.out, fun b h => ⟨HFW6.out b h.1, h.2⟩, fun b h h1 => by
                    rcases h.1 with h | h | h
                    · obtain ⟨i, hi', hg⟩ := HFOQ.out b h h1; exact ⟨i, by omega, hg⟩
                    · exact ⟨j, by omega, h⟩
                    · omega, HFO6.out, HLP6.out, by omega, HB6.out⟩
                  case measure => simp [intOf]; omega
          · obtain rfl : j = pn := by omega
            have hji : ¬ (j : Int) < (j : Int) := by omega
            rw [← HFIN.out] at hlo
            have hml := hlo.len
            rw [List.length_map] at hml
            rw [hml] at HNB
            have HLA2 := Hid.mk (hlo.mono (F' := From w.heap.size wr.heap.size) (fun b h => hFow b h))
            clear hlo hlp hFow hFoq hFoo hml
            by_cases h8 : 8 < m
            · have h8' : (8 : Int) < (m : Int) := by omega
              have HNN : Hid (npB xs C = false) := by show _ = _; rw [HNB.out, decide_eq_false (by omega)]
              go_wp2
              exact bodyPost_ret (v := .tuple #[.slice none 0 0, .bool false]) (by simp [results, Tryd.results13, go_sem]) rfl ⟨keysRet_none _ _ HNN.out (npL_no HNN.out), hbw⟩
            · have h8' : ¬ (8 : Int) < (m : Int) := by omega
              have HY : Hid (npB xs C = true) := by show _ = _; rw [HNB.out, decide_eq_true (by omega)]
              have HRR : Hid (KeysRet (.returned (.tuple #[.slice r m d, .bool true])) wr w.heap.size (npB xs C) (npL xs C)) := by
                rw [HNL.out HY.out, HY.out]
                exact ⟨r, m, d, rfl, r, m, d, cellsO, Go, rfl, HLA2.out⟩
              go_wp2
              exact bodyPost_ret (v := .tuple #[.slice r m d, .bool true]) (by simp [results, Tryd.results13, go_sem]) rfl ⟨HRR.out, hbw⟩
      · have hx64 := HP64.out x (List.mem_of_getElem? hxi)
        obtain ⟨a1, a2, _, _⟩ := fs_less HCLO.out hx64 hfo
        have hss : splitAll D (ps.take i ++ [fsA D x, fsB D x] ++ ps.drop (i + 1)) = R := by rw [splitAll_step HCLO.out hxi hx64 hfo]; exact HSA.out
        have hil := (List.getElem?_eq_some_iff.1 hxi).1
        have hpl' : (ps.take i ++ [fsA D x, fsB D x] ++ ps.drop (i + 1)).length = pn + 1 := by have := HPL.out; simp [List.length_take, List.length_drop]; omega
        have hpN : pn + 1 ≤ N := by
          have h9 := splitAll_len (D := D) (ps.take i ++ [fsA D x, fsB D x] ++ ps.drop (i + 1))
          rw [hss, hpl', HN.out] at h9; exact h9
        have HX : Hid (∀ y ∈ ps.take i ++ [fsA D x, fsB D x] ++ ps.drop (i + 1), y < 64) := fun y hy => by
          simp only [List.mem_append, List.mem_cons, List.not_mem_nil, or_false] at hy
          rcases hy with (hy | rfl | rfl) | hy
          · exact HP64.out y (List.mem_of_mem_take hy)
          · exact a1
          · exact a2
          · exact HP64.out y (List.mem_of_mem_drop hy)
        have HSS2 := Hid.mk hss
        have HPL2 := Hid.mk hpl'
        have HL3 := Hid.mk hl3
        have HB3 := Hid.mk (HB.out.trans (hb3.mono HB.out.size))
        have zw := HB.out.size
        have HFW3 : Hid (∀ b, (F b ∨ From wr.heap.size w3.heap.size b) → w.heap.size ≤ b ∧ b < w3.heap.size) := fun b hb => by
          rcases hb with hb | hb
          · exact ⟨(HFW.out b hb).1, by have := (HFW.out b hb).2; omega⟩
          · exact ⟨by have := hb.1; omega, hb.2⟩
        obtain ⟨ps2, hps2⟩ : ∃ l, ps.take i ++ [fsA D x, fsB D x] ++ ps.drop (i + 1) = l := ⟨_, rfl⟩
        rw [hps2] at HX HSS2 HPL2 HL3
        clear hss hpl' hl3 hb3 hps2 hxi hfo a1 a2 HLA HB HFW K hil
        go_wp2
        go_roundg (N - (pn + 1))
        case measure => omega
        case rel => exact ⟨ps2, g', pn + 1, d', _, cells', G', by omega, rfl, HPL2.out, HX.out, HSS2.out, HL3.out, HFW3.out, HB3.out⟩

end Go.Proofs.YtpnaoahlfhbbmaaDoor

/- Slices of numbers, marked, as things that are owned. -/
namespace Go.Proofs.YtpnaoahlfhbbmaaDoor
open Go.RowKit

theorem markInts_rep (F : Nat → Prop) (a : Option Addr) (n c : Nat) (zs : List Int) (m : Int) (w : World) (hn : n ≤ 1048576) (h0 : 0 ≤ m) (h1 : m ≤ 268435456) (ho : RInts.Own w F [.slice a n c] zs) :
    Calls Tryd.prog 21 #[.slice a n c, .int .i64 m] w fun e w' => e = .returned (.int .i64 (m + n)) ∧ RInts.Own w' F [.slice a n c] (mkInts m zs) ∧ Off F w w' := by
  obtain ⟨h2, h3, h4, h5⟩ := RInts.own_iff.1 ho
  refine (markIntS_any 0 a n c _ m w hn h0 (by omega) h4).mono fun e w' ⟨e1, e2, e3⟩ => ⟨e1, RInts.own_iff.2 ⟨by unfold mkInts; rw [marks_length, h2], h3, by unfold mkInts; rw [h2]; exact e2, h5⟩, Off.grown e3 h5⟩
end Go.Proofs.YtpnaoahlfhbbmaaDoor

/- Lists of numbers that are answered, held as the laws marked them. -/
namespace Go.Proofs.YtpnaoahlfhbbmaaDoor
open Go.RowKit

def IntsRet (e : Ending) (w' : World) (lo : Nat) (ok : Bool) (zs : List Int) : Prop := ∃ r m d, e = .returned (.tuple #[.slice r m d, .bool ok]) ∧ zs.length = m ∧ w'.ownsRow lo 3 1 (.slice r m d) m (zs.map (.int .i64))
theorem ints_at {w : World} {F : Nat → Prop} {a : Option Addr} {n c : Nat} {zs : List Int} (h : RInts.Own w F [.slice a n c] zs) : At w a zs := (RInts.at_iff.1 (RInts.toAt h)).2.2.1
theorem heldInts_rep (a : Option Addr) (n c : Nat) (zs : List Int) (m : Int) (w : World) (hz : zs.length = n) (hn : n ≤ 1048576) (h0 : 0 ≤ m) (h1 : m ≤ 268435456) (ha : At w a (mkInts m zs)) :
    Calls Tryd.prog 22 #[.slice a n c, .int .i64 m] w fun e w' => e = .returned (.int .i64 (m + n)) ∧ Below w.heap.size w w' := by
  unfold mkInts at ha
  rw [hz] at ha
  exact (heldIntS_any a n c m w hn h0 (by omega) ha).mono fun _ _ ⟨h1, h2⟩ => ⟨h1, by first | exact h2 | (rw [h2]; exact Below.refl _ _)⟩

theorem Off.toBelow {lo hi B : Nat} {a b : World} (h : Off (From lo hi) a b) (hlo : B ≤ lo) (hB : B ≤ a.heap.size) : Below B a b := ⟨h.os, h.tape, h.output, h.size, fun k hk => h.block k (by omega) (fun e => by have := e.1; omega)⟩

end Go.Proofs.YtpnaoahlfhbbmaaDoor

/- Contracts of the laws' eqIntSS, markIntSS, heldIntSS over things in memory (without views). -/
namespace Go.Proofs.YtpnaoahlfhbbmaaDoor
open Go.RowKit

theorem eqIntSS_same (a a' : Option Addr) (n c c' : Nat) (zs : List (List Int)) (w : World) (hz : zs.length = n) (hn : n ≤ 1048576) (hs : ∀ i, i < zs.length → (zs.getD i []).length ≤ 1048576) (ha : AtS w a zs) (ha' : AtS w a' zs) :
    Calls Tryd.prog 15 #[.slice a n c, .slice a' n c'] w fun e w' => e = .returned (.bool true) ∧ Below w.heap.size w w' :=
  (eqIntSS_any a a' n n c c' zs zs w hz hz hn hn hs hs ha ha').mono fun _ _ ⟨h1, h2⟩ => ⟨by rw [h1, decide_eq_true rfl], h2⟩

set_option maxRecDepth 100000 in
set_option maxHeartbeats 4000000 in
theorem markPairs_rep (F : Nat → Prop) (a : Option Addr) (n c : Nat) (zss : List (List Int)) (m : Int) (w : World) (hn : n ≤ 1048576) (ht : tot zss n ≤ 1048576) (h0 : 0 ≤ m) (h1 : m ≤ 134217728) (ho : RPairs.Own w F [.slice a n c] zss) :
    Calls Tryd.prog 17 #[.slice a n c, .int .i64 m] w fun e w' => e = .returned (.int .i64 (m + tot zss n)) ∧ RPairs.Own w' F [.slice a n c] (mkPairs m zss) ∧ Off F w w' := by
  obtain ⟨a', n', c', cells, G, he, hl⟩ := ho
  simp only [List.cons.injEq, Value.slice.injEq, and_true] at he
  obtain ⟨rfl, rfl, rfl⟩ := he
  go_enter Tryd.func17, Tryd.ntmps17
  go_wp2
  go_loopw [1, 5] (fun q i wr => ∃ k : Nat, k ≤ n ∧ i = .int .i64 k ∧ q = .int .i64 (m + tot zss k) ∧ Laid RInts wr F 23 a n c (mkTo (fun m zs => mkInts m zs) List.length m zss k) cells G n ∧ Off F w wr) (fun _ i _ => n - (intOf i).toNat)
  case atStart => exact ⟨0, Nat.zero_le _, rfl, by simp [tot_zero], by rw [mkTo_zero]; exact hl, Off.refl _ _⟩
  case round =>
    have hzl := hl.len
    clear hl
    obtain ⟨k, hk, rfl, rfl, hl, hof⟩ := hrel
    by_cases hlt : k < n
    · obtain ⟨ys, hy⟩ : ∃ ys, zss[k]? = some ys := ⟨_, List.getElem?_eq_getElem (by omega)⟩
      have hrow := hl.row k ys hlt (mkTo_next _ _ hy)
      obtain ⟨a2, n2, c2, _, _, he2, _⟩ := hrow
      have hrow := hl.row k ys hlt (mkTo_next _ _ hy)
      rw [he2] at hrow
      rcases hl.outer.2 with ⟨_, h00⟩ | ⟨g, cap, cur, hv, _⟩
      · omega
      simp only [Value.slice.injEq, true_and] at hv
      obtain ⟨rfl, rfl⟩ := hv
      have hcl : cells.length = n * 1 := hl.outer.1
      have hcx : wr.cell? ⟨g, k, none⟩ = some (.slice a2 n2 c2) := by
        rw [hl.outer.cellAt k (show k < n * 1 by omega)]
        have h9 := sub_at (cells := cells) (o := k * 1) (k := 1) (j := 0) (by omega)
        have he3 : sub cells (k * 1) 1 = [.slice a2 n2 c2] := he2
        rw [he3] at h9
        simpa using h9.symm
      have hly : ys.length = n2 := (RInts.own_iff.1 hrow).1
      have hts := tot_succ zss k (by omega)
      have hgk : zss.getD k [] = ys := by simp [List.getD, hy]
      rw [hgk, hly] at hts
      have htm := tot_mono zss (k + 1) n (by omega)
      have HL := Hid.mk hl
      have HR := Hid.mk hrow
      have HO := Hid.mk hof
      have HY := Hid.mk hy
      have HLY := Hid.mk hly
      obtain ⟨T, hT⟩ : ∃ T, tot zss k = T := ⟨_, rfl⟩
      have HT := Hid.mk hT
      rw [hT] at hts ⊢
      have hn2 : n2 ≤ 1048576 := by omega
      have hmT : m + (T : Int) ≤ 268435456 := by omega
      have hki : (k : Int) < (n : Int) := by omega
      have HTS := Hid.mk hts
      have HE2 := Hid.mk he2
      clear hl hrow hof hy hly hT hts hgk he2 hcl htm
      go_wp2_with fail
      refine (markInts_rep (G k) a2 n2 c2 ys (m + T) wr hn2 (by omega) hmT HR.out).mono ?_
      rintro e w2 ⟨rfl, o2, f2⟩
      have hturn := HL.out.turn (w' := w2) (cells' := cells) (x' := mkInts (m + T) ys) hlt (fun b hb hn1 _ => f2.block b hb hn1) (ownsRow_frame HL.out.outer (fun b hb hlb => f2.block b hlb (fun hG => (HL.out.rowF k b hlt hG).2 hb))) (fun _ _ => rfl) (by rw [HE2.out]; exact o2)
      have HLN : Hid (Laid RInts w2 F 23 (some ⟨g, 0, none⟩) n c (mkTo (fun m zs => mkInts m zs) List.length m zss (k + 1)) cells G n) := by
        have h9 := mkTo_set (fun m zs => mkInts m zs) List.length (m := m) HY.out
        rw [szL_pairs, HT.out] at h9
        show Laid _ _ _ _ _ _ _ _ _ _ _
        rw [← h9]
        exact hturn
      have HON : Hid (Off F w w2) := HO.out.trans (f2.mono (fun b hb => (HL.out.rowF k b hlt hb).1))
      clear hturn o2 f2
      go_wp2
      go_roundw
      case rel => exact ⟨k + 1, by omega, by go_num, by rw [HTS.out]; congr 1; push_cast; omega, HLN.out, HON.out⟩
      case measure => simp [intOf]; omega
    · obtain rfl : k = n := by omega
      have HL := Hid.mk hl
      clear hl
      go_wp2
      go_ret
      refine ⟨rfl, ⟨_, _, _, cells, G, rfl, ?_⟩, hof⟩
      have h9 := HL.out
      rw [mkTo_all _ _ _ _ hzl] at h9
      exact h9

set_option maxRecDepth 100000 in
set_option maxHeartbeats 2000000 in
theorem heldPairs_rep (a : Option Addr) (n c : Nat) (zss : List (List Int)) (m : Int) (w : World) (hz : zss.length = n) (hn : n ≤ 1048576) (ht : tot zss n ≤ 1048576) (h0 : 0 ≤ m) (h1 : m ≤ 134217728) (ha : AtSl RInts w a (mkPairs m zss)) :
    Calls Tryd.prog 18 #[.slice a n c, .int .i64 m] w fun e w' => e = .returned (.int .i64 (m + tot zss n)) ∧ Below w.heap.size w w' := by
  have hl : (mkPairs m zss).length = n := by unfold mkPairs; rw [mkL_length, hz]
  by_cases hn0 : n = 0
  · subst hn0
    go_enter Tryd.func18, Tryd.ntmps18
    go_wp2
    refine wp_loop_rounds 1 ?_
    rw [rounds_succ]
    go_wp2
    go_ret
    exact ⟨by simp [tot], Below.refl _ _⟩
  go_enter Tryd.func18, Tryd.ntmps18
  go_wp2
  go_loopw [1, 5] (fun q i wr => ∃ k : Nat, k ≤ n ∧ i = .int .i64 k ∧ q = .int .i64 (m + tot zss k) ∧ Below w.heap.size w wr) (fun _ i _ => n - (intOf i).toNat)
  case atStart => exact ⟨0, Nat.zero_le _, rfl, by simp [tot_zero], Below.refl _ _⟩
  case round =>
    obtain ⟨k, hk, rfl, rfl, hbw⟩ := hrel
    by_cases hlt : k < n
    · obtain ⟨b, off, rfl, hc⟩ := (ha.below hbw).each (by omega)
      obtain ⟨ys, hy⟩ : ∃ ys, zss[k]? = some ys := ⟨_, List.getElem?_eq_getElem (by omega)⟩
      have hmk := mkL_at (fun m zs => mkInts m zs) List.length m zss k ys hy
      obtain ⟨cs, hcs, a2, n2, c2, rfl, e1, e2, e3, _⟩ := hc k _ hmk
      have hcx : wr.cell? ⟨b, off + k, none⟩ = some (.slice a2 n2 c2) := by simpa [RInts, Rep.slice] using hcs 0 _ rfl
      rw [szL_pairs] at e1 e3
      have hly : ys.length = n2 := by rw [← e1]; unfold mkInts; rw [marks_length]
      have hts := tot_succ zss k (by omega)
      have hgk : zss.getD k [] = ys := by simp [List.getD, hy]
      rw [hgk, hly] at hts
      have htm := tot_mono zss (k + 1) n (by omega)
      obtain ⟨T, hT⟩ : ∃ T, tot zss k = T := ⟨_, rfl⟩
      rw [hT] at hts e3 ⊢
      have hn2 : n2 ≤ 1048576 := by omega
      have hmT : m + (T : Int) ≤ 268435456 := by omega
      have hT0 : ¬ m + (T : Int) + (n2 : Int) < 0 := by omega
      have hki : (k : Int) < (n : Int) := by omega
      have HTS := Hid.mk hts
      have HA := Hid.mk (atSl_int.1 e3)
      have HLY := Hid.mk hly
      clear e1 e3 hly hts hgk hT htm hmk hcs hc hy ha
      go_wp2_with fail
      refine (heldInts_rep a2 n2 c2 ys (m + T) wr HLY.out hn2 (by omega) hmT HA.out).mono ?_
      rintro e w2 ⟨rfl, hb2⟩
      go_wp2
      go_roundw
      case rel => exact ⟨k + 1, by omega, by go_num, by rw [HTS.out]; congr 1; push_cast; omega, hbw.trans (hb2.mono hbw.size)⟩
      case measure => simp [intOf]; omega
    · obtain rfl : k = n := by omega
      go_wp2
      go_ret
      exact ⟨rfl, hbw⟩

end Go.Proofs.YtpnaoahlfhbbmaaDoor

/- Contracts of the laws' helpers over dependencies: szDepend, szDependS. -/
namespace Go.Proofs.YtpnaoahlfhbbmaaDoor
open Go.RowKit

set_option maxRecDepth 100000 in
set_option maxHeartbeats 1000000 in
theorem szDepend_any (sa : Option Addr) (sn sc : Nat) (pa : Option Addr) (pn pc : Nat) (ss : List Int) (xs : List Int) (l : Int) (w : World) (hs : ss.length = sn) (hsn : sn ≤ 9223372036854775807) (hz : xs.length = pn) (hn : pn ≤ 9223372036854775807) (h0 : 0 ≤ l) (h1 : l ≤ 1048576) :
    Calls Tryd.prog 23 #[.agg #[.slice sa sn sc, .slice pa pn pc], .int .i64 l] w fun e w' => e = .returned (.int .i64 (leftOf l (dcost (ss, xs)))) ∧ Below w.heap.size w w' := by
  have hv : dcost (ss, xs) = sn + pn := by unfold dcost; simp only; rw [hs, hz]
  rw [hv]
  clear hv
  obtain ⟨W, hW⟩ : ∃ W, W = w.alloc (.cells #[.slice sa sn sc, .slice pa pn pc] 46) := ⟨_, rfl⟩
  have B0 : Below w.heap.size w W := by rw [hW]; exact (Below.refl _ _).alloc (Nat.le_refl _) _
  have q1 : W.cell? ⟨w.heap.size, 1, none⟩ = some (.slice pa pn pc) := by rw [hW]; simp
  have HZ := Hid.mk hz
  clear hz hs
  by_cases c1 : l < sn
  · go_enter Tryd.func23, Tryd.ntmps23
    go_wp2_with fail
    rw [← hW]
    clear hW
    refine (szIntS_any sa sn sc l W hsn h0 h1).mono ?_
    rintro e w2 ⟨rfl, rfl⟩
    rw [if_pos c1]
    go_wp2
    go_ret
    exact ⟨ret_int (leftOf_no (by omega)).symm, B0⟩
  by_cases c2 : l - sn < (pn : Int)
  · go_enter Tryd.func23, Tryd.ntmps23
    have d1 : ¬ l - (sn : Int) < 0 := by omega
    go_wp2_with fail
    rw [← hW]
    clear hW
    refine (szIntS_any sa sn sc l W hsn h0 h1).mono ?_
    rintro e w2 ⟨rfl, rfl⟩
    rw [if_neg (by omega)]
    go_wp2_with fail
    refine (szIntS_any pa pn pc (l - sn) _ hn (by omega) (by omega)).mono ?_
    rintro e w3 ⟨rfl, rfl⟩
    rw [if_pos (by omega)]
    go_wp2
    go_ret
    exact ⟨ret_int (leftOf_no (by omega)).symm, B0⟩
  · go_enter Tryd.func23, Tryd.ntmps23
    have d1 : ¬ l - (sn : Int) < 0 := by omega
    have d2 : ¬ l - (sn : Int) - (pn : Int) < 0 := by omega
    go_wp2_with fail
    rw [← hW]
    clear hW
    refine (szIntS_any sa sn sc l W hsn h0 h1).mono ?_
    rintro e w2 ⟨rfl, rfl⟩
    rw [if_neg (by omega)]
    go_wp2_with fail
    refine (szIntS_any pa pn pc (l - sn) _ hn (by omega) (by omega)).mono ?_
    rintro e w3 ⟨rfl, rfl⟩
    rw [if_neg (by omega)]
    go_wp2
    go_ret
    exact ⟨ret_int (by rw [leftOf_yes (by omega)]; omega), B0⟩

set_option maxRecDepth 100000 in
set_option maxHeartbeats 2000000 in
theorem szDependS_any (a : Option Addr) (n c : Nat) (xs : List Dep) (l : Int) (w : World) (hz : xs.length = n) (hn : n ≤ 9223372036854775807) (h0 : 0 ≤ l) (h1 : l ≤ 1048576) (ha : AtD w a xs) :
    Calls Tryd.prog 6 #[.slice a n c, .int .i64 l] w fun e w' => e = .returned (.int .i64 (leftOf l (n + dsum xs n : Nat))) ∧ Below w.heap.size w w' := by
  by_cases hb : l < n
  · have h' : l - (n : Int) < 0 := by omega
    go_enter Tryd.func6, Tryd.ntmps6
    go_wp2
    go_ret
    exact ⟨ret_int (leftOf_no (by omega)).symm, Below.refl _ _⟩
  have h' : ¬ l - (n : Int) < 0 := by omega
  by_cases hn0 : n = 0
  · subst hn0
    have ht : dsum xs 0 = 0 := dsum_zero xs
    go_enter Tryd.func6, Tryd.ntmps6
    go_wp2
    refine wp_loop_rounds 1 ?_
    rw [rounds_succ]
    go_wp2
    go_ret
    exact ⟨ret_int (by rw [ht, leftOf_yes (by omega)]; omega), Below.refl _ _⟩
  · go_enter Tryd.func6, Tryd.ntmps6
    go_wp2
    go_loopw [1, 5] (fun q i wr => ∃ (k : Nat) (r : Int), k ≤ n ∧ i = .int .i64 k ∧ q = .int .i64 r ∧ 0 ≤ r ∧ r ≤ 1048576 ∧ r + dsum xs k = l - n ∧ Below w.heap.size w wr) (fun _ i _ => n - (intOf i).toNat)
    case atStart => exact ⟨0, l - n, Nat.zero_le _, rfl, rfl, by omega, by omega, by rw [dsum_zero]; omega, Below.refl _ _⟩
    case round =>
      obtain ⟨k, r, hk, rfl, rfl, hr0, hr1, hr, hbw⟩ := hrel
      by_cases hlt : k < n
      · obtain ⟨b, off, rfl, _, hc⟩ := AtD.row (AtSl.below ha hbw) (by omega)
        obtain ⟨⟨xf, xt⟩, hx⟩ : ∃ x, xs[k]? = some x := ⟨_, List.getElem?_eq_getElem (by omega)⟩
        obtain ⟨fa, fn, fc, ta, tn, tc, g0, g1, ⟨t1, t2, _⟩, ⟨u1, u2, _⟩⟩ := hc k _ hx
        have hts := dsum_succ hx
        have htm := dsum_mono xs (k + 1) n (by omega)
        have HR := Hid.mk hr
        have HT := Hid.mk hts
        have HM := Hid.mk htm
        have HX1 := Hid.mk t1
        have HX2 := Hid.mk u1
        have hki : (k : Int) < (n : Int) := by omega
        clear hc hr hts ha htm hx t1 u1
        by_cases hfit : r < dcost (xf, xt)
        · go_wp2_with fail
          refine (szDepend_any fa fn fc ta tn tc xf xt r wr HX1.out t2 HX2.out u2 hr0 hr1).mono ?_
          rintro e w' ⟨rfl, hb'⟩
          rw [leftOf_no hfit]
          go_wp2
          go_ret
          exact ⟨ret_int (leftOf_no (by have := HR.out; have := HT.out; have := HM.out; omega)).symm, hbw.trans (hb'.mono hbw.size)⟩
        · have hd : ¬ r - (dcost (xf, xt) : Int) < 0 := by omega
          go_wp2_with fail
          refine (szDepend_any fa fn fc ta tn tc xf xt r wr HX1.out t2 HX2.out u2 hr0 hr1).mono ?_
          rintro e w' ⟨rfl, hb'⟩
          rw [leftOf_yes (by omega)]
          go_wp2
          go_roundw
          case rel => exact ⟨k + 1, r - dcost (xf, xt), by omega, by go_num, rfl, by omega, by omega, by have := HR.out; have := HT.out; omega, hbw.trans (hb'.mono hbw.size)⟩
          case measure => simp [intOf]; omega
      · obtain rfl : k = n := by omega
        have HR := Hid.mk hr
        clear hr
        go_wp2
        go_ret
        exact ⟨ret_int (by have := HR.out; rw [leftOf_yes (by omega)]; omega), hbw⟩

end Go.Proofs.YtpnaoahlfhbbmaaDoor

/- The laws' copies of slices of numbers, of slices of numbers, as things that are owned. -/
namespace Go.Proofs.YtpnaoahlfhbbmaaDoor
open Go.RowKit

theorem toInts_rep (a : Option Addr) (n c : Nat) (zs : List Int) (w : World) (hz : zs.length = n) (hn : n ≤ 1048576) (ha : At w a zs) :
    Calls Tryd.prog 9 #[.slice a n c] w fun e w' => ∃ g, e = .returned (.slice (some ⟨g, 0, none⟩) n n) ∧ RInts.Own w' (From w.heap.size w'.heap.size) [.slice (some ⟨g, 0, none⟩) n n] zs ∧ Below w.heap.size w w' :=
  (toIntS_any a n c zs w hz hn ha).mono fun _ _ ⟨h1, h2, h3⟩ => ⟨_, h1, RInts.of_owns hz (by omega) h2, h3⟩
end Go.Proofs.YtpnaoahlfhbbmaaDoor

/- A block of cells that a function holds: what is stored, what stays. -/
namespace Go.Proofs.YtpnaoahlfhbbmaaDoor
open Go.RowKit

theorem blk_set {w : World} {g : Nat} {cs : Array Value} {t : TypeId} (h : w.heap[g]? = some (.cells cs t (0, 0))) (k : Nat) (v : Value) : (w.setCell ⟨g, k, none⟩ v).heap[g]? = some (.cells (cs.setIfInBounds k v) t (0, 0)) := heap_setCell_same w g k cs t v h
theorem blk_cell {w : World} {g : Nat} {cs : Array Value} {t : TypeId} (h : w.heap[g]? = some (.cells cs t (0, 0))) (k : Nat) {v : Value} (hv : cs[k]? = some v) : w.cell? ⟨g, k, none⟩ = some v := by
  rw [cell_of_row w g k _ t (0, 0) h]; exact hv
theorem blk_frozen {w : World} {g : Nat} {cs : Array Value} {t : TypeId} (h : w.heap[g]? = some (.cells cs t (0, 0))) (k : Nat) : w.frozen? ⟨g, k, none⟩ = false := frozen_of_row w g k _ t h
theorem blk_below {w w' : World} {g : Nat} {o : Obj} (h : w.heap[g]? = some o) (hb : Below w.heap.size w w') : w'.heap[g]? = some o := (hb.block g (Array.getElem?_eq_some_iff.1 h).1).trans h
theorem blk_other {w : World} {g : Nat} {o : Obj} (h : w.heap[g]? = some o) {a : Addr} (ha : g ≠ a.block) (v : Value) : (w.setCell a v).heap[g]? = some o := (Below.heap_setCell w a v g ha).trans h
theorem blk_alloc {w : World} {g : Nat} {o : Obj} (h : w.heap[g]? = some o) (o' : Obj) : (w.alloc o').heap[g]? = some o := (Below.heap_alloc w o' g (Array.getElem?_eq_some_iff.1 h).1).trans h

end Go.Proofs.YtpnaoahlfhbbmaaDoor
