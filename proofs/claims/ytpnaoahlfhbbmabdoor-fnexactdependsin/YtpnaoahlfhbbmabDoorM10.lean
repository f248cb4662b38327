/- Several texts of one proof, in build order: DinS, TzI. -/
import Derived.Test.YtpnaoahlfhbbmabDoorM8
import Derived.Test.YtpnaoahlfhbbmabDoorM9
import Derived.Test.YtpnaoahlfhbbmabDoorM4
import Derived.Lib.TrailingZeros
import Derived.Lib.LaidTab

/- Contract of the model's DependsIn. -/
namespace Go.Proofs.YtpnaoahlfhbbmabDoor
open Go.RowKit

theorem bl_nil_all : ∀ s : Nat, s < 64 → decide ((bl s).length = 0) = decide (s = 0) := by decide +kernel

set_option maxRecDepth 100000 in
set_option maxHeartbeats 16000000 in
theorem specDependsIn (a : Option Addr) (n c : Nat) (xs : List Dep) (C : Int) (pa : Option Addr) (pn pc : Nat) (ps : List Int) (w : World) (hz : xs.length = n) (hn : n ≤ 1048576) (ha : AtD w a xs) (hpn : ps.length = pn) (hpb : pn ≤ 1048576) (hpa : At w pa ps) :
    Calls Tryd.prog 5 #[.slice a n c, .int .i64 C, .slice pa pn pc] w fun e w' => DepsRet e w' w.heap.size (dinB xs C ps) (dinL xs C ps) ∧ Below w.heap.size w w' := by
  obtain ⟨i0, hi, hz0, hz1, hz2⟩ := info_parts Tryd.infoDepend
  obtain ⟨j0, hj, hy0, hy1, hy2⟩ := info_parts Tryd.infoInt
  have K1 := Hid.mk (l8Part_any a n c xs C pa pn pc ps w hz (by omega) ha hpn (by omega) hpa)
  have HZ := Hid.mk hz
  have HA := Hid.mk ha
  have HPN := Hid.mk hpn
  have HPA := Hid.mk hpa
  clear hz ha hpn hpa
  go_enter Tryd.func5, Tryd.ntmps5
  go_wp2_with fail
  refine K1.out.mono ?_
  rintro e w1 ⟨rfl, B1⟩
  cases h1 : prtB xs C ps with
  | false =>
    have HN : Hid (dinB xs C ps = false) := by show _ = _; unfold dinB; rw [h1]; rfl
    go_wp2
    exact bodyPost_ret (v := .tuple #[.slice none 0 0, .bool false]) (by simp [results, Tryd.results5, go_sem]) rfl ⟨DepsRet.none _ _ HN.out (dinL_no HN.out), B1⟩
  | true =>
    have hg := h1
    unfold prtB at hg
    rw [Bool.and_eq_true] at hg
    have h6 := (goodDeps_C hg.1).2.1
    have HTP := Hid.mk (Told.of h6 hg.2)
    have HTS := Hid.mk (Tolds.of hg.1)
    have hP6 := HTP.out.lt
    have hp6 : pn ≤ 6 := by rw [← HPN.out]; exact HTP.out.len
    have HB1 := Hid.mk B1
    have HDB : Hid (dinB xs C ps = decide ((dinM (dms xs) (mk ps) (ordP (mk ps))).length ≤ 10)) := by show _ = _; unfold dinB; rw [h1]; rfl
    have HDL : Hid (dinB xs C ps = true → dinL xs C ps = (dinM (dms xs) (mk ps) (ordP (mk ps))).map und) := fun h => by unfold dinL; rw [h]; rfl
    have K2 := Hid.mk (l8Lists_any pa pn pc ps w1 HPN.out hp6 (At.below HPA.out B1))
    rw [lists_ord HTP.out HPN.out] at K2
    obtain ⟨P, hP⟩ : ∃ P, mk ps = P := ⟨_, rfl⟩
    obtain ⟨D, hD⟩ : ∃ D, dms xs = D := ⟨_, rfl⟩
    have HPP := Hid.mk hP
    have HDD := Hid.mk hD
    rw [hP] at hP6 HDB HDL K2
    rw [hD] at HDB HDL
    clear hg h6 B1 hP hD
    go_wp2_with fail
    refine K2.out.mono ?_
    rintro e w2 ⟨r1, M, d1, rfl, hown1, hb2⟩
    obtain ⟨a', n', c', cellsY, GY, he, hlY⟩ := hown1
    simp only [List.cons.injEq, Value.slice.injEq, and_true] at he
    obtain ⟨rfl, rfl, rfl⟩ := he
    obtain ⟨q0, hq0⟩ : ∃ q, q = w1.heap.size := ⟨_, rfl⟩
    obtain ⟨q1, hq1⟩ : ∃ q, q = w2.heap.size := ⟨_, rfl⟩
    have HB2 := Hid.mk (HB1.out.trans (hb2.mono HB1.out.size))
    have zq : w.heap.size ≤ q0 := by rw [hq0]; exact HB1.out.size
    have zq1 : q0 ≤ q1 := by rw [hq0, hq1]; exact hb2.size
    have zq2 : q1 ≤ w2.heap.size := by omega
    have hl1 := hlY.len
    rw [List.length_map] at hl1
    have hM64 : M ≤ 64 := by rw [← hl1]; exact ordP_len_all P hP6
    have HM := Hid.mk hl1
    rw [← hq0, ← hq1] at hlY
    have HLY := Hid.mk hlY
    clear hlY hb2 hl1 hq0 hq1 HB1 K2
    go_wp2_with fail
    go_loopw [8, 22] (fun p i wx => ∃ (j m : Nat) (r : Option Addr) (d : Nat) (cells : List Value) (F : Nat → Prop) (G : Nat → Nat → Prop), j ≤ M ∧ m ≤ j ∧ i = .int .i64 j ∧ p = .slice r m d ∧ Laid RDep wx F 44 r m d ((dinM D P ((ordP P).take j)).map und) cells G m ∧ (∀ b, F b → w.heap.size ≤ b ∧ b < wx.heap.size) ∧ (∀ b, F b → b < q1 → ∃ i, i < j ∧ GY i b) ∧ (∀ b, (Value.slice r m d).ownBlock = some b → q1 ≤ b) ∧ Laid RInts wx (From q0 q1) 23 r1 M d1 ((ordP P).map bl) cellsY GY M ∧ q1 ≤ wx.heap.size ∧ Below w.heap.size w wx) (fun _ i _ => M - (intOf i).toNat)
    case atStart => exact ⟨0, 0, none, 0, [], fun _ => False, _, Nat.zero_le _, Nat.le_refl _, rfl, rfl, Laid.none _ _ _ _, fun b h => h.elim, fun b h => h.elim, (fun b h => by cases h), HLY.out, zq2, HB2.out⟩
    case round =>
      clear HLY HB2 zq2
      obtain ⟨j, m, r, d, cells, F, G, hj1, hmj, rfl, rfl, hlaid, hFw, hFq, hFo, hlY, zr, hbw⟩ := hrel
      by_cases hjlt : j < M
      · obtain ⟨g1, rfl⟩ := laidI_some hlY (by omega)
        obtain ⟨S, hS⟩ : ∃ S, (ordP P)[j]? = some S := ⟨_, List.getElem?_eq_getElem (by have := HM.out; omega)⟩
        obtain ⟨hS64, hSP⟩ := ordP_mem (List.mem_of_getElem? hS)
        obtain ⟨sa, sn, sc, hcx, hos⟩ := laidI_row hlY (i := j) (x := bl S) (by rw [List.getElem?_map, hS]; rfl)
        obtain ⟨s1, s2, s3, s4⟩ := RInts.at_iff.1 (RInts.toAt hos)
        have hTK := dinM_take (D := D) (P := P) hS
        have hji : (j : Int) < (M : Int) := by omega
        have K1 := Hid.mk (l7Closure_any a n c xs sa sn sc (bl S) wr HZ.out hn HTS.out (AtSl.below HA.out hbw) (told_bl hS64) s1 s3 s4)
        rw [mk_blP S hS64, HDD.out] at K1
        have HTK := Hid.mk hTK
        have HLA := Hid.mk hlaid
        have HLY := Hid.mk hlY
        have HB := Hid.mk hbw
        have HFW := Hid.mk hFw
        have HFQ := Hid.mk hFq
        have HFO := Hid.mk hFo
        have HOS := Hid.mk hos
        have HS1 := Hid.mk s1
        have hsn6 : sn ≤ 6 := by rw [← s1]; exact bl_len S
        clear hlaid hlY hbw hFw hFq hFo hos s1 s3 s4 hTK hS
        go_wp2_with fail
        refine K1.out.mono ?_
        rintro e w3 ⟨T, r3, m3, d3, hT, rfl, hm3, ho3, hb3⟩
        have hT6 := hT.lt
        have hm36 : m3 ≤ 6 := by rw [← hm3]; exact bl_len T
        have HB3 := Hid.mk (HB.out.trans (hb3.mono HB.out.size))
        have HTO : Hid (toF D P S = dif (T &&& P) S) := by show _ = _; unfold toF; rw [hT.clo_eq]
        have K2 := Hid.mk (l8Within_any r3 m3 d3 (bl T) pa pn pc ps w3 hm3 (by omega) (At.owned ho3) HPN.out (by omega) (At.below HPA.out HB3.out))
        have hwb := within_bl (T := T) (P := P) hT6 hP6
        rw [← HPP.out, HTP.out.is, HPP.out] at hwb
        rw [hwb] at K2
        have hA6 : T &&& P < 64 := and_lt64 hT6
        have hwo := without_bl (T := T &&& P) (F := S) hA6 hS64
        have hE6 : dif (T &&& P) S < 64 := dif_lt hA6
        obtain ⟨A, hA⟩ : ∃ A, T &&& P = A := ⟨_, rfl⟩
        rw [hA] at K2 hwo hE6 HTO
        obtain ⟨E, hE⟩ : ∃ E, dif A S = E := ⟨_, rfl⟩
        rw [hE] at hwo hE6 HTO
        rw [HTO.out] at HTK
        have HWO := Hid.mk hwo
        have HLA3 := Hid.mk (HLA.out.below hb3)
        have HLY3 := Hid.mk (HLY.out.below hb3)
        have HOS3 := Hid.mk (RInts.ownBelow HOS.out hb3)
        have z3 := hb3.size
        obtain ⟨wy, rfl⟩ : ∃ x, x = wr := ⟨_, rfl⟩
        clear hT hm3 ho3 hb3 hwb hA hE hwo HTO HLA HLY HOS HB K1
        go_wp2_with fail
        refine K2.out.mono ?_
        rintro e w4 ⟨r4, m4, d4, rfl, hm4, ho4, hb4⟩
        have hm46 : m4 ≤ 6 := by rw [← hm4]; exact bl_len A
        have HM4 := Hid.mk hm4
        have HA4 := Hid.mk (At.owned ho4)
        have HLA4 := Hid.mk (HLA3.out.below hb4)
        have HLY4 := Hid.mk (HLY3.out.below hb4)
        have HOS4 := Hid.mk (RInts.ownBelow HOS3.out hb4)
        have HB4 := Hid.mk (HB3.out.trans (hb4.mono HB3.out.size))
        have z4 := hb4.size
        obtain ⟨q, hq⟩ : ∃ q : Int → Bool, (fun k => !decide (k ∈ bl S)) = q := ⟨_, rfl⟩
        have HQ : Hid (∀ k, q k = !decide (k ∈ bl S)) := fun k => by rw [← hq]
        rw [hq] at HWO
        clear hm4 ho4 hb4 HLA3 HLY3 HOS3 HB3 K2 hq
        go_wp2_with fail
        go_loopw [11, 32] (fun p i wx => ∃ (k mm : Nat) (r5 : Option Addr) (d5 : Nat), k ≤ m4 ∧ mm ≤ k ∧ i = .int .i64 k ∧ p = .slice r5 mm d5 ∧ (((bl A).take k).filter q).length = mm ∧ wx.ownsRow w4.heap.size 3 1 (.slice r5 mm d5) mm ((((bl A).take k).filter q).map (.int .i64)) ∧ Below w4.heap.size w4 wx) (fun _ i _ => m4 - (intOf i).toNat)
        case atStart => exact ⟨0, 0, none, 0, Nat.zero_le _, Nat.le_refl _, rfl, rfl, rfl, World.ownsRow_nil _ _ _ _, Below.refl _ _⟩
        case round =>
          obtain ⟨k, mm, r5, d5, hk, hmk, rfl, rfl, hm, hown, hbw⟩ := hrel
          by_cases hlt : k < m4
          · obtain ⟨b, off, hab, hb, hc⟩ := (At.below HA4.out hbw).some (by have := HM4.out; omega)
            subst hab
            have hcy : wr.cell? ⟨b, off + k, none⟩ = some (.int .i64 ((bl A).getD k 0)) := hc k (by have := HM4.out; omega)
            have hft := filter_take (p := q) (zs := bl A) (k := k) (by have := HM4.out; omega)
            obtain ⟨x, hx⟩ : ∃ x, x = (bl A).getD k 0 := ⟨_, rfl⟩
            rw [← hx] at hcy hft
            have HFT := Hid.mk hft
            have K := Hid.mk (l1Has_any sa sn sc (bl S) x wr HS1.out (by omega) (At.below (ints_at HOS4.out) hbw))
            have hki : (k : Int) < (m4 : Int) := by omega
            have HOW := Hid.mk hown
            have HBB := Hid.mk hbw
            have HMM := Hid.mk hm
            have z := hbw.size
            clear hown hbw hm hc hft hx
            go_wp2_with fail
            refine K.out.mono ?_
            rintro e w5 ⟨rfl, hw5⟩
            obtain rfl := hw5.symm
            clear hw5
            by_cases hs : x ∈ bl S
            · rw [decide_eq_true hs]
              have HE : Hid (((bl A).take (k + 1)).filter q = ((bl A).take k).filter q) := by show _ = _; rw [HFT.out, HQ.out, decide_eq_true hs]; rfl
              clear hs
              go_wp2
              go_roundw
              case rel => exact ⟨k + 1, mm, r5, d5, by omega, by omega, by go_num, rfl, by rw [HE.out]; exact HMM.out, by rw [HE.out]; exact HOW.out, HBB.out⟩
              case measure => simp [intOf]; omega
            · rw [decide_eq_false hs]
              have HE : Hid (((bl A).take (k + 1)).filter q = ((bl A).take k).filter q ++ [x]) := by show _ = _; rw [HFT.out, HQ.out, decide_eq_false hs]; rfl
              clear hs
              go_wp2_with (at_builtin; refine wpList_append_lies _ rfl (.tmp 40) (.tmp 42) 23 rfl w4.heap.size 3 j0 (.int .i64 0) 1 8 Tryd.underlying23 hj hy0 hy1 hy2 rfl (by decide) _ _ _ rfl (HOW.out.alloc _) ⟨wr.heap.size, 0, none⟩ 1 1 [.int .i64 x] rfl rfl (news_at wr _ _) (by intro u hu; simp at hu; subst hu; rfl) (by decide) (by unfold maxLen; omega) (by omega) (by simp; omega) (wr.heap.size + 1) (by simp) ?_)
              intro g7 cap7 w7 ho7 hg7 hat7 hlt7
              have HB7 : Hid (Below w4.heap.size w4 w7) := (HBB.out.alloc z _).grown hg7 (by simp; omega) (fun j hj => (HOW.out.lt j hj).1)
              have HO7 : Hid (w7.ownsRow w4.heap.size 3 1 (.slice (some ⟨g7, 0, none⟩) (mm + 1) cap7) (mm + 1) ((((bl A).take (k + 1)).filter q).map (.int .i64))) := by
                show World.ownsRow _ _ _ _ _ _ _
                rw [HE.out, List.map_append]; exact ho7
              clear ho7 hg7 hat7 HOW HBB K
              go_wp2
              go_roundw
              case rel => exact ⟨k + 1, mm + 1, _, _, by omega, by omega, by go_num, rfl, by rw [HE.out, List.length_append, HMM.out]; rfl, HO7.out, HB7.out⟩
              case measure => simp [intOf]; omega
          · obtain rfl : k = m4 := by omega
            have hki : ¬ (k : Int) < (k : Int) := by omega
            rw [List.take_of_length_le (by have := HM4.out; omega), HWO.out] at hown hm
            have hEz := bl_nil_all E hE6
            rw [hm] at hEz
            have HOI : Hid (RInts.Own wr (From w4.heap.size wr.heap.size) [.slice r5 mm d5] (bl E)) := RInts.of_owns hm (by omega) hown
            have HLA5 := Hid.mk (HLA4.out.below hbw)
            have HLY5 := Hid.mk (HLY4.out.below hbw)
            have HOS5 := Hid.mk (RInts.ownBelow HOS4.out hbw)
            have HB5 := Hid.mk (HB4.out.trans (hbw.mono HB4.out.size))
            have z5 := hbw.size
            have HFW5 : Hid (∀ b, F b → w.heap.size ≤ b ∧ b < wy.heap.size) := HFW.out
            clear hown hm hbw
            by_cases h0 : E = 0
            · have hm0 : mm = 0 := by rw [decide_eq_true h0] at hEz; simpa using hEz
              have HE : Hid (dinM D P ((ordP P).take (j + 1)) = dinM D P ((ordP P).take j)) := by show _ = _; rw [HTK.out, if_pos h0]
              have hmi : ¬ (0 : Int) < (mm : Int) := by omega
              clear hEz h0 hm0
              go_wp2
              go_roundw
              case rel => exact ⟨j + 1, m, r, d, cells, F, G, by omega, by omega, by go_num, rfl, by rw [HE.out]; exact HLA5.out, fun b h => ⟨(HFW5.out b h).1, by have := (HFW5.out b h).2; omega⟩, fun b h h1 => by obtain ⟨i, hi', hg⟩ := HFQ.out b h h1; exact ⟨i, by omega, hg⟩, HFO.out, HLY5.out, by omega, HB5.out⟩
              case measure => simp [intOf]; omega
            · have hm0 : 0 < mm := by
                rw [decide_eq_false h0, decide_eq_false_iff_not] at hEz; omega
              have HE : Hid ((dinM D P ((ordP P).take (j + 1))).map und = (dinM D P ((ordP P).take j)).map und ++ [(bl S, bl E)]) := by show _ = _; rw [HTK.out, if_neg h0, List.map_append]; rfl
              have hmi : (0 : Int) < (mm : Int) := by omega
              have hbase : wr.ownsRow w.heap.size 44 2 (.slice r m d) m cells := owns_base HLA5.out.outer (fun b hb => (HFW5.out b (HLA5.out.outerF b hb)).1)
              have HBASE := Hid.mk hbase
              have zw := HB5.out.size
              clear hbase hEz h0 hm0
              go_wp2_with (at_builtin; refine wpList_app_vals rfl (.tmp 48) (.tmp 52) 25 rfl w.heap.size 44 i0 (.agg #[.slice none 0 0, .slice none 0 0]) 2 48 Tryd.underlying25 hi hz0 hz1 hz2 rfl (by decide) (.slice r m d) m cells rfl (HBASE.out.alloc _) (some ⟨wr.heap.size, 0, none⟩) 1 1 [.slice sa sn sc, .slice r5 mm d5] rfl rfl (fun ad he => by cases he; simpa using news_at wr #[.slice sa sn sc, .slice r5 mm d5] 44) (by simp [Value.oneCell']) (fun h => by cases h) (by unfold maxLen; omega) (by omega) (by simp; omega) ?_)
              intro r6 d6 w6 ho6 hg6 ht6
              have z6 : wr.heap.size < w6.heap.size := by have h9 := hg6.size; simp at h9; omega
              have BG : ∀ b, b < wr.heap.size → (Value.slice r m d).ownBlock ≠ some b → w6.heap[b]? = wr.heap[b]? := fun b hb hn => (hg6.block b (by simp; omega) (fun e => hn e.symm)).trans (Below.heap_alloc wr _ b hb)
              have ht6' : (Value.slice r6 (m + 1) d6).ownBlock = (Value.slice r m d).ownBlock ∨ (Value.slice r6 (m + 1) d6).ownBlock = some (wr.heap.size + 1) := by
                rcases ht6 with h9 | h9
                · exact .inl h9
                · exact .inr (by rw [h9])
              have hGY : ∀ b, GY j b → q0 ≤ b ∧ b < q1 := fun b h => (HLY5.out.rowF j b hjlt h).1
              have hRD : RDep.Own wr (fun b => GY j b ∨ From w4.heap.size wr.heap.size b) [.slice sa sn sc, .slice r5 mm d5] (bl S, bl E) := RDep.own_mk HOS5.out HOI.out (fun b h => .inl h) (fun b h => .inr h) (fun b h1 h2 => by have h3 := (hGY b h1).2; have h4 := h2.1; omega)
              have hpush := Laid.pushH (F' := fun b => F b ∨ (GY j b ∨ From w4.heap.size wr.heap.size b) ∨ b = wr.heap.size + 1) HLA5.out (fun b h => by have := (HFW5.out b h).2; omega) hRD (fun b h => by rcases h with h | h; (have := (hGY b h).2; omega); exact h.2)
                (fun b h1 h2 => by
                  rcases h2 with h2 | h2
                  · obtain ⟨i, hi', hg⟩ := HFQ.out b h1 (hGY b h2).2
                    exact HLY5.out.apart i j b (by omega) hjlt (by omega) hg h2
                  · have h3 := (HFW5.out b h1).2
                    have h4 := h2.1
                    omega) BG (owns_mono ho6 (Nat.zero_le _)) (by
                  rcases ht6' with h9 | h9
                  · exact .inl h9
                  · refine .inr (fun b e => ?_)
                    rw [h9] at e
                    simp at e
                    omega) (by omega) (fun b h => .inl h) (fun b h => .inr (.inl h)) (fun b h => by
                  rcases ht6' with h9 | h9
                  · rw [h9] at h; exact .inl (HLA5.out.outerF b h)
                  · rw [h9] at h; simp at h; exact .inr (.inr h.symm))
              obtain ⟨G', HL'⟩ : ∃ G', Hid (Laid RDep w6 (fun b => F b ∨ (GY j b ∨ From w4.heap.size wr.heap.size b) ∨ b = wr.heap.size + 1) 44 r6 (m + 1) d6 ((dinM D P ((ordP P).take (j + 1))).map und) (cells ++ [.slice sa sn sc, .slice r5 mm d5]) G' (m + 1)) := by
                rw [HE.out]
                exact ⟨_, Hid.mk hpush⟩
              have HFW6 : Hid (∀ b, (F b ∨ (GY j b ∨ From w4.heap.size wr.heap.size b) ∨ b = wr.heap.size + 1) → w.heap.size ≤ b) := fun b h => by
                rcases h with h | (h | h) | h
                · exact (HFW5.out b h).1
                · have := (hGY b h).1; omega
                · have := h.1; omega
                · omega
              have HLT := Hid.mk (HL'.out.tight)
              have HFO6 : Hid (∀ b, (Value.slice r6 (m + 1) d6).ownBlock = some b → q1 ≤ b) := fun b h => by
                rcases ht6' with h9 | h9
                · rw [h9] at h; exact HFO.out b h
                · rw [h9] at h; simp at h; omega
              have HLY6 := Hid.mk (HLY5.out.frame (w' := w6) (fun b h hb => BG b hb (fun e => by have h1 := h.1; have h2 := h.2; have h9 := HFO.out b e; omega)))
              have HB6 : Hid (Below w.heap.size w w6) := (HB5.out.alloc zw _).grown hg6 (by simp; omega) (fun j hj => (HBASE.out.lt j hj).1)
              clear hpush hRD BG ho6 hg6 ht6 ht6' hGY HLA5 HLY5 HB5 HOS5 HBASE HOI
              go_wp2
              go_roundw
              case rel => exact ⟨j + 1, m + 1, r6, d6, _, fun b => (F b ∨ (GY j b ∨ From w4.heap.size wr.heap.size b) ∨ b = wr.heap.size + 1) ∧ b < w6.heap.size, _, by omega, by omega, by go_num, rfl, HLT.out, fun b h => ⟨HFW6.out b h.1, h.2⟩, fun b h h1 => by
                rcases h.1 with h | (h | h) | h
                · obtain ⟨i, hi', hg⟩ := HFQ.out b h h1; exact ⟨i, by omega, hg⟩
                · exact ⟨j, by omega, h⟩
                · have := h.1; omega
                · omega, HFO6.out, HLY6.out, by omega, HB6.out⟩
              case measure => simp [intOf]; omega
      · obtain rfl : j = M := by omega
        rw [List.take_of_length_le (by have := HM.out; omega)] at hlaid
        have hml := hlaid.len
        rw [List.length_map] at hml
        rw [hml] at HDB
        have hji : ¬ (j : Int) < (j : Int) := by omega
        have HLA2 := Hid.mk (hlaid.mono (F' := From w.heap.size wr.heap.size) (fun b h => hFw b h))
        clear hlaid hlY hFw hFq hFo hml
        by_cases h10 : 10 < m
        · have h10' : (10 : Int) < (m : Int) := by omega
          have HN : Hid (dinB xs C ps = false) := by show _ = _; rw [HDB.out, decide_eq_false (by omega)]
          go_wp2
          exact bodyPost_ret (v := .tuple #[.slice none 0 0, .bool false]) (by simp [results, Tryd.results5, go_sem]) rfl ⟨DepsRet.none _ _ HN.out (dinL_no HN.out), hbw⟩
        · have h10' : ¬ (10 : Int) < (m : Int) := by omega
          have HY : Hid (dinB xs C ps = true) := by show _ = _; rw [HDB.out, decide_eq_true (by omega)]
          have HR : Hid (DepsRet (.returned (.tuple #[.slice r m d, .bool true])) wr w.heap.size (dinB xs C ps) (dinL xs C ps)) := by
            rw [HDL.out HY.out, HY.out]
            exact ⟨r, m, d, rfl, r, m, d, cells, G, rfl, HLA2.out⟩
          go_wp2
          exact bodyPost_ret (v := .tuple #[.slice r m d, .bool true]) (by simp [results, Tryd.results5, go_sem]) rfl ⟨HR.out, hbw⟩

end Go.Proofs.YtpnaoahlfhbbmabDoor

/- Contracts of math/bits.TrailingZeros at sets of columns, and of columnSet.list. -/
namespace Go.Proofs.YtpnaoahlfhbbmabDoor
open Go.RowKit

theorem TabIs.below {P : Program} {w w' : World} {name : String} {k : IntKind} {ns : List Int} (h : Lib.TabIs P w name k ns) (hb : Below w.heap.size w w') : Lib.TabIs P w' name k ns := by
  unfold Lib.TabIs World.var? at *
  cases hg : P.globalNamed name with
  | none => rw [hg] at h; cases h
  | some g =>
    rw [hg] at h
    simp only [Option.bind_some] at h ⊢
    have hlt : g < w.heap.size := by
      by_cases hl : g < w.heap.size
      · exact hl
      · rw [Array.getElem?_eq_none (by omega)] at h
        cases h
    rw [hb.block g hlt]
    exact h

/-- The table that TrailingZeros reads. -/
def deB : List Int := Lib.deBruijn64tab.map Int.ofNat
abbrev TabB (w : World) : Prop := Lib.TabIs Tryd.prog w "math/bits.deBruijn64tab" .u8 deB
theorem gTab : Tryd.prog.globalNamed "math/bits.deBruijn64tab" = some 1 := by kernel_rfl

/-- The first column of a set. -/
def tz (x : Nat) : Nat := ((List.range 6).find? (fun i => x.testBit i)).getD 0
def tzAt (x : Nat) : Nat := (x &&& (18446744073709551616 - x)) * 285870213051353865 % 18446744073709551616 / 288230376151711744
theorem tz_key : ∀ x : Nat, x < 64 → x ≠ 0 → tzAt x < 64 ∧ Lib.deBruijn64tab.getD (tzAt x) 0 = tz x ∧ tz x < 6 := by decide +kernel
theorem bl_step : ∀ x : Nat, x < 64 → x ≠ 0 → bl x = (tz x : Int) :: bl (x &&& (x - 1)) ∧ (x &&& (x - 1)) < x := by decide +kernel
theorem bl_zero : bl 0 = [] := by decide +kernel
theorem deB_at : ∀ i : Nat, i < 64 → deB.getD i 0 = (Lib.deBruijn64tab.getD i 0 : Nat) := by decide +kernel

theorem tz_wrap {x : Nat} (hx : x < 64) (h0 : x ≠ 0) :
    IntKind.u64.wrap (bits BinOp.and IntKind.u64 (x : Int) (IntKind.u64.wrap (-(x : Int))) * 285870213051353865) / 288230376151711744 = (tzAt x : Int) := by
  have e0 : ∀ n : Int, IntKind.u64.wrap n = n % 18446744073709551616 := fun n => by simp [IntKind.wrap, IntKind.bits, IntKind.signed]
  have e1 : IntKind.u64.wrap (-(x : Int)) = ((18446744073709551616 - x : Nat) : Int) := by rw [e0]; omega
  rw [e1, u64_and_nat x _ (by omega) (by omega), e0]
  unfold tzAt
  omega

set_option maxHeartbeats 1000000 in
theorem tz64_any (x : Nat) (w : World) (hx : x < 64) (h0 : x ≠ 0) (ht : TabB w) :
    Calls Tryd.prog 67 #[.int .u64 (x : Nat)] w fun e w' => e = .returned (.int .i64 (tz x : Nat)) ∧ w' = w := by
  obtain ⟨k1, k2, k3⟩ := tz_key x hx h0
  have key := tz_wrap hx h0
  have hc := Lib.TabIs.cell ht gTab (tzAt x) (by show tzAt x < 64; exact k1)
  rw [deB_at _ k1, k2] at hc
  have hb : ((x : Int) == 0) = false := beq_eq_false_iff_ne.2 (by omega)
  obtain ⟨I, hI⟩ : ∃ I, tzAt x = I := ⟨_, rfl⟩
  obtain ⟨Z, hZ⟩ : ∃ Z, tz x = Z := ⟨_, rfl⟩
  rw [hI] at key hc k1
  rw [hZ] at hc k3 ⊢
  clear ht k2 hI hZ
  go_enter Tryd.func67, Tryd.ntmps67
  go_wp2_with (simp only [key])
  go_ret
  exact ⟨rfl, rfl⟩

theorem tz_any (x : Nat) (w : World) (hx : x < 64) (h0 : x ≠ 0) (ht : TabB w) :
    Calls Tryd.prog 54 #[.int .u64 (x : Nat)] w fun e w' => e = .returned (.int .i64 (tz x : Nat)) ∧ w' = w := by
  have K := Hid.mk (tz64_any x w hx h0 ht)
  clear ht
  go_enter Tryd.func54, Tryd.ntmps54
  go_wp2_with fail
  refine K.out.mono ?_
  rintro e w1 ⟨rfl, rfl⟩
  go_wp2
  go_ret
  exact ⟨rfl, rfl⟩

set_option maxRecDepth 100000 in
set_option maxHeartbeats 2000000 in
theorem list_any (S : Nat) (w : World) (hS : S < 64) (ht : TabB w) :
    Calls Tryd.prog 45 #[.int .u64 (S : Nat)] w fun e w' => ∃ r m d, e = .returned (.slice r m d) ∧ (bl S).length = m ∧ w'.ownsRow w.heap.size 3 1 (.slice r m d) m ((bl S).map (.int .i64)) ∧ Below w.heap.size w w' := by
  obtain ⟨i0, hi, hz0, hz1, hz2⟩ := info_parts Tryd.infoInt
  have HT := Hid.mk ht
  clear ht
  go_enter Tryd.func45, Tryd.ntmps45
  go_wp2
  go_loopg [0, 3] S (fun g p q wr => ∃ (s : Nat) (zs : List Int) (r : Option Addr) (m d : Nat), s = g ∧ s < 64 ∧ p = .int .u64 (s : Nat) ∧ q = .slice r m d ∧ bl S = zs ++ bl s ∧ zs.length = m ∧ wr.ownsRow w.heap.size 3 1 (.slice r m d) m (zs.map (.int .i64)) ∧ Below w.heap.size w wr)
  case atStart => exact ⟨S, [], none, 0, 0, rfl, hS, rfl, rfl, rfl, rfl, World.ownsRow_nil _ _ _ _, Below.refl _ _⟩
  case round =>
    obtain ⟨s, zs, r, m, d, rfl, hs, rfl, rfl, hbl, hm, hown, hbw⟩ := hrel
    by_cases h0 : s = 0
    · have HB : Hid (bl S = zs) := by show _ = _; rw [hbl, h0, bl_zero, List.append_nil]
      have hsb : ((s : Int) != 0) = false := by rw [h0]; rfl
      have HO := Hid.mk hown
      have HM := Hid.mk hm
      clear hbl hown hm
      go_wp2
      go_ret
      exact ⟨r, m, d, rfl, by rw [HB.out]; exact HM.out, by rw [HB.out]; exact HO.out, hbw⟩
    · obtain ⟨b1, b2⟩ := bl_step s hs h0
      have hm6 : m ≤ 6 := by have h9 := bl_len S; rw [hbl, List.length_append] at h9; omega
      rw [b1] at hbl
      have hsb : ((s : Int) != 0) = true := bne_iff_ne.2 (by omega)
      have hsub : IntKind.u64.wrap ((s : Int) - 1) = ((s - 1 : Nat) : Int) := by
        rw [show (s : Int) - 1 = ((s - 1 : Nat) : Int) by omega]; exact wrap64_small (by omega)
      have hand := u64_and_nat s (s - 1) (by omega) (by omega)
      have K := Hid.mk (tz_any s wr hs h0 (TabIs.below HT.out hbw))
      obtain ⟨Z, hZ⟩ : ∃ Z, tz s = Z := ⟨_, rfl⟩
      obtain ⟨Q, hQ⟩ : ∃ Q, s &&& (s - 1) = Q := ⟨_, rfl⟩
      rw [hZ] at hbl K
      rw [hQ] at hbl hand b2
      have HBL := Hid.mk hbl
      have HM := Hid.mk hm
      have HO := Hid.mk hown
      have HB := Hid.mk hbw
      have z := hbw.size
      clear hbl hm hown hbw hZ hQ b1 h0
      go_wp2_with fail
      refine K.out.mono ?_
      rintro e w1 ⟨rfl, rfl⟩
      go_wp2_with (at_builtin; refine wpList_append_lies _ rfl (.tmp 6) (.tmp 9) 23 rfl w.heap.size 3 i0 (.int .i64 0) 1 8 Tryd.underlying23 hi hz0 hz1 hz2 rfl (by decide) _ _ _ rfl (HO.out.alloc _) ⟨w1.heap.size, 0, none⟩ 1 1 [.int .i64 (Z : Nat)] rfl rfl (news_at w1 _ _) (by intro u hu; simp at hu; subst hu; rfl) (by decide) (by unfold maxLen; omega) (by omega) (by simp; omega) (w1.heap.size + 1) (by simp) ?_)
      intro g3 cap3 w3 ho3 hg3 hat3 hlt3
      have HB3 : Hid (Below w.heap.size w w3) := (HB.out.alloc z _).grown hg3 (by simp; omega) (fun j hj => (HO.out.lt j hj).1)
      have HO3 : Hid (w3.ownsRow w.heap.size 3 1 (.slice (some ⟨g3, 0, none⟩) (m + 1) cap3) (m + 1) ((zs ++ [(Z : Int)]).map (.int .i64))) := by
        show World.ownsRow _ _ _ _ _ _ _
        rw [List.map_append]; exact ho3
      clear ho3 hg3 hat3 HO HB K
      go_wp2
      go_roundg Q
      case measure => omega
      case rel => exact ⟨Q, zs ++ [(Z : Int)], some ⟨g3, 0, none⟩, m + 1, cap3, rfl, by omega, rfl, rfl, by rw [HBL.out]; simp, by have := HM.out; simp; omega, HO3.out, HB3.out⟩

end Go.Proofs.YtpnaoahlfhbbmabDoor
