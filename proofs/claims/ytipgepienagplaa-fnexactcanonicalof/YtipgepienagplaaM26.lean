/- Several texts of one proof, in build order: CnS, StreamM, RowM, CnU. -/
import Derived.Test.YtipgepienagplaaM25
import Derived.Test.YtipgepienagplaaM23
import Derived.Test.YtipgepienagplaaM13
import Derived.Test.YtipgepienagplaaM21
import Derived.Test.YtipgepienagplaaM12
import Derived.Test.YtipgepienagplaaM6
import Derived.Test.YtipgepienagplaaM4
import Derived.Deep.CutBlock
import Derived.Test.YtipgepienagplaaM22
import Derived.Test.YtipgepienagplaaM9
import Derived.Test.YtipgepienagplaaM24
import Derived.Test.YtipgepienagplaaM8

/- Contract of spec.CanonicalOf. -/
namespace Go.Proofs.Ytipgepienagplaa
open Go.RowKit

theorem rowsAt_six {zs : List Atm} (h : ∀ x ∈ zs, aOk x = true) (k j : Nat) : ∀ z ∈ rowsAt (zs.take j) k, z.length ≤ 6 := fun z hz => by
  unfold rowsAt at hz
  obtain ⟨a, ha, rfl⟩ := List.mem_map.1 hz
  exact aOk_len (h a (List.mem_of_mem_take (List.mem_filter.1 ha).1))
theorem ones_snoc (zss : List (List Int)) (z : List Int) : putAll [] (onesW (zss ++ [z])) = putW (putAll [] (onesW zss)) z 1 := by
  unfold onesW
  rw [List.map_append]
  exact putAll_snoc _ _ _
theorem ones_okC {zss : List (List Int)} (h6 : ∀ z ∈ zss, z.length ≤ 6) (hk : zss.length ≤ 8) : ∀ t ∈ putAll [] (onesW zss), t.1.length ≤ 6 ∧ -4000000000000000000 ≤ t.2 ∧ t.2 ≤ 4000000000000000000 := fun t ht => by
  have h := putAll_ok9 (ts := []) (l := onesW zss) (M0 := 0) (M := 1) (by omega) (by omega) List.Pairwise.nil (fun t ht => by cases ht) (fun t ht => by
    obtain ⟨z, hz, rfl⟩ := List.mem_map.1 ht
    exact ⟨h6 z hz, by simp, by simp⟩) t ht
  have hl : (onesW zss).length ≤ 8 := by rw [onesW_length]; omega
  omega

set_option maxRecDepth 100000 in
set_option maxHeartbeats 8000000 in
theorem specCanonicalOf (ha : Option Addr) (hn hc : Nat) (hs : List Int) (a : Option Addr) (n c : Nat) (zs : List Atm) (ta : Option Addr) (tn tc : Nat) (ts : List Int) (w : World) (hh : hs.length = hn) (hhb : hn ≤ 9223372036854775807) (hat : At w ha hs) (hhF : ha = none → hc = 0) (hz : zs.length = n) (hb : n ≤ 9223372036854775807) (haz : AtQ w a zs) (htz : ts.length = tn) (htb : tn ≤ 9223372036854775807) (hta : At w ta ts) :
    Calls Try.prog 10 #[.agg #[.slice ha hn hc, .slice a n c], .slice ta tn tc] w fun e w' => CanRet e w' w.heap.size (gqB hs zs ts) (cnL hs zs ts) (cnH hs zs ts) ∧ Below w.heap.size w w' := by
  obtain ⟨i0, hi, hz0, hz1, hz2⟩ := info_parts Try.infoT
  obtain ⟨k0, hk0, hx0, hx1, hx2⟩ := info_parts Try.infoRow
  obtain ⟨j0, hj0, hy0, hy1, hy2⟩ := info_parts Try.infoInt
  obtain ⟨W, hW⟩ : ∃ W, W = (w.alloc (.cells #[.slice ha hn hc, .slice a n c] 34)).alloc (.cells #[.slice none 0 0] 29) := ⟨_, rfl⟩
  have B0 : Below w.heap.size w W := by rw [hW]; exact ((Below.refl _ _).alloc (Nat.le_refl _) _).alloc (by simp) _
  have q0 : W.cell? ⟨w.heap.size, 0, none⟩ = some (.slice ha hn hc) := by rw [hW]; simp [go_sem]
  have q1 : W.cell? ⟨w.heap.size, 1, none⟩ = some (.slice a n c) := by rw [hW]; simp [go_sem]
  have b1 : W.heap[w.heap.size + 1]? = some (.cells #[.slice none 0 0] 29 (0, 0)) := by
    rw [hW]
    have h := heap_alloc_new (w.alloc (.cells #[.slice ha hn hc, .slice a n c] 34)) (.cells #[.slice none 0 0] 29)
    simpa only [World.size_alloc] using h
  have zW : w.heap.size + 1 < W.heap.size := by rw [hW]; simp
  have HZ := Hid.mk hz
  have HA := Hid.mk haz
  have HTZ := Hid.mk htz
  have HTA := Hid.mk hta
  have HHA := Hid.mk hat
  have HHZ := Hid.mk hh
  have HHF := Hid.mk hhF
  have HC := Hid.mk (specGoodQuery ha hn hc hs a n c zs ta tn tc ts W hh hhb (At.below hat B0) hz hb (AtSl.below haz B0) htz htb (At.below hta B0))
  clear hh hat hz haz htz hta hhF
  go_enter Try.func10, Try.ntmps10
  go_upto_region 1 with fail
  rw [← hW]
  clear hW
  go_wp2_with fail
  refine HC.out.mono ?_
  rintro e w1 ⟨rfl, B1⟩
  have q0 := cell_later B1 q0
  have q1 := cell_later B1 q1
  have b2 := blk_below b1 B1
  have BW := B0.trans (B1.mono B0.size)
  have zw1 := B1.size
  cases hg : gqB hs zs ts with
  | false =>
    have HN : Hid (∀ W' : World, w.heap.size ≤ W'.heap.size → CanRet (.returned (.tuple #[.slice none 0 0, .agg #[.slice none 0 0], .bool false])) W' w.heap.size (gqB hs zs ts) (cnL hs zs ts) (cnH hs zs ts)) := fun W' h => CanRet.zero h hg (cnL_no hg) (cnH_no hg)
    have e0 := blk_cell b2 0 (v := .slice none 0 0) rfl
    have f0 := blk_frozen b2 0
    clear hg
    go_wp2
    refine bodyPost_ret (v := .tuple #[.slice none 0 0, .agg #[.slice none 0 0], .bool false]) (by simp [results, Try.results10, go_sem, e0]) rfl ⟨HN.out _ ?_, BW.setCell (by simp) _⟩
    have h9 := (BW.setCell (p := ⟨w.heap.size + 1, 0, none⟩) (by simp) (.slice none 0 0)).size
    exact h9
  | true =>
    have HOK := Hid.mk (gq_ok hg)
    have HRO : Hid (∀ k, ∀ z ∈ rowsAt zs k, good z = true ∧ (z.length : Int) = ts.getD k 0) := fun k => rowsAt_ok hg k
    have HEL := Hid.mk (cnL_yes hg)
    have HEH := Hid.mk (cnH_yes hg)
    have HTI := Hid.mk (tabOk_in (gq_all hg).1)
    have HG := Hid.mk hg
    have hn5 : n ≤ 5 := by have := HOK.out.1; have := HZ.out; omega
    have hn6 : hn ≤ 6 := by have := (gq_all hg).2.1; have := HHZ.out; omega
    have ht4 : tn ≤ 4 := by have := (gq_tabs hg).2; have := HTZ.out; omega
    obtain ⟨q, hq⟩ : ∃ q, q = w1.heap.size := ⟨_, rfl⟩
    have zq : w.heap.size + 1 < q := by omega
    have zq1 : q ≤ w1.heap.size := by omega
    have zq2 : w1.heap.size ≤ q := by omega
    have HBW := Hid.mk BW
    clear hg BW B1 b1 hq HC
    go_wp2_with fail
    go_loopw [7, 22] (fun pp i wr => ∃ (k : Nat) (r : Option Addr) (d : Nat), k ≤ tn ∧ i = .int .i64 k ∧ pp = .slice r k d ∧ OwnU wr q wr.heap.size r k d (canTo zs ts k) ∧ q ≤ wr.heap.size ∧ Below w1.heap.size w1 wr) (fun _ i _ => tn - (intOf i).toNat)
    case atStart => exact ⟨0, none, 0, Nat.zero_le _, rfl, rfl, OwnU.nil _ _, zq1, Below.refl _ _⟩
    case round =>
      obtain ⟨k, r, d, hk1, rfl, rfl, hown, zr, hbw⟩ := hrel
      obtain ⟨wy, rfl⟩ : ∃ x, x = wr := ⟨_, rfl⟩
      have HBY := Hid.mk (HBW.out.trans (hbw.mono HBW.out.size))
      have q0 := cell_later hbw q0
      have q1 := cell_later hbw q1
      have b3 := blk_below b2 hbw
      have HOW := Hid.mk hown
      clear hown
      by_cases hlt : k < tn
      · obtain ⟨ba, offa, rfl, _, hca⟩ := (At.below HTA.out HBY.out).some (by have := HTZ.out; omega)
        have hv := hca k (by have := HTZ.out; omega)
        have h3 := HTI.out k (by have := HTZ.out; omega)
        obtain ⟨Q, hQ⟩ : ∃ Q : Nat, ts.getD k 0 = (Q : Int) := ⟨(ts.getD k 0).toNat, by omega⟩
        rw [hQ] at hv h3
        have hQ3 : Q ≤ 3 := by omega
        have HQ := Hid.mk hQ
        have hki : (k : Int) < (tn : Int) := by omega
        have HB := Hid.mk hbw
        clear hca h3 hQ hbw b3
        go_wp2_with fail
        go_loopw [10, 30] (fun pp i wx => ∃ (j m : Nat) (s : Option Addr) (e : Nat), j ≤ n ∧ i = .int .i64 j ∧ pp = .slice s m e ∧ (putAll [] (onesW (rowsAt (zs.take j) k))).length = m ∧ m ≤ j ∧ Formed s m e ∧ AtM wx s (putAll [] (onesW (rowsAt (zs.take j) k))) ∧ Below wy.heap.size wy wx) (fun _ i _ => n - (intOf i).toNat)
        case atStart => exact ⟨0, 0, none, 0, Nat.zero_le _, rfl, rfl, rfl, Nat.le_refl _, Formed.nil, .inl rfl, Below.refl _ _⟩
        case round =>
          obtain ⟨j, m, s, e, hj1, rfl, rfl, hml, hmj, hF, har, hbx⟩ := hrel
          obtain ⟨wX, rfl⟩ : ∃ x, x = wr := ⟨_, rfl⟩
          by_cases hjlt : j < n
          · obtain ⟨x, hx⟩ : ∃ x, zs[j]? = some x := ⟨_, List.getElem?_eq_getElem (by have := HZ.out; omega)⟩
            have HTK := Hid.mk (rowsAt_take zs j k hx)
            have HAK : Hid (aOk x = true) := HOK.out.2 x (List.mem_of_getElem? hx)
            have HBX := Hid.mk (HBY.out.trans (hbx.mono HBY.out.size))
            obtain ⟨b, off, rfl, _, hc9⟩ := AtQ.row HA.out (by have := HZ.out; omega)
            obtain ⟨va, vn, vc, g0, g1, u1, u2, u3, u4⟩ := hc9 j x hx
            have g0 := cell_later HBX.out g0
            have g1 := cell_later HBX.out g1
            have HVY := Hid.mk (At.below u3 HBY.out)
            have hji : (j : Int) < (n : Int) := by omega
            have HV := Hid.mk (At.below u3 HBX.out)
            have HV4 := Hid.mk u4
            have HV1 := Hid.mk u1
            have zX := hbx.size
            obtain ⟨U, hU⟩ : ∃ U, U = wX.alloc (.cells #[.int .i64 x.1, .slice va vn vc] 81) := ⟨_, rfl⟩
            have BU : Below wX.heap.size wX U := by rw [hU]; exact (Below.refl _ _).alloc (Nat.le_refl _) _
            have p0 : U.cell? ⟨wX.heap.size, 0, none⟩ = some (.int .i64 x.1) := by rw [hU]; exact pair0 wX _ _ _
            have p1 : U.cell? ⟨wX.heap.size, 1, none⟩ = some (.slice va vn vc) := by rw [hU]; exact pair1 wX _ _ _
            have zU := BU.size
            have HBU := Hid.mk (hbx.trans (BU.mono hbx.size))
            have HUU := Hid.mk BU
            skip
            clear hc9 u1 u3 u4 hx hbx BU
            go_upto_region 11 with fail
            rw [← hU]
            clear hU g0 g1
            by_cases hxk : x.1 = (k : Int)
            · have HT2 : Hid (rowsAt (zs.take (j + 1)) k = rowsAt (zs.take j) k ++ [x.2]) := by show _ = _; rw [HTK.out, if_pos hxk]
              rw [hxk] at p0
              have KP := Hid.mk (l2Put_any s va m vn e vc (putAll [] (onesW (rowsAt (zs.take j) k))) x.2 1 U hml HV1.out (by omega) hF (by have := aOk_len HAK.out; have := HV1.out; omega) HV4.out (fun jj hjj => at_of_mem (ones_okC (rowsAt_six HOK.out.2 k j) (by have h7 := rowsAt_len (zs.take j) k; rw [List.length_take] at h7; omega)) jj (by omega)) (by omega) (by omega) (har.below HUU.out) (HV.out.below HUU.out))
              rw [← ones_snoc, ← HT2.out] at KP
              have HM1 : Hid (m ≤ j) := hmj
              clear hF har hml
              go_wp2_with fail
              refine KP.out.mono ?_
              rintro e2 w2 ⟨r2, m2, d2, rfl, hm2, hF2, ha2, hb2⟩
              have HB2 := Hid.mk (HBU.out.trans (hb2.mono HBU.out.size))
              have HM2 := Hid.mk hm2
              have HML2 : Hid (m2 ≤ j + 1) := by
                show _ ≤ _
                have h9 := putAll_len (onesW (rowsAt (zs.take (j + 1)) k)) []
                have h8 := rowsAt_len (zs.take (j + 1)) k
                rw [onesW_length] at h9
                rw [List.length_take] at h8
                simp only [List.length_nil] at h9
                omega
              have HF2 := Hid.mk hF2
              have HA2 := Hid.mk ha2
              clear hm2 hF2 ha2 hb2 KP
              go_wp2
              go_roundw
              case rel => exact ⟨j + 1, m2, r2, d2, by omega, by go_num, rfl, HM2.out, HML2.out, HF2.out, HA2.out, HB2.out⟩
              case measure => simp [intOf]; omega
            · have HT2 : Hid (rowsAt (zs.take (j + 1)) k = rowsAt (zs.take j) k) := by show _ = _; rw [HTK.out, if_neg hxk, List.append_nil]
              have HA2 := Hid.mk (har.below HUU.out)
              rw [← HT2.out] at HA2 hml
              have HML := Hid.mk hml
              have HF2 := Hid.mk hF
              clear hml hF har
              go_wp2
              go_roundw
              case rel => exact ⟨j + 1, m, s, e, by omega, by go_num, rfl, HML.out, by omega, HF2.out, HA2.out, HBU.out⟩
              case measure => simp [intOf]; omega
          · obtain rfl : j = n := by omega
            rw [List.take_of_length_le (by have := HZ.out; omega)] at hml har
            have hji : ¬ (j : Int) < (j : Int) := by omega
            have hlen := rowsAt_len zs k
            have HROK : Hid (∀ z ∈ rowsAt zs k, good z = true ∧ z.length = Q) := fun z hz => by
              have h9 := HRO.out k z hz
              rw [HQ.out] at h9
              exact ⟨h9.1, by omega⟩
            have zX := hbx.size
            have HBX := Hid.mk hbx
            have HCS := Hid.mk (canTo_succ zs ts k)
            rw [HQ.out] at HCS
            obtain ⟨R, hR⟩ : ∃ R, rowsAt zs k = R := ⟨_, rfl⟩
            rw [hR] at hml har hlen HROK HCS
            have hR5 : R.length ≤ 5 := by have := HZ.out; omega
            have hok := ones_okC (zss := R) (fun z hz => by have := HROK.out z hz; omega) (by omega)
            have KD : Hid (Calls Try.prog 55 #[.slice s m e] wX fun e w'' => ∃ r2 k2 d2, e = .returned (.slice r2 k2 d2) ∧ (ttW R).length = k2 ∧ AtM w'' r2 (ttW R) ∧ Below wX.heap.size wX w'') := l3Distinct_any s m e (putAll [] (onesW R)) wX hml (by omega) (fun s hs => (hok s hs).1) har
            have HTL : Hid ((ttW R).length ≤ 5) := by show _ ≤ _; have h9 := distW_len (putAll [] (onesW R)); unfold ttW; omega
            have HT6 : Hid (∀ t ∈ ttW R, t.1.length ≤ 6) := fun t ht => by
              obtain ⟨s, hs, e⟩ := some_mem ht
              rw [(plainG_some e).1]
              exact (hok s hs).1
            clear hF har hml hbx hok
            go_wp2_with fail
            refine KD.out.mono ?_
            rintro e9 v1 ⟨r1, k1, e1, rfl, hk1, ha1, pb1⟩
            have HB1 := Hid.mk (HBX.out.trans (pb1.mono HBX.out.size))
            have zv1 := HB1.out.size
            have K := Hid.mk (l2Tell_any r1 k1 e1 (ttW R) (Q : Int) v1 hk1 (by have := HTL.out; omega) (fun j hj => Nat.le_trans (at_of_mem (Q := fun t => t.1.length ≤ 6) HT6.out j (by omega)) (by omega)) ha1)
            clear hk1 ha1 pb1 KD
            go_wp2_with fail
            refine K.out.mono ?_
            rintro e w4 ⟨⟨r3, m3, d3, cells3, rfl, ho3⟩, hb4⟩
            have HBR := Hid.mk (HB1.out.trans (hb4.mono HB1.out.size))
            have ho3' : OwnT w4 wy.heap.size w4.heap.size r3 m3 d3 (ansT (goodT (Q : Int) (ttW R)) (ttW R)) := OwnT.widen ⟨cells3, ho3⟩ (by omega) (Nat.le_refl _) (Nat.le_refl _)
            have HM3 := Hid.mk ho3'.len
            have HO3 := Hid.mk ho3'
            obtain ⟨P3, hP3⟩ : ∃ P3, tellP (Q : Int) (ttW R) = P3 := ⟨_, rfl⟩
            rw [hP3]
            have HP3 : Hid (P3 = ansP (goodT (Q : Int) (ttW R)) (Q : Int)) := hP3.symm
            obtain ⟨ok3, hok3⟩ : ∃ ok3, goodT (Q : Int) (ttW R) = ok3 := ⟨_, rfl⟩
            rw [hok3]
            clear hP3 hb4 ho3 ho3' K hok3
            obtain ⟨cells, L, H, hou⟩ := HOW.out
            have HOU := Hid.mk hou
            obtain ⟨W4, hW4⟩ : ∃ W4, W4 = w4.alloc (.cells #[.int .i64 P3, .slice r3 m3 d3] 61) := ⟨_, rfl⟩
            have hbX4 : Below w4.heap.size w4 W4 := by rw [hW4]; exact (Below.refl _ _).alloc (Nat.le_refl _) _
            have HB4 := Hid.mk hbX4
            have t0 : W4.cell? ⟨w4.heap.size, 0, none⟩ = some (.int .i64 P3) := by rw [hW4]; exact pair0 _ _ _ _
            have t1 : W4.cell? ⟨w4.heap.size, 1, none⟩ = some (.slice r3 m3 d3) := by rw [hW4]; exact pair1 _ _ _ _
            have HO4 := Hid.mk ((hou.below HBR.out).below hbX4)
            have HBW4 := Hid.mk ((HB.out.trans (HBR.out.mono HB.out.size)).trans (hbX4.mono (by have := HB.out.size; have := HBR.out.size; omega)))
            have z4 := HBR.out.size
            have zX4 := hbX4.size
            clear hou hbX4
            go_upto_region 15 with fail
            rw [← hW4]
            clear hW4
            go_wp2_with (at_builtin; refine wpList_append_lies _ rfl (.tmp 51) (.tmp 53) 27 rfl q 61 i0 (.agg #[.int .i64 0, .slice none 0 0]) 2 32 Try.underlying27 hi hz0 hz1 hz2 rfl (by decide) (.slice r k d) k cells rfl (HO4.out.outer.alloc _) ⟨W4.heap.size, 0, none⟩ 1 1 [.int .i64 P3, .slice r3 m3 d3] (by simp [Act.eval]) rfl (by simpa using news_at W4 #[.int .i64 P3, .slice r3 m3 d3] 61) (by intro u hu; simp at hu; rcases hu with rfl | rfl <;> rfl) (by decide) (by unfold maxLen; omega) (by omega) (by simp; omega) (W4.heap.size + 1) (by simp) ?_)
            intro g5 cap5 w5 hown5 hgrow5 hat5 hlt5
            have hob : ∀ j, (Value.slice r k d).ownBlock = some j → q ≤ j := fun j hj => (HO4.out.blocks j hj).1
            have hbB : Below w4.heap.size w4 (W4.alloc (.cells #[.int .i64 P3, .slice r3 m3 d3] 61)) := HB4.out.alloc HB4.out.size _
            have hpu := HOU.out.pushed (p := P3) (by omega) HBR.out HM3.out HO3.out hbB hown5 hgrow5 (by
              rcases hat5 with e | e
              · left; exact e
              · right; omega) hlt5
            have HE : Hid (canTo zs ts (k + 1) = canTo zs ts k ++ [(P3, ansT (goodT (Q : Int) (ttW R)) (ttW R))]) := by show _ = _; rw [HCS.out, HP3.out]; rfl
            rw [← HE.out] at hpu
            have HPU := Hid.mk hpu
            have z5 : W4.heap.size ≤ w5.heap.size := by have := hgrow5.size; simp at this; omega
            have HB5 : Hid (Below w1.heap.size w1 w5) := (HBW4.out.alloc HBW4.out.size _).grown hgrow5 (by have := HBW4.out.size; simp; omega) (fun j hj => by have := hob j hj; omega)
            clear hpu hob hbB hown5 hgrow5 hat5 HOU HO4 HO3
            go_wp2
            go_roundw
            case rel => exact ⟨k + 1, _, _, by omega, by go_num, rfl, ⟨_, _, _, HPU.out⟩, by omega, HB5.out⟩
            case measure => simp [intOf]; omega
      · obtain rfl : k = tn := by omega
        have hki : ¬ (k : Int) < (k : Int) := by omega
        have HTL : Hid (canTo zs ts k = cnL hs zs ts) := by show _ = _; rw [HEL.out, HTZ.out]
        rw [HTL.out] at HOW
        have e0 := blk_cell b3 0 (v := .slice none 0 0) rfl
        have f0 := blk_frozen b3 0
        have HHY := Hid.mk (At.below HHA.out HBY.out)
        clear HEL hbw
        have BV : Below wy.heap.size wy (wy.alloc (.cells #[] 3)) := (Below.refl _ _).alloc (Nat.le_refl _) _
        have OV := owns_empty wy 3 1
        have v0 : (wy.alloc (.cells #[] 3)).cell? ⟨w.heap.size, 0, none⟩ = some (.slice ha hn hc) := cell_later BV q0
        have HHV := Hid.mk (HHY.out.below BV)
        go_wp2_with (at_builtin; refine wpList_append_all rfl (.tmp 57) (.tmp 59) 22 rfl wy.heap.size 3 j0 (.int .i64 0) 8 Try.underlying22 hj0 hy0 hy1 hy2 rfl (.slice (some ⟨wy.heap.size, 0, none⟩) 0 0) 0 [] rfl OV ha hn hc hs rfl HHZ.out HHV.out HHF.out (by unfold maxLen; omega) (by omega) (by simp) ?_)
        intro ra rd w5 ho5 hg5
        have hb5 : Below wy.heap.size wy w5 := BV.grown hg5 (by simp) (fun j hj => (OV.lt j hj).1)
        have e0 := cell_later hb5 e0
        have f0 := blk_frozen (blk_below b3 hb5) 0
        have HO5 := Hid.mk ho5
        have HU5 := Hid.mk (HOW.out.below hb5)
        have HB5 := Hid.mk (HBY.out.trans (hb5.mono HBY.out.size))
        have z5 := hb5.size
        clear ho5 hb5 HOW hg5 OV v0 BV
        go_wp2
        refine bodyPost_ret (v := .tuple #[.slice r k d, .agg #[.slice ra hn rd], .bool true]) (by simp [results, Try.results10, go_sem, e0]) rfl ⟨?_, HB5.out.setCell (by simp) _⟩
        rw [HG.out, HEH.out]
        refine ⟨r, k, d, ra, hn, rd, wy.heap.size, rfl, by omega, by simp [World.setCell]; omega, ?_, HHZ.out, ?_⟩
        · exact (HU5.out.setCell (.inl (show w.heap.size + 1 < q by omega)) _).widen (by omega) (Nat.le_refl _) (by simp [World.setCell]; omega)
        · exact ownsRow_setCell_below HO5.out (show w.heap.size + 1 < wy.heap.size by omega) _

end Go.Proofs.Ytipgepienagplaa

/- Contracts of the laws' helpers that mark streams: markTableS, markStream, heldTableS, heldStream. -/
namespace Go.Proofs.Ytipgepienagplaa
open Go.RowKit

set_option maxHeartbeats 2000000 in
theorem markTableS_any (lo hi : Nat) (a : Option Addr) (n c : Nat) (ss : List Tab) (m : Int) (w : World) (hs : SmU ss n) (h0 : 0 ≤ m) (h1 : m ≤ 134217728) (ho : OwnU w lo hi a n c ss) :
    Calls Try.prog 20 #[.slice a n c, .int .i64 m] w fun e w' => e = .returned (.int .i64 (m + stot ss n)) ∧ OwnU w' lo hi a n c (markU m ss) ∧ Apart lo hi w w' := by
  obtain ⟨cells, L, H, ho⟩ := ho
  have hz := hs.1
  have hn := hs.n
  have ht := hs.2
  by_cases hn0 : n = 0
  · subst hn0
    obtain rfl := List.eq_nil_of_length_eq_zero hz
    go_enter Try.func20, Try.ntmps20
    go_wp2
    refine wp_loop_rounds 1 ?_
    rw [rounds_succ]
    go_wp2
    go_ret
    exact ⟨ret_int (by simp [stot]), ⟨cells, L, H, ho⟩, Apart.refl _ _ _⟩
  · obtain ⟨g, hgv⟩ : ∃ g, a = some ⟨g, 0, none⟩ := by
      rcases ho.outer.2 with ⟨_, h⟩ | ⟨g, cap, cur, hv, _⟩
      · omega
      · simp only [Value.slice.injEq, true_and] at hv
        exact ⟨g, hv.1⟩
    subst hgv
    have ho0 : OwnUk w lo hi (some ⟨g, 0, none⟩) n c (mixU m ss 0) cells L H n := by rw [mixU_zero]; exact ho
    clear ho
    go_enter Try.func20, Try.ntmps20
    go_wp2
    go_loopw [1, 5] (fun q i wr => ∃ (k : Nat) (cells : List Value), k ≤ n ∧ i = .int .i64 k ∧ q = .int .i64 (m + stot ss k) ∧ OwnUk wr lo hi (some ⟨g, 0, none⟩) n c (mixU m ss k) cells L H n ∧ Apart lo hi w wr) (fun _ i _ => n - (intOf i).toNat)
    case atStart => exact ⟨0, cells, Nat.zero_le _, rfl, by simp [stot_zero], ho0, Apart.refl _ _ _⟩
    case round =>
      clear ho0 cells
      obtain ⟨k, cells, hk, rfl, rfl, ho, hap⟩ := hrel
      by_cases hlt : k < n
      · obtain ⟨a', c', k1, k2, k3⟩ := ho.row k hlt
        rw [mixU_at m ss k k (by omega), if_neg (by omega)] at k1 k2 k3
        have hsm := hs.tab k hlt
        have hts := stot_succ ss k (by omega)
        have htm := stot_mono ss (k + 1) n (by omega) (by omega)
        have hout := ho.outer
        have hln := hout.1
        have hw := ho.within k hlt
        have hgo := ho.out k hlt g rfl
        have hgl := ho.blocks g rfl
        have HO := Hid.mk ho
        obtain ⟨us, hus⟩ : ∃ us, (tat ss k).2 = us := ⟨_, rfl⟩
        rw [hus] at k2 k3 hsm hts
        obtain ⟨l, hl⟩ : ∃ l, us.length = l := ⟨_, rfl⟩
        rw [hl] at k2 k3 hsm hts
        obtain ⟨T, hT⟩ : ∃ T : Nat, stot ss k = T := ⟨_, rfl⟩
        obtain ⟨v, hv⟩ : ∃ v : Int, m + (T : Int) = v := ⟨_, rfl⟩
        have hb1 : v + 1 ≤ 268435456 := by omega
        have hb0 : 0 ≤ v + 1 := by omega
        have hw0 : -9223372036854775808 ≤ v := by omega
        have hcx : wr.cell? ⟨g, k * 2 + 1, none⟩ = some (.slice a' l c') := (hout.cellAt _ (by omega)).trans k2
        have hco : wr.cell? ⟨g, k * 2, none⟩ = some (.int .i64 (tat ss k).1) := (hout.cellAt _ (by omega)).trans k1
        have hfo : wr.frozen? ⟨g, k * 2, none⟩ = false := hout.frozenAt _
        have HK := Hid.mk k2
        have HUS := Hid.mk hus
        have HL := Hid.mk hl
        have HT := Hid.mk hT
        have HV := Hid.mk hv
        have HTS := Hid.mk hts
        have HAP := Hid.mk hap
        rw [hT, hv]
        have hki : (k : Int) < (n : Int) := by omega
        have hO1 : OwnT (wr.setCell ⟨g, k * 2, none⟩ (.int .i64 v)) (L k) (H k) a' l c' us := k3.setCell (a0 := ⟨g, k * 2, none⟩) hgo _
        have hcx1 : (wr.setCell ⟨g, k * 2, none⟩ (.int .i64 v)).cell? ⟨g, k * 2 + 1, none⟩ = some (.slice a' l c') := by
          have := ((hout.stored (k * 2) (.int .i64 v)).1.cellAt (k * 2 + 1) (by omega))
          rw [this, List.getElem?_set_ne (by omega)]; exact k2
        clear k1 k2 hus hl hT hts htm hap ho hout hv
        go_wp2_with fail
        refine (markWeightedSG (L k) (H k) _ _ _ us _ _ hsm hb0 hb1 hO1).mono ?_
        rintro e w2 ⟨rfl, hr2, hg2⟩
        have hmk := HO.out.marked (m := m) (ss := ss) (v := v) (by have := HO.out.len; rwa [mixU_length] at this) hlt (by rw [HUS.out]; exact HL.out) (by rw [HT.out]; exact HV.out) HK.out (by rw [HUS.out]; exact hr2) hg2
        have HM := Hid.mk hmk
        have hA1 : Apart lo hi wr (wr.setCell ⟨g, k * 2, none⟩ (.int .i64 v)) := Apart.grown (row := some g) ⟨rfl, rfl, rfl, by simp [World.setCell], fun j _ hn => Below.heap_setCell _ _ _ j (fun e => hn (by rw [e]))⟩ (fun b hb => by simp at hb; omega)
        have HA : Hid (Apart lo hi w w2) := (HAP.out.trans hA1).trans (hg2.widen hw.1 hw.2)
        clear hmk hr2 hg2 k3 hcx HO HK hO1 hcx1 hco hA1
        go_wp2
        go_roundw
        case rel => exact ⟨k + 1, _, by omega, by go_num, by have := HTS.out; have := HT.out; have := HV.out; go_num, HM.out, HA.out⟩
        case measure => simp [intOf]; omega
      · obtain rfl : k = n := by omega
        have ho' : OwnUk wr lo hi (some ⟨g, 0, none⟩) k c (markU m ss) cells L H k := by
          rw [← mixU_all, hz]; exact ho
        go_wp2
        go_ret
        exact ⟨rfl, ⟨cells, L, H, ho'⟩, hap⟩

set_option maxHeartbeats 2000000 in
theorem heldTableS_any (a : Option Addr) (n c : Nat) (ss : List Tab) (m : Int) (w : World) (hs : SmU ss n) (h0 : 0 ≤ m) (h1 : m ≤ 134217728) (ha : AtSW w a (markU m ss)) :
    Calls Try.prog 22 #[.slice a n c, .int .i64 m] w fun e w' => e = .returned (.int .i64 (m + stot ss n)) ∧ Below w.heap.size w w' := by
  have hz := hs.1
  have hn := hs.n
  have ht := hs.2
  by_cases hn0 : n = 0
  · subst hn0
    obtain rfl := List.eq_nil_of_length_eq_zero hz
    go_enter Try.func22, Try.ntmps22
    go_wp2
    refine wp_loop_rounds 1 ?_
    rw [rounds_succ]
    go_wp2
    go_ret
    exact ⟨ret_int (by simp [stot]), Below.refl _ _⟩
  · go_enter Try.func22, Try.ntmps22
    go_wp2
    go_loopw [1, 5] (fun q i wr => ∃ (k : Nat), k ≤ n ∧ i = .int .i64 k ∧ q = .int .i64 (m + stot ss k) ∧ Below w.heap.size w wr) (fun _ i _ => n - (intOf i).toNat)
    case atStart => exact ⟨0, Nat.zero_le _, rfl, by simp [stot_zero], Below.refl _ _⟩
    case round =>
      obtain ⟨k, hk, rfl, rfl, hbw⟩ := hrel
      by_cases hlt : k < n
      · obtain ⟨b, off, rfl, hc⟩ := (ha.below hbw).some (by rw [markU_length]; omega)
        obtain ⟨q, d, hwx, hcx, _, hat⟩ := hc k (by rw [markU_length]; omega)
        rw [markU_at m ss k (by omega)] at hcx hwx hat
        simp only [markW_length] at hcx
        have hsm := hs.tab k hlt
        have hts := stot_succ ss k (by omega)
        have htm := stot_mono ss (k + 1) n (by omega) (by omega)
        obtain ⟨us, hus⟩ : ∃ us, (tat ss k).2 = us := ⟨_, rfl⟩
        simp only [hus] at hcx hat hsm hts
        obtain ⟨l, hl⟩ : ∃ l, us.length = l := ⟨_, rfl⟩
        rw [hl] at hcx hsm hts
        obtain ⟨T, hT⟩ : ∃ T : Nat, stot ss k = T := ⟨_, rfl⟩
        obtain ⟨v, hv⟩ : ∃ v : Int, m + (T : Int) = v := ⟨_, rfl⟩
        simp only [hT, hv] at hwx hat
        rw [hT, hv]
        have hb1 : v + 1 ≤ 268435456 := by omega
        have hb0 : 0 ≤ v + 1 := by omega
        have HT := Hid.mk hT
        have HV := Hid.mk hv
        have HTS := Hid.mk hts
        have hki : (k : Int) < (n : Int) := by omega
        have hnn : ¬ v + 1 + (wtot us l : Int) < 0 := by omega
        have hwt : wtot us l ≤ 1048576 := hsm.2
        clear hc hl hT hts htm ha hus hv
        go_wp2_with fail
        refine (heldWeightedS_any _ _ _ us _ _ hsm.1 hsm.row hsm.2 hb0 hb1 hat).mono ?_
        rintro e w2 ⟨rfl, hb2⟩
        have HB := Hid.mk (hbw.trans (hb2.mono hbw.size))
        clear hb2 hwx hcx hat hbw
        go_wp2
        go_roundw
        case rel => exact ⟨k + 1, by omega, by go_num, by have := HTS.out; have := HT.out; have := HV.out; go_num, HB.out⟩
        case measure => simp [intOf]; omega
      · obtain rfl : k = n := by omega
        go_wp2
        go_ret
        exact ⟨rfl, hbw⟩

end Go.Proofs.Ytipgepienagplaa

/- Contracts of the laws' helpers over rows: markRow, heldRow. -/
namespace Go.Proofs.Ytipgepienagplaa
open Go.RowKit

theorem markRow_any (base : Nat) (a : Option Addr) (n c : Nat) (cs : List Value) (m : Int) (w : World) (hn : n ≤ 1048576) (h0 : 0 ≤ m) (h1 : m ≤ 1073741824) (hown : w.ownsRow base 3 1 (.slice a n c) n cs) :
    Calls Try.prog 21 #[.agg #[.slice a n c], .int .i64 m] w fun e w' => e = .returned (.int .i64 (m + n)) ∧
      w'.ownsRow base 3 1 (.slice a n c) n ((marks m n).map (.int .i64)) ∧ w.grownBy w' (Value.slice a n c).ownBlock := by
  have HO := hown.alloc (.cells #[.slice a n c] 29)
  clear hown
  go_enter Try.func21, Try.ntmps21
  go_wp2_with (go_at_call 19; refine (markIntS_any base _ _ _ cs _ _ hn h0 h1 HO).mono ?_; rintro e w' ⟨rfl, hown, hg⟩)
  go_ret
  exact ⟨rfl, hown, grown_alloc hg⟩

theorem heldRow_any (a : Option Addr) (n c : Nat) (m : Int) (w : World) (hn : n ≤ 1048576) (h0 : 0 ≤ m) (h1 : m ≤ 1073741824) (ha : At w a (marks m n)) :
    Calls Try.prog 23 #[.agg #[.slice a n c], .int .i64 m] w fun e w' => e = .returned (.int .i64 (m + n)) ∧ Below w.heap.size w w' := by
  have HA := ha.alloc (.cells #[.slice a n c] 29)
  have h2 : ¬ m + (n : Int) < 0 := by omega
  clear ha
  go_enter Try.func23, Try.ntmps23
  go_wp2_with (go_at_call 64; refine (heldIntS_any _ _ _ _ _ hn h0 h1 HA).mono ?_; rintro e w' ⟨rfl, rfl⟩)
  go_ret
  exact ⟨rfl, (Below.refl _ _).alloc (Nat.le_refl _) _⟩

end Go.Proofs.Ytipgepienagplaa

/- What CanonicalOf tells is small; the laws' helpers over a row that is told. -/
namespace Go.Proofs.Ytipgepienagplaa
open Go.RowKit

theorem eqRow_same (a a' : Option Addr) (n c c' : Nat) (zs : List Int) (w : World) (hz : zs.length = n) (hn : n ≤ 1048576) (ha : At w a zs) (ha' : At w a' zs) :
    Calls Try.prog 15 #[.agg #[.slice a n c], .agg #[.slice a' n c']] w fun e w' => e = .returned (.bool true) ∧ Below w.heap.size w w' :=
  (eqRow_any a a' n n c c' zs zs w hz hz hn hn ha ha').mono fun _ _ ⟨h1, h2⟩ => ⟨by rw [h1, decide_eq_true rfl], h2⟩
theorem markRow_rep (F : Nat → Prop) (a : Option Addr) (n c : Nat) (zs : List Int) (m : Int) (w : World) (hn : n ≤ 1048576) (h0 : 0 ≤ m) (h1 : m ≤ 268435456) (ho : RInts.Own w F [.slice a n c] zs) :
    Calls Try.prog 21 #[.agg #[.slice a n c], .int .i64 m] w fun e w' => e = .returned (.int .i64 (m + n)) ∧ RInts.Own w' F [.slice a n c] (mkInts m zs) ∧ Off F w w' := by
  obtain ⟨h2, h3, h4, h5⟩ := RInts.own_iff.1 ho
  refine (markRow_any 0 a n c _ m w hn h0 (by omega) h4).mono fun e w' ⟨e1, e2, e3⟩ => ⟨e1, RInts.own_iff.2 ⟨by unfold mkInts; rw [marks_length, h2], h3, by unfold mkInts; rw [h2]; exact e2, h5⟩, Off.grown e3 h5⟩
theorem heldRow_rep (a : Option Addr) (n c : Nat) (zs : List Int) (m : Int) (w : World) (hz : zs.length = n) (hn : n ≤ 1048576) (h0 : 0 ≤ m) (h1 : m ≤ 268435456) (ha : At w a (mkInts m zs)) :
    Calls Try.prog 23 #[.agg #[.slice a n c], .int .i64 m] w fun e w' => e = .returned (.int .i64 (m + n)) ∧ Below w.heap.size w w' := by
  unfold mkInts at ha
  rw [hz] at ha
  exact heldRow_any a n c m w hn h0 (by omega) ha

theorem stot_leC {ss : List Tab} {M : Nat} (h : ∀ i, i < ss.length → wtot (tat ss i).2 (tat ss i).2.length ≤ M) : ∀ k, k ≤ ss.length → stot ss k ≤ k * (M + 1) := by
  intro k hk
  induction k with
  | zero => simp [stot_zero]
  | succ k ih =>
    have h1 := ih (by omega)
    have h2 := h k (by omega)
    rw [stot_succ ss k (by omega), Nat.add_mul]
    omega
theorem goodT_w420C {p : Int} {ts : List WRow} (h : goodT p ts = true) : wtot ts ts.length ≤ 420 := by
  have h1 := wtot_le (M := 6) (fun t ht => good_len (goodL_mem (goodL_of_goodT h) t ht).1) ts.length (Nat.le_refl _)
  have h2 := (goodT_parts h).2.1
  omega
theorem cn_small (hs : List Int) (zs : List Atm) (ts : List Int) : SmU (cnL hs zs ts) (cnL hs zs ts).length := by
  refine ⟨rfl, ?_⟩
  cases hb : gqB hs zs ts with
  | false => rw [cnL_no hb]; simp [stot]
  | true =>
    have h4 := (gq_tabs hb).2
    rw [cnL_yes hb]
    have hl : (canTo zs ts ts.length).length = ts.length := by simp [canTo]
    have := stot_leC (ss := canTo zs ts ts.length) (M := 420) (fun i hi => by
      rw [hl] at hi
      have e : tat (canTo zs ts ts.length) i = canT (ts.getD i 0) (rowsAt zs i) := by simp [tat, canTo, List.getD, hi]
      rw [e]
      unfold canT
      cases hg : goodT (ts.getD i 0) (ttW (rowsAt zs i)) with
      | false => simp [ansT, wtot]
      | true => exact goodT_w420C hg) (canTo zs ts ts.length).length (Nat.le_refl _)
    omega
theorem cnH_len (hs : List Int) (zs : List Atm) (ts : List Int) : (cnH hs zs ts).length ≤ 6 := by
  cases hb : gqB hs zs ts with
  | false => rw [cnH_no hb]; simp
  | true => rw [cnH_yes hb]; exact (gq_all hb).2.1

end Go.Proofs.Ytipgepienagplaa
