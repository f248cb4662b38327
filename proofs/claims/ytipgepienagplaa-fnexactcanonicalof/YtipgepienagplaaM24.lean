/- Several texts of one proof, in build order: CnI, CloM, CloN. -/
import Derived.Test.YtipgepienagplaaM8
import Derived.Test.YtipgepienagplaaM23
import Derived.Test.YtipgepienagplaaM4
import Derived.Deep.CutBlock
import Derived.Test.YtipgepienagplaaM6

/- Contract of impl.CanonicalOf. -/
namespace Go.Proofs.Ytipgepienagplaa
open Go.RowKit

set_option maxRecDepth 100000 in
set_option maxHeartbeats 8000000 in
theorem implCanonicalOf (ha : Option Addr) (hn hc : Nat) (hs : List Int) (a : Option Addr) (n c : Nat) (zs : List Atm) (ta : Option Addr) (tn tc : Nat) (ts : List Int) (w : World) (hh : hs.length = hn) (hhb : hn ≤ 9223372036854775807) (hat : At w ha hs) (hhF : ha = none → hc = 0) (hz : zs.length = n) (hb : n ≤ 9223372036854775807) (haz : AtQ w a zs) (htz : ts.length = tn) (htb : tn ≤ 9223372036854775807) (hta : At w ta ts) :
    Calls Try.prog 13 #[.agg #[.slice ha hn hc, .slice a n c], .slice ta tn tc] w fun e w' => CanRet e w' w.heap.size (gqB hs zs ts) (cnL hs zs ts) (cnH hs zs ts) ∧ Below w.heap.size w w' := by
  obtain ⟨i0, hi, hz0, hz1, hz2⟩ := info_parts Try.infoT
  obtain ⟨k0, hk0, hx0, hx1, hx2⟩ := info_parts Try.infoRow
  obtain ⟨j0, hj0, hy0, hy1, hy2⟩ := info_parts Try.infoInt
  obtain ⟨W, hW⟩ : ∃ W, W = (w.alloc (.cells #[.slice ha hn hc, .slice a n c] 34)).alloc (.cells #[.slice none 0 0] 29) := ⟨_, rfl⟩
  have B0 : Below w.heap.size w W := by rw [hW]; exact ((Below.refl _ _).alloc (Nat.le_refl _) _).alloc (by simp) _
  have q0 : W.cell? ⟨w.heap.size, 0, none⟩ = some (.slice ha hn hc) := by rw [hW]; simp [go_sem]
  have q1 : W.cell? ⟨w.heap.size, 1, none⟩ = some (.slice a n c) := by rw [hW]; simp [go_sem]
  have b1 : W.heap[w.heap.size + 1]? = some (.cells #[.slice none 0 0] 29 (0, 0)) := by
    rw [hW]
    have h := heap_alloc_new (w.alloc (.cells #[.slice ha hn hc, .slice a n c] 34)) (.cells #[.slice none 0 0] 29)
    simpa only [World.size_alloc] using h
  have zW : w.heap.size + 1 < W.heap.size := by rw [hW]; simp
  have HZ := Hid.mk hz
  have HA := Hid.mk haz
  have HTZ := Hid.mk htz
  have HTA := Hid.mk hta
  have HHA := Hid.mk hat
  have HHZ := Hid.mk hh
  have HHF := Hid.mk hhF
  have HC := Hid.mk (implGoodQuery ha hn hc hs a n c zs ta tn tc ts W hh hhb (At.below hat B0) hz hb (AtSl.below haz B0) htz htb (At.below hta B0))
  clear hh hat hz haz htz hta hhF
  go_enter Try.func13, Try.ntmps13
  go_upto_region 1 with fail
  rw [← hW]
  clear hW
  go_wp2_with fail
  refine HC.out.mono ?_
  rintro e w1 ⟨rfl, B1⟩
  have q0 := cell_later B1 q0
  have q1 := cell_later B1 q1
  have b2 := blk_below b1 B1
  have BW := B0.trans (B1.mono B0.size)
  have zw1 := B1.size
  cases hg : gqB hs zs ts with
  | false =>
    have HN : Hid (∀ W' : World, w.heap.size ≤ W'.heap.size → CanRet (.returned (.tuple #[.slice none 0 0, .agg #[.slice none 0 0], .bool false])) W' w.heap.size (gqB hs zs ts) (cnL hs zs ts) (cnH hs zs ts)) := fun W' h => CanRet.zero h hg (cnL_no hg) (cnH_no hg)
    have e0 := blk_cell b2 0 (v := .slice none 0 0) rfl
    have f0 := blk_frozen b2 0
    clear hg
    go_wp2
    refine bodyPost_ret (v := .tuple #[.slice none 0 0, .agg #[.slice none 0 0], .bool false]) (by simp [results, Try.results13, go_sem, e0]) rfl ⟨HN.out _ ?_, BW.setCell (by simp) _⟩
    have h9 := (BW.setCell (p := ⟨w.heap.size + 1, 0, none⟩) (by simp) (.slice none 0 0)).size
    exact h9
  | true =>
    have HOK := Hid.mk (gq_ok hg)
    have HRO : Hid (∀ k, ∀ z ∈ rowsAt zs k, good z = true ∧ (z.length : Int) = ts.getD k 0) := fun k => rowsAt_ok hg k
    have HEL := Hid.mk (cnL_yes hg)
    have HEH := Hid.mk (cnH_yes hg)
    have HTI := Hid.mk (tabOk_in (gq_all hg).1)
    have HG := Hid.mk hg
    have hn5 : n ≤ 5 := by have := HOK.out.1; have := HZ.out; omega
    have hn6 : hn ≤ 6 := by have := (gq_all hg).2.1; have := HHZ.out; omega
    have ht4 : tn ≤ 4 := by have := (gq_tabs hg).2; have := HTZ.out; omega
    obtain ⟨q, hq⟩ : ∃ q, q = w1.heap.size := ⟨_, rfl⟩
    have zq : w.heap.size + 1 < q := by omega
    have zq1 : q ≤ w1.heap.size := by omega
    have zq2 : w1.heap.size ≤ q := by omega
    have HBW := Hid.mk BW
    clear hg BW B1 b1 hq HC
    go_wp2_with fail
    go_loopw [7, 22] (fun pp i wr => ∃ (k : Nat) (r : Option Addr) (d : Nat), k ≤ tn ∧ i = .int .i64 k ∧ pp = .slice r k d ∧ OwnU wr q wr.heap.size r k d (canTo zs ts k) ∧ q ≤ wr.heap.size ∧ Below w1.heap.size w1 wr) (fun _ i _ => tn - (intOf i).toNat)
    case atStart => exact ⟨0, none, 0, Nat.zero_le _, rfl, rfl, OwnU.nil _ _, zq1, Below.refl _ _⟩
    case round =>
      obtain ⟨k, r, d, hk1, rfl, rfl, hown, zr, hbw⟩ := hrel
      obtain ⟨wy, rfl⟩ : ∃ x, x = wr := ⟨_, rfl⟩
      have HBY := Hid.mk (HBW.out.trans (hbw.mono HBW.out.size))
      have q0 := cell_later hbw q0
      have q1 := cell_later hbw q1
      have b3 := blk_below b2 hbw
      have HOW := Hid.mk hown
      clear hown
      by_cases hlt : k < tn
      · obtain ⟨ba, offa, rfl, _, hca⟩ := (At.below HTA.out HBY.out).some (by have := HTZ.out; omega)
        have hv := hca k (by have := HTZ.out; omega)
        have h3 := HTI.out k (by have := HTZ.out; omega)
        obtain ⟨Q, hQ⟩ : ∃ Q : Nat, ts.getD k 0 = (Q : Int) := ⟨(ts.getD k 0).toNat, by omega⟩
        rw [hQ] at hv h3
        have hQ3 : Q ≤ 3 := by omega
        have HQ := Hid.mk hQ
        have hki : (k : Int) < (tn : Int) := by omega
        have HB := Hid.mk hbw
        clear hca h3 hQ hbw b3
        go_wp2_with fail
        go_loopw [10, 30] (fun pp i wx => ∃ (j m : Nat) (s : Option Addr) (e : Nat) (cs : List Value), j ≤ n ∧ i = .int .i64 j ∧ pp = .slice s m e ∧ (rowsAt (zs.take j) k).length = m ∧ m ≤ j ∧ wx.ownsRow wy.heap.size 29 1 (.slice s m e) m cs ∧ Refs wy cs (rowsAt (zs.take j) k) ∧ Below wy.heap.size wy wx) (fun _ i _ => n - (intOf i).toNat)
        case atStart => exact ⟨0, 0, none, 0, [], Nat.zero_le _, rfl, rfl, rfl, Nat.le_refl _, World.ownsRow_nil _ _ _ _, Refs.nil _, Below.refl _ _⟩
        case round =>
          obtain ⟨j, m, s, e, cs, hj1, rfl, rfl, hml, hmj, ho, hrf, hbx⟩ := hrel
          obtain ⟨wX, rfl⟩ : ∃ x, x = wr := ⟨_, rfl⟩
          by_cases hjlt : j < n
          · obtain ⟨x, hx⟩ : ∃ x, zs[j]? = some x := ⟨_, List.getElem?_eq_getElem (by have := HZ.out; omega)⟩
            have HTK := Hid.mk (rowsAt_take zs j k hx)
            have HAK : Hid (aOk x = true) := HOK.out.2 x (List.mem_of_getElem? hx)
            have HBX := Hid.mk (HBY.out.trans (hbx.mono HBY.out.size))
            obtain ⟨b, off, rfl, _, hc9⟩ := AtQ.row HA.out (by have := HZ.out; omega)
            obtain ⟨va, vn, vc, g0, g1, u1, u2, u3, u4⟩ := hc9 j x hx
            have g0 := cell_later HBX.out g0
            have g1 := cell_later HBX.out g1
            have HVY := Hid.mk (At.below u3 HBY.out)
            have hji : (j : Int) < (n : Int) := by omega
            have HV := Hid.mk (At.below u3 HBX.out)
            have HV4 := Hid.mk u4
            have HV1 := Hid.mk u1
            have zX := hbx.size
            obtain ⟨U, hU⟩ : ∃ U, U = wX.alloc (.cells #[.int .i64 x.1, .slice va vn vc] 81) := ⟨_, rfl⟩
            have BU : Below wX.heap.size wX U := by rw [hU]; exact (Below.refl _ _).alloc (Nat.le_refl _) _
            have p0 : U.cell? ⟨wX.heap.size, 0, none⟩ = some (.int .i64 x.1) := by rw [hU]; exact pair0 wX _ _ _
            have p1 : U.cell? ⟨wX.heap.size, 1, none⟩ = some (.slice va vn vc) := by rw [hU]; exact pair1 wX _ _ _
            have zU := BU.size
            have HBU := Hid.mk (hbx.trans (BU.mono hbx.size))
            have HUU := Hid.mk BU
            have HRF := Hid.mk hrf
            clear hrf
            clear hc9 u1 u3 u4 hx hbx BU
            go_upto_region 11 with fail
            rw [← hU]
            clear hU g0 g1
            by_cases hxk : x.1 = (k : Int)
            · have HT2 : Hid (rowsAt (zs.take (j + 1)) k = rowsAt (zs.take j) k ++ [x.2]) := by show _ = _; rw [HTK.out, if_pos hxk]
              rw [hxk] at p0
              have o2 := owns_below ho HUU.out
              go_wp2_with (at_builtin; refine wpList_app_vals rfl (.tmp 38) (.tmp 42) 86 rfl wy.heap.size 29 k0 (.agg #[.slice none 0 0]) 1 24 Try.underlying86 hk0 hx0 hx1 hx2 rfl (by decide) (.slice s m e) m cs rfl (o2.alloc _) (some ⟨U.heap.size, 0, none⟩) 1 1 [.slice va vn vc] rfl rfl (fun ad he => by cases he; simpa using news_at U #[.slice va vn vc] 29) (by simp; rfl) (fun h => by cases h) (by unfold maxLen; omega) (by omega) (by simp; omega) ?_)
              intro s5 e5 w5 ho5 hg5 ht5
              have HRF5 : Hid (Refs wy (cs ++ [.slice va vn vc]) (rowsAt (zs.take (j + 1)) k)) := by
                show Refs _ _ _
                rw [HT2.out]
                exact HRF.out.push HV1.out u2 (HVY.out) HV4.out
              have HL5 : Hid ((rowsAt (zs.take (j + 1)) k).length = m + 1) := by show _ = _; rw [HT2.out, List.length_append, hml]; rfl
              have HB5 : Hid (Below wy.heap.size wy w5) := (HBU.out.alloc HBU.out.size _).grown hg5 (by have := HBU.out.size; simp; omega) (fun j hj => (o2.lt j hj).1)
              have HO5 := Hid.mk ho5
              clear ho5 hg5 ht5 o2 ho hml
              go_wp2
              go_roundw
              case rel => exact ⟨j + 1, m + 1, s5, e5, _, by omega, by go_num, rfl, HL5.out, by omega, HO5.out, HRF5.out, HB5.out⟩
              case measure => simp [intOf]; omega
            · have HT2 : Hid (rowsAt (zs.take (j + 1)) k = rowsAt (zs.take j) k) := by show _ = _; rw [HTK.out, if_neg hxk, List.append_nil]
              have o2 := owns_below ho HUU.out
              have HML : Hid ((rowsAt (zs.take (j + 1)) k).length = m) := by show _ = _; rw [HT2.out]; exact hml
              have HRF5 : Hid (Refs wy cs (rowsAt (zs.take (j + 1)) k)) := by show Refs _ _ _; rw [HT2.out]; exact HRF.out
              clear hml ho
              go_wp2
              go_roundw
              case rel => exact ⟨j + 1, m, s, e, cs, by omega, by go_num, rfl, HML.out, by omega, o2, HRF5.out, HBU.out⟩
              case measure => simp [intOf]; omega
          · obtain rfl : j = n := by omega
            rw [List.take_of_length_le (by have := HZ.out; omega)] at hml hrf
            have hji : ¬ (j : Int) < (j : Int) := by omega
            have hlen := rowsAt_len zs k
            have HROK : Hid (∀ z ∈ rowsAt zs k, good z = true ∧ z.length = Q) := fun z hz => by
              have h9 := HRO.out k z hz
              rw [HQ.out] at h9
              exact ⟨h9.1, by omega⟩
            have zX := hbx.size
            have HBX := Hid.mk hbx
            have HCS := Hid.mk (canTo_succ zs ts k)
            rw [HQ.out] at HCS
            obtain ⟨R, hR⟩ : ∃ R, rowsAt zs k = R := ⟨_, rfl⟩
            rw [hR] at hml hrf hlen HROK HCS
            have hR5 : R.length ≤ 5 := by have := HZ.out; omega
            have K := Hid.mk (onceEach_any Q s m e R wX hml (by omega) (by omega) HROK.out ((hrf.below hbx).atS ho))
            clear ho hrf hml hbx
            go_wp2_with fail
            refine K.out.mono ?_
            rintro e w4 ⟨⟨r3, m3, d3, cells3, rfl, ho3⟩, hb4⟩
            have HBR := Hid.mk (HBX.out.trans (hb4.mono HBX.out.size))
            have ho3' : OwnT w4 wy.heap.size w4.heap.size r3 m3 d3 (ansT (goodT (Q : Int) (ttW R)) (ttW R)) := OwnT.widen ⟨cells3, ho3⟩ (by omega) (Nat.le_refl _) (Nat.le_refl _)
            have HM3 := Hid.mk ho3'.len
            have HO3 := Hid.mk ho3'
            obtain ⟨P3, hP3⟩ : ∃ P3, ansP (goodT (Q : Int) (ttW R)) (Q : Int) = P3 := ⟨_, rfl⟩
            rw [hP3]
            have HP3 : Hid (P3 = ansP (goodT (Q : Int) (ttW R)) (Q : Int)) := hP3.symm
            obtain ⟨ok3, hok3⟩ : ∃ ok3, goodT (Q : Int) (ttW R) = ok3 := ⟨_, rfl⟩
            rw [hok3]
            clear hP3 hb4 ho3 ho3' K hok3
            obtain ⟨cells, L, H, hou⟩ := HOW.out
            have HOU := Hid.mk hou
            obtain ⟨W4, hW4⟩ : ∃ W4, W4 = w4.alloc (.cells #[.int .i64 P3, .slice r3 m3 d3] 61) := ⟨_, rfl⟩
            have hbX4 : Below w4.heap.size w4 W4 := by rw [hW4]; exact (Below.refl _ _).alloc (Nat.le_refl _) _
            have HB4 := Hid.mk hbX4
            have t0 : W4.cell? ⟨w4.heap.size, 0, none⟩ = some (.int .i64 P3) := by rw [hW4]; exact pair0 _ _ _ _
            have t1 : W4.cell? ⟨w4.heap.size, 1, none⟩ = some (.slice r3 m3 d3) := by rw [hW4]; exact pair1 _ _ _ _
            have HO4 := Hid.mk ((hou.below HBR.out).below hbX4)
            have HBW4 := Hid.mk ((HB.out.trans (HBR.out.mono HB.out.size)).trans (hbX4.mono (by have := HB.out.size; have := HBR.out.size; omega)))
            have z4 := HBR.out.size
            have zX4 := hbX4.size
            clear hou hbX4
            go_upto_region 15 with fail
            rw [← hW4]
            clear hW4
            go_wp2_with (at_builtin; refine wpList_append_lies _ rfl (.tmp 51) (.tmp 53) 27 rfl q 61 i0 (.agg #[.int .i64 0, .slice none 0 0]) 2 32 Try.underlying27 hi hz0 hz1 hz2 rfl (by decide) (.slice r k d) k cells rfl (HO4.out.outer.alloc _) ⟨W4.heap.size, 0, none⟩ 1 1 [.int .i64 P3, .slice r3 m3 d3] (by simp [Act.eval]) rfl (by simpa using news_at W4 #[.int .i64 P3, .slice r3 m3 d3] 61) (by intro u hu; simp at hu; rcases hu with rfl | rfl <;> rfl) (by decide) (by unfold maxLen; omega) (by omega) (by simp; omega) (W4.heap.size + 1) (by simp) ?_)
            intro g5 cap5 w5 hown5 hgrow5 hat5 hlt5
            have hob : ∀ j, (Value.slice r k d).ownBlock = some j → q ≤ j := fun j hj => (HO4.out.blocks j hj).1
            have hbB : Below w4.heap.size w4 (W4.alloc (.cells #[.int .i64 P3, .slice r3 m3 d3] 61)) := HB4.out.alloc HB4.out.size _
            have hpu := HOU.out.pushed (p := P3) (by omega) HBR.out HM3.out HO3.out hbB hown5 hgrow5 (by
              rcases hat5 with e | e
              · left; exact e
              · right; omega) hlt5
            have HE : Hid (canTo zs ts (k + 1) = canTo zs ts k ++ [(P3, ansT (goodT (Q : Int) (ttW R)) (ttW R))]) := by show _ = _; rw [HCS.out, HP3.out]; rfl
            rw [← HE.out] at hpu
            have HPU := Hid.mk hpu
            have z5 : W4.heap.size ≤ w5.heap.size := by have := hgrow5.size; simp at this; omega
            have HB5 : Hid (Below w1.heap.size w1 w5) := (HBW4.out.alloc HBW4.out.size _).grown hgrow5 (by have := HBW4.out.size; simp; omega) (fun j hj => by have := hob j hj; omega)
            clear hpu hob hbB hown5 hgrow5 hat5 HOU HO4 HO3
            go_wp2
            go_roundw
            case rel => exact ⟨k + 1, _, _, by omega, by go_num, rfl, ⟨_, _, _, HPU.out⟩, by omega, HB5.out⟩
            case measure => simp [intOf]; omega
      · obtain rfl : k = tn := by omega
        have hki : ¬ (k : Int) < (k : Int) := by omega
        have HTL : Hid (canTo zs ts k = cnL hs zs ts) := by show _ = _; rw [HEL.out, HTZ.out]
        rw [HTL.out] at HOW
        have e0 := blk_cell b3 0 (v := .slice none 0 0) rfl
        have f0 := blk_frozen b3 0
        have HHY := Hid.mk (At.below HHA.out HBY.out)
        clear HEL hbw
        have K := Hid.mk (cloneI_any ha hn hc hs wy HHZ.out (by omega) HHF.out HHY.out)
        go_wp2_with fail
        refine K.out.mono ?_
        rintro e w5 ⟨ra, rd, rfl, ho5, hb5⟩
        have e0 := cell_later hb5 e0
        have f0 := blk_frozen (blk_below b3 hb5) 0
        have HO5 := Hid.mk ho5
        have HU5 := Hid.mk (HOW.out.below hb5)
        have HB5 := Hid.mk (HBY.out.trans (hb5.mono HBY.out.size))
        have z5 := hb5.size
        clear ho5 hb5 K HOW
        go_wp2
        refine bodyPost_ret (v := .tuple #[.slice r k d, .agg #[.slice ra hn rd], .bool true]) (by simp [results, Try.results13, go_sem, e0]) rfl ⟨?_, HB5.out.setCell (by simp) _⟩
        rw [HG.out, HEH.out]
        refine ⟨r, k, d, ra, hn, rd, wy.heap.size, rfl, by omega, by simp [World.setCell]; omega, ?_, HHZ.out, ?_⟩
        · exact (HU5.out.setCell (.inl (show w.heap.size + 1 < q by omega)) _).widen (by omega) (Nat.le_refl _) (by simp [World.setCell]; omega)
        · exact ownsRow_setCell_below HO5.out (show w.heap.size + 1 < wy.heap.size by omega) _

end Go.Proofs.Ytipgepienagplaa

/- Contracts of the model's l1Has, l7All, l7Put. -/
namespace Go.Proofs.Ytipgepienagplaa
open Go.RowKit

set_option maxHeartbeats 1000000 in
theorem l1Has_any (a : Option Addr) (n c : Nat) (zs : List Int) (x : Int) (w : World) (hz : zs.length = n) (hn : n ≤ 9223372036854775807) (ha : At w a zs) :
    Calls Try.prog 85 #[.slice a n c, .int .i64 x] w fun e w' => e = .returned (.bool (decide (x ∈ zs))) ∧ w' = w := by
  by_cases h0 : n = 0
  · subst h0
    obtain rfl := List.eq_nil_of_length_eq_zero hz
    go_enter Try.func85, Try.ntmps85
    go_wp2
    refine wp_loop_rounds 1 ?_
    rw [rounds_succ]
    go_wp2
    go_ret
    exact ⟨rfl, rfl⟩
  · obtain ⟨b, off, rfl, hb, hc⟩ := ha.some (by omega)
    clear ha
    go_enter Try.func85, Try.ntmps85
    go_wp2
    go_loopw [9] (fun i wr => ∃ (k : Nat), k ≤ n ∧ i = .int .i64 k ∧ (¬ x ∈ zs.take k) ∧ wr = w) (fun i _ => n - (intOf i).toNat)
    case atStart => exact ⟨0, Nat.zero_le _, rfl, by simp, rfl⟩
    case round =>
      obtain ⟨k, hk, rfl, ht, rfl⟩ := hrel
      by_cases hlt : k < n
      · have hcx : wr.cell? ⟨b, off + k, none⟩ = some (.int .i64 (zs.getD k 0)) := hc k (by omega)
        have hm : zs.getD k 0 ∈ zs := by simp [List.getD, show k < zs.length by omega]
        have hnx : zs.getD k 0 ≠ x → ¬ x ∈ zs.take (k + 1) := fun h => by
          rw [take_succ_getD zs k (by omega)]
          simp only [List.mem_append, List.mem_singleton, not_or]
          exact ⟨ht, fun e => h e.symm⟩
        obtain ⟨y, hy⟩ : ∃ y, y = zs.getD k 0 := ⟨_, rfl⟩
        rw [← hy] at hcx hm hnx
        have HM := Hid.mk hm
        have HN := Hid.mk hnx
        clear hc hm hnx hy ht
        by_cases he : y = x
        · subst he
          go_wp2
          go_ret
          exact ⟨by rw [decide_eq_true HM.out]; rfl, rfl⟩
        · go_wp2
          go_roundw
          case rel => exact ⟨k + 1, by omega, by go_num, HN.out he, trivial⟩
          case measure => simp [intOf]; omega
      · rw [List.take_of_length_le (by omega)] at ht
        have HT := Hid.mk ht
        clear ht
        go_wp2
        go_ret
        exact ⟨by rw [decide_eq_false HT.out]; rfl, rfl⟩

set_option maxHeartbeats 1000000 in
theorem l7All_any (a : Option Addr) (n c : Nat) (zs : List Int) (a' : Option Addr) (n' c' : Nat) (ys : List Int) (w : World) (hz : zs.length = n) (hn : n ≤ 9223372036854775807) (ha : At w a zs) (hz' : ys.length = n') (hn' : n' ≤ 9223372036854775807) (ha' : At w a' ys) :
    Calls Try.prog 86 #[.slice a n c, .slice a' n' c'] w fun e w' => e = .returned (.bool (ys.all fun k => decide (k ∈ zs))) ∧ w' = w := by
  have HC := Hid.mk (fun x => l1Has_any a n c zs x w hz hn ha)
  clear hz hn ha
  by_cases h0 : n' = 0
  · subst h0
    obtain rfl := List.eq_nil_of_length_eq_zero hz'
    go_enter Try.func86, Try.ntmps86
    go_wp2
    refine wp_loop_rounds 1 ?_
    rw [rounds_succ]
    go_wp2
    go_ret
    exact ⟨rfl, rfl⟩
  · obtain ⟨b, off, rfl, hb, hc⟩ := ha'.some (by omega)
    clear ha'
    go_enter Try.func86, Try.ntmps86
    go_wp2
    go_loopw [9] (fun i wr => ∃ (k : Nat), k ≤ n' ∧ i = .int .i64 k ∧ (ys.all fun k => decide (k ∈ zs)) = ((ys.drop k).all fun k => decide (k ∈ zs)) ∧ wr = w) (fun i _ => n' - (intOf i).toNat)
    case atStart => exact ⟨0, Nat.zero_le _, rfl, rfl, rfl⟩
    case round =>
      obtain ⟨k, hk, rfl, ht, rfl⟩ := hrel
      by_cases hlt : k < n'
      · have hcx : wr.cell? ⟨b, off + k, none⟩ = some (.int .i64 (ys.getD k 0)) := hc k (by omega)
        have hd : ys.drop k = ys.getD k 0 :: ys.drop (k + 1) := by rw [List.drop_eq_getElem_cons (by omega)]; simp [List.getD, show k < ys.length by omega]
        rw [hd] at ht
        obtain ⟨y, hy⟩ : ∃ y, y = ys.getD k 0 := ⟨_, rfl⟩
        rw [← hy, List.all_cons] at ht
        rw [← hy] at hcx
        have HT := Hid.mk ht
        clear hc hy ht hd
        go_wp2_with fail
        refine (HC.out y).mono ?_
        rintro e w1 ⟨rfl, rfl⟩
        cases hr : decide (y ∈ zs) with
        | false =>
          go_wp2
          go_ret
          exact ⟨by rw [HT.out, hr]; rfl, rfl⟩
        | true =>
          go_wp2
          go_roundw
          case rel => exact ⟨k + 1, by omega, by go_num, by rw [HT.out, hr]; rfl, trivial⟩
          case measure => simp [intOf]; omega
      · rw [List.drop_of_length_le (by omega)] at ht
        have HT := Hid.mk ht
        clear ht
        go_wp2
        go_ret
        exact ⟨by rw [HT.out]; rfl, rfl⟩

end Go.Proofs.Ytipgepienagplaa

/- Contracts of the model's l7Put and l7Closure. -/
namespace Go.Proofs.Ytipgepienagplaa
open Go.RowKit

theorem own_cap {w : World} {base : Nat} {e : TypeId} {size : Nat} {a : Option Addr} {n c : Nat} {xs : List Value} (h : w.ownsRow base e size (.slice a n c) n xs) : n ≤ c := by
  rcases h.2 with ⟨h', h0⟩ | ⟨g, cap, cur, h', _, _, h1, _⟩
  · simp at h'; omega
  · simp at h'; omega
theorem at_take {w : World} {b off : Nat} {zs : List Int} (k : Nat) (h : At w (some ⟨b, off, none⟩) zs) : At w (some ⟨b, off, none⟩) (zs.take k) := by
  rcases h with rfl | ⟨b', off', e, hc⟩
  · exact .inl (by simp)
  · refine .inr ⟨b', off', e, fun i hi => ?_⟩
    have hi' : i < zs.length := by have := List.length_take (i := k) (l := zs); omega
    have hik : i < k := by have := List.length_take (i := k) (l := zs); omega
    rw [hc i hi']
    simp [List.getD, hik]
theorem at_drop {w : World} {b off : Nat} {zs : List Int} (k : Nat) (h : At w (some ⟨b, off, none⟩) zs) : At w (some ⟨b, off + k, none⟩) (zs.drop k) := by
  rcases h with rfl | ⟨b', off', e, hc⟩
  · exact .inl (by simp)
  · simp only [Option.some.injEq, Addr.mk.injEq, and_true] at e
    obtain ⟨rfl, rfl⟩ := e
    refine .inr ⟨b, off + k, rfl, fun i hi => ?_⟩
    have hi' : k + i < zs.length := by simp at hi; omega
    rw [Nat.add_assoc, hc (k + i) hi']
    simp [List.getD]

set_option maxRecDepth 100000 in
set_option maxHeartbeats 4000000 in
theorem l7Put_any (B : Nat) (a : Option Addr) (n c : Nat) (zs : List Int) (x : Int) (w : World) (hz : zs.length = n) (hn : n ≤ 2097152) (hB : B ≤ w.heap.size) (ho : w.ownsRow B 3 1 (.slice a n c) n (zs.map (.int .i64))) :
    Calls Try.prog 130 #[.slice a n c, .int .i64 x] w fun e w' => ∃ r m d, e = .returned (.slice r m d) ∧ (insI zs x).length = m ∧ w'.ownsRow B 3 1 (.slice r m d) m ((insI zs x).map (.int .i64)) ∧ Below w.heap.size w w' := by
  obtain ⟨i0, hi, hz0, hz1, hz2⟩ := info_parts Try.infoInt
  have hat : At w a zs := At.owned ho
  have HC := Hid.mk (l1Has_any a n c zs x w hz (by omega) hat)
  by_cases hx : x ∈ zs
  · have hd : decide (x ∈ zs) = true := decide_eq_true hx
    rw [insI_yes hx]
    rw [hd] at HC
    have HO := Hid.mk ho
    have HZ := Hid.mk hz
    clear hat ho hz hx hd
    go_enter Try.func130, Try.ntmps130
    go_wp2_with fail
    refine HC.out.mono ?_
    rintro e w1 ⟨rfl, rfl⟩
    go_wp2
    go_ret
    exact ⟨a, n, c, rfl, HZ.out, HO.out, Below.refl _ _⟩
  · have hd : decide (x ∈ zs) = false := decide_eq_false hx
    rw [insI_no hx]
    rw [hd] at HC
    rcases ho.2 with ⟨hv, h0⟩ | ⟨g, cap, cur, hv, hbg, _⟩
    · simp only [Value.slice.injEq] at hv
      obtain ⟨rfl, _, rfl⟩ := hv
      subst h0
      obtain rfl := List.eq_nil_of_length_eq_zero hz
      clear hat ho hx hd
      go_enter Try.func130, Try.ntmps130
      go_wp2_with fail
      refine HC.out.mono ?_
      rintro e w1 ⟨rfl, rfl⟩
      go_wp2_with fail
      refine wp_loop_rounds 1 ?_
      rw [rounds_succ]
      go_wp2_with (at_builtin; refine wpList_append_all rfl (.tmp 25) (.tmp 28) 22 rfl w1.heap.size 3 i0 (.int .i64 0) 8 Try.underlying22 hi hz0 hz1 hz2 rfl (.slice none 0 0) 0 [] rfl (World.ownsRow_nil _ _ _ _) none 0 0 [] rfl rfl (.inl rfl) (fun _ => rfl) (by unfold maxLen; omega) (by omega) (Nat.le_refl _) ?_)
      intro r2 d2 w2 ho2 hg2
      have B2 : Below w1.heap.size w1 w2 := (Below.refl _ _).grown hg2 (Nat.le_refl _) (fun j hj => by cases hj)
      have HO2 := Hid.mk ho2
      have z2 := B2.size
      clear ho2 hg2
      go_wp2_with (at_builtin; refine wpList_append_lies _ rfl (.tmp 30) (.tmp 32) 22 rfl w1.heap.size 3 i0 (.int .i64 0) 1 8 Try.underlying22 hi hz0 hz1 hz2 rfl (by decide) _ _ _ rfl (HO2.out.alloc _) ⟨w2.heap.size, 0, none⟩ 1 1 [.int .i64 x] rfl rfl (news_at w2 _ _) (by intro u hu; simp at hu; subst hu; rfl) (by decide) (by unfold maxLen; omega) (by omega) (by simp; omega) (w2.heap.size + 1) (by simp) ?_)
      intro g3 cap3 w3 ho3 hg3 hat3 hlt3
      have B3 : Below w1.heap.size w1 w3 := (B2.alloc z2 _).grown hg3 (by simp; omega) (fun j hj => (HO2.out.lt j hj).1)
      have HO3 := Hid.mk ho3
      have z3 := B3.size
      clear ho3 hg3 hat3 HO2
      go_wp2_with (at_builtin; refine wpList_append_all rfl (.tmp 34) (.tmp 37) 22 rfl w1.heap.size 3 i0 (.int .i64 0) 8 Try.underlying22 hi hz0 hz1 hz2 rfl _ _ _ rfl HO3.out none 0 0 [] rfl rfl (.inl rfl) (fun _ => rfl) (by unfold maxLen; omega) (by omega) z3 ?_)
      intro r4 d4 w4 ho4 hg4
      have B4 : Below w1.heap.size w1 w4 := B3.grown hg4 z3 (fun j hj => (HO3.out.lt j hj).1)
      have HO4 := Hid.mk ho4
      clear ho4 hg4 HO3
      go_wp2
      go_ret
      exact ⟨r4, 1, d4, rfl, rfl, owns_mono HO4.out hB, B4⟩
    · simp only [Value.slice.injEq, true_and] at hv
      obtain ⟨rfl, rfl⟩ := hv
      have hcap := own_cap ho
      have hcx : ∀ k, k < n → w.cell? ⟨g, k, none⟩ = some (.int .i64 (zs.getD k 0)) := fun k hk => by
        rw [ho.cellAt k (by omega)]
        simp [List.getD, show k < zs.length by omega]
      have HAT := Hid.mk hat
      have HO := Hid.mk ho
      have HZ := Hid.mk hz
      have HCX := Hid.mk hcx
      clear hat ho hx hd hcx
      go_enter Try.func130, Try.ntmps130
      go_wp2_with fail
      refine HC.out.mono ?_
      rintro e w1 ⟨rfl, rfl⟩
      go_wp2_with fail
      go_loopw [5] (fun i wr => ∃ (k : Nat), k ≤ n ∧ i = .int .i64 k ∧ (∀ j, j < k → zs.getD j 0 < x) ∧ wr = w1) (fun i _ => n - (intOf i).toNat)
      case atStart => exact ⟨0, Nat.zero_le _, rfl, fun j h => by omega, rfl⟩
      case round =>
        obtain ⟨k, hk, rfl, hle, rfl⟩ := hrel
        have HL := Hid.mk hle
        clear hle
        have stop : (k < n → ¬ zs.getD k 0 < x) → Hid (lessN x zs = k) := fun h => Hid.mk (lessN_is x zs k (by omega) HL.out (fun hk => h (by omega)))
        by_cases hlt : k < n
        · have hc := HCX.out k hlt
          obtain ⟨y, hy⟩ : ∃ y, y = zs.getD k 0 := ⟨_, rfl⟩
          have hnx : y < x → ∀ j, j < k + 1 → zs.getD j 0 < x := fun h j hj => by
            by_cases hjk : j < k
            · exact HL.out j hjk
            · obtain rfl : j = k := by omega
              rw [← hy]; exact h
          rw [← hy] at hc stop
          have HN := Hid.mk hnx
          clear hy hnx
          by_cases hyx : y < x
          · clear stop
            go_wp2
            go_roundw
            case rel => exact ⟨k + 1, by omega, by go_num, HN.out hyx, trivial⟩
            case measure => simp [intOf]; omega
          · have HS := stop (fun _ => hyx)
            clear stop
            have hkn : k ≤ n := hk
            have HTK : Hid ((zs.take k).length = k) := by show _ = _; rw [List.length_take, HZ.out]; omega
            have HDK : Hid ((zs.drop k).length = n - k) := by show _ = _; rw [List.length_drop, HZ.out]
            go_wp2_with (at_builtin; refine wpList_append_all rfl (.tmp 25) (.tmp 28) 22 rfl wr.heap.size 3 i0 (.int .i64 0) 8 Try.underlying22 hi hz0 hz1 hz2 rfl (.slice none 0 0) 0 [] rfl (World.ownsRow_nil _ _ _ _) (some ⟨g, 0, none⟩) k c (zs.take k) (by simp [Act.eval]) HTK.out (at_take k HAT.out) (fun h => by cases h) (by unfold maxLen; omega) (by omega) (Nat.le_refl _) ?_)
            intro r2 d2 w2 ho2 hg2
            have B2 : Below wr.heap.size wr w2 := (Below.refl _ _).grown hg2 (Nat.le_refl _) (fun j hj => by cases hj)
            have HO2 := Hid.mk ho2
            have z2 := B2.size
            clear ho2 hg2
            go_wp2_with (at_builtin; refine wpList_append_lies _ rfl (.tmp 30) (.tmp 32) 22 rfl wr.heap.size 3 i0 (.int .i64 0) 1 8 Try.underlying22 hi hz0 hz1 hz2 rfl (by decide) _ _ _ rfl (HO2.out.alloc _) ⟨w2.heap.size, 0, none⟩ 1 1 [.int .i64 x] rfl rfl (news_at w2 _ _) (by intro u hu; simp at hu; subst hu; rfl) (by decide) (by unfold maxLen; omega) (by omega) (by simp; omega) (w2.heap.size + 1) (by simp) ?_)
            intro g3 cap3 w3 ho3 hg3 hat3 hlt3
            have B3 : Below wr.heap.size wr w3 := (B2.alloc z2 _).grown hg3 (by simp; omega) (fun j hj => (HO2.out.lt j hj).1)
            have HO3 := Hid.mk ho3
            have z3 := B3.size
            clear ho3 hg3 hat3 HO2
            go_wp2_with (at_builtin; refine wpList_append_all rfl (.tmp 34) (.tmp 37) 22 rfl wr.heap.size 3 i0 (.int .i64 0) 8 Try.underlying22 hi hz0 hz1 hz2 rfl _ _ _ rfl HO3.out (some ⟨g, 0 + k, none⟩) (n - k) (c - k) (zs.drop k) (by simp [Act.eval]) HDK.out (at_drop k (At.below HAT.out B3)) (fun h => by cases h) (by unfold maxLen; omega) (by omega) z3 ?_)
            intro r4 d4 w4 ho4 hg4
            have B4 : Below wr.heap.size wr w4 := B3.grown hg4 z3 (fun j hj => (HO3.out.lt j hj).1)
            have HO4 := Hid.mk ho4
            clear ho4 hg4 HO3
            go_wp2
            go_ret
            refine ⟨r4, k + 1 + (n - k), d4, rfl, ?_, ?_, B4⟩
            · rw [HS.out, List.length_append, List.length_cons, HTK.out, HDK.out]; omega
            · have h9 := owns_mono HO4.out hB
              rw [HS.out, List.map_append, List.map_cons]
              simpa using h9
        · have HS := stop (fun h => absurd h hlt)
          clear stop
          by_cases hck : c = k
          · have hck' : k = c := hck.symm
            subst hck'
            have hnk : k = n := by omega
            subst hnk
            have hkn : k ≤ k := hk
            have HTK : Hid ((zs.take k).length = k) := by show _ = _; rw [List.length_take, HZ.out]; omega
            have HDK : Hid ((zs.drop k).length = 0) := by show _ = _; rw [List.length_drop, HZ.out]; omega
            go_wp2_with (at_builtin; refine wpList_append_all rfl (.tmp 25) (.tmp 28) 22 rfl wr.heap.size 3 i0 (.int .i64 0) 8 Try.underlying22 hi hz0 hz1 hz2 rfl (.slice none 0 0) 0 [] rfl (World.ownsRow_nil _ _ _ _) (some ⟨g, 0, none⟩) k k (zs.take k) (by simp [Act.eval]) HTK.out (at_take k HAT.out) (fun h => by cases h) (by unfold maxLen; omega) (by omega) (Nat.le_refl _) ?_)
            intro r2 d2 w2 ho2 hg2
            have B2 : Below wr.heap.size wr w2 := (Below.refl _ _).grown hg2 (Nat.le_refl _) (fun j hj => by cases hj)
            have HO2 := Hid.mk ho2
            have z2 := B2.size
            clear ho2 hg2
            go_wp2_with (at_builtin; refine wpList_append_lies _ rfl (.tmp 30) (.tmp 32) 22 rfl wr.heap.size 3 i0 (.int .i64 0) 1 8 Try.underlying22 hi hz0 hz1 hz2 rfl (by decide) _ _ _ rfl (HO2.out.alloc _) ⟨w2.heap.size, 0, none⟩ 1 1 [.int .i64 x] rfl rfl (news_at w2 _ _) (by intro u hu; simp at hu; subst hu; rfl) (by decide) (by unfold maxLen; omega) (by omega) (by simp; omega) (w2.heap.size + 1) (by simp) ?_)
            intro g3 cap3 w3 ho3 hg3 hat3 hlt3
            have B3 : Below wr.heap.size wr w3 := (B2.alloc z2 _).grown hg3 (by simp; omega) (fun j hj => (HO2.out.lt j hj).1)
            have HO3 := Hid.mk ho3
            have z3 := B3.size
            clear ho3 hg3 hat3 HO2
            go_wp2_with (at_builtin; refine wpList_append_all rfl (.tmp 34) (.tmp 37) 22 rfl wr.heap.size 3 i0 (.int .i64 0) 8 Try.underlying22 hi hz0 hz1 hz2 rfl _ _ _ rfl HO3.out (some ⟨g, 0, none⟩) 0 0 (zs.drop k) (by simp [Act.eval]) HDK.out (.inl (List.drop_of_length_le (by have := HZ.out; omega))) (fun h => by cases h) (by unfold maxLen; omega) (by omega) z3 ?_)
            intro r4 d4 w4 ho4 hg4
            have B4 : Below wr.heap.size wr w4 := B3.grown hg4 z3 (fun j hj => (HO3.out.lt j hj).1)
            have HO4 := Hid.mk ho4
            clear ho4 hg4 HO3
            go_wp2
            go_ret
            refine ⟨r4, k + 1, d4, rfl, ?_, ?_, B4⟩
            · rw [HS.out, List.length_append, List.length_cons, HTK.out, HDK.out]
            · have h9 := owns_mono HO4.out hB
              rw [HS.out, List.map_append, List.map_cons]
              simpa using h9
          · skip
            have hkn : k ≤ n := hk
            have HTK : Hid ((zs.take k).length = k) := by show _ = _; rw [List.length_take, HZ.out]; omega
            have HDK : Hid ((zs.drop k).length = n - k) := by show _ = _; rw [List.length_drop, HZ.out]
            go_wp2_with (at_builtin; refine wpList_append_all rfl (.tmp 25) (.tmp 28) 22 rfl wr.heap.size 3 i0 (.int .i64 0) 8 Try.underlying22 hi hz0 hz1 hz2 rfl (.slice none 0 0) 0 [] rfl (World.ownsRow_nil _ _ _ _) (some ⟨g, 0, none⟩) k c (zs.take k) (by simp [Act.eval]) HTK.out (at_take k HAT.out) (fun h => by cases h) (by unfold maxLen; omega) (by omega) (Nat.le_refl _) ?_)
            intro r2 d2 w2 ho2 hg2
            have B2 : Below wr.heap.size wr w2 := (Below.refl _ _).grown hg2 (Nat.le_refl _) (fun j hj => by cases hj)
            have HO2 := Hid.mk ho2
            have z2 := B2.size
            clear ho2 hg2
            go_wp2_with (at_builtin; refine wpList_append_lies _ rfl (.tmp 30) (.tmp 32) 22 rfl wr.heap.size 3 i0 (.int .i64 0) 1 8 Try.underlying22 hi hz0 hz1 hz2 rfl (by decide) _ _ _ rfl (HO2.out.alloc _) ⟨w2.heap.size, 0, none⟩ 1 1 [.int .i64 x] rfl rfl (news_at w2 _ _) (by intro u hu; simp at hu; subst hu; rfl) (by decide) (by unfold maxLen; omega) (by omega) (by simp; omega) (w2.heap.size + 1) (by simp) ?_)
            intro g3 cap3 w3 ho3 hg3 hat3 hlt3
            have B3 : Below wr.heap.size wr w3 := (B2.alloc z2 _).grown hg3 (by simp; omega) (fun j hj => (HO2.out.lt j hj).1)
            have HO3 := Hid.mk ho3
            have z3 := B3.size
            clear ho3 hg3 hat3 HO2
            go_wp2_with (at_builtin; refine wpList_append_all rfl (.tmp 34) (.tmp 37) 22 rfl wr.heap.size 3 i0 (.int .i64 0) 8 Try.underlying22 hi hz0 hz1 hz2 rfl _ _ _ rfl HO3.out (some ⟨g, 0 + k, none⟩) (n - k) (c - k) (zs.drop k) (by simp [Act.eval]) HDK.out (at_drop k (At.below HAT.out B3)) (fun h => by cases h) (by unfold maxLen; omega) (by omega) z3 ?_)
            intro r4 d4 w4 ho4 hg4
            have B4 : Below wr.heap.size wr w4 := B3.grown hg4 z3 (fun j hj => (HO3.out.lt j hj).1)
            have HO4 := Hid.mk ho4
            clear ho4 hg4 HO3
            go_wp2
            go_ret
            refine ⟨r4, k + 1 + (n - k), d4, rfl, ?_, ?_, B4⟩
            · rw [HS.out, List.length_append, List.length_cons, HTK.out, HDK.out]; omega
            · have h9 := owns_mono HO4.out hB
              rw [HS.out, List.map_append, List.map_cons]
              simpa using h9

end Go.Proofs.Ytipgepienagplaa
