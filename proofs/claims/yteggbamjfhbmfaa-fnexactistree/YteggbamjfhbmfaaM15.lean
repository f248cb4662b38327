/- Contracts of impl.areTree and impl.IsTree. -/
import Derived.Test.YteggbamjfhbmfaaM13
import Derived.Test.YteggbamjfhbmfaaM14
import Derived.Deep.CutBlock
namespace Go.Proofs.Yteggbamjfhbmfaa
open Go.RowKit

theorem itA_take {es : List TEar} {k : Nat} {x : TEar} (h : es[k]? = some x) : itA (es.take (k + 1)) = itA (es.take k) ++ [x.1] := by
  obtain ⟨hk, rfl⟩ := List.getElem?_eq_some_iff.1 h
  unfold itA
  rw [List.take_succ_eq_append_getElem hk, List.map_append]; rfl
theorem itA_mem {es : List TEar} {k : Nat} {x : TEar} (h : es[k]? = some x) : x.1 ∈ itA es := List.mem_map.2 ⟨x, List.mem_of_getElem? h, rfl⟩
theorem itA_drop (es : List TEar) (k : Nat) : (itA es).drop k = itA (es.drop k) := by simp [itA, List.map_drop]

set_option maxRecDepth 100000 in
set_option maxHeartbeats 4000000 in
theorem areTree_any (ea : Option Addr) (en ec : Nat) (es : List TEar) (xa : Option Addr) (xn xc : Nat) (E : List (List Int)) (w : World) (hez : es.length = en) (heb : en ≤ 1048576) (hec : en ≤ ec) (hea : At w ea (flEar es)) (hxz : E.length = xn) (hx1 : 1 ≤ xn) (hxb : xn ≤ 6) (hxa : AtSl RInts w xa E) :
    Calls Try.prog 50 #[.slice ea en ec, .slice xa xn xc] w fun e w' => e = .returned (.bool (treB E es)) ∧ Below w.heap.size w w' := by
  obtain ⟨j0, hj0, hy0, hy1, hy2⟩ := info_parts Try.infoInt
  have HZ := Hid.mk hez
  have HA := Hid.mk hea
  have HX := Hid.mk hxz
  have HXA := Hid.mk hxa
  clear hez hea hxz hxa
  go_enter Try.func50, Try.ntmps50
  go_wp2_with fail
  go_loopw [5, 14] (fun p i wr => ∃ (k : Nat) (r : Option Addr) (d : Nat), k ≤ en ∧ i = .int .i64 k ∧ p = .slice r k d ∧ wr.ownsRow w.heap.size 3 1 (.slice r k d) k ((itA (es.take k)).map (.int .i64)) ∧ Below w.heap.size w wr) (fun _ i _ => en - (intOf i).toNat)
  case atStart => exact ⟨0, none, 0, Nat.zero_le _, rfl, rfl, World.ownsRow_nil _ _ _ _, Below.refl _ _⟩
  case round =>
    obtain ⟨k, r, d, hk, rfl, rfl, ho, hbw⟩ := hrel
    obtain ⟨wY, rfl⟩ : ∃ x, x = wr := ⟨_, rfl⟩
    by_cases hlt : k < en
    · obtain ⟨⟨x0, x1⟩, hx⟩ : ∃ x, es[k]? = some x := ⟨_, List.getElem?_eq_getElem (by have := HZ.out; omega)⟩
      obtain ⟨b, off, rfl, hb, hc⟩ := flEar_some HA.out (by have := HZ.out; omega)
      obtain ⟨c0, c1⟩ := hc k _ hx
      have c0 := (hbw.cell hb).trans c0
      have c1 := (hbw.cell hb).trans c1
      have hki : (k : Int) < (en : Int) := by omega
      obtain ⟨V, hV⟩ : ∃ V, V = wY.alloc (.cells #[.int .i64 x0, .int .i64 x1] 71) := ⟨_, rfl⟩
      have hbV : Below wY.heap.size wY V := by rw [hV]; exact (Below.refl _ _).alloc (Nat.le_refl _) _
      have v0 : V.cell? ⟨wY.heap.size, 0, none⟩ = some (.int .i64 x0) := by rw [hV]; simp
      have HO := Hid.mk (owns_below ho hbV)
      have HTK := Hid.mk (itA_take hx)
      have HB := Hid.mk (hbw.trans (hbV.mono hbw.size))
      have zw : w.heap.size ≤ V.heap.size := HB.out.size
      clear hc hx ho hbw hbV
      simp only at c0 c1
      go_upto_region 5 with fail
      rw [← hV]
      clear hV c0 c1
      go_wp2_with (at_builtin; refine wpList_app_vals rfl (.tmp 18) (.tmp 21) 22 rfl w.heap.size 3 j0 (.int .i64 0) 1 8 Try.underlying22 hj0 hy0 hy1 hy2 rfl (by decide) (.slice r k d) k ((itA (es.take k)).map (.int .i64)) rfl (HO.out.alloc _) (some ⟨V.heap.size, 0, none⟩) 1 1 [.int .i64 x0] rfl rfl (fun ad he => by cases he; simpa using news_at V #[.int .i64 x0] 3) (by simp; rfl) (fun h => by cases h) (by unfold maxLen; omega) (by omega) (by simp; omega) ?_)
      intro r5 d5 w5 ho5 hg5 ht5
      have HB5 : Hid (Below w.heap.size w w5) := (HB.out.alloc zw _).grown hg5 (by simp; omega) (fun j hj => (HO.out.lt j hj).1)
      have HO5 : Hid (w5.ownsRow w.heap.size 3 1 (.slice r5 (k + 1) d5) (k + 1) ((itA (es.take (k + 1))).map (.int .i64))) := by
        show World.ownsRow _ _ _ _ _ _ _
        rw [HTK.out, List.map_append]; exact ho5
      clear ho5 hg5 ht5 HO HB
      go_wp2
      go_roundw
      case rel => exact ⟨k + 1, r5, d5, by omega, by go_num, rfl, HO5.out, HB5.out⟩
      case measure => simp [intOf]; omega
    · obtain rfl : k = en := by omega
      have hki : ¬ (k : Int) < (k : Int) := by omega
      rw [List.take_of_length_le (by have := HZ.out; omega)] at ho
      have hlA : (itA es).length = k := by simp [itA]; exact HZ.out
      have KE := Hid.mk (eachOnce_any r k d (itA es) xn wY hlA heb (by omega) (At.owned ho))
      have HCAP := Hid.mk (own_cap ho)
      have HAT := Hid.mk (At.owned ho)
      have HB := Hid.mk hbw
      have HLA := Hid.mk hlA
      clear ho hbw hlA
      go_wp2_with fail
      refine KE.out.mono ?_
      rintro e w2 ⟨rfl, hb2⟩
      have HB2 := Hid.mk (HB.out.trans (hb2.mono HB.out.size))
      have HAT2 := Hid.mk (At.below HAT.out hb2)
      clear hb2 KE HB HAT
      cases he : eachB (itA es) xn with
      | false =>
        have HV : Hid (treB E es = false) := by show _ = _; unfold treB; rw [HX.out, he]; rfl
        go_wp2
        go_ret
        exact ⟨by rw [HV.out]; rfl, HB2.out⟩
      | true =>
      have hp := eachB_iff.1 he
      have htb := each_tbl hp
      have hlen : k = xn := by have := hp.length_eq; rw [upN_len, HLA.out] at this; exact this
      have HV : Hid (treB E es = hngs E es) := by show _ = _; unfold treB; rw [HX.out, he]; rfl
      have HTB := Hid.mk htb
      clear he hp htb
      obtain ⟨m, hm⟩ : ∃ m : Nat, xn = m + 1 := ⟨xn - 1, by omega⟩
      subst hm
      subst hlen
      have hwm : IntKind.i64.wrap (((m + 1 : Nat) : Int) - 1) = (m : Int) := by rw [IntWalk.i64_in _ (by omega)]; omega
      have hmc : m ≤ ec := by omega
      have hm6 : m ≤ 5 := by omega
      obtain ⟨b, off, rfl, hb, hc⟩ := flEar_some HA.out (by have := HZ.out; omega)
      have HC := Hid.mk hc
      have HBB := Hid.mk hb
      clear hc hb HA
      go_wp2
      go_loopw [36] (fun i wr => ∃ (k : Nat), k ≤ m ∧ i = .int .i64 k ∧ hngs E es = hngs E (es.drop k) ∧ Below w2.heap.size w2 wr) (fun i _ => m - (intOf i).toNat)
      case atStart => exact ⟨0, Nat.zero_le _, rfl, rfl, Below.refl _ _⟩
      case round =>
        obtain ⟨k, hk, rfl, hh, hbw⟩ := hrel
        have HBW := Hid.mk hbw
        by_cases hkm : k < m
        · obtain ⟨⟨x0, x1⟩, hx⟩ : ∃ x, es[k]? = some x := ⟨_, List.getElem?_eq_getElem (by have := HZ.out; omega)⟩
          obtain ⟨c0, c1⟩ := HC.out k _ hx
          have c0 := ((HB2.out.trans (hbw.mono HB2.out.size)).cell HBB.out).trans c0
          have c1 := ((HB2.out.trans (hbw.mono HB2.out.size)).cell HBB.out).trans c1
          rw [hngs_at E hx (by have := HZ.out; omega)] at hh
          simp only at c0 c1 hh
          have hki : (k : Int) < (m : Int) := by omega
          obtain ⟨rb, roff, rfl, _, _⟩ := HAT2.out.some (by have := HLA.out; omega)
          have hxr := HTB.out.lt x0 (itA_mem hx)
          have hdl : ((itA es).drop k).length = m + 1 - k := by rw [List.length_drop, HLA.out]
          have KH : Hid (∀ w' : World, Below wr.heap.size wr w' → Calls Try.prog 81 #[.agg #[.slice xa (m + 1) xc, .slice (some ⟨rb, roff + k, none⟩) (m + 1 - k) (d - k)], .int .i64 x0, .int .i64 x1] w' fun e w'' => e = .returned (.bool (hangB E (itA (es.drop k)) x0 x1)) ∧ Below w'.heap.size w' w'') := fun w' hw' => by
            rw [← itA_drop]
            have hBB := (HB2.out.trans (HBW.out.mono HB2.out.size)).trans (hw'.mono (HB2.out.trans (HBW.out.mono HB2.out.size)).size)
            exact mayHang_any xa (m + 1) xc E (some ⟨rb, roff + k, none⟩) (m + 1 - k) (d - k) ((itA es).drop k) x0 x1 w' HX.out (by omega) (AtSl.below HXA.out hBB) hdl (by omega) (at_drop k ((At.below HAT2.out HBW.out).below hw')) (fun o ho => by have := HTB.out.lt o (List.mem_of_mem_drop ho); have := HX.out; omega) hxr.1 (by omega)
          have HH := Hid.mk hh
          have hkd : k ≤ d := by have := HCAP.out; omega
          have hkl : k ≤ m + 1 := by omega
          obtain ⟨V, hV⟩ : ∃ V, V = wr.alloc (.cells #[.int .i64 x0, .int .i64 x1] 71) := ⟨_, rfl⟩
          have hbV : Below wr.heap.size wr V := by rw [hV]; exact (Below.refl _ _).alloc (Nat.le_refl _) _
          have v0 : V.cell? ⟨wr.heap.size, 0, none⟩ = some (.int .i64 x0) := by rw [hV]; simp
          have v1 : V.cell? ⟨wr.heap.size, 1, none⟩ = some (.int .i64 x1) := by rw [hV]; simp
          clear hh hbw hx hdl hxr
          go_upto_region 13 with fail
          rw [← hV]
          clear hV c0 c1
          have hkd' : k < d := by have := HCAP.out; omega
          have hdk : ¬ d = k := by omega
          have hdk' : ¬ k = d := by omega
          obtain ⟨U, hU⟩ : ∃ U, U = V.alloc (.cells #[.slice xa (m + 1) xc, .slice (some ⟨rb, roff + k, none⟩) (m + 1 - k) (d - k)] 103) := ⟨_, rfl⟩
          have hbU : Below V.heap.size V U := by rw [hU]; exact (Below.refl _ _).alloc (Nat.le_refl _) _
          have n0 : U.cell? ⟨V.heap.size, 0, none⟩ = some (.slice xa (m + 1) xc) := by rw [hU]; simp
          have n1 : U.cell? ⟨V.heap.size, 1, none⟩ = some (.slice (some ⟨rb, roff + k, none⟩) (m + 1 - k) (d - k)) := by rw [hU]; simp
          have u0 := cell_later hbU v0
          have u1 := cell_later hbU v1
          have hbVU := hbV.trans (hbU.mono hbV.size)
          have KU := Hid.mk (KH.out U hbVU)
          have HBU := Hid.mk hbVU
          clear KH hbV hbU hbVU v0 v1
          go_upto_region 14 with fail
          rw [← hU]
          clear hU
          go_wp2_with fail
          refine KU.out.mono ?_
          rintro e w3 ⟨rfl, hb3⟩
          have HB3 := Hid.mk (HBW.out.trans ((HBU.out.trans (hb3.mono HBU.out.size)).mono HBW.out.size))
          clear hb3 KU HBU HBW n0 n1 u0 u1
          cases hr : hangB E (itA (es.drop k)) x0 x1 with
          | false =>
            go_wp2
            go_ret
            exact ⟨by rw [HV.out, HH.out, hr]; rfl, HB2.out.trans (HB3.out.mono HB2.out.size)⟩
          | true =>
            go_wp2
            go_roundw
            case rel => exact ⟨k + 1, by omega, by go_num, by rw [HH.out, hr]; rfl, HB3.out⟩
            case measure => simp [intOf]; omega
        · obtain rfl : k = m := by omega
          have hki : ¬ (k : Int) < (k : Int) := by omega
          obtain ⟨⟨x0, x1⟩, hx⟩ : ∃ x, es[k]? = some x := ⟨_, List.getElem?_eq_getElem (by have := HZ.out; omega)⟩
          obtain ⟨c0, c1⟩ := HC.out k _ hx
          have c1 := ((HB2.out.trans (hbw.mono HB2.out.size)).cell HBB.out).trans c1
          rw [hngs_last E hx (by have := HZ.out; omega)] at hh
          simp only at c1 hh
          have HF : Hid (treB E es = decide (x1 = -1)) := by show _ = _; rw [HV.out, hh]
          clear hh hbw hx c0
          by_cases e1 : x1 = -1
          · subst e1
            have e1' : ((-1 : Int) == -1) = true := rfl
            go_wp2
            go_ret
            exact ⟨by rw [HF.out]; rfl, HB2.out.trans (HBW.out.mono HB2.out.size)⟩
          · have e1' : (x1 == -1) = false := beq_eq_false_iff_ne.2 e1
            go_wp2
            go_ret
            exact ⟨by rw [HF.out, decide_eq_false e1]; rfl, HB2.out.trans (HBW.out.mono HB2.out.size)⟩

def itB (hs : List Int) (zs : List Atm) (es : List TEar) (ts : List Int) : Bool := gqB hs zs ts && treB (edges zs) es

set_option maxRecDepth 100000 in
set_option maxHeartbeats 4000000 in
theorem implIsTree (ha : Option Addr) (hn hc : Nat) (hs : List Int) (a : Option Addr) (n c : Nat) (zs : List Atm) (ea : Option Addr) (en ec : Nat) (es : List TEar) (ta : Option Addr) (tn tc : Nat) (ts : List Int) (w : World) (hh : hs.length = hn) (hhb : hn ≤ 9223372036854775807) (hat : At w ha hs) (hz : zs.length = n) (hb : n ≤ 9223372036854775807) (haz : AtQ w a zs) (hez : es.length = en) (heb : en ≤ 1048576) (hec : en ≤ ec) (hea : At w ea (flEar es)) (htz : ts.length = tn) (htb : tn ≤ 9223372036854775807) (hta : At w ta ts) :
    Calls Try.prog 24 #[.agg #[.slice ha hn hc, .slice a n c], .slice ea en ec, .slice ta tn tc] w fun e w' => e = .returned (.tuple #[.bool (itB hs zs es ts), .bool (gqB hs zs ts)]) ∧ Below w.heap.size w w' := by
  obtain ⟨W, hW⟩ : ∃ W, W = w.alloc (.cells #[.slice ha hn hc, .slice a n c] 32) := ⟨_, rfl⟩
  have B0 : Below w.heap.size w W := by rw [hW]; exact (Below.refl _ _).alloc (Nat.le_refl _) _
  have q0 : W.cell? ⟨w.heap.size, 0, none⟩ = some (.slice ha hn hc) := by rw [hW]; exact pair0 w _ _ _
  have q1 : W.cell? ⟨w.heap.size, 1, none⟩ = some (.slice a n c) := by rw [hW]; exact pair1 w _ _ _
  have HZ := Hid.mk hz
  have HEZ := Hid.mk hez
  have HEA := Hid.mk (At.below hea B0)
  have HC := Hid.mk (implEdgesOf ha hn hc hs a n c zs ta tn tc ts W hh hhb (At.below hat B0) hz hb (AtSl.below haz B0) htz htb (At.below hta B0))
  clear hh hat hz haz htz hta hez hea
  go_enter Try.func24, Try.ntmps24
  go_upto_region 1 with fail
  rw [← hW]
  clear hW
  go_wp2_with fail
  refine HC.out.mono ?_
  rintro e w1 ⟨⟨r1, m1, d1, rfl, ho1⟩, B1⟩
  have BW := Hid.mk (B0.trans (B1.mono B0.size))
  have HEA1 := Hid.mk (At.below HEA.out B1)
  clear HC HEA B1
  cases hg : gqB hs zs ts with
  | false =>
    clear ho1
    have HV : Hid (itB hs zs es ts = false) := by show _ = _; unfold itB; rw [hg]; rfl
    have HG := Hid.mk hg
    clear hg
    go_wp2
    exact bodyPost_ret (v := .tuple #[.bool false, .bool false]) (by simp [results, Try.results24, go_sem]) rfl ⟨by rw [HV.out, HG.out], BW.out⟩
  | true =>
    rw [edL_yes hg] at ho1
    obtain ⟨hl1, hat1⟩ := pairs_at ho1
    rw [edges_len, HZ.out] at hl1
    subst hl1
    have h15 : 1 ≤ n ∧ n ≤ 5 := by have := gq_some hg; have := (gq_ok hg).1; have := HZ.out; omega
    have K := Hid.mk (areTree_any ea en ec es r1 n d1 (edges zs) w1 HEZ.out heb hec HEA1.out (by rw [edges_len]; exact HZ.out) h15.1 (by omega) hat1)
    have HV : Hid (itB hs zs es ts = treB (edges zs) es) := by show _ = _; unfold itB; rw [hg]; rfl
    obtain ⟨F, hF⟩ : ∃ F, treB (edges zs) es = F := ⟨_, rfl⟩
    rw [hF] at K HV
    have HG := Hid.mk hg
    clear ho1 hat1 hg hF
    go_wp2_with fail
    refine K.out.mono ?_
    rintro e w2 ⟨rfl, hb2⟩
    have HB := Hid.mk (BW.out.trans (hb2.mono BW.out.size))
    clear hb2 K
    go_wp2
    exact bodyPost_ret (v := .tuple #[.bool F, .bool true]) (by simp [results, Try.results24, go_sem]) rfl ⟨by rw [HV.out, HG.out], HB.out⟩

end Go.Proofs.Yteggbamjfhbmfaa
