/- Contracts of spec.l9Start, spec.StartTableau. -/
import Derived.Test.YthliamoeplgblaaDoorStP
import Derived.Test.YthliamoeplgblaaDoorGpI
import Derived.Test.YthliamoeplgblaaDoorChV
import Derived.Test.YthliamoeplgblaaDoorCloM
import Derived.Deep.CutBlock
namespace Go.Proofs.YthliamoeplgblaaDoor
open Go.RowKit

set_option maxRecDepth 100000 in
set_option maxHeartbeats 8000000 in
theorem l9Start_any (a : Option Addr) (n c : Nat) (zss : List (List Int)) (q : Nat) (w : World) (hz : zss.length = n) (hn : n ≤ 8) (hq : q ≤ 6) (hpos : ∀ (k : Nat) (p : List Int), zss[k]? = some p → ∀ x ∈ p, 0 ≤ x) (ha : AtS w a zss) :
    Calls Tryd.prog 21 #[.slice a n c, .int .i64 (q : Nat)] w fun e w' => ∃ r d, e = .returned (.agg #[.int .i64 (q : Nat), .slice r n d]) ∧ RRows.Own w' (From w.heap.size w'.heap.size) [.slice r n d] (stTo q zss n) ∧ Below w.heap.size w w' := by
  obtain ⟨i0, hi0, hz0, hz1, hz2⟩ := info_parts Tryd.infoInt
  obtain ⟨k0, hk0, hx0, hx1, hx2⟩ := info_parts Tryd.infoRow
  obtain ⟨V, hV⟩ : ∃ V, V = w.alloc (.cells #[.int .i64 0, .slice none 0 0] 26) := ⟨_, rfl⟩
  obtain ⟨W, hW⟩ : ∃ W, W = V.alloc (.cells #[.int .i64 (q : Nat), .slice none 0 0] 26) := ⟨_, rfl⟩
  have zV : V.heap.size = w.heap.size + 1 := by rw [hV]; simp
  have B0 : Below w.heap.size w V := by rw [hV]; exact (Below.refl _ _).alloc (Nat.le_refl _) _
  have hbV : Below V.heap.size V W := by rw [hW]; exact (Below.refl _ _).alloc (Nat.le_refl _) _
  have BW := B0.trans (hbV.mono B0.size)
  have TV : Hid (TbVar W (w.heap.size + 1) (w.heap.size + 1 + 1) (q : Nat) none 0 0 (stTo q zss 0) [] (fun _ _ => False)) := by
    have h := TbVar.new V (q : Nat)
    rw [← hW, zV] at h
    exact h
  have b1 : V.heap[w.heap.size]? = some (.cells #[.int .i64 0, .slice none 0 0] 26 (0, 0)) := by rw [hV]; exact heap_alloc_new _ _
  have q1 := blk_below b1 hbV
  have HA := Hid.mk ha
  have HZ := Hid.mk hz
  have HP := Hid.mk hpos
  have hWV : W = (w.alloc (.cells #[.int .i64 0, .slice none 0 0] 26)).alloc (.cells #[.int .i64 (q : Nat), .slice none 0 0] 26) := by rw [hW, hV]
  clear ha hz hpos zV b1 hbV hW hV B0
  go_enter Tryd.func21, Tryd.ntmps21
  go_upto_region 2 with fail
  rw [← hWV]
  clear hWV
  go_wp2_with fail
  go_loopw [14] (fun j wr => ∃ (k : Nat) (r : Option Addr) (d : Nat) (cells : List Value) (G : Nat → Nat → Prop), k ≤ n ∧ j = .int .i64 k ∧ TbVar wr (w.heap.size + 1) (w.heap.size + 1 + 1) (q : Nat) r k d (stTo q zss k) cells G ∧ Below (w.heap.size + 1) W wr) (fun j _ => n - (intOf j).toNat)
  case atStart => exact ⟨0, none, 0, [], _, Nat.zero_le _, rfl, TV.out, Below.refl _ _⟩
  case round =>
    clear TV
    obtain ⟨k, r, d, cells, G, hk, rfl, hT, hbw⟩ := hrel
    obtain ⟨wY, rfl⟩ : ∃ x, x = wr := ⟨_, rfl⟩
    have zr : w.heap.size + 1 + 1 ≤ wY.heap.size := by have := hT.size; omega
    have Bw : Below w.heap.size w wY := BW.trans (hbw.mono (by omega))
    have q3 : wY.heap[w.heap.size]? = some (.cells #[.int .i64 0, .slice none 0 0] 26 (0, 0)) := (hbw.block _ (by omega)).trans q1
    by_cases hlt : k < n
    · obtain ⟨p, hy⟩ : ∃ p, zss[k]? = some p := ⟨_, List.getElem?_eq_getElem (by have := HZ.out; omega)⟩
      obtain ⟨b, off, a', c', rfl, hcx, hpl, hat⟩ := atS_row (HA.out.below Bw) hy
      obtain ⟨m, hm⟩ : ∃ m, p.length = m := ⟨_, rfl⟩
      rw [hm] at hcx hpl
      have hki : (k : Int) < (n : Int) := by omega
      obtain ⟨T, hTT⟩ : ∃ T, mk p = T := ⟨_, rfl⟩
      have HTK : Hid (stTo q zss (k + 1) = stTo q zss k ++ [stRow q T k]) := by show _ = _; rw [stTo_succ hy, hTT]
      have HBIT : Hid (∀ i : Nat, decide ((i : Int) ∈ p) = T.testBit i) := fun i => by
        have h := mk_bit p (HP.out k p hy) i
        rw [hTT] at h
        cases hb : T.testBit i with
        | true => exact decide_eq_true (h.1 hb)
        | false => exact decide_eq_false (fun h9 => by rw [h.2 h9] at hb; cases hb)
      have KH : Hid (∀ (x : Int) w', Below wY.heap.size wY w' → Calls Tryd.prog 42 #[.slice a' m c', .int .i64 x] w' fun e w'' => e = .returned (.bool (decide (x ∈ p))) ∧ w'' = w') := fun x w' h => l1Has_any a' m c' p x w' hm hpl (hat.below h)
      have t1 := hT.cell1
      have HT := Hid.mk hT
      have HB := Hid.mk hbw
      obtain ⟨U, hU⟩ : ∃ U, U = wY.alloc (.cells #[.slice none 0 0] 47) := ⟨_, rfl⟩
      have V0 : Hid (RowVar U wY.heap.size 47 (wY.heap.size + 1) 3 none 0 0 ((stRow q T k).take 0)) := by
        show RowVar _ _ _ _ _ _ _ _ _
        rw [hU]; exact RowVar.new rfl (Nat.lt_succ_self _)
      have hbU : Below wY.heap.size wY U := by rw [hU]; exact (Below.refl _ _).alloc (Nat.le_refl _) _
      clear hy hat hm hT hbw q3 Bw hTT hpl
      go_upto_region 6 with fail
      rw [← hU]
      clear hU hcx
      go_wp2_with fail
      go_loopw [9] (fun j wx => ∃ (k3 : Nat) (r3 : Option Addr) (d3 : Nat), k3 ≤ q ∧ j = .int .i64 k3 ∧ RowVar wx wY.heap.size 47 (wY.heap.size + 1) 3 r3 k3 d3 ((stRow q T k).take k3) ∧ Below wY.heap.size wY wx) (fun j _ => q - (intOf j).toNat)
      case atStart => exact ⟨0, none, 0, Nat.zero_le _, rfl, V0.out, hbU⟩
      case round =>
        clear V0 hbU
        obtain ⟨k3, r3, d3, hk3, rfl, hv, hbx⟩ := hrel
        obtain ⟨wx, rfl⟩ : ∃ x, x = wr := ⟨_, rfl⟩
        have HBX := Hid.mk hbx
        have zx := hbx.size
        have hcr := hv.cell
        have hfr := hv.frozen
        have zR : wY.heap.size < wx.heap.size := World.block_lt_of_cell? _ _ hcr
        by_cases hl3 : k3 < q
        · have hk3i : (k3 : Int) < (q : Int) := by omega
          have KC := Hid.mk (KH.out (k3 : Int) wx hbx)
          rw [HBIT.out k3] at KC
          have hta := stRow_take (q := q) (T := T) (i := k) hl3
          clear hbx
          cases hb : T.testBit k3 with
          | true =>
            rw [hb] at KC hta
            simp only [if_true] at hta
            have HTA := Hid.mk hta
            clear hta hb
            go_wp2_with fail
            refine KC.out.mono ?_
            rintro e w2 ⟨rfl, hw2⟩
            obtain rfl := hw2.symm
            have HO := Hid.mk (hv.own.alloc (.cells #[.int .i64 0] 3))
            have HN := Hid.mk (news_at wx #[.int .i64 0] 3)
            have HVR := Hid.mk hv
            go_wp2_with (at_builtin; refine wpList_append_lies _ rfl (.tmp 29) (.tmp 30) 43 rfl (wY.heap.size + 1) 3 i0 (.int .i64 0) 1 8 Tryd.underlying43 hi0 hz0 hz1 hz2 rfl (by decide) (.slice r3 k3 d3) k3 _ rfl HO.out ⟨wx.heap.size, 0, none⟩ 1 1 [.int .i64 0] rfl rfl HN.out (by simp; rfl) (by decide) (by unfold maxLen; omega) (by omega) (by simp; omega) (wx.heap.size + 1) (by simp) ?_; intro g8 cap8 w8 hown8 hgrow8 _ _; have t8 := (HVR.out.pushed hown8 hgrow8).1; have t9 := (HVR.out.pushed hown8 hgrow8).2.1)
            obtain ⟨_, _, hv1⟩ := HVR.out.pushed hown8 hgrow8
            have HB8 := Hid.mk (HVR.out.pushed_below (v := .slice (some ⟨g8, 0, none⟩) (k3 + 1) cap8) hgrow8 HBX.out (Nat.le_refl _))
            rw [← HTA.out] at hv1
            have HV8 := Hid.mk hv1
            clear hv1 hown8 hgrow8 hv HVR HO HN t8 t9 hcr hfr
            go_wp2
            go_roundw
            case rel => exact ⟨k3 + 1, _, _, by omega, by go_num, HV8.out, HB8.out⟩
            case measure => simp [intOf]; omega
          | false =>
            rw [hb] at KC hta
            simp only [Bool.false_eq_true, if_false] at hta
            obtain ⟨X, hX⟩ : ∃ X : Int, X = ((k * 6 + k3 + 1 : Nat) : Int) := ⟨_, rfl⟩
            rw [← hX] at hta
            have HTA := Hid.mk hta
            have hw1 : IntKind.i64.wrap ((k : Int) * 6) = (k : Int) * 6 := IntWalk.i64_in _ (by omega)
            have hw2' : IntKind.i64.wrap ((k : Int) * 6 + (k3 : Int)) = (k : Int) * 6 + (k3 : Int) := IntWalk.i64_in _ (by omega)
            have hw3 : (k : Int) * 6 + (k3 : Int) + 1 = X := by rw [hX]; push_cast; omega
            clear hta hb hX
            go_wp2_with fail
            refine KC.out.mono ?_
            rintro e w2 ⟨rfl, hw2⟩
            obtain rfl := hw2.symm
            have HO := Hid.mk (hv.own.alloc (.cells #[.int .i64 X] 3))
            have HN := Hid.mk (news_at wx #[.int .i64 X] 3)
            have HVR := Hid.mk hv
            go_wp2_with (at_builtin; refine wpList_append_lies _ rfl (.tmp 34) (.tmp 40) 43 rfl (wY.heap.size + 1) 3 i0 (.int .i64 0) 1 8 Tryd.underlying43 hi0 hz0 hz1 hz2 rfl (by decide) (.slice r3 k3 d3) k3 _ rfl HO.out ⟨wx.heap.size, 0, none⟩ 1 1 [.int .i64 X] rfl rfl HN.out (by simp; rfl) (by decide) (by unfold maxLen; omega) (by omega) (by simp; omega) (wx.heap.size + 1) (by simp) ?_; intro g8 cap8 w8 hown8 hgrow8 _ _; have t8 := (HVR.out.pushed hown8 hgrow8).1; have t9 := (HVR.out.pushed hown8 hgrow8).2.1)
            obtain ⟨_, _, hv1⟩ := HVR.out.pushed hown8 hgrow8
            have HB8 := Hid.mk (HVR.out.pushed_below (v := .slice (some ⟨g8, 0, none⟩) (k3 + 1) cap8) hgrow8 HBX.out (Nat.le_refl _))
            rw [← HTA.out] at hv1
            have HV8 := Hid.mk hv1
            clear hv1 hown8 hgrow8 hv HVR HO HN t8 t9 hcr hfr
            go_wp2
            go_roundw
            case rel => exact ⟨k3 + 1, _, _, by omega, by go_num, HV8.out, HB8.out⟩
            case measure => simp [intOf]; omega
        · obtain rfl : k3 = q := by omega
          rw [List.take_of_length_le (by rw [stRow_len]; exact Nat.le_refl _)] at hv
          have HOI : Hid (RInts.Own wx (From wY.heap.size wx.heap.size) [.slice r3 k3 d3] (stRow k3 T k)) := RInts.mono (RInts.of_owns (stRow_len k3 T k) (by omega) hv.own) (fun b h => ⟨by have := h.1; omega, h.2⟩)
          have T2 := HT.out.below hbx
          have g1 := T2.cell1
          have HW2 := Hid.mk T2.owns
          have z2 : w.heap.size + 1 + 1 ≤ wx.heap.size := by omega
          clear T2 hbx hv
          go_wp2_with (at_builtin; refine wpList_app_vals rfl (.tmp 44) (.tmp 46) 24 rfl (w.heap.size + 1 + 1) 47 k0 (.agg #[.slice none 0 0]) 1 24 Tryd.underlying24 hk0 hx0 hx1 hx2 rfl (by decide) (.slice r k d) k cells rfl (HW2.out.alloc _) (some ⟨wx.heap.size, 0, none⟩) 1 1 [.slice r3 k3 d3] rfl rfl (fun ad he => by cases he; simpa using news_at wx #[.slice r3 k3 d3] 47) (by simp; rfl) (fun h => by cases h) (by unfold maxLen; omega) (by omega) (by simp; omega) ?_; intro r4 d4 w6 ho4 hg4 ht4; have x1 := (HT.out.at6 HBX.out hg4).1; have x2 := (HT.out.at6 HBX.out hg4).2)
          obtain ⟨G', hT'⟩ := HT.out.pushed zr HBX.out HOI.out ho4 hg4 ht4 (by omega)
          have hB' := HT.out.pushed_below (B := w.heap.size + 1) (Nat.le_refl _) zr HB.out HBX.out hg4 (.slice r4 (k + 1) d4)
          rw [← HTK.out] at hT'
          have HT' := Hid.mk hT'
          have HB' := Hid.mk hB'
          clear hT' hB' ho4 hg4 ht4 x1 x2 HT HBX HOI HW2 HB
          go_wp2
          go_roundw
          case rel => exact ⟨k + 1, r4, d4, _, G', by omega, by go_num, HT'.out, HB'.out⟩
          case measure => simp [intOf]; omega
    · obtain rfl : k = n := by omega
      have g0 := hT.cell0
      have g1 := hT.cell1
      have e0 := blk_cell q3 0 (v := .int .i64 0) rfl
      have e1 := blk_cell q3 1 (v := .slice none 0 0) rfl
      have f0 := blk_frozen q3 0
      have f1 := blk_frozen q3 1
      have HO := Hid.mk (hT.own)
      clear hT hbw q1 q3
      go_wp2
      refine bodyPost_ret (v := .agg #[.int .i64 (q : Nat), .slice r k d]) (by simp [results, Tryd.results21, go_sem, e0, e1]) rfl ⟨r, d, rfl, ?_, ?_⟩
      · refine RRows.mono (RRows.ownOff (RRows.ownOff HO.out (Off.set (F := From 0 (w.heap.size + 1)) (a := ⟨w.heap.size, 0, none⟩) ⟨by simp, by show w.heap.size < w.heap.size + 1; omega⟩ _) (fun b h h' => by have := h.1; have := h'.2; omega)) (Off.set (F := From 0 (w.heap.size + 1)) (a := ⟨w.heap.size, 1, none⟩) ⟨by simp, by show w.heap.size < w.heap.size + 1; omega⟩ _) (fun b h h' => by have := h.1; have := h'.2; omega)) (fun b h => ⟨by have := h.1; omega, by have := h.2; simp only [World.setCell, Array.size_modify]; exact this⟩)
      · exact (Bw.setCell (Nat.le_refl _) _).setCell (Nat.le_refl _) _

set_option maxRecDepth 100000 in
set_option maxHeartbeats 4000000 in
theorem specStartTableau (a : Option Addr) (n c : Nat) (zss : List (List Int)) (C : Int) (w : World) (hz : zss.length = n) (hn : n ≤ 1048576) (ht : tot zss n ≤ 1048576) (ha : AtS w a zss) :
    Calls Tryd.prog 6 #[.slice a n c, .int .i64 C] w fun e w' => TblRet e w' w.heap.size (gpB zss C) (stC zss C) (stL zss C) ∧ Below w.heap.size w w' := by
  obtain ⟨V, hV⟩ : ∃ V, V = w.alloc (.cells #[.int .i64 0, .slice none 0 0] 26) := ⟨_, rfl⟩
  have B0 : Below w.heap.size w V := by rw [hV]; exact (Below.refl _ _).alloc (Nat.le_refl _) _
  have zV : w.heap.size < V.heap.size := by rw [hV]; simp
  have b1 : V.heap[w.heap.size]? = some (.cells #[.int .i64 0, .slice none 0 0] 26 (0, 0)) := by rw [hV]; exact heap_alloc_new _ _
  have K1 := Hid.mk (specGoodParts a n c zss C V hz hn ht (ha.below B0))
  have HA := Hid.mk (ha.below B0)
  have HZ := Hid.mk hz
  clear ha hz
  cases hg : gpB zss C with
  | false =>
    have HG := Hid.mk hg
    unfold stC stL
    rw [HG.out]
    clear hg
    go_enter Tryd.func6, Tryd.ntmps6
    go_wp2_with fail
    rw [← hV]
    clear hV
    refine K1.out.mono ?_
    rintro e w1 ⟨rfl, hb1⟩
    rw [HG.out]
    have B1 := B0.trans (hb1.mono B0.size)
    have q := blk_below b1 hb1
    have e0 := blk_cell q 0 (v := .int .i64 0) rfl
    have e1 := blk_cell q 1 (v := .slice none 0 0) rfl
    have f0 := blk_frozen q 0
    have f1 := blk_frozen q 1
    go_wp2
    refine bodyPost_ret (v := .tuple #[.agg #[.int .i64 0, .slice none 0 0], .bool false]) (by simp [results, Tryd.results6, go_sem, e0, e1]) rfl ⟨⟨none, 0, 0, rfl, RRows.nil _ _⟩, ?_⟩
    exact (B1.setCell (Nat.le_refl _) _).setCell (Nat.le_refl _) _
  | true =>
    have h9 := gpB_C hg
    obtain ⟨q, hq⟩ : ∃ q : Nat, C = (q : Int) := ⟨C.toNat, by omega⟩
    have hq6 : 1 ≤ q ∧ q ≤ 6 := by omega
    have hn8 : 1 ≤ n ∧ n ≤ 8 := by have := HZ.out; omega
    have HPT : Hid (∀ (k : Nat) (p : List Int), zss[k]? = some p → ∀ x ∈ p, 0 ≤ x) := fun k p hk => ris_nonneg (gpB_part hg hk)
    have HG := Hid.mk hg
    unfold stC stL
    rw [HG.out]
    simp only [if_true]
    rw [hq]
    rw [hq] at HG K1
    rw [show ((q : Int)).toNat = q by omega]
    rw [show zss.length = n from HZ.out]
    clear hg h9
    subst hq
    go_enter Tryd.func6, Tryd.ntmps6
    go_wp2_with fail
    rw [← hV]
    clear hV
    refine K1.out.mono ?_
    rintro e w1 ⟨rfl, hb1⟩
    rw [HG.out]
    have B1 := B0.trans (hb1.mono B0.size)
    have q1 := blk_below b1 hb1
    have z1 := hb1.size
    have KL := Hid.mk (l9Start_any a n c zss q w1 HZ.out hn8.2 hq6.2 HPT.out (HA.out.below hb1))
    clear hb1 b1
    go_wp2_with fail
    refine KL.out.mono ?_
    rintro e w3 ⟨r, d, rfl, hO, hb3⟩
    have q2 := blk_below q1 hb3
    have B2 := B1.trans (hb3.mono B1.size)
    have e0 := blk_cell q2 0 (v := .int .i64 0) rfl
    have e1 := blk_cell q2 1 (v := .slice none 0 0) rfl
    have f0 := blk_frozen q2 0
    have f1 := blk_frozen q2 1
    have HO := Hid.mk hO
    clear hO q1 q2 hb3
    go_wp2
    refine bodyPost_ret (v := .tuple #[.agg #[.int .i64 (q : Nat), .slice r n d], .bool true]) (by simp [results, Tryd.results6, go_sem, e0, e1]) rfl ⟨⟨r, n, d, rfl, ?_⟩, ?_⟩
    · refine RRows.mono (RRows.ownOff (RRows.ownOff HO.out (Off.set (F := From 0 w1.heap.size) (a := ⟨w.heap.size, 0, none⟩) ⟨by simp, by show w.heap.size < w1.heap.size; omega⟩ _) (fun b h h' => by have := h.1; have := h'.2; omega)) (Off.set (F := From 0 w1.heap.size) (a := ⟨w.heap.size, 1, none⟩) ⟨by simp, by show w.heap.size < w1.heap.size; omega⟩ _) (fun b h h' => by have := h.1; have := h'.2; omega)) (fun b h => ⟨by have := h.1; omega, by have := h.2; simp only [World.setCell, Array.size_modify]; exact this⟩)
    · exact (B2.setCell (Nat.le_refl _) _).setCell (Nat.le_refl _) _

theorem st_small (parts : List (List Int)) (C : Int) : SmR (stL parts C) (stL parts C).length := by
  unfold stL
  cases hg : gpB parts C with
  | false => exact ⟨rfl, by simp [tot]⟩
  | true =>
    simp only [if_true]
    have h := stTo_good hg
    refine ⟨rfl, ?_⟩
    have h1 : ∀ k, k ≤ (stTo C.toNat parts parts.length).length → tot (stTo C.toNat parts parts.length) k ≤ k * 6 := by
      intro k
      induction k with
      | zero => intro _; simp [tot_zero]
      | succ k ih =>
        intro hk
        have := ih (by omega)
        rw [tot_succ _ k (by omega)]
        have h2 : ((stTo C.toNat parts parts.length).getD k []).length ≤ 6 := tbB_sum h _ (by rw [show (stTo C.toNat parts parts.length).getD k [] = (stTo C.toNat parts parts.length)[k] by simp [List.getD, show k < (stTo C.toNat parts parts.length).length by omega]]; exact List.getElem_mem _)
        omega
    have h3 := h1 _ (Nat.le_refl _)
    have h4 := (tbB_n h).2
    omega

end Go.Proofs.YthliamoeplgblaaDoor
