/- Several texts of one proof, in build order: SpW, LstI, IntsR. -/
import Derived.Test.YtpnaoahlfhbbmabDoorM8
import Derived.Test.YtpnaoahlfhbbmabDoorM3

/- Contracts of the model's l8Within, l8Splits, l8Split. -/
namespace Go.Proofs.YtpnaoahlfhbbmabDoor
open Go.RowKit

theorem filter_take {p : Int → Bool} {zs : List Int} {k : Nat} (h : k < zs.length) : (zs.take (k + 1)).filter p = if p (zs.getD k 0) then (zs.take k).filter p ++ [zs.getD k 0] else (zs.take k).filter p := by
  rw [List.take_succ_eq_append_getElem h, List.filter_append]
  have e : zs.getD k 0 = zs[k] := by simp [List.getD, h]
  rw [e]
  cases hp : p zs[k] <;> simp [hp]

set_option maxRecDepth 100000 in
set_option maxHeartbeats 2000000 in
theorem l8Within_any (a : Option Addr) (n c : Nat) (zs : List Int) (oa : Option Addr) (on oc : Nat) (os : List Int) (w : World) (hz : zs.length = n) (hn : n ≤ 64) (ha : At w a zs) (ho : os.length = on) (hon : on ≤ 9223372036854775807) (hoa : At w oa os) :
    Calls Tryd.prog 17 #[.slice a n c, .slice oa on oc] w fun e w' => ∃ r m d, e = .returned (.slice r m d) ∧ (zs.filter fun k => decide (k ∈ os)).length = m ∧ w'.ownsRow w.heap.size 3 1 (.slice r m d) m ((zs.filter fun k => decide (k ∈ os)).map (.int .i64)) ∧ Below w.heap.size w w' := by
  obtain ⟨i0, hi, hz0, hz1, hz2⟩ := info_parts Tryd.infoInt
  have HZ := Hid.mk hz
  have HA := Hid.mk ha
  have HO := Hid.mk ho
  have HOA := Hid.mk hoa
  clear hz ha ho hoa
  go_enter Tryd.func17, Tryd.ntmps17
  go_wp2_with fail
  go_loopw [5, 10] (fun p i wx => ∃ (k m : Nat) (r : Option Addr) (d : Nat), k ≤ n ∧ m ≤ k ∧ i = .int .i64 k ∧ p = .slice r m d ∧ ((zs.take k).filter fun k => decide (k ∈ os)).length = m ∧ wx.ownsRow w.heap.size 3 1 (.slice r m d) m (((zs.take k).filter fun k => decide (k ∈ os)).map (.int .i64)) ∧ Below w.heap.size w wx) (fun _ i _ => n - (intOf i).toNat)
  case atStart => exact ⟨0, 0, none, 0, Nat.zero_le _, Nat.le_refl _, rfl, rfl, rfl, World.ownsRow_nil _ _ _ _, Below.refl _ _⟩
  case round =>
    obtain ⟨k, m, r, d, hk, hmk, rfl, rfl, hm, hown, hbw⟩ := hrel
    by_cases hlt : k < n
    · obtain ⟨b, off, hab, hb, hc⟩ := (At.below HA.out hbw).some (by have := HZ.out; omega)
      subst hab
      have hcx : wr.cell? ⟨b, off + k, none⟩ = some (.int .i64 (zs.getD k 0)) := hc k (by have := HZ.out; omega)
      have hft := filter_take (p := fun k => decide (k ∈ os)) (zs := zs) (k := k) (by have := HZ.out; omega)
      obtain ⟨x, hx⟩ : ∃ x, x = zs.getD k 0 := ⟨_, rfl⟩
      rw [← hx] at hcx hft
      have HFT := Hid.mk hft
      have K := Hid.mk (l1Has_any oa on oc os x wr HO.out hon (At.below HOA.out hbw))
      have hki : (k : Int) < (n : Int) := by omega
      have HOW := Hid.mk hown
      have HB := Hid.mk hbw
      have HM := Hid.mk hm
      have z := hbw.size
      clear hown hbw hm hc hft hx
      go_wp2_with fail
      refine K.out.mono ?_
      rintro e w1 ⟨rfl, rfl⟩
      by_cases hs : x ∈ os
      · rw [decide_eq_true hs]
        have HE : Hid ((zs.take (k + 1)).filter (fun k => decide (k ∈ os)) = (zs.take k).filter (fun k => decide (k ∈ os)) ++ [x]) := by show _ = _; rw [HFT.out, decide_eq_true hs]; rfl
        clear hs
        go_wp2_with (at_builtin; refine wpList_append_lies _ rfl (.tmp 17) (.tmp 19) 23 rfl w.heap.size 3 i0 (.int .i64 0) 1 8 Tryd.underlying23 hi hz0 hz1 hz2 rfl (by decide) _ _ _ rfl (HOW.out.alloc _) ⟨w1.heap.size, 0, none⟩ 1 1 [.int .i64 x] rfl rfl (news_at w1 _ _) (by intro u hu; simp at hu; subst hu; rfl) (by decide) (by unfold maxLen; omega) (by omega) (by simp; omega) (w1.heap.size + 1) (by simp) ?_)
        intro g3 cap3 w3 ho3 hg3 hat3 hlt3
        have HB3 : Hid (Below w.heap.size w w3) := (HB.out.alloc z _).grown hg3 (by simp; omega) (fun j hj => (HOW.out.lt j hj).1)
        have HO3 : Hid (w3.ownsRow w.heap.size 3 1 (.slice (some ⟨g3, 0, none⟩) (m + 1) cap3) (m + 1) (((zs.take (k + 1)).filter fun k => decide (k ∈ os)).map (.int .i64))) := by
          show World.ownsRow _ _ _ _ _ _ _
          rw [HE.out, List.map_append]; exact ho3
        clear ho3 hg3 hat3 HOW HB K
        go_wp2
        go_roundw
        case rel => exact ⟨k + 1, m + 1, _, _, by omega, by omega, by go_num, rfl, by rw [HE.out, List.length_append, HM.out]; rfl, HO3.out, HB3.out⟩
        case measure => simp [intOf]; omega
      · rw [decide_eq_false hs]
        have HE : Hid ((zs.take (k + 1)).filter (fun k => decide (k ∈ os)) = (zs.take k).filter (fun k => decide (k ∈ os))) := by show _ = _; rw [HFT.out, decide_eq_false hs]; rfl
        clear hs
        go_wp2
        go_roundw
        case rel => exact ⟨k + 1, m, r, d, by omega, by omega, by go_num, rfl, by rw [HE.out]; exact HM.out, by rw [HE.out]; exact HOW.out, HB.out⟩
        case measure => simp [intOf]; omega
    · obtain rfl : k = n := by omega
      rw [List.take_of_length_le (by have := HZ.out; omega)] at hown hm
      have hkk : ¬ (k : Int) < (k : Int) := by omega
      have HOW := Hid.mk hown
      have HM := Hid.mk hm
      clear hown hm
      go_wp2
      go_ret
      exact ⟨r, m, d, rfl, HM.out, HOW.out, hbw⟩

/-- What F tells. -/
noncomputable abbrev told (xs : List Dep) (F : Nat) : Nat := clo (dms xs) F

end Go.Proofs.YtpnaoahlfhbbmabDoor

/- Contract of the model's l8Lists. -/
namespace Go.Proofs.YtpnaoahlfhbbmabDoor
open Go.RowKit

theorem listsT_succ (p : List Int) (t : Nat) : listsT p (t + 1) = listsT p t ++ (subsL p.length t 0).map (pickL p) := by unfold listsT; rw [setsU_succ, List.map_append]
theorem subs_in_all : ∀ c : Nat, c < 7 → ∀ m : Nat, m < 7 → (subsL c m 0).all (fun l => l.all fun k => decide (0 ≤ k) && decide (k < (c : Int))) = true := by decide +kernel
theorem subs_in {c m j : Nat} {s : List Int} (hc : c ≤ 6) (hm : m ≤ 6) (h : (subsL c m 0)[j]? = some s) : ∀ k ∈ s, 0 ≤ k ∧ k < (c : Int) := fun k hk => by
  have h9 := subs_in_all c (by omega) m (by omega)
  rw [List.all_eq_true] at h9
  have := h9 s (List.mem_of_getElem? h)
  rw [List.all_eq_true] at this
  simpa using this k hk
theorem pickL_take {p s : List Int} {i : Nat} (h : i < s.length) : pickL p (s.take (i + 1)) = pickL p (s.take i) ++ [p.getD (s.getD i 0).toNat 0] := by
  unfold pickL
  rw [List.take_succ_eq_append_getElem h, List.map_append]
  simp [List.getD, h]

set_option maxRecDepth 100000 in
set_option maxHeartbeats 8000000 in
theorem l8Lists_any (pa : Option Addr) (pn pc : Nat) (ps : List Int) (w : World) (hz : ps.length = pn) (h6 : pn ≤ 6) (ha : At w pa ps) :
    Calls Tryd.prog 16 #[.slice pa pn pc] w fun e w' => ∃ r n d, e = .returned (.slice r n d) ∧ RPairs.Own w' (From w.heap.size w'.heap.size) [.slice r n d] (listsT ps (pn + 1)) ∧ Below w.heap.size w w' := by
  obtain ⟨j0, hj, hy0, hy1, hy2⟩ := info_parts Tryd.infoInt
  obtain ⟨k0, hk, hx0, hx1, hx2⟩ := info_parts Tryd.infoInts
  have HZ := Hid.mk hz
  have HA := Hid.mk ha
  clear hz ha
  go_enter Tryd.func16, Tryd.ntmps16
  go_wp2_with fail
  go_loopw [3, 4] (fun p i wx => ∃ (t n : Nat) (r : Option Addr) (d : Nat) (cells : List Value) (G : Nat → Nat → Prop), t ≤ pn + 1 ∧ i = .int .i64 t ∧ p = .slice r n d ∧ Laid RInts wx (From w.heap.size wx.heap.size) 23 r n d (listsT ps t) cells G n ∧ Below w.heap.size w wx) (fun _ i _ => pn + 1 - (intOf i).toNat)
  case atStart => exact ⟨0, 0, none, 0, [], _, Nat.zero_le _, rfl, rfl, Laid.none _ _ _ _, Below.refl _ _⟩
  case round =>
    obtain ⟨t, n, r, d, cells, G, ht, rfl, rfl, hlaid, hbw⟩ := hrel
    have hns := listsT_succ ps t
    rw [HZ.out] at hns
    have HSUCC := Hid.mk hns
    have hn64 : n ≤ 64 := by
      rw [← hlaid.len]
      have := setsU_ok_all pn (by omega) t (by omega)
      unfold listsT
      rw [List.length_map, HZ.out]; exact this
    have HLA := Hid.mk hlaid
    have HB := Hid.mk hbw
    clear hlaid hbw hns
    by_cases hlt : t ≤ pn
    · have hti : (t : Int) ≤ (pn : Int) := by omega
      have KC := Hid.mk (l7Subsets_zero pn h6 t (by omega) wr)
      have HYL := Hid.mk (subsL_ok_all pn (by omega) t (by omega) 0 (by omega)).1
      have HYR : Hid (∀ (j : Nat) (zs : List Int), (subsL pn t 0)[j]? = some zs → zs.length ≤ 6) := fun j zs h => subsL_row h6 (by omega) (by omega) h
      have HYI : Hid (∀ (j : Nat) (zs : List Int), (subsL pn t 0)[j]? = some zs → ∀ k ∈ zs, 0 ≤ k ∧ k < (pn : Int)) := fun j zs h => subs_in h6 (by omega) h
      obtain ⟨X, hX⟩ : ∃ X, listsT ps t = X := ⟨_, rfl⟩
      obtain ⟨Y, hY⟩ : ∃ Y, subsL pn t 0 = Y := ⟨_, rfl⟩
      rw [hX] at HLA HSUCC
      rw [hY] at KC HYL HYR HYI HSUCC
      clear hX hY
      go_wp2_with fail
      refine KC.out.mono ?_
      rintro e w1 ⟨r1, n1, d1, rfl, hown1, hb1⟩
      obtain ⟨q0, hq0⟩ : ∃ q, q = wr.heap.size := ⟨_, rfl⟩
      obtain ⟨q1, hq1⟩ : ∃ q, q = w1.heap.size := ⟨_, rfl⟩
      have HLA1 : Hid (Laid RInts w1 (fun b => From w.heap.size q0 b ∨ From q1 w1.heap.size b) 23 r n d X cells G n) := (HLA.out.below hb1).mono (fun b h => .inl (by rw [hq0]; exact h))
      have HB1 := Hid.mk (HB.out.trans (hb1.mono HB.out.size))
      have hl1 := (pairs_at hown1).1
      have hn1 : n1 ≤ 64 := by rw [← hl1]; exact HYL.out
      have HL1 := Hid.mk hl1
      have zq : w.heap.size ≤ q0 := by rw [hq0]; exact HB.out.size
      have zq1 : q0 ≤ q1 := by rw [hq0, hq1]; exact hb1.size
      have zq2 : q1 ≤ w1.heap.size := by omega
      rw [← hq0, ← hq1] at hown1
      have HO1 := Hid.mk hown1
      have HXN := Hid.mk HLA.out.len
      clear hown1 hb1 hl1 hq0 hq1 HLA HB KC HYL
      go_wp2_with fail
      go_loopw [3, 21] (fun p i wx => ∃ (j n : Nat) (r : Option Addr) (d : Nat) (cells : List Value) (G : Nat → Nat → Prop), j ≤ n1 ∧ i = .int .i64 j ∧ p = .slice r n d ∧ n ≤ 64 + j ∧ Laid RInts wx (fun b => From w.heap.size q0 b ∨ From q1 wx.heap.size b) 23 r n d (X ++ (Y.take j).map (pickL ps)) cells G n ∧ RPairs.Own wx (From q0 q1) [.slice r1 n1 d1] Y ∧ q1 ≤ wx.heap.size ∧ Below w.heap.size w wx) (fun _ i _ => n1 - (intOf i).toNat)
      case atStart => exact ⟨0, n, r, d, cells, G, Nat.zero_le _, rfl, rfl, by omega, by simpa using HLA1.out, HO1.out, zq2, HB1.out⟩
      case round =>
        clear HLA1 HO1 HB1 zq2 hn64 HXN
        obtain ⟨j, n, r, d, cells, G, hj1, rfl, rfl, hnn, hlaid, hown, zr, hbw⟩ := hrel
        by_cases hjlt : j < n1
        · obtain ⟨zs, hzs⟩ : ∃ zs, Y[j]? = some zs := ⟨_, List.getElem?_eq_getElem (by have := HL1.out; omega)⟩
          obtain ⟨b, off, a', m', c', rfl, hcx, hm', hm1, hax, hnx⟩ := atSl_pairK (pairs_at hown).2 hzs
          have hm6 : m' ≤ 6 := by rw [← hm']; exact HYR.out j zs hzs
          have HIN := Hid.mk (HYI.out j zs hzs)
          have HTK : Hid ((Y.take (j + 1)).map (pickL ps) = (Y.take j).map (pickL ps) ++ [pickL ps zs]) := by
            show _ = _
            obtain ⟨hh, rfl⟩ := List.getElem?_eq_some_iff.1 hzs
            rw [List.take_succ_eq_append_getElem hh, List.map_append]; rfl
          have hji : (j : Int) < (n1 : Int) := by omega
          have HM := Hid.mk hm'
          have HAX := Hid.mk hax
          have HLA := Hid.mk hlaid
          have HO := Hid.mk hown
          have HB := Hid.mk hbw
          obtain ⟨wy, rfl⟩ : ∃ x, x = wr := ⟨_, rfl⟩
          have HAP := Hid.mk (At.below HA.out hbw)
          clear hax hm' hnx hlaid hown hbw hzs
          go_wp2_with fail
          go_loopw [7, 27] (fun p i wx => ∃ (k : Nat) (r3 : Option Addr) (d3 : Nat), k ≤ m' ∧ i = .int .i64 k ∧ p = .slice r3 k d3 ∧ wx.ownsRow wy.heap.size 3 1 (.slice r3 k d3) k ((pickL ps (zs.take k)).map (.int .i64)) ∧ Below wy.heap.size wy wx) (fun _ i _ => m' - (intOf i).toNat)
          case atStart => exact ⟨0, none, 0, Nat.zero_le _, rfl, rfl, World.ownsRow_nil _ _ _ _, Below.refl _ _⟩
          case round =>
            obtain ⟨k, r3, d3, hkm, rfl, rfl, hown3, hb3⟩ := hrel
            by_cases hkl : k < m'
            · obtain ⟨b2, off2, rfl, _, hc2⟩ := (At.below HAX.out hb3).some (by have := HM.out; omega)
              have hcy : wr.cell? ⟨b2, off2 + k, none⟩ = some (.int .i64 (zs.getD k 0)) := hc2 k (by have := HM.out; omega)
              have hin := HIN.out (zs.getD k 0) (by simp [List.getD, show k < zs.length by have := HM.out; omega])
              have hpt := pickL_take (p := ps) (s := zs) (i := k) (by have := HM.out; omega)
              obtain ⟨x, hx⟩ : ∃ x : Nat, zs.getD k 0 = (x : Int) := ⟨(zs.getD k 0).toNat, by omega⟩
              rw [hx] at hcy hin hpt
              have hxp : x < pn := by omega
              have hxi : (x : Int) < (pn : Int) := by omega
              obtain ⟨b4, off4, rfl, _, hc4⟩ := (At.below HAP.out hb3).some (by have := HZ.out; omega)
              have hcz : wr.cell? ⟨b4, off4 + x, none⟩ = some (.int .i64 (ps.getD x 0)) := hc4 x (by have := HZ.out; omega)
              rw [show ((x : Nat) : Int).toNat = x by omega] at hpt
              obtain ⟨v, hv⟩ : ∃ v, ps.getD x 0 = v := ⟨_, rfl⟩
              rw [hv] at hcz hpt
              have HPT := Hid.mk hpt
              have hki : (k : Int) < (m' : Int) := by omega
              have HO3 := Hid.mk hown3
              have HB3 := Hid.mk hb3
              have z3 := hb3.size
              clear hc2 hc4 hin hpt hx hv hown3 hb3
              go_wp2_with (at_builtin; refine wpList_append_lies _ rfl (.tmp 31) (.tmp 36) 23 rfl wy.heap.size 3 j0 (.int .i64 0) 1 8 Tryd.underlying23 hj hy0 hy1 hy2 rfl (by decide) _ _ _ rfl (HO3.out.alloc _) ⟨wr.heap.size, 0, none⟩ 1 1 [.int .i64 v] rfl rfl (news_at wr _ _) (by intro u hu; simp at hu; subst hu; rfl) (by decide) (by unfold maxLen; omega) (by omega) (by simp; omega) (wr.heap.size + 1) (by simp) ?_)
              intro g5 cap5 w5 ho5 hg5 hat5 hlt5
              have HB5 : Hid (Below wy.heap.size wy w5) := (HB3.out.alloc z3 _).grown hg5 (by simp; omega) (fun j hj => (HO3.out.lt j hj).1)
              have HO5 : Hid (w5.ownsRow wy.heap.size 3 1 (.slice (some ⟨g5, 0, none⟩) (k + 1) cap5) (k + 1) ((pickL ps (zs.take (k + 1))).map (.int .i64))) := by
                show World.ownsRow _ _ _ _ _ _ _
                rw [HPT.out, List.map_append]; exact ho5
              clear ho5 hg5 hat5 HO3 HB3
              go_wp2
              go_roundw
              case rel => exact ⟨k + 1, _, _, by omega, by go_num, rfl, HO5.out, HB5.out⟩
              case measure => simp [intOf]; omega
            · obtain rfl : k = m' := by omega
              have hki : ¬ (k : Int) < (k : Int) := by omega
              rw [List.take_of_length_le (by have := HM.out; omega)] at hown3
              have HOI : Hid (RInts.Own wr (From wy.heap.size wr.heap.size) [.slice r3 k d3] (pickL ps zs)) := RInts.of_owns (by unfold pickL; rw [List.length_map]; exact HM.out) (by omega) hown3
              have hF : ∀ b, (Value.slice r n d).ownBlock = some b → w.heap.size ≤ b := fun b hb => by
                rcases HLA.out.outerF b hb with h | h
                · exact h.1
                · have := h.1; omega
              have HW : Hid (wy.ownsRow w.heap.size 23 1 (.slice r n d) n cells) := owns_base HLA.out.outer hF
              have HW4 := Hid.mk (owns_below HW.out hb3)
              have HB2 := Hid.mk hb3
              have zw := HB.out.size
              have z4 := hb3.size
              clear hown3 hb3 hF
              go_wp2_with (at_builtin; refine wpList_app_vals rfl (.tmp 39) (.tmp 41) 39 rfl w.heap.size 23 k0 (.slice none 0 0) 1 24 Tryd.underlying39 hk hx0 hx1 hx2 rfl (by decide) (.slice r n d) n cells rfl (HW4.out.alloc _) (some ⟨wr.heap.size, 0, none⟩) 1 1 [.slice r3 k d3] rfl rfl (fun ad he => by cases he; simpa using news_at wr #[.slice r3 k d3] 23) (by simp; rfl) (fun h => by cases h) (by unfold maxLen; omega) (by omega) (by simp; omega) ?_)
              intro r4 d4 w5 ho4 hg4 ht4
              have z5 : wr.heap.size < w5.heap.size := by have h9 := hg4.size; simp at h9; omega
              have BG : ∀ b, b < wr.heap.size → (Value.slice r n d).ownBlock ≠ some b → w5.heap[b]? = wr.heap[b]? := fun b hb hn => (hg4.block b (by simp; omega) (fun e => hn e.symm)).trans (Below.heap_alloc wr _ b hb)
              have hfar : ∀ b, q0 ≤ b → b < q1 → (Value.slice r n d).ownBlock ≠ some b := fun b h1 h2 e => by
                rcases HLA.out.outerF b e with h | h
                · have := h.2; omega
                · have := h.1; omega
              have hpush := HLA.out.push (F' := fun b => From w.heap.size q0 b ∨ From q1 w5.heap.size b) (fun b h => by rcases h with h | h; (have := h.2; omega); exact h.2) HB2.out HOI.out (fun b h => h) BG (owns_mono ho4 (Nat.zero_le _)) (by
                rcases ht4 with h9 | h9
                · exact .inl h9
                · refine .inr (fun b e => ?_)
                  rw [h9] at e
                  simp at e
                  omega) (by omega) (fun b h => by rcases h with h | h; exact .inl h; exact .inr ⟨h.1, by have := h.2; omega⟩) (fun b h => .inr ⟨by have := h.1; omega, by have := h.2; omega⟩) (fun b h => by
                rcases ht4 with h9 | h9
                · rw [h9] at h
                  rcases HLA.out.outerF b h with h | h
                  · exact .inl h
                  · exact .inr ⟨h.1, by have := h.2; omega⟩
                · rw [h9] at h
                  simp at h
                  exact .inr ⟨by omega, by have := (ho4.lt b (by rw [h9]; simp; omega)).2; omega⟩)
              obtain ⟨G', HL'⟩ : ∃ G', Hid (Laid RInts w5 (fun b => From w.heap.size q0 b ∨ From q1 w5.heap.size b) 23 r4 (n + 1) d4 (X ++ (Y.take (j + 1)).map (pickL ps)) (cells ++ [.slice r3 k d3]) G' (n + 1)) := by
                rw [HTK.out, ← List.append_assoc]
                exact ⟨_, Hid.mk hpush⟩
              have HO' : Hid (RPairs.Own w5 (From q0 q1) [.slice (some ⟨b, off, none⟩) n1 d1] Y) := RPairs.frame HO.out (fun b h1 h2 => (BG b (by have := h1.2; omega) (hfar b h1.1 h1.2)).trans (HB2.out.block b h2))
              have HB' : Hid (Below w.heap.size w w5) := ((HB.out.trans (HB2.out.mono HB.out.size)).alloc (by omega) _).grown hg4 (by simp; omega) (fun j hj => (HW.out.lt j hj).1)
              clear hpush BG ho4 hg4 ht4 hfar HLA HO HB HB2 HW HW4 HOI
              go_wp2
              go_roundw
              case rel => exact ⟨j + 1, n + 1, r4, d4, _, G', by omega, by go_num, rfl, by omega, HL'.out, HO'.out, by omega, HB'.out⟩
              case measure => simp [intOf]; omega
        · obtain rfl : j = n1 := by omega
          rw [List.take_of_length_le (by have := HL1.out; omega), ← HSUCC.out] at hlaid
          have HLA2 := Hid.mk (hlaid.mono (F' := From w.heap.size wr.heap.size) (fun b h => by rcases h with h | h; exact ⟨h.1, by have := h.2; omega⟩; exact ⟨by have := h.1; omega, h.2⟩))
          have hji : ¬ (j : Int) < (j : Int) := by omega
          clear hlaid hown hnn
          go_wp2
          go_roundw
          case rel => exact ⟨t + 1, n, r, d, cells, G, by omega, by go_num, rfl, HLA2.out, hbw⟩
          case measure => simp [intOf]; omega
    · obtain rfl : t = pn + 1 := by omega
      have hti : ¬ ((pn + 1 : Nat) : Int) ≤ (pn : Int) := by omega
      have HFIN : Hid (RPairs.Own wr (From w.heap.size wr.heap.size) [.slice r n d] (listsT ps (pn + 1))) := ⟨_, _, _, cells, G, rfl, HLA.out⟩
      go_wp2
      go_ret
      exact ⟨r, n, d, rfl, HFIN.out, HB.out⟩

end Go.Proofs.YtpnaoahlfhbbmabDoor

/- Lists of numbers that are answered, held as the laws marked them. -/
namespace Go.Proofs.YtpnaoahlfhbbmabDoor
open Go.RowKit

def IntsRet (e : Ending) (w' : World) (lo : Nat) (ok : Bool) (zs : List Int) : Prop := ∃ r m d, e = .returned (.tuple #[.slice r m d, .bool ok]) ∧ zs.length = m ∧ w'.ownsRow lo 3 1 (.slice r m d) m (zs.map (.int .i64))
theorem ints_at {w : World} {F : Nat → Prop} {a : Option Addr} {n c : Nat} {zs : List Int} (h : RInts.Own w F [.slice a n c] zs) : At w a zs := (RInts.at_iff.1 (RInts.toAt h)).2.2.1
theorem heldInts_rep (a : Option Addr) (n c : Nat) (zs : List Int) (m : Int) (w : World) (hz : zs.length = n) (hn : n ≤ 1048576) (h0 : 0 ≤ m) (h1 : m ≤ 268435456) (ha : At w a (mkInts m zs)) :
    Calls Tryd.prog 28 #[.slice a n c, .int .i64 m] w fun e w' => e = .returned (.int .i64 (m + n)) ∧ Below w.heap.size w w' := by
  unfold mkInts at ha
  rw [hz] at ha
  exact (heldIntS_any a n c m w hn h0 (by omega) ha).mono fun _ _ ⟨h1, h2⟩ => ⟨h1, by first | exact h2 | (rw [h2]; exact Below.refl _ _)⟩

theorem Off.toBelow {lo hi B : Nat} {a b : World} (h : Off (From lo hi) a b) (hlo : B ≤ lo) (hB : B ≤ a.heap.size) : Below B a b := ⟨h.os, h.tape, h.output, h.size, fun k hk => h.block k (by omega) (fun e => by have := e.1; omega)⟩

end Go.Proofs.YtpnaoahlfhbbmabDoor
