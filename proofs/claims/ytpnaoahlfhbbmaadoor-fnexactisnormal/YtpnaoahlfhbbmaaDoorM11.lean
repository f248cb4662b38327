/- Several texts of one proof, in build order: LstI, NrmS, DepH, RepD, Blk. -/
import Derived.Test.YtpnaoahlfhbbmaaDoorM10
import Derived.Test.YtpnaoahlfhbbmaaDoorM8
import Derived.Test.YtpnaoahlfhbbmaaDoorM3

/- Contract of the model's l8Lists. -/
namespace Go.Proofs.YtpnaoahlfhbbmaaDoor
open Go.RowKit

theorem listsT_succ (p : List Int) (t : Nat) : listsT p (t + 1) = listsT p t ++ (subsL p.length t 0).map (pickL p) := by unfold listsT; rw [setsU_succ, List.map_append]
theorem subs_in_all : ∀ c : Nat, c < 7 → ∀ m : Nat, m < 7 → (subsL c m 0).all (fun l => l.all fun k => decide (0 ≤ k) && decide (k < (c : Int))) = true := by decide +kernel
theorem subs_in {c m j : Nat} {s : List Int} (hc : c ≤ 6) (hm : m ≤ 6) (h : (subsL c m 0)[j]? = some s) : ∀ k ∈ s, 0 ≤ k ∧ k < (c : Int) := fun k hk => by
  have h9 := subs_in_all c (by omega) m (by omega)
  rw [List.all_eq_true] at h9
  have := h9 s (List.mem_of_getElem? h)
  rw [List.all_eq_true] at this
  simpa using this k hk
theorem pickL_take {p s : List Int} {i : Nat} (h : i < s.length) : pickL p (s.take (i + 1)) = pickL p (s.take i) ++ [p.getD (s.getD i 0).toNat 0] := by
  unfold pickL
  rw [List.take_succ_eq_append_getElem h, List.map_append]
  simp [List.getD, h]

set_option maxRecDepth 100000 in
set_option maxHeartbeats 8000000 in
theorem l8Lists_any (pa : Option Addr) (pn pc : Nat) (ps : List Int) (w : World) (hz : ps.length = pn) (h6 : pn ≤ 6) (ha : At w pa ps) :
    Calls Tryd.prog 48 #[.slice pa pn pc] w fun e w' => ∃ r n d, e = .returned (.slice r n d) ∧ RPairs.Own w' (From w.heap.size w'.heap.size) [.slice r n d] (listsT ps (pn + 1)) ∧ Below w.heap.size w w' := by
  obtain ⟨j0, hj, hy0, hy1, hy2⟩ := info_parts Tryd.infoInt
  obtain ⟨k0, hk, hx0, hx1, hx2⟩ := info_parts Tryd.infoInts
  have HZ := Hid.mk hz
  have HA := Hid.mk ha
  clear hz ha
  go_enter Tryd.func48, Tryd.ntmps48
  go_wp2_with fail
  go_loopw [3, 4] (fun p i wx => ∃ (t n : Nat) (r : Option Addr) (d : Nat) (cells : List Value) (G : Nat → Nat → Prop), t ≤ pn + 1 ∧ i = .int .i64 t ∧ p = .slice r n d ∧ Laid RInts wx (From w.heap.size wx.heap.size) 23 r n d (listsT ps t) cells G n ∧ Below w.heap.size w wx) (fun _ i _ => pn + 1 - (intOf i).toNat)
  case atStart => exact ⟨0, 0, none, 0, [], _, Nat.zero_le _, rfl, rfl, Laid.none _ _ _ _, Below.refl _ _⟩
  case round =>
    obtain ⟨t, n, r, d, cells, G, ht, rfl, rfl, hlaid, hbw⟩ := hrel
    have hns := listsT_succ ps t
    rw [HZ.out] at hns
    have HSUCC := Hid.mk hns
    have hn64 : n ≤ 64 := by
      rw [← hlaid.len]
      have := setsU_ok_all pn (by omega) t (by omega)
      unfold listsT
      rw [List.length_map, HZ.out]; exact this
    have HLA := Hid.mk hlaid
    have HB := Hid.mk hbw
    clear hlaid hbw hns
    by_cases hlt : t ≤ pn
    · have hti : (t : Int) ≤ (pn : Int) := by omega
      have KC := Hid.mk (l7Subsets_zero pn h6 t (by omega) wr)
      have HYL := Hid.mk (subsL_ok_all pn (by omega) t (by omega) 0 (by omega)).1
      have HYR : Hid (∀ (j : Nat) (zs : List Int), (subsL pn t 0)[j]? = some zs → zs.length ≤ 6) := fun j zs h => subsL_row h6 (by omega) (by omega) h
      have HYI : Hid (∀ (j : Nat) (zs : List Int), (subsL pn t 0)[j]? = some zs → ∀ k ∈ zs, 0 ≤ k ∧ k < (pn : Int)) := fun j zs h => subs_in h6 (by omega) h
      obtain ⟨X, hX⟩ : ∃ X, listsT ps t = X := ⟨_, rfl⟩
      obtain ⟨Y, hY⟩ : ∃ Y, subsL pn t 0 = Y := ⟨_, rfl⟩
      rw [hX] at HLA HSUCC
      rw [hY] at KC HYL HYR HYI HSUCC
      clear hX hY
      go_wp2_with fail
      refine KC.out.mono ?_
      rintro e w1 ⟨r1, n1, d1, rfl, hown1, hb1⟩
      obtain ⟨q0, hq0⟩ : ∃ q, q = wr.heap.size := ⟨_, rfl⟩
      obtain ⟨q1, hq1⟩ : ∃ q, q = w1.heap.size := ⟨_, rfl⟩
      have HLA1 : Hid (Laid RInts w1 (fun b => From w.heap.size q0 b ∨ From q1 w1.heap.size b) 23 r n d X cells G n) := (HLA.out.below hb1).mono (fun b h => .inl (by rw [hq0]; exact h))
      have HB1 := Hid.mk (HB.out.trans (hb1.mono HB.out.size))
      have hl1 := (pairs_at hown1).1
      have hn1 : n1 ≤ 64 := by rw [← hl1]; exact HYL.out
      have HL1 := Hid.mk hl1
      have zq : w.heap.size ≤ q0 := by rw [hq0]; exact HB.out.size
      have zq1 : q0 ≤ q1 := by rw [hq0, hq1]; exact hb1.size
      have zq2 : q1 ≤ w1.heap.size := by omega
      rw [← hq0, ← hq1] at hown1
      have HO1 := Hid.mk hown1
      have HXN := Hid.mk HLA.out.len
      clear hown1 hb1 hl1 hq0 hq1 HLA HB KC HYL
      go_wp2_with fail
      go_loopw [3, 21] (fun p i wx => ∃ (j n : Nat) (r : Option Addr) (d : Nat) (cells : List Value) (G : Nat → Nat → Prop), j ≤ n1 ∧ i = .int .i64 j ∧ p = .slice r n d ∧ n ≤ 64 + j ∧ Laid RInts wx (fun b => From w.heap.size q0 b ∨ From q1 wx.heap.size b) 23 r n d (X ++ (Y.take j).map (pickL ps)) cells G n ∧ RPairs.Own wx (From q0 q1) [.slice r1 n1 d1] Y ∧ q1 ≤ wx.heap.size ∧ Below w.heap.size w wx) (fun _ i _ => n1 - (intOf i).toNat)
      case atStart => exact ⟨0, n, r, d, cells, G, Nat.zero_le _, rfl, rfl, by omega, by simpa using HLA1.out, HO1.out, zq2, HB1.out⟩
      case round =>
        clear HLA1 HO1 HB1 zq2 hn64 HXN
        obtain ⟨j, n, r, d, cells, G, hj1, rfl, rfl, hnn, hlaid, hown, zr, hbw⟩ := hrel
        by_cases hjlt : j < n1
        · obtain ⟨zs, hzs⟩ : ∃ zs, Y[j]? = some zs := ⟨_, List.getElem?_eq_getElem (by have := HL1.out; omega)⟩
          obtain ⟨b, off, a', m', c', rfl, hcx, hm', hm1, hax, hnx⟩ := atSl_pairK (pairs_at hown).2 hzs
          have hm6 : m' ≤ 6 := by rw [← hm']; exact HYR.out j zs hzs
          have HIN := Hid.mk (HYI.out j zs hzs)
          have HTK : Hid ((Y.take (j + 1)).map (pickL ps) = (Y.take j).map (pickL ps) ++ [pickL ps zs]) := by
            show _ = _
            obtain ⟨hh, rfl⟩ := List.getElem?_eq_some_iff.1 hzs
            rw [List.take_succ_eq_append_getElem hh, List.map_append]; rfl
          have hji : (j : Int) < (n1 : Int) := by omega
          have HM := Hid.mk hm'
          have HAX := Hid.mk hax
          have HLA := Hid.mk hlaid
          have HO := Hid.mk hown
          have HB := Hid.mk hbw
          obtain ⟨wy, rfl⟩ : ∃ x, x = wr := ⟨_, rfl⟩
          have HAP := Hid.mk (At.below HA.out hbw)
          clear hax hm' hnx hlaid hown hbw hzs
          go_wp2_with fail
          go_loopw [7, 27] (fun p i wx => ∃ (k : Nat) (r3 : Option Addr) (d3 : Nat), k ≤ m' ∧ i = .int .i64 k ∧ p = .slice r3 k d3 ∧ wx.ownsRow wy.heap.size 3 1 (.slice r3 k d3) k ((pickL ps (zs.take k)).map (.int .i64)) ∧ Below wy.heap.size wy wx) (fun _ i _ => m' - (intOf i).toNat)
          case atStart => exact ⟨0, none, 0, Nat.zero_le _, rfl, rfl, World.ownsRow_nil _ _ _ _, Below.refl _ _⟩
          case round =>
            obtain ⟨k, r3, d3, hkm, rfl, rfl, hown3, hb3⟩ := hrel
            by_cases hkl : k < m'
            · obtain ⟨b2, off2, rfl, _, hc2⟩ := (At.below HAX.out hb3).some (by have := HM.out; omega)
              have hcy : wr.cell? ⟨b2, off2 + k, none⟩ = some (.int .i64 (zs.getD k 0)) := hc2 k (by have := HM.out; omega)
              have hin := HIN.out (zs.getD k 0) (by simp [List.getD, show k < zs.length by have := HM.out; omega])
              have hpt := pickL_take (p := ps) (s := zs) (i := k) (by have := HM.out; omega)
              obtain ⟨x, hx⟩ : ∃ x : Nat, zs.getD k 0 = (x : Int) := ⟨(zs.getD k 0).toNat, by omega⟩
              rw [hx] at hcy hin hpt
              have hxp : x < pn := by omega
              have hxi : (x : Int) < (pn : Int) := by omega
              obtain ⟨b4, off4, rfl, _, hc4⟩ := (At.below HAP.out hb3).some (by have := HZ.out; omega)
              have hcz : wr.cell? ⟨b4, off4 + x, none⟩ = some (.int .i64 (ps.getD x 0)) := hc4 x (by have := HZ.out; omega)
              rw [show ((x : Nat) : Int).toNat = x by omega] at hpt
              obtain ⟨v, hv⟩ : ∃ v, ps.getD x 0 = v := ⟨_, rfl⟩
              rw [hv] at hcz hpt
              have HPT := Hid.mk hpt
              have hki : (k : Int) < (m' : Int) := by omega
              have HO3 := Hid.mk hown3
              have HB3 := Hid.mk hb3
              have z3 := hb3.size
              clear hc2 hc4 hin hpt hx hv hown3 hb3
              go_wp2_with (at_builtin; refine wpList_append_lies _ rfl (.tmp 31) (.tmp 36) 23 rfl wy.heap.size 3 j0 (.int .i64 0) 1 8 Tryd.underlying23 hj hy0 hy1 hy2 rfl (by decide) _ _ _ rfl (HO3.out.alloc _) ⟨wr.heap.size, 0, none⟩ 1 1 [.int .i64 v] rfl rfl (news_at wr _ _) (by intro u hu; simp at hu; subst hu; rfl) (by decide) (by unfold maxLen; omega) (by omega) (by simp; omega) (wr.heap.size + 1) (by simp) ?_)
              intro g5 cap5 w5 ho5 hg5 hat5 hlt5
              have HB5 : Hid (Below wy.heap.size wy w5) := (HB3.out.alloc z3 _).grown hg5 (by simp; omega) (fun j hj => (HO3.out.lt j hj).1)
              have HO5 : Hid (w5.ownsRow wy.heap.size 3 1 (.slice (some ⟨g5, 0, none⟩) (k + 1) cap5) (k + 1) ((pickL ps (zs.take (k + 1))).map (.int .i64))) := by
                show World.ownsRow _ _ _ _ _ _ _
                rw [HPT.out, List.map_append]; exact ho5
              clear ho5 hg5 hat5 HO3 HB3
              go_wp2
              go_roundw
              case rel => exact ⟨k + 1, _, _, by omega, by go_num, rfl, HO5.out, HB5.out⟩
              case measure => simp [intOf]; omega
            · obtain rfl : k = m' := by omega
              have hki : ¬ (k : Int) < (k : Int) := by omega
              rw [List.take_of_length_le (by have := HM.out; omega)] at hown3
              have HOI : Hid (RInts.Own wr (From wy.heap.size wr.heap.size) [.slice r3 k d3] (pickL ps zs)) := RInts.of_owns (by unfold pickL; rw [List.length_map]; exact HM.out) (by omega) hown3
              have hF : ∀ b, (Value.slice r n d).ownBlock = some b → w.heap.size ≤ b := fun b hb => by
                rcases HLA.out.outerF b hb with h | h
                · exact h.1
                · have := h.1; omega
              have HW : Hid (wy.ownsRow w.heap.size 23 1 (.slice r n d) n cells) := owns_base HLA.out.outer hF
              have HW4 := Hid.mk (owns_below HW.out hb3)
              have HB2 := Hid.mk hb3
              have zw := HB.out.size
              have z4 := hb3.size
              clear hown3 hb3 hF
              go_wp2_with (at_builtin; refine wpList_app_vals rfl (.tmp 39) (.tmp 41) 33 rfl w.heap.size 23 k0 (.slice none 0 0) 1 24 Tryd.underlying33 hk hx0 hx1 hx2 rfl (by decide) (.slice r n d) n cells rfl (HW4.out.alloc _) (some ⟨wr.heap.size, 0, none⟩) 1 1 [.slice r3 k d3] rfl rfl (fun ad he => by cases he; simpa using news_at wr #[.slice r3 k d3] 23) (by simp; rfl) (fun h => by cases h) (by unfold maxLen; omega) (by omega) (by simp; omega) ?_)
              intro r4 d4 w5 ho4 hg4 ht4
              have z5 : wr.heap.size < w5.heap.size := by have h9 := hg4.size; simp at h9; omega
              have BG : ∀ b, b < wr.heap.size → (Value.slice r n d).ownBlock ≠ some b → w5.heap[b]? = wr.heap[b]? := fun b hb hn => (hg4.block b (by simp; omega) (fun e => hn e.symm)).trans (Below.heap_alloc wr _ b hb)
              have hfar : ∀ b, q0 ≤ b → b < q1 → (Value.slice r n d).ownBlock ≠ some b := fun b h1 h2 e => by
                rcases HLA.out.outerF b e with h | h
                · have := h.2; omega
                · have := h.1; omega
              have hpush := HLA.out.push (F' := fun b => From w.heap.size q0 b ∨ From q1 w5.heap.size b) (fun b h => by rcases h with h | h; (have := h.2; omega); exact h.2) HB2.out HOI.out (fun b h => h) BG (owns_mono ho4 (Nat.zero_le _)) (by
                rcases ht4 with h9 | h9
                · exact .inl h9
                · refine .inr (fun b e => ?_)
                  rw [h9] at e
                  simp at e
                  omega) (by omega) (fun b h => by rcases h with h | h; exact .inl h; exact .inr ⟨h.1, by have := h.2; omega⟩) (fun b h => .inr ⟨by have := h.1; omega, by have := h.2; omega⟩) (fun b h => by
                rcases ht4 with h9 | h9
                · rw [h9] at h
                  rcases HLA.out.outerF b h with h | h
                  · exact .inl h
                  · exact .inr ⟨h.1, by have := h.2; omega⟩
                · rw [h9] at h
                  simp at h
                  exact .inr ⟨by omega, by have := (ho4.lt b (by rw [h9]; simp; omega)).2; omega⟩)
              obtain ⟨G', HL'⟩ : ∃ G', Hid (Laid RInts w5 (fun b => From w.heap.size q0 b ∨ From q1 w5.heap.size b) 23 r4 (n + 1) d4 (X ++ (Y.take (j + 1)).map (pickL ps)) (cells ++ [.slice r3 k d3]) G' (n + 1)) := by
                rw [HTK.out, ← List.append_assoc]
                exact ⟨_, Hid.mk hpush⟩
              have HO' : Hid (RPairs.Own w5 (From q0 q1) [.slice (some ⟨b, off, none⟩) n1 d1] Y) := RPairs.frame HO.out (fun b h1 h2 => (BG b (by have := h1.2; omega) (hfar b h1.1 h1.2)).trans (HB2.out.block b h2))
              have HB' : Hid (Below w.heap.size w w5) := ((HB.out.trans (HB2.out.mono HB.out.size)).alloc (by omega) _).grown hg4 (by simp; omega) (fun j hj => (HW.out.lt j hj).1)
              clear hpush BG ho4 hg4 ht4 hfar HLA HO HB HB2 HW HW4 HOI
              go_wp2
              go_roundw
              case rel => exact ⟨j + 1, n + 1, r4, d4, _, G', by omega, by go_num, rfl, by omega, HL'.out, HO'.out, by omega, HB'.out⟩
              case measure => simp [intOf]; omega
        · obtain rfl : j = n1 := by omega
          rw [List.take_of_length_le (by have := HL1.out; omega), ← HSUCC.out] at hlaid
          have HLA2 := Hid.mk (hlaid.mono (F' := From w.heap.size wr.heap.size) (fun b h => by rcases h with h | h; exact ⟨h.1, by have := h.2; omega⟩; exact ⟨by have := h.1; omega, h.2⟩))
          have hji : ¬ (j : Int) < (j : Int) := by omega
          clear hlaid hown hnn
          go_wp2
          go_roundw
          case rel => exact ⟨t + 1, n, r, d, cells, G, by omega, by go_num, rfl, HLA2.out, hbw⟩
          case measure => simp [intOf]; omega
    · obtain rfl : t = pn + 1 := by omega
      have hti : ¬ ((pn + 1 : Nat) : Int) ≤ (pn : Int) := by omega
      have HFIN : Hid (RPairs.Own wr (From w.heap.size wr.heap.size) [.slice r n d] (listsT ps (pn + 1))) := ⟨_, _, _, cells, G, rfl, HLA.out⟩
      go_wp2
      go_ret
      exact ⟨r, n, d, rfl, HFIN.out, HB.out⟩

end Go.Proofs.YtpnaoahlfhbbmaaDoor

/- Contracts of the model's l8Normal and IsNormal. -/
namespace Go.Proofs.YtpnaoahlfhbbmaaDoor
open Go.RowKit

set_option maxRecDepth 100000 in
set_option maxHeartbeats 4000000 in
theorem l8Normal_any (a : Option Addr) (n c : Nat) (xs : List Dep) (pa : Option Addr) (pn pc : Nat) (ps : List Int) (w : World) (hz : xs.length = n) (hn : n ≤ 1048576) (hs : Tolds xs) (ha : AtD w a xs) (hp : Told ps) (hpn : ps.length = pn) (hpa : At w pa ps) :
    Calls Tryd.prog 25 #[.slice a n c, .slice pa pn pc] w fun e w' => e = .returned (.bool (!fsO (dms xs) (mk ps))) ∧ Below w.heap.size w w' := by
  have hp6 : pn ≤ 6 := by rw [← hpn]; exact hp.len
  have K := Hid.mk (l8Lists_any pa pn pc ps w hpn hp6 hpa)
  rw [lists_ord hp hpn] at K
  have HZ := Hid.mk hz
  have HS := Hid.mk hs
  have HA := Hid.mk ha
  have HP := Hid.mk hp
  have HPN := Hid.mk hpn
  have HPA := Hid.mk hpa
  have hP64 := hp.lt
  clear hz hs ha hp hpn hpa
  go_enter Tryd.func25, Tryd.ntmps25
  go_wp2_with fail
  refine K.out.mono ?_
  rintro e w1 ⟨r, m, d, rfl, ho, hb1⟩
  obtain ⟨hm, _⟩ := pairs_at ho
  rw [List.length_map] at hm
  have hm64 : m ≤ 64 := by rw [← hm]; exact ordP_len_all _ hP64
  have HM := Hid.mk hm
  have HO := Hid.mk ho
  have HB1 := Hid.mk hb1
  clear hm ho hb1 K
  go_wp2_with fail
  go_loopw [10] (fun i wx => ∃ (k : Nat), k ≤ m ∧ i = .int .i64 k ∧ fsp (dms xs) (mk ps) = ((ordP (mk ps)).drop k).find? (spl (dms xs) (mk ps)) ∧ Below w1.heap.size w1 wx) (fun i _ => m - (intOf i).toNat)
  case atStart => exact ⟨0, Nat.zero_le _, rfl, rfl, Below.refl _ _⟩
  case round =>
    obtain ⟨k, hk, rfl, hf, hbw⟩ := hrel
    by_cases hlt : k < m
    · obtain ⟨F, hF⟩ : ∃ F, (ordP (mk ps))[k]? = some F := ⟨_, List.getElem?_eq_getElem (by have := HM.out; omega)⟩
      obtain ⟨b, off, a', m', c', rfl, hcx, hm', hm1, hax, hnx⟩ := atSl_pairK (pairs_at (RPairs.ownBelow HO.out hbw)).2 (k := k) (zs := bl F) (by rw [List.getElem?_map, hF]; rfl)
      obtain ⟨hF64, hFP⟩ := ordP_mem (List.mem_of_getElem? hF)
      rw [find_drop hF] at hf
      have HF := Hid.mk hf
      have hki : (k : Int) < (m : Int) := by omega
      have hB := HB1.out.trans (hbw.mono HB1.out.size)
      have K := Hid.mk (l8Splits_any a n c xs pa pn pc ps a' m' c' (bl F) wr HZ.out hn HS.out (AtSl.below HA.out hB) HP.out HPN.out (At.below HPA.out hB) (told_bl hF64) hm' hax hnx (by rw [mk_blP F hF64]; exact hFP))
      rw [mk_blP F hF64] at K
      have HB := Hid.mk hbw
      have HBW := Hid.mk hB
      clear hf hbw hF hB hax hm' hnx
      go_wp2_with fail
      refine K.out.mono ?_
      rintro e w2 ⟨rfl, _, hb2⟩
      have HB2 := Hid.mk (HB.out.trans (hb2.mono HB.out.size))
      have HBW2 := Hid.mk (HBW.out.trans (hb2.mono HBW.out.size))
      clear hb2 K HB HBW
      cases hs : spOk (told xs F) (mk ps) F with
      | false =>
        have HF2 : Hid (fsp (dms xs) (mk ps) = ((ordP (mk ps)).drop (k + 1)).find? (spl (dms xs) (mk ps))) := by
          show _ = _
          rw [HF.out, if_neg (by unfold spl; rw [hs]; simp)]
        go_wp2
        go_roundw
        case rel => exact ⟨k + 1, by omega, by go_num, HF2.out, HB2.out⟩
        case measure => simp [intOf]; omega
      | true =>
        have HF2 : Hid (fsO (dms xs) (mk ps) = true) := by
          show _ = _
          unfold fsO
          rw [HF.out, if_pos (by unfold spl; rw [hs])]; rfl
        go_wp2
        go_ret
        exact ⟨by rw [HF2.out]; rfl, HBW2.out⟩
    · obtain rfl : k = m := by omega
      have hki : ¬ (k : Int) < (k : Int) := by omega
      rw [find_done (by have := HM.out; omega)] at hf
      have HV : Hid (fsO (dms xs) (mk ps) = false) := by show _ = _; unfold fsO; rw [hf]; rfl
      have HBW := Hid.mk (HB1.out.trans (hbw.mono HB1.out.size))
      clear hf hbw
      go_wp2
      go_ret
      exact ⟨by rw [HV.out]; rfl, HBW.out⟩

set_option maxRecDepth 100000 in
set_option maxHeartbeats 4000000 in
theorem specIsNormal (a : Option Addr) (n c : Nat) (xs : List Dep) (C : Int) (pa : Option Addr) (pn pc : Nat) (ps : List Int) (w : World) (hz : xs.length = n) (hn : n ≤ 1048576) (ha : AtD w a xs) (hpn : ps.length = pn) (hpb : pn ≤ 1048576) (hpa : At w pa ps) :
    Calls Tryd.prog 7 #[.slice a n c, .int .i64 C, .slice pa pn pc] w fun e w' => e = .returned (.tuple #[.bool (prtB xs C ps && !fsO (dms xs) (mk ps)), .bool (prtB xs C ps)]) ∧ Below w.heap.size w w' := by
  have K1 := Hid.mk (l8Part_any a n c xs C pa pn pc ps w hz (by omega) ha hpn (by omega) hpa)
  have HZ := Hid.mk hz
  have HA := Hid.mk ha
  have HPN := Hid.mk hpn
  have HPA := Hid.mk hpa
  clear hz ha hpn hpa
  go_enter Tryd.func7, Tryd.ntmps7
  go_wp2_with fail
  refine K1.out.mono ?_
  rintro e w1 ⟨rfl, B1⟩
  cases h1 : prtB xs C ps with
  | false =>
    go_wp2
    exact bodyPost_ret (v := .tuple #[.bool false, .bool false]) (by simp [results, Tryd.results7, go_sem]) rfl ⟨by rw [h1]; rfl, B1⟩
  | true =>
    have hg := h1
    unfold prtB at hg
    rw [Bool.and_eq_true] at hg
    have h6 := (goodDeps_C hg.1).2.1
    have K3 := Hid.mk (l8Normal_any a n c xs pa pn pc ps w1 HZ.out hn (Tolds.of hg.1) (AtSl.below HA.out B1) (Told.of h6 hg.2) HPN.out (At.below HPA.out B1))
    have HB1 := Hid.mk B1
    clear hg h6 B1
    go_wp2_with fail
    refine K3.out.mono ?_
    rintro e w3 ⟨rfl, hb3⟩
    have HB3 := Hid.mk (HB1.out.trans (hb3.mono HB1.out.size))
    obtain ⟨ok, hok⟩ : ∃ ok, fsO (dms xs) (mk ps) = ok := ⟨_, rfl⟩
    have HV := Hid.mk hok
    rw [hok]
    clear hb3 K3 HB1 hok
    go_wp2
    exact bodyPost_ret (v := .tuple #[.bool (!ok), .bool true]) (by simp [results, Tryd.results7, go_sem]) rfl ⟨by rw [HV.out, h1]; rfl, HB3.out⟩

end Go.Proofs.YtpnaoahlfhbbmaaDoor

/- Contracts of the laws' helpers over dependencies: szDepend, szDependS. -/
namespace Go.Proofs.YtpnaoahlfhbbmaaDoor
open Go.RowKit

set_option maxRecDepth 100000 in
set_option maxHeartbeats 1000000 in
theorem szDepend_any (sa : Option Addr) (sn sc : Nat) (pa : Option Addr) (pn pc : Nat) (ss : List Int) (xs : List Int) (l : Int) (w : World) (hs : ss.length = sn) (hsn : sn ≤ 9223372036854775807) (hz : xs.length = pn) (hn : pn ≤ 9223372036854775807) (h0 : 0 ≤ l) (h1 : l ≤ 1048576) :
    Calls Tryd.prog 23 #[.agg #[.slice sa sn sc, .slice pa pn pc], .int .i64 l] w fun e w' => e = .returned (.int .i64 (leftOf l (dcost (ss, xs)))) ∧ Below w.heap.size w w' := by
  have hv : dcost (ss, xs) = sn + pn := by unfold dcost; simp only; rw [hs, hz]
  rw [hv]
  clear hv
  obtain ⟨W, hW⟩ : ∃ W, W = w.alloc (.cells #[.slice sa sn sc, .slice pa pn pc] 46) := ⟨_, rfl⟩
  have B0 : Below w.heap.size w W := by rw [hW]; exact (Below.refl _ _).alloc (Nat.le_refl _) _
  have q1 : W.cell? ⟨w.heap.size, 1, none⟩ = some (.slice pa pn pc) := by rw [hW]; simp
  have HZ := Hid.mk hz
  clear hz hs
  by_cases c1 : l < sn
  · go_enter Tryd.func23, Tryd.ntmps23
    go_wp2_with fail
    rw [← hW]
    clear hW
    refine (szIntS_any sa sn sc l W hsn h0 h1).mono ?_
    rintro e w2 ⟨rfl, rfl⟩
    rw [if_pos c1]
    go_wp2
    go_ret
    exact ⟨ret_int (leftOf_no (by omega)).symm, B0⟩
  by_cases c2 : l - sn < (pn : Int)
  · go_enter Tryd.func23, Tryd.ntmps23
    have d1 : ¬ l - (sn : Int) < 0 := by omega
    go_wp2_with fail
    rw [← hW]
    clear hW
    refine (szIntS_any sa sn sc l W hsn h0 h1).mono ?_
    rintro e w2 ⟨rfl, rfl⟩
    rw [if_neg (by omega)]
    go_wp2_with fail
    refine (szIntS_any pa pn pc (l - sn) _ hn (by omega) (by omega)).mono ?_
    rintro e w3 ⟨rfl, rfl⟩
    rw [if_pos (by omega)]
    go_wp2
    go_ret
    exact ⟨ret_int (leftOf_no (by omega)).symm, B0⟩
  · go_enter Tryd.func23, Tryd.ntmps23
    have d1 : ¬ l - (sn : Int) < 0 := by omega
    have d2 : ¬ l - (sn : Int) - (pn : Int) < 0 := by omega
    go_wp2_with fail
    rw [← hW]
    clear hW
    refine (szIntS_any sa sn sc l W hsn h0 h1).mono ?_
    rintro e w2 ⟨rfl, rfl⟩
    rw [if_neg (by omega)]
    go_wp2_with fail
    refine (szIntS_any pa pn pc (l - sn) _ hn (by omega) (by omega)).mono ?_
    rintro e w3 ⟨rfl, rfl⟩
    rw [if_neg (by omega)]
    go_wp2
    go_ret
    exact ⟨ret_int (by rw [leftOf_yes (by omega)]; omega), B0⟩

set_option maxRecDepth 100000 in
set_option maxHeartbeats 2000000 in
theorem szDependS_any (a : Option Addr) (n c : Nat) (xs : List Dep) (l : Int) (w : World) (hz : xs.length = n) (hn : n ≤ 9223372036854775807) (h0 : 0 ≤ l) (h1 : l ≤ 1048576) (ha : AtD w a xs) :
    Calls Tryd.prog 6 #[.slice a n c, .int .i64 l] w fun e w' => e = .returned (.int .i64 (leftOf l (n + dsum xs n : Nat))) ∧ Below w.heap.size w w' := by
  by_cases hb : l < n
  · have h' : l - (n : Int) < 0 := by omega
    go_enter Tryd.func6, Tryd.ntmps6
    go_wp2
    go_ret
    exact ⟨ret_int (leftOf_no (by omega)).symm, Below.refl _ _⟩
  have h' : ¬ l - (n : Int) < 0 := by omega
  by_cases hn0 : n = 0
  · subst hn0
    have ht : dsum xs 0 = 0 := dsum_zero xs
    go_enter Tryd.func6, Tryd.ntmps6
    go_wp2
    refine wp_loop_rounds 1 ?_
    rw [rounds_succ]
    go_wp2
    go_ret
    exact ⟨ret_int (by rw [ht, leftOf_yes (by omega)]; omega), Below.refl _ _⟩
  · go_enter Tryd.func6, Tryd.ntmps6
    go_wp2
    go_loopw [1, 5] (fun q i wr => ∃ (k : Nat) (r : Int), k ≤ n ∧ i = .int .i64 k ∧ q = .int .i64 r ∧ 0 ≤ r ∧ r ≤ 1048576 ∧ r + dsum xs k = l - n ∧ Below w.heap.size w wr) (fun _ i _ => n - (intOf i).toNat)
    case atStart => exact ⟨0, l - n, Nat.zero_le _, rfl, rfl, by omega, by omega, by rw [dsum_zero]; omega, Below.refl _ _⟩
    case round =>
      obtain ⟨k, r, hk, rfl, rfl, hr0, hr1, hr, hbw⟩ := hrel
      by_cases hlt : k < n
      · obtain ⟨b, off, rfl, _, hc⟩ := AtD.row (AtSl.below ha hbw) (by omega)
        obtain ⟨⟨xf, xt⟩, hx⟩ : ∃ x, xs[k]? = some x := ⟨_, List.getElem?_eq_getElem (by omega)⟩
        obtain ⟨fa, fn, fc, ta, tn, tc, g0, g1, ⟨t1, t2, _⟩, ⟨u1, u2, _⟩⟩ := hc k _ hx
        have hts := dsum_succ hx
        have htm := dsum_mono xs (k + 1) n (by omega)
        have HR := Hid.mk hr
        have HT := Hid.mk hts
        have HM := Hid.mk htm
        have HX1 := Hid.mk t1
        have HX2 := Hid.mk u1
        have hki : (k : Int) < (n : Int) := by omega
        clear hc hr hts ha htm hx t1 u1
        by_cases hfit : r < dcost (xf, xt)
        · go_wp2_with fail
          refine (szDepend_any fa fn fc ta tn tc xf xt r wr HX1.out t2 HX2.out u2 hr0 hr1).mono ?_
          rintro e w' ⟨rfl, hb'⟩
          rw [leftOf_no hfit]
          go_wp2
          go_ret
          exact ⟨ret_int (leftOf_no (by have := HR.out; have := HT.out; have := HM.out; omega)).symm, hbw.trans (hb'.mono hbw.size)⟩
        · have hd : ¬ r - (dcost (xf, xt) : Int) < 0 := by omega
          go_wp2_with fail
          refine (szDepend_any fa fn fc ta tn tc xf xt r wr HX1.out t2 HX2.out u2 hr0 hr1).mono ?_
          rintro e w' ⟨rfl, hb'⟩
          rw [leftOf_yes (by omega)]
          go_wp2
          go_roundw
          case rel => exact ⟨k + 1, r - dcost (xf, xt), by omega, by go_num, rfl, by omega, by omega, by have := HR.out; have := HT.out; omega, hbw.trans (hb'.mono hbw.size)⟩
          case measure => simp [intOf]; omega
      · obtain rfl : k = n := by omega
        have HR := Hid.mk hr
        clear hr
        go_wp2
        go_ret
        exact ⟨ret_int (by have := HR.out; rw [leftOf_yes (by omega)]; omega), hbw⟩

end Go.Proofs.YtpnaoahlfhbbmaaDoor

/- The laws' copies of slices of numbers, of slices of numbers, as things that are owned. -/
namespace Go.Proofs.YtpnaoahlfhbbmaaDoor
open Go.RowKit

theorem toInts_rep (a : Option Addr) (n c : Nat) (zs : List Int) (w : World) (hz : zs.length = n) (hn : n ≤ 1048576) (ha : At w a zs) :
    Calls Tryd.prog 9 #[.slice a n c] w fun e w' => ∃ g, e = .returned (.slice (some ⟨g, 0, none⟩) n n) ∧ RInts.Own w' (From w.heap.size w'.heap.size) [.slice (some ⟨g, 0, none⟩) n n] zs ∧ Below w.heap.size w w' :=
  (toIntS_any a n c zs w hz hn ha).mono fun _ _ ⟨h1, h2, h3⟩ => ⟨_, h1, RInts.of_owns hz (by omega) h2, h3⟩
end Go.Proofs.YtpnaoahlfhbbmaaDoor

/- A block of cells that a function holds: what is stored, what stays. -/
namespace Go.Proofs.YtpnaoahlfhbbmaaDoor
open Go.RowKit

theorem blk_set {w : World} {g : Nat} {cs : Array Value} {t : TypeId} (h : w.heap[g]? = some (.cells cs t (0, 0))) (k : Nat) (v : Value) : (w.setCell ⟨g, k, none⟩ v).heap[g]? = some (.cells (cs.setIfInBounds k v) t (0, 0)) := heap_setCell_same w g k cs t v h
theorem blk_cell {w : World} {g : Nat} {cs : Array Value} {t : TypeId} (h : w.heap[g]? = some (.cells cs t (0, 0))) (k : Nat) {v : Value} (hv : cs[k]? = some v) : w.cell? ⟨g, k, none⟩ = some v := by
  rw [cell_of_row w g k _ t (0, 0) h]; exact hv
theorem blk_frozen {w : World} {g : Nat} {cs : Array Value} {t : TypeId} (h : w.heap[g]? = some (.cells cs t (0, 0))) (k : Nat) : w.frozen? ⟨g, k, none⟩ = false := frozen_of_row w g k _ t h
theorem blk_below {w w' : World} {g : Nat} {o : Obj} (h : w.heap[g]? = some o) (hb : Below w.heap.size w w') : w'.heap[g]? = some o := (hb.block g (Array.getElem?_eq_some_iff.1 h).1).trans h
theorem blk_other {w : World} {g : Nat} {o : Obj} (h : w.heap[g]? = some o) {a : Addr} (ha : g ≠ a.block) (v : Value) : (w.setCell a v).heap[g]? = some o := (Below.heap_setCell w a v g ha).trans h
theorem blk_alloc {w : World} {g : Nat} {o : Obj} (h : w.heap[g]? = some o) (o' : Obj) : (w.alloc o').heap[g]? = some o := (Below.heap_alloc w o' g (Array.getElem?_eq_some_iff.1 h).1).trans h

end Go.Proofs.YtpnaoahlfhbbmaaDoor
