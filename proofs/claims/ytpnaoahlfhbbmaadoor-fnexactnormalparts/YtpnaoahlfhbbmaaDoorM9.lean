/- Several texts of one proof, in build order: LstI, SpV, LayS. -/
import Derived.Test.YtpnaoahlfhbbmaaDoorM8
import Derived.Test.YtpnaoahlfhbbmaaDoorM7

/- Contract of the model's l8Lists. -/
namespace Go.Proofs.YtpnaoahlfhbbmaaDoor
open Go.RowKit

theorem listsT_succ (p : List Int) (t : Nat) : listsT p (t + 1) = listsT p t ++ (subsL p.length t 0).map (pickL p) := by unfold listsT; rw [setsU_succ, List.map_append]
theorem subs_in_all : ∀ c : Nat, c < 7 → ∀ m : Nat, m < 7 → (subsL c m 0).all (fun l => l.all fun k => decide (0 ≤ k) && decide (k < (c : Int))) = true := by decide +kernel
theorem subs_in {c m j : Nat} {s : List Int} (hc : c ≤ 6) (hm : m ≤ 6) (h : (subsL c m 0)[j]? = some s) : ∀ k ∈ s, 0 ≤ k ∧ k < (c : Int) := fun k hk => by
  have h9 := subs_in_all c (by omega) m (by omega)
  rw [List.all_eq_true] at h9
  have := h9 s (List.mem_of_getElem? h)
  rw [List.all_eq_true] at this
  simpa using this k hk
theorem pickL_take {p s : List Int} {i : Nat} (h : i < s.length) : pickL p (s.take (i + 1)) = pickL p (s.take i) ++ [p.getD (s.getD i 0).toNat 0] := by
  unfold pickL
  rw [List.take_succ_eq_append_getElem h, List.map_append]
  simp [List.getD, h]

set_option maxRecDepth 100000 in
set_option maxHeartbeats 8000000 in
theorem l8Lists_any (pa : Option Addr) (pn pc : Nat) (ps : List Int) (w : World) (hz : ps.length = pn) (h6 : pn ≤ 6) (ha : At w pa ps) :
    Calls Tryd.prog 48 #[.slice pa pn pc] w fun e w' => ∃ r n d, e = .returned (.slice r n d) ∧ RPairs.Own w' (From w.heap.size w'.heap.size) [.slice r n d] (listsT ps (pn + 1)) ∧ Below w.heap.size w w' := by
  obtain ⟨j0, hj, hy0, hy1, hy2⟩ := info_parts Tryd.infoInt
  obtain ⟨k0, hk, hx0, hx1, hx2⟩ := info_parts Tryd.infoInts
  have HZ := Hid.mk hz
  have HA := Hid.mk ha
  clear hz ha
  go_enter Tryd.func48, Tryd.ntmps48
  go_wp2_with fail
  go_loopw [3, 4] (fun p i wx => ∃ (t n : Nat) (r : Option Addr) (d : Nat) (cells : List Value) (G : Nat → Nat → Prop), t ≤ pn + 1 ∧ i = .int .i64 t ∧ p = .slice r n d ∧ Laid RInts wx (From w.heap.size wx.heap.size) 23 r n d (listsT ps t) cells G n ∧ Below w.heap.size w wx) (fun _ i _ => pn + 1 - (intOf i).toNat)
  case atStart => exact ⟨0, 0, none, 0, [], _, Nat.zero_le _, rfl, rfl, Laid.none _ _ _ _, Below.refl _ _⟩
  case round =>
    obtain ⟨t, n, r, d, cells, G, ht, rfl, rfl, hlaid, hbw⟩ := hrel
    have hns := listsT_succ ps t
    rw [HZ.out] at hns
    have HSUCC := Hid.mk hns
    have hn64 : n ≤ 64 := by
      rw [← hlaid.len]
      have := setsU_ok_all pn (by omega) t (by omega)
      unfold listsT
      rw [List.length_map, HZ.out]; exact this
    have HLA := Hid.mk hlaid
    have HB := Hid.mk hbw
    clear hlaid hbw hns
    by_cases hlt : t ≤ pn
    · have hti : (t : Int) ≤ (pn : Int) := by omega
      have KC := Hid.mk (l7Subsets_zero pn h6 t (by omega) wr)
      have HYL := Hid.mk (subsL_ok_all pn (by omega) t (by omega) 0 (by omega)).1
      have HYR : Hid (∀ (j : Nat) (zs : List Int), (subsL pn t 0)[j]? = some zs → zs.length ≤ 6) := fun j zs h => subsL_row h6 (by omega) (by omega) h
      have HYI : Hid (∀ (j : Nat) (zs : List Int), (subsL pn t 0)[j]? = some zs → ∀ k ∈ zs, 0 ≤ k ∧ k < (pn : Int)) := fun j zs h => subs_in h6 (by omega) h
      obtain ⟨X, hX⟩ : ∃ X, listsT ps t = X := ⟨_, rfl⟩
      obtain ⟨Y, hY⟩ : ∃ Y, subsL pn t 0 = Y := ⟨_, rfl⟩
      rw [hX] at HLA HSUCC
      rw [hY] at KC HYL HYR HYI HSUCC
      clear hX hY
      go_wp2_with fail
      refine KC.out.mono ?_
      rintro e w1 ⟨r1, n1, d1, rfl, hown1, hb1⟩
      obtain ⟨q0, hq0⟩ : ∃ q, q = wr.heap.size := ⟨_, rfl⟩
      obtain ⟨q1, hq1⟩ : ∃ q, q = w1.heap.size := ⟨_, rfl⟩
      have HLA1 : Hid (Laid RInts w1 (fun b => From w.heap.size q0 b ∨ From q1 w1.heap.size b) 23 r n d X cells G n) := (HLA.out.below hb1).mono (fun b h => .inl (by rw [hq0]; exact h))
      have HB1 := Hid.mk (HB.out.trans (hb1.mono HB.out.size))
      have hl1 := (pairs_at hown1).1
      have hn1 : n1 ≤ 64 := by rw [← hl1]; exact HYL.out
      have HL1 := Hid.mk hl1
      have zq : w.heap.size ≤ q0 := by rw [hq0]; exact HB.out.size
      have zq1 : q0 ≤ q1 := by rw [hq0, hq1]; exact hb1.size
      have zq2 : q1 ≤ w1.heap.size := by omega
      rw [← hq0, ← hq1] at hown1
      have HO1 := Hid.mk hown1
      have HXN := Hid.mk HLA.out.len
      clear hown1 hb1 hl1 hq0 hq1 HLA HB KC HYL
      go_wp2_with fail
      go_loopw [3, 21] (fun p i wx => ∃ (j n : Nat) (r : Option Addr) (d : Nat) (cells : List Value) (G : Nat → Nat → Prop), j ≤ n1 ∧ i = .int .i64 j ∧ p = .slice r n d ∧ n ≤ 64 + j ∧ Laid RInts wx (fun b => From w.heap.size q0 b ∨ From q1 wx.heap.size b) 23 r n d (X ++ (Y.take j).map (pickL ps)) cells G n ∧ RPairs.Own wx (From q0 q1) [.slice r1 n1 d1] Y ∧ q1 ≤ wx.heap.size ∧ Below w.heap.size w wx) (fun _ i _ => n1 - (intOf i).toNat)
      case atStart => exact ⟨0, n, r, d, cells, G, Nat.zero_le _, rfl, rfl, by omega, by simpa using HLA1.out, HO1.out, zq2, HB1.out⟩
      case round =>
        clear HLA1 HO1 HB1 zq2 hn64 HXN
        obtain ⟨j, n, r, d, cells, G, hj1, rfl, rfl, hnn, hlaid, hown, zr, hbw⟩ := hrel
        by_cases hjlt : j < n1
        · obtain ⟨zs, hzs⟩ : ∃ zs, Y[j]? = some zs := ⟨_, List.getElem?_eq_getElem (by have := HL1.out; omega)⟩
          obtain ⟨b, off, a', m', c', rfl, hcx, hm', hm1, hax, hnx⟩ := atSl_pairK (pairs_at hown).2 hzs
          have hm6 : m' ≤ 6 := by rw [← hm']; exact HYR.out j zs hzs
          have HIN := Hid.mk (HYI.out j zs hzs)
          have HTK : Hid ((Y.take (j + 1)).map (pickL ps) = (Y.take j).map (pickL ps) ++ [pickL ps zs]) := by
            show _ = _
            obtain ⟨hh, rfl⟩ := List.getElem?_eq_some_iff.1 hzs
            rw [List.take_succ_eq_append_getElem hh, List.map_append]; rfl
          have hji : (j : Int) < (n1 : Int) := by omega
          have HM := Hid.mk hm'
          have HAX := Hid.mk hax
          have HLA := Hid.mk hlaid
          have HO := Hid.mk hown
          have HB := Hid.mk hbw
          obtain ⟨wy, rfl⟩ : ∃ x, x = wr := ⟨_, rfl⟩
          have HAP := Hid.mk (At.below HA.out hbw)
          clear hax hm' hnx hlaid hown hbw hzs
          go_wp2_with fail
          go_loopw [7, 27] (fun p i wx => ∃ (k : Nat) (r3 : Option Addr) (d3 : Nat), k ≤ m' ∧ i = .int .i64 k ∧ p = .slice r3 k d3 ∧ wx.ownsRow wy.heap.size 3 1 (.slice r3 k d3) k ((pickL ps (zs.take k)).map (.int .i64)) ∧ Below wy.heap.size wy wx) (fun _ i _ => m' - (intOf i).toNat)
          case atStart => exact ⟨0, none, 0, Nat.zero_le _, rfl, rfl, World.ownsRow_nil _ _ _ _, Below.refl _ _⟩
          case round =>
            obtain ⟨k, r3, d3, hkm, rfl, rfl, hown3, hb3⟩ := hrel
            by_cases hkl : k < m'
            · obtain ⟨b2, off2, rfl, _, hc2⟩ := (At.below HAX.out hb3).some (by have := HM.out; omega)
              have hcy : wr.cell? ⟨b2, off2 + k, none⟩ = some (.int .i64 (zs.getD k 0)) := hc2 k (by have := HM.out; omega)
              have hin := HIN.out (zs.getD k 0) (by simp [List.getD, show k < zs.length by have := HM.out; omega])
              have hpt := pickL_take (p := ps) (s := zs) (i := k) (by have := HM.out; omega)
              obtain ⟨x, hx⟩ : ∃ x : Nat, zs.getD k 0 = (x : Int) := ⟨(zs.getD k 0).toNat, by omega⟩
              rw [hx] at hcy hin hpt
              have hxp : x < pn := by omega
              have hxi : (x : Int) < (pn : Int) := by omega
              obtain ⟨b4, off4, rfl, _, hc4⟩ := (At.below HAP.out hb3).some (by have := HZ.out; omega)
              have hcz : wr.cell? ⟨b4, off4 + x, none⟩ = some (.int .i64 (ps.getD x 0)) := hc4 x (by have := HZ.out; omega)
              rw [show ((x : Nat) : Int).toNat = x by omega] at hpt
              obtain ⟨v, hv⟩ : ∃ v, ps.getD x 0 = v := ⟨_, rfl⟩
              rw [hv] at hcz hpt
              have HPT := Hid.mk hpt
              have hki : (k : Int) < (m' : Int) := by omega
              have HO3 := Hid.mk hown3
              have HB3 := Hid.mk hb3
              have z3 := hb3.size
              clear hc2 hc4 hin hpt hx hv hown3 hb3
              go_wp2_with (at_builtin; refine wpList_append_lies _ rfl (.tmp 31) (.tmp 36) 23 rfl wy.heap.size 3 j0 (.int .i64 0) 1 8 Tryd.underlying23 hj hy0 hy1 hy2 rfl (by decide) _ _ _ rfl (HO3.out.alloc _) ⟨wr.heap.size, 0, none⟩ 1 1 [.int .i64 v] rfl rfl (news_at wr _ _) (by intro u hu; simp at hu; subst hu; rfl) (by decide) (by unfold maxLen; omega) (by omega) (by simp; omega) (wr.heap.size + 1) (by simp) ?_)
              intro g5 cap5 w5 ho5 hg5 hat5 hlt5
              have HB5 : Hid (Below wy.heap.size wy w5) := (HB3.out.alloc z3 _).grown hg5 (by simp; omega) (fun j hj => (HO3.out.lt j hj).1)
              have HO5 : Hid (w5.ownsRow wy.heap.size 3 1 (.slice (some ⟨g5, 0, none⟩) (k + 1) cap5) (k + 1) ((pickL ps (zs.take (k + 1))).map (.int .i64))) := by
                show World.ownsRow _ _ _ _ _ _ _
                rw [HPT.out, List.map_append]; exact ho5
              clear ho5 hg5 hat5 HO3 HB3
              go_wp2
              go_roundw
              case rel => exact ⟨k + 1, _, _, by omega, by go_num, rfl, HO5.out, HB5.out⟩
              case measure => simp [intOf]; omega
            · obtain rfl : k = m' := by omega
              have hki : ¬ (k : Int) < (k : Int) := by omega
              rw [List.take_of_length_le (by have := HM.out; omega)] at hown3
              have HOI : Hid (RInts.Own wr (From wy.heap.size wr.heap.size) [.slice r3 k d3] (pickL ps zs)) := RInts.of_owns (by unfold pickL; rw [List.length_map]; exact HM.out) (by omega) hown3
              have hF : ∀ b, (Value.slice r n d).ownBlock = some b → w.heap.size ≤ b := fun b hb => by
                rcases HLA.out.outerF b hb with h | h
                · exact h.1
                · have := h.1; omega
              have HW : Hid (wy.ownsRow w.heap.size 23 1 (.slice r n d) n cells) := owns_base HLA.out.outer hF
              have HW4 := Hid.mk (owns_below HW.out hb3)
              have HB2 := Hid.mk hb3
              have zw := HB.out.size
              have z4 := hb3.size
              clear hown3 hb3 hF
              go_wp2_with (at_builtin; refine wpList_app_vals rfl (.tmp 39) (.tmp 41) 33 rfl w.heap.size 23 k0 (.slice none 0 0) 1 24 Tryd.underlying33 hk hx0 hx1 hx2 rfl (by decide) (.slice r n d) n cells rfl (HW4.out.alloc _) (some ⟨wr.heap.size, 0, none⟩) 1 1 [.slice r3 k d3] rfl rfl (fun ad he => by cases he; simpa using news_at wr #[.slice r3 k d3] 23) (by simp; rfl) (fun h => by cases h) (by unfold maxLen; omega) (by omega) (by simp; omega) ?_)
              intro r4 d4 w5 ho4 hg4 ht4
              have z5 : wr.heap.size < w5.heap.size := by have h9 := hg4.size; simp at h9; omega
              have BG : ∀ b, b < wr.heap.size → (Value.slice r n d).ownBlock ≠ some b → w5.heap[b]? = wr.heap[b]? := fun b hb hn => (hg4.block b (by simp; omega) (fun e => hn e.symm)).trans (Below.heap_alloc wr _ b hb)
              have hfar : ∀ b, q0 ≤ b → b < q1 → (Value.slice r n d).ownBlock ≠ some b := fun b h1 h2 e => by
                rcases HLA.out.outerF b e with h | h
                · have := h.2; omega
                · have := h.1; omega
              have hpush := HLA.out.push (F' := fun b => From w.heap.size q0 b ∨ From q1 w5.heap.size b) (fun b h => by rcases h with h | h; (have := h.2; omega); exact h.2) HB2.out HOI.out (fun b h => h) BG (owns_mono ho4 (Nat.zero_le _)) (by
                rcases ht4 with h9 | h9
                · exact .inl h9
                · refine .inr (fun b e => ?_)
                  rw [h9] at e
                  simp at e
                  omega) (by omega) (fun b h => by rcases h with h | h; exact .inl h; exact .inr ⟨h.1, by have := h.2; omega⟩) (fun b h => .inr ⟨by have := h.1; omega, by have := h.2; omega⟩) (fun b h => by
                rcases ht4 with h9 | h9
                · rw [h9] at h
                  rcases HLA.out.outerF b h with h | h
                  · exact .inl h
                  · exact .inr ⟨h.1, by have := h.2; omega⟩
                · rw [h9] at h
                  simp at h
                  exact .inr ⟨by omega, by have := (ho4.lt b (by rw [h9]; simp; omega)).2; omega⟩)
              obtain ⟨G', HL'⟩ : ∃ G', Hid (Laid RInts w5 (fun b => From w.heap.size q0 b ∨ From q1 w5.heap.size b) 23 r4 (n + 1) d4 (X ++ (Y.take (j + 1)).map (pickL ps)) (cells ++ [.slice r3 k d3]) G' (n + 1)) := by
                rw [HTK.out, ← List.append_assoc]
                exact ⟨_, Hid.mk hpush⟩
              have HO' : Hid (RPairs.Own w5 (From q0 q1) [.slice (some ⟨b, off, none⟩) n1 d1] Y) := RPairs.frame HO.out (fun b h1 h2 => (BG b (by have := h1.2; omega) (hfar b h1.1 h1.2)).trans (HB2.out.block b h2))
              have HB' : Hid (Below w.heap.size w w5) := ((HB.out.trans (HB2.out.mono HB.out.size)).alloc (by omega) _).grown hg4 (by simp; omega) (fun j hj => (HW.out.lt j hj).1)
              clear hpush BG ho4 hg4 ht4 hfar HLA HO HB HB2 HW HW4 HOI
              go_wp2
              go_roundw
              case rel => exact ⟨j + 1, n + 1, r4, d4, _, G', by omega, by go_num, rfl, by omega, HL'.out, HO'.out, by omega, HB'.out⟩
              case measure => simp [intOf]; omega
        · obtain rfl : j = n1 := by omega
          rw [List.take_of_length_le (by have := HL1.out; omega), ← HSUCC.out] at hlaid
          have HLA2 := Hid.mk (hlaid.mono (F' := From w.heap.size wr.heap.size) (fun b h => by rcases h with h | h; exact ⟨h.1, by have := h.2; omega⟩; exact ⟨by have := h.1; omega, h.2⟩))
          have hji : ¬ (j : Int) < (j : Int) := by omega
          clear hlaid hown hnn
          go_wp2
          go_roundw
          case rel => exact ⟨t + 1, n, r, d, cells, G, by omega, by go_num, rfl, HLA2.out, hbw⟩
          case measure => simp [intOf]; omega
    · obtain rfl : t = pn + 1 := by omega
      have hti : ¬ ((pn + 1 : Nat) : Int) ≤ (pn : Int) := by omega
      have HFIN : Hid (RPairs.Own wr (From w.heap.size wr.heap.size) [.slice r n d] (listsT ps (pn + 1))) := ⟨_, _, _, cells, G, rfl, HLA.out⟩
      go_wp2
      go_ret
      exact ⟨r, n, d, rfl, HFIN.out, HB.out⟩

end Go.Proofs.YtpnaoahlfhbbmaaDoor

/- Contract of the model's l8Split. -/
namespace Go.Proofs.YtpnaoahlfhbbmaaDoor
open Go.RowKit

set_option maxRecDepth 100000 in
set_option maxHeartbeats 4000000 in
theorem l8Split_any (a : Option Addr) (n c : Nat) (xs : List Dep) (pa : Option Addr) (pn pc : Nat) (ps : List Int) (fa : Option Addr) (fn fc : Nat) (fs : List Int) (w : World) (hz : xs.length = n) (hn : n ≤ 1048576) (hs : Tolds xs) (ha : AtD w a xs)
    (hp : Told ps) (hpn : ps.length = pn) (hpa : At w pa ps) (hf : Told fs) (hfn : fs.length = fn) (hfa : At w fa fs) (hnil : fa = none → fc = 0) (hsb : sb (mk fs) (mk ps) = true) :
    Calls Tryd.prog 43 #[.slice a n c, .slice pa pn pc, .slice fa fn fc] w fun e w' => ∃ r m d r' m' d' mid, e = .returned (.tuple #[.slice r m d, .slice r' m' d']) ∧ w.heap.size ≤ mid ∧ mid ≤ w'.heap.size ∧
      RInts.Own w' (From mid w'.heap.size) [.slice r m d] (bl (told xs (mk fs) &&& mk ps)) ∧ RInts.Own w' (From w.heap.size mid) [.slice r' m' d'] (bl (mk fs ||| dif (mk ps) (told xs (mk fs)))) ∧ Below w.heap.size w w' := by
  obtain ⟨i0, hi, hz0, hz1, hz2⟩ := info_parts Tryd.infoInt
  have K := Hid.mk (l7Closure_any a n c xs fa fn fc fs w hz hn hs ha hf hfn hfa hnil)
  have hpl := hp.len
  have hfl := hf.len
  have HP := Hid.mk hp
  have HF := Hid.mk hf
  have HPN := Hid.mk hpn
  have HFN := Hid.mk hfn
  have HPA := Hid.mk hpa
  have HFA := Hid.mk hfa
  have HSB := Hid.mk hsb
  have hpn6 : pn ≤ 6 := by omega
  have hfn6 : fn ≤ 6 := by omega
  clear hz hs ha hp hpn hpa hf hfn hfa hnil hsb hpl hfl
  go_enter Tryd.func43, Tryd.ntmps43
  go_wp2_with fail
  refine K.out.mono ?_
  rintro e w1 ⟨T, r1, m1, d1, hT, rfl, hm1, ho1, hb1⟩
  have hm6 : m1 ≤ 6 := by rw [← hm1]; exact bl_len T
  have HT := Hid.mk hT
  have HM1 := Hid.mk hm1
  have HO1 := Hid.mk ho1
  have HB1 := Hid.mk hb1
  have z1 := hb1.size
  have HRB := Hid.mk (rest_bl (T := T) (P := mk ps) (F := mk fs) hT.lt HP.out.lt HF.out.lt HSB.out)
  rw [HP.out.is, HF.out.is] at HRB
  obtain ⟨q, hq⟩ : ∃ q : Int → Bool, (fun k => decide (k ∈ fs) || !decide (k ∈ bl T)) = q := ⟨_, rfl⟩
  have HQ : Hid (∀ k, q k = (decide (k ∈ fs) || !decide (k ∈ bl T))) := fun k => by rw [← hq]
  rw [hq] at HRB
  clear hT hm1 ho1 hb1 K hq
  go_wp2_with fail
  go_loopw [9, 17] (fun p i wx => ∃ (k m : Nat) (r : Option Addr) (d : Nat), k ≤ pn ∧ m ≤ k ∧ i = .int .i64 k ∧ p = .slice r m d ∧ ((ps.take k).filter q).length = m ∧ wx.ownsRow w1.heap.size 3 1 (.slice r m d) m (((ps.take k).filter q).map (.int .i64)) ∧ Below w1.heap.size w1 wx) (fun _ i _ => pn - (intOf i).toNat)
  case atStart => exact ⟨0, 0, none, 0, Nat.zero_le _, Nat.le_refl _, rfl, rfl, rfl, World.ownsRow_nil _ _ _ _, Below.refl _ _⟩
  case round =>
    obtain ⟨k, m, r, d, hk, hmk, rfl, rfl, hm, hown, hbw⟩ := hrel
    by_cases hlt : k < pn
    · obtain ⟨b, off, hab, hb, hc⟩ := (At.below (At.below HPA.out HB1.out) hbw).some (by have := HPN.out; omega)
      subst hab
      have hcx : wr.cell? ⟨b, off + k, none⟩ = some (.int .i64 (ps.getD k 0)) := hc k (by have := HPN.out; omega)
      have hft := filter_take (p := q) (zs := ps) (k := k) (by have := HPN.out; omega)
      obtain ⟨x, hx⟩ : ∃ x, x = ps.getD k 0 := ⟨_, rfl⟩
      rw [← hx] at hcx hft
      have HFT := Hid.mk hft
      have K := Hid.mk (l1Has_any fa fn fc fs x wr HFN.out (by omega) (At.below (At.below HFA.out HB1.out) hbw))
      have K2 := Hid.mk (l1Has_any r1 m1 d1 (bl T) x wr HM1.out (by omega) (At.below (At.owned HO1.out) hbw))
      have hki : (k : Int) < (pn : Int) := by omega
      have HOW := Hid.mk hown
      have HB := Hid.mk hbw
      have HM := Hid.mk hm
      have z := hbw.size
      have HY : Hid (q x = true → (ps.take (k + 1)).filter q = (ps.take k).filter q ++ [x]) := fun h => by rw [HFT.out, h]; rfl
      have HNO : Hid (q x = false → (ps.take (k + 1)).filter q = (ps.take k).filter q) := fun h => by rw [HFT.out, h]; rfl
      clear hown hbw hm hc hft hx
      go_wp2_with fail
      refine K.out.mono ?_
      rintro e w2 ⟨rfl, rfl⟩
      by_cases hs : x ∈ fs
      · rw [decide_eq_true hs]
        have HE := Hid.mk (HY.out (by rw [HQ.out, decide_eq_true hs]; rfl))
        clear hs
        go_wp2_with (at_builtin; refine wpList_append_lies _ rfl (.tmp 30) (.tmp 32) 23 rfl w1.heap.size 3 i0 (.int .i64 0) 1 8 Tryd.underlying23 hi hz0 hz1 hz2 rfl (by decide) _ _ _ rfl (HOW.out.alloc _) ⟨w2.heap.size, 0, none⟩ 1 1 [.int .i64 x] rfl rfl (news_at w2 _ _) (by intro u hu; simp at hu; subst hu; rfl) (by decide) (by unfold maxLen; omega) (by omega) (by simp; omega) (w2.heap.size + 1) (by simp) ?_)
        intro g3 cap3 w3 ho3 hg3 hat3 hlt3
        have HB3 : Hid (Below w1.heap.size w1 w3) := (HB.out.alloc z _).grown hg3 (by simp; omega) (fun j hj => (HOW.out.lt j hj).1)
        have HO3 : Hid (w3.ownsRow w1.heap.size 3 1 (.slice (some ⟨g3, 0, none⟩) (m + 1) cap3) (m + 1) (((ps.take (k + 1)).filter q).map (.int .i64))) := by
          show World.ownsRow _ _ _ _ _ _ _
          rw [HE.out, List.map_append]; exact ho3
        clear ho3 hg3 hat3 HOW HB K
        go_wp2
        go_roundw
        case rel => exact ⟨k + 1, m + 1, _, _, by omega, by omega, by go_num, rfl, by rw [HE.out, List.length_append, HM.out]; rfl, HO3.out, HB3.out⟩
        case measure => simp [intOf]; omega
      · rw [decide_eq_false hs]
        have HQX : Hid (q x = !decide (x ∈ bl T)) := by show _ = _; rw [HQ.out, decide_eq_false hs]; rfl
        clear hs
        go_wp2_with fail
        refine K2.out.mono ?_
        rintro e w2 ⟨rfl, rfl⟩
        by_cases hs : x ∈ bl T
        · rw [decide_eq_true hs]
          have HE := Hid.mk (HNO.out (by rw [HQX.out, decide_eq_true hs]; rfl))
          clear hs
          go_wp2
          go_roundw
          case rel => exact ⟨k + 1, m, r, d, by omega, by omega, by go_num, rfl, by rw [HE.out]; exact HM.out, by rw [HE.out]; exact HOW.out, HB.out⟩
          case measure => simp [intOf]; omega
        · rw [decide_eq_false hs]
          have HE := Hid.mk (HY.out (by rw [HQX.out, decide_eq_false hs]; rfl))
          clear hs
          go_wp2_with (at_builtin; refine wpList_append_lies _ rfl (.tmp 30) (.tmp 32) 23 rfl w1.heap.size 3 i0 (.int .i64 0) 1 8 Tryd.underlying23 hi hz0 hz1 hz2 rfl (by decide) _ _ _ rfl (HOW.out.alloc _) ⟨w2.heap.size, 0, none⟩ 1 1 [.int .i64 x] rfl rfl (news_at w2 _ _) (by intro u hu; simp at hu; subst hu; rfl) (by decide) (by unfold maxLen; omega) (by omega) (by simp; omega) (w2.heap.size + 1) (by simp) ?_)
          intro g3 cap3 w3 ho3 hg3 hat3 hlt3
          have HB3 : Hid (Below w1.heap.size w1 w3) := (HB.out.alloc z _).grown hg3 (by simp; omega) (fun j hj => (HOW.out.lt j hj).1)
          have HO3 : Hid (w3.ownsRow w1.heap.size 3 1 (.slice (some ⟨g3, 0, none⟩) (m + 1) cap3) (m + 1) (((ps.take (k + 1)).filter q).map (.int .i64))) := by
            show World.ownsRow _ _ _ _ _ _ _
            rw [HE.out, List.map_append]; exact ho3
          clear ho3 hg3 hat3 HOW HB K
          go_wp2
          go_roundw
          case rel => exact ⟨k + 1, m + 1, _, _, by omega, by omega, by go_num, rfl, by rw [HE.out, List.length_append, HM.out]; rfl, HO3.out, HB3.out⟩
          case measure => simp [intOf]; omega
    · obtain rfl : k = pn := by omega
      rw [List.take_of_length_le (by have := HPN.out; omega), HRB.out] at hown hm
      have hkk : ¬ (k : Int) < (k : Int) := by omega
      have K3 := Hid.mk (l8Within_any r1 m1 d1 (bl T) pa k pc ps wr HM1.out (by omega) (At.below (At.owned HO1.out) hbw) HPN.out (by omega) (At.below (At.below HPA.out HB1.out) hbw))
      have hwb := within_bl (T := T) (P := mk ps) HT.out.lt HP.out.lt
      rw [HP.out.is] at hwb
      rw [hwb] at K3
      have HTE : Hid (told xs (mk fs) = T) := HT.out.clo_eq
      have HOW := Hid.mk hown
      have HM := Hid.mk hm
      have HB := Hid.mk hbw
      have z := hbw.size
      clear hown hm hbw hwb
      go_wp2_with fail
      refine K3.out.mono ?_
      rintro e w5 ⟨r5, m5, d5, rfl, hm5, ho5, hb5⟩
      have hB5 := (HB1.out.trans (HB.out.mono HB1.out.size)).trans (hb5.mono (by omega))
      have HB5 := Hid.mk hB5
      have z5 := hb5.size
      have HA5 : Hid (RInts.Own w5 (From wr.heap.size w5.heap.size) [.slice r5 m5 d5] (bl (told xs (mk fs) &&& mk ps))) := by
        rw [HTE.out]
        exact RInts.of_owns hm5 (by have := bl_len (T &&& mk ps); omega) ho5
      have HC5 : Hid (RInts.Own w5 (From w.heap.size wr.heap.size) [.slice r m d] (bl (mk fs ||| dif (mk ps) (told xs (mk fs))))) := by
        rw [HTE.out]
        exact RInts.ownBelow (RInts.mono (RInts.of_owns HM.out (by omega) HOW.out) (fun b h => ⟨by have := h.1; omega, h.2⟩)) hb5
      clear hm5 ho5 hb5 hB5 K3
      go_wp2
      exact bodyPost_ret (v := .tuple #[.slice r5 m5 d5, .slice r m d]) (by simp [results, Tryd.results43, go_sem]) rfl ⟨r5, m5, d5, r, m, d, wr.heap.size, rfl, by omega, z5, HA5.out, HC5.out, HB5.out⟩

end Go.Proofs.YtpnaoahlfhbbmaaDoor

/- A row of a slice of lists is split into two, in a new slice. -/
namespace Go.Proofs.YtpnaoahlfhbbmaaDoor
open Go.RowKit

theorem spl_at {α : Type} (l : List α) (i : Nat) (hi : i < l.length) (a b : α) (j : Nat) : (l.take i ++ [a, b] ++ l.drop (i + 1))[j]? = if j < i then l[j]? else if j = i then some a else if j = i + 1 then some b else l[j - 1]? := by
  have hl : (l.take i).length = i := by rw [List.length_take]; omega
  rw [List.append_assoc]
  by_cases h1 : j < i
  · rw [if_pos h1, List.getElem?_append_left (by omega), List.getElem?_take_of_lt h1]
  · rw [if_neg h1, List.getElem?_append_right (by omega), hl]
    by_cases h2 : j = i
    · rw [if_pos h2, h2, Nat.sub_self]; rfl
    · rw [if_neg h2]
      by_cases h3 : j = i + 1
      · rw [if_pos h3, h3, show i + 1 - i = 1 by omega]; rfl
      · rw [if_neg h3, List.getElem?_append_right (by simp; omega), List.getElem?_drop]
        congr 1
        simp only [List.length_cons, List.length_nil]
        omega
theorem sub_eq_of_get {cells cells' : List Value} {j j' : Nat} (h : cells'[j']? = cells[j]?) : sub cells' (j' * 1) 1 = sub cells (j * 1) 1 := by
  apply List.ext_getElem?
  intro t
  by_cases ht : t < 1
  · rw [sub_at ht, sub_at ht]
    obtain rfl : t = 0 := by omega
    simpa using h
  · rw [List.getElem?_eq_none (by simp [sub]; omega), List.getElem?_eq_none (by simp [sub]; omega)]
theorem sub_one_of {cells : List Value} {j : Nat} {v : Value} (h : cells[j]? = some v) : sub cells (j * 1) 1 = [v] := by
  have := sub_eq_of_get (cells := [v]) (cells' := cells) (j := 0) (j' := j) (by rw [h]; rfl)
  rw [this]; rfl

section
variable {w : World} {F HA HB : Nat → Prop} {a a' : Option Addr} {n c c' i : Nat} {xs : List (List Int)} {cells : List Value} {G : Nat → Nat → Prop} {xa xb : List Int} {va vb : Value}
theorem Laid.splitAt (h : Laid RInts w F 23 a n c xs cells G n) (hi : i < n) (oa : RInts.Own w HA [va] xa) (ob : RInts.Own w HB [vb] xb) (hFA : ∀ b, F b → ¬ HA b) (hFB : ∀ b, F b → ¬ HB b) (hAB : ∀ b, HA b → ¬ HB b)
    (hown : w.ownsRow 0 23 1 (.slice a' (n + 1) c') (n + 1) (cells.take i ++ [va, vb] ++ cells.drop (i + 1))) (hbig : n + 1 ≤ 9223372036854775807)
    (hout : ∀ b, (Value.slice a' (n + 1) c').ownBlock = some b → ¬ F b ∧ ¬ HA b ∧ ¬ HB b) {F' : Nat → Prop} (h1 : ∀ b, F b → F' b) (h2 : ∀ b, HA b → F' b) (h3 : ∀ b, HB b → F' b) (h4 : ∀ b, (Value.slice a' (n + 1) c').ownBlock = some b → F' b) :
    Laid RInts w F' 23 a' (n + 1) c' (xs.take i ++ [xa, xb] ++ xs.drop (i + 1)) (cells.take i ++ [va, vb] ++ cells.drop (i + 1)) (fun j => if j < i then G j else if j = i then HA else if j = i + 1 then HB else G (j - 1)) (n + 1) := by
  have hxl := h.len
  have hcl : cells.length = n := by have := h.outer.1; simpa [RInts, Rep.slice] using this
  have hX := spl_at xs i (by omega) xa xb
  have hC := spl_at cells i (by omega) va vb
  refine ⟨by simp [List.length_take, List.length_drop]; omega, hbig, hown, h4, fun j y hj hy => ?_, fun j b hj hb => ?_, fun j k b hj hk hjk hb hb' => ?_⟩
  · rw [hX j] at hy
    have hCj := hC j
    show RInts.Own w _ (sub _ (j * 1) 1) y
    by_cases e1 : j < i
    · simp only [if_pos e1] at hy hCj ⊢
      rw [sub_eq_of_get hCj]
      exact h.row j y (by omega) hy
    · simp only [if_neg e1] at hy hCj ⊢
      by_cases e2 : j = i
      · simp only [if_pos e2] at hy hCj ⊢
        obtain rfl := Option.some.inj hy
        rw [sub_one_of hCj]; exact oa
      · simp only [if_neg e2] at hy hCj ⊢
        by_cases e3 : j = i + 1
        · simp only [if_pos e3] at hy hCj ⊢
          obtain rfl := Option.some.inj hy
          rw [sub_one_of hCj]; exact ob
        · simp only [if_neg e3] at hy hCj ⊢
          rw [sub_eq_of_get hCj]
          exact h.row (j - 1) y (by omega) hy
  · by_cases e1 : j < i
    · simp only [if_pos e1] at hb
      have := (h.rowF j b (by omega) hb).1
      exact ⟨h1 b this, fun e => (hout b e).1 this⟩
    · simp only [if_neg e1] at hb
      by_cases e2 : j = i
      · simp only [if_pos e2] at hb
        exact ⟨h2 b hb, fun e => (hout b e).2.1 hb⟩
      · simp only [if_neg e2] at hb
        by_cases e3 : j = i + 1
        · simp only [if_pos e3] at hb
          exact ⟨h3 b hb, fun e => (hout b e).2.2 hb⟩
        · simp only [if_neg e3] at hb
          have := (h.rowF (j - 1) b (by omega) hb).1
          exact ⟨h1 b this, fun e => (hout b e).1 this⟩
  · have key : ∀ j, j < n + 1 → (∃ o, o < n ∧ o ≠ i ∧ (j < i ∧ o = j ∨ i + 1 < j ∧ o = j - 1) ∧ (if j < i then G j else if j = i then HA else if j = i + 1 then HB else G (j - 1)) = G o) ∨ j = i ∨ j = i + 1 := fun j hj => by
      by_cases e1 : j < i
      · exact .inl ⟨j, by omega, by omega, .inl ⟨e1, rfl⟩, if_pos e1⟩
      · by_cases e2 : j = i
        · exact .inr (.inl e2)
        · by_cases e3 : j = i + 1
          · exact .inr (.inr e3)
          · exact .inl ⟨j - 1, by omega, by omega, .inr ⟨by omega, rfl⟩, by rw [if_neg e1, if_neg e2, if_neg e3]⟩
    have gi : (if i < i then G i else if i = i then HA else if i = i + 1 then HB else G (i - 1)) = HA := by rw [if_neg (by omega), if_pos rfl]
    have gi1 : (if i + 1 < i then G (i + 1) else if i + 1 = i then HA else if i + 1 = i + 1 then HB else G (i + 1 - 1)) = HB := by rw [if_neg (by omega), if_neg (by omega), if_pos rfl]
    rcases key j hj with ⟨o, o1, o2, o3, o4⟩ | rfl | rfl
    · rw [o4] at hb
      have hFb := (h.rowF o b o1 hb).1
      rcases key k hk with ⟨p, p1, p2, p3, p4⟩ | rfl | rfl
      · rw [p4] at hb'
        exact h.apart o p b o1 p1 (by omega) hb hb'
      · rw [gi] at hb'; exact hFA b hFb hb'
      · rw [gi1] at hb'; exact hFB b hFb hb'
    · rw [gi] at hb
      rcases key k hk with ⟨p, p1, p2, p3, p4⟩ | rfl | rfl
      · rw [p4] at hb'
        exact hFA b (h.rowF p b p1 hb').1 hb
      · exact hjk rfl
      · rw [gi1] at hb'; exact hAB b hb hb'
    · rw [gi1] at hb
      rcases key k hk with ⟨p, p1, p2, p3, p4⟩ | rfl | rfl
      · rw [p4] at hb'
        exact hFB b (h.rowF p b p1 hb').1 hb
      · rw [gi] at hb'; exact hAB b hb' hb
      · exact hjk rfl
end

end Go.Proofs.YtpnaoahlfhbbmaaDoor
