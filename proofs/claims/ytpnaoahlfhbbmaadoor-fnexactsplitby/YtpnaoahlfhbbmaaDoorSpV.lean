/- Contract of the model's l8Split. -/
import Derived.Test.YtpnaoahlfhbbmaaDoorSpW
namespace Go.Proofs.YtpnaoahlfhbbmaaDoor
open Go.RowKit

set_option maxRecDepth 100000 in
set_option maxHeartbeats 4000000 in
theorem l8Split_any (a : Option Addr) (n c : Nat) (xs : List Dep) (pa : Option Addr) (pn pc : Nat) (ps : List Int) (fa : Option Addr) (fn fc : Nat) (fs : List Int) (w : World) (hz : xs.length = n) (hn : n ≤ 1048576) (hs : Tolds xs) (ha : AtD w a xs)
    (hp : Told ps) (hpn : ps.length = pn) (hpa : At w pa ps) (hf : Told fs) (hfn : fs.length = fn) (hfa : At w fa fs) (hnil : fa = none → fc = 0) (hsb : sb (mk fs) (mk ps) = true) :
    Calls Tryd.prog 43 #[.slice a n c, .slice pa pn pc, .slice fa fn fc] w fun e w' => ∃ r m d r' m' d' mid, e = .returned (.tuple #[.slice r m d, .slice r' m' d']) ∧ w.heap.size ≤ mid ∧ mid ≤ w'.heap.size ∧
      RInts.Own w' (From mid w'.heap.size) [.slice r m d] (bl (told xs (mk fs) &&& mk ps)) ∧ RInts.Own w' (From w.heap.size mid) [.slice r' m' d'] (bl (mk fs ||| dif (mk ps) (told xs (mk fs)))) ∧ Below w.heap.size w w' := by
  obtain ⟨i0, hi, hz0, hz1, hz2⟩ := info_parts Tryd.infoInt
  have K := Hid.mk (l7Closure_any a n c xs fa fn fc fs w hz hn hs ha hf hfn hfa hnil)
  have hpl := hp.len
  have hfl := hf.len
  have HP := Hid.mk hp
  have HF := Hid.mk hf
  have HPN := Hid.mk hpn
  have HFN := Hid.mk hfn
  have HPA := Hid.mk hpa
  have HFA := Hid.mk hfa
  have HSB := Hid.mk hsb
  have hpn6 : pn ≤ 6 := by omega
  have hfn6 : fn ≤ 6 := by omega
  clear hz hs ha hp hpn hpa hf hfn hfa hnil hsb hpl hfl
  go_enter Tryd.func43, Tryd.ntmps43
  go_wp2_with fail
  refine K.out.mono ?_
  rintro e w1 ⟨T, r1, m1, d1, hT, rfl, hm1, ho1, hb1⟩
  have hm6 : m1 ≤ 6 := by rw [← hm1]; exact bl_len T
  have HT := Hid.mk hT
  have HM1 := Hid.mk hm1
  have HO1 := Hid.mk ho1
  have HB1 := Hid.mk hb1
  have z1 := hb1.size
  have HRB := Hid.mk (rest_bl (T := T) (P := mk ps) (F := mk fs) hT.lt HP.out.lt HF.out.lt HSB.out)
  rw [HP.out.is, HF.out.is] at HRB
  obtain ⟨q, hq⟩ : ∃ q : Int → Bool, (fun k => decide (k ∈ fs) || !decide (k ∈ bl T)) = q := ⟨_, rfl⟩
  have HQ : Hid (∀ k, q k = (decide (k ∈ fs) || !decide (k ∈ bl T))) := fun k => by rw [← hq]
  rw [hq] at HRB
  clear hT hm1 ho1 hb1 K hq
  go_wp2_with fail
  go_loopw [9, 17] (fun p i wx => ∃ (k m : Nat) (r : Option Addr) (d : Nat), k ≤ pn ∧ m ≤ k ∧ i = .int .i64 k ∧ p = .slice r m d ∧ ((ps.take k).filter q).length = m ∧ wx.ownsRow w1.heap.size 3 1 (.slice r m d) m (((ps.take k).filter q).map (.int .i64)) ∧ Below w1.heap.size w1 wx) (fun _ i _ => pn - (intOf i).toNat)
  case atStart => exact ⟨0, 0, none, 0, Nat.zero_le _, Nat.le_refl _, rfl, rfl, rfl, World.ownsRow_nil _ _ _ _, Below.refl _ _⟩
  case round =>
    obtain ⟨k, m, r, d, hk, hmk, rfl, rfl, hm, hown, hbw⟩ := hrel
    by_cases hlt : k < pn
    · obtain ⟨b, off, hab, hb, hc⟩ := (At.below (At.below HPA.out HB1.out) hbw).some (by have := HPN.out; omega)
      subst hab
      have hcx : wr.cell? ⟨b, off + k, none⟩ = some (.int .i64 (ps.getD k 0)) := hc k (by have := HPN.out; omega)
      have hft := filter_take (p := q) (zs := ps) (k := k) (by have := HPN.out; omega)
      obtain ⟨x, hx⟩ : ∃ x, x = ps.getD k 0 := ⟨_, rfl⟩
      rw [← hx] at hcx hft
      have HFT := Hid.mk hft
      have K := Hid.mk (l1Has_any fa fn fc fs x wr HFN.out (by omega) (At.below (At.below HFA.out HB1.out) hbw))
      have K2 := Hid.mk (l1Has_any r1 m1 d1 (bl T) x wr HM1.out (by omega) (At.below (At.owned HO1.out) hbw))
      have hki : (k : Int) < (pn : Int) := by omega
      have HOW := Hid.mk hown
      have HB := Hid.mk hbw
      have HM := Hid.mk hm
      have z := hbw.size
      have HY : Hid (q x = true → (ps.take (k + 1)).filter q = (ps.take k).filter q ++ [x]) := fun h => by rw [HFT.out, h]; rfl
      have HNO : Hid (q x = false → (ps.take (k + 1)).filter q = (ps.take k).filter q) := fun h => by rw [HFT.out, h]; rfl
      clear hown hbw hm hc hft hx
      go_wp2_with fail
      refine K.out.mono ?_
      rintro e w2 ⟨rfl, rfl⟩
      by_cases hs : x ∈ fs
      · rw [decide_eq_true hs]
        have HE := Hid.mk (HY.out (by rw [HQ.out, decide_eq_true hs]; rfl))
        clear hs
        go_wp2_with (at_builtin; refine wpList_append_lies _ rfl (.tmp 30) (.tmp 32) 23 rfl w1.heap.size 3 i0 (.int .i64 0) 1 8 Tryd.underlying23 hi hz0 hz1 hz2 rfl (by decide) _ _ _ rfl (HOW.out.alloc _) ⟨w2.heap.size, 0, none⟩ 1 1 [.int .i64 x] rfl rfl (news_at w2 _ _) (by intro u hu; simp at hu; subst hu; rfl) (by decide) (by unfold maxLen; omega) (by omega) (by simp; omega) (w2.heap.size + 1) (by simp) ?_)
        intro g3 cap3 w3 ho3 hg3 hat3 hlt3
        have HB3 : Hid (Below w1.heap.size w1 w3) := (HB.out.alloc z _).grown hg3 (by simp; omega) (fun j hj => (HOW.out.lt j hj).1)
        have HO3 : Hid (w3.ownsRow w1.heap.size 3 1 (.slice (some ⟨g3, 0, none⟩) (m + 1) cap3) (m + 1) (((ps.take (k + 1)).filter q).map (.int .i64))) := by
          show World.ownsRow _ _ _ _ _ _ _
          rw [HE.out, List.map_append]; exact ho3
        clear ho3 hg3 hat3 HOW HB K
        go_wp2
        go_roundw
        case rel => exact ⟨k + 1, m + 1, _, _, by omega, by omega, by go_num, rfl, by rw [HE.out, List.length_append, HM.out]; rfl, HO3.out, HB3.out⟩
        case measure => simp [intOf]; omega
      · rw [decide_eq_false hs]
        have HQX : Hid (q x = !decide (x ∈ bl T)) := by show _ = _; rw [HQ.out, decide_eq_false hs]; rfl
        clear hs
        go_wp2_with fail
        refine K2.out.mono ?_
        rintro e w2 ⟨rfl, rfl⟩
        by_cases hs : x ∈ bl T
        · rw [decide_eq_true hs]
          have HE := Hid.mk (HNO.out (by rw [HQX.out, decide_eq_true hs]; rfl))
          clear hs
          go_wp2
          go_roundw
          case rel => exact ⟨k + 1, m, r, d, by omega, by omega, by go_num, rfl, by rw [HE.out]; exact HM.out, by rw [HE.out]; exact HOW.out, HB.out⟩
          case measure => simp [intOf]; omega
        · rw [decide_eq_false hs]
          have HE := Hid.mk (HY.out (by rw [HQX.out, decide_eq_false hs]; rfl))
          clear hs
          go_wp2_with (at_builtin; refine wpList_append_lies _ rfl (.tmp 30) (.tmp 32) 23 rfl w1.heap.size 3 i0 (.int .i64 0) 1 8 Tryd.underlying23 hi hz0 hz1 hz2 rfl (by decide) _ _ _ rfl (HOW.out.alloc _) ⟨w2.heap.size, 0, none⟩ 1 1 [.int .i64 x] rfl rfl (news_at w2 _ _) (by intro u hu; simp at hu; subst hu; rfl) (by decide) (by unfold maxLen; omega) (by omega) (by simp; omega) (w2.heap.size + 1) (by simp) ?_)
          intro g3 cap3 w3 ho3 hg3 hat3 hlt3
          have HB3 : Hid (Below w1.heap.size w1 w3) := (HB.out.alloc z _).grown hg3 (by simp; omega) (fun j hj => (HOW.out.lt j hj).1)
          have HO3 : Hid (w3.ownsRow w1.heap.size 3 1 (.slice (some ⟨g3, 0, none⟩) (m + 1) cap3) (m + 1) (((ps.take (k + 1)).filter q).map (.int .i64))) := by
            show World.ownsRow _ _ _ _ _ _ _
            rw [HE.out, List.map_append]; exact ho3
          clear ho3 hg3 hat3 HOW HB K
          go_wp2
          go_roundw
          case rel => exact ⟨k + 1, m + 1, _, _, by omega, by omega, by go_num, rfl, by rw [HE.out, List.length_append, HM.out]; rfl, HO3.out, HB3.out⟩
          case measure => simp [intOf]; omega
    · obtain rfl : k = pn := by omega
      rw [List.take_of_length_le (by have := HPN.out; omega), HRB.out] at hown hm
      have hkk : ¬ (k : Int) < (k : Int) := by omega
      have K3 := Hid.mk (l8Within_any r1 m1 d1 (bl T) pa k pc ps wr HM1.out (by omega) (At.below (At.owned HO1.out) hbw) HPN.out (by omega) (At.below (At.below HPA.out HB1.out) hbw))
      have hwb := within_bl (T := T) (P := mk ps) HT.out.lt HP.out.lt
      rw [HP.out.is] at hwb
      rw [hwb] at K3
      have HTE : Hid (told xs (mk fs) = T) := HT.out.clo_eq
      have HOW := Hid.mk hown
      have HM := Hid.mk hm
      have HB := Hid.mk hbw
      have z := hbw.size
      clear hown hm hbw hwb
      go_wp2_with fail
      refine K3.out.mono ?_
      rintro e w5 ⟨r5, m5, d5, rfl, hm5, ho5, hb5⟩
      have hB5 := (HB1.out.trans (HB.out.mono HB1.out.size)).trans (hb5.mono (by omega))
      have HB5 := Hid.mk hB5
      have z5 := hb5.size
      have HA5 : Hid (RInts.Own w5 (From wr.heap.size w5.heap.size) [.slice r5 m5 d5] (bl (told xs (mk fs) &&& mk ps))) := by
        rw [HTE.out]
        exact RInts.of_owns hm5 (by have := bl_len (T &&& mk ps); omega) ho5
      have HC5 : Hid (RInts.Own w5 (From w.heap.size wr.heap.size) [.slice r m d] (bl (mk fs ||| dif (mk ps) (told xs (mk fs))))) := by
        rw [HTE.out]
        exact RInts.ownBelow (RInts.mono (RInts.of_owns HM.out (by omega) HOW.out) (fun b h => ⟨by have := h.1; omega, h.2⟩)) hb5
      clear hm5 ho5 hb5 hB5 K3
      go_wp2
      exact bodyPost_ret (v := .tuple #[.slice r5 m5 d5, .slice r m d]) (by simp [results, Tryd.results43, go_sem]) rfl ⟨r5, m5, d5, r, m, d, wr.heap.size, rfl, by omega, z5, HA5.out, HC5.out, HB5.out⟩

end Go.Proofs.YtpnaoahlfhbbmaaDoor
