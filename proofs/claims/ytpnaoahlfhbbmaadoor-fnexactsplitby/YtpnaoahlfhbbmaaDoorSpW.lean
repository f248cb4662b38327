/- Contracts of the model's l8Within, l8Splits, l8Split. -/
import Derived.Test.YtpnaoahlfhbbmaaDoorPrtG
namespace Go.Proofs.YtpnaoahlfhbbmaaDoor
open Go.RowKit

theorem filter_take {p : Int → Bool} {zs : List Int} {k : Nat} (h : k < zs.length) : (zs.take (k + 1)).filter p = if p (zs.getD k 0) then (zs.take k).filter p ++ [zs.getD k 0] else (zs.take k).filter p := by
  rw [List.take_succ_eq_append_getElem h, List.filter_append]
  have e : zs.getD k 0 = zs[k] := by simp [List.getD, h]
  rw [e]
  cases hp : p zs[k] <;> simp [hp]

set_option maxRecDepth 100000 in
set_option maxHeartbeats 2000000 in
theorem l8Within_any (a : Option Addr) (n c : Nat) (zs : List Int) (oa : Option Addr) (on oc : Nat) (os : List Int) (w : World) (hz : zs.length = n) (hn : n ≤ 64) (ha : At w a zs) (ho : os.length = on) (hon : on ≤ 9223372036854775807) (hoa : At w oa os) :
    Calls Tryd.prog 57 #[.slice a n c, .slice oa on oc] w fun e w' => ∃ r m d, e = .returned (.slice r m d) ∧ (zs.filter fun k => decide (k ∈ os)).length = m ∧ w'.ownsRow w.heap.size 3 1 (.slice r m d) m ((zs.filter fun k => decide (k ∈ os)).map (.int .i64)) ∧ Below w.heap.size w w' := by
  obtain ⟨i0, hi, hz0, hz1, hz2⟩ := info_parts Tryd.infoInt
  have HZ := Hid.mk hz
  have HA := Hid.mk ha
  have HO := Hid.mk ho
  have HOA := Hid.mk hoa
  clear hz ha ho hoa
  go_enter Tryd.func57, Tryd.ntmps57
  go_wp2_with fail
  go_loopw [5, 10] (fun p i wx => ∃ (k m : Nat) (r : Option Addr) (d : Nat), k ≤ n ∧ m ≤ k ∧ i = .int .i64 k ∧ p = .slice r m d ∧ ((zs.take k).filter fun k => decide (k ∈ os)).length = m ∧ wx.ownsRow w.heap.size 3 1 (.slice r m d) m (((zs.take k).filter fun k => decide (k ∈ os)).map (.int .i64)) ∧ Below w.heap.size w wx) (fun _ i _ => n - (intOf i).toNat)
  case atStart => exact ⟨0, 0, none, 0, Nat.zero_le _, Nat.le_refl _, rfl, rfl, rfl, World.ownsRow_nil _ _ _ _, Below.refl _ _⟩
  case round =>
    obtain ⟨k, m, r, d, hk, hmk, rfl, rfl, hm, hown, hbw⟩ := hrel
    by_cases hlt : k < n
    · obtain ⟨b, off, hab, hb, hc⟩ := (At.below HA.out hbw).some (by have := HZ.out; omega)
      subst hab
      have hcx : wr.cell? ⟨b, off + k, none⟩ = some (.int .i64 (zs.getD k 0)) := hc k (by have := HZ.out; omega)
      have hft := filter_take (p := fun k => decide (k ∈ os)) (zs := zs) (k := k) (by have := HZ.out; omega)
      obtain ⟨x, hx⟩ : ∃ x, x = zs.getD k 0 := ⟨_, rfl⟩
      rw [← hx] at hcx hft
      have HFT := Hid.mk hft
      have K := Hid.mk (l1Has_any oa on oc os x wr HO.out hon (At.below HOA.out hbw))
      have hki : (k : Int) < (n : Int) := by omega
      have HOW := Hid.mk hown
      have HB := Hid.mk hbw
      have HM := Hid.mk hm
      have z := hbw.size
      clear hown hbw hm hc hft hx
      go_wp2_with fail
      refine K.out.mono ?_
      rintro e w1 ⟨rfl, rfl⟩
      by_cases hs : x ∈ os
      · rw [decide_eq_true hs]
        have HE : Hid ((zs.take (k + 1)).filter (fun k => decide (k ∈ os)) = (zs.take k).filter (fun k => decide (k ∈ os)) ++ [x]) := by show _ = _; rw [HFT.out, decide_eq_true hs]; rfl
        clear hs
        go_wp2_with (at_builtin; refine wpList_append_lies _ rfl (.tmp 17) (.tmp 19) 23 rfl w.heap.size 3 i0 (.int .i64 0) 1 8 Tryd.underlying23 hi hz0 hz1 hz2 rfl (by decide) _ _ _ rfl (HOW.out.alloc _) ⟨w1.heap.size, 0, none⟩ 1 1 [.int .i64 x] rfl rfl (news_at w1 _ _) (by intro u hu; simp at hu; subst hu; rfl) (by decide) (by unfold maxLen; omega) (by omega) (by simp; omega) (w1.heap.size + 1) (by simp) ?_)
        intro g3 cap3 w3 ho3 hg3 hat3 hlt3
        have HB3 : Hid (Below w.heap.size w w3) := (HB.out.alloc z _).grown hg3 (by simp; omega) (fun j hj => (HOW.out.lt j hj).1)
        have HO3 : Hid (w3.ownsRow w.heap.size 3 1 (.slice (some ⟨g3, 0, none⟩) (m + 1) cap3) (m + 1) (((zs.take (k + 1)).filter fun k => decide (k ∈ os)).map (.int .i64))) := by
          show World.ownsRow _ _ _ _ _ _ _
          rw [HE.out, List.map_append]; exact ho3
        clear ho3 hg3 hat3 HOW HB K
        go_wp2
        go_roundw
        case rel => exact ⟨k + 1, m + 1, _, _, by omega, by omega, by go_num, rfl, by rw [HE.out, List.length_append, HM.out]; rfl, HO3.out, HB3.out⟩
        case measure => simp [intOf]; omega
      · rw [decide_eq_false hs]
        have HE : Hid ((zs.take (k + 1)).filter (fun k => decide (k ∈ os)) = (zs.take k).filter (fun k => decide (k ∈ os))) := by show _ = _; rw [HFT.out, decide_eq_false hs]; rfl
        clear hs
        go_wp2
        go_roundw
        case rel => exact ⟨k + 1, m, r, d, by omega, by omega, by go_num, rfl, by rw [HE.out]; exact HM.out, by rw [HE.out]; exact HOW.out, HB.out⟩
        case measure => simp [intOf]; omega
    · obtain rfl : k = n := by omega
      rw [List.take_of_length_le (by have := HZ.out; omega)] at hown hm
      have hkk : ¬ (k : Int) < (k : Int) := by omega
      have HOW := Hid.mk hown
      have HM := Hid.mk hm
      clear hown hm
      go_wp2
      go_ret
      exact ⟨r, m, d, rfl, HM.out, HOW.out, hbw⟩

/-- What F tells. -/
noncomputable abbrev told (xs : List Dep) (F : Nat) : Nat := clo (dms xs) F

set_option maxRecDepth 100000 in
set_option maxHeartbeats 2000000 in
theorem l8Splits_any (a : Option Addr) (n c : Nat) (xs : List Dep) (pa : Option Addr) (pn pc : Nat) (ps : List Int) (fa : Option Addr) (fn fc : Nat) (fs : List Int) (w : World) (hz : xs.length = n) (hn : n ≤ 1048576) (hs : Tolds xs) (ha : AtD w a xs)
    (hp : Told ps) (hpn : ps.length = pn) (hpa : At w pa ps) (hf : Told fs) (hfn : fs.length = fn) (hfa : At w fa fs) (hnil : fa = none → fc = 0) (hsb : sb (mk fs) (mk ps) = true) :
    Calls Tryd.prog 42 #[.slice a n c, .slice pa pn pc, .slice fa fn fc] w fun e w' => e = .returned (.bool (spOk (told xs (mk fs)) (mk ps) (mk fs))) ∧ IsClo (dms xs) (mk fs) (told xs (mk fs)) ∧ Below w.heap.size w w' := by
  have K := Hid.mk (l7Closure_any a n c xs fa fn fc fs w hz hn hs ha hf hfn hfa hnil)
  have hpl := hp.len
  have HP := Hid.mk hp
  have HF := Hid.mk hf
  have HPN := Hid.mk hpn
  have HFN := Hid.mk hfn
  have HPA := Hid.mk hpa
  have HSB := Hid.mk hsb
  have hpn6 : pn ≤ 6 := by omega
  clear hz hs ha hp hpn hpa hf hfn hfa hnil hsb hpl
  go_enter Tryd.func42, Tryd.ntmps42
  go_wp2_with fail
  refine K.out.mono ?_
  rintro e w1 ⟨T, r1, m1, d1, hT, rfl, hm1, ho1, hb1⟩
  have hm6 : m1 ≤ 6 := by rw [← hm1]; exact bl_len T
  have K2 := Hid.mk (l8Within_any r1 m1 d1 (bl T) pa pn pc ps w1 hm1 (by omega) (At.owned ho1) HPN.out (by omega) (At.below HPA.out hb1))
  have hwb := within_bl (T := T) (P := mk ps) hT.lt HP.out.lt
  rw [HP.out.is] at hwb
  rw [hwb] at K2
  have HSP : Hid (spOk (told xs (mk fs)) (mk ps) (mk fs) = (decide (fn < (bl (T &&& mk ps)).length) && decide ((bl (T &&& mk ps)).length < pn))) := by
    show _ = _
    have h9 := spOk_len (T := T) (P := mk ps) (F := mk fs) hT.lt HP.out.lt HF.out.lt HSB.out hT.has
    rw [HF.out.is, HP.out.is, HFN.out, HPN.out] at h9
    rw [show told xs (mk fs) = T from hT.clo_eq]; exact h9
  have HT : Hid (IsClo (dms xs) (mk fs) (told xs (mk fs))) := hT.is
  have HB1 := Hid.mk hb1
  clear hT hm1 ho1 hb1 hwb K
  go_wp2_with fail
  refine K2.out.mono ?_
  rintro e w2 ⟨r2, m2, d2, rfl, hm2, ho2, hb2⟩
  have HR : Hid (spOk (told xs (mk fs)) (mk ps) (mk fs) = (decide (fn < m2) && decide (m2 < pn))) := by show _ = _; rw [HSP.out, hm2]
  have HB2 := Hid.mk (HB1.out.trans (hb2.mono HB1.out.size))
  clear hm2 ho2 hb2 K2 HSP
  by_cases c1 : fn < m2
  · have c1' : (fn : Int) < (m2 : Int) := by omega
    by_cases c2 : m2 < pn
    · have c2' : (m2 : Int) < (pn : Int) := by omega
      go_wp2
      go_ret
      exact ⟨by rw [HR.out, decide_eq_true c1, decide_eq_true c2]; rfl, HT.out, HB2.out⟩
    · have c2' : ¬ (m2 : Int) < (pn : Int) := by omega
      go_wp2
      go_ret
      exact ⟨by rw [HR.out, decide_eq_false c2]; simp, HT.out, HB2.out⟩
  · have c1' : ¬ (fn : Int) < (m2 : Int) := by omega
    go_wp2
    go_ret
    exact ⟨by rw [HR.out, decide_eq_false c1]; rfl, HT.out, HB2.out⟩

end Go.Proofs.YtpnaoahlfhbbmaaDoor
