/- Contracts of SplitBy, the program's and the model's. -/
import Derived.Test.YtpnaoahlfhbbmaaDoorSpV
import Derived.Test.YtpnaoahlfhbbmaaDoorTzI
import Derived.Test.YtpnaoahlfhbbmaaDoorIntsR
namespace Go.Proofs.YtpnaoahlfhbbmaaDoor
open Go.RowKit

/-- Two lists of numbers, each in its own blocks, and a bool. -/
def Ints2Ret (e : Ending) (w' : World) (lo : Nat) (ok : Bool) (ta tb : List Int) : Prop :=
  ∃ r m d r' m' d' l1 h1 l2 h2, e = .returned (.tuple #[.slice r m d, .slice r' m' d', .bool ok]) ∧ ta.length = m ∧ tb.length = m' ∧ RInts.Own w' (From l1 h1) [.slice r m d] ta ∧ RInts.Own w' (From l2 h2) [.slice r' m' d'] tb ∧
    lo ≤ l1 ∧ l1 ≤ h1 ∧ h1 ≤ w'.heap.size ∧ lo ≤ l2 ∧ l2 ≤ h2 ∧ h2 ≤ w'.heap.size ∧ (h1 ≤ l2 ∨ h2 ≤ l1)
noncomputable def splB (xs : List Dep) (C : Int) (ps fs : List Int) : Bool := prtB xs C ps && (ris C fs && spOk (told xs (mk fs)) (mk ps) (mk fs))
noncomputable def splL (xs : List Dep) (C : Int) (ps fs : List Int) : List Int := if splB xs C ps fs then bl (told xs (mk fs) &&& mk ps) else []
noncomputable def splR (xs : List Dep) (C : Int) (ps fs : List Int) : List Int := if splB xs C ps fs then bl (mk fs ||| dif (mk ps) (told xs (mk fs))) else []
theorem splL_len (xs : List Dep) (C : Int) (ps fs : List Int) : (splL xs C ps fs).length ≤ 6 := by unfold splL; split; exact bl_len _; simp
theorem splR_len (xs : List Dep) (C : Int) (ps fs : List Int) : (splR xs C ps fs).length ≤ 6 := by unfold splR; split; exact bl_len _; simp
theorem RInts.own_nil (w : World) (F : Nat → Prop) : RInts.Own w F [.slice none 0 0] [] := ⟨none, 0, 0, [], fun _ _ => False, rfl, Laid.none _ _ _ _⟩
theorem Ints2Ret.no {w' : World} {lo : Nat} {xs : List Dep} {C : Int} {ps fs : List Int} (h : splB xs C ps fs = false) (hl : lo ≤ w'.heap.size) : Ints2Ret (.returned (.tuple #[.slice none 0 0, .slice none 0 0, .bool false])) w' lo (splB xs C ps fs) (splL xs C ps fs) (splR xs C ps fs) := by
  unfold splL splR
  rw [h]
  exact ⟨none, 0, 0, none, 0, 0, lo, lo, lo, lo, rfl, rfl, rfl, RInts.own_nil _ _, RInts.own_nil _ _, Nat.le_refl _, Nat.le_refl _, hl, Nat.le_refl _, Nat.le_refl _, hl, .inl (Nat.le_refl _)⟩
theorem prtB_C {xs : List Dep} {C : Int} {ps : List Int} (h : prtB xs C ps = true) : goodDeps xs C = true ∧ ris C ps = true ∧ C ≤ 6 := by
  unfold prtB at h
  rw [Bool.and_eq_true] at h
  exact ⟨h.1, h.2, (goodDeps_C h.1).2.1⟩

set_option maxRecDepth 100000 in
set_option maxHeartbeats 4000000 in
theorem specSplitBy (a : Option Addr) (n c : Nat) (xs : List Dep) (C : Int) (pa : Option Addr) (pn pc : Nat) (ps : List Int) (fa : Option Addr) (fn fc : Nat) (fs : List Int) (w : World) (hz : xs.length = n) (hn : n ≤ 1048576) (ha : AtD w a xs)
    (hpn : ps.length = pn) (hpb : pn ≤ 1048576) (hpa : At w pa ps) (hfn : fs.length = fn) (hfb : fn ≤ 1048576) (hfa : At w fa fs) (hnil : fa = none → fc = 0) :
    Calls Tryd.prog 19 #[.slice a n c, .int .i64 C, .slice pa pn pc, .slice fa fn fc] w fun e w' => Ints2Ret e w' w.heap.size (splB xs C ps fs) (splL xs C ps fs) (splR xs C ps fs) ∧ Below w.heap.size w w' := by
  have K1 := Hid.mk (l8Part_any a n c xs C pa pn pc ps w hz (by omega) ha hpn (by omega) hpa)
  have HZ := Hid.mk hz
  have HA := Hid.mk ha
  have HPN := Hid.mk hpn
  have HPA := Hid.mk hpa
  have HFN := Hid.mk hfn
  have HFA := Hid.mk hfa
  have HNIL := Hid.mk hnil
  clear hz ha hpn hpa hfn hfa hnil
  go_enter Tryd.func19, Tryd.ntmps19
  go_wp2_with fail
  refine K1.out.mono ?_
  rintro e w1 ⟨rfl, B1⟩
  cases h1 : prtB xs C ps with
  | false =>
    have HN : Hid (splB xs C ps fs = false) := by show _ = _; unfold splB; rw [h1]; rfl
    have HR := Hid.mk (Ints2Ret.no HN.out B1.size)
    go_wp2
    exact bodyPost_ret (v := .tuple #[.slice none 0 0, .slice none 0 0, .bool false]) (by simp [results, Tryd.results19, go_sem]) rfl ⟨HR.out, B1⟩
  | true =>
    obtain ⟨g1, g2, g3⟩ := prtB_C h1
    have K2 := Hid.mk (l1Some_any fa fn fc fs C w1 HFN.out (by omega) (At.below HFA.out B1))
    have HB1 := Hid.mk B1
    clear B1
    go_wp2_with fail
    refine K2.out.mono ?_
    rintro e w2 ⟨rfl, hb2⟩
    have HB2 := Hid.mk (HB1.out.trans (hb2.mono HB1.out.size))
    clear hb2 HB1
    cases h2 : ris C fs with
    | false =>
      have HN : Hid (splB xs C ps fs = false) := by show _ = _; unfold splB; rw [h1, h2]; rfl
      have HR := Hid.mk (Ints2Ret.no HN.out HB2.out.size)
      go_wp2
      exact bodyPost_ret (v := .tuple #[.slice none 0 0, .slice none 0 0, .bool false]) (by simp [results, Tryd.results19, go_sem]) rfl ⟨HR.out, HB2.out⟩
    | true =>
      have HTP := Hid.mk (Told.of g3 g2)
      have HTF := Hid.mk (Told.of g3 h2)
      have K3 := Hid.mk (l7All_any pa pn pc ps fa fn fc fs w2 HPN.out (by omega) (At.below HPA.out HB2.out) HFN.out (by omega) (At.below HFA.out HB2.out))
      have hall : (fs.all fun k => decide (k ∈ ps)) = sb (mk fs) (mk ps) := by
        have h9 := all_bl (D := mk fs) (T := mk ps) HTF.out.lt
        rw [HTF.out.is, HTP.out.is] at h9
        exact h9
      rw [hall] at K3
      clear hall
      go_wp2_with fail
      refine K3.out.mono ?_
      rintro e w3 ⟨rfl, hw3⟩
      obtain rfl := hw3.symm
      clear hw3
      cases h3 : sb (mk fs) (mk ps) with
      | false =>
        have HN : Hid (splB xs C ps fs = false) := by show _ = _; unfold splB spOk; rw [h1, h2, h3]; rfl
        have HR := Hid.mk (Ints2Ret.no HN.out HB2.out.size)
        go_wp2
        exact bodyPost_ret (v := .tuple #[.slice none 0 0, .slice none 0 0, .bool false]) (by simp [results, Tryd.results19, go_sem]) rfl ⟨HR.out, HB2.out⟩
      | true =>
        have K4 := Hid.mk (l8Splits_any a n c xs pa pn pc ps fa fn fc fs w2 HZ.out hn (Tolds.of g1) (AtSl.below HA.out HB2.out) HTP.out HPN.out (At.below HPA.out HB2.out) HTF.out HFN.out (At.below HFA.out HB2.out) HNIL.out h3)
        go_wp2_with fail
        refine K4.out.mono ?_
        rintro e w4 ⟨rfl, _, hb4⟩
        have HB4 := Hid.mk (HB2.out.trans (hb4.mono HB2.out.size))
        clear hb4 K4
        cases h4 : spOk (told xs (mk fs)) (mk ps) (mk fs) with
        | false =>
          have HN : Hid (splB xs C ps fs = false) := by show _ = _; unfold splB; rw [h1, h2, h4]; rfl
          have HR := Hid.mk (Ints2Ret.no HN.out HB4.out.size)
          go_wp2
          exact bodyPost_ret (v := .tuple #[.slice none 0 0, .slice none 0 0, .bool false]) (by simp [results, Tryd.results19, go_sem]) rfl ⟨HR.out, HB4.out⟩
        | true =>
          have HY : Hid (splB xs C ps fs = true) := by show _ = _; unfold splB; rw [h1, h2, h4]; rfl
          have K5 := Hid.mk (l8Split_any a n c xs pa pn pc ps fa fn fc fs w4 HZ.out hn (Tolds.of g1) (AtSl.below HA.out HB4.out) HTP.out HPN.out (At.below HPA.out HB4.out) HTF.out HFN.out (At.below HFA.out HB4.out) HNIL.out h3)
          go_wp2_with fail
          refine K5.out.mono ?_
          rintro e w5 ⟨r5, m5, d5, r6, m6, d6, mid, rfl, hm1, hm2, ho5, ho6, hb5⟩
          have HB5 := Hid.mk (HB4.out.trans (hb5.mono HB4.out.size))
          have HR : Hid (Ints2Ret (.returned (.tuple #[.slice r5 m5 d5, .slice r6 m6 d6, .bool true])) w5 w.heap.size (splB xs C ps fs) (splL xs C ps fs) (splR xs C ps fs)) := by
            unfold splL splR
            rw [HY.out, if_pos rfl, if_pos rfl]
            have z4 := HB4.out.size
            exact ⟨r5, m5, d5, r6, m6, d6, mid, w5.heap.size, w4.heap.size, mid, rfl, (RInts.at_iff.1 (RInts.toAt ho5)).1, (RInts.at_iff.1 (RInts.toAt ho6)).1, ho5, ho6, by omega, hm2, Nat.le_refl _, z4, hm1, hm2, .inr (Nat.le_refl _)⟩
          clear ho5 ho6 hb5 hm1 hm2 K5
          go_wp2
          exact bodyPost_ret (v := .tuple #[.slice r5 m5 d5, .slice r6 m6 d6, .bool true]) (by simp [results, Tryd.results19, go_sem]) rfl ⟨HR.out, HB5.out⟩

set_option maxRecDepth 100000 in
set_option maxHeartbeats 4000000 in
theorem implSplitBy (a : Option Addr) (n c : Nat) (xs : List Dep) (C : Int) (pa : Option Addr) (pn pc : Nat) (ps : List Int) (fa : Option Addr) (fn fc : Nat) (fs : List Int) (w : World) (hz : xs.length = n) (hn : n ≤ 1048576) (ha : AtD w a xs)
    (hpn : ps.length = pn) (hpb : pn ≤ 1048576) (hpa : At w pa ps) (hfn : fs.length = fn) (hfb : fn ≤ 1048576) (hfa : At w fa fs) (htab : TabB w) :
    Calls Tryd.prog 20 #[.slice a n c, .int .i64 C, .slice pa pn pc, .slice fa fn fc] w fun e w' => Ints2Ret e w' w.heap.size (splB xs C ps fs) (splL xs C ps fs) (splR xs C ps fs) ∧ Below w.heap.size w w' := by
  have K1 := Hid.mk (goodPart_any a n c xs C pa pn pc ps w hz (by omega) ha hpn (by omega) hpa)
  have HZ := Hid.mk hz
  have HA := Hid.mk ha
  have HPN := Hid.mk hpn
  have HPA := Hid.mk hpa
  have HFN := Hid.mk hfn
  have HFA := Hid.mk hfa
  have HT := Hid.mk htab
  clear hz ha hpn hpa hfn hfa htab
  go_enter Tryd.func20, Tryd.ntmps20
  go_wp2_with fail
  refine K1.out.mono ?_
  rintro e w1 ⟨rfl, B1⟩
  cases h1 : prtB xs C ps with
  | false =>
    have HN : Hid (splB xs C ps fs = false) := by show _ = _; unfold splB; rw [h1]; rfl
    have HR := Hid.mk (Ints2Ret.no HN.out B1.size)
    go_wp2
    exact bodyPost_ret (v := .tuple #[.slice none 0 0, .slice none 0 0, .bool false]) (by simp [results, Tryd.results20, go_sem]) rfl ⟨HR.out, B1⟩
  | true =>
    obtain ⟨g1, g2, g3⟩ := prtB_C h1
    have K2 := Hid.mk (areRising_any fa fn fc fs C w1 HFN.out (by omega) (At.below HFA.out B1))
    have HB1 := Hid.mk B1
    clear B1
    go_wp2_with fail
    refine K2.out.mono ?_
    rintro e w2 ⟨rfl, hb2⟩
    have HB2 := Hid.mk (HB1.out.trans (hb2.mono HB1.out.size))
    clear hb2 HB1
    cases h2 : ris C fs with
    | false =>
      have HN : Hid (splB xs C ps fs = false) := by show _ = _; unfold splB; rw [h1, h2]; rfl
      have HR := Hid.mk (Ints2Ret.no HN.out HB2.out.size)
      go_wp2
      exact bodyPost_ret (v := .tuple #[.slice none 0 0, .slice none 0 0, .bool false]) (by simp [results, Tryd.results20, go_sem]) rfl ⟨HR.out, HB2.out⟩
    | true =>
      have HTP := Hid.mk (Told.of g3 g2)
      have HTF := Hid.mk (Told.of g3 h2)
      have HLX : Hid ((dms xs).length = n) := by show _ = _; simp [dms]; exact HZ.out
      have K3 := Hid.mk (tellingsOf_any a n c xs w2 HZ.out hn (Cols.of g1) (AtSl.below HA.out HB2.out))
      have HSS := Hid.mk (Cols.of g1).sets
      have HSB : Hid (splB xs C ps fs = spOk (told xs (mk fs)) (mk ps) (mk fs)) := by show _ = _; unfold splB; rw [h1, h2]; rfl
      have hP6 := HTP.out.lt
      have hF6 := HTF.out.lt
      go_wp2_with fail
      refine K3.out.mono ?_
      rintro e w3 ⟨r3, d3, rfl, hat3, hb3⟩
      have HB3 := Hid.mk (HB2.out.trans (hb3.mono HB2.out.size))
      have HA3 := Hid.mk hat3
      clear hat3 hb3 K3 HB2
      go_wp2_with fail
      refine (setOf_any pa pn pc ps w3 HPN.out (by omega) HTP.out.in (At.below HPA.out HB3.out)).mono ?_
      rintro e w4 ⟨rfl, hw4⟩
      obtain rfl := hw4.symm
      clear hw4
      go_wp2_with fail
      refine (setOf_any fa fn fc fs w3 HFN.out (by omega) HTF.out.in (At.below HFA.out HB3.out)).mono ?_
      rintro e w4 ⟨rfl, hw4⟩
      obtain rfl := hw4.symm
      clear hw4
      go_wp2_with fail
      refine (splitSet_any r3 n d3 (dms xs) (mk ps) (mk fs) w3 HLX.out (by omega) HSS.out hP6 hF6 HA3.out).mono ?_
      rintro e w5 ⟨T, hT, rfl, hb5⟩
      have HB5 := Hid.mk (HB3.out.trans (hb5.mono HB3.out.size))
      have hA6 := spA_lt (T := T) (P := mk ps) (F := mk fs) hT.lt
      have hB6 := spB_lt (T := T) (P := mk ps) (F := mk fs) hP6 hF6
      have HTE : Hid (told xs (mk fs) = T) := hT.clo_eq
      have HL : Hid (splL xs C ps fs = bl (spA T (mk ps) (mk fs))) := by
        show _ = _
        unfold splL spA; rw [HSB.out, HTE.out]
        split
        · rfl
        · exact bl_zero.symm
      have HRR : Hid (splR xs C ps fs = bl (spB T (mk ps) (mk fs))) := by
        show _ = _
        unfold splR spB; rw [HSB.out, HTE.out]
        split
        · rfl
        · exact bl_zero.symm
      have HOK : Hid (splB xs C ps fs = spOk T (mk ps) (mk fs)) := by show _ = _; rw [HSB.out, HTE.out]
      obtain ⟨A, hA⟩ : ∃ A, spA T (mk ps) (mk fs) = A := ⟨_, rfl⟩
      obtain ⟨B, hB⟩ : ∃ B, spB T (mk ps) (mk fs) = B := ⟨_, rfl⟩
      obtain ⟨ok, hok⟩ : ∃ ok, spOk T (mk ps) (mk fs) = ok := ⟨_, rfl⟩
      rw [hA] at hA6 HL
      rw [hB] at hB6 HRR
      rw [hok] at HOK
      rw [hA, hB, hok]
      clear hT hb5 hA hB hok HB3 HTE HSB
      go_wp2_with fail
      refine (list_any A w5 hA6 (TabIs.below HT.out HB5.out)).mono ?_
      rintro e w6 ⟨r6, m6, d6, rfl, hm6, ho6, hb6⟩
      have HB6 := Hid.mk (HB5.out.trans (hb6.mono HB5.out.size))
      have HO6 := Hid.mk (RInts.of_owns hm6 (by have := bl_len A; omega) ho6)
      have HM6 := Hid.mk hm6
      have z6 := hb6.size
      clear hm6 ho6 hb6
      go_wp2_with fail
      refine (list_any B w6 hB6 (TabIs.below HT.out HB6.out)).mono ?_
      rintro e w7 ⟨r7, m7, d7, rfl, hm7, ho7, hb7⟩
      have HB7 := Hid.mk (HB6.out.trans (hb7.mono HB6.out.size))
      have HR : Hid (Ints2Ret (.returned (.tuple #[.slice r6 m6 d6, .slice r7 m7 d7, .bool ok])) w7 w.heap.size (splB xs C ps fs) (splL xs C ps fs) (splR xs C ps fs)) := by
        rw [HOK.out, HL.out, HRR.out]
        have z5 := HB5.out.size
        have z7 := hb7.size
        exact ⟨r6, m6, d6, r7, m7, d7, w5.heap.size, w6.heap.size, w6.heap.size, w7.heap.size, rfl, HM6.out, hm7, RInts.ownBelow HO6.out hb7, RInts.of_owns hm7 (by have := bl_len B; omega) ho7, z5, z6, z7, by omega, z7, Nat.le_refl _, .inl (Nat.le_refl _)⟩
      clear hm7 ho7 hb7
      go_wp2
      exact bodyPost_ret (v := .tuple #[.slice r6 m6 d6, .slice r7 m7 d7, .bool ok]) (by simp [results, Tryd.results20, go_sem]) rfl ⟨HR.out, HB7.out⟩

end Go.Proofs.YtpnaoahlfhbbmaaDoor
