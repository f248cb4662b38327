/- Contracts of ClosureOf, the program's and the model's. -/
import Derived.Test.YtkcfhlpdenjimaaDoorCloC
import Derived.Test.YtkcfhlpdenjimaaDoorTzI
import Derived.Test.YtkcfhlpdenjimaaDoorIntsR
namespace Go.Proofs.YtkcfhlpdenjimaaDoor
open Go.RowKit

def clB (xs : List Dep) (C : Int) (fs : List Int) : Bool := goodDeps xs C && ris C fs
noncomputable def clL (xs : List Dep) (C : Int) (fs : List Int) : List Int := if clB xs C fs then bl (clo (dms xs) (mk fs)) else []
theorem clL_len (xs : List Dep) (C : Int) (fs : List Int) : (clL xs C fs).length ≤ 6 := by unfold clL; split; exact bl_len _; simp
theorem goodDeps_C' {xs : List Dep} {C : Int} (h : goodDeps xs C = true) : C ≤ 6 := by
  simp only [goodDeps, Bool.and_eq_true, decide_eq_true_eq] at h
  exact h.2.1

set_option maxRecDepth 100000 in
set_option maxHeartbeats 2000000 in
theorem specClosureOf (a : Option Addr) (n c : Nat) (xs : List Dep) (C : Int) (fa : Option Addr) (fn fc : Nat) (fs : List Int) (w : World) (hz : xs.length = n) (hn : n ≤ 1048576) (ha : AtD w a xs) (hfn : fs.length = fn) (hfb : fn ≤ 1048576) (hfa : At w fa fs) (hnil : fa = none → fc = 0) :
    Calls Tryd.prog 8 #[.slice a n c, .int .i64 C, .slice fa fn fc] w fun e w' => IntsRet e w' w.heap.size (clB xs C fs) (clL xs C fs) ∧ Below w.heap.size w w' := by
  have HA := Hid.mk ha
  have HF := Hid.mk hfa
  have HZ := Hid.mk (And.intro hz hfn)
  have HN := Hid.mk hnil
  clear ha hfa hz hfn hnil
  go_enter Tryd.func8, Tryd.ntmps8
  go_wp2_with fail
  refine (specGoodDepends a n c xs C w HZ.out.1 (by omega) HA.out).mono ?_
  rintro e w1 ⟨rfl, B1⟩
  cases hg1 : goodDeps xs C with
  | false =>
    have hb : clB xs C fs = false := by unfold clB; rw [hg1]; rfl
    have HR : Hid (IntsRet (.returned (.tuple #[.slice none 0 0, .bool false])) w1 w.heap.size (clB xs C fs) (clL xs C fs)) := by
      unfold clL; rw [hb]; exact ⟨none, 0, 0, rfl, rfl, World.ownsRow_nil _ _ _ _⟩
    clear hb
    go_wp2
    exact bodyPost_ret (v := .tuple #[.slice none 0 0, .bool false]) (by simp [results, Tryd.results8, go_sem]) rfl ⟨HR.out, B1⟩
  | true =>
    go_wp2_with fail
    refine (l1Some_any fa fn fc fs C w1 HZ.out.2 (by omega) (At.below HF.out B1)).mono ?_
    rintro e w2 ⟨rfl, hb2⟩
    have B2 := B1.trans (hb2.mono B1.size)
    clear hb2 B1
    cases hg2 : ris C fs with
    | false =>
      have hb : clB xs C fs = false := by unfold clB; rw [hg1, hg2]; rfl
      have HR : Hid (IntsRet (.returned (.tuple #[.slice none 0 0, .bool false])) w2 w.heap.size (clB xs C fs) (clL xs C fs)) := by
        unfold clL; rw [hb]; exact ⟨none, 0, 0, rfl, rfl, World.ownsRow_nil _ _ _ _⟩
      clear hb
      go_wp2
      exact bodyPost_ret (v := .tuple #[.slice none 0 0, .bool false]) (by simp [results, Tryd.results8, go_sem]) rfl ⟨HR.out, B2⟩
    | true =>
      have hb : clB xs C fs = true := by unfold clB; rw [hg1, hg2]; rfl
      have K := Hid.mk (l7Closure_any a n c xs fa fn fc fs w2 HZ.out.1 hn (Tolds.of hg1) (AtSl.below HA.out B2) (Told.of (goodDeps_C' hg1) hg2) HZ.out.2 (At.below HF.out B2) HN.out)
      have HBB := Hid.mk hb
      clear hb
      go_wp2_with fail
      refine K.out.mono ?_
      rintro e w3 ⟨T, r3, m3, d3, hT, rfl, hm3, ho3, hb3⟩
      have HR : Hid (IntsRet (.returned (.tuple #[.slice r3 m3 d3, .bool true])) w3 w.heap.size (clB xs C fs) (clL xs C fs)) := by
        unfold clL; rw [HBB.out, if_pos rfl, hT.clo_eq]; exact ⟨r3, m3, d3, rfl, hm3, owns_mono ho3 B2.size⟩
      have HB3 := Hid.mk (B2.trans (hb3.mono B2.size))
      clear hT hm3 ho3 hb3 K B2
      go_wp2
      exact bodyPost_ret (v := .tuple #[.slice r3 m3 d3, .bool true]) (by simp [results, Tryd.results8, go_sem]) rfl ⟨HR.out, HB3.out⟩

set_option maxRecDepth 100000 in
set_option maxHeartbeats 2000000 in
theorem implClosureOf (a : Option Addr) (n c : Nat) (xs : List Dep) (C : Int) (fa : Option Addr) (fn fc : Nat) (fs : List Int) (w : World) (hz : xs.length = n) (hn : n ≤ 1048576) (ha : AtD w a xs) (hfn : fs.length = fn) (hfb : fn ≤ 1048576) (hfa : At w fa fs) (htab : TabB w) :
    Calls Tryd.prog 11 #[.slice a n c, .int .i64 C, .slice fa fn fc] w fun e w' => IntsRet e w' w.heap.size (clB xs C fs) (clL xs C fs) ∧ Below w.heap.size w w' := by
  have HA := Hid.mk ha
  have HF := Hid.mk hfa
  have HZ := Hid.mk (And.intro hz hfn)
  have HT := Hid.mk htab
  clear ha hfa hz hfn htab
  go_enter Tryd.func11, Tryd.ntmps11
  go_wp2_with fail
  refine (implGoodDepends a n c xs C w HZ.out.1 (by omega) HA.out).mono ?_
  rintro e w1 ⟨rfl, B1⟩
  cases hg1 : goodDeps xs C with
  | false =>
    have hb : clB xs C fs = false := by unfold clB; rw [hg1]; rfl
    have HR : Hid (IntsRet (.returned (.tuple #[.slice none 0 0, .bool false])) w1 w.heap.size (clB xs C fs) (clL xs C fs)) := by
      unfold clL; rw [hb]; exact ⟨none, 0, 0, rfl, rfl, World.ownsRow_nil _ _ _ _⟩
    clear hb
    go_wp2
    exact bodyPost_ret (v := .tuple #[.slice none 0 0, .bool false]) (by simp [results, Tryd.results11, go_sem]) rfl ⟨HR.out, B1⟩
  | true =>
    go_wp2_with fail
    refine (areRising_any fa fn fc fs C w1 HZ.out.2 (by omega) (At.below HF.out B1)).mono ?_
    rintro e w2 ⟨rfl, hb2⟩
    have B2 := B1.trans (hb2.mono B1.size)
    clear hb2 B1
    cases hg2 : ris C fs with
    | false =>
      have hb : clB xs C fs = false := by unfold clB; rw [hg1, hg2]; rfl
      have HR : Hid (IntsRet (.returned (.tuple #[.slice none 0 0, .bool false])) w2 w.heap.size (clB xs C fs) (clL xs C fs)) := by
        unfold clL; rw [hb]; exact ⟨none, 0, 0, rfl, rfl, World.ownsRow_nil _ _ _ _⟩
      clear hb
      go_wp2
      exact bodyPost_ret (v := .tuple #[.slice none 0 0, .bool false]) (by simp [results, Tryd.results11, go_sem]) rfl ⟨HR.out, B2⟩
    | true =>
      have hb : clB xs C fs = true := by unfold clB; rw [hg1, hg2]; rfl
      have td := Told.of (goodDeps_C' hg1) hg2
      have HTD := Hid.mk td
      have HLX : Hid ((dms xs).length = n) := by show _ = _; simp [dms]; exact HZ.out.1
      have HBB := Hid.mk hb
      clear hb td
      go_wp2_with fail
      refine (tellingsOf_any a n c xs w2 HZ.out.1 hn (Cols.of hg1) (AtSl.below HA.out B2)).mono ?_
      rintro e w3 ⟨r3, d3, rfl, hat3, hb3⟩
      have B3 := B2.trans (hb3.mono B2.size)
      have T3 := Hid.mk hat3
      clear hb3 B2 hat3
      go_wp2_with fail
      refine (setOf_any fa fn fc fs w3 HZ.out.2 (by omega) HTD.out.in (At.below HF.out B3)).mono ?_
      rintro e w4 ⟨rfl, rfl⟩
      go_wp2_with fail
      refine (closure_any r3 n d3 (dms xs) (mk fs) w4 HLX.out (by omega) (Cols.of hg1).sets HTD.out.lt T3.out).mono ?_
      rintro e w5 ⟨T, hT, rfl, hb5⟩
      have B5 := B3.trans (hb5.mono B3.size)
      have HCL := Hid.mk hT
      clear hb5 B3 T3 hT
      go_wp2_with fail
      refine (list_any T w5 HCL.out.lt (TabIs.below HT.out B5)).mono ?_
      rintro e w6 ⟨r6, m6, d6, rfl, hm6, ho6, hb6⟩
      have HR : Hid (IntsRet (.returned (.tuple #[.slice r6 m6 d6, .bool true])) w6 w.heap.size (clB xs C fs) (clL xs C fs)) := by
        unfold clL; rw [HBB.out, if_pos rfl, HCL.out.clo_eq]; exact ⟨r6, m6, d6, rfl, hm6, owns_mono ho6 B5.size⟩
      have HB6 := Hid.mk (B5.trans (hb6.mono B5.size))
      clear hm6 ho6 hb6 B5
      go_wp2
      exact bodyPost_ret (v := .tuple #[.slice r6 m6 d6, .bool true]) (by simp [results, Tryd.results11, go_sem]) rfl ⟨HR.out, HB6.out⟩

end Go.Proofs.YtkcfhlpdenjimaaDoor
