/- Contracts of GoodSteps, the program's and the model's. -/
import Derived.Test.YtociphdhkjoofaaDoorSrP
import Derived.Test.YtociphdhkjoofaaDoorL1In
import Derived.Deep.CutBlock
namespace Go.Proofs.YtociphdhkjoofaaDoor
open Go.RowKit

set_option maxRecDepth 100000 in
set_option maxHeartbeats 1000000 in
theorem isNoStep_any (x0 x1 x2 : Int) (w : World) :
    Calls Tryd.prog 43 #[.agg #[.int .i64 x0, .int .i64 x1, .int .i64 x2]] w fun e w' => e = .returned (.bool (!stOk (x0, x1, x2))) ∧ Below w.heap.size w w' := by
  obtain ⟨V, hV⟩ : ∃ V, V = w.alloc (.cells #[.int .i64 x0, .int .i64 x1, .int .i64 x2] 46) := ⟨_, rfl⟩
  have hB : Below w.heap.size w V := by rw [hV]; exact (Below.refl _ _).alloc (Nat.le_refl _) _
  clear hB hV V
  by_cases q1 : x1 = 1
  · subst q1
    go_enter Tryd.func43, Tryd.ntmps43
    go_wp2
    all_goals
      go_ret
      refine ⟨ret_bool ?_, (Below.refl _ _).alloc (Nat.le_refl _) _⟩
      first
        | (rw [stOk_no (by simp only; omega)]; simp <;> omega)
        | (rw [stOk_iff.2 (by simp only; omega)]; simp <;> omega)
  · by_cases q2 : x1 = 2
    · subst q2
      go_enter Tryd.func43, Tryd.ntmps43
      go_wp2
      all_goals
        go_ret
        refine ⟨ret_bool ?_, (Below.refl _ _).alloc (Nat.le_refl _) _⟩
        first
          | (rw [stOk_no (by simp only; omega)]; simp <;> omega)
          | (rw [stOk_iff.2 (by simp only; omega)]; simp <;> omega)
    · have HN : Hid (stOk (x0, x1, x2) = false) := Hid.mk (stOk_no (by simp only; omega))
      have q1' : (x1 == 1) = false := beq_eq_false_iff_ne.2 q1
      have q2' : (x1 == 2) = false := beq_eq_false_iff_ne.2 q2
      go_enter Tryd.func43, Tryd.ntmps43
      go_wp2
      all_goals
        go_ret
        refine ⟨ret_bool ?_, (Below.refl _ _).alloc (Nat.le_refl _) _⟩
        rw [HN.out]
        simp <;> omega

set_option maxRecDepth 100000 in
set_option maxHeartbeats 2000000 in
theorem indexNoStep_any (a : Option Addr) (n c : Nat) (xs : List TStep) (w : World) (hz : xs.length = n) (hn : n ≤ 9223372036854775807) (ha : At w a (flStep xs)) :
    Calls Tryd.prog 51 #[.slice a n c, .func (.func 43) #[] #[]] w fun e w' => (∃ k : Int, e = .returned (.int .i64 k) ∧ decide (0 ≤ k) = !xs.all stOk) ∧ Below w.heap.size w w' := by
  have HZ := Hid.mk hz
  have HA := Hid.mk ha
  clear hz ha
  go_enter Tryd.func51, Tryd.ntmps51
  go_wp2_with fail
  go_loopw [8] (fun i wr => ∃ (k : Nat), k ≤ n ∧ i = .int .i64 k ∧ xs.all stOk = (xs.drop k).all stOk ∧ Below w.heap.size w wr) (fun i _ => n - (intOf i).toNat)
  case atStart => exact ⟨0, Nat.zero_le _, rfl, rfl, Below.refl _ _⟩
  case round =>
    obtain ⟨k, hk, rfl, ht, hbw⟩ := hrel
    obtain ⟨wY, rfl⟩ : ∃ x, x = wr := ⟨_, rfl⟩
    by_cases hlt : k < n
    · obtain ⟨⟨x0, x1, x2⟩, hx⟩ : ∃ x, xs[k]? = some x := ⟨_, List.getElem?_eq_getElem (by have := HZ.out; omega)⟩
      obtain ⟨b, off, rfl, hb, hc⟩ := flStep_some HA.out (by have := HZ.out; omega)
      obtain ⟨c0, c1, c2⟩ := hc k _ hx
      have c0 := (hbw.cell hb).trans c0
      have c1 := (hbw.cell hb).trans c1
      have c2 := (hbw.cell hb).trans c2
      rw [all_step hx] at ht
      have HT := Hid.mk ht
      have HBW := Hid.mk hbw
      have hki : (k : Int) < (n : Int) := by omega
      have K := Hid.mk (isNoStep_any x0 x1 x2 wY)
      clear hc hx ht hbw
      simp only at c0 c1 c2
      cases hr : stOk (x0, x1, x2) with
      | false =>
        rw [hr] at K
        go_wp2_with fail
        refine K.out.mono ?_
        rintro e w3 ⟨rfl, hb3⟩
        have HB3 := Hid.mk (HBW.out.trans (hb3.mono HBW.out.size))
        clear hb3 K
        go_wp2
        go_ret
        exact ⟨⟨k, rfl, by rw [HT.out, hr]; simp⟩, HB3.out⟩
      | true =>
        rw [hr] at K
        go_wp2_with fail
        refine K.out.mono ?_
        rintro e w3 ⟨rfl, hb3⟩
        have HB3 := Hid.mk (HBW.out.trans (hb3.mono HBW.out.size))
        clear hb3 K
        go_wp2
        go_roundw
        case rel => exact ⟨k + 1, by omega, by go_num, by rw [HT.out, hr]; rfl, HB3.out⟩
        case measure => simp [intOf]; omega
    · rw [all_done (by have := HZ.out; omega)] at ht
      have HT := Hid.mk ht
      clear ht
      go_wp2
      go_ret
      exact ⟨⟨-1, rfl, by rw [HT.out]; rfl⟩, hbw⟩

set_option maxRecDepth 100000 in
set_option maxHeartbeats 2000000 in
theorem hasNoStep_any (a : Option Addr) (n c : Nat) (xs : List TStep) (w : World) (hz : xs.length = n) (hn : n ≤ 9223372036854775807) (ha : At w a (flStep xs)) :
    Calls Tryd.prog 42 #[.slice a n c, .func (.func 43) #[] #[]] w fun e w' => e = .returned (.bool (!xs.all stOk)) ∧ Below w.heap.size w w' := by
  have K := Hid.mk (indexNoStep_any a n c xs w hz hn ha)
  clear ha hz
  go_enter Tryd.func42, Tryd.ntmps42
  go_wp2_with fail
  refine K.out.mono ?_
  rintro e w2 ⟨⟨k, rfl, hk⟩, hb⟩
  have HK := Hid.mk hk
  clear K hk
  go_wp2
  go_ret
  exact ⟨ret_bool HK.out, hb⟩

set_option maxRecDepth 100000 in
set_option maxHeartbeats 2000000 in
theorem implGoodSteps (a : Option Addr) (n c : Nat) (xs : List TStep) (w : World) (hz : xs.length = n) (hn : n ≤ 9223372036854775807) (ha : At w a (flStep xs)) :
    Calls Tryd.prog 27 #[.slice a n c] w fun e w' => e = .returned (.bool (gpB xs)) ∧ Below w.heap.size w w' := by
  by_cases h40 : 40 < n
  · have h40' : ¬ (n : Int) ≤ 40 := by omega
    have HG : Hid (gpB xs = false) := by show _ = _; unfold gpB; rw [decide_eq_false (by omega)]; rfl
    clear hz ha
    go_enter Tryd.func27, Tryd.ntmps27
    go_wp2
    go_ret
    exact ⟨ret_bool HG.out.symm, Below.refl _ _⟩
  · have h40' : (n : Int) ≤ 40 := by omega
    have HG : Hid (gpB xs = xs.all stOk) := by show _ = _; unfold gpB; rw [decide_eq_true (by omega)]; rfl
    have K := Hid.mk (hasNoStep_any a n c xs w hz hn ha)
    clear hz ha
    go_enter Tryd.func27, Tryd.ntmps27
    go_wp2_with fail
    refine K.out.mono ?_
    rintro e w2 ⟨rfl, hb⟩
    clear K
    go_wp2
    go_ret
    exact ⟨ret_bool (by rw [HG.out]), hb⟩

set_option maxRecDepth 100000 in
set_option maxHeartbeats 4000000 in
theorem specGoodSteps (a : Option Addr) (n c : Nat) (xs : List TStep) (w : World) (hz : xs.length = n) (hn : n ≤ 9223372036854775807) (ha : At w a (flStep xs)) :
    Calls Tryd.prog 24 #[.slice a n c] w fun e w' => e = .returned (.bool (gpB xs)) ∧ Below w.heap.size w w' := by
  have HZ := Hid.mk hz
  have HA := Hid.mk ha
  clear hz ha
  go_enter Tryd.func24, Tryd.ntmps24
  go_wp2_with fail
  go_loopw [7] (fun i wr => ∃ (k : Nat), k ≤ n ∧ i = .int .i64 k ∧ xs.all stOk = (xs.drop k).all stOk ∧ Below w.heap.size w wr) (fun i _ => n - (intOf i).toNat)
  case atStart => exact ⟨0, Nat.zero_le _, rfl, rfl, Below.refl _ _⟩
  case round =>
    obtain ⟨k, hk, rfl, ht, hbw⟩ := hrel
    obtain ⟨wY, rfl⟩ : ∃ x, x = wr := ⟨_, rfl⟩
    by_cases hlt : k < n
    · obtain ⟨⟨x0, x1, x2⟩, hx⟩ : ∃ x, xs[k]? = some x := ⟨_, List.getElem?_eq_getElem (by have := HZ.out; omega)⟩
      obtain ⟨b, off, rfl, hb, hc⟩ := flStep_some HA.out (by have := HZ.out; omega)
      obtain ⟨c0, c1, c2⟩ := hc k _ hx
      have c0 := (hbw.cell hb).trans c0
      have c1 := (hbw.cell hb).trans c1
      have c2 := (hbw.cell hb).trans c2
      rw [all_step hx] at ht
      have HT := Hid.mk ht
      have hki : (k : Int) < (n : Int) := by omega
      obtain ⟨V, hV⟩ : ∃ V, V = wY.alloc (.cells #[.int .i64 x0, .int .i64 x1, .int .i64 x2] 46) := ⟨_, rfl⟩
      have hbV : Below w.heap.size w V := by rw [hV]; exact hbw.alloc hbw.size _
      have HB := Hid.mk hbV
      clear hc hx ht hbw hbV
      simp only at c0 c1 c2
      have HNO : Hid (stOk (x0, x1, x2) = false → gpB xs = false) := Hid.mk (fun h => by unfold gpB; rw [HT.out, h]; simp)
      by_cases e1 : x0 < 0
      · go_wp2
        go_ret
        exact ⟨ret_bool (HNO.out (stOk_no (by simp only; omega))).symm, by rw [← hV]; exact HB.out⟩
      by_cases e2 : 6 ≤ x0
      · go_wp2
        go_ret
        exact ⟨ret_bool (HNO.out (stOk_no (by simp only; omega))).symm, by rw [← hV]; exact HB.out⟩
      by_cases e3 : x2 < 0
      · go_wp2
        go_ret
        exact ⟨ret_bool (HNO.out (stOk_no (by simp only; omega))).symm, by rw [← hV]; exact HB.out⟩
      by_cases e4 : 4 ≤ x2
      · go_wp2
        go_ret
        exact ⟨ret_bool (HNO.out (stOk_no (by simp only; omega))).symm, by rw [← hV]; exact HB.out⟩
      have K := Hid.mk (fun w => l1In_any x1 1 2 w)
      by_cases e5 : 1 ≤ x1 ∧ x1 ≤ 2
      · have HY : Hid (stOk (x0, x1, x2) = true) := Hid.mk (stOk_iff.2 (by simp only; omega))
        rw [decide_eq_true e5.1, decide_eq_true e5.2] at K
        go_wp2_with (go_at_call 39; refine (K.out _).mono ?_; rintro e w5 ⟨rfl, hw5⟩; obtain rfl := hw5.symm)
        rw [← hV]
        go_roundw
        case rel => exact ⟨k + 1, by omega, by go_num, by rw [HT.out, HY.out]; rfl, HB.out⟩
        case measure => simp [intOf]; omega
      · have HY : Hid (stOk (x0, x1, x2) = false) := Hid.mk (stOk_no (by simp only; omega))
        have e6 : (decide (1 ≤ x1) && decide (x1 ≤ 2)) = false := by simp only [Bool.and_eq_false_iff, decide_eq_false_iff_not]; omega
        rw [e6] at K
        go_wp2_with (go_at_call 39; refine (K.out _).mono ?_; rintro e w5 ⟨rfl, hw5⟩; obtain rfl := hw5.symm)
        go_ret
        exact ⟨ret_bool (HNO.out HY.out).symm, by rw [← hV]; exact HB.out⟩
    · rw [all_done (by have := HZ.out; omega)] at ht
      have HT := Hid.mk ht
      clear ht
      have HG : Hid (gpB xs = decide ((n : Int) ≤ 40)) := Hid.mk (by unfold gpB; rw [HT.out, Bool.and_true]; have := HZ.out; rw [Bool.eq_iff_iff]; simp only [decide_eq_true_eq]; omega)
      go_wp2
      go_ret
      exact ⟨ret_bool HG.out.symm, hbw⟩

end Go.Proofs.YtociphdhkjoofaaDoor
