/- Contracts of impl.GoodTests at no more than six columns, impl.passesAll, spec.GoodTests, spec.l3True. -/
import Derived.Test.YtogokgegkakmbabTestG
import Derived.Test.YtogokgegkakmbabGoodTI
import Derived.Test.YtogokgegkakmbabGoodTS
namespace Go.Proofs.Ytogokgegkakmbab
open Go.RowKit

def goodEs (q : Int) (es : List Tst) : Bool := decide (es.length ≤ 8) && es.all (goodE q)
def passAll (zs : List Int) (es : List Tst) : Bool := es.all (passE zs)
theorem tat_mem {es : List Tst} {k : Nat} (h : k < es.length) : tat es k ∈ es := by simp [tat, List.getD, h]
theorem all_step (p : Tst → Bool) (es : List Tst) (k : Nat) (h : k < es.length) : (es.take (k + 1)).all p = ((es.take k).all p && p (tat es k)) := by
  rw [List.take_succ_eq_append_getElem h, List.all_append]
  simp [tat, List.getD, h]
theorem all_not {p : Tst → Bool} {es : List Tst} {k : Nat} (h : k < es.length) (hp : p (tat es k) = false) : es.all p = false := by
  cases e : es.all p with
  | false => rfl
  | true => rw [List.all_eq_true.1 e _ (tat_mem h)] at hp; cases hp
theorem goodEs_mem {q : Int} {es : List Tst} (h : goodEs q es = true) : ∀ k, k < es.length → goodE q (tat es k) = true := fun k hk => by
  simp only [goodEs, Bool.and_eq_true] at h
  exact List.all_eq_true.1 h.2 _ (tat_mem hk)
theorem goodEs_len {q : Int} {es : List Tst} (h : goodEs q es = true) : es.length ≤ 8 := by
  simp only [goodEs, Bool.and_eq_true, decide_eq_true_eq] at h
  exact h.1

set_option maxRecDepth 100000 in
set_option maxHeartbeats 2000000 in
theorem implGoodTests_any (a : Option Addr) (n c : Nat) (es : List Tst) (q : Nat) (w : World) (hz : es.length = n) (hn : n ≤ 1048576) (h6 : q ≤ 6) (ha : AtE w a es) :
    Calls Try.prog 45 #[.slice a n c, .int .i64 q] w fun e w' => e = .returned (.bool (goodEs q es)) ∧ Below w.heap.size w w' := by
  have HI : Hid (inc q = true) := by show _ = _; simp [inc]; omega
  by_cases h8 : n ≤ 8
  · by_cases h0 : n = 0
    · subst h0
      obtain rfl := List.eq_nil_of_length_eq_zero hz
      go_enter Try.func45, Try.ntmps45
      go_wp2_with (go_at_call 81; refine (goodColumns_any _ _).mono ?_; rintro e w2 ⟨rfl, hw⟩; obtain rfl := hw.symm; rw [HI.out])
      refine wp_loop_rounds 1 ?_
      rw [rounds_succ]
      go_wp2
      go_ret
      exact ⟨ret_bool (by simp [goodEs]), Below.refl _ _⟩
    · obtain ⟨b, off, rfl, hb, hc⟩ := ha.some (by omega)
      have h8i : (n : Int) ≤ 8 := by omega
      go_enter Try.func45, Try.ntmps45
      go_wp2_with (go_at_call 81; refine (goodColumns_any _ _).mono ?_; rintro e w2 ⟨rfl, hw⟩; obtain rfl := hw.symm; rw [HI.out])
      go_loopw [17] (fun i wr => ∃ (k : Nat), k ≤ n ∧ i = .int .i64 k ∧ (es.take k).all (goodE q) = true ∧ Below w.heap.size w wr) (fun i _ => n - (intOf i).toNat)
      case atStart => exact ⟨0, Nat.zero_le _, rfl, rfl, Below.refl _ _⟩
      case round =>
        obtain ⟨k, hk, rfl, hal, hbw⟩ := hrel
        by_cases hlt : k < n
        · obtain ⟨hx, hy, hv⟩ := hc k (by omega)
          have hx := (hbw.cell hb).trans hx
          have hy := (hbw.cell hb).trans hy
          have hv := (hbw.cell hb).trans hv
          have HS := Hid.mk (all_step (goodE q) es k (by omega))
          have HN : Hid (goodE q (tat es k) = false → goodEs q es = false) := fun e => by unfold goodEs; rw [all_not (by omega) e, Bool.and_false]
          generalize tat es k = Y at *
          obtain ⟨x, y, v⟩ := Y
          simp only at hx hy hv
          have hki : (k : Int) < (n : Int) := by omega
          have HB := Hid.mk (hbw.alloc hbw.size (.cells #[.int .i64 x, .int .i64 y, .int .i64 v] 64))
          have HAL := Hid.mk hal
          clear hc hal
          go_wp2_with fail
          refine (goodTest_any q x y v _).mono ?_
          rintro e w2 ⟨rfl, hb2⟩
          have B2 := HB.out.trans (hb2.mono HB.out.size)
          cases hg : goodE q (x, y, v) with
          | true =>
            have HG := Hid.mk hg
            clear hg hb2 HB
            go_wp2
            go_roundw
            case rel => exact ⟨k + 1, by omega, by go_num, by rw [HS.out, HAL.out, HG.out]; rfl, B2⟩
            case measure => simp [intOf]; omega
          | false =>
            have HG := Hid.mk hg
            clear hg hb2 HB
            go_wp2
            go_ret
            exact ⟨ret_bool (HN.out HG.out).symm, B2⟩
        · obtain rfl : k = n := by omega
          go_wp2
          go_ret
          exact ⟨ret_bool (by unfold goodEs; rw [← hz, List.take_length] at hal; rw [hal, hz]; simpa using h8), hbw⟩
  · have h8i : (8 : Int) < (n : Int) := by omega
    go_enter Try.func45, Try.ntmps45
    go_wp2_with (go_at_call 81; refine (goodColumns_any _ _).mono ?_; rintro e w2 ⟨rfl, hw⟩; obtain rfl := hw.symm; rw [HI.out])
    go_ret
    exact ⟨ret_bool (by simp [goodEs]; omega), Below.refl _ _⟩

set_option maxRecDepth 100000 in
set_option maxHeartbeats 2000000 in
theorem passesAll_any (a a' : Option Addr) (n c n' c' : Nat) (zs : List Int) (es : List Tst) (w : World) (hz : zs.length = n) (h6 : n ≤ 6) (hz' : es.length = n') (h8 : n' ≤ 8) (hg : ∀ k, k < es.length → goodE n (tat es k) = true) (ha : At w a zs) (ha' : AtE w a' es) :
    Calls Try.prog 49 #[.agg #[.slice a n c], .slice a' n' c'] w fun e w' => e = .returned (.bool (passAll zs es)) ∧ Below w.heap.size w w' := by
  obtain ⟨W, hW⟩ : ∃ W, W = w.alloc (.cells #[.slice a n c] 72) := ⟨_, rfl⟩
  have B0 : Below w.heap.size w W := by rw [hW]; exact (Below.refl _ _).alloc (Nat.le_refl _) _
  have c0 : W.cell? ⟨w.heap.size, 0, none⟩ = some (.slice a n c) := by rw [hW]; simp
  by_cases h0 : n' = 0
  · subst h0
    obtain rfl := List.eq_nil_of_length_eq_zero hz'
    go_enter Try.func49, Try.ntmps49
    go_wp2
    rw [← hW]
    clear hW
    refine wp_loop_rounds 1 ?_
    rw [rounds_succ]
    go_wp2
    go_ret
    exact ⟨ret_bool rfl, B0⟩
  · obtain ⟨b, off, rfl, hb, hc⟩ := (ha'.below B0).some (by omega)
    have HA := ha.below B0
    go_enter Try.func49, Try.ntmps49
    go_wp2
    rw [← hW]
    clear hW
    go_loopw [9] (fun i wr => ∃ (k : Nat), k ≤ n' ∧ i = .int .i64 k ∧ (es.take k).all (passE zs) = true ∧ Below W.heap.size W wr) (fun i _ => n' - (intOf i).toNat)
    case atStart => exact ⟨0, Nat.zero_le _, rfl, rfl, Below.refl _ _⟩
    case round =>
      obtain ⟨k, hk, rfl, hal, hbw⟩ := hrel
      by_cases hlt : k < n'
      · obtain ⟨hx, hy, hv⟩ := hc k (by omega)
        have hx := (hbw.cell hb).trans hx
        have hy := (hbw.cell hb).trans hy
        have hv := (hbw.cell hb).trans hv
        have HGK := Hid.mk (hg k (by omega))
        have HS := Hid.mk (all_step (passE zs) es k (by omega))
        have HN : Hid (passE zs (tat es k) = false → passAll zs es = false) := fun e => all_not (by omega) e
        generalize tat es k = Y at *
        obtain ⟨x, y, v⟩ := Y
        simp only at hx hy hv
        have hki : (k : Int) < (n' : Int) := by omega
        have cr := cell_later hbw c0
        have hbL : Below wr.heap.size wr (wr.alloc (.cells #[.int .i64 x, .int .i64 y, .int .i64 v] 64)) := (Below.refl _ _).alloc (Nat.le_refl _) _
        have crL := cell_later hbL cr
        have HB := Hid.mk (hbw.trans (hbL.mono hbw.size))
        have HAL := Hid.mk hal
        clear hc hal hg
        go_wp2_with fail
        refine (passes_any _ _ _ zs x y v _ hz h6 HGK.out (HA.below HB.out)).mono ?_
        rintro e w2 ⟨rfl, hb2⟩
        have B2 := HB.out.trans (hb2.mono HB.out.size)
        cases hg : passE zs (x, y, v) with
        | true =>
          have HG := Hid.mk hg
          clear hg hb2 HB cr crL hbL
          go_wp2
          go_roundw
          case rel => exact ⟨k + 1, by omega, by go_num, by rw [HS.out, HAL.out, HG.out]; rfl, B2⟩
          case measure => simp [intOf]; omega
        | false =>
          have HG := Hid.mk hg
          clear hg hb2 HB cr crL hbL
          go_wp2
          go_ret
          exact ⟨ret_bool (HN.out HG.out).symm, B0.trans (B2.mono B0.size)⟩
      · obtain rfl : k = n' := by omega
        go_wp2
        go_ret
        exact ⟨ret_bool (by unfold passAll; rw [← hz', List.take_length] at hal; rw [hal]), B0.trans (hbw.mono B0.size)⟩

theorem goodE_spec {q x y v : Int} (h6 : q ≤ 6) : goodE q (x, y, v) = decide ((0 ≤ y ∧ y < q) ∧ (1 ≤ x ∧ x ≤ 4) ∧ (x = 4 → 0 ≤ v ∧ v < q) ∧ (-100000 ≤ v ∧ v ≤ 100000)) := by
  unfold goodE
  rw [Bool.eq_iff_iff]
  simp only [decide_eq_true_eq]
  omega

set_option maxRecDepth 100000 in
set_option maxHeartbeats 4000000 in
theorem specGoodTests_any (a : Option Addr) (n c : Nat) (es : List Tst) (q : Nat) (w : World) (hz : es.length = n) (hn : n ≤ 1048576) (h6 : q ≤ 6) (ha : AtE w a es) :
    Calls Try.prog 39 #[.slice a n c, .int .i64 q] w fun e w' => e = .returned (.bool (goodEs q es)) ∧ Below w.heap.size w w' := by
  by_cases h0 : n = 0
  · subst h0
    obtain rfl := List.eq_nil_of_length_eq_zero hz
    go_enter Try.func39, Try.ntmps39
    go_wp2
    refine wp_loop_rounds 1 ?_
    rw [rounds_succ]
    go_wp2
    go_ret
    exact ⟨ret_bool (by simp [goodEs]), Below.refl _ _⟩
  · obtain ⟨b, off, rfl, hb, hc⟩ := ha.some (by omega)
    have h6i : (q : Int) ≤ 6 := by omega
    go_enter Try.func39, Try.ntmps39
    go_wp2
    go_loopw [9] (fun i wr => ∃ (k : Nat), k ≤ n ∧ i = .int .i64 k ∧ (es.take k).all (goodE q) = true ∧ Below w.heap.size w wr) (fun i _ => n - (intOf i).toNat)
    case atStart => exact ⟨0, Nat.zero_le _, rfl, rfl, Below.refl _ _⟩
    case round =>
      obtain ⟨k, hk, rfl, hal, hbw⟩ := hrel
      by_cases hlt : k < n
      · obtain ⟨hx, hy, hv⟩ := hc k (by omega)
        have hx := (hbw.cell hb).trans hx
        have hy := (hbw.cell hb).trans hy
        have hv := (hbw.cell hb).trans hv
        have HS := Hid.mk (all_step (goodE q) es k (by omega))
        have HN : Hid (goodE q (tat es k) = false → goodEs q es = false) := fun e => by unfold goodEs; rw [all_not (by omega) e, Bool.and_false]
        generalize tat es k = Y at *
        obtain ⟨x, y, v⟩ := Y
        simp only at hx hy hv
        have hki : (k : Int) < (n : Int) := by omega
        have HB := Hid.mk (hbw.alloc hbw.size (.cells #[.int .i64 x, .int .i64 y, .int .i64 v] 64))
        have HAL := Hid.mk hal
        have HY : Hid (y < 0 ∨ (q : Int) ≤ y → goodE q (x, y, v) = false) := fun h => by rw [goodE_spec h6i]; exact decide_eq_false (by omega)
        clear hc hal
        by_cases y0 : 0 ≤ y
        rotate_left
        · have y0' : y < 0 := by omega
          go_wp2
          go_ret
          exact ⟨ret_bool (HN.out (HY.out (.inl y0'))).symm, HB.out⟩
        by_cases yq : y < q
        rotate_left
        · have yq' : (q : Int) ≤ y := by omega
          go_wp2
          go_ret
          exact ⟨ret_bool (HN.out (HY.out (.inr yq'))).symm, HB.out⟩
        by_cases x1 : 1 ≤ x ∧ x ≤ 4
        rotate_left
        · have hxx : (decide (1 ≤ x) && decide (x ≤ 4)) = false := by rw [Bool.and_eq_false_iff]; simp only [decide_eq_false_iff_not]; omega
          have HG : Hid (goodE q (x, y, v) = false) := by show _ = _; rw [goodE_spec h6i]; exact decide_eq_false (by omega)
          go_wp2_with (go_at_call 77; refine (l1In_any _ _ _ _).mono ?_; rintro e w2 ⟨rfl, hw⟩; obtain rfl := hw.symm; rw [hxx])
          go_ret
          exact ⟨ret_bool (HN.out HG.out).symm, HB.out⟩
        have hxx : (decide (1 ≤ x) && decide (x ≤ 4)) = true := by simp [x1]
        have HXX := Hid.mk x1
        by_cases v1 : -100000 ≤ v ∧ v ≤ 100000
        rotate_left
        · have hvv : (decide (-100000 ≤ v) && decide (v ≤ 100000)) = false := by rw [Bool.and_eq_false_iff]; simp only [decide_eq_false_iff_not]; omega
          have HG : Hid (goodE q (x, y, v) = false) := by show _ = _; rw [goodE_spec h6i]; exact decide_eq_false (by omega)
          clear x1 v1
          by_cases x4 : x = 4
          · subst x4
            go_wp2_with (first | (go_at_call 77; refine (l1In_any _ _ _ _).mono ?_; rintro e w2 ⟨rfl, hw⟩; obtain rfl := hw.symm; first | rw [hxx] | rw [hvv]))
            all_goals (go_ret; exact ⟨ret_bool (HN.out HG.out).symm, HB.out⟩)
          · have x4' : (x == 4) = false := by simpa using x4
            go_wp2_with (first | (go_at_call 77; refine (l1In_any _ _ _ _).mono ?_; rintro e w2 ⟨rfl, hw⟩; obtain rfl := hw.symm; first | rw [hxx] | rw [hvv]))
            all_goals (go_ret; exact ⟨ret_bool (HN.out HG.out).symm, HB.out⟩)
        have hvv : (decide (-100000 ≤ v) && decide (v ≤ 100000)) = true := by simp [v1]
        have HV1 := Hid.mk v1
        by_cases x4 : x = 4
        · subst x4
          clear x1 v1
          by_cases vq : 0 ≤ v ∧ v < q
          · have HG : Hid (goodE q (4, y, v) = true) := by show _ = _; rw [goodE_spec h6i]; have := HV1.out; exact decide_eq_true (by omega)
            obtain ⟨vq0, vq1⟩ := vq
            go_wp2_with (first | (go_at_call 77; refine (l1In_any _ _ _ _).mono ?_; rintro e w2 ⟨rfl, hw⟩; obtain rfl := hw.symm; first | rw [hxx] | rw [hvv]))
            go_roundw
            case rel => exact ⟨k + 1, by omega, by go_num, by rw [HS.out, HAL.out, HG.out]; rfl, HB.out⟩
            case measure => simp [intOf]; omega
          · have HG : Hid (goodE q (4, y, v) = false) := by show _ = _; rw [goodE_spec h6i]; exact decide_eq_false (by omega)
            by_cases v0 : 0 ≤ v
            · have vq1 : (q : Int) ≤ v := by omega
              clear vq
              go_wp2_with (first | (go_at_call 77; refine (l1In_any _ _ _ _).mono ?_; rintro e w2 ⟨rfl, hw⟩; obtain rfl := hw.symm; first | rw [hxx] | rw [hvv]))
              all_goals (go_ret; exact ⟨ret_bool (HN.out HG.out).symm, HB.out⟩)
            · have v0' : v < 0 := by omega
              clear vq
              go_wp2_with (first | (go_at_call 77; refine (l1In_any _ _ _ _).mono ?_; rintro e w2 ⟨rfl, hw⟩; obtain rfl := hw.symm; first | rw [hxx] | rw [hvv]))
              all_goals (go_ret; exact ⟨ret_bool (HN.out HG.out).symm, HB.out⟩)
        · have x4' : (x == 4) = false := by simpa using x4
          have HG : Hid (goodE q (x, y, v) = true) := by show _ = _; rw [goodE_spec h6i]; exact decide_eq_true (by omega)
          clear x1 v1
          go_wp2_with (first | (go_at_call 77; refine (l1In_any _ _ _ _).mono ?_; rintro e w2 ⟨rfl, hw⟩; obtain rfl := hw.symm; first | rw [hxx] | rw [hvv]))
          go_roundw
          case rel => exact ⟨k + 1, by omega, by go_num, by rw [HS.out, HAL.out, HG.out]; rfl, HB.out⟩
          case measure => simp [intOf]; omega
      · obtain rfl : k = n := by omega
        rw [← hz, List.take_length] at hal
        have HAL := Hid.mk hal
        clear hal
        go_wp2
        go_ret
        exact ⟨ret_bool (by unfold goodEs; rw [HAL.out, hz]; simp; omega), hbw⟩
end Go.Proofs.Ytogokgegkakmbab
