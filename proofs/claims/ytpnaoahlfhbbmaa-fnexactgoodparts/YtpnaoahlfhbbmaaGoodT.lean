/- Contracts of impl.goodColumns, impl.goodWeight, impl.goodWeighted, impl.GoodTable. -/
import Derived.Test.YtpnaoahlfhbbmaaGoodRow
import Derived.Test.YtpnaoahlfhbbmaaPlainT
import Derived.Test.YtpnaoahlfhbbmaaCompare
namespace Go.Proofs.Ytpnaoahlfhbbmaa
open Go.RowKit

theorem goodColumns_any (p : Int) (w : World) :
    Calls Try.prog 42 #[.int .i64 p] w fun e w' => e = .returned (.bool (inc p)) ∧ w' = w := by
  by_cases h : 0 ≤ p
  · go_enter Try.func42, Try.ntmps42
    go_wp2
    go_ret
    exact ⟨ret_bool (by simp [inc, h]), rfl⟩
  · go_enter Try.func42, Try.ntmps42
    go_wp2
    go_ret
    exact ⟨ret_bool (by simp only [inc, decide_eq_false (show ¬ 0 ≤ p by omega), Bool.false_and]), rfl⟩

theorem goodWeight_any (p : Int) (w : World) :
    Calls Try.prog 65 #[.int .i64 p] w fun e w' => e = .returned (.bool (inw p)) ∧ w' = w := by
  by_cases h : -1000000 ≤ p
  · go_enter Try.func65, Try.ntmps65
    go_wp2
    go_ret
    exact ⟨ret_bool (by simp [inw, h]), rfl⟩
  · go_enter Try.func65, Try.ntmps65
    go_wp2
    go_ret
    exact ⟨ret_bool (by simp only [inw, decide_eq_false (show ¬ -1000000 ≤ p by omega), Bool.false_and]), rfl⟩

set_option maxHeartbeats 2000000 in
theorem goodWeighted_any (a : Option Addr) (n c : Nat) (ts : List WRow) (p : Int) (w : World) (hz : ts.length = n) (hn : n ≤ 1048576) (ha : AtW w a ts) :
    Calls Try.prog 52 #[.int .i64 p, .slice a n c] w fun e w' => e = .returned (.bool (goodL p ts)) ∧ Below w.heap.size w w' := by
  by_cases h0 : n = 0
  · subst h0
    obtain rfl := List.eq_nil_of_length_eq_zero hz
    go_enter Try.func52, Try.ntmps52
    go_wp2
    refine wp_loop_rounds 1 ?_
    rw [rounds_succ]
    go_wp2
    go_ret
    exact ⟨ret_bool rfl, Below.refl _ _⟩
  · go_enter Try.func52, Try.ntmps52
    go_wp2
    go_loopw [9] (fun i wr => ∃ (k : Nat), k ≤ n ∧ i = .int .i64 k ∧ (∀ j, j < k → goodW p (wat ts j) = true) ∧ Below w.heap.size w wr) (fun i _ => n - (intOf i).toNat)
    case atStart => exact ⟨0, Nat.zero_le _, rfl, fun j hj => by omega, Below.refl _ _⟩
    case round =>
      obtain ⟨k, hk, rfl, hall, hbw⟩ := hrel
      by_cases hlt : k < n
      · obtain ⟨b, off, rfl, hc⟩ := (ha.below hbw).some (by omega)
        obtain ⟨q, d, hcx, hwx, hm, hat⟩ := hc k (by omega)
        have HN : Hid (goodW p (wat ts k) = false → goodL p ts = false) := fun h => goodL_not k (by omega) h
        have HS : Hid (goodW p (wat ts k) = true → ∀ j, j < k + 1 → goodW p (wat ts j) = true) := fun h j hj => by
          by_cases e : j = k
          · subst e; exact h
          · exact hall j (by omega)
        generalize wat ts k = Y at *
        obtain ⟨ys, x⟩ := Y
        simp only at hcx hwx hat hm
        obtain ⟨m, hmm⟩ : ∃ m, ys.length = m := ⟨_, rfl⟩
        rw [hmm] at hcx hm
        have HM := Hid.mk hmm
        have hki : (k : Int) < (n : Int) := by omega
        clear hall hc hmm ha
        have hb1 : Below wr.heap.size wr (wr.alloc (.cells #[.slice q m d, .int .i64 x] 71)) := (Below.refl _ _).alloc (Nat.le_refl _) _
        have HA := hat.below hb1
        have B1 := hbw.trans (hb1.mono hbw.size)
        clear hb1 hat
        cases hg : good ys with
        | false =>
          have HG := Hid.mk hg
          clear hg
          go_wp2_with fail
          refine (implGoodRow_any _ _ _ ys _ HM.out hm HA).mono ?_
          rintro e w1 ⟨rfl, hb⟩
          rw [HG.out]
          go_wp2
          go_ret
          exact ⟨ret_bool (HN.out (goodW_row HG.out)).symm, B1.trans (hb.mono B1.size)⟩
        | true =>
          have HG := Hid.mk hg
          clear hg
          by_cases hl : (m : Int) = p
          · have hne : ((m : Int) != p) = false := by simp [hl]
            have HL := Hid.mk hl
            clear hl
            cases hi : inw x with
            | false =>
              have HI := Hid.mk hi
              clear hi
              go_wp2_with fail
              refine (implGoodRow_any _ _ _ ys _ HM.out hm HA).mono ?_
              rintro e w1 ⟨rfl, hb⟩
              rw [HG.out]
              have e1 := cell_later hb (pair0 wr (.slice q m d) (.int .i64 x) 71)
              have e2 := cell_later hb (pair1 wr (.slice q m d) (.int .i64 x) 71)
              go_wp2_with (go_at_call 65; refine (goodWeight_any _ _).mono ?_; rintro e w2 ⟨rfl, rfl⟩; rw [HI.out])
              go_ret
              exact ⟨ret_bool (HN.out (goodW_wt HI.out)).symm, B1.trans (hb.mono B1.size)⟩
            | true =>
              have HI := Hid.mk hi
              clear hi
              go_wp2_with fail
              refine (implGoodRow_any _ _ _ ys _ HM.out hm HA).mono ?_
              rintro e w1 ⟨rfl, hb⟩
              rw [HG.out]
              have e1 := cell_later hb (pair0 wr (.slice q m d) (.int .i64 x) 71)
              have e2 := cell_later hb (pair1 wr (.slice q m d) (.int .i64 x) 71)
              go_wp2_with (go_at_call 65; refine (goodWeight_any _ _).mono ?_; rintro e w2 ⟨rfl, rfl⟩; rw [HI.out])
              go_roundw
              case rel => exact ⟨k + 1, by omega, by go_num, HS.out (goodW_mk HG.out (by show (ys.length : Int) = p; rw [HM.out]; exact HL.out) HI.out), B1.trans (hb.mono B1.size)⟩
              case measure => simp [intOf]; omega
          · have hne : ((m : Int) != p) = true := by simp [hl]
            have HL := Hid.mk hl
            clear hl
            go_wp2_with fail
            refine (implGoodRow_any _ _ _ ys _ HM.out hm HA).mono ?_
            rintro e w1 ⟨rfl, hb⟩
            rw [HG.out]
            have e1 := cell_later hb (pair0 wr (.slice q m d) (.int .i64 x) 71)
            go_wp2
            go_ret
            exact ⟨ret_bool (HN.out (goodW_len (by show (ys.length : Int) ≠ p; rw [HM.out]; exact HL.out))).symm, B1.trans (hb.mono B1.size)⟩
      · go_wp2
        go_ret
        exact ⟨ret_bool (goodL_of (fun j hj => hall j (by omega))).symm, hbw⟩

end Go.Proofs.Ytpnaoahlfhbbmaa
