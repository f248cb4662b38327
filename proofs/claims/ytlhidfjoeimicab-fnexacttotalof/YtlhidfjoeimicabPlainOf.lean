/- Contracts of impl.IsPlain, spec.l2Plain, spec.IsPlain, impl.TotalOf, spec.TotalOf. -/
import Derived.Test.YtlhidfjoeimicabGoodTI
import Derived.Test.YtlhidfjoeimicabGoodTS
namespace Go.Proofs.Ytlhidfjoeimicab
open Go.RowKit

/-- All weights are from 0 on. -/
def plainT (ts : List WRow) : Bool := ts.all fun t => decide (0 ≤ t.2)
def sumTo (ts : List WRow) (k : Nat) : Int := ((ts.take k).map fun t => t.2).sum
def sumT (ts : List WRow) : Int := sumTo ts ts.length

theorem plainT_of {ts : List WRow} (h : ∀ k, k < ts.length → 0 ≤ (wat ts k).2) : plainT ts = true := by
  unfold plainT
  rw [List.all_eq_true]
  intro t ht
  obtain ⟨k, hk, rfl⟩ := List.getElem_of_mem ht
  simpa [wat, List.getD, hk] using h k hk
theorem plainT_not {ts : List WRow} (k : Nat) (hk : k < ts.length) (h : (wat ts k).2 < 0) : plainT ts = false := by
  cases hg : plainT ts with
  | false => rfl
  | true =>
    have := of_decide_eq_true (List.all_eq_true.1 hg _ (wat_mem hk))
    omega
theorem sumTo_succ (ts : List WRow) (k : Nat) (h : k < ts.length) : sumTo ts (k + 1) = sumTo ts k + (wat ts k).2 := by
  unfold sumTo
  rw [wtake_succ ts k h, List.map_append, List.sum_append]
  simp
theorem sumTo_bound {p : Int} {ts : List WRow} (h : goodT p ts = true) (k : Nat) (hk : k ≤ ts.length) : -1000000 * k ≤ sumTo ts k ∧ sumTo ts k ≤ 1000000 * k := by
  induction k with
  | zero => simp [sumTo]
  | succ k ih =>
    have h1 := goodW_cells (stepB_good ((goodT_parts h).2.2 k (by omega)))
    rw [sumTo_succ ts k (by omega)]
    have := ih (by omega)
    push_cast
    omega

theorem ret_bb {a b p q : Bool} (h : a = b) (h' : p = q) : Ending.returned (.tuple #[.bool a, .bool p]) = .returned (.tuple #[.bool b, .bool q]) := by rw [h, h']

set_option maxHeartbeats 2000000 in
theorem implIsPlain_any (a : Option Addr) (n c : Nat) (ts : List WRow) (p : Int) (w : World) (hz : ts.length = n) (hn : n ≤ 1048576) (ha : AtW w a ts) :
    Calls Try.prog 9 #[.agg #[.int .i64 p, .slice a n c]] w fun e w' => e = .returned (.tuple #[.bool (goodT p ts && plainT ts), .bool (goodT p ts)]) ∧ Below w.heap.size w w' := by
  have B0 : Below w.heap.size w (w.alloc (.cells #[.int .i64 p, .slice a n c] 30)) := (Below.refl _ _).alloc (Nat.le_refl _) _
  have HA := ha.below B0
  clear ha
  cases hg : goodT p ts with
  | false =>
    have HG := Hid.mk hg
    clear hg
    go_enter Try.func9, Try.ntmps9
    go_wp2_with fail
    refine (implGoodTable_any _ _ _ ts _ _ hz hn HA).mono ?_
    rintro e w1 ⟨rfl, hb1⟩
    rw [HG.out]
    go_wp2
    go_ret2
    exact ⟨rfl, B0.trans (hb1.mono B0.size)⟩
  | true =>
    have HG := Hid.mk hg
    clear hg
    go_enter Try.func9, Try.ntmps9
    go_wp2_with fail
    refine (implGoodTable_any _ _ _ ts _ _ hz hn HA).mono ?_
    rintro e w1 ⟨rfl, hb1⟩
    rw [HG.out]
    have B1 := B0.trans (hb1.mono B0.size)
    have ct := cell_later hb1 (pair1 w (.int .i64 p) (.slice a n c) 30)
    have HA1 := HA.below hb1
    clear hb1 HA B0
    go_wp2
    go_loopw [12] (fun i wr => ∃ (k : Nat), k ≤ n ∧ i = .int .i64 k ∧ (∀ j, j < k → 0 ≤ (wat ts j).2) ∧ Below w1.heap.size w1 wr) (fun i _ => n - (intOf i).toNat)
    case atStart => exact ⟨0, Nat.zero_le _, rfl, fun j hj => by omega, Below.refl _ _⟩
    case round =>
      obtain ⟨k, hk, rfl, hall, hbw⟩ := hrel
      have B2 := B1.trans (hbw.mono B1.size)
      by_cases hlt : k < n
      · obtain ⟨b, off, rfl, hc⟩ := (HA1.below hbw).some (by omega)
        obtain ⟨q, d, hcx, hwx, _, _⟩ := hc k (by omega)
        have HN : Hid ((wat ts k).2 < 0 → plainT ts = false) := fun h => plainT_not k (by omega) h
        have HS : Hid (0 ≤ (wat ts k).2 → ∀ j, j < k + 1 → 0 ≤ (wat ts j).2) := fun h j hj => by
          by_cases e : j = k
          · subst e; exact h
          · exact hall j (by omega)
        have hki : (k : Int) < (n : Int) := by omega
        generalize wat ts k = Y at *
        obtain ⟨ys, x⟩ := Y
        simp only at hcx hwx
        obtain ⟨m, hmm⟩ : ∃ m, ys.length = m := ⟨_, rfl⟩
        rw [hmm] at hcx
        clear hall hc hmm
        by_cases hx : x < 0
        · go_wp2
          go_ret2
          exact ⟨ret_bb (by rw [HN.out hx]) rfl, B2.alloc B2.size _⟩
        · go_wp2
          go_roundw
          case rel => exact ⟨k + 1, by omega, by go_num, HS.out (by omega), hbw.alloc hbw.size _⟩
          case measure => simp [intOf]; omega
      · have HP := Hid.mk (plainT_of (ts := ts) (fun j hj => hall j (by omega)))
        clear hall
        go_wp2
        go_ret2
        exact ⟨ret_bb (by rw [HP.out]; rfl) rfl, B2⟩

set_option maxHeartbeats 2000000 in
theorem implTotalOf_any (a : Option Addr) (n c : Nat) (ts : List WRow) (p : Int) (w : World) (hz : ts.length = n) (hn : n ≤ 1048576) (ha : AtW w a ts) :
    Calls Try.prog 12 #[.agg #[.int .i64 p, .slice a n c]] w fun e w' => e = .returned (.tuple #[.int .i64 (if goodT p ts then sumT ts else 0), .bool (goodT p ts)]) ∧ Below w.heap.size w w' := by
  have B0 : Below w.heap.size w (w.alloc (.cells #[.int .i64 p, .slice a n c] 30)) := (Below.refl _ _).alloc (Nat.le_refl _) _
  have HA := ha.below B0
  clear ha
  cases hg : goodT p ts with
  | false =>
    have HG := Hid.mk hg
    clear hg
    go_enter Try.func12, Try.ntmps12
    go_wp2_with fail
    refine (implGoodTable_any _ _ _ ts _ _ hz hn HA).mono ?_
    rintro e w1 ⟨rfl, hb1⟩
    rw [HG.out]
    go_wp2
    go_ret2
    exact ⟨rfl, B0.trans (hb1.mono B0.size)⟩
  | true =>
    have HG := Hid.mk hg
    have hn60 := (goodT_parts hg).2.1
    clear hg
    go_enter Try.func12, Try.ntmps12
    go_wp2_with fail
    refine (implGoodTable_any _ _ _ ts _ _ hz hn HA).mono ?_
    rintro e w1 ⟨rfl, hb1⟩
    rw [HG.out]
    have B1 := B0.trans (hb1.mono B0.size)
    have ct := cell_later hb1 (pair1 w (.int .i64 p) (.slice a n c) 30)
    have HA1 := HA.below hb1
    clear hb1 HA B0
    go_wp2
    go_loopw [4, 13] (fun s i wr => ∃ (k : Nat), k ≤ n ∧ i = .int .i64 k ∧ s = .int .i64 (sumTo ts k) ∧ Below w1.heap.size w1 wr) (fun _ i _ => n - (intOf i).toNat)
    case atStart => exact ⟨0, Nat.zero_le _, rfl, by simp [sumTo], Below.refl _ _⟩
    case round =>
      obtain ⟨k, hk, rfl, rfl, hbw⟩ := hrel
      have B2 := B1.trans (hbw.mono B1.size)
      by_cases hlt : k < n
      · obtain ⟨b, off, rfl, hc⟩ := (HA1.below hbw).some (by omega)
        obtain ⟨q, d, hcx, hwx, _, _⟩ := hc k (by omega)
        have hki : (k : Int) < (n : Int) := by omega
        have HT := Hid.mk (sumTo_succ ts k (by omega))
        have hb0 := sumTo_bound HG.out k (by omega)
        have hgk := goodW_cells (stepB_good ((goodT_parts HG.out).2.2 k (by omega)))
        generalize wat ts k = Y at *
        obtain ⟨ys, x⟩ := Y
        simp only at hcx hwx
        obtain ⟨m, hmm⟩ : ∃ m, ys.length = m := ⟨_, rfl⟩
        rw [hmm] at hcx
        obtain ⟨S, hS⟩ : ∃ S, S = sumTo ts k := ⟨_, rfl⟩
        rw [← hS] at hb0 HT ⊢
        have hx1 : -1000000 ≤ x := hgk.2.2.1
        have hx2 : x ≤ 1000000 := hgk.2.2.2
        have hs1 : -60000000 ≤ S := by omega
        have hs2 : S ≤ 60000000 := by omega
        clear hc hmm hS hgk hb0
        go_wp2
        go_roundw
        case rel => exact ⟨k + 1, by omega, by go_num, by rw [HT.out], hbw.alloc hbw.size _⟩
        case measure => simp [intOf]; omega
      · obtain rfl : k = n := by omega
        go_wp2
        go_ret2
        exact ⟨by rw [show sumT ts = sumTo ts k by rw [sumT, hz]]; rfl, B2⟩

set_option maxHeartbeats 2000000 in
theorem specTotalOf_any (a : Option Addr) (n c : Nat) (ts : List WRow) (p : Int) (w : World) (hz : ts.length = n) (hn : n ≤ 1048576) (ha : AtW w a ts) :
    Calls Try.prog 11 #[.agg #[.int .i64 p, .slice a n c]] w fun e w' => e = .returned (.tuple #[.int .i64 (if goodT p ts then sumT ts else 0), .bool (goodT p ts)]) ∧ Below w.heap.size w w' := by
  have B0 : Below w.heap.size w (w.alloc (.cells #[.int .i64 p, .slice a n c] 30)) := (Below.refl _ _).alloc (Nat.le_refl _) _
  have HA := ha.below B0
  clear ha
  cases hg : goodT p ts with
  | false =>
    have HG := Hid.mk hg
    clear hg
    go_enter Try.func11, Try.ntmps11
    go_wp2_with fail
    refine (specGoodTable_any _ _ _ ts _ _ hz hn HA).mono ?_
    rintro e w1 ⟨rfl, hb1⟩
    rw [HG.out]
    go_wp2
    go_ret2
    exact ⟨rfl, B0.trans (hb1.mono B0.size)⟩
  | true =>
    have HG := Hid.mk hg
    have hn60 := (goodT_parts hg).2.1
    clear hg
    go_enter Try.func11, Try.ntmps11
    go_wp2_with fail
    refine (specGoodTable_any _ _ _ ts _ _ hz hn HA).mono ?_
    rintro e w1 ⟨rfl, hb1⟩
    rw [HG.out]
    have B1 := B0.trans (hb1.mono B0.size)
    have ct := cell_later hb1 (pair1 w (.int .i64 p) (.slice a n c) 30)
    have HA1 := HA.below hb1
    clear hb1 HA B0
    go_wp2
    go_loopw [4, 13] (fun s i wr => ∃ (k : Nat), k ≤ n ∧ i = .int .i64 k ∧ s = .int .i64 (sumTo ts k) ∧ Below w1.heap.size w1 wr) (fun _ i _ => n - (intOf i).toNat)
    case atStart => exact ⟨0, Nat.zero_le _, rfl, by simp [sumTo], Below.refl _ _⟩
    case round =>
      obtain ⟨k, hk, rfl, rfl, hbw⟩ := hrel
      have B2 := B1.trans (hbw.mono B1.size)
      by_cases hlt : k < n
      · obtain ⟨b, off, rfl, hc⟩ := (HA1.below hbw).some (by omega)
        obtain ⟨q, d, hcx, hwx, _, _⟩ := hc k (by omega)
        have hki : (k : Int) < (n : Int) := by omega
        have HT := Hid.mk (sumTo_succ ts k (by omega))
        have hb0 := sumTo_bound HG.out k (by omega)
        have hgk := goodW_cells (stepB_good ((goodT_parts HG.out).2.2 k (by omega)))
        generalize wat ts k = Y at *
        obtain ⟨ys, x⟩ := Y
        simp only at hcx hwx
        obtain ⟨m, hmm⟩ : ∃ m, ys.length = m := ⟨_, rfl⟩
        rw [hmm] at hcx
        obtain ⟨S, hS⟩ : ∃ S, S = sumTo ts k := ⟨_, rfl⟩
        rw [← hS] at hb0 HT ⊢
        have hx1 : -1000000 ≤ x := hgk.2.2.1
        have hx2 : x ≤ 1000000 := hgk.2.2.2
        have hs1 : -60000000 ≤ S := by omega
        have hs2 : S ≤ 60000000 := by omega
        clear hc hmm hS hgk hb0
        go_wp2
        go_roundw
        case rel => exact ⟨k + 1, by omega, by go_num, by rw [HT.out], hbw.alloc hbw.size _⟩
        case measure => simp [intOf]; omega
      · obtain rfl : k = n := by omega
        go_wp2
        go_ret2
        exact ⟨by rw [show sumT ts = sumTo ts k by rw [sumT, hz]]; rfl, B2⟩

set_option maxHeartbeats 1000000 in
theorem l2Plain_any (a : Option Addr) (n c : Nat) (ts : List WRow) (p : Int) (w : World) (hz : ts.length = n) (hn : n ≤ 1048576) (ha : AtW w a ts) :
    Calls Try.prog 19 #[.agg #[.int .i64 p, .slice a n c]] w fun e w' => e = .returned (.bool (plainT ts)) ∧ Below w.heap.size w w' := by
  have B1 : Below w.heap.size w (w.alloc (.cells #[.int .i64 p, .slice a n c] 30)) := (Below.refl _ _).alloc (Nat.le_refl _) _
  have HA1 := ha.below B1
  clear ha
  go_enter Try.func19, Try.ntmps19
  go_wp2
  obtain ⟨w1, hw1⟩ : ∃ w1, w1 = w.alloc (.cells #[.int .i64 p, .slice a n c] 30) := ⟨_, rfl⟩
  rw [← hw1] at B1 HA1 ⊢
  clear hw1
  go_loopw [8] (fun i wr => ∃ (k : Nat), k ≤ n ∧ i = .int .i64 k ∧ (∀ j, j < k → 0 ≤ (wat ts j).2) ∧ Below w1.heap.size w1 wr) (fun i _ => n - (intOf i).toNat)
  case atStart => exact ⟨0, Nat.zero_le _, rfl, fun j hj => by omega, Below.refl _ _⟩
  case round =>
    obtain ⟨k, hk, rfl, hall, hbw⟩ := hrel
    have B2 := B1.trans (hbw.mono B1.size)
    by_cases hlt : k < n
    · obtain ⟨b, off, rfl, hc⟩ := (HA1.below hbw).some (by omega)
      obtain ⟨q, d, hcx, hwx, _, _⟩ := hc k (by omega)
      have HN : Hid ((wat ts k).2 < 0 → plainT ts = false) := fun h => plainT_not k (by omega) h
      have HS : Hid (0 ≤ (wat ts k).2 → ∀ j, j < k + 1 → 0 ≤ (wat ts j).2) := fun h j hj => by
        by_cases e : j = k
        · subst e; exact h
        · exact hall j (by omega)
      have hki : (k : Int) < (n : Int) := by omega
      generalize wat ts k = Y at *
      obtain ⟨ys, x⟩ := Y
      simp only at hcx hwx
      obtain ⟨m, hmm⟩ : ∃ m, ys.length = m := ⟨_, rfl⟩
      rw [hmm] at hcx
      clear hall hc hmm
      by_cases hx : x < 0
      · go_wp2
        go_ret
        exact ⟨ret_bool (HN.out hx).symm, B2.alloc B2.size _⟩
      · go_wp2
        go_roundw
        case rel => exact ⟨k + 1, by omega, by go_num, HS.out (by omega), hbw.alloc hbw.size _⟩
        case measure => simp [intOf]; omega
    · have HP := Hid.mk (plainT_of (ts := ts) (fun j hj => hall j (by omega)))
      clear hall
      go_wp2
      go_ret
      exact ⟨ret_bool HP.out.symm, B2⟩

set_option maxHeartbeats 1000000 in
theorem specIsPlain_any (a : Option Addr) (n c : Nat) (ts : List WRow) (p : Int) (w : World) (hz : ts.length = n) (hn : n ≤ 1048576) (ha : AtW w a ts) :
    Calls Try.prog 7 #[.agg #[.int .i64 p, .slice a n c]] w fun e w' => e = .returned (.tuple #[.bool (goodT p ts && plainT ts), .bool (goodT p ts)]) ∧ Below w.heap.size w w' := by
  have B0 : Below w.heap.size w (w.alloc (.cells #[.int .i64 p, .slice a n c] 30)) := (Below.refl _ _).alloc (Nat.le_refl _) _
  have HA := ha.below B0
  clear ha
  cases hg : goodT p ts with
  | false =>
    have HG := Hid.mk hg
    clear hg
    go_enter Try.func7, Try.ntmps7
    go_wp2_with fail
    refine (specGoodTable_any _ _ _ ts _ _ hz hn HA).mono ?_
    rintro e w1 ⟨rfl, hb1⟩
    rw [HG.out]
    go_wp2
    go_ret2
    exact ⟨rfl, B0.trans (hb1.mono B0.size)⟩
  | true =>
    have HG := Hid.mk hg
    clear hg
    go_enter Try.func7, Try.ntmps7
    go_wp2_with fail
    refine (specGoodTable_any _ _ _ ts _ _ hz hn HA).mono ?_
    rintro e w1 ⟨rfl, hb1⟩
    rw [HG.out]
    have B1 := B0.trans (hb1.mono B0.size)
    have ct := cell_later hb1 (pair1 w (.int .i64 p) (.slice a n c) 30)
    have ct' := cell_later hb1 (pair0 w (.int .i64 p) (.slice a n c) 30)
    have HA1 := HA.below hb1
    clear hb1 HA B0
    go_wp2_with fail
    refine (l2Plain_any _ _ _ ts _ _ hz hn HA1).mono ?_
    rintro e w2 ⟨rfl, hb2⟩
    go_wp2
    go_ret2
    exact ⟨by simp, B1.trans (hb2.mono B1.size)⟩

end Go.Proofs.Ytlhidfjoeimicab
