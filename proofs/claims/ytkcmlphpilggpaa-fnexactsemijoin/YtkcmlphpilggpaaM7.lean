/- The order of arrays as slices.SortFunc asks it: impl.compareArrays lays two blocks, draws, and turns nothing else. -/
import Derived.Test.YtkcmlphpilggpaaM6
import Derived.Test.YtkcmlphpilggpaaM4
import Derived.Shelf.SlSortCmp.InsertionK
namespace Go.Proofs.Ytkcmlphpilggpaa
open Go.RowKit

set_option maxHeartbeats 1000000 in
theorem compareArrays_quiet (x0 x1 x2 x3 x4 x5 y0 y1 y2 y3 y4 y5 : Int) (xs ys : List Int) (hx : xs = [x0, x1, x2, x3, x4, x5]) (hy : ys = [y0, y1, y2, y3, y4, y5]) (w : World) :
    Calls Try.prog 75 #[.agg #[.int .i64 x0, .int .i64 x1, .int .i64 x2, .int .i64 x3, .int .i64 x4, .int .i64 x5], .agg #[.int .i64 y0, .int .i64 y1, .int .i64 y2, .int .i64 y3, .int .i64 y4, .int .i64 y5]] w fun e w' => e = .returned (.int .i64 (cmp xs ys)) ∧ ∃ q, w' = ((w.alloc (.cells #[.int .i64 x0, .int .i64 x1, .int .i64 x2, .int .i64 x3, .int .i64 x4, .int .i64 x5] 107)).alloc (.cells #[.int .i64 y0, .int .i64 y1, .int .i64 y2, .int .i64 y3, .int .i64 y4, .int .i64 y5] 107)).drewN q := by
  obtain ⟨W, hW⟩ : ∃ W, W = (w.alloc (.cells #[.int .i64 x0, .int .i64 x1, .int .i64 x2, .int .i64 x3, .int .i64 x4, .int .i64 x5] 107)).alloc (.cells #[.int .i64 y0, .int .i64 y1, .int .i64 y2, .int .i64 y3, .int .i64 y4, .int .i64 y5] 107) := ⟨_, rfl⟩
  have B : Below w.heap.size w W := by rw [hW]; exact ((Below.refl _ _).alloc (Nat.le_refl _) _).alloc (by simp) _
  have A1 : Arr W w.heap.size 107 xs := by rw [hW, hx]; exact (Arr.new rfl (by simp)).alloc _
  have A2 : Arr W (w.heap.size + 1) 107 ys := by rw [hW, hy]; exact Arr.new (by simp) (by simp)
  have HW := Hid.mk hW
  obtain ⟨i0, hi, hz0, hz1, hz2⟩ := info_parts Try.infoInt
  have hq : ∀ w, (Op.equalIn 10000 107 (.agg #[.int .i64 x0, .int .i64 x1, .int .i64 x2, .int .i64 x3, .int .i64 x4, .int .i64 x5]) (.agg #[.int .i64 y0, .int .i64 y1, .int .i64 y2, .int .i64 y3, .int .i64 y4, .int .i64 y5])).run Try.prog w = .ok (decide (xs = ys)) w := fun w => by
    rw [hx, hy]
    simpa using run_equal_ints w 9998 107 3 i0 Try.underlying107 Try.underlying3 hi hz1 [x0, x1, x2, x3, x4, x5] [y0, y1, y2, y3, y4, y5] rfl rfl
  have l1 : xs.length = 6 := by rw [hx]; rfl
  have l2 : ys.length = 6 := by rw [hy]; rfl
  clear hx hy hi hz0 hz1 hz2
  by_cases he : xs = ys
  · have HC : Hid (cmp xs ys = 0) := by rw [he]; exact cmp_self ys
    rw [decide_eq_true he] at hq
    clear he A1 A2
    go_enter Try.func75, Try.ntmps75
    go_wp2
    go_ret
    exact ⟨ret_int HC.out.symm, 0, rfl⟩
  · rw [decide_eq_false he] at hq
    have HN : Hid (xs ≠ ys) := he
    clear he
    go_enter Try.func75, Try.ntmps75
    go_wp2
    rw [← hW]
    clear hW hq
    go_loopw [5] (fun i wr => ∃ k : Nat, k ≤ 6 ∧ i = .int .i64 k ∧ xs.take k = ys.take k ∧ cmp xs ys = cmp (xs.drop k) (ys.drop k) ∧ ∃ q, wr = W.drewN q) (fun i _ => 7 - (intOf i).toNat)
    case atStart => exact ⟨0, Nat.zero_le _, rfl, rfl, by simp, 0, rfl⟩
    case round =>
      obtain ⟨k, hk, rfl, ht, hcmp, q, rfl⟩ := hrel
      have hlt : k < 6 := by
        rcases Nat.lt_or_ge k 6 with h | h
        · exact h
        · exact absurd (take_all_eq (by omega) (by omega) ht) HN.out
      have hcx := A1.cell k (by omega)
      have hcy := A2.cell k (by omega)
      have HT : Hid (xs.getD k 0 = ys.getD k 0 → xs.take (k + 1) = ys.take (k + 1)) := fun e => by
        rw [take_succ_getD xs k (by omega), take_succ_getD ys k (by omega), ht, e]
      have HD : Hid (cmp xs ys = _) := hcmp.trans (cmp_drop xs ys k (by omega) (by omega))
      clear ht hcmp A1 A2
      obtain ⟨x, hx⟩ : ∃ x, x = xs.getD k 0 := ⟨_, rfl⟩
      obtain ⟨y, hy⟩ : ∃ y, y = ys.getD k 0 := ⟨_, rfl⟩
      rw [← hx] at hcx HD HT
      rw [← hy] at hcy HD HT
      clear hx hy
      have hk6 : (k : Int) < 6 := by omega
      rcases Int.lt_trichotomy x y with h | h | h
      · have hne : (x == y) = false := by simp; omega
        go_wp2
        go_quiet (fail)
        go_wp2
        go_quiet (fail)
        go_wp2
        go_ret
        exact ⟨ret_int (by rw [HD.out, if_pos h]), _, by rw [← HW.out]; simp; rfl⟩
      · subst h
        go_wp2
        go_quiet (fail)
        go_wp2
        go_roundw
        case rel => exact ⟨k + 1, by omega, by go_num, HT.out (by trivial), by rw [HD.out, if_neg (by omega), if_neg (by omega)], _, rfl⟩
        case measure => simp [intOf]; omega
      · have hne : (x == y) = false := by simp; omega
        go_wp2
        go_quiet (fail)
        go_wp2
        go_quiet (fail)
        go_wp2
        go_ret
        exact ⟨ret_int (by rw [HD.out, if_neg (by omega), if_pos h]), _, by rw [← HW.out]; simp; rfl⟩

open Go.Shelf Go.Sort

/-- Six numbers. -/
abbrev Six := Int × Int × Int × Int × Int × Int
def Six.list (x : Six) : List Int := [x.1, x.2.1, x.2.2.1, x.2.2.2.1, x.2.2.2.2.1, x.2.2.2.2.2]
def Six.enc (x : Six) : List Value := [.int .i64 x.1, .int .i64 x.2.1, .int .i64 x.2.2.1, .int .i64 x.2.2.2.1, .int .i64 x.2.2.2.2.1, .int .i64 x.2.2.2.2.2]
def Six.cf (x y : Six) : Int := cmp (Six.list x) (Six.list y)
theorem Six.list_inj {x y : Six} (h : Six.list x = Six.list y) : x = y := by
  obtain ⟨a, b, c, d, e, f⟩ := x
  obtain ⟨a', b', c', d', e', f'⟩ := y
  simpa [Six.list] using h

theorem Six.lays (blk off size : Nat) (w : World) : CmpLays Try.prog 75 #[] Six.enc 6 Six.cf blk off size w := fun m os dk _ x y => by
  refine (compareArrays_quiet _ _ _ _ _ _ _ _ _ _ _ _ (Six.list x) (Six.list y) rfl rfl _).mono ?_
  rintro e w' ⟨rfl, q, rfl⟩
  exact ⟨rfl, q, _, by rw [alloc_eq_grow, alloc_eq_grow, grow_grow]; rfl⟩

theorem cmp_nlt {xs ys zs : List Int} (h1 : ¬ cmp xs ys < 0) (h2 : ¬ cmp ys zs < 0) : ¬ cmp xs zs < 0 := fun h => by
  have h3 := cmp_swap xs ys
  by_cases e : cmp ys xs < 0
  · exact h2 (cmp_trans e h)
  · have : cmp xs ys = 0 := by omega
    rw [cmp_eq this] at h
    exact h2 h

theorem Six.lt (x y : Six) : ltOf Six.cf x y = decide (cmp (Six.list x) (Six.list y) < 0) := rfl
theorem Six.swo : SWO (ltOf Six.cf) where
  irrefl x := by rw [Six.lt]; exact decide_eq_false (cmp_irrefl _)
  trans x y z h1 h2 := by rw [Six.lt, decide_eq_true_eq] at *; exact cmp_trans h1 h2
  ntrans x y z h1 h2 := by rw [Six.lt, decide_eq_false_iff_not] at *; exact cmp_nlt h1 h2
theorem Six.total (x y : Six) (h1 : ltOf Six.cf x y = false) (h2 : ltOf Six.cf y x = false) : x = y := by
  rw [Six.lt, decide_eq_false_iff_not] at h1 h2
  have := cmp_swap (Six.list x) (Six.list y)
  exact Six.list_inj (cmp_eq (by omega))

end Go.Proofs.Ytkcmlphpilggpaa
