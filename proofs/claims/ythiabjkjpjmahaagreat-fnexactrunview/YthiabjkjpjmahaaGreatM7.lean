/- Several texts of one proof, in build order: ArrayOf, Compare. -/
import Derived.Test.YthiabjkjpjmahaaGreatM6

/- Contract of impl.arrayOf. -/
namespace Go.Proofs.YthiabjkjpjmahaaGreat
open Go.RowKit

set_option maxHeartbeats 1000000 in
theorem arrayOf_any (a : Option Addr) (n c : Nat) (zs : List Int) (w : World) (hz : zs.length = n) (hn : n ≤ 6) (hg : ∀ k, k < n → -100000 ≤ zs.getD k 0 ∧ zs.getD k 0 ≤ 100000) (ha : At w a zs) :
    Calls Tryz.prog 86 #[.agg #[.slice a n c]] w fun e w' => ∃ x0 x1 x2 x3 x4 x5, e = .returned (.agg #[.int .i64 x0, .int .i64 x1, .int .i64 x2, .int .i64 x3, .int .i64 x4, .int .i64 x5]) ∧ raised zs = [x0, x1, x2, x3, x4, x5] ∧ Below w.heap.size w w' := by
  obtain ⟨W, hW⟩ : ∃ W, W = ((w.alloc (.cells #[.slice a n c] 80)).alloc (.cells #[.int .i64 0, .int .i64 0, .int .i64 0, .int .i64 0, .int .i64 0, .int .i64 0] 131)).alloc (.cells #[.int .i64 0, .int .i64 0, .int .i64 0, .int .i64 0, .int .i64 0, .int .i64 0] 131) := ⟨_, rfl⟩
  have B : Below w.heap.size w W := by rw [hW]; exact (((Below.refl _ _).alloc (Nat.le_refl _) _).alloc (by simp) _).alloc (by simp; omega) _
  have HA : At W a zs := ha.below B
  have A1 : Arr W (w.heap.size + 1) 131 [0, 0, 0, 0, 0, 0] := by
    rw [hW]; exact (Arr.new (by simp) (by simp)).alloc _
  have A2 : Arr W (w.heap.size + 1 + 1) 131 (rowTo zs 0) := by
    rw [hW]; exact Arr.new (by simp) (by simp [rowTo])
  have hb0 : ∀ b off, a = some ⟨b, off, none⟩ → 0 < n → b < w.heap.size := by
    rintro b off rfl h0
    obtain ⟨b', off', he, hb', _⟩ := ha.some (by omega)
    simp at he
    omega
  have zW : W.heap.size = w.heap.size + 3 := by rw [hW]; simp
  go_enter Tryz.func86, Tryz.ntmps86
  go_wp2
  rw [← hW]
  clear hW ha
  go_loopw [9] (fun i wr => ∃ k : Nat, k ≤ n ∧ i = .int .i64 k ∧ Arr wr (w.heap.size + 1 + 1) 131 (rowTo zs k) ∧ Below (w.heap.size + 2) W wr) (fun i _ => n - (intOf i).toNat)
  case atStart => exact ⟨0, Nat.zero_le _, rfl, A2, Below.refl _ _⟩
  case round =>
    obtain ⟨k, hk, rfl, hrow, hbw⟩ := hrel
    by_cases hlt : k < n
    · obtain ⟨b, off, rfl, hb, hc⟩ := HA.some (by omega)
      have hbb := hb0 b off rfl (by omega)
      have hcx := (hbw.cell (p := ⟨b, off + k, none⟩) (by simp; omega)).trans (hc k (by omega))
      have hgk := hg k hlt
      have hco := hrow.cell k (by rw [rowTo_length zs k (by omega) (by omega)]; omega)
      have hfo := hrow.frozen k
      have HS : Hid (Arr (wr.setCell ⟨w.heap.size + 1 + 1, k, none⟩ (.int .i64 (zs.getD k 0 + 100001))) (w.heap.size + 1 + 1) 131 (rowTo zs (k + 1))) := by
        have := hrow.set k (zs.getD k 0 + 100001)
        rwa [rowTo_set zs k (by omega) (by omega)] at this
      have HB : Hid (Below (w.heap.size + 2) W (wr.setCell ⟨w.heap.size + 1 + 1, k, none⟩ (.int .i64 (zs.getD k 0 + 100001)))) := hbw.setCell (by simp) _
      clear hc hg hrow A1 A2 HA hb0
      obtain ⟨x, hx⟩ : ∃ x, x = zs.getD k 0 := ⟨_, rfl⟩
      rw [← hx] at hcx hgk HS HB
      obtain ⟨y, hy⟩ : ∃ y, y = (rowTo zs k).getD k 0 := ⟨_, rfl⟩
      rw [← hy] at hco
      clear hx hy
      obtain ⟨hlo, hhi⟩ := hgk
      have hk6 : (k : Int) < 6 := by omega
      go_wp2
      go_roundw
      case rel => exact ⟨k + 1, by omega, by go_num, by simpa [Int.add_assoc] using HS.out, by simpa [Int.add_assoc] using HB.out⟩
      case measure => simp [intOf]; omega
    · obtain rfl : k = n := by omega
      rw [← hz, rowTo_all] at hrow
      obtain ⟨x0, x1, x2, x3, x4, x5, hx⟩ := list6 (raised_length (zs := zs) (by omega))
      have HX : Hid (raised zs = [x0, x1, x2, x3, x4, x5]) := hx
      rw [hx] at hrow
      have A1w := A1.below hbw (by omega)
      have e0 := hrow.cell 0 (by simp)
      have e1 := hrow.cell 1 (by simp)
      have e2 := hrow.cell 2 (by simp)
      have e3 := hrow.cell 3 (by simp)
      have e4 := hrow.cell 4 (by simp)
      have e5 := hrow.cell 5 (by simp)
      have f0 := A1w.cell 0 (by simp)
      have f1 := A1w.cell 1 (by simp)
      have f2 := A1w.cell 2 (by simp)
      have f3 := A1w.cell 3 (by simp)
      have f4 := A1w.cell 4 (by simp)
      have f5 := A1w.cell 5 (by simp)
      have r0 := A1w.frozen 0
      have r1 := A1w.frozen 1
      have r2 := A1w.frozen 2
      have r3 := A1w.frozen 3
      have r4 := A1w.frozen 4
      have r5 := A1w.frozen 5
      simp only [List.getD_eq_getElem?_getD, List.getElem?_cons_zero, List.getElem?_cons_succ, Option.getD_some] at e0 e1 e2 e3 e4 e5 f0 f1 f2 f3 f4 f5
      clear hx hrow A1 A2 A1w HA hb0 hg
      go_wp2
      refine bodyPost_ret (v := .agg #[.int .i64 x0, .int .i64 x1, .int .i64 x2, .int .i64 x3, .int .i64 x4, .int .i64 x5]) (by simp [results, Tryz.results86, go_sem, f0, f1, f2, f3, f4, f5]) rfl ⟨x0, x1, x2, x3, x4, x5, rfl, HX.out, ?_⟩
      exact ((((((B.trans (hbw.mono (by omega))).setCell (by simp) _).setCell (by simp) _).setCell (by simp) _).setCell (by simp) _).setCell (by simp) _).setCell (by simp) _

end Go.Proofs.YthiabjkjpjmahaaGreat

/- Contracts of spec.l1Compare, impl.compareArrays. -/
namespace Go.Proofs.YthiabjkjpjmahaaGreat
open Go.RowKit

set_option maxHeartbeats 1000000 in
theorem l1Compare_any (a a' : Option Addr) (n n' c c' : Nat) (xs ys : List Int) (w : World) (hz : xs.length = n) (hz' : ys.length = n') (hn : n ≤ 6) (hn' : n' ≤ 6) (ha : At w a xs) (ha' : At w a' ys) :
    Calls Tryz.prog 121 #[.agg #[.slice a n c], .agg #[.slice a' n' c']] w fun e w' => e = .returned (.int .i64 (cmp xs ys)) ∧ Below w.heap.size w w' := by
  obtain ⟨W, hW⟩ : ∃ W, W = (w.alloc (.cells #[.slice a n c] 80)).alloc (.cells #[.slice a' n' c'] 80) := ⟨_, rfl⟩
  have B : Below w.heap.size w W := by rw [hW]; exact ((Below.refl _ _).alloc (Nat.le_refl _) _).alloc (by simp) _
  have HA : At W a xs := ha.below B
  have HA' : At W a' ys := ha'.below B
  have c1 : W.cell? ⟨w.heap.size, 0, none⟩ = some (.slice a n c) := by rw [hW]; simp
  have c2 : W.cell? ⟨w.heap.size + 1, 0, none⟩ = some (.slice a' n' c') := by rw [hW]; simp
  have z2 : W.heap.size = w.heap.size + 1 + 1 := by rw [hW]; simp
  clear ha ha'
  go_enter Tryz.func121, Tryz.ntmps121
  go_wp2
  rw [← hW]
  clear hW
  go_loopw [5] (fun i wr => ∃ k : Nat, k ≤ n ∧ k ≤ n' ∧ i = .int .i64 k ∧ cmp xs ys = cmp (xs.drop k) (ys.drop k) ∧ Below W.heap.size W wr) (fun i _ => 7 - (intOf i).toNat)
  case atStart => exact ⟨0, Nat.zero_le _, Nat.zero_le _, rfl, by simp, Below.refl _ _⟩
  case round =>
    obtain ⟨k, hk, hk', rfl, hcmp, hbw⟩ := hrel
    have d1 := cell_later hbw c1
    have d2 := cell_later hbw c2
    have BW : Below w.heap.size w wr := B.trans (hbw.mono B.size)
    have HC : Hid (cmp xs ys = cmp (xs.drop k) (ys.drop k)) := hcmp
    clear hcmp
    by_cases hlt : k < n
    · by_cases hlt' : k < n'
      · obtain ⟨b, off, rfl, hb, hc⟩ := (HA.below hbw).some (by omega)
        obtain ⟨b', off', rfl, hb', hc'⟩ := (HA'.below hbw).some (by omega)
        have hcx := hc k (by omega)
        have hcy := hc' k (by omega)
        have HD : Hid (cmp xs ys = _) := HC.out.trans (cmp_drop xs ys k (by omega) (by omega))
        clear hc hc' HC HA HA' c1 c2 z2
        obtain ⟨x, hx⟩ : ∃ x, x = xs.getD k 0 := ⟨_, rfl⟩
        obtain ⟨y, hy⟩ : ∃ y, y = ys.getD k 0 := ⟨_, rfl⟩
        rw [← hx] at hcx HD
        rw [← hy] at hcy HD
        clear hx hy
        by_cases hxy : x < y
        · go_wp2
          go_quiet (fail)
          go_wp2
          go_ret
          exact ⟨ret_int (by rw [HD.out, if_pos hxy]), below_drewN BW _⟩
        · go_wp2
          go_quiet (fail)
          go_wp2
          by_cases hyx : y < x
          · go_quiet (fail)
            go_wp2
            go_ret
            exact ⟨ret_int (by rw [HD.out, if_neg (by omega), if_pos hyx]), below_drewN (below_drewN BW _) _⟩
          · go_quiet (fail)
            go_wp2
            go_roundw
            case rel => exact ⟨k + 1, by omega, by omega, by go_num, by rw [HD.out, if_neg (by omega), if_neg (by omega)], below_drewN hbw _⟩
            case measure => simp [intOf]; omega
      · have HE : Hid (cmp xs ys = _) := HC.out.trans (cmp_end xs ys k (by omega) (by omega) (by omega))
        have hg : ¬ n < n' := by omega
        have hg' : n' < n := by omega
        go_wp2
        go_ret
        exact ⟨ret_int (by rw [HE.out, if_neg (by omega), if_pos (by omega)]), BW⟩
    · have HE : Hid (cmp xs ys = _) := HC.out.trans (cmp_end xs ys k (by omega) (by omega) (by omega))
      by_cases hg : n < n'
      · go_wp2
        go_ret
        exact ⟨ret_int (by rw [HE.out, if_pos (by omega)]), BW⟩
      · have hg' : n = n' := by omega
        subst hg'
        go_wp2
        go_ret
        exact ⟨ret_int (by rw [HE.out, if_neg (by omega), if_neg (by omega)]), BW⟩

set_option maxHeartbeats 1000000 in
theorem compareArrays_any (x0 x1 x2 x3 x4 x5 y0 y1 y2 y3 y4 y5 : Int) (xs ys : List Int) (hx : xs = [x0, x1, x2, x3, x4, x5]) (hy : ys = [y0, y1, y2, y3, y4, y5]) (w : World) :
    Calls Tryz.prog 106 #[.agg #[.int .i64 x0, .int .i64 x1, .int .i64 x2, .int .i64 x3, .int .i64 x4, .int .i64 x5], .agg #[.int .i64 y0, .int .i64 y1, .int .i64 y2, .int .i64 y3, .int .i64 y4, .int .i64 y5]] w fun e w' => e = .returned (.int .i64 (cmp xs ys)) ∧ Below w.heap.size w w' := by
  obtain ⟨W, hW⟩ : ∃ W, W = (w.alloc (.cells #[.int .i64 x0, .int .i64 x1, .int .i64 x2, .int .i64 x3, .int .i64 x4, .int .i64 x5] 131)).alloc (.cells #[.int .i64 y0, .int .i64 y1, .int .i64 y2, .int .i64 y3, .int .i64 y4, .int .i64 y5] 131) := ⟨_, rfl⟩
  have B : Below w.heap.size w W := by rw [hW]; exact ((Below.refl _ _).alloc (Nat.le_refl _) _).alloc (by simp) _
  have A1 : Arr W w.heap.size 131 xs := by rw [hW, hx]; exact (Arr.new rfl (by simp)).alloc _
  have A2 : Arr W (w.heap.size + 1) 131 ys := by rw [hW, hy]; exact Arr.new (by simp) (by simp)
  obtain ⟨i0, hi, hz0, hz1, hz2⟩ := info_parts Tryz.infoInt
  have hq : ∀ w, (Op.equalIn 10000 131 (.agg #[.int .i64 x0, .int .i64 x1, .int .i64 x2, .int .i64 x3, .int .i64 x4, .int .i64 x5]) (.agg #[.int .i64 y0, .int .i64 y1, .int .i64 y2, .int .i64 y3, .int .i64 y4, .int .i64 y5])).run Tryz.prog w = .ok (decide (xs = ys)) w := fun w => by
    rw [hx, hy]
    simpa using run_equal_ints w 9998 131 3 i0 Tryz.underlying131 Tryz.underlying3 hi hz1 [x0, x1, x2, x3, x4, x5] [y0, y1, y2, y3, y4, y5] rfl rfl
  have l1 : xs.length = 6 := by rw [hx]; rfl
  have l2 : ys.length = 6 := by rw [hy]; rfl
  clear hx hy hi hz0 hz1 hz2
  by_cases he : xs = ys
  · have HC : Hid (cmp xs ys = 0) := by rw [he]; exact cmp_self ys
    rw [decide_eq_true he] at hq
    clear he A1 A2
    go_enter Tryz.func106, Tryz.ntmps106
    go_wp2
    go_ret
    exact ⟨ret_int HC.out.symm, by rw [← hW]; exact B⟩
  · rw [decide_eq_false he] at hq
    have HN : Hid (xs ≠ ys) := he
    clear he
    go_enter Tryz.func106, Tryz.ntmps106
    go_wp2
    rw [← hW]
    clear hW hq
    go_loopw [5] (fun i wr => ∃ k : Nat, k ≤ 6 ∧ i = .int .i64 k ∧ xs.take k = ys.take k ∧ cmp xs ys = cmp (xs.drop k) (ys.drop k) ∧ Below W.heap.size W wr) (fun i _ => 7 - (intOf i).toNat)
    case atStart => exact ⟨0, Nat.zero_le _, rfl, rfl, by simp, Below.refl _ _⟩
    case round =>
      obtain ⟨k, hk, rfl, ht, hcmp, hbw⟩ := hrel
      have hlt : k < 6 := by
        rcases Nat.lt_or_ge k 6 with h | h
        · exact h
        · exact absurd (take_all_eq (by omega) (by omega) ht) HN.out
      have hcx := cell_later hbw (A1.cell k (by omega))
      have hcy := cell_later hbw (A2.cell k (by omega))
      have BW : Below w.heap.size w wr := B.trans (hbw.mono B.size)
      have HT : Hid (xs.getD k 0 = ys.getD k 0 → xs.take (k + 1) = ys.take (k + 1)) := fun e => by
        rw [take_succ_getD xs k (by omega), take_succ_getD ys k (by omega), ht, e]
      have HD : Hid (cmp xs ys = _) := hcmp.trans (cmp_drop xs ys k (by omega) (by omega))
      clear ht hcmp A1 A2
      obtain ⟨x, hx⟩ : ∃ x, x = xs.getD k 0 := ⟨_, rfl⟩
      obtain ⟨y, hy⟩ : ∃ y, y = ys.getD k 0 := ⟨_, rfl⟩
      rw [← hx] at hcx HD HT
      rw [← hy] at hcy HD HT
      clear hx hy
      have hk6 : (k : Int) < 6 := by omega
      rcases Int.lt_trichotomy x y with h | h | h
      · have hne : (x == y) = false := by simp; omega
        go_wp2
        go_quiet (fail)
        go_wp2
        go_quiet (fail)
        go_wp2
        go_ret
        exact ⟨ret_int (by rw [HD.out, if_pos h]), below_drewN (below_drewN BW _) _⟩
      · subst h
        go_wp2
        go_quiet (fail)
        go_wp2
        go_roundw
        case rel => exact ⟨k + 1, by omega, by go_num, HT.out (by trivial), by rw [HD.out, if_neg (by omega), if_neg (by omega)], below_drewN hbw _⟩
        case measure => simp [intOf]; omega
      · have hne : (x == y) = false := by simp; omega
        go_wp2
        go_quiet (fail)
        go_wp2
        go_quiet (fail)
        go_wp2
        go_ret
        exact ⟨ret_int (by rw [HD.out, if_neg (by omega), if_pos h]), below_drewN (below_drewN BW _) _⟩

end Go.Proofs.YthiabjkjpjmahaaGreat
