/- Contract of impl.arrayOf. -/
import Derived.Test.YtpnaoahlfhbbmaaGoodRow
import Derived.Test.YtpnaoahlfhbbmaaArrEq
namespace Go.Proofs.Ytpnaoahlfhbbmaa
open Go.RowKit

set_option maxHeartbeats 1000000 in
theorem arrayOf_any (a : Option Addr) (n c : Nat) (zs : List Int) (w : World) (hz : zs.length = n) (hn : n ≤ 6) (hg : ∀ k, k < n → -100000 ≤ zs.getD k 0 ∧ zs.getD k 0 ≤ 100000) (ha : At w a zs) :
    Calls Try.prog 54 #[.agg #[.slice a n c]] w fun e w' => ∃ x0 x1 x2 x3 x4 x5, e = .returned (.agg #[.int .i64 x0, .int .i64 x1, .int .i64 x2, .int .i64 x3, .int .i64 x4, .int .i64 x5]) ∧ raised zs = [x0, x1, x2, x3, x4, x5] ∧ Below w.heap.size w w' := by
  obtain ⟨W, hW⟩ : ∃ W, W = ((w.alloc (.cells #[.slice a n c] 69)).alloc (.cells #[.int .i64 0, .int .i64 0, .int .i64 0, .int .i64 0, .int .i64 0, .int .i64 0] 81)).alloc (.cells #[.int .i64 0, .int .i64 0, .int .i64 0, .int .i64 0, .int .i64 0, .int .i64 0] 81) := ⟨_, rfl⟩
  have B : Below w.heap.size w W := by rw [hW]; exact (((Below.refl _ _).alloc (Nat.le_refl _) _).alloc (by simp) _).alloc (by simp; omega) _
  have HA : At W a zs := ha.below B
  have A1 : Arr W (w.heap.size + 1) 81 [0, 0, 0, 0, 0, 0] := by
    rw [hW]; exact (Arr.new (by simp) (by simp)).alloc _
  have A2 : Arr W (w.heap.size + 1 + 1) 81 (rowTo zs 0) := by
    rw [hW]; exact Arr.new (by simp) (by simp [rowTo])
  have hb0 : ∀ b off, a = some ⟨b, off, none⟩ → 0 < n → b < w.heap.size := by
    rintro b off rfl h0
    obtain ⟨b', off', he, hb', _⟩ := ha.some (by omega)
    simp at he
    omega
  have zW : W.heap.size = w.heap.size + 3 := by rw [hW]; simp
  go_enter Try.func54, Try.ntmps54
  go_wp2
  rw [← hW]
  clear hW ha
  go_loopw [9] (fun i wr => ∃ k : Nat, k ≤ n ∧ i = .int .i64 k ∧ Arr wr (w.heap.size + 1 + 1) 81 (rowTo zs k) ∧ Below (w.heap.size + 2) W wr) (fun i _ => n - (intOf i).toNat)
  case atStart => exact ⟨0, Nat.zero_le _, rfl, A2, Below.refl _ _⟩
  case round =>
    obtain ⟨k, hk, rfl, hrow, hbw⟩ := hrel
    by_cases hlt : k < n
    · obtain ⟨b, off, rfl, hb, hc⟩ := HA.some (by omega)
      have hbb := hb0 b off rfl (by omega)
      have hcx := (hbw.cell (p := ⟨b, off + k, none⟩) (by simp; omega)).trans (hc k (by omega))
      have hgk := hg k hlt
      have hco := hrow.cell k (by rw [rowTo_length zs k (by omega) (by omega)]; omega)
      have hfo := hrow.frozen k
      have HS : Hid (Arr (wr.setCell ⟨w.heap.size + 1 + 1, k, none⟩ (.int .i64 (zs.getD k 0 + 100001))) (w.heap.size + 1 + 1) 81 (rowTo zs (k + 1))) := by
        have := hrow.set k (zs.getD k 0 + 100001)
        rwa [rowTo_set zs k (by omega) (by omega)] at this
      have HB : Hid (Below (w.heap.size + 2) W (wr.setCell ⟨w.heap.size + 1 + 1, k, none⟩ (.int .i64 (zs.getD k 0 + 100001)))) := hbw.setCell (by simp) _
      clear hc hg hrow A1 A2 HA hb0
      obtain ⟨x, hx⟩ : ∃ x, x = zs.getD k 0 := ⟨_, rfl⟩
      rw [← hx] at hcx hgk HS HB
      obtain ⟨y, hy⟩ : ∃ y, y = (rowTo zs k).getD k 0 := ⟨_, rfl⟩
      rw [← hy] at hco
      clear hx hy
      obtain ⟨hlo, hhi⟩ := hgk
      have hk6 : (k : Int) < 6 := by omega
      go_wp2
      go_roundw
      case rel => exact ⟨k + 1, by omega, by go_num, by simpa [Int.add_assoc] using HS.out, by simpa [Int.add_assoc] using HB.out⟩
      case measure => simp [intOf]; omega
    · obtain rfl : k = n := by omega
      rw [← hz, rowTo_all] at hrow
      obtain ⟨x0, x1, x2, x3, x4, x5, hx⟩ := list6 (raised_length (zs := zs) (by omega))
      have HX : Hid (raised zs = [x0, x1, x2, x3, x4, x5]) := hx
      rw [hx] at hrow
      have A1w := A1.below hbw (by omega)
      have e0 := hrow.cell 0 (by simp)
      have e1 := hrow.cell 1 (by simp)
      have e2 := hrow.cell 2 (by simp)
      have e3 := hrow.cell 3 (by simp)
      have e4 := hrow.cell 4 (by simp)
      have e5 := hrow.cell 5 (by simp)
      have f0 := A1w.cell 0 (by simp)
      have f1 := A1w.cell 1 (by simp)
      have f2 := A1w.cell 2 (by simp)
      have f3 := A1w.cell 3 (by simp)
      have f4 := A1w.cell 4 (by simp)
      have f5 := A1w.cell 5 (by simp)
      have r0 := A1w.frozen 0
      have r1 := A1w.frozen 1
      have r2 := A1w.frozen 2
      have r3 := A1w.frozen 3
      have r4 := A1w.frozen 4
      have r5 := A1w.frozen 5
      simp only [List.getD_eq_getElem?_getD, List.getElem?_cons_zero, List.getElem?_cons_succ, Option.getD_some] at e0 e1 e2 e3 e4 e5 f0 f1 f2 f3 f4 f5
      clear hx hrow A1 A2 A1w HA hb0 hg
      go_wp2
      refine bodyPost_ret (v := .agg #[.int .i64 x0, .int .i64 x1, .int .i64 x2, .int .i64 x3, .int .i64 x4, .int .i64 x5]) (by simp [results, Try.results54, go_sem, f0, f1, f2, f3, f4, f5]) rfl ⟨x0, x1, x2, x3, x4, x5, rfl, HX.out, ?_⟩
      exact ((((((B.trans (hbw.mono (by omega))).setCell (by simp) _).setCell (by simp) _).setCell (by simp) _).setCell (by simp) _).setCell (by simp) _).setCell (by simp) _

end Go.Proofs.Ytpnaoahlfhbbmaa
