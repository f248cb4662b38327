/- Contracts of spec.ProjectDelta and impl.ProjectDelta. -/
import Derived.Test.YtmkhdocjabflkabProjI
namespace Go.Proofs.Ytmkhdocjabflkab
open Go.RowKit Go.Shelf


set_option maxHeartbeats 4000000 in
theorem specProjectDelta (a a' : Option Addr) (n n' c c' : Nat) (ts : List WRow) (p : Int) (cols : List Int) (w : World) (hz : ts.length = n) (hz' : cols.length = n') (hn : n ≤ 1048576) (hn' : n' ≤ 1048576) (ha : AtM w a ts) (ha' : At w a' cols) :
    Calls Try.prog 12 #[.agg #[.int .i64 p, .slice a n c], .slice a' n' c'] w fun e w' => TabAns e w' w.heap.size (projB p ts cols) cols.length (projW ts cols) ∧ Below w.heap.size w w' := by
  obtain ⟨W, hW⟩ : ∃ W, W = (w.alloc (.cells #[.int .i64 p, .slice a n c] 28)).alloc (.cells #[.int .i64 0, .slice none 0 0] 28) := ⟨_, rfl⟩
  have zW : W.heap.size = w.heap.size + 1 + 1 := by rw [hW]; simp
  have B0 : Below w.heap.size w W := by rw [hW]; exact ((Below.refl _ _).alloc (Nat.le_refl _) _).alloc (by simp) _
  have c0 : W.cell? ⟨w.heap.size, 0, none⟩ = some (.int .i64 p) := by rw [hW]; exact alloc_keeps (pair0 w _ _ _) _
  have c1 : W.cell? ⟨w.heap.size, 1, none⟩ = some (.slice a n c) := by rw [hW]; exact alloc_keeps (pair1 w _ _ _) _
  have q0 : W.heap[w.heap.size + 1]? = some (.cells #[.int .i64 0, .slice none 0 0] 28 (0, 0)) := by
    rw [hW]
    have := heap_alloc_new (w.alloc (.cells #[.int .i64 p, .slice a n c] 28)) (.cells #[.int .i64 0, .slice none 0 0] 28)
    rwa [World.size_alloc] at this
  have e0 : W.cell? ⟨w.heap.size + 1, 0, none⟩ = some (.int .i64 0) := by rw [cell_of_row _ _ 0 _ _ (0, 0) q0]; rfl
  have e1 : W.cell? ⟨w.heap.size + 1, 1, none⟩ = some (.slice none 0 0) := by rw [cell_of_row _ _ 1 _ _ (0, 0) q0]; rfl
  have f0 : W.frozen? ⟨w.heap.size + 1, 0, none⟩ = false := frozen_of_row _ _ 0 _ _ q0
  have f1 : W.frozen? ⟨w.heap.size + 1, 1, none⟩ = false := frozen_of_row _ _ 1 _ _ q0
  have HA := ha.below B0
  clear ha q0
  have HA' := ha'.below B0
  go_enter Try.func12, Try.ntmps12
  go_wp2_with fail
  rw [← hW]
  clear hW
  refine (specProjectTable _ _ _ _ _ _ ts _ cols _ hz hz' hn hn' HA HA').mono ?_
  rintro e w1 ⟨⟨r1, m1, d1, cells1, rfl, ho1⟩, hb1⟩
  have B1 := B0.trans (hb1.mono B0.size)
  have f0 := frozen_later hb1 e0 f0
  have f1 := frozen_later hb1 e1 f1
  have e0 := cell_later hb1 e0
  have e1 := cell_later hb1 e1
  have zR : w.heap.size + 1 < W.heap.size := by omega
  clear hb1 hz hz'
  go_wp2
  refine bodyPost_ret (v := .tuple #[.agg #[.int .i64 _, .slice r1 m1 d1], .bool _]) (by simp [results, Try.results12, go_sem, e0, e1]) rfl ⟨⟨r1, m1, d1, cells1, rfl, ho1.stored zR (by omega) _ _⟩, ?_⟩
  exact (B1.setCell (by show w.heap.size ≤ w.heap.size + 1; omega) _).setCell (by show w.heap.size ≤ w.heap.size + 1; omega) _

set_option maxHeartbeats 4000000 in
theorem implProjectDelta (a a' : Option Addr) (n n' c c' : Nat) (ts : List WRow) (p : Int) (cols : List Int) (w : World) (hz : ts.length = n) (hz' : cols.length = n') (hn : n ≤ 1048576) (hn' : n' ≤ 1048576) (ha : AtM w a ts) (ha' : At w a' cols) :
    Calls Try.prog 14 #[.agg #[.int .i64 p, .slice a n c], .slice a' n' c'] w fun e w' => TabAns e w' w.heap.size (projB p ts cols) cols.length (projW ts cols) ∧ Below w.heap.size w w' := by
  obtain ⟨W, hW⟩ : ∃ W, W = (w.alloc (.cells #[.int .i64 p, .slice a n c] 28)).alloc (.cells #[.int .i64 0, .slice none 0 0] 28) := ⟨_, rfl⟩
  have zW : W.heap.size = w.heap.size + 1 + 1 := by rw [hW]; simp
  have B0 : Below w.heap.size w W := by rw [hW]; exact ((Below.refl _ _).alloc (Nat.le_refl _) _).alloc (by simp) _
  have c0 : W.cell? ⟨w.heap.size, 0, none⟩ = some (.int .i64 p) := by rw [hW]; exact alloc_keeps (pair0 w _ _ _) _
  have c1 : W.cell? ⟨w.heap.size, 1, none⟩ = some (.slice a n c) := by rw [hW]; exact alloc_keeps (pair1 w _ _ _) _
  have q0 : W.heap[w.heap.size + 1]? = some (.cells #[.int .i64 0, .slice none 0 0] 28 (0, 0)) := by
    rw [hW]
    have := heap_alloc_new (w.alloc (.cells #[.int .i64 p, .slice a n c] 28)) (.cells #[.int .i64 0, .slice none 0 0] 28)
    rwa [World.size_alloc] at this
  have e0 : W.cell? ⟨w.heap.size + 1, 0, none⟩ = some (.int .i64 0) := by rw [cell_of_row _ _ 0 _ _ (0, 0) q0]; rfl
  have e1 : W.cell? ⟨w.heap.size + 1, 1, none⟩ = some (.slice none 0 0) := by rw [cell_of_row _ _ 1 _ _ (0, 0) q0]; rfl
  have f0 : W.frozen? ⟨w.heap.size + 1, 0, none⟩ = false := frozen_of_row _ _ 0 _ _ q0
  have f1 : W.frozen? ⟨w.heap.size + 1, 1, none⟩ = false := frozen_of_row _ _ 1 _ _ q0
  have HA := ha.below B0
  clear ha q0
  have HA' := ha'.below B0
  go_enter Try.func14, Try.ntmps14
  go_wp2_with fail
  rw [← hW]
  clear hW
  refine (implProjectTable _ _ _ _ _ _ ts _ cols _ hz hz' hn hn' HA HA').mono ?_
  rintro e w1 ⟨⟨r1, m1, d1, cells1, rfl, ho1⟩, hb1⟩
  have B1 := B0.trans (hb1.mono B0.size)
  have f0 := frozen_later hb1 e0 f0
  have f1 := frozen_later hb1 e1 f1
  have e0 := cell_later hb1 e0
  have e1 := cell_later hb1 e1
  have zR : w.heap.size + 1 < W.heap.size := by omega
  clear hb1 hz hz'
  go_wp2
  refine bodyPost_ret (v := .tuple #[.agg #[.int .i64 _, .slice r1 m1 d1], .bool _]) (by simp [results, Try.results14, go_sem, e0, e1]) rfl ⟨⟨r1, m1, d1, cells1, rfl, ho1.stored zR (by omega) _ _⟩, ?_⟩
  exact (B1.setCell (by show w.heap.size ≤ w.heap.size + 1; omega) _).setCell (by show w.heap.size ≤ w.heap.size + 1; omega) _
end Go.Proofs.Ytmkhdocjabflkab
