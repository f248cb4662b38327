/- Contract of slices.Repeat of one number, four times. -/
import Derived.Test.YtociphdhkjoofaaIntS
import Derived.Test.YtociphdhkjoofaaBlk
import Derived.Test.YtociphdhkjoofaaRows
import Derived.Laws.CopyOwn
import Derived.Deep.CutBlock
namespace Go.Proofs.Ytociphdhkjoofaa
open Go.RowKit

set_option maxRecDepth 100000 in
set_option maxHeartbeats 1000000 in
theorem mul64_14 (w : World) : Calls Try.prog 75 #[.int .u64 1, .int .u64 4] w fun e w' => e = .returned (.tuple #[.int .u64 0, .int .u64 4]) ∧ w' = w := by
  go_enter Try.func75, Try.ntmps75
  go_wp2
  refine bodyPost_ret (v := .tuple #[.int .u64 0, .int .u64 4]) (by simp [results, Try.results75, go_sem]; decide) rfl ⟨rfl, rfl⟩

set_option maxRecDepth 100000 in
set_option maxHeartbeats 1000000 in
theorem mul_14 (w : World) : Calls Try.prog 64 #[.int .u64 1, .int .u64 4] w fun e w' => e = .returned (.tuple #[.int .u64 0, .int .u64 4]) ∧ w' = w := by
  go_enter Try.func64, Try.ntmps64
  go_wp2_with fail
  refine (mul64_14 w).mono ?_
  rintro e w1 ⟨rfl, hw⟩
  obtain rfl := hw.symm
  go_wp2
  refine bodyPost_ret (v := .tuple #[.int .u64 0, .int .u64 4]) (by simp [results, Try.results64, go_sem]) rfl ⟨rfl, rfl⟩

theorem own4 {w : World} {g : Nat} {x y z u : Value} {t : TypeId} (h : w.heap[g]? = some (.cells #[x, y, z, u] t (0, 0))) : w.ownsRow g t 1 (.slice (some ⟨g, 0, none⟩) 4 4) 4 [x, y, z, u] :=
  ⟨by simp, .inr ⟨g, 4, #[x, y, z, u], rfl, Nat.le_refl _, h, Nat.le_refl _, by decide, rfl, rfl⟩⟩

theorem own_row {w : World} {base g n : Nat} {e : TypeId} {xs : List Value} (h : w.ownsRow base e 1 (.slice (some ⟨g, 0, none⟩) n n) n xs) : w.heap[g]? = some (.cells xs.toArray e (0, 0)) := by
  rcases h.2 with ⟨hv, _⟩ | ⟨g', cap, cur, hv, _, hh, _, _, hs, ht⟩
  · cases hv
  · simp only [Value.slice.injEq, Option.some.injEq, Addr.mk.injEq, true_and, and_true] at hv
    obtain ⟨rfl, rfl⟩ := hv
    rw [hh, ← ht, List.take_of_length_le (by simp [hs])]

set_option maxRecDepth 100000 in
set_option maxHeartbeats 400000 in
theorem repeat4_any (b off c : Nat) (x : Int) (w : World) (hc : w.cell? ⟨b, off, none⟩ = some (.int .i64 x)) :
    Calls Try.prog 47 #[.slice (some ⟨b, off, none⟩) 1 c, .int .i64 4] w fun e w' => e = .returned (.slice (some ⟨w.heap.size, 0, none⟩) 4 4) ∧ w'.heap[w.heap.size]? = some (.cells #[.int .i64 x, .int .i64 x, .int .i64 x, .int .i64 x] 3 (0, 0)) ∧ Below w.heap.size w w' := by
  obtain ⟨i0, hi, hz0, hz1, hz2⟩ := info_parts Try.infoInt
  have hs1 : (Try.prog.info? 3).map (·.size) = some 1 := by rw [hi]; simp [hz1]
  go_enter Try.func47, Try.ntmps47
  go_wp2_with fail
  refine (mul_14 w).mono ?_
  rintro e w1 ⟨rfl, hw⟩
  obtain rfl := hw.symm
  go_wp2_with (at_make; refine wpList_make_full _ rfl _ _ 22 rfl w.heap.size 3 i0 (.int .i64 0) 1 Try.underlying22 hi hz0 hz1 .i64 .i64 _ _ 4 rfl rfl rfl rfl (by rw [hz2]; omega) (by unfold maxLen; omega) (Nat.le_refl _) ?_; intro w1 hown hg)
  have hb1 : Below w.heap.size w w1 := (Below.refl _ _).grown hg (Nat.le_refl _) (by simp)
  have h0 : w1.heap[w.heap.size]? = some (.cells [.int .i64 0, .int .i64 0, .int .i64 0, .int .i64 0].toArray 3 (0, 0)) := by
    have e4 : (madeCells (Value.int .i64 0).cells (4 * 1)).toList = [.int .i64 0, .int .i64 0, .int .i64 0, .int .i64 0] := by simp [madeCells, Value.cells, List.range, List.range.loop]
    rw [e4] at hown
    exact own_row hown
  have hc1 := cell_later hb1 hc
  clear hown hg
  obtain ⟨w2, hrun, hw2, hbw2⟩ : ∃ wN, (Builtin.copy_ #[22, 22] 3 #[.slice (some ⟨w.heap.size, 0, none⟩) 4 4, .slice (some ⟨b, off, none⟩) 1 c]).run Try.prog w1 = .ok (.int .i64 1) wN ∧ wN.heap[w.heap.size]? = some (.cells [.int .i64 x, .int .i64 0, .int .i64 0, .int .i64 0].toArray 3 (0, 0)) ∧ Below w.heap.size w wN :=
    ⟨_, run_copy_row (P := Try.prog) w1 22 22 3 3 w.heap.size 0 4 4 ⟨b, off, none⟩ 1 c _ 3 [.int .i64 x] Try.underlying22 hs1 h0 rfl (fun j v hv => by match j, hv with | 0, hv => (cases hv; exact hc1)) (by simp) (fun v hv => by simp only [List.mem_cons, List.not_mem_nil, or_false] at hv; subst hv; rfl), setRow_heap w1 w.heap.size _ _ 3 (0, 0) h0, below_setRow hb1 (Nat.le_refl _) _⟩
  clear h0 hc1 hb1
  rw [hrun]
  clear hrun
  go_wp2_with fail
  have e2 : IntKind.i64.wrap 2 = 2 := by decide
  have e4 : IntKind.i64.wrap 4 = 4 := by decide
  refine wp_loop_rounds 3 ?_
  rw [rounds_succ]
  go_wp2_with fail
  obtain ⟨w3, hrun, hw3, hbw3⟩ : ∃ wN, (Builtin.copy_ #[22, 22] 3 #[.slice (some ⟨w.heap.size, 1, none⟩) 3 3, .slice (some ⟨w.heap.size, 0, none⟩) 1 4]).run Try.prog w2.drew = .ok (.int .i64 1) wN ∧ wN.heap[w.heap.size]? = some (.cells [.int .i64 x, .int .i64 x, .int .i64 0, .int .i64 0].toArray 3 (0, 0)) ∧ Below w.heap.size w wN :=
    ⟨_, run_copy_row (P := Try.prog) w2.drew 22 22 3 3 w.heap.size 1 3 3 ⟨w.heap.size, 0, none⟩ 1 4 _ 3 [.int .i64 x] Try.underlying22 hs1 hw2 rfl (fun j v hv => by match j, hv with | 0, hv => (cases hv; exact blk_cell (w := w2.drew) hw2 0 rfl)) (by simp) (fun v hv => by simp only [List.mem_cons, List.not_mem_nil, or_false] at hv; subst hv; rfl), setRow_heap w2.drew w.heap.size _ _ 3 (0, 0) hw2, below_setRow hbw2.drew (Nat.le_refl _) _⟩
  refine wp_region_held_drew (S := fun _ => True) (by kernel_rfl) trivial (fun hHeld => ?_)
  refine tk 0 ?_
  refine tk 1 ?_
  refine tk 2 ?_
  refine tk 3 ?_
  refine tk 4 ?_
  refine tk 5 ?_
  refine tk 6 ?_
  refine tr 7 (fun K hK => ?_)
  go_simp
  (try go_wp2_with fail)
  refine hK.out _ _ trivial (fun hHeld' => ?_)
  clear hK K hHeld hHeld' hrun hw2 hbw2
  (try simp only [Act.put, List.setIfInBounds_toArray, List.set_cons_zero, List.set_cons_succ])
  refine tk 8 ?_
  refine tk 9 ?_
  refine wpAnyH_done (by kernel_rfl) ?_ _
  try rw [e2]
  try rw [e4]
  go_wp2_with fail
  rw [rounds_succ]
  go_wp2_with fail
  obtain ⟨w4, hrun, hw4, hbw4⟩ : ∃ wN, (Builtin.copy_ #[22, 22] 3 #[.slice (some ⟨w.heap.size, 2, none⟩) 2 2, .slice (some ⟨w.heap.size, 0, none⟩) 2 4]).run Try.prog w3.drew = .ok (.int .i64 2) wN ∧ wN.heap[w.heap.size]? = some (.cells [.int .i64 x, .int .i64 x, .int .i64 x, .int .i64 x].toArray 3 (0, 0)) ∧ Below w.heap.size w wN :=
    ⟨_, run_copy_row (P := Try.prog) w3.drew 22 22 3 3 w.heap.size 2 2 2 ⟨w.heap.size, 0, none⟩ 2 4 _ 3 [.int .i64 x, .int .i64 x] Try.underlying22 hs1 hw3 rfl (fun j v hv => by match j, hv with | 0, hv => (cases hv; exact blk_cell (w := w3.drew) hw3 0 rfl) | 1, hv => (cases hv; exact blk_cell (w := w3.drew) hw3 1 rfl)) (by simp) (fun v hv => by simp only [List.mem_cons, List.not_mem_nil, or_false, or_self] at hv; subst hv; rfl), setRow_heap w3.drew w.heap.size _ _ 3 (0, 0) hw3, below_setRow hbw3.drew (Nat.le_refl _) _⟩
  refine wp_region_held_drew (S := fun _ => True) (by kernel_rfl) trivial (fun hHeld => ?_)
  refine tk 0 ?_
  refine tk 1 ?_
  refine tk 2 ?_
  refine tk 3 ?_
  refine tk 4 ?_
  refine tk 5 ?_
  refine tk 6 ?_
  refine tr 7 (fun K hK => ?_)
  go_simp
  (try go_wp2_with fail)
  refine hK.out _ _ trivial (fun hHeld' => ?_)
  clear hK K hHeld hHeld' hrun hw3 hbw3
  (try simp only [Act.put, List.setIfInBounds_toArray, List.set_cons_zero, List.set_cons_succ])
  refine tk 8 ?_
  refine tk 9 ?_
  refine wpAnyH_done (by kernel_rfl) ?_ _
  try rw [e2]
  try rw [e4]
  go_wp2_with fail
  rw [rounds_succ]
  go_wp2
  go_ret
  exact ⟨rfl, hw4, hbw4⟩

end Go.Proofs.Ytociphdhkjoofaa
