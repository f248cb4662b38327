/- Contract of the model's NewSink. -/
import Derived.Test.YtecaaekilbdgdaaNkI
namespace Go.Proofs.Ytecaaekilbdgdaa
open Go.RowKit

set_option maxRecDepth 100000 in
set_option maxHeartbeats 4000000 in
theorem specNewSink (a : Option Addr) (n c : Nat) (zs : List Int) (w : World) (hz : zs.length = n) (hn : n ≤ 1048576) (hF : a = none → c = 0) (ha : At w a zs) :
    Calls Try.prog 8 #[.slice a n c] w fun e w' => SinkRet e w' w.heap.size (gkB (newK zs)) (if gkB (newK zs) then newK zs else newK []) ∧ Below w.heap.size w w' := by
  obtain ⟨W, hW⟩ : ∃ W, W = w.alloc (.cells #[.slice none 0 0, .int .i64 0, .slice none 0 0, .slice none 0 0, .slice none 0 0, .int .i64 0, .int .i64 0] 25) := ⟨_, rfl⟩
  have B0 : Below w.heap.size w W := by rw [hW]; exact (Below.refl _ _).alloc (Nat.le_refl _) _
  have b0 : W.heap[w.heap.size]? = some (.cells #[.slice none 0 0, .int .i64 0, .slice none 0 0, .slice none 0 0, .slice none 0 0, .int .i64 0, .int .i64 0] 25 (0, 0)) := by rw [hW]; exact heap_alloc_new w _
  have zW : w.heap.size < W.heap.size := by rw [hW]; simp
  obtain ⟨i0, hi, hz0, hz1, hz2⟩ := info_parts Try.infoInt
  have hgk := gk_new zs
  by_cases h30 : n ≤ 30
  rotate_left
  · have hgt : (30 : Int) < (n : Int) := by omega
    have hX : (if gkB (newK zs) then newK zs else newK []) = newK [] := by rw [hgk, decide_eq_false (by omega)]; rfl
    have hP : gkB (newK zs) = false := by rw [hgk, decide_eq_false (by omega)]
    rw [hX, hP]
    clear hX hP hgk ha hz hF h30
    go_enter Try.func8, Try.ntmps8
    go_upto_region 1 with fail
    rw [← hW]
    clear hW
    have y0 := blk_cell b0 0 (v := .slice none 0 0) rfl
    have f0 := blk_frozen b0 0
    have y1 := blk_cell b0 1 (v := .int .i64 0) rfl
    have f1 := blk_frozen b0 1
    have y2 := blk_cell b0 2 (v := .slice none 0 0) rfl
    have f2 := blk_frozen b0 2
    have y3 := blk_cell b0 3 (v := .slice none 0 0) rfl
    have f3 := blk_frozen b0 3
    have y4 := blk_cell b0 4 (v := .slice none 0 0) rfl
    have f4 := blk_frozen b0 4
    have y5 := blk_cell b0 5 (v := .int .i64 0) rfl
    have f5 := blk_frozen b0 5
    have y6 := blk_cell b0 6 (v := .int .i64 0) rfl
    have f6 := blk_frozen b0 6
    go_wp2
    refine bodyPost_ret (v := .tuple #[.agg #[.slice none 0 0, .int .i64 0, .slice none 0 0, .slice none 0 0, .slice none 0 0, .int .i64 0, .int .i64 0], .bool false]) (by simp [results, Try.results8, go_sem, y0, y1, y2, y3, y4, y5, y6]) rfl ⟨⟨none, 0, 0, none, 0, 0, none, 0, 0, none, 0, 0, rfl, RSink.void _ _⟩, ?_⟩
    exact ((((((B0.setCell (Nat.le_refl _) _).setCell (Nat.le_refl _) _).setCell (Nat.le_refl _) _).setCell (Nat.le_refl _) _).setCell (Nat.le_refl _) _).setCell (Nat.le_refl _) _).setCell (Nat.le_refl _) _
  have hgt : ¬ (30 : Int) < (n : Int) := by omega
  have hX : (if gkB (newK zs) then newK zs else newK []) = newK zs := by rw [hgk, decide_eq_true (by omega)]; rfl
  have hP : gkB (newK zs) = true := by rw [hgk, decide_eq_true (by omega)]
  rw [hX, hP]
  have OE := Hid.mk (own_void W 3 1)
  have HA := Hid.mk ((At.below ha B0).alloc (.cells #[] 3))
  have HZ := Hid.mk hz
  clear hX hP hgk ha hz
  go_enter Try.func8, Try.ntmps8
  go_upto_region 1 with fail
  rw [← hW]
  clear hW
  go_wp2_with (at_builtin; refine wpList_append_all rfl (.tmp 8) (.tmp 9) 22 rfl W.heap.size 3 i0 (.int .i64 0) 8 Try.underlying22 hi hz0 hz1 hz2 rfl (.slice (some ⟨W.heap.size, 0, none⟩) 0 0) 0 [] rfl OE.out a n c zs rfl HZ.out HA.out hF (by unfold maxLen; omega) (by omega) (by simp) ?_)
  intro r d w2 ho1 hg1
  have HB : Hid (Below W.heap.size W w2) := ((Below.refl _ _).alloc (Nat.le_refl _) _).grown hg1 (by simp) (fun j hj => by simp [Value.ownBlock] at hj; omega)
  have HO : Hid (w2.ownsRow W.heap.size 3 1 (.slice r n d) n (zs.map (.int .i64))) := Hid.mk (by simpa using ho1)
  have R0 := Hid.mk (RInts.made HZ.out (by omega) HO.out)
  have b0 := blk_below b0 HB.out
  have z2 := HB.out.size
  have B2 := Hid.mk (B0.trans (HB.out.mono B0.size))
  (try simp only [Nat.zero_add])
  clear ho1 hg1 HO OE HA
  have y0 := blk_cell b0 0 (v := .slice none 0 0) rfl
  have f0 := blk_frozen b0 0
  have y1 := blk_cell b0 1 (v := .int .i64 0) rfl
  have f1 := blk_frozen b0 1
  have y2 := blk_cell b0 2 (v := .slice none 0 0) rfl
  have f2 := blk_frozen b0 2
  have y3 := blk_cell b0 3 (v := .slice none 0 0) rfl
  have f3 := blk_frozen b0 3
  have y4 := blk_cell b0 4 (v := .slice none 0 0) rfl
  have f4 := blk_frozen b0 4
  have y5 := blk_cell b0 5 (v := .int .i64 0) rfl
  have f5 := blk_frozen b0 5
  have y6 := blk_cell b0 6 (v := .int .i64 0) rfl
  have f6 := blk_frozen b0 6
  obtain ⟨Y, hY⟩ : ∃ u, u = stores w2 w.heap.size 0 [.slice r n d, .int .i64 0, .slice none 0 0, .slice none 0 0, .slice none 0 0, .int .i64 0, .int .i64 0] := ⟨_, rfl⟩
  have D : Below w.heap.size w Y := by rw [hY]; exact stores_below _ _ _ _ B2.out (Nat.le_refl _)
  have S : Off (fun b => b = w.heap.size) w2 Y := by rw [hY]; exact stores_off (F := fun b => b = w.heap.size) _ _ _ _ rfl
  have zY : Y.heap.size = w2.heap.size := by rw [hY]; exact stores_size _ _ _ _
  have R : Hid (RSink.Own Y (From w.heap.size Y.heap.size) [.slice r n d, .int .i64 0, .slice none 0 0, .slice none 0 0, .slice none 0 0, .int .i64 0, .int .i64 0] (newK zs)) := Hid.mk (RSink.fresh (RInts.mono (RInts.ownOff R0.out S (fun b h k => by have h1 := h.1; have h2 : b = w.heap.size := k; omega)) (fun b h => ⟨by have := h.1; omega, by have := h.2; omega⟩)))
  have HY := Hid.mk hY
  have HD := Hid.mk D
  clear S D hY zY
  go_wp2
  refine bodyPost_ret (v := .tuple #[.agg #[.slice r n d, .int .i64 0, .slice none 0 0, .slice none 0 0, .slice none 0 0, .int .i64 0, .int .i64 0], .bool true]) (by simp [results, Try.results8, go_sem, y0, y1, y2, y3, y4, y5, y6]) rfl ⟨⟨r, n, d, none, 0, 0, none, 0, 0, none, 0, 0, rfl, ?_⟩, ?_⟩
  · have h := R.out
    rw [HY.out] at h
    exact h
  · have h := HD.out
    rw [HY.out] at h
    exact h

end Go.Proofs.Ytecaaekilbdgdaa
