/- Contract of the program's NewSink. -/
import Derived.Test.YtmbjmmnodcebbaaM6
import Derived.Test.YtmbjmmnodcebbaaM5
import Derived.Test.YtmbjmmnodcebbaaM15
namespace Go.Proofs.Ytmbjmmnodcebbaa
open Go.RowKit

set_option maxRecDepth 100000 in
set_option maxHeartbeats 4000000 in
theorem implNewSink (a : Option Addr) (n c : Nat) (zs : List Int) (w : World) (hz : zs.length = n) (hn : n ≤ 1048576) (hF : a = none → c = 0) (ha : At w a zs) :
    Calls Try.prog 37 #[.slice a n c] w fun e w' => SinkRet e w' w.heap.size (gkB (newK zs)) (if gkB (newK zs) then newK zs else newK []) ∧ Below w.heap.size w w' := by
  obtain ⟨W, hW⟩ : ∃ W, W = w.alloc (.cells #[.slice none 0 0, .int .i64 0, .slice none 0 0, .slice none 0 0, .slice none 0 0, .int .i64 0, .int .i64 0] 29) := ⟨_, rfl⟩
  have B0 : Below w.heap.size w W := by rw [hW]; exact (Below.refl _ _).alloc (Nat.le_refl _) _
  have b0 : W.heap[w.heap.size]? = some (.cells #[.slice none 0 0, .int .i64 0, .slice none 0 0, .slice none 0 0, .slice none 0 0, .int .i64 0, .int .i64 0] 29 (0, 0)) := by rw [hW]; exact heap_alloc_new w _
  have zW : w.heap.size < W.heap.size := by rw [hW]; simp
  have KC := Hid.mk (cloneI_any a n c zs W hz hn hF (At.below ha B0))
  have HZ := Hid.mk hz
  obtain ⟨PB, hPB⟩ : ∃ b, gkB (newK zs) = b := ⟨_, rfl⟩
  obtain ⟨XX, hXX⟩ : ∃ x, (if gkB (newK zs) then newK zs else newK []) = x := ⟨_, rfl⟩
  rw [hXX, hPB]
  rw [hPB] at hXX
  have HPB := Hid.mk hPB
  have HXX := Hid.mk hXX
  clear ha hz hF hPB hXX
  go_enter Try.func37, Try.ntmps37
  go_wp2_with fail
  rw [← hW]
  clear hW
  refine KC.out.mono ?_
  rintro e w1 ⟨r, d, rfl, ho, hb⟩
  have b0 := blk_below b0 hb
  have z1 := hb.size
  obtain ⟨X, hX⟩ : ∃ X, X = w1.alloc (.cells #[.slice r n d, .int .i64 0, .slice none 0 0, .slice none 0 0, .slice none 0 0, .int .i64 0, .int .i64 0] 29) := ⟨_, rfl⟩
  have bX : Below w1.heap.size w1 X := by rw [hX]; exact (Below.refl _ _).alloc (Nat.le_refl _) _
  have x0 : X.heap[w1.heap.size]? = some (.cells #[.slice r n d, .int .i64 0, .slice none 0 0, .slice none 0 0, .slice none 0 0, .int .i64 0, .int .i64 0] 29 (0, 0)) := by rw [hX]; exact heap_alloc_new w1 _
  have b0 := blk_below b0 bX
  have B1 := B0.trans (hb.mono B0.size)
  have BX := Hid.mk (B1.trans (bX.mono B1.size))
  have zX := bX.size
  have hcap := ownCap ho
  have R0 := Hid.mk (RInts.ownBelow (RInts.made HZ.out (by omega) ho) bX)
  have KG := Hid.mk (implGoodSink r n d none 0 0 none 0 0 none 0 0 0 0 0 zs [] [] [] X hcap HZ.out rfl rfl rfl hn (by omega) (by omega) (by omega) (fun i x h => by simp at h) (ints_at R0.out) (.inl rfl) (RPrepareds.atSl (RPrepareds.void X (fun _ => False))).2 (.inl rfl))
  rw [show gkB (zs, 0, [], [], [], 0, 0) = PB from HPB.out] at KG
  have u0 := blk_cell x0 0 (v := .slice r n d) rfl
  have u1 := blk_cell x0 1 (v := .int .i64 0) rfl
  have u2 := blk_cell x0 2 (v := .slice none 0 0) rfl
  have u3 := blk_cell x0 3 (v := .slice none 0 0) rfl
  have u4 := blk_cell x0 4 (v := .slice none 0 0) rfl
  have u5 := blk_cell x0 5 (v := .int .i64 0) rfl
  have u6 := blk_cell x0 6 (v := .int .i64 0) rfl
  clear ho hb bX KC
  go_upto_region 2 with fail
  rw [← hX]
  clear hX
  go_wp2_with fail
  refine KG.out.mono ?_
  rintro e w2 ⟨rfl, hb2⟩
  have b0 := blk_below b0 hb2
  have z2 := hb2.size
  have R0 := Hid.mk (RInts.ownBelow R0.out hb2)
  have x0 := blk_below x0 hb2
  have s0 := blk_cell x0 0 (v := .slice r n d) rfl
  have s1 := blk_cell x0 1 (v := .int .i64 0) rfl
  have s2 := blk_cell x0 2 (v := .slice none 0 0) rfl
  have s3 := blk_cell x0 3 (v := .slice none 0 0) rfl
  have s4 := blk_cell x0 4 (v := .slice none 0 0) rfl
  have s5 := blk_cell x0 5 (v := .int .i64 0) rfl
  have s6 := blk_cell x0 6 (v := .int .i64 0) rfl
  have B2 := Hid.mk (BX.out.trans (hb2.mono BX.out.size))
  clear hb2 KG
  cases PB with
  | false =>
    have hX0 : XX = newK [] := HXX.out.symm
    subst hX0
    have y0 := blk_cell b0 0 (v := .slice none 0 0) rfl
    have f0 := blk_frozen b0 0
    have y1 := blk_cell b0 1 (v := .int .i64 0) rfl
    have f1 := blk_frozen b0 1
    have y2 := blk_cell b0 2 (v := .slice none 0 0) rfl
    have f2 := blk_frozen b0 2
    have y3 := blk_cell b0 3 (v := .slice none 0 0) rfl
    have f3 := blk_frozen b0 3
    have y4 := blk_cell b0 4 (v := .slice none 0 0) rfl
    have f4 := blk_frozen b0 4
    have y5 := blk_cell b0 5 (v := .int .i64 0) rfl
    have f5 := blk_frozen b0 5
    have y6 := blk_cell b0 6 (v := .int .i64 0) rfl
    have f6 := blk_frozen b0 6
    go_wp2
    refine bodyPost_ret (v := .tuple #[.agg #[.slice none 0 0, .int .i64 0, .slice none 0 0, .slice none 0 0, .slice none 0 0, .int .i64 0, .int .i64 0], .bool false]) (by simp [results, Try.results37, go_sem, y0, y1, y2, y3, y4, y5, y6]) rfl ⟨⟨none, 0, 0, none, 0, 0, none, 0, 0, none, 0, 0, rfl, RSink.void _ _⟩, ?_⟩
    exact ((((((B2.out.setCell (Nat.le_refl _) _).setCell (Nat.le_refl _) _).setCell (Nat.le_refl _) _).setCell (Nat.le_refl _) _).setCell (Nat.le_refl _) _).setCell (Nat.le_refl _) _).setCell (Nat.le_refl _) _
  | true =>
    have hX0 : XX = newK zs := HXX.out.symm
    subst hX0
    have y0 := blk_cell b0 0 (v := .slice none 0 0) rfl
    have f0 := blk_frozen b0 0
    have y1 := blk_cell b0 1 (v := .int .i64 0) rfl
    have f1 := blk_frozen b0 1
    have y2 := blk_cell b0 2 (v := .slice none 0 0) rfl
    have f2 := blk_frozen b0 2
    have y3 := blk_cell b0 3 (v := .slice none 0 0) rfl
    have f3 := blk_frozen b0 3
    have y4 := blk_cell b0 4 (v := .slice none 0 0) rfl
    have f4 := blk_frozen b0 4
    have y5 := blk_cell b0 5 (v := .int .i64 0) rfl
    have f5 := blk_frozen b0 5
    have y6 := blk_cell b0 6 (v := .int .i64 0) rfl
    have f6 := blk_frozen b0 6
    obtain ⟨Y, hY⟩ : ∃ u, u = stores w2 w.heap.size 0 [.slice r n d, .int .i64 0, .slice none 0 0, .slice none 0 0, .slice none 0 0, .int .i64 0, .int .i64 0] := ⟨_, rfl⟩
    have D : Below w.heap.size w Y := by rw [hY]; exact stores_below _ _ _ _ B2.out (Nat.le_refl _)
    have S : Off (fun b => b = w.heap.size) w2 Y := by rw [hY]; exact stores_off (F := fun b => b = w.heap.size) _ _ _ _ rfl
    have zY : Y.heap.size = w2.heap.size := by rw [hY]; exact stores_size _ _ _ _
    have R : Hid (RSink.Own Y (From w.heap.size Y.heap.size) [.slice r n d, .int .i64 0, .slice none 0 0, .slice none 0 0, .slice none 0 0, .int .i64 0, .int .i64 0] (newK zs)) := Hid.mk (RSink.fresh (RInts.mono (RInts.ownOff R0.out S (fun b h k => by have h1 := h.1; have h2 : b = w.heap.size := k; omega)) (fun b h => ⟨by have := h.1; omega, by have := h.2; omega⟩)))
    have HY := Hid.mk hY
    have HD := Hid.mk D
    clear S D hY zY
    go_wp2
    refine bodyPost_ret (v := .tuple #[.agg #[.slice r n d, .int .i64 0, .slice none 0 0, .slice none 0 0, .slice none 0 0, .int .i64 0, .int .i64 0], .bool true]) (by simp [results, Try.results37, go_sem, y0, y1, y2, y3, y4, y5, y6]) rfl ⟨⟨r, n, d, none, 0, 0, none, 0, 0, none, 0, 0, rfl, ?_⟩, ?_⟩
    · have h := R.out
      rw [HY.out] at h
      exact h
    · have h := HD.out
      rw [HY.out] at h
      exact h

end Go.Proofs.Ytmbjmmnodcebbaa
