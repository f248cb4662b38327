/- Contract of the program's take, over whatever tear tells. -/
import Derived.Test.YtmbjmmnodcebbaaM15
import Derived.Laws.EntriesVeiled
namespace Go.Proofs.Ytmbjmmnodcebbaa
open Go.RowKit

theorem cell_stores {w : World} {g g' o : Nat} (vs : List Value) (i : Nat) (h : g' ≠ g) : (stores w g i vs).cell? ⟨g', o, none⟩ = w.cell? ⟨g', o, none⟩ :=
  World.cell?_of_block (by
    induction vs generalizing w i with
    | nil => rfl
    | cons v vs ih => exact (ih (i + 1) (w := w.setCell ⟨g, i, none⟩ v)).trans (Below.heap_setCell w ⟨g, i, none⟩ v g' h))

set_option maxRecDepth 100000 in
set_option maxHeartbeats 1500000 in
theorem take_any (F : Nat → Prop) (a0 : Option Addr) (n0 c0 : Nat) (a2 : Option Addr) (n2 c2 : Nat) (a3 : Option Addr) (n3 c3 : Nat) (a4 : Option Addr) (n4 c4 : Nat) (t la up k : Int) (src pd : List Int) (ps : List TPrepared) (ou : List Int) (w : World) (hF : ∀ b, F b → b < w.heap.size) (hd : DP (src, t, pd, ps, ou, la, up)) (hT : ∀ (w : World), (∀ b, F b → b < w.heap.size) → RSink.Own w F [.slice a0 n0 c0, .int .i64 t, .slice a2 n2 c2, .slice a3 n3 c3, .slice a4 n4 c4, .int .i64 la, .int .i64 up] (src, t, pd, ps, ou, la, up) → Calls Try.prog 55 #[.agg #[.slice a0 n0 c0, .int .i64 t, .slice a2 n2 c2, .slice a3 n3 c3, .slice a4 n4 c4, .int .i64 la, .int .i64 up]] w fun e w' => KRet e w w' F (stK (src, t, pd, ps, ou, la, up) 5).2 (stK (src, t, pd, ps, ou, la, up) 5).1) (ho : RSink.Own w F [.slice a0 n0 c0, .int .i64 t, .slice a2 n2 c2, .slice a3 n3 c3, .slice a4 n4 c4, .int .i64 la, .int .i64 up] (src, t, pd, ps, ou, la, up)) :
    Calls Try.prog 31 #[.agg #[.slice a0 n0 c0, .int .i64 t, .slice a2 n2 c2, .slice a3 n3 c3, .slice a4 n4 c4, .int .i64 la, .int .i64 up], .int .i64 k] w fun e w' => KRet e w w' F (stK (src, t, pd, ps, ou, la, up) k).2 (stK (src, t, pd, ps, ou, la, up) k).1 := by
  obtain ⟨W, hW⟩ : ∃ W, W = (w.alloc (.cells #[.slice a0 n0 c0, .int .i64 t, .slice a2 n2 c2, .slice a3 n3 c3, .slice a4 n4 c4, .int .i64 la, .int .i64 up] 29)).alloc (.cells #[.slice none 0 0, .int .i64 0, .slice none 0 0, .slice none 0 0, .slice none 0 0, .int .i64 0, .int .i64 0] 29) := ⟨_, rfl⟩
  have B0 : Below w.heap.size w W := by rw [hW]; exact ((Below.refl _ _).alloc (Nat.le_refl _) _).alloc (by simp) _
  have b0 : W.heap[w.heap.size]? = some (.cells #[.slice a0 n0 c0, .int .i64 t, .slice a2 n2 c2, .slice a3 n3 c3, .slice a4 n4 c4, .int .i64 la, .int .i64 up] 29 (0, 0)) := by rw [hW]; exact blk_alloc (heap_alloc_new w _) _
  have b1 : W.heap[w.heap.size + 1]? = some (.cells #[.slice none 0 0, .int .i64 0, .slice none 0 0, .slice none 0 0, .slice none 0 0, .int .i64 0, .int .i64 0] 29 (0, 0)) := by
    rw [hW]
    have q := heap_alloc_new (w.alloc (.cells #[.slice a0 n0 c0, .int .i64 t, .slice a2 n2 c2, .slice a3 n3 c3, .slice a4 n4 c4, .int .i64 la, .int .i64 up] 29)) (.cells #[.slice none 0 0, .int .i64 0, .slice none 0 0, .slice none 0 0, .slice none 0 0, .int .i64 0, .int .i64 0] 29)
    simpa only [World.size_alloc] using q
  have zW : W.heap.size = w.heap.size + 2 := by rw [hW]; simp
  obtain ⟨X2, hX2⟩ : ∃ u, u = W.alloc (.cells #[.nilFunc, .func (.func 41) #[] #[], .func (.func 42) #[] #[], .func (.func 40) #[] #[], .func (.func 54) #[] #[], .func (.func 55) #[] #[]] 70) := ⟨_, rfl⟩
  have bAW : Below W.heap.size W X2 := by rw [hX2]; exact (Below.refl _ _).alloc (Nat.le_refl _) _
  have b2 : X2.heap[w.heap.size + 2]? = some (.cells #[.nilFunc, .func (.func 41) #[] #[], .func (.func 42) #[] #[], .func (.func 40) #[] #[], .func (.func 54) #[] #[], .func (.func 55) #[] #[]] 70 (0, 0)) := by rw [hX2, ← zW]; exact heap_alloc_new W _
  have b0 := blk_below b0 bAW
  have b1 := blk_below b1 bAW
  have BX2 := B0.trans (bAW.mono B0.size)
  have zX3 : w.heap.size + 3 ≤ X2.heap.size := by rw [hX2]; simp [zW]
  have HOX := Hid.mk (RSink.ownBelow ho BX2)
  obtain ⟨⟨zsrc, zt, zpd, zps, zou, zl, zu⟩, hz⟩ : ∃ z, (stK (src, t, pd, ps, ou, la, up) k).1 = z := ⟨_, rfl⟩
  obtain ⟨OK, hok⟩ : ∃ z, (stK (src, t, pd, ps, ou, la, up) k).2 = z := ⟨_, rfl⟩
  rw [hok, hz]
  by_cases hk : k < 1 ∨ 6 ≤ k
  · have hst : stK (src, t, pd, ps, ou, la, up) k = ((src, t, pd, ps, ou, la, up), false) := by unfold stK; rw [if_neg (by omega), if_neg (by omega), if_neg (by omega), if_neg (by omega), if_neg (by omega)]
    rw [hst] at hz hok
    obtain rfl : false = OK := hok
    simp only [Prod.mk.injEq] at hz
    obtain ⟨rfl, rfl, rfl, rfl, rfl, rfl, rfl⟩ := hz
    have HO0 := Hid.mk ho
    clear hst ho HOX hT hd
    by_cases hk1 : k < 1
    · skip
      clear hk
      have p0 := blk_cell b0 0 (v := .slice a0 n0 c0) rfl
      have p1 := blk_cell b0 1 (v := .int .i64 t) rfl
      have p2 := blk_cell b0 2 (v := .slice a2 n2 c2) rfl
      have p3 := blk_cell b0 3 (v := .slice a3 n3 c3) rfl
      have p4 := blk_cell b0 4 (v := .slice a4 n4 c4) rfl
      have p5 := blk_cell b0 5 (v := .int .i64 la) rfl
      have p6 := blk_cell b0 6 (v := .int .i64 up) rfl
      have y0 := blk_cell b1 0 (v := .slice none 0 0) rfl
      have y1 := blk_cell b1 1 (v := .int .i64 0) rfl
      have y2 := blk_cell b1 2 (v := .slice none 0 0) rfl
      have y3 := blk_cell b1 3 (v := .slice none 0 0) rfl
      have y4 := blk_cell b1 4 (v := .slice none 0 0) rfl
      have y5 := blk_cell b1 5 (v := .int .i64 0) rfl
      have y6 := blk_cell b1 6 (v := .int .i64 0) rfl
      have fz0 := blk_frozen b1 0
      have fz1 := blk_frozen b1 1
      have fz2 := blk_frozen b1 2
      have fz3 := blk_frozen b1 3
      have fz4 := blk_frozen b1 4
      have fz5 := blk_frozen b1 5
      have fz6 := blk_frozen b1 6
      go_enter Try.func31, Try.ntmps31
      go_upto_region 1 with fail
      rw [← hW]
      clear hW
      go_upto_region 2 with fail
      rw [← hX2]
      clear hX2
      go_upto_region 3 with fail
      obtain ⟨Y, hY⟩ : ∃ u, u = stores X2 (w.heap.size + 1) 0 [.slice a0 n0 c0, .int .i64 t, .slice a2 n2 c2, .slice a3 n3 c3, .slice a4 n4 c4, .int .i64 la, .int .i64 up] := ⟨_, rfl⟩
      have S : Off (fun b => b = w.heap.size + 1) X2 Y := by rw [hY]; exact stores_off (F := fun b => b = w.heap.size + 1) _ _ _ _ rfl
      have zY : Y.heap.size = X2.heap.size := by rw [hY]; exact stores_size _ _ _ _
      have D : Below w.heap.size w Y := by rw [hY]; exact stores_below _ _ _ _ BX2 (by omega)
      have R : Hid (KRet (.returned (.tuple #[.agg #[.slice a0 n0 c0, .int .i64 t, .slice a2 n2 c2, .slice a3 n3 c3, .slice a4 n4 c4, .int .i64 la, .int .i64 up], .bool false])) w Y F false (src, t, pd, ps, ou, la, up)) := Hid.mk
        ⟨a0, n0, c0, a2, n2, c2, a3, n3, c3, a4, n4, c4, rfl, RSink.mono (RSink.ownBelow HO0.out D) (fun b h => .inl h), Off.below D⟩
      have HY := Hid.mk hY
      clear S hY zY D b0 b1 b2 BX2
      go_wp2
      refine bodyPost_ret (v := .tuple #[.agg #[.slice a0 n0 c0, .int .i64 t, .slice a2 n2 c2, .slice a3 n3 c3, .slice a4 n4 c4, .int .i64 la, .int .i64 up], .bool false]) (by simp [results, Try.results31, go_sem, y0, y1, y2, y3, y4, y5, y6]) rfl ?_
      have h := R.out
      rw [HY.out] at h
      exact h
    · have hk6 : (6 : Int) ≤ k := by omega
      skip
      clear hk
      have p0 := blk_cell b0 0 (v := .slice a0 n0 c0) rfl
      have p1 := blk_cell b0 1 (v := .int .i64 t) rfl
      have p2 := blk_cell b0 2 (v := .slice a2 n2 c2) rfl
      have p3 := blk_cell b0 3 (v := .slice a3 n3 c3) rfl
      have p4 := blk_cell b0 4 (v := .slice a4 n4 c4) rfl
      have p5 := blk_cell b0 5 (v := .int .i64 la) rfl
      have p6 := blk_cell b0 6 (v := .int .i64 up) rfl
      have y0 := blk_cell b1 0 (v := .slice none 0 0) rfl
      have y1 := blk_cell b1 1 (v := .int .i64 0) rfl
      have y2 := blk_cell b1 2 (v := .slice none 0 0) rfl
      have y3 := blk_cell b1 3 (v := .slice none 0 0) rfl
      have y4 := blk_cell b1 4 (v := .slice none 0 0) rfl
      have y5 := blk_cell b1 5 (v := .int .i64 0) rfl
      have y6 := blk_cell b1 6 (v := .int .i64 0) rfl
      have fz0 := blk_frozen b1 0
      have fz1 := blk_frozen b1 1
      have fz2 := blk_frozen b1 2
      have fz3 := blk_frozen b1 3
      have fz4 := blk_frozen b1 4
      have fz5 := blk_frozen b1 5
      have fz6 := blk_frozen b1 6
      go_enter Try.func31, Try.ntmps31
      go_upto_region 1 with fail
      rw [← hW]
      clear hW
      go_upto_region 2 with fail
      rw [← hX2]
      clear hX2
      go_upto_region 3 with fail
      obtain ⟨Y, hY⟩ : ∃ u, u = stores X2 (w.heap.size + 1) 0 [.slice a0 n0 c0, .int .i64 t, .slice a2 n2 c2, .slice a3 n3 c3, .slice a4 n4 c4, .int .i64 la, .int .i64 up] := ⟨_, rfl⟩
      have S : Off (fun b => b = w.heap.size + 1) X2 Y := by rw [hY]; exact stores_off (F := fun b => b = w.heap.size + 1) _ _ _ _ rfl
      have zY : Y.heap.size = X2.heap.size := by rw [hY]; exact stores_size _ _ _ _
      have D : Below w.heap.size w Y := by rw [hY]; exact stores_below _ _ _ _ BX2 (by omega)
      have R : Hid (KRet (.returned (.tuple #[.agg #[.slice a0 n0 c0, .int .i64 t, .slice a2 n2 c2, .slice a3 n3 c3, .slice a4 n4 c4, .int .i64 la, .int .i64 up], .bool false])) w Y F false (src, t, pd, ps, ou, la, up)) := Hid.mk
        ⟨a0, n0, c0, a2, n2, c2, a3, n3, c3, a4, n4, c4, rfl, RSink.mono (RSink.ownBelow HO0.out D) (fun b h => .inl h), Off.below D⟩
      have HY := Hid.mk hY
      clear S hY zY D b0 b1 b2 BX2
      go_wp2
      refine bodyPost_ret (v := .tuple #[.agg #[.slice a0 n0 c0, .int .i64 t, .slice a2 n2 c2, .slice a3 n3 c3, .slice a4 n4 c4, .int .i64 la, .int .i64 up], .bool false]) (by simp [results, Try.results31, go_sem, y0, y1, y2, y3, y4, y5, y6]) rfl ?_
      have h := R.out
      rw [HY.out] at h
      exact h
  have hk1 : ¬ k < 1 := by omega
  have hk6 : ¬ (6 : Int) ≤ k := by omega
  rcases (by omega : k = 1 ∨ k = 2 ∨ k = 3 ∨ k = 4 ∨ k = 5) with rfl | rfl | rfl | rfl | rfl
  · have KT : Hid (∀ Z : World, (∀ b, F b → b < Z.heap.size) → RSink.Own Z F [.slice a0 n0 c0, .int .i64 t, .slice a2 n2 c2, .slice a3 n3 c3, .slice a4 n4 c4, .int .i64 la, .int .i64 up] (src, t, pd, ps, ou, la, up) → Calls Try.prog 41 #[.agg #[.slice a0 n0 c0, .int .i64 t, .slice a2 n2 c2, .slice a3 n3 c3, .slice a4 n4 c4, .int .i64 la, .int .i64 up]] Z fun e w' => KRet e Z w' F OK (zsrc, zt, zpd, zps, zou, zl, zu)) := Hid.mk (fun Z h1 h2 => by
      have hst : stK (src, t, pd, ps, ou, la, up) 1 = rdK (src, t, pd, ps, ou, la, up) := if_pos rfl
      have q := (read_step F a0 n0 c0 a2 n2 c2 a3 n3 c3 a4 n4 c4 t la up src pd ps ou Z hd.1 h1 h2).mono (fun e w' h => h.1)
      rw [hst] at hz hok
      rw [hok, hz] at q
      exact q)
    clear hz hok hT hd ho
    have p0 := blk_cell b0 0 (v := .slice a0 n0 c0) rfl
    have p1 := blk_cell b0 1 (v := .int .i64 t) rfl
    have p2 := blk_cell b0 2 (v := .slice a2 n2 c2) rfl
    have p3 := blk_cell b0 3 (v := .slice a3 n3 c3) rfl
    have p4 := blk_cell b0 4 (v := .slice a4 n4 c4) rfl
    have p5 := blk_cell b0 5 (v := .int .i64 la) rfl
    have p6 := blk_cell b0 6 (v := .int .i64 up) rfl
    have q9 := blk_cell b2 1 (v := .func (.func 41) #[] #[]) rfl
    go_enter Try.func31, Try.ntmps31
    go_upto_region 1 with fail
    rw [← hW]
    clear hW
    go_upto_region 2 with fail
    rw [← hX2]
    clear hX2
    go_upto_region 4 with fail
    have p0' := b0
    clear p0'
    refine wp_region_held_drew (S := fun w' => w'.cell? ⟨w.heap.size, 0, none⟩ = some (.slice a0 n0 c0) ∧ w'.cell? ⟨w.heap.size, 1, none⟩ = some (.int .i64 t) ∧ w'.cell? ⟨w.heap.size, 2, none⟩ = some (.slice a2 n2 c2) ∧ w'.cell? ⟨w.heap.size, 3, none⟩ = some (.slice a3 n3 c3) ∧ w'.cell? ⟨w.heap.size, 4, none⟩ = some (.slice a4 n4 c4) ∧ w'.cell? ⟨w.heap.size, 5, none⟩ = some (.int .i64 la) ∧ w'.cell? ⟨w.heap.size, 6, none⟩ = some (.int .i64 up) ∧ w'.cell? ⟨w.heap.size + 2, 1, none⟩ = some (.func (.func 41) #[] #[])) (by kernel_rfl) ?_ (fun hHeld => ?_)
    · (try dsimp only)
      exact ⟨p0, p1, p2, p3, p4, p5, p6, q9⟩
    refine tk 0 ?_
    refine tk 1 ?_
    refine tk 2 ?_
    refine tk 3 ?_
    refine tr 4 (fun K hK => ?_)
    go_simp
    go_at_call 41
    refine (KT.out X2.drew ?_ ?_).mono ?_
    · exact fun b h => by show b < X2.heap.size; have := hF b h; omega
    · exact RSink.ownBelow HOX.out (Below.drew (Below.refl _ _))
    rintro e w4 ⟨r0, m0, d0, r2, m2, d2, r3, m3, d3, r4, m4, d4, rfl, ho4, hO4⟩
    simp only at ho4
    have z4 : X2.heap.size ≤ w4.heap.size := hO4.size
    have hnN : ∀ b, w.heap.size ≤ b → ¬ F b := fun b h1 h2 => by have := hF b h2; omega
    have b0 := (hO4.block w.heap.size (by show w.heap.size < X2.heap.size; omega) (hnN _ (by omega))).trans b0
    have b1 := (hO4.block (w.heap.size + 1) (by show w.heap.size + 1 < X2.heap.size; omega) (hnN _ (by omega))).trans b1
    have b2 := (hO4.block (w.heap.size + 2) (by show w.heap.size + 2 < X2.heap.size; omega) (hnN _ (by omega))).trans b2
    have HO4 := Hid.mk ho4
    have HF4 := Hid.mk hO4
    clear p0 p1 p2 p3 p4 p5 p6 q9 ho4 hO4 hnN
    have p0 := blk_cell b0 0 (v := .slice a0 n0 c0) rfl
    have p1 := blk_cell b0 1 (v := .int .i64 t) rfl
    have p2 := blk_cell b0 2 (v := .slice a2 n2 c2) rfl
    have p3 := blk_cell b0 3 (v := .slice a3 n3 c3) rfl
    have p4 := blk_cell b0 4 (v := .slice a4 n4 c4) rfl
    have p5 := blk_cell b0 5 (v := .int .i64 la) rfl
    have p6 := blk_cell b0 6 (v := .int .i64 up) rfl
    have q9 := blk_cell b2 1 (v := .func (.func 41) #[] #[]) rfl
    have y0 := blk_cell b1 0 (v := .slice none 0 0) rfl
    have y1 := blk_cell b1 1 (v := .int .i64 0) rfl
    have y2 := blk_cell b1 2 (v := .slice none 0 0) rfl
    have y3 := blk_cell b1 3 (v := .slice none 0 0) rfl
    have y4 := blk_cell b1 4 (v := .slice none 0 0) rfl
    have y5 := blk_cell b1 5 (v := .int .i64 0) rfl
    have y6 := blk_cell b1 6 (v := .int .i64 0) rfl
    have fz0 := blk_frozen b1 0
    have fz1 := blk_frozen b1 1
    have fz2 := blk_frozen b1 2
    have fz3 := blk_frozen b1 3
    have fz4 := blk_frozen b1 4
    have fz5 := blk_frozen b1 5
    have fz6 := blk_frozen b1 6
    (try go_wp2_with fail)
    refine hK.out _ _ ?_ (fun hHeld' => ?_)
    · (try dsimp only)
      exact ⟨p0, p1, p2, p3, p4, p5, p6, q9⟩
    clear hK K hHeld
    have hHeld := hHeld'
    clear hHeld'
    (try simp only [Act.put, List.setIfInBounds_toArray, List.set_cons_zero, List.set_cons_succ])
    refine tk 5 ?_
    refine tk 6 ?_
    refine wpAnyH_ready (rs := [7]) (by kernel_rfl) (by simp) ?_
    refine AllReadyH.cons (o := ?_) ?_ (fun K hK => ?_) AllReadyH.nil
    rotate_left
    · (simp only [List.getElem?_toArray, List.getElem?_cons_zero, List.getElem?_cons_succ]; rfl)
    go_simp
    skip
    (try go_wp2_with fail)
    refine hK.out _ _ ?_ (fun hHeld' => ?_)
    · (try dsimp only)
      exact ⟨(cell_stores (w := w4) (g := w.heap.size + 1) [.slice r0 m0 d0, .int .i64 zt, .slice r2 m2 d2, .slice r3 m3 d3, .slice r4 m4 d4, .int .i64 zl, .int .i64 zu] 0 (by omega)).trans p0, (cell_stores (w := w4) (g := w.heap.size + 1) [.slice r0 m0 d0, .int .i64 zt, .slice r2 m2 d2, .slice r3 m3 d3, .slice r4 m4 d4, .int .i64 zl, .int .i64 zu] 0 (by omega)).trans p1, (cell_stores (w := w4) (g := w.heap.size + 1) [.slice r0 m0 d0, .int .i64 zt, .slice r2 m2 d2, .slice r3 m3 d3, .slice r4 m4 d4, .int .i64 zl, .int .i64 zu] 0 (by omega)).trans p2, (cell_stores (w := w4) (g := w.heap.size + 1) [.slice r0 m0 d0, .int .i64 zt, .slice r2 m2 d2, .slice r3 m3 d3, .slice r4 m4 d4, .int .i64 zl, .int .i64 zu] 0 (by omega)).trans p3, (cell_stores (w := w4) (g := w.heap.size + 1) [.slice r0 m0 d0, .int .i64 zt, .slice r2 m2 d2, .slice r3 m3 d3, .slice r4 m4 d4, .int .i64 zl, .int .i64 zu] 0 (by omega)).trans p4, (cell_stores (w := w4) (g := w.heap.size + 1) [.slice r0 m0 d0, .int .i64 zt, .slice r2 m2 d2, .slice r3 m3 d3, .slice r4 m4 d4, .int .i64 zl, .int .i64 zu] 0 (by omega)).trans p5, (cell_stores (w := w4) (g := w.heap.size + 1) [.slice r0 m0 d0, .int .i64 zt, .slice r2 m2 d2, .slice r3 m3 d3, .slice r4 m4 d4, .int .i64 zl, .int .i64 zu] 0 (by omega)).trans p6, (cell_stores (w := w4) (g := w.heap.size + 1) [.slice r0 m0 d0, .int .i64 zt, .slice r2 m2 d2, .slice r3 m3 d3, .slice r4 m4 d4, .int .i64 zl, .int .i64 zu] 0 (by omega)).trans q9⟩
    clear hK K hHeld
    have hHeld := hHeld'
    clear hHeld'
    (try simp only [Act.put, List.setIfInBounds_toArray, List.set_cons_zero, List.set_cons_succ])
    refine tk 8 ?_
    refine wpAnyH_done (by kernel_rfl) ?_ _
    obtain ⟨Y, hY⟩ : ∃ u, u = stores w4 (w.heap.size + 1) 0 [.slice r0 m0 d0, .int .i64 zt, .slice r2 m2 d2, .slice r3 m3 d3, .slice r4 m4 d4, .int .i64 zl, .int .i64 zu] := ⟨_, rfl⟩
    have S1 : Off (fun b => b = w.heap.size + 1) w4 Y := by rw [hY]; exact stores_off (F := fun b => b = w.heap.size + 1) _ _ _ _ rfl
    have zY : Y.heap.size = w4.heap.size := by rw [hY]; exact stores_size _ _ _ _
    have R : Hid (KRet (.returned (.tuple #[.agg #[.slice r0 m0 d0, .int .i64 zt, .slice r2 m2 d2, .slice r3 m3 d3, .slice r4 m4 d4, .int .i64 zl, .int .i64 zu], .bool OK])) w Y F OK (zsrc, zt, zpd, zps, zou, zl, zu)) := Hid.mk
      ⟨r0, m0, d0, r2, m2, d2, r3, m3, d3, r4, m4, d4, rfl, RSink.mono (RSink.ownOff HO4.out S1 (fun b h e => by
          have h2 : b = w.heap.size + 1 := e
          rcases h with h | h
          · have := hF b h; omega
          · have h3 : X2.heap.size ≤ b := h.1
            omega)) (fun b h => h.imp id (fun h => ⟨by have h3 : X2.heap.size ≤ b := h.1; omega, by have := h.2; omega⟩)),
        Off.cut ((((Off.below (F := fun b => F b ∨ w.heap.size ≤ b) BX2).drew).trans (HF4.out.mono (fun b h => .inl h))).trans (S1.mono (fun b h => .inr (by have h2 : b = w.heap.size + 1 := h; omega))))⟩
    have HY := Hid.mk hY
    clear S1 zY hY HO4 HF4
    go_wp2
    refine bodyPost_ret (v := .tuple #[.agg #[.slice r0 m0 d0, .int .i64 zt, .slice r2 m2 d2, .slice r3 m3 d3, .slice r4 m4 d4, .int .i64 zl, .int .i64 zu], .bool OK]) (by simp [results, Try.results31, go_sem, y0, y1, y2, y3, y4, y5, y6]) rfl ?_
    have h := R.out
    rw [HY.out] at h
    exact h
  · have KT : Hid (∀ Z : World, (∀ b, F b → b < Z.heap.size) → RSink.Own Z F [.slice a0 n0 c0, .int .i64 t, .slice a2 n2 c2, .slice a3 n3 c3, .slice a4 n4 c4, .int .i64 la, .int .i64 up] (src, t, pd, ps, ou, la, up) → Calls Try.prog 42 #[.agg #[.slice a0 n0 c0, .int .i64 t, .slice a2 n2 c2, .slice a3 n3 c3, .slice a4 n4 c4, .int .i64 la, .int .i64 up]] Z fun e w' => KRet e Z w' F OK (zsrc, zt, zpd, zps, zou, zl, zu)) := Hid.mk (fun Z h1 h2 => by
      have hst : stK (src, t, pd, ps, ou, la, up) 2 = prK (src, t, pd, ps, ou, la, up) := by unfold stK; rw [if_neg (by decide), if_pos rfl]
      have q := prepare_any F a0 n0 c0 a2 n2 c2 a3 n3 c3 a4 n4 c4 t la up src pd ps ou Z h1 (by have q := (RSink.lens ho).2.2.2.2.1; have q2 : ps.length ≤ 4 := hd.2.1; omega) hd.2.2.2.2.1 hd.2.2.2.2.2 h2
      rw [hst] at hz hok
      rw [hok, hz] at q
      exact q)
    clear hz hok hT hd ho
    have p0 := blk_cell b0 0 (v := .slice a0 n0 c0) rfl
    have p1 := blk_cell b0 1 (v := .int .i64 t) rfl
    have p2 := blk_cell b0 2 (v := .slice a2 n2 c2) rfl
    have p3 := blk_cell b0 3 (v := .slice a3 n3 c3) rfl
    have p4 := blk_cell b0 4 (v := .slice a4 n4 c4) rfl
    have p5 := blk_cell b0 5 (v := .int .i64 la) rfl
    have p6 := blk_cell b0 6 (v := .int .i64 up) rfl
    have q9 := blk_cell b2 2 (v := .func (.func 42) #[] #[]) rfl
    go_enter Try.func31, Try.ntmps31
    go_upto_region 1 with fail
    rw [← hW]
    clear hW
    go_upto_region 2 with fail
    rw [← hX2]
    clear hX2
    go_upto_region 4 with fail
    have p0' := b0
    clear p0'
    refine wp_region_held_drew (S := fun w' => w'.cell? ⟨w.heap.size, 0, none⟩ = some (.slice a0 n0 c0) ∧ w'.cell? ⟨w.heap.size, 1, none⟩ = some (.int .i64 t) ∧ w'.cell? ⟨w.heap.size, 2, none⟩ = some (.slice a2 n2 c2) ∧ w'.cell? ⟨w.heap.size, 3, none⟩ = some (.slice a3 n3 c3) ∧ w'.cell? ⟨w.heap.size, 4, none⟩ = some (.slice a4 n4 c4) ∧ w'.cell? ⟨w.heap.size, 5, none⟩ = some (.int .i64 la) ∧ w'.cell? ⟨w.heap.size, 6, none⟩ = some (.int .i64 up) ∧ w'.cell? ⟨w.heap.size + 2, 2, none⟩ = some (.func (.func 42) #[] #[])) (by kernel_rfl) ?_ (fun hHeld => ?_)
    · (try dsimp only)
      exact ⟨p0, p1, p2, p3, p4, p5, p6, q9⟩
    refine tk 0 ?_
    refine tk 1 ?_
    refine tk 2 ?_
    refine tk 3 ?_
    refine tr 4 (fun K hK => ?_)
    go_simp
    go_at_call 42
    refine (KT.out X2.drew ?_ ?_).mono ?_
    · exact fun b h => by show b < X2.heap.size; have := hF b h; omega
    · exact RSink.ownBelow HOX.out (Below.drew (Below.refl _ _))
    rintro e w4 ⟨r0, m0, d0, r2, m2, d2, r3, m3, d3, r4, m4, d4, rfl, ho4, hO4⟩
    simp only at ho4
    have z4 : X2.heap.size ≤ w4.heap.size := hO4.size
    have hnN : ∀ b, w.heap.size ≤ b → ¬ F b := fun b h1 h2 => by have := hF b h2; omega
    have b0 := (hO4.block w.heap.size (by show w.heap.size < X2.heap.size; omega) (hnN _ (by omega))).trans b0
    have b1 := (hO4.block (w.heap.size + 1) (by show w.heap.size + 1 < X2.heap.size; omega) (hnN _ (by omega))).trans b1
    have b2 := (hO4.block (w.heap.size + 2) (by show w.heap.size + 2 < X2.heap.size; omega) (hnN _ (by omega))).trans b2
    have HO4 := Hid.mk ho4
    have HF4 := Hid.mk hO4
    clear p0 p1 p2 p3 p4 p5 p6 q9 ho4 hO4 hnN
    have p0 := blk_cell b0 0 (v := .slice a0 n0 c0) rfl
    have p1 := blk_cell b0 1 (v := .int .i64 t) rfl
    have p2 := blk_cell b0 2 (v := .slice a2 n2 c2) rfl
    have p3 := blk_cell b0 3 (v := .slice a3 n3 c3) rfl
    have p4 := blk_cell b0 4 (v := .slice a4 n4 c4) rfl
    have p5 := blk_cell b0 5 (v := .int .i64 la) rfl
    have p6 := blk_cell b0 6 (v := .int .i64 up) rfl
    have q9 := blk_cell b2 2 (v := .func (.func 42) #[] #[]) rfl
    have y0 := blk_cell b1 0 (v := .slice none 0 0) rfl
    have y1 := blk_cell b1 1 (v := .int .i64 0) rfl
    have y2 := blk_cell b1 2 (v := .slice none 0 0) rfl
    have y3 := blk_cell b1 3 (v := .slice none 0 0) rfl
    have y4 := blk_cell b1 4 (v := .slice none 0 0) rfl
    have y5 := blk_cell b1 5 (v := .int .i64 0) rfl
    have y6 := blk_cell b1 6 (v := .int .i64 0) rfl
    have fz0 := blk_frozen b1 0
    have fz1 := blk_frozen b1 1
    have fz2 := blk_frozen b1 2
    have fz3 := blk_frozen b1 3
    have fz4 := blk_frozen b1 4
    have fz5 := blk_frozen b1 5
    have fz6 := blk_frozen b1 6
    (try go_wp2_with fail)
    refine hK.out _ _ ?_ (fun hHeld' => ?_)
    · (try dsimp only)
      exact ⟨p0, p1, p2, p3, p4, p5, p6, q9⟩
    clear hK K hHeld
    have hHeld := hHeld'
    clear hHeld'
    (try simp only [Act.put, List.setIfInBounds_toArray, List.set_cons_zero, List.set_cons_succ])
    refine tk 5 ?_
    refine tk 6 ?_
    refine wpAnyH_ready (rs := [7]) (by kernel_rfl) (by simp) ?_
    refine AllReadyH.cons (o := ?_) ?_ (fun K hK => ?_) AllReadyH.nil
    rotate_left
    · (simp only [List.getElem?_toArray, List.getElem?_cons_zero, List.getElem?_cons_succ]; rfl)
    go_simp
    skip
    (try go_wp2_with fail)
    refine hK.out _ _ ?_ (fun hHeld' => ?_)
    · (try dsimp only)
      exact ⟨(cell_stores (w := w4) (g := w.heap.size + 1) [.slice r0 m0 d0, .int .i64 zt, .slice r2 m2 d2, .slice r3 m3 d3, .slice r4 m4 d4, .int .i64 zl, .int .i64 zu] 0 (by omega)).trans p0, (cell_stores (w := w4) (g := w.heap.size + 1) [.slice r0 m0 d0, .int .i64 zt, .slice r2 m2 d2, .slice r3 m3 d3, .slice r4 m4 d4, .int .i64 zl, .int .i64 zu] 0 (by omega)).trans p1, (cell_stores (w := w4) (g := w.heap.size + 1) [.slice r0 m0 d0, .int .i64 zt, .slice r2 m2 d2, .slice r3 m3 d3, .slice r4 m4 d4, .int .i64 zl, .int .i64 zu] 0 (by omega)).trans p2, (cell_stores (w := w4) (g := w.heap.size + 1) [.slice r0 m0 d0, .int .i64 zt, .slice r2 m2 d2, .slice r3 m3 d3, .slice r4 m4 d4, .int .i64 zl, .int .i64 zu] 0 (by omega)).trans p3, (cell_stores (w := w4) (g := w.heap.size + 1) [.slice r0 m0 d0, .int .i64 zt, .slice r2 m2 d2, .slice r3 m3 d3, .slice r4 m4 d4, .int .i64 zl, .int .i64 zu] 0 (by omega)).trans p4, (cell_stores (w := w4) (g := w.heap.size + 1) [.slice r0 m0 d0, .int .i64 zt, .slice r2 m2 d2, .slice r3 m3 d3, .slice r4 m4 d4, .int .i64 zl, .int .i64 zu] 0 (by omega)).trans p5, (cell_stores (w := w4) (g := w.heap.size + 1) [.slice r0 m0 d0, .int .i64 zt, .slice r2 m2 d2, .slice r3 m3 d3, .slice r4 m4 d4, .int .i64 zl, .int .i64 zu] 0 (by omega)).trans p6, (cell_stores (w := w4) (g := w.heap.size + 1) [.slice r0 m0 d0, .int .i64 zt, .slice r2 m2 d2, .slice r3 m3 d3, .slice r4 m4 d4, .int .i64 zl, .int .i64 zu] 0 (by omega)).trans q9⟩
    clear hK K hHeld
    have hHeld := hHeld'
    clear hHeld'
    (try simp only [Act.put, List.setIfInBounds_toArray, List.set_cons_zero, List.set_cons_succ])
    refine tk 8 ?_
    refine wpAnyH_done (by kernel_rfl) ?_ _
    obtain ⟨Y, hY⟩ : ∃ u, u = stores w4 (w.heap.size + 1) 0 [.slice r0 m0 d0, .int .i64 zt, .slice r2 m2 d2, .slice r3 m3 d3, .slice r4 m4 d4, .int .i64 zl, .int .i64 zu] := ⟨_, rfl⟩
    have S1 : Off (fun b => b = w.heap.size + 1) w4 Y := by rw [hY]; exact stores_off (F := fun b => b = w.heap.size + 1) _ _ _ _ rfl
    have zY : Y.heap.size = w4.heap.size := by rw [hY]; exact stores_size _ _ _ _
    have R : Hid (KRet (.returned (.tuple #[.agg #[.slice r0 m0 d0, .int .i64 zt, .slice r2 m2 d2, .slice r3 m3 d3, .slice r4 m4 d4, .int .i64 zl, .int .i64 zu], .bool OK])) w Y F OK (zsrc, zt, zpd, zps, zou, zl, zu)) := Hid.mk
      ⟨r0, m0, d0, r2, m2, d2, r3, m3, d3, r4, m4, d4, rfl, RSink.mono (RSink.ownOff HO4.out S1 (fun b h e => by
          have h2 : b = w.heap.size + 1 := e
          rcases h with h | h
          · have := hF b h; omega
          · have h3 : X2.heap.size ≤ b := h.1
            omega)) (fun b h => h.imp id (fun h => ⟨by have h3 : X2.heap.size ≤ b := h.1; omega, by have := h.2; omega⟩)),
        Off.cut ((((Off.below (F := fun b => F b ∨ w.heap.size ≤ b) BX2).drew).trans (HF4.out.mono (fun b h => .inl h))).trans (S1.mono (fun b h => .inr (by have h2 : b = w.heap.size + 1 := h; omega))))⟩
    have HY := Hid.mk hY
    clear S1 zY hY HO4 HF4
    go_wp2
    refine bodyPost_ret (v := .tuple #[.agg #[.slice r0 m0 d0, .int .i64 zt, .slice r2 m2 d2, .slice r3 m3 d3, .slice r4 m4 d4, .int .i64 zl, .int .i64 zu], .bool OK]) (by simp [results, Try.results31, go_sem, y0, y1, y2, y3, y4, y5, y6]) rfl ?_
    have h := R.out
    rw [HY.out] at h
    exact h
  · have KT : Hid (∀ Z : World, (∀ b, F b → b < Z.heap.size) → RSink.Own Z F [.slice a0 n0 c0, .int .i64 t, .slice a2 n2 c2, .slice a3 n3 c3, .slice a4 n4 c4, .int .i64 la, .int .i64 up] (src, t, pd, ps, ou, la, up) → Calls Try.prog 40 #[.agg #[.slice a0 n0 c0, .int .i64 t, .slice a2 n2 c2, .slice a3 n3 c3, .slice a4 n4 c4, .int .i64 la, .int .i64 up]] Z fun e w' => KRet e Z w' F OK (zsrc, zt, zpd, zps, zou, zl, zu)) := Hid.mk (fun Z h1 h2 => by
      have hst : stK (src, t, pd, ps, ou, la, up) 3 = cmK (src, t, pd, ps, ou, la, up) := by unfold stK; rw [if_neg (by decide), if_neg (by decide), if_pos rfl]
      have q := (commit_stepD F a0 n0 c0 a2 n2 c2 a3 n3 c3 a4 n4 c4 t la up src pd ps ou Z (DP_PD hd) h1 h2).mono (fun e w' h => h.1)
      rw [hst] at hz hok
      rw [hok, hz] at q
      exact q)
    clear hz hok hT hd ho
    have p0 := blk_cell b0 0 (v := .slice a0 n0 c0) rfl
    have p1 := blk_cell b0 1 (v := .int .i64 t) rfl
    have p2 := blk_cell b0 2 (v := .slice a2 n2 c2) rfl
    have p3 := blk_cell b0 3 (v := .slice a3 n3 c3) rfl
    have p4 := blk_cell b0 4 (v := .slice a4 n4 c4) rfl
    have p5 := blk_cell b0 5 (v := .int .i64 la) rfl
    have p6 := blk_cell b0 6 (v := .int .i64 up) rfl
    have q9 := blk_cell b2 3 (v := .func (.func 40) #[] #[]) rfl
    go_enter Try.func31, Try.ntmps31
    go_upto_region 1 with fail
    rw [← hW]
    clear hW
    go_upto_region 2 with fail
    rw [← hX2]
    clear hX2
    go_upto_region 4 with fail
    have p0' := b0
    clear p0'
    refine wp_region_held_drew (S := fun w' => w'.cell? ⟨w.heap.size, 0, none⟩ = some (.slice a0 n0 c0) ∧ w'.cell? ⟨w.heap.size, 1, none⟩ = some (.int .i64 t) ∧ w'.cell? ⟨w.heap.size, 2, none⟩ = some (.slice a2 n2 c2) ∧ w'.cell? ⟨w.heap.size, 3, none⟩ = some (.slice a3 n3 c3) ∧ w'.cell? ⟨w.heap.size, 4, none⟩ = some (.slice a4 n4 c4) ∧ w'.cell? ⟨w.heap.size, 5, none⟩ = some (.int .i64 la) ∧ w'.cell? ⟨w.heap.size, 6, none⟩ = some (.int .i64 up) ∧ w'.cell? ⟨w.heap.size + 2, 3, none⟩ = some (.func (.func 40) #[] #[])) (by kernel_rfl) ?_ (fun hHeld => ?_)
    · (try dsimp only)
      exact ⟨p0, p1, p2, p3, p4, p5, p6, q9⟩
    refine tk 0 ?_
    refine tk 1 ?_
    refine tk 2 ?_
    refine tk 3 ?_
    refine tr 4 (fun K hK => ?_)
    go_simp
    go_at_call 40
    refine (KT.out X2.drew ?_ ?_).mono ?_
    · exact fun b h => by show b < X2.heap.size; have := hF b h; omega
    · exact RSink.ownBelow HOX.out (Below.drew (Below.refl _ _))
    rintro e w4 ⟨r0, m0, d0, r2, m2, d2, r3, m3, d3, r4, m4, d4, rfl, ho4, hO4⟩
    simp only at ho4
    have z4 : X2.heap.size ≤ w4.heap.size := hO4.size
    have hnN : ∀ b, w.heap.size ≤ b → ¬ F b := fun b h1 h2 => by have := hF b h2; omega
    have b0 := (hO4.block w.heap.size (by show w.heap.size < X2.heap.size; omega) (hnN _ (by omega))).trans b0
    have b1 := (hO4.block (w.heap.size + 1) (by show w.heap.size + 1 < X2.heap.size; omega) (hnN _ (by omega))).trans b1
    have b2 := (hO4.block (w.heap.size + 2) (by show w.heap.size + 2 < X2.heap.size; omega) (hnN _ (by omega))).trans b2
    have HO4 := Hid.mk ho4
    have HF4 := Hid.mk hO4
    clear p0 p1 p2 p3 p4 p5 p6 q9 ho4 hO4 hnN
    have p0 := blk_cell b0 0 (v := .slice a0 n0 c0) rfl
    have p1 := blk_cell b0 1 (v := .int .i64 t) rfl
    have p2 := blk_cell b0 2 (v := .slice a2 n2 c2) rfl
    have p3 := blk_cell b0 3 (v := .slice a3 n3 c3) rfl
    have p4 := blk_cell b0 4 (v := .slice a4 n4 c4) rfl
    have p5 := blk_cell b0 5 (v := .int .i64 la) rfl
    have p6 := blk_cell b0 6 (v := .int .i64 up) rfl
    have q9 := blk_cell b2 3 (v := .func (.func 40) #[] #[]) rfl
    have y0 := blk_cell b1 0 (v := .slice none 0 0) rfl
    have y1 := blk_cell b1 1 (v := .int .i64 0) rfl
    have y2 := blk_cell b1 2 (v := .slice none 0 0) rfl
    have y3 := blk_cell b1 3 (v := .slice none 0 0) rfl
    have y4 := blk_cell b1 4 (v := .slice none 0 0) rfl
    have y5 := blk_cell b1 5 (v := .int .i64 0) rfl
    have y6 := blk_cell b1 6 (v := .int .i64 0) rfl
    have fz0 := blk_frozen b1 0
    have fz1 := blk_frozen b1 1
    have fz2 := blk_frozen b1 2
    have fz3 := blk_frozen b1 3
    have fz4 := blk_frozen b1 4
    have fz5 := blk_frozen b1 5
    have fz6 := blk_frozen b1 6
    (try go_wp2_with fail)
    refine hK.out _ _ ?_ (fun hHeld' => ?_)
    · (try dsimp only)
      exact ⟨p0, p1, p2, p3, p4, p5, p6, q9⟩
    clear hK K hHeld
    have hHeld := hHeld'
    clear hHeld'
    (try simp only [Act.put, List.setIfInBounds_toArray, List.set_cons_zero, List.set_cons_succ])
    refine tk 5 ?_
    refine tk 6 ?_
    refine wpAnyH_ready (rs := [7]) (by kernel_rfl) (by simp) ?_
    refine AllReadyH.cons (o := ?_) ?_ (fun K hK => ?_) AllReadyH.nil
    rotate_left
    · (simp only [List.getElem?_toArray, List.getElem?_cons_zero, List.getElem?_cons_succ]; rfl)
    go_simp
    skip
    (try go_wp2_with fail)
    refine hK.out _ _ ?_ (fun hHeld' => ?_)
    · (try dsimp only)
      exact ⟨(cell_stores (w := w4) (g := w.heap.size + 1) [.slice r0 m0 d0, .int .i64 zt, .slice r2 m2 d2, .slice r3 m3 d3, .slice r4 m4 d4, .int .i64 zl, .int .i64 zu] 0 (by omega)).trans p0, (cell_stores (w := w4) (g := w.heap.size + 1) [.slice r0 m0 d0, .int .i64 zt, .slice r2 m2 d2, .slice r3 m3 d3, .slice r4 m4 d4, .int .i64 zl, .int .i64 zu] 0 (by omega)).trans p1, (cell_stores (w := w4) (g := w.heap.size + 1) [.slice r0 m0 d0, .int .i64 zt, .slice r2 m2 d2, .slice r3 m3 d3, .slice r4 m4 d4, .int .i64 zl, .int .i64 zu] 0 (by omega)).trans p2, (cell_stores (w := w4) (g := w.heap.size + 1) [.slice r0 m0 d0, .int .i64 zt, .slice r2 m2 d2, .slice r3 m3 d3, .slice r4 m4 d4, .int .i64 zl, .int .i64 zu] 0 (by omega)).trans p3, (cell_stores (w := w4) (g := w.heap.size + 1) [.slice r0 m0 d0, .int .i64 zt, .slice r2 m2 d2, .slice r3 m3 d3, .slice r4 m4 d4, .int .i64 zl, .int .i64 zu] 0 (by omega)).trans p4, (cell_stores (w := w4) (g := w.heap.size + 1) [.slice r0 m0 d0, .int .i64 zt, .slice r2 m2 d2, .slice r3 m3 d3, .slice r4 m4 d4, .int .i64 zl, .int .i64 zu] 0 (by omega)).trans p5, (cell_stores (w := w4) (g := w.heap.size + 1) [.slice r0 m0 d0, .int .i64 zt, .slice r2 m2 d2, .slice r3 m3 d3, .slice r4 m4 d4, .int .i64 zl, .int .i64 zu] 0 (by omega)).trans p6, (cell_stores (w := w4) (g := w.heap.size + 1) [.slice r0 m0 d0, .int .i64 zt, .slice r2 m2 d2, .slice r3 m3 d3, .slice r4 m4 d4, .int .i64 zl, .int .i64 zu] 0 (by omega)).trans q9⟩
    clear hK K hHeld
    have hHeld := hHeld'
    clear hHeld'
    (try simp only [Act.put, List.setIfInBounds_toArray, List.set_cons_zero, List.set_cons_succ])
    refine tk 8 ?_
    refine wpAnyH_done (by kernel_rfl) ?_ _
    obtain ⟨Y, hY⟩ : ∃ u, u = stores w4 (w.heap.size + 1) 0 [.slice r0 m0 d0, .int .i64 zt, .slice r2 m2 d2, .slice r3 m3 d3, .slice r4 m4 d4, .int .i64 zl, .int .i64 zu] := ⟨_, rfl⟩
    have S1 : Off (fun b => b = w.heap.size + 1) w4 Y := by rw [hY]; exact stores_off (F := fun b => b = w.heap.size + 1) _ _ _ _ rfl
    have zY : Y.heap.size = w4.heap.size := by rw [hY]; exact stores_size _ _ _ _
    have R : Hid (KRet (.returned (.tuple #[.agg #[.slice r0 m0 d0, .int .i64 zt, .slice r2 m2 d2, .slice r3 m3 d3, .slice r4 m4 d4, .int .i64 zl, .int .i64 zu], .bool OK])) w Y F OK (zsrc, zt, zpd, zps, zou, zl, zu)) := Hid.mk
      ⟨r0, m0, d0, r2, m2, d2, r3, m3, d3, r4, m4, d4, rfl, RSink.mono (RSink.ownOff HO4.out S1 (fun b h e => by
          have h2 : b = w.heap.size + 1 := e
          rcases h with h | h
          · have := hF b h; omega
          · have h3 : X2.heap.size ≤ b := h.1
            omega)) (fun b h => h.imp id (fun h => ⟨by have h3 : X2.heap.size ≤ b := h.1; omega, by have := h.2; omega⟩)),
        Off.cut ((((Off.below (F := fun b => F b ∨ w.heap.size ≤ b) BX2).drew).trans (HF4.out.mono (fun b h => .inl h))).trans (S1.mono (fun b h => .inr (by have h2 : b = w.heap.size + 1 := h; omega))))⟩
    have HY := Hid.mk hY
    clear S1 zY hY HO4 HF4
    go_wp2
    refine bodyPost_ret (v := .tuple #[.agg #[.slice r0 m0 d0, .int .i64 zt, .slice r2 m2 d2, .slice r3 m3 d3, .slice r4 m4 d4, .int .i64 zl, .int .i64 zu], .bool OK]) (by simp [results, Try.results31, go_sem, y0, y1, y2, y3, y4, y5, y6]) rfl ?_
    have h := R.out
    rw [HY.out] at h
    exact h
  · have KT : Hid (∀ Z : World, (∀ b, F b → b < Z.heap.size) → RSink.Own Z F [.slice a0 n0 c0, .int .i64 t, .slice a2 n2 c2, .slice a3 n3 c3, .slice a4 n4 c4, .int .i64 la, .int .i64 up] (src, t, pd, ps, ou, la, up) → Calls Try.prog 54 #[.agg #[.slice a0 n0 c0, .int .i64 t, .slice a2 n2 c2, .slice a3 n3 c3, .slice a4 n4 c4, .int .i64 la, .int .i64 up]] Z fun e w' => KRet e Z w' F OK (zsrc, zt, zpd, zps, zou, zl, zu)) := Hid.mk (fun Z h1 h2 => by
      have hst : stK (src, t, pd, ps, ou, la, up) 4 = (crK (src, t, pd, ps, ou, la, up), true) := by unfold stK; rw [if_neg (by decide), if_neg (by decide), if_neg (by decide), if_pos rfl]
      have q := crash_any F a0 n0 c0 a2 n2 c2 a3 n3 c3 a4 n4 c4 t la up src pd ps ou Z h2
      rw [hst] at hz hok
      rw [← hok, ← hz]
      exact q)
    clear hz hok hT hd ho
    have p0 := blk_cell b0 0 (v := .slice a0 n0 c0) rfl
    have p1 := blk_cell b0 1 (v := .int .i64 t) rfl
    have p2 := blk_cell b0 2 (v := .slice a2 n2 c2) rfl
    have p3 := blk_cell b0 3 (v := .slice a3 n3 c3) rfl
    have p4 := blk_cell b0 4 (v := .slice a4 n4 c4) rfl
    have p5 := blk_cell b0 5 (v := .int .i64 la) rfl
    have p6 := blk_cell b0 6 (v := .int .i64 up) rfl
    have q9 := blk_cell b2 4 (v := .func (.func 54) #[] #[]) rfl
    go_enter Try.func31, Try.ntmps31
    go_upto_region 1 with fail
    rw [← hW]
    clear hW
    go_upto_region 2 with fail
    rw [← hX2]
    clear hX2
    go_upto_region 4 with fail
    have p0' := b0
    clear p0'
    refine wp_region_held_drew (S := fun w' => w'.cell? ⟨w.heap.size, 0, none⟩ = some (.slice a0 n0 c0) ∧ w'.cell? ⟨w.heap.size, 1, none⟩ = some (.int .i64 t) ∧ w'.cell? ⟨w.heap.size, 2, none⟩ = some (.slice a2 n2 c2) ∧ w'.cell? ⟨w.heap.size, 3, none⟩ = some (.slice a3 n3 c3) ∧ w'.cell? ⟨w.heap.size, 4, none⟩ = some (.slice a4 n4 c4) ∧ w'.cell? ⟨w.heap.size, 5, none⟩ = some (.int .i64 la) ∧ w'.cell? ⟨w.heap.size, 6, none⟩ = some (.int .i64 up) ∧ w'.cell? ⟨w.heap.size + 2, 4, none⟩ = some (.func (.func 54) #[] #[])) (by kernel_rfl) ?_ (fun hHeld => ?_)
    · (try dsimp only)
      exact ⟨p0, p1, p2, p3, p4, p5, p6, q9⟩
    refine tk 0 ?_
    refine tk 1 ?_
    refine tk 2 ?_
    refine tk 3 ?_
    refine tr 4 (fun K hK => ?_)
    go_simp
    go_at_call 54
    refine (KT.out X2.drew ?_ ?_).mono ?_
    · exact fun b h => by show b < X2.heap.size; have := hF b h; omega
    · exact RSink.ownBelow HOX.out (Below.drew (Below.refl _ _))
    rintro e w4 ⟨r0, m0, d0, r2, m2, d2, r3, m3, d3, r4, m4, d4, rfl, ho4, hO4⟩
    simp only at ho4
    have z4 : X2.heap.size ≤ w4.heap.size := hO4.size
    have hnN : ∀ b, w.heap.size ≤ b → ¬ F b := fun b h1 h2 => by have := hF b h2; omega
    have b0 := (hO4.block w.heap.size (by show w.heap.size < X2.heap.size; omega) (hnN _ (by omega))).trans b0
    have b1 := (hO4.block (w.heap.size + 1) (by show w.heap.size + 1 < X2.heap.size; omega) (hnN _ (by omega))).trans b1
    have b2 := (hO4.block (w.heap.size + 2) (by show w.heap.size + 2 < X2.heap.size; omega) (hnN _ (by omega))).trans b2
    have HO4 := Hid.mk ho4
    have HF4 := Hid.mk hO4
    clear p0 p1 p2 p3 p4 p5 p6 q9 ho4 hO4 hnN
    have p0 := blk_cell b0 0 (v := .slice a0 n0 c0) rfl
    have p1 := blk_cell b0 1 (v := .int .i64 t) rfl
    have p2 := blk_cell b0 2 (v := .slice a2 n2 c2) rfl
    have p3 := blk_cell b0 3 (v := .slice a3 n3 c3) rfl
    have p4 := blk_cell b0 4 (v := .slice a4 n4 c4) rfl
    have p5 := blk_cell b0 5 (v := .int .i64 la) rfl
    have p6 := blk_cell b0 6 (v := .int .i64 up) rfl
    have q9 := blk_cell b2 4 (v := .func (.func 54) #[] #[]) rfl
    have y0 := blk_cell b1 0 (v := .slice none 0 0) rfl
    have y1 := blk_cell b1 1 (v := .int .i64 0) rfl
    have y2 := blk_cell b1 2 (v := .slice none 0 0) rfl
    have y3 := blk_cell b1 3 (v := .slice none 0 0) rfl
    have y4 := blk_cell b1 4 (v := .slice none 0 0) rfl
    have y5 := blk_cell b1 5 (v := .int .i64 0) rfl
    have y6 := blk_cell b1 6 (v := .int .i64 0) rfl
    have fz0 := blk_frozen b1 0
    have fz1 := blk_frozen b1 1
    have fz2 := blk_frozen b1 2
    have fz3 := blk_frozen b1 3
    have fz4 := blk_frozen b1 4
    have fz5 := blk_frozen b1 5
    have fz6 := blk_frozen b1 6
    (try go_wp2_with fail)
    refine hK.out _ _ ?_ (fun hHeld' => ?_)
    · (try dsimp only)
      exact ⟨p0, p1, p2, p3, p4, p5, p6, q9⟩
    clear hK K hHeld
    have hHeld := hHeld'
    clear hHeld'
    (try simp only [Act.put, List.setIfInBounds_toArray, List.set_cons_zero, List.set_cons_succ])
    refine tk 5 ?_
    refine tk 6 ?_
    refine wpAnyH_ready (rs := [7]) (by kernel_rfl) (by simp) ?_
    refine AllReadyH.cons (o := ?_) ?_ (fun K hK => ?_) AllReadyH.nil
    rotate_left
    · (simp only [List.getElem?_toArray, List.getElem?_cons_zero, List.getElem?_cons_succ]; rfl)
    go_simp
    skip
    (try go_wp2_with fail)
    refine hK.out _ _ ?_ (fun hHeld' => ?_)
    · (try dsimp only)
      exact ⟨(cell_stores (w := w4) (g := w.heap.size + 1) [.slice r0 m0 d0, .int .i64 zt, .slice r2 m2 d2, .slice r3 m3 d3, .slice r4 m4 d4, .int .i64 zl, .int .i64 zu] 0 (by omega)).trans p0, (cell_stores (w := w4) (g := w.heap.size + 1) [.slice r0 m0 d0, .int .i64 zt, .slice r2 m2 d2, .slice r3 m3 d3, .slice r4 m4 d4, .int .i64 zl, .int .i64 zu] 0 (by omega)).trans p1, (cell_stores (w := w4) (g := w.heap.size + 1) [.slice r0 m0 d0, .int .i64 zt, .slice r2 m2 d2, .slice r3 m3 d3, .slice r4 m4 d4, .int .i64 zl, .int .i64 zu] 0 (by omega)).trans p2, (cell_stores (w := w4) (g := w.heap.size + 1) [.slice r0 m0 d0, .int .i64 zt, .slice r2 m2 d2, .slice r3 m3 d3, .slice r4 m4 d4, .int .i64 zl, .int .i64 zu] 0 (by omega)).trans p3, (cell_stores (w := w4) (g := w.heap.size + 1) [.slice r0 m0 d0, .int .i64 zt, .slice r2 m2 d2, .slice r3 m3 d3, .slice r4 m4 d4, .int .i64 zl, .int .i64 zu] 0 (by omega)).trans p4, (cell_stores (w := w4) (g := w.heap.size + 1) [.slice r0 m0 d0, .int .i64 zt, .slice r2 m2 d2, .slice r3 m3 d3, .slice r4 m4 d4, .int .i64 zl, .int .i64 zu] 0 (by omega)).trans p5, (cell_stores (w := w4) (g := w.heap.size + 1) [.slice r0 m0 d0, .int .i64 zt, .slice r2 m2 d2, .slice r3 m3 d3, .slice r4 m4 d4, .int .i64 zl, .int .i64 zu] 0 (by omega)).trans p6, (cell_stores (w := w4) (g := w.heap.size + 1) [.slice r0 m0 d0, .int .i64 zt, .slice r2 m2 d2, .slice r3 m3 d3, .slice r4 m4 d4, .int .i64 zl, .int .i64 zu] 0 (by omega)).trans q9⟩
    clear hK K hHeld
    have hHeld := hHeld'
    clear hHeld'
    (try simp only [Act.put, List.setIfInBounds_toArray, List.set_cons_zero, List.set_cons_succ])
    refine tk 8 ?_
    refine wpAnyH_done (by kernel_rfl) ?_ _
    obtain ⟨Y, hY⟩ : ∃ u, u = stores w4 (w.heap.size + 1) 0 [.slice r0 m0 d0, .int .i64 zt, .slice r2 m2 d2, .slice r3 m3 d3, .slice r4 m4 d4, .int .i64 zl, .int .i64 zu] := ⟨_, rfl⟩
    have S1 : Off (fun b => b = w.heap.size + 1) w4 Y := by rw [hY]; exact stores_off (F := fun b => b = w.heap.size + 1) _ _ _ _ rfl
    have zY : Y.heap.size = w4.heap.size := by rw [hY]; exact stores_size _ _ _ _
    have R : Hid (KRet (.returned (.tuple #[.agg #[.slice r0 m0 d0, .int .i64 zt, .slice r2 m2 d2, .slice r3 m3 d3, .slice r4 m4 d4, .int .i64 zl, .int .i64 zu], .bool OK])) w Y F OK (zsrc, zt, zpd, zps, zou, zl, zu)) := Hid.mk
      ⟨r0, m0, d0, r2, m2, d2, r3, m3, d3, r4, m4, d4, rfl, RSink.mono (RSink.ownOff HO4.out S1 (fun b h e => by
          have h2 : b = w.heap.size + 1 := e
          rcases h with h | h
          · have := hF b h; omega
          · have h3 : X2.heap.size ≤ b := h.1
            omega)) (fun b h => h.imp id (fun h => ⟨by have h3 : X2.heap.size ≤ b := h.1; omega, by have := h.2; omega⟩)),
        Off.cut ((((Off.below (F := fun b => F b ∨ w.heap.size ≤ b) BX2).drew).trans (HF4.out.mono (fun b h => .inl h))).trans (S1.mono (fun b h => .inr (by have h2 : b = w.heap.size + 1 := h; omega))))⟩
    have HY := Hid.mk hY
    clear S1 zY hY HO4 HF4
    go_wp2
    refine bodyPost_ret (v := .tuple #[.agg #[.slice r0 m0 d0, .int .i64 zt, .slice r2 m2 d2, .slice r3 m3 d3, .slice r4 m4 d4, .int .i64 zl, .int .i64 zu], .bool OK]) (by simp [results, Try.results31, go_sem, y0, y1, y2, y3, y4, y5, y6]) rfl ?_
    have h := R.out
    rw [HY.out] at h
    exact h
  · have KT : Hid (∀ Z : World, (∀ b, F b → b < Z.heap.size) → RSink.Own Z F [.slice a0 n0 c0, .int .i64 t, .slice a2 n2 c2, .slice a3 n3 c3, .slice a4 n4 c4, .int .i64 la, .int .i64 up] (src, t, pd, ps, ou, la, up) → Calls Try.prog 55 #[.agg #[.slice a0 n0 c0, .int .i64 t, .slice a2 n2 c2, .slice a3 n3 c3, .slice a4 n4 c4, .int .i64 la, .int .i64 up]] Z fun e w' => KRet e Z w' F OK (zsrc, zt, zpd, zps, zou, zl, zu)) := Hid.mk (fun Z h1 h2 => by
      have q := hT Z h1 h2
      rw [hok, hz] at q
      exact q)
    clear hz hok hT hd ho
    have p0 := blk_cell b0 0 (v := .slice a0 n0 c0) rfl
    have p1 := blk_cell b0 1 (v := .int .i64 t) rfl
    have p2 := blk_cell b0 2 (v := .slice a2 n2 c2) rfl
    have p3 := blk_cell b0 3 (v := .slice a3 n3 c3) rfl
    have p4 := blk_cell b0 4 (v := .slice a4 n4 c4) rfl
    have p5 := blk_cell b0 5 (v := .int .i64 la) rfl
    have p6 := blk_cell b0 6 (v := .int .i64 up) rfl
    have q9 := blk_cell b2 5 (v := .func (.func 55) #[] #[]) rfl
    go_enter Try.func31, Try.ntmps31
    go_upto_region 1 with fail
    rw [← hW]
    clear hW
    go_upto_region 2 with fail
    rw [← hX2]
    clear hX2
    go_upto_region 4 with fail
    have p0' := b0
    clear p0'
    refine wp_region_held_drew (S := fun w' => w'.cell? ⟨w.heap.size, 0, none⟩ = some (.slice a0 n0 c0) ∧ w'.cell? ⟨w.heap.size, 1, none⟩ = some (.int .i64 t) ∧ w'.cell? ⟨w.heap.size, 2, none⟩ = some (.slice a2 n2 c2) ∧ w'.cell? ⟨w.heap.size, 3, none⟩ = some (.slice a3 n3 c3) ∧ w'.cell? ⟨w.heap.size, 4, none⟩ = some (.slice a4 n4 c4) ∧ w'.cell? ⟨w.heap.size, 5, none⟩ = some (.int .i64 la) ∧ w'.cell? ⟨w.heap.size, 6, none⟩ = some (.int .i64 up) ∧ w'.cell? ⟨w.heap.size + 2, 5, none⟩ = some (.func (.func 55) #[] #[])) (by kernel_rfl) ?_ (fun hHeld => ?_)
    · (try dsimp only)
      exact ⟨p0, p1, p2, p3, p4, p5, p6, q9⟩
    refine tk 0 ?_
    refine tk 1 ?_
    refine tk 2 ?_
    refine tk 3 ?_
    refine tr 4 (fun K hK => ?_)
    go_simp
    go_at_call 55
    refine (KT.out X2.drew ?_ ?_).mono ?_
    · exact fun b h => by show b < X2.heap.size; have := hF b h; omega
    · exact RSink.ownBelow HOX.out (Below.drew (Below.refl _ _))
    rintro e w4 ⟨r0, m0, d0, r2, m2, d2, r3, m3, d3, r4, m4, d4, rfl, ho4, hO4⟩
    simp only at ho4
    have z4 : X2.heap.size ≤ w4.heap.size := hO4.size
    have hnN : ∀ b, w.heap.size ≤ b → ¬ F b := fun b h1 h2 => by have := hF b h2; omega
    have b0 := (hO4.block w.heap.size (by show w.heap.size < X2.heap.size; omega) (hnN _ (by omega))).trans b0
    have b1 := (hO4.block (w.heap.size + 1) (by show w.heap.size + 1 < X2.heap.size; omega) (hnN _ (by omega))).trans b1
    have b2 := (hO4.block (w.heap.size + 2) (by show w.heap.size + 2 < X2.heap.size; omega) (hnN _ (by omega))).trans b2
    have HO4 := Hid.mk ho4
    have HF4 := Hid.mk hO4
    clear p0 p1 p2 p3 p4 p5 p6 q9 ho4 hO4 hnN
    have p0 := blk_cell b0 0 (v := .slice a0 n0 c0) rfl
    have p1 := blk_cell b0 1 (v := .int .i64 t) rfl
    have p2 := blk_cell b0 2 (v := .slice a2 n2 c2) rfl
    have p3 := blk_cell b0 3 (v := .slice a3 n3 c3) rfl
    have p4 := blk_cell b0 4 (v := .slice a4 n4 c4) rfl
    have p5 := blk_cell b0 5 (v := .int .i64 la) rfl
    have p6 := blk_cell b0 6 (v := .int .i64 up) rfl
    have q9 := blk_cell b2 5 (v := .func (.func 55) #[] #[]) rfl
    have y0 := blk_cell b1 0 (v := .slice none 0 0) rfl
    have y1 := blk_cell b1 1 (v := .int .i64 0) rfl
    have y2 := blk_cell b1 2 (v := .slice none 0 0) rfl
    have y3 := blk_cell b1 3 (v := .slice none 0 0) rfl
    have y4 := blk_cell b1 4 (v := .slice none 0 0) rfl
    have y5 := blk_cell b1 5 (v := .int .i64 0) rfl
    have y6 := blk_cell b1 6 (v := .int .i64 0) rfl
    have fz0 := blk_frozen b1 0
    have fz1 := blk_frozen b1 1
    have fz2 := blk_frozen b1 2
    have fz3 := blk_frozen b1 3
    have fz4 := blk_frozen b1 4
    have fz5 := blk_frozen b1 5
    have fz6 := blk_frozen b1 6
    (try go_wp2_with fail)
    refine hK.out _ _ ?_ (fun hHeld' => ?_)
    · (try dsimp only)
      exact ⟨p0, p1, p2, p3, p4, p5, p6, q9⟩
    clear hK K hHeld
    have hHeld := hHeld'
    clear hHeld'
    (try simp only [Act.put, List.setIfInBounds_toArray, List.set_cons_zero, List.set_cons_succ])
    refine tk 5 ?_
    refine tk 6 ?_
    refine wpAnyH_ready (rs := [7]) (by kernel_rfl) (by simp) ?_
    refine AllReadyH.cons (o := ?_) ?_ (fun K hK => ?_) AllReadyH.nil
    rotate_left
    · (simp only [List.getElem?_toArray, List.getElem?_cons_zero, List.getElem?_cons_succ]; rfl)
    go_simp
    skip
    (try go_wp2_with fail)
    refine hK.out _ _ ?_ (fun hHeld' => ?_)
    · (try dsimp only)
      exact ⟨(cell_stores (w := w4) (g := w.heap.size + 1) [.slice r0 m0 d0, .int .i64 zt, .slice r2 m2 d2, .slice r3 m3 d3, .slice r4 m4 d4, .int .i64 zl, .int .i64 zu] 0 (by omega)).trans p0, (cell_stores (w := w4) (g := w.heap.size + 1) [.slice r0 m0 d0, .int .i64 zt, .slice r2 m2 d2, .slice r3 m3 d3, .slice r4 m4 d4, .int .i64 zl, .int .i64 zu] 0 (by omega)).trans p1, (cell_stores (w := w4) (g := w.heap.size + 1) [.slice r0 m0 d0, .int .i64 zt, .slice r2 m2 d2, .slice r3 m3 d3, .slice r4 m4 d4, .int .i64 zl, .int .i64 zu] 0 (by omega)).trans p2, (cell_stores (w := w4) (g := w.heap.size + 1) [.slice r0 m0 d0, .int .i64 zt, .slice r2 m2 d2, .slice r3 m3 d3, .slice r4 m4 d4, .int .i64 zl, .int .i64 zu] 0 (by omega)).trans p3, (cell_stores (w := w4) (g := w.heap.size + 1) [.slice r0 m0 d0, .int .i64 zt, .slice r2 m2 d2, .slice r3 m3 d3, .slice r4 m4 d4, .int .i64 zl, .int .i64 zu] 0 (by omega)).trans p4, (cell_stores (w := w4) (g := w.heap.size + 1) [.slice r0 m0 d0, .int .i64 zt, .slice r2 m2 d2, .slice r3 m3 d3, .slice r4 m4 d4, .int .i64 zl, .int .i64 zu] 0 (by omega)).trans p5, (cell_stores (w := w4) (g := w.heap.size + 1) [.slice r0 m0 d0, .int .i64 zt, .slice r2 m2 d2, .slice r3 m3 d3, .slice r4 m4 d4, .int .i64 zl, .int .i64 zu] 0 (by omega)).trans p6, (cell_stores (w := w4) (g := w.heap.size + 1) [.slice r0 m0 d0, .int .i64 zt, .slice r2 m2 d2, .slice r3 m3 d3, .slice r4 m4 d4, .int .i64 zl, .int .i64 zu] 0 (by omega)).trans q9⟩
    clear hK K hHeld
    have hHeld := hHeld'
    clear hHeld'
    (try simp only [Act.put, List.setIfInBounds_toArray, List.set_cons_zero, List.set_cons_succ])
    refine tk 8 ?_
    refine wpAnyH_done (by kernel_rfl) ?_ _
    obtain ⟨Y, hY⟩ : ∃ u, u = stores w4 (w.heap.size + 1) 0 [.slice r0 m0 d0, .int .i64 zt, .slice r2 m2 d2, .slice r3 m3 d3, .slice r4 m4 d4, .int .i64 zl, .int .i64 zu] := ⟨_, rfl⟩
    have S1 : Off (fun b => b = w.heap.size + 1) w4 Y := by rw [hY]; exact stores_off (F := fun b => b = w.heap.size + 1) _ _ _ _ rfl
    have zY : Y.heap.size = w4.heap.size := by rw [hY]; exact stores_size _ _ _ _
    have R : Hid (KRet (.returned (.tuple #[.agg #[.slice r0 m0 d0, .int .i64 zt, .slice r2 m2 d2, .slice r3 m3 d3, .slice r4 m4 d4, .int .i64 zl, .int .i64 zu], .bool OK])) w Y F OK (zsrc, zt, zpd, zps, zou, zl, zu)) := Hid.mk
      ⟨r0, m0, d0, r2, m2, d2, r3, m3, d3, r4, m4, d4, rfl, RSink.mono (RSink.ownOff HO4.out S1 (fun b h e => by
          have h2 : b = w.heap.size + 1 := e
          rcases h with h | h
          · have := hF b h; omega
          · have h3 : X2.heap.size ≤ b := h.1
            omega)) (fun b h => h.imp id (fun h => ⟨by have h3 : X2.heap.size ≤ b := h.1; omega, by have := h.2; omega⟩)),
        Off.cut ((((Off.below (F := fun b => F b ∨ w.heap.size ≤ b) BX2).drew).trans (HF4.out.mono (fun b h => .inl h))).trans (S1.mono (fun b h => .inr (by have h2 : b = w.heap.size + 1 := h; omega))))⟩
    have HY := Hid.mk hY
    clear S1 zY hY HO4 HF4
    go_wp2
    refine bodyPost_ret (v := .tuple #[.agg #[.slice r0 m0 d0, .int .i64 zt, .slice r2 m2 d2, .slice r3 m3 d3, .slice r4 m4 d4, .int .i64 zl, .int .i64 zu], .bool OK]) (by simp [results, Try.results31, go_sem, y0, y1, y2, y3, y4, y5, y6]) rfl ?_
    have h := R.out
    rw [HY.out] at h
    exact h

end Go.Proofs.Ytmbjmmnodcebbaa
