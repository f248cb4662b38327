/- The model's l15Step: what can't be done; a start. -/
import Derived.Test.YtnfdncofobkjhaaM14
import Derived.Test.YtnfdncofobkjhaaM15
namespace Go.Proofs.Ytnfdncofobkjhaa
open Go.RowKit

set_option maxRecDepth 100000 in
set_option maxHeartbeats 8000000 in
theorem l15Step_bad1 (lo : Nat → Prop) (g0 n0 c0 g1 n1 c1 : Nat) (kd f t : Int) (v : Int) (ps : List TProc) (ws : List TWire) (cells0 cells1 : List Value) (G : Nat → Nat → Prop) (w : World) (hf : f < 0 ∨ (n0 : Int) ≤ f) (h : SV w lo g0 n0 c0 g1 n1 c1 ps ws cells0 cells1 G) :
    Calls Try.prog 31 #[.agg #[.slice (some ⟨g0, 0, none⟩) n0 c0, .slice (some ⟨g1, 0, none⟩) n1 c1], .agg #[.int .i64 kd, .int .i64 f, .int .i64 t, .int .i64 v]] w fun e w' => e = .returned (.tuple #[.agg #[.slice (some ⟨g0, 0, none⟩) n0 c0, .slice (some ⟨g1, 0, none⟩) n1 c1], .bool false]) ∧ Off lo w w' := by
  obtain ⟨W1, hW1⟩ : ∃ W, W = w.alloc (.cells #[.slice (some ⟨g0, 0, none⟩) n0 c0, .slice (some ⟨g1, 0, none⟩) n1 c1] 32) := ⟨_, rfl⟩
  obtain ⟨W2, hW2⟩ : ∃ W, W = W1.alloc (.cells #[.int .i64 kd, .int .i64 f, .int .i64 t, .int .i64 v] 36) := ⟨_, rfl⟩
  obtain ⟨W, hW⟩ : ∃ W, W = W2.alloc (.cells #[.slice none 0 0, .slice none 0 0] 32) := ⟨_, rfl⟩
  have z1 : W1.heap.size = w.heap.size + 1 := by rw [hW1]; simp
  have z2 : W2.heap.size = w.heap.size + 2 := by rw [hW2]; simp [z1]
  have zW : W.heap.size = w.heap.size + 3 := by rw [hW]; simp [z2]
  have B01 : Below w.heap.size w W1 := by rw [hW1]; exact (Below.refl _ _).alloc (Nat.le_refl _) _
  have B12 : Below W1.heap.size W1 W2 := by rw [hW2]; exact (Below.refl _ _).alloc (Nat.le_refl _) _
  have B23 : Below W2.heap.size W2 W := by rw [hW]; exact (Below.refl _ _).alloc (Nat.le_refl _) _
  have bb : W.heap[w.heap.size]? = some (.cells #[.slice (some ⟨g0, 0, none⟩) n0 c0, .slice (some ⟨g1, 0, none⟩) n1 c1] 32 (0, 0)) := blk_below (blk_below (by rw [hW1]; exact heap_alloc_new w _) B12) B23
  have bx : W.heap[w.heap.size + 1]? = some (.cells #[.int .i64 kd, .int .i64 f, .int .i64 t, .int .i64 v] 36 (0, 0)) := blk_below (by rw [hW2, ← z1]; exact heap_alloc_new W1 _) B23
  have br : W.heap[w.heap.size + 2]? = some (.cells #[.slice none 0 0, .slice none 0 0] 32 (0, 0)) := by rw [hW, ← z2]; exact heap_alloc_new W2 _
  have B0 : Below w.heap.size w W := B01.trans ((B12.mono (by omega)).trans (B23.mono (by omega)))
  have hWW : W = ((w.alloc (.cells #[.slice (some ⟨g0, 0, none⟩) n0 c0, .slice (some ⟨g1, 0, none⟩) n1 c1] 32)).alloc (.cells #[.int .i64 kd, .int .i64 f, .int .i64 t, .int .i64 v] 36)).alloc (.cells #[.slice none 0 0, .slice none 0 0] 32) := by rw [hW, hW2, hW1]
  clear B01 B12 B23 hW hW1 hW2 z1 z2 W1 W2
  have HUP := Hid.mk h.up
  obtain ⟨lo', hlo'⟩ : ∃ l : Nat → Prop, l = fun b => lo b ∧ ¬ (w.heap.size ≤ b ∧ b < w.heap.size + 3) := ⟨_, rfl⟩
  have HLE : Hid (∀ b, lo' b → lo b) := Hid.mk (fun b hb => by rw [hlo'] at hb; exact hb.1)
  have HNN : Hid (∀ b, w.heap.size ≤ b → b < w.heap.size + 3 → ¬ lo' b) := Hid.mk (fun b hb hb2 h2 => by rw [hlo'] at h2; exact h2.2 ⟨hb, hb2⟩)
  have hW0 : SV W lo' g0 n0 c0 g1 n1 c1 ps ws cells0 cells1 G := by
    rw [hlo']
    exact h.shunX (X := fun b => w.heap.size ≤ b ∧ b < w.heap.size + 3) (fun b hb => by omega) B0
  have l0 : lo' g0 ∧ g0 < w.heap.size := ⟨hW0.l0.1, h.l0.2⟩
  have l1 : lo' g1 ∧ g1 < w.heap.size := ⟨hW0.l1.1, h.l1.2⟩
  have HS0 := Hid.mk hW0
  have HB := Hid.mk (show Off lo w W from Off.below B0)
  have HZW := Hid.mk zW
  have HL0 : Hid (ps.length = n0) := Hid.mk h.pr.len
  have HL1 : Hid (ws.length = n1) := Hid.mk h.wi.len
  have q0 := blk_cell bb 0 (v := .slice (some ⟨g0, 0, none⟩) n0 c0) rfl
  have q1 := blk_cell bb 1 (v := .slice (some ⟨g1, 0, none⟩) n1 c1) rfl
  have x0 := blk_cell bx 0 (v := .int .i64 kd) rfl
  have x1 := blk_cell bx 1 (v := .int .i64 f) rfl
  have x2 := blk_cell bx 2 (v := .int .i64 t) rfl
  have x3 := blk_cell bx 3 (v := .int .i64 v) rfl
  clear h hW0 hlo' zW B0
  go_enter Try.func31, Try.ntmps31
  go_upto_region 1 with fail
  rw [← hWW]
  clear hWW
  by_cases hneg : f < 0
  · clear hf
    go_upto_region 3 with fail
    have p0 := blk_cell bb 0 (v := .slice (some ⟨g0, 0, none⟩) n0 c0) rfl
    have p1 := blk_cell bb 1 (v := .slice (some ⟨g1, 0, none⟩) n1 c1) rfl
    have y0 := blk_cell br 0 (v := .slice none 0 0) rfl
    have y1 := blk_cell br 1 (v := .slice none 0 0) rfl
    have fz0 := blk_frozen br 0
    have fz1 := blk_frozen br 1
    obtain ⟨Y, hY⟩ : ∃ u, u = (W.setCell ⟨w.heap.size + 2, 0, none⟩ (.slice (some ⟨g0, 0, none⟩) n0 c0)).setCell ⟨w.heap.size + 2, 1, none⟩ (.slice (some ⟨g1, 0, none⟩) n1 c1) := ⟨_, rfl⟩
    have S : Off (fun b => b = w.heap.size + 2) W Y := by rw [hY]; exact (Off.set (F := fun b => b = w.heap.size + 2) (a := ⟨w.heap.size + 2, 0, none⟩) rfl _).trans (Off.set (F := fun b => b = w.heap.size + 2) (a := ⟨w.heap.size + 2, 1, none⟩) rfl _)
    have RR : Hid (Off lo w Y) := Hid.mk
      (HB.out.trans (S.mono (fun b h => by have h2 : b = w.heap.size + 2 := h; exact HUP.out b (by omega))))
    have HY := Hid.mk hY
    clear S hY
    go_wp2
    refine bodyPost_ret (v := .tuple #[.agg #[.slice (some ⟨g0, 0, none⟩) n0 c0, .slice (some ⟨g1, 0, none⟩) n1 c1], .bool false]) (by simp [results, Try.results31, go_sem, y0, y1]) rfl ?_
    have h := RR.out
    rw [HY.out] at h
    exact ⟨rfl, h⟩
  · have hge : (n0 : Int) ≤ f := by omega
    clear hf
    go_upto_region 3 with fail
    have p0 := blk_cell bb 0 (v := .slice (some ⟨g0, 0, none⟩) n0 c0) rfl
    have p1 := blk_cell bb 1 (v := .slice (some ⟨g1, 0, none⟩) n1 c1) rfl
    have y0 := blk_cell br 0 (v := .slice none 0 0) rfl
    have y1 := blk_cell br 1 (v := .slice none 0 0) rfl
    have fz0 := blk_frozen br 0
    have fz1 := blk_frozen br 1
    obtain ⟨Y, hY⟩ : ∃ u, u = (W.setCell ⟨w.heap.size + 2, 0, none⟩ (.slice (some ⟨g0, 0, none⟩) n0 c0)).setCell ⟨w.heap.size + 2, 1, none⟩ (.slice (some ⟨g1, 0, none⟩) n1 c1) := ⟨_, rfl⟩
    have S : Off (fun b => b = w.heap.size + 2) W Y := by rw [hY]; exact (Off.set (F := fun b => b = w.heap.size + 2) (a := ⟨w.heap.size + 2, 0, none⟩) rfl _).trans (Off.set (F := fun b => b = w.heap.size + 2) (a := ⟨w.heap.size + 2, 1, none⟩) rfl _)
    have RR : Hid (Off lo w Y) := Hid.mk
      (HB.out.trans (S.mono (fun b h => by have h2 : b = w.heap.size + 2 := h; exact HUP.out b (by omega))))
    have HY := Hid.mk hY
    clear S hY
    go_wp2
    refine bodyPost_ret (v := .tuple #[.agg #[.slice (some ⟨g0, 0, none⟩) n0 c0, .slice (some ⟨g1, 0, none⟩) n1 c1], .bool false]) (by simp [results, Try.results31, go_sem, y0, y1]) rfl ?_
    have h := RR.out
    rw [HY.out] at h
    exact ⟨rfl, h⟩

set_option maxRecDepth 100000 in
set_option maxHeartbeats 8000000 in
theorem l15Step_bad2 (lo : Nat → Prop) (g0 n0 c0 g1 n1 c1 : Nat) (F : Nat) (kd t : Int) (v : Int) (ps : List TProc) (ws : List TWire) (cells0 cells1 : List Value) (G : Nat → Nat → Prop) (w : World) (hF : F < n0) (hk : kd ≠ 3) (ht : t < 0 ∨ (n0 : Int) ≤ t ∨ (F : Int) = t) (h : SV w lo g0 n0 c0 g1 n1 c1 ps ws cells0 cells1 G) :
    Calls Try.prog 31 #[.agg #[.slice (some ⟨g0, 0, none⟩) n0 c0, .slice (some ⟨g1, 0, none⟩) n1 c1], .agg #[.int .i64 kd, .int .i64 F, .int .i64 t, .int .i64 v]] w fun e w' => e = .returned (.tuple #[.agg #[.slice (some ⟨g0, 0, none⟩) n0 c0, .slice (some ⟨g1, 0, none⟩) n1 c1], .bool false]) ∧ Off lo w w' := by
  obtain ⟨W1, hW1⟩ : ∃ W, W = w.alloc (.cells #[.slice (some ⟨g0, 0, none⟩) n0 c0, .slice (some ⟨g1, 0, none⟩) n1 c1] 32) := ⟨_, rfl⟩
  obtain ⟨W2, hW2⟩ : ∃ W, W = W1.alloc (.cells #[.int .i64 kd, .int .i64 F, .int .i64 t, .int .i64 v] 36) := ⟨_, rfl⟩
  obtain ⟨W, hW⟩ : ∃ W, W = W2.alloc (.cells #[.slice none 0 0, .slice none 0 0] 32) := ⟨_, rfl⟩
  have z1 : W1.heap.size = w.heap.size + 1 := by rw [hW1]; simp
  have z2 : W2.heap.size = w.heap.size + 2 := by rw [hW2]; simp [z1]
  have zW : W.heap.size = w.heap.size + 3 := by rw [hW]; simp [z2]
  have B01 : Below w.heap.size w W1 := by rw [hW1]; exact (Below.refl _ _).alloc (Nat.le_refl _) _
  have B12 : Below W1.heap.size W1 W2 := by rw [hW2]; exact (Below.refl _ _).alloc (Nat.le_refl _) _
  have B23 : Below W2.heap.size W2 W := by rw [hW]; exact (Below.refl _ _).alloc (Nat.le_refl _) _
  have bb : W.heap[w.heap.size]? = some (.cells #[.slice (some ⟨g0, 0, none⟩) n0 c0, .slice (some ⟨g1, 0, none⟩) n1 c1] 32 (0, 0)) := blk_below (blk_below (by rw [hW1]; exact heap_alloc_new w _) B12) B23
  have bx : W.heap[w.heap.size + 1]? = some (.cells #[.int .i64 kd, .int .i64 F, .int .i64 t, .int .i64 v] 36 (0, 0)) := blk_below (by rw [hW2, ← z1]; exact heap_alloc_new W1 _) B23
  have br : W.heap[w.heap.size + 2]? = some (.cells #[.slice none 0 0, .slice none 0 0] 32 (0, 0)) := by rw [hW, ← z2]; exact heap_alloc_new W2 _
  have B0 : Below w.heap.size w W := B01.trans ((B12.mono (by omega)).trans (B23.mono (by omega)))
  have hWW : W = ((w.alloc (.cells #[.slice (some ⟨g0, 0, none⟩) n0 c0, .slice (some ⟨g1, 0, none⟩) n1 c1] 32)).alloc (.cells #[.int .i64 kd, .int .i64 F, .int .i64 t, .int .i64 v] 36)).alloc (.cells #[.slice none 0 0, .slice none 0 0] 32) := by rw [hW, hW2, hW1]
  clear B01 B12 B23 hW hW1 hW2 z1 z2 W1 W2
  have HUP := Hid.mk h.up
  obtain ⟨lo', hlo'⟩ : ∃ l : Nat → Prop, l = fun b => lo b ∧ ¬ (w.heap.size ≤ b ∧ b < w.heap.size + 3) := ⟨_, rfl⟩
  have HLE : Hid (∀ b, lo' b → lo b) := Hid.mk (fun b hb => by rw [hlo'] at hb; exact hb.1)
  have HNN : Hid (∀ b, w.heap.size ≤ b → b < w.heap.size + 3 → ¬ lo' b) := Hid.mk (fun b hb hb2 h2 => by rw [hlo'] at h2; exact h2.2 ⟨hb, hb2⟩)
  have hW0 : SV W lo' g0 n0 c0 g1 n1 c1 ps ws cells0 cells1 G := by
    rw [hlo']
    exact h.shunX (X := fun b => w.heap.size ≤ b ∧ b < w.heap.size + 3) (fun b hb => by omega) B0
  have l0 : lo' g0 ∧ g0 < w.heap.size := ⟨hW0.l0.1, h.l0.2⟩
  have l1 : lo' g1 ∧ g1 < w.heap.size := ⟨hW0.l1.1, h.l1.2⟩
  have HS0 := Hid.mk hW0
  have HB := Hid.mk (show Off lo w W from Off.below B0)
  have HZW := Hid.mk zW
  have HL0 : Hid (ps.length = n0) := Hid.mk h.pr.len
  have HL1 : Hid (ws.length = n1) := Hid.mk h.wi.len
  have q0 := blk_cell bb 0 (v := .slice (some ⟨g0, 0, none⟩) n0 c0) rfl
  have q1 := blk_cell bb 1 (v := .slice (some ⟨g1, 0, none⟩) n1 c1) rfl
  have x0 := blk_cell bx 0 (v := .int .i64 kd) rfl
  have x1 := blk_cell bx 1 (v := .int .i64 F) rfl
  have x2 := blk_cell bx 2 (v := .int .i64 t) rfl
  have x3 := blk_cell bx 3 (v := .int .i64 v) rfl
  clear h hW0 hlo' zW B0
  go_enter Try.func31, Try.ntmps31
  go_upto_region 1 with fail
  rw [← hWW]
  clear hWW
  have hF0 : ¬ (F : Int) < 0 := by omega
  have hFn : ¬ (n0 : Int) ≤ (F : Int) := by omega
  have hk3 : ((kd : Int) == 3) = false := beq_eq_false_iff_ne.2 hk
  clear hk
  by_cases hneg : t < 0
  · clear ht
    go_upto_region 9 with fail
    have p0 := blk_cell bb 0 (v := .slice (some ⟨g0, 0, none⟩) n0 c0) rfl
    have p1 := blk_cell bb 1 (v := .slice (some ⟨g1, 0, none⟩) n1 c1) rfl
    have y0 := blk_cell br 0 (v := .slice none 0 0) rfl
    have y1 := blk_cell br 1 (v := .slice none 0 0) rfl
    have fz0 := blk_frozen br 0
    have fz1 := blk_frozen br 1
    obtain ⟨Y, hY⟩ : ∃ u, u = (W.setCell ⟨w.heap.size + 2, 0, none⟩ (.slice (some ⟨g0, 0, none⟩) n0 c0)).setCell ⟨w.heap.size + 2, 1, none⟩ (.slice (some ⟨g1, 0, none⟩) n1 c1) := ⟨_, rfl⟩
    have S : Off (fun b => b = w.heap.size + 2) W Y := by rw [hY]; exact (Off.set (F := fun b => b = w.heap.size + 2) (a := ⟨w.heap.size + 2, 0, none⟩) rfl _).trans (Off.set (F := fun b => b = w.heap.size + 2) (a := ⟨w.heap.size + 2, 1, none⟩) rfl _)
    have RR : Hid (Off lo w Y) := Hid.mk
      (HB.out.trans (S.mono (fun b h => by have h2 : b = w.heap.size + 2 := h; exact HUP.out b (by omega))))
    have HY := Hid.mk hY
    clear S hY
    go_wp2
    refine bodyPost_ret (v := .tuple #[.agg #[.slice (some ⟨g0, 0, none⟩) n0 c0, .slice (some ⟨g1, 0, none⟩) n1 c1], .bool false]) (by simp [results, Try.results31, go_sem, y0, y1]) rfl ?_
    have h := RR.out
    rw [HY.out] at h
    exact ⟨rfl, h⟩
  · by_cases hge : (n0 : Int) ≤ t
    · clear ht
      go_upto_region 9 with fail
      have p0 := blk_cell bb 0 (v := .slice (some ⟨g0, 0, none⟩) n0 c0) rfl
      have p1 := blk_cell bb 1 (v := .slice (some ⟨g1, 0, none⟩) n1 c1) rfl
      have y0 := blk_cell br 0 (v := .slice none 0 0) rfl
      have y1 := blk_cell br 1 (v := .slice none 0 0) rfl
      have fz0 := blk_frozen br 0
      have fz1 := blk_frozen br 1
      obtain ⟨Y, hY⟩ : ∃ u, u = (W.setCell ⟨w.heap.size + 2, 0, none⟩ (.slice (some ⟨g0, 0, none⟩) n0 c0)).setCell ⟨w.heap.size + 2, 1, none⟩ (.slice (some ⟨g1, 0, none⟩) n1 c1) := ⟨_, rfl⟩
      have S : Off (fun b => b = w.heap.size + 2) W Y := by rw [hY]; exact (Off.set (F := fun b => b = w.heap.size + 2) (a := ⟨w.heap.size + 2, 0, none⟩) rfl _).trans (Off.set (F := fun b => b = w.heap.size + 2) (a := ⟨w.heap.size + 2, 1, none⟩) rfl _)
      have RR : Hid (Off lo w Y) := Hid.mk
        (HB.out.trans (S.mono (fun b h => by have h2 : b = w.heap.size + 2 := h; exact HUP.out b (by omega))))
      have HY := Hid.mk hY
      clear S hY
      go_wp2
      refine bodyPost_ret (v := .tuple #[.agg #[.slice (some ⟨g0, 0, none⟩) n0 c0, .slice (some ⟨g1, 0, none⟩) n1 c1], .bool false]) (by simp [results, Try.results31, go_sem, y0, y1]) rfl ?_
      have h := RR.out
      rw [HY.out] at h
      exact ⟨rfl, h⟩
    · have hFT : ((F : Int) == t) = true := beq_iff_eq.2 (by omega)
      clear ht
      go_upto_region 9 with fail
      have p0 := blk_cell bb 0 (v := .slice (some ⟨g0, 0, none⟩) n0 c0) rfl
      have p1 := blk_cell bb 1 (v := .slice (some ⟨g1, 0, none⟩) n1 c1) rfl
      have y0 := blk_cell br 0 (v := .slice none 0 0) rfl
      have y1 := blk_cell br 1 (v := .slice none 0 0) rfl
      have fz0 := blk_frozen br 0
      have fz1 := blk_frozen br 1
      obtain ⟨Y, hY⟩ : ∃ u, u = (W.setCell ⟨w.heap.size + 2, 0, none⟩ (.slice (some ⟨g0, 0, none⟩) n0 c0)).setCell ⟨w.heap.size + 2, 1, none⟩ (.slice (some ⟨g1, 0, none⟩) n1 c1) := ⟨_, rfl⟩
      have S : Off (fun b => b = w.heap.size + 2) W Y := by rw [hY]; exact (Off.set (F := fun b => b = w.heap.size + 2) (a := ⟨w.heap.size + 2, 0, none⟩) rfl _).trans (Off.set (F := fun b => b = w.heap.size + 2) (a := ⟨w.heap.size + 2, 1, none⟩) rfl _)
      have RR : Hid (Off lo w Y) := Hid.mk
        (HB.out.trans (S.mono (fun b h => by have h2 : b = w.heap.size + 2 := h; exact HUP.out b (by omega))))
      have HY := Hid.mk hY
      clear S hY
      go_wp2
      refine bodyPost_ret (v := .tuple #[.agg #[.slice (some ⟨g0, 0, none⟩) n0 c0, .slice (some ⟨g1, 0, none⟩) n1 c1], .bool false]) (by simp [results, Try.results31, go_sem, y0, y1]) rfl ?_
      have h := RR.out
      rw [HY.out] at h
      exact ⟨rfl, h⟩

set_option maxRecDepth 100000 in
set_option maxHeartbeats 8000000 in
theorem l15Step_bad3 (lo : Nat → Prop) (g0 n0 c0 g1 n1 c1 : Nat) (F T : Nat) (kd : Int) (v : Int) (ps : List TProc) (ws : List TWire) (cells0 cells1 : List Value) (G : Nat → Nat → Prop) (w : World) (hn : n0 ≤ 4) (h1 : n1 = n0 * n0) (hF : F < n0) (hT : T < n0) (hne : F ≠ T) (y : TWire) (hy : ws[F * n0 + T]? = some y) (k1 : kd ≠ 1) (k2 : kd ≠ 2) (k3 : kd ≠ 3) (h : SV w lo g0 n0 c0 g1 n1 c1 ps ws cells0 cells1 G) :
    Calls Try.prog 31 #[.agg #[.slice (some ⟨g0, 0, none⟩) n0 c0, .slice (some ⟨g1, 0, none⟩) n1 c1], .agg #[.int .i64 kd, .int .i64 F, .int .i64 T, .int .i64 v]] w fun e w' => e = .returned (.tuple #[.agg #[.slice (some ⟨g0, 0, none⟩) n0 c0, .slice (some ⟨g1, 0, none⟩) n1 c1], .bool false]) ∧ Off lo w w' := by
  obtain ⟨W1, hW1⟩ : ∃ W, W = w.alloc (.cells #[.slice (some ⟨g0, 0, none⟩) n0 c0, .slice (some ⟨g1, 0, none⟩) n1 c1] 32) := ⟨_, rfl⟩
  obtain ⟨W2, hW2⟩ : ∃ W, W = W1.alloc (.cells #[.int .i64 kd, .int .i64 F, .int .i64 T, .int .i64 v] 36) := ⟨_, rfl⟩
  obtain ⟨W, hW⟩ : ∃ W, W = W2.alloc (.cells #[.slice none 0 0, .slice none 0 0] 32) := ⟨_, rfl⟩
  have z1 : W1.heap.size = w.heap.size + 1 := by rw [hW1]; simp
  have z2 : W2.heap.size = w.heap.size + 2 := by rw [hW2]; simp [z1]
  have zW : W.heap.size = w.heap.size + 3 := by rw [hW]; simp [z2]
  have B01 : Below w.heap.size w W1 := by rw [hW1]; exact (Below.refl _ _).alloc (Nat.le_refl _) _
  have B12 : Below W1.heap.size W1 W2 := by rw [hW2]; exact (Below.refl _ _).alloc (Nat.le_refl _) _
  have B23 : Below W2.heap.size W2 W := by rw [hW]; exact (Below.refl _ _).alloc (Nat.le_refl _) _
  have bb : W.heap[w.heap.size]? = some (.cells #[.slice (some ⟨g0, 0, none⟩) n0 c0, .slice (some ⟨g1, 0, none⟩) n1 c1] 32 (0, 0)) := blk_below (blk_below (by rw [hW1]; exact heap_alloc_new w _) B12) B23
  have bx : W.heap[w.heap.size + 1]? = some (.cells #[.int .i64 kd, .int .i64 F, .int .i64 T, .int .i64 v] 36 (0, 0)) := blk_below (by rw [hW2, ← z1]; exact heap_alloc_new W1 _) B23
  have br : W.heap[w.heap.size + 2]? = some (.cells #[.slice none 0 0, .slice none 0 0] 32 (0, 0)) := by rw [hW, ← z2]; exact heap_alloc_new W2 _
  have B0 : Below w.heap.size w W := B01.trans ((B12.mono (by omega)).trans (B23.mono (by omega)))
  have hWW : W = ((w.alloc (.cells #[.slice (some ⟨g0, 0, none⟩) n0 c0, .slice (some ⟨g1, 0, none⟩) n1 c1] 32)).alloc (.cells #[.int .i64 kd, .int .i64 F, .int .i64 T, .int .i64 v] 36)).alloc (.cells #[.slice none 0 0, .slice none 0 0] 32) := by rw [hW, hW2, hW1]
  clear B01 B12 B23 hW hW1 hW2 z1 z2 W1 W2
  have HUP := Hid.mk h.up
  obtain ⟨lo', hlo'⟩ : ∃ l : Nat → Prop, l = fun b => lo b ∧ ¬ (w.heap.size ≤ b ∧ b < w.heap.size + 3) := ⟨_, rfl⟩
  have HLE : Hid (∀ b, lo' b → lo b) := Hid.mk (fun b hb => by rw [hlo'] at hb; exact hb.1)
  have HNN : Hid (∀ b, w.heap.size ≤ b → b < w.heap.size + 3 → ¬ lo' b) := Hid.mk (fun b hb hb2 h2 => by rw [hlo'] at h2; exact h2.2 ⟨hb, hb2⟩)
  have hW0 : SV W lo' g0 n0 c0 g1 n1 c1 ps ws cells0 cells1 G := by
    rw [hlo']
    exact h.shunX (X := fun b => w.heap.size ≤ b ∧ b < w.heap.size + 3) (fun b hb => by omega) B0
  have l0 : lo' g0 ∧ g0 < w.heap.size := ⟨hW0.l0.1, h.l0.2⟩
  have l1 : lo' g1 ∧ g1 < w.heap.size := ⟨hW0.l1.1, h.l1.2⟩
  have HS0 := Hid.mk hW0
  have HB := Hid.mk (show Off lo w W from Off.below B0)
  have HZW := Hid.mk zW
  have HL0 : Hid (ps.length = n0) := Hid.mk h.pr.len
  have HL1 : Hid (ws.length = n1) := Hid.mk h.wi.len
  have q0 := blk_cell bb 0 (v := .slice (some ⟨g0, 0, none⟩) n0 c0) rfl
  have q1 := blk_cell bb 1 (v := .slice (some ⟨g1, 0, none⟩) n1 c1) rfl
  have x0 := blk_cell bx 0 (v := .int .i64 kd) rfl
  have x1 := blk_cell bx 1 (v := .int .i64 F) rfl
  have x2 := blk_cell bx 2 (v := .int .i64 T) rfl
  have x3 := blk_cell bx 3 (v := .int .i64 v) rfl
  clear h hW0 hlo' zW B0
  have HN1 := Hid.mk h1
  clear h1
  go_enter Try.func31, Try.ntmps31
  go_upto_region 1 with fail
  rw [← hWW]
  clear hWW
  have j1 : ((kd : Int) == 1) = false := beq_eq_false_iff_ne.2 k1
  have j2 : ((kd : Int) == 2) = false := beq_eq_false_iff_ne.2 k2
  have j3 : ((kd : Int) == 3) = false := beq_eq_false_iff_ne.2 k3
  clear k1 k2 k3
  have hF0 : ¬ (F : Int) < 0 := by omega
  have hFn : ¬ (n0 : Int) ≤ (F : Int) := by omega
  have hT0 : ¬ (T : Int) < 0 := by omega
  have hTn : ¬ (n0 : Int) ≤ (T : Int) := by omega
  have hFT : ((F : Int) == (T : Int)) = false := beq_eq_false_iff_ne.2 (by omega)
  have hN16 : n1 ≤ 16 := by rw [HN1.out]; exact Nat.mul_le_mul hn hn
  have hBk : F * n0 + T < n1 := by rw [HN1.out]; exact idx_lt hF hT
  obtain ⟨KN, hKN⟩ : ∃ A, F * n0 = A := ⟨_, rfl⟩
  rw [hKN] at hBk hy
  have v1 : IntKind.i64.wrap ((F : Int) * (n0 : Int)) = (KN : Int) := by rw [← Int.natCast_mul, hKN]; exact IntWalk.i64_in _ (by omega)
  obtain ⟨B, hB⟩ : ∃ B, KN + T = B := ⟨_, rfl⟩
  have v3 : IntKind.i64.wrap ((KN : Int) + (T : Int)) = (B : Int) := (IntWalk.i64_in _ (by omega)).trans (by omega)
  rw [hB] at hBk hy
  have hBi : (B : Int) < (n1 : Int) := by omega
  obtain ⟨ya, yr, yo⟩ := y
  obtain ⟨e0, f0, e1, f1, F0, F1, _, hsub, y0, y1, y2, o0, o1, ff0, ff1, dd⟩ := HS0.out.wire hy
  have HYY := Hid.mk hy
  have HOW := Hid.mk (RInts.own_iff.1 o0).2.2.1
  have HOR := Hid.mk (RInts.own_iff.1 o1).2.2.1
  have HATW := Hid.mk (At.owned (RInts.own_iff.1 o0).2.2.1)
  have HNIL := Hid.mk (fun (hh : e0 = none) => (RInts.at_iff.1 (RInts.toAt o0)).2.2.2 hh)
  have HY0 := Hid.mk y0
  have HY1 := Hid.mk y1
  obtain ⟨PW, hPW⟩ : ∃ P, W.heap.size = P := ⟨_, rfl⟩
  obtain ⟨X, hX⟩ : ∃ u, u = W.alloc (.cells #[.slice e0 ya.length f0, .slice e1 yr.length f1, .bool yo] 76) := ⟨_, rfl⟩
  have bX : Below W.heap.size W X := by rw [hX]; exact (Below.refl _ _).alloc (Nat.le_refl _) _
  have bw : X.heap[PW]? = some (.cells #[.slice e0 ya.length f0, .slice e1 yr.length f1, .bool yo] 76 (0, 0)) := by rw [hX, ← hPW]; exact heap_alloc_new W _
  have zX : PW < X.heap.size := by rw [hX, ← hPW]; simp
  have bb := blk_below bb bX
  have bx := blk_below bx bX
  have br := blk_below br bX
  have HBX := Hid.mk (HB.out.trans (Off.below bX))
  obtain ⟨lo2, hlo2⟩ : ∃ l : Nat → Prop, l = fun b => lo' b ∧ ¬ b = PW := ⟨_, rfl⟩
  have HLE2 : Hid (∀ b, lo2 b → lo b) := Hid.mk (fun b hb => by rw [hlo2] at hb; exact HLE.out b hb.1)
  have HNN2 : Hid (∀ b, w.heap.size ≤ b → b < w.heap.size + 3 → ¬ lo2 b) := Hid.mk (fun b hb hb2 h2 => by rw [hlo2] at h2; exact HNN.out b hb hb2 h2.1)
  have HNW : Hid (¬ lo2 PW) := Hid.mk (fun h2 => by rw [hlo2] at h2; exact h2.2 rfl)
  have HSX : Hid (SV X lo2 g0 n0 c0 g1 n1 c1 ps ws cells0 cells1 G) := Hid.mk (by rw [hlo2]; exact HS0.out.shunX (X := fun b => b = PW) (fun b hb => by have h2 : b = PW := hb; omega) bX)
  have hPg : g0 ≠ PW ∧ g1 ≠ PW := ⟨by have := HZW.out; omega, by have := HZW.out; omega⟩
  have hPw : w.heap.size + 3 ≤ PW := by have := HZW.out; omega
  have HBXX := Hid.mk bX
  clear HS0 HB hlo2 hKN hy bX o0 o1 hsub
  go_upto_region 12 with fail
  rw [← hX]
  clear hX
  (try rw [hPW])
  have HPW := Hid.mk hPW
  clear hPW y0 y1 y2 q0 q1 x0 x1 x2 x3
  have q0 := blk_cell bb 0 (v := .slice (some ⟨g0, 0, none⟩) n0 c0) rfl
  have q1 := blk_cell bb 1 (v := .slice (some ⟨g1, 0, none⟩) n1 c1) rfl
  have x0 := blk_cell bx 0 (v := .int .i64 kd) rfl
  have x1 := blk_cell bx 1 (v := .int .i64 F) rfl
  have x2 := blk_cell bx 2 (v := .int .i64 T) rfl
  have x3 := blk_cell bx 3 (v := .int .i64 v) rfl
  have u0 := blk_cell bw 0 (v := .slice e0 ya.length f0) rfl
  have u1 := blk_cell bw 1 (v := .slice e1 yr.length f1) rfl
  have u2 := blk_cell bw 2 (v := .bool yo) rfl
  go_upto_region 33 with fail
  clear q0 q1 x0 x1 x2 x3 u0 u1 u2
  have p0 := blk_cell bb 0 (v := .slice (some ⟨g0, 0, none⟩) n0 c0) rfl
  have p1 := blk_cell bb 1 (v := .slice (some ⟨g1, 0, none⟩) n1 c1) rfl
  have y0 := blk_cell br 0 (v := .slice none 0 0) rfl
  have y1 := blk_cell br 1 (v := .slice none 0 0) rfl
  have fz0 := blk_frozen br 0
  have fz1 := blk_frozen br 1
  obtain ⟨Y, hY⟩ : ∃ u, u = (X.setCell ⟨w.heap.size + 2, 0, none⟩ (.slice (some ⟨g0, 0, none⟩) n0 c0)).setCell ⟨w.heap.size + 2, 1, none⟩ (.slice (some ⟨g1, 0, none⟩) n1 c1) := ⟨_, rfl⟩
  have S : Off (fun b => b = w.heap.size + 2) X Y := by rw [hY]; exact (Off.set (F := fun b => b = w.heap.size + 2) (a := ⟨w.heap.size + 2, 0, none⟩) rfl _).trans (Off.set (F := fun b => b = w.heap.size + 2) (a := ⟨w.heap.size + 2, 1, none⟩) rfl _)
  have RR : Hid (Off lo w Y) := Hid.mk
    (HBX.out.trans (S.mono (fun b h => by have h2 : b = w.heap.size + 2 := h; exact HUP.out b (by omega))))
  have HY := Hid.mk hY
  clear S hY
  go_wp2
  refine bodyPost_ret (v := .tuple #[.agg #[.slice (some ⟨g0, 0, none⟩) n0 c0, .slice (some ⟨g1, 0, none⟩) n1 c1], .bool false]) (by simp [results, Try.results31, go_sem, y0, y1]) rfl ?_
  have h := RR.out
  rw [HY.out] at h
  exact ⟨rfl, h⟩

set_option maxRecDepth 100000 in
set_option maxHeartbeats 8000000 in
theorem l15Step_start_no (lo : Nat → Prop) (g0 n0 c0 g1 n1 c1 : Nat) (F : Nat) (t : Int) (v : Int) (ps : List TProc) (ws : List TWire) (cells0 cells1 : List Value) (G : Nat → Nat → Prop) (w : World) (hF : F < n0) (a b : Int) (hp : ps[F]? = some (a, b, true)) (h : SV w lo g0 n0 c0 g1 n1 c1 ps ws cells0 cells1 G) :
    Calls Try.prog 31 #[.agg #[.slice (some ⟨g0, 0, none⟩) n0 c0, .slice (some ⟨g1, 0, none⟩) n1 c1], .agg #[.int .i64 3, .int .i64 F, .int .i64 t, .int .i64 v]] w fun e w' => e = .returned (.tuple #[.agg #[.slice (some ⟨g0, 0, none⟩) n0 c0, .slice (some ⟨g1, 0, none⟩) n1 c1], .bool false]) ∧ Off lo w w' := by
  obtain ⟨W1, hW1⟩ : ∃ W, W = w.alloc (.cells #[.slice (some ⟨g0, 0, none⟩) n0 c0, .slice (some ⟨g1, 0, none⟩) n1 c1] 32) := ⟨_, rfl⟩
  obtain ⟨W2, hW2⟩ : ∃ W, W = W1.alloc (.cells #[.int .i64 3, .int .i64 F, .int .i64 t, .int .i64 v] 36) := ⟨_, rfl⟩
  obtain ⟨W, hW⟩ : ∃ W, W = W2.alloc (.cells #[.slice none 0 0, .slice none 0 0] 32) := ⟨_, rfl⟩
  have z1 : W1.heap.size = w.heap.size + 1 := by rw [hW1]; simp
  have z2 : W2.heap.size = w.heap.size + 2 := by rw [hW2]; simp [z1]
  have zW : W.heap.size = w.heap.size + 3 := by rw [hW]; simp [z2]
  have B01 : Below w.heap.size w W1 := by rw [hW1]; exact (Below.refl _ _).alloc (Nat.le_refl _) _
  have B12 : Below W1.heap.size W1 W2 := by rw [hW2]; exact (Below.refl _ _).alloc (Nat.le_refl _) _
  have B23 : Below W2.heap.size W2 W := by rw [hW]; exact (Below.refl _ _).alloc (Nat.le_refl _) _
  have bb : W.heap[w.heap.size]? = some (.cells #[.slice (some ⟨g0, 0, none⟩) n0 c0, .slice (some ⟨g1, 0, none⟩) n1 c1] 32 (0, 0)) := blk_below (blk_below (by rw [hW1]; exact heap_alloc_new w _) B12) B23
  have bx : W.heap[w.heap.size + 1]? = some (.cells #[.int .i64 3, .int .i64 F, .int .i64 t, .int .i64 v] 36 (0, 0)) := blk_below (by rw [hW2, ← z1]; exact heap_alloc_new W1 _) B23
  have br : W.heap[w.heap.size + 2]? = some (.cells #[.slice none 0 0, .slice none 0 0] 32 (0, 0)) := by rw [hW, ← z2]; exact heap_alloc_new W2 _
  have B0 : Below w.heap.size w W := B01.trans ((B12.mono (by omega)).trans (B23.mono (by omega)))
  have hWW : W = ((w.alloc (.cells #[.slice (some ⟨g0, 0, none⟩) n0 c0, .slice (some ⟨g1, 0, none⟩) n1 c1] 32)).alloc (.cells #[.int .i64 3, .int .i64 F, .int .i64 t, .int .i64 v] 36)).alloc (.cells #[.slice none 0 0, .slice none 0 0] 32) := by rw [hW, hW2, hW1]
  clear B01 B12 B23 hW hW1 hW2 z1 z2 W1 W2
  have HUP := Hid.mk h.up
  obtain ⟨lo', hlo'⟩ : ∃ l : Nat → Prop, l = fun b => lo b ∧ ¬ (w.heap.size ≤ b ∧ b < w.heap.size + 3) := ⟨_, rfl⟩
  have HLE : Hid (∀ b, lo' b → lo b) := Hid.mk (fun b hb => by rw [hlo'] at hb; exact hb.1)
  have HNN : Hid (∀ b, w.heap.size ≤ b → b < w.heap.size + 3 → ¬ lo' b) := Hid.mk (fun b hb hb2 h2 => by rw [hlo'] at h2; exact h2.2 ⟨hb, hb2⟩)
  have hW0 : SV W lo' g0 n0 c0 g1 n1 c1 ps ws cells0 cells1 G := by
    rw [hlo']
    exact h.shunX (X := fun b => w.heap.size ≤ b ∧ b < w.heap.size + 3) (fun b hb => by omega) B0
  have l0 : lo' g0 ∧ g0 < w.heap.size := ⟨hW0.l0.1, h.l0.2⟩
  have l1 : lo' g1 ∧ g1 < w.heap.size := ⟨hW0.l1.1, h.l1.2⟩
  have HS0 := Hid.mk hW0
  have HB := Hid.mk (show Off lo w W from Off.below B0)
  have HZW := Hid.mk zW
  have HL0 : Hid (ps.length = n0) := Hid.mk h.pr.len
  have HL1 : Hid (ws.length = n1) := Hid.mk h.wi.len
  have q0 := blk_cell bb 0 (v := .slice (some ⟨g0, 0, none⟩) n0 c0) rfl
  have q1 := blk_cell bb 1 (v := .slice (some ⟨g1, 0, none⟩) n1 c1) rfl
  have x0 := blk_cell bx 0 (v := .int .i64 3) rfl
  have x1 := blk_cell bx 1 (v := .int .i64 F) rfl
  have x2 := blk_cell bx 2 (v := .int .i64 t) rfl
  have x3 := blk_cell bx 3 (v := .int .i64 v) rfl
  clear h hW0 hlo' zW B0
  go_enter Try.func31, Try.ntmps31
  go_upto_region 1 with fail
  rw [← hWW]
  clear hWW
  have hF0 : ¬ (F : Int) < 0 := by omega
  have hFn : ¬ (n0 : Int) ≤ (F : Int) := by omega
  obtain ⟨_, _, _, _, r2⟩ := HS0.out.proc hp
  have hFi : (F : Int) < (n0 : Int) := by omega
  clear hp
  go_upto_region 6 with fail
  clear r2
  have p0 := blk_cell bb 0 (v := .slice (some ⟨g0, 0, none⟩) n0 c0) rfl
  have p1 := blk_cell bb 1 (v := .slice (some ⟨g1, 0, none⟩) n1 c1) rfl
  have y0 := blk_cell br 0 (v := .slice none 0 0) rfl
  have y1 := blk_cell br 1 (v := .slice none 0 0) rfl
  have fz0 := blk_frozen br 0
  have fz1 := blk_frozen br 1
  obtain ⟨Y, hY⟩ : ∃ u, u = (W.setCell ⟨w.heap.size + 2, 0, none⟩ (.slice (some ⟨g0, 0, none⟩) n0 c0)).setCell ⟨w.heap.size + 2, 1, none⟩ (.slice (some ⟨g1, 0, none⟩) n1 c1) := ⟨_, rfl⟩
  have S : Off (fun b => b = w.heap.size + 2) W Y := by rw [hY]; exact (Off.set (F := fun b => b = w.heap.size + 2) (a := ⟨w.heap.size + 2, 0, none⟩) rfl _).trans (Off.set (F := fun b => b = w.heap.size + 2) (a := ⟨w.heap.size + 2, 1, none⟩) rfl _)
  have RR : Hid (Off lo w Y) := Hid.mk
    (HB.out.trans (S.mono (fun b h => by have h2 : b = w.heap.size + 2 := h; exact HUP.out b (by omega))))
  have HY := Hid.mk hY
  clear S hY
  go_wp2
  refine bodyPost_ret (v := .tuple #[.agg #[.slice (some ⟨g0, 0, none⟩) n0 c0, .slice (some ⟨g1, 0, none⟩) n1 c1], .bool false]) (by simp [results, Try.results31, go_sem, y0, y1]) rfl ?_
  have h := RR.out
  rw [HY.out] at h
  exact ⟨rfl, h⟩

set_option maxRecDepth 100000 in
set_option maxHeartbeats 8000000 in
theorem l15Step_start_yes (lo : Nat → Prop) (g0 n0 c0 g1 n1 c1 : Nat) (F : Nat) (t : Int) (v : Int) (ps : List TProc) (ws : List TWire) (cells0 cells1 : List Value) (G : Nat → Nat → Prop) (w : World) (hn : n0 ≤ 4) (h1 : n1 = n0 * n0) (hF : F < n0) (a b : Int) (hp : ps[F]? = some (a, b, false)) (hf : Few ws) (h : SV w lo g0 n0 c0 g1 n1 c1 ps ws cells0 cells1 G) :
    Calls Try.prog 31 #[.agg #[.slice (some ⟨g0, 0, none⟩) n0 c0, .slice (some ⟨g1, 0, none⟩) n1 c1], .agg #[.int .i64 3, .int .i64 F, .int .i64 t, .int .i64 v]] w fun e w' => e = .returned (.tuple #[.agg #[.slice (some ⟨g0, 0, none⟩) n0 c0, .slice (some ⟨g1, 0, none⟩) n1 c1], .bool (svM n0 F (-1) n0 0 ws).1]) ∧ Off lo w w' ∧ ((svM n0 F (-1) n0 0 ws).1 = true → ∃ cells0 cells1 G, SV w' lo g0 n0 c0 g1 n1 c1 (ps.set F (a, a, true)) (svM n0 F (-1) n0 0 ws).2 cells0 cells1 G) := by
  obtain ⟨OK, hOK⟩ : ∃ x, (svM n0 F (-1) n0 0 ws).1 = x := ⟨_, rfl⟩
  obtain ⟨WS, hWS⟩ : ∃ x, (svM n0 F (-1) n0 0 ws).2 = x := ⟨_, rfl⟩
  obtain ⟨W1, hW1⟩ : ∃ W, W = w.alloc (.cells #[.slice (some ⟨g0, 0, none⟩) n0 c0, .slice (some ⟨g1, 0, none⟩) n1 c1] 32) := ⟨_, rfl⟩
  obtain ⟨W2, hW2⟩ : ∃ W, W = W1.alloc (.cells #[.int .i64 3, .int .i64 F, .int .i64 t, .int .i64 v] 36) := ⟨_, rfl⟩
  obtain ⟨W, hW⟩ : ∃ W, W = W2.alloc (.cells #[.slice none 0 0, .slice none 0 0] 32) := ⟨_, rfl⟩
  have z1 : W1.heap.size = w.heap.size + 1 := by rw [hW1]; simp
  have z2 : W2.heap.size = w.heap.size + 2 := by rw [hW2]; simp [z1]
  have zW : W.heap.size = w.heap.size + 3 := by rw [hW]; simp [z2]
  have B01 : Below w.heap.size w W1 := by rw [hW1]; exact (Below.refl _ _).alloc (Nat.le_refl _) _
  have B12 : Below W1.heap.size W1 W2 := by rw [hW2]; exact (Below.refl _ _).alloc (Nat.le_refl _) _
  have B23 : Below W2.heap.size W2 W := by rw [hW]; exact (Below.refl _ _).alloc (Nat.le_refl _) _
  have bb : W.heap[w.heap.size]? = some (.cells #[.slice (some ⟨g0, 0, none⟩) n0 c0, .slice (some ⟨g1, 0, none⟩) n1 c1] 32 (0, 0)) := blk_below (blk_below (by rw [hW1]; exact heap_alloc_new w _) B12) B23
  have bx : W.heap[w.heap.size + 1]? = some (.cells #[.int .i64 3, .int .i64 F, .int .i64 t, .int .i64 v] 36 (0, 0)) := blk_below (by rw [hW2, ← z1]; exact heap_alloc_new W1 _) B23
  have br : W.heap[w.heap.size + 2]? = some (.cells #[.slice none 0 0, .slice none 0 0] 32 (0, 0)) := by rw [hW, ← z2]; exact heap_alloc_new W2 _
  have B0 : Below w.heap.size w W := B01.trans ((B12.mono (by omega)).trans (B23.mono (by omega)))
  have hWW : W = ((w.alloc (.cells #[.slice (some ⟨g0, 0, none⟩) n0 c0, .slice (some ⟨g1, 0, none⟩) n1 c1] 32)).alloc (.cells #[.int .i64 3, .int .i64 F, .int .i64 t, .int .i64 v] 36)).alloc (.cells #[.slice none 0 0, .slice none 0 0] 32) := by rw [hW, hW2, hW1]
  clear B01 B12 B23 hW hW1 hW2 z1 z2 W1 W2
  have HUP := Hid.mk h.up
  obtain ⟨lo', hlo'⟩ : ∃ l : Nat → Prop, l = fun b => lo b ∧ ¬ (w.heap.size ≤ b ∧ b < w.heap.size + 3) := ⟨_, rfl⟩
  have HLE : Hid (∀ b, lo' b → lo b) := Hid.mk (fun b hb => by rw [hlo'] at hb; exact hb.1)
  have HNN : Hid (∀ b, w.heap.size ≤ b → b < w.heap.size + 3 → ¬ lo' b) := Hid.mk (fun b hb hb2 h2 => by rw [hlo'] at h2; exact h2.2 ⟨hb, hb2⟩)
  have hW0 : SV W lo' g0 n0 c0 g1 n1 c1 ps ws cells0 cells1 G := by
    rw [hlo']
    exact h.shunX (X := fun b => w.heap.size ≤ b ∧ b < w.heap.size + 3) (fun b hb => by omega) B0
  have l0 : lo' g0 ∧ g0 < w.heap.size := ⟨hW0.l0.1, h.l0.2⟩
  have l1 : lo' g1 ∧ g1 < w.heap.size := ⟨hW0.l1.1, h.l1.2⟩
  have HS0 := Hid.mk hW0
  have HB := Hid.mk (show Off lo w W from Off.below B0)
  have HZW := Hid.mk zW
  have HL0 : Hid (ps.length = n0) := Hid.mk h.pr.len
  have HL1 : Hid (ws.length = n1) := Hid.mk h.wi.len
  have q0 := blk_cell bb 0 (v := .slice (some ⟨g0, 0, none⟩) n0 c0) rfl
  have q1 := blk_cell bb 1 (v := .slice (some ⟨g1, 0, none⟩) n1 c1) rfl
  have x0 := blk_cell bx 0 (v := .int .i64 3) rfl
  have x1 := blk_cell bx 1 (v := .int .i64 F) rfl
  have x2 := blk_cell bx 2 (v := .int .i64 t) rfl
  have x3 := blk_cell bx 3 (v := .int .i64 v) rfl
  clear h hW0 hlo' zW B0
  have HN1 := Hid.mk h1
  clear h1
  go_enter Try.func31, Try.ntmps31
  go_upto_region 1 with fail
  rw [← hWW]
  clear hWW
  have hF0 : ¬ (F : Int) < 0 := by omega
  have hFn : ¬ (n0 : Int) ≤ (F : Int) := by omega
  obtain ⟨_, _, _, _, r2⟩ := HS0.out.proc hp
  have hFi : (F : Int) < (n0 : Int) := by omega
  have KS := Hid.mk (l15Save_any lo' g0 n0 c0 g1 n1 c1 F (-1) ps ws cells0 cells1 G W (a, b, false) hn HN1.out hF hp hf HS0.out)
  rw [hOK, hWS] at KS
  have HOK := Hid.mk hOK
  have HWS := Hid.mk hWS
  clear hp hf hOK hWS
  go_wp2_with fail
  refine KS.out.mono ?_
  rintro e w3 ⟨rfl, hb3, hsv3⟩
  have br := (hb3.block (w.heap.size + 2) (by have := HZW.out; omega) (HNN.out _ (by omega) (by omega))).trans br
  have HB3 := Hid.mk (HB.out.trans (hb3.mono HLE.out))
  have HSV3 := Hid.mk hsv3
  clear KS hsv3 hb3 q0 q1 x0 x1 x2 x3 r2 bb bx
  have y0 := blk_cell br 0 (v := .slice none 0 0) rfl
  have y1 := blk_cell br 1 (v := .slice none 0 0) rfl
  have fz0 := blk_frozen br 0
  have fz1 := blk_frozen br 1
  obtain ⟨Y, hY⟩ : ∃ u, u = (w3.setCell ⟨w.heap.size + 2, 0, none⟩ (.slice (some ⟨g0, 0, none⟩) n0 c0)).setCell ⟨w.heap.size + 2, 1, none⟩ (.slice (some ⟨g1, 0, none⟩) n1 c1) := ⟨_, rfl⟩
  have S : Off (fun b => b = w.heap.size + 2) w3 Y := by rw [hY]; exact (Off.set (F := fun b => b = w.heap.size + 2) (a := ⟨w.heap.size + 2, 0, none⟩) rfl _).trans (Off.set (F := fun b => b = w.heap.size + 2) (a := ⟨w.heap.size + 2, 1, none⟩) rfl _)
  have RR : Hid (Off lo w Y ∧ (OK = true → ∃ cells0 cells1 G, SV Y lo g0 n0 c0 g1 n1 c1 (ps.set F (a, a, true)) WS cells0 cells1 G)) := Hid.mk
    ⟨HB3.out.trans (S.mono (fun b h => by have h2 : b = w.heap.size + 2 := h; exact HUP.out b (by omega))), fun hok => by
      obtain ⟨ca, cb, G', hs⟩ := HSV3.out hok
      exact ⟨ca, cb, G', (hs.frame (fun b hb hl => S.block b hl (fun e => by have h2 : b = w.heap.size + 2 := e; exact HNN.out b (by omega) (by omega) hb)) S.size).mono HLE.out⟩⟩
  have HY := Hid.mk hY
  clear S hY
  go_wp2
  refine bodyPost_ret (v := .tuple #[.agg #[.slice (some ⟨g0, 0, none⟩) n0 c0, .slice (some ⟨g1, 0, none⟩) n1 c1], .bool OK]) (by simp [results, Try.results31, go_sem, y0, y1]) rfl ?_
  have h := RR.out
  rw [HY.out] at h
  rw [HOK.out, HWS.out]
  exact ⟨rfl, h.1, h.2⟩

end Go.Proofs.Ytnfdncofobkjhaa
