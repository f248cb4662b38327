/- The model's l15Step: send. -/
import Derived.Test.YtnfdncofobkjhaaM16
import Derived.Test.YtnfdncofobkjhaaM5
namespace Go.Proofs.Ytnfdncofobkjhaa
open Go.RowKit

set_option maxRecDepth 100000 in
set_option maxHeartbeats 8000000 in
theorem l15Step_send_no1 (lo : Nat → Prop) (g0 n0 c0 g1 n1 c1 : Nat) (F T : Nat) (v : Int) (ps : List TProc) (ws : List TWire) (cells0 cells1 : List Value) (G : Nat → Nat → Prop) (w : World) (hn : n0 ≤ 4) (h1 : n1 = n0 * n0) (hF : F < n0) (hT : T < n0) (hne : F ≠ T) (y : TWire) (hy : ws[F * n0 + T]? = some y) (z0 z1 : Int) (zb : Bool) (hp : ps[F]? = some (z0, z1, zb)) (ha1 : (decide (1 ≤ v) && decide (v ≤ z0)) = false) (h : SV w lo g0 n0 c0 g1 n1 c1 ps ws cells0 cells1 G) :
    Calls Try.prog 31 #[.agg #[.slice (some ⟨g0, 0, none⟩) n0 c0, .slice (some ⟨g1, 0, none⟩) n1 c1], .agg #[.int .i64 1, .int .i64 F, .int .i64 T, .int .i64 v]] w fun e w' => e = .returned (.tuple #[.agg #[.slice (some ⟨g0, 0, none⟩) n0 c0, .slice (some ⟨g1, 0, none⟩) n1 c1], .bool false]) ∧ Off lo w w' := by
  obtain ⟨i0, hi0, hx0, hx1, hx2⟩ := info_parts Try.infoInt
  obtain ⟨W1, hW1⟩ : ∃ W, W = w.alloc (.cells #[.slice (some ⟨g0, 0, none⟩) n0 c0, .slice (some ⟨g1, 0, none⟩) n1 c1] 32) := ⟨_, rfl⟩
  obtain ⟨W2, hW2⟩ : ∃ W, W = W1.alloc (.cells #[.int .i64 1, .int .i64 F, .int .i64 T, .int .i64 v] 36) := ⟨_, rfl⟩
  obtain ⟨W, hW⟩ : ∃ W, W = W2.alloc (.cells #[.slice none 0 0, .slice none 0 0] 32) := ⟨_, rfl⟩
  have z1 : W1.heap.size = w.heap.size + 1 := by rw [hW1]; simp
  have z2 : W2.heap.size = w.heap.size + 2 := by rw [hW2]; simp [z1]
  have zW : W.heap.size = w.heap.size + 3 := by rw [hW]; simp [z2]
  have B01 : Below w.heap.size w W1 := by rw [hW1]; exact (Below.refl _ _).alloc (Nat.le_refl _) _
  have B12 : Below W1.heap.size W1 W2 := by rw [hW2]; exact (Below.refl _ _).alloc (Nat.le_refl _) _
  have B23 : Below W2.heap.size W2 W := by rw [hW]; exact (Below.refl _ _).alloc (Nat.le_refl _) _
  have bb : W.heap[w.heap.size]? = some (.cells #[.slice (some ⟨g0, 0, none⟩) n0 c0, .slice (some ⟨g1, 0, none⟩) n1 c1] 32 (0, 0)) := blk_below (blk_below (by rw [hW1]; exact heap_alloc_new w _) B12) B23
  have bx : W.heap[w.heap.size + 1]? = some (.cells #[.int .i64 1, .int .i64 F, .int .i64 T, .int .i64 v] 36 (0, 0)) := blk_below (by rw [hW2, ← z1]; exact heap_alloc_new W1 _) B23
  have br : W.heap[w.heap.size + 2]? = some (.cells #[.slice none 0 0, .slice none 0 0] 32 (0, 0)) := by rw [hW, ← z2]; exact heap_alloc_new W2 _
  have B0 : Below w.heap.size w W := B01.trans ((B12.mono (by omega)).trans (B23.mono (by omega)))
  have hWW : W = ((w.alloc (.cells #[.slice (some ⟨g0, 0, none⟩) n0 c0, .slice (some ⟨g1, 0, none⟩) n1 c1] 32)).alloc (.cells #[.int .i64 1, .int .i64 F, .int .i64 T, .int .i64 v] 36)).alloc (.cells #[.slice none 0 0, .slice none 0 0] 32) := by rw [hW, hW2, hW1]
  clear B01 B12 B23 hW hW1 hW2 z1 z2 W1 W2
  have HUP := Hid.mk h.up
  obtain ⟨lo', hlo'⟩ : ∃ l : Nat → Prop, l = fun b => lo b ∧ ¬ (w.heap.size ≤ b ∧ b < w.heap.size + 3) := ⟨_, rfl⟩
  have HLE : Hid (∀ b, lo' b → lo b) := Hid.mk (fun b hb => by rw [hlo'] at hb; exact hb.1)
  have HNN : Hid (∀ b, w.heap.size ≤ b → b < w.heap.size + 3 → ¬ lo' b) := Hid.mk (fun b hb hb2 h2 => by rw [hlo'] at h2; exact h2.2 ⟨hb, hb2⟩)
  have hW0 : SV W lo' g0 n0 c0 g1 n1 c1 ps ws cells0 cells1 G := by
    rw [hlo']
    exact h.shunX (X := fun b => w.heap.size ≤ b ∧ b < w.heap.size + 3) (fun b hb => by omega) B0
  have l0 : lo' g0 ∧ g0 < w.heap.size := ⟨hW0.l0.1, h.l0.2⟩
  have l1 : lo' g1 ∧ g1 < w.heap.size := ⟨hW0.l1.1, h.l1.2⟩
  have HS0 := Hid.mk hW0
  have HB := Hid.mk (show Off lo w W from Off.below B0)
  have HZW := Hid.mk zW
  have HL0 : Hid (ps.length = n0) := Hid.mk h.pr.len
  have HL1 : Hid (ws.length = n1) := Hid.mk h.wi.len
  have q0 := blk_cell bb 0 (v := .slice (some ⟨g0, 0, none⟩) n0 c0) rfl
  have q1 := blk_cell bb 1 (v := .slice (some ⟨g1, 0, none⟩) n1 c1) rfl
  have x0 := blk_cell bx 0 (v := .int .i64 1) rfl
  have x1 := blk_cell bx 1 (v := .int .i64 F) rfl
  have x2 := blk_cell bx 2 (v := .int .i64 T) rfl
  have x3 := blk_cell bx 3 (v := .int .i64 v) rfl
  clear h hW0 hlo' zW B0
  have HN1 := Hid.mk h1
  clear h1
  go_enter Try.func31, Try.ntmps31
  go_upto_region 1 with fail
  rw [← hWW]
  clear hWW
  have hF0 : ¬ (F : Int) < 0 := by omega
  have hFn : ¬ (n0 : Int) ≤ (F : Int) := by omega
  have hT0 : ¬ (T : Int) < 0 := by omega
  have hTn : ¬ (n0 : Int) ≤ (T : Int) := by omega
  have hFT : ((F : Int) == (T : Int)) = false := beq_eq_false_iff_ne.2 (by omega)
  have hN16 : n1 ≤ 16 := by rw [HN1.out]; exact Nat.mul_le_mul hn hn
  have hBk : F * n0 + T < n1 := by rw [HN1.out]; exact idx_lt hF hT
  obtain ⟨KN, hKN⟩ : ∃ A, F * n0 = A := ⟨_, rfl⟩
  have hKE : F * n0 + T = KN + T := by rw [hKN]
  rw [hKN] at hBk hy
  have v1 : IntKind.i64.wrap ((F : Int) * (n0 : Int)) = (KN : Int) := by rw [← Int.natCast_mul, hKN]; exact IntWalk.i64_in _ (by omega)
  obtain ⟨B, hB⟩ : ∃ B, KN + T = B := ⟨_, rfl⟩
  have v3 : IntKind.i64.wrap ((KN : Int) + (T : Int)) = (B : Int) := (IntWalk.i64_in _ (by omega)).trans (by omega)
  rw [hB] at hBk hy hKE
  have HKE := Hid.mk hKE
  have hBi : (B : Int) < (n1 : Int) := by omega
  obtain ⟨ya, yr, yo⟩ := y
  obtain ⟨e0, f0, e1, f1, F0, F1, _, hsub, y0, y1, y2, o0, o1, ff0, ff1, dd⟩ := HS0.out.wire hy
  have HYY := Hid.mk hy
  have HOW := Hid.mk (RInts.own_iff.1 o0).2.2.1
  have HOR := Hid.mk (RInts.own_iff.1 o1).2.2.1
  have HATW := Hid.mk (At.owned (RInts.own_iff.1 o0).2.2.1)
  have HNIL := Hid.mk (fun (hh : e0 = none) => (RInts.at_iff.1 (RInts.toAt o0)).2.2.2 hh)
  have HY0 := Hid.mk y0
  have HY1 := Hid.mk y1
  obtain ⟨PW, hPW⟩ : ∃ P, W.heap.size = P := ⟨_, rfl⟩
  obtain ⟨X, hX⟩ : ∃ u, u = W.alloc (.cells #[.slice e0 ya.length f0, .slice e1 yr.length f1, .bool yo] 76) := ⟨_, rfl⟩
  have bX : Below W.heap.size W X := by rw [hX]; exact (Below.refl _ _).alloc (Nat.le_refl _) _
  have bw : X.heap[PW]? = some (.cells #[.slice e0 ya.length f0, .slice e1 yr.length f1, .bool yo] 76 (0, 0)) := by rw [hX, ← hPW]; exact heap_alloc_new W _
  have zX : PW < X.heap.size := by rw [hX, ← hPW]; simp
  have bb := blk_below bb bX
  have bx := blk_below bx bX
  have br := blk_below br bX
  have HBX := Hid.mk (HB.out.trans (Off.below bX))
  obtain ⟨lo2, hlo2⟩ : ∃ l : Nat → Prop, l = fun b => lo' b ∧ ¬ b = PW := ⟨_, rfl⟩
  have HLE2 : Hid (∀ b, lo2 b → lo b) := Hid.mk (fun b hb => by rw [hlo2] at hb; exact HLE.out b hb.1)
  have HNN2 : Hid (∀ b, w.heap.size ≤ b → b < w.heap.size + 3 → ¬ lo2 b) := Hid.mk (fun b hb hb2 h2 => by rw [hlo2] at h2; exact HNN.out b hb hb2 h2.1)
  have HNW : Hid (¬ lo2 PW) := Hid.mk (fun h2 => by rw [hlo2] at h2; exact h2.2 rfl)
  have HSX : Hid (SV X lo2 g0 n0 c0 g1 n1 c1 ps ws cells0 cells1 G) := Hid.mk (by rw [hlo2]; exact HS0.out.shunX (X := fun b => b = PW) (fun b hb => by have h2 : b = PW := hb; omega) bX)
  have hPg : g0 ≠ PW ∧ g1 ≠ PW := ⟨by have := HZW.out; omega, by have := HZW.out; omega⟩
  have hPw : w.heap.size + 3 ≤ PW := by have := HZW.out; omega
  have HBXX := Hid.mk bX
  clear HS0 HB hlo2 hKN hy bX o0 o1 hsub hKE
  go_upto_region 12 with fail
  rw [← hX]
  clear hX
  (try rw [hPW])
  have HPW := Hid.mk hPW
  clear hPW y0 y1 y2 q0 q1 x0 x1 x2 x3
  obtain ⟨_, _, r0, r1, r2⟩ := HSX.out.proc hp
  have hFi : (F : Int) < (n0 : Int) := by omega
  have q0 := blk_cell bb 0 (v := .slice (some ⟨g0, 0, none⟩) n0 c0) rfl
  have q1 := blk_cell bb 1 (v := .slice (some ⟨g1, 0, none⟩) n1 c1) rfl
  have x0 := blk_cell bx 0 (v := .int .i64 1) rfl
  have x1 := blk_cell bx 1 (v := .int .i64 F) rfl
  have x2 := blk_cell bx 2 (v := .int .i64 T) rfl
  have x3 := blk_cell bx 3 (v := .int .i64 v) rfl
  have u0 := blk_cell bw 0 (v := .slice e0 ya.length f0) rfl
  have u1 := blk_cell bw 1 (v := .slice e1 yr.length f1) rfl
  have u2 := blk_cell bw 2 (v := .bool yo) rfl
  have HA1 := Hid.mk ha1
  clear ha1
  go_upto_region 14 with fail
  refine wp_region_held_drew (S := fun w' => Below X.heap.size X w') (by kernel_rfl) ?_ (fun hHeld => ?_)
  · (try dsimp only)
    exact (Below.refl _ _).drew
  refine tk 0 ?_
  refine tk 1 ?_ (hy := fun wS hSw => by (have x3 := cell_later hSw x3; go_simp; (try with_reducible rfl)))
  refine tk 2 ?_
  refine tk 3 ?_ (hy := fun wS hSw => by (have q0 := cell_later hSw q0; go_simp; (try with_reducible rfl)))
  refine tk 4 ?_
  refine tk 5 ?_ (hy := fun wS hSw => by (have x1 := cell_later hSw x1; go_simp; (try with_reducible rfl)))
  refine tk 6 ?_
  refine tk 7 ?_
  refine tk 8 ?_ (hy := fun wS hSw => by (have r0 := cell_later hSw r0; go_simp; (try with_reducible rfl)))
  refine tr 9 (fun K hK => ?_)
  go_simp
  go_at_call 53
  refine (l1In_any v 1 z0 _).mono ?_
  rintro e wd9 ⟨rfl, hw9⟩
  obtain rfl := hw9.symm
  clear hw9
  rw [HA1.out]
  (try go_wp2_with fail)
  refine hK.out _ _ ?_ (fun hHeld' => ?_)
  · (try dsimp only)
    exact hHeld
  clear hK K hHeld
  have hHeld := hHeld'
  clear hHeld'
  (try simp only [Act.put, List.setIfInBounds_toArray, List.set_cons_zero, List.set_cons_succ])
  refine tk 10 ?_
  refine tk 11 ?_
  refine tu 12 ?_
  refine tu 13 ?_
  refine tu 14 ?_
  refine tu 15 ?_
  refine tk 16 ?_
  refine tk 17 ?_
  refine tu 18 ?_
  refine tu 19 ?_
  refine tu 20 ?_
  refine tu 21 ?_
  refine tk 22 ?_
  refine wpAnyH_done (by kernel_rfl) ?_ _
  clear hHeld q0 q1 x0 x1 x2 x3 u0 u1 u2 r0 r1 r2
  obtain ⟨X1, hX1⟩ : ∃ u, u = X.drew := ⟨_, rfl⟩
  have bD : Below X.heap.size X X1 := by rw [hX1]; exact (Below.refl _ _).drew
  rw [← hX1]
  clear hX1
  have bb := blk_below bb bD
  have bx := blk_below bx bD
  have br := blk_below br bD
  have bw := blk_below bw bD
  have HSX := Hid.mk (HSX.out.below bD)
  have HBX := Hid.mk (HBX.out.trans (Off.below bD))
  have HBXX := Hid.mk (HBXX.out.trans (bD.mono HBXX.out.size))
  have zXX1 := bD.size
  clear bD
  go_upto_region 15 with fail
  have p0 := blk_cell bb 0 (v := .slice (some ⟨g0, 0, none⟩) n0 c0) rfl
  have p1 := blk_cell bb 1 (v := .slice (some ⟨g1, 0, none⟩) n1 c1) rfl
  have y0 := blk_cell br 0 (v := .slice none 0 0) rfl
  have y1 := blk_cell br 1 (v := .slice none 0 0) rfl
  have fz0 := blk_frozen br 0
  have fz1 := blk_frozen br 1
  obtain ⟨Y, hY⟩ : ∃ u, u = (X1.setCell ⟨w.heap.size + 2, 0, none⟩ (.slice (some ⟨g0, 0, none⟩) n0 c0)).setCell ⟨w.heap.size + 2, 1, none⟩ (.slice (some ⟨g1, 0, none⟩) n1 c1) := ⟨_, rfl⟩
  have S : Off (fun b => b = w.heap.size + 2) X1 Y := by rw [hY]; exact (Off.set (F := fun b => b = w.heap.size + 2) (a := ⟨w.heap.size + 2, 0, none⟩) rfl _).trans (Off.set (F := fun b => b = w.heap.size + 2) (a := ⟨w.heap.size + 2, 1, none⟩) rfl _)
  have RR : Hid (Off lo w Y) := Hid.mk
    (HBX.out.trans (S.mono (fun b h => by have h2 : b = w.heap.size + 2 := h; exact HUP.out b (by omega))))
  have HY := Hid.mk hY
  clear S hY
  go_wp2
  refine bodyPost_ret (v := .tuple #[.agg #[.slice (some ⟨g0, 0, none⟩) n0 c0, .slice (some ⟨g1, 0, none⟩) n1 c1], .bool false]) (by simp [results, Try.results31, go_sem, y0, y1]) rfl ?_
  have h := RR.out
  rw [HY.out] at h
  exact ⟨rfl, h⟩

set_option maxRecDepth 100000 in
set_option maxHeartbeats 8000000 in
theorem l15Step_send_no2 (lo : Nat → Prop) (g0 n0 c0 g1 n1 c1 : Nat) (F T : Nat) (v : Int) (ps : List TProc) (ws : List TWire) (cells0 cells1 : List Value) (G : Nat → Nat → Prop) (w : World) (hn : n0 ≤ 4) (h1 : n1 = n0 * n0) (hF : F < n0) (hT : T < n0) (hne : F ≠ T) (y : TWire) (hy : ws[F * n0 + T]? = some y) (z0 z1 : Int) (zb : Bool) (hp : ps[F]? = some (z0, z1, zb)) (ha1 : (decide (1 ≤ v) && decide (v ≤ z0)) = true) (ha2 : wdB v = false) (h : SV w lo g0 n0 c0 g1 n1 c1 ps ws cells0 cells1 G) :
    Calls Try.prog 31 #[.agg #[.slice (some ⟨g0, 0, none⟩) n0 c0, .slice (some ⟨g1, 0, none⟩) n1 c1], .agg #[.int .i64 1, .int .i64 F, .int .i64 T, .int .i64 v]] w fun e w' => e = .returned (.tuple #[.agg #[.slice (some ⟨g0, 0, none⟩) n0 c0, .slice (some ⟨g1, 0, none⟩) n1 c1], .bool false]) ∧ Off lo w w' := by
  obtain ⟨i0, hi0, hx0, hx1, hx2⟩ := info_parts Try.infoInt
  obtain ⟨W1, hW1⟩ : ∃ W, W = w.alloc (.cells #[.slice (some ⟨g0, 0, none⟩) n0 c0, .slice (some ⟨g1, 0, none⟩) n1 c1] 32) := ⟨_, rfl⟩
  obtain ⟨W2, hW2⟩ : ∃ W, W = W1.alloc (.cells #[.int .i64 1, .int .i64 F, .int .i64 T, .int .i64 v] 36) := ⟨_, rfl⟩
  obtain ⟨W, hW⟩ : ∃ W, W = W2.alloc (.cells #[.slice none 0 0, .slice none 0 0] 32) := ⟨_, rfl⟩
  have z1 : W1.heap.size = w.heap.size + 1 := by rw [hW1]; simp
  have z2 : W2.heap.size = w.heap.size + 2 := by rw [hW2]; simp [z1]
  have zW : W.heap.size = w.heap.size + 3 := by rw [hW]; simp [z2]
  have B01 : Below w.heap.size w W1 := by rw [hW1]; exact (Below.refl _ _).alloc (Nat.le_refl _) _
  have B12 : Below W1.heap.size W1 W2 := by rw [hW2]; exact (Below.refl _ _).alloc (Nat.le_refl _) _
  have B23 : Below W2.heap.size W2 W := by rw [hW]; exact (Below.refl _ _).alloc (Nat.le_refl _) _
  have bb : W.heap[w.heap.size]? = some (.cells #[.slice (some ⟨g0, 0, none⟩) n0 c0, .slice (some ⟨g1, 0, none⟩) n1 c1] 32 (0, 0)) := blk_below (blk_below (by rw [hW1]; exact heap_alloc_new w _) B12) B23
  have bx : W.heap[w.heap.size + 1]? = some (.cells #[.int .i64 1, .int .i64 F, .int .i64 T, .int .i64 v] 36 (0, 0)) := blk_below (by rw [hW2, ← z1]; exact heap_alloc_new W1 _) B23
  have br : W.heap[w.heap.size + 2]? = some (.cells #[.slice none 0 0, .slice none 0 0] 32 (0, 0)) := by rw [hW, ← z2]; exact heap_alloc_new W2 _
  have B0 : Below w.heap.size w W := B01.trans ((B12.mono (by omega)).trans (B23.mono (by omega)))
  have hWW : W = ((w.alloc (.cells #[.slice (some ⟨g0, 0, none⟩) n0 c0, .slice (some ⟨g1, 0, none⟩) n1 c1] 32)).alloc (.cells #[.int .i64 1, .int .i64 F, .int .i64 T, .int .i64 v] 36)).alloc (.cells #[.slice none 0 0, .slice none 0 0] 32) := by rw [hW, hW2, hW1]
  clear B01 B12 B23 hW hW1 hW2 z1 z2 W1 W2
  have HUP := Hid.mk h.up
  obtain ⟨lo', hlo'⟩ : ∃ l : Nat → Prop, l = fun b => lo b ∧ ¬ (w.heap.size ≤ b ∧ b < w.heap.size + 3) := ⟨_, rfl⟩
  have HLE : Hid (∀ b, lo' b → lo b) := Hid.mk (fun b hb => by rw [hlo'] at hb; exact hb.1)
  have HNN : Hid (∀ b, w.heap.size ≤ b → b < w.heap.size + 3 → ¬ lo' b) := Hid.mk (fun b hb hb2 h2 => by rw [hlo'] at h2; exact h2.2 ⟨hb, hb2⟩)
  have hW0 : SV W lo' g0 n0 c0 g1 n1 c1 ps ws cells0 cells1 G := by
    rw [hlo']
    exact h.shunX (X := fun b => w.heap.size ≤ b ∧ b < w.heap.size + 3) (fun b hb => by omega) B0
  have l0 : lo' g0 ∧ g0 < w.heap.size := ⟨hW0.l0.1, h.l0.2⟩
  have l1 : lo' g1 ∧ g1 < w.heap.size := ⟨hW0.l1.1, h.l1.2⟩
  have HS0 := Hid.mk hW0
  have HB := Hid.mk (show Off lo w W from Off.below B0)
  have HZW := Hid.mk zW
  have HL0 : Hid (ps.length = n0) := Hid.mk h.pr.len
  have HL1 : Hid (ws.length = n1) := Hid.mk h.wi.len
  have q0 := blk_cell bb 0 (v := .slice (some ⟨g0, 0, none⟩) n0 c0) rfl
  have q1 := blk_cell bb 1 (v := .slice (some ⟨g1, 0, none⟩) n1 c1) rfl
  have x0 := blk_cell bx 0 (v := .int .i64 1) rfl
  have x1 := blk_cell bx 1 (v := .int .i64 F) rfl
  have x2 := blk_cell bx 2 (v := .int .i64 T) rfl
  have x3 := blk_cell bx 3 (v := .int .i64 v) rfl
  clear h hW0 hlo' zW B0
  have HN1 := Hid.mk h1
  clear h1
  go_enter Try.func31, Try.ntmps31
  go_upto_region 1 with fail
  rw [← hWW]
  clear hWW
  have hF0 : ¬ (F : Int) < 0 := by omega
  have hFn : ¬ (n0 : Int) ≤ (F : Int) := by omega
  have hT0 : ¬ (T : Int) < 0 := by omega
  have hTn : ¬ (n0 : Int) ≤ (T : Int) := by omega
  have hFT : ((F : Int) == (T : Int)) = false := beq_eq_false_iff_ne.2 (by omega)
  have hN16 : n1 ≤ 16 := by rw [HN1.out]; exact Nat.mul_le_mul hn hn
  have hBk : F * n0 + T < n1 := by rw [HN1.out]; exact idx_lt hF hT
  obtain ⟨KN, hKN⟩ : ∃ A, F * n0 = A := ⟨_, rfl⟩
  have hKE : F * n0 + T = KN + T := by rw [hKN]
  rw [hKN] at hBk hy
  have v1 : IntKind.i64.wrap ((F : Int) * (n0 : Int)) = (KN : Int) := by rw [← Int.natCast_mul, hKN]; exact IntWalk.i64_in _ (by omega)
  obtain ⟨B, hB⟩ : ∃ B, KN + T = B := ⟨_, rfl⟩
  have v3 : IntKind.i64.wrap ((KN : Int) + (T : Int)) = (B : Int) := (IntWalk.i64_in _ (by omega)).trans (by omega)
  rw [hB] at hBk hy hKE
  have HKE := Hid.mk hKE
  have hBi : (B : Int) < (n1 : Int) := by omega
  obtain ⟨ya, yr, yo⟩ := y
  obtain ⟨e0, f0, e1, f1, F0, F1, _, hsub, y0, y1, y2, o0, o1, ff0, ff1, dd⟩ := HS0.out.wire hy
  have HYY := Hid.mk hy
  have HOW := Hid.mk (RInts.own_iff.1 o0).2.2.1
  have HOR := Hid.mk (RInts.own_iff.1 o1).2.2.1
  have HATW := Hid.mk (At.owned (RInts.own_iff.1 o0).2.2.1)
  have HNIL := Hid.mk (fun (hh : e0 = none) => (RInts.at_iff.1 (RInts.toAt o0)).2.2.2 hh)
  have HY0 := Hid.mk y0
  have HY1 := Hid.mk y1
  obtain ⟨PW, hPW⟩ : ∃ P, W.heap.size = P := ⟨_, rfl⟩
  obtain ⟨X, hX⟩ : ∃ u, u = W.alloc (.cells #[.slice e0 ya.length f0, .slice e1 yr.length f1, .bool yo] 76) := ⟨_, rfl⟩
  have bX : Below W.heap.size W X := by rw [hX]; exact (Below.refl _ _).alloc (Nat.le_refl _) _
  have bw : X.heap[PW]? = some (.cells #[.slice e0 ya.length f0, .slice e1 yr.length f1, .bool yo] 76 (0, 0)) := by rw [hX, ← hPW]; exact heap_alloc_new W _
  have zX : PW < X.heap.size := by rw [hX, ← hPW]; simp
  have bb := blk_below bb bX
  have bx := blk_below bx bX
  have br := blk_below br bX
  have HBX := Hid.mk (HB.out.trans (Off.below bX))
  obtain ⟨lo2, hlo2⟩ : ∃ l : Nat → Prop, l = fun b => lo' b ∧ ¬ b = PW := ⟨_, rfl⟩
  have HLE2 : Hid (∀ b, lo2 b → lo b) := Hid.mk (fun b hb => by rw [hlo2] at hb; exact HLE.out b hb.1)
  have HNN2 : Hid (∀ b, w.heap.size ≤ b → b < w.heap.size + 3 → ¬ lo2 b) := Hid.mk (fun b hb hb2 h2 => by rw [hlo2] at h2; exact HNN.out b hb hb2 h2.1)
  have HNW : Hid (¬ lo2 PW) := Hid.mk (fun h2 => by rw [hlo2] at h2; exact h2.2 rfl)
  have HSX : Hid (SV X lo2 g0 n0 c0 g1 n1 c1 ps ws cells0 cells1 G) := Hid.mk (by rw [hlo2]; exact HS0.out.shunX (X := fun b => b = PW) (fun b hb => by have h2 : b = PW := hb; omega) bX)
  have hPg : g0 ≠ PW ∧ g1 ≠ PW := ⟨by have := HZW.out; omega, by have := HZW.out; omega⟩
  have hPw : w.heap.size + 3 ≤ PW := by have := HZW.out; omega
  have HBXX := Hid.mk bX
  clear HS0 HB hlo2 hKN hy bX o0 o1 hsub hKE
  go_upto_region 12 with fail
  rw [← hX]
  clear hX
  (try rw [hPW])
  have HPW := Hid.mk hPW
  clear hPW y0 y1 y2 q0 q1 x0 x1 x2 x3
  obtain ⟨_, _, r0, r1, r2⟩ := HSX.out.proc hp
  have hFi : (F : Int) < (n0 : Int) := by omega
  have q0 := blk_cell bb 0 (v := .slice (some ⟨g0, 0, none⟩) n0 c0) rfl
  have q1 := blk_cell bb 1 (v := .slice (some ⟨g1, 0, none⟩) n1 c1) rfl
  have x0 := blk_cell bx 0 (v := .int .i64 1) rfl
  have x1 := blk_cell bx 1 (v := .int .i64 F) rfl
  have x2 := blk_cell bx 2 (v := .int .i64 T) rfl
  have x3 := blk_cell bx 3 (v := .int .i64 v) rfl
  have u0 := blk_cell bw 0 (v := .slice e0 ya.length f0) rfl
  have u1 := blk_cell bw 1 (v := .slice e1 yr.length f1) rfl
  have u2 := blk_cell bw 2 (v := .bool yo) rfl
  have HA1 := Hid.mk ha1
  have HA2 := Hid.mk ha2
  clear ha1 ha2
  go_upto_region 14 with fail
  refine wp_region_held_drew (S := fun w' => Below X.heap.size X w') (by kernel_rfl) ?_ (fun hHeld => ?_)
  · (try dsimp only)
    exact (Below.refl _ _).drew
  refine tk 0 ?_
  refine tk 1 ?_ (hy := fun wS hSw => by (have x3 := cell_later hSw x3; go_simp; (try with_reducible rfl)))
  refine tk 2 ?_
  refine tk 3 ?_ (hy := fun wS hSw => by (have q0 := cell_later hSw q0; go_simp; (try with_reducible rfl)))
  refine tk 4 ?_
  refine tk 5 ?_ (hy := fun wS hSw => by (have x1 := cell_later hSw x1; go_simp; (try with_reducible rfl)))
  refine tk 6 ?_
  refine tk 7 ?_
  refine tk 8 ?_ (hy := fun wS hSw => by (have r0 := cell_later hSw r0; go_simp; (try with_reducible rfl)))
  refine tr 9 (fun K hK => ?_)
  go_simp
  go_at_call 53
  refine (l1In_any v 1 z0 _).mono ?_
  rintro e wd9 ⟨rfl, hw9⟩
  obtain rfl := hw9.symm
  clear hw9
  rw [HA1.out]
  (try go_wp2_with fail)
  refine hK.out _ _ ?_ (fun hHeld' => ?_)
  · (try dsimp only)
    exact hHeld
  clear hK K hHeld
  have hHeld := hHeld'
  clear hHeld'
  (try simp only [Act.put, List.setIfInBounds_toArray, List.set_cons_zero, List.set_cons_succ])
  refine tk 10 ?_
  refine tk 11 ?_
  refine tk 12 ?_
  refine tk 13 ?_ (hy := fun wS hSw => by (have x3 := cell_later hSw x3; go_simp; (try with_reducible rfl)))
  refine tr 14 (fun K hK => ?_)
  go_simp
  go_at_call 54
  refine (l15Amount_any v _).mono ?_
  rintro e wd14 ⟨rfl, hw14⟩
  obtain rfl := hw14.symm
  clear hw14
  rw [HA2.out]
  (try go_wp2_with fail)
  refine hK.out _ _ ?_ (fun hHeld' => ?_)
  · (try dsimp only)
    exact hHeld
  clear hK K hHeld
  have hHeld := hHeld'
  clear hHeld'
  (try simp only [Act.put, List.setIfInBounds_toArray, List.set_cons_zero, List.set_cons_succ])
  refine tk 15 ?_
  refine tk 16 ?_
  refine tk 17 ?_
  refine tu 18 ?_
  refine tu 19 ?_
  refine tu 20 ?_
  refine tu 21 ?_
  refine tk 22 ?_
  refine wpAnyH_done (by kernel_rfl) ?_ _
  clear hHeld q0 q1 x0 x1 x2 x3 u0 u1 u2 r0 r1 r2
  obtain ⟨X1, hX1⟩ : ∃ u, u = X.drew := ⟨_, rfl⟩
  have bD : Below X.heap.size X X1 := by rw [hX1]; exact (Below.refl _ _).drew
  rw [← hX1]
  clear hX1
  have bb := blk_below bb bD
  have bx := blk_below bx bD
  have br := blk_below br bD
  have bw := blk_below bw bD
  have HSX := Hid.mk (HSX.out.below bD)
  have HBX := Hid.mk (HBX.out.trans (Off.below bD))
  have HBXX := Hid.mk (HBXX.out.trans (bD.mono HBXX.out.size))
  have zXX1 := bD.size
  clear bD
  go_upto_region 15 with fail
  have p0 := blk_cell bb 0 (v := .slice (some ⟨g0, 0, none⟩) n0 c0) rfl
  have p1 := blk_cell bb 1 (v := .slice (some ⟨g1, 0, none⟩) n1 c1) rfl
  have y0 := blk_cell br 0 (v := .slice none 0 0) rfl
  have y1 := blk_cell br 1 (v := .slice none 0 0) rfl
  have fz0 := blk_frozen br 0
  have fz1 := blk_frozen br 1
  obtain ⟨Y, hY⟩ : ∃ u, u = (X1.setCell ⟨w.heap.size + 2, 0, none⟩ (.slice (some ⟨g0, 0, none⟩) n0 c0)).setCell ⟨w.heap.size + 2, 1, none⟩ (.slice (some ⟨g1, 0, none⟩) n1 c1) := ⟨_, rfl⟩
  have S : Off (fun b => b = w.heap.size + 2) X1 Y := by rw [hY]; exact (Off.set (F := fun b => b = w.heap.size + 2) (a := ⟨w.heap.size + 2, 0, none⟩) rfl _).trans (Off.set (F := fun b => b = w.heap.size + 2) (a := ⟨w.heap.size + 2, 1, none⟩) rfl _)
  have RR : Hid (Off lo w Y) := Hid.mk
    (HBX.out.trans (S.mono (fun b h => by have h2 : b = w.heap.size + 2 := h; exact HUP.out b (by omega))))
  have HY := Hid.mk hY
  clear S hY
  go_wp2
  refine bodyPost_ret (v := .tuple #[.agg #[.slice (some ⟨g0, 0, none⟩) n0 c0, .slice (some ⟨g1, 0, none⟩) n1 c1], .bool false]) (by simp [results, Try.results31, go_sem, y0, y1]) rfl ?_
  have h := RR.out
  rw [HY.out] at h
  exact ⟨rfl, h⟩

set_option maxRecDepth 100000 in
set_option maxHeartbeats 8000000 in
theorem l15Step_send_no3 (lo : Nat → Prop) (g0 n0 c0 g1 n1 c1 : Nat) (F T : Nat) (v : Int) (ps : List TProc) (ws : List TWire) (cells0 cells1 : List Value) (G : Nat → Nat → Prop) (w : World) (hn : n0 ≤ 4) (h1 : n1 = n0 * n0) (hF : F < n0) (hT : T < n0) (hne : F ≠ T) (y : TWire) (hy : ws[F * n0 + T]? = some y) (z0 z1 : Int) (zb : Bool) (hp : ps[F]? = some (z0, z1, zb)) (ha1 : (decide (1 ≤ v) && decide (v ≤ z0)) = true) (ha2 : wdB v = true) (hl : y.1.length = 12) (h : SV w lo g0 n0 c0 g1 n1 c1 ps ws cells0 cells1 G) :
    Calls Try.prog 31 #[.agg #[.slice (some ⟨g0, 0, none⟩) n0 c0, .slice (some ⟨g1, 0, none⟩) n1 c1], .agg #[.int .i64 1, .int .i64 F, .int .i64 T, .int .i64 v]] w fun e w' => e = .returned (.tuple #[.agg #[.slice (some ⟨g0, 0, none⟩) n0 c0, .slice (some ⟨g1, 0, none⟩) n1 c1], .bool false]) ∧ Off lo w w' := by
  have HHL := Hid.mk hl
  clear hl
  obtain ⟨i0, hi0, hx0, hx1, hx2⟩ := info_parts Try.infoInt
  obtain ⟨W1, hW1⟩ : ∃ W, W = w.alloc (.cells #[.slice (some ⟨g0, 0, none⟩) n0 c0, .slice (some ⟨g1, 0, none⟩) n1 c1] 32) := ⟨_, rfl⟩
  obtain ⟨W2, hW2⟩ : ∃ W, W = W1.alloc (.cells #[.int .i64 1, .int .i64 F, .int .i64 T, .int .i64 v] 36) := ⟨_, rfl⟩
  obtain ⟨W, hW⟩ : ∃ W, W = W2.alloc (.cells #[.slice none 0 0, .slice none 0 0] 32) := ⟨_, rfl⟩
  have z1 : W1.heap.size = w.heap.size + 1 := by rw [hW1]; simp
  have z2 : W2.heap.size = w.heap.size + 2 := by rw [hW2]; simp [z1]
  have zW : W.heap.size = w.heap.size + 3 := by rw [hW]; simp [z2]
  have B01 : Below w.heap.size w W1 := by rw [hW1]; exact (Below.refl _ _).alloc (Nat.le_refl _) _
  have B12 : Below W1.heap.size W1 W2 := by rw [hW2]; exact (Below.refl _ _).alloc (Nat.le_refl _) _
  have B23 : Below W2.heap.size W2 W := by rw [hW]; exact (Below.refl _ _).alloc (Nat.le_refl _) _
  have bb : W.heap[w.heap.size]? = some (.cells #[.slice (some ⟨g0, 0, none⟩) n0 c0, .slice (some ⟨g1, 0, none⟩) n1 c1] 32 (0, 0)) := blk_below (blk_below (by rw [hW1]; exact heap_alloc_new w _) B12) B23
  have bx : W.heap[w.heap.size + 1]? = some (.cells #[.int .i64 1, .int .i64 F, .int .i64 T, .int .i64 v] 36 (0, 0)) := blk_below (by rw [hW2, ← z1]; exact heap_alloc_new W1 _) B23
  have br : W.heap[w.heap.size + 2]? = some (.cells #[.slice none 0 0, .slice none 0 0] 32 (0, 0)) := by rw [hW, ← z2]; exact heap_alloc_new W2 _
  have B0 : Below w.heap.size w W := B01.trans ((B12.mono (by omega)).trans (B23.mono (by omega)))
  have hWW : W = ((w.alloc (.cells #[.slice (some ⟨g0, 0, none⟩) n0 c0, .slice (some ⟨g1, 0, none⟩) n1 c1] 32)).alloc (.cells #[.int .i64 1, .int .i64 F, .int .i64 T, .int .i64 v] 36)).alloc (.cells #[.slice none 0 0, .slice none 0 0] 32) := by rw [hW, hW2, hW1]
  clear B01 B12 B23 hW hW1 hW2 z1 z2 W1 W2
  have HUP := Hid.mk h.up
  obtain ⟨lo', hlo'⟩ : ∃ l : Nat → Prop, l = fun b => lo b ∧ ¬ (w.heap.size ≤ b ∧ b < w.heap.size + 3) := ⟨_, rfl⟩
  have HLE : Hid (∀ b, lo' b → lo b) := Hid.mk (fun b hb => by rw [hlo'] at hb; exact hb.1)
  have HNN : Hid (∀ b, w.heap.size ≤ b → b < w.heap.size + 3 → ¬ lo' b) := Hid.mk (fun b hb hb2 h2 => by rw [hlo'] at h2; exact h2.2 ⟨hb, hb2⟩)
  have hW0 : SV W lo' g0 n0 c0 g1 n1 c1 ps ws cells0 cells1 G := by
    rw [hlo']
    exact h.shunX (X := fun b => w.heap.size ≤ b ∧ b < w.heap.size + 3) (fun b hb => by omega) B0
  have l0 : lo' g0 ∧ g0 < w.heap.size := ⟨hW0.l0.1, h.l0.2⟩
  have l1 : lo' g1 ∧ g1 < w.heap.size := ⟨hW0.l1.1, h.l1.2⟩
  have HS0 := Hid.mk hW0
  have HB := Hid.mk (show Off lo w W from Off.below B0)
  have HZW := Hid.mk zW
  have HL0 : Hid (ps.length = n0) := Hid.mk h.pr.len
  have HL1 : Hid (ws.length = n1) := Hid.mk h.wi.len
  have q0 := blk_cell bb 0 (v := .slice (some ⟨g0, 0, none⟩) n0 c0) rfl
  have q1 := blk_cell bb 1 (v := .slice (some ⟨g1, 0, none⟩) n1 c1) rfl
  have x0 := blk_cell bx 0 (v := .int .i64 1) rfl
  have x1 := blk_cell bx 1 (v := .int .i64 F) rfl
  have x2 := blk_cell bx 2 (v := .int .i64 T) rfl
  have x3 := blk_cell bx 3 (v := .int .i64 v) rfl
  clear h hW0 hlo' zW B0
  have HN1 := Hid.mk h1
  clear h1
  go_enter Try.func31, Try.ntmps31
  go_upto_region 1 with fail
  rw [← hWW]
  clear hWW
  have hF0 : ¬ (F : Int) < 0 := by omega
  have hFn : ¬ (n0 : Int) ≤ (F : Int) := by omega
  have hT0 : ¬ (T : Int) < 0 := by omega
  have hTn : ¬ (n0 : Int) ≤ (T : Int) := by omega
  have hFT : ((F : Int) == (T : Int)) = false := beq_eq_false_iff_ne.2 (by omega)
  have hN16 : n1 ≤ 16 := by rw [HN1.out]; exact Nat.mul_le_mul hn hn
  have hBk : F * n0 + T < n1 := by rw [HN1.out]; exact idx_lt hF hT
  obtain ⟨KN, hKN⟩ : ∃ A, F * n0 = A := ⟨_, rfl⟩
  have hKE : F * n0 + T = KN + T := by rw [hKN]
  rw [hKN] at hBk hy
  have v1 : IntKind.i64.wrap ((F : Int) * (n0 : Int)) = (KN : Int) := by rw [← Int.natCast_mul, hKN]; exact IntWalk.i64_in _ (by omega)
  obtain ⟨B, hB⟩ : ∃ B, KN + T = B := ⟨_, rfl⟩
  have v3 : IntKind.i64.wrap ((KN : Int) + (T : Int)) = (B : Int) := (IntWalk.i64_in _ (by omega)).trans (by omega)
  rw [hB] at hBk hy hKE
  have HKE := Hid.mk hKE
  have hBi : (B : Int) < (n1 : Int) := by omega
  obtain ⟨ya, yr, yo⟩ := y
  obtain ⟨e0, f0, e1, f1, F0, F1, _, hsub, y0, y1, y2, o0, o1, ff0, ff1, dd⟩ := HS0.out.wire hy
  have HYY := Hid.mk hy
  have HOW := Hid.mk (RInts.own_iff.1 o0).2.2.1
  have HOR := Hid.mk (RInts.own_iff.1 o1).2.2.1
  have HATW := Hid.mk (At.owned (RInts.own_iff.1 o0).2.2.1)
  have HNIL := Hid.mk (fun (hh : e0 = none) => (RInts.at_iff.1 (RInts.toAt o0)).2.2.2 hh)
  have HY0 := Hid.mk y0
  have HY1 := Hid.mk y1
  obtain ⟨PW, hPW⟩ : ∃ P, W.heap.size = P := ⟨_, rfl⟩
  obtain ⟨X, hX⟩ : ∃ u, u = W.alloc (.cells #[.slice e0 ya.length f0, .slice e1 yr.length f1, .bool yo] 76) := ⟨_, rfl⟩
  have bX : Below W.heap.size W X := by rw [hX]; exact (Below.refl _ _).alloc (Nat.le_refl _) _
  have bw : X.heap[PW]? = some (.cells #[.slice e0 ya.length f0, .slice e1 yr.length f1, .bool yo] 76 (0, 0)) := by rw [hX, ← hPW]; exact heap_alloc_new W _
  have zX : PW < X.heap.size := by rw [hX, ← hPW]; simp
  have bb := blk_below bb bX
  have bx := blk_below bx bX
  have br := blk_below br bX
  have HBX := Hid.mk (HB.out.trans (Off.below bX))
  obtain ⟨lo2, hlo2⟩ : ∃ l : Nat → Prop, l = fun b => lo' b ∧ ¬ b = PW := ⟨_, rfl⟩
  have HLE2 : Hid (∀ b, lo2 b → lo b) := Hid.mk (fun b hb => by rw [hlo2] at hb; exact HLE.out b hb.1)
  have HNN2 : Hid (∀ b, w.heap.size ≤ b → b < w.heap.size + 3 → ¬ lo2 b) := Hid.mk (fun b hb hb2 h2 => by rw [hlo2] at h2; exact HNN.out b hb hb2 h2.1)
  have HNW : Hid (¬ lo2 PW) := Hid.mk (fun h2 => by rw [hlo2] at h2; exact h2.2 rfl)
  have HSX : Hid (SV X lo2 g0 n0 c0 g1 n1 c1 ps ws cells0 cells1 G) := Hid.mk (by rw [hlo2]; exact HS0.out.shunX (X := fun b => b = PW) (fun b hb => by have h2 : b = PW := hb; omega) bX)
  have hPg : g0 ≠ PW ∧ g1 ≠ PW := ⟨by have := HZW.out; omega, by have := HZW.out; omega⟩
  have hPw : w.heap.size + 3 ≤ PW := by have := HZW.out; omega
  have HBXX := Hid.mk bX
  clear HS0 HB hlo2 hKN hy bX o0 o1 hsub hKE
  go_upto_region 12 with fail
  rw [← hX]
  clear hX
  (try rw [hPW])
  have HPW := Hid.mk hPW
  clear hPW y0 y1 y2 q0 q1 x0 x1 x2 x3
  obtain ⟨_, _, r0, r1, r2⟩ := HSX.out.proc hp
  have hFi : (F : Int) < (n0 : Int) := by omega
  have q0 := blk_cell bb 0 (v := .slice (some ⟨g0, 0, none⟩) n0 c0) rfl
  have q1 := blk_cell bb 1 (v := .slice (some ⟨g1, 0, none⟩) n1 c1) rfl
  have x0 := blk_cell bx 0 (v := .int .i64 1) rfl
  have x1 := blk_cell bx 1 (v := .int .i64 F) rfl
  have x2 := blk_cell bx 2 (v := .int .i64 T) rfl
  have x3 := blk_cell bx 3 (v := .int .i64 v) rfl
  have u0 := blk_cell bw 0 (v := .slice e0 ya.length f0) rfl
  have u1 := blk_cell bw 1 (v := .slice e1 yr.length f1) rfl
  have u2 := blk_cell bw 2 (v := .bool yo) rfl
  have HA1 := Hid.mk ha1
  have HA2 := Hid.mk ha2
  have hE : ((ya.length : Int) == 12) = true := beq_iff_eq.2 (by have := HHL.out; simp only at this; omega)
  clear ha1 ha2
  go_upto_region 14 with fail
  refine wp_region_held_drew (S := fun w' => Below X.heap.size X w') (by kernel_rfl) ?_ (fun hHeld => ?_)
  · (try dsimp only)
    exact (Below.refl _ _).drew
  refine tk 0 ?_
  refine tk 1 ?_ (hy := fun wS hSw => by (have x3 := cell_later hSw x3; go_simp; (try with_reducible rfl)))
  refine tk 2 ?_
  refine tk 3 ?_ (hy := fun wS hSw => by (have q0 := cell_later hSw q0; go_simp; (try with_reducible rfl)))
  refine tk 4 ?_
  refine tk 5 ?_ (hy := fun wS hSw => by (have x1 := cell_later hSw x1; go_simp; (try with_reducible rfl)))
  refine tk 6 ?_
  refine tk 7 ?_
  refine tk 8 ?_ (hy := fun wS hSw => by (have r0 := cell_later hSw r0; go_simp; (try with_reducible rfl)))
  refine tr 9 (fun K hK => ?_)
  go_simp
  go_at_call 53
  refine (l1In_any v 1 z0 _).mono ?_
  rintro e wd9 ⟨rfl, hw9⟩
  obtain rfl := hw9.symm
  clear hw9
  rw [HA1.out]
  (try go_wp2_with fail)
  refine hK.out _ _ ?_ (fun hHeld' => ?_)
  · (try dsimp only)
    exact hHeld
  clear hK K hHeld
  have hHeld := hHeld'
  clear hHeld'
  (try simp only [Act.put, List.setIfInBounds_toArray, List.set_cons_zero, List.set_cons_succ])
  refine tk 10 ?_
  refine tk 11 ?_
  refine tk 12 ?_
  refine tk 13 ?_ (hy := fun wS hSw => by (have x3 := cell_later hSw x3; go_simp; (try with_reducible rfl)))
  refine tr 14 (fun K hK => ?_)
  go_simp
  go_at_call 54
  refine (l15Amount_any v _).mono ?_
  rintro e wd14 ⟨rfl, hw14⟩
  obtain rfl := hw14.symm
  clear hw14
  rw [HA2.out]
  (try go_wp2_with fail)
  refine hK.out _ _ ?_ (fun hHeld' => ?_)
  · (try dsimp only)
    exact hHeld
  clear hK K hHeld
  have hHeld := hHeld'
  clear hHeld'
  (try simp only [Act.put, List.setIfInBounds_toArray, List.set_cons_zero, List.set_cons_succ])
  refine tk 15 ?_
  refine tk 16 ?_
  refine tk 17 ?_
  refine tk 18 ?_
  refine tk 19 ?_ (hy := fun wS hSw => by (have u0 := cell_later hSw u0; go_simp; (try with_reducible rfl)))
  refine tk 20 ?_
  refine tk 21 ?_
  refine tk 22 ?_
  refine wpAnyH_done (by kernel_rfl) ?_ _
  clear hHeld q0 q1 x0 x1 x2 x3 u0 u1 u2 r0 r1 r2
  obtain ⟨X1, hX1⟩ : ∃ u, u = X.drew := ⟨_, rfl⟩
  have bD : Below X.heap.size X X1 := by rw [hX1]; exact (Below.refl _ _).drew
  rw [← hX1]
  clear hX1
  have bb := blk_below bb bD
  have bx := blk_below bx bD
  have br := blk_below br bD
  have bw := blk_below bw bD
  have HSX := Hid.mk (HSX.out.below bD)
  have HBX := Hid.mk (HBX.out.trans (Off.below bD))
  have HBXX := Hid.mk (HBXX.out.trans (bD.mono HBXX.out.size))
  have zXX1 := bD.size
  clear bD
  go_upto_region 15 with fail
  have p0 := blk_cell bb 0 (v := .slice (some ⟨g0, 0, none⟩) n0 c0) rfl
  have p1 := blk_cell bb 1 (v := .slice (some ⟨g1, 0, none⟩) n1 c1) rfl
  have y0 := blk_cell br 0 (v := .slice none 0 0) rfl
  have y1 := blk_cell br 1 (v := .slice none 0 0) rfl
  have fz0 := blk_frozen br 0
  have fz1 := blk_frozen br 1
  obtain ⟨Y, hY⟩ : ∃ u, u = (X1.setCell ⟨w.heap.size + 2, 0, none⟩ (.slice (some ⟨g0, 0, none⟩) n0 c0)).setCell ⟨w.heap.size + 2, 1, none⟩ (.slice (some ⟨g1, 0, none⟩) n1 c1) := ⟨_, rfl⟩
  have S : Off (fun b => b = w.heap.size + 2) X1 Y := by rw [hY]; exact (Off.set (F := fun b => b = w.heap.size + 2) (a := ⟨w.heap.size + 2, 0, none⟩) rfl _).trans (Off.set (F := fun b => b = w.heap.size + 2) (a := ⟨w.heap.size + 2, 1, none⟩) rfl _)
  have RR : Hid (Off lo w Y) := Hid.mk
    (HBX.out.trans (S.mono (fun b h => by have h2 : b = w.heap.size + 2 := h; exact HUP.out b (by omega))))
  have HY := Hid.mk hY
  clear S hY
  go_wp2
  refine bodyPost_ret (v := .tuple #[.agg #[.slice (some ⟨g0, 0, none⟩) n0 c0, .slice (some ⟨g1, 0, none⟩) n1 c1], .bool false]) (by simp [results, Try.results31, go_sem, y0, y1]) rfl ?_
  have h := RR.out
  rw [HY.out] at h
  exact ⟨rfl, h⟩

set_option maxRecDepth 100000 in
set_option maxHeartbeats 8000000 in
theorem l15Step_send_yes (lo : Nat → Prop) (g0 n0 c0 g1 n1 c1 : Nat) (F T : Nat) (v : Int) (ps : List TProc) (ws : List TWire) (cells0 cells1 : List Value) (G : Nat → Nat → Prop) (w : World) (hn : n0 ≤ 4) (h1 : n1 = n0 * n0) (hF : F < n0) (hT : T < n0) (hne : F ≠ T) (y : TWire) (hy : ws[F * n0 + T]? = some y) (z0 z1 : Int) (zb : Bool) (hp : ps[F]? = some (z0, z1, zb)) (hz0 : z0 ≤ 2000000000) (ha1 : (decide (1 ≤ v) && decide (v ≤ z0)) = true) (ha2 : wdB v = true) (hl : y.1.length < 12) (h : SV w lo g0 n0 c0 g1 n1 c1 ps ws cells0 cells1 G) :
    Calls Try.prog 31 #[.agg #[.slice (some ⟨g0, 0, none⟩) n0 c0, .slice (some ⟨g1, 0, none⟩) n1 c1], .agg #[.int .i64 1, .int .i64 F, .int .i64 T, .int .i64 v]] w fun e w' => e = .returned (.tuple #[.agg #[.slice (some ⟨g0, 0, none⟩) n0 c0, .slice (some ⟨g1, 0, none⟩) n1 c1], .bool true]) ∧ Off lo w w' ∧ ∃ cells0 cells1 G, SV w' lo g0 n0 c0 g1 n1 c1 (ps.set F (z0 - v, z1, zb)) (ws.set (F * n0 + T) (y.1 ++ [v], y.2.1, y.2.2)) cells0 cells1 G := by
  obtain ⟨PS', hPS'⟩ : ∃ K, ps.set F (z0 - v, z1, zb) = K := ⟨_, rfl⟩
  obtain ⟨WS', hWS'⟩ : ∃ K, ws.set (F * n0 + T) (y.1 ++ [v], y.2.1, y.2.2) = K := ⟨_, rfl⟩
  rw [hPS', hWS']
  have HPS' := Hid.mk hPS'
  have HWS' := Hid.mk hWS'
  clear hPS' hWS'
  obtain ⟨i0, hi0, hx0, hx1, hx2⟩ := info_parts Try.infoInt
  obtain ⟨W1, hW1⟩ : ∃ W, W = w.alloc (.cells #[.slice (some ⟨g0, 0, none⟩) n0 c0, .slice (some ⟨g1, 0, none⟩) n1 c1] 32) := ⟨_, rfl⟩
  obtain ⟨W2, hW2⟩ : ∃ W, W = W1.alloc (.cells #[.int .i64 1, .int .i64 F, .int .i64 T, .int .i64 v] 36) := ⟨_, rfl⟩
  obtain ⟨W, hW⟩ : ∃ W, W = W2.alloc (.cells #[.slice none 0 0, .slice none 0 0] 32) := ⟨_, rfl⟩
  have z1 : W1.heap.size = w.heap.size + 1 := by rw [hW1]; simp
  have z2 : W2.heap.size = w.heap.size + 2 := by rw [hW2]; simp [z1]
  have zW : W.heap.size = w.heap.size + 3 := by rw [hW]; simp [z2]
  have B01 : Below w.heap.size w W1 := by rw [hW1]; exact (Below.refl _ _).alloc (Nat.le_refl _) _
  have B12 : Below W1.heap.size W1 W2 := by rw [hW2]; exact (Below.refl _ _).alloc (Nat.le_refl _) _
  have B23 : Below W2.heap.size W2 W := by rw [hW]; exact (Below.refl _ _).alloc (Nat.le_refl _) _
  have bb : W.heap[w.heap.size]? = some (.cells #[.slice (some ⟨g0, 0, none⟩) n0 c0, .slice (some ⟨g1, 0, none⟩) n1 c1] 32 (0, 0)) := blk_below (blk_below (by rw [hW1]; exact heap_alloc_new w _) B12) B23
  have bx : W.heap[w.heap.size + 1]? = some (.cells #[.int .i64 1, .int .i64 F, .int .i64 T, .int .i64 v] 36 (0, 0)) := blk_below (by rw [hW2, ← z1]; exact heap_alloc_new W1 _) B23
  have br : W.heap[w.heap.size + 2]? = some (.cells #[.slice none 0 0, .slice none 0 0] 32 (0, 0)) := by rw [hW, ← z2]; exact heap_alloc_new W2 _
  have B0 : Below w.heap.size w W := B01.trans ((B12.mono (by omega)).trans (B23.mono (by omega)))
  have hWW : W = ((w.alloc (.cells #[.slice (some ⟨g0, 0, none⟩) n0 c0, .slice (some ⟨g1, 0, none⟩) n1 c1] 32)).alloc (.cells #[.int .i64 1, .int .i64 F, .int .i64 T, .int .i64 v] 36)).alloc (.cells #[.slice none 0 0, .slice none 0 0] 32) := by rw [hW, hW2, hW1]
  clear B01 B12 B23 hW hW1 hW2 z1 z2 W1 W2
  have HUP := Hid.mk h.up
  obtain ⟨lo', hlo'⟩ : ∃ l : Nat → Prop, l = fun b => lo b ∧ ¬ (w.heap.size ≤ b ∧ b < w.heap.size + 3) := ⟨_, rfl⟩
  have HLE : Hid (∀ b, lo' b → lo b) := Hid.mk (fun b hb => by rw [hlo'] at hb; exact hb.1)
  have HNN : Hid (∀ b, w.heap.size ≤ b → b < w.heap.size + 3 → ¬ lo' b) := Hid.mk (fun b hb hb2 h2 => by rw [hlo'] at h2; exact h2.2 ⟨hb, hb2⟩)
  have hW0 : SV W lo' g0 n0 c0 g1 n1 c1 ps ws cells0 cells1 G := by
    rw [hlo']
    exact h.shunX (X := fun b => w.heap.size ≤ b ∧ b < w.heap.size + 3) (fun b hb => by omega) B0
  have l0 : lo' g0 ∧ g0 < w.heap.size := ⟨hW0.l0.1, h.l0.2⟩
  have l1 : lo' g1 ∧ g1 < w.heap.size := ⟨hW0.l1.1, h.l1.2⟩
  have HS0 := Hid.mk hW0
  have HB := Hid.mk (show Off lo w W from Off.below B0)
  have HZW := Hid.mk zW
  have HL0 : Hid (ps.length = n0) := Hid.mk h.pr.len
  have HL1 : Hid (ws.length = n1) := Hid.mk h.wi.len
  have q0 := blk_cell bb 0 (v := .slice (some ⟨g0, 0, none⟩) n0 c0) rfl
  have q1 := blk_cell bb 1 (v := .slice (some ⟨g1, 0, none⟩) n1 c1) rfl
  have x0 := blk_cell bx 0 (v := .int .i64 1) rfl
  have x1 := blk_cell bx 1 (v := .int .i64 F) rfl
  have x2 := blk_cell bx 2 (v := .int .i64 T) rfl
  have x3 := blk_cell bx 3 (v := .int .i64 v) rfl
  clear h hW0 hlo' zW B0
  have HN1 := Hid.mk h1
  clear h1
  go_enter Try.func31, Try.ntmps31
  go_upto_region 1 with fail
  rw [← hWW]
  clear hWW
  have hF0 : ¬ (F : Int) < 0 := by omega
  have hFn : ¬ (n0 : Int) ≤ (F : Int) := by omega
  have hT0 : ¬ (T : Int) < 0 := by omega
  have hTn : ¬ (n0 : Int) ≤ (T : Int) := by omega
  have hFT : ((F : Int) == (T : Int)) = false := beq_eq_false_iff_ne.2 (by omega)
  have hN16 : n1 ≤ 16 := by rw [HN1.out]; exact Nat.mul_le_mul hn hn
  have hBk : F * n0 + T < n1 := by rw [HN1.out]; exact idx_lt hF hT
  obtain ⟨KN, hKN⟩ : ∃ A, F * n0 = A := ⟨_, rfl⟩
  have hKE : F * n0 + T = KN + T := by rw [hKN]
  rw [hKN] at hBk hy
  have v1 : IntKind.i64.wrap ((F : Int) * (n0 : Int)) = (KN : Int) := by rw [← Int.natCast_mul, hKN]; exact IntWalk.i64_in _ (by omega)
  obtain ⟨B, hB⟩ : ∃ B, KN + T = B := ⟨_, rfl⟩
  have v3 : IntKind.i64.wrap ((KN : Int) + (T : Int)) = (B : Int) := (IntWalk.i64_in _ (by omega)).trans (by omega)
  rw [hB] at hBk hy hKE
  have HKE := Hid.mk hKE
  have hBi : (B : Int) < (n1 : Int) := by omega
  obtain ⟨ya, yr, yo⟩ := y
  obtain ⟨e0, f0, e1, f1, F0, F1, _, hsub, y0, y1, y2, o0, o1, ff0, ff1, dd⟩ := HS0.out.wire hy
  have HYY := Hid.mk hy
  have HOW := Hid.mk (RInts.own_iff.1 o0).2.2.1
  have HOR := Hid.mk (RInts.own_iff.1 o1).2.2.1
  have HATW := Hid.mk (At.owned (RInts.own_iff.1 o0).2.2.1)
  have HNIL := Hid.mk (fun (hh : e0 = none) => (RInts.at_iff.1 (RInts.toAt o0)).2.2.2 hh)
  have HY0 := Hid.mk y0
  have HY1 := Hid.mk y1
  obtain ⟨PW, hPW⟩ : ∃ P, W.heap.size = P := ⟨_, rfl⟩
  obtain ⟨X, hX⟩ : ∃ u, u = W.alloc (.cells #[.slice e0 ya.length f0, .slice e1 yr.length f1, .bool yo] 76) := ⟨_, rfl⟩
  have bX : Below W.heap.size W X := by rw [hX]; exact (Below.refl _ _).alloc (Nat.le_refl _) _
  have bw : X.heap[PW]? = some (.cells #[.slice e0 ya.length f0, .slice e1 yr.length f1, .bool yo] 76 (0, 0)) := by rw [hX, ← hPW]; exact heap_alloc_new W _
  have zX : PW < X.heap.size := by rw [hX, ← hPW]; simp
  have bb := blk_below bb bX
  have bx := blk_below bx bX
  have br := blk_below br bX
  have HBX := Hid.mk (HB.out.trans (Off.below bX))
  obtain ⟨lo2, hlo2⟩ : ∃ l : Nat → Prop, l = fun b => lo' b ∧ ¬ b = PW := ⟨_, rfl⟩
  have HLE2 : Hid (∀ b, lo2 b → lo b) := Hid.mk (fun b hb => by rw [hlo2] at hb; exact HLE.out b hb.1)
  have HNN2 : Hid (∀ b, w.heap.size ≤ b → b < w.heap.size + 3 → ¬ lo2 b) := Hid.mk (fun b hb hb2 h2 => by rw [hlo2] at h2; exact HNN.out b hb hb2 h2.1)
  have HNW : Hid (¬ lo2 PW) := Hid.mk (fun h2 => by rw [hlo2] at h2; exact h2.2 rfl)
  have HSX : Hid (SV X lo2 g0 n0 c0 g1 n1 c1 ps ws cells0 cells1 G) := Hid.mk (by rw [hlo2]; exact HS0.out.shunX (X := fun b => b = PW) (fun b hb => by have h2 : b = PW := hb; omega) bX)
  have hPg : g0 ≠ PW ∧ g1 ≠ PW := ⟨by have := HZW.out; omega, by have := HZW.out; omega⟩
  have hPw : w.heap.size + 3 ≤ PW := by have := HZW.out; omega
  have HBXX := Hid.mk bX
  clear HS0 HB hlo2 hKN hy bX o0 o1 hsub hKE
  go_upto_region 12 with fail
  rw [← hX]
  clear hX
  (try rw [hPW])
  have HPW := Hid.mk hPW
  clear hPW y0 y1 y2 q0 q1 x0 x1 x2 x3
  obtain ⟨_, _, r0, r1, r2⟩ := HSX.out.proc hp
  have hFi : (F : Int) < (n0 : Int) := by omega
  have q0 := blk_cell bb 0 (v := .slice (some ⟨g0, 0, none⟩) n0 c0) rfl
  have q1 := blk_cell bb 1 (v := .slice (some ⟨g1, 0, none⟩) n1 c1) rfl
  have x0 := blk_cell bx 0 (v := .int .i64 1) rfl
  have x1 := blk_cell bx 1 (v := .int .i64 F) rfl
  have x2 := blk_cell bx 2 (v := .int .i64 T) rfl
  have x3 := blk_cell bx 3 (v := .int .i64 v) rfl
  have u0 := blk_cell bw 0 (v := .slice e0 ya.length f0) rfl
  have u1 := blk_cell bw 1 (v := .slice e1 yr.length f1) rfl
  have u2 := blk_cell bw 2 (v := .bool yo) rfl
  have HA1 := Hid.mk ha1
  have HA2 := Hid.mk ha2
  have hE : ((ya.length : Int) == 12) = false := beq_eq_false_iff_ne.2 (by simp only at hl; omega)
  have hl12 : ya.length < 12 := hl
  have hv0 : 1 ≤ v ∧ v ≤ z0 := by simpa only [Bool.and_eq_true, decide_eq_true_eq] using ha1
  have hws : IntKind.i64.wrap (z0 - v) = z0 - v := IntWalk.i64_in _ (by omega)
  have HWSE : Hid (ws.set B (ya ++ [v], yr, yo) = WS') := Hid.mk (by have q := HWS'.out; rw [HKE.out] at q; exact q)
  have HHP := Hid.mk hp
  have HL1 := Hid.mk (HSX.out.l1.1)
  have HL0' := Hid.mk (HSX.out.l0.1)
  clear ha1 ha2 hl hp
  go_upto_region 14 with fail
  refine wp_region_held_drew (S := fun w' => Below X.heap.size X w') (by kernel_rfl) ?_ (fun hHeld => ?_)
  · (try dsimp only)
    exact (Below.refl _ _).drew
  refine tk 0 ?_
  refine tk 1 ?_ (hy := fun wS hSw => by (have x3 := cell_later hSw x3; go_simp; (try with_reducible rfl)))
  refine tk 2 ?_
  refine tk 3 ?_ (hy := fun wS hSw => by (have q0 := cell_later hSw q0; go_simp; (try with_reducible rfl)))
  refine tk 4 ?_
  refine tk 5 ?_ (hy := fun wS hSw => by (have x1 := cell_later hSw x1; go_simp; (try with_reducible rfl)))
  refine tk 6 ?_
  refine tk 7 ?_
  refine tk 8 ?_ (hy := fun wS hSw => by (have r0 := cell_later hSw r0; go_simp; (try with_reducible rfl)))
  refine tr 9 (fun K hK => ?_)
  go_simp
  go_at_call 53
  refine (l1In_any v 1 z0 _).mono ?_
  rintro e wd9 ⟨rfl, hw9⟩
  obtain rfl := hw9.symm
  clear hw9
  rw [HA1.out]
  (try go_wp2_with fail)
  refine hK.out _ _ ?_ (fun hHeld' => ?_)
  · (try dsimp only)
    exact hHeld
  clear hK K hHeld
  have hHeld := hHeld'
  clear hHeld'
  (try simp only [Act.put, List.setIfInBounds_toArray, List.set_cons_zero, List.set_cons_succ])
  refine tk 10 ?_
  refine tk 11 ?_
  refine tk 12 ?_
  refine tk 13 ?_ (hy := fun wS hSw => by (have x3 := cell_later hSw x3; go_simp; (try with_reducible rfl)))
  refine tr 14 (fun K hK => ?_)
  go_simp
  go_at_call 54
  refine (l15Amount_any v _).mono ?_
  rintro e wd14 ⟨rfl, hw14⟩
  obtain rfl := hw14.symm
  clear hw14
  rw [HA2.out]
  (try go_wp2_with fail)
  refine hK.out _ _ ?_ (fun hHeld' => ?_)
  · (try dsimp only)
    exact hHeld
  clear hK K hHeld
  have hHeld := hHeld'
  clear hHeld'
  (try simp only [Act.put, List.setIfInBounds_toArray, List.set_cons_zero, List.set_cons_succ])
  refine tk 15 ?_
  refine tk 16 ?_
  refine tk 17 ?_
  refine tk 18 ?_
  refine tk 19 ?_ (hy := fun wS hSw => by (have u0 := cell_later hSw u0; go_simp; (try with_reducible rfl)))
  refine tk 20 ?_
  refine tk 21 ?_
  refine tk 22 ?_
  refine wpAnyH_done (by kernel_rfl) ?_ _
  clear hHeld q0 q1 x0 x1 x2 x3 u0 u1 u2 r0 r1 r2
  obtain ⟨X1, hX1⟩ : ∃ u, u = X.drew := ⟨_, rfl⟩
  have bD : Below X.heap.size X X1 := by rw [hX1]; exact (Below.refl _ _).drew
  rw [← hX1]
  clear hX1
  have bb := blk_below bb bD
  have bx := blk_below bx bD
  have br := blk_below br bD
  have bw := blk_below bw bD
  have HSX := Hid.mk (HSX.out.below bD)
  have HBX := Hid.mk (HBX.out.trans (Off.below bD))
  have HBXX := Hid.mk (HBXX.out.trans (bD.mono HBXX.out.size))
  have zXX1 := bD.size
  clear bD
  have q0 := blk_cell bb 0 (v := .slice (some ⟨g0, 0, none⟩) n0 c0) rfl
  have q1 := blk_cell bb 1 (v := .slice (some ⟨g1, 0, none⟩) n1 c1) rfl
  have x0 := blk_cell bx 0 (v := .int .i64 1) rfl
  have x1 := blk_cell bx 1 (v := .int .i64 F) rfl
  have x2 := blk_cell bx 2 (v := .int .i64 T) rfl
  have x3 := blk_cell bx 3 (v := .int .i64 v) rfl
  have u0 := blk_cell bw 0 (v := .slice e0 ya.length f0) rfl
  have u1 := blk_cell bw 1 (v := .slice e1 yr.length f1) rfl
  have u2 := blk_cell bw 2 (v := .bool yo) rfl
  obtain ⟨_, _, r0, r1, r2⟩ := HSX.out.proc HHP.out
  have fr0 := HSX.out.frozen0 (F * 3)
  have zn1 : ¬ w.heap.size = g0 := by omega
  have zn2 : ¬ w.heap.size + 1 = g0 := by omega
  go_upto_region 16 with fail
  refine wp_region_held_drew (S := fun w' => Off (fun b => b = g0) X1 w') (by kernel_rfl) ?_ (fun hHeld => ?_)
  · (try dsimp only)
    exact (Off.refl _ _).drew
  refine tk 0 ?_
  refine tk 1 ?_ (hy := fun wS hSw => by (have q0 := Off.cell hSw q0 (zn1); go_simp; (try with_reducible rfl)))
  refine tk 2 ?_
  refine tk 3 ?_ (hy := fun wS hSw => by (have x1 := Off.cell hSw x1 (zn2); go_simp; (try with_reducible rfl)))
  refine tk 4 ?_
  refine tk 5 ?_
  refine tk 7 ?_
  refine tk 8 ?_ (hy := fun wS hSw => by (have x3 := Off.cell hSw x3 (zn2); go_simp; (try with_reducible rfl)))
  have r0 : X1.drew.cell? ⟨g0, F * 3, none⟩ = some (.int .i64 z0) := r0
  have fr0 : X1.drew.frozen? ⟨g0, F * 3, none⟩ = false := fr0
  refine wpAnyH_ready (rs := [6]) (by kernel_rfl) (by simp) ?_
  refine AllReadyH.cons (o := ?_) ?_ (fun K hK => ?_) AllReadyH.nil
  rotate_left
  · (simp only [List.getElem?_toArray, List.getElem?_cons_zero, List.getElem?_cons_succ]; rfl)
  go_simp
  skip
  (try go_wp2_with fail)
  refine hK.out _ _ ?_ (fun hHeld' => ?_)
  · (try dsimp only)
    exact (Off.refl _ _).drew
  clear hK K hHeld
  have hHeld := hHeld'
  clear hHeld'
  (try simp only [Act.put, List.setIfInBounds_toArray, List.set_cons_zero, List.set_cons_succ])
  refine tk 9 ?_
  refine tk 10 ?_
  refine tk 11 ?_
  refine wpAnyH_ready (rs := [12]) (by kernel_rfl) (by simp) ?_
  refine AllReadyH.cons (o := ?_) ?_ (fun K hK => ?_) AllReadyH.nil
  rotate_left
  · (simp only [List.getElem?_toArray, List.getElem?_cons_zero, List.getElem?_cons_succ]; rfl)
  go_simp
  skip
  (try go_wp2_with fail)
  refine hK.out _ _ ?_ (fun hHeld' => ?_)
  · (try dsimp only)
    exact ((Off.refl _ _).drew).trans (Off.set (F := fun b => b = g0) (a := ⟨g0, F * 3, none⟩) rfl _)
  clear hK K hHeld
  have hHeld := hHeld'
  clear hHeld'
  (try simp only [Act.put, List.setIfInBounds_toArray, List.set_cons_zero, List.set_cons_succ])
  refine wpAnyH_done (by kernel_rfl) ?_ _
  obtain ⟨X2, hX2⟩ : ∃ u, u = (X1.setCell ⟨g0, F * 3, none⟩ (.int .i64 (z0 - v))).drew := ⟨_, rfl⟩
  have HS2 := Hid.mk ((HSX.out.setProc (j := 0) (x' := (z0 - v, z1, zb)) (v := .int .i64 (z0 - v)) HHP.out (by omega) rfl).below (Below.refl _ _).drew)
  rw [show F * 3 + 0 = F * 3 from rfl, ← hX2, HPS'.out] at HS2
  have hO2 : Off (fun b => b = g0) X1 X2 := by rw [hX2]; exact (Off.set (F := fun b => b = g0) (a := ⟨g0, F * 3, none⟩) rfl _).drew
  have bb := (hO2.block w.heap.size (by omega) (by omega)).trans bb
  have bx := (hO2.block (w.heap.size + 1) (by omega) (by omega)).trans bx
  have br := (hO2.block (w.heap.size + 2) (by omega) (by omega)).trans br
  have bw := (hO2.block PW (by omega) (fun e => hPg.1 e.symm)).trans bw
  have HBX := Hid.mk (HBX.out.trans (hO2.mono (F' := lo) (fun b hb => by have h2 : b = g0 := hb; rw [h2]; exact HLE2.out _ HL0'.out)))
  have zX2 := hO2.size
  obtain ⟨cells0, hc0⟩ : ∃ c, c = sets cells0 (F * 3) [.int .i64 (z0 - v), .int .i64 z1, .bool zb] := ⟨_, rfl⟩
  have HSX : Hid (SV X2 lo2 g0 n0 c0 g1 n1 c1 PS' ws cells0 cells1 G) := Hid.mk (by rw [hc0]; exact HS2.out)
  have HY2 := Hid.mk (hO2.cell (cell_later HBXX.out HY0.out) (fun e => HSX.out.ne (Eq.symm e)))
  rw [← hX2]
  clear hX2 HS2 hO2 hc0 hHeld r0 r1 r2 fr0 q0 q1 x0 x1 x2 x3 u0 u1 u2
  have q0 := blk_cell bb 0 (v := .slice (some ⟨g0, 0, none⟩) n0 c0) rfl
  have q1 := blk_cell bb 1 (v := .slice (some ⟨g1, 0, none⟩) n1 c1) rfl
  have x0 := blk_cell bx 0 (v := .int .i64 1) rfl
  have x1 := blk_cell bx 1 (v := .int .i64 F) rfl
  have x2 := blk_cell bx 2 (v := .int .i64 T) rfl
  have x3 := blk_cell bx 3 (v := .int .i64 v) rfl
  have u0 := blk_cell bw 0 (v := .slice e0 ya.length f0) rfl
  have u1 := blk_cell bw 1 (v := .slice e1 yr.length f1) rfl
  have u2 := blk_cell bw 2 (v := .bool yo) rfl
  have HYC := Hid.mk HYY.out
  obtain ⟨ea, fa, eb, fb, _, _, _, _, ca, _, _, oo, _⟩ := HSX.out.wire HYY.out
  have HOXX : Hid (X2.ownsRow 0 3 1 (.slice ea ya.length fa) ya.length (ya.map (.int .i64))) := Hid.mk (RInts.own_iff.1 oo).2.2.1
  have hcc : (.slice ea ya.length fa : Value) = .slice e0 ya.length f0 := Option.some.inj (ca.symm.trans HY2.out)
  simp only [Value.slice.injEq, true_and] at hcc
  obtain ⟨rfl, rfl⟩ := hcc
  have HYCELL := Hid.mk ca
  have zn1 := HNN2.out w.heap.size (by omega) (by omega)
  have zn2 := HNN2.out (w.heap.size + 1) (by omega) (by omega)
  have zn3 := HNW.out
  clear oo ca
  go_upto_region 17 with fail
  refine wp_region_held_drew (S := fun w' => Off lo2 X2 w') (by kernel_rfl) ?_ (fun hHeld => ?_)
  · (try dsimp only)
    exact (Off.refl _ _).drew
  refine tk 0 ?_
  refine tk 1 ?_ (hy := fun wS hSw => by (have q1 := Off.cell hSw q1 (zn1); go_simp; (try with_reducible rfl)))
  refine tk 2 ?_
  refine tk 3 ?_
  refine tk 4 ?_ (hy := fun wS hSw => by (have u0 := Off.cell hSw u0 (zn3); go_simp; (try with_reducible rfl)))
  refine tk 5 ?_
  refine tk 6 ?_ (hy := fun wS hSw => by (have x3 := Off.cell hSw x3 (zn2); go_simp; (try with_reducible rfl)))
  obtain ⟨ud, hud⟩ : ∃ u, u = X2.drew := ⟨_, rfl⟩
  have Yd : Below X2.heap.size X2 ud := by rw [hud]; exact (Below.refl _ _).drew
  rw [← hud]
  clear hud
  refine wpAnyH_ready (rs := [7]) (by kernel_rfl) (by simp) ?_
  refine AllReadyH.cons (o := ?_) ?_ (fun K hK => ?_) AllReadyH.nil
  rotate_left
  · (simp only [List.getElem?_toArray, List.getElem?_cons_zero, List.getElem?_cons_succ]; rfl)
  go_simp
  (try go_wp2_with fail)
  refine hK.out _ _ ?_ (fun hHeld' => ?_)
  · (try dsimp only)
    exact Off.below (Yd.alloc Yd.size _)
  clear hK K hHeld
  have hHeld := hHeld'
  clear hHeld'
  (try simp only [Act.put, List.setIfInBounds_toArray, List.set_cons_zero, List.set_cons_succ])
  obtain ⟨vk1, hv1⟩ : ∃ u, u = ud.alloc (.cells #[.int .i64 v] 3) := ⟨_, rfl⟩
  have hbk1 : Below ud.heap.size ud vk1 := by rw [hv1]; exact (Below.refl _ _).alloc (Nat.le_refl _) _
  have HBk1 : Below X2.heap.size X2 vk1 := Yd.trans (hbk1.mono Yd.size)
  have nw0 : vk1.cell? ⟨ud.heap.size, 0, none⟩ = some (.int .i64 v) := by rw [hv1]; simp
  rw [← hv1]
  clear hv1
  refine wpAnyH_ready (rs := [8]) (by kernel_rfl) (by simp) ?_
  refine AllReadyH.cons (o := ?_) ?_ (fun K hK => ?_) AllReadyH.nil
  rotate_left
  · (simp only [List.getElem?_toArray, List.getElem?_cons_zero, List.getElem?_cons_succ]; rfl)
  have HSVc := Hid.mk (HSX.out.below HBk1)
  refine step_append_vals rfl (.tmp 113) (.tmp 116) 41 rfl 0 3 i0 (.int .i64 0) 1 8 Try.underlying41 hi0 hx0 hx1 hx2 rfl (by decide) (.slice ea ya.length fa) ya.length (ya.map (.int .i64)) (by simp [Act.eval]) (owns_below HOXX.out HBk1) (some ⟨ud.heap.size, 0, none⟩) 1 1 [.int .i64 v] (by simp [Act.eval]) rfl (fun ad he => by cases he; intro j u hu; match j, hu with | 0, hu => (obtain rfl := Option.some.inj hu; exact nw0)) (by intro u hu; simp at hu; rw [hu]; rfl) (fun h => by cases h) (by unfold maxLen; omega) (by omega) (Nat.zero_le _) (fun r d wk2 ho2 hg2 ht2 => ?_)
  have ho2 : wk2.ownsRow 0 3 1 (.slice r (ya.length + 1) d) (ya.length + 1) ((ya ++ [v]).map (.int .i64)) := by rw [List.map_append]; exact ho2
  obtain ⟨ec, fc, ed, fd, F0', F1', hB1, hsub, ca, cb, _, o0, o1, ff0, ff1, dd⟩ := HSVc.out.wire HYC.out
  have hca : (.slice ea ya.length fa : Value) = .slice ec ya.length fc := Option.some.inj ((cell_later HBk1 HYCELL.out).symm.trans ca)
  simp only [Value.slice.injEq, true_and] at hca
  obtain ⟨rfl, rfl⟩ := hca
  have ob := (RInts.own_iff.1 o0).2.2.2
  have hgo : Off lo2 X2 wk2 := (Off.below HBk1).trans (Off.grown hg2 (fun b hb => (HSVc.out.wi.rowF B b hB1 (ff0 b (ob b hb))).1.1))
  obtain ⟨cells1', G', hS6⟩ := HSVc.out.pushWords (x := (ya, yr, yo)) hB1 hsub o0 o1 ff0 ff1 dd v (by simp only; omega) hg2 hg2.size ho2 ht2
  have HS6 := Hid.mk hS6
  have qs2 := (Off.grown (F := fun b => (Value.slice ea ya.length fa).ownBlock = some b) hg2 (fun _ hk => hk)).cell (cell_later HBk1 HYCELL.out) (fun e => HSVc.out.notG1 hB1 (ff0 _ (ob _ e)) rfl)
  have fs2 : wk2.frozen? ⟨g1, B * 3, none⟩ = false := frozen_grown (HSVc.out.wi.outer) hg2 (fun e => HSVc.out.notG1 hB1 (ff0 _ (ob _ e)) rfl) (B * 3)
  clear hg2 ht2 ho2 nw0 hS6 hsub ca cb o0 o1 ob
  refine hK.out _ _ ?_ (fun hHeld' => ?_)
  · (try dsimp only)
    exact hgo
  clear hK K hHeld
  have hHeld := hHeld'
  clear hHeld'
  (try simp only [Act.put, List.setIfInBounds_toArray, List.set_cons_zero, List.set_cons_succ])
  refine tk 9 ?_
  refine tk 10 ?_
  refine wpAnyH_ready (rs := [11]) (by kernel_rfl) (by simp) ?_
  refine AllReadyH.cons (o := ?_) ?_ (fun K hK => ?_) AllReadyH.nil
  rotate_left
  · (simp only [List.getElem?_toArray, List.getElem?_cons_zero, List.getElem?_cons_succ]; rfl)
  go_simp
  (try go_wp2_with fail)
  refine hK.out _ _ ?_ (fun hHeld' => ?_)
  · (try dsimp only)
    exact hgo.trans (Off.set (F := lo2) (a := ⟨g1, B * 3, none⟩) HL1.out _)
  clear hK K hHeld
  have hHeld := hHeld'
  clear hHeld'
  (try simp only [Act.put, List.setIfInBounds_toArray, List.set_cons_zero, List.set_cons_succ])
  refine wpAnyH_done (by kernel_rfl) ?_ _
  obtain ⟨X6, hX6⟩ : ∃ u, u = wk2.setCell ⟨g1, B * 3, none⟩ (.slice r (ya.length + 1) d) := ⟨_, rfl⟩
  have HS7 : Hid (SV X6 lo2 g0 n0 c0 g1 n1 c1 PS' (ws.set B (ya ++ [v], yr, yo)) cells0 cells1' G') := Hid.mk (by rw [hX6]; exact HS6.out)
  have hgo6 : Off lo2 X2 X6 := by rw [hX6]; exact hgo.trans (Off.set (F := lo2) (a := ⟨g1, B * 3, none⟩) HL1.out _)
  have bb := (hgo6.block w.heap.size (by omega) (HNN2.out _ (by omega) (by omega))).trans bb
  have br := (hgo6.block (w.heap.size + 2) (by omega) (HNN2.out _ (by omega) (by omega))).trans br
  have HB7 := Hid.mk (HBX.out.trans (hgo6.mono HLE2.out))
  clear hgo hgo6 HS6 qs2 fs2 hHeld
  rw [← hX6]
  clear hX6
  have HS8 := HS7.out
  rw [HWSE.out] at HS8
  have HS8 := Hid.mk HS8
  clear q0 q1 x0 x1 x2 x3 u0 u1 u2
  have p0 := blk_cell bb 0 (v := .slice (some ⟨g0, 0, none⟩) n0 c0) rfl
  have p1 := blk_cell bb 1 (v := .slice (some ⟨g1, 0, none⟩) n1 c1) rfl
  have y0 := blk_cell br 0 (v := .slice none 0 0) rfl
  have y1 := blk_cell br 1 (v := .slice none 0 0) rfl
  have fz0 := blk_frozen br 0
  have fz1 := blk_frozen br 1
  obtain ⟨Y, hY⟩ : ∃ u, u = (X6.setCell ⟨w.heap.size + 2, 0, none⟩ (.slice (some ⟨g0, 0, none⟩) n0 c0)).setCell ⟨w.heap.size + 2, 1, none⟩ (.slice (some ⟨g1, 0, none⟩) n1 c1) := ⟨_, rfl⟩
  have S : Off (fun b => b = w.heap.size + 2) X6 Y := by rw [hY]; exact (Off.set (F := fun b => b = w.heap.size + 2) (a := ⟨w.heap.size + 2, 0, none⟩) rfl _).trans (Off.set (F := fun b => b = w.heap.size + 2) (a := ⟨w.heap.size + 2, 1, none⟩) rfl _)
  have RR : Hid (Off lo w Y ∧ ∃ cells0 cells1 G, SV Y lo g0 n0 c0 g1 n1 c1 (PS') (WS') cells0 cells1 G) := Hid.mk
    (⟨HB7.out.trans (S.mono (fun b h => by have h2 : b = w.heap.size + 2 := h; exact HUP.out b (by omega))), _, _, _, (HS8.out.frame (fun b hb hl => S.block b hl (fun e => by have h2 : b = w.heap.size + 2 := e; exact HNN2.out b (by omega) (by omega) hb)) S.size).mono HLE2.out⟩)
  have HY := Hid.mk hY
  clear S hY
  go_wp2
  refine bodyPost_ret (v := .tuple #[.agg #[.slice (some ⟨g0, 0, none⟩) n0 c0, .slice (some ⟨g1, 0, none⟩) n1 c1], .bool true]) (by simp [results, Try.results31, go_sem, y0, y1]) rfl ?_
  have h := RR.out
  rw [HY.out] at h
  exact ⟨rfl, h⟩

end Go.Proofs.Ytnfdncofobkjhaa
