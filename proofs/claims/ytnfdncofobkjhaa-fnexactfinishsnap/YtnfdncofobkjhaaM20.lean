/- The model's l15Step: take. -/
import Derived.Test.YtnfdncofobkjhaaM17
import Derived.Test.YtnfdncofobkjhaaM5
import Derived.Test.YtnfdncofobkjhaaM19
namespace Go.Proofs.Ytnfdncofobkjhaa
open Go.RowKit

theorem ownCap' {w : World} {base : Nat} {e : TypeId} {size : Nat} {a : Option Addr} {n c : Nat} {xs : List Value} (h : w.ownsRow base e size (.slice a n c) n xs) : n ≤ c := by
  rcases h.2 with ⟨h', h0⟩ | ⟨g, cap, cur, h', _, _, h1, _⟩
  · simp only [Value.slice.injEq] at h'
    omega
  · simp only [Value.slice.injEq, true_and] at h'
    omega
set_option maxRecDepth 100000 in
set_option maxHeartbeats 8000000 in
theorem l15Step_take_no1 (lo : Nat → Prop) (g0 n0 c0 g1 n1 c1 : Nat) (F T : Nat) (v : Int) (ps : List TProc) (ws : List TWire) (cells0 cells1 : List Value) (G : Nat → Nat → Prop) (w : World) (hn : n0 ≤ 4) (h1 : n1 = n0 * n0) (hF : F < n0) (hT : T < n0) (hne : F ≠ T) (y : TWire) (hy : ws[F * n0 + T]? = some y) (hyw : y.1.length = 0) (h : SV w lo g0 n0 c0 g1 n1 c1 ps ws cells0 cells1 G) :
    Calls Try.prog 31 #[.agg #[.slice (some ⟨g0, 0, none⟩) n0 c0, .slice (some ⟨g1, 0, none⟩) n1 c1], .agg #[.int .i64 2, .int .i64 F, .int .i64 T, .int .i64 v]] w fun e w' => e = .returned (.tuple #[.agg #[.slice (some ⟨g0, 0, none⟩) n0 c0, .slice (some ⟨g1, 0, none⟩) n1 c1], .bool false]) ∧ Off lo w w' := by
  have HYA := Hid.mk hyw
  clear hyw
  obtain ⟨W1, hW1⟩ : ∃ W, W = w.alloc (.cells #[.slice (some ⟨g0, 0, none⟩) n0 c0, .slice (some ⟨g1, 0, none⟩) n1 c1] 32) := ⟨_, rfl⟩
  obtain ⟨W2, hW2⟩ : ∃ W, W = W1.alloc (.cells #[.int .i64 2, .int .i64 F, .int .i64 T, .int .i64 v] 36) := ⟨_, rfl⟩
  obtain ⟨W, hW⟩ : ∃ W, W = W2.alloc (.cells #[.slice none 0 0, .slice none 0 0] 32) := ⟨_, rfl⟩
  have z1 : W1.heap.size = w.heap.size + 1 := by rw [hW1]; simp
  have z2 : W2.heap.size = w.heap.size + 2 := by rw [hW2]; simp [z1]
  have zW : W.heap.size = w.heap.size + 3 := by rw [hW]; simp [z2]
  have B01 : Below w.heap.size w W1 := by rw [hW1]; exact (Below.refl _ _).alloc (Nat.le_refl _) _
  have B12 : Below W1.heap.size W1 W2 := by rw [hW2]; exact (Below.refl _ _).alloc (Nat.le_refl _) _
  have B23 : Below W2.heap.size W2 W := by rw [hW]; exact (Below.refl _ _).alloc (Nat.le_refl _) _
  have bb : W.heap[w.heap.size]? = some (.cells #[.slice (some ⟨g0, 0, none⟩) n0 c0, .slice (some ⟨g1, 0, none⟩) n1 c1] 32 (0, 0)) := blk_below (blk_below (by rw [hW1]; exact heap_alloc_new w _) B12) B23
  have bx : W.heap[w.heap.size + 1]? = some (.cells #[.int .i64 2, .int .i64 F, .int .i64 T, .int .i64 v] 36 (0, 0)) := blk_below (by rw [hW2, ← z1]; exact heap_alloc_new W1 _) B23
  have br : W.heap[w.heap.size + 2]? = some (.cells #[.slice none 0 0, .slice none 0 0] 32 (0, 0)) := by rw [hW, ← z2]; exact heap_alloc_new W2 _
  have B0 : Below w.heap.size w W := B01.trans ((B12.mono (by omega)).trans (B23.mono (by omega)))
  have hWW : W = ((w.alloc (.cells #[.slice (some ⟨g0, 0, none⟩) n0 c0, .slice (some ⟨g1, 0, none⟩) n1 c1] 32)).alloc (.cells #[.int .i64 2, .int .i64 F, .int .i64 T, .int .i64 v] 36)).alloc (.cells #[.slice none 0 0, .slice none 0 0] 32) := by rw [hW, hW2, hW1]
  clear B01 B12 B23 hW hW1 hW2 z1 z2 W1 W2
  have HUP := Hid.mk h.up
  obtain ⟨lo', hlo'⟩ : ∃ l : Nat → Prop, l = fun b => lo b ∧ ¬ (w.heap.size ≤ b ∧ b < w.heap.size + 3) := ⟨_, rfl⟩
  have HLE : Hid (∀ b, lo' b → lo b) := Hid.mk (fun b hb => by rw [hlo'] at hb; exact hb.1)
  have HNN : Hid (∀ b, w.heap.size ≤ b → b < w.heap.size + 3 → ¬ lo' b) := Hid.mk (fun b hb hb2 h2 => by rw [hlo'] at h2; exact h2.2 ⟨hb, hb2⟩)
  have hW0 : SV W lo' g0 n0 c0 g1 n1 c1 ps ws cells0 cells1 G := by
    rw [hlo']
    exact h.shunX (X := fun b => w.heap.size ≤ b ∧ b < w.heap.size + 3) (fun b hb => by omega) B0
  have l0 : lo' g0 ∧ g0 < w.heap.size := ⟨hW0.l0.1, h.l0.2⟩
  have l1 : lo' g1 ∧ g1 < w.heap.size := ⟨hW0.l1.1, h.l1.2⟩
  have HS0 := Hid.mk hW0
  have HB := Hid.mk (show Off lo w W from Off.below B0)
  have HZW := Hid.mk zW
  have HL0 : Hid (ps.length = n0) := Hid.mk h.pr.len
  have HL1 : Hid (ws.length = n1) := Hid.mk h.wi.len
  have q0 := blk_cell bb 0 (v := .slice (some ⟨g0, 0, none⟩) n0 c0) rfl
  have q1 := blk_cell bb 1 (v := .slice (some ⟨g1, 0, none⟩) n1 c1) rfl
  have x0 := blk_cell bx 0 (v := .int .i64 2) rfl
  have x1 := blk_cell bx 1 (v := .int .i64 F) rfl
  have x2 := blk_cell bx 2 (v := .int .i64 T) rfl
  have x3 := blk_cell bx 3 (v := .int .i64 v) rfl
  clear h hW0 hlo' zW B0
  have HN1 := Hid.mk h1
  clear h1
  go_enter Try.func31, Try.ntmps31
  go_upto_region 1 with fail
  rw [← hWW]
  clear hWW
  have hF0 : ¬ (F : Int) < 0 := by omega
  have hFn : ¬ (n0 : Int) ≤ (F : Int) := by omega
  have hT0 : ¬ (T : Int) < 0 := by omega
  have hTn : ¬ (n0 : Int) ≤ (T : Int) := by omega
  have hFT : ((F : Int) == (T : Int)) = false := beq_eq_false_iff_ne.2 (by omega)
  have hN16 : n1 ≤ 16 := by rw [HN1.out]; exact Nat.mul_le_mul hn hn
  have hBk : F * n0 + T < n1 := by rw [HN1.out]; exact idx_lt hF hT
  obtain ⟨KN, hKN⟩ : ∃ A, F * n0 = A := ⟨_, rfl⟩
  have hKE : F * n0 + T = KN + T := by rw [hKN]
  rw [hKN] at hBk hy
  have v1 : IntKind.i64.wrap ((F : Int) * (n0 : Int)) = (KN : Int) := by rw [← Int.natCast_mul, hKN]; exact IntWalk.i64_in _ (by omega)
  obtain ⟨B, hB⟩ : ∃ B, KN + T = B := ⟨_, rfl⟩
  have v3 : IntKind.i64.wrap ((KN : Int) + (T : Int)) = (B : Int) := (IntWalk.i64_in _ (by omega)).trans (by omega)
  rw [hB] at hBk hy hKE
  have HKE := Hid.mk hKE
  have hBi : (B : Int) < (n1 : Int) := by omega
  obtain ⟨ya, yr, yo⟩ := y
  obtain ⟨e0, f0, e1, f1, F0, F1, _, hsub, y0, y1, y2, o0, o1, ff0, ff1, dd⟩ := HS0.out.wire hy
  have HYY := Hid.mk hy
  have HOW := Hid.mk (RInts.own_iff.1 o0).2.2.1
  have HOR := Hid.mk (RInts.own_iff.1 o1).2.2.1
  have HATW := Hid.mk (At.owned (RInts.own_iff.1 o0).2.2.1)
  have HNIL := Hid.mk (fun (hh : e0 = none) => (RInts.at_iff.1 (RInts.toAt o0)).2.2.2 hh)
  have HY0 := Hid.mk y0
  have HY1 := Hid.mk y1
  obtain ⟨PW, hPW⟩ : ∃ P, W.heap.size = P := ⟨_, rfl⟩
  obtain ⟨X, hX⟩ : ∃ u, u = W.alloc (.cells #[.slice e0 ya.length f0, .slice e1 yr.length f1, .bool yo] 76) := ⟨_, rfl⟩
  have bX : Below W.heap.size W X := by rw [hX]; exact (Below.refl _ _).alloc (Nat.le_refl _) _
  have bw : X.heap[PW]? = some (.cells #[.slice e0 ya.length f0, .slice e1 yr.length f1, .bool yo] 76 (0, 0)) := by rw [hX, ← hPW]; exact heap_alloc_new W _
  have zX : PW < X.heap.size := by rw [hX, ← hPW]; simp
  have bb := blk_below bb bX
  have bx := blk_below bx bX
  have br := blk_below br bX
  have HBX := Hid.mk (HB.out.trans (Off.below bX))
  obtain ⟨lo2, hlo2⟩ : ∃ l : Nat → Prop, l = fun b => lo' b ∧ ¬ b = PW := ⟨_, rfl⟩
  have HLE2 : Hid (∀ b, lo2 b → lo b) := Hid.mk (fun b hb => by rw [hlo2] at hb; exact HLE.out b hb.1)
  have HNN2 : Hid (∀ b, w.heap.size ≤ b → b < w.heap.size + 3 → ¬ lo2 b) := Hid.mk (fun b hb hb2 h2 => by rw [hlo2] at h2; exact HNN.out b hb hb2 h2.1)
  have HNW : Hid (¬ lo2 PW) := Hid.mk (fun h2 => by rw [hlo2] at h2; exact h2.2 rfl)
  have HSX : Hid (SV X lo2 g0 n0 c0 g1 n1 c1 ps ws cells0 cells1 G) := Hid.mk (by rw [hlo2]; exact HS0.out.shunX (X := fun b => b = PW) (fun b hb => by have h2 : b = PW := hb; omega) bX)
  have hPg : g0 ≠ PW ∧ g1 ≠ PW := ⟨by have := HZW.out; omega, by have := HZW.out; omega⟩
  have hPw : w.heap.size + 3 ≤ PW := by have := HZW.out; omega
  have HBXX := Hid.mk bX
  clear HS0 HB hlo2 hKN hy bX o0 o1 hsub hKE
  go_upto_region 12 with fail
  rw [← hX]
  clear hX
  (try rw [hPW])
  have HPW := Hid.mk hPW
  clear hPW y0 y1 y2 q0 q1 x0 x1 x2 x3
  have hE0 : ((ya.length : Int) == 0) = true := beq_iff_eq.2 (by have := HYA.out; simp only at this; omega)
  have q0 := blk_cell bb 0 (v := .slice (some ⟨g0, 0, none⟩) n0 c0) rfl
  have q1 := blk_cell bb 1 (v := .slice (some ⟨g1, 0, none⟩) n1 c1) rfl
  have x0 := blk_cell bx 0 (v := .int .i64 2) rfl
  have x1 := blk_cell bx 1 (v := .int .i64 F) rfl
  have x2 := blk_cell bx 2 (v := .int .i64 T) rfl
  have x3 := blk_cell bx 3 (v := .int .i64 v) rfl
  have u0 := blk_cell bw 0 (v := .slice e0 ya.length f0) rfl
  have u1 := blk_cell bw 1 (v := .slice e1 yr.length f1) rfl
  have u2 := blk_cell bw 2 (v := .bool yo) rfl
  go_upto_region 21 with fail
  clear q0 q1 x0 x1 x2 x3 u0 u1 u2
  have p0 := blk_cell bb 0 (v := .slice (some ⟨g0, 0, none⟩) n0 c0) rfl
  have p1 := blk_cell bb 1 (v := .slice (some ⟨g1, 0, none⟩) n1 c1) rfl
  have y0 := blk_cell br 0 (v := .slice none 0 0) rfl
  have y1 := blk_cell br 1 (v := .slice none 0 0) rfl
  have fz0 := blk_frozen br 0
  have fz1 := blk_frozen br 1
  obtain ⟨Y, hY⟩ : ∃ u, u = (X.setCell ⟨w.heap.size + 2, 0, none⟩ (.slice (some ⟨g0, 0, none⟩) n0 c0)).setCell ⟨w.heap.size + 2, 1, none⟩ (.slice (some ⟨g1, 0, none⟩) n1 c1) := ⟨_, rfl⟩
  have S : Off (fun b => b = w.heap.size + 2) X Y := by rw [hY]; exact (Off.set (F := fun b => b = w.heap.size + 2) (a := ⟨w.heap.size + 2, 0, none⟩) rfl _).trans (Off.set (F := fun b => b = w.heap.size + 2) (a := ⟨w.heap.size + 2, 1, none⟩) rfl _)
  have RR : Hid (Off lo w Y) := Hid.mk
    (HBX.out.trans (S.mono (fun b h => by have h2 : b = w.heap.size + 2 := h; exact HUP.out b (by omega))))
  have HY := Hid.mk hY
  clear S hY
  go_wp2
  refine bodyPost_ret (v := .tuple #[.agg #[.slice (some ⟨g0, 0, none⟩) n0 c0, .slice (some ⟨g1, 0, none⟩) n1 c1], .bool false]) (by simp [results, Try.results31, go_sem, y0, y1]) rfl ?_
  have h := RR.out
  rw [HY.out] at h
  exact ⟨rfl, h⟩

set_option maxRecDepth 100000 in
set_option maxHeartbeats 8000000 in
theorem l15Step_take_no2 (lo : Nat → Prop) (g0 n0 c0 g1 n1 c1 : Nat) (F T : Nat) (v : Int) (ps : List TProc) (ws : List TWire) (cells0 cells1 : List Value) (G : Nat → Nat → Prop) (w : World) (hn : n0 ≤ 4) (h1 : n1 = n0 * n0) (hF : F < n0) (hT : T < n0) (hne : F ≠ T) (y : TWire) (hy : ws[F * n0 + T]? = some y) (hyw : ¬ y.1.length = 0) (hyr : y.2.1.length = 200) (h : SV w lo g0 n0 c0 g1 n1 c1 ps ws cells0 cells1 G) :
    Calls Try.prog 31 #[.agg #[.slice (some ⟨g0, 0, none⟩) n0 c0, .slice (some ⟨g1, 0, none⟩) n1 c1], .agg #[.int .i64 2, .int .i64 F, .int .i64 T, .int .i64 v]] w fun e w' => e = .returned (.tuple #[.agg #[.slice (some ⟨g0, 0, none⟩) n0 c0, .slice (some ⟨g1, 0, none⟩) n1 c1], .bool false]) ∧ Off lo w w' := by
  have HYA := Hid.mk hyw
  clear hyw
  have HYR := Hid.mk hyr
  clear hyr
  obtain ⟨W1, hW1⟩ : ∃ W, W = w.alloc (.cells #[.slice (some ⟨g0, 0, none⟩) n0 c0, .slice (some ⟨g1, 0, none⟩) n1 c1] 32) := ⟨_, rfl⟩
  obtain ⟨W2, hW2⟩ : ∃ W, W = W1.alloc (.cells #[.int .i64 2, .int .i64 F, .int .i64 T, .int .i64 v] 36) := ⟨_, rfl⟩
  obtain ⟨W, hW⟩ : ∃ W, W = W2.alloc (.cells #[.slice none 0 0, .slice none 0 0] 32) := ⟨_, rfl⟩
  have z1 : W1.heap.size = w.heap.size + 1 := by rw [hW1]; simp
  have z2 : W2.heap.size = w.heap.size + 2 := by rw [hW2]; simp [z1]
  have zW : W.heap.size = w.heap.size + 3 := by rw [hW]; simp [z2]
  have B01 : Below w.heap.size w W1 := by rw [hW1]; exact (Below.refl _ _).alloc (Nat.le_refl _) _
  have B12 : Below W1.heap.size W1 W2 := by rw [hW2]; exact (Below.refl _ _).alloc (Nat.le_refl _) _
  have B23 : Below W2.heap.size W2 W := by rw [hW]; exact (Below.refl _ _).alloc (Nat.le_refl _) _
  have bb : W.heap[w.heap.size]? = some (.cells #[.slice (some ⟨g0, 0, none⟩) n0 c0, .slice (some ⟨g1, 0, none⟩) n1 c1] 32 (0, 0)) := blk_below (blk_below (by rw [hW1]; exact heap_alloc_new w _) B12) B23
  have bx : W.heap[w.heap.size + 1]? = some (.cells #[.int .i64 2, .int .i64 F, .int .i64 T, .int .i64 v] 36 (0, 0)) := blk_below (by rw [hW2, ← z1]; exact heap_alloc_new W1 _) B23
  have br : W.heap[w.heap.size + 2]? = some (.cells #[.slice none 0 0, .slice none 0 0] 32 (0, 0)) := by rw [hW, ← z2]; exact heap_alloc_new W2 _
  have B0 : Below w.heap.size w W := B01.trans ((B12.mono (by omega)).trans (B23.mono (by omega)))
  have hWW : W = ((w.alloc (.cells #[.slice (some ⟨g0, 0, none⟩) n0 c0, .slice (some ⟨g1, 0, none⟩) n1 c1] 32)).alloc (.cells #[.int .i64 2, .int .i64 F, .int .i64 T, .int .i64 v] 36)).alloc (.cells #[.slice none 0 0, .slice none 0 0] 32) := by rw [hW, hW2, hW1]
  clear B01 B12 B23 hW hW1 hW2 z1 z2 W1 W2
  have HUP := Hid.mk h.up
  obtain ⟨lo', hlo'⟩ : ∃ l : Nat → Prop, l = fun b => lo b ∧ ¬ (w.heap.size ≤ b ∧ b < w.heap.size + 3) := ⟨_, rfl⟩
  have HLE : Hid (∀ b, lo' b → lo b) := Hid.mk (fun b hb => by rw [hlo'] at hb; exact hb.1)
  have HNN : Hid (∀ b, w.heap.size ≤ b → b < w.heap.size + 3 → ¬ lo' b) := Hid.mk (fun b hb hb2 h2 => by rw [hlo'] at h2; exact h2.2 ⟨hb, hb2⟩)
  have hW0 : SV W lo' g0 n0 c0 g1 n1 c1 ps ws cells0 cells1 G := by
    rw [hlo']
    exact h.shunX (X := fun b => w.heap.size ≤ b ∧ b < w.heap.size + 3) (fun b hb => by omega) B0
  have l0 : lo' g0 ∧ g0 < w.heap.size := ⟨hW0.l0.1, h.l0.2⟩
  have l1 : lo' g1 ∧ g1 < w.heap.size := ⟨hW0.l1.1, h.l1.2⟩
  have HS0 := Hid.mk hW0
  have HB := Hid.mk (show Off lo w W from Off.below B0)
  have HZW := Hid.mk zW
  have HL0 : Hid (ps.length = n0) := Hid.mk h.pr.len
  have HL1 : Hid (ws.length = n1) := Hid.mk h.wi.len
  have q0 := blk_cell bb 0 (v := .slice (some ⟨g0, 0, none⟩) n0 c0) rfl
  have q1 := blk_cell bb 1 (v := .slice (some ⟨g1, 0, none⟩) n1 c1) rfl
  have x0 := blk_cell bx 0 (v := .int .i64 2) rfl
  have x1 := blk_cell bx 1 (v := .int .i64 F) rfl
  have x2 := blk_cell bx 2 (v := .int .i64 T) rfl
  have x3 := blk_cell bx 3 (v := .int .i64 v) rfl
  clear h hW0 hlo' zW B0
  have HN1 := Hid.mk h1
  clear h1
  go_enter Try.func31, Try.ntmps31
  go_upto_region 1 with fail
  rw [← hWW]
  clear hWW
  have hF0 : ¬ (F : Int) < 0 := by omega
  have hFn : ¬ (n0 : Int) ≤ (F : Int) := by omega
  have hT0 : ¬ (T : Int) < 0 := by omega
  have hTn : ¬ (n0 : Int) ≤ (T : Int) := by omega
  have hFT : ((F : Int) == (T : Int)) = false := beq_eq_false_iff_ne.2 (by omega)
  have hN16 : n1 ≤ 16 := by rw [HN1.out]; exact Nat.mul_le_mul hn hn
  have hBk : F * n0 + T < n1 := by rw [HN1.out]; exact idx_lt hF hT
  obtain ⟨KN, hKN⟩ : ∃ A, F * n0 = A := ⟨_, rfl⟩
  have hKE : F * n0 + T = KN + T := by rw [hKN]
  rw [hKN] at hBk hy
  have v1 : IntKind.i64.wrap ((F : Int) * (n0 : Int)) = (KN : Int) := by rw [← Int.natCast_mul, hKN]; exact IntWalk.i64_in _ (by omega)
  obtain ⟨B, hB⟩ : ∃ B, KN + T = B := ⟨_, rfl⟩
  have v3 : IntKind.i64.wrap ((KN : Int) + (T : Int)) = (B : Int) := (IntWalk.i64_in _ (by omega)).trans (by omega)
  rw [hB] at hBk hy hKE
  have HKE := Hid.mk hKE
  have hBi : (B : Int) < (n1 : Int) := by omega
  obtain ⟨ya, yr, yo⟩ := y
  obtain ⟨e0, f0, e1, f1, F0, F1, _, hsub, y0, y1, y2, o0, o1, ff0, ff1, dd⟩ := HS0.out.wire hy
  have HYY := Hid.mk hy
  have HOW := Hid.mk (RInts.own_iff.1 o0).2.2.1
  have HOR := Hid.mk (RInts.own_iff.1 o1).2.2.1
  have HATW := Hid.mk (At.owned (RInts.own_iff.1 o0).2.2.1)
  have HNIL := Hid.mk (fun (hh : e0 = none) => (RInts.at_iff.1 (RInts.toAt o0)).2.2.2 hh)
  have HY0 := Hid.mk y0
  have HY1 := Hid.mk y1
  obtain ⟨PW, hPW⟩ : ∃ P, W.heap.size = P := ⟨_, rfl⟩
  obtain ⟨X, hX⟩ : ∃ u, u = W.alloc (.cells #[.slice e0 ya.length f0, .slice e1 yr.length f1, .bool yo] 76) := ⟨_, rfl⟩
  have bX : Below W.heap.size W X := by rw [hX]; exact (Below.refl _ _).alloc (Nat.le_refl _) _
  have bw : X.heap[PW]? = some (.cells #[.slice e0 ya.length f0, .slice e1 yr.length f1, .bool yo] 76 (0, 0)) := by rw [hX, ← hPW]; exact heap_alloc_new W _
  have zX : PW < X.heap.size := by rw [hX, ← hPW]; simp
  have bb := blk_below bb bX
  have bx := blk_below bx bX
  have br := blk_below br bX
  have HBX := Hid.mk (HB.out.trans (Off.below bX))
  obtain ⟨lo2, hlo2⟩ : ∃ l : Nat → Prop, l = fun b => lo' b ∧ ¬ b = PW := ⟨_, rfl⟩
  have HLE2 : Hid (∀ b, lo2 b → lo b) := Hid.mk (fun b hb => by rw [hlo2] at hb; exact HLE.out b hb.1)
  have HNN2 : Hid (∀ b, w.heap.size ≤ b → b < w.heap.size + 3 → ¬ lo2 b) := Hid.mk (fun b hb hb2 h2 => by rw [hlo2] at h2; exact HNN.out b hb hb2 h2.1)
  have HNW : Hid (¬ lo2 PW) := Hid.mk (fun h2 => by rw [hlo2] at h2; exact h2.2 rfl)
  have HSX : Hid (SV X lo2 g0 n0 c0 g1 n1 c1 ps ws cells0 cells1 G) := Hid.mk (by rw [hlo2]; exact HS0.out.shunX (X := fun b => b = PW) (fun b hb => by have h2 : b = PW := hb; omega) bX)
  have hPg : g0 ≠ PW ∧ g1 ≠ PW := ⟨by have := HZW.out; omega, by have := HZW.out; omega⟩
  have hPw : w.heap.size + 3 ≤ PW := by have := HZW.out; omega
  have HBXX := Hid.mk bX
  clear HS0 HB hlo2 hKN hy bX o0 o1 hsub hKE
  go_upto_region 12 with fail
  rw [← hX]
  clear hX
  (try rw [hPW])
  have HPW := Hid.mk hPW
  clear hPW y0 y1 y2 q0 q1 x0 x1 x2 x3
  have hE0 : ((ya.length : Int) == 0) = false := beq_eq_false_iff_ne.2 (by have := HYA.out; simp only at this; omega)
  have hE2 : ((yr.length : Int) == 200) = true := beq_iff_eq.2 (by have := HYR.out; simp only at this; omega)
  have q0 := blk_cell bb 0 (v := .slice (some ⟨g0, 0, none⟩) n0 c0) rfl
  have q1 := blk_cell bb 1 (v := .slice (some ⟨g1, 0, none⟩) n1 c1) rfl
  have x0 := blk_cell bx 0 (v := .int .i64 2) rfl
  have x1 := blk_cell bx 1 (v := .int .i64 F) rfl
  have x2 := blk_cell bx 2 (v := .int .i64 T) rfl
  have x3 := blk_cell bx 3 (v := .int .i64 v) rfl
  have u0 := blk_cell bw 0 (v := .slice e0 ya.length f0) rfl
  have u1 := blk_cell bw 1 (v := .slice e1 yr.length f1) rfl
  have u2 := blk_cell bw 2 (v := .bool yo) rfl
  go_upto_region 21 with fail
  clear q0 q1 x0 x1 x2 x3 u0 u1 u2
  have p0 := blk_cell bb 0 (v := .slice (some ⟨g0, 0, none⟩) n0 c0) rfl
  have p1 := blk_cell bb 1 (v := .slice (some ⟨g1, 0, none⟩) n1 c1) rfl
  have y0 := blk_cell br 0 (v := .slice none 0 0) rfl
  have y1 := blk_cell br 1 (v := .slice none 0 0) rfl
  have fz0 := blk_frozen br 0
  have fz1 := blk_frozen br 1
  obtain ⟨Y, hY⟩ : ∃ u, u = (X.setCell ⟨w.heap.size + 2, 0, none⟩ (.slice (some ⟨g0, 0, none⟩) n0 c0)).setCell ⟨w.heap.size + 2, 1, none⟩ (.slice (some ⟨g1, 0, none⟩) n1 c1) := ⟨_, rfl⟩
  have S : Off (fun b => b = w.heap.size + 2) X Y := by rw [hY]; exact (Off.set (F := fun b => b = w.heap.size + 2) (a := ⟨w.heap.size + 2, 0, none⟩) rfl _).trans (Off.set (F := fun b => b = w.heap.size + 2) (a := ⟨w.heap.size + 2, 1, none⟩) rfl _)
  have RR : Hid (Off lo w Y) := Hid.mk
    (HBX.out.trans (S.mono (fun b h => by have h2 : b = w.heap.size + 2 := h; exact HUP.out b (by omega))))
  have HY := Hid.mk hY
  clear S hY
  go_wp2
  refine bodyPost_ret (v := .tuple #[.agg #[.slice (some ⟨g0, 0, none⟩) n0 c0, .slice (some ⟨g1, 0, none⟩) n1 c1], .bool false]) (by simp [results, Try.results31, go_sem, y0, y1]) rfl ?_
  have h := RR.out
  rw [HY.out] at h
  exact ⟨rfl, h⟩

set_option maxRecDepth 100000 in
set_option maxHeartbeats 8000000 in
theorem l15Step_take_done (lo : Nat → Prop) (g0 n0 c0 g1 n1 c1 : Nat) (F T : Nat) (v : Int) (ps : List TProc) (ws : List TWire) (cells0 cells1 : List Value) (G : Nat → Nat → Prop) (w : World) (hn : n0 ≤ 4) (h1 : n1 = n0 * n0) (hF : F < n0) (hT : T < n0) (hne : F ≠ T) (y : TWire) (hy : ws[F * n0 + T]? = some y) (u : Int) (us : List Int) (hyw : y.1 = u :: us) (hyl : y.1.length ≤ 12) (hyr : y.2.1.length < 200) (q0' q1' : Int) (hp : ps[T]? = some (q0', q1', true)) (hu0 : ¬ 0 < u) (h : SV w lo g0 n0 c0 g1 n1 c1 ps ws cells0 cells1 G) :
    Calls Try.prog 31 #[.agg #[.slice (some ⟨g0, 0, none⟩) n0 c0, .slice (some ⟨g1, 0, none⟩) n1 c1], .agg #[.int .i64 2, .int .i64 F, .int .i64 T, .int .i64 v]] w fun e w' => e = .returned (.tuple #[.agg #[.slice (some ⟨g0, 0, none⟩) n0 c0, .slice (some ⟨g1, 0, none⟩) n1 c1], .bool true]) ∧ Off lo w w' ∧ ∃ cells0 cells1 G, SV w' lo g0 n0 c0 g1 n1 c1 (ps) (ws.set (F * n0 + T) (us, y.2.1, false)) cells0 cells1 G := by
  obtain ⟨WS', hWS'⟩ : ∃ K, ws.set (F * n0 + T) (us, y.2.1, false) = K := ⟨_, rfl⟩
  rw [hWS']
  have HWS' := Hid.mk hWS'
  clear hWS'
  have HYA := Hid.mk hyw
  have HYL := Hid.mk hyl
  have HYR := Hid.mk hyr
  have HHP := Hid.mk hp
  clear hyw hyl hyr hp
  obtain ⟨i0, hi0, hx0, hx1, hx2⟩ := info_parts Try.infoInt
  obtain ⟨W1, hW1⟩ : ∃ W, W = w.alloc (.cells #[.slice (some ⟨g0, 0, none⟩) n0 c0, .slice (some ⟨g1, 0, none⟩) n1 c1] 32) := ⟨_, rfl⟩
  obtain ⟨W2, hW2⟩ : ∃ W, W = W1.alloc (.cells #[.int .i64 2, .int .i64 F, .int .i64 T, .int .i64 v] 36) := ⟨_, rfl⟩
  obtain ⟨W, hW⟩ : ∃ W, W = W2.alloc (.cells #[.slice none 0 0, .slice none 0 0] 32) := ⟨_, rfl⟩
  have z1 : W1.heap.size = w.heap.size + 1 := by rw [hW1]; simp
  have z2 : W2.heap.size = w.heap.size + 2 := by rw [hW2]; simp [z1]
  have zW : W.heap.size = w.heap.size + 3 := by rw [hW]; simp [z2]
  have B01 : Below w.heap.size w W1 := by rw [hW1]; exact (Below.refl _ _).alloc (Nat.le_refl _) _
  have B12 : Below W1.heap.size W1 W2 := by rw [hW2]; exact (Below.refl _ _).alloc (Nat.le_refl _) _
  have B23 : Below W2.heap.size W2 W := by rw [hW]; exact (Below.refl _ _).alloc (Nat.le_refl _) _
  have bb : W.heap[w.heap.size]? = some (.cells #[.slice (some ⟨g0, 0, none⟩) n0 c0, .slice (some ⟨g1, 0, none⟩) n1 c1] 32 (0, 0)) := blk_below (blk_below (by rw [hW1]; exact heap_alloc_new w _) B12) B23
  have bx : W.heap[w.heap.size + 1]? = some (.cells #[.int .i64 2, .int .i64 F, .int .i64 T, .int .i64 v] 36 (0, 0)) := blk_below (by rw [hW2, ← z1]; exact heap_alloc_new W1 _) B23
  have br : W.heap[w.heap.size + 2]? = some (.cells #[.slice none 0 0, .slice none 0 0] 32 (0, 0)) := by rw [hW, ← z2]; exact heap_alloc_new W2 _
  have B0 : Below w.heap.size w W := B01.trans ((B12.mono (by omega)).trans (B23.mono (by omega)))
  have hWW : W = ((w.alloc (.cells #[.slice (some ⟨g0, 0, none⟩) n0 c0, .slice (some ⟨g1, 0, none⟩) n1 c1] 32)).alloc (.cells #[.int .i64 2, .int .i64 F, .int .i64 T, .int .i64 v] 36)).alloc (.cells #[.slice none 0 0, .slice none 0 0] 32) := by rw [hW, hW2, hW1]
  clear B01 B12 B23 hW hW1 hW2 z1 z2 W1 W2
  have HUP := Hid.mk h.up
  obtain ⟨lo', hlo'⟩ : ∃ l : Nat → Prop, l = fun b => lo b ∧ ¬ (w.heap.size ≤ b ∧ b < w.heap.size + 3) := ⟨_, rfl⟩
  have HLE : Hid (∀ b, lo' b → lo b) := Hid.mk (fun b hb => by rw [hlo'] at hb; exact hb.1)
  have HNN : Hid (∀ b, w.heap.size ≤ b → b < w.heap.size + 3 → ¬ lo' b) := Hid.mk (fun b hb hb2 h2 => by rw [hlo'] at h2; exact h2.2 ⟨hb, hb2⟩)
  have hW0 : SV W lo' g0 n0 c0 g1 n1 c1 ps ws cells0 cells1 G := by
    rw [hlo']
    exact h.shunX (X := fun b => w.heap.size ≤ b ∧ b < w.heap.size + 3) (fun b hb => by omega) B0
  have l0 : lo' g0 ∧ g0 < w.heap.size := ⟨hW0.l0.1, h.l0.2⟩
  have l1 : lo' g1 ∧ g1 < w.heap.size := ⟨hW0.l1.1, h.l1.2⟩
  have HS0 := Hid.mk hW0
  have HB := Hid.mk (show Off lo w W from Off.below B0)
  have HZW := Hid.mk zW
  have HL0 : Hid (ps.length = n0) := Hid.mk h.pr.len
  have HL1 : Hid (ws.length = n1) := Hid.mk h.wi.len
  have q0 := blk_cell bb 0 (v := .slice (some ⟨g0, 0, none⟩) n0 c0) rfl
  have q1 := blk_cell bb 1 (v := .slice (some ⟨g1, 0, none⟩) n1 c1) rfl
  have x0 := blk_cell bx 0 (v := .int .i64 2) rfl
  have x1 := blk_cell bx 1 (v := .int .i64 F) rfl
  have x2 := blk_cell bx 2 (v := .int .i64 T) rfl
  have x3 := blk_cell bx 3 (v := .int .i64 v) rfl
  clear h hW0 hlo' zW B0
  have HN1 := Hid.mk h1
  clear h1
  go_enter Try.func31, Try.ntmps31
  go_upto_region 1 with fail
  rw [← hWW]
  clear hWW
  have hF0 : ¬ (F : Int) < 0 := by omega
  have hFn : ¬ (n0 : Int) ≤ (F : Int) := by omega
  have hT0 : ¬ (T : Int) < 0 := by omega
  have hTn : ¬ (n0 : Int) ≤ (T : Int) := by omega
  have hFT : ((F : Int) == (T : Int)) = false := beq_eq_false_iff_ne.2 (by omega)
  have hN16 : n1 ≤ 16 := by rw [HN1.out]; exact Nat.mul_le_mul hn hn
  have hBk : F * n0 + T < n1 := by rw [HN1.out]; exact idx_lt hF hT
  obtain ⟨KN, hKN⟩ : ∃ A, F * n0 = A := ⟨_, rfl⟩
  have hKE : F * n0 + T = KN + T := by rw [hKN]
  rw [hKN] at hBk hy
  have v1 : IntKind.i64.wrap ((F : Int) * (n0 : Int)) = (KN : Int) := by rw [← Int.natCast_mul, hKN]; exact IntWalk.i64_in _ (by omega)
  obtain ⟨B, hB⟩ : ∃ B, KN + T = B := ⟨_, rfl⟩
  have v3 : IntKind.i64.wrap ((KN : Int) + (T : Int)) = (B : Int) := (IntWalk.i64_in _ (by omega)).trans (by omega)
  rw [hB] at hBk hy hKE
  have HKE := Hid.mk hKE
  have hBi : (B : Int) < (n1 : Int) := by omega
  obtain ⟨ya, yr, yo⟩ := y
  obtain ⟨e0, f0, e1, f1, F0, F1, _, hsub, y0, y1, y2, o0, o1, ff0, ff1, dd⟩ := HS0.out.wire hy
  have HYY := Hid.mk hy
  have HOW := Hid.mk (RInts.own_iff.1 o0).2.2.1
  have HOR := Hid.mk (RInts.own_iff.1 o1).2.2.1
  have HATW := Hid.mk (At.owned (RInts.own_iff.1 o0).2.2.1)
  have HNIL := Hid.mk (fun (hh : e0 = none) => (RInts.at_iff.1 (RInts.toAt o0)).2.2.2 hh)
  have HY0 := Hid.mk y0
  have HY1 := Hid.mk y1
  obtain ⟨PW, hPW⟩ : ∃ P, W.heap.size = P := ⟨_, rfl⟩
  obtain ⟨X, hX⟩ : ∃ u, u = W.alloc (.cells #[.slice e0 ya.length f0, .slice e1 yr.length f1, .bool yo] 76) := ⟨_, rfl⟩
  have bX : Below W.heap.size W X := by rw [hX]; exact (Below.refl _ _).alloc (Nat.le_refl _) _
  have bw : X.heap[PW]? = some (.cells #[.slice e0 ya.length f0, .slice e1 yr.length f1, .bool yo] 76 (0, 0)) := by rw [hX, ← hPW]; exact heap_alloc_new W _
  have zX : PW < X.heap.size := by rw [hX, ← hPW]; simp
  have bb := blk_below bb bX
  have bx := blk_below bx bX
  have br := blk_below br bX
  have HBX := Hid.mk (HB.out.trans (Off.below bX))
  obtain ⟨lo2, hlo2⟩ : ∃ l : Nat → Prop, l = fun b => lo' b ∧ ¬ b = PW := ⟨_, rfl⟩
  have HLE2 : Hid (∀ b, lo2 b → lo b) := Hid.mk (fun b hb => by rw [hlo2] at hb; exact HLE.out b hb.1)
  have HNN2 : Hid (∀ b, w.heap.size ≤ b → b < w.heap.size + 3 → ¬ lo2 b) := Hid.mk (fun b hb hb2 h2 => by rw [hlo2] at h2; exact HNN.out b hb hb2 h2.1)
  have HNW : Hid (¬ lo2 PW) := Hid.mk (fun h2 => by rw [hlo2] at h2; exact h2.2 rfl)
  have HSX : Hid (SV X lo2 g0 n0 c0 g1 n1 c1 ps ws cells0 cells1 G) := Hid.mk (by rw [hlo2]; exact HS0.out.shunX (X := fun b => b = PW) (fun b hb => by have h2 : b = PW := hb; omega) bX)
  have hPg : g0 ≠ PW ∧ g1 ≠ PW := ⟨by have := HZW.out; omega, by have := HZW.out; omega⟩
  have hPw : w.heap.size + 3 ≤ PW := by have := HZW.out; omega
  have HBXX := Hid.mk bX
  clear HS0 HB hlo2 hKN hy bX o0 o1 hsub hKE
  go_upto_region 12 with fail
  rw [← hX]
  clear hX
  (try rw [hPW])
  have HPW := Hid.mk hPW
  clear hPW y0 y1 y2 q0 q1 x0 x1 x2 x3
  have HYA : Hid (ya = u :: us) := HYA
  have HYL : Hid (ya.length ≤ 12) := HYL
  have HYR : Hid (yr.length < 200) := HYR
  have hlen : us.length = ya.length - 1 ∧ 1 ≤ ya.length := by rw [HYA.out]; simp
  obtain ⟨wb, woff, rfl, hwb, hwc⟩ := HATW.out.some (by omega)
  have hcap : ya.length ≤ f0 := ownCap' HOW.out
  have wcell : X.cell? ⟨wb, woff, none⟩ = some (.int .i64 u) := by
    have q := hwc 0 (by omega)
    rw [show ya.getD 0 0 = u by rw [HYA.out]; rfl, Nat.add_zero] at q
    exact cell_later HBXX.out q
  have HATS : Hid (At X (some ⟨wb, woff + 1, none⟩) us) := Hid.mk (.inr ⟨wb, woff + 1, rfl, fun i hi => by
    have q := hwc (i + 1) (by omega)
    rw [show ya.getD (i + 1) 0 = us.getD i 0 by rw [HYA.out]; rfl, show woff + (i + 1) = woff + 1 + i by omega] at q
    exact cell_later HBXX.out q⟩)
  have hE0 : ((ya.length : Int) == 0) = false := beq_eq_false_iff_ne.2 (by omega)
  have hE2 : ((yr.length : Int) == 200) = false := beq_eq_false_iff_ne.2 (by have := HYR.out; omega)
  have hi0' : (0 : Int) < (ya.length : Int) := by omega
  have HLEN := Hid.mk hlen
  have hi1' : (1 : Int) ≤ (ya.length : Int) := by omega
  obtain ⟨AO, hAO⟩ : ∃ a, (if f0 = 1 then some ⟨wb, woff, none⟩ else some ⟨wb, woff + 1, none⟩ : Option Addr) = a := ⟨_, rfl⟩
  obtain ⟨ML, hML⟩ : ∃ m, ya.length - 1 = m := ⟨_, rfl⟩
  have HUL : Hid (us.length = ML) := Hid.mk (by rw [← hML]; exact hlen.1)
  have HML : Hid (ML ≤ 12) := Hid.mk (by have := HYL.out; omega)
  have HATA : Hid (At X AO us ∧ AO ≠ none) := Hid.mk (by
    rw [← hAO]
    by_cases hf : f0 = 1
    · rw [if_pos hf]
      have : us.length = 0 := by omega
      exact ⟨.inl (List.eq_nil_of_length_eq_zero this), by simp⟩
    · rw [if_neg hf]; exact ⟨HATS.out, by simp⟩)
  have zn1 := HNN2.out w.heap.size (by omega) (by omega)
  have zn2 := HNN2.out (w.heap.size + 1) (by omega) (by omega)
  have zn3 := HNW.out
  clear hwc hlen
  have q0 := blk_cell bb 0 (v := .slice (some ⟨g0, 0, none⟩) n0 c0) rfl
  have q1 := blk_cell bb 1 (v := .slice (some ⟨g1, 0, none⟩) n1 c1) rfl
  have x0 := blk_cell bx 0 (v := .int .i64 2) rfl
  have x1 := blk_cell bx 1 (v := .int .i64 F) rfl
  have x2 := blk_cell bx 2 (v := .int .i64 T) rfl
  have x3 := blk_cell bx 3 (v := .int .i64 v) rfl
  have u0 := blk_cell bw 0 (v := .slice (some ⟨wb, woff, none⟩) ya.length f0) rfl
  have u1 := blk_cell bw 1 (v := .slice e1 yr.length f1) rfl
  have u2 := blk_cell bw 2 (v := .bool yo) rfl
  go_upto_region 23 with fail
  refine wp_region_held_drew (S := fun w' => Off lo2 X w') (by kernel_rfl) ?_ (fun hHeld => ?_)
  · (try dsimp only)
    exact (Off.refl _ _).drew
  refine tk 0 ?_
  refine tk 1 ?_ (hy := fun wS hSw => by (have q1 := Off.cell hSw q1 (zn1); go_simp; (try with_reducible rfl)))
  refine tk 2 ?_
  refine tk 4 ?_
  refine tk 5 ?_ (hy := fun wS hSw => by (have u0 := Off.cell hSw u0 (zn3); go_simp; (try with_reducible rfl)))
  refine tk 6 ?_
  obtain ⟨ud, hud⟩ : ∃ u, u = X.drew := ⟨_, rfl⟩
  have Yd : Below X.heap.size X ud := by rw [hud]; exact (Below.refl _ _).drew
  rw [← hud]
  clear hud
  refine wpAnyH_ready (rs := [3]) (by kernel_rfl) (by simp) ?_
  refine AllReadyH.cons (o := ?_) ?_ (fun K hK => ?_) AllReadyH.nil
  rotate_left
  · (simp only [List.getElem?_toArray, List.getElem?_cons_zero, List.getElem?_cons_succ]; rfl)
  go_simp
  skip
  (try go_wp2_with fail)
  refine hK.out _ _ ?_ (fun hHeld' => ?_)
  · (try dsimp only)
    exact Off.below (Yd.alloc Yd.size _)
  clear hK K hHeld
  have hHeld := hHeld'
  clear hHeld'
  (try simp only [Act.put, List.setIfInBounds_toArray, List.set_cons_zero, List.set_cons_succ])
  obtain ⟨vk, hvk⟩ : ∃ u, u = ud.alloc (.cells #[] 3) := ⟨_, rfl⟩
  have HOE := Hid.mk (own_void ud 3 1)
  rw [← hvk] at HOE
  have bV : Below X.heap.size X vk := by rw [hvk]; exact Yd.alloc Yd.size _
  have zvk : vk.heap.size = ud.heap.size + 1 := by rw [hvk]; simp
  have zud := Yd.size
  rw [← hvk]
  clear hvk
  refine wpAnyH_ready (rs := [7]) (by kernel_rfl) (by simp) ?_
  refine AllReadyH.cons (o := ?_) ?_ (fun K hK => ?_) AllReadyH.nil
  rotate_left
  · (simp only [List.getElem?_toArray, List.getElem?_cons_zero, List.getElem?_cons_succ]; rfl)
  refine step_append_all rfl (.tmp 141) (.tmp 144) 41 rfl X.heap.size 3 i0 (.int .i64 0) 8 Try.underlying41 hi0 hx0 hx1 hx2 rfl (.slice (some ⟨ud.heap.size, 0, none⟩) 0 0) 0 [] (by simp [Act.eval]) (owns_mono HOE.out zud) AO ML (f0 - 1) us (by simp [Act.eval]) HUL.out (At.below HATA.out.1 bV) (fun hh => absurd hh HATA.out.2) (by have := HML.out; unfold maxLen; omega) (by have := HML.out; omega) (by omega) (fun r5 d5 wk ho3 hg3 ht3 => ?_)
  simp only [Nat.zero_add, List.nil_append] at ho3 ht3 ⊢
  have hbk : Below X.heap.size X wk := bV.grown hg3 bV.size (fun j hj => by simp [Value.ownBlock] at hj; omega)
  have HYC := Hid.mk HYY.out
  obtain ⟨cells1', G', hS6⟩ := HSX.out.setWords (r := r5) (ys := us) (d := d5) HYC.out hbk (by have := HUL.out; have := HML.out; omega) (by rw [HUL.out]; exact ho3)
  rw [HUL.out] at hS6
  have HS6 := Hid.mk hS6
  have qs2 := cell_later hbk (cell_later HBXX.out HY0.out)
  have fs2 : wk.frozen? ⟨g1, B * 3, none⟩ = false := (HSX.out.below hbk).frozen1 (B * 3)
  clear ho3 hg3 ht3 hS6
  refine hK.out _ _ ?_ (fun hHeld' => ?_)
  · (try dsimp only)
    exact Off.below hbk
  clear hK K hHeld
  have hHeld := hHeld'
  clear hHeld'
  (try simp only [Act.put, List.setIfInBounds_toArray, List.set_cons_zero, List.set_cons_succ])
  refine tk 8 ?_
  refine tk 9 ?_
  refine wpAnyH_ready (rs := [10]) (by kernel_rfl) (by simp) ?_
  refine AllReadyH.cons (o := ?_) ?_ (fun K hK => ?_) AllReadyH.nil
  rotate_left
  · (simp only [List.getElem?_toArray, List.getElem?_cons_zero, List.getElem?_cons_succ]; rfl)
  go_simp
  skip
  (try go_wp2_with fail)
  refine hK.out _ _ ?_ (fun hHeld' => ?_)
  · (try dsimp only)
    exact (Off.below hbk).trans (Off.set (F := lo2) (a := ⟨g1, B * 3, none⟩) HSX.out.l1.1 _)
  clear hK K hHeld
  have hHeld := hHeld'
  clear hHeld'
  (try simp only [Act.put, List.setIfInBounds_toArray, List.set_cons_zero, List.set_cons_succ])
  refine wpAnyH_done (by kernel_rfl) ?_ _
  obtain ⟨X6, hX6⟩ : ∃ u, u = wk.setCell ⟨g1, B * 3, none⟩ (.slice r5 ML d5) := ⟨_, rfl⟩
  obtain ⟨WS2, hWS2⟩ : ∃ l, ws.set B (us, yr, yo) = l := ⟨_, rfl⟩
  have HS7 : Hid (SV X6 lo2 g0 n0 c0 g1 n1 c1 ps WS2 cells0 cells1' G') := Hid.mk (by rw [hX6, ← hWS2]; exact HS6.out)
  have hgo6 : Off lo2 X X6 := by rw [hX6]; exact (Off.below hbk).trans (Off.set (F := lo2) (a := ⟨g1, B * 3, none⟩) HSX.out.l1.1 _)
  have bb := (hgo6.block w.heap.size (by omega) (HNN2.out _ (by omega) (by omega))).trans bb
  have bx := (hgo6.block (w.heap.size + 1) (by omega) (HNN2.out _ (by omega) (by omega))).trans bx
  have br := (hgo6.block (w.heap.size + 2) (by omega) (HNN2.out _ (by omega) (by omega))).trans br
  have bw := (hgo6.block PW (by omega) HNW.out).trans bw
  have hO1 : cells1' = cells1' := rfl
  have HY1X : Hid (X6.cell? ⟨g1, B * 3 + 1, none⟩ = some (.slice e1 yr.length f1)) := Hid.mk (by rw [hX6]; exact (World.cell?_setCell_other _ _ _ _ (fun q => by injection q with _ q2 _; omega)).trans (cell_later hbk (cell_later HBXX.out HY1.out)))
  have HB7 := Hid.mk (HBX.out.trans (hgo6.mono HLE2.out))
  have HWS2 := Hid.mk hWS2
  have z6 := hgo6.size
  have HL1 := Hid.mk HSX.out.l1.1
  have HL0' := Hid.mk HSX.out.l0.1
  have hne01 : g0 ≠ g1 := HSX.out.ne
  have hB16 : B < n1 := hBk
  have hYC2 : WS2[B]? = some (us, yr, yo) := by rw [← hWS2]; exact List.getElem?_set_self (by have := HSX.out.wi.len; omega)
  have HYC2 := Hid.mk hYC2
  clear hYC2 hWS2 hgo6 HS6 qs2 fs2 hHeld q0 q1 x0 x1 x2 x3 u0 u1 u2 hbk HOE bV Yd wcell hO1 HYC
  rw [← hX6]
  clear hX6
  have hpos : ¬ (0 : Int) < u := by omega
  have HWSE : Hid (ws.set B (us, yr, false) = WS') := Hid.mk (by have q := HWS'.out; rw [HKE.out] at q; exact q)
  obtain ⟨_, _, r0, r1, r2⟩ := HS7.out.proc HHP.out
  have hTi : (T : Int) < (n0 : Int) := by omega
  have q0 := blk_cell bb 0 (v := .slice (some ⟨g0, 0, none⟩) n0 c0) rfl
  have q1 := blk_cell bb 1 (v := .slice (some ⟨g1, 0, none⟩) n1 c1) rfl
  have x0 := blk_cell bx 0 (v := .int .i64 2) rfl
  have x1 := blk_cell bx 1 (v := .int .i64 F) rfl
  have x2 := blk_cell bx 2 (v := .int .i64 T) rfl
  have x3 := blk_cell bx 3 (v := .int .i64 v) rfl
  have u0 := blk_cell bw 0 (v := .slice (some ⟨wb, woff, none⟩) ya.length f0) rfl
  have u1 := blk_cell bw 1 (v := .slice e1 yr.length f1) rfl
  have u2 := blk_cell bw 2 (v := .bool yo) rfl
  obtain ⟨_, _, _, _, _, _, _, _, _, _, y2, _⟩ := HS7.out.wire HYC2.out
  have fz := HS7.out.frozen1 (B * 3 + 2)
  go_upto_region 31 with fail
  obtain ⟨cells2, G2, hS9⟩ := HS7.out.setOpen HYC2.out false
  obtain ⟨X9, hX9⟩ : ∃ x, x = X6.setCell ⟨g1, B * 3 + 2, none⟩ (.bool false) := ⟨_, rfl⟩
  rw [← hX9] at hS9 ⊢
  have HS9 : Hid (SV X9 lo2 g0 n0 c0 g1 n1 c1 ps WS' cells0 cells2 G2) := Hid.mk (by have q := hS9; rw [← HWS2.out, List.set_set, HWSE.out] at q; exact q)
  have hO9 : Off (fun b => b = g1) X6 X9 := by rw [hX9]; exact Off.set (F := fun b => b = g1) (a := ⟨g1, B * 3 + 2, none⟩) rfl _
  have bb := (hO9.block w.heap.size (by omega) (by omega)).trans bb
  have br := (hO9.block (w.heap.size + 2) (by omega) (by omega)).trans br
  have HB9 := Hid.mk (HB7.out.trans (hO9.mono (F' := lo) (fun b hb => by have h2 : b = g1 := hb; rw [h2]; exact HLE2.out _ HL1.out)))
  clear hX9 hS9 hO9 r0 r1 r2 y2 fz q0 q1 x0 x1 x2 x3 u0 u1 u2
  have p0 := blk_cell bb 0 (v := .slice (some ⟨g0, 0, none⟩) n0 c0) rfl
  have p1 := blk_cell bb 1 (v := .slice (some ⟨g1, 0, none⟩) n1 c1) rfl
  have y0 := blk_cell br 0 (v := .slice none 0 0) rfl
  have y1 := blk_cell br 1 (v := .slice none 0 0) rfl
  have fz0 := blk_frozen br 0
  have fz1 := blk_frozen br 1
  obtain ⟨Y, hY⟩ : ∃ u, u = (X9.setCell ⟨w.heap.size + 2, 0, none⟩ (.slice (some ⟨g0, 0, none⟩) n0 c0)).setCell ⟨w.heap.size + 2, 1, none⟩ (.slice (some ⟨g1, 0, none⟩) n1 c1) := ⟨_, rfl⟩
  have S : Off (fun b => b = w.heap.size + 2) X9 Y := by rw [hY]; exact (Off.set (F := fun b => b = w.heap.size + 2) (a := ⟨w.heap.size + 2, 0, none⟩) rfl _).trans (Off.set (F := fun b => b = w.heap.size + 2) (a := ⟨w.heap.size + 2, 1, none⟩) rfl _)
  have RR : Hid (Off lo w Y ∧ ∃ cells0 cells1 G, SV Y lo g0 n0 c0 g1 n1 c1 (ps) (WS') cells0 cells1 G) := Hid.mk
    (⟨HB9.out.trans (S.mono (fun b h => by have h2 : b = w.heap.size + 2 := h; exact HUP.out b (by omega))), _, _, _, (HS9.out.frame (fun b hb hl => S.block b hl (fun e => by have h2 : b = w.heap.size + 2 := e; exact HNN2.out b (by omega) (by omega) hb)) S.size).mono HLE2.out⟩)
  have HY := Hid.mk hY
  clear S hY
  go_wp2
  refine bodyPost_ret (v := .tuple #[.agg #[.slice (some ⟨g0, 0, none⟩) n0 c0, .slice (some ⟨g1, 0, none⟩) n1 c1], .bool true]) (by simp [results, Try.results31, go_sem, y0, y1]) rfl ?_
  have h := RR.out
  rw [HY.out] at h
  exact ⟨rfl, h⟩

set_option maxRecDepth 100000 in
set_option maxHeartbeats 20000000 in
theorem l15Step_take_save (lo : Nat → Prop) (g0 n0 c0 g1 n1 c1 : Nat) (F T : Nat) (v : Int) (ps : List TProc) (ws : List TWire) (cells0 cells1 : List Value) (G : Nat → Nat → Prop) (w : World) (hn : n0 ≤ 4) (h1 : n1 = n0 * n0) (hF : F < n0) (hT : T < n0) (hne : F ≠ T) (y : TWire) (hy : ws[F * n0 + T]? = some y) (u : Int) (us : List Int) (hyw : y.1 = u :: us) (hyl : y.1.length ≤ 12) (hyr : y.2.1.length < 200) (q0' q1' : Int) (hp : ps[T]? = some (q0', q1', false)) (hu0 : ¬ 0 < u) (hf : Few ws) (h : SV w lo g0 n0 c0 g1 n1 c1 ps ws cells0 cells1 G) :
    Calls Try.prog 31 #[.agg #[.slice (some ⟨g0, 0, none⟩) n0 c0, .slice (some ⟨g1, 0, none⟩) n1 c1], .agg #[.int .i64 2, .int .i64 F, .int .i64 T, .int .i64 v]] w fun e w' => e = .returned (.tuple #[.agg #[.slice (some ⟨g0, 0, none⟩) n0 c0, .slice (some ⟨g1, 0, none⟩) n1 c1], .bool (svM n0 T F n0 0 (ws.set (F * n0 + T) (us, y.2.1, y.2.2))).1]) ∧ Off lo w w' ∧ ((svM n0 T F n0 0 (ws.set (F * n0 + T) (us, y.2.1, y.2.2))).1 = true → ∃ cells0 cells1 G, SV w' lo g0 n0 c0 g1 n1 c1 (ps.set T (q0', q0', true)) (svM n0 T F n0 0 (ws.set (F * n0 + T) (us, y.2.1, y.2.2))).2 cells0 cells1 G) := by
  obtain ⟨OK, hOK⟩ : ∃ x, (svM n0 T F n0 0 (ws.set (F * n0 + T) (us, y.2.1, y.2.2))).1 = x := ⟨_, rfl⟩
  obtain ⟨WS, hWS⟩ : ∃ x, (svM n0 T F n0 0 (ws.set (F * n0 + T) (us, y.2.1, y.2.2))).2 = x := ⟨_, rfl⟩
  have HOK := Hid.mk hOK
  have HWS := Hid.mk hWS
  have HFEW := Hid.mk hf
  clear hOK hWS hf
  have HYA := Hid.mk hyw
  have HYL := Hid.mk hyl
  have HYR := Hid.mk hyr
  have HHP := Hid.mk hp
  clear hyw hyl hyr hp
  obtain ⟨i0, hi0, hx0, hx1, hx2⟩ := info_parts Try.infoInt
  obtain ⟨W1, hW1⟩ : ∃ W, W = w.alloc (.cells #[.slice (some ⟨g0, 0, none⟩) n0 c0, .slice (some ⟨g1, 0, none⟩) n1 c1] 32) := ⟨_, rfl⟩
  obtain ⟨W2, hW2⟩ : ∃ W, W = W1.alloc (.cells #[.int .i64 2, .int .i64 F, .int .i64 T, .int .i64 v] 36) := ⟨_, rfl⟩
  obtain ⟨W, hW⟩ : ∃ W, W = W2.alloc (.cells #[.slice none 0 0, .slice none 0 0] 32) := ⟨_, rfl⟩
  have z1 : W1.heap.size = w.heap.size + 1 := by rw [hW1]; simp
  have z2 : W2.heap.size = w.heap.size + 2 := by rw [hW2]; simp [z1]
  have zW : W.heap.size = w.heap.size + 3 := by rw [hW]; simp [z2]
  have B01 : Below w.heap.size w W1 := by rw [hW1]; exact (Below.refl _ _).alloc (Nat.le_refl _) _
  have B12 : Below W1.heap.size W1 W2 := by rw [hW2]; exact (Below.refl _ _).alloc (Nat.le_refl _) _
  have B23 : Below W2.heap.size W2 W := by rw [hW]; exact (Below.refl _ _).alloc (Nat.le_refl _) _
  have bb : W.heap[w.heap.size]? = some (.cells #[.slice (some ⟨g0, 0, none⟩) n0 c0, .slice (some ⟨g1, 0, none⟩) n1 c1] 32 (0, 0)) := blk_below (blk_below (by rw [hW1]; exact heap_alloc_new w _) B12) B23
  have bx : W.heap[w.heap.size + 1]? = some (.cells #[.int .i64 2, .int .i64 F, .int .i64 T, .int .i64 v] 36 (0, 0)) := blk_below (by rw [hW2, ← z1]; exact heap_alloc_new W1 _) B23
  have br : W.heap[w.heap.size + 2]? = some (.cells #[.slice none 0 0, .slice none 0 0] 32 (0, 0)) := by rw [hW, ← z2]; exact heap_alloc_new W2 _
  have B0 : Below w.heap.size w W := B01.trans ((B12.mono (by omega)).trans (B23.mono (by omega)))
  have hWW : W = ((w.alloc (.cells #[.slice (some ⟨g0, 0, none⟩) n0 c0, .slice (some ⟨g1, 0, none⟩) n1 c1] 32)).alloc (.cells #[.int .i64 2, .int .i64 F, .int .i64 T, .int .i64 v] 36)).alloc (.cells #[.slice none 0 0, .slice none 0 0] 32) := by rw [hW, hW2, hW1]
  clear B01 B12 B23 hW hW1 hW2 z1 z2 W1 W2
  have HUP := Hid.mk h.up
  obtain ⟨lo', hlo'⟩ : ∃ l : Nat → Prop, l = fun b => lo b ∧ ¬ (w.heap.size ≤ b ∧ b < w.heap.size + 3) := ⟨_, rfl⟩
  have HLE : Hid (∀ b, lo' b → lo b) := Hid.mk (fun b hb => by rw [hlo'] at hb; exact hb.1)
  have HNN : Hid (∀ b, w.heap.size ≤ b → b < w.heap.size + 3 → ¬ lo' b) := Hid.mk (fun b hb hb2 h2 => by rw [hlo'] at h2; exact h2.2 ⟨hb, hb2⟩)
  have hW0 : SV W lo' g0 n0 c0 g1 n1 c1 ps ws cells0 cells1 G := by
    rw [hlo']
    exact h.shunX (X := fun b => w.heap.size ≤ b ∧ b < w.heap.size + 3) (fun b hb => by omega) B0
  have l0 : lo' g0 ∧ g0 < w.heap.size := ⟨hW0.l0.1, h.l0.2⟩
  have l1 : lo' g1 ∧ g1 < w.heap.size := ⟨hW0.l1.1, h.l1.2⟩
  have HS0 := Hid.mk hW0
  have HB := Hid.mk (show Off lo w W from Off.below B0)
  have HZW := Hid.mk zW
  have HL0 : Hid (ps.length = n0) := Hid.mk h.pr.len
  have HL1 : Hid (ws.length = n1) := Hid.mk h.wi.len
  have q0 := blk_cell bb 0 (v := .slice (some ⟨g0, 0, none⟩) n0 c0) rfl
  have q1 := blk_cell bb 1 (v := .slice (some ⟨g1, 0, none⟩) n1 c1) rfl
  have x0 := blk_cell bx 0 (v := .int .i64 2) rfl
  have x1 := blk_cell bx 1 (v := .int .i64 F) rfl
  have x2 := blk_cell bx 2 (v := .int .i64 T) rfl
  have x3 := blk_cell bx 3 (v := .int .i64 v) rfl
  clear h hW0 hlo' zW B0
  have HN1 := Hid.mk h1
  clear h1
  go_enter Try.func31, Try.ntmps31
  go_upto_region 1 with fail
  rw [← hWW]
  clear hWW
  have hF0 : ¬ (F : Int) < 0 := by omega
  have hFn : ¬ (n0 : Int) ≤ (F : Int) := by omega
  have hT0 : ¬ (T : Int) < 0 := by omega
  have hTn : ¬ (n0 : Int) ≤ (T : Int) := by omega
  have hFT : ((F : Int) == (T : Int)) = false := beq_eq_false_iff_ne.2 (by omega)
  have hN16 : n1 ≤ 16 := by rw [HN1.out]; exact Nat.mul_le_mul hn hn
  have hBk : F * n0 + T < n1 := by rw [HN1.out]; exact idx_lt hF hT
  obtain ⟨KN, hKN⟩ : ∃ A, F * n0 = A := ⟨_, rfl⟩
  have hKE : F * n0 + T = KN + T := by rw [hKN]
  rw [hKN] at hBk hy
  have v1 : IntKind.i64.wrap ((F : Int) * (n0 : Int)) = (KN : Int) := by rw [← Int.natCast_mul, hKN]; exact IntWalk.i64_in _ (by omega)
  obtain ⟨B, hB⟩ : ∃ B, KN + T = B := ⟨_, rfl⟩
  have v3 : IntKind.i64.wrap ((KN : Int) + (T : Int)) = (B : Int) := (IntWalk.i64_in _ (by omega)).trans (by omega)
  rw [hB] at hBk hy hKE
  have HKE := Hid.mk hKE
  have hBi : (B : Int) < (n1 : Int) := by omega
  obtain ⟨ya, yr, yo⟩ := y
  obtain ⟨e0, f0, e1, f1, F0, F1, _, hsub, y0, y1, y2, o0, o1, ff0, ff1, dd⟩ := HS0.out.wire hy
  have HYY := Hid.mk hy
  have HOW := Hid.mk (RInts.own_iff.1 o0).2.2.1
  have HOR := Hid.mk (RInts.own_iff.1 o1).2.2.1
  have HATW := Hid.mk (At.owned (RInts.own_iff.1 o0).2.2.1)
  have HNIL := Hid.mk (fun (hh : e0 = none) => (RInts.at_iff.1 (RInts.toAt o0)).2.2.2 hh)
  have HY0 := Hid.mk y0
  have HY1 := Hid.mk y1
  obtain ⟨PW, hPW⟩ : ∃ P, W.heap.size = P := ⟨_, rfl⟩
  obtain ⟨X, hX⟩ : ∃ u, u = W.alloc (.cells #[.slice e0 ya.length f0, .slice e1 yr.length f1, .bool yo] 76) := ⟨_, rfl⟩
  have bX : Below W.heap.size W X := by rw [hX]; exact (Below.refl _ _).alloc (Nat.le_refl _) _
  have bw : X.heap[PW]? = some (.cells #[.slice e0 ya.length f0, .slice e1 yr.length f1, .bool yo] 76 (0, 0)) := by rw [hX, ← hPW]; exact heap_alloc_new W _
  have zX : PW < X.heap.size := by rw [hX, ← hPW]; simp
  have bb := blk_below bb bX
  have bx := blk_below bx bX
  have br := blk_below br bX
  have HBX := Hid.mk (HB.out.trans (Off.below bX))
  obtain ⟨lo2, hlo2⟩ : ∃ l : Nat → Prop, l = fun b => lo' b ∧ ¬ b = PW := ⟨_, rfl⟩
  have HLE2 : Hid (∀ b, lo2 b → lo b) := Hid.mk (fun b hb => by rw [hlo2] at hb; exact HLE.out b hb.1)
  have HNN2 : Hid (∀ b, w.heap.size ≤ b → b < w.heap.size + 3 → ¬ lo2 b) := Hid.mk (fun b hb hb2 h2 => by rw [hlo2] at h2; exact HNN.out b hb hb2 h2.1)
  have HNW : Hid (¬ lo2 PW) := Hid.mk (fun h2 => by rw [hlo2] at h2; exact h2.2 rfl)
  have HSX : Hid (SV X lo2 g0 n0 c0 g1 n1 c1 ps ws cells0 cells1 G) := Hid.mk (by rw [hlo2]; exact HS0.out.shunX (X := fun b => b = PW) (fun b hb => by have h2 : b = PW := hb; omega) bX)
  have hPg : g0 ≠ PW ∧ g1 ≠ PW := ⟨by have := HZW.out; omega, by have := HZW.out; omega⟩
  have hPw : w.heap.size + 3 ≤ PW := by have := HZW.out; omega
  have HBXX := Hid.mk bX
  clear HS0 HB hlo2 hKN hy bX o0 o1 hsub hKE
  go_upto_region 12 with fail
  rw [← hX]
  clear hX
  (try rw [hPW])
  have HPW := Hid.mk hPW
  clear hPW y0 y1 y2 q0 q1 x0 x1 x2 x3
  have HYA : Hid (ya = u :: us) := HYA
  have HYL : Hid (ya.length ≤ 12) := HYL
  have HYR : Hid (yr.length < 200) := HYR
  have hlen : us.length = ya.length - 1 ∧ 1 ≤ ya.length := by rw [HYA.out]; simp
  obtain ⟨wb, woff, rfl, hwb, hwc⟩ := HATW.out.some (by omega)
  have hcap : ya.length ≤ f0 := ownCap' HOW.out
  have wcell : X.cell? ⟨wb, woff, none⟩ = some (.int .i64 u) := by
    have q := hwc 0 (by omega)
    rw [show ya.getD 0 0 = u by rw [HYA.out]; rfl, Nat.add_zero] at q
    exact cell_later HBXX.out q
  have HATS : Hid (At X (some ⟨wb, woff + 1, none⟩) us) := Hid.mk (.inr ⟨wb, woff + 1, rfl, fun i hi => by
    have q := hwc (i + 1) (by omega)
    rw [show ya.getD (i + 1) 0 = us.getD i 0 by rw [HYA.out]; rfl, show woff + (i + 1) = woff + 1 + i by omega] at q
    exact cell_later HBXX.out q⟩)
  have hE0 : ((ya.length : Int) == 0) = false := beq_eq_false_iff_ne.2 (by omega)
  have hE2 : ((yr.length : Int) == 200) = false := beq_eq_false_iff_ne.2 (by have := HYR.out; omega)
  have hi0' : (0 : Int) < (ya.length : Int) := by omega
  have HLEN := Hid.mk hlen
  have hi1' : (1 : Int) ≤ (ya.length : Int) := by omega
  obtain ⟨AO, hAO⟩ : ∃ a, (if f0 = 1 then some ⟨wb, woff, none⟩ else some ⟨wb, woff + 1, none⟩ : Option Addr) = a := ⟨_, rfl⟩
  obtain ⟨ML, hML⟩ : ∃ m, ya.length - 1 = m := ⟨_, rfl⟩
  have HUL : Hid (us.length = ML) := Hid.mk (by rw [← hML]; exact hlen.1)
  have HML : Hid (ML ≤ 12) := Hid.mk (by have := HYL.out; omega)
  have HATA : Hid (At X AO us ∧ AO ≠ none) := Hid.mk (by
    rw [← hAO]
    by_cases hf : f0 = 1
    · rw [if_pos hf]
      have : us.length = 0 := by omega
      exact ⟨.inl (List.eq_nil_of_length_eq_zero this), by simp⟩
    · rw [if_neg hf]; exact ⟨HATS.out, by simp⟩)
  have zn1 := HNN2.out w.heap.size (by omega) (by omega)
  have zn2 := HNN2.out (w.heap.size + 1) (by omega) (by omega)
  have zn3 := HNW.out
  clear hwc hlen
  have q0 := blk_cell bb 0 (v := .slice (some ⟨g0, 0, none⟩) n0 c0) rfl
  have q1 := blk_cell bb 1 (v := .slice (some ⟨g1, 0, none⟩) n1 c1) rfl
  have x0 := blk_cell bx 0 (v := .int .i64 2) rfl
  have x1 := blk_cell bx 1 (v := .int .i64 F) rfl
  have x2 := blk_cell bx 2 (v := .int .i64 T) rfl
  have x3 := blk_cell bx 3 (v := .int .i64 v) rfl
  have u0 := blk_cell bw 0 (v := .slice (some ⟨wb, woff, none⟩) ya.length f0) rfl
  have u1 := blk_cell bw 1 (v := .slice e1 yr.length f1) rfl
  have u2 := blk_cell bw 2 (v := .bool yo) rfl
  go_upto_region 23 with fail
  refine wp_region_held_drew (S := fun w' => Off lo2 X w') (by kernel_rfl) ?_ (fun hHeld => ?_)
  · (try dsimp only)
    exact (Off.refl _ _).drew
  refine tk 0 ?_
  refine tk 1 ?_ (hy := fun wS hSw => by (have q1 := Off.cell hSw q1 (zn1); go_simp; (try with_reducible rfl)))
  refine tk 2 ?_
  refine tk 4 ?_
  refine tk 5 ?_ (hy := fun wS hSw => by (have u0 := Off.cell hSw u0 (zn3); go_simp; (try with_reducible rfl)))
  refine tk 6 ?_
  obtain ⟨ud, hud⟩ : ∃ u, u = X.drew := ⟨_, rfl⟩
  have Yd : Below X.heap.size X ud := by rw [hud]; exact (Below.refl _ _).drew
  rw [← hud]
  clear hud
  refine wpAnyH_ready (rs := [3]) (by kernel_rfl) (by simp) ?_
  refine AllReadyH.cons (o := ?_) ?_ (fun K hK => ?_) AllReadyH.nil
  rotate_left
  · (simp only [List.getElem?_toArray, List.getElem?_cons_zero, List.getElem?_cons_succ]; rfl)
  go_simp
  skip
  (try go_wp2_with fail)
  refine hK.out _ _ ?_ (fun hHeld' => ?_)
  · (try dsimp only)
    exact Off.below (Yd.alloc Yd.size _)
  clear hK K hHeld
  have hHeld := hHeld'
  clear hHeld'
  (try simp only [Act.put, List.setIfInBounds_toArray, List.set_cons_zero, List.set_cons_succ])
  obtain ⟨vk, hvk⟩ : ∃ u, u = ud.alloc (.cells #[] 3) := ⟨_, rfl⟩
  have HOE := Hid.mk (own_void ud 3 1)
  rw [← hvk] at HOE
  have bV : Below X.heap.size X vk := by rw [hvk]; exact Yd.alloc Yd.size _
  have zvk : vk.heap.size = ud.heap.size + 1 := by rw [hvk]; simp
  have zud := Yd.size
  rw [← hvk]
  clear hvk
  refine wpAnyH_ready (rs := [7]) (by kernel_rfl) (by simp) ?_
  refine AllReadyH.cons (o := ?_) ?_ (fun K hK => ?_) AllReadyH.nil
  rotate_left
  · (simp only [List.getElem?_toArray, List.getElem?_cons_zero, List.getElem?_cons_succ]; rfl)
  refine step_append_all rfl (.tmp 141) (.tmp 144) 41 rfl X.heap.size 3 i0 (.int .i64 0) 8 Try.underlying41 hi0 hx0 hx1 hx2 rfl (.slice (some ⟨ud.heap.size, 0, none⟩) 0 0) 0 [] (by simp [Act.eval]) (owns_mono HOE.out zud) AO ML (f0 - 1) us (by simp [Act.eval]) HUL.out (At.below HATA.out.1 bV) (fun hh => absurd hh HATA.out.2) (by have := HML.out; unfold maxLen; omega) (by have := HML.out; omega) (by omega) (fun r5 d5 wk ho3 hg3 ht3 => ?_)
  simp only [Nat.zero_add, List.nil_append] at ho3 ht3 ⊢
  have hbk : Below X.heap.size X wk := bV.grown hg3 bV.size (fun j hj => by simp [Value.ownBlock] at hj; omega)
  have HYC := Hid.mk HYY.out
  obtain ⟨cells1', G', hS6⟩ := HSX.out.setWords (r := r5) (ys := us) (d := d5) HYC.out hbk (by have := HUL.out; have := HML.out; omega) (by rw [HUL.out]; exact ho3)
  rw [HUL.out] at hS6
  have HS6 := Hid.mk hS6
  have qs2 := cell_later hbk (cell_later HBXX.out HY0.out)
  have fs2 : wk.frozen? ⟨g1, B * 3, none⟩ = false := (HSX.out.below hbk).frozen1 (B * 3)
  clear ho3 hg3 ht3 hS6
  refine hK.out _ _ ?_ (fun hHeld' => ?_)
  · (try dsimp only)
    exact Off.below hbk
  clear hK K hHeld
  have hHeld := hHeld'
  clear hHeld'
  (try simp only [Act.put, List.setIfInBounds_toArray, List.set_cons_zero, List.set_cons_succ])
  refine tk 8 ?_
  refine tk 9 ?_
  refine wpAnyH_ready (rs := [10]) (by kernel_rfl) (by simp) ?_
  refine AllReadyH.cons (o := ?_) ?_ (fun K hK => ?_) AllReadyH.nil
  rotate_left
  · (simp only [List.getElem?_toArray, List.getElem?_cons_zero, List.getElem?_cons_succ]; rfl)
  go_simp
  skip
  (try go_wp2_with fail)
  refine hK.out _ _ ?_ (fun hHeld' => ?_)
  · (try dsimp only)
    exact (Off.below hbk).trans (Off.set (F := lo2) (a := ⟨g1, B * 3, none⟩) HSX.out.l1.1 _)
  clear hK K hHeld
  have hHeld := hHeld'
  clear hHeld'
  (try simp only [Act.put, List.setIfInBounds_toArray, List.set_cons_zero, List.set_cons_succ])
  refine wpAnyH_done (by kernel_rfl) ?_ _
  obtain ⟨X6, hX6⟩ : ∃ u, u = wk.setCell ⟨g1, B * 3, none⟩ (.slice r5 ML d5) := ⟨_, rfl⟩
  obtain ⟨WS2, hWS2⟩ : ∃ l, ws.set B (us, yr, yo) = l := ⟨_, rfl⟩
  have HS7 : Hid (SV X6 lo2 g0 n0 c0 g1 n1 c1 ps WS2 cells0 cells1' G') := Hid.mk (by rw [hX6, ← hWS2]; exact HS6.out)
  have hgo6 : Off lo2 X X6 := by rw [hX6]; exact (Off.below hbk).trans (Off.set (F := lo2) (a := ⟨g1, B * 3, none⟩) HSX.out.l1.1 _)
  have bb := (hgo6.block w.heap.size (by omega) (HNN2.out _ (by omega) (by omega))).trans bb
  have bx := (hgo6.block (w.heap.size + 1) (by omega) (HNN2.out _ (by omega) (by omega))).trans bx
  have br := (hgo6.block (w.heap.size + 2) (by omega) (HNN2.out _ (by omega) (by omega))).trans br
  have bw := (hgo6.block PW (by omega) HNW.out).trans bw
  have hO1 : cells1' = cells1' := rfl
  have HY1X : Hid (X6.cell? ⟨g1, B * 3 + 1, none⟩ = some (.slice e1 yr.length f1)) := Hid.mk (by rw [hX6]; exact (World.cell?_setCell_other _ _ _ _ (fun q => by injection q with _ q2 _; omega)).trans (cell_later hbk (cell_later HBXX.out HY1.out)))
  have HB7 := Hid.mk (HBX.out.trans (hgo6.mono HLE2.out))
  have HWS2 := Hid.mk hWS2
  have z6 := hgo6.size
  have HL1 := Hid.mk HSX.out.l1.1
  have HL0' := Hid.mk HSX.out.l0.1
  have hne01 : g0 ≠ g1 := HSX.out.ne
  have hB16 : B < n1 := hBk
  have hYC2 : WS2[B]? = some (us, yr, yo) := by rw [← hWS2]; exact List.getElem?_set_self (by have := HSX.out.wi.len; omega)
  have HYC2 := Hid.mk hYC2
  clear hYC2 hWS2 hgo6 HS6 qs2 fs2 hHeld q0 q1 x0 x1 x2 x3 u0 u1 u2 hbk HOE bV Yd wcell hO1 HYC
  rw [← hX6]
  clear hX6
  have hpos : ¬ (0 : Int) < u := by omega
  obtain ⟨_, _, r0, r1, r2⟩ := HS7.out.proc HHP.out
  have hTi : (T : Int) < (n0 : Int) := by omega
  have hfw : Few WS2 := by rw [← HWS2.out]; exact Few.set (x := (us, yr, yo)) HFEW.out B (by have := HUL.out; have := HML.out; show us.length ≤ 12; omega)
  have KS := Hid.mk (l15Save_any lo2 g0 n0 c0 g1 n1 c1 T F ps WS2 cells0 cells1' G' X6 (q0', q1', false) hn HN1.out hT HHP.out hfw HS7.out)
  have hOK2 : (svM n0 T F n0 0 WS2).1 = OK := by have q := HOK.out; (try simp only at q); rw [HKE.out, HWS2.out] at q; exact q
  have hWS2' : (svM n0 T F n0 0 WS2).2 = WS := by have q := HWS.out; (try simp only at q); rw [HKE.out, HWS2.out] at q; exact q
  rw [hOK2, hWS2'] at KS
  clear hOK2 hWS2' hfw
  have q0 := blk_cell bb 0 (v := .slice (some ⟨g0, 0, none⟩) n0 c0) rfl
  have q1 := blk_cell bb 1 (v := .slice (some ⟨g1, 0, none⟩) n1 c1) rfl
  have x0 := blk_cell bx 0 (v := .int .i64 2) rfl
  have x1 := blk_cell bx 1 (v := .int .i64 F) rfl
  have x2 := blk_cell bx 2 (v := .int .i64 T) rfl
  have x3 := blk_cell bx 3 (v := .int .i64 v) rfl
  have u0 := blk_cell bw 0 (v := .slice (some ⟨wb, woff, none⟩) ya.length f0) rfl
  have u1 := blk_cell bw 1 (v := .slice e1 yr.length f1) rfl
  have u2 := blk_cell bw 2 (v := .bool yo) rfl
  go_wp2_with fail
  refine KS.out.mono ?_
  rintro e w3 ⟨rfl, hb3, hsv3⟩
  have br := (hb3.block (w.heap.size + 2) (by omega) (HNN2.out _ (by omega) (by omega))).trans br
  have HB3 := Hid.mk (HB7.out.trans (hb3.mono HLE2.out))
  have HSV3 := Hid.mk hsv3
  clear KS hsv3 hb3 q0 q1 x0 x1 x2 x3 u0 u1 u2 r0 r1 r2 bb bx bw
  have y0 := blk_cell br 0 (v := .slice none 0 0) rfl
  have y1 := blk_cell br 1 (v := .slice none 0 0) rfl
  have fz0 := blk_frozen br 0
  have fz1 := blk_frozen br 1
  obtain ⟨Y, hY⟩ : ∃ u, u = (w3.setCell ⟨w.heap.size + 2, 0, none⟩ (.slice (some ⟨g0, 0, none⟩) n0 c0)).setCell ⟨w.heap.size + 2, 1, none⟩ (.slice (some ⟨g1, 0, none⟩) n1 c1) := ⟨_, rfl⟩
  have S : Off (fun b => b = w.heap.size + 2) w3 Y := by rw [hY]; exact (Off.set (F := fun b => b = w.heap.size + 2) (a := ⟨w.heap.size + 2, 0, none⟩) rfl _).trans (Off.set (F := fun b => b = w.heap.size + 2) (a := ⟨w.heap.size + 2, 1, none⟩) rfl _)
  have RR : Hid (Off lo w Y ∧ (OK = true → ∃ cells0 cells1 G, SV Y lo g0 n0 c0 g1 n1 c1 (ps.set T (q0', q0', true)) WS cells0 cells1 G)) := Hid.mk
    ⟨HB3.out.trans (S.mono (fun b h => by have h2 : b = w.heap.size + 2 := h; exact HUP.out b (by omega))), fun hok => by
      obtain ⟨ca, cb, G', hs⟩ := HSV3.out hok
      exact ⟨ca, cb, G', (hs.frame (fun b hb hl => S.block b hl (fun e => by have h2 : b = w.heap.size + 2 := e; exact HNN2.out b (by omega) (by omega) hb)) S.size).mono HLE2.out⟩⟩
  have HY := Hid.mk hY
  clear S hY
  go_wp2
  refine bodyPost_ret (v := .tuple #[.agg #[.slice (some ⟨g0, 0, none⟩) n0 c0, .slice (some ⟨g1, 0, none⟩) n1 c1], .bool OK]) (by simp [results, Try.results31, go_sem, y0, y1]) rfl ?_
  have h := RR.out
  rw [HY.out] at h
  rw [HOK.out, HWS.out]
  exact ⟨rfl, h.1, h.2⟩

end Go.Proofs.Ytnfdncofobkjhaa
