/- Several texts of one proof, in build order: SvJ, SvK, SvL. -/
import Derived.Test.YtnfdncofobkjhaaM9

/- Contract of impl.sendAmount. -/
namespace Go.Proofs.Ytnfdncofobkjhaa
open Go.RowKit

/-- putWord at a wire of a snap. -/
theorem putSV {lo : Nat → Prop} {g0 n0 c0 g1 n1 c1 B : Nat} {ps : List TProc} {ws : List TWire} {cells0 cells1 : List Value} {G : Nat → Nat → Prop} {w : World} {y : TWire} (v : Int) (h : SV w lo g0 n0 c0 g1 n1 c1 ps ws cells0 cells1 G) (hf : y.1.length ≤ 12) (hB : B < n1) (hy : ws[B]? = some y) :
    Calls Try.prog 88 #[.pointer (some ⟨g1, B * 3, none⟩), .int .i64 v] w fun e w' => e = .returned (.bool (decide (y.1.length < 12))) ∧ Off lo w w' ∧ (∀ b, b < w.heap.size → b ≠ g1 → w'.heap[b]? = w.heap[b]?) ∧
      (y.1.length < 12 → ∃ cells1 G, SV w' lo g0 n0 c0 g1 n1 c1 ps (ws.set B (y.1 ++ [v], y.2.1, y.2.2)) cells0 cells1 G) := by
  obtain ⟨cur, hcur, hcc⟩ := h.blk1
  obtain ⟨e0, f0, e1, f1, F0, F1, _, hs5, _, _, _, o0, _⟩ := h.wire (x0 := y.1) (x1 := y.2.1) (b := y.2.2) hy
  have l1 := h.l1
  have hat := At.owned (RInts.own_iff.1 o0).2.2.1
  have hcs : cur[B * 3]? = some (.slice e0 y.1.length f0) := by
    rw [hcc (B * 3) (by omega)]
    have q := sub_at (cells := cells1) (o := B * 3) (k := 3) (j := 0) (by omega)
    rw [hs5] at q
    exact q.symm
  refine (putWord_any g1 (B * 3) e0 y.1.length f0 y.1 v cur 76 w rfl hf hcur hcs hat).mono ?_
  rintro e w6 (⟨hl12, r, d, V, rfl, hbV, ho, rfl⟩ | ⟨hge, rfl, hbV⟩)
  · have hl : (y.1 ++ [v]).length = y.1.length + 1 := by simp
    rw [← hl] at ho
    obtain ⟨cells1', G', hS6⟩ := h.setWords hy hbV (by rw [hl]; omega) ho
    rw [hl] at hS6
    exact ⟨by simp [hl12], (show Off lo w V from Off.below hbV).setCellO l1.1 _, fun b hb hne => (Below.heap_setCell _ _ _ _ hne).trans (hbV.block b hb), fun _ => ⟨cells1', G', hS6⟩⟩
  · exact ⟨by simp [hge], Off.below hbV, fun b hb _ => hbV.block b hb, fun q => absurd q hge⟩

def snF (n f t : Nat) (v : Int) (p : TProc) (ws : List TWire) : Bool := stB v && decide (v ≤ p.1) && decide ((wirAt ws (f * n + t)).1.length < 12)
def snP (f : Nat) (v : Int) (p : TProc) (ps : List TProc) : List TProc := ps.set f (p.1 - v, p.2.1, p.2.2)
def snW (n f t : Nat) (v : Int) (ws : List TWire) : List TWire := ws.set (f * n + t) ((wirAt ws (f * n + t)).1 ++ [v], (wirAt ws (f * n + t)).2.1, (wirAt ws (f * n + t)).2.2)

set_option maxRecDepth 100000 in
set_option maxHeartbeats 8000000 in
theorem sendAmount_any (lo : Nat → Prop) (g0 n0 c0 g1 n1 c1 f t : Nat) (kd v : Int) (ps : List TProc) (ws : List TWire) (cells0 cells1 : List Value) (G : Nat → Nat → Prop) (w : World) (p : TProc) (hn : n0 ≤ 4) (h1 : n1 = n0 * n0) (hft : f < n0) (htt : t < n0) (hp : ps[f]? = some p) (hpo : 0 ≤ p.1 ∧ p.1 ≤ 2000000000) (hf : Few ws)
    (h : SV w lo g0 n0 c0 g1 n1 c1 ps ws cells0 cells1 G) :
    Calls Try.prog 69 #[.agg #[.slice (some ⟨g0, 0, none⟩) n0 c0, .slice (some ⟨g1, 0, none⟩) n1 c1], .agg #[.int .i64 kd, .int .i64 f, .int .i64 t, .int .i64 v]] w fun e w' => e = .returned (.bool (snF n0 f t v p ws)) ∧ Off lo w w' ∧
      (snF n0 f t v p ws = true → ∃ cells0 cells1 G, SV w' lo g0 n0 c0 g1 n1 c1 (snP f v p ps) (snW n0 f t v ws) cells0 cells1 G) := by
  obtain ⟨W, hW⟩ : ∃ W, W = (w.alloc (.cells #[.slice (some ⟨g0, 0, none⟩) n0 c0, .slice (some ⟨g1, 0, none⟩) n1 c1] 32)).alloc (.cells #[.int .i64 kd, .int .i64 f, .int .i64 t, .int .i64 v] 36) := ⟨_, rfl⟩
  have hb : Below w.heap.size w W := by rw [hW]; exact ((Below.refl _ _).alloc (Nat.le_refl _) _).alloc (by simp) _
  have zW : W.heap.size = w.heap.size + 1 + 1 := by rw [hW]; simp
  have q0 : W.cell? ⟨w.heap.size, 0, none⟩ = some (.slice (some ⟨g0, 0, none⟩) n0 c0) := by rw [hW]; simp [go_sem]
  have q1 : W.cell? ⟨w.heap.size, 1, none⟩ = some (.slice (some ⟨g1, 0, none⟩) n1 c1) := by rw [hW]; simp [go_sem]
  have x1 : W.cell? ⟨w.heap.size + 1, 1, none⟩ = some (.int .i64 f) := by rw [hW]; simp [go_sem]
  have x2 : W.cell? ⟨w.heap.size + 1, 2, none⟩ = some (.int .i64 t) := by rw [hW]; simp [go_sem]
  have x3 : W.cell? ⟨w.heap.size + 1, 3, none⟩ = some (.int .i64 v) := by rw [hW]; simp [go_sem]
  have l0 := h.l0
  have l1 := h.l1
  have hW0 := h.below hb
  have KN := Hid.mk (fun V => isNotSent_any v V)
  obtain ⟨z0, z1, zb⟩ := p
  obtain ⟨_, _, r0, _, _⟩ := hW0.proc hp
  have hfi : (f : Int) < (n0 : Int) := by omega
  have HS0 := Hid.mk hW0
  have HP := Hid.mk hp
  have HF := Hid.mk hf
  have HB := Hid.mk (show Off lo w W from Off.below hb)
  have HN1 := Hid.mk h1
  have zl0 : w.heap.size < W.heap.size := by omega
  have zl1 : w.heap.size + 1 < W.heap.size := by omega
  have zl2 : g0 < W.heap.size := by omega
  clear hf hp h hW0 hb h1
  by_cases hs : stB v = true
  rotate_left
  · have hs : stB v = false := by simpa using hs
    rw [hs] at KN
    have HE : Hid (snF n0 f t v (z0, z1, zb) ws = false) := Hid.mk (by simp [snF, hs])
    rw [HE.out]
    clear HS0 HF HP
    go_enter Try.func69, Try.ntmps69
    go_upto_region 1 with fail
    rw [← hW]
    clear hW
    refine wp_region_held_drew (S := fun w' => w'.cell? ⟨w.heap.size, 0, none⟩ = some (.slice (some ⟨g0, 0, none⟩) n0 c0) ∧ w'.cell? ⟨w.heap.size + 1, 1, none⟩ = some (.int .i64 f) ∧ w'.cell? ⟨w.heap.size + 1, 3, none⟩ = some (.int .i64 v) ∧ w'.cell? ⟨g0, f * 3, none⟩ = some (.int .i64 z0)) (by kernel_rfl) ?_ (fun hHeld => ?_)
    · (try dsimp only)
      exact ⟨q0, x1, x3, r0⟩
    refine tk 0 ?_
    refine tk 1 ?_
    refine tr 2 (fun K hK => ?_)
    go_simp
    go_at_call 86
    refine (KN.out W.drew).mono ?_
    rintro e w1 ⟨rfl, h0⟩
    have h1 : Below W.heap.size W w1 := (Below.refl _ _).drew.trans h0
    clear h0
    (try go_wp2_with fail)
    refine hK.out _ _ ?_ (fun hHeld' => ?_)
    · (try dsimp only)
      exact ⟨(h1.cell zl0).trans q0, (h1.cell zl1).trans x1, (h1.cell zl1).trans x3, (h1.cell zl2).trans r0⟩
    clear hK K hHeld
    have hHeld := hHeld'
    clear hHeld'
    (try simp only [Act.put, List.setIfInBounds_toArray, List.set_cons_zero, List.set_cons_succ])
    refine tk 3 ?_
    refine tu 4 ?_
    refine tu 5 ?_
    refine tu 6 ?_
    refine tu 7 ?_
    refine tu 8 ?_
    refine tu 9 ?_
    refine tu 10 ?_
    refine tu 11 ?_
    refine tu 12 ?_
    refine tu 13 ?_
    refine tk 14 ?_
    refine wpAnyH_done (by kernel_rfl) ?_ _
    have HBW := Hid.mk (HB.out.trans (Off.below h1))
    clear h1 KN hHeld
    go_wp2
    go_ret
    exact ⟨rfl, HBW.out, fun q => by cases q⟩
  rw [hs] at KN
  have hv := stB_iff.1 hs
  have hz0 : 0 ≤ z0 ∧ z0 ≤ 2000000000 := hpo
  by_cases hle : v ≤ z0
  rotate_left
  · have hgt : z0 < v := by omega
    have HE : Hid (snF n0 f t v (z0, z1, zb) ws = false) := Hid.mk (by simp [snF, hs]; omega)
    rw [HE.out]
    clear HS0 HF HP
    go_enter Try.func69, Try.ntmps69
    go_upto_region 1 with fail
    rw [← hW]
    clear hW
    refine wp_region_held_drew (S := fun w' => w'.cell? ⟨w.heap.size, 0, none⟩ = some (.slice (some ⟨g0, 0, none⟩) n0 c0) ∧ w'.cell? ⟨w.heap.size + 1, 1, none⟩ = some (.int .i64 f) ∧ w'.cell? ⟨w.heap.size + 1, 3, none⟩ = some (.int .i64 v) ∧ w'.cell? ⟨g0, f * 3, none⟩ = some (.int .i64 z0)) (by kernel_rfl) ?_ (fun hHeld => ?_)
    · (try dsimp only)
      exact ⟨q0, x1, x3, r0⟩
    refine tk 0 ?_
    refine tk 1 ?_
    refine tr 2 (fun K hK => ?_)
    go_simp
    go_at_call 86
    refine (KN.out W.drew).mono ?_
    rintro e w1 ⟨rfl, h0⟩
    have h1 : Below W.heap.size W w1 := (Below.refl _ _).drew.trans h0
    clear h0
    (try go_wp2_with fail)
    refine hK.out _ _ ?_ (fun hHeld' => ?_)
    · (try dsimp only)
      exact ⟨(h1.cell zl0).trans q0, (h1.cell zl1).trans x1, (h1.cell zl1).trans x3, (h1.cell zl2).trans r0⟩
    clear hK K hHeld
    have hHeld := hHeld'
    clear hHeld'
    (try simp only [Act.put, List.setIfInBounds_toArray, List.set_cons_zero, List.set_cons_succ])
    refine tk 3 ?_
    refine tk 4 ?_
    refine tk 5 ?_
    refine tk 6 ?_
    refine tk 7 ?_
    refine tk 8 ?_
    refine tk 9 ?_
    refine tk 10 ?_
    refine tk 11 ?_
    refine tk 12 ?_
    refine tk 13 ?_
    refine tk 14 ?_
    refine wpAnyH_done (by kernel_rfl) ?_ _
    have HBW := Hid.mk (HB.out.trans (Off.below h1))
    clear h1 KN hHeld
    go_wp2
    go_ret
    exact ⟨rfl, HBW.out, fun q => by cases q⟩
  have hgt : ¬ z0 < v := by omega
  have hws : IntKind.i64.wrap (z0 - v) = z0 - v := IntWalk.i64_in _ (by omega)
  go_enter Try.func69, Try.ntmps69
  go_upto_region 1 with fail
  rw [← hW]
  clear hW
  refine wp_region_held_drew (S := fun w' => w'.cell? ⟨w.heap.size, 0, none⟩ = some (.slice (some ⟨g0, 0, none⟩) n0 c0) ∧ w'.cell? ⟨w.heap.size + 1, 1, none⟩ = some (.int .i64 f) ∧ w'.cell? ⟨w.heap.size + 1, 3, none⟩ = some (.int .i64 v) ∧ w'.cell? ⟨g0, f * 3, none⟩ = some (.int .i64 z0)) (by kernel_rfl) ?_ (fun hHeld => ?_)
  · (try dsimp only)
    exact ⟨q0, x1, x3, r0⟩
  refine tk 0 ?_
  refine tk 1 ?_
  refine tr 2 (fun K hK => ?_)
  go_simp
  go_at_call 86
  refine (KN.out W.drew).mono ?_
  rintro e w1 ⟨rfl, h0⟩
  have h1 : Below W.heap.size W w1 := (Below.refl _ _).drew.trans h0
  clear h0
  (try go_wp2_with fail)
  refine hK.out _ _ ?_ (fun hHeld' => ?_)
  · (try dsimp only)
    exact ⟨(h1.cell zl0).trans q0, (h1.cell zl1).trans x1, (h1.cell zl1).trans x3, (h1.cell zl2).trans r0⟩
  clear hK K hHeld
  have hHeld := hHeld'
  clear hHeld'
  (try simp only [Act.put, List.setIfInBounds_toArray, List.set_cons_zero, List.set_cons_succ])
  refine tk 3 ?_
  refine tk 4 ?_
  refine tk 5 ?_
  refine tk 6 ?_
  refine tk 7 ?_
  refine tk 8 ?_
  refine tk 9 ?_
  refine tk 10 ?_
  refine tk 11 ?_
  refine tk 12 ?_
  refine tk 13 ?_
  refine tk 14 ?_
  refine wpAnyH_done (by kernel_rfl) ?_ _
  have HS1 := Hid.mk (HS0.out.below h1)
  have HB1 := Hid.mk (HB.out.trans (Off.below h1))
  have q0 := (h1.cell zl0).trans q0
  have q1 := (h1.cell zl0).trans q1
  have x1 := (h1.cell zl1).trans x1
  have x2 := (h1.cell zl1).trans x2
  have x3 := (h1.cell zl1).trans x3
  have r0 := (h1.cell zl2).trans r0
  have fz := HS1.out.frozen0 (f * 3)
  have zs1 := h1.size
  clear HS0 HB h1 KN hHeld
  go_upto_region 3 with fail
  refine wp_region_held_drew (S := fun w' => w'.cell? ⟨w.heap.size, 0, none⟩ = some (.slice (some ⟨g0, 0, none⟩) n0 c0) ∧ w'.cell? ⟨w.heap.size + 1, 1, none⟩ = some (.int .i64 f) ∧ w'.cell? ⟨w.heap.size + 1, 3, none⟩ = some (.int .i64 v)) (by kernel_rfl) ?_ (fun hHeld => ?_)
  · (try dsimp only)
    exact ⟨q0, x1, x3⟩
  refine tk 0 ?_
  refine tk 1 ?_
  refine tk 2 ?_
  refine tk 3 ?_
  refine tk 4 ?_
  refine tk 5 ?_
  refine tk 7 ?_
  refine tk 8 ?_
  have r0 : w1.drew.cell? ⟨g0, f * 3, none⟩ = some (.int .i64 z0) := r0
  have fz : w1.drew.frozen? ⟨g0, f * 3, none⟩ = false := fz
  refine wpAnyH_ready (rs := [6]) (by kernel_rfl) (by simp) ?_
  refine AllReadyH.cons (o := ?_) ?_ (fun K hK => ?_) AllReadyH.nil
  rotate_left
  · (simp only [List.getElem?_toArray, List.getElem?_cons_zero, List.getElem?_cons_succ]; rfl)
  go_simp
  skip
  (try go_wp2_with fail)
  refine hK.out _ _ ?_ (fun hHeld' => ?_)
  · (try dsimp only)
    exact ⟨q0, x1, x3⟩
  clear hK K hHeld
  have hHeld := hHeld'
  clear hHeld'
  (try simp only [Act.put, List.setIfInBounds_toArray, List.set_cons_zero, List.set_cons_succ])
  refine tk 9 ?_
  refine tk 10 ?_
  refine tk 11 ?_
  refine wpAnyH_ready (rs := [12]) (by kernel_rfl) (by simp) ?_
  refine AllReadyH.cons (o := ?_) ?_ (fun K hK => ?_) AllReadyH.nil
  rotate_left
  · (simp only [List.getElem?_toArray, List.getElem?_cons_zero, List.getElem?_cons_succ]; rfl)
  go_simp
  skip
  (try go_wp2_with fail)
  refine hK.out _ _ ?_ (fun hHeld' => ?_)
  · (try dsimp only)
    exact ⟨(cell_far _ (by omega)).trans q0, (cell_far _ (by omega)).trans x1, (cell_far _ (by omega)).trans x3⟩
  clear hK K hHeld
  have hHeld := hHeld'
  clear hHeld'
  (try simp only [Act.put, List.setIfInBounds_toArray, List.set_cons_zero, List.set_cons_succ])
  refine wpAnyH_done (by kernel_rfl) ?_ _
  obtain ⟨w2, hw2⟩ : ∃ u, u = (w1.setCell ⟨g0, f * 3, none⟩ (.int .i64 (z0 - v))).drew := ⟨_, rfl⟩
  have HS2 := Hid.mk ((HS1.out.setProc (j := 0) (x' := (z0 - v, z1, zb)) (v := .int .i64 (z0 - v)) HP.out (by omega) rfl).below (Below.refl _ _).drew)
  have HS2 : Hid (SV w2 lo g0 n0 c0 g1 n1 c1 (ps.set f (z0 - v, z1, zb)) ws _ cells1 G) := Hid.mk (by rw [hw2]; exact HS2.out)
  have HB2 : Hid (Off lo w w2) := Hid.mk (by rw [hw2]; exact (HB1.out.setCellO l0.1 _).drew)
  have q0 : w2.cell? ⟨w.heap.size, 0, none⟩ = some (.slice (some ⟨g0, 0, none⟩) n0 c0) := by rw [hw2]; exact (cell_far _ (by omega)).trans q0
  have q1 : w2.cell? ⟨w.heap.size, 1, none⟩ = some (.slice (some ⟨g1, 0, none⟩) n1 c1) := by rw [hw2]; exact (cell_far _ (by omega)).trans q1
  have x1 : w2.cell? ⟨w.heap.size + 1, 1, none⟩ = some (.int .i64 f) := by rw [hw2]; exact (cell_far _ (by omega)).trans x1
  have x2 : w2.cell? ⟨w.heap.size + 1, 2, none⟩ = some (.int .i64 t) := by rw [hw2]; exact (cell_far _ (by omega)).trans x2
  have x3 : w2.cell? ⟨w.heap.size + 1, 3, none⟩ = some (.int .i64 v) := by rw [hw2]; exact (cell_far _ (by omega)).trans x3
  have z2 : w2.heap.size = w1.heap.size := by rw [hw2]; exact size_set _ _ _
  have za : w.heap.size < w2.heap.size := by omega
  have zb' : w.heap.size + 1 < w2.heap.size := by omega
  rw [← hw2]
  have ne0 : w.heap.size ≠ g1 := by omega
  have ne1 : w.heap.size + 1 ≠ g1 := by omega
  have hB1 : f * n0 + t < n1 := by rw [HN1.out]; exact idx_lt hft htt
  obtain ⟨y, hy⟩ := HS2.out.few hB1
  have HY := Hid.mk hy
  have HE : Hid (snF n0 f t v (z0, z1, zb) ws = decide (y.1.length < 12) ∧ snW n0 f t v ws = ws.set (f * n0 + t) (y.1 ++ [v], y.2.1, y.2.2)) := Hid.mk ⟨by simp [snF, hs, wirAt_of hy, hle], by simp [snW, wirAt_of hy]⟩
  have KW := Hid.mk (fun V => wireOf_any (some ⟨g0, 0, none⟩) n0 c0 g1 n1 c1 f t V hn HN1.out hft htt)
  clear HS1 HB1 r0 fz hw2 hy hHeld
  go_upto_region 4 with fail
  refine wp_region_held_drew (S := fun w' => w'.cell? ⟨w.heap.size, 0, none⟩ = some (.slice (some ⟨g0, 0, none⟩) n0 c0) ∧ w'.cell? ⟨w.heap.size, 1, none⟩ = some (.slice (some ⟨g1, 0, none⟩) n1 c1) ∧ w'.cell? ⟨w.heap.size + 1, 1, none⟩ = some (.int .i64 f) ∧ w'.cell? ⟨w.heap.size + 1, 2, none⟩ = some (.int .i64 t) ∧ w'.cell? ⟨w.heap.size + 1, 3, none⟩ = some (.int .i64 v)) (by kernel_rfl) ?_ (fun hHeld => ?_)
  · (try dsimp only)
    exact ⟨q0, q1, x1, x2, x3⟩
  refine tk 0 ?_
  refine tk 1 ?_
  refine tk 2 ?_
  refine tk 3 ?_
  refine tk 4 ?_
  refine tk 6 ?_
  refine tk 7 ?_
  refine tr 5 (fun K hK => ?_)
  go_simp
  go_at_call 89
  refine (KW.out w2.drew).mono ?_
  rintro e w3 ⟨rfl, h3⟩
  have h3 : Below w2.heap.size w2 w3 := (Below.refl _ _).drew.trans h3
  have KP := Hid.mk (putSV v (HS2.out.below h3) (HF.out _ y HY.out) hB1 HY.out)
  (try go_wp2_with fail)
  refine hK.out _ _ ?_ (fun hHeld' => ?_)
  · (try dsimp only)
    exact ⟨(h3.cell za).trans q0, (h3.cell za).trans q1, (h3.cell zb').trans x1, (h3.cell zb').trans x2, (h3.cell zb').trans x3⟩
  clear hK K hHeld
  have hHeld := hHeld'
  clear hHeld'
  (try simp only [Act.put, List.setIfInBounds_toArray, List.set_cons_zero, List.set_cons_succ])
  have q0 := (h3.cell za).trans q0
  have q1 := (h3.cell za).trans q1
  have x1 := (h3.cell zb').trans x1
  have x2 := (h3.cell zb').trans x2
  have x3 := (h3.cell zb').trans x3
  have HB3 := Hid.mk (HB2.out.trans (Off.below h3))
  have za := Nat.lt_of_lt_of_le za h3.size
  have zb' := Nat.lt_of_lt_of_le zb' h3.size
  clear h3
  refine tr 8 (fun K hK => ?_)
  go_simp
  go_at_call 88
  refine KP.out.mono ?_
  rintro e w4 ⟨rfl, h4, hk4, hs4⟩
  (try go_wp2_with fail)
  refine hK.out _ _ ?_ (fun hHeld' => ?_)
  · (try dsimp only)
    exact ⟨(World.cell?_of_block (hk4 _ za ne0)).trans q0, (World.cell?_of_block (hk4 _ za ne0)).trans q1, (World.cell?_of_block (hk4 _ zb' ne1)).trans x1, (World.cell?_of_block (hk4 _ zb' ne1)).trans x2, (World.cell?_of_block (hk4 _ zb' ne1)).trans x3⟩
  clear hK K hHeld
  have hHeld := hHeld'
  clear hHeld'
  (try simp only [Act.put, List.setIfInBounds_toArray, List.set_cons_zero, List.set_cons_succ])
  refine tk 9 ?_
  refine wpAnyH_done (by kernel_rfl) ?_ _
  have HB4 := Hid.mk (HB3.out.trans h4)
  have HS4 := Hid.mk hs4
  clear h4 hs4 hk4 KP KW hHeld
  go_wp2
  go_ret
  rw [HE.out.1, HE.out.2]
  exact ⟨rfl, HB4.out, fun q => ⟨_, HS4.out (by simpa using q)⟩⟩

end Go.Proofs.Ytnfdncofobkjhaa

/- takeWord at a wire of a snap; one word more recorded there. -/
namespace Go.Proofs.Ytnfdncofobkjhaa
open Go.RowKit

/-- takeWord at a wire of a snap. -/
theorem takeSV {lo : Nat → Prop} {g0 n0 c0 g1 n1 c1 B : Nat} {ps : List TProc} {ws : List TWire} {cells0 cells1 : List Value} {G : Nat → Nat → Prop} {w : World} {y : TWire} (h : SV w lo g0 n0 c0 g1 n1 c1 ps ws cells0 cells1 G) (hf : y.1.length ≤ 12) (hB : B < n1) (hy : ws[B]? = some y) :
    Calls Try.prog 90 #[.pointer (some ⟨g1, B * 3, none⟩)] w fun e w' => Off lo w w' ∧ (∀ b, b < w.heap.size → b ≠ g1 → w'.heap[b]? = w.heap[b]?) ∧
      ((∃ v vs, y.1 = v :: vs ∧ e = .returned (.tuple #[.int .i64 v, .bool true]) ∧ ∃ cells1 G, SV w' lo g0 n0 c0 g1 n1 c1 ps (ws.set B (vs, y.2.1, y.2.2)) cells0 cells1 G) ∨ (y.1 = [] ∧ e = .returned (.tuple #[.int .i64 0, .bool false]))) := by
  obtain ⟨cur, hcur, hcc⟩ := h.blk1
  obtain ⟨e0, f0, e1, f1, F0, F1, _, hs5, _, _, _, o0, _⟩ := h.wire (x0 := y.1) (x1 := y.2.1) (b := y.2.2) hy
  have l1 := h.l1
  have hat := At.owned (RInts.own_iff.1 o0).2.2.1
  have hcs : cur[B * 3]? = some (.slice e0 y.1.length f0) := by
    rw [hcc (B * 3) (by omega)]
    have q := sub_at (cells := cells1) (o := B * 3) (k := 3) (j := 0) (by omega)
    rw [hs5] at q
    exact q.symm
  refine (takeWord_any g1 (B * 3) e0 y.1.length f0 y.1 cur 76 w rfl hf hcur hcs hat).mono ?_
  rintro e w6 (⟨v, vs, r, d, V, hvs, rfl, hbV, ho, rfl⟩ | ⟨he, rfl, hbV⟩)
  · have hl : y.1.length = vs.length + 1 := by rw [hvs]; rfl
    obtain ⟨cells1', G', hS6⟩ := h.setWords hy hbV (by omega) ho
    exact ⟨(show Off lo w V from Off.below hbV).setCellO l1.1 _, fun b hb hne => (Below.heap_setCell _ _ _ _ hne).trans (hbV.block b hb), .inl ⟨v, vs, hvs, rfl, cells1', G', hS6⟩⟩
  · exact ⟨Off.below hbV, fun b hb _ => hbV.block b hb, .inr ⟨he, rfl⟩⟩

/-- What a wire has recorded grows by one. -/
theorem SV.pushRec {lo : Nat → Prop} {g0 n0 c0 g1 n1 c1 k : Nat} {ps : List TProc} {ws : List TWire} {cells0 cells1 : List Value} {G : Nat → Nat → Prop} {w W : World} {x : TWire} (h : SV w lo g0 n0 c0 g1 n1 c1 ps ws cells0 cells1 G) {a0 a1 : Option Addr} {d0 d1 : Nat} {F0 F1 : Nat → Prop} (hk : k < n1)
    (hs : sub cells1 (k * 3) 3 = [.slice a0 x.1.length d0, .slice a1 x.2.1.length d1, .bool x.2.2]) (r0 : RInts.Own w F0 [.slice a0 x.1.length d0] x.1) (r1 : RInts.Own w F1 [.slice a1 x.2.1.length d1] x.2.1) (f0 : ∀ b, F0 b → G k b) (f1 : ∀ b, F1 b → G k b) (d01 : ∀ b, F0 b → ¬ F1 b)
    (v : Int) {r : Option Addr} {d : Nat} (hm : x.2.1.length < 1048576) (hg : w.grownBy W (Value.slice a1 x.2.1.length d1).ownBlock) (hsz : w.heap.size ≤ W.heap.size) (ho : W.ownsRow 0 3 1 (.slice r (x.2.1.length + 1) d) (x.2.1.length + 1) ((x.2.1 ++ [v]).map (Value.int .i64)))
    (hr : (Value.slice r (x.2.1.length + 1) d).ownBlock = (Value.slice a1 x.2.1.length d1).ownBlock ∨ (Value.slice r (x.2.1.length + 1) d).ownBlock = some w.heap.size) :
    ∃ cells1' G', SV (W.setCell ⟨g1, k * 3 + 1, none⟩ (.slice r (x.2.1.length + 1) d)) lo g0 n0 c0 g1 n1 c1 ps (ws.set k (x.1, x.2.1 ++ [v], x.2.2)) cells0 cells1' G' := by
  have hlt : ∀ b, G k b → b < w.heap.size := fun b hb => (h.wi.rowF k b hk hb).1.2
  have ob1 := (RInts.own_iff.1 r1).2.2.2
  have hW : ∀ b, b < w.heap.size → ¬ G k b → W.heap[b]? = w.heap[b]? := fun b hb hn => hg.block b hb (fun e => hn (f1 b (ob1 b e.symm)))
  have hW0 : ∀ b, F0 b → W.heap[b]? = w.heap[b]? := fun b hb => hg.block b (hlt b (f0 b hb)) (fun e => d01 b hb (ob1 b e.symm))
  have hob : ∀ b, (Value.slice r (x.2.1.length + 1) d).ownBlock = some b → F1 b ∨ b = w.heap.size := fun b hb => by
    rcases hr with q | q
    · exact .inl (ob1 b (by rw [← q]; exact hb))
    · rw [q] at hb; exact .inr (Option.some.inj hb).symm
  have l1 := h.l1
  have hne : ∀ b, F1 b ∨ b = w.heap.size → b ≠ g1 := fun b hb => by
    rcases hb with q | q
    · exact h.notG1 hk (f1 b q)
    · omega
  have O0 : RInts.Own (W.setCell ⟨g1, k * 3 + 1, none⟩ (.slice r (x.2.1.length + 1) d)) F0 [.slice a0 x.1.length d0] x.1 :=
    RInts.frame r0 (fun b hb _ => (Below.heap_setCell _ _ _ _ (h.notG1 hk (f0 b hb))).trans (hW0 b hb))
  have O1 : RInts.Own (W.setCell ⟨g1, k * 3 + 1, none⟩ (.slice r (x.2.1.length + 1) d)) (fun b => (F1 b ∨ b = w.heap.size) ∧ b < W.heap.size) [.slice r (x.2.1.length + 1) d] (x.2.1 ++ [v]) :=
    RInts.own_iff.2 ⟨by simp, by omega, ownsRow_frame ho (fun b hb _ => Below.heap_setCell _ _ _ _ (hne b (hob b hb))), fun b hb => ⟨hob b hb, (ho.lt b hb).2⟩⟩
  refine ⟨_, _, h.newWire (W := W) (j := 1) (vs := [.slice a0 x.1.length d0, .slice r (x.2.1.length + 1) d, .bool x.2.2]) (H := fun b => F0 b ∨ (F1 b ∨ b = w.heap.size) ∧ b < W.heap.size) hk (by omega) hsz hW (by rw [hs]; rfl)
    (RWire.own_mk (x0 := x.1) (x1 := x.2.1 ++ [v]) O0 O1 (fun _ q => .inl q) (fun _ q => .inr q) (fun b q q' => by
      rcases q'.1 with q2 | q2
      · exact d01 b q q2
      · have := hlt b (f0 b q); omega)) (fun b hb => ?_)⟩
  rcases hb with q | ⟨q | q, q2⟩
  · exact ⟨.inl (f0 b q), by have := hlt b (f0 b q); omega⟩
  · exact ⟨.inl (f1 b q), q2⟩
  · exact ⟨.inr (by omega), q2⟩

end Go.Proofs.Ytnfdncofobkjhaa

/- Contract of impl.takeFirst. -/
namespace Go.Proofs.Ytnfdncofobkjhaa
open Go.RowKit

/-- The first word of the wire from f to t is taken. -/
def tkF (n f t : Nat) (p : TProc) (ps : List TProc) (ws : List TWire) : Bool × List TProc × List TWire :=
  if 200 ≤ (wirAt ws (f * n + t)).2.1.length then (false, ps, ws)
  else match (wirAt ws (f * n + t)).1 with
    | [] => (false, ps, ws)
    | v :: vs =>
      if v = 0 then ((mkF n t (f * n + t) p (ws.set (f * n + t) (vs, (wirAt ws (f * n + t)).2))).1, mkP t p ps, (mkF n t (f * n + t) p (ws.set (f * n + t) (vs, (wirAt ws (f * n + t)).2))).2)
      else (true, ps.set t (p.1 + v, p.2.1, p.2.2), if (wirAt ws (f * n + t)).2.2 then ws.set (f * n + t) (vs, (wirAt ws (f * n + t)).2.1 ++ [v], (wirAt ws (f * n + t)).2.2) else ws.set (f * n + t) (vs, (wirAt ws (f * n + t)).2))

set_option maxRecDepth 100000 in
set_option maxHeartbeats 8000000 in
theorem takeFirst_any (lo : Nat → Prop) (g0 n0 c0 g1 n1 c1 f t : Nat) (kd v : Int) (ps : List TProc) (ws : List TWire) (cells0 cells1 : List Value) (G : Nat → Nat → Prop) (w : World) (p : TProc) (y : TWire) (hn : n0 ≤ 4) (h1 : n1 = n0 * n0) (hft : f < n0) (htt : t < n0) (hp : ps[t]? = some p) (hpo : 0 ≤ p.1 ∧ p.1 ≤ 2000000000) (hf : Few ws)
    (hy : ws[f * n0 + t]? = some y) (hyv : ∀ u ∈ y.1, 0 ≤ u ∧ u ≤ 1000000) (hyr : y.2.1.length ≤ 1048576) (h : SV w lo g0 n0 c0 g1 n1 c1 ps ws cells0 cells1 G) :
    Calls Try.prog 70 #[.agg #[.slice (some ⟨g0, 0, none⟩) n0 c0, .slice (some ⟨g1, 0, none⟩) n1 c1], .agg #[.int .i64 kd, .int .i64 f, .int .i64 t, .int .i64 v]] w fun e w' => e = .returned (.bool (tkF n0 f t p ps ws).1) ∧ Off lo w w' ∧
      ((tkF n0 f t p ps ws).1 = true → ∃ cells0 cells1 G, SV w' lo g0 n0 c0 g1 n1 c1 (tkF n0 f t p ps ws).2.1 (tkF n0 f t p ps ws).2.2 cells0 cells1 G) := by
  obtain ⟨W, hW⟩ : ∃ W, W = (w.alloc (.cells #[.slice (some ⟨g0, 0, none⟩) n0 c0, .slice (some ⟨g1, 0, none⟩) n1 c1] 32)).alloc (.cells #[.int .i64 kd, .int .i64 f, .int .i64 t, .int .i64 v] 36) := ⟨_, rfl⟩
  have hb : Below w.heap.size w W := by rw [hW]; exact ((Below.refl _ _).alloc (Nat.le_refl _) _).alloc (by simp) _
  have zW : W.heap.size = w.heap.size + 1 + 1 := by rw [hW]; simp
  have q0 : W.cell? ⟨w.heap.size, 0, none⟩ = some (.slice (some ⟨g0, 0, none⟩) n0 c0) := by rw [hW]; simp [go_sem]
  have q1 : W.cell? ⟨w.heap.size, 1, none⟩ = some (.slice (some ⟨g1, 0, none⟩) n1 c1) := by rw [hW]; simp [go_sem]
  have x1 : W.cell? ⟨w.heap.size + 1, 1, none⟩ = some (.int .i64 f) := by rw [hW]; simp [go_sem]
  have x2 : W.cell? ⟨w.heap.size + 1, 2, none⟩ = some (.int .i64 t) := by rw [hW]; simp [go_sem]
  have l0 := h.l0
  have l1 := h.l1
  have HS0 := Hid.mk (h.below hb)
  have hB : f * n0 + t < n1 := by rw [h1]; exact idx_lt hft htt
  have KW := Hid.mk (fun V => wireOf_any (some ⟨g0, 0, none⟩) n0 c0 g1 n1 c1 f t V hn h1 hft htt)
  have HP := Hid.mk hp
  have HF := Hid.mk hf
  have HY := Hid.mk hy
  have HYV := Hid.mk hyv
  have HE := Hid.mk (show tkF n0 f t p ps ws = if 200 ≤ y.2.1.length then (false, ps, ws) else match y.1 with
    | [] => (false, ps, ws)
    | v :: vs => if v = 0 then ((mkF n0 t (f * n0 + t) p (ws.set (f * n0 + t) (vs, y.2))).1, mkP t p ps, (mkF n0 t (f * n0 + t) p (ws.set (f * n0 + t) (vs, y.2))).2) else (true, ps.set t (p.1 + v, p.2.1, p.2.2), if y.2.2 then ws.set (f * n0 + t) (vs, y.2.1 ++ [v], y.2.2) else ws.set (f * n0 + t) (vs, y.2)) by
    unfold tkF; rw [wirAt_of hy])
  have HB := Hid.mk (show Off lo w W from Off.below hb)
  have HN1 := Hid.mk h1
  have zl0 : w.heap.size < W.heap.size := by omega
  have zl1 : w.heap.size + 1 < W.heap.size := by omega
  obtain ⟨B, hBB⟩ : ∃ B, f * n0 + t = B := ⟨_, rfl⟩
  rw [hBB] at hB KW HY HE
  obtain ⟨R, hR⟩ : ∃ R, tkF n0 f t p ps ws = R := ⟨_, rfl⟩
  rw [hR] at HE ⊢
  clear hf hp h hb h1 hy hyv hBB hR
  go_enter Try.func70, Try.ntmps70
  go_upto_region 1 with fail
  rw [← hW]
  clear hW
  go_wp2_with fail
  refine (KW.out _).mono ?_
  rintro e w1 ⟨rfl, h1⟩
  have HS1 := Hid.mk (HS0.out.below h1)
  have HB1 := Hid.mk (HB.out.trans (Off.below h1))
  have q0 := (h1.cell zl0).trans q0
  have q1 := (h1.cell zl0).trans q1
  have x2 := (h1.cell zl1).trans x2
  have zs1 := h1.size
  obtain ⟨e0, f0, e1, f1, F0, F1, _, hs5, _, y1, _, _⟩ := HS1.out.wire (x0 := y.1) (x1 := y.2.1) (b := y.2.2) HY.out
  clear hs5 h1 KW HS0 HB x1
  by_cases hl : 200 ≤ y.2.1.length
  · have hli : (200 : Int) ≤ (y.2.1.length : Int) := by omega
    obtain rfl : R = (false, ps, ws) := by rw [HE.out, if_pos hl]
    clear HE
    go_wp2
    go_ret
    first | exact ⟨rfl, HB1.out, fun q => by cases q⟩ | exact ⟨HB1.out, fun q => by cases q⟩ | simpa using HB1.out
  have hli : ¬ (200 : Int) ≤ (y.2.1.length : Int) := by omega
  have HE : Hid (R = _) := Hid.mk (by rw [HE.out, if_neg hl])
  have KT := Hid.mk (takeSV HS1.out (HF.out B y HY.out) hB HY.out)
  go_wp2_with fail
  refine KT.out.mono ?_
  rintro e w2 ⟨h2, hk2, hs2⟩
  have zs2 := h2.size
  have ne0 : w.heap.size ≠ g1 := by omega
  have ne1 : w.heap.size + 1 ≠ g1 := by omega
  have q0 := (World.cell?_of_block (hk2 _ (show w.heap.size < w1.heap.size by omega) ne0)).trans q0
  have q1 := (World.cell?_of_block (hk2 _ (show w.heap.size < w1.heap.size by omega) ne0)).trans q1
  have x2 := (World.cell?_of_block (hk2 _ (show w.heap.size + 1 < w1.heap.size by omega) ne1)).trans x2
  have HB2 := Hid.mk (HB1.out.trans h2)
  clear hk2 h2 HB1 KT y1 HS1
  rcases hs2 with ⟨u, us, hu, rfl, cells1, G, hS2⟩ | ⟨hu, rfl⟩
  rotate_left
  · obtain rfl : R = (false, ps, ws) := by rw [HE.out, hu]
    clear HE
    go_wp2
    go_ret
    first | exact ⟨rfl, HB2.out, fun q => by cases q⟩ | exact ⟨HB2.out, fun q => by cases q⟩ | simpa using HB2.out
  have hE := HE.out
  rw [hu] at hE
  dsimp only at hE
  have hur := HYV.out u (by rw [hu]; simp)
  have HF2 : Few (ws.set B (us, y.2.1, y.2.2)) := HF.out.set B (by have := HF.out B y HY.out; rw [hu] at this; simp at this; show us.length ≤ 12; omega)
  by_cases hz : u = 0
  · subst hz
    have KM := Hid.mk (takeMarker_any lo g0 n0 c0 g1 n1 c1 t B ps _ cells0 cells1 G w2 p hn HN1.out htt HP.out HF2 hB hS2)
    obtain rfl : R = ((mkF n0 t B p (ws.set B (us, y.2))).1, mkP t p ps, (mkF n0 t B p (ws.set B (us, y.2))).2) := by rw [if_pos rfl] at hE; exact hE
    clear hE HE hS2 HF2
    go_wp2_with fail
    refine KM.out.mono ?_
    rintro e w3 ⟨rfl, h3, hs3⟩
    have HB3 := Hid.mk (HB2.out.trans h3)
    have HS3 := Hid.mk hs3
    clear h3 hs3 KM HB2
    go_wp2
    go_ret
    exact ⟨rfl, HB3.out, HS3.out⟩
  have hzi : (u == 0) = false := by simp [hz]
  obtain ⟨p0, p1, pb⟩ := p
  have hwr : IntKind.i64.wrap (p0 + u) = p0 + u := IntWalk.i64_in _ (by have : 0 ≤ p0 ∧ p0 ≤ 2000000000 := hpo; omega)
  obtain ⟨_, _, r0, _, _⟩ := hS2.proc HP.out
  have fz := hS2.frozen0 (t * 3)
  have hti : (t : Int) < (n0 : Int) := by omega
  have HS2 := Hid.mk hS2
  rw [if_neg hz] at hE
  clear HE hS2
  go_upto_region 10 with fail
  obtain ⟨w3, hw3⟩ : ∃ x, x = w2.setCell ⟨g0, t * 3, none⟩ (.int .i64 (p0 + u)) := ⟨_, rfl⟩
  have hS3 := HS2.out.setProc (j := 0) (x' := (p0 + u, p1, pb)) (v := .int .i64 (p0 + u)) HP.out (by omega) rfl
  have HB3 : Hid (Off lo w w3) := Hid.mk (by rw [hw3]; exact HB2.out.setCellO l0.1 _)
  rw [Nat.add_zero, ← hw3] at hS3
  obtain ⟨cells0, hc0⟩ : ∃ c, sets cells0 (t * 3) [.int .i64 (p0 + u), .int .i64 p1, .bool pb] = c := ⟨_, rfl⟩
  have hS3 : SV w3 lo g0 n0 c0 g1 n1 c1 (ps.set t (p0 + u, p1, pb)) (ws.set B (us, y.2.1, y.2.2)) cells0 cells1 G := by rw [← hc0]; exact hS3
  rw [← hw3]
  have hy3 : (ws.set B (us, y.2.1, y.2.2))[B]? = some (us, y.2.1, y.2.2) := List.getElem?_set_self (List.getElem?_eq_some_iff.1 HY.out).1
  obtain ⟨e0, f0, e1, f1, F0, F1, _, hs3, _, y1, y2, i0, i1, i2, i3, i4⟩ := hS3.wire hy3
  have HS3 := Hid.mk hS3
  have HS3W := Hid.mk hs3
  clear hS3 hw3 HS2 HB2 r0 fz hs3
  obtain ⟨yo, hyo⟩ : ∃ b, y.2.2 = b := ⟨_, rfl⟩
  rw [hyo] at y2 hE
  cases yo with
  | false =>
    obtain rfl : R = (true, ps.set t (p0 + u, p1, pb), ws.set B (us, y.2)) := by rw [hE]; rfl
    clear hE
    go_wp2
    go_ret
    exact ⟨rfl, HB3.out, _, _, _, HS3.out⟩
  | true =>
    obtain rfl : R = (true, ps.set t (p0 + u, p1, pb), ws.set B (us, y.2.1 ++ [u], y.2.2)) := by rw [hE, hyo]; rfl
    clear hE
    obtain ⟨j0, hj, hj0, hj1, hj2⟩ := info_parts Try.infoInt
    obtain ⟨U, hU⟩ : ∃ U, U = w3.alloc (.cells #[.int .i64 u] 3) := ⟨_, rfl⟩
    have hbU : Below w3.heap.size w3 U := by rw [hU]; exact (Below.refl _ _).alloc (Nat.le_refl _) _
    have zU : w3.heap.size < U.heap.size := by rw [hU]; simp
    have ub : U.heap[w3.heap.size]? = some (.cells #[.int .i64 u] 3 (0, 0)) := by rw [hU]; exact heap_alloc_new _ _
    have HSU := Hid.mk (HS3.out.below hbU)
    have HBU := Hid.mk (HB3.out.trans (Off.below hbU))
    have R0 := Hid.mk (RInts.frame i0 (fun b _ hb => hbU.block b hb))
    have R1 := Hid.mk (RInts.frame i1 (fun b _ hb => hbU.block b hb))
    have HI2 := Hid.mk i2
    have HI3 := Hid.mk i3
    have HI4 := Hid.mk i4
    have OE := Hid.mk (RInts.own_iff.1 R1.out).2.2.1
    have HN : Hid (∀ ad', some (⟨w3.heap.size, 0, none⟩ : Addr) = some ad' → ∀ (j : Nat) (x : Value), [Value.int .i64 u][j]? = some x → U.cell? (ad'.add j) = some x) := Hid.mk (by
      intro ad he j x hj
      simp only [Option.some.injEq] at he
      subst he
      match j, hj with
      | 0, hj => obtain rfl := Option.some.inj hj; exact blk_cell ub 0 rfl)
    have H1C : Hid (∀ x ∈ [Value.int .i64 u], x.oneCell' = true) := Hid.mk (by intro x hx; simp at hx; subst hx; rfl)
    have yU := cell_later hbU y1
    have z3 := HSU.out.frozen1 (B * 3 + 1)
    clear i0 i1 i2 i3 i4 hbU ub HS3 HB3
    go_wp2_with (at_builtin; rw [← hU]; refine wpList_app_vals rfl (.tmp 53) (.tmp 55) 41 rfl 0 3 j0 (.int .i64 0) 1 8 Try.underlying41 hj hj0 hj1 hj2 rfl (by decide) (.slice e1 y.2.1.length f1) y.2.1.length (y.2.1.map (.int .i64)) (by simp [Act.eval]) OE.out (some ⟨w3.heap.size, 0, none⟩) 1 1 [.int .i64 u] (by simp [Act.eval]) rfl HN.out H1C.out (fun h => by cases h) (by unfold maxLen; omega) (by omega) (by simp) ?_)
    intro r5 d5 w5 ho5 hg5 hr5
    rw [← hU] at hg5
    have zU1 : U.heap.size = w3.heap.size + 1 := by rw [hU]; simp
    rw [← zU1] at hr5
    have ho6 : w5.ownsRow 0 3 1 (.slice r5 (y.2.1.length + 1) d5) (y.2.1.length + 1) ((y.2.1 ++ [u]).map (Value.int .i64)) := by rw [List.map_append]; exact ho5
    have hob := (RInts.own_iff.1 R1.out).2.2.2
    have hg1 : w5.heap[g1]? = U.heap[g1]? := hg5.block g1 (by have := HSU.out.l1; omega) (fun e => HSU.out.notG1 hB (HI3.out g1 (hob g1 e.symm)) rfl)
    have y5 := (World.cell?_of_block (a := ⟨g1, B * 3 + 1, none⟩) hg1).trans yU
    have z5 := (World.frozen?_of_block (a := ⟨g1, B * 3 + 1, none⟩) hg1).trans z3
    obtain ⟨c6, G6, hS6⟩ := HSU.out.pushRec (x := (us, y.2.1, y.2.2)) hB HS3W.out R0.out R1.out HI2.out HI3.out HI4.out u (by show y.2.1.length < 1048576; omega) hg5 hg5.size ho6 hr5
    rw [List.set_set] at hS6
    dsimp only at hS6
    rw [hyo] at hS6
    have HB5 : Hid (Off lo w w5) := Hid.mk (HBU.out.trans (Off.grown hg5 (fun j hj => (HSU.out.wi.rowF B j hB (HI3.out j (hob j hj))).1.1)))
    have HS6 := Hid.mk hS6
    clear hU ho5 ho6 hg5 hr5 hob hg1 hS6 HSU HBU R0 R1 OE HN yU z3 y1
    go_wp2
    go_ret
    exact ⟨rfl, HB5.out.setCellO l1.1 _, _, c6, G6, HS6.out⟩

end Go.Proofs.Ytnfdncofobkjhaa
