/- Several texts of one proof, in build order: SvH, SvI, NapI. -/
import Derived.Test.YtnfdncofobkjhaaM8
import Derived.Test.YtnfdncofobkjhaaM4
import Derived.Test.YtnfdncofobkjhaaM3

/- Contract of impl.saveProc. -/
namespace Go.Proofs.Ytnfdncofobkjhaa
open Go.RowKit

def wirAt (ws : List TWire) (k : Nat) : TWire := ws.getD k ([], [], false)
/-- One other process while `who` saves: the wire from it is opened, the marker put on the wire to it. -/
def svS (n who k : Nat) (ws : List TWire) : Bool × List TWire :=
  if k = who then (true, ws)
  else if (wirAt ws (who * n + k)).1.length < 12 then
    (true, (ws.set (k * n + who) ((wirAt ws (k * n + who)).1, (wirAt ws (k * n + who)).2.1, true)).set (who * n + k) ((wirAt ws (who * n + k)).1 ++ [0], (wirAt ws (who * n + k)).2.1, (wirAt ws (who * n + k)).2.2))
  else (false, ws)
def svF (n who : Nat) : Nat → Nat → List TWire → Bool × List TWire
  | 0, _, ws => (true, ws)
  | m + 1, k, ws => if (svS n who k ws).1 then svF n who m (k + 1) (svS n who k ws).2 else (false, ws)
theorem wirAt_of {ws : List TWire} {k : Nat} {x : TWire} (h : ws[k]? = some x) : wirAt ws k = x := by simp [wirAt, List.getD, h]
theorem idx_lt {n i j : Nat} (hi : i < n) (hj : j < n) : i * n + j < n * n := by
  have : (i + 1) * n ≤ n * n := Nat.mul_le_mul_right _ hi
  rw [Nat.succ_mul] at this
  omega
theorem idx_ne {n i j : Nat} (hi : i < n) (hj : j < n) (h : i ≠ j) : i * n + j ≠ j * n + i := by
  intro e
  rcases Nat.lt_or_gt_of_ne h with q | q
  · have : (i + 1) * n ≤ j * n := Nat.mul_le_mul_right _ q
    rw [Nat.succ_mul] at this
    omega
  · have : (j + 1) * n ≤ i * n := Nat.mul_le_mul_right _ q
    rw [Nat.succ_mul] at this
    omega
def Few (ws : List TWire) : Prop := ∀ (k : Nat) (x : TWire), ws[k]? = some x → x.1.length ≤ 12
theorem Few.set {ws : List TWire} (h : Few ws) (k : Nat) {x : TWire} (hx : x.1.length ≤ 12) : Few (ws.set k x) := by
  intro j y hy
  by_cases e : k = j
  · subst e
    rw [List.getElem?_set] at hy
    simp at hy
    rw [← hy.2]; exact hx
  · rw [List.getElem?_set_ne e] at hy
    exact h j y hy
theorem SV.few {w : World} {lo : Nat → Prop} {g0 n0 c0 g1 n1 c1 : Nat} {ps : List TProc} {ws : List TWire} {cells0 cells1 : List Value} {G : Nat → Nat → Prop} (h : SV w lo g0 n0 c0 g1 n1 c1 ps ws cells0 cells1 G) {k : Nat} (hk : k < n1) : ∃ x, ws[k]? = some x := ⟨_, List.getElem?_eq_getElem (by rw [h.wi.len]; exact hk)⟩

theorem blk_lt {w : World} {g : Nat} {o : Obj} (h : w.heap[g]? = some o) : g < w.heap.size := (Array.getElem?_eq_some_iff.1 h).1
theorem cell_near {w : World} {b o o' : Nat} (h : o' ≠ o) (v : Value) : (w.setCell ⟨b, o, none⟩ v).cell? ⟨b, o', none⟩ = w.cell? ⟨b, o', none⟩ := World.cell?_setCell_other _ _ _ _ (fun q => h (by injection q with _ q _; exact q.symm))

set_option maxRecDepth 100000 in
set_option maxHeartbeats 8000000 in
theorem saveProc_any (lo : Nat → Prop) (g0 n0 c0 g1 n1 c1 who : Nat) (ps : List TProc) (ws : List TWire) (cells0 cells1 : List Value) (G : Nat → Nat → Prop) (w : World) (p : TProc) (hn : n0 ≤ 4) (h1 : n1 = n0 * n0) (hwho : who < n0) (hp : ps[who]? = some p) (hf : Few ws)
    (h : SV w lo g0 n0 c0 g1 n1 c1 ps ws cells0 cells1 G) :
    Calls Try.prog 72 #[.agg #[.slice (some ⟨g0, 0, none⟩) n0 c0, .slice (some ⟨g1, 0, none⟩) n1 c1], .int .i64 who] w fun e w' => e = .returned (.bool (svF n0 who n0 0 ws).1) ∧ Off lo w w' ∧
      ((svF n0 who n0 0 ws).1 = true → ∃ cells0 cells1 G, SV w' lo g0 n0 c0 g1 n1 c1 (ps.set who (p.1, p.1, true)) (svF n0 who n0 0 ws).2 cells0 cells1 G) := by
  obtain ⟨W, hW⟩ : ∃ W, W = w.alloc (.cells #[.slice (some ⟨g0, 0, none⟩) n0 c0, .slice (some ⟨g1, 0, none⟩) n1 c1] 32) := ⟨_, rfl⟩
  have hb : Below w.heap.size w W := by rw [hW]; exact (Below.refl _ _).alloc (Nat.le_refl _) _
  have bb : W.heap[w.heap.size]? = some (.cells #[.slice (some ⟨g0, 0, none⟩) n0 c0, .slice (some ⟨g1, 0, none⟩) n1 c1] 32 (0, 0)) := by rw [hW]; exact heap_alloc_new _ _
  have zlt : w.heap.size < W.heap.size := by rw [hW]; simp
  have l0 := h.l0
  have l1 := h.l1
  have q0 := blk_cell bb 0 (v := .slice (some ⟨g0, 0, none⟩) n0 c0) rfl
  have q1 := blk_cell bb 1 (v := .slice (some ⟨g1, 0, none⟩) n1 c1) rfl
  have hW0 := h.below hb
  obtain ⟨z0, z1, zb⟩ := p
  obtain ⟨_, _, r0, r1, r2⟩ := hW0.proc hp
  have fz1 := hW0.frozen0 (who * 3 + 1)
  have hwi : (who : Int) < (n0 : Int) := by omega
  have HF := Hid.mk hf
  have HP := Hid.mk hp
  have HS0 := Hid.mk hW0
  have HB := Hid.mk (show Off lo w W from Off.below hb)
  have HN1 := Hid.mk h1
  have hpl : who < ps.length := (List.getElem?_eq_some_iff.1 hp).1
  clear hf hp h hW0 hb h1
  go_enter Try.func72, Try.ntmps72
  go_upto_region 1 with fail
  rw [← hW]
  clear hW
  refine wp_region_held_drew (S := fun w' => w'.cell? ⟨w.heap.size, 0, none⟩ = some (.slice (some ⟨g0, 0, none⟩) n0 c0) ∧ w'.cell? ⟨g0, who * 3, none⟩ = some (.int .i64 z0)) (by kernel_rfl) ?_ (fun hHeld => ?_)
  · (try dsimp only)
    exact ⟨q0, r0⟩
  refine tk 0 ?_
  refine tk 1 ?_
  refine tk 2 ?_
  refine tk 3 ?_
  refine tk 4 ?_
  refine tk 5 ?_
  refine tk 6 ?_
  refine tk 7 ?_
  refine tk 8 ?_
  refine tk 9 ?_
  refine tk 10 ?_
  have r1 : W.drew.cell? ⟨g0, who * 3 + 1, none⟩ = some (.int .i64 z1) := r1
  have fz1 : W.drew.frozen? ⟨g0, who * 3 + 1, none⟩ = false := fz1
  refine wpAnyH_ready (rs := [11]) (by kernel_rfl) (by simp) ?_
  refine AllReadyH.cons (o := ?_) ?_ (fun K hK => ?_) AllReadyH.nil
  rotate_left
  · (simp only [List.getElem?_toArray, List.getElem?_cons_zero, List.getElem?_cons_succ]; rfl)
  go_simp
  skip
  (try go_wp2_with fail)
  refine hK.out _ _ ?_ (fun hHeld' => ?_)
  · (try dsimp only)
    exact ⟨(cell_far _ (by omega)).trans q0, (cell_near (by omega) _).trans r0⟩
  clear hK K hHeld
  have hHeld := hHeld'
  clear hHeld'
  (try simp only [Act.put, List.setIfInBounds_toArray, List.set_cons_zero, List.set_cons_succ])
  refine wpAnyH_done (by kernel_rfl) ?_ _
  obtain ⟨w1, hw1⟩ : ∃ u, u = (W.setCell ⟨g0, who * 3 + 1, none⟩ (.int .i64 z0)).drew := ⟨_, rfl⟩
  have HS1 := Hid.mk ((HS0.out.setProc (j := 1) (x' := (z0, z0, zb)) (v := .int .i64 z0) HP.out (by omega) rfl).below (Below.refl _ _).drew)
  have HB1 : Hid (Off lo w w1) := Hid.mk (by rw [hw1]; exact (HB.out.setCellO l0.1 _).drew)
  have bb1 : w1.heap[w.heap.size]? = some (.cells #[.slice (some ⟨g0, 0, none⟩) n0 c0, .slice (some ⟨g1, 0, none⟩) n1 c1] 32 (0, 0)) := by rw [hw1]; exact blk_other bb (by show w.heap.size ≠ g0; omega) _
  rw [← hw1] at HS1 ⊢
  have hp1 : (ps.set who (z0, z0, zb))[who]? = some (z0, z0, zb) := List.getElem?_set_self hpl
  obtain ⟨_, _, r0, r1, r2⟩ := HS1.out.proc hp1
  have fz2 := HS1.out.frozen0 (who * 3 + 2)
  have q0 := blk_cell bb1 0 (v := .slice (some ⟨g0, 0, none⟩) n0 c0) rfl
  have q1 := blk_cell bb1 1 (v := .slice (some ⟨g1, 0, none⟩) n1 c1) rfl
  clear HB HS0 bb hw1 hHeld fz1
  go_upto_region 3 with fail
  obtain ⟨w2, hw2⟩ : ∃ u, u = w1.setCell ⟨g0, who * 3 + 2, none⟩ (.bool true) := ⟨_, rfl⟩
  have HS2 := Hid.mk (HS1.out.setProc (j := 2) (x' := (z0, z0, true)) (v := .bool true) hp1 (by omega) rfl)
  have HB2 : Hid (Off lo w w2) := Hid.mk (by rw [hw2]; exact HB1.out.setCellO l0.1 _)
  have bb2 : w2.heap[w.heap.size]? = some (.cells #[.slice (some ⟨g0, 0, none⟩) n0 c0, .slice (some ⟨g1, 0, none⟩) n1 c1] 32 (0, 0)) := by rw [hw2]; exact blk_other bb1 (by show w.heap.size ≠ g0; omega) _
  rw [← hw2] at HS2 ⊢
  rw [List.set_set] at HS2
  obtain ⟨cells0, hc0⟩ : ∃ c, c = sets (sets cells0 (who * 3) [.int .i64 z0, .int .i64 z0, .bool zb]) (who * 3) [.int .i64 z0, .int .i64 z0, .bool true] := ⟨_, rfl⟩
  obtain ⟨qs, hqs⟩ : ∃ q, q = ps.set who (z0, z0, true) := ⟨_, rfl⟩
  have HQ := Hid.mk hqs
  have HS2 : Hid (SV w2 lo g0 n0 c0 g1 n1 c1 qs ws cells0 cells1 G) := Hid.mk (by rw [hc0, hqs]; exact HS2.out)
  clear HB1 HS1 bb1 hw2 hp1 r0 r1 r2 fz2 q0 q1 hc0 hqs
  have q0 := blk_cell bb2 0 (v := .slice (some ⟨g0, 0, none⟩) n0 c0) rfl
  have q1 := blk_cell bb2 1 (v := .slice (some ⟨g1, 0, none⟩) n1 c1) rfl
  go_wp2_with fail
  go_loopw [25] (fun i wr => ∃ (k : Nat) (wk : List TWire) (cells1 : List Value) (G : Nat → Nat → Prop), k ≤ n0 ∧ i = .int .i64 k ∧ svF n0 who n0 0 ws = svF n0 who (n0 - k) k wk ∧ Few wk ∧ SV wr lo g0 n0 c0 g1 n1 c1 qs wk cells0 cells1 G ∧ Off lo w wr ∧ w.heap.size < wr.heap.size ∧
    wr.heap[w.heap.size]? = some (.cells #[.slice (some ⟨g0, 0, none⟩) n0 c0, .slice (some ⟨g1, 0, none⟩) n1 c1] 32 (0, 0))) (fun i _ => n0 - (intOf i).toNat)
  case atStart => exact ⟨0, ws, cells1, G, Nat.zero_le _, rfl, rfl, HF.out, HS2.out, HB2.out, blk_lt bb2, bb2⟩
  case round =>
    clear HS2 HB2 bb2 q0 q1
    obtain ⟨k, wk, cells1, G, hk, rfl, hsv, hfw, hS, hbw, zr, bb⟩ := hrel
    have q0 := blk_cell bb 0 (v := .slice (some ⟨g0, 0, none⟩) n0 c0) rfl
    have q1 := blk_cell bb 1 (v := .slice (some ⟨g1, 0, none⟩) n1 c1) rfl
    by_cases hlt : k < n0
    · have hki : (k : Int) < (n0 : Int) := by omega
      have hm : n0 - k = (n0 - (k + 1)) + 1 := by omega
      rw [hm] at hsv
      by_cases e : k = who
      · subst e
        have hss : svF n0 k (n0 - (k + 1) + 1) k wk = svF n0 k (n0 - (k + 1)) (k + 1) wk := by simp [svF, svS]
        rw [hss] at hsv
        have HSV := Hid.mk hsv
        have HSS := Hid.mk hS
        have HFW := Hid.mk hfw
        clear hsv hS hfw hss hm
        go_wp2
        go_roundw
        case rel => exact ⟨k + 1, wk, cells1, G, by omega, by go_num, HSV.out, HFW.out, HSS.out, hbw, zr, bb⟩
        case measure => simp [intOf]; omega
      · have e' : ((k : Int) == (who : Int)) = false := by simp; omega
        have hn1k : k * n0 + who < n1 := by rw [HN1.out]; exact idx_lt hlt hwho
        have hn1w : who * n0 + k < n1 := by rw [HN1.out]; exact idx_lt hwho hlt
        have hkk := idx_ne hlt hwho e
        obtain ⟨x, hx⟩ := hS.few hn1k
        obtain ⟨y, hy⟩ := hS.few hn1w
        have KW := Hid.mk (fun V => wireOf_any (some ⟨g0, 0, none⟩) n0 c0 g1 n1 c1 k who V hn HN1.out hlt hwho)
        have KV := Hid.mk (fun V => wireOf_any (some ⟨g0, 0, none⟩) n0 c0 g1 n1 c1 who k V hn HN1.out hwho hlt)
        obtain ⟨A, hA⟩ : ∃ A, k * n0 + who = A := ⟨_, rfl⟩
        obtain ⟨B, hB⟩ : ∃ B, who * n0 + k = B := ⟨_, rfl⟩
        have hss : svF n0 who (n0 - (k + 1) + 1) k wk = if y.1.length < 12 then svF n0 who (n0 - (k + 1)) (k + 1) ((wk.set A (x.1, x.2.1, true)).set B (y.1 ++ [0], y.2.1, y.2.2)) else (false, wk) := by
          by_cases q : y.1.length < 12
          · simp [svF, svS, e, hA, hB, wirAt_of (hA ▸ hx), wirAt_of (hB ▸ hy), q]
          · simp [svF, svS, e, hB, wirAt_of (hB ▸ hy), q]
        rw [hss] at hsv
        rw [hA] at hn1k hkk hx KW
        rw [hB] at hn1w hkk hy KV
        have HSV := Hid.mk hsv
        have HSS := Hid.mk hS
        have HFW := Hid.mk hfw
        have HX := Hid.mk hx
        have HY := Hid.mk hy
        have HBW := Hid.mk hbw
        clear hsv hS hfw hss hm hx hy hA hB hbw
        go_wp2_with fail
        refine (KW.out _).mono ?_
        rintro e w3 ⟨rfl, h3⟩
        have bb3 := blk_below bb h3
        have HS3 := Hid.mk (HSS.out.below h3)
        have HB3 : Hid (Off lo w w3) := Hid.mk (HBW.out.trans (Off.below h3))
        obtain ⟨_, _, _, _, _, _, _, _, _, _, y2, _⟩ := HS3.out.wire (x0 := x.1) (x1 := x.2.1) (b := x.2.2) HX.out
        have fz := HS3.out.frozen1 (A * 3 + 2)
        have q0 := blk_cell bb3 0 (v := .slice (some ⟨g0, 0, none⟩) n0 c0) rfl
        have q1 := blk_cell bb3 1 (v := .slice (some ⟨g1, 0, none⟩) n1 c1) rfl
        clear bb HSS HBW KW h3
        go_upto_region 8 with fail
        obtain ⟨cells1, G, hS4⟩ := HS3.out.setOpen HX.out true
        obtain ⟨w4, hw4⟩ : ∃ u, u = w3.setCell ⟨g1, A * 3 + 2, none⟩ (.bool true) := ⟨_, rfl⟩
        have bb4 : w4.heap[w.heap.size]? = some (.cells #[.slice (some ⟨g0, 0, none⟩) n0 c0, .slice (some ⟨g1, 0, none⟩) n1 c1] 32 (0, 0)) := by rw [hw4]; exact blk_other bb3 (by show w.heap.size ≠ g1; omega) _
        have HB4 : Hid (Off lo w w4) := Hid.mk (by rw [hw4]; exact HB3.out.setCellO l1.1 _)
        rw [← hw4] at hS4 ⊢
        have HS4 := Hid.mk hS4
        clear hS4 hw4 HS3 HB3 bb3 y2 fz q0 q1
        have q0 := blk_cell bb4 0 (v := .slice (some ⟨g0, 0, none⟩) n0 c0) rfl
        have q1 := blk_cell bb4 1 (v := .slice (some ⟨g1, 0, none⟩) n1 c1) rfl
        go_wp2_with fail
        refine (KV.out _).mono ?_
        rintro e w5 ⟨rfl, h5⟩
        have bb5 := blk_below bb4 h5
        have HS5 := Hid.mk (HS4.out.below h5)
        have HB5 : Hid (Off lo w w5) := Hid.mk (HB4.out.trans (Off.below h5))
        have q0 := blk_cell bb5 0 (v := .slice (some ⟨g0, 0, none⟩) n0 c0) rfl
        have q1 := blk_cell bb5 1 (v := .slice (some ⟨g1, 0, none⟩) n1 c1) rfl
        clear bb4 HS4 HB4 KV h5
        obtain ⟨cur, hcur, hcc⟩ := HS5.out.blk1
        have hy5 : (wk.set A (x.1, x.2.1, true))[B]? = some y := by rw [List.getElem?_set_ne hkk]; exact HY.out
        obtain ⟨e0, f0, e1, f1, F0, F1, _, hs5, _, _, _, o0, _⟩ := HS5.out.wire (x0 := y.1) (x1 := y.2.1) (b := y.2.2) hy5
        have hat := At.owned (RInts.own_iff.1 o0).2.2.1
        have hcs : cur[B * 3]? = some (.slice e0 y.1.length f0) := by
          rw [hcc (B * 3) (by omega)]
          have q := sub_at (cells := cells1) (o := B * 3) (k := 3) (j := 0) (by omega)
          rw [hs5] at q
          exact q.symm
        have KP := Hid.mk (putWord_any g1 (B * 3) e0 y.1.length f0 y.1 0 cur 76 w5 rfl (HFW.out B y HY.out) hcur hcs hat)
        have HY5 := Hid.mk hy5
        clear hcur hcc hcs hs5 hat o0 hy5
        go_wp2_with fail
        refine KP.out.mono ?_
        rintro e w6 (⟨hl12, r, d, V, rfl, hbV, ho, rfl⟩ | ⟨hge, rfl, hbV⟩)
        · have hl : (y.1 ++ [(0 : Int)]).length = y.1.length + 1 := by simp
          rw [← hl] at ho
          obtain ⟨cells1', G', hS6⟩ := HS5.out.setWords HY5.out hbV (by rw [hl]; omega) ho
          rw [hl] at hS6
          have bb6 : (V.setCell ⟨g1, B * 3, none⟩ (.slice r (y.1.length + 1) d)).heap[w.heap.size]? = some (.cells #[.slice (some ⟨g0, 0, none⟩) n0 c0, .slice (some ⟨g1, 0, none⟩) n1 c1] 32 (0, 0)) := blk_other (blk_below bb5 hbV) (by show w.heap.size ≠ g1; omega) _
          have HB6 : Hid (Off lo w (V.setCell ⟨g1, B * 3, none⟩ (.slice r (y.1.length + 1) d))) := Hid.mk ((HB5.out.trans (Off.below hbV)).setCellO l1.1 _)
          have HSV2 : Hid (svF n0 who n0 0 ws = svF n0 who (n0 - (k + 1)) (k + 1) ((wk.set A (x.1, x.2.1, true)).set B (y.1 ++ [0], y.2.1, y.2.2))) := Hid.mk (by rw [HSV.out, if_pos hl12])
          have HF6 : Hid (Few ((wk.set A (x.1, x.2.1, true)).set B (y.1 ++ [0], y.2.1, y.2.2))) := Hid.mk (Few.set (x := (y.1 ++ [0], y.2.1, y.2.2)) (Few.set (x := (x.1, x.2.1, true)) HFW.out A (HFW.out A x HX.out)) B (by show (y.1 ++ [(0 : Int)]).length ≤ 12; rw [hl]; omega))
          have HS6 := Hid.mk hS6
          have HBB := Hid.mk bb6
          clear HSV HFW HS5 HB5 bb5 q0 q1 ho hbV hl hS6 bb6 KP
          go_wp2
          go_roundw
          case rel => exact ⟨k + 1, _, cells1', G', by omega, by go_num, HSV2.out, HF6.out, HS6.out, HB6.out, blk_lt HBB.out, HBB.out⟩
          case measure => simp [intOf]; omega
        · have HE : Hid (svF n0 who n0 0 ws = (false, wk)) := Hid.mk (by rw [HSV.out, if_neg hge])
          have HB6 : Hid (Off lo w w6) := Hid.mk (HB5.out.trans (Off.below hbV))
          clear HSV HFW HS5 HB5 bb5 q0 q1 hbV KP
          go_wp2
          go_ret
          rw [HE.out]
          exact ⟨rfl, HB6.out, fun q => by cases q⟩
    · obtain rfl : k = n0 := by omega
      have hki : ¬ (k : Int) < (k : Int) := by omega
      have HE : Hid (svF k who k 0 ws = (true, wk)) := Hid.mk (by rw [hsv, Nat.sub_self]; rfl)
      have HSS := Hid.mk hS
      have HBW := Hid.mk hbw
      clear hsv hS hfw hbw
      go_wp2
      go_ret
      rw [HE.out]
      exact ⟨rfl, HBW.out, fun _ => ⟨cells0, cells1, G, by rw [← HQ.out]; exact HSS.out⟩⟩

end Go.Proofs.Ytnfdncofobkjhaa

/- Contract of impl.takeMarker. -/
namespace Go.Proofs.Ytnfdncofobkjhaa
open Go.RowKit

/-- The marker comes by the wire number B to `who`. -/
def mkW (ws : List TWire) (B : Nat) : List TWire := ws.set B ((wirAt ws B).1, (wirAt ws B).2.1, false)
def mkF (n who B : Nat) (p : TProc) (ws : List TWire) : Bool × List TWire :=
  if p.2.2 then (true, mkW ws B) else ((svF n who n 0 ws).1, mkW (svF n who n 0 ws).2 B)
def mkP (who : Nat) (p : TProc) (ps : List TProc) : List TProc := if p.2.2 then ps else ps.set who (p.1, p.1, true)

set_option maxRecDepth 100000 in
set_option maxHeartbeats 8000000 in
theorem takeMarker_any (lo : Nat → Prop) (g0 n0 c0 g1 n1 c1 who B : Nat) (ps : List TProc) (ws : List TWire) (cells0 cells1 : List Value) (G : Nat → Nat → Prop) (w : World) (p : TProc) (hn : n0 ≤ 4) (h1 : n1 = n0 * n0) (hwho : who < n0) (hp : ps[who]? = some p) (hf : Few ws) (hB : B < n1)
    (h : SV w lo g0 n0 c0 g1 n1 c1 ps ws cells0 cells1 G) :
    Calls Try.prog 91 #[.agg #[.slice (some ⟨g0, 0, none⟩) n0 c0, .slice (some ⟨g1, 0, none⟩) n1 c1], .pointer (some ⟨g1, B * 3, none⟩), .int .i64 who] w fun e w' => e = .returned (.bool (mkF n0 who B p ws).1) ∧ Off lo w w' ∧
      ((mkF n0 who B p ws).1 = true → ∃ cells0 cells1 G, SV w' lo g0 n0 c0 g1 n1 c1 (mkP who p ps) (mkF n0 who B p ws).2 cells0 cells1 G) := by
  obtain ⟨W, hW⟩ : ∃ W, W = w.alloc (.cells #[.slice (some ⟨g0, 0, none⟩) n0 c0, .slice (some ⟨g1, 0, none⟩) n1 c1] 32) := ⟨_, rfl⟩
  have hb : Below w.heap.size w W := by rw [hW]; exact (Below.refl _ _).alloc (Nat.le_refl _) _
  have bb : W.heap[w.heap.size]? = some (.cells #[.slice (some ⟨g0, 0, none⟩) n0 c0, .slice (some ⟨g1, 0, none⟩) n1 c1] 32 (0, 0)) := by rw [hW]; exact heap_alloc_new _ _
  have l0 := h.l0
  have l1 := h.l1
  have q0 := blk_cell bb 0 (v := .slice (some ⟨g0, 0, none⟩) n0 c0) rfl
  have q1 := blk_cell bb 1 (v := .slice (some ⟨g1, 0, none⟩) n1 c1) rfl
  have hW0 := h.below hb
  have KS := Hid.mk (saveProc_any lo g0 n0 c0 g1 n1 c1 who ps ws cells0 cells1 G W p hn h1 hwho hp hf hW0)
  obtain ⟨z0, z1, zb⟩ := p
  obtain ⟨_, _, _, _, r2⟩ := hW0.proc hp
  have hwi : (who : Int) < (n0 : Int) := by omega
  have HS0 := Hid.mk hW0
  have HB := Hid.mk (show Off lo w W from Off.below hb)
  have HBL : Hid (B < n1) := Hid.mk hB
  have HN1 := Hid.mk h1
  clear hf hp h hW0 hb hB h1
  cases zb with
  | true =>
    obtain ⟨x, hx⟩ := HS0.out.few HBL.out
    obtain ⟨_, _, _, _, _, _, _, _, _, _, y2, _⟩ := HS0.out.wire (x0 := x.1) (x1 := x.2.1) (b := x.2.2) hx
    have fz := HS0.out.frozen1 (B * 3 + 2)
    have HE : Hid (mkF n0 who B (z0, z1, true) ws = (true, ws.set B (x.1, x.2.1, false)) ∧ mkP who (z0, z1, true) ps = ps) := Hid.mk ⟨by simp [mkF, mkW, wirAt_of hx], by simp [mkP]⟩
    obtain ⟨cells1', G', hS4⟩ := HS0.out.setOpen hx false
    have HS4 := Hid.mk hS4
    clear hS4 hx HS0 KS
    rw [HE.out.1, HE.out.2]
    go_enter Try.func91, Try.ntmps91
    go_upto_region 1 with fail
    rw [← hW]
    clear hW
    go_wp2
    go_ret
    exact ⟨rfl, HB.out.setCellO l1.1 _, fun _ => ⟨cells0, cells1', G', HS4.out⟩⟩
  | false =>
    have HE : Hid (mkF n0 who B (z0, z1, false) ws = ((svF n0 who n0 0 ws).1, mkW (svF n0 who n0 0 ws).2 B) ∧ mkP who (z0, z1, false) ps = ps.set who (z0, z0, true)) := Hid.mk ⟨by simp [mkF], by simp [mkP]⟩
    rw [HE.out.1, HE.out.2]
    obtain ⟨T, hT⟩ : ∃ T, svF n0 who n0 0 ws = T := ⟨_, rfl⟩
    rw [hT] at KS ⊢
    obtain ⟨tb, ws'⟩ := T
    clear hT HE
    go_enter Try.func91, Try.ntmps91
    go_upto_region 1 with fail
    rw [← hW]
    clear hW HS0
    go_wp2_with fail
    refine KS.out.mono ?_
    rintro e w1 ⟨rfl, hb1, hs1⟩
    have HB1 := Hid.mk (HB.out.trans hb1)
    cases tb with
    | false =>
      clear hb1 hs1 KS HB
      go_wp2
      go_ret
      exact ⟨rfl, HB1.out, fun q => by cases q⟩
    | true =>
      obtain ⟨d0, d1, H, hS1⟩ := hs1 rfl
      obtain ⟨x, hx⟩ := hS1.few HBL.out
      obtain ⟨_, _, _, _, _, _, _, _, _, _, y2, _⟩ := hS1.wire (x0 := x.1) (x1 := x.2.1) (b := x.2.2) hx
      have fz := hS1.frozen1 (B * 3 + 2)
      have HX : Hid (mkW ws' B = ws'.set B (x.1, x.2.1, false)) := Hid.mk (by simp [mkW, wirAt_of hx])
      obtain ⟨cells1', G', hS4⟩ := hS1.setOpen hx false
      have HS4 := Hid.mk hS4
      clear hb1 hs1 KS HB hS1 hS4 hx
      go_wp2
      go_ret
      exact ⟨rfl, HB1.out.setCellO l1.1 _, d0, cells1', G', by rw [HX.out]; exact HS4.out⟩

end Go.Proofs.Ytnfdncofobkjhaa

/- Contracts of slices.IndexFunc and slices.ContainsFunc at numbers, whatever function is asked; of the questions asked of words. -/
namespace Go.Proofs.Ytnfdncofobkjhaa
open Go.RowKit

/-- Where the first is of which P holds: below 0 where there is none. -/
def ixF {α : Type} (P : α → Bool) (xs : List α) : Int := if xs.any P then ((xs.findIdx P : Nat) : Int) else -1
theorem ixF_hit {α : Type} {P : α → Bool} {xs : List α} {k : Nat} {x : α} (hx : xs[k]? = some x) (hP : P x = true) (hn : ∀ (i : Nat) (y : α), i < k → xs[i]? = some y → P y = false) : ixF P xs = (k : Int) := by
  obtain ⟨hk, rfl⟩ := List.getElem?_eq_some_iff.1 hx
  have ha : xs.any P = true := List.any_eq_true.2 ⟨_, List.getElem_mem hk, hP⟩
  have hi : xs.findIdx P = k := (List.findIdx_eq hk).2 ⟨hP, fun j hj => hn j _ hj (List.getElem?_eq_getElem (by omega))⟩
  unfold ixF
  rw [if_pos ha, hi]
theorem ixF_none {α : Type} {P : α → Bool} {xs : List α} {n : Nat} (hl : xs.length ≤ n) (hn : ∀ (i : Nat) (y : α), i < n → xs[i]? = some y → P y = false) : ixF P xs = -1 := by
  have ha : xs.any P = false := by
    rw [List.any_eq_false]
    intro x hx
    obtain ⟨i, hi, rfl⟩ := List.getElem_of_mem hx
    rw [hn i _ (by omega) (List.getElem?_eq_getElem hi)]
    simp
  unfold ixF
  rw [ha]
  rfl
theorem ixF_ge {α : Type} (P : α → Bool) (xs : List α) : decide (0 ≤ ixF P xs) = xs.any P := by
  unfold ixF
  cases xs.any P <;> simp
theorem any_not {α : Type} (P : α → Bool) (xs : List α) : xs.any (fun x => !P x) = !xs.all P := by
  induction xs with
  | nil => rfl
  | cons x xs ih => rw [List.any_cons, List.all_cons, ih]; cases P x <;> rfl

theorem isNotSent_any (x : Int) (w : World) :
    Calls Try.prog 86 #[.int .i64 x] w fun e w' => e = .returned (.bool (!stB x)) ∧ Below w.heap.size w w' := by
  by_cases h0 : x < 1
  · have HN : Hid (stB x = false) := Hid.mk (by unfold stB; rw [decide_eq_false (by omega)]; rfl)
    go_enter Try.func86, Try.ntmps86
    go_wp2
    go_ret
    exact ⟨ret_bool (by rw [HN.out]; rfl), Below.refl _ _⟩
  by_cases h1 : 1000000 < x
  · have HN : Hid (stB x = false) := Hid.mk (by unfold stB; rw [decide_eq_false (show ¬ x ≤ 1000000 by omega), Bool.and_false])
    go_enter Try.func86, Try.ntmps86
    go_wp2
    go_ret
    exact ⟨ret_bool (by rw [HN.out]; simp), Below.refl _ _⟩
  · have HN : Hid (stB x = true) := Hid.mk (stB_iff.2 ⟨by omega, by omega⟩)
    have h2 : ¬ x > 1000000 := by omega
    go_enter Try.func86, Try.ntmps86
    go_wp2
    go_ret
    exact ⟨ret_bool (by rw [HN.out]; simp), Below.refl _ _⟩

theorem isNoAmount_any (x : Int) (w : World) :
    Calls Try.prog 83 #[.int .i64 x] w fun e w' => e = .returned (.bool (!amB x)) ∧ Below w.heap.size w w' := by
  by_cases h0 : x < 0
  · have HN : Hid (amB x = false) := Hid.mk (by unfold amB; rw [decide_eq_false (by omega)]; rfl)
    go_enter Try.func83, Try.ntmps83
    go_wp2
    go_ret
    exact ⟨ret_bool (by rw [HN.out]; rfl), Below.refl _ _⟩
  by_cases h1 : 2000000000 < x
  · have HN : Hid (amB x = false) := Hid.mk (by unfold amB; rw [decide_eq_false (show ¬ x ≤ 2000000000 by omega), Bool.and_false])
    go_enter Try.func83, Try.ntmps83
    go_wp2
    go_ret
    exact ⟨ret_bool (by rw [HN.out]; simp), Below.refl _ _⟩
  · have HN : Hid (amB x = true) := Hid.mk (amB_iff.2 ⟨by omega, by omega⟩)
    go_enter Try.func83, Try.ntmps83
    go_wp2
    go_ret
    exact ⟨ret_bool (by rw [HN.out]; simp), Below.refl _ _⟩

theorem isNoWord_any (x : Int) (w : World) :
    Calls Try.prog 85 #[.int .i64 x] w fun e w' => e = .returned (.bool (!wdB x)) ∧ Below w.heap.size w w' := by
  by_cases h0 : x = 0
  · subst h0
    go_enter Try.func85, Try.ntmps85
    go_wp2
    go_ret
    exact ⟨rfl, Below.refl _ _⟩
  · have hne : (x != 0) = true := by simp [h0]
    have hv : wdB x = stB x := by unfold wdB stB; rw [Bool.eq_iff_iff]; simp only [Bool.and_eq_true, decide_eq_true_eq]; omega
    rw [hv]
    clear hv
    go_enter Try.func85, Try.ntmps85
    go_wp2_with fail
    refine (isNotSent_any x w).mono ?_
    rintro e w1 ⟨rfl, hb⟩
    go_wp2
    go_ret
    exact ⟨rfl, hb⟩

set_option maxRecDepth 100000 in
set_option maxHeartbeats 1000000 in
theorem indexInts_any (F : Nat) (P : Int → Bool) (hE : ∀ (args : Array Value) (w : World), (callFunc F args).run Try.prog w = .ok (.enter F args) w) (hF : ∀ (x : Int) (w : World), Calls Try.prog F #[.int .i64 x] w fun e w' => e = .returned (.bool (P x)) ∧ Below w.heap.size w w') (a : Option Addr) (n c : Nat) (zs : List Int) (w : World) (hz : zs.length = n) (hn : n ≤ 9223372036854775807) (ha : At w a zs) :
    Calls Try.prog 92 #[.slice a n c, .func (.func F) #[] #[]] w fun e w' => e = .returned (.int .i64 (ixF P zs)) ∧ Below w.heap.size w w' := by
  have HF := Hid.mk hF
  have HZ := Hid.mk hz
  have HA := Hid.mk ha
  clear hF ha hz
  go_enter Try.func92, Try.ntmps92
  go_wp2
  go_loopw [8] (fun i wr => ∃ (k : Nat), k ≤ n ∧ i = .int .i64 k ∧ (∀ (j : Nat) (y : Int), j < k → zs[j]? = some y → P y = false) ∧ Below w.heap.size w wr) (fun i _ => n - (intOf i).toNat)
  case atStart => exact ⟨0, Nat.zero_le _, rfl, fun j y hj => by omega, Below.refl _ _⟩
  case round =>
    obtain ⟨k, hk, rfl, ht, hbw⟩ := hrel
    obtain ⟨wY, rfl⟩ : ∃ x, x = wr := ⟨_, rfl⟩
    by_cases hlt : k < n
    · obtain ⟨b, off, rfl, hb, hc⟩ := (At.below HA.out hbw).some (by have := HZ.out; omega)
      obtain ⟨y, hy⟩ : ∃ y, zs[k]? = some y := ⟨_, List.getElem?_eq_getElem (by have := HZ.out; omega)⟩
      have hcx : wY.cell? ⟨b, off + k, none⟩ = some (.int .i64 y) := by
        have h9 := hc k (by have := HZ.out; omega)
        simpa [List.getD, hy] using h9
      have K := Hid.mk (HF.out y wY)
      have HT := Hid.mk ht
      have HY := Hid.mk hy
      have HBW := Hid.mk hbw
      have hki : (k : Int) < (n : Int) := by omega
      clear hc hy ht hbw
      cases hr : P y with
      | true =>
        rw [hr] at K
        go_wp2_with fail
        refine K.out.mono ?_
        rintro e w3 ⟨rfl, hb3⟩
        have HB3 := Hid.mk (HBW.out.trans (hb3.mono HBW.out.size))
        clear hb3 K
        go_wp2
        go_ret
        exact ⟨ret_int (ixF_hit HY.out hr HT.out).symm, HB3.out⟩
      | false =>
        rw [hr] at K
        go_wp2_with fail
        refine K.out.mono ?_
        rintro e w3 ⟨rfl, hb3⟩
        have HB3 := Hid.mk (HBW.out.trans (hb3.mono HBW.out.size))
        clear hb3 K
        go_wp2
        go_roundw
        case rel => exact ⟨k + 1, by omega, by go_num, fun j z hj hz => by
          by_cases e : j = k
          · subst e; rw [HY.out] at hz; cases hz; exact hr
          · exact HT.out j z (by omega) hz, HB3.out⟩
        case measure => simp [intOf]; omega
    · have HT := Hid.mk ht
      clear ht
      go_wp2
      go_ret
      exact ⟨ret_int (ixF_none (n := k) (by have := HZ.out; omega) HT.out).symm, hbw⟩

theorem containsInts_any (F : Nat) (P : Int → Bool) (hE : ∀ (args : Array Value) (w : World), (callFunc F args).run Try.prog w = .ok (.enter F args) w) (hF : ∀ (x : Int) (w : World), Calls Try.prog F #[.int .i64 x] w fun e w' => e = .returned (.bool (P x)) ∧ Below w.heap.size w w') (a : Option Addr) (n c : Nat) (zs : List Int) (w : World) (hz : zs.length = n) (hn : n ≤ 9223372036854775807) (ha : At w a zs) :
    Calls Try.prog 84 #[.slice a n c, .func (.func F) #[] #[]] w fun e w' => e = .returned (.bool (zs.any P)) ∧ Below w.heap.size w w' := by
  have K := Hid.mk (indexInts_any F P hE hF a n c zs w hz hn ha)
  rw [← ixF_ge P zs]
  obtain ⟨q, hq⟩ : ∃ q, ixF P zs = q := ⟨_, rfl⟩
  rw [hq] at K ⊢
  clear ha hz hF hE hq
  go_enter Try.func84, Try.ntmps84
  go_wp2_with fail
  refine K.out.mono ?_
  rintro e w2 ⟨rfl, hb⟩
  clear K
  go_wp2
  go_ret
  exact ⟨rfl, hb⟩

end Go.Proofs.Ytnfdncofobkjhaa
