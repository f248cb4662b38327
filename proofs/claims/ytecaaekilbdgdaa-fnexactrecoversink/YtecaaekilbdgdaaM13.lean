/- Several texts of one proof, in build order: CmS, PsL, GroundM, L2Own, RowH, TableH. -/
import Derived.Test.YtecaaekilbdgdaaM12
import Derived.Test.YtecaaekilbdgdaaM6
import Derived.Test.YtecaaekilbdgdaaM3
import Derived.Test.YtecaaekilbdgdaaM0
import Derived.Test.YtecaaekilbdgdaaM8

/- Contract of the model's l16Commit. -/
namespace Go.Proofs.Ytecaaekilbdgdaa
open Go.RowKit

/-- All that is stored is given out; the list of it lies where it lay. -/
def ACRet (e : Ending) (w w' : World) (F : Nat → Prop) (a0 : Option Addr) (n0 c0 : Nat) (t : Int) (a2 : Option Addr) (n2 c2 : Nat) (a3 : Option Addr) (n3 c3 : Nat) (src pd : List Int) (ps : List TPrepared) (zou : List Int) (zl zu : Int) (XK : Nat) : Prop :=
  ∃ b3 k3 r l d, e = .returned (.tuple #[.agg #[.slice a0 n0 c0, .int .i64 t, .slice a2 n2 c2, .slice b3 0 k3, .slice r l d, .int .i64 zl, .int .i64 zu], .int .i64 (XK : Nat)]) ∧ (b3 = none → k3 = 0) ∧
    RSink.Own w' (Gr F w w') [.slice a0 n0 c0, .int .i64 t, .slice a2 n2 c2, .slice a3 n3 c3, .slice r l d, .int .i64 zl, .int .i64 zu] (src, t, pd, ps, zou, zl, zu) ∧ Off F w w'

set_option maxRecDepth 100000 in
set_option maxHeartbeats 2000000 in
theorem l16Commit_any (F : Nat → Prop) (a0 : Option Addr) (n0 c0 : Nat) (a2 : Option Addr) (n2 c2 : Nat) (a3 : Option Addr) (n3 c3 : Nat) (a4 : Option Addr) (n4 c4 : Nat) (t la up : Int) (src pd : List Int) (ps : List TPrepared) (ou : List Int) (w : World) (hF : ∀ b, F b → b < w.heap.size) (h34 : n3 ≤ 4) (hrw : ∀ p ∈ ps, p.2.2.length ≤ 30) (hol : ou.length + 30 * n3 ≤ 150) (ho : RSink.Own w F [.slice a0 n0 c0, .int .i64 t, .slice a2 n2 c2, .slice a3 n3 c3, .slice a4 n4 c4, .int .i64 la, .int .i64 up] (src, t, pd, ps, ou, la, up)) :
    Calls Try.prog 40 #[.agg #[.slice a0 n0 c0, .int .i64 t, .slice a2 n2 c2, .slice a3 n3 c3, .slice a4 n4 c4, .int .i64 la, .int .i64 up]] w fun e w' => ACRet e w w' F a0 n0 c0 t a2 n2 c2 a3 n3 c3 src pd ps (ouC ou ps) (noC la ps) (upF up ps) n3 := by
  obtain ⟨W, hW⟩ : ∃ W, W = (w.alloc (.cells #[.slice a0 n0 c0, .int .i64 t, .slice a2 n2 c2, .slice a3 n3 c3, .slice a4 n4 c4, .int .i64 la, .int .i64 up] 25)).alloc (.cells #[.slice none 0 0, .int .i64 0, .slice none 0 0, .slice none 0 0, .slice none 0 0, .int .i64 0, .int .i64 0] 25) := ⟨_, rfl⟩
  have B0 : Below w.heap.size w W := by rw [hW]; exact ((Below.refl _ _).alloc (Nat.le_refl _) _).alloc (by simp) _
  have b0 : W.heap[w.heap.size]? = some (.cells #[.slice a0 n0 c0, .int .i64 t, .slice a2 n2 c2, .slice a3 n3 c3, .slice a4 n4 c4, .int .i64 la, .int .i64 up] 25 (0, 0)) := by rw [hW]; exact blk_alloc (heap_alloc_new w _) _
  have b1 : W.heap[w.heap.size + 1]? = some (.cells #[.slice none 0 0, .int .i64 0, .slice none 0 0, .slice none 0 0, .slice none 0 0, .int .i64 0, .int .i64 0] 25 (0, 0)) := by
    rw [hW]
    have q := heap_alloc_new (w.alloc (.cells #[.slice a0 n0 c0, .int .i64 t, .slice a2 n2 c2, .slice a3 n3 c3, .slice a4 n4 c4, .int .i64 la, .int .i64 up] 25)) (.cells #[.slice none 0 0, .int .i64 0, .slice none 0 0, .slice none 0 0, .slice none 0 0, .int .i64 0, .int .i64 0] 25)
    simpa only [World.size_alloc] using q
  have zW : W.heap.size = w.heap.size + 2 := by rw [hW]; simp
  have hl3 := (RSink.lens ho).2.2.2.2.1
  have hnil3 := (RSink.at_iff (RSink.toAt ho)).2.2.1.2.2.2
  have hg3 : (0 < n3 → ∃ g, a3 = some ⟨g, 0, none⟩ ∧ a3 = some ⟨g, 0 * 3, none⟩) ∧ n3 ≤ c3 := by
    obtain ⟨_, _, F3, _, _, _, ⟨a, n, c, cells, G, hcs, hL⟩, _⟩ := RSink.own_iff ho
    simp only [List.cons.injEq, Value.slice.injEq, and_true] at hcs
    obtain ⟨rfl, rfl, rfl⟩ := hcs
    refine ⟨fun h => ?_, ownCap hL.outer⟩
    rcases hL.outer.2 with ⟨_, h0⟩ | ⟨g, cap, cur, hv, _⟩
    · omega
    · simp only [Value.slice.injEq, true_and] at hv
      exact ⟨g, hv.1, by rw [Nat.zero_mul]; exact hv.1⟩
  obtain ⟨XO, hXO⟩ : ∃ x, ouC ou ps = x := ⟨_, rfl⟩
  obtain ⟨XL, hXL⟩ : ∃ x, noC la ps = x := ⟨_, rfl⟩
  obtain ⟨XU, hXU⟩ : ∃ x, upF up ps = x := ⟨_, rfl⟩
  rw [hXO, hXL, hXU]
  have HINV : Hid (ouC ou (ps.drop 0) = XO ∧ noC la (ps.drop 0) = XL ∧ upF up (ps.drop 0) = XU) := Hid.mk ⟨hXO, hXL, hXU⟩
  have HN3 := Hid.mk hnil3
  have HG3 := Hid.mk hg3
  have H3 := Hid.mk hl3
  have HRW := Hid.mk hrw
  have HOX := Hid.mk (RSink.ownBelow ho B0)
  clear hXO hXL hXU hnil3 hg3 hl3 hrw ho
  go_enter Try.func40, Try.ntmps40
  go_upto_region 1 with fail
  rw [← hW]
  clear hW
  go_wp2_with fail
  go_loopw [4] (fun i wr => ∃ (k m : Nat) (b3 : Option Addr) (k3 : Nat) (r : Option Addr) (l d : Nat) (you : List Int) (yl yu : Int) (G : Nat → Prop), i = .int .i64 (k : Nat) ∧ k + m = n3 ∧ wr.heap[w.heap.size]? = some (.cells #[.slice a0 n0 c0, .int .i64 t, .slice a2 n2 c2, .slice b3 m k3, .slice r l d, .int .i64 yl, .int .i64 yu] 25 (0, 0)) ∧ wr.heap[w.heap.size + 1]? = some (.cells #[.slice none 0 0, .int .i64 0, .slice none 0 0, .slice none 0 0, .slice none 0 0, .int .i64 0, .int .i64 0] 25 (0, 0)) ∧ RSink.Own wr G [.slice a0 n0 c0, .int .i64 t, .slice a2 n2 c2, .slice a3 n3 c3, .slice r l d, .int .i64 yl, .int .i64 yu] (src, t, pd, ps, you, yl, yu) ∧
    (0 < m → ∃ g, a3 = some ⟨g, 0, none⟩ ∧ b3 = some ⟨g, k * 3, none⟩) ∧ m ≤ k3 ∧ (b3 = none → k3 = 0) ∧ ouC you (ps.drop k) = XO ∧ noC yl (ps.drop k) = XL ∧ upF yu (ps.drop k) = XU ∧ you.length + 30 * m ≤ 150 ∧ (∀ b, G b → F b ∨ (w.heap.size + 2 ≤ b ∧ b < wr.heap.size)) ∧ Off F w wr ∧ w.heap.size + 2 ≤ wr.heap.size) (fun i _ => 5 - (intOf i).toNat)
  case atStart => exact ⟨0, n3, a3, c3, a4, n4, c4, ou, la, up, F, rfl, by omega, b0, b1, HOX.out, HG3.out.1, HG3.out.2, HN3.out, HINV.out.1, HINV.out.2.1, HINV.out.2.2, hol, fun b h => .inl h, Off.below B0, by omega⟩
  case round =>
    obtain ⟨k, m, b3, k3, r, l, d, you, yl, yu, G, rfl, hkm, e0, e1, hoy, hg, hmk, hnil, hx1, hx2, hx3, hyl, hgf, hof, hz⟩ := hrel
    obtain ⟨wY, rfl⟩ : ∃ x, x = wr := ⟨_, rfl⟩
    have HX1 := Hid.mk hx1
    have HX2 := Hid.mk hx2
    have HX3 := Hid.mk hx3
    have HGF := Hid.mk hgf
    have HOF := Hid.mk hof
    have HNIL := Hid.mk hnil
    have HKM := Hid.mk hkm
    have HOY := Hid.mk hoy
    have hG : ∀ b, G b → b < wY.heap.size := fun b h => (hgf b h).elim (fun q => by have := hF b q; omega) (fun q => q.2)
    have hwk : IntKind.i64.wrap ((k : Int) + 1) = ((k + 1 : Nat) : Int) := by rw [IntWalk.i64_in _ (by omega)]; omega
    cases m with
    | zero =>
      have KS := Hid.mk (step3_no a0 n0 c0 a2 n2 c2 b3 k3 r l d t yl yu wY)
      have p0 := blk_cell e0 0 (v := .slice a0 n0 c0) rfl
      have p1 := blk_cell e0 1 (v := .int .i64 t) rfl
      have p2 := blk_cell e0 2 (v := .slice a2 n2 c2) rfl
      have p3 := blk_cell e0 3 (v := .slice b3 0 k3) rfl
      have p4 := blk_cell e0 4 (v := .slice r l d) rfl
      have p5 := blk_cell e0 5 (v := .int .i64 yl) rfl
      have p6 := blk_cell e0 6 (v := .int .i64 yu) rfl
      clear hx1 hx2 hx3 hgf hof hnil hkm hoy hg hyl
      go_wp2_with fail
      refine KS.out.mono ?_
      rintro e w1 ⟨rfl, hb1⟩
      have e0 := blk_below e0 hb1
      have e1 := blk_below e1 hb1
      have z1 := hb1.size
      have HB1 := Hid.mk hb1
      obtain ⟨X, hX⟩ : ∃ u, u = w1.alloc (.cells #[.slice a0 n0 c0, .int .i64 t, .slice a2 n2 c2, .slice b3 0 k3, .slice r l d, .int .i64 yl, .int .i64 yu] 25) := ⟨_, rfl⟩
      have bX : Below w1.heap.size w1 X := by rw [hX]; exact (Below.refl _ _).alloc (Nat.le_refl _) _
      have e0 := blk_below e0 bX
      have e1 := blk_below e1 bX
      have zX := bX.size
      clear hb1 KS p0 p1 p2 p3 p4 p5 p6
      go_upto_region 3 with fail
      rw [← hX]
      clear hX
      have p0 := blk_cell e0 0 (v := .slice a0 n0 c0) rfl
      have p1 := blk_cell e0 1 (v := .int .i64 t) rfl
      have p2 := blk_cell e0 2 (v := .slice a2 n2 c2) rfl
      have p3 := blk_cell e0 3 (v := .slice b3 0 k3) rfl
      have p4 := blk_cell e0 4 (v := .slice r l d) rfl
      have p5 := blk_cell e0 5 (v := .int .i64 yl) rfl
      have p6 := blk_cell e0 6 (v := .int .i64 yu) rfl
      have y0 := blk_cell e1 0 (v := .slice none 0 0) rfl
      have y1 := blk_cell e1 1 (v := .int .i64 0) rfl
      have y2 := blk_cell e1 2 (v := .slice none 0 0) rfl
      have y3 := blk_cell e1 3 (v := .slice none 0 0) rfl
      have y4 := blk_cell e1 4 (v := .slice none 0 0) rfl
      have y5 := blk_cell e1 5 (v := .int .i64 0) rfl
      have y6 := blk_cell e1 6 (v := .int .i64 0) rfl
      have fz0 := blk_frozen e1 0
      have fz1 := blk_frozen e1 1
      have fz2 := blk_frozen e1 2
      have fz3 := blk_frozen e1 3
      have fz4 := blk_frozen e1 4
      have fz5 := blk_frozen e1 5
      have fz6 := blk_frozen e1 6
      obtain ⟨Y, hY⟩ : ∃ u, u = stores X (w.heap.size + 1) 0 [.slice a0 n0 c0, .int .i64 t, .slice a2 n2 c2, .slice b3 0 k3, .slice r l d, .int .i64 yl, .int .i64 yu] := ⟨_, rfl⟩
      have S : Off (fun b => b = w.heap.size + 1) X Y := by rw [hY]; exact stores_off (F := fun b => b = w.heap.size + 1) _ _ _ _ rfl
      have zY : Y.heap.size = X.heap.size := by rw [hY]; exact stores_size _ _ _ _
      have D : Off F w Y := by rw [hY]; exact Off.cut ((HOF.out.mono (fun b h => .inl h)).trans ((Off.below (F := fun b => F b ∨ w.heap.size ≤ b) (HB1.out.trans (bX.mono HB1.out.size))).trans (stores_off (F := fun b => F b ∨ w.heap.size ≤ b) _ _ _ _ (.inr (by omega)))))
      have R : Hid (ACRet (.returned (.tuple #[.agg #[.slice a0 n0 c0, .int .i64 t, .slice a2 n2 c2, .slice b3 0 k3, .slice r l d, .int .i64 yl, .int .i64 yu], .int .i64 (k : Nat)])) w Y F a0 n0 c0 t a2 n2 c2 a3 n3 c3 src pd ps XO XL XU n3) := Hid.mk (by
        have e1 := HX1.out
        have e2 := HX2.out
        have e3 := HX3.out
        have hkn : n3 = k := by have := HKM.out; omega
        rw [List.drop_eq_nil_of_le (by have := H3.out; omega)] at e1 e2 e3
        rw [← e1, ← e2, ← e3, hkn]
        refine ⟨b3, k3, r, l, d, rfl, HNIL.out, ?_, D⟩
        have q := RSink.mono (RSink.ownOff (RSink.ownBelow (RSink.ownBelow HOY.out HB1.out) bX) S (fun b h e => by have h2 : b = w.heap.size + 1 := e; rcases HGF.out b h with q | q; have := hF b q; omega; omega)) (F' := Gr F w Y) (fun b h => (HGF.out b h).elim .inl (fun q => .inr ⟨by omega, by omega⟩))
        rw [hkn] at q
        exact q)
      clear D
      have HY := Hid.mk hY
      clear S hY zY HB1
      go_wp2
      refine bodyPost_ret (v := .tuple #[.agg #[.slice a0 n0 c0, .int .i64 t, .slice a2 n2 c2, .slice b3 0 k3, .slice r l d, .int .i64 yl, .int .i64 yu], .int .i64 (k : Nat)]) (by simp [results, Try.results40, go_sem, y0, y1, y2, y3, y4, y5, y6]) rfl ?_
      have h := R.out
      rw [HY.out] at h
      exact h
    | succ m =>
      obtain ⟨g, hga, hgb⟩ := hg (by omega)
      subst hga hgb
      obtain ⟨⟨no, ut, rw0⟩, hp⟩ : ∃ p, ps[k]? = some p := ⟨_, List.getElem?_eq_getElem (by have := H3.out; omega)⟩
      have hr30 := HRW.out _ (List.mem_of_getElem? hp)
      have hll := (RSink.lens hoy).2.2.2.2.2.2.1
      rw [ouC_step hp] at hx1
      rw [noC_step hp] at hx2
      rw [upF_step hp] at hx3
      simp only at hr30 hx1 hx2 hx3
      have KS := Hid.mk (step3_yes G a0 n0 c0 a2 n2 c2 g k m k3 n3 c3 r l d t yl yu src pd no ut rw0 ps you wY hG hp (by omega) hmk (by omega) (by omega) (by omega) hoy)
      have p0 := blk_cell e0 0 (v := .slice a0 n0 c0) rfl
      have p1 := blk_cell e0 1 (v := .int .i64 t) rfl
      have p2 := blk_cell e0 2 (v := .slice a2 n2 c2) rfl
      have p3 := blk_cell e0 3 (v := .slice (some ⟨g, k * 3, none⟩) (m + 1) k3) rfl
      have p4 := blk_cell e0 4 (v := .slice r l d) rfl
      have p5 := blk_cell e0 5 (v := .int .i64 yl) rfl
      have p6 := blk_cell e0 6 (v := .int .i64 yu) rfl
      have HX1 := Hid.mk hx1
      have HX2 := Hid.mk hx2
      have HX3 := Hid.mk hx3
      have HYL : Hid ((you ++ rw0).length + 30 * m ≤ 150) := Hid.mk (by rw [List.length_append]; omega)
      have hk4 : k + 1 ≤ 4 := by omega
      clear hx1 hx2 hx3 hgf hof hnil hkm hoy hg hyl hll hp hr30
      go_wp2_with fail
      refine KS.out.mono ?_
      rintro e w1 ⟨r', l', d', o, rfl, hom, ho1, hO1⟩
      have hnG : ∀ b, w.heap.size ≤ b → b < w.heap.size + 2 → ¬ G b := fun b h1 h2 h => (HGF.out b h).elim (fun q => by have := hF b q; omega) (fun q => by omega)
      have e0 := (hO1.block w.heap.size (by omega) (hnG _ (by omega) (by omega))).trans e0
      have e1 := (hO1.block (w.heap.size + 1) (by omega) (hnG _ (by omega) (by omega))).trans e1
      have z1 := hO1.size
      have HB1 := Hid.mk hO1
      have HO1 := Hid.mk ho1
      have HOM := Hid.mk hom
      clear ho1 hO1 hnG hom KS p0 p1 p2 p3 p4 p5 p6
      obtain ⟨X, hX⟩ : ∃ u, u = w1.alloc (.cells #[.slice a0 n0 c0, .int .i64 t, .slice a2 n2 c2, .slice (some ⟨g, o, none⟩) m (k3 - 1), .slice r' l' d', .int .i64 no, .int .i64 ut] 25) := ⟨_, rfl⟩
      have bX : Below w1.heap.size w1 X := by rw [hX]; exact (Below.refl _ _).alloc (Nat.le_refl _) _
      have x0 : X.heap[w1.heap.size]? = some (.cells #[.slice a0 n0 c0, .int .i64 t, .slice a2 n2 c2, .slice (some ⟨g, o, none⟩) m (k3 - 1), .slice r' l' d', .int .i64 no, .int .i64 ut] 25 (0, 0)) := by rw [hX]; exact heap_alloc_new w1 _
      have e0 := blk_below e0 bX
      have e1 := blk_below e1 bX
      have zX := bX.size
      have zX2 : w1.heap.size < X.heap.size := by rw [hX]; simp
      go_upto_region 3 with fail
      rw [← hX]
      clear hX
      have p0 := blk_cell x0 0 (v := .slice a0 n0 c0) rfl
      have p1 := blk_cell x0 1 (v := .int .i64 t) rfl
      have p2 := blk_cell x0 2 (v := .slice a2 n2 c2) rfl
      have p3 := blk_cell x0 3 (v := .slice (some ⟨g, o, none⟩) m (k3 - 1)) rfl
      have p4 := blk_cell x0 4 (v := .slice r' l' d') rfl
      have p5 := blk_cell x0 5 (v := .int .i64 no) rfl
      have p6 := blk_cell x0 6 (v := .int .i64 ut) rfl
      have y0 := blk_cell e0 0 (v := .slice a0 n0 c0) rfl
      have y1 := blk_cell e0 1 (v := .int .i64 t) rfl
      have y2 := blk_cell e0 2 (v := .slice a2 n2 c2) rfl
      have y3 := blk_cell e0 3 (v := .slice (some ⟨g, k * 3, none⟩) (m + 1) k3) rfl
      have y4 := blk_cell e0 4 (v := .slice r l d) rfl
      have y5 := blk_cell e0 5 (v := .int .i64 yl) rfl
      have y6 := blk_cell e0 6 (v := .int .i64 yu) rfl
      have fz0 := blk_frozen e0 0
      have fz1 := blk_frozen e0 1
      have fz2 := blk_frozen e0 2
      have fz3 := blk_frozen e0 3
      have fz4 := blk_frozen e0 4
      have fz5 := blk_frozen e0 5
      have fz6 := blk_frozen e0 6
      obtain ⟨X2, hX2⟩ : ∃ u, u = (((((((X.setCell ⟨w.heap.size, 0, none⟩ (.slice a0 n0 c0)).setCell ⟨w.heap.size, 1, none⟩ (.int .i64 t)).setCell ⟨w.heap.size, 2, none⟩ (.slice a2 n2 c2)).setCell ⟨w.heap.size, 3, none⟩ (.slice (some ⟨g, o, none⟩) m (k3 - 1))).setCell ⟨w.heap.size, 4, none⟩ (.slice r' l' d')).setCell ⟨w.heap.size, 5, none⟩ (.int .i64 no)).setCell ⟨w.heap.size, 6, none⟩ (.int .i64 ut)) := ⟨_, rfl⟩
      have e0' : X2.heap[w.heap.size]? = some (.cells #[.slice a0 n0 c0, .int .i64 t, .slice a2 n2 c2, .slice (some ⟨g, o, none⟩) m (k3 - 1), .slice r' l' d', .int .i64 no, .int .i64 ut] 25 (0, 0)) := by rw [hX2]; exact (blk_set (blk_set (blk_set (blk_set (blk_set (blk_set (blk_set e0 0 _) 1 _) 2 _) 3 _) 4 _) 5 _) 6 _)
      have e1' : X2.heap[w.heap.size + 1]? = some (.cells #[.slice none 0 0, .int .i64 0, .slice none 0 0, .slice none 0 0, .slice none 0 0, .int .i64 0, .int .i64 0] 25 (0, 0)) := by rw [hX2]; exact (blk_other (blk_other (blk_other (blk_other (blk_other (blk_other (blk_other e1 (by simp) _) (by simp) _) (by simp) _) (by simp) _) (by simp) _) (by simp) _) (by simp) _)
      have hS2 : Off (fun b => b = w.heap.size) X X2 := by rw [hX2]; exact stores_off (F := fun b => b = w.heap.size) X w.heap.size 0 [.slice a0 n0 c0, .int .i64 t, .slice a2 n2 c2, .slice (some ⟨g, o, none⟩) m (k3 - 1), .slice r' l' d', .int .i64 no, .int .i64 ut] rfl
      have z2 : X2.heap.size = X.heap.size := by rw [hX2]; exact stores_size X w.heap.size 0 [.slice a0 n0 c0, .int .i64 t, .slice a2 n2 c2, .slice (some ⟨g, o, none⟩) m (k3 - 1), .slice r' l' d', .int .i64 no, .int .i64 ut]
      have HREL : Hid (∃ (m' : Nat) (b3 : Option Addr) (k3' : Nat) (r : Option Addr) (l d : Nat) (you : List Int) (yl yu : Int) (G : Nat → Prop), (k + 1) + m' = n3 ∧ X2.heap[w.heap.size]? = some (.cells #[.slice a0 n0 c0, .int .i64 t, .slice a2 n2 c2, .slice b3 m' k3', .slice r l d, .int .i64 yl, .int .i64 yu] 25 (0, 0)) ∧ X2.heap[w.heap.size + 1]? = some (.cells #[.slice none 0 0, .int .i64 0, .slice none 0 0, .slice none 0 0, .slice none 0 0, .int .i64 0, .int .i64 0] 25 (0, 0)) ∧ RSink.Own X2 G [.slice a0 n0 c0, .int .i64 t, .slice a2 n2 c2, .slice (some ⟨g, 0, none⟩) n3 c3, .slice r l d, .int .i64 yl, .int .i64 yu] (src, t, pd, ps, you, yl, yu) ∧
    (0 < m' → ∃ g', (some ⟨g, 0, none⟩ : Option Addr) = some ⟨g', 0, none⟩ ∧ b3 = some ⟨g', (k + 1) * 3, none⟩) ∧ m' ≤ k3' ∧ (b3 = none → k3' = 0) ∧ ouC you (ps.drop (k + 1)) = XO ∧ noC yl (ps.drop (k + 1)) = XL ∧ upF yu (ps.drop (k + 1)) = XU ∧ you.length + 30 * m' ≤ 150 ∧ (∀ b, G b → F b ∨ (w.heap.size + 2 ≤ b ∧ b < X2.heap.size)) ∧ Off F w X2 ∧ w.heap.size + 2 ≤ X2.heap.size) := Hid.mk (by
        refine ⟨m, some ⟨g, o, none⟩, k3 - 1, r', l', d', you ++ rw0, no, ut, Gr G wY w1, by have := HKM.out; omega, e0', e1', ?_, fun h => ⟨g, rfl, by rw [HOM.out h]⟩, by omega, (fun h => by cases h), HX1.out, HX2.out, HX3.out, HYL.out, ?_, ?_, by omega⟩
        · exact RSink.ownOff (RSink.ownBelow HO1.out bX) hS2 (fun b h e => by
            have h2 : b = w.heap.size := e
            rcases h with h | h
            · exact (HGF.out b h).elim (fun q => by have := hF b q; omega) (fun q => by omega)
            · have := h.1; omega)
        · intro b h
          rcases h with h | h
          · exact (HGF.out b h).imp id (fun q => ⟨q.1, by omega⟩)
          · exact .inr ⟨by have := h.1; omega, by have := h.2; omega⟩
        · exact Off.cut ((((HOF.out.mono (fun b h => .inl h)).trans (HB1.out.mono (fun b h => (HGF.out b h).elim .inl (fun h => .inr (by omega))))).trans (Off.below (F := fun b => F b ∨ w.heap.size ≤ b) bX)).trans (hS2.mono (fun b e => .inr (by have h2 : b = w.heap.size := e; omega)))))
      clear e0' e1' hS2 z2 HX1 HX2 HX3 HYL HOM HO1
      go_upto_region 6 with fail
      rw [← hX2]
      clear hX2
      go_wp2
      go_roundw
      case rel =>
        obtain ⟨m', b3, k3', r, l, d, you, yl, yu, G, q⟩ := HREL.out
        exact ⟨k + 1, m', b3, k3', r, l, d, you, yl, yu, G, by go_num, q⟩
      case measure => simp [intOf]; omega

end Go.Proofs.Ytecaaekilbdgdaa

/- A thing that a call has made is appended to a list that lies in memory. -/
namespace Go.Proofs.Ytecaaekilbdgdaa
open Go.RowKit

section
variable {α : Type} {A : Rep α} {w wr w2 w5 : World} {lo : Nat} {e : TypeId} {a a' : Option Addr} {n c c' : Nat} {xs : List α} {cells vs : List Value} {G : Nat → Nat → Prop} {x : α} {o : Obj}
theorem Laid.told (h : Laid A wr (From lo wr.heap.size) e a n c xs cells G n) (hlo : lo ≤ wr.heap.size) (hb : Below wr.heap.size wr w2) (ho : A.Own w2 (From wr.heap.size w2.heap.size) vs x)
    (ho4 : w5.ownsRow lo e A.k (.slice a' (n + 1) c') (n + 1) (cells ++ vs)) (hg4 : (w2.alloc o).grownBy w5 (Value.slice a n c).ownBlock) (hbig : n + 1 ≤ 9223372036854775807)
    (ht4 : (Value.slice a' (n + 1) c').ownBlock = (Value.slice a n c).ownBlock ∨ (Value.slice a' (n + 1) c').ownBlock = some (w2.heap.size + 1)) :
    ∃ G', Laid A w5 (From lo w5.heap.size) e a' (n + 1) c' (xs ++ [x]) (cells ++ vs) G' (n + 1) := by
  have z2 := hb.size
  have z5 : w2.heap.size < w5.heap.size := by have h9 := hg4.size; simp at h9; omega
  have BG : ∀ b, b < w2.heap.size → (Value.slice a n c).ownBlock ≠ some b → w5.heap[b]? = w2.heap[b]? := fun b hb hn => (hg4.block b (by simp; omega) (fun e => hn e.symm)).trans (Below.heap_alloc w2 _ b hb)
  exact ⟨_, h.push (fun b h => h.2) hb ho (fun b h => h) BG (owns_mono ho4 (Nat.zero_le _)) (by
      rcases ht4 with h9 | h9
      · exact .inl h9
      · refine .inr (fun b e => ?_)
        rw [h9] at e
        simp at e
        omega) hbig (fun b h => ⟨h.1, by have := h.2; omega⟩) (fun b h => ⟨by have := h.1; omega, by have := h.2; omega⟩) (fun b hb => ho4.lt b hb)⟩
theorem Laid.told_below (h : Laid A wr (From lo wr.heap.size) e a n c xs cells G n) (hw : Below lo w wr) (hlo : lo ≤ wr.heap.size) (hb : Below wr.heap.size wr w2) (hg4 : (w2.alloc o).grownBy w5 (Value.slice a n c).ownBlock) : Below lo w w5 :=
  ((hw.trans (hb.mono hlo)).alloc (by have := hb.size; omega) _).grown hg4 (by have := hb.size; simp; omega) (fun j hj => (h.outerF j hj).1)
theorem Laid.base (h : Laid A wr (From lo wr.heap.size) e a n c xs cells G n) (hb : Below wr.heap.size wr w2) : w2.ownsRow lo e A.k (.slice a n c) n cells :=
  owns_below (owns_base h.outer (fun b hb => (h.outerF b hb).1)) hb
end

end Go.Proofs.Ytecaaekilbdgdaa

/- Cells that mean weighted rows, whoever owns them; 'append(out, xs...)' of whatever elements. -/
namespace Go.Proofs.Ytecaaekilbdgdaa
open Go.RowKit

/-- Cells that mean weighted rows. -/
def Means (w : World) : List Value → List WRow → Prop
  | [], [] => True
  | u :: v :: cs, t :: ts => (∃ a c, u = .slice a t.1.length c ∧ (a = none → c = 0) ∧ At w a t.1) ∧ t.1.length ≤ 9223372036854775807 ∧ v = .int .i64 t.2 ∧ Means w cs ts
  | _, _ => False

theorem Means.nil (w : World) : Means w [] [] := trivial
theorem Means.one {w : World} {a : Option Addr} {zs : List Int} {n c : Nat} {x : Int} (hn : zs.length = n) (h6 : n ≤ 9223372036854775807) (hnil : a = none → c = 0) (h : At w a zs) : Means w [.slice a n c, .int .i64 x] [(zs, x)] :=
  ⟨⟨a, c, by rw [hn], hnil, h⟩, by simp only [hn]; exact h6, rfl, trivial⟩

set_option linter.unusedVariables false in
theorem Means.length {w : World} : ∀ {cs : List Value} {ts : List WRow}, Means w cs ts → cs.length = ts.length * 2
  | [], [], _ => rfl
  | [], _ :: _, h => h.elim
  | [_], [], h => h.elim
  | [_], _ :: _, h => h.elim
  | _ :: _ :: _, [], h => h.elim
  | u :: v :: cs, t :: ts, ⟨_, _, _, h⟩ => by have := Means.length h; simp [this]; omega

set_option linter.unusedVariables false in
theorem Means.below {w w' : World} (hb : Below w.heap.size w w') : ∀ {cs : List Value} {ts : List WRow}, Means w cs ts → Means w' cs ts
  | [], [], _ => trivial
  | [], _ :: _, h => h.elim
  | [_], [], h => h.elim
  | [_], _ :: _, h => h.elim
  | _ :: _ :: _, [], h => h.elim
  | u :: v :: cs, t :: ts, ⟨⟨a, c, h1, h0, h2⟩, h3, h4, h5⟩ => ⟨⟨a, c, h1, h0, h2.below hb⟩, h3, h4, Means.below hb h5⟩

set_option linter.unusedVariables false in
theorem Means.append {w : World} : ∀ {cs cs' : List Value} {ts ts' : List WRow}, Means w cs ts → Means w cs' ts' → Means w (cs ++ cs') (ts ++ ts')
  | [], _, [], _, _, h => h
  | [], _, _ :: _, _, h, _ => h.elim
  | [_], _, [], _, h, _ => h.elim
  | [_], _, _ :: _, _, h, _ => h.elim
  | _ :: _ :: _, _, [], _, h, _ => h.elim
  | u :: v :: cs, cs', t :: ts, ts', ⟨h1, h2, h3, h4⟩, h => ⟨h1, h2, h3, Means.append h4 h⟩

set_option linter.unusedVariables false in
theorem Means.take {w : World} : ∀ {cs : List Value} {ts : List WRow} (k : Nat), Means w cs ts → Means w (cs.take (k * 2)) (ts.take k)
  | [], [], _, _ => by simp [Means]
  | [], _ :: _, _, h => h.elim
  | [_], [], _, h => h.elim
  | [_], _ :: _, _, h => h.elim
  | _ :: _ :: _, [], _, h => h.elim
  | u :: v :: cs, t :: ts, 0, _ => by simp [Means]
  | u :: v :: cs, t :: ts, k + 1, ⟨h1, h2, h3, h4⟩ => by
    rw [show (k + 1) * 2 = k * 2 + 1 + 1 by omega]
    exact ⟨h1, h2, h3, Means.take k h4⟩
set_option linter.unusedVariables false in
theorem Means.drop {w : World} : ∀ {cs : List Value} {ts : List WRow} (k : Nat), Means w cs ts → Means w (cs.drop (k * 2)) (ts.drop k)
  | [], [], _, _ => by simp [Means]
  | [], _ :: _, _, h => h.elim
  | [_], [], _, h => h.elim
  | [_], _ :: _, _, h => h.elim
  | _ :: _ :: _, [], _, h => h.elim
  | u :: v :: cs, t :: ts, 0, h => by simpa using h
  | u :: v :: cs, t :: ts, k + 1, ⟨h1, h2, h3, h4⟩ => by
    rw [show (k + 1) * 2 = k * 2 + 1 + 1 by omega]
    exact Means.drop k h4

set_option linter.unusedVariables false in
theorem Means.at {w : World} : ∀ {cs : List Value} {ts : List WRow} (i : Nat), Means w cs ts → i < ts.length → ∃ a c, cs[i * 2]? = some (.slice a (wat ts i).1.length c) ∧ cs[i * 2 + 1]? = some (.int .i64 (wat ts i).2) ∧ (wat ts i).1.length ≤ 9223372036854775807 ∧ (a = none → c = 0) ∧ At w a (wat ts i).1
  | [], [], _, _, h => by simp at h
  | [], _ :: _, _, h, _ => h.elim
  | [_], [], _, h, _ => h.elim
  | [_], _ :: _, _, h, _ => h.elim
  | _ :: _ :: _, [], _, h, _ => h.elim
  | u :: v :: cs, t :: ts, 0, ⟨⟨a, c, h1, h0, h2⟩, h3, h4, _⟩, _ => ⟨a, c, by simp [wat, h1], by simp [wat, h4], by simpa [wat] using h3, h0, by simpa [wat] using h2⟩
  | u :: v :: cs, t :: ts, i + 1, ⟨_, _, _, h5⟩, hi => by
    obtain ⟨a, c, k1, k2, k3, k0, k4⟩ := Means.at i h5 (by simpa using hi)
    have e : wat (t :: ts) (i + 1) = wat ts i := by simp [wat]
    rw [e]
    refine ⟨a, c, ?_, ?_, k3, k0, k4⟩
    · rw [show (i + 1) * 2 = i * 2 + 1 + 1 by omega]; simpa using k1
    · rw [show (i + 1) * 2 + 1 = (i * 2 + 1) + 1 + 1 by omega]; simpa using k2

set_option linter.unusedVariables false in
theorem Means.oneCell {w : World} : ∀ {cs : List Value} {ts : List WRow}, Means w cs ts → ∀ u ∈ cs, u.oneCell' = true
  | [], [], _, _, h => by cases h
  | [], _ :: _, h, _, _ => h.elim
  | [_], [], h, _, _ => h.elim
  | [_], _ :: _, h, _, _ => h.elim
  | _ :: _ :: _, [], h, _, _ => h.elim
  | u :: v :: cs, t :: ts, ⟨⟨a, c, h1, _, _⟩, _, h4, h5⟩, x, hx => by
    rcases List.mem_cons.1 hx with rfl | hx
    · subst h1; rfl
    · rcases List.mem_cons.1 hx with rfl | hx
      · subst h4; rfl
      · exact Means.oneCell h5 x hx

theorem means_of {w : World} : ∀ {ts : List WRow} {cs : List Value}, cs.length = ts.length * 2 → (∀ i, i < ts.length → ∃ a c, cs[i * 2]? = some (.slice a (wat ts i).1.length c) ∧ cs[i * 2 + 1]? = some (.int .i64 (wat ts i).2) ∧ (wat ts i).1.length ≤ 9223372036854775807 ∧ (a = none → c = 0) ∧ At w a (wat ts i).1) → Means w cs ts
  | [], [], _, _ => trivial
  | [], _ :: _, h, _ => by simp at h
  | _ :: _, [], h, _ => by simp at h
  | _ :: _, [_], h, _ => by simp at h; omega
  | t :: ts, u :: v :: cs, hl, h => by
    obtain ⟨a, c, k1, k2, k3, k0, k4⟩ := h 0 (by simp)
    have e : wat (t :: ts) 0 = t := by simp [wat]
    rw [e] at k1 k2 k3 k4
    refine ⟨⟨a, c, by simpa using k1, k0, k4⟩, k3, by simpa using k2, means_of (by simp at hl; omega) fun i hi => ?_⟩
    obtain ⟨a, c, k1, k2, k3, k0, k4⟩ := h (i + 1) (by simpa using hi)
    have e : wat (t :: ts) (i + 1) = wat ts i := by simp [wat]
    rw [e] at k1 k2 k3 k4
    rw [show (i + 1) * 2 = i * 2 + 1 + 1 by omega] at k1 k2
    exact ⟨a, c, by simpa using k1, by simpa using k2, k3, k0, k4⟩

theorem Means.atW {w : World} {cs : List Value} {ts : List WRow} {b off : Nat} (h : Means w cs ts) (hc : ∀ j u, cs[j]? = some u → w.cell? ⟨b, off + j, none⟩ = some u) : AtW w (some ⟨b, off, none⟩) ts :=
  .inr ⟨b, off, rfl, fun i hi => by
    obtain ⟨a, c, k1, k2, k3, _, k4⟩ := h.at i hi
    exact ⟨a, c, by rw [hc _ _ k1], by rw [show off + i * 2 + 1 = off + (i * 2 + 1) by omega, hc _ _ k2], k3, k4⟩⟩

theorem Means.owned {w : World} {cs : List Value} {ts : List WRow} {base : Nat} {e : TypeId} {a : Option Addr} {n c : Nat} (h : Means w cs ts) (hn : ts.length = n) (ho : w.ownsRow base e 2 (.slice a n c) n cs) : AtW w a ts := by
  have hl := h.length
  rcases ho.2 with ⟨h', rfl⟩ | ⟨g, cap, cur, h', _⟩
  · left; exact List.eq_nil_of_length_eq_zero hn
  · simp only [Value.slice.injEq, true_and] at h'
    obtain ⟨rfl, rfl⟩ := h'
    refine h.atW fun j u hj => ?_
    have hj' := (List.getElem?_eq_some_iff.1 hj).1
    rw [Nat.zero_add, ho.cellAt j (by omega)]
    exact hj

/-- A slice of weighted rows as a model's function reads it: where a row's slice is nil it has no room. -/
def AtM (w : World) (a : Option Addr) (ts : List WRow) : Prop :=
  ts = [] ∨ ∃ b off cs, a = some ⟨b, off, none⟩ ∧ Means w cs ts ∧ ∀ j u, cs[j]? = some u → w.cell? ⟨b, off + j, none⟩ = some u

theorem AtM.atW {w : World} {a : Option Addr} {ts : List WRow} (h : AtM w a ts) : AtW w a ts := by
  rcases h with rfl | ⟨b, off, cs, rfl, hm, hc⟩
  · exact .inl rfl
  · exact hm.atW hc
theorem AtM.below {w w' : World} {a : Option Addr} {ts : List WRow} (h : AtM w a ts) (hb : Below w.heap.size w w') : AtM w' a ts := by
  rcases h with rfl | ⟨b, off, cs, rfl, hm, hc⟩
  · exact .inl rfl
  · exact .inr ⟨b, off, cs, rfl, hm.below hb, fun j u hj => cell_later hb (hc j u hj)⟩
theorem AtM.alloc {w : World} {a : Option Addr} {ts : List WRow} (h : AtM w a ts) (o : Obj) : AtM (w.alloc o) a ts := h.below ((Below.refl _ _).alloc (Nat.le_refl _) o)
theorem AtM.drew {w : World} {a : Option Addr} {ts : List WRow} (h : AtM w a ts) : AtM w.drew a ts := h.below (Below.refl _ _).drew
theorem atM_nil (w : World) (a : Option Addr) : AtM w a [] := .inl rfl
theorem Means.ownedM {w : World} {cs : List Value} {ts : List WRow} {base : Nat} {e : TypeId} {a : Option Addr} {n c : Nat} (h : Means w cs ts) (hn : ts.length = n) (ho : w.ownsRow base e 2 (.slice a n c) n cs) : AtM w a ts := by
  have hl := h.length
  rcases ho.2 with ⟨h', rfl⟩ | ⟨g, cap, cur, h', _⟩
  · left; exact List.eq_nil_of_length_eq_zero hn
  · simp only [Value.slice.injEq, true_and] at h'
    obtain ⟨rfl, rfl⟩ := h'
    refine .inr ⟨g, 0, cs, rfl, h, fun j u hj => ?_⟩
    have hj' := (List.getElem?_eq_some_iff.1 hj).1
    rw [Nat.zero_add, ho.cellAt j (by omega)]
    exact hj
theorem owns_nil {w : World} {base : Nat} {e : TypeId} {size : Nat} {a : Option Addr} {n c : Nat} {xs : List Value} (h : w.ownsRow base e size (.slice a n c) n xs) : a = none → c = 0 := by
  rintro rfl
  rcases h.2 with ⟨h', _⟩ | ⟨g, cap, cur, h', _⟩
  · simp at h'; exact h'.2
  · simp at h'
theorem OwnWk.means {w : World} {lo hi : Nat} {te ti : TypeId} {a : Option Addr} {n c : Nat} {ts : List WRow} {cells : List Value} (h : OwnW w lo hi te ti a n c ts cells) (hs : ∀ i, i < n → (wat ts i).1.length ≤ 9223372036854775807) : Means w cells ts :=
  means_of (by rw [h.len]; exact h.outer.1) fun i hi => by
    rw [h.len] at hi
    obtain ⟨a', c', k1, k2, k3⟩ := h.row i hi
    exact ⟨a', c', k1, k2, hs i hi, owns_nil k3, At.owned k3⟩
theorem OwnWk.atM {w : World} {lo hi : Nat} {te ti : TypeId} {a : Option Addr} {n c : Nat} {ts : List WRow} {cells : List Value} (h : OwnW w lo hi te ti a n c ts cells) (hs : ∀ i, i < n → (wat ts i).1.length ≤ 9223372036854775807) : AtM w a ts :=
  (h.means hs).ownedM h.len h.outer
/-- One row of it. -/
theorem AtM.some {w : World} {a : Option Addr} {ts : List WRow} (h : AtM w a ts) (hp : 0 < ts.length) :
    ∃ b off, a = Option.some ⟨b, off, none⟩ ∧ ∀ i, i < ts.length → ∃ a' c', w.cell? ⟨b, off + i * 2, none⟩ = Option.some (.slice a' (wat ts i).1.length c') ∧ w.cell? ⟨b, off + i * 2 + 1, none⟩ = Option.some (.int .i64 (wat ts i).2) ∧
      (wat ts i).1.length ≤ 9223372036854775807 ∧ (a' = none → c' = 0) ∧ At w a' (wat ts i).1 := by
  rcases h with rfl | ⟨b, off, cs, rfl, hm, hc⟩
  · simp at hp
  · refine ⟨b, off, rfl, fun i hi => ?_⟩
    obtain ⟨a', c', k1, k2, k3, k0, k4⟩ := hm.at i hi
    exact ⟨a', c', hc _ _ k1, by rw [show off + i * 2 + 1 = off + (i * 2 + 1) by omega]; exact hc _ _ k2, k3, k0, k4⟩

theorem wpList_append_any {P : Program} {w : World} {ops : Array Oper} {rest : List Oper} {o : Oper} {a : Act} {Q : Exit → Act → World → Prop} (hgd : o.guard = none) (s x : Operand) (t : TypeId)
    (ho : o.op = .call { callee := .builtin .append, args := #[s, x], argTypes := #[t, t] })
    (base : Nat) (e : TypeId) (i : TypeInfo) (z : Value) (size bytes : Nat) (ht : P.underlying t = some (.slice e)) (hi : P.info? e = some i) (hz : i.zero = some z)
    (hsize : i.size = size) (hby : i.bytes = bytes) (hzs : z.cells.size = size) (hsz : 0 < size)
    (v : Value) (n : Nat) (xs : List Value) (hs : a.eval s = v) (hown : w.ownsRow base e size v n xs)
    (ad : Addr) (m c : Nat) (news : List Value) (hx : a.eval x = .slice (some ad) m c) (hl : news.length = m * size) (hat : ∀ j u, news[j]? = some u → w.cell? (ad.add j) = some u) (h1 : ∀ u ∈ news, u.oneCell' = true)
    (h63 : n + m ≤ maxLen) (hbytes : (n + m) * bytes ≤ 140737488355328) (hbase : base ≤ w.heap.size)
    (h : ∀ r cap w', w'.ownsRow base e size (.slice r (n + m) cap) (n + m) (xs ++ news) → w.grownBy w' v.ownBlock → wpList P ops Q rest (a.put o.dst (.slice r (n + m) cap)) w') : wpList P ops Q (o :: rest) a w := by
  refine wpList_append_own w hgd s x t ho base e i z size bytes ht hi hz hsize hby hzs hsz v n xs hs hown ad m c news hx hl hat h1 h63 hbytes hbase ?_
  intro v' w' h2 h3 _
  obtain ⟨r, cap, rfl⟩ := owns_slice h2
  exact h r cap w' h2 h3

end Go.Proofs.Ytecaaekilbdgdaa

/- Contract of spec.l2OwnRow. -/
namespace Go.Proofs.Ytecaaekilbdgdaa
open Go.RowKit

theorem owns_empty (w : World) (e : TypeId) (size : Nat) : (w.alloc (.cells #[] e)).ownsRow w.heap.size e size (.slice (some ⟨w.heap.size, 0, none⟩) 0 0) 0 [] :=
  ⟨by simp, .inr ⟨w.heap.size, 0, #[], rfl, Nat.le_refl _, heap_alloc_new w _, by simp, by simp, by simp, by simp⟩⟩

end Go.Proofs.Ytecaaekilbdgdaa

/- Contracts of the laws' helpers over rows: szRow, toRow, eqRow. -/
namespace Go.Proofs.Ytecaaekilbdgdaa
open Go.RowKit

end Go.Proofs.Ytecaaekilbdgdaa

/- Contracts of the laws' helpers over weighted rows: szWeighted, szWeightedS, szTable, toWeighted, toWeightedS, toTable. -/
namespace Go.Proofs.Ytecaaekilbdgdaa
open Go.RowKit

/-- What szWeightedS takes: a slot a row, and the rows' cells. -/
theorem wtot_cells (ts : List WRow) (k : Nat) (h : k ≤ ts.length) : ∃ s : Nat, wtot ts k = k + s := ⟨wtot ts k - k, by have := wtot_len ts k h; omega⟩

end Go.Proofs.Ytecaaekilbdgdaa
