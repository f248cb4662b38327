/- Several texts of one proof, in build order: CmG, PrU, DrV, PsL. -/
import Derived.Test.YtmbjmmnodcebbaaM18
import Derived.Test.YtmbjmmnodcebbaaM17
import Derived.Test.YtmbjmmnodcebbaaM11
import Derived.Test.YtmbjmmnodcebbaaM6
import Derived.Test.YtmbjmmnodcebbaaM3

/- Contract of the model's l16Commit. -/
namespace Go.Proofs.Ytmbjmmnodcebbaa
open Go.RowKit

/-- What l16Commit tells over a ghost: the stored list in hand is an empty one cut off behind the whole list's last row, with what room was left. -/
def ACG (e : Ending) (w w' : World) (F : Nat → Prop) (a0 : Option Addr) (n0 c0 : Nat) (t : Int) (a2 : Option Addr) (n2 c2 : Nat) (a3 : Option Addr) (n3 c3 : Nat) (src pd : List Int) (ps : List TPrepared) (zou : List Int) (zl zu : Int) (m0 i3 : Nat) : Prop :=
  ∃ b3 k3 r l d, e = .returned (.tuple #[.agg #[.slice a0 n0 c0, .int .i64 t, .slice a2 n2 c2, .slice b3 0 k3, .slice r l d, .int .i64 zl, .int .i64 zu], .int .i64 (m0 : Nat)]) ∧ (b3 = none → k3 = 0) ∧
    (0 < k3 → ∃ g, a3 = some ⟨g, 0, none⟩ ∧ b3 = some ⟨g, n3 * 3, none⟩) ∧ k3 + m0 = i3 ∧
    RSink.Own w' (Gr F w w') [.slice a0 n0 c0, .int .i64 t, .slice a2 n2 c2, .slice a3 n3 c3, .slice r l d, .int .i64 zl, .int .i64 zu] (src, t, pd, ps, zou, zl, zu) ∧ Off F w w'

set_option maxRecDepth 100000 in
set_option maxHeartbeats 2000000 in
theorem l16CommitG_any (F : Nat → Prop) (a0 : Option Addr) (n0 c0 : Nat) (a2 : Option Addr) (n2 c2 : Nat) (a3 : Option Addr) (n3 c3 : Nat) (a4 : Option Addr) (n4 c4 : Nat) (e3 : Option Addr) (i3 k0 m0 : Nat) (t la up : Int) (src pd : List Int) (ps : List TPrepared) (ou : List Int) (w : World) (hF : ∀ b, F b → b < w.heap.size) (hk0 : k0 + m0 = n3) (hg3 : 0 < i3 → ∃ g, a3 = some ⟨g, 0, none⟩ ∧ e3 = some ⟨g, k0 * 3, none⟩) (hmi : m0 ≤ i3) (hni : e3 = none → i3 = 0) (h34 : n3 ≤ 5) (hrw : ∀ p ∈ ps, p.2.2.length ≤ 30) (hol : ou.length + 30 * m0 ≤ 300) (ho : RSink.Own w F [.slice a0 n0 c0, .int .i64 t, .slice a2 n2 c2, .slice a3 n3 c3, .slice a4 n4 c4, .int .i64 la, .int .i64 up] (src, t, pd, ps, ou, la, up)) :
    Calls Try.prog 38 #[.agg #[.slice a0 n0 c0, .int .i64 t, .slice a2 n2 c2, .slice e3 m0 i3, .slice a4 n4 c4, .int .i64 la, .int .i64 up]] w fun e w' => ACG e w w' F a0 n0 c0 t a2 n2 c2 a3 n3 c3 src pd ps (ouC ou (ps.drop k0)) (noC la (ps.drop k0)) (upF up (ps.drop k0)) m0 i3 := by
  obtain ⟨W, hW⟩ : ∃ W, W = (w.alloc (.cells #[.slice a0 n0 c0, .int .i64 t, .slice a2 n2 c2, .slice e3 m0 i3, .slice a4 n4 c4, .int .i64 la, .int .i64 up] 29)).alloc (.cells #[.slice none 0 0, .int .i64 0, .slice none 0 0, .slice none 0 0, .slice none 0 0, .int .i64 0, .int .i64 0] 29) := ⟨_, rfl⟩
  have B0 : Below w.heap.size w W := by rw [hW]; exact ((Below.refl _ _).alloc (Nat.le_refl _) _).alloc (by simp) _
  have b0 : W.heap[w.heap.size]? = some (.cells #[.slice a0 n0 c0, .int .i64 t, .slice a2 n2 c2, .slice e3 m0 i3, .slice a4 n4 c4, .int .i64 la, .int .i64 up] 29 (0, 0)) := by rw [hW]; exact blk_alloc (heap_alloc_new w _) _
  have b1 : W.heap[w.heap.size + 1]? = some (.cells #[.slice none 0 0, .int .i64 0, .slice none 0 0, .slice none 0 0, .slice none 0 0, .int .i64 0, .int .i64 0] 29 (0, 0)) := by
    rw [hW]
    have q := heap_alloc_new (w.alloc (.cells #[.slice a0 n0 c0, .int .i64 t, .slice a2 n2 c2, .slice e3 m0 i3, .slice a4 n4 c4, .int .i64 la, .int .i64 up] 29)) (.cells #[.slice none 0 0, .int .i64 0, .slice none 0 0, .slice none 0 0, .slice none 0 0, .int .i64 0, .int .i64 0] 29)
    simpa only [World.size_alloc] using q
  have zW : W.heap.size = w.heap.size + 2 := by rw [hW]; simp
  have hl3 := (RSink.lens ho).2.2.2.2.1
  obtain ⟨XO, hXO⟩ : ∃ x, ouC ou (ps.drop k0) = x := ⟨_, rfl⟩
  obtain ⟨XL, hXL⟩ : ∃ x, noC la (ps.drop k0) = x := ⟨_, rfl⟩
  obtain ⟨XU, hXU⟩ : ∃ x, upF up (ps.drop k0) = x := ⟨_, rfl⟩
  rw [hXO, hXL, hXU]
  have HINV : Hid (ouC ou (ps.drop k0) = XO ∧ noC la (ps.drop k0) = XL ∧ upF up (ps.drop k0) = XU) := Hid.mk ⟨hXO, hXL, hXU⟩
  have HN3 := Hid.mk hni
  have HG3 := Hid.mk (And.intro hg3 hmi)
  have HK0 := Hid.mk hk0
  have H3 := Hid.mk hl3
  have HRW := Hid.mk hrw
  have HOX := Hid.mk (RSink.ownBelow ho B0)
  have hm05 : m0 ≤ 5 := by omega
  have hk05 : k0 + m0 ≤ 5 := by omega
  clear hXO hXL hXU hni hg3 hl3 hrw ho hk0
  go_enter Try.func38, Try.ntmps38
  go_upto_region 1 with fail
  rw [← hW]
  clear hW
  go_wp2_with fail
  go_loopw [4] (fun i wr => ∃ (j k m : Nat) (b3 : Option Addr) (k3 : Nat) (r : Option Addr) (l d : Nat) (you : List Int) (yl yu : Int) (G : Nat → Prop), i = .int .i64 (j : Nat) ∧ k0 + j = k ∧ k + m = n3 ∧ wr.heap[w.heap.size]? = some (.cells #[.slice a0 n0 c0, .int .i64 t, .slice a2 n2 c2, .slice b3 m k3, .slice r l d, .int .i64 yl, .int .i64 yu] 29 (0, 0)) ∧ wr.heap[w.heap.size + 1]? = some (.cells #[.slice none 0 0, .int .i64 0, .slice none 0 0, .slice none 0 0, .slice none 0 0, .int .i64 0, .int .i64 0] 29 (0, 0)) ∧ RSink.Own wr G [.slice a0 n0 c0, .int .i64 t, .slice a2 n2 c2, .slice a3 n3 c3, .slice r l d, .int .i64 yl, .int .i64 yu] (src, t, pd, ps, you, yl, yu) ∧
    (0 < k3 → ∃ g, a3 = some ⟨g, 0, none⟩ ∧ b3 = some ⟨g, k * 3, none⟩) ∧ k3 + j = i3 ∧ m ≤ k3 ∧ (b3 = none → k3 = 0) ∧ ouC you (ps.drop k) = XO ∧ noC yl (ps.drop k) = XL ∧ upF yu (ps.drop k) = XU ∧ you.length + 30 * m ≤ 300 ∧ (∀ b, G b → F b ∨ (w.heap.size + 2 ≤ b ∧ b < wr.heap.size)) ∧ Off F w wr ∧ w.heap.size + 2 ≤ wr.heap.size) (fun i _ => 6 - (intOf i).toNat)
  case atStart => exact ⟨0, k0, m0, e3, i3, a4, n4, c4, ou, la, up, F, rfl, rfl, HK0.out, b0, b1, HOX.out, HG3.out.1, rfl, HG3.out.2, HN3.out, HINV.out.1, HINV.out.2.1, HINV.out.2.2, hol, fun b h => .inl h, Off.below B0, by omega⟩
  case round =>
    obtain ⟨j, k, m, b3, k3, r, l, d, you, yl, yu, G, rfl, hjk, hkm, e0, e1, hoy, hg, hk4, hmk, hnil, hx1, hx2, hx3, hyl, hgf, hof, hz⟩ := hrel
    obtain ⟨wY, rfl⟩ : ∃ x, x = wr := ⟨_, rfl⟩
    have HX1 := Hid.mk hx1
    have HX2 := Hid.mk hx2
    have HX3 := Hid.mk hx3
    have HGF := Hid.mk hgf
    have HOF := Hid.mk hof
    have HNIL := Hid.mk hnil
    have HG4 := Hid.mk hg
    have HK4 := Hid.mk hk4
    have HKM := Hid.mk hkm
    have HJK := Hid.mk hjk
    have hj5 : j ≤ 5 := by have := HK0.out; omega
    have hk5 : k ≤ 5 := by omega
    have hm5 : m ≤ 5 := by omega
    have hjk2 : j = m0 - m := by have := HK0.out; omega
    have HJM := Hid.mk hjk2
    clear hjk2 hjk
    have HOY := Hid.mk hoy
    have hG : ∀ b, G b → b < wY.heap.size := fun b h => (hgf b h).elim (fun q => by have := hF b q; omega) (fun q => q.2)
    have hwk : IntKind.i64.wrap ((j : Int) + 1) = ((j + 1 : Nat) : Int) := by rw [IntWalk.i64_in _ (by omega)]; omega
    cases m with
    | zero =>
      have KS := Hid.mk (step3_no a0 n0 c0 a2 n2 c2 b3 k3 r l d t yl yu wY)
      have p0 := blk_cell e0 0 (v := .slice a0 n0 c0) rfl
      have p1 := blk_cell e0 1 (v := .int .i64 t) rfl
      have p2 := blk_cell e0 2 (v := .slice a2 n2 c2) rfl
      have p3 := blk_cell e0 3 (v := .slice b3 0 k3) rfl
      have p4 := blk_cell e0 4 (v := .slice r l d) rfl
      have p5 := blk_cell e0 5 (v := .int .i64 yl) rfl
      have p6 := blk_cell e0 6 (v := .int .i64 yu) rfl
      clear hx1 hx2 hx3 hgf hof hnil hkm hoy hg hyl hk4
      go_wp2_with fail
      refine KS.out.mono ?_
      rintro e w1 ⟨rfl, hb1⟩
      have e0 := blk_below e0 hb1
      have e1 := blk_below e1 hb1
      have z1 := hb1.size
      have HB1 := Hid.mk hb1
      obtain ⟨X, hX⟩ : ∃ u, u = w1.alloc (.cells #[.slice a0 n0 c0, .int .i64 t, .slice a2 n2 c2, .slice b3 0 k3, .slice r l d, .int .i64 yl, .int .i64 yu] 29) := ⟨_, rfl⟩
      have bX : Below w1.heap.size w1 X := by rw [hX]; exact (Below.refl _ _).alloc (Nat.le_refl _) _
      have e0 := blk_below e0 bX
      have e1 := blk_below e1 bX
      have zX := bX.size
      clear hb1 KS p0 p1 p2 p3 p4 p5 p6
      go_upto_region 3 with fail
      rw [← hX]
      clear hX
      have p0 := blk_cell e0 0 (v := .slice a0 n0 c0) rfl
      have p1 := blk_cell e0 1 (v := .int .i64 t) rfl
      have p2 := blk_cell e0 2 (v := .slice a2 n2 c2) rfl
      have p3 := blk_cell e0 3 (v := .slice b3 0 k3) rfl
      have p4 := blk_cell e0 4 (v := .slice r l d) rfl
      have p5 := blk_cell e0 5 (v := .int .i64 yl) rfl
      have p6 := blk_cell e0 6 (v := .int .i64 yu) rfl
      have y0 := blk_cell e1 0 (v := .slice none 0 0) rfl
      have y1 := blk_cell e1 1 (v := .int .i64 0) rfl
      have y2 := blk_cell e1 2 (v := .slice none 0 0) rfl
      have y3 := blk_cell e1 3 (v := .slice none 0 0) rfl
      have y4 := blk_cell e1 4 (v := .slice none 0 0) rfl
      have y5 := blk_cell e1 5 (v := .int .i64 0) rfl
      have y6 := blk_cell e1 6 (v := .int .i64 0) rfl
      have fz0 := blk_frozen e1 0
      have fz1 := blk_frozen e1 1
      have fz2 := blk_frozen e1 2
      have fz3 := blk_frozen e1 3
      have fz4 := blk_frozen e1 4
      have fz5 := blk_frozen e1 5
      have fz6 := blk_frozen e1 6
      obtain ⟨Y, hY⟩ : ∃ u, u = stores X (w.heap.size + 1) 0 [.slice a0 n0 c0, .int .i64 t, .slice a2 n2 c2, .slice b3 0 k3, .slice r l d, .int .i64 yl, .int .i64 yu] := ⟨_, rfl⟩
      have S : Off (fun b => b = w.heap.size + 1) X Y := by rw [hY]; exact stores_off (F := fun b => b = w.heap.size + 1) _ _ _ _ rfl
      have zY : Y.heap.size = X.heap.size := by rw [hY]; exact stores_size _ _ _ _
      have D : Off F w Y := by rw [hY]; exact Off.cut ((HOF.out.mono (fun b h => .inl h)).trans ((Off.below (F := fun b => F b ∨ w.heap.size ≤ b) (HB1.out.trans (bX.mono HB1.out.size))).trans (stores_off (F := fun b => F b ∨ w.heap.size ≤ b) _ _ _ _ (.inr (by omega)))))
      have R : Hid (ACG (.returned (.tuple #[.agg #[.slice a0 n0 c0, .int .i64 t, .slice a2 n2 c2, .slice b3 0 k3, .slice r l d, .int .i64 yl, .int .i64 yu], .int .i64 (j : Nat)])) w Y F a0 n0 c0 t a2 n2 c2 a3 n3 c3 src pd ps XO XL XU m0 i3) := Hid.mk (by
        have e1 := HX1.out
        have e2 := HX2.out
        have e3 := HX3.out
        have hkn : n3 = k := by have := HKM.out; omega
        rw [List.drop_eq_nil_of_le (by have := H3.out; omega)] at e1 e2 e3
        have hjm : m0 = j := by have := HJM.out; omega
        rw [← e1, ← e2, ← e3, hkn, hjm]
        have hhg := HG4.out
        refine ⟨b3, k3, r, l, d, rfl, HNIL.out, hhg, HK4.out, ?_, D⟩
        have q := RSink.mono (RSink.ownOff (RSink.ownBelow (RSink.ownBelow HOY.out HB1.out) bX) S (fun b h e => by have h2 : b = w.heap.size + 1 := e; rcases HGF.out b h with q | q; have := hF b q; omega; omega)) (F' := Gr F w Y) (fun b h => (HGF.out b h).elim .inl (fun q => .inr ⟨by omega, by omega⟩))
        rw [hkn] at q
        exact q)
      clear D
      have HY := Hid.mk hY
      clear S hY zY HB1
      go_wp2
      refine bodyPost_ret (v := .tuple #[.agg #[.slice a0 n0 c0, .int .i64 t, .slice a2 n2 c2, .slice b3 0 k3, .slice r l d, .int .i64 yl, .int .i64 yu], .int .i64 (j : Nat)]) (by simp [results, Try.results38, go_sem, y0, y1, y2, y3, y4, y5, y6]) rfl ?_
      have h := R.out
      rw [HY.out] at h
      exact h
    | succ m =>
      obtain ⟨g, hga, hgb⟩ := hg (by omega)
      clear hg
      have hk4x := hk4
      clear hk4
      have HMK := Hid.mk hmk
      subst hga hgb
      obtain ⟨⟨no, ut, rw0⟩, hp⟩ : ∃ p, ps[k]? = some p := ⟨_, List.getElem?_eq_getElem (by have := H3.out; omega)⟩
      have hr30 := HRW.out _ (List.mem_of_getElem? hp)
      have hll := (RSink.lens hoy).2.2.2.2.2.2.1
      rw [ouC_step hp] at hx1
      rw [noC_step hp] at hx2
      rw [upF_step hp] at hx3
      simp only at hr30 hx1 hx2 hx3
      have KS := Hid.mk (step3g_yes G a0 n0 c0 a2 n2 c2 g k m k3 n3 c3 r l d t yl yu src pd no ut rw0 ps you wY hG hp (by omega) (by omega) (by omega) (by omega) hoy)
      have p0 := blk_cell e0 0 (v := .slice a0 n0 c0) rfl
      have p1 := blk_cell e0 1 (v := .int .i64 t) rfl
      have p2 := blk_cell e0 2 (v := .slice a2 n2 c2) rfl
      have p3 := blk_cell e0 3 (v := .slice (some ⟨g, k * 3, none⟩) (m + 1) k3) rfl
      have p4 := blk_cell e0 4 (v := .slice r l d) rfl
      have p5 := blk_cell e0 5 (v := .int .i64 yl) rfl
      have p6 := blk_cell e0 6 (v := .int .i64 yu) rfl
      have HX1 := Hid.mk hx1
      have HX2 := Hid.mk hx2
      have HX3 := Hid.mk hx3
      have HYL : Hid ((you ++ rw0).length + 30 * m ≤ 300) := Hid.mk (by rw [List.length_append]; omega)
      have hk5x : j + 1 ≤ 5 := by have := HJM.out; omega
      clear hx1 hx2 hx3 hgf hof hnil hkm hoy hyl hll hp hr30 hk4x HG4
      go_wp2_with fail
      refine KS.out.mono ?_
      rintro e w1 ⟨r', l', d', o, rfl, hom, ho1, hO1⟩
      have hnG : ∀ b, w.heap.size ≤ b → b < w.heap.size + 2 → ¬ G b := fun b h1 h2 h => (HGF.out b h).elim (fun q => by have := hF b q; omega) (fun q => by omega)
      have e0 := (hO1.block w.heap.size (by omega) (hnG _ (by omega) (by omega))).trans e0
      have e1 := (hO1.block (w.heap.size + 1) (by omega) (hnG _ (by omega) (by omega))).trans e1
      have z1 := hO1.size
      have HB1 := Hid.mk hO1
      have HO1 := Hid.mk ho1
      have HOM := Hid.mk hom
      clear ho1 hO1 hnG hom KS p0 p1 p2 p3 p4 p5 p6
      obtain ⟨X, hX⟩ : ∃ u, u = w1.alloc (.cells #[.slice a0 n0 c0, .int .i64 t, .slice a2 n2 c2, .slice (some ⟨g, o, none⟩) m (k3 - 1), .slice r' l' d', .int .i64 no, .int .i64 ut] 29) := ⟨_, rfl⟩
      have bX : Below w1.heap.size w1 X := by rw [hX]; exact (Below.refl _ _).alloc (Nat.le_refl _) _
      have x0 : X.heap[w1.heap.size]? = some (.cells #[.slice a0 n0 c0, .int .i64 t, .slice a2 n2 c2, .slice (some ⟨g, o, none⟩) m (k3 - 1), .slice r' l' d', .int .i64 no, .int .i64 ut] 29 (0, 0)) := by rw [hX]; exact heap_alloc_new w1 _
      have e0 := blk_below e0 bX
      have e1 := blk_below e1 bX
      have zX := bX.size
      have zX2 : w1.heap.size < X.heap.size := by rw [hX]; simp
      go_upto_region 3 with fail
      rw [← hX]
      clear hX
      have p0 := blk_cell x0 0 (v := .slice a0 n0 c0) rfl
      have p1 := blk_cell x0 1 (v := .int .i64 t) rfl
      have p2 := blk_cell x0 2 (v := .slice a2 n2 c2) rfl
      have p3 := blk_cell x0 3 (v := .slice (some ⟨g, o, none⟩) m (k3 - 1)) rfl
      have p4 := blk_cell x0 4 (v := .slice r' l' d') rfl
      have p5 := blk_cell x0 5 (v := .int .i64 no) rfl
      have p6 := blk_cell x0 6 (v := .int .i64 ut) rfl
      have y0 := blk_cell e0 0 (v := .slice a0 n0 c0) rfl
      have y1 := blk_cell e0 1 (v := .int .i64 t) rfl
      have y2 := blk_cell e0 2 (v := .slice a2 n2 c2) rfl
      have y3 := blk_cell e0 3 (v := .slice (some ⟨g, k * 3, none⟩) (m + 1) k3) rfl
      have y4 := blk_cell e0 4 (v := .slice r l d) rfl
      have y5 := blk_cell e0 5 (v := .int .i64 yl) rfl
      have y6 := blk_cell e0 6 (v := .int .i64 yu) rfl
      have fz0 := blk_frozen e0 0
      have fz1 := blk_frozen e0 1
      have fz2 := blk_frozen e0 2
      have fz3 := blk_frozen e0 3
      have fz4 := blk_frozen e0 4
      have fz5 := blk_frozen e0 5
      have fz6 := blk_frozen e0 6
      obtain ⟨X2, hX2⟩ : ∃ u, u = (((((((X.setCell ⟨w.heap.size, 0, none⟩ (.slice a0 n0 c0)).setCell ⟨w.heap.size, 1, none⟩ (.int .i64 t)).setCell ⟨w.heap.size, 2, none⟩ (.slice a2 n2 c2)).setCell ⟨w.heap.size, 3, none⟩ (.slice (some ⟨g, o, none⟩) m (k3 - 1))).setCell ⟨w.heap.size, 4, none⟩ (.slice r' l' d')).setCell ⟨w.heap.size, 5, none⟩ (.int .i64 no)).setCell ⟨w.heap.size, 6, none⟩ (.int .i64 ut)) := ⟨_, rfl⟩
      have e0' : X2.heap[w.heap.size]? = some (.cells #[.slice a0 n0 c0, .int .i64 t, .slice a2 n2 c2, .slice (some ⟨g, o, none⟩) m (k3 - 1), .slice r' l' d', .int .i64 no, .int .i64 ut] 29 (0, 0)) := by rw [hX2]; exact (blk_set (blk_set (blk_set (blk_set (blk_set (blk_set (blk_set e0 0 _) 1 _) 2 _) 3 _) 4 _) 5 _) 6 _)
      have e1' : X2.heap[w.heap.size + 1]? = some (.cells #[.slice none 0 0, .int .i64 0, .slice none 0 0, .slice none 0 0, .slice none 0 0, .int .i64 0, .int .i64 0] 29 (0, 0)) := by rw [hX2]; exact (blk_other (blk_other (blk_other (blk_other (blk_other (blk_other (blk_other e1 (by simp) _) (by simp) _) (by simp) _) (by simp) _) (by simp) _) (by simp) _) (by simp) _)
      have hS2 : Off (fun b => b = w.heap.size) X X2 := by rw [hX2]; exact stores_off (F := fun b => b = w.heap.size) X w.heap.size 0 [.slice a0 n0 c0, .int .i64 t, .slice a2 n2 c2, .slice (some ⟨g, o, none⟩) m (k3 - 1), .slice r' l' d', .int .i64 no, .int .i64 ut] rfl
      have z2 : X2.heap.size = X.heap.size := by rw [hX2]; exact stores_size X w.heap.size 0 [.slice a0 n0 c0, .int .i64 t, .slice a2 n2 c2, .slice (some ⟨g, o, none⟩) m (k3 - 1), .slice r' l' d', .int .i64 no, .int .i64 ut]
      have HREL : Hid (∃ (m' : Nat) (b3 : Option Addr) (k3' : Nat) (r : Option Addr) (l d : Nat) (you : List Int) (yl yu : Int) (G : Nat → Prop), (k + 1) + m' = n3 ∧ X2.heap[w.heap.size]? = some (.cells #[.slice a0 n0 c0, .int .i64 t, .slice a2 n2 c2, .slice b3 m' k3', .slice r l d, .int .i64 yl, .int .i64 yu] 29 (0, 0)) ∧ X2.heap[w.heap.size + 1]? = some (.cells #[.slice none 0 0, .int .i64 0, .slice none 0 0, .slice none 0 0, .slice none 0 0, .int .i64 0, .int .i64 0] 29 (0, 0)) ∧ RSink.Own X2 G [.slice a0 n0 c0, .int .i64 t, .slice a2 n2 c2, .slice (some ⟨g, 0, none⟩) n3 c3, .slice r l d, .int .i64 yl, .int .i64 yu] (src, t, pd, ps, you, yl, yu) ∧
    (0 < k3' → ∃ g', (some ⟨g, 0, none⟩ : Option Addr) = some ⟨g', 0, none⟩ ∧ b3 = some ⟨g', (k + 1) * 3, none⟩) ∧ k3' + (j + 1) = i3 ∧ m' ≤ k3' ∧ (b3 = none → k3' = 0) ∧ ouC you (ps.drop (k + 1)) = XO ∧ noC yl (ps.drop (k + 1)) = XL ∧ upF yu (ps.drop (k + 1)) = XU ∧ you.length + 30 * m' ≤ 300 ∧ (∀ b, G b → F b ∨ (w.heap.size + 2 ≤ b ∧ b < X2.heap.size)) ∧ Off F w X2 ∧ w.heap.size + 2 ≤ X2.heap.size) := Hid.mk (by
        refine ⟨m, some ⟨g, o, none⟩, k3 - 1, r', l', d', you ++ rw0, no, ut, Gr G wY w1, by have := HKM.out; omega, e0', e1', ?_, fun h => ⟨g, rfl, by rw [HOM.out (by have := HMK.out; omega)]⟩, by have := HK4.out; have := HMK.out; omega, by have := HMK.out; omega, (fun h => by cases h), HX1.out, HX2.out, HX3.out, HYL.out, ?_, ?_, by omega⟩
        · exact RSink.ownOff (RSink.ownBelow HO1.out bX) hS2 (fun b h e => by
            have h2 : b = w.heap.size := e
            rcases h with h | h
            · exact (HGF.out b h).elim (fun q => by have := hF b q; omega) (fun q => by omega)
            · have := h.1; omega)
        · intro b h
          rcases h with h | h
          · exact (HGF.out b h).imp id (fun q => ⟨q.1, by omega⟩)
          · exact .inr ⟨by have := h.1; omega, by have := h.2; omega⟩
        · exact Off.cut ((((HOF.out.mono (fun b h => .inl h)).trans (HB1.out.mono (fun b h => (HGF.out b h).elim .inl (fun h => .inr (by omega))))).trans (Off.below (F := fun b => F b ∨ w.heap.size ≤ b) bX)).trans (hS2.mono (fun b e => .inr (by have h2 : b = w.heap.size := e; omega)))))
      clear e0' e1' hS2 z2 HX1 HX2 HX3 HYL HOM HO1
      go_upto_region 6 with fail
      rw [← hX2]
      clear hX2
      go_wp2
      go_roundw
      case rel =>
        obtain ⟨m', b3, k3', r, l, d, you, yl, yu, G, q⟩ := HREL.out
        exact ⟨j + 1, k + 1, m', b3, k3', r, l, d, you, yl, yu, G, by go_num, by have := HJK.out; omega, q⟩
      case measure => simp [intOf]; omega

end Go.Proofs.Ytmbjmmnodcebbaa

/- Plain over contracts: what is in hand of a sink whose stored list may have been cut off a whole one; SinkPrepare over it. -/
namespace Go.Proofs.Ytmbjmmnodcebbaa
open Go.RowKit

/-- In hand is (e3, m3, i3), cut off behind k0 rows of the whole list (a3, n3, c3), which is owned. -/
def HSt (w : World) (F : Nat → Prop) (b : Nat) (a0 : Option Addr) (n0 c0 : Nat) (a2 : Option Addr) (n2 c2 : Nat) (e3 : Option Addr) (m3 i3 : Nat) (a4 : Option Addr) (n4 c4 : Nat) (x : TSink) : Prop :=
  ∃ (a3 : Option Addr) (n3 c3 k0 : Nat) (pso : List TPrepared), k0 + m3 = n3 ∧ k0 + i3 = c3 ∧ m3 ≤ i3 ∧ n3 ≤ 4 + b ∧ m3 ≤ 4 ∧ (e3 = none → i3 = 0) ∧ (0 < i3 → ∃ g, a3 = some ⟨g, 0, none⟩ ∧ e3 = some ⟨g, k0 * 3, none⟩) ∧ (k0 = 0 → e3 = a3) ∧ (0 < k0 → m3 ≤ b) ∧
    (∀ p ∈ pso, p.2.2.length ≤ 30) ∧ pso.drop k0 = x.2.2.2.1 ∧ RSink.Own w F [.slice a0 n0 c0, .int .i64 x.2.1, .slice a2 n2 c2, .slice a3 n3 c3, .slice a4 n4 c4, .int .i64 x.2.2.2.2.2.1, .int .i64 x.2.2.2.2.2.2] (x.1, x.2.1, x.2.2.1, pso, x.2.2.2.2.1, x.2.2.2.2.2.1, x.2.2.2.2.2.2)
theorem hst_whole {w : World} {F : Nat → Prop} {a0 : Option Addr} {n0 c0 : Nat} {a2 : Option Addr} {n2 c2 : Nat} {a3 : Option Addr} {n3 c3 : Nat} {a4 : Option Addr} {n4 c4 : Nat} {t la up : Int} {src pd : List Int} {ps : List TPrepared} {ou : List Int} (b : Nat) (h4 : n3 ≤ 4) (hr : ∀ p ∈ ps, p.2.2.length ≤ 30) (ho : RSink.Own w F [.slice a0 n0 c0, .int .i64 t, .slice a2 n2 c2, .slice a3 n3 c3, .slice a4 n4 c4, .int .i64 la, .int .i64 up] (src, t, pd, ps, ou, la, up)) :
    HSt w F b a0 n0 c0 a2 n2 c2 a3 n3 c3 a4 n4 c4 (src, t, pd, ps, ou, la, up) := by
  have hnil3 := (RSink.at_iff (RSink.toAt ho)).2.2.1.2.2.2
  have hg3 : (0 < c3 → ∃ g, a3 = some ⟨g, 0, none⟩ ∧ a3 = some ⟨g, 0 * 3, none⟩) ∧ n3 ≤ c3 := by
    obtain ⟨_, _, F3, _, _, _, ⟨a, n, c, cells, G, hcs, hL⟩, _⟩ := RSink.own_iff ho
    simp only [List.cons.injEq, Value.slice.injEq, and_true] at hcs
    obtain ⟨rfl, rfl, rfl⟩ := hcs
    rcases hL.outer.2 with ⟨hv, h0⟩ | ⟨g, cap, cur, hv, _, _, hc, _⟩
    · simp only [Value.slice.injEq] at hv
      obtain ⟨_, _, rfl⟩ := hv
      exact ⟨fun h => by omega, by omega⟩
    · simp only [Value.slice.injEq, true_and] at hv
      obtain ⟨rfl, rfl⟩ := hv
      exact ⟨fun _ => ⟨g, rfl, rfl⟩, hc⟩
  exact ⟨a3, n3, c3, 0, ps, by omega, by omega, hg3.2, by omega, h4, hnil3, hg3.1, fun _ => rfl, fun h => by omega, hr, rfl, ho⟩
def URet (b : Nat) (e : Ending) (w w' : World) (F : Nat → Prop) (ok : Bool) (x : TSink) : Prop :=
  ∃ r0 m0 d0 r2 m2 d2 r3 m3 d3 r4 m4 d4, e = .returned (.tuple #[.agg #[.slice r0 m0 d0, .int .i64 x.2.1, .slice r2 m2 d2, .slice r3 m3 d3, .slice r4 m4 d4, .int .i64 x.2.2.2.2.2.1, .int .i64 x.2.2.2.2.2.2], .bool ok]) ∧ HSt w' (Gr F w w') b r0 m0 d0 r2 m2 d2 r3 m3 d3 r4 m4 d4 x ∧ Off F w w'

theorem prepU (F : Nat → Prop) (a0 : Option Addr) (n0 c0 : Nat) (a2 : Option Addr) (n2 c2 : Nat) (e3 : Option Addr) (m3 i3 : Nat) (a4 : Option Addr) (n4 c4 : Nat) (t la up : Int) (src pd : List Int) (ps : List TPrepared) (ou : List Int) (w : World) (hF : ∀ b, F b → b < w.heap.size) (hl0 : 0 ≤ la) (hl1 : la ≤ 1000) (hpd : pd.length ≤ 30) (h : HSt w F 0 a0 n0 c0 a2 n2 c2 e3 m3 i3 a4 n4 c4 (src, t, pd, ps, ou, la, up)) :
    Calls Try.prog 26 #[.agg #[.slice a0 n0 c0, .int .i64 t, .slice a2 n2 c2, .slice e3 m3 i3, .slice a4 n4 c4, .int .i64 la, .int .i64 up], .int .i64 2] w fun e w' => URet 1 e w w' F (prK (src, t, pd, ps, ou, la, up)).2 (prK (src, t, pd, ps, ou, la, up)).1 := by
  obtain ⟨a3, n3, c3, k0, pso, q1, q2, q3, q4, q5, q6, q7, q8, q9, q10, q11, ho⟩ := h
  simp only at q11 ho
  have hp2 := (RSink.lens ho).2.2.1
  have hp3 := (RSink.lens ho).2.2.2.2.1
  have hm3 : ps.length = m3 := by rw [← q11, List.length_drop]; omega
  unfold prK
  simp only
  rw [hp2, hm3]
  by_cases hc : n2 = 0 ∨ m3 = 4 ∨ 1000 < la + (m3 : Int) + 1
  · rw [if_pos hc]
    refine (step2g_no a0 n0 c0 a2 n2 c2 e3 m3 i3 a4 n4 c4 t la up w hc q5 hl0 hl1).mono ?_
    rintro e w' ⟨rfl, hb⟩
    exact ⟨a0, n0, c0, a2, n2, c2, e3, m3, i3, a4, n4, c4, rfl, ⟨a3, n3, c3, k0, pso, q1, q2, q3, by omega, q5, q6, q7, q8, fun h => by have := q9 h; omega, q10, q11, RSink.mono (RSink.ownBelow ho hb) (fun b h => .inl h)⟩, Off.below hb⟩
  · rw [if_neg hc]
    have hnew : ∀ p ∈ ([(la + (m3 : Int) + 1, t, pd)] : List TPrepared), p.2.2.length ≤ 30 := fun p hp => by
      rw [List.mem_singleton] at hp; subst hp; exact hpd
    by_cases hk : k0 = 0
    · subst hk
      obtain rfl := q8 rfl
      obtain rfl : m3 = n3 := by omega
      obtain rfl : i3 = c3 := by omega
      obtain rfl : pso = ps := q11
      refine (step2_yes F a0 n0 c0 a2 n2 c2 e3 m3 i3 a4 n4 c4 t la up src pd pso ou w hF (by omega) (by omega) hl0 (by omega) ho).mono ?_
      rintro e w' ⟨r0, u0, d0, r2, u2, d2, r3, u3, d3, r4, u4, d4, rfl, ho', hoff⟩
      have hl := (RSink.lens ho').2.2.2.2.1
      simp only [List.length_append, List.length_cons, List.length_nil] at hl
      exact ⟨r0, u0, d0, r2, u2, d2, r3, u3, d3, r4, u4, d4, rfl, hst_whole 1 (by omega) (fun p hp => (List.mem_append.1 hp).elim (q10 p) (hnew p)) ho', hoff⟩
    · have hm0 : m3 = 0 := by have := q9 (by omega); omega
      have hps : ps = [] := List.eq_nil_of_length_eq_zero (by omega)
      rw [hps, List.nil_append]
      by_cases hi : i3 = 0
      · refine (step2n_yes F a0 n0 c0 a2 n2 c2 a3 n3 c3 e3 m3 i3 a4 n4 c4 t la up src pd pso ou w hF (by omega) hm0 hi hl0 (by omega) ho).mono ?_
        rintro e w' ⟨r0, u0, d0, r2, u2, d2, r3, u3, d3, r4, u4, d4, rfl, ho', hoff⟩
        have hl := (RSink.lens ho').2.2.2.2.1
        simp only [List.length_cons, List.length_nil] at hl
        exact ⟨r0, u0, d0, r2, u2, d2, r3, u3, d3, r4, u4, d4, rfl, hst_whole 1 (by omega) hnew ho', hoff⟩
      · obtain ⟨g, rfl, rfl⟩ := q7 (by omega)
        obtain rfl : n3 = k0 := by omega
        refine (step2g_yes F a0 n0 c0 a2 n2 c2 g n3 c3 m3 i3 a4 n4 c4 t la up src pd pso ou w hF (by omega) hm0 (by omega) (by omega) (by omega) hl0 (by omega) ho).mono ?_
        rintro e w' ⟨r0, u0, d0, r2, u2, d2, r4, u4, d4, rfl, ho', hoff⟩
        refine ⟨r0, u0, d0, r2, u2, d2, some ⟨g, n3 * 3, none⟩, 1, i3, r4, u4, d4, rfl, ⟨some ⟨g, 0, none⟩, n3 + 1, c3, n3, pso ++ [(la + (m3 : Int) + 1, t, pd)], rfl, q2, by omega, by omega, by omega, (fun h => by cases h), fun _ => ⟨g, rfl, rfl⟩, fun h => absurd h hk, fun _ => Nat.le_refl _, fun p hp => (List.mem_append.1 hp).elim (q10 p) (hnew p), ?_, ho'⟩, hoff⟩
        rw [List.drop_append_of_le_length (by omega), q11, hps]
        rfl

theorem readU (b : Nat) (F : Nat → Prop) (a0 : Option Addr) (n0 c0 : Nat) (a2 : Option Addr) (n2 c2 : Nat) (e3 : Option Addr) (m3 i3 : Nat) (a4 : Option Addr) (n4 c4 : Nat) (t la up : Int) (src pd : List Int) (ps : List TPrepared) (ou : List Int) (w : World) (hF : ∀ b, F b → b < w.heap.size) (hp : PR (src, t, pd, ps, ou, la, up)) (h : HSt w F b a0 n0 c0 a2 n2 c2 e3 m3 i3 a4 n4 c4 (src, t, pd, ps, ou, la, up)) :
    Calls Try.prog 26 #[.agg #[.slice a0 n0 c0, .int .i64 t, .slice a2 n2 c2, .slice e3 m3 i3, .slice a4 n4 c4, .int .i64 la, .int .i64 up], .int .i64 1] w fun e w' => URet b e w w' F (rdK (src, t, pd, ps, ou, la, up)).2 (rdK (src, t, pd, ps, ou, la, up)).1 := by
  obtain ⟨a3, n3, c3, k0, pso, q1, q2, q3, q4, q5, q6, q7, q8, q9, q10, q11, ho⟩ := h
  simp only at q11 ho
  obtain ⟨h1, h2, h3, h4⟩ := hp
  simp only at h1 h2 h3 h4
  have hl0 := (RSink.lens ho).1
  have hl2 := (RSink.lens ho).2.2.1
  unfold rdK
  simp only
  by_cases e : t = src.length
  · rw [if_pos e]
    refine (step1g_no a0 n0 c0 a2 n2 c2 e3 m3 i3 a4 n4 c4 t la up w (by omega)).mono ?_
    rintro e w' ⟨rfl, hb⟩
    exact ⟨a0, n0, c0, a2, n2, c2, e3, m3, i3, a4, n4, c4, rfl, ⟨a3, n3, c3, k0, pso, q1, q2, q3, q4, q5, q6, q7, q8, q9, q10, q11, RSink.mono (RSink.ownBelow ho hb) (fun b h => .inl h)⟩, Off.below hb⟩
  · rw [if_neg e]
    obtain ⟨T, rfl⟩ : ∃ T : Nat, t = T := ⟨t.toNat, by omega⟩
    obtain ⟨x, hx⟩ : ∃ x, src[T]? = some x := ⟨_, List.getElem?_eq_getElem (by omega)⟩
    have hg : src.getD (T : Int).toNat 0 = x := by
      rw [Int.toNat_natCast]; simp [List.getD, hx]
    rw [hg]
    refine (step1g_yes F a0 n0 c0 a2 n2 c2 a3 n3 c3 e3 m3 i3 a4 n4 c4 T la up src pd pso ou x w hF hx (by omega) (by omega) ho).mono ?_
    rintro e w' ⟨r0, u0, d0, r2, u2, d2, r4, u4, d4, rfl, ho', hoff⟩
    exact ⟨r0, u0, d0, r2, u2, d2, e3, m3, i3, r4, u4, d4, rfl, ⟨a3, n3, c3, k0, pso, q1, q2, q3, q4, q5, q6, q7, q8, q9, q10, q11, ho'⟩, hoff⟩

/-- The first giving out: four are stored. -/
theorem commitU (F : Nat → Prop) (a0 : Option Addr) (n0 c0 : Nat) (a2 : Option Addr) (n2 c2 : Nat) (a3 : Option Addr) (n3 c3 : Nat) (a4 : Option Addr) (n4 c4 : Nat) (t la up : Int) (src pd : List Int) (ps : List TPrepared) (ou : List Int) (w : World) (hF : ∀ b, F b → b < w.heap.size) (h4 : n3 = 4) (hr : ∀ p ∈ ps, p.2.2.length ≤ 30) (hol : ou.length + 30 * n3 ≤ 300) (ho : RSink.Own w F [.slice a0 n0 c0, .int .i64 t, .slice a2 n2 c2, .slice a3 n3 c3, .slice a4 n4 c4, .int .i64 la, .int .i64 up] (src, t, pd, ps, ou, la, up)) :
    Calls Try.prog 38 #[.agg #[.slice a0 n0 c0, .int .i64 t, .slice a2 n2 c2, .slice a3 n3 c3, .slice a4 n4 c4, .int .i64 la, .int .i64 up]] w fun e w' => ∃ r3 k3 r4 m4 d4, e = .returned (.tuple #[.agg #[.slice a0 n0 c0, .int .i64 t, .slice a2 n2 c2, .slice r3 0 k3, .slice r4 m4 d4, .int .i64 (noC la ps), .int .i64 (upF up ps)], .int .i64 (n3 : Nat)]) ∧
      HSt w' (Gr F w w') 0 a0 n0 c0 a2 n2 c2 r3 0 k3 r4 m4 d4 (src, t, pd, [], ouC ou ps, noC la ps, upF up ps) ∧ Off F w w' := by
  obtain ⟨a3', n3', c3', k0, pso, q1, q2, q3, q4, q5, q6, q7, q8, q9, q10, q11, ho'⟩ := hst_whole 0 (by omega) hr ho
  have hl := (RSink.lens ho).2.2.2.2.1
  have hw := hst_whole 0 (by omega) hr ho
  obtain ⟨hg, hm, hn⟩ : (0 < c3 → ∃ g, a3 = some ⟨g, 0, none⟩ ∧ a3 = some ⟨g, 0 * 3, none⟩) ∧ n3 ≤ c3 ∧ (a3 = none → c3 = 0) := by
    refine ⟨fun h => ?_, q3, q6⟩
    obtain ⟨_, _, F3, _, _, _, ⟨a, n, c, cells, G, hcs, hL⟩, _⟩ := RSink.own_iff ho
    simp only [List.cons.injEq, Value.slice.injEq, and_true] at hcs
    obtain ⟨rfl, rfl, rfl⟩ := hcs
    rcases hL.outer.2 with ⟨hv, h0⟩ | ⟨g, cap, cur, hv, _⟩
    · simp only [Value.slice.injEq] at hv
      omega
    · simp only [Value.slice.injEq, true_and] at hv
      exact ⟨g, hv.1, hv.1⟩
  refine (l16CommitG_any F a0 n0 c0 a2 n2 c2 a3 n3 c3 a4 n4 c4 a3 c3 0 n3 t la up src pd ps ou w hF (by omega) hg hm hn (by omega) hr hol ho).mono ?_
  rintro e w' ⟨b3, k3, r, l, d, rfl, p1, p2, p3, ho2, hoff⟩
  rw [List.drop_zero] at ho2 ⊢
  exact ⟨b3, k3, r, l, d, rfl, ⟨a3, n3, c3, n3, ps, by omega, by omega, by omega, by omega, by omega, p1, p2, fun h => by omega, fun _ => Nat.le_refl _, hr, List.drop_eq_nil_of_le (by omega), ho2⟩, hoff⟩

/-- The last giving out. -/
theorem lastU (F : Nat → Prop) (a0 : Option Addr) (n0 c0 : Nat) (a2 : Option Addr) (n2 c2 : Nat) (e3 : Option Addr) (m3 i3 : Nat) (a4 : Option Addr) (n4 c4 : Nat) (t la up : Int) (src pd : List Int) (ps : List TPrepared) (ou : List Int) (w : World) (hF : ∀ b, F b → b < w.heap.size) (hol : ou.length + 30 * m3 ≤ 300) (h : HSt w F 1 a0 n0 c0 a2 n2 c2 e3 m3 i3 a4 n4 c4 (src, t, pd, ps, ou, la, up)) :
    Calls Try.prog 38 #[.agg #[.slice a0 n0 c0, .int .i64 t, .slice a2 n2 c2, .slice e3 m3 i3, .slice a4 n4 c4, .int .i64 la, .int .i64 up]] w fun e w' => ∃ a3 n3 c3 pso, ACG e w w' F a0 n0 c0 t a2 n2 c2 a3 n3 c3 src pd pso (ouC ou ps) (noC la ps) (upF up ps) m3 i3 := by
  obtain ⟨a3, n3, c3, k0, pso, q1, q2, q3, q4, q5, q6, q7, q8, q9, q10, q11, ho⟩ := h
  simp only at q11 ho
  refine (l16CommitG_any F a0 n0 c0 a2 n2 c2 a3 n3 c3 a4 n4 c4 e3 i3 k0 m3 t la up src pd pso ou w hF q1 q7 q3 q6 (by omega) q10 hol ho).mono ?_
  intro e w' h
  rw [q11] at h
  exact ⟨a3, n3, c3, pso, h⟩

end Go.Proofs.Ytmbjmmnodcebbaa

/- Plain: a sink in hand, kept where the world turns elsewhere. -/
namespace Go.Proofs.Ytmbjmmnodcebbaa
open Go.RowKit

theorem hst_below {w w' : World} {F : Nat → Prop} {b : Nat} {a0 : Option Addr} {n0 c0 : Nat} {a2 : Option Addr} {n2 c2 : Nat} {e3 : Option Addr} {m3 i3 : Nat} {a4 : Option Addr} {n4 c4 : Nat} {x : TSink} (h : HSt w F b a0 n0 c0 a2 n2 c2 e3 m3 i3 a4 n4 c4 x) (hb : Below w.heap.size w w') : HSt w' F b a0 n0 c0 a2 n2 c2 e3 m3 i3 a4 n4 c4 x := by
  obtain ⟨a3, n3, c3, k0, pso, q1, q2, q3, q4, q5, q6, q7, q8, q9, q10, q11, ho⟩ := h
  exact ⟨a3, n3, c3, k0, pso, q1, q2, q3, q4, q5, q6, q7, q8, q9, q10, q11, RSink.ownBelow ho hb⟩
theorem hst_off {w w' : World} {F S : Nat → Prop} {b : Nat} {a0 : Option Addr} {n0 c0 : Nat} {a2 : Option Addr} {n2 c2 : Nat} {e3 : Option Addr} {m3 i3 : Nat} {a4 : Option Addr} {n4 c4 : Nat} {x : TSink} (h : HSt w F b a0 n0 c0 a2 n2 c2 e3 m3 i3 a4 n4 c4 x) (hS : Off S w w') (hd : ∀ k, F k → S k → False) : HSt w' F b a0 n0 c0 a2 n2 c2 e3 m3 i3 a4 n4 c4 x := by
  obtain ⟨a3, n3, c3, k0, pso, q1, q2, q3, q4, q5, q6, q7, q8, q9, q10, q11, ho⟩ := h
  exact ⟨a3, n3, c3, k0, pso, q1, q2, q3, q4, q5, q6, q7, q8, q9, q10, q11, RSink.ownOff ho hS hd⟩
theorem hst_up {w : World} {F : Nat → Prop} {a0 : Option Addr} {n0 c0 : Nat} {a2 : Option Addr} {n2 c2 : Nat} {e3 : Option Addr} {m3 i3 : Nat} {a4 : Option Addr} {n4 c4 : Nat} {x : TSink} (h : HSt w F 0 a0 n0 c0 a2 n2 c2 e3 m3 i3 a4 n4 c4 x) : HSt w F 1 a0 n0 c0 a2 n2 c2 e3 m3 i3 a4 n4 c4 x := by
  obtain ⟨a3, n3, c3, k0, pso, q1, q2, q3, q4, q5, q6, q7, q8, q9, q10, q11, ho⟩ := h
  exact ⟨a3, n3, c3, k0, pso, q1, q2, q3, by omega, q5, q6, q7, q8, fun h => by have := q9 h; omega, q10, q11, ho⟩
theorem hst_lens {w : World} {F : Nat → Prop} {b : Nat} {a0 : Option Addr} {n0 c0 : Nat} {a2 : Option Addr} {n2 c2 : Nat} {e3 : Option Addr} {m3 i3 : Nat} {a4 : Option Addr} {n4 c4 : Nat} {x : TSink} (h : HSt w F b a0 n0 c0 a2 n2 c2 e3 m3 i3 a4 n4 c4 x) : x.1.length = n0 ∧ x.2.2.1.length = n2 ∧ x.2.2.2.1.length = m3 ∧ x.2.2.2.2.1.length = n4 := by
  obtain ⟨a3, n3, c3, k0, pso, q1, q2, q3, q4, q5, q6, q7, q8, q9, q10, q11, ho⟩ := h
  have hl := RSink.lens ho
  refine ⟨hl.1, hl.2.2.1, ?_, hl.2.2.2.2.2.2.1⟩
  rw [← q11, List.length_drop]
  have := hl.2.2.2.2.1
  omega
/-- The first giving out. -/
theorem commitV (F : Nat → Prop) (a0 : Option Addr) (n0 c0 : Nat) (a2 : Option Addr) (n2 c2 : Nat) (a3 : Option Addr) (n3 c3 : Nat) (a4 : Option Addr) (n4 c4 : Nat) (t la up : Int) (src pd : List Int) (ps : List TPrepared) (ou : List Int) (w : World) (hF : ∀ b, F b → b < w.heap.size) (h4 : n3 = 4) (hr : ∀ p ∈ ps, p.2.2.length ≤ 30) (hol : ou.length + 30 * n3 ≤ 300) (ho : RSink.Own w F [.slice a0 n0 c0, .int .i64 t, .slice a2 n2 c2, .slice a3 n3 c3, .slice a4 n4 c4, .int .i64 la, .int .i64 up] (src, t, pd, ps, ou, la, up)) :
    Calls Try.prog 38 #[.agg #[.slice a0 n0 c0, .int .i64 t, .slice a2 n2 c2, .slice a3 n3 c3, .slice a4 n4 c4, .int .i64 la, .int .i64 up]] w fun e w' => ∃ r0 m0 d0 r2 m2 d2 r3 m3 d3 r4 m4 d4, e = .returned (.tuple #[.agg #[.slice r0 m0 d0, .int .i64 (dr1 (src, t, pd, ps, ou, la, up)).2.1, .slice r2 m2 d2, .slice r3 m3 d3, .slice r4 m4 d4, .int .i64 (dr1 (src, t, pd, ps, ou, la, up)).2.2.2.2.2.1, .int .i64 (dr1 (src, t, pd, ps, ou, la, up)).2.2.2.2.2.2], .int .i64 (n3 : Nat)]) ∧
      HSt w' (Gr F w w') 0 r0 m0 d0 r2 m2 d2 r3 m3 d3 r4 m4 d4 (dr1 (src, t, pd, ps, ou, la, up)) ∧ Off F w w' := by
  have hl := (RSink.lens ho).2.2.2.2.1
  have e : dr1 (src, t, pd, ps, ou, la, up) = (src, t, pd, [], ouC ou ps, noC la ps, upF up ps) := by
    have q : itK cmK (muK (src, t, pd, ps, ou, la, up)) (src, t, pd, ps, ou, la, up) = ((src, t, pd, [], ouC ou ps, noC la ps, upF up ps), ps.length) := itK_all src t pd ps ou la up
    unfold dr1
    rw [if_pos (show ps.length = 4 by omega), q]
  rw [e]
  refine (commitU F a0 n0 c0 a2 n2 c2 a3 n3 c3 a4 n4 c4 t la up src pd ps ou w hF h4 hr hol ho).mono ?_
  rintro e w' ⟨r3, k3, r4, m4, d4, rfl, h, hoff⟩
  exact ⟨a0, n0, c0, a2, n2, c2, r3, 0, k3, r4, m4, d4, rfl, h, hoff⟩
theorem dr3_keeps (y : TSink) : (dr3 y).1 = y.1 ∧ (dr3 y).2.2.1.length ≤ y.2.2.1.length := by
  unfold dr3 prK
  by_cases e : y.2.2.1.length = 0 ∨ y.2.2.2.1.length = 4 ∨ 1000 < y.2.2.2.2.2.1 + (y.2.2.2.1.length : Int) + 1
  · rw [if_pos e]; exact ⟨rfl, Nat.le_refl _⟩
  · rw [if_neg e]; exact ⟨rfl, by simp⟩
theorem dr4_eq (src : List Int) (t : Int) (pd : List Int) (ps : List TPrepared) (ou : List Int) (la up : Int) : dr4 (src, t, pd, ps, ou, la, up) = (src, t, pd, [], ouC ou ps, noC la ps, upF up ps) := by
  have q : itK cmK (muK (src, t, pd, ps, ou, la, up)) (src, t, pd, ps, ou, la, up) = ((src, t, pd, [], ouC ou ps, noC la ps, upF up ps), ps.length) := itK_all src t pd ps ou la up
  unfold dr4
  rw [q]
theorem rdK_no {x : TSink} (h : x.2.1 = x.1.length) : rdK x = (x, false) := by unfold rdK; rw [if_pos h]
theorem rdK_yes {x : TSink} (h : ¬ x.2.1 = x.1.length) : (rdK x).2 = true := by unfold rdK; rw [if_neg h]
theorem prK_no {x : TSink} (h : x.2.2.1.length = 0 ∨ x.2.2.2.1.length = 4 ∨ 1000 < x.2.2.2.2.2.1 + (x.2.2.2.1.length : Int) + 1) : prK x = (x, false) := by unfold prK; rw [if_pos h]
theorem prK_yes {x : TSink} (h : ¬ (x.2.2.1.length = 0 ∨ x.2.2.2.1.length = 4 ∨ 1000 < x.2.2.2.2.2.1 + (x.2.2.2.1.length : Int) + 1)) : (prK x).2 = true := by unfold prK; rw [if_neg h]

end Go.Proofs.Ytmbjmmnodcebbaa

/- A thing that a call has made is appended to a list that lies in memory. -/
namespace Go.Proofs.Ytmbjmmnodcebbaa
open Go.RowKit

section
variable {α : Type} {A : Rep α} {w wr w2 w5 : World} {lo : Nat} {e : TypeId} {a a' : Option Addr} {n c c' : Nat} {xs : List α} {cells vs : List Value} {G : Nat → Nat → Prop} {x : α} {o : Obj}
theorem Laid.told (h : Laid A wr (From lo wr.heap.size) e a n c xs cells G n) (hlo : lo ≤ wr.heap.size) (hb : Below wr.heap.size wr w2) (ho : A.Own w2 (From wr.heap.size w2.heap.size) vs x)
    (ho4 : w5.ownsRow lo e A.k (.slice a' (n + 1) c') (n + 1) (cells ++ vs)) (hg4 : (w2.alloc o).grownBy w5 (Value.slice a n c).ownBlock) (hbig : n + 1 ≤ 9223372036854775807)
    (ht4 : (Value.slice a' (n + 1) c').ownBlock = (Value.slice a n c).ownBlock ∨ (Value.slice a' (n + 1) c').ownBlock = some (w2.heap.size + 1)) :
    ∃ G', Laid A w5 (From lo w5.heap.size) e a' (n + 1) c' (xs ++ [x]) (cells ++ vs) G' (n + 1) := by
  have z2 := hb.size
  have z5 : w2.heap.size < w5.heap.size := by have h9 := hg4.size; simp at h9; omega
  have BG : ∀ b, b < w2.heap.size → (Value.slice a n c).ownBlock ≠ some b → w5.heap[b]? = w2.heap[b]? := fun b hb hn => (hg4.block b (by simp; omega) (fun e => hn e.symm)).trans (Below.heap_alloc w2 _ b hb)
  exact ⟨_, h.push (fun b h => h.2) hb ho (fun b h => h) BG (owns_mono ho4 (Nat.zero_le _)) (by
      rcases ht4 with h9 | h9
      · exact .inl h9
      · refine .inr (fun b e => ?_)
        rw [h9] at e
        simp at e
        omega) hbig (fun b h => ⟨h.1, by have := h.2; omega⟩) (fun b h => ⟨by have := h.1; omega, by have := h.2; omega⟩) (fun b hb => ho4.lt b hb)⟩
theorem Laid.told_below (h : Laid A wr (From lo wr.heap.size) e a n c xs cells G n) (hw : Below lo w wr) (hlo : lo ≤ wr.heap.size) (hb : Below wr.heap.size wr w2) (hg4 : (w2.alloc o).grownBy w5 (Value.slice a n c).ownBlock) : Below lo w w5 :=
  ((hw.trans (hb.mono hlo)).alloc (by have := hb.size; omega) _).grown hg4 (by have := hb.size; simp; omega) (fun j hj => (h.outerF j hj).1)
theorem Laid.base (h : Laid A wr (From lo wr.heap.size) e a n c xs cells G n) (hb : Below wr.heap.size wr w2) : w2.ownsRow lo e A.k (.slice a n c) n cells :=
  owns_below (owns_base h.outer (fun b hb => (h.outerF b hb).1)) hb
end

end Go.Proofs.Ytmbjmmnodcebbaa
