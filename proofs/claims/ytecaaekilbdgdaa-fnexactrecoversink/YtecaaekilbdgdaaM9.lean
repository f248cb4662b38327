/- Several texts of one proof, in build order: KrJ, CmP, RowC, ClnI, ClP. -/
import Derived.Test.YtecaaekilbdgdaaM6
import Derived.Test.YtecaaekilbdgdaaM8
import Derived.Test.YtecaaekilbdgdaaM7
import Derived.Test.YtecaaekilbdgdaaM1
import Derived.Test.YtecaaekilbdgdaaM3
import Derived.Deep.CutBlock

/- Contract of the program's commit. -/
namespace Go.Proofs.Ytecaaekilbdgdaa
open Go.RowKit

set_option maxRecDepth 100000 in
set_option maxHeartbeats 8000000 in
theorem commit_no (F : Nat → Prop) (a0 : Option Addr) (n0 c0 : Nat) (a2 : Option Addr) (n2 c2 : Nat) (a3 : Option Addr) (c3 : Nat) (a4 : Option Addr) (n4 c4 : Nat) (t la up : Int) (src pd : List Int) (ou : List Int) (w : World) (ho : RSink.Own w F [.slice a0 n0 c0, .int .i64 t, .slice a2 n2 c2, .slice a3 0 c3, .slice a4 n4 c4, .int .i64 la, .int .i64 up] (src, t, pd, [], ou, la, up)) :
    Calls Try.prog 46 #[.agg #[.slice a0 n0 c0, .int .i64 t, .slice a2 n2 c2, .slice a3 0 c3, .slice a4 n4 c4, .int .i64 la, .int .i64 up]] w fun e w' => KRet e w w' F false (src, t, pd, [], ou, la, up) ∧ Below w.heap.size w w' := by
  obtain ⟨W, hW⟩ : ∃ W, W = (w.alloc (.cells #[.slice a0 n0 c0, .int .i64 t, .slice a2 n2 c2, .slice a3 0 c3, .slice a4 n4 c4, .int .i64 la, .int .i64 up] 25)).alloc (.cells #[.slice none 0 0, .int .i64 0, .slice none 0 0, .slice none 0 0, .slice none 0 0, .int .i64 0, .int .i64 0] 25) := ⟨_, rfl⟩
  have B0 : Below w.heap.size w W := by rw [hW]; exact ((Below.refl _ _).alloc (Nat.le_refl _) _).alloc (by simp) _
  have b0 : W.heap[w.heap.size]? = some (.cells #[.slice a0 n0 c0, .int .i64 t, .slice a2 n2 c2, .slice a3 0 c3, .slice a4 n4 c4, .int .i64 la, .int .i64 up] 25 (0, 0)) := by rw [hW]; exact blk_alloc (heap_alloc_new w _) _
  have b1 : W.heap[w.heap.size + 1]? = some (.cells #[.slice none 0 0, .int .i64 0, .slice none 0 0, .slice none 0 0, .slice none 0 0, .int .i64 0, .int .i64 0] 25 (0, 0)) := by
    rw [hW]
    have q := heap_alloc_new (w.alloc (.cells #[.slice a0 n0 c0, .int .i64 t, .slice a2 n2 c2, .slice a3 0 c3, .slice a4 n4 c4, .int .i64 la, .int .i64 up] 25)) (.cells #[.slice none 0 0, .int .i64 0, .slice none 0 0, .slice none 0 0, .slice none 0 0, .int .i64 0, .int .i64 0] 25)
    simpa only [World.size_alloc] using q
  have zW : W.heap.size = w.heap.size + 2 := by rw [hW]; simp
  have p0 := blk_cell b0 0 (v := .slice a0 n0 c0) rfl
  have p1 := blk_cell b0 1 (v := .int .i64 t) rfl
  have p2 := blk_cell b0 2 (v := .slice a2 n2 c2) rfl
  have p3 := blk_cell b0 3 (v := .slice a3 0 c3) rfl
  have p4 := blk_cell b0 4 (v := .slice a4 n4 c4) rfl
  have p5 := blk_cell b0 5 (v := .int .i64 la) rfl
  have p6 := blk_cell b0 6 (v := .int .i64 up) rfl
  have y0 := blk_cell b1 0 (v := .slice none 0 0) rfl
  have y1 := blk_cell b1 1 (v := .int .i64 0) rfl
  have y2 := blk_cell b1 2 (v := .slice none 0 0) rfl
  have y3 := blk_cell b1 3 (v := .slice none 0 0) rfl
  have y4 := blk_cell b1 4 (v := .slice none 0 0) rfl
  have y5 := blk_cell b1 5 (v := .int .i64 0) rfl
  have y6 := blk_cell b1 6 (v := .int .i64 0) rfl
  have fz0 := blk_frozen b1 0
  have fz1 := blk_frozen b1 1
  have fz2 := blk_frozen b1 2
  have fz3 := blk_frozen b1 3
  have fz4 := blk_frozen b1 4
  have fz5 := blk_frozen b1 5
  have fz6 := blk_frozen b1 6
  go_enter Try.func46, Try.ntmps46
  go_upto_region 1 with fail
  rw [← hW]
  clear hW
  go_upto_region 2 with fail
  obtain ⟨Y, hY⟩ : ∃ u, u = stores W (w.heap.size + 1) 0 [.slice a0 n0 c0, .int .i64 t, .slice a2 n2 c2, .slice a3 0 c3, .slice a4 n4 c4, .int .i64 la, .int .i64 up] := ⟨_, rfl⟩
  have S : Off (fun b => b = w.heap.size + 1) W Y := by rw [hY]; exact stores_off (F := fun b => b = w.heap.size + 1) _ _ _ _ rfl
  have zY : Y.heap.size = W.heap.size := by rw [hY]; exact stores_size _ _ _ _
  have D : Below w.heap.size w Y := by rw [hY]; exact stores_below _ _ _ _ B0 (by omega)
  have R : Hid (KRet (.returned (.tuple #[.agg #[.slice a0 n0 c0, .int .i64 t, .slice a2 n2 c2, .slice a3 0 c3, .slice a4 n4 c4, .int .i64 la, .int .i64 up], .bool false])) w Y F false (src, t, pd, [], ou, la, up) ∧ Below w.heap.size w Y) := Hid.mk
    ⟨⟨a0, n0, c0, a2, n2, c2, a3, 0, c3, a4, n4, c4, rfl, RSink.mono (RSink.ownBelow ho D) (fun b h => .inl h), Off.below D⟩, D⟩
  have HY := Hid.mk hY
  clear S hY zY D b0 b1 B0 zW
  go_wp2
  refine bodyPost_ret (v := .tuple #[.agg #[.slice a0 n0 c0, .int .i64 t, .slice a2 n2 c2, .slice a3 0 c3, .slice a4 n4 c4, .int .i64 la, .int .i64 up], .bool false]) (by simp [results, Try.results46, go_sem, y0, y1, y2, y3, y4, y5, y6]) rfl ?_
  have h := R.out
  rw [HY.out] at h
  exact h

set_option maxRecDepth 100000 in
set_option maxHeartbeats 8000000 in
theorem commit_yes (F : Nat → Prop) (a0 : Option Addr) (n0 c0 : Nat) (a2 : Option Addr) (n2 c2 : Nat) (g m c3 : Nat) (a4 : Option Addr) (n4 c4 : Nat) (t la up : Int) (src pd : List Int) (no ut : Int) (rw0 : List Int) (ps : List TPrepared) (ou : List Int) (w : World) (hF : ∀ b, F b → b < w.heap.size) (hm : m + 1 ≤ 1048576) (hn4 : n4 ≤ 1048576) (hnr : rw0.length ≤ 1048576) (ho : RSink.Own w F [.slice a0 n0 c0, .int .i64 t, .slice a2 n2 c2, .slice (some ⟨g, 0, none⟩) (m + 1) c3, .slice a4 n4 c4, .int .i64 la, .int .i64 up] (src, t, pd, (no, ut, rw0) :: ps, ou, la, up)) :
    Calls Try.prog 46 #[.agg #[.slice a0 n0 c0, .int .i64 t, .slice a2 n2 c2, .slice (some ⟨g, 0, none⟩) (m + 1) c3, .slice a4 n4 c4, .int .i64 la, .int .i64 up]] w fun e w' => KRet e w w' F true (src, t, pd, ps, ou ++ rw0, no, ut) := by
  obtain ⟨W, hW⟩ : ∃ W, W = (w.alloc (.cells #[.slice a0 n0 c0, .int .i64 t, .slice a2 n2 c2, .slice (some ⟨g, 0, none⟩) (m + 1) c3, .slice a4 n4 c4, .int .i64 la, .int .i64 up] 25)).alloc (.cells #[.slice none 0 0, .int .i64 0, .slice none 0 0, .slice none 0 0, .slice none 0 0, .int .i64 0, .int .i64 0] 25) := ⟨_, rfl⟩
  have B0 : Below w.heap.size w W := by rw [hW]; exact ((Below.refl _ _).alloc (Nat.le_refl _) _).alloc (by simp) _
  have b0 : W.heap[w.heap.size]? = some (.cells #[.slice a0 n0 c0, .int .i64 t, .slice a2 n2 c2, .slice (some ⟨g, 0, none⟩) (m + 1) c3, .slice a4 n4 c4, .int .i64 la, .int .i64 up] 25 (0, 0)) := by rw [hW]; exact blk_alloc (heap_alloc_new w _) _
  have b1 : W.heap[w.heap.size + 1]? = some (.cells #[.slice none 0 0, .int .i64 0, .slice none 0 0, .slice none 0 0, .slice none 0 0, .int .i64 0, .int .i64 0] 25 (0, 0)) := by
    rw [hW]
    have q := heap_alloc_new (w.alloc (.cells #[.slice a0 n0 c0, .int .i64 t, .slice a2 n2 c2, .slice (some ⟨g, 0, none⟩) (m + 1) c3, .slice a4 n4 c4, .int .i64 la, .int .i64 up] 25)) (.cells #[.slice none 0 0, .int .i64 0, .slice none 0 0, .slice none 0 0, .slice none 0 0, .int .i64 0, .int .i64 0] 25)
    simpa only [World.size_alloc] using q
  have zW : W.heap.size = w.heap.size + 2 := by rw [hW]; simp
  obtain ⟨i0, hi0, hx0, hx1, hx2⟩ := info_parts Try.infoInt
  obtain ⟨F0, F2, F3, F4, h0, h2, h3, h4, f0, f2, f3, f4, d02, d03, d04, d23, d24, d34⟩ := RSink.own_iff ho
  obtain ⟨a3', n3', c3', cs, G, hcs, hL⟩ := h3
  simp only [List.cons.injEq, Value.slice.injEq, and_true] at hcs
  obtain ⟨rfl, rfl, rfl⟩ := hcs
  obtain ⟨o4l, _, o4, o4F⟩ := RInts.own_iff.1 h4
  have hLW := hL.below B0
  have hrow := hLW.row 0 _ (by omega) (show ((no, ut, rw0) :: ps)[0]? = some (no, ut, rw0) from rfl)
  obtain ⟨ar, nr, cr, _, hcs0, _, _⟩ := RPrepared.own_open hrow
  simp only at hcs0
  rw [hcs0] at hrow
  obtain ⟨GR, hR0, hGR⟩ := RPrepared.own_iff hrow
  have hRat := RInts.at_iff.1 (RInts.toAt hR0)
  have hcs1 : sub cs 0 3 = [.int .i64 no, .int .i64 ut, .slice ar nr cr] := hcs0
  have hsub : ∀ j, j < 3 → W.cell? ⟨g, j, none⟩ = ([.int .i64 no, .int .i64 ut, .slice ar nr cr] : List Value)[j]? := fun j hj => by
    rw [hLW.outer.cellAt j (show j < (m + 1) * 3 by omega), ← hcs1, sub_at hj, Nat.zero_add]
  have g0 := hsub 0 (by omega)
  have g1 := hsub 1 (by omega)
  have g2 := hsub 2 (by omega)
  simp only [List.getElem?_cons_zero, List.getElem?_cons_succ] at g0 g1 g2
  have hgF : F3 g := hL.outerF g rfl
  have hgN : g < w.heap.size := hF g (f3 g hgF)
  obtain ⟨X, hX⟩ : ∃ u, u = W.alloc (.cells #[.int .i64 no, .int .i64 ut, .slice ar nr cr] 50) := ⟨_, rfl⟩
  have bX : Below W.heap.size W X := by rw [hX]; exact (Below.refl _ _).alloc (Nat.le_refl _) _
  have x0 : X.heap[w.heap.size + 2]? = some (.cells #[.int .i64 no, .int .i64 ut, .slice ar nr cr] 50 (0, 0)) := by rw [hX, ← zW]; exact heap_alloc_new W _
  have zX : X.heap.size = w.heap.size + 3 := by rw [hX]; simp [zW]
  have w3 := blk_cell b0 3 (v := .slice (some ⟨g, 0, none⟩) (m + 1) c3) rfl
  have b0 := blk_below b0 bX
  have b1 := blk_below b1 bX
  have BX := B0.trans (bX.mono B0.size)
  have hLX := hL.below BX
  have KD : Hid (Calls Try.prog 55 #[.slice (some ⟨g, 0, none⟩) (m + 1) c3, .int .i64 0, .int .i64 1] X fun e w' => e = .returned (.slice (some ⟨g, 0, none⟩) m c3) ∧ w'.ownsRow 0 50 3 (.slice (some ⟨g, 0, none⟩) m c3) m (cs.take (0 * 3) ++ cs.drop ((0 + 1) * 3)) ∧ Off (fun b => b = g) X w') := Hid.mk (deleteP_any g (m + 1) c3 0 cs X (by omega) hm (LaidP.ones hLX) hLX.outer)
  have HLX := Hid.mk hLX
  have HROW := Hid.mk (show At X ar rw0 from At.below hRat.2.2.1 bX)
  have HLR := Hid.mk hRat.1
  have hnr' : nr ≤ 1048576 := by have := hRat.1; omega
  have HNR := Hid.mk hRat.2.2.2
  have HGR := Hid.mk (fun b (h : GR b) => (hL.rowF 0 b (by omega) (hGR b h)))
  have HRO := Hid.mk (RInts.ownBelow hR0 bX)
  have HL4 := Hid.mk o4l
  have HO4X := Hid.mk (owns_below o4 BX)
  have p0 := blk_cell b0 0 (v := .slice a0 n0 c0) rfl
  have p1 := blk_cell b0 1 (v := .int .i64 t) rfl
  have p2 := blk_cell b0 2 (v := .slice a2 n2 c2) rfl
  have p3 := blk_cell b0 3 (v := .slice (some ⟨g, 0, none⟩) (m + 1) c3) rfl
  have p4 := blk_cell b0 4 (v := .slice a4 n4 c4) rfl
  have p5 := blk_cell b0 5 (v := .int .i64 la) rfl
  have p6 := blk_cell b0 6 (v := .int .i64 up) rfl
  clear hLX hRat hR0 hGR hrow hcs0 hcs1 hsub hLW o4 o4l
  go_enter Try.func46, Try.ntmps46
  go_upto_region 1 with fail
  rw [← hW]
  clear hW
  go_upto_region 4 with fail
  rw [← hX]
  clear hX g0 g1 g2 w3
  go_wp2_with fail
  refine KD.out.mono ?_
  rintro e w1 ⟨rfl, ho1, hO1⟩
  have HLD : Hid (Laid RPrepared w1 F3 50 (some ⟨g, 0, none⟩) m c3 ps (cs.take (0 * 3) ++ cs.drop ((0 + 1) * 3)) (fun j => G (if j < 0 then j else j + 1)) m) := Hid.mk (laid_eraseIn (i := 0) HLX.out (by omega) (fun b hb hl => hO1.block b hl hb) (fun j => sub_cut (n := m + 1) HLX.out.outer.1 (by omega) j) ho1)
  have z1 := hO1.size
  have k0 := (hO1.block w.heap.size (by omega) (fun e => by have h2 : w.heap.size = g := e; omega)).trans b0
  have k1 := (hO1.block (w.heap.size + 1) (by omega) (fun e => by have h2 : w.heap.size + 1 = g := e; omega)).trans b1
  have k2 := (hO1.block (w.heap.size + 2) (by omega) (fun e => by have h2 : w.heap.size + 2 = g := e; omega)).trans x0
  have HR1 := Hid.mk (RInts.ownOff HRO.out hO1 (fun b hb e => (HGR.out b hb).2 (by rw [show b = g from e]; rfl)))
  have HO41 := Hid.mk (ownsRow_frame HO4X.out (fun b hb hl => hO1.block b hl (fun e => d34 g hgF (by rw [show b = g from e] at hb; exact o4F g hb))))
  have HO : Off (fun b => F3 b ∨ F4 b ∨ w.heap.size ≤ b) w w1 := (Off.below BX).trans (hO1.mono (fun b e => .inl (by rw [show b = g from e]; exact hgF)))
  obtain ⟨X1, hX1⟩ : ∃ u, u = w1.setCell ⟨w.heap.size, 3, none⟩ (.slice (some ⟨g, 0, none⟩) m c3) := ⟨_, rfl⟩
  have e0 : X1.heap[w.heap.size]? = some (.cells #[.slice a0 n0 c0, .int .i64 t, .slice a2 n2 c2, .slice (some ⟨g, 0, none⟩) m c3, .slice a4 n4 c4, .int .i64 la, .int .i64 up] 25 (0, 0)) := by rw [hX1]; exact blk_set k0 3 _
  have e1 : X1.heap[w.heap.size + 1]? = some (.cells #[.slice none 0 0, .int .i64 0, .slice none 0 0, .slice none 0 0, .slice none 0 0, .int .i64 0, .int .i64 0] 25 (0, 0)) := by rw [hX1]; exact blk_other k1 (by simp) _
  have e2 : X1.heap[w.heap.size + 2]? = some (.cells #[.int .i64 no, .int .i64 ut, .slice ar nr cr] 50 (0, 0)) := by rw [hX1]; exact blk_other k2 (by simp) _
  have hS1 : Off (fun b => F4 b ∨ w.heap.size ≤ b) w1 X1 := by rw [hX1]; exact Off.set (F := fun b => F4 b ∨ w.heap.size ≤ b) (a := ⟨w.heap.size, 3, none⟩) (.inr (Nat.le_refl _)) _
  have zX1 := hS1.size
  have HR1 := Hid.mk (RInts.ownOff HR1.out hS1 (fun b hb e => e.elim (fun e => d34 b (HGR.out b hb).1 e) (fun e => by have := hF b (f3 b (HGR.out b hb).1); omega)))
  have HRA := Hid.mk (ints_at HR1.out)
  have HO42 : Hid (X1.ownsRow 0 3 1 (.slice a4 n4 c4) n4 (ou.map (.int .i64))) := Hid.mk (ownsRow_frame HO41.out (fun b hb hl => by
    rw [hX1]; exact Below.heap_setCell w1 ⟨w.heap.size, 3, none⟩ _ b (fun e => by have h2 : b = w.heap.size := e; have := hF b (f4 b (o4F b hb)); omega)))
  have q3 := blk_cell k0 3 (v := .slice (some ⟨g, 0, none⟩) (m + 1) c3) rfl
  have g3 := blk_frozen k0 3
  clear p0 p1 p2 p3 p4 p5 p6 KD HLX HO4X HO41 HRO
  go_upto_region 5 with fail
  rw [← hX1]
  clear hX1 q3 g3
  have p0 := blk_cell e0 0 (v := .slice a0 n0 c0) rfl
  have p1 := blk_cell e0 1 (v := .int .i64 t) rfl
  have p2 := blk_cell e0 2 (v := .slice a2 n2 c2) rfl
  have p3 := blk_cell e0 3 (v := .slice (some ⟨g, 0, none⟩) m c3) rfl
  have p4 := blk_cell e0 4 (v := .slice a4 n4 c4) rfl
  have p5 := blk_cell e0 5 (v := .int .i64 la) rfl
  have p6 := blk_cell e0 6 (v := .int .i64 up) rfl
  have q2 := blk_cell e2 2 (v := .slice ar nr cr) rfl
  go_wp2_with (at_builtin; refine wpList_app_vals rfl (.tmp 19) (.tmp 21) 22 rfl 0 3 i0 (.int .i64 0) 1 8 Try.underlying22 hi0 hx0 hx1 hx2 rfl (by decide) (.slice a4 n4 c4) n4 (ou.map (.int .i64)) rfl HO42.out ar nr cr (rw0.map (.int .i64)) rfl (by rw [List.length_map, HLR.out]; omega) (vals_of HRA.out) (ones_of _) (nil_of HRA.out HLR.out HNR.out) (by unfold maxLen; omega) (by omega) (Nat.zero_le _) ?_)
  intro r d w2 ho2 hg2 ht2
  have hS2 : Off (fun b => F4 b ∨ w.heap.size ≤ b) X1 w2 := Off.grown hg2 (fun k hk => .inl (o4F k hk))
  have hold : ∀ k, w.heap.size ≤ k → k < X1.heap.size → w2.heap[k]? = X1.heap[k]? := fun k hk hk2 => hg2.block k hk2 (fun e => by have := hF k (f4 k (o4F k e.symm)); omega)
  have k0 := (hold w.heap.size (by omega) (by omega)).trans e0
  have k1 := (hold (w.heap.size + 1) (by omega) (by omega)).trans e1
  have k2 := (hold (w.heap.size + 2) (by omega) (by omega)).trans e2
  have z2 := hS2.size
  have HAT : Hid (∀ b, (Value.slice r (n4 + nr) d).ownBlock = some b → F4 b ∨ (w.heap.size + 3 ≤ b ∧ b < w2.heap.size)) := Hid.mk (fun b hb => by
    have hlt := (ho2.lt b hb).2
    rcases ht2 with q | q
    · rw [q] at hb; exact .inl (o4F b hb)
    · rw [q] at hb
      have h2 : X1.heap.size = b := by simpa using hb
      exact .inr ⟨by omega, hlt⟩)
  have HO2 := Hid.mk ho2
  have HO := Hid.mk ((HO.trans (hS1.mono (fun b h => h.elim (fun h => .inr (.inl h)) (fun h => .inr (.inr h))))).trans (hS2.mono (fun b h => h.elim (fun h => .inr (.inl h)) (fun h => .inr (.inr h)))))
  have HO4 := Hid.mk (hS1.trans hS2)
  clear ho2 hg2 ht2 hold hS1 hS2 p0 p1 p2 p3 p4 p5 p6 q2 HO42 HRA HR1
  obtain ⟨X2, hX2⟩ : ∃ u, u = w2.setCell ⟨w.heap.size, 4, none⟩ (.slice r (n4 + nr) d) := ⟨_, rfl⟩
  have e0 : X2.heap[w.heap.size]? = some (.cells #[.slice a0 n0 c0, .int .i64 t, .slice a2 n2 c2, .slice (some ⟨g, 0, none⟩) m c3, .slice r (n4 + nr) d, .int .i64 la, .int .i64 up] 25 (0, 0)) := by rw [hX2]; exact blk_set k0 4 _
  have e1 : X2.heap[w.heap.size + 1]? = some (.cells #[.slice none 0 0, .int .i64 0, .slice none 0 0, .slice none 0 0, .slice none 0 0, .int .i64 0, .int .i64 0] 25 (0, 0)) := by rw [hX2]; exact blk_other k1 (by simp) _
  have e2 : X2.heap[w.heap.size + 2]? = some (.cells #[.int .i64 no, .int .i64 ut, .slice ar nr cr] 50 (0, 0)) := by rw [hX2]; exact blk_other k2 (by simp) _
  have hS3 : Off (fun b => b = w.heap.size) w2 X2 := by rw [hX2]; exact Off.set (F := fun b => b = w.heap.size) (a := ⟨w.heap.size, 4, none⟩) rfl _
  have q4 := blk_cell k0 4 (v := .slice a4 n4 c4) rfl
  have g4 := blk_frozen k0 4
  go_upto_region 6 with fail
  rw [← hX2]
  clear hX2 q4 g4 k0 k1 k2
  have s0 := blk_cell e2 0 (v := .int .i64 no) rfl
  have s1 := blk_cell e2 1 (v := .int .i64 ut) rfl
  have q5 := blk_cell e0 5 (v := .int .i64 la) rfl
  have g5 := blk_frozen e0 5
  have q6 := blk_cell e0 6 (v := .int .i64 up) rfl
  have g6 := blk_frozen e0 6
  go_region
  obtain ⟨X4, hX4⟩ : ∃ u, u = ((X2.setCell ⟨w.heap.size, 5, none⟩ (.int .i64 no)).setCell ⟨w.heap.size, 6, none⟩ (.int .i64 ut)).drew := ⟨_, rfl⟩
  have k0 : X4.heap[w.heap.size]? = some (.cells #[.slice a0 n0 c0, .int .i64 t, .slice a2 n2 c2, .slice (some ⟨g, 0, none⟩) m c3, .slice r (n4 + nr) d, .int .i64 no, .int .i64 ut] 25 (0, 0)) := by rw [hX4]; exact blk_set (blk_set e0 5 _) 6 _
  have k1 : X4.heap[w.heap.size + 1]? = some (.cells #[.slice none 0 0, .int .i64 0, .slice none 0 0, .slice none 0 0, .slice none 0 0, .int .i64 0, .int .i64 0] 25 (0, 0)) := by rw [hX4]; exact blk_other (blk_other e1 (by simp) _) (by simp) _
  have hS5 : Off (fun b => b = w.heap.size) w2 X4 := by rw [hX4]; exact ((hS3.trans (Off.set (F := fun b => b = w.heap.size) (a := ⟨w.heap.size, 5, none⟩) rfl _)).trans (Off.set (F := fun b => b = w.heap.size) (a := ⟨w.heap.size, 6, none⟩) rfl _)).drew
  have z4 := hS5.size
  have HOW := Hid.mk (ownsRow_frame HO2.out (fun b hb hl => hS5.block b hl (fun e => by
    have h2 : b = w.heap.size := e
    rcases HAT.out b hb with q | q
    · have := hF b (f4 b q); omega
    · omega)))
  have HNB : Hid (∀ b, (Value.slice r (n4 + nr) d).ownBlock = some b → b ≠ w.heap.size + 1) := Hid.mk (fun b hb e => by
    rcases HAT.out b hb with q | q
    · have := hF b (f4 b q); omega
    · omega)
  have HO := Hid.mk (HO.out.trans (hS5.mono (fun b h => .inr (.inr (by have h2 : b = w.heap.size := h; omega)))))
  have HO4 := Hid.mk (HO4.out.trans (hS5.mono (fun b h => .inr (by have h2 : b = w.heap.size := h; omega))))
  have p0 := blk_cell k0 0 (v := .slice a0 n0 c0) rfl
  have p1 := blk_cell k0 1 (v := .int .i64 t) rfl
  have p2 := blk_cell k0 2 (v := .slice a2 n2 c2) rfl
  have p3 := blk_cell k0 3 (v := .slice (some ⟨g, 0, none⟩) m c3) rfl
  have p4 := blk_cell k0 4 (v := .slice r (n4 + nr) d) rfl
  have p5 := blk_cell k0 5 (v := .int .i64 no) rfl
  have p6 := blk_cell k0 6 (v := .int .i64 ut) rfl
  have y0 := blk_cell k1 0 (v := .slice none 0 0) rfl
  have y1 := blk_cell k1 1 (v := .int .i64 0) rfl
  have y2 := blk_cell k1 2 (v := .slice none 0 0) rfl
  have y3 := blk_cell k1 3 (v := .slice none 0 0) rfl
  have y4 := blk_cell k1 4 (v := .slice none 0 0) rfl
  have y5 := blk_cell k1 5 (v := .int .i64 0) rfl
  have y6 := blk_cell k1 6 (v := .int .i64 0) rfl
  have fz0 := blk_frozen k1 0
  have fz1 := blk_frozen k1 1
  have fz2 := blk_frozen k1 2
  have fz3 := blk_frozen k1 3
  have fz4 := blk_frozen k1 4
  have fz5 := blk_frozen k1 5
  have fz6 := blk_frozen k1 6
  rw [← hX4]
  clear hX4 hS3 hS5 q5 q6 g5 g6 s0 s1 e0 e1 e2 HO2
  obtain ⟨Y, hY⟩ : ∃ u, u = stores X4 (w.heap.size + 1) 0 [.slice a0 n0 c0, .int .i64 t, .slice a2 n2 c2, .slice (some ⟨g, 0, none⟩) m c3, .slice r (n4 + nr) d, .int .i64 no, .int .i64 ut] := ⟨_, rfl⟩
  have S : Off (fun b => b = w.heap.size + 1) X4 Y := by rw [hY]; exact stores_off (F := fun b => b = w.heap.size + 1) _ _ _ _ rfl
  have zY : Y.heap.size = X4.heap.size := by rw [hY]; exact stores_size _ _ _ _
  have HY2 := Hid.mk ((HO.out.trans (S.mono (fun b h => .inr (.inr (by have h2 : b = w.heap.size + 1 := h; omega))))).mono (F' := fun b => (F3 b ∨ F4 b) ∨ w.heap.size ≤ b) (fun b h => h.elim (fun h => .inl (.inl h)) (fun h => h.elim (fun h => .inl (.inr h)) .inr)))
  have HF4Y := Hid.mk (HO4.out.trans (S.mono (F' := fun b => F4 b ∨ w.heap.size ≤ b) (fun b h => .inr (by have h2 : b = w.heap.size + 1 := h; omega))))
  have R : Hid (KRet (.returned (.tuple #[.agg #[.slice a0 n0 c0, .int .i64 t, .slice a2 n2 c2, .slice (some ⟨g, 0, none⟩) m c3, .slice r (n4 + nr) d, .int .i64 no, .int .i64 ut], .bool true])) w Y F true (src, t, pd, ps, ou ++ rw0, no, ut)) := Hid.mk
    ⟨a0, n0, c0, a2, n2, c2, some ⟨g, 0, none⟩, m, c3, r, n4 + nr, d, rfl, RSink.own_mk (F0 := F0) (F2 := F2) (F3 := F3) (F4 := fun b => F4 b ∨ (w.heap.size ≤ b ∧ b < Y.heap.size))
      (RInts.ownOff h0 HY2.out (fun b k q => q.elim (fun q => q.elim (d03 b k) (d04 b k)) (fun q => by have := hF b (f0 b k); omega)))
      (RInts.ownOff h2 HY2.out (fun b k q => q.elim (fun q => q.elim (d23 b k) (d24 b k)) (fun q => by have := hF b (f2 b k); omega)))
      ⟨some ⟨g, 0, none⟩, m, c3, _, _, rfl, HLD.out.frame (fun b k hb => HF4Y.out.block b hb (fun q => q.elim (d34 b k) (fun q => by have := hF b (f3 b k); omega)))⟩
      (RInts.own_iff.2 ⟨by rw [List.length_append, HL4.out, HLR.out], by omega, by
        rw [List.map_append]
        exact ownsRow_frame HOW.out (fun b hb _ => S.block b (by have := (HOW.out.lt b hb).2; omega) (fun e => by have h2 : b = w.heap.size + 1 := e; exact HNB.out b hb h2)), fun b hb => (HAT.out b hb).imp id (fun h => ⟨by omega, by omega⟩)⟩)
      (fun b h => .inl (f0 b h)) (fun b h => .inl (f2 b h)) (fun b h => .inl (f3 b h)) (fun b h => h.elim (fun h => .inl (f4 b h)) .inr) d02 d03 (fun b h k => k.elim (d04 b h) (fun k => by have := hF b (f0 b h); omega)) d23 (fun b h k => k.elim (d24 b h) (fun k => by have := hF b (f2 b h); omega)) (fun b h k => k.elim (d34 b h) (fun k => by have := hF b (f3 b h); omega)),
      Off.cut (HY2.out.mono (fun b h => h.elim (fun h => .inl (h.elim (f3 b) (f4 b))) .inr))⟩
  have HY := Hid.mk hY
  clear S hY zY HO HO4 HOW HLD k0 k1
  go_wp2
  refine bodyPost_ret (v := .tuple #[.agg #[.slice a0 n0 c0, .int .i64 t, .slice a2 n2 c2, .slice (some ⟨g, 0, none⟩) m c3, .slice r (n4 + nr) d, .int .i64 no, .int .i64 ut], .bool true]) (by simp [results, Try.results46, go_sem, y0, y1, y2, y3, y4, y5, y6]) rfl ?_
  have h := R.out
  rw [HY.out] at h
  exact h

end Go.Proofs.Ytecaaekilbdgdaa

/- Plain: all that is stored is given out, one by one; recovering. -/
namespace Go.Proofs.Ytecaaekilbdgdaa
open Go.RowKit

def cmK : TSink → TSink × Bool
  | (src, t, pd, [], ou, la, up) => ((src, t, pd, [], ou, la, up), false)
  | (src, t, pd, p :: ps, ou, _, _) => ((src, t, pd, ps, ou ++ p.2.2, p.1, p.2.1), true)
/-- What is within bounds while it is given out. -/
def PK (x : TSink) : Prop := x.2.2.2.1.length ≤ 4 ∧ (∀ p ∈ x.2.2.2.1, p.2.2.length ≤ 30) ∧ x.2.2.2.2.1.length + 30 * x.2.2.2.1.length ≤ 150
def muK (x : TSink) : Nat := x.2.2.2.1.length
theorem cmK_step (x : TSink) (hp : PK x) (h : (cmK x).2 = true) : PK (cmK x).1 ∧ muK (cmK x).1 + 1 = muK x := by
  obtain ⟨src, t, pd, ps, ou, la, up⟩ := x
  cases ps with
  | nil => cases h
  | cons p ps =>
    obtain ⟨h1, h2, h3⟩ := hp
    have hr := h2 p (by simp)
    simp only [List.length_cons] at h1 h3
    refine ⟨⟨?_, fun q hq => h2 q (List.mem_cons_of_mem _ hq), ?_⟩, ?_⟩
    · show ps.length ≤ 4; omega
    · show (ou ++ p.2.2).length + 30 * ps.length ≤ 150
      rw [List.length_append]; omega
    · show ps.length + 1 = (p :: ps).length
      simp
theorem pgsB_rows {src : List Int} {t : Int} : ∀ {no u : Int} {ps : List TPrepared}, src.length ≤ 30 → pgsB src t no u ps = true → ∀ p ∈ ps, p.2.2.length ≤ 30
  | _, _, [], _, _, p, hp => by cases hp
  | no, u, q :: ps, hs, h, p, hp => by
    unfold pgsB pgB at h
    simp only [Bool.and_eq_true, decide_eq_true_eq] at h
    rcases List.mem_cons.1 hp with rfl | hp
    · rw [h.1.2]
      unfold seg
      rw [List.length_take, List.length_drop]
      omega
    · exact pgsB_rows hs h.2 p hp
theorem gk_PK {src : List Int} {t : Int} {pd : List Int} {ps : List TPrepared} {ou : List Int} {la up : Int} (h : gkB (src, t, pd, ps, ou, la, up) = true) : PK (src, upF up ps, [], ps, ou, la, up) := by
  obtain ⟨h1, _, _, _, _, _, _, h8, _, h10, _, _⟩ := gk_parts h
  have ho := (gk_out h).2
  refine ⟨h8, pgsB_rows h1 h10, ?_⟩
  show ou.length + 30 * ps.length ≤ 150
  omega
theorem commit_step : StepK 46 cmK PK := by
  intro F a0 n0 c0 a2 n2 c2 a3 n3 c3 a4 n4 c4 t la up src pd ps ou w hp hF ho
  cases ps with
  | nil =>
    obtain rfl : 0 = n3 := (RSink.lens ho).2.2.2.2.1
    refine (commit_no F a0 n0 c0 a2 n2 c2 a3 c3 a4 n4 c4 t la up src pd ou w ho).mono ?_
    rintro e w' ⟨h, hb⟩
    exact ⟨h, fun _ => hb⟩
  | cons p ps =>
    obtain ⟨no, ut, rw0⟩ := p
    obtain ⟨h1, h2, h3⟩ := hp
    simp only [List.length_cons] at h1 h3
    have hl := (RSink.lens ho).2.2.2.2.1
    have hl4 := (RSink.lens ho).2.2.2.2.2.2.1
    obtain ⟨_, _, F3, _, _, _, ⟨a, n, c, cells, G, hcs, hL⟩, _⟩ := RSink.own_iff ho
    simp only [List.cons.injEq, Value.slice.injEq, and_true] at hcs
    obtain ⟨rfl, rfl, rfl⟩ := hcs
    obtain ⟨g, rfl⟩ : ∃ g, a3 = some ⟨g, 0, none⟩ := by
      rcases hL.outer.2 with ⟨_, h0⟩ | ⟨g, cap, cur, hv, _⟩
      · rw [← hl] at h0; simp at h0
      · simp only [Value.slice.injEq, true_and] at hv
        exact ⟨g, hv.1⟩
    obtain rfl : ps.length + 1 = n3 := by simpa using hl
    have hrw := h2 (no, ut, rw0) (by simp)
    simp only at hrw
    refine (commit_yes F a0 n0 c0 a2 n2 c2 g ps.length c3 a4 n4 c4 t la up src pd no ut rw0 ps ou w hF (by omega) (by omega) (by omega) ho).mono ?_
    intro e w' h
    exact ⟨h, fun h => by cases h⟩

def crK (x : TSink) : TSink := (x.1, upF x.2.2.2.2.2.2 x.2.2.2.1, [], x.2.2.2.1, x.2.2.2.2.1, x.2.2.2.2.2.1, x.2.2.2.2.2.2)
def recX (x : TSink) : TSink := if gkB x then (itK cmK (muK (crK x)) (crK x)).1 else newK []
def recN (x : TSink) : Int := if gkB x then ((itK cmK (muK (crK x)) (crK x)).2 : Nat) else 0
theorem Off.belowOf {F : Nat → Prop} {a b : World} {B : Nat} (h : Off F a b) (hF : ∀ b, F b → B ≤ b) (hB : B ≤ a.heap.size) : Below B a b := ⟨h.os, h.tape, h.output, h.size, fun k hk => h.block k (by omega) (fun e => by have := hF k e; omega)⟩

end Go.Proofs.Ytecaaekilbdgdaa

/- Rows of three cells as they lie in memory. -/
namespace Go.Proofs.Ytecaaekilbdgdaa
open Go.RowKit

theorem row_cells {w : World} {b off : Nat} {R : Nat → List Value → Prop} : ∀ (n : Nat) (_ : ∀ i, i < n → ∃ vs, vs.length = 3 ∧ (∀ j v, vs[j]? = some v → w.cell? ⟨b, off + i * 3 + j, none⟩ = some v) ∧ (∀ u ∈ vs, u.oneCell' = true) ∧ R i vs),
    ∃ L : List Value, L.length = n * 3 ∧ (∀ j, j < n * 3 → w.cell? ⟨b, off + j, none⟩ = L[j]?) ∧ (∀ u ∈ L, u.oneCell' = true) ∧ ∀ i, i < n → R i (sub L (i * 3) 3)
  | 0, _ => ⟨[], rfl, fun j hj => by omega, fun u hu => (by cases hu), fun i hi => by omega⟩
  | n + 1, h => by
    obtain ⟨L, l1, l2, l3, l4⟩ := row_cells n (fun i hi => h i (by omega))
    obtain ⟨vs, v1, v2, v3, v4⟩ := h n (by omega)
    refine ⟨L ++ vs, by rw [List.length_append, l1, v1]; omega, fun j hj => ?_, fun u hu => ?_, fun i hi => ?_⟩
    · by_cases e : j < n * 3
      · rw [List.getElem?_append_left (by omega)]; exact l2 j e
      · obtain ⟨r, rfl⟩ : ∃ r, j = n * 3 + r := ⟨j - n * 3, by omega⟩
        rw [List.getElem?_append_right (by omega), l1, Nat.add_sub_cancel_left]
        obtain ⟨v, hv⟩ : ∃ v, vs[r]? = some v := ⟨_, List.getElem?_eq_getElem (by omega)⟩
        rw [hv, ← Nat.add_assoc]
        exact v2 r v hv
    · rcases List.mem_append.1 hu with q | q
      · exact l3 u q
      · exact v3 u q
    · by_cases e : i < n
      · have q : sub (L ++ vs) (i * 3) 3 = sub L (i * 3) 3 := by
          unfold sub
          rw [List.drop_append_of_le_length (by omega), List.take_append_of_le_length (by rw [List.length_drop]; omega)]
        rw [q]; exact l4 i e
      · obtain rfl : i = n := by omega
        have q : sub (L ++ vs) (i * 3) 3 = vs := by
          unfold sub
          rw [List.drop_left' l1, List.take_of_length_le (by omega)]
        rw [q]; exact v4

end Go.Proofs.Ytecaaekilbdgdaa

/- Contract of slices.Clone at ints. -/
namespace Go.Proofs.Ytecaaekilbdgdaa
open Go.RowKit

theorem own_void (w : World) (e : TypeId) (size : Nat) : (w.alloc (.cells #[] e)).ownsRow w.heap.size e size (.slice (some ⟨w.heap.size, 0, none⟩) 0 0) 0 [] :=
  ⟨by simp, .inr ⟨w.heap.size, 0, #[], rfl, Nat.le_refl _, heap_alloc_new w _, by simp, by simp, by simp, by simp⟩⟩
theorem eqNilI (a : Option Addr) (n c : Nat) (w : World) : (binOp .eql 22 (.slice a n c) (.slice none 0 0)).run Try.prog w = .ok (.bool a.isNone) w := by
  have he : (Op.equalIn (9999 + 1) 22 (.slice a n c) (.slice none 0 0)).run Try.prog w = .ok a.isNone w := by
    unfold Op.equalIn
    simp only [Sem.run_bind, run_underlying Try.underlying22, Result.andThen_ok]
    cases a <;> rfl
  have he' : (Op.equal 22 (.slice a n c) (.slice none 0 0)).run Try.prog w = .ok a.isNone w := he
  simp only [binOp]
  rw [Sem.run_bind, he']
  rfl

set_option maxHeartbeats 2000000 in
theorem cloneI_any (a : Option Addr) (n c : Nat) (zs : List Int) (w : World) (hz : zs.length = n) (hn : n ≤ 1048576) (hF : a = none → c = 0) (ha : At w a zs) :
    Calls Try.prog 27 #[.slice a n c] w fun e w' => ∃ r d, e = .returned (.slice r n d) ∧ w'.ownsRow w.heap.size 3 1 (.slice r n d) n (zs.map (.int .i64)) ∧ Below w.heap.size w w' := by
  obtain ⟨i0, hi, hz0, hz1, hz2⟩ := info_parts Try.infoInt
  cases a with
  | none =>
    have hc0 := hF rfl
    subst hc0
    have hM : zs = [] := by rcases ha with h | ⟨b, off, h, _⟩; exact h; cases h
    subst hM
    have hn0 : 0 = n := hz
    subst hn0
    have hq := fun w => eqNilI none 0 0 w
    go_enter Try.func27, Try.ntmps27
    go_wp2
    go_ret
    exact ⟨none, 0, rfl, World.ownsRow_nil _ _ _ _, Below.refl _ _⟩
  | some ad =>
    have OE := Hid.mk (own_void w 3 1)
    have HA := Hid.mk (ha.alloc (.cells #[] 3))
    have HZ := Hid.mk hz
    clear ha hF hz
    have hq := fun w => eqNilI (some ad) n c w
    go_enter Try.func27, Try.ntmps27
    go_wp2_with (at_builtin; refine wpList_append_all rfl (.tmp 5) (.tmp 6) 22 rfl w.heap.size 3 i0 (.int .i64 0) 8 Try.underlying22 hi hz0 hz1 hz2 rfl (.slice (some ⟨w.heap.size, 0, none⟩) 0 0) 0 [] rfl OE.out (some ad) n c zs rfl HZ.out HA.out (fun h => by cases h) (by unfold maxLen; omega) (by omega) (by simp) ?_)
    intro r1 d1 w1 ho1 hg1
    have HB : Hid (Below w.heap.size w w1) := ((Below.refl _ _).alloc (Nat.le_refl _) _).grown hg1 (by simp) (fun j hj => by simp [Value.ownBlock] at hj; omega)
    have HO : Hid (w1.ownsRow w.heap.size 3 1 (.slice r1 n d1) n (zs.map (.int .i64))) := Hid.mk (by simpa using ho1)
    clear ho1 hg1
    go_wp2
    go_ret
    exact ⟨r1, d1, by first | rfl | simp, HO.out, HB.out⟩

end Go.Proofs.Ytecaaekilbdgdaa

/- slices.Clone at Prepared that lie somewhere: the cells as they are. -/
namespace Go.Proofs.Ytecaaekilbdgdaa
open Go.RowKit

theorem eqNilP (a : Option Addr) (n c : Nat) (w : World) : (binOp .eql 23 (.slice a n c) (.slice none 0 0)).run Try.prog w = .ok (.bool a.isNone) w := by
  have he : (Op.equalIn (9999 + 1) 23 (.slice a n c) (.slice none 0 0)).run Try.prog w = .ok a.isNone w := by
    unfold Op.equalIn
    simp only [Sem.run_bind, run_underlying Try.underlying23, Result.andThen_ok]
    cases a <;> rfl
  have he' : (Op.equal 23 (.slice a n c) (.slice none 0 0)).run Try.prog w = .ok a.isNone w := he
  simp only [binOp]
  rw [Sem.run_bind, he']
  rfl

set_option maxHeartbeats 2000000 in
theorem cloneP_vals (ad : Addr) (n c : Nat) (L : List Value) (w : World) (hn : n ≤ 1048576) (hL : L.length = n * 3) (ha : ∀ (j : Nat) (u : Value), L[j]? = some u → w.cell? (ad.add j) = some u) (h1 : ∀ u ∈ L, u.oneCell' = true) :
    Calls Try.prog 54 #[.slice (some ad) n c] w fun e w' => ∃ r d, e = .returned (.slice r n d) ∧ w'.ownsRow w.heap.size 50 3 (.slice r n d) n L ∧ Below w.heap.size w w' := by
  obtain ⟨i0, hi, hz0, hz1, hz2⟩ := info_parts Try.infoPrepared
  have OE := Hid.mk (own_void w 50 3)
  have HL := Hid.mk hL
  have HN : Hid (∀ ad', some ad = some ad' → ∀ (j : Nat) (u : Value), L[j]? = some u → (w.alloc (.cells #[] 50)).cell? (ad'.add j) = some u) := Hid.mk (by
    intro ad' he j u hj
    simp only [Option.some.injEq] at he
    subst he
    exact cell_later ((Below.refl _ _).alloc (Nat.le_refl _) _) (ha j u hj))
  have H1 := Hid.mk h1
  clear ha h1 hL
  have hq := fun w => eqNilP (some ad) n c w
  go_enter Try.func54, Try.ntmps54
  go_wp2_with (at_builtin; refine wpList_app_vals rfl (.tmp 5) (.tmp 6) 23 rfl w.heap.size 50 i0 (.agg #[.int .i64 0, .int .i64 0, .slice none 0 0]) 3 40 Try.underlying23 hi hz0 hz1 hz2 rfl (by decide) (.slice (some ⟨w.heap.size, 0, none⟩) 0 0) 0 [] rfl OE.out (some ad) n c L rfl HL.out HN.out H1.out (fun h => by cases h) (by unfold maxLen; omega) (by omega) (by simp) ?_)
  intro r1 d1 w1 ho1 hg1 ht1
  have HB : Hid (Below w.heap.size w w1) := ((Below.refl _ _).alloc (Nat.le_refl _) _).grown hg1 (by simp) (fun j hj => by simp [Value.ownBlock] at hj; omega)
  have HO : Hid (w1.ownsRow w.heap.size 50 3 (.slice r1 n d1) n L) := Hid.mk (by simpa using ho1)
  clear ho1 hg1 ht1
  go_wp2
  go_ret
  exact ⟨r1, d1, by first | rfl | simp, HO.out, HB.out⟩

/-- What a Prepared's three cells mean. -/
def PCells (w : World) (x : TPrepared) (vs : List Value) : Prop := ∃ a2 c2, vs = [.int .i64 x.1, .int .i64 x.2.1, .slice a2 x.2.2.length c2] ∧ At w a2 x.2.2 ∧ (a2 = none → c2 = 0)
/-- Copied cells that are told. -/
def ClRet (e : Ending) (w0 w w' : World) (n : Nat) (ps : List TPrepared) : Prop :=
  ∃ r d cells, e = .returned (.slice r n d) ∧ w'.ownsRow w.heap.size 50 3 (.slice r n d) n cells ∧ (∀ i x, ps[i]? = some x → PCells w0 x (sub cells (i * 3) 3)) ∧ Below w.heap.size w w'
theorem cloneP_any (a : Option Addr) (n c : Nat) (ps : List TPrepared) (w0 w : World) (hbw0 : Below w0.heap.size w0 w) (hz : ps.length = n) (hn : n ≤ 1048576) (hF : a = none → c = 0) (ha : AtSl RPrepared w0 a ps) :
    Calls Try.prog 54 #[.slice a n c] w fun e w' => ClRet e w0 w w' n ps := by
  by_cases h0 : n = 0
  · subst h0
    have HPS := Hid.mk (List.length_eq_zero_iff.1 hz)
    cases a with
    | none =>
      have hc0 := hF rfl
      subst hc0
      have hq := fun w => eqNilP none 0 0 w
      clear ha hz
      go_enter Try.func54, Try.ntmps54
      go_wp2
      go_ret
      exact ⟨none, 0, [], rfl, World.ownsRow_nil _ _ _ _, fun i x h => by rw [HPS.out] at h; simp at h, Below.refl _ _⟩
    | some ad =>
      refine (cloneP_vals ad 0 c [] w (by omega) rfl (fun j u h => by simp at h) (fun u h => by cases h)).mono ?_
      rintro e w' ⟨r, d, rfl, ho, hb⟩
      exact ⟨r, d, [], rfl, ho, fun i x h => by rw [HPS.out] at h; simp at h, hb⟩
  · obtain ⟨b, off, rfl, hb, hc⟩ := RPrepared.row ha (by omega)
    obtain ⟨L, l1, l2, l3, l4⟩ := row_cells (w := w) (b := b) (off := off) (R := fun i vs => ∀ x, ps[i]? = some x → PCells w0 x vs) n (fun i hi => by
      obtain ⟨x, hx⟩ : ∃ x, ps[i]? = some x := ⟨_, List.getElem?_eq_getElem (by omega)⟩
      obtain ⟨a2, m2, c2, q0, q1, q2, ⟨u0, _, u1, u2⟩⟩ := hc i x hx
      have q0 := cell_later hbw0 q0
      have q1 := cell_later hbw0 q1
      have q2 := cell_later hbw0 q2
      subst u0
      refine ⟨[.int .i64 x.1, .int .i64 x.2.1, .slice a2 x.2.2.length c2], rfl, fun j v hv => ?_, fun u hu => ?_, fun x' hx' => by rw [hx] at hx'; obtain rfl := Option.some.inj hx'; exact ⟨a2, c2, rfl, u1, u2⟩⟩
      · match j, hv with
        | 0, hv => obtain rfl := Option.some.inj hv; exact q0
        | 1, hv => obtain rfl := Option.some.inj hv; exact q1
        | 2, hv => obtain rfl := Option.some.inj hv; exact q2
      · simp only [List.mem_cons, List.not_mem_nil, or_false] at hu
        rcases hu with rfl | rfl | rfl <;> rfl)
    refine (cloneP_vals ⟨b, off, none⟩ n c L w hn l1 (fun j u hj => by
      have hjl := (List.getElem?_eq_some_iff.1 hj).1
      rw [Addr.add_lit, l2 j (by omega)]; exact hj) l3).mono ?_
    rintro e w' ⟨r, d, rfl, ho, hbw⟩
    exact ⟨r, d, L, rfl, ho, fun i x hx => l4 i (by have := (List.getElem?_eq_some_iff.1 hx).1; omega) x hx, hbw⟩

end Go.Proofs.Ytecaaekilbdgdaa
