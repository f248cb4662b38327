/- Several texts of one proof, in build order: PyI, NkS, PsL. -/
import Derived.Test.YtmbjmmnodcebbaaM15
import Derived.Test.YtmbjmmnodcebbaaM16
import Derived.Test.YtmbjmmnodcebbaaM19
import Derived.Test.YtmbjmmnodcebbaaM6
import Derived.Test.YtmbjmmnodcebbaaM3

/- Contract of the program's PlaySink. -/
namespace Go.Proofs.Ytmbjmmnodcebbaa
open Go.RowKit

set_option maxRecDepth 100000 in
set_option maxHeartbeats 20000000 in
theorem implPlaySink (a : Option Addr) (n c : Nat) (b : Option Addr) (m d : Nat) (zs ls : List Int) (w : World) (hz : zs.length = n) (hn : n ≤ 1048576) (hF : a = none → c = 0) (ha : At w a zs) (hl : ls.length = m) (hm : m ≤ 1048576) (hb : At w b ls) :
    Calls Try.prog 15 #[.slice a n c, .slice b m d] w fun e w' => PyRet e w' w.heap.size (pyOk zs ls) (pyX zs ls) (pyB zs ls) ∧ Below w.heap.size w w' := by
  obtain ⟨i0, hi0, hx0, hx1, hx2⟩ := info_parts Try.infoBool
  obtain ⟨W, hW⟩ : ∃ W, W = w.alloc (.cells #[.slice none 0 0, .int .i64 0, .slice none 0 0, .slice none 0 0, .slice none 0 0, .int .i64 0, .int .i64 0] 29) := ⟨_, rfl⟩
  have B0 : Below w.heap.size w W := by rw [hW]; exact (Below.refl _ _).alloc (Nat.le_refl _) _
  have b0 : W.heap[w.heap.size]? = some (.cells #[.slice none 0 0, .int .i64 0, .slice none 0 0, .slice none 0 0, .slice none 0 0, .int .i64 0, .int .i64 0] 29 (0, 0)) := by rw [hW]; exact heap_alloc_new w _
  have zW : W.heap.size = w.heap.size + 1 := by rw [hW]; simp
  obtain ⟨PB, hPB⟩ : ∃ x, gkB (newK zs) = x := ⟨_, rfl⟩
  obtain ⟨PO, hPO⟩ : ∃ x, pyOk zs ls = x := ⟨_, rfl⟩
  obtain ⟨XX, hXX⟩ : ∃ x, pyX zs ls = x := ⟨_, rfl⟩
  obtain ⟨XB, hXB⟩ : ∃ x, pyB zs ls = x := ⟨_, rfl⟩
  obtain ⟨⟨src, t, pd, ps, ou, la, up⟩, hza⟩ : ∃ x, (if PB then newK zs else newK []) = x := ⟨_, rfl⟩
  have KN := Hid.mk (implNewSink a n c zs W hz hn hF (At.below ha B0))
  rw [hPB, hza] at KN
  rw [hPO, hXX, hXB]
  have HPB := Hid.mk hPB
  have HPO := Hid.mk hPO
  have HXX := Hid.mk hXX
  have HXB := Hid.mk hXB
  have HZA := Hid.mk hza
  have HL := Hid.mk hb
  have HLL := Hid.mk hl
  clear hPB hPO hXX hXB hza hb hl ha
  go_enter Try.func15, Try.ntmps15
  go_upto_region 1 with fail
  rw [← hW]
  clear hW
  go_wp2_with fail
  refine KN.out.mono ?_
  rintro e w1 ⟨⟨ra0, ma0, da0, ra2, ma2, da2, ra3, ma3, da3, ra4, ma4, da4, rfl, hoa⟩, hb1⟩
  (try simp only at hoa)
  have b0 := blk_below b0 hb1
  have z1 := hb1.size
  have B1 := B0.trans (hb1.mono B0.size)
  obtain ⟨P, hP⟩ : ∃ P, w1.heap.size = P := ⟨_, rfl⟩
  obtain ⟨Xa, hX⟩ : ∃ u, u = w1.alloc (.cells #[.slice ra0 ma0 da0, .int .i64 t, .slice ra2 ma2 da2, .slice ra3 ma3 da3, .slice ra4 ma4 da4, .int .i64 la, .int .i64 up] 29) := ⟨_, rfl⟩
  have bX : Below w1.heap.size w1 Xa := by rw [hX]; exact (Below.refl _ _).alloc (Nat.le_refl _) _
  have x0 : Xa.heap[w1.heap.size]? = some (.cells #[.slice ra0 ma0 da0, .int .i64 t, .slice ra2 ma2 da2, .slice ra3 ma3 da3, .slice ra4 ma4 da4, .int .i64 la, .int .i64 up] 29 (0, 0)) := by rw [hX]; exact heap_alloc_new w1 _
  have b0 := blk_below b0 bX
  have zXa := bX.size
  have zXal : w1.heap.size < Xa.heap.size := by rw [hX]; simp
  have BXa : Below w.heap.size w Xa := B1.trans (bX.mono B1.size)
  rw [hP] at x0
  have bp := x0
  have zXaP : P < Xa.heap.size := by omega
  have hPN : w.heap.size + 1 ≤ P := by omega
  obtain ⟨FFa, hFFa, hoa⟩ : ∃ FF : Nat → Prop, (∀ b, FF b → w.heap.size + 1 ≤ b ∧ b < Xa.heap.size ∧ b ≠ P) ∧ RSink.Own Xa FF [.slice ra0 ma0 da0, .int .i64 t, .slice ra2 ma2 da2, .slice ra3 ma3 da3, .slice ra4 ma4 da4, .int .i64 la, .int .i64 up] (src, t, pd, ps, ou, la, up) :=
    ⟨_, fun b h => ⟨by have := h.1; omega, by have := h.2; omega, by have := h.2; omega⟩, RSink.ownBelow hoa bX⟩
  clear KN hb1 x0 bX
  go_upto_region 2 with fail
  (try simp only)
  rw [← hX]
  clear hX
  (try rw [hP])
  clear hP
  cases PB with
  | false =>
    obtain rfl : false = PO := by rw [← HPO.out]; unfold pyOk; rw [HPB.out]; rfl
    obtain rfl : newK [] = XX := by rw [← HXX.out]; unfold pyX; rw [HPO.out]; rfl
    obtain rfl : [] = XB := by rw [← HXB.out]; unfold pyB; rw [HPO.out]; rfl
    have y0 := blk_cell b0 0 (v := .slice none 0 0) rfl
    have y1 := blk_cell b0 1 (v := .int .i64 0) rfl
    have y2 := blk_cell b0 2 (v := .slice none 0 0) rfl
    have y3 := blk_cell b0 3 (v := .slice none 0 0) rfl
    have y4 := blk_cell b0 4 (v := .slice none 0 0) rfl
    have y5 := blk_cell b0 5 (v := .int .i64 0) rfl
    have y6 := blk_cell b0 6 (v := .int .i64 0) rfl
    have fz0 := blk_frozen b0 0
    have fz1 := blk_frozen b0 1
    have fz2 := blk_frozen b0 2
    have fz3 := blk_frozen b0 3
    have fz4 := blk_frozen b0 4
    have fz5 := blk_frozen b0 5
    have fz6 := blk_frozen b0 6
    go_wp2
    refine bodyPost_ret (v := .tuple #[.agg #[.slice none 0 0, .int .i64 0, .slice none 0 0, .slice none 0 0, .slice none 0 0, .int .i64 0, .int .i64 0], .slice none 0 0, .bool false]) (by simp [results, Try.results15, go_sem, y0, y1, y2, y3, y4, y5, y6]) rfl ⟨⟨none, 0, 0, none, 0, 0, none, 0, 0, none, 0, 0, none, 0, 0, rfl, WithB.void (RSink.void _ _)⟩, ?_⟩
    exact ((((((BXa.setCell (Nat.le_refl _) _).setCell (Nat.le_refl _) _).setCell (Nat.le_refl _) _).setCell (Nat.le_refl _) _).setCell (Nat.le_refl _) _).setCell (Nat.le_refl _) _).setCell (Nat.le_refl _) _
  | true =>
    have hna : newK zs = (src, t, pd, ps, ou, la, up) := HZA.out
    by_cases h120 : 120 < m
    · have h120i : (120 : Int) < (m : Int) := by omega
      obtain rfl : false = PO := by rw [← HPO.out]; unfold pyOk; rw [HPB.out]; exact (decide_eq_false (by rw [HLL.out]; omega)).symm
      obtain rfl : newK [] = XX := by rw [← HXX.out]; unfold pyX; rw [HPO.out]; rfl
      obtain rfl : [] = XB := by rw [← HXB.out]; unfold pyB; rw [HPO.out]; rfl
      have y0 := blk_cell b0 0 (v := .slice none 0 0) rfl
      have y1 := blk_cell b0 1 (v := .int .i64 0) rfl
      have y2 := blk_cell b0 2 (v := .slice none 0 0) rfl
      have y3 := blk_cell b0 3 (v := .slice none 0 0) rfl
      have y4 := blk_cell b0 4 (v := .slice none 0 0) rfl
      have y5 := blk_cell b0 5 (v := .int .i64 0) rfl
      have y6 := blk_cell b0 6 (v := .int .i64 0) rfl
      have fz0 := blk_frozen b0 0
      have fz1 := blk_frozen b0 1
      have fz2 := blk_frozen b0 2
      have fz3 := blk_frozen b0 3
      have fz4 := blk_frozen b0 4
      have fz5 := blk_frozen b0 5
      have fz6 := blk_frozen b0 6
      go_wp2
      refine bodyPost_ret (v := .tuple #[.agg #[.slice none 0 0, .int .i64 0, .slice none 0 0, .slice none 0 0, .slice none 0 0, .int .i64 0, .int .i64 0], .slice none 0 0, .bool false]) (by simp [results, Try.results15, go_sem, y0, y1, y2, y3, y4, y5, y6]) rfl ⟨⟨none, 0, 0, none, 0, 0, none, 0, 0, none, 0, 0, none, 0, 0, rfl, WithB.void (RSink.void _ _)⟩, ?_⟩
      exact ((((((BXa.setCell (Nat.le_refl _) _).setCell (Nat.le_refl _) _).setCell (Nat.le_refl _) _).setCell (Nat.le_refl _) _).setCell (Nat.le_refl _) _).setCell (Nat.le_refl _) _).setCell (Nat.le_refl _) _
    · have h120i : ¬ (120 : Int) < (m : Int) := by omega
      have hm2 : m ≤ 120 := by omega
      have hjs := JS_new HPB.out
      rw [hna] at hjs
      have hPOK : pyOk zs ls = true := by unfold pyOk; rw [HPB.out, Bool.true_and, decide_eq_true_eq, HLL.out]; exact hm2
      obtain rfl : true = PO := by rw [← HPO.out]; exact hPOK.symm
      have hxx : plS (src, t, pd, ps, ou, la, up) ls = XX := by rw [← HXX.out, ← hna]; unfold pyX; rw [hPOK]; rfl
      have hxb : plB (src, t, pd, ps, ou, la, up) ls = XB := by rw [← HXB.out, ← hna]; unfold pyB; rw [hPOK]; rfl
      have HJS := Hid.mk hjs
      have HXX1 := Hid.mk hxx
      have HXB1 := Hid.mk hxb
      have HOA := Hid.mk hoa
      have HFFA := Hid.mk hFFa
      have HB0 := Hid.mk b0
      have HBP := Hid.mk bp
      have HBX := Hid.mk BXa
      have HZX : Hid (P < Xa.heap.size) := Hid.mk zXaP
      clear hna hjs hPOK hxx hxb hoa hFFa b0 bp h120 HXX HXB HPO HZA
      go_wp2_with fail
      go_loopw [9, 29] (fun al i wr => ∃ (k : Nat) (rz0 : Option Addr) (mz0 dz0 : Nat) (rz2 : Option Addr) (mz2 dz2 : Nat) (rz3 : Option Addr) (mz3 dz3 : Nat) (rz4 : Option Addr) (mz4 dz4 : Nat) (sz : List Int) (tz : Int) (qz : List Int) (vz : List TPrepared) (oz : List Int) (lz uz : Int) (G : Nat → Prop) (rb : Option Addr) (db : Nat) (bs : List Bool), i = .int .i64 k ∧ al = .slice rb k db ∧ k ≤ m ∧ wr.heap[P]? = some (.cells #[.slice rz0 mz0 dz0, .int .i64 tz, .slice rz2 mz2 dz2, .slice rz3 mz3 dz3, .slice rz4 mz4 dz4, .int .i64 lz, .int .i64 uz] 29 (0, 0)) ∧ wr.heap[w.heap.size]? = some (.cells #[.slice none 0 0, .int .i64 0, .slice none 0 0, .slice none 0 0, .slice none 0 0, .int .i64 0, .int .i64 0] 29 (0, 0)) ∧ RSink.Own wr G [.slice rz0 mz0 dz0, .int .i64 tz, .slice rz2 mz2 dz2, .slice rz3 mz3 dz3, .slice rz4 mz4 dz4, .int .i64 lz, .int .i64 uz] (sz, tz, qz, vz, oz, lz, uz) ∧ JS (sz, tz, qz, vz, oz, lz, uz) ∧ plS (sz, tz, qz, vz, oz, lz, uz) (ls.drop k) = XX ∧ bs ++ plB (sz, tz, qz, vz, oz, lz, uz) (ls.drop k) = XB ∧ wr.ownsRow 0 4 1 (.slice rb k db) k (bs.map .bool) ∧ (∀ b, (Value.slice rb k db).ownBlock = some b → ¬ G b ∧ w.heap.size + 1 ≤ b ∧ b < wr.heap.size ∧ b ≠ P) ∧ (∀ b, G b → w.heap.size + 1 ≤ b ∧ b < wr.heap.size ∧ b ≠ P) ∧ Below w.heap.size w wr ∧ P < wr.heap.size) (fun _ i _ => m - (intOf i).toNat)
      case atStart => exact ⟨0, ra0, ma0, da0, ra2, ma2, da2, ra3, ma3, da3, ra4, ma4, da4, src, t, pd, ps, ou, la, up, FFa, none, 0, [], rfl, rfl, Nat.zero_le _, HBP.out, HB0.out, HOA.out, HJS.out, HXX1.out, HXB1.out, World.ownsRow_nil _ _ _ _, fun b h => (by cases h), HFFA.out, HBX.out, HZX.out⟩
      case round =>
        clear HBP HB0 HOA HJS HXX1 HXB1 HFFA HBX HZX
        obtain ⟨k, rz0, mz0, dz0, rz2, mz2, dz2, rz3, mz3, dz3, rz4, mz4, dz4, sz, tz, qz, vz, oz, lz, uz, G, rb, db, bs, rfl, rfl, hk, bp, b0, hoz, hjz, hxz, hbz, hob, hbb, hG, BwY, zwY⟩ := hrel
        obtain ⟨wY, rfl⟩ : ∃ x, x = wr := ⟨_, rfl⟩
        have hbl : bs.length = k := by have := hob.1; simpa using this
        by_cases hlt : k < m
        · have hlti : (k : Int) < (m : Int) := by omega
          obtain ⟨x, hx⟩ : ∃ x, ls[k]? = some x := ⟨_, List.getElem?_eq_getElem (by rw [HLL.out]; exact hlt)⟩
          obtain ⟨lb, loff, rfl, hlb, hlc⟩ := HL.out.some (by rw [HLL.out]; omega)
          have hcx : wY.cell? ⟨lb, loff + k, none⟩ = some (.int .i64 x) := by
            have q := hlc k (by rw [HLL.out]; exact hlt)
            rw [show ls.getD k 0 = x by simp [List.getD, hx]] at q
            exact (BwY.cell hlb).trans q
          obtain ⟨⟨sy, ty, qy, vy, oy, ly, uy⟩, hy⟩ : ∃ y, (stK (sz, tz, qz, vz, oz, lz, uz) x).1 = y := ⟨_, rfl⟩
          obtain ⟨OK, hok⟩ : ∃ y, (stK (sz, tz, qz, vz, oz, lz, uz) x).2 = y := ⟨_, rfl⟩
          have hp := pl_at hx (sz, tz, qz, vz, oz, lz, uz)
          rw [hp.1, hy] at hxz
          rw [hp.2, hy, hok] at hbz
          have hjy := JS_step (sz, tz, qz, vz, oz, lz, uz) x hjz
          rw [hy] at hjy
          have hw1 : IntKind.i64.wrap ((k : Int) + 1) = ((k + 1 : Nat) : Int) := by rw [IntWalk.i64_in _ (by omega)]; omega
          have KS := Hid.mk (take_any G rz0 mz0 dz0 rz2 mz2 dz2 rz3 mz3 dz3 rz4 mz4 dz4 tz lz uz x sz qz vz oz wY (fun b h => (hG b h).2.1) (JS_DP hjz) (fun w' hF' ho' => tearC G rz0 mz0 dz0 rz2 mz2 dz2 rz3 mz3 dz3 rz4 mz4 dz4 tz lz uz sz qz vz oz w' (JS_DP hjz) hF' ho') hoz)
          rw [hok, hy] at KS
          have HXZ := Hid.mk hxz
          have HBZ := Hid.mk hbz
          have HJY := Hid.mk hjy
          have HOB := Hid.mk hob
          have HBB := Hid.mk hbb
          have HGG := Hid.mk hG
          clear hxz hbz hjy hjz hob hbb hy hok hp hoz hbl hx hlc hlb
          have p0 := blk_cell bp 0 (v := .slice rz0 mz0 dz0) rfl
          have p1 := blk_cell bp 1 (v := .int .i64 tz) rfl
          have p2 := blk_cell bp 2 (v := .slice rz2 mz2 dz2) rfl
          have p3 := blk_cell bp 3 (v := .slice rz3 mz3 dz3) rfl
          have p4 := blk_cell bp 4 (v := .slice rz4 mz4 dz4) rfl
          have p5 := blk_cell bp 5 (v := .int .i64 lz) rfl
          have p6 := blk_cell bp 6 (v := .int .i64 uz) rfl
          go_wp2_with fail
          refine KS.out.mono ?_
          rintro e wy ⟨ry0, my0, dy0, ry2, my2, dy2, ry3, my3, dy3, ry4, my4, dy4, rfl, hoy, hO⟩
          (try simp only at hoy)
          have zwy := hO.size
          have b0 := (hO.block w.heap.size (by omega) (fun h => by have := HGG.out _ h; omega)).trans b0
          have bp := (hO.block P (by omega) (fun h => by have := HGG.out _ h; omega)).trans bp
          have Bwy : Below w.heap.size w wy := BwY.trans (hO.belowOf (fun b h => by have := HGG.out _ h; omega) (by omega))
          have HOB := Hid.mk (ownsRow_frame HOB.out (fun b hb hl => hO.block b hl (HBB.out b hb).1))
          clear KS p0 p1 p2 p3 p4 p5 p6 hO hcx hG
          obtain ⟨Xx, hX⟩ : ∃ u, u = wy.alloc (.cells #[.slice ry0 my0 dy0, .int .i64 ty, .slice ry2 my2 dy2, .slice ry3 my3 dy3, .slice ry4 my4 dy4, .int .i64 ly, .int .i64 uy] 29) := ⟨_, rfl⟩
          have bX : Below wy.heap.size wy Xx := by rw [hX]; exact (Below.refl _ _).alloc (Nat.le_refl _) _
          have x0 : Xx.heap[wy.heap.size]? = some (.cells #[.slice ry0 my0 dy0, .int .i64 ty, .slice ry2 my2 dy2, .slice ry3 my3 dy3, .slice ry4 my4 dy4, .int .i64 ly, .int .i64 uy] 29 (0, 0)) := by rw [hX]; exact heap_alloc_new wy _
          have b0 := blk_below b0 bX
          have bp := blk_below bp bX
          have zXx := bX.size
          have zXxl : wy.heap.size < Xx.heap.size := by rw [hX]; simp
          have BXx : Below w.heap.size w Xx := Bwy.trans (bX.mono Bwy.size)
          go_upto_region 9 with fail
          (try simp only)
          rw [← hX]
          clear hX
          have p0 := blk_cell x0 0 (v := .slice ry0 my0 dy0) rfl
          have p1 := blk_cell x0 1 (v := .int .i64 ty) rfl
          have p2 := blk_cell x0 2 (v := .slice ry2 my2 dy2) rfl
          have p3 := blk_cell x0 3 (v := .slice ry3 my3 dy3) rfl
          have p4 := blk_cell x0 4 (v := .slice ry4 my4 dy4) rfl
          have p5 := blk_cell x0 5 (v := .int .i64 ly) rfl
          have p6 := blk_cell x0 6 (v := .int .i64 uy) rfl
          have y0 := blk_cell bp 0 (v := .slice rz0 mz0 dz0) rfl
          have y1 := blk_cell bp 1 (v := .int .i64 tz) rfl
          have y2 := blk_cell bp 2 (v := .slice rz2 mz2 dz2) rfl
          have y3 := blk_cell bp 3 (v := .slice rz3 mz3 dz3) rfl
          have y4 := blk_cell bp 4 (v := .slice rz4 mz4 dz4) rfl
          have y5 := blk_cell bp 5 (v := .int .i64 lz) rfl
          have y6 := blk_cell bp 6 (v := .int .i64 uz) rfl
          have fy0 := blk_frozen bp 0
          have fy1 := blk_frozen bp 1
          have fy2 := blk_frozen bp 2
          have fy3 := blk_frozen bp 3
          have fy4 := blk_frozen bp 4
          have fy5 := blk_frozen bp 5
          have fy6 := blk_frozen bp 6
          obtain ⟨Xr, hX⟩ : ∃ u, u = (((((((Xx.setCell ⟨P, 0, none⟩ (.slice ry0 my0 dy0)).setCell ⟨P, 1, none⟩ (.int .i64 ty)).setCell ⟨P, 2, none⟩ (.slice ry2 my2 dy2)).setCell ⟨P, 3, none⟩ (.slice ry3 my3 dy3)).setCell ⟨P, 4, none⟩ (.slice ry4 my4 dy4)).setCell ⟨P, 5, none⟩ (.int .i64 ly)).setCell ⟨P, 6, none⟩ (.int .i64 uy)) := ⟨_, rfl⟩
          have bp' : Xr.heap[P]? = some (.cells #[.slice ry0 my0 dy0, .int .i64 ty, .slice ry2 my2 dy2, .slice ry3 my3 dy3, .slice ry4 my4 dy4, .int .i64 ly, .int .i64 uy] 29 (0, 0)) := by rw [hX]; exact (blk_set (blk_set (blk_set (blk_set (blk_set (blk_set (blk_set bp 0 _) 1 _) 2 _) 3 _) 4 _) 5 _) 6 _)
          have b0' : Xr.heap[w.heap.size]? = some (.cells #[.slice none 0 0, .int .i64 0, .slice none 0 0, .slice none 0 0, .slice none 0 0, .int .i64 0, .int .i64 0] 29 (0, 0)) := by rw [hX]; exact (blk_other (blk_other (blk_other (blk_other (blk_other (blk_other (blk_other b0 (by simp; omega) _) (by simp; omega) _) (by simp; omega) _) (by simp; omega) _) (by simp; omega) _) (by simp; omega) _) (by simp; omega) _)
          have hS : Off (fun b => b = P) Xx Xr := by rw [hX]; exact stores_off (F := fun b => b = P) Xx P 0 [.slice ry0 my0 dy0, .int .i64 ty, .slice ry2 my2 dy2, .slice ry3 my3 dy3, .slice ry4 my4 dy4, .int .i64 ly, .int .i64 uy] rfl
          have zXra : Xr.heap.size ≤ Xx.heap.size := by rw [hX]; exact Nat.le_of_eq (stores_size Xx P 0 [.slice ry0 my0 dy0, .int .i64 ty, .slice ry2 my2 dy2, .slice ry3 my3 dy3, .slice ry4 my4 dy4, .int .i64 ly, .int .i64 uy])
          have zXrb := hS.size
          have BXr : Below w.heap.size w Xr := BXx.trans (hS.belowOf (fun b h => by have h2 : b = P := h; omega) (by omega))
          clear b0 bp
          have b0 := b0'
          have bp := bp'
          clear b0' bp'
          have hoR : RSink.Own Xr (Gr G wY wy) [.slice ry0 my0 dy0, .int .i64 ty, .slice ry2 my2 dy2, .slice ry3 my3 dy3, .slice ry4 my4 dy4, .int .i64 ly, .int .i64 uy] (sy, ty, qy, vy, oy, ly, uy) := RSink.ownOff (RSink.ownBelow hoy bX) hS (fun b h e => by have h2 : b = P := e; rcases h with h | h; have := HGG.out _ h; omega; omega)
          have HOB := Hid.mk (ownsRow_frame (owns_below HOB.out bX) (fun b hb hl => hS.block b hl (fun e => (HBB.out b hb).2.2.2 e)))
          have HOR := Hid.mk hoR
          clear hoR hoy hS bX x0
          go_upto_region 10 with fail
          rw [← hX]
          clear hX p0 p1 p2 p3 p4 p5 p6
          clear y0 y1 y2 y3 y4 y5 y6 fy0 fy1 fy2 fy3 fy4 fy5 fy6
          go_wp2_with (at_builtin; refine wpList_app_vals rfl (.tmp 40) (.tmp 42) 36 rfl 0 4 i0 (.bool false) 1 1 Try.underlying36 hi0 hx0 hx1 hx2 rfl (by decide) (.slice rb k db) k (bs.map .bool) rfl (owns_below HOB.out ((Below.refl _ _).alloc (Nat.le_refl _) _)) (some ⟨Xr.heap.size, 0, none⟩) 1 1 [.bool OK] rfl rfl (fun ad he => by cases he; intro j u hu; match j, hu with | 0, hu => (obtain rfl := Option.some.inj hu; exact blk_cell (heap_alloc_new Xr _) 0 rfl)) (by intro u hu; simp at hu; rw [hu]; rfl) (fun h => by cases h) (by unfold maxLen; omega) (by omega) (Nat.zero_le _) ?_)
          intro r d5 w5 ho5 hg5 ht5
          have zX4 : (Xr.alloc (.cells #[.bool OK] 4)).heap.size = Xr.heap.size + 1 := by simp
          (try rw [zX4] at ht5)
          have hO5 : Off (fun q => (Value.slice rb k db).ownBlock = some q) Xr w5 := (Off.below ((Below.refl _ _).alloc (Nat.le_refl _) _)).trans (Off.grown hg5 (fun q hq => hq))
          have z5 := hO5.size
          have z5b : Xr.heap.size + 1 ≤ w5.heap.size := by have q := hg5.size; (try rw [zX4] at q); (try simp only [World.size_alloc] at q); omega
          have bp5 := (hO5.block P (by omega) (fun e => (HBB.out P e).2.2.2 rfl)).trans bp
          have b05 := (hO5.block w.heap.size (by omega) (fun e => by have := (HBB.out _ e).2.1; omega)).trans b0
          have B5 : Below w.heap.size w w5 := BXr.trans (hO5.belowOf (fun b h => by have := (HBB.out b h).2.1; omega) (by omega))
          have ho6 : w5.ownsRow 0 4 1 (.slice r (k + 1) d5) (k + 1) ((bs ++ [OK]).map .bool) := by rw [List.map_append]; exact ho5
          have hoS : RSink.Own w5 (Gr G wY wy) [.slice ry0 my0 dy0, .int .i64 ty, .slice ry2 my2 dy2, .slice ry3 my3 dy3, .slice ry4 my4 dy4, .int .i64 ly, .int .i64 uy] (sy, ty, qy, vy, oy, ly, uy) := RSink.ownOff HOR.out hO5 (fun b h e => by rcases h with h | h; exact (HBB.out b e).1 h; have := (HBB.out b e).2.2.1; omega)
          have HREL : Hid (∃ (rz0 : Option Addr) (mz0 dz0 : Nat) (rz2 : Option Addr) (mz2 dz2 : Nat) (rz3 : Option Addr) (mz3 dz3 : Nat) (rz4 : Option Addr) (mz4 dz4 : Nat) (sz : List Int) (tz : Int) (qz : List Int) (vz : List TPrepared) (oz : List Int) (lz uz : Int) (G : Nat → Prop) (bs : List Bool), w5.heap[P]? = some (.cells #[.slice rz0 mz0 dz0, .int .i64 tz, .slice rz2 mz2 dz2, .slice rz3 mz3 dz3, .slice rz4 mz4 dz4, .int .i64 lz, .int .i64 uz] 29 (0, 0)) ∧ w5.heap[w.heap.size]? = some (.cells #[.slice none 0 0, .int .i64 0, .slice none 0 0, .slice none 0 0, .slice none 0 0, .int .i64 0, .int .i64 0] 29 (0, 0)) ∧ RSink.Own w5 G [.slice rz0 mz0 dz0, .int .i64 tz, .slice rz2 mz2 dz2, .slice rz3 mz3 dz3, .slice rz4 mz4 dz4, .int .i64 lz, .int .i64 uz] (sz, tz, qz, vz, oz, lz, uz) ∧ JS (sz, tz, qz, vz, oz, lz, uz) ∧ plS (sz, tz, qz, vz, oz, lz, uz) (ls.drop (k + 1)) = XX ∧ bs ++ plB (sz, tz, qz, vz, oz, lz, uz) (ls.drop (k + 1)) = XB ∧ w5.ownsRow 0 4 1 (.slice r (k + 1) d5) (k + 1) (bs.map .bool) ∧ (∀ b, (Value.slice r (k + 1) d5).ownBlock = some b → ¬ G b ∧ w.heap.size + 1 ≤ b ∧ b < w5.heap.size ∧ b ≠ P) ∧ (∀ b, G b → w.heap.size + 1 ≤ b ∧ b < w5.heap.size ∧ b ≠ P) ∧ Below w.heap.size w w5 ∧ P < w5.heap.size) := Hid.mk ⟨ry0, my0, dy0, ry2, my2, dy2, ry3, my3, dy3, ry4, my4, dy4, sy, ty, qy, vy, oy, ly, uy, Gr G wY wy, bs ++ [OK], bp5, b05, hoS, HJY.out, HXZ.out, by rw [List.append_assoc]; exact HBZ.out, ho6, fun b hb => (by
              have hlt5 := (ho6.lt b hb).2
              rcases ht5 with q | q
              · rw [q] at hb
                have h9 := HBB.out b hb
                exact ⟨fun h => (by rcases h with h | h; exact h9.1 h; omega), by omega, hlt5, h9.2.2.2⟩
              · rw [q] at hb
                have h2 := Option.some.inj hb
                exact ⟨fun h => (by rcases h with h | h; have := HGG.out _ h; omega; omega), by omega, hlt5, by omega⟩), fun b h => (by rcases h with h | h; have := HGG.out _ h; omega; omega), B5, by omega⟩
          clear hoS ho6 ho5 hg5 ht5 hO5 bp5 b05 bp b0 HOB HOR HXZ HBZ HJY HBB HGG
          go_wp2
          go_roundw
          case rel =>
            obtain ⟨rz0, mz0, dz0, rz2, mz2, dz2, rz3, mz3, dz3, rz4, mz4, dz4, sz, tz, qz, vz, oz, lz, uz, G, bs, q⟩ := HREL.out
            exact ⟨k + 1, rz0, mz0, dz0, rz2, mz2, dz2, rz3, mz3, dz3, rz4, mz4, dz4, sz, tz, qz, vz, oz, lz, uz, G, r, d5, bs, by go_num, rfl, by omega, q⟩
          case measure => simp [intOf]; omega
        · have hlti : ¬ (k : Int) < (m : Int) := by omega
          obtain rfl : k = m := by omega
          rw [List.drop_eq_nil_of_le (by rw [HLL.out]; exact Nat.le_refl _)] at hxz hbz
          have hxz2 : (sz, tz, qz, vz, oz, lz, uz) = XX := hxz
          have hbz2 : bs = XB := by rw [← hbz]; exact (List.append_nil bs).symm
          have HXZ := Hid.mk hxz2
          have HBZ := Hid.mk hbz2
          have HBL := Hid.mk hbl
          clear hxz hbz hxz2 hbz2 hbl
          have p0 := blk_cell bp 0 (v := .slice rz0 mz0 dz0) rfl
          have p1 := blk_cell bp 1 (v := .int .i64 tz) rfl
          have p2 := blk_cell bp 2 (v := .slice rz2 mz2 dz2) rfl
          have p3 := blk_cell bp 3 (v := .slice rz3 mz3 dz3) rfl
          have p4 := blk_cell bp 4 (v := .slice rz4 mz4 dz4) rfl
          have p5 := blk_cell bp 5 (v := .int .i64 lz) rfl
          have p6 := blk_cell bp 6 (v := .int .i64 uz) rfl
          have y0 := blk_cell b0 0 (v := .slice none 0 0) rfl
          have y1 := blk_cell b0 1 (v := .int .i64 0) rfl
          have y2 := blk_cell b0 2 (v := .slice none 0 0) rfl
          have y3 := blk_cell b0 3 (v := .slice none 0 0) rfl
          have y4 := blk_cell b0 4 (v := .slice none 0 0) rfl
          have y5 := blk_cell b0 5 (v := .int .i64 0) rfl
          have y6 := blk_cell b0 6 (v := .int .i64 0) rfl
          have fz0 := blk_frozen b0 0
          have fz1 := blk_frozen b0 1
          have fz2 := blk_frozen b0 2
          have fz3 := blk_frozen b0 3
          have fz4 := blk_frozen b0 4
          have fz5 := blk_frozen b0 5
          have fz6 := blk_frozen b0 6
          obtain ⟨Y, hY⟩ : ∃ u, u = stores wY (w.heap.size) 0 [.slice rz0 mz0 dz0, .int .i64 tz, .slice rz2 mz2 dz2, .slice rz3 mz3 dz3, .slice rz4 mz4 dz4, .int .i64 lz, .int .i64 uz] := ⟨_, rfl⟩
          have S : Off (fun b => b = w.heap.size) wY Y := by rw [hY]; exact stores_off (F := fun b => b = w.heap.size) _ _ _ _ rfl
          have zY : Y.heap.size = wY.heap.size := by rw [hY]; exact stores_size _ _ _ _
          have S1 : Off (fun b => b = w.heap.size) wY Y := by rw [hY]; exact stores_off (F := fun b => b = w.heap.size) _ _ _ _ rfl
          have R : Hid (PyRet (.returned (.tuple #[.agg #[.slice rz0 mz0 dz0, .int .i64 tz, .slice rz2 mz2 dz2, .slice rz3 mz3 dz3, .slice rz4 mz4 dz4, .int .i64 lz, .int .i64 uz], .slice rb k db, .bool true])) Y w.heap.size true XX XB ∧ Below w.heap.size w Y) := Hid.mk (by
            rw [← HXZ.out, ← HBZ.out]
            refine ⟨⟨rz0, mz0, dz0, rz2, mz2, dz2, rz3, mz3, dz3, rz4, mz4, dz4, rb, k, db, rfl, WithB.of (F1 := G) (RSink.ownOff hoz S1 (fun b h e => by have h2 : b = w.heap.size := e; have := hG b h; omega)) HBL.out (ownsRow_frame hob (fun b hb hl => S1.block b hl (fun e => by have h2 : b = w.heap.size := e; have := (hbb b hb).2.1; omega))) (fun b h => ?_) (fun b hb => ?_)⟩, BwY.trans (S1.belowOf (fun b h => by have h2 : b = w.heap.size := h; omega) (by omega))⟩
            · have := hG b h
              exact ⟨by omega, by omega⟩
            · have := hbb b hb
              exact ⟨this.1, by omega, by omega⟩)
          clear S1
          have HY := Hid.mk hY
          clear S hY zY hoz hob hbb hG bp b0 BwY
          go_wp2
          refine bodyPost_ret (v := .tuple #[.agg #[.slice rz0 mz0 dz0, .int .i64 tz, .slice rz2 mz2 dz2, .slice rz3 mz3 dz3, .slice rz4 mz4 dz4, .int .i64 lz, .int .i64 uz], .slice rb k db, .bool true]) (by simp [results, Try.results15, go_sem, y0, y1, y2, y3, y4, y5, y6]) rfl ?_
          have h := R.out
          rw [HY.out] at h
          exact h

end Go.Proofs.Ytmbjmmnodcebbaa

/- Contract of the model's NewSink. -/
namespace Go.Proofs.Ytmbjmmnodcebbaa
open Go.RowKit

set_option maxRecDepth 100000 in
set_option maxHeartbeats 4000000 in
theorem specNewSink (a : Option Addr) (n c : Nat) (zs : List Int) (w : World) (hz : zs.length = n) (hn : n ≤ 1048576) (hF : a = none → c = 0) (ha : At w a zs) :
    Calls Try.prog 36 #[.slice a n c] w fun e w' => SinkRet e w' w.heap.size (gkB (newK zs)) (if gkB (newK zs) then newK zs else newK []) ∧ Below w.heap.size w w' := by
  obtain ⟨W, hW⟩ : ∃ W, W = w.alloc (.cells #[.slice none 0 0, .int .i64 0, .slice none 0 0, .slice none 0 0, .slice none 0 0, .int .i64 0, .int .i64 0] 29) := ⟨_, rfl⟩
  have B0 : Below w.heap.size w W := by rw [hW]; exact (Below.refl _ _).alloc (Nat.le_refl _) _
  have b0 : W.heap[w.heap.size]? = some (.cells #[.slice none 0 0, .int .i64 0, .slice none 0 0, .slice none 0 0, .slice none 0 0, .int .i64 0, .int .i64 0] 29 (0, 0)) := by rw [hW]; exact heap_alloc_new w _
  have zW : w.heap.size < W.heap.size := by rw [hW]; simp
  obtain ⟨i0, hi, hz0, hz1, hz2⟩ := info_parts Try.infoInt
  have hgk := gk_new zs
  by_cases h30 : n ≤ 30
  rotate_left
  · have hgt : (30 : Int) < (n : Int) := by omega
    have hX : (if gkB (newK zs) then newK zs else newK []) = newK [] := by rw [hgk, decide_eq_false (by omega)]; rfl
    have hP : gkB (newK zs) = false := by rw [hgk, decide_eq_false (by omega)]
    rw [hX, hP]
    clear hX hP hgk ha hz hF h30
    go_enter Try.func36, Try.ntmps36
    go_upto_region 1 with fail
    rw [← hW]
    clear hW
    have y0 := blk_cell b0 0 (v := .slice none 0 0) rfl
    have f0 := blk_frozen b0 0
    have y1 := blk_cell b0 1 (v := .int .i64 0) rfl
    have f1 := blk_frozen b0 1
    have y2 := blk_cell b0 2 (v := .slice none 0 0) rfl
    have f2 := blk_frozen b0 2
    have y3 := blk_cell b0 3 (v := .slice none 0 0) rfl
    have f3 := blk_frozen b0 3
    have y4 := blk_cell b0 4 (v := .slice none 0 0) rfl
    have f4 := blk_frozen b0 4
    have y5 := blk_cell b0 5 (v := .int .i64 0) rfl
    have f5 := blk_frozen b0 5
    have y6 := blk_cell b0 6 (v := .int .i64 0) rfl
    have f6 := blk_frozen b0 6
    go_wp2
    refine bodyPost_ret (v := .tuple #[.agg #[.slice none 0 0, .int .i64 0, .slice none 0 0, .slice none 0 0, .slice none 0 0, .int .i64 0, .int .i64 0], .bool false]) (by simp [results, Try.results36, go_sem, y0, y1, y2, y3, y4, y5, y6]) rfl ⟨⟨none, 0, 0, none, 0, 0, none, 0, 0, none, 0, 0, rfl, RSink.void _ _⟩, ?_⟩
    exact ((((((B0.setCell (Nat.le_refl _) _).setCell (Nat.le_refl _) _).setCell (Nat.le_refl _) _).setCell (Nat.le_refl _) _).setCell (Nat.le_refl _) _).setCell (Nat.le_refl _) _).setCell (Nat.le_refl _) _
  have hgt : ¬ (30 : Int) < (n : Int) := by omega
  have hX : (if gkB (newK zs) then newK zs else newK []) = newK zs := by rw [hgk, decide_eq_true (by omega)]; rfl
  have hP : gkB (newK zs) = true := by rw [hgk, decide_eq_true (by omega)]
  rw [hX, hP]
  have OE := Hid.mk (own_void W 3 1)
  have HA := Hid.mk ((At.below ha B0).alloc (.cells #[] 3))
  have HZ := Hid.mk hz
  clear hX hP hgk ha hz
  go_enter Try.func36, Try.ntmps36
  go_upto_region 1 with fail
  rw [← hW]
  clear hW
  go_wp2_with (at_builtin; refine wpList_append_all rfl (.tmp 8) (.tmp 9) 22 rfl W.heap.size 3 i0 (.int .i64 0) 8 Try.underlying22 hi hz0 hz1 hz2 rfl (.slice (some ⟨W.heap.size, 0, none⟩) 0 0) 0 [] rfl OE.out a n c zs rfl HZ.out HA.out hF (by unfold maxLen; omega) (by omega) (by simp) ?_)
  intro r d w2 ho1 hg1
  have HB : Hid (Below W.heap.size W w2) := ((Below.refl _ _).alloc (Nat.le_refl _) _).grown hg1 (by simp) (fun j hj => by simp [Value.ownBlock] at hj; omega)
  have HO : Hid (w2.ownsRow W.heap.size 3 1 (.slice r n d) n (zs.map (.int .i64))) := Hid.mk (by simpa using ho1)
  have R0 := Hid.mk (RInts.made HZ.out (by omega) HO.out)
  have b0 := blk_below b0 HB.out
  have z2 := HB.out.size
  have B2 := Hid.mk (B0.trans (HB.out.mono B0.size))
  (try simp only [Nat.zero_add])
  clear ho1 hg1 HO OE HA
  have y0 := blk_cell b0 0 (v := .slice none 0 0) rfl
  have f0 := blk_frozen b0 0
  have y1 := blk_cell b0 1 (v := .int .i64 0) rfl
  have f1 := blk_frozen b0 1
  have y2 := blk_cell b0 2 (v := .slice none 0 0) rfl
  have f2 := blk_frozen b0 2
  have y3 := blk_cell b0 3 (v := .slice none 0 0) rfl
  have f3 := blk_frozen b0 3
  have y4 := blk_cell b0 4 (v := .slice none 0 0) rfl
  have f4 := blk_frozen b0 4
  have y5 := blk_cell b0 5 (v := .int .i64 0) rfl
  have f5 := blk_frozen b0 5
  have y6 := blk_cell b0 6 (v := .int .i64 0) rfl
  have f6 := blk_frozen b0 6
  obtain ⟨Y, hY⟩ : ∃ u, u = stores w2 w.heap.size 0 [.slice r n d, .int .i64 0, .slice none 0 0, .slice none 0 0, .slice none 0 0, .int .i64 0, .int .i64 0] := ⟨_, rfl⟩
  have D : Below w.heap.size w Y := by rw [hY]; exact stores_below _ _ _ _ B2.out (Nat.le_refl _)
  have S : Off (fun b => b = w.heap.size) w2 Y := by rw [hY]; exact stores_off (F := fun b => b = w.heap.size) _ _ _ _ rfl
  have zY : Y.heap.size = w2.heap.size := by rw [hY]; exact stores_size _ _ _ _
  have R : Hid (RSink.Own Y (From w.heap.size Y.heap.size) [.slice r n d, .int .i64 0, .slice none 0 0, .slice none 0 0, .slice none 0 0, .int .i64 0, .int .i64 0] (newK zs)) := Hid.mk (RSink.fresh (RInts.mono (RInts.ownOff R0.out S (fun b h k => by have h1 := h.1; have h2 : b = w.heap.size := k; omega)) (fun b h => ⟨by have := h.1; omega, by have := h.2; omega⟩)))
  have HY := Hid.mk hY
  have HD := Hid.mk D
  clear S D hY zY
  go_wp2
  refine bodyPost_ret (v := .tuple #[.agg #[.slice r n d, .int .i64 0, .slice none 0 0, .slice none 0 0, .slice none 0 0, .int .i64 0, .int .i64 0], .bool true]) (by simp [results, Try.results36, go_sem, y0, y1, y2, y3, y4, y5, y6]) rfl ⟨⟨r, n, d, none, 0, 0, none, 0, 0, none, 0, 0, rfl, ?_⟩, ?_⟩
  · have h := R.out
    rw [HY.out] at h
    exact h
  · have h := HD.out
    rw [HY.out] at h
    exact h

end Go.Proofs.Ytmbjmmnodcebbaa

/- A thing that a call has made is appended to a list that lies in memory. -/
namespace Go.Proofs.Ytmbjmmnodcebbaa
open Go.RowKit

section
variable {α : Type} {A : Rep α} {w wr w2 w5 : World} {lo : Nat} {e : TypeId} {a a' : Option Addr} {n c c' : Nat} {xs : List α} {cells vs : List Value} {G : Nat → Nat → Prop} {x : α} {o : Obj}
theorem Laid.told (h : Laid A wr (From lo wr.heap.size) e a n c xs cells G n) (hlo : lo ≤ wr.heap.size) (hb : Below wr.heap.size wr w2) (ho : A.Own w2 (From wr.heap.size w2.heap.size) vs x)
    (ho4 : w5.ownsRow lo e A.k (.slice a' (n + 1) c') (n + 1) (cells ++ vs)) (hg4 : (w2.alloc o).grownBy w5 (Value.slice a n c).ownBlock) (hbig : n + 1 ≤ 9223372036854775807)
    (ht4 : (Value.slice a' (n + 1) c').ownBlock = (Value.slice a n c).ownBlock ∨ (Value.slice a' (n + 1) c').ownBlock = some (w2.heap.size + 1)) :
    ∃ G', Laid A w5 (From lo w5.heap.size) e a' (n + 1) c' (xs ++ [x]) (cells ++ vs) G' (n + 1) := by
  have z2 := hb.size
  have z5 : w2.heap.size < w5.heap.size := by have h9 := hg4.size; simp at h9; omega
  have BG : ∀ b, b < w2.heap.size → (Value.slice a n c).ownBlock ≠ some b → w5.heap[b]? = w2.heap[b]? := fun b hb hn => (hg4.block b (by simp; omega) (fun e => hn e.symm)).trans (Below.heap_alloc w2 _ b hb)
  exact ⟨_, h.push (fun b h => h.2) hb ho (fun b h => h) BG (owns_mono ho4 (Nat.zero_le _)) (by
      rcases ht4 with h9 | h9
      · exact .inl h9
      · refine .inr (fun b e => ?_)
        rw [h9] at e
        simp at e
        omega) hbig (fun b h => ⟨h.1, by have := h.2; omega⟩) (fun b h => ⟨by have := h.1; omega, by have := h.2; omega⟩) (fun b hb => ho4.lt b hb)⟩
theorem Laid.told_below (h : Laid A wr (From lo wr.heap.size) e a n c xs cells G n) (hw : Below lo w wr) (hlo : lo ≤ wr.heap.size) (hb : Below wr.heap.size wr w2) (hg4 : (w2.alloc o).grownBy w5 (Value.slice a n c).ownBlock) : Below lo w w5 :=
  ((hw.trans (hb.mono hlo)).alloc (by have := hb.size; omega) _).grown hg4 (by have := hb.size; simp; omega) (fun j hj => (h.outerF j hj).1)
theorem Laid.base (h : Laid A wr (From lo wr.heap.size) e a n c xs cells G n) (hb : Below wr.heap.size wr w2) : w2.ownsRow lo e A.k (.slice a n c) n cells :=
  owns_below (owns_base h.outer (fun b hb => (h.outerF b hb).1)) hb
end

end Go.Proofs.Ytmbjmmnodcebbaa
