/- Contract of the model's PlaySink. -/
import Derived.Test.YtmbjmmnodcebbaaM15
import Derived.Test.YtmbjmmnodcebbaaM20
import Derived.Test.YtmbjmmnodcebbaaM23
namespace Go.Proofs.Ytmbjmmnodcebbaa
open Go.RowKit

set_option maxRecDepth 100000 in
set_option maxHeartbeats 20000000 in
theorem specPlaySink (a : Option Addr) (n c : Nat) (b : Option Addr) (m d : Nat) (zs ls : List Int) (w : World) (hz : zs.length = n) (hn : n ≤ 1048576) (hF : a = none → c = 0) (ha : At w a zs) (hl : ls.length = m) (hm : m ≤ 1048576) (hb : At w b ls) :
    Calls Try.prog 13 #[.slice a n c, .slice b m d] w fun e w' => PyRet e w' w.heap.size (pyOk zs ls) (pyX zs ls) (pyB zs ls) ∧ Below w.heap.size w w' := by
  obtain ⟨i0, hi0, hx0, hx1, hx2⟩ := info_parts Try.infoBool
  obtain ⟨W, hW⟩ : ∃ W, W = w.alloc (.cells #[.slice none 0 0, .int .i64 0, .slice none 0 0, .slice none 0 0, .slice none 0 0, .int .i64 0, .int .i64 0] 29) := ⟨_, rfl⟩
  have B0 : Below w.heap.size w W := by rw [hW]; exact (Below.refl _ _).alloc (Nat.le_refl _) _
  have b0 : W.heap[w.heap.size]? = some (.cells #[.slice none 0 0, .int .i64 0, .slice none 0 0, .slice none 0 0, .slice none 0 0, .int .i64 0, .int .i64 0] 29 (0, 0)) := by rw [hW]; exact heap_alloc_new w _
  have zW : W.heap.size = w.heap.size + 1 := by rw [hW]; simp
  obtain ⟨PB, hPB⟩ : ∃ x, gkB (newK zs) = x := ⟨_, rfl⟩
  obtain ⟨PO, hPO⟩ : ∃ x, pyOk zs ls = x := ⟨_, rfl⟩
  obtain ⟨XX, hXX⟩ : ∃ x, pyX zs ls = x := ⟨_, rfl⟩
  obtain ⟨XB, hXB⟩ : ∃ x, pyB zs ls = x := ⟨_, rfl⟩
  obtain ⟨⟨src, t, pd, ps, ou, la, up⟩, hza⟩ : ∃ x, (if PB then newK zs else newK []) = x := ⟨_, rfl⟩
  have KN := Hid.mk (specNewSink a n c zs W hz hn hF (At.below ha B0))
  rw [hPB, hza] at KN
  rw [hPO, hXX, hXB]
  have HPB := Hid.mk hPB
  have HPO := Hid.mk hPO
  have HXX := Hid.mk hXX
  have HXB := Hid.mk hXB
  have HZA := Hid.mk hza
  have HL := Hid.mk hb
  have HLL := Hid.mk hl
  clear hPB hPO hXX hXB hza hb hl ha
  go_enter Try.func13, Try.ntmps13
  go_upto_region 1 with fail
  rw [← hW]
  clear hW
  go_wp2_with fail
  refine KN.out.mono ?_
  rintro e w1 ⟨⟨ra0, ma0, da0, ra2, ma2, da2, ra3, ma3, da3, ra4, ma4, da4, rfl, hoa⟩, hb1⟩
  (try simp only at hoa)
  have b0 := blk_below b0 hb1
  have z1 := hb1.size
  have B1 := B0.trans (hb1.mono B0.size)
  obtain ⟨P, hP⟩ : ∃ P, w1.heap.size = P := ⟨_, rfl⟩
  obtain ⟨Xa, hX⟩ : ∃ u, u = w1.alloc (.cells #[.slice ra0 ma0 da0, .int .i64 t, .slice ra2 ma2 da2, .slice ra3 ma3 da3, .slice ra4 ma4 da4, .int .i64 la, .int .i64 up] 29) := ⟨_, rfl⟩
  have bX : Below w1.heap.size w1 Xa := by rw [hX]; exact (Below.refl _ _).alloc (Nat.le_refl _) _
  have x0 : Xa.heap[w1.heap.size]? = some (.cells #[.slice ra0 ma0 da0, .int .i64 t, .slice ra2 ma2 da2, .slice ra3 ma3 da3, .slice ra4 ma4 da4, .int .i64 la, .int .i64 up] 29 (0, 0)) := by rw [hX]; exact heap_alloc_new w1 _
  have b0 := blk_below b0 bX
  have zXa := bX.size
  have zXal : w1.heap.size < Xa.heap.size := by rw [hX]; simp
  have BXa : Below w.heap.size w Xa := B1.trans (bX.mono B1.size)
  rw [hP] at x0
  have bp := x0
  have zXaP : P < Xa.heap.size := by omega
  have hPN : w.heap.size + 1 ≤ P := by omega
  obtain ⟨FFa, hFFa, hoa⟩ : ∃ FF : Nat → Prop, (∀ b, FF b → w.heap.size + 1 ≤ b ∧ b < Xa.heap.size ∧ b ≠ P) ∧ RSink.Own Xa FF [.slice ra0 ma0 da0, .int .i64 t, .slice ra2 ma2 da2, .slice ra3 ma3 da3, .slice ra4 ma4 da4, .int .i64 la, .int .i64 up] (src, t, pd, ps, ou, la, up) :=
    ⟨_, fun b h => ⟨by have := h.1; omega, by have := h.2; omega, by have := h.2; omega⟩, RSink.ownBelow hoa bX⟩
  clear KN hb1 x0 bX
  go_upto_region 2 with fail
  (try simp only)
  rw [← hX]
  clear hX
  (try rw [hP])
  clear hP
  cases PB with
  | false =>
    obtain rfl : false = PO := by rw [← HPO.out]; unfold pyOk; rw [HPB.out]; rfl
    obtain rfl : newK [] = XX := by rw [← HXX.out]; unfold pyX; rw [HPO.out]; rfl
    obtain rfl : [] = XB := by rw [← HXB.out]; unfold pyB; rw [HPO.out]; rfl
    have y0 := blk_cell b0 0 (v := .slice none 0 0) rfl
    have y1 := blk_cell b0 1 (v := .int .i64 0) rfl
    have y2 := blk_cell b0 2 (v := .slice none 0 0) rfl
    have y3 := blk_cell b0 3 (v := .slice none 0 0) rfl
    have y4 := blk_cell b0 4 (v := .slice none 0 0) rfl
    have y5 := blk_cell b0 5 (v := .int .i64 0) rfl
    have y6 := blk_cell b0 6 (v := .int .i64 0) rfl
    have fz0 := blk_frozen b0 0
    have fz1 := blk_frozen b0 1
    have fz2 := blk_frozen b0 2
    have fz3 := blk_frozen b0 3
    have fz4 := blk_frozen b0 4
    have fz5 := blk_frozen b0 5
    have fz6 := blk_frozen b0 6
    go_wp2
    refine bodyPost_ret (v := .tuple #[.agg #[.slice none 0 0, .int .i64 0, .slice none 0 0, .slice none 0 0, .slice none 0 0, .int .i64 0, .int .i64 0], .slice none 0 0, .bool false]) (by simp [results, Try.results13, go_sem, y0, y1, y2, y3, y4, y5, y6]) rfl ⟨⟨none, 0, 0, none, 0, 0, none, 0, 0, none, 0, 0, none, 0, 0, rfl, WithB.void (RSink.void _ _)⟩, ?_⟩
    exact ((((((BXa.setCell (Nat.le_refl _) _).setCell (Nat.le_refl _) _).setCell (Nat.le_refl _) _).setCell (Nat.le_refl _) _).setCell (Nat.le_refl _) _).setCell (Nat.le_refl _) _).setCell (Nat.le_refl _) _
  | true =>
    have hna : newK zs = (src, t, pd, ps, ou, la, up) := HZA.out
    by_cases h120 : 120 < m
    · have h120i : (120 : Int) < (m : Int) := by omega
      obtain rfl : false = PO := by rw [← HPO.out]; unfold pyOk; rw [HPB.out]; exact (decide_eq_false (by rw [HLL.out]; omega)).symm
      obtain rfl : newK [] = XX := by rw [← HXX.out]; unfold pyX; rw [HPO.out]; rfl
      obtain rfl : [] = XB := by rw [← HXB.out]; unfold pyB; rw [HPO.out]; rfl
      have y0 := blk_cell b0 0 (v := .slice none 0 0) rfl
      have y1 := blk_cell b0 1 (v := .int .i64 0) rfl
      have y2 := blk_cell b0 2 (v := .slice none 0 0) rfl
      have y3 := blk_cell b0 3 (v := .slice none 0 0) rfl
      have y4 := blk_cell b0 4 (v := .slice none 0 0) rfl
      have y5 := blk_cell b0 5 (v := .int .i64 0) rfl
      have y6 := blk_cell b0 6 (v := .int .i64 0) rfl
      have fz0 := blk_frozen b0 0
      have fz1 := blk_frozen b0 1
      have fz2 := blk_frozen b0 2
      have fz3 := blk_frozen b0 3
      have fz4 := blk_frozen b0 4
      have fz5 := blk_frozen b0 5
      have fz6 := blk_frozen b0 6
      go_wp2
      refine bodyPost_ret (v := .tuple #[.agg #[.slice none 0 0, .int .i64 0, .slice none 0 0, .slice none 0 0, .slice none 0 0, .int .i64 0, .int .i64 0], .slice none 0 0, .bool false]) (by simp [results, Try.results13, go_sem, y0, y1, y2, y3, y4, y5, y6]) rfl ⟨⟨none, 0, 0, none, 0, 0, none, 0, 0, none, 0, 0, none, 0, 0, rfl, WithB.void (RSink.void _ _)⟩, ?_⟩
      exact ((((((BXa.setCell (Nat.le_refl _) _).setCell (Nat.le_refl _) _).setCell (Nat.le_refl _) _).setCell (Nat.le_refl _) _).setCell (Nat.le_refl _) _).setCell (Nat.le_refl _) _).setCell (Nat.le_refl _) _
    · have h120i : ¬ (120 : Int) < (m : Int) := by omega
      have hm2 : m ≤ 120 := by omega
      have hjs := JS_new HPB.out
      rw [hna] at hjs
      have hPOK : pyOk zs ls = true := by unfold pyOk; rw [HPB.out, Bool.true_and, decide_eq_true_eq, HLL.out]; exact hm2
      obtain rfl : true = PO := by rw [← HPO.out]; exact hPOK.symm
      have hxx : plS (src, t, pd, ps, ou, la, up) ls = XX := by rw [← HXX.out, ← hna]; unfold pyX; rw [hPOK]; rfl
      have hxb : plB (src, t, pd, ps, ou, la, up) ls = XB := by rw [← HXB.out, ← hna]; unfold pyB; rw [hPOK]; rfl
      have HJS := Hid.mk hjs
      have HXX1 := Hid.mk hxx
      have HXB1 := Hid.mk hxb
      have HOA := Hid.mk (AtF.of hoa)
      have HFFA := Hid.mk hFFa
      have HB0 := Hid.mk b0
      have HBP := Hid.mk bp
      have HBX := Hid.mk BXa
      have HZX : Hid (P < Xa.heap.size) := Hid.mk zXaP
      clear hna hjs hPOK hxx hxb hoa hFFa b0 bp h120 HXX HXB HPO HZA
      go_wp2_with fail
      go_loopw [9, 29] (fun al i wr => ∃ (k : Nat) (rz0 : Option Addr) (mz0 dz0 : Nat) (rz2 : Option Addr) (mz2 dz2 : Nat) (rz3 : Option Addr) (mz3 dz3 : Nat) (rz4 : Option Addr) (mz4 dz4 : Nat) (sz : List Int) (tz : Int) (qz : List Int) (vz : List TPrepared) (oz : List Int) (lz uz : Int) (G : Nat → Prop) (rb : Option Addr) (db : Nat) (bs : List Bool), i = .int .i64 k ∧ al = .slice rb k db ∧ k ≤ m ∧ wr.heap[P]? = some (.cells #[.slice rz0 mz0 dz0, .int .i64 tz, .slice rz2 mz2 dz2, .slice rz3 mz3 dz3, .slice rz4 mz4 dz4, .int .i64 lz, .int .i64 uz] 29 (0, 0)) ∧ wr.heap[w.heap.size]? = some (.cells #[.slice none 0 0, .int .i64 0, .slice none 0 0, .slice none 0 0, .slice none 0 0, .int .i64 0, .int .i64 0] 29 (0, 0)) ∧ AtF wr G [.slice rz0 mz0 dz0, .int .i64 tz, .slice rz2 mz2 dz2, .slice rz3 mz3 dz3, .slice rz4 mz4 dz4, .int .i64 lz, .int .i64 uz] (sz, tz, qz, vz, oz, lz, uz) ∧ JS (sz, tz, qz, vz, oz, lz, uz) ∧ plS (sz, tz, qz, vz, oz, lz, uz) (ls.drop k) = XX ∧ bs ++ plB (sz, tz, qz, vz, oz, lz, uz) (ls.drop k) = XB ∧ wr.ownsRow 0 4 1 (.slice rb k db) k (bs.map .bool) ∧ (∀ b, (Value.slice rb k db).ownBlock = some b → ¬ G b ∧ w.heap.size + 1 ≤ b ∧ b < wr.heap.size ∧ b ≠ P) ∧ (∀ b, G b → w.heap.size + 1 ≤ b ∧ b < wr.heap.size ∧ b ≠ P) ∧ Below w.heap.size w wr ∧ P < wr.heap.size) (fun _ i _ => m - (intOf i).toNat)
      case atStart => exact ⟨0, ra0, ma0, da0, ra2, ma2, da2, ra3, ma3, da3, ra4, ma4, da4, src, t, pd, ps, ou, la, up, FFa, none, 0, [], rfl, rfl, Nat.zero_le _, HBP.out, HB0.out, HOA.out, HJS.out, HXX1.out, HXB1.out, World.ownsRow_nil _ _ _ _, fun b h => (by cases h), HFFA.out, HBX.out, HZX.out⟩
      case round =>
        clear HBP HB0 HOA HJS HXX1 HXB1 HFFA HBX HZX
        obtain ⟨k, rz0, mz0, dz0, rz2, mz2, dz2, rz3, mz3, dz3, rz4, mz4, dz4, sz, tz, qz, vz, oz, lz, uz, G, rb, db, bs, rfl, rfl, hk, bp, b0, hoz, hjz, hxz, hbz, hob, hbb, hG, BwY, zwY⟩ := hrel
        obtain ⟨wY, rfl⟩ : ∃ x, x = wr := ⟨_, rfl⟩
        have hbl : bs.length = k := by have := hob.1; simpa using this
        by_cases hlt : k < m
        · have hlti : (k : Int) < (m : Int) := by omega
          obtain ⟨x, hx⟩ : ∃ x, ls[k]? = some x := ⟨_, List.getElem?_eq_getElem (by rw [HLL.out]; exact hlt)⟩
          obtain ⟨lb, loff, rfl, hlb, hlc⟩ := HL.out.some (by rw [HLL.out]; omega)
          have hcx : wY.cell? ⟨lb, loff + k, none⟩ = some (.int .i64 x) := by
            have q := hlc k (by rw [HLL.out]; exact hlt)
            rw [show ls.getD k 0 = x by simp [List.getD, hx]] at q
            exact (BwY.cell hlb).trans q
          obtain ⟨⟨sy, ty, qy, vy, oy, ly, uy⟩, hy⟩ : ∃ y, (stK (sz, tz, qz, vz, oz, lz, uz) x).1 = y := ⟨_, rfl⟩
          obtain ⟨OK, hok⟩ : ∃ y, (stK (sz, tz, qz, vz, oz, lz, uz) x).2 = y := ⟨_, rfl⟩
          have hp := pl_at hx (sz, tz, qz, vz, oz, lz, uz)
          rw [hp.1, hy] at hxz
          rw [hp.2, hy, hok] at hbz
          have hjy := JS_step (sz, tz, qz, vz, oz, lz, uz) x hjz
          rw [hy] at hjy
          have hw1 : IntKind.i64.wrap ((k : Int) + 1) = ((k + 1 : Nat) : Int) := by rw [IntWalk.i64_in _ (by omega)]; omega
          have q4 := RSink.at_iff hoz.toAt
          have hSM := DP_SM (JS_DP hjz)
          have h1 : mz0 ≤ 1048576 := by have := hSM.1; have := q4.1.1; simp only at *; omega
          have h2 : mz2 ≤ 1048576 := by have := hSM.2.1; have := q4.2.1.1; simp only at *; omega
          have h3 : mz3 ≤ 1048576 := by have := hSM.2.2.1; have := q4.2.2.1.1; simp only at *; omega
          have h4 : mz4 ≤ 1048576 := by have := hSM.2.2.2.1; have := q4.2.2.2.1; simp only at *; omega
          have KO := Hid.mk (l16Own_any rz0 mz0 dz0 rz2 mz2 dz2 rz3 mz3 dz3 rz4 mz4 dz4 tz lz uz sz qz vz oz wY q4.1.1 q4.2.1.1 q4.2.2.1.1 q4.2.2.2.1 h1 h2 h3 h4 q4.1.2.2.2 q4.2.1.2.2.2 q4.2.2.1.2.2.2 q4.2.2.2.2.2.2 (SM_cost hSM) q4.1.2.2.1 q4.2.1.2.2.1 q4.2.2.1.2.2.1 q4.2.2.2.2.2.1)
          have HDZ := Hid.mk (JS_DP hjz)
          have HXZ := Hid.mk hxz
          have HBZ := Hid.mk hbz
          have HJY := Hid.mk hjy
          have HOB := Hid.mk hob
          have HBB := Hid.mk hbb
          have HGG := Hid.mk hG
          have HOZ := Hid.mk hoz
          have HYY := Hid.mk hy
          have HOK := Hid.mk hok
          clear hxz hbz hjy hjz hob hbb hy hok hp hoz hbl hx hlc hlb q4 hSM h1 h2 h3 h4 hG
          have p0 := blk_cell bp 0 (v := .slice rz0 mz0 dz0) rfl
          have p1 := blk_cell bp 1 (v := .int .i64 tz) rfl
          have p2 := blk_cell bp 2 (v := .slice rz2 mz2 dz2) rfl
          have p3 := blk_cell bp 3 (v := .slice rz3 mz3 dz3) rfl
          have p4 := blk_cell bp 4 (v := .slice rz4 mz4 dz4) rfl
          have p5 := blk_cell bp 5 (v := .int .i64 lz) rfl
          have p6 := blk_cell bp 6 (v := .int .i64 uz) rfl
          go_wp2_with fail
          refine KO.out.mono ?_
          rintro e wo ⟨rg0, mg0, dg0, rg2, mg2, dg2, rg3, mg3, dg3, rg4, mg4, dg4, rfl, hoo, hbo⟩
          (try simp only at hoo)
          have b0 := blk_below b0 hbo
          have bp := blk_below bp hbo
          have zwo := hbo.size
          have Bwo := BwY.trans (hbo.mono BwY.size)
          have KS := Hid.mk (l16StepF_any (From wY.heap.size wo.heap.size) rg0 mg0 dg0 rg2 mg2 dg2 rg3 mg3 dg3 rg4 mg4 dg4 tz lz uz x sz qz vz oz wo (fun b h => h.2) HDZ.out hoo)
          rw [HOK.out, HYY.out] at KS
          have HOB := Hid.mk (owns_below HOB.out hbo)
          clear KO hoo p0 p1 p2 p3 p4 p5 p6 hcx
          go_wp2_with fail
          refine KS.out.mono ?_
          rintro e wy ⟨ry0, my0, dy0, ry2, my2, dy2, ry3, my3, dy3, ry4, my4, dy4, rfl, hoy, hO⟩
          (try simp only at hoy)
          have zwy := hO.size
          have b0 := (hO.block w.heap.size (by omega) (fun h => by have := h.1; omega)).trans b0
          have bp := (hO.block P (by omega) (fun h => by have := h.1; omega)).trans bp
          have Bwy : Below w.heap.size w wy := Bwo.trans (hO.belowOf (fun b h => by have := h.1; omega) (by omega))
          have BYy : Below wY.heap.size wY wy := hbo.trans (hO.belowOf (fun b h => by have := h.1; omega) (by omega))
          have HOB := Hid.mk (ownsRow_frame HOB.out (fun b hb hl => hO.block b hl (fun e => by have := (HBB.out b hb).2.2.1; have := e.1; omega)))
          clear KS hO hbo
          obtain ⟨Xx, hX⟩ : ∃ u, u = wy.alloc (.cells #[.slice ry0 my0 dy0, .int .i64 ty, .slice ry2 my2 dy2, .slice ry3 my3 dy3, .slice ry4 my4 dy4, .int .i64 ly, .int .i64 uy] 29) := ⟨_, rfl⟩
          have bX : Below wy.heap.size wy Xx := by rw [hX]; exact (Below.refl _ _).alloc (Nat.le_refl _) _
          have x0 : Xx.heap[wy.heap.size]? = some (.cells #[.slice ry0 my0 dy0, .int .i64 ty, .slice ry2 my2 dy2, .slice ry3 my3 dy3, .slice ry4 my4 dy4, .int .i64 ly, .int .i64 uy] 29 (0, 0)) := by rw [hX]; exact heap_alloc_new wy _
          have b0 := blk_below b0 bX
          have bp := blk_below bp bX
          have zXx := bX.size
          have zXxl : wy.heap.size < Xx.heap.size := by rw [hX]; simp
          have BXx : Below w.heap.size w Xx := Bwy.trans (bX.mono Bwy.size)
          have HOB := Hid.mk (owns_below HOB.out bX)
          have HOY := Hid.mk (AtF.frame hoy (fun b h hl => bX.block b hl) bX.size)
          have BYX : Below wY.heap.size wY Xx := BYy.trans (bX.mono BYy.size)
          clear hoy BYy
          go_upto_region 9 with fail
          (try simp only)
          rw [← hX]
          clear hX
          cases OK with
          | false =>
            have he := stK_no HOK.out
            rw [HYY.out] at he
            simp only [Prod.mk.injEq] at he
            obtain ⟨rfl, rfl, rfl, rfl, rfl, rfl, rfl⟩ := he
            have HBYX := Hid.mk BYX
            clear x0 bX BYX HOK HYY
            go_wp2_with (at_builtin; refine wpList_app_vals rfl (.tmp 42) (.tmp 44) 36 rfl 0 4 i0 (.bool false) 1 1 Try.underlying36 hi0 hx0 hx1 hx2 rfl (by decide) (.slice rb k db) k (bs.map .bool) rfl (owns_below HOB.out ((Below.refl _ _).alloc (Nat.le_refl _) _)) (some ⟨Xx.heap.size, 0, none⟩) 1 1 [.bool false] rfl rfl (fun ad he => by cases he; intro j u hu; match j, hu with | 0, hu => (obtain rfl := Option.some.inj hu; exact blk_cell (heap_alloc_new Xx _) 0 rfl)) (by intro u hu; simp at hu; rw [hu]; rfl) (fun h => by cases h) (by unfold maxLen; omega) (by omega) (Nat.zero_le _) ?_)
            intro r d5 w5 ho5 hg5 ht5
            have zX4 : (Xx.alloc (.cells #[.bool false] 4)).heap.size = Xx.heap.size + 1 := by simp
            (try rw [zX4] at ht5)
            have hO5 : Off (fun q => (Value.slice rb k db).ownBlock = some q) Xx w5 := (Off.below ((Below.refl _ _).alloc (Nat.le_refl _) _)).trans (Off.grown hg5 (fun q hq => hq))
            have z5 := hO5.size
            have z5b : Xx.heap.size + 1 ≤ w5.heap.size := by have q := hg5.size; (try rw [zX4] at q); (try simp only [World.size_alloc] at q); omega
            have bp5 := (hO5.block P (by omega) (fun e => (HBB.out P e).2.2.2 rfl)).trans bp
            have b05 := (hO5.block w.heap.size (by omega) (fun e => by have := (HBB.out _ e).2.1; omega)).trans b0
            have B5 : Below w.heap.size w w5 := BXx.trans (hO5.belowOf (fun b h => by have := (HBB.out b h).2.1; omega) (by omega))
            have ho6 : w5.ownsRow 0 4 1 (.slice r (k + 1) d5) (k + 1) ((bs ++ [false]).map .bool) := by rw [List.map_append]; exact ho5
            have hoS : AtF w5 G [.slice rz0 mz0 dz0, .int .i64 ty, .slice rz2 mz2 dz2, .slice rz3 mz3 dz3, .slice rz4 mz4 dz4, .int .i64 ly, .int .i64 uy] (sy, ty, qy, vy, oy, ly, uy) := HOZ.out.frame (fun b h hl => (hO5.block b (by have := HBYX.out.size; omega) (fun e => (HBB.out b e).1 h)).trans (HBYX.out.block b hl)) (by have := HBYX.out.size; omega)
            have HREL : Hid (∃ (rz0 : Option Addr) (mz0 dz0 : Nat) (rz2 : Option Addr) (mz2 dz2 : Nat) (rz3 : Option Addr) (mz3 dz3 : Nat) (rz4 : Option Addr) (mz4 dz4 : Nat) (sz : List Int) (tz : Int) (qz : List Int) (vz : List TPrepared) (oz : List Int) (lz uz : Int) (G : Nat → Prop) (bs : List Bool), w5.heap[P]? = some (.cells #[.slice rz0 mz0 dz0, .int .i64 tz, .slice rz2 mz2 dz2, .slice rz3 mz3 dz3, .slice rz4 mz4 dz4, .int .i64 lz, .int .i64 uz] 29 (0, 0)) ∧ w5.heap[w.heap.size]? = some (.cells #[.slice none 0 0, .int .i64 0, .slice none 0 0, .slice none 0 0, .slice none 0 0, .int .i64 0, .int .i64 0] 29 (0, 0)) ∧ AtF w5 G [.slice rz0 mz0 dz0, .int .i64 tz, .slice rz2 mz2 dz2, .slice rz3 mz3 dz3, .slice rz4 mz4 dz4, .int .i64 lz, .int .i64 uz] (sz, tz, qz, vz, oz, lz, uz) ∧ JS (sz, tz, qz, vz, oz, lz, uz) ∧ plS (sz, tz, qz, vz, oz, lz, uz) (ls.drop (k + 1)) = XX ∧ bs ++ plB (sz, tz, qz, vz, oz, lz, uz) (ls.drop (k + 1)) = XB ∧ w5.ownsRow 0 4 1 (.slice r (k + 1) d5) (k + 1) (bs.map .bool) ∧ (∀ b, (Value.slice r (k + 1) d5).ownBlock = some b → ¬ G b ∧ w.heap.size + 1 ≤ b ∧ b < w5.heap.size ∧ b ≠ P) ∧ (∀ b, G b → w.heap.size + 1 ≤ b ∧ b < w5.heap.size ∧ b ≠ P) ∧ Below w.heap.size w w5 ∧ P < w5.heap.size) := Hid.mk ⟨rz0, mz0, dz0, rz2, mz2, dz2, rz3, mz3, dz3, rz4, mz4, dz4, sy, ty, qy, vy, oy, ly, uy, G, bs ++ [false], bp5, b05, hoS, HJY.out, HXZ.out, by rw [List.append_assoc]; exact HBZ.out, ho6, fun b hb => (by
                have hlt5 := (ho6.lt b hb).2
                rcases ht5 with q | q
                · rw [q] at hb
                  have h9 := HBB.out b hb
                  exact ⟨h9.1, by omega, hlt5, h9.2.2.2⟩
                · rw [q] at hb
                  have h2 := Option.some.inj hb
                  exact ⟨fun h => (by have := HGG.out _ h; omega), by omega, hlt5, by omega⟩), fun b h => (by have := HGG.out _ h; omega), B5, by omega⟩
            clear hoS ho6 ho5 hg5 ht5 hO5 bp5 b05 bp b0 HOB HXZ HBZ HJY HBB HGG HOZ HOY
            go_wp2
            go_roundw
            case rel =>
              obtain ⟨rz0, mz0, dz0, rz2, mz2, dz2, rz3, mz3, dz3, rz4, mz4, dz4, sz, tz, qz, vz, oz, lz, uz, G, bs, q⟩ := HREL.out
              exact ⟨k + 1, rz0, mz0, dz0, rz2, mz2, dz2, rz3, mz3, dz3, rz4, mz4, dz4, sz, tz, qz, vz, oz, lz, uz, G, r, d5, bs, by go_num, rfl, by omega, q⟩
            case measure => simp [intOf]; omega
          | true =>
            clear BYX HOK HYY
            have p0 := blk_cell x0 0 (v := .slice ry0 my0 dy0) rfl
            have p1 := blk_cell x0 1 (v := .int .i64 ty) rfl
            have p2 := blk_cell x0 2 (v := .slice ry2 my2 dy2) rfl
            have p3 := blk_cell x0 3 (v := .slice ry3 my3 dy3) rfl
            have p4 := blk_cell x0 4 (v := .slice ry4 my4 dy4) rfl
            have p5 := blk_cell x0 5 (v := .int .i64 ly) rfl
            have p6 := blk_cell x0 6 (v := .int .i64 uy) rfl
            have y0 := blk_cell bp 0 (v := .slice rz0 mz0 dz0) rfl
            have y1 := blk_cell bp 1 (v := .int .i64 tz) rfl
            have y2 := blk_cell bp 2 (v := .slice rz2 mz2 dz2) rfl
            have y3 := blk_cell bp 3 (v := .slice rz3 mz3 dz3) rfl
            have y4 := blk_cell bp 4 (v := .slice rz4 mz4 dz4) rfl
            have y5 := blk_cell bp 5 (v := .int .i64 lz) rfl
            have y6 := blk_cell bp 6 (v := .int .i64 uz) rfl
            have fy0 := blk_frozen bp 0
            have fy1 := blk_frozen bp 1
            have fy2 := blk_frozen bp 2
            have fy3 := blk_frozen bp 3
            have fy4 := blk_frozen bp 4
            have fy5 := blk_frozen bp 5
            have fy6 := blk_frozen bp 6
            obtain ⟨Xr, hX⟩ : ∃ u, u = (((((((Xx.setCell ⟨P, 0, none⟩ (.slice ry0 my0 dy0)).setCell ⟨P, 1, none⟩ (.int .i64 ty)).setCell ⟨P, 2, none⟩ (.slice ry2 my2 dy2)).setCell ⟨P, 3, none⟩ (.slice ry3 my3 dy3)).setCell ⟨P, 4, none⟩ (.slice ry4 my4 dy4)).setCell ⟨P, 5, none⟩ (.int .i64 ly)).setCell ⟨P, 6, none⟩ (.int .i64 uy)) := ⟨_, rfl⟩
            have bp' : Xr.heap[P]? = some (.cells #[.slice ry0 my0 dy0, .int .i64 ty, .slice ry2 my2 dy2, .slice ry3 my3 dy3, .slice ry4 my4 dy4, .int .i64 ly, .int .i64 uy] 29 (0, 0)) := by rw [hX]; exact (blk_set (blk_set (blk_set (blk_set (blk_set (blk_set (blk_set bp 0 _) 1 _) 2 _) 3 _) 4 _) 5 _) 6 _)
            have b0' : Xr.heap[w.heap.size]? = some (.cells #[.slice none 0 0, .int .i64 0, .slice none 0 0, .slice none 0 0, .slice none 0 0, .int .i64 0, .int .i64 0] 29 (0, 0)) := by rw [hX]; exact (blk_other (blk_other (blk_other (blk_other (blk_other (blk_other (blk_other b0 (by simp; omega) _) (by simp; omega) _) (by simp; omega) _) (by simp; omega) _) (by simp; omega) _) (by simp; omega) _) (by simp; omega) _)
            have hS : Off (fun b => b = P) Xx Xr := by rw [hX]; exact stores_off (F := fun b => b = P) Xx P 0 [.slice ry0 my0 dy0, .int .i64 ty, .slice ry2 my2 dy2, .slice ry3 my3 dy3, .slice ry4 my4 dy4, .int .i64 ly, .int .i64 uy] rfl
            have zXra : Xr.heap.size ≤ Xx.heap.size := by rw [hX]; exact Nat.le_of_eq (stores_size Xx P 0 [.slice ry0 my0 dy0, .int .i64 ty, .slice ry2 my2 dy2, .slice ry3 my3 dy3, .slice ry4 my4 dy4, .int .i64 ly, .int .i64 uy])
            have zXrb := hS.size
            have BXr : Below w.heap.size w Xr := BXx.trans (hS.belowOf (fun b h => by have h2 : b = P := h; omega) (by omega))
            clear b0 bp
            have b0 := b0'
            have bp := bp'
            clear b0' bp'
            have HOY := Hid.mk (AtF.frame HOY.out (fun b h hl => hS.block b hl (fun e => by have h2 : b = P := e; have h3 := h; rcases h3 with h3 | h3; have := h3.1; omega; omega)) hS.size)
            have HOB := Hid.mk (ownsRow_frame HOB.out (fun b hb hl => hS.block b hl (fun e => (HBB.out b hb).2.2.2 e)))
            clear hS bX x0
            go_upto_region 11 with fail
            rw [← hX]
            clear hX p0 p1 p2 p3 p4 p5 p6
            clear y0 y1 y2 y3 y4 y5 y6 fy0 fy1 fy2 fy3 fy4 fy5 fy6
            go_wp2_with (at_builtin; refine wpList_app_vals rfl (.tmp 42) (.tmp 44) 36 rfl 0 4 i0 (.bool false) 1 1 Try.underlying36 hi0 hx0 hx1 hx2 rfl (by decide) (.slice rb k db) k (bs.map .bool) rfl (owns_below HOB.out ((Below.refl _ _).alloc (Nat.le_refl _) _)) (some ⟨Xr.heap.size, 0, none⟩) 1 1 [.bool true] rfl rfl (fun ad he => by cases he; intro j u hu; match j, hu with | 0, hu => (obtain rfl := Option.some.inj hu; exact blk_cell (heap_alloc_new Xr _) 0 rfl)) (by intro u hu; simp at hu; rw [hu]; rfl) (fun h => by cases h) (by unfold maxLen; omega) (by omega) (Nat.zero_le _) ?_)
            intro r d5 w5 ho5 hg5 ht5
            have zX4 : (Xr.alloc (.cells #[.bool true] 4)).heap.size = Xr.heap.size + 1 := by simp
            (try rw [zX4] at ht5)
            have hO5 : Off (fun q => (Value.slice rb k db).ownBlock = some q) Xr w5 := (Off.below ((Below.refl _ _).alloc (Nat.le_refl _) _)).trans (Off.grown hg5 (fun q hq => hq))
            have z5 := hO5.size
            have z5b : Xr.heap.size + 1 ≤ w5.heap.size := by have q := hg5.size; (try rw [zX4] at q); (try simp only [World.size_alloc] at q); omega
            have bp5 := (hO5.block P (by omega) (fun e => (HBB.out P e).2.2.2 rfl)).trans bp
            have b05 := (hO5.block w.heap.size (by omega) (fun e => by have := (HBB.out _ e).2.1; omega)).trans b0
            have B5 : Below w.heap.size w w5 := BXr.trans (hO5.belowOf (fun b h => by have := (HBB.out b h).2.1; omega) (by omega))
            have ho6 : w5.ownsRow 0 4 1 (.slice r (k + 1) d5) (k + 1) ((bs ++ [true]).map .bool) := by rw [List.map_append]; exact ho5
            have hoS : AtF w5 (From wY.heap.size wy.heap.size) [.slice ry0 my0 dy0, .int .i64 ty, .slice ry2 my2 dy2, .slice ry3 my3 dy3, .slice ry4 my4 dy4, .int .i64 ly, .int .i64 uy] (sy, ty, qy, vy, oy, ly, uy) := (HOY.out.frame (fun b h hl => hO5.block b hl (fun e => by have h9 := HBB.out b e; rcases h with h | h; have := h.1; omega; omega)) hO5.size).mono (fun b h => ⟨by rcases h with h | h; exact h.1; omega, by rcases h with h | h; have := h.2; omega; omega⟩)
            have HREL : Hid (∃ (rz0 : Option Addr) (mz0 dz0 : Nat) (rz2 : Option Addr) (mz2 dz2 : Nat) (rz3 : Option Addr) (mz3 dz3 : Nat) (rz4 : Option Addr) (mz4 dz4 : Nat) (sz : List Int) (tz : Int) (qz : List Int) (vz : List TPrepared) (oz : List Int) (lz uz : Int) (G : Nat → Prop) (bs : List Bool), w5.heap[P]? = some (.cells #[.slice rz0 mz0 dz0, .int .i64 tz, .slice rz2 mz2 dz2, .slice rz3 mz3 dz3, .slice rz4 mz4 dz4, .int .i64 lz, .int .i64 uz] 29 (0, 0)) ∧ w5.heap[w.heap.size]? = some (.cells #[.slice none 0 0, .int .i64 0, .slice none 0 0, .slice none 0 0, .slice none 0 0, .int .i64 0, .int .i64 0] 29 (0, 0)) ∧ AtF w5 G [.slice rz0 mz0 dz0, .int .i64 tz, .slice rz2 mz2 dz2, .slice rz3 mz3 dz3, .slice rz4 mz4 dz4, .int .i64 lz, .int .i64 uz] (sz, tz, qz, vz, oz, lz, uz) ∧ JS (sz, tz, qz, vz, oz, lz, uz) ∧ plS (sz, tz, qz, vz, oz, lz, uz) (ls.drop (k + 1)) = XX ∧ bs ++ plB (sz, tz, qz, vz, oz, lz, uz) (ls.drop (k + 1)) = XB ∧ w5.ownsRow 0 4 1 (.slice r (k + 1) d5) (k + 1) (bs.map .bool) ∧ (∀ b, (Value.slice r (k + 1) d5).ownBlock = some b → ¬ G b ∧ w.heap.size + 1 ≤ b ∧ b < w5.heap.size ∧ b ≠ P) ∧ (∀ b, G b → w.heap.size + 1 ≤ b ∧ b < w5.heap.size ∧ b ≠ P) ∧ Below w.heap.size w w5 ∧ P < w5.heap.size) := Hid.mk ⟨ry0, my0, dy0, ry2, my2, dy2, ry3, my3, dy3, ry4, my4, dy4, sy, ty, qy, vy, oy, ly, uy, (From wY.heap.size wy.heap.size), bs ++ [true], bp5, b05, hoS, HJY.out, HXZ.out, by rw [List.append_assoc]; exact HBZ.out, ho6, fun b hb => (by
                have hlt5 := (ho6.lt b hb).2
                rcases ht5 with q | q
                · rw [q] at hb
                  have h9 := HBB.out b hb
                  exact ⟨fun h => (by have := h.1; omega), by omega, hlt5, h9.2.2.2⟩
                · rw [q] at hb
                  have h2 := Option.some.inj hb
                  exact ⟨fun h => (by have := h.2; omega), by omega, hlt5, by omega⟩), fun b h => (by have := h.1; have := h.2; omega), B5, by omega⟩
            clear hoS ho6 ho5 hg5 ht5 hO5 bp5 b05 bp b0 HOB HXZ HBZ HJY HBB HGG HOZ HOY
            go_wp2
            go_roundw
            case rel =>
              obtain ⟨rz0, mz0, dz0, rz2, mz2, dz2, rz3, mz3, dz3, rz4, mz4, dz4, sz, tz, qz, vz, oz, lz, uz, G, bs, q⟩ := HREL.out
              exact ⟨k + 1, rz0, mz0, dz0, rz2, mz2, dz2, rz3, mz3, dz3, rz4, mz4, dz4, sz, tz, qz, vz, oz, lz, uz, G, r, d5, bs, by go_num, rfl, by omega, q⟩
            case measure => simp [intOf]; omega
        · have hlti : ¬ (k : Int) < (m : Int) := by omega
          obtain rfl : k = m := by omega
          rw [List.drop_eq_nil_of_le (by rw [HLL.out]; exact Nat.le_refl _)] at hxz hbz
          have hxz2 : (sz, tz, qz, vz, oz, lz, uz) = XX := hxz
          have hbz2 : bs = XB := by rw [← hbz]; exact (List.append_nil bs).symm
          have HXZ := Hid.mk hxz2
          have HBZ := Hid.mk hbz2
          have HBL := Hid.mk hbl
          clear hxz hbz hxz2 hbz2 hbl
          have q4 := RSink.at_iff hoz.toAt
          have hSM := DP_SM (JS_DP hjz)
          have h1 : mz0 ≤ 1048576 := by have := hSM.1; have := q4.1.1; simp only at *; omega
          have h2 : mz2 ≤ 1048576 := by have := hSM.2.1; have := q4.2.1.1; simp only at *; omega
          have h3 : mz3 ≤ 1048576 := by have := hSM.2.2.1; have := q4.2.2.1.1; simp only at *; omega
          have h4 : mz4 ≤ 1048576 := by have := hSM.2.2.2.1; have := q4.2.2.2.1; simp only at *; omega
          have KO := Hid.mk (l16Own_any rz0 mz0 dz0 rz2 mz2 dz2 rz3 mz3 dz3 rz4 mz4 dz4 tz lz uz sz qz vz oz wY q4.1.1 q4.2.1.1 q4.2.2.1.1 q4.2.2.2.1 h1 h2 h3 h4 q4.1.2.2.2 q4.2.1.2.2.2 q4.2.2.1.2.2.2 q4.2.2.2.2.2.2 (SM_cost hSM) q4.1.2.2.1 q4.2.1.2.2.1 q4.2.2.1.2.2.1 q4.2.2.2.2.2.1)
          have HOB := Hid.mk hob
          have HBB := Hid.mk hbb
          clear q4 hSM h1 h2 h3 h4 hoz hjz hob hbb hG
          have p0 := blk_cell bp 0 (v := .slice rz0 mz0 dz0) rfl
          have p1 := blk_cell bp 1 (v := .int .i64 tz) rfl
          have p2 := blk_cell bp 2 (v := .slice rz2 mz2 dz2) rfl
          have p3 := blk_cell bp 3 (v := .slice rz3 mz3 dz3) rfl
          have p4 := blk_cell bp 4 (v := .slice rz4 mz4 dz4) rfl
          have p5 := blk_cell bp 5 (v := .int .i64 lz) rfl
          have p6 := blk_cell bp 6 (v := .int .i64 uz) rfl
          go_wp2_with fail
          refine KO.out.mono ?_
          rintro e wo ⟨rg0, mg0, dg0, rg2, mg2, dg2, rg3, mg3, dg3, rg4, mg4, dg4, rfl, hoo, hbo⟩
          (try simp only at hoo)
          have b0 := blk_below b0 hbo
          have zwo := hbo.size
          have Bwo := BwY.trans (hbo.mono BwY.size)
          have HOB := Hid.mk (owns_below HOB.out hbo)
          have HOO := Hid.mk hoo
          clear KO hoo hbo p0 p1 p2 p3 p4 p5 p6
          have y0 := blk_cell b0 0 (v := .slice none 0 0) rfl
          have y1 := blk_cell b0 1 (v := .int .i64 0) rfl
          have y2 := blk_cell b0 2 (v := .slice none 0 0) rfl
          have y3 := blk_cell b0 3 (v := .slice none 0 0) rfl
          have y4 := blk_cell b0 4 (v := .slice none 0 0) rfl
          have y5 := blk_cell b0 5 (v := .int .i64 0) rfl
          have y6 := blk_cell b0 6 (v := .int .i64 0) rfl
          have fz0 := blk_frozen b0 0
          have fz1 := blk_frozen b0 1
          have fz2 := blk_frozen b0 2
          have fz3 := blk_frozen b0 3
          have fz4 := blk_frozen b0 4
          have fz5 := blk_frozen b0 5
          have fz6 := blk_frozen b0 6
          obtain ⟨Y, hY⟩ : ∃ u, u = stores wo (w.heap.size) 0 [.slice rg0 mg0 dg0, .int .i64 tz, .slice rg2 mg2 dg2, .slice rg3 mg3 dg3, .slice rg4 mg4 dg4, .int .i64 lz, .int .i64 uz] := ⟨_, rfl⟩
          have S : Off (fun b => b = w.heap.size) wo Y := by rw [hY]; exact stores_off (F := fun b => b = w.heap.size) _ _ _ _ rfl
          have zY : Y.heap.size = wo.heap.size := by rw [hY]; exact stores_size _ _ _ _
          have S1 : Off (fun b => b = w.heap.size) wo Y := by rw [hY]; exact stores_off (F := fun b => b = w.heap.size) _ _ _ _ rfl
          have R : Hid (PyRet (.returned (.tuple #[.agg #[.slice rg0 mg0 dg0, .int .i64 tz, .slice rg2 mg2 dg2, .slice rg3 mg3 dg3, .slice rg4 mg4 dg4, .int .i64 lz, .int .i64 uz], .slice rb k db, .bool true])) Y w.heap.size true XX XB ∧ Below w.heap.size w Y) := Hid.mk (by
            rw [← HXZ.out, ← HBZ.out]
            refine ⟨⟨rg0, mg0, dg0, rg2, mg2, dg2, rg3, mg3, dg3, rg4, mg4, dg4, rb, k, db, rfl, WithB.of (F1 := From wY.heap.size wo.heap.size) (RSink.ownOff HOO.out S1 (fun b h e => by have h2 : b = w.heap.size := e; have := h.1; omega)) HBL.out (ownsRow_frame HOB.out (fun b hb hl => S1.block b hl (fun e => by have h2 : b = w.heap.size := e; have := (HBB.out b hb).2.1; omega))) (fun b h => ?_) (fun b hb => ?_)⟩, Bwo.trans (S1.belowOf (fun b h => by have h2 : b = w.heap.size := h; omega) (by omega))⟩
            · have h1 := h.1
              have h2 := h.2
              exact ⟨by omega, by omega⟩
            · have := HBB.out b hb
              exact ⟨fun h => (by have := h.1; omega), by omega, by omega⟩)
          clear S1
          have HY := Hid.mk hY
          clear S hY zY HOB HBB HOO bp b0 Bwo
          go_wp2
          refine bodyPost_ret (v := .tuple #[.agg #[.slice rg0 mg0 dg0, .int .i64 tz, .slice rg2 mg2 dg2, .slice rg3 mg3 dg3, .slice rg4 mg4 dg4, .int .i64 lz, .int .i64 uz], .slice rb k db, .bool true]) (by simp [results, Try.results13, go_sem, y0, y1, y2, y3, y4, y5, y6]) rfl ?_
          have h := R.out
          rw [HY.out] at h
          exact h

end Go.Proofs.Ytmbjmmnodcebbaa
