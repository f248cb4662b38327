/- Several texts of one proof, in build order: RcI, FrS. -/
import Derived.Test.YtecaaekilbdgdaaM9
import Derived.Test.YtecaaekilbdgdaaM10
import Derived.Test.YtecaaekilbdgdaaM5
import Derived.Test.YtecaaekilbdgdaaM6

/- Contract of the program's RecoverSink. -/
namespace Go.Proofs.Ytecaaekilbdgdaa
open Go.RowKit

theorem Try.enterCommit : ∀ args w, (callFunc 46 args).run Try.prog w = .ok (.enter 46 args) w := fun _ _ => rfl

set_option maxRecDepth 100000 in
set_option maxHeartbeats 2000000 in
theorem implRecoverSink (a0 : Option Addr) (n0 c0 : Nat) (a2 : Option Addr) (n2 c2 : Nat) (a3 : Option Addr) (n3 c3 : Nat) (a4 : Option Addr) (n4 c4 : Nat) (t la up : Int) (src pd : List Int) (ps : List TPrepared) (ou : List Int) (w : World) (hnc : n0 ≤ c0) (h0 : src.length = n0) (h2 : pd.length = n2) (h3 : ps.length = n3) (h4 : ou.length = n4) (hb0 : n0 ≤ 1048576) (hb2 : n2 ≤ 1048576) (hb3 : n3 ≤ 1048576) (hb4 : n4 ≤ 1048576) (hsm : ∀ (i : Nat) (x : TPrepared), ps[i]? = some x → costPrepared x ≤ 1048576)
    (ha0 : At w a0 src) (ha2 : At w a2 pd) (ha3 : AtSl RPrepared w a3 ps) (ha4 : At w a4 ou) (hF0 : a0 = none → c0 = 0) (hF2 : a2 = none → c2 = 0) (hF3 : a3 = none → c3 = 0) (hF4 : a4 = none → c4 = 0) :
    Calls Try.prog 21 #[.agg #[.slice a0 n0 c0, .int .i64 t, .slice a2 n2 c2, .slice a3 n3 c3, .slice a4 n4 c4, .int .i64 la, .int .i64 up]] w fun e w' => SinkRetN e w' w.heap.size (recN (src, t, pd, ps, ou, la, up)) (gkB (src, t, pd, ps, ou, la, up)) (recX (src, t, pd, ps, ou, la, up)) ∧ Below w.heap.size w w' := by
  obtain ⟨W, hW⟩ : ∃ W, W = (w.alloc (.cells #[.slice a0 n0 c0, .int .i64 t, .slice a2 n2 c2, .slice a3 n3 c3, .slice a4 n4 c4, .int .i64 la, .int .i64 up] 25)).alloc (.cells #[.slice none 0 0, .int .i64 0, .slice none 0 0, .slice none 0 0, .slice none 0 0, .int .i64 0, .int .i64 0] 25) := ⟨_, rfl⟩
  have B0 : Below w.heap.size w W := by rw [hW]; exact ((Below.refl _ _).alloc (Nat.le_refl _) _).alloc (by simp) _
  have b0 : W.heap[w.heap.size]? = some (.cells #[.slice a0 n0 c0, .int .i64 t, .slice a2 n2 c2, .slice a3 n3 c3, .slice a4 n4 c4, .int .i64 la, .int .i64 up] 25 (0, 0)) := by rw [hW]; exact blk_alloc (heap_alloc_new w _) _
  have b1 : W.heap[w.heap.size + 1]? = some (.cells #[.slice none 0 0, .int .i64 0, .slice none 0 0, .slice none 0 0, .slice none 0 0, .int .i64 0, .int .i64 0] 25 (0, 0)) := by
    rw [hW]
    have q := heap_alloc_new (w.alloc (.cells #[.slice a0 n0 c0, .int .i64 t, .slice a2 n2 c2, .slice a3 n3 c3, .slice a4 n4 c4, .int .i64 la, .int .i64 up] 25)) (.cells #[.slice none 0 0, .int .i64 0, .slice none 0 0, .slice none 0 0, .slice none 0 0, .int .i64 0, .int .i64 0] 25)
    simpa only [World.size_alloc] using q
  have zW : W.heap.size = w.heap.size + 2 := by rw [hW]; simp
  obtain ⟨PB, hPB⟩ : ∃ b, gkB (src, t, pd, ps, ou, la, up) = b := ⟨_, rfl⟩
  obtain ⟨XN, hXN⟩ : ∃ b, recN (src, t, pd, ps, ou, la, up) = b := ⟨_, rfl⟩
  obtain ⟨XX, hXX⟩ : ∃ b, recX (src, t, pd, ps, ou, la, up) = b := ⟨_, rfl⟩
  have KG := Hid.mk (implGoodSink a0 n0 c0 a2 n2 c2 a3 n3 c3 a4 n4 c4 t la up src pd ps ou W hnc h0 h2 h3 h4 hb0 hb2 hb3 hb4 hsm (At.below ha0 B0) (At.below ha2 B0) (AtSl.below ha3 B0) (At.below ha4 B0))
  rw [hPB] at KG
  rw [hPB, hXN, hXX]
  have HPB := Hid.mk hPB
  have HXN := Hid.mk hXN
  have HXX := Hid.mk hXX
  have H0 := Hid.mk h0
  have H2 := Hid.mk h2
  have H3 := Hid.mk h3
  have H4 := Hid.mk h4
  have HSM := Hid.mk hsm
  have HA0 := Hid.mk (At.below ha0 B0)
  have HA2 := Hid.mk (At.below ha2 B0)
  have HA3 := Hid.mk (AtSl.below ha3 B0)
  have HA4 := Hid.mk (At.below ha4 B0)
  have p0 := blk_cell b0 0 (v := .slice a0 n0 c0) rfl
  have p1 := blk_cell b0 1 (v := .int .i64 t) rfl
  have p2 := blk_cell b0 2 (v := .slice a2 n2 c2) rfl
  have p3 := blk_cell b0 3 (v := .slice a3 n3 c3) rfl
  have p4 := blk_cell b0 4 (v := .slice a4 n4 c4) rfl
  have p5 := blk_cell b0 5 (v := .int .i64 la) rfl
  have p6 := blk_cell b0 6 (v := .int .i64 up) rfl
  clear ha0 ha2 ha3 ha4 h0 h2 h3 h4 hsm hPB hXN hXX
  go_enter Try.func21, Try.ntmps21
  go_upto_region 1 with fail
  rw [← hW]
  clear hW
  go_wp2_with fail
  refine KG.out.mono ?_
  rintro e w1 ⟨rfl, hb1⟩
  have b0 := blk_below b0 hb1
  have b1 := blk_below b1 hb1
  have z1 := hb1.size
  have B1 := B0.trans (hb1.mono B0.size)
  have BW1 := Hid.mk hb1
  clear hb1 KG p0 p1 p2 p3 p4 p5 p6
  cases PB with
  | false =>
    obtain rfl : (0 : Int) = XN := by rw [← HXN.out]; unfold recN; rw [HPB.out]; rfl
    obtain rfl : newK [] = XX := by rw [← HXX.out]; unfold recX; rw [HPB.out]; rfl
    have y0 := blk_cell b1 0 (v := .slice none 0 0) rfl
    have y1 := blk_cell b1 1 (v := .int .i64 0) rfl
    have y2 := blk_cell b1 2 (v := .slice none 0 0) rfl
    have y3 := blk_cell b1 3 (v := .slice none 0 0) rfl
    have y4 := blk_cell b1 4 (v := .slice none 0 0) rfl
    have y5 := blk_cell b1 5 (v := .int .i64 0) rfl
    have y6 := blk_cell b1 6 (v := .int .i64 0) rfl
    have fz0 := blk_frozen b1 0
    have fz1 := blk_frozen b1 1
    have fz2 := blk_frozen b1 2
    have fz3 := blk_frozen b1 3
    have fz4 := blk_frozen b1 4
    have fz5 := blk_frozen b1 5
    have fz6 := blk_frozen b1 6
    go_wp2
    refine bodyPost_ret (v := .tuple #[.agg #[.slice none 0 0, .int .i64 0, .slice none 0 0, .slice none 0 0, .slice none 0 0, .int .i64 0, .int .i64 0], .int .i64 0, .bool false]) (by simp [results, Try.results21, go_sem, y0, y1, y2, y3, y4, y5, y6]) rfl ⟨⟨none, 0, 0, none, 0, 0, none, 0, 0, none, 0, 0, rfl, RSink.void _ _⟩, ?_⟩
    exact ((((((B1.setCell (Nat.le_succ _) _).setCell (Nat.le_succ _) _).setCell (Nat.le_succ _) _).setCell (Nat.le_succ _) _).setCell (Nat.le_succ _) _).setCell (Nat.le_succ _) _).setCell (Nat.le_succ _) _
  | true =>
    obtain ⟨zsrc, zt, zpd, zps, zou, zl, zu⟩ := XX
    have hXN : ((itK cmK (muK (crK (src, t, pd, ps, ou, la, up))) (crK (src, t, pd, ps, ou, la, up))).2 : Int) = XN := by rw [← HXN.out]; unfold recN; rw [HPB.out]; rfl
    have hXX : (itK cmK (muK (crK (src, t, pd, ps, ou, la, up))) (crK (src, t, pd, ps, ou, la, up))).1 = (zsrc, zt, zpd, zps, zou, zl, zu) := by rw [← HXX.out]; unfold recX; rw [HPB.out]; rfl
    have HXN2 := Hid.mk hXN
    have HXX2 := Hid.mk hXX
    have HPK := Hid.mk (gk_PK HPB.out)
    have h34 : n3 ≤ 4 := by have q := (gk_parts HPB.out).2.2.2.2.2.2.2.1; rw [H3.out] at q; exact q
    have p0 := blk_cell b0 0 (v := .slice a0 n0 c0) rfl
    have p1 := blk_cell b0 1 (v := .int .i64 t) rfl
    have p2 := blk_cell b0 2 (v := .slice a2 n2 c2) rfl
    have p3 := blk_cell b0 3 (v := .slice a3 n3 c3) rfl
    have p4 := blk_cell b0 4 (v := .slice a4 n4 c4) rfl
    have p5 := blk_cell b0 5 (v := .int .i64 la) rfl
    have p6 := blk_cell b0 6 (v := .int .i64 up) rfl
    have KC := Hid.mk (copySink_any a0 n0 c0 a2 n2 c2 a3 n3 c3 a4 n4 c4 t la up src pd ps ou w1 H0.out H2.out H3.out H4.out hb0 hb2 hb3 hb4 hF0 hF2 hF3 hF4 HSM.out (At.below HA0.out BW1.out) (At.below HA2.out BW1.out) (AtSl.below HA3.out BW1.out) (At.below HA4.out BW1.out))
    clear hXN hXX HXN HXX
    go_wp2_with fail
    refine KC.out.mono ?_
    rintro e w2 ⟨ra0, ma0, da0, ra2, ma2, da2, ra3, ma3, da3, ra4, ma4, da4, rfl, ho2, hb2⟩
    simp only at ho2
    have b0 := blk_below b0 hb2
    have b1 := blk_below b1 hb2
    have z2 := hb2.size
    have B2 := B1.trans (hb2.mono B1.size)
    have KR := Hid.mk (crash_any (From w1.heap.size w2.heap.size) ra0 ma0 da0 ra2 ma2 da2 ra3 ma3 da3 ra4 ma4 da4 t la up src pd ps ou w2 ho2)
    clear ho2 hb2 KC p0 p1 p2 p3 p4 p5 p6
    go_wp2_with fail
    refine KR.out.mono ?_
    rintro e w3 ⟨rb0, mb0, db0, rb2, mb2, db2, rb3, mb3, db3, rb4, mb4, db4, rfl, ho3, hO3⟩
    simp only at ho3
    have z3 := hO3.size
    have b0 := (hO3.block w.heap.size (by omega) (fun h => by have := h.1; omega)).trans b0
    have b1 := (hO3.block (w.heap.size + 1) (by omega) (fun h => by have := h.1; omega)).trans b1
    have B3 : Below w.heap.size w w3 := B2.trans (hO3.belowOf (fun b h => by have := h.1; omega) (by omega))
    obtain ⟨V, hV⟩ : ∃ V, upF up ps = V := ⟨_, rfl⟩
    rw [hV] at ho3
    have HV := Hid.mk hV
    obtain ⟨X3, hX3⟩ : ∃ u, u = w3.alloc (.cells #[.slice rb0 mb0 db0, .int .i64 V, .slice rb2 mb2 db2, .slice rb3 mb3 db3, .slice rb4 mb4 db4, .int .i64 la, .int .i64 up] 25) := ⟨_, rfl⟩
    have bX3 : Below w3.heap.size w3 X3 := by rw [hX3]; exact (Below.refl _ _).alloc (Nat.le_refl _) _
    have x0 : X3.heap[w3.heap.size]? = some (.cells #[.slice rb0 mb0 db0, .int .i64 V, .slice rb2 mb2 db2, .slice rb3 mb3 db3, .slice rb4 mb4 db4, .int .i64 la, .int .i64 up] 25 (0, 0)) := by rw [hX3]; exact heap_alloc_new w3 _
    have zX3 := bX3.size
    have b0 := blk_below b0 bX3
    have b1 := blk_below b1 bX3
    have BX3 := B3.trans (bX3.mono B3.size)
    have KA := Hid.mk (again_any 46 cmK PK muK Try.enterCommit commit_step (fun x hp h => cmK_step x hp h) (Gr (From w1.heap.size w2.heap.size) w2 w3) rb0 mb0 db0 rb2 mb2 db2 rb3 mb3 db3 rb4 mb4 db4 V la up src [] ps ou X3 (by have q := HPK.out; rw [HV.out] at q; exact q) (by show ps.length ≤ 1000; rw [H3.out]; omega) (fun b h => by rcases h with h | h; have := h.2; omega; omega) (RSink.ownBelow ho3 bX3))
    rw [show (src, V, ([] : List Int), ps, ou, la, up) = crK (src, t, pd, ps, ou, la, up) from by rw [← HV.out]; rfl, HXN2.out, HXX2.out] at KA
    have p0 := blk_cell x0 0 (v := .slice rb0 mb0 db0) rfl
    have p1 := blk_cell x0 1 (v := .int .i64 V) rfl
    have p2 := blk_cell x0 2 (v := .slice rb2 mb2 db2) rfl
    have p3 := blk_cell x0 3 (v := .slice rb3 mb3 db3) rfl
    have p4 := blk_cell x0 4 (v := .slice rb4 mb4 db4) rfl
    have p5 := blk_cell x0 5 (v := .int .i64 la) rfl
    have p6 := blk_cell x0 6 (v := .int .i64 up) rfl
    clear ho3 hO3 KR hV bX3
    go_upto_region 4 with fail
    simp only [HV.out]
    rw [← hX3]
    clear hX3
    go_wp2_with fail
    refine KA.out.mono ?_
    rintro e w4 ⟨rc0, mc0, dc0, rc2, mc2, dc2, rc3, mc3, dc3, rc4, mc4, dc4, rfl, ho4, hO4⟩
    simp only at ho4
    have z4 := hO4.size
    have b1 := (hO4.block (w.heap.size + 1) (by omega) (fun h => by rcases h with h | h; have := h.1; omega; omega)).trans b1
    have B4 : Below w.heap.size w w4 := BX3.trans (hO4.belowOf (fun b h => by rcases h with h | h; have := h.1; omega; omega) (by omega))
    obtain ⟨X4, hX4⟩ : ∃ u, u = w4.alloc (.cells #[.slice rc0 mc0 dc0, .int .i64 zt, .slice rc2 mc2 dc2, .slice rc3 mc3 dc3, .slice rc4 mc4 dc4, .int .i64 zl, .int .i64 zu] 25) := ⟨_, rfl⟩
    have bX4 : Below w4.heap.size w4 X4 := by rw [hX4]; exact (Below.refl _ _).alloc (Nat.le_refl _) _
    have x0 : X4.heap[w4.heap.size]? = some (.cells #[.slice rc0 mc0 dc0, .int .i64 zt, .slice rc2 mc2 dc2, .slice rc3 mc3 dc3, .slice rc4 mc4 dc4, .int .i64 zl, .int .i64 zu] 25 (0, 0)) := by rw [hX4]; exact heap_alloc_new w4 _
    have zX4 := bX4.size
    have b1 := blk_below b1 bX4
    have BX4 := B4.trans (bX4.mono B4.size)
    have HO4 := Hid.mk ho4
    clear p0 p1 p2 p3 p4 p5 p6 hO4 ho4 KA b0
    go_upto_region 5 with fail
    (try simp only)
    rw [← hX4]
    clear hX4
    have p0 := blk_cell x0 0 (v := .slice rc0 mc0 dc0) rfl
    have p1 := blk_cell x0 1 (v := .int .i64 zt) rfl
    have p2 := blk_cell x0 2 (v := .slice rc2 mc2 dc2) rfl
    have p3 := blk_cell x0 3 (v := .slice rc3 mc3 dc3) rfl
    have p4 := blk_cell x0 4 (v := .slice rc4 mc4 dc4) rfl
    have p5 := blk_cell x0 5 (v := .int .i64 zl) rfl
    have p6 := blk_cell x0 6 (v := .int .i64 zu) rfl
    have y0 := blk_cell b1 0 (v := .slice none 0 0) rfl
    have y1 := blk_cell b1 1 (v := .int .i64 0) rfl
    have y2 := blk_cell b1 2 (v := .slice none 0 0) rfl
    have y3 := blk_cell b1 3 (v := .slice none 0 0) rfl
    have y4 := blk_cell b1 4 (v := .slice none 0 0) rfl
    have y5 := blk_cell b1 5 (v := .int .i64 0) rfl
    have y6 := blk_cell b1 6 (v := .int .i64 0) rfl
    have fz0 := blk_frozen b1 0
    have fz1 := blk_frozen b1 1
    have fz2 := blk_frozen b1 2
    have fz3 := blk_frozen b1 3
    have fz4 := blk_frozen b1 4
    have fz5 := blk_frozen b1 5
    have fz6 := blk_frozen b1 6
    obtain ⟨Y, hY⟩ : ∃ u, u = stores X4 (w.heap.size + 1) 0 [.slice rc0 mc0 dc0, .int .i64 zt, .slice rc2 mc2 dc2, .slice rc3 mc3 dc3, .slice rc4 mc4 dc4, .int .i64 zl, .int .i64 zu] := ⟨_, rfl⟩
    have S : Off (fun b => b = w.heap.size + 1) X4 Y := by rw [hY]; exact stores_off (F := fun b => b = w.heap.size + 1) _ _ _ _ rfl
    have zY : Y.heap.size = X4.heap.size := by rw [hY]; exact stores_size _ _ _ _
    have D : Below w.heap.size w Y := by rw [hY]; exact stores_below _ _ _ _ BX4 (Nat.le_succ _)
    have R : Hid (SinkRetN (.returned (.tuple #[.agg #[.slice rc0 mc0 dc0, .int .i64 zt, .slice rc2 mc2 dc2, .slice rc3 mc3 dc3, .slice rc4 mc4 dc4, .int .i64 zl, .int .i64 zu], .int .i64 XN, .bool true])) Y w.heap.size XN true (zsrc, zt, zpd, zps, zou, zl, zu) ∧ Below w.heap.size w Y) := Hid.mk
      ⟨⟨rc0, mc0, dc0, rc2, mc2, dc2, rc3, mc3, dc3, rc4, mc4, dc4, rfl, RSink.mono (RSink.ownOff (RSink.ownBelow HO4.out bX4) S (fun b h e => by
        have h2 : b = w.heap.size + 1 := e
        rcases h with (h | h) | h
        · have := h.1; omega
        · omega
        · omega)) (fun b h => by
        rcases h with (h | h) | h
        · exact ⟨by have := h.1; omega, by have := h.2; omega⟩
        · exact ⟨by omega, by omega⟩
        · exact ⟨by omega, by omega⟩)⟩, D⟩
    clear D
    have HY := Hid.mk hY
    clear S hY zY HO4 x0 b1 B4 BX4 BX3 B3 B2 B1 B0
    go_wp2
    refine bodyPost_ret (v := .tuple #[.agg #[.slice rc0 mc0 dc0, .int .i64 zt, .slice rc2 mc2 dc2, .slice rc3 mc3 dc3, .slice rc4 mc4 dc4, .int .i64 zl, .int .i64 zu], .int .i64 XN, .bool true]) (by simp [results, Try.results21, go_sem, y0, y1, y2, y3, y4, y5, y6]) rfl ?_
    have h := R.out
    rw [HY.out] at h
    exact h

end Go.Proofs.Ytecaaekilbdgdaa

/- Contracts of the model's l16From and l16Crash. -/
namespace Go.Proofs.Ytecaaekilbdgdaa
open Go.RowKit

theorem l16From_any (a0 : Option Addr) (n0 c0 : Nat) (t : Int) (a2 : Option Addr) (n2 c2 : Nat) (a3 : Option Addr) (n3 c3 : Nat) (a4 : Option Addr) (n4 c4 : Nat) (la up : Int) (ps : List TPrepared) (w : World) (h3 : ps.length = n3) (hb3 : n3 ≤ 9223372036854775807) (ha : AtSl RPrepared w a3 ps) :
    Calls Try.prog 53 #[.agg #[.slice a0 n0 c0, .int .i64 t, .slice a2 n2 c2, .slice a3 n3 c3, .slice a4 n4 c4, .int .i64 la, .int .i64 up]] w fun e w' => e = .returned (.int .i64 (upF up ps)) ∧ Below w.heap.size w w' := by
  obtain ⟨W, hW⟩ : ∃ W, W = w.alloc (.cells #[.slice a0 n0 c0, .int .i64 t, .slice a2 n2 c2, .slice a3 n3 c3, .slice a4 n4 c4, .int .i64 la, .int .i64 up] 25) := ⟨_, rfl⟩
  have B0 : Below w.heap.size w W := by rw [hW]; exact (Below.refl _ _).alloc (Nat.le_refl _) _
  have p3 : W.cell? ⟨w.heap.size, 3, none⟩ = some (.slice a3 n3 c3) := by rw [hW]; simp
  have p6 : W.cell? ⟨w.heap.size, 6, none⟩ = some (.int .i64 up) := by rw [hW]; simp
  by_cases h0 : n3 = 0
  · have hup : upF up ps = up := upF_nil (by omega)
    have hn0 : ¬ (0 : Int) < (n3 : Int) := by omega
    rw [hup]
    clear hup h0 ha h3
    go_enter Try.func53, Try.ntmps53
    go_upto_region 1 with fail
    rw [← hW]
    clear hW
    go_wp2
    go_ret
    exact ⟨rfl, B0⟩
  · obtain ⟨b, off, rfl, _, hc⟩ := RPrepared.row (AtSl.below ha B0) (by omega)
    obtain ⟨⟨x0, x1, x2⟩, hx⟩ : ∃ x, ps[n3 - 1]? = some x := ⟨_, List.getElem?_eq_getElem (by omega)⟩
    obtain ⟨d, l, e, _, g1, _, _⟩ := hc _ _ hx
    have hup : upF up ps = x1 := upF_last (n := n3 - 1) (by omega) hx
    have hn0 : (0 : Int) < (n3 : Int) := by omega
    have hw1 : IntKind.i64.wrap ((n3 : Int) - 1) = ((n3 - 1 : Nat) : Int) := by rw [IntWalk.i64_in _ (by omega)]; omega
    have hlt : n3 - 1 < n3 := by omega
    have hlti : ((n3 - 1 : Nat) : Int) < (n3 : Int) := by omega
    simp only at g1
    rw [hup]
    clear hup h0 ha h3 hc hx
    go_enter Try.func53, Try.ntmps53
    go_upto_region 1 with fail
    rw [← hW]
    clear hW
    go_wp2
    go_ret
    exact ⟨rfl, B0⟩

/-- A sink that is told by one who holds it. -/
def CrRet (e : Ending) (w w' : World) (F : Nat → Prop) (x : TSink) : Prop :=
  ∃ r0 m0 d0 r2 m2 d2 r3 m3 d3 r4 m4 d4, e = .returned (.agg #[.slice r0 m0 d0, .int .i64 x.2.1, .slice r2 m2 d2, .slice r3 m3 d3, .slice r4 m4 d4, .int .i64 x.2.2.2.2.2.1, .int .i64 x.2.2.2.2.2.2]) ∧
    RSink.Own w' (Gr F w w') [.slice r0 m0 d0, .int .i64 x.2.1, .slice r2 m2 d2, .slice r3 m3 d3, .slice r4 m4 d4, .int .i64 x.2.2.2.2.2.1, .int .i64 x.2.2.2.2.2.2] x ∧ Below w.heap.size w w'

set_option maxRecDepth 100000 in
set_option maxHeartbeats 2000000 in
theorem l16Crash_any (F : Nat → Prop) (a0 : Option Addr) (n0 c0 : Nat) (a2 : Option Addr) (n2 c2 : Nat) (a3 : Option Addr) (n3 c3 : Nat) (a4 : Option Addr) (n4 c4 : Nat) (t la up : Int) (src pd : List Int) (ps : List TPrepared) (ou : List Int) (w : World) (ho : RSink.Own w F [.slice a0 n0 c0, .int .i64 t, .slice a2 n2 c2, .slice a3 n3 c3, .slice a4 n4 c4, .int .i64 la, .int .i64 up] (src, t, pd, ps, ou, la, up)) :
    Calls Try.prog 41 #[.agg #[.slice a0 n0 c0, .int .i64 t, .slice a2 n2 c2, .slice a3 n3 c3, .slice a4 n4 c4, .int .i64 la, .int .i64 up]] w fun e w' => CrRet e w w' F (src, upF up ps, [], ps, ou, la, up) := by
  obtain ⟨W, hW⟩ : ∃ W, W = (w.alloc (.cells #[.slice a0 n0 c0, .int .i64 t, .slice a2 n2 c2, .slice a3 n3 c3, .slice a4 n4 c4, .int .i64 la, .int .i64 up] 25)).alloc (.cells #[.slice none 0 0, .int .i64 0, .slice none 0 0, .slice none 0 0, .slice none 0 0, .int .i64 0, .int .i64 0] 25) := ⟨_, rfl⟩
  have B0 : Below w.heap.size w W := by rw [hW]; exact ((Below.refl _ _).alloc (Nat.le_refl _) _).alloc (by simp) _
  have b0 : W.heap[w.heap.size]? = some (.cells #[.slice a0 n0 c0, .int .i64 t, .slice a2 n2 c2, .slice a3 n3 c3, .slice a4 n4 c4, .int .i64 la, .int .i64 up] 25 (0, 0)) := by rw [hW]; exact blk_alloc (heap_alloc_new w _) _
  have b1 : W.heap[w.heap.size + 1]? = some (.cells #[.slice none 0 0, .int .i64 0, .slice none 0 0, .slice none 0 0, .slice none 0 0, .int .i64 0, .int .i64 0] 25 (0, 0)) := by
    rw [hW]
    have q := heap_alloc_new (w.alloc (.cells #[.slice a0 n0 c0, .int .i64 t, .slice a2 n2 c2, .slice a3 n3 c3, .slice a4 n4 c4, .int .i64 la, .int .i64 up] 25)) (.cells #[.slice none 0 0, .int .i64 0, .slice none 0 0, .slice none 0 0, .slice none 0 0, .int .i64 0, .int .i64 0] 25)
    simpa only [World.size_alloc] using q
  have zW : W.heap.size = w.heap.size + 2 := by rw [hW]; simp
  obtain ⟨F0, F2, F3, F4, h0, h2, h3, h4, f0, f2, f3, f4, d02, d03, d04, d23, d24, d34⟩ := RSink.own_iff ho
  have h3l := RPrepareds.atSl h3
  have hb3 : n3 ≤ 9223372036854775807 := (RSink.at_iff (RSink.toAt ho)).2.2.1.2.1
  have KS := Hid.mk (l16From_any a0 n0 c0 t a2 n2 c2 a3 n3 c3 a4 n4 c4 la up ps W h3l.1 hb3 (AtSl.below h3l.2 B0))
  have p0 := blk_cell b0 0 (v := .slice a0 n0 c0) rfl
  have p1 := blk_cell b0 1 (v := .int .i64 t) rfl
  have p2 := blk_cell b0 2 (v := .slice a2 n2 c2) rfl
  have p3 := blk_cell b0 3 (v := .slice a3 n3 c3) rfl
  have p4 := blk_cell b0 4 (v := .slice a4 n4 c4) rfl
  have p5 := blk_cell b0 5 (v := .int .i64 la) rfl
  have p6 := blk_cell b0 6 (v := .int .i64 up) rfl
  obtain ⟨V, hV⟩ : ∃ V, upF up ps = V := ⟨_, rfl⟩
  rw [hV] at KS ⊢
  clear hV h3l hb3
  go_enter Try.func41, Try.ntmps41
  go_upto_region 1 with fail
  rw [← hW]
  clear hW
  go_wp2_with fail
  refine KS.out.mono ?_
  rintro e w2 ⟨rfl, hb2⟩
  have k0 := blk_below b0 hb2
  have k1 := blk_below b1 hb2
  have z2 := hb2.size
  have C2 : Below w.heap.size w w2 := B0.trans (hb2.mono B0.size)
  obtain ⟨X3, hX3⟩ : ∃ u, u = w2.setCell ⟨w.heap.size, 1, none⟩ (.int .i64 V) := ⟨_, rfl⟩
  have e0 : X3.heap[w.heap.size]? = some (.cells #[.slice a0 n0 c0, .int .i64 V, .slice a2 n2 c2, .slice a3 n3 c3, .slice a4 n4 c4, .int .i64 la, .int .i64 up] 25 (0, 0)) := by rw [hX3]; exact blk_set k0 1 _
  have e1 : X3.heap[w.heap.size + 1]? = some (.cells #[.slice none 0 0, .int .i64 0, .slice none 0 0, .slice none 0 0, .slice none 0 0, .int .i64 0, .int .i64 0] 25 (0, 0)) := by rw [hX3]; exact blk_other k1 (by simp) _
  have C1 : Below w.heap.size w X3 := by rw [hX3]; exact C2.setCell (Nat.le_refl _) _
  have z3 : w2.heap.size ≤ X3.heap.size := by rw [hX3]; simp [World.setCell]
  have q1 := blk_cell k0 1 (v := .int .i64 t) rfl
  have g1 := blk_frozen k0 1
  clear p0 p1 p2 p3 p4 p5 p6 KS
  go_upto_region 2 with fail
  rw [← hX3]
  clear hX3 q1 g1
  obtain ⟨X4, hX4⟩ : ∃ u, u = X3.setCell ⟨w.heap.size, 2, none⟩ (.slice none 0 0) := ⟨_, rfl⟩
  have k0 : X4.heap[w.heap.size]? = some (.cells #[.slice a0 n0 c0, .int .i64 V, .slice none 0 0, .slice a3 n3 c3, .slice a4 n4 c4, .int .i64 la, .int .i64 up] 25 (0, 0)) := by rw [hX4]; exact blk_set e0 2 _
  have k1 : X4.heap[w.heap.size + 1]? = some (.cells #[.slice none 0 0, .int .i64 0, .slice none 0 0, .slice none 0 0, .slice none 0 0, .int .i64 0, .int .i64 0] 25 (0, 0)) := by rw [hX4]; exact blk_other e1 (by simp) _
  have C3 : Below w.heap.size w X4 := by rw [hX4]; exact C1.setCell (Nat.le_refl _) _
  have z4 : X3.heap.size ≤ X4.heap.size := by rw [hX4]; simp [World.setCell]
  have q2 := blk_cell e0 2 (v := .slice a2 n2 c2) rfl
  have g2 := blk_frozen e0 2
  go_upto_region 3 with fail
  rw [← hX4]
  clear hX4 q2 g2
  have p0 := blk_cell k0 0 (v := .slice a0 n0 c0) rfl
  have p1 := blk_cell k0 1 (v := .int .i64 V) rfl
  have p2 := blk_cell k0 2 (v := .slice none 0 0) rfl
  have p3 := blk_cell k0 3 (v := .slice a3 n3 c3) rfl
  have p4 := blk_cell k0 4 (v := .slice a4 n4 c4) rfl
  have p5 := blk_cell k0 5 (v := .int .i64 la) rfl
  have p6 := blk_cell k0 6 (v := .int .i64 up) rfl
  have y0 := blk_cell k1 0 (v := .slice none 0 0) rfl
  have y1 := blk_cell k1 1 (v := .int .i64 0) rfl
  have y2 := blk_cell k1 2 (v := .slice none 0 0) rfl
  have y3 := blk_cell k1 3 (v := .slice none 0 0) rfl
  have y4 := blk_cell k1 4 (v := .slice none 0 0) rfl
  have y5 := blk_cell k1 5 (v := .int .i64 0) rfl
  have y6 := blk_cell k1 6 (v := .int .i64 0) rfl
  have fz0 := blk_frozen k1 0
  have fz1 := blk_frozen k1 1
  have fz2 := blk_frozen k1 2
  have fz3 := blk_frozen k1 3
  have fz4 := blk_frozen k1 4
  have fz5 := blk_frozen k1 5
  have fz6 := blk_frozen k1 6
  obtain ⟨Y, hY⟩ : ∃ u, u = stores X4 (w.heap.size + 1) 0 [.slice a0 n0 c0, .int .i64 V, .slice none 0 0, .slice a3 n3 c3, .slice a4 n4 c4, .int .i64 la, .int .i64 up] := ⟨_, rfl⟩
  have S : Off (fun b => b = w.heap.size + 1) X4 Y := by rw [hY]; exact stores_off (F := fun b => b = w.heap.size + 1) _ _ _ _ rfl
  have zY : Y.heap.size = X4.heap.size := by rw [hY]; exact stores_size _ _ _ _
  have D : Below w.heap.size w Y := by rw [hY]; exact stores_below _ _ _ _ C3 (by omega)
  have R : Hid (CrRet (.returned (.agg #[.slice a0 n0 c0, .int .i64 V, .slice none 0 0, .slice a3 n3 c3, .slice a4 n4 c4, .int .i64 la, .int .i64 up])) w Y F (src, V, [], ps, ou, la, up)) := Hid.mk
    ⟨a0, n0, c0, none, 0, 0, a3, n3, c3, a4, n4, c4, rfl, RSink.own_mk (F2 := fun _ => False) (RInts.ownBelow h0 D) (RInts.void _ _) (RPrepareds.ownBelow h3 D) (RInts.ownBelow h4 D) (fun b h => .inl (f0 b h)) (fun _ h => h.elim) (fun b h => .inl (f3 b h)) (fun b h => .inl (f4 b h)) (fun _ _ h => h.elim) d03 d04 (fun _ h => h.elim) (fun _ h => h.elim) d34, D⟩
  have HY := Hid.mk hY
  clear S hY zY D k0 k1 e0 e1 C1 C2 C3
  go_wp2
  refine bodyPost_ret (v := .agg #[.slice a0 n0 c0, .int .i64 V, .slice none 0 0, .slice a3 n3 c3, .slice a4 n4 c4, .int .i64 la, .int .i64 up]) (by simp [results, Try.results41, go_sem, y0, y1, y2, y3, y4, y5, y6]) rfl ?_
  have h := R.out
  rw [HY.out] at h
  exact h

end Go.Proofs.Ytecaaekilbdgdaa
