/- Contract of the model's StepSink. -/
import Derived.Test.YtmbjmmnodcebbaaM14
import Derived.Test.YtmbjmmnodcebbaaM18
import Derived.Test.YtmbjmmnodcebbaaM19
namespace Go.Proofs.Ytmbjmmnodcebbaa
open Go.RowKit

set_option maxRecDepth 100000 in
set_option maxHeartbeats 2000000 in
theorem specStepSink (a0 : Option Addr) (n0 c0 : Nat) (a2 : Option Addr) (n2 c2 : Nat) (a3 : Option Addr) (n3 c3 : Nat) (a4 : Option Addr) (n4 c4 : Nat) (t la up k : Int) (src pd : List Int) (ps : List TPrepared) (ou : List Int) (w : World) (hnc : n0 ≤ c0) (h0 : src.length = n0) (h2 : pd.length = n2) (h3 : ps.length = n3) (h4 : ou.length = n4) (hb0 : n0 ≤ 1048576) (hb2 : n2 ≤ 1048576) (hb3 : n3 ≤ 1048576) (hb4 : n4 ≤ 1048576) (hsm : ∀ (i : Nat) (x : TPrepared), ps[i]? = some x → costPrepared x ≤ 1048576)
    (ha0 : At w a0 src) (ha2 : At w a2 pd) (ha3 : AtSl RPrepared w a3 ps) (ha4 : At w a4 ou) (hF0 : a0 = none → c0 = 0) (hF2 : a2 = none → c2 = 0) (hF3 : a3 = none → c3 = 0) (hF4 : a4 = none → c4 = 0) :
    Calls Try.prog 7 #[.agg #[.slice a0 n0 c0, .int .i64 t, .slice a2 n2 c2, .slice a3 n3 c3, .slice a4 n4 c4, .int .i64 la, .int .i64 up], .int .i64 k] w fun e w' => SinkRet e w' w.heap.size (ssB (src, t, pd, ps, ou, la, up) k) (ssX (src, t, pd, ps, ou, la, up) k) ∧ Below w.heap.size w w' := by
  obtain ⟨W, hW⟩ : ∃ W, W = (w.alloc (.cells #[.slice a0 n0 c0, .int .i64 t, .slice a2 n2 c2, .slice a3 n3 c3, .slice a4 n4 c4, .int .i64 la, .int .i64 up] 29)).alloc (.cells #[.slice none 0 0, .int .i64 0, .slice none 0 0, .slice none 0 0, .slice none 0 0, .int .i64 0, .int .i64 0] 29) := ⟨_, rfl⟩
  have B0 : Below w.heap.size w W := by rw [hW]; exact ((Below.refl _ _).alloc (Nat.le_refl _) _).alloc (by simp) _
  have b0 : W.heap[w.heap.size]? = some (.cells #[.slice a0 n0 c0, .int .i64 t, .slice a2 n2 c2, .slice a3 n3 c3, .slice a4 n4 c4, .int .i64 la, .int .i64 up] 29 (0, 0)) := by rw [hW]; exact blk_alloc (heap_alloc_new w _) _
  have b1 : W.heap[w.heap.size + 1]? = some (.cells #[.slice none 0 0, .int .i64 0, .slice none 0 0, .slice none 0 0, .slice none 0 0, .int .i64 0, .int .i64 0] 29 (0, 0)) := by
    rw [hW]
    have q := heap_alloc_new (w.alloc (.cells #[.slice a0 n0 c0, .int .i64 t, .slice a2 n2 c2, .slice a3 n3 c3, .slice a4 n4 c4, .int .i64 la, .int .i64 up] 29)) (.cells #[.slice none 0 0, .int .i64 0, .slice none 0 0, .slice none 0 0, .slice none 0 0, .int .i64 0, .int .i64 0] 29)
    simpa only [World.size_alloc] using q
  have zW : W.heap.size = w.heap.size + 2 := by rw [hW]; simp
  obtain ⟨PB, hPB⟩ : ∃ b, gkB (src, t, pd, ps, ou, la, up) = b := ⟨_, rfl⟩
  obtain ⟨XB, hXB⟩ : ∃ b, ssB (src, t, pd, ps, ou, la, up) k = b := ⟨_, rfl⟩
  obtain ⟨XX, hXX⟩ : ∃ b, ssX (src, t, pd, ps, ou, la, up) k = b := ⟨_, rfl⟩
  have KG := Hid.mk (specGoodSink a0 n0 c0 a2 n2 c2 a3 n3 c3 a4 n4 c4 t la up src pd ps ou W hnc h0 h2 h3 h4 hb0 hb2 hb3 hb4 hsm (At.below ha0 B0) (At.below ha2 B0) (AtSl.below ha3 B0) (At.below ha4 B0))
  rw [hPB] at KG
  rw [hXB, hXX]
  have HPB := Hid.mk hPB
  have HXB := Hid.mk hXB
  have HXX := Hid.mk hXX
  have H0 := Hid.mk h0
  have H2 := Hid.mk h2
  have H3 := Hid.mk h3
  have H4 := Hid.mk h4
  have HSM := Hid.mk hsm
  have HA0 := Hid.mk (At.below ha0 B0)
  have HA2 := Hid.mk (At.below ha2 B0)
  have HA3 := Hid.mk (AtSl.below ha3 B0)
  have HA4 := Hid.mk (At.below ha4 B0)
  have p0 := blk_cell b0 0 (v := .slice a0 n0 c0) rfl
  have p1 := blk_cell b0 1 (v := .int .i64 t) rfl
  have p2 := blk_cell b0 2 (v := .slice a2 n2 c2) rfl
  have p3 := blk_cell b0 3 (v := .slice a3 n3 c3) rfl
  have p4 := blk_cell b0 4 (v := .slice a4 n4 c4) rfl
  have p5 := blk_cell b0 5 (v := .int .i64 la) rfl
  have p6 := blk_cell b0 6 (v := .int .i64 up) rfl
  clear ha0 ha2 ha3 ha4 h0 h2 h3 h4 hsm hPB hXB hXX
  go_enter Try.func7, Try.ntmps7
  go_upto_region 1 with fail
  rw [← hW]
  clear hW
  go_wp2_with fail
  refine KG.out.mono ?_
  rintro e w1 ⟨rfl, hb1⟩
  have b0 := blk_below b0 hb1
  have b1 := blk_below b1 hb1
  have z1 := hb1.size
  have B1 := B0.trans (hb1.mono B0.size)
  have BW1 := Hid.mk hb1
  clear hb1 KG p0 p1 p2 p3 p4 p5 p6
  cases PB with
  | false =>
    have hB0 : ssB (src, t, pd, ps, ou, la, up) k = false := by unfold ssB; rw [HPB.out]; rfl
    obtain rfl : false = XB := by rw [← HXB.out, hB0]
    obtain rfl : newK [] = XX := by rw [← HXX.out]; unfold ssX; rw [hB0]; rfl
    clear hB0
    have y0 := blk_cell b1 0 (v := .slice none 0 0) rfl
    have y1 := blk_cell b1 1 (v := .int .i64 0) rfl
    have y2 := blk_cell b1 2 (v := .slice none 0 0) rfl
    have y3 := blk_cell b1 3 (v := .slice none 0 0) rfl
    have y4 := blk_cell b1 4 (v := .slice none 0 0) rfl
    have y5 := blk_cell b1 5 (v := .int .i64 0) rfl
    have y6 := blk_cell b1 6 (v := .int .i64 0) rfl
    have fz0 := blk_frozen b1 0
    have fz1 := blk_frozen b1 1
    have fz2 := blk_frozen b1 2
    have fz3 := blk_frozen b1 3
    have fz4 := blk_frozen b1 4
    have fz5 := blk_frozen b1 5
    have fz6 := blk_frozen b1 6
    go_wp2
    refine bodyPost_ret (v := .tuple #[.agg #[.slice none 0 0, .int .i64 0, .slice none 0 0, .slice none 0 0, .slice none 0 0, .int .i64 0, .int .i64 0], .bool false]) (by simp [results, Try.results7, go_sem, y0, y1, y2, y3, y4, y5, y6]) rfl ⟨⟨none, 0, 0, none, 0, 0, none, 0, 0, none, 0, 0, rfl, RSink.void _ _⟩, ?_⟩
    exact ((((((B1.setCell (Nat.le_succ _) _).setCell (Nat.le_succ _) _).setCell (Nat.le_succ _) _).setCell (Nat.le_succ _) _).setCell (Nat.le_succ _) _).setCell (Nat.le_succ _) _).setCell (Nat.le_succ _) _
  | true =>
    have hssB : ssB (src, t, pd, ps, ou, la, up) k = (stK (src, t, pd, ps, ou, la, up) k).2 := by unfold ssB; rw [HPB.out]; rfl
    have HDP := Hid.mk (gk_DP HPB.out)
    have HSS := Hid.mk (stK_small k (gk_DP HPB.out))
    obtain ⟨⟨zsrc, zt, zpd, zps, zou, zl, zu⟩, hz⟩ : ∃ z, (stK (src, t, pd, ps, ou, la, up) k).1 = z := ⟨_, rfl⟩
    obtain ⟨OK, hok⟩ : ∃ z, (stK (src, t, pd, ps, ou, la, up) k).2 = z := ⟨_, rfl⟩
    rw [hok] at hssB
    rw [hz] at HSS
    obtain rfl : OK = XB := by rw [← HXB.out, hssB]
    have HZX : Hid (XX = if OK then (zsrc, zt, zpd, zps, zou, zl, zu) else newK []) := Hid.mk (by rw [← HXX.out]; unfold ssX; rw [hssB, hz])
    have HZ := Hid.mk hz
    have HOK := Hid.mk hok
    clear hssB hz hok
    have p0 := blk_cell b0 0 (v := .slice a0 n0 c0) rfl
    have p1 := blk_cell b0 1 (v := .int .i64 t) rfl
    have p2 := blk_cell b0 2 (v := .slice a2 n2 c2) rfl
    have p3 := blk_cell b0 3 (v := .slice a3 n3 c3) rfl
    have p4 := blk_cell b0 4 (v := .slice a4 n4 c4) rfl
    have p5 := blk_cell b0 5 (v := .int .i64 la) rfl
    have p6 := blk_cell b0 6 (v := .int .i64 up) rfl
    have KO := Hid.mk (l16Own_any a0 n0 c0 a2 n2 c2 a3 n3 c3 a4 n4 c4 t la up src pd ps ou w1 H0.out H2.out H3.out H4.out hb0 hb2 hb3 hb4 hF0 hF2 hF3 hF4 HSM.out (At.below HA0.out BW1.out) (At.below HA2.out BW1.out) (AtSl.below HA3.out BW1.out) (At.below HA4.out BW1.out))
    go_wp2_with fail
    refine KO.out.mono ?_
    rintro e w2 ⟨ra0, ma0, da0, ra2, ma2, da2, ra3, ma3, da3, ra4, ma4, da4, rfl, ho2, hb2⟩
    simp only at ho2
    have b0 := blk_below b0 hb2
    have b1 := blk_below b1 hb2
    have z2 := hb2.size
    have B2 := B1.trans (hb2.mono B1.size)
    have KR := Hid.mk (l16Step_any (From w1.heap.size w2.heap.size) ra0 ma0 da0 ra2 ma2 da2 ra3 ma3 da3 ra4 ma4 da4 t la up k src pd ps ou w2 (fun b h => h.2) HDP.out ho2)
    rw [HOK.out, HZ.out] at KR
    clear ho2 hb2 KO p0 p1 p2 p3 p4 p5 p6
    go_wp2_with fail
    refine KR.out.mono ?_
    rintro e w3 ⟨rb0, mb0, db0, rb2, mb2, db2, rb3, mb3, db3, rb4, mb4, db4, rfl, ho3, hO3⟩
    simp only at ho3
    have z3 := hO3.size
    have b0 := (hO3.block w.heap.size (by omega) (fun h => by have := h.1; omega)).trans b0
    have b1 := (hO3.block (w.heap.size + 1) (by omega) (fun h => by have := h.1; omega)).trans b1
    have B3 : Below w.heap.size w w3 := B2.trans (hO3.belowOf (fun b h => by have := h.1; omega) (by omega))
    obtain ⟨X3, hX3⟩ : ∃ u, u = w3.alloc (.cells #[.slice rb0 mb0 db0, .int .i64 zt, .slice rb2 mb2 db2, .slice rb3 mb3 db3, .slice rb4 mb4 db4, .int .i64 zl, .int .i64 zu] 29) := ⟨_, rfl⟩
    have bX3 : Below w3.heap.size w3 X3 := by rw [hX3]; exact (Below.refl _ _).alloc (Nat.le_refl _) _
    have x0 : X3.heap[w3.heap.size]? = some (.cells #[.slice rb0 mb0 db0, .int .i64 zt, .slice rb2 mb2 db2, .slice rb3 mb3 db3, .slice rb4 mb4 db4, .int .i64 zl, .int .i64 zu] 29 (0, 0)) := by rw [hX3]; exact heap_alloc_new w3 _
    have zX3 := bX3.size
    have b0 := blk_below b0 bX3
    have b1 := blk_below b1 bX3
    have BX3 := B3.trans (bX3.mono B3.size)
    have hat := RSink.at_iff ho3
    have HT0 := Hid.mk hat.1
    have HT2 := Hid.mk hat.2.1
    have HT3 := Hid.mk hat.2.2.1
    have HT4 := Hid.mk hat.2.2.2
    have hm0 : mb0 ≤ 1048576 := by have := HSS.out.1; have := hat.1.1; simp only at *; omega
    have hm2 : mb2 ≤ 1048576 := by have := HSS.out.2.1; have := hat.2.1.1; simp only at *; omega
    have hm3 : mb3 ≤ 1048576 := by have := HSS.out.2.2.1; have := hat.2.2.1.1; simp only at *; omega
    have hm4 : mb4 ≤ 1048576 := by have := HSS.out.2.2.2.1; have := hat.2.2.2.1; simp only at *; omega
    have KO2 := Hid.mk (l16Own_any rb0 mb0 db0 rb2 mb2 db2 rb3 mb3 db3 rb4 mb4 db4 zt zl zu zsrc zpd zps zou X3 HT0.out.1 HT2.out.1 HT3.out.1 HT4.out.1 hm0 hm2 hm3 hm4 HT0.out.2.2.2 HT2.out.2.2.2 HT3.out.2.2.2 HT4.out.2.2.2 (SM_cost HSS.out) (At.below HT0.out.2.2.1 bX3) (At.below HT2.out.2.2.1 bX3) (AtSl.below HT3.out.2.2.1 bX3) (At.below HT4.out.2.2.1 bX3))
    have p0 := blk_cell x0 0 (v := .slice rb0 mb0 db0) rfl
    have p1 := blk_cell x0 1 (v := .int .i64 zt) rfl
    have p2 := blk_cell x0 2 (v := .slice rb2 mb2 db2) rfl
    have p3 := blk_cell x0 3 (v := .slice rb3 mb3 db3) rfl
    have p4 := blk_cell x0 4 (v := .slice rb4 mb4 db4) rfl
    have p5 := blk_cell x0 5 (v := .int .i64 zl) rfl
    have p6 := blk_cell x0 6 (v := .int .i64 zu) rfl
    clear ho3 hO3 KR bX3 hat
    go_upto_region 4 with fail
    rw [← hX3]
    clear hX3
    cases OK with
    | false =>
      obtain rfl : XX = newK [] := HZX.out
      have y0 := blk_cell b1 0 (v := .slice none 0 0) rfl
      have y1 := blk_cell b1 1 (v := .int .i64 0) rfl
      have y2 := blk_cell b1 2 (v := .slice none 0 0) rfl
      have y3 := blk_cell b1 3 (v := .slice none 0 0) rfl
      have y4 := blk_cell b1 4 (v := .slice none 0 0) rfl
      have y5 := blk_cell b1 5 (v := .int .i64 0) rfl
      have y6 := blk_cell b1 6 (v := .int .i64 0) rfl
      have fz0 := blk_frozen b1 0
      have fz1 := blk_frozen b1 1
      have fz2 := blk_frozen b1 2
      have fz3 := blk_frozen b1 3
      have fz4 := blk_frozen b1 4
      have fz5 := blk_frozen b1 5
      have fz6 := blk_frozen b1 6
      go_wp2
      refine bodyPost_ret (v := .tuple #[.agg #[.slice none 0 0, .int .i64 0, .slice none 0 0, .slice none 0 0, .slice none 0 0, .int .i64 0, .int .i64 0], .bool false]) (by simp [results, Try.results7, go_sem, y0, y1, y2, y3, y4, y5, y6]) rfl ⟨⟨none, 0, 0, none, 0, 0, none, 0, 0, none, 0, 0, rfl, RSink.void _ _⟩, ?_⟩
      exact ((((((BX3.setCell (Nat.le_succ _) _).setCell (Nat.le_succ _) _).setCell (Nat.le_succ _) _).setCell (Nat.le_succ _) _).setCell (Nat.le_succ _) _).setCell (Nat.le_succ _) _).setCell (Nat.le_succ _) _
    | true =>
      obtain rfl : XX = (zsrc, zt, zpd, zps, zou, zl, zu) := HZX.out
      go_wp2_with fail
      refine KO2.out.mono ?_
      rintro e w5 ⟨rc0, mc0, dc0, rc2, mc2, dc2, rc3, mc3, dc3, rc4, mc4, dc4, rfl, ho5, hb5⟩
      simp only at ho5
      have b1 := blk_below b1 hb5
      have z5 := hb5.size
      have B5 : Below w.heap.size w w5 := BX3.trans (hb5.mono BX3.size)
      have HO5 := Hid.mk ho5
      clear p0 p1 p2 p3 p4 p5 p6 ho5 hb5 KO2 x0
      have y0 := blk_cell b1 0 (v := .slice none 0 0) rfl
      have y1 := blk_cell b1 1 (v := .int .i64 0) rfl
      have y2 := blk_cell b1 2 (v := .slice none 0 0) rfl
      have y3 := blk_cell b1 3 (v := .slice none 0 0) rfl
      have y4 := blk_cell b1 4 (v := .slice none 0 0) rfl
      have y5 := blk_cell b1 5 (v := .int .i64 0) rfl
      have y6 := blk_cell b1 6 (v := .int .i64 0) rfl
      have fz0 := blk_frozen b1 0
      have fz1 := blk_frozen b1 1
      have fz2 := blk_frozen b1 2
      have fz3 := blk_frozen b1 3
      have fz4 := blk_frozen b1 4
      have fz5 := blk_frozen b1 5
      have fz6 := blk_frozen b1 6
      obtain ⟨Y, hY⟩ : ∃ u, u = stores w5 (w.heap.size + 1) 0 [.slice rc0 mc0 dc0, .int .i64 zt, .slice rc2 mc2 dc2, .slice rc3 mc3 dc3, .slice rc4 mc4 dc4, .int .i64 zl, .int .i64 zu] := ⟨_, rfl⟩
      have S : Off (fun b => b = w.heap.size + 1) w5 Y := by rw [hY]; exact stores_off (F := fun b => b = w.heap.size + 1) _ _ _ _ rfl
      have zY : Y.heap.size = w5.heap.size := by rw [hY]; exact stores_size _ _ _ _
      have D : Below w.heap.size w Y := by rw [hY]; exact stores_below _ _ _ _ B5 (Nat.le_succ _)
      have R : Hid (SinkRet (.returned (.tuple #[.agg #[.slice rc0 mc0 dc0, .int .i64 zt, .slice rc2 mc2 dc2, .slice rc3 mc3 dc3, .slice rc4 mc4 dc4, .int .i64 zl, .int .i64 zu], .bool true])) Y w.heap.size true (zsrc, zt, zpd, zps, zou, zl, zu) ∧ Below w.heap.size w Y) := Hid.mk
        ⟨⟨rc0, mc0, dc0, rc2, mc2, dc2, rc3, mc3, dc3, rc4, mc4, dc4, rfl, RSink.mono (RSink.ownOff HO5.out S (fun b h e => by
          have h2 : b = w.heap.size + 1 := e
          have := h.1
          omega)) (fun b h => ⟨by have := h.1; omega, by have := h.2; omega⟩)⟩, D⟩
      clear D
      have HY := Hid.mk hY
      clear S hY zY HO5 b1 B5 B3 B2 B1 B0 BX3
      go_wp2
      refine bodyPost_ret (v := .tuple #[.agg #[.slice rc0 mc0 dc0, .int .i64 zt, .slice rc2 mc2 dc2, .slice rc3 mc3 dc3, .slice rc4 mc4 dc4, .int .i64 zl, .int .i64 zu], .bool true]) (by simp [results, Try.results7, go_sem, y0, y1, y2, y3, y4, y5, y6]) rfl ?_
      have h := R.out
      rw [HY.out] at h
      exact h

end Go.Proofs.Ytmbjmmnodcebbaa
