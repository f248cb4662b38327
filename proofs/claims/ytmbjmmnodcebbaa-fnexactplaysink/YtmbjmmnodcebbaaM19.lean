/- Several texts of one proof, in build order: SsI, TeK. -/
import Derived.Test.YtmbjmmnodcebbaaM17
import Derived.Test.YtmbjmmnodcebbaaM18
import Derived.Test.YtmbjmmnodcebbaaM5

/- Contract of the program's StepSink, over whatever tear tells. -/
namespace Go.Proofs.Ytmbjmmnodcebbaa
open Go.RowKit

/-- What tear tells, as the document asks. -/
def TearC : Prop := ∀ (F : Nat → Prop) (a0 : Option Addr) (n0 c0 : Nat) (a2 : Option Addr) (n2 c2 : Nat) (a3 : Option Addr) (n3 c3 : Nat) (a4 : Option Addr) (n4 c4 : Nat) (t la up : Int) (src pd : List Int) (ps : List TPrepared) (ou : List Int) (w : World), DP (src, t, pd, ps, ou, la, up) → (∀ b, F b → b < w.heap.size) → RSink.Own w F [.slice a0 n0 c0, .int .i64 t, .slice a2 n2 c2, .slice a3 n3 c3, .slice a4 n4 c4, .int .i64 la, .int .i64 up] (src, t, pd, ps, ou, la, up) →
  Calls Try.prog 55 #[.agg #[.slice a0 n0 c0, .int .i64 t, .slice a2 n2 c2, .slice a3 n3 c3, .slice a4 n4 c4, .int .i64 la, .int .i64 up]] w fun e w' => KRet e w w' F (stK (src, t, pd, ps, ou, la, up) 5).2 (stK (src, t, pd, ps, ou, la, up) 5).1

set_option maxRecDepth 100000 in
set_option maxHeartbeats 2000000 in
theorem implStepSink_of (hT : TearC) (a0 : Option Addr) (n0 c0 : Nat) (a2 : Option Addr) (n2 c2 : Nat) (a3 : Option Addr) (n3 c3 : Nat) (a4 : Option Addr) (n4 c4 : Nat) (t la up k : Int) (src pd : List Int) (ps : List TPrepared) (ou : List Int) (w : World) (hnc : n0 ≤ c0) (h0 : src.length = n0) (h2 : pd.length = n2) (h3 : ps.length = n3) (h4 : ou.length = n4) (hb0 : n0 ≤ 1048576) (hb2 : n2 ≤ 1048576) (hb3 : n3 ≤ 1048576) (hb4 : n4 ≤ 1048576) (hsm : ∀ (i : Nat) (x : TPrepared), ps[i]? = some x → costPrepared x ≤ 1048576)
    (ha0 : At w a0 src) (ha2 : At w a2 pd) (ha3 : AtSl RPrepared w a3 ps) (ha4 : At w a4 ou) (hF0 : a0 = none → c0 = 0) (hF2 : a2 = none → c2 = 0) (hF3 : a3 = none → c3 = 0) (hF4 : a4 = none → c4 = 0) :
    Calls Try.prog 9 #[.agg #[.slice a0 n0 c0, .int .i64 t, .slice a2 n2 c2, .slice a3 n3 c3, .slice a4 n4 c4, .int .i64 la, .int .i64 up], .int .i64 k] w fun e w' => SinkRet e w' w.heap.size (ssB (src, t, pd, ps, ou, la, up) k) (ssX (src, t, pd, ps, ou, la, up) k) ∧ Below w.heap.size w w' := by
  obtain ⟨W, hW⟩ : ∃ W, W = (w.alloc (.cells #[.slice a0 n0 c0, .int .i64 t, .slice a2 n2 c2, .slice a3 n3 c3, .slice a4 n4 c4, .int .i64 la, .int .i64 up] 29)).alloc (.cells #[.slice none 0 0, .int .i64 0, .slice none 0 0, .slice none 0 0, .slice none 0 0, .int .i64 0, .int .i64 0] 29) := ⟨_, rfl⟩
  have B0 : Below w.heap.size w W := by rw [hW]; exact ((Below.refl _ _).alloc (Nat.le_refl _) _).alloc (by simp) _
  have b0 : W.heap[w.heap.size]? = some (.cells #[.slice a0 n0 c0, .int .i64 t, .slice a2 n2 c2, .slice a3 n3 c3, .slice a4 n4 c4, .int .i64 la, .int .i64 up] 29 (0, 0)) := by rw [hW]; exact blk_alloc (heap_alloc_new w _) _
  have b1 : W.heap[w.heap.size + 1]? = some (.cells #[.slice none 0 0, .int .i64 0, .slice none 0 0, .slice none 0 0, .slice none 0 0, .int .i64 0, .int .i64 0] 29 (0, 0)) := by
    rw [hW]
    have q := heap_alloc_new (w.alloc (.cells #[.slice a0 n0 c0, .int .i64 t, .slice a2 n2 c2, .slice a3 n3 c3, .slice a4 n4 c4, .int .i64 la, .int .i64 up] 29)) (.cells #[.slice none 0 0, .int .i64 0, .slice none 0 0, .slice none 0 0, .slice none 0 0, .int .i64 0, .int .i64 0] 29)
    simpa only [World.size_alloc] using q
  have zW : W.heap.size = w.heap.size + 2 := by rw [hW]; simp
  obtain ⟨PB, hPB⟩ : ∃ b, gkB (src, t, pd, ps, ou, la, up) = b := ⟨_, rfl⟩
  obtain ⟨XB, hXB⟩ : ∃ b, ssB (src, t, pd, ps, ou, la, up) k = b := ⟨_, rfl⟩
  obtain ⟨XX, hXX⟩ : ∃ b, ssX (src, t, pd, ps, ou, la, up) k = b := ⟨_, rfl⟩
  have KG := Hid.mk (implGoodSink a0 n0 c0 a2 n2 c2 a3 n3 c3 a4 n4 c4 t la up src pd ps ou W hnc h0 h2 h3 h4 hb0 hb2 hb3 hb4 hsm (At.below ha0 B0) (At.below ha2 B0) (AtSl.below ha3 B0) (At.below ha4 B0))
  rw [hPB] at KG
  rw [hXB, hXX]
  have HPB := Hid.mk hPB
  have HXB := Hid.mk hXB
  have HXX := Hid.mk hXX
  have H0 := Hid.mk h0
  have H2 := Hid.mk h2
  have H3 := Hid.mk h3
  have H4 := Hid.mk h4
  have HSM := Hid.mk hsm
  have HA0 := Hid.mk (At.below ha0 B0)
  have HA2 := Hid.mk (At.below ha2 B0)
  have HA3 := Hid.mk (AtSl.below ha3 B0)
  have HA4 := Hid.mk (At.below ha4 B0)
  have p0 := blk_cell b0 0 (v := .slice a0 n0 c0) rfl
  have p1 := blk_cell b0 1 (v := .int .i64 t) rfl
  have p2 := blk_cell b0 2 (v := .slice a2 n2 c2) rfl
  have p3 := blk_cell b0 3 (v := .slice a3 n3 c3) rfl
  have p4 := blk_cell b0 4 (v := .slice a4 n4 c4) rfl
  have p5 := blk_cell b0 5 (v := .int .i64 la) rfl
  have p6 := blk_cell b0 6 (v := .int .i64 up) rfl
  clear ha0 ha2 ha3 ha4 h0 h2 h3 h4 hsm hPB hXB hXX
  go_enter Try.func9, Try.ntmps9
  go_upto_region 1 with fail
  rw [← hW]
  clear hW
  go_wp2_with fail
  refine KG.out.mono ?_
  rintro e w1 ⟨rfl, hb1⟩
  have b0 := blk_below b0 hb1
  have b1 := blk_below b1 hb1
  have z1 := hb1.size
  have B1 := B0.trans (hb1.mono B0.size)
  have BW1 := Hid.mk hb1
  clear hb1 KG p0 p1 p2 p3 p4 p5 p6
  cases PB with
  | false =>
    have hB0 : ssB (src, t, pd, ps, ou, la, up) k = false := by unfold ssB; rw [HPB.out]; rfl
    obtain rfl : false = XB := by rw [← HXB.out, hB0]
    obtain rfl : newK [] = XX := by rw [← HXX.out]; unfold ssX; rw [hB0]; rfl
    clear hB0
    have y0 := blk_cell b1 0 (v := .slice none 0 0) rfl
    have y1 := blk_cell b1 1 (v := .int .i64 0) rfl
    have y2 := blk_cell b1 2 (v := .slice none 0 0) rfl
    have y3 := blk_cell b1 3 (v := .slice none 0 0) rfl
    have y4 := blk_cell b1 4 (v := .slice none 0 0) rfl
    have y5 := blk_cell b1 5 (v := .int .i64 0) rfl
    have y6 := blk_cell b1 6 (v := .int .i64 0) rfl
    have fz0 := blk_frozen b1 0
    have fz1 := blk_frozen b1 1
    have fz2 := blk_frozen b1 2
    have fz3 := blk_frozen b1 3
    have fz4 := blk_frozen b1 4
    have fz5 := blk_frozen b1 5
    have fz6 := blk_frozen b1 6
    go_wp2
    refine bodyPost_ret (v := .tuple #[.agg #[.slice none 0 0, .int .i64 0, .slice none 0 0, .slice none 0 0, .slice none 0 0, .int .i64 0, .int .i64 0], .bool false]) (by simp [results, Try.results9, go_sem, y0, y1, y2, y3, y4, y5, y6]) rfl ⟨⟨none, 0, 0, none, 0, 0, none, 0, 0, none, 0, 0, rfl, RSink.void _ _⟩, ?_⟩
    exact ((((((B1.setCell (Nat.le_succ _) _).setCell (Nat.le_succ _) _).setCell (Nat.le_succ _) _).setCell (Nat.le_succ _) _).setCell (Nat.le_succ _) _).setCell (Nat.le_succ _) _).setCell (Nat.le_succ _) _
  | true =>
    have hssB : ssB (src, t, pd, ps, ou, la, up) k = (stK (src, t, pd, ps, ou, la, up) k).2 := by unfold ssB; rw [HPB.out]; rfl
    have HDP := Hid.mk (gk_DP HPB.out)
    have HSS := Hid.mk (stK_small k (gk_DP HPB.out))
    obtain ⟨⟨zsrc, zt, zpd, zps, zou, zl, zu⟩, hz⟩ : ∃ z, (stK (src, t, pd, ps, ou, la, up) k).1 = z := ⟨_, rfl⟩
    obtain ⟨OK, hok⟩ : ∃ z, (stK (src, t, pd, ps, ou, la, up) k).2 = z := ⟨_, rfl⟩
    rw [hok] at hssB
    rw [hz] at HSS
    obtain rfl : OK = XB := by rw [← HXB.out, hssB]
    have HZX : Hid (XX = if OK then (zsrc, zt, zpd, zps, zou, zl, zu) else newK []) := Hid.mk (by rw [← HXX.out]; unfold ssX; rw [hssB, hz])
    have HZ := Hid.mk hz
    have HOK := Hid.mk hok
    clear hssB hz hok
    have p0 := blk_cell b0 0 (v := .slice a0 n0 c0) rfl
    have p1 := blk_cell b0 1 (v := .int .i64 t) rfl
    have p2 := blk_cell b0 2 (v := .slice a2 n2 c2) rfl
    have p3 := blk_cell b0 3 (v := .slice a3 n3 c3) rfl
    have p4 := blk_cell b0 4 (v := .slice a4 n4 c4) rfl
    have p5 := blk_cell b0 5 (v := .int .i64 la) rfl
    have p6 := blk_cell b0 6 (v := .int .i64 up) rfl
    have KC := Hid.mk (copySink_any a0 n0 c0 a2 n2 c2 a3 n3 c3 a4 n4 c4 t la up src pd ps ou w1 H0.out H2.out H3.out H4.out hb0 hb2 hb3 hb4 hF0 hF2 hF3 hF4 HSM.out (At.below HA0.out BW1.out) (At.below HA2.out BW1.out) (AtSl.below HA3.out BW1.out) (At.below HA4.out BW1.out))
    go_wp2_with fail
    refine KC.out.mono ?_
    rintro e w2 ⟨ra0, ma0, da0, ra2, ma2, da2, ra3, ma3, da3, ra4, ma4, da4, rfl, ho2, hb2⟩
    simp only at ho2
    have b0 := blk_below b0 hb2
    have b1 := blk_below b1 hb2
    have z2 := hb2.size
    have B2 := B1.trans (hb2.mono B1.size)
    have KR := Hid.mk (take_any (From w1.heap.size w2.heap.size) ra0 ma0 da0 ra2 ma2 da2 ra3 ma3 da3 ra4 ma4 da4 t la up k src pd ps ou w2 (fun b h => h.2) HDP.out (fun w' h1 h2 => hT _ _ _ _ _ _ _ _ _ _ _ _ _ t la up src pd ps ou w' HDP.out h1 h2) ho2)
    rw [HOK.out, HZ.out] at KR
    clear ho2 hb2 KC p0 p1 p2 p3 p4 p5 p6
    go_wp2_with fail
    refine KR.out.mono ?_
    rintro e w3 ⟨rb0, mb0, db0, rb2, mb2, db2, rb3, mb3, db3, rb4, mb4, db4, rfl, ho3, hO3⟩
    simp only at ho3
    have z3 := hO3.size
    have b0 := (hO3.block w.heap.size (by omega) (fun h => by have := h.1; omega)).trans b0
    have b1 := (hO3.block (w.heap.size + 1) (by omega) (fun h => by have := h.1; omega)).trans b1
    have B3 : Below w.heap.size w w3 := B2.trans (hO3.belowOf (fun b h => by have := h.1; omega) (by omega))
    obtain ⟨X3, hX3⟩ : ∃ u, u = w3.alloc (.cells #[.slice rb0 mb0 db0, .int .i64 zt, .slice rb2 mb2 db2, .slice rb3 mb3 db3, .slice rb4 mb4 db4, .int .i64 zl, .int .i64 zu] 29) := ⟨_, rfl⟩
    have bX3 : Below w3.heap.size w3 X3 := by rw [hX3]; exact (Below.refl _ _).alloc (Nat.le_refl _) _
    have x0 : X3.heap[w3.heap.size]? = some (.cells #[.slice rb0 mb0 db0, .int .i64 zt, .slice rb2 mb2 db2, .slice rb3 mb3 db3, .slice rb4 mb4 db4, .int .i64 zl, .int .i64 zu] 29 (0, 0)) := by rw [hX3]; exact heap_alloc_new w3 _
    have zX3 := bX3.size
    have b0 := blk_below b0 bX3
    have b1 := blk_below b1 bX3
    have BX3 := B3.trans (bX3.mono B3.size)
    have HO3 := Hid.mk (RSink.ownBelow ho3 bX3)
    have p0 := blk_cell x0 0 (v := .slice rb0 mb0 db0) rfl
    have p1 := blk_cell x0 1 (v := .int .i64 zt) rfl
    have p2 := blk_cell x0 2 (v := .slice rb2 mb2 db2) rfl
    have p3 := blk_cell x0 3 (v := .slice rb3 mb3 db3) rfl
    have p4 := blk_cell x0 4 (v := .slice rb4 mb4 db4) rfl
    have p5 := blk_cell x0 5 (v := .int .i64 zl) rfl
    have p6 := blk_cell x0 6 (v := .int .i64 zu) rfl
    clear ho3 hO3 KR bX3
    go_upto_region 4 with fail
    rw [← hX3]
    clear hX3
    cases OK with
    | false =>
      obtain rfl : XX = newK [] := HZX.out
      have y0 := blk_cell b1 0 (v := .slice none 0 0) rfl
      have y1 := blk_cell b1 1 (v := .int .i64 0) rfl
      have y2 := blk_cell b1 2 (v := .slice none 0 0) rfl
      have y3 := blk_cell b1 3 (v := .slice none 0 0) rfl
      have y4 := blk_cell b1 4 (v := .slice none 0 0) rfl
      have y5 := blk_cell b1 5 (v := .int .i64 0) rfl
      have y6 := blk_cell b1 6 (v := .int .i64 0) rfl
      have fz0 := blk_frozen b1 0
      have fz1 := blk_frozen b1 1
      have fz2 := blk_frozen b1 2
      have fz3 := blk_frozen b1 3
      have fz4 := blk_frozen b1 4
      have fz5 := blk_frozen b1 5
      have fz6 := blk_frozen b1 6
      go_wp2
      refine bodyPost_ret (v := .tuple #[.agg #[.slice none 0 0, .int .i64 0, .slice none 0 0, .slice none 0 0, .slice none 0 0, .int .i64 0, .int .i64 0], .bool false]) (by simp [results, Try.results9, go_sem, y0, y1, y2, y3, y4, y5, y6]) rfl ⟨⟨none, 0, 0, none, 0, 0, none, 0, 0, none, 0, 0, rfl, RSink.void _ _⟩, ?_⟩
      exact ((((((BX3.setCell (Nat.le_succ _) _).setCell (Nat.le_succ _) _).setCell (Nat.le_succ _) _).setCell (Nat.le_succ _) _).setCell (Nat.le_succ _) _).setCell (Nat.le_succ _) _).setCell (Nat.le_succ _) _
    | true =>
      obtain rfl : XX = (zsrc, zt, zpd, zps, zou, zl, zu) := HZX.out
      have y0 := blk_cell b1 0 (v := .slice none 0 0) rfl
      have y1 := blk_cell b1 1 (v := .int .i64 0) rfl
      have y2 := blk_cell b1 2 (v := .slice none 0 0) rfl
      have y3 := blk_cell b1 3 (v := .slice none 0 0) rfl
      have y4 := blk_cell b1 4 (v := .slice none 0 0) rfl
      have y5 := blk_cell b1 5 (v := .int .i64 0) rfl
      have y6 := blk_cell b1 6 (v := .int .i64 0) rfl
      have fz0 := blk_frozen b1 0
      have fz1 := blk_frozen b1 1
      have fz2 := blk_frozen b1 2
      have fz3 := blk_frozen b1 3
      have fz4 := blk_frozen b1 4
      have fz5 := blk_frozen b1 5
      have fz6 := blk_frozen b1 6
      obtain ⟨Y, hY⟩ : ∃ u, u = stores X3 (w.heap.size + 1) 0 [.slice rb0 mb0 db0, .int .i64 zt, .slice rb2 mb2 db2, .slice rb3 mb3 db3, .slice rb4 mb4 db4, .int .i64 zl, .int .i64 zu] := ⟨_, rfl⟩
      have S : Off (fun b => b = w.heap.size + 1) X3 Y := by rw [hY]; exact stores_off (F := fun b => b = w.heap.size + 1) _ _ _ _ rfl
      have zY : Y.heap.size = X3.heap.size := by rw [hY]; exact stores_size _ _ _ _
      have D : Below w.heap.size w Y := by rw [hY]; exact stores_below _ _ _ _ BX3 (Nat.le_succ _)
      have R : Hid (SinkRet (.returned (.tuple #[.agg #[.slice rb0 mb0 db0, .int .i64 zt, .slice rb2 mb2 db2, .slice rb3 mb3 db3, .slice rb4 mb4 db4, .int .i64 zl, .int .i64 zu], .bool true])) Y w.heap.size true (zsrc, zt, zpd, zps, zou, zl, zu) ∧ Below w.heap.size w Y) := Hid.mk
        ⟨⟨rb0, mb0, db0, rb2, mb2, db2, rb3, mb3, db3, rb4, mb4, db4, rfl, RSink.mono (RSink.ownOff HO3.out S (fun b h e => by
          have h2 : b = w.heap.size + 1 := e
          rcases h with h | h
          · have := h.1; omega
          · omega)) (fun b h => by
          rcases h with h | h
          · exact ⟨by have := h.1; omega, by have := h.2; omega⟩
          · exact ⟨by omega, by omega⟩)⟩, D⟩
      clear D
      have HY := Hid.mk hY
      clear S hY zY HO3 b1 B3 B2 B1 B0 BX3 x0
      go_wp2
      refine bodyPost_ret (v := .tuple #[.agg #[.slice rb0 mb0 db0, .int .i64 zt, .slice rb2 mb2 db2, .slice rb3 mb3 db3, .slice rb4 mb4 db4, .int .i64 zl, .int .i64 zu], .bool true]) (by simp [results, Try.results9, go_sem, y0, y1, y2, y3, y4, y5, y6]) rfl ?_
      have h := R.out
      rw [HY.out] at h
      exact h

end Go.Proofs.Ytmbjmmnodcebbaa

/- Contract of the program's tear. -/
namespace Go.Proofs.Ytmbjmmnodcebbaa
open Go.RowKit

set_option maxRecDepth 100000 in
set_option maxHeartbeats 2000000 in
theorem tear_no (F : Nat → Prop) (a0 : Option Addr) (n0 c0 : Nat) (a2 : Option Addr) (n2 c2 : Nat) (a3 : Option Addr) (n3 c3 : Nat) (a4 : Option Addr) (n4 c4 : Nat) (t la up : Int) (src pd : List Int) (ps : List TPrepared) (ou : List Int) (w : World) (h2 : n3 < 2) (ho : RSink.Own w F [.slice a0 n0 c0, .int .i64 t, .slice a2 n2 c2, .slice a3 n3 c3, .slice a4 n4 c4, .int .i64 la, .int .i64 up] (src, t, pd, ps, ou, la, up)) :
    Calls Try.prog 55 #[.agg #[.slice a0 n0 c0, .int .i64 t, .slice a2 n2 c2, .slice a3 n3 c3, .slice a4 n4 c4, .int .i64 la, .int .i64 up]] w fun e w' => KRet e w w' F false (src, t, pd, ps, ou, la, up) := by
  obtain ⟨W, hW⟩ : ∃ W, W = (w.alloc (.cells #[.slice a0 n0 c0, .int .i64 t, .slice a2 n2 c2, .slice a3 n3 c3, .slice a4 n4 c4, .int .i64 la, .int .i64 up] 29)).alloc (.cells #[.slice none 0 0, .int .i64 0, .slice none 0 0, .slice none 0 0, .slice none 0 0, .int .i64 0, .int .i64 0] 29) := ⟨_, rfl⟩
  have B0 : Below w.heap.size w W := by rw [hW]; exact ((Below.refl _ _).alloc (Nat.le_refl _) _).alloc (by simp) _
  have b0 : W.heap[w.heap.size]? = some (.cells #[.slice a0 n0 c0, .int .i64 t, .slice a2 n2 c2, .slice a3 n3 c3, .slice a4 n4 c4, .int .i64 la, .int .i64 up] 29 (0, 0)) := by rw [hW]; exact blk_alloc (heap_alloc_new w _) _
  have b1 : W.heap[w.heap.size + 1]? = some (.cells #[.slice none 0 0, .int .i64 0, .slice none 0 0, .slice none 0 0, .slice none 0 0, .int .i64 0, .int .i64 0] 29 (0, 0)) := by
    rw [hW]
    have q := heap_alloc_new (w.alloc (.cells #[.slice a0 n0 c0, .int .i64 t, .slice a2 n2 c2, .slice a3 n3 c3, .slice a4 n4 c4, .int .i64 la, .int .i64 up] 29)) (.cells #[.slice none 0 0, .int .i64 0, .slice none 0 0, .slice none 0 0, .slice none 0 0, .int .i64 0, .int .i64 0] 29)
    simpa only [World.size_alloc] using q
  have zW : W.heap.size = w.heap.size + 2 := by rw [hW]; simp
  have p0 := blk_cell b0 0 (v := .slice a0 n0 c0) rfl
  have p1 := blk_cell b0 1 (v := .int .i64 t) rfl
  have p2 := blk_cell b0 2 (v := .slice a2 n2 c2) rfl
  have p3 := blk_cell b0 3 (v := .slice a3 n3 c3) rfl
  have p4 := blk_cell b0 4 (v := .slice a4 n4 c4) rfl
  have p5 := blk_cell b0 5 (v := .int .i64 la) rfl
  have p6 := blk_cell b0 6 (v := .int .i64 up) rfl
  have y0 := blk_cell b1 0 (v := .slice none 0 0) rfl
  have y1 := blk_cell b1 1 (v := .int .i64 0) rfl
  have y2 := blk_cell b1 2 (v := .slice none 0 0) rfl
  have y3 := blk_cell b1 3 (v := .slice none 0 0) rfl
  have y4 := blk_cell b1 4 (v := .slice none 0 0) rfl
  have y5 := blk_cell b1 5 (v := .int .i64 0) rfl
  have y6 := blk_cell b1 6 (v := .int .i64 0) rfl
  have fz0 := blk_frozen b1 0
  have fz1 := blk_frozen b1 1
  have fz2 := blk_frozen b1 2
  have fz3 := blk_frozen b1 3
  have fz4 := blk_frozen b1 4
  have fz5 := blk_frozen b1 5
  have fz6 := blk_frozen b1 6
  have h2i : (n3 : Int) < 2 := by omega
  go_enter Try.func55, Try.ntmps55
  go_upto_region 1 with fail
  rw [← hW]
  clear hW
  go_upto_region 3 with fail
  obtain ⟨Y, hY⟩ : ∃ u, u = stores W (w.heap.size + 1) 0 [.slice a0 n0 c0, .int .i64 t, .slice a2 n2 c2, .slice a3 n3 c3, .slice a4 n4 c4, .int .i64 la, .int .i64 up] := ⟨_, rfl⟩
  have S : Off (fun b => b = w.heap.size + 1) W Y := by rw [hY]; exact stores_off (F := fun b => b = w.heap.size + 1) _ _ _ _ rfl
  have zY : Y.heap.size = W.heap.size := by rw [hY]; exact stores_size _ _ _ _
  have D : Below w.heap.size w Y := by rw [hY]; exact stores_below _ _ _ _ B0 (by omega)
  have R : Hid (KRet (.returned (.tuple #[.agg #[.slice a0 n0 c0, .int .i64 t, .slice a2 n2 c2, .slice a3 n3 c3, .slice a4 n4 c4, .int .i64 la, .int .i64 up], .bool false])) w Y F false (src, t, pd, ps, ou, la, up)) := Hid.mk
    ⟨a0, n0, c0, a2, n2, c2, a3, n3, c3, a4, n4, c4, rfl, RSink.mono (RSink.ownBelow ho D) (fun b h => .inl h), Off.below D⟩
  have HY := Hid.mk hY
  clear S hY zY D b0 b1 B0 zW
  go_wp2
  refine bodyPost_ret (v := .tuple #[.agg #[.slice a0 n0 c0, .int .i64 t, .slice a2 n2 c2, .slice a3 n3 c3, .slice a4 n4 c4, .int .i64 la, .int .i64 up], .bool false]) (by simp [results, Try.results55, go_sem, y0, y1, y2, y3, y4, y5, y6]) rfl ?_
  have h := R.out
  rw [HY.out] at h
  exact h

set_option maxRecDepth 100000 in
set_option maxHeartbeats 2000000 in
theorem tear_yes (F : Nat → Prop) (a0 : Option Addr) (n0 c0 : Nat) (a2 : Option Addr) (n2 c2 : Nat) (g m c3 : Nat) (a4 : Option Addr) (n4 c4 : Nat) (t la up : Int) (src pd : List Int) (ps : List TPrepared) (ou : List Int) (w : World) (hF : ∀ b, F b → b < w.heap.size) (h1 : 1 ≤ m) (hm : m + 1 ≤ 1048576) (ho : RSink.Own w F [.slice a0 n0 c0, .int .i64 t, .slice a2 n2 c2, .slice (some ⟨g, 0, none⟩) (m + 1) c3, .slice a4 n4 c4, .int .i64 la, .int .i64 up] (src, t, pd, ps, ou, la, up)) :
    Calls Try.prog 55 #[.agg #[.slice a0 n0 c0, .int .i64 t, .slice a2 n2 c2, .slice (some ⟨g, 0, none⟩) (m + 1) c3, .slice a4 n4 c4, .int .i64 la, .int .i64 up]] w fun e w' => KRet e w w' F true (src, upF up (ps.take m), [], ps.take m, ou, la, up) := by
  obtain ⟨N, hN⟩ : ∃ N, m + 1 = N := ⟨_, rfl⟩
  rw [hN] at ho ⊢
  obtain ⟨qs, hqs⟩ : ∃ qs, ps.take m = qs := ⟨_, rfl⟩
  rw [hqs]
  obtain ⟨W, hW⟩ : ∃ W, W = (w.alloc (.cells #[.slice a0 n0 c0, .int .i64 t, .slice a2 n2 c2, .slice (some ⟨g, 0, none⟩) N c3, .slice a4 n4 c4, .int .i64 la, .int .i64 up] 29)).alloc (.cells #[.slice none 0 0, .int .i64 0, .slice none 0 0, .slice none 0 0, .slice none 0 0, .int .i64 0, .int .i64 0] 29) := ⟨_, rfl⟩
  have B0 : Below w.heap.size w W := by rw [hW]; exact ((Below.refl _ _).alloc (Nat.le_refl _) _).alloc (by simp) _
  have b0 : W.heap[w.heap.size]? = some (.cells #[.slice a0 n0 c0, .int .i64 t, .slice a2 n2 c2, .slice (some ⟨g, 0, none⟩) N c3, .slice a4 n4 c4, .int .i64 la, .int .i64 up] 29 (0, 0)) := by rw [hW]; exact blk_alloc (heap_alloc_new w _) _
  have b1 : W.heap[w.heap.size + 1]? = some (.cells #[.slice none 0 0, .int .i64 0, .slice none 0 0, .slice none 0 0, .slice none 0 0, .int .i64 0, .int .i64 0] 29 (0, 0)) := by
    rw [hW]
    have q := heap_alloc_new (w.alloc (.cells #[.slice a0 n0 c0, .int .i64 t, .slice a2 n2 c2, .slice (some ⟨g, 0, none⟩) N c3, .slice a4 n4 c4, .int .i64 la, .int .i64 up] 29)) (.cells #[.slice none 0 0, .int .i64 0, .slice none 0 0, .slice none 0 0, .slice none 0 0, .int .i64 0, .int .i64 0] 29)
    simpa only [World.size_alloc] using q
  have zW : W.heap.size = w.heap.size + 2 := by rw [hW]; simp
  obtain ⟨F0, F2, F3, F4, h0, h2, h3, h4, f0, f2, f3, f4, d02, d03, d04, d23, d24, d34⟩ := RSink.own_iff ho
  obtain ⟨a3', n3', c3', cs, G, hcs, hL⟩ := h3
  simp only [List.cons.injEq, Value.slice.injEq, and_true] at hcs
  obtain ⟨rfl, rfl, rfl⟩ := hcs
  have hgF : F3 g := hL.outerF g rfl
  have hgN : g < w.heap.size := hF g (f3 g hgF)
  have hll : ps.length = N := (RSink.lens ho).2.2.2.2.1
  have hLX := hL.below B0
  have KD : Hid (Calls Try.prog 57 #[.slice (some ⟨g, 0, none⟩) N c3, .int .i64 (m : Nat), .int .i64 (N : Nat)] W fun e w' => e = .returned (.slice (some ⟨g, 0, none⟩) m c3) ∧ w'.ownsRow 0 64 3 (.slice (some ⟨g, 0, none⟩) m c3) m (cs.take (m * 3) ++ cs.drop ((m + 1) * 3)) ∧ Off (fun b => b = g) W w') := Hid.mk (by
    have q := deleteP_any g N c3 m cs W (by omega) (by omega) (LaidP.ones hLX) hLX.outer
    rw [show N - 1 = m by omega, hN] at q
    rw [hN]
    exact q)
  have HLX := Hid.mk hLX
  have HH0 := Hid.mk (RInts.ownBelow h0 B0)
  have HH2 := Hid.mk (RInts.ownBelow h2 B0)
  have HH4 := Hid.mk (RInts.ownBelow h4 B0)
  have hwr : IntKind.i64.wrap ((N : Int) - 1) = (m : Int) := by rw [IntWalk.i64_in _ (by omega)]; omega
  have h2i : ¬ ((N : Int) < 2) := by omega
  have HLL := Hid.mk hll
  have HN := Hid.mk hN
  have HQS := Hid.mk hqs
  have p0 := blk_cell b0 0 (v := .slice a0 n0 c0) rfl
  have p1 := blk_cell b0 1 (v := .int .i64 t) rfl
  have p2 := blk_cell b0 2 (v := .slice a2 n2 c2) rfl
  have p3 := blk_cell b0 3 (v := .slice (some ⟨g, 0, none⟩) N c3) rfl
  have p4 := blk_cell b0 4 (v := .slice a4 n4 c4) rfl
  have p5 := blk_cell b0 5 (v := .int .i64 la) rfl
  have p6 := blk_cell b0 6 (v := .int .i64 up) rfl
  clear hLX hll h0 h2 h4 hL ho hN hqs
  go_enter Try.func55, Try.ntmps55
  go_upto_region 1 with fail
  rw [← hW]
  clear hW
  go_upto_region 4 with fail
  go_wp2_with fail
  refine KD.out.mono ?_
  rintro e w1 ⟨rfl, ho1, hO1⟩
  have hpe : ps.eraseIdx m = qs := by rw [← HQS.out, List.eraseIdx_eq_take_drop_succ, List.drop_eq_nil_of_le (by have := HLL.out; have := HN.out; omega), List.append_nil]
  have HLD : Hid (Laid RPrepared w1 F3 64 (some ⟨g, 0, none⟩) m c3 qs (cs.take (m * 3) ++ cs.drop ((m + 1) * 3)) (fun j => G (if j < m then j else j + 1)) m) := Hid.mk (by
    have q0 := HLX.out
    have e := HN.out
    have q := laid_eraseIn (w' := w1) (i := m) q0 (by omega) (fun b hb hl => hO1.block b hl hb) (fun j => sub_cut (n := N) q0.outer.1 (by omega) j) (by rw [show N - 1 = m by omega]; exact ho1)
    rw [hpe, show N - 1 = m by omega] at q
    exact q)
  have z1 := hO1.size
  have k0 := (hO1.block w.heap.size (by omega) (fun e => by have h2 : w.heap.size = g := e; omega)).trans b0
  have k1 := (hO1.block (w.heap.size + 1) (by omega) (fun e => by have h2 : w.heap.size + 1 = g := e; omega)).trans b1
  have hgo : ∀ b, F3 b → (fun b => b = g) b ∨ True := fun _ _ => .inr trivial
  have HP0 := Hid.mk (RInts.ownOff HH0.out hO1 (fun b k e => d03 b k (by rw [show b = g from e]; exact hgF)))
  have HP2 := Hid.mk (RInts.ownOff HH2.out hO1 (fun b k e => d23 b k (by rw [show b = g from e]; exact hgF)))
  have HP4 := Hid.mk (RInts.ownOff HH4.out hO1 (fun b k e => d34 b (by rw [show b = g from e]; exact hgF) k))
  have HO : Off (fun b => F b ∨ w.heap.size ≤ b) w w1 := (Off.below B0).trans (hO1.mono (fun b e => .inl (by rw [show b = g from e]; exact f3 g hgF)))
  obtain ⟨X1, hX1⟩ : ∃ u, u = w1.setCell ⟨w.heap.size, 3, none⟩ (.slice (some ⟨g, 0, none⟩) m c3) := ⟨_, rfl⟩
  have e0 : X1.heap[w.heap.size]? = some (.cells #[.slice a0 n0 c0, .int .i64 t, .slice a2 n2 c2, .slice (some ⟨g, 0, none⟩) m c3, .slice a4 n4 c4, .int .i64 la, .int .i64 up] 29 (0, 0)) := by rw [hX1]; exact blk_set k0 3 _
  have e1 : X1.heap[w.heap.size + 1]? = some (.cells #[.slice none 0 0, .int .i64 0, .slice none 0 0, .slice none 0 0, .slice none 0 0, .int .i64 0, .int .i64 0] 29 (0, 0)) := by rw [hX1]; exact blk_other k1 (by simp) _
  have hS1 : Off (fun b => b = w.heap.size) w1 X1 := by rw [hX1]; exact Off.set (F := fun b => b = w.heap.size) (a := ⟨w.heap.size, 3, none⟩) rfl _
  have zX1 := hS1.size
  have ho2 : RSink.Own X1 F [.slice a0 n0 c0, .int .i64 t, .slice a2 n2 c2, .slice (some ⟨g, 0, none⟩) m c3, .slice a4 n4 c4, .int .i64 la, .int .i64 up] (src, t, pd, qs, ou, la, up) := RSink.ownOff (RSink.own_mk HP0.out HP2.out ⟨some ⟨g, 0, none⟩, m, c3, _, _, rfl, HLD.out⟩ HP4.out f0 f2 f3 f4 d02 d03 d04 d23 d24 d34) hS1 (fun b k e => by have h2 : b = w.heap.size := e; have := hF b k; omega)
  have KC := Hid.mk (crash_any F a0 n0 c0 a2 n2 c2 (some ⟨g, 0, none⟩) m c3 a4 n4 c4 t la up src pd qs ou X1 ho2)
  have HO2 := Hid.mk (HO.trans (hS1.mono (F' := fun b => F b ∨ w.heap.size ≤ b) (fun b e => .inr (by have h2 : b = w.heap.size := e; omega))))
  have q3 := blk_cell k0 3 (v := .slice (some ⟨g, 0, none⟩) N c3) rfl
  have g3 := blk_frozen k0 3
  clear p0 p1 p2 p3 p4 p5 p6 KD HLX HO HP0 HP2 HP4 HLD ho2 hS1 hO1 hpe hgo
  go_upto_region 5 with fail
  rw [← hX1]
  clear hX1 q3 g3
  have p0 := blk_cell e0 0 (v := .slice a0 n0 c0) rfl
  have p1 := blk_cell e0 1 (v := .int .i64 t) rfl
  have p2 := blk_cell e0 2 (v := .slice a2 n2 c2) rfl
  have p3 := blk_cell e0 3 (v := .slice (some ⟨g, 0, none⟩) m c3) rfl
  have p4 := blk_cell e0 4 (v := .slice a4 n4 c4) rfl
  have p5 := blk_cell e0 5 (v := .int .i64 la) rfl
  have p6 := blk_cell e0 6 (v := .int .i64 up) rfl
  go_wp2_with fail
  refine KC.out.mono ?_
  rintro e w2 ⟨r0, u0, d0, r2, u2, d2, r3, u3, d3, r4, u4, d4, rfl, ho3, hO3⟩
  simp only at ho3
  have e1 := (hO3.block (w.heap.size + 1) (by omega) (fun h => by have := hF _ h; omega)).trans e1
  have z3 := hO3.size
  have HO3 := Hid.mk ho3
  have HOF := Hid.mk (HO2.out.trans (hO3.mono (F' := fun b => F b ∨ w.heap.size ≤ b) (fun b h => .inl h)))
  clear ho3 hO3 KC p0 p1 p2 p3 p4 p5 p6 HO2
  have y0 := blk_cell e1 0 (v := .slice none 0 0) rfl
  have y1 := blk_cell e1 1 (v := .int .i64 0) rfl
  have y2 := blk_cell e1 2 (v := .slice none 0 0) rfl
  have y3 := blk_cell e1 3 (v := .slice none 0 0) rfl
  have y4 := blk_cell e1 4 (v := .slice none 0 0) rfl
  have y5 := blk_cell e1 5 (v := .int .i64 0) rfl
  have y6 := blk_cell e1 6 (v := .int .i64 0) rfl
  have fz0 := blk_frozen e1 0
  have fz1 := blk_frozen e1 1
  have fz2 := blk_frozen e1 2
  have fz3 := blk_frozen e1 3
  have fz4 := blk_frozen e1 4
  have fz5 := blk_frozen e1 5
  have fz6 := blk_frozen e1 6
  obtain ⟨Y, hY⟩ : ∃ u, u = stores w2 (w.heap.size + 1) 0 [.slice r0 u0 d0, .int .i64 (upF up qs), .slice r2 u2 d2, .slice r3 u3 d3, .slice r4 u4 d4, .int .i64 la, .int .i64 up] := ⟨_, rfl⟩
  have S : Off (fun b => b = w.heap.size + 1) w2 Y := by rw [hY]; exact stores_off (F := fun b => b = w.heap.size + 1) _ _ _ _ rfl
  have zY : Y.heap.size = w2.heap.size := by rw [hY]; exact stores_size _ _ _ _
  have S3 : Off (fun b => b = w.heap.size + 1) w2 Y := by rw [hY]; exact stores_off (F := fun b => b = w.heap.size + 1) _ _ _ _ rfl
  have R : Hid (KRet (.returned (.tuple #[.agg #[.slice r0 u0 d0, .int .i64 (upF up qs), .slice r2 u2 d2, .slice r3 u3 d3, .slice r4 u4 d4, .int .i64 la, .int .i64 up], .bool true])) w Y F true (src, upF up qs, [], qs, ou, la, up)) := Hid.mk
    ⟨r0, u0, d0, r2, u2, d2, r3, u3, d3, r4, u4, d4, rfl, RSink.mono (RSink.ownOff HO3.out S3 (fun b h e => by have h2 : b = w.heap.size + 1 := e; rcases h with h | h; have := hF b h; omega; omega)) (fun b h => h.elim .inl (fun h => .inr ⟨by omega, by omega⟩)),
      Off.cut (HOF.out.trans (S3.mono (F' := fun b => F b ∨ w.heap.size ≤ b) (fun b e => .inr (by have h2 : b = w.heap.size + 1 := e; omega))))⟩
  clear S3
  have HY := Hid.mk hY
  clear S hY zY HOF
  go_wp2
  refine bodyPost_ret (v := .tuple #[.agg #[.slice r0 u0 d0, .int .i64 (upF up qs), .slice r2 u2 d2, .slice r3 u3 d3, .slice r4 u4 d4, .int .i64 la, .int .i64 up], .bool true]) (by simp [results, Try.results55, go_sem, y0, y1, y2, y3, y4, y5, y6]) rfl ?_
  have h := R.out
  rw [HY.out] at h
  exact h

theorem tearC : TearC := by
  intro F a0 n0 c0 a2 n2 c2 a3 n3 c3 a4 n4 c4 t la up src pd ps ou w hd hF ho
  have hl := (RSink.lens ho).2.2.2.2.1
  have h4 : ps.length ≤ 4 := hd.2.1
  unfold stK
  rw [if_neg (by omega), if_neg (by omega), if_neg (by omega), if_neg (by omega), if_pos rfl]
  by_cases h2 : n3 < 2
  · rw [if_pos (show ps.length < 2 by omega)]
    exact tear_no F a0 n0 c0 a2 n2 c2 a3 n3 c3 a4 n4 c4 t la up src pd ps ou w h2 ho
  · rw [if_neg (show ¬ ps.length < 2 by omega)]
    obtain ⟨_, _, F3, _, _, _, ⟨a, n, c, cells, G, hcs, hL⟩, _⟩ := RSink.own_iff ho
    simp only [List.cons.injEq, Value.slice.injEq, and_true] at hcs
    obtain ⟨rfl, rfl, rfl⟩ := hcs
    obtain ⟨g, rfl⟩ : ∃ g, a3 = some ⟨g, 0, none⟩ := by
      rcases hL.outer.2 with ⟨_, h0⟩ | ⟨g, cap, cur, hv, _⟩
      · first | omega | (simp only [Value.slice.injEq] at h0; omega) | (have h5 := congrArg List.length h0; simp at h5; omega)
      · simp only [Value.slice.injEq, true_and] at hv
        exact ⟨g, hv.1⟩
    obtain ⟨m, rfl⟩ : ∃ m, n3 = m + 1 := ⟨n3 - 1, by omega⟩
    have q := tear_yes F a0 n0 c0 a2 n2 c2 g m c3 a4 n4 c4 t la up src pd ps ou w hF (by omega) (by omega) ho
    simp only
    rw [show ps.length - 1 = m by omega]
    exact q

end Go.Proofs.Ytmbjmmnodcebbaa
