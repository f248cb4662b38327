/- Contract of the model's DrainSink. -/
import Derived.Test.YtmbjmmnodcebbaaM19
import Derived.Test.YtmbjmmnodcebbaaM22
import Derived.Test.YtmbjmmnodcebbaaM23
import Derived.Deep.LoopGhost
namespace Go.Proofs.Ytmbjmmnodcebbaa
open Go.RowKit

set_option maxRecDepth 100000 in
set_option maxHeartbeats 40000000 in
theorem specDrainSink (a0 : Option Addr) (n0 c0 : Nat) (a2 : Option Addr) (n2 c2 : Nat) (a3 : Option Addr) (n3 c3 : Nat) (a4 : Option Addr) (n4 c4 : Nat) (t la up : Int) (src pd : List Int) (ps : List TPrepared) (ou : List Int) (w : World) (hnc : n0 ≤ c0) (h0 : src.length = n0) (h2 : pd.length = n2) (h3 : ps.length = n3) (h4 : ou.length = n4) (hb0 : n0 ≤ 1048576) (hb2 : n2 ≤ 1048576) (hb3 : n3 ≤ 1048576) (hb4 : n4 ≤ 1048576) (hsm : ∀ (i : Nat) (x : TPrepared), ps[i]? = some x → costPrepared x ≤ 1048576)
    (ha0 : At w a0 src) (ha2 : At w a2 pd) (ha3 : AtSl RPrepared w a3 ps) (ha4 : At w a4 ou) (hF0 : a0 = none → c0 = 0) (hF2 : a2 = none → c2 = 0) (hF3 : a3 = none → c3 = 0) (hF4 : a4 = none → c4 = 0) :
    Calls Try.prog 21 #[.agg #[.slice a0 n0 c0, .int .i64 t, .slice a2 n2 c2, .slice a3 n3 c3, .slice a4 n4 c4, .int .i64 la, .int .i64 up]] w fun e w' => SinkRetN e w' w.heap.size (drN (src, t, pd, ps, ou, la, up)) (gkB (src, t, pd, ps, ou, la, up)) (drX (src, t, pd, ps, ou, la, up)) ∧ Below w.heap.size w w' := by
  obtain ⟨W, hW⟩ : ∃ W, W = (w.alloc (.cells #[.slice a0 n0 c0, .int .i64 t, .slice a2 n2 c2, .slice a3 n3 c3, .slice a4 n4 c4, .int .i64 la, .int .i64 up] 29)).alloc (.cells #[.slice none 0 0, .int .i64 0, .slice none 0 0, .slice none 0 0, .slice none 0 0, .int .i64 0, .int .i64 0] 29) := ⟨_, rfl⟩
  have B0 : Below w.heap.size w W := by rw [hW]; exact ((Below.refl _ _).alloc (Nat.le_refl _) _).alloc (by simp) _
  have b0 : W.heap[w.heap.size]? = some (.cells #[.slice a0 n0 c0, .int .i64 t, .slice a2 n2 c2, .slice a3 n3 c3, .slice a4 n4 c4, .int .i64 la, .int .i64 up] 29 (0, 0)) := by rw [hW]; exact blk_alloc (heap_alloc_new w _) _
  have b1 : W.heap[w.heap.size + 1]? = some (.cells #[.slice none 0 0, .int .i64 0, .slice none 0 0, .slice none 0 0, .slice none 0 0, .int .i64 0, .int .i64 0] 29 (0, 0)) := by
    rw [hW]
    have q := heap_alloc_new (w.alloc (.cells #[.slice a0 n0 c0, .int .i64 t, .slice a2 n2 c2, .slice a3 n3 c3, .slice a4 n4 c4, .int .i64 la, .int .i64 up] 29)) (.cells #[.slice none 0 0, .int .i64 0, .slice none 0 0, .slice none 0 0, .slice none 0 0, .int .i64 0, .int .i64 0] 29)
    simpa only [World.size_alloc] using q
  have zW : W.heap.size = w.heap.size + 2 := by rw [hW]; simp
  obtain ⟨PB, hPB⟩ : ∃ b, gkB (src, t, pd, ps, ou, la, up) = b := ⟨_, rfl⟩
  obtain ⟨XN, hXN⟩ : ∃ b, drN (src, t, pd, ps, ou, la, up) = b := ⟨_, rfl⟩
  obtain ⟨XX, hXX⟩ : ∃ b, drX (src, t, pd, ps, ou, la, up) = b := ⟨_, rfl⟩
  have KG := Hid.mk (specGoodSink a0 n0 c0 a2 n2 c2 a3 n3 c3 a4 n4 c4 t la up src pd ps ou W hnc h0 h2 h3 h4 hb0 hb2 hb3 hb4 hsm (At.below ha0 B0) (At.below ha2 B0) (AtSl.below ha3 B0) (At.below ha4 B0))
  rw [hPB] at KG
  rw [hPB, hXN, hXX]
  have HPB := Hid.mk hPB
  have HXN := Hid.mk hXN
  have HXX := Hid.mk hXX
  have H0 := Hid.mk h0
  have H2 := Hid.mk h2
  have H3 := Hid.mk h3
  have H4 := Hid.mk h4
  have HSM := Hid.mk hsm
  have HA0 := Hid.mk (At.below ha0 B0)
  have HA2 := Hid.mk (At.below ha2 B0)
  have HA3 := Hid.mk (AtSl.below ha3 B0)
  have HA4 := Hid.mk (At.below ha4 B0)
  have p0 := blk_cell b0 0 (v := .slice a0 n0 c0) rfl
  have p1 := blk_cell b0 1 (v := .int .i64 t) rfl
  have p2 := blk_cell b0 2 (v := .slice a2 n2 c2) rfl
  have p3 := blk_cell b0 3 (v := .slice a3 n3 c3) rfl
  have p4 := blk_cell b0 4 (v := .slice a4 n4 c4) rfl
  have p5 := blk_cell b0 5 (v := .int .i64 la) rfl
  have p6 := blk_cell b0 6 (v := .int .i64 up) rfl
  clear ha0 ha2 ha3 ha4 h0 h2 h3 h4 hsm hPB hXN hXX
  go_enter Try.func21, Try.ntmps21
  go_upto_region 1 with fail
  rw [← hW]
  clear hW
  go_wp2_with fail
  refine KG.out.mono ?_
  rintro e w1 ⟨rfl, hb1⟩
  have b0 := blk_below b0 hb1
  have b1 := blk_below b1 hb1
  have z1 := hb1.size
  have B1 := B0.trans (hb1.mono B0.size)
  have BW1 := Hid.mk hb1
  clear hb1 KG p0 p1 p2 p3 p4 p5 p6
  cases PB with
  | false =>
    obtain rfl : (0 : Int) = XN := by rw [← HXN.out]; unfold drN; rw [HPB.out]; rfl
    obtain rfl : newK [] = XX := by rw [← HXX.out]; unfold drX; rw [HPB.out]; rfl
    have y0 := blk_cell b1 0 (v := .slice none 0 0) rfl
    have y1 := blk_cell b1 1 (v := .int .i64 0) rfl
    have y2 := blk_cell b1 2 (v := .slice none 0 0) rfl
    have y3 := blk_cell b1 3 (v := .slice none 0 0) rfl
    have y4 := blk_cell b1 4 (v := .slice none 0 0) rfl
    have y5 := blk_cell b1 5 (v := .int .i64 0) rfl
    have y6 := blk_cell b1 6 (v := .int .i64 0) rfl
    have fz0 := blk_frozen b1 0
    have fz1 := blk_frozen b1 1
    have fz2 := blk_frozen b1 2
    have fz3 := blk_frozen b1 3
    have fz4 := blk_frozen b1 4
    have fz5 := blk_frozen b1 5
    have fz6 := blk_frozen b1 6
    go_wp2
    refine bodyPost_ret (v := .tuple #[.agg #[.slice none 0 0, .int .i64 0, .slice none 0 0, .slice none 0 0, .slice none 0 0, .int .i64 0, .int .i64 0], .int .i64 0, .bool false]) (by simp [results, Try.results21, go_sem, y0, y1, y2, y3, y4, y5, y6]) rfl ⟨⟨none, 0, 0, none, 0, 0, none, 0, 0, none, 0, 0, rfl, RSink.void _ _⟩, ?_⟩
    exact ((((((B1.setCell (Nat.le_succ _) _).setCell (Nat.le_succ _) _).setCell (Nat.le_succ _) _).setCell (Nat.le_succ _) _).setCell (Nat.le_succ _) _).setCell (Nat.le_succ _) _).setCell (Nat.le_succ _) _
  | true =>
    have hXN : ((dr4 (dr3 (dr2 (dr1 (src, t, pd, ps, ou, la, up))))).2.2.2.2.1.length : Int) - n4 = XN := by rw [← HXN.out]; unfold drN; rw [HPB.out, if_pos rfl]; simp only [H4.out]
    have hXX : dr4 (dr3 (dr2 (dr1 (src, t, pd, ps, ou, la, up)))) = XX := by rw [← HXX.out]; unfold drX; rw [HPB.out]; rfl
    rw [hXX] at hXN
    have hDP := dr1_DP HPB.out
    have hGP := gk_DP HPB.out
    have p0 := blk_cell b0 0 (v := .slice a0 n0 c0) rfl
    have p1 := blk_cell b0 1 (v := .int .i64 t) rfl
    have p2 := blk_cell b0 2 (v := .slice a2 n2 c2) rfl
    have p3 := blk_cell b0 3 (v := .slice a3 n3 c3) rfl
    have p4 := blk_cell b0 4 (v := .slice a4 n4 c4) rfl
    have p5 := blk_cell b0 5 (v := .int .i64 la) rfl
    have p6 := blk_cell b0 6 (v := .int .i64 up) rfl
    have KO := Hid.mk (l16Own_any a0 n0 c0 a2 n2 c2 a3 n3 c3 a4 n4 c4 t la up src pd ps ou w1 H0.out H2.out H3.out H4.out hb0 hb2 hb3 hb4 hF0 hF2 hF3 hF4 HSM.out (At.below HA0.out BW1.out) (At.below HA2.out BW1.out) (AtSl.below HA3.out BW1.out) (At.below HA4.out BW1.out))
    have HDP := Hid.mk hDP
    have HGP := Hid.mk hGP
    have HXN2 := Hid.mk hXN
    have HXX2 := Hid.mk hXX
    clear hXN hXX HXN HXX hDP hGP
    go_wp2_with fail
    refine KO.out.mono ?_
    rintro e w2 ⟨ra0, ma0, da0, ra2, ma2, da2, ra3, ma3, da3, ra4, ma4, da4, rfl, ho2, hb2⟩
    simp only at ho2
    have b0 := blk_below b0 hb2
    have b1 := blk_below b1 hb2
    have z2 := hb2.size
    have B2 := B1.trans (hb2.mono B1.size)
    obtain ⟨P, hP⟩ : ∃ P, w2.heap.size = P := ⟨_, rfl⟩
    obtain ⟨Xa, hX⟩ : ∃ u, u = w2.alloc (.cells #[.slice ra0 ma0 da0, .int .i64 t, .slice ra2 ma2 da2, .slice ra3 ma3 da3, .slice ra4 ma4 da4, .int .i64 la, .int .i64 up] 29) := ⟨_, rfl⟩
    have bX : Below w2.heap.size w2 Xa := by rw [hX]; exact (Below.refl _ _).alloc (Nat.le_refl _) _
    have bp : Xa.heap[P]? = some (.cells #[.slice ra0 ma0 da0, .int .i64 t, .slice ra2 ma2 da2, .slice ra3 ma3 da3, .slice ra4 ma4 da4, .int .i64 la, .int .i64 up] 29 (0, 0)) := by rw [hX, ← hP]; exact heap_alloc_new w2 _
    have zXa : P < Xa.heap.size := by rw [hX, ← hP]; simp
    have b0 := blk_below b0 bX
    have b1 := blk_below b1 bX
    have BXa := B2.trans (bX.mono B2.size)
    obtain ⟨FFa, hFFa, hoa⟩ : ∃ FF : Nat → Prop, (∀ b, FF b → w.heap.size + 2 ≤ b ∧ b < Xa.heap.size ∧ b ≠ P) ∧ RSink.Own Xa FF [.slice ra0 ma0 da0, .int .i64 t, .slice ra2 ma2 da2, .slice ra3 ma3 da3, .slice ra4 ma4 da4, .int .i64 la, .int .i64 up] (src, t, pd, ps, ou, la, up) :=
      ⟨_, fun b h => ⟨by have := h.1; omega, by have := h.2; omega, by have := h.2; omega⟩, RSink.ownBelow ho2 bX⟩
    have hPN : w.heap.size + 2 ≤ P := by omega
    have HPP := Hid.mk hP
    clear ho2 hb2 KO p0 p1 p2 p3 p4 p5 p6 bX
    go_upto_region 4 with fail
    (try simp only)
    rw [← hX]
    clear hX
    (try rw [hP])
    clear hP
    have hna : ma3 = n3 := by have q := (RSink.lens hoa).2.2.2.2.1; rw [← q]; exact H3.out
    by_cases h4 : n3 = 4
    · have hb4 : ((ma3 : Int) == 4) = true := beq_iff_eq.2 (by omega)
      have hps4 : ps.length = 4 := by rw [H3.out]; exact h4
      obtain ⟨⟨sb, tb, qb, vb, ob, lb, ub⟩, h1⟩ : ∃ y, dr1 (src, t, pd, ps, ou, la, up) = y := ⟨_, rfl⟩
      have HD1 := HDP.out
      rw [h1] at HD1
      have HDR1 : Hid (dr1 (src, t, pd, ps, ou, la, up) = (sb, tb, qb, vb, ob, lb, ub)) := Hid.mk h1
      have KS := Hid.mk (commitV FFa ra0 ma0 da0 ra2 ma2 da2 ra3 ma3 da3 ra4 ma4 da4 t la up src pd ps ou Xa (fun b h => (hFFa b h).2.1) (by omega) HGP.out.2.2.1 (by have q : ou.length + 30 * ps.length ≤ 150 := HGP.out.2.2.2.1; omega) hoa)
      rw [h1] at KS
      clear h4 hna hps4 h1 hoa
      have p3 := blk_cell bp 3 (v := .slice ra3 ma3 da3) rfl
      go_upto_region 5 with fail
      clear p3
      have p0 := blk_cell bp 0 (v := .slice ra0 ma0 da0) rfl
      have p1 := blk_cell bp 1 (v := .int .i64 t) rfl
      have p2 := blk_cell bp 2 (v := .slice ra2 ma2 da2) rfl
      have p3 := blk_cell bp 3 (v := .slice ra3 ma3 da3) rfl
      have p4 := blk_cell bp 4 (v := .slice ra4 ma4 da4) rfl
      have p5 := blk_cell bp 5 (v := .int .i64 la) rfl
      have p6 := blk_cell bp 6 (v := .int .i64 up) rfl
      go_wp2_with fail
      refine KS.out.mono ?_
      rintro e wb ⟨rb0, mb0, db0, rb2, mb2, db2, rb3, mb3, db3, rb4, mb4, db4, rfl, hst, hO⟩
      (try simp only at hst)
      have zwb := hO.size
      have b0 := (hO.block w.heap.size (by omega) (fun h => by have := hFFa _ h; omega)).trans b0
      have b1 := (hO.block (w.heap.size + 1) (by omega) (fun h => by have := hFFa _ h; omega)).trans b1
      have bp := (hO.block P (by omega) (fun h => by have := hFFa _ h; omega)).trans bp
      have Bwb : Below w.heap.size w wb := BXa.trans (hO.belowOf (fun b h => by have := hFFa _ h; omega) (by omega))
      clear KS hO p0 p1 p2 p3 p4 p5 p6 hb4
      have y0 := blk_cell bp 0 (v := .slice ra0 ma0 da0) rfl
      have y1 := blk_cell bp 1 (v := .int .i64 t) rfl
      have y2 := blk_cell bp 2 (v := .slice ra2 ma2 da2) rfl
      have y3 := blk_cell bp 3 (v := .slice ra3 ma3 da3) rfl
      have y4 := blk_cell bp 4 (v := .slice ra4 ma4 da4) rfl
      have y5 := blk_cell bp 5 (v := .int .i64 la) rfl
      have y6 := blk_cell bp 6 (v := .int .i64 up) rfl
      have fy0 := blk_frozen bp 0
      have fy1 := blk_frozen bp 1
      have fy2 := blk_frozen bp 2
      have fy3 := blk_frozen bp 3
      have fy4 := blk_frozen bp 4
      have fy5 := blk_frozen bp 5
      have fy6 := blk_frozen bp 6
      obtain ⟨Xb, hX⟩ : ∃ u, u = (((((((wb.setCell ⟨P, 0, none⟩ (.slice rb0 mb0 db0)).setCell ⟨P, 1, none⟩ (.int .i64 tb)).setCell ⟨P, 2, none⟩ (.slice rb2 mb2 db2)).setCell ⟨P, 3, none⟩ (.slice rb3 mb3 db3)).setCell ⟨P, 4, none⟩ (.slice rb4 mb4 db4)).setCell ⟨P, 5, none⟩ (.int .i64 lb)).setCell ⟨P, 6, none⟩ (.int .i64 ub)) := ⟨_, rfl⟩
      have bp' : Xb.heap[P]? = some (.cells #[.slice rb0 mb0 db0, .int .i64 tb, .slice rb2 mb2 db2, .slice rb3 mb3 db3, .slice rb4 mb4 db4, .int .i64 lb, .int .i64 ub] 29 (0, 0)) := by rw [hX]; exact (blk_set (blk_set (blk_set (blk_set (blk_set (blk_set (blk_set bp 0 _) 1 _) 2 _) 3 _) 4 _) 5 _) 6 _)
      have b1' : Xb.heap[w.heap.size + 1]? = some (.cells #[.slice none 0 0, .int .i64 0, .slice none 0 0, .slice none 0 0, .slice none 0 0, .int .i64 0, .int .i64 0] 29 (0, 0)) := by rw [hX]; exact (blk_other (blk_other (blk_other (blk_other (blk_other (blk_other (blk_other b1 (by simp; omega) _) (by simp; omega) _) (by simp; omega) _) (by simp; omega) _) (by simp; omega) _) (by simp; omega) _) (by simp; omega) _)
      have b0' : Xb.heap[w.heap.size]? = some (.cells #[.slice a0 n0 c0, .int .i64 t, .slice a2 n2 c2, .slice a3 n3 c3, .slice a4 n4 c4, .int .i64 la, .int .i64 up] 29 (0, 0)) := by rw [hX]; exact (blk_other (blk_other (blk_other (blk_other (blk_other (blk_other (blk_other b0 (by simp; omega) _) (by simp; omega) _) (by simp; omega) _) (by simp; omega) _) (by simp; omega) _) (by simp; omega) _) (by simp; omega) _)
      have hS : Off (fun b => b = P) wb Xb := by rw [hX]; exact stores_off (F := fun b => b = P) wb P 0 [.slice rb0 mb0 db0, .int .i64 tb, .slice rb2 mb2 db2, .slice rb3 mb3 db3, .slice rb4 mb4 db4, .int .i64 lb, .int .i64 ub] rfl
      have zXba : Xb.heap.size ≤ wb.heap.size := by rw [hX]; exact Nat.le_of_eq (stores_size wb P 0 [.slice rb0 mb0 db0, .int .i64 tb, .slice rb2 mb2 db2, .slice rb3 mb3 db3, .slice rb4 mb4 db4, .int .i64 lb, .int .i64 ub])
      have zXbb := hS.size
      have BXb : Below w.heap.size w Xb := Bwb.trans (hS.belowOf (fun b h => by have h2 : b = P := h; omega) (by omega))
      clear b0 b1 bp
      have b0 := b0'
      have b1 := b1'
      have bp := bp'
      clear b0' b1' bp'
      obtain ⟨FFb, hFFb, hst⟩ : ∃ FF : Nat → Prop, (∀ b, FF b → w.heap.size + 2 ≤ b ∧ b < Xb.heap.size ∧ b ≠ P) ∧ HSt Xb FF 0 rb0 mb0 db0 rb2 mb2 db2 rb3 mb3 db3 rb4 mb4 db4 (sb, tb, qb, vb, ob, lb, ub) :=
        ⟨_, fun b h => (by rcases h with h | h; have := hFFa _ h; omega; omega), hst_off hst hS (fun b h e => by have h2 : b = P := e; rcases h with h | h; have := hFFa _ h; omega; omega)⟩
      clear hS
      obtain ⟨⟨sc, tc, qc, vc, oc, lc, uc⟩, h2⟩ : ∃ y, dr2 (sb, tb, qb, vb, ob, lb, ub) = y := ⟨_, rfl⟩
      obtain ⟨⟨sd, td, qd, vd, od, ld, ud⟩, h3⟩ : ∃ y, dr3 (sc, tc, qc, vc, oc, lc, uc) = y := ⟨_, rfl⟩
      have HD2 := dr2_DP HD1
      rw [h2] at HD2
      have hd3 := dr3_PD HD2
      rw [h3] at hd3
      have hs3 := dr3_keeps (sc, tc, qc, vc, oc, lc, uc)
      rw [h3] at hs3
      simp only at hs3
      have HS3 : Hid (sd.length ≤ 30 ∧ qd.length ≤ 30) := Hid.mk ⟨by rw [hs3.1]; exact HD2.1.1, Nat.le_trans hs3.2 (by have q : qc.length + (sc.length - tc.toNat) ≤ 30 := HD2.1.2.2.2; omega)⟩
      have HD3 := Hid.mk hd3
      have HD2' := Hid.mk HD2
      have hPRp : PR (sb, tb, qb, vb, ob, lb, ub) := HD1.1
      have H2L : (itK rdK (muR (sb, tb, qb, vb, ob, lb, ub)) (sb, tb, qb, vb, ob, lb, ub)).1 = (sc, tc, qc, vc, oc, lc, uc) := h2
      have H2E := Hid.mk h2
      have H3E := Hid.mk h3
      have HHST := Hid.mk hst
      have HHF := Hid.mk hFFb
      have HPRP := Hid.mk hPRp
      have H2LL := Hid.mk H2L
      have HB0 := Hid.mk b0
      have HB1 := Hid.mk b1
      have HBP := Hid.mk bp
      have HBX := Hid.mk BXb
      have HZX : Hid (P < Xb.heap.size) := Hid.mk (by omega)
      clear h2 h3 HD1 HD2 hd3 hs3 hPRp H2L hst hFFb b0 b1 bp
      go_wp2_with fail
      rw [← hX]
      clear hX
      clear y0 y1 y2 y3 y4 y5 y6 fy0 fy1 fy2 fy3 fy4 fy5 fy6
      go_loopg [6] (muR (sb, tb, qb, vb, ob, lb, ub)) (fun gk _ wr => ∃ (rz0 : Option Addr) (mz0 dz0 : Nat) (rz2 : Option Addr) (mz2 dz2 : Nat) (rz3 : Option Addr) (mz3 dz3 : Nat) (rz4 : Option Addr) (mz4 dz4 : Nat) (sz : List Int) (tz : Int) (qz : List Int) (vz : List TPrepared) (oz : List Int) (lz uz : Int) (G : Nat → Prop),
        wr.heap[P]? = some (.cells #[.slice rz0 mz0 dz0, .int .i64 tz, .slice rz2 mz2 dz2, .slice rz3 mz3 dz3, .slice rz4 mz4 dz4, .int .i64 lz, .int .i64 uz] 29 (0, 0)) ∧ wr.heap[w.heap.size + 1]? = some (.cells #[.slice none 0 0, .int .i64 0, .slice none 0 0, .slice none 0 0, .slice none 0 0, .int .i64 0, .int .i64 0] 29 (0, 0)) ∧ wr.heap[w.heap.size]? = some (.cells #[.slice a0 n0 c0, .int .i64 t, .slice a2 n2 c2, .slice a3 n3 c3, .slice a4 n4 c4, .int .i64 la, .int .i64 up] 29 (0, 0)) ∧ HSt wr G 0 rz0 mz0 dz0 rz2 mz2 dz2 rz3 mz3 dz3 rz4 mz4 dz4 (sz, tz, qz, vz, oz, lz, uz) ∧ PR (sz, tz, qz, vz, oz, lz, uz) ∧ muR (sz, tz, qz, vz, oz, lz, uz) = gk ∧ (itK rdK (muR (sz, tz, qz, vz, oz, lz, uz)) (sz, tz, qz, vz, oz, lz, uz)).1 = (sc, tc, qc, vc, oc, lc, uc) ∧ (∀ b, G b → w.heap.size + 2 ≤ b ∧ b < wr.heap.size ∧ b ≠ P) ∧ Below w.heap.size w wr ∧ P < wr.heap.size)
      case atStart => exact ⟨rb0, mb0, db0, rb2, mb2, db2, rb3, mb3, db3, rb4, mb4, db4, sb, tb, qb, vb, ob, lb, ub, FFb, HBP.out, HB1.out, HB0.out, HHST.out, HPRP.out, rfl, H2LL.out, HHF.out, HBX.out, HZX.out⟩
      case round =>
        clear HHST HHF HPRP H2LL HB0 HB1 HBP HBX HZX
        obtain ⟨rz0, mz0, dz0, rz2, mz2, dz2, rz3, mz3, dz3, rz4, mz4, dz4, sz, tz, qz, vz, oz, lz, uz, G, bp, b1, b0, hst, hpz, hmz, hxz, hG, BwY, zwY⟩ := hrel
        obtain ⟨wY, rfl⟩ : ∃ x, x = wr := ⟨_, rfl⟩
        have hlz := hst_lens hst
        simp only at hlz
        by_cases hend : tz = sz.length
        · have hno : rdK (sz, tz, qz, vz, oz, lz, uz) = ((sz, tz, qz, vz, oz, lz, uz), false) := rdK_no hend
          rw [itK_no (by rw [hno])] at hxz
          simp only [Prod.mk.injEq] at hxz
          obtain ⟨e1, e2, e3, e4, e5, e6, e7⟩ := hxz
          rw [e2, e6, e7] at bp
          rw [e1, e2, e3, e4, e5, e6, e7] at hst
          rw [e1, e3, e4, e5] at hlz
          rw [e1, e2] at hend
          have KS := Hid.mk (step1g_no rz0 mz0 dz0 rz2 mz2 dz2 rz3 mz3 dz3 rz4 mz4 dz4 tc lc uc wY (by have := hlz.1; omega))
          clear e1 e2 e3 e4 e5 e6 e7 hno hmz hpz hend
          have p0 := blk_cell bp 0 (v := .slice rz0 mz0 dz0) rfl
          have p1 := blk_cell bp 1 (v := .int .i64 tc) rfl
          have p2 := blk_cell bp 2 (v := .slice rz2 mz2 dz2) rfl
          have p3 := blk_cell bp 3 (v := .slice rz3 mz3 dz3) rfl
          have p4 := blk_cell bp 4 (v := .slice rz4 mz4 dz4) rfl
          have p5 := blk_cell bp 5 (v := .int .i64 lc) rfl
          have p6 := blk_cell bp 6 (v := .int .i64 uc) rfl
          go_wp2_with fail
          refine KS.out.mono ?_
          rintro e wf0 ⟨rfl, hbf⟩
          have b0 := blk_below b0 hbf
          have b1 := blk_below b1 hbf
          have bp := blk_below bp hbf
          have zf0 := hbf.size
          have Bf0 := BwY.trans (hbf.mono BwY.size)
          have hst := hst_below hst hbf
          clear KS hbf p0 p1 p2 p3 p4 p5 p6
          obtain ⟨Xg, hX⟩ : ∃ u, u = wf0.alloc (.cells #[.slice rz0 mz0 dz0, .int .i64 tc, .slice rz2 mz2 dz2, .slice rz3 mz3 dz3, .slice rz4 mz4 dz4, .int .i64 lc, .int .i64 uc] 29) := ⟨_, rfl⟩
          have bX : Below wf0.heap.size wf0 Xg := by rw [hX]; exact (Below.refl _ _).alloc (Nat.le_refl _) _
          have x0 : Xg.heap[wf0.heap.size]? = some (.cells #[.slice rz0 mz0 dz0, .int .i64 tc, .slice rz2 mz2 dz2, .slice rz3 mz3 dz3, .slice rz4 mz4 dz4, .int .i64 lc, .int .i64 uc] 29 (0, 0)) := by rw [hX]; exact heap_alloc_new wf0 _
          have b0 := blk_below b0 bX
          have b1 := blk_below b1 bX
          have bp := blk_below bp bX
          have zXg := bX.size
          have zXgl : wf0.heap.size < Xg.heap.size := by rw [hX]; simp
          have BXg : Below w.heap.size w Xg := Bf0.trans (bX.mono Bf0.size)
          have hst := hst_below hst bX
          have hGg : ∀ b, G b → w.heap.size + 2 ≤ b ∧ b < Xg.heap.size ∧ b ≠ P := fun b h => by have := hG b h; omega
          clear hG bX x0
          go_upto_region 7 with fail
          (try simp only)
          rw [← hX]
          clear hX
          have p0 := blk_cell bp 0 (v := .slice rz0 mz0 dz0) rfl
          have p1 := blk_cell bp 1 (v := .int .i64 tc) rfl
          have p2 := blk_cell bp 2 (v := .slice rz2 mz2 dz2) rfl
          have p3 := blk_cell bp 3 (v := .slice rz3 mz3 dz3) rfl
          have p4 := blk_cell bp 4 (v := .slice rz4 mz4 dz4) rfl
          have p5 := blk_cell bp 5 (v := .int .i64 lc) rfl
          have p6 := blk_cell bp 6 (v := .int .i64 uc) rfl
          by_cases hc : qc.length = 0 ∨ vc.length = 4 ∨ 1000 < lc + (vc.length : Int) + 1
          · have h3 := prK_no (x := (sc, tc, qc, vc, oc, lc, uc)) hc
            have h3e : (sc, tc, qc, vc, oc, lc, uc) = (sd, td, qd, vd, od, ld, ud) := by rw [← H3E.out]; unfold dr3; rw [h3]
            simp only [Prod.mk.injEq] at h3e
            obtain ⟨e1, e2, e3, e4, e5, e6, e7⟩ := h3e
            rw [hlz.2.1, hlz.2.2.1] at hc
            have KS := Hid.mk (step2g_no rz0 mz0 dz0 rz2 mz2 dz2 rz3 mz3 dz3 rz4 mz4 dz4 tc lc uc Xg hc (by have q : vc.length ≤ 4 := HD2'.out.2.1; have := hlz.2.2.1; omega) HD2'.out.2.2.2.2.1 HD2'.out.2.2.2.2.2)
            rw [e2, e6, e7] at KS bp
            rw [e2] at p1
            rw [e6] at p5
            rw [e7] at p6
            rw [e1, e2, e3, e4, e5, e6, e7] at hst
            clear hc h3 e1 e2 e3 e4 e5 e6 e7 hlz
            go_wp2_with fail
            refine KS.out.mono ?_
            rintro e wh ⟨rfl, hbh⟩
            have b0 := blk_below b0 hbh
            have b1 := blk_below b1 hbh
            have bp := blk_below bp hbh
            have zh := hbh.size
            have Bh := BXg.trans (hbh.mono BXg.size)
            have hst := hst_below hst hbh
            clear KS hbh p0 p1 p2 p3 p4 p5 p6
            obtain ⟨Xh, hX⟩ : ∃ u, u = wh.alloc (.cells #[.slice rz0 mz0 dz0, .int .i64 td, .slice rz2 mz2 dz2, .slice rz3 mz3 dz3, .slice rz4 mz4 dz4, .int .i64 ld, .int .i64 ud] 29) := ⟨_, rfl⟩
            have bX : Below wh.heap.size wh Xh := by rw [hX]; exact (Below.refl _ _).alloc (Nat.le_refl _) _
            have x0 : Xh.heap[wh.heap.size]? = some (.cells #[.slice rz0 mz0 dz0, .int .i64 td, .slice rz2 mz2 dz2, .slice rz3 mz3 dz3, .slice rz4 mz4 dz4, .int .i64 ld, .int .i64 ud] 29 (0, 0)) := by rw [hX]; exact heap_alloc_new wh _
            have b0 := blk_below b0 bX
            have b1 := blk_below b1 bX
            have bp := blk_below bp bX
            have zXh := bX.size
            have zXhl : wh.heap.size < Xh.heap.size := by rw [hX]; simp
            have BXh : Below w.heap.size w Xh := Bh.trans (bX.mono Bh.size)
            have hst := hst_up (hst_below hst bX)
            have hGh : ∀ b, G b → w.heap.size + 2 ≤ b ∧ b < Xh.heap.size ∧ b ≠ P := fun b h => by have := hGg b h; omega
            clear hGg bX x0
            go_upto_region 10 with fail
            (try simp only)
            rw [← hX]
            clear hX
            obtain ⟨GG, hGG⟩ : ∃ GG, GG = G := ⟨_, rfl⟩
            rw [← hGG] at hst hGh
            clear hGG
            have hGG := hGh
            clear hGh
            have hl4 := hst_lens hst
            simp only at hl4
            obtain ⟨oe, h5⟩ : ∃ x, ouC od vd = x := ⟨_, rfl⟩
            obtain ⟨le, h6⟩ : ∃ x, noC ld vd = x := ⟨_, rfl⟩
            obtain ⟨ue, h7⟩ : ∃ x, upF ud vd = x := ⟨_, rfl⟩
            have h4e := dr4_eq sd td qd vd od ld ud
            rw [h5, h6, h7] at h4e
            have hE3 : oe.length ≤ 300 := by have q := (dr4_PD HD3.out).1; rw [h4e] at q; exact q
            have HFIN : Hid (XX = (sd, td, qd, [], oe, le, ue)) := Hid.mk (by rw [← HXX2.out, HDR1.out, H2E.out, H3E.out, h4e])
            have KC := Hid.mk (lastU GG rz0 mz0 dz0 rz2 mz2 dz2 rz3 mz3 dz3 rz4 mz4 dz4 td ld ud sd qd vd od Xh (fun b h => (hGG b h).2.1) (by have q : od.length + 30 * vd.length ≤ 300 := HD3.out.2.2; have := hl4.2.2.1; omega) hst)
            rw [h5, h6, h7] at KC
            clear h5 h6 h7 h4e hl4 hst
            have p0 := blk_cell bp 0 (v := .slice rz0 mz0 dz0) rfl
            have p1 := blk_cell bp 1 (v := .int .i64 td) rfl
            have p2 := blk_cell bp 2 (v := .slice rz2 mz2 dz2) rfl
            have p3 := blk_cell bp 3 (v := .slice rz3 mz3 dz3) rfl
            have p4 := blk_cell bp 4 (v := .slice rz4 mz4 dz4) rfl
            have p5 := blk_cell bp 5 (v := .int .i64 ld) rfl
            have p6 := blk_cell bp 6 (v := .int .i64 ud) rfl
            go_wp2_with fail
            refine KC.out.mono ?_
            rintro e we ⟨ga3, gn3, gc3, pso, re3, de3, re4, me4, de4, rfl, hne3, hge3, hke3, hoe, hO⟩
            have zwe := hO.size
            have b0 := (hO.block w.heap.size (by omega) (fun h => by have := hGG _ h; omega)).trans b0
            have b1 := (hO.block (w.heap.size + 1) (by omega) (fun h => by have := hGG _ h; omega)).trans b1
            have bp := (hO.block P (by omega) (fun h => by have := hGG _ h; omega)).trans bp
            have Bwe : Below w.heap.size w we := BXh.trans (hO.belowOf (fun b h => by have := hGG _ h; omega) (by omega))
            clear KC hge3 hke3 p0 p1 p2 p3 p4 p5 p6
            have y0 := blk_cell bp 0 (v := .slice rz0 mz0 dz0) rfl
            have y1 := blk_cell bp 1 (v := .int .i64 td) rfl
            have y2 := blk_cell bp 2 (v := .slice rz2 mz2 dz2) rfl
            have y3 := blk_cell bp 3 (v := .slice rz3 mz3 dz3) rfl
            have y4 := blk_cell bp 4 (v := .slice rz4 mz4 dz4) rfl
            have y5 := blk_cell bp 5 (v := .int .i64 ld) rfl
            have y6 := blk_cell bp 6 (v := .int .i64 ud) rfl
            have fy0 := blk_frozen bp 0
            have fy1 := blk_frozen bp 1
            have fy2 := blk_frozen bp 2
            have fy3 := blk_frozen bp 3
            have fy4 := blk_frozen bp 4
            have fy5 := blk_frozen bp 5
            have fy6 := blk_frozen bp 6
            obtain ⟨Xe, hX⟩ : ∃ u, u = (((((((we.setCell ⟨P, 0, none⟩ (.slice rz0 mz0 dz0)).setCell ⟨P, 1, none⟩ (.int .i64 td)).setCell ⟨P, 2, none⟩ (.slice rz2 mz2 dz2)).setCell ⟨P, 3, none⟩ (.slice re3 0 de3)).setCell ⟨P, 4, none⟩ (.slice re4 me4 de4)).setCell ⟨P, 5, none⟩ (.int .i64 le)).setCell ⟨P, 6, none⟩ (.int .i64 ue)) := ⟨_, rfl⟩
            have bp' : Xe.heap[P]? = some (.cells #[.slice rz0 mz0 dz0, .int .i64 td, .slice rz2 mz2 dz2, .slice re3 0 de3, .slice re4 me4 de4, .int .i64 le, .int .i64 ue] 29 (0, 0)) := by rw [hX]; exact (blk_set (blk_set (blk_set (blk_set (blk_set (blk_set (blk_set bp 0 _) 1 _) 2 _) 3 _) 4 _) 5 _) 6 _)
            have b1' : Xe.heap[w.heap.size + 1]? = some (.cells #[.slice none 0 0, .int .i64 0, .slice none 0 0, .slice none 0 0, .slice none 0 0, .int .i64 0, .int .i64 0] 29 (0, 0)) := by rw [hX]; exact (blk_other (blk_other (blk_other (blk_other (blk_other (blk_other (blk_other b1 (by simp; omega) _) (by simp; omega) _) (by simp; omega) _) (by simp; omega) _) (by simp; omega) _) (by simp; omega) _) (by simp; omega) _)
            have b0' : Xe.heap[w.heap.size]? = some (.cells #[.slice a0 n0 c0, .int .i64 t, .slice a2 n2 c2, .slice a3 n3 c3, .slice a4 n4 c4, .int .i64 la, .int .i64 up] 29 (0, 0)) := by rw [hX]; exact (blk_other (blk_other (blk_other (blk_other (blk_other (blk_other (blk_other b0 (by simp; omega) _) (by simp; omega) _) (by simp; omega) _) (by simp; omega) _) (by simp; omega) _) (by simp; omega) _) (by simp; omega) _)
            have hS : Off (fun b => b = P) we Xe := by rw [hX]; exact stores_off (F := fun b => b = P) we P 0 [.slice rz0 mz0 dz0, .int .i64 td, .slice rz2 mz2 dz2, .slice re3 0 de3, .slice re4 me4 de4, .int .i64 le, .int .i64 ue] rfl
            have zXea : Xe.heap.size ≤ we.heap.size := by rw [hX]; exact Nat.le_of_eq (stores_size we P 0 [.slice rz0 mz0 dz0, .int .i64 td, .slice rz2 mz2 dz2, .slice re3 0 de3, .slice re4 me4 de4, .int .i64 le, .int .i64 ue])
            have zXeb := hS.size
            have BXe : Below w.heap.size w Xe := Bwe.trans (hS.belowOf (fun b h => by have h2 : b = P := h; omega) (by omega))
            clear b0 b1 bp
            have b0 := b0'
            have b1 := b1'
            have bp := bp'
            clear b0' b1' bp'
            have q4 := RSink.at_iff (RSink.toAt (RSink.ownOff hoe hS (fun b h e => by have h2 : b = P := e; rcases h with h | h; have := hGG _ h; omega; omega)))
            have HQ0 := Hid.mk q4.1
            have HQ2 := Hid.mk q4.2.1
            have HQ4 := Hid.mk q4.2.2.2
            have hm0 : mz0 ≤ 1048576 := by have := q4.1.1; have := HS3.out.1; omega
            have hm2 : mz2 ≤ 1048576 := by have := q4.2.1.1; have := HS3.out.2; omega
            have hm4 : me4 ≤ 1048576 := by have := q4.2.2.2.1; omega
            have hme : oe.length = me4 := q4.2.2.2.1
            have HNE := Hid.mk hne3
            clear q4 hoe hO hS hne3
            (try simp only)
            go_upto_region 13 with fail
            rw [← hX]
            clear hX
            clear y0 y1 y2 y3 y4 y5 y6 fy0 fy1 fy2 fy3 fy4 fy5 fy6
            have hwx : IntKind.i64.wrap ((me4 : Int) - (n4 : Int)) = (me4 : Int) - (n4 : Int) := by
              have h1 := H4.out
              have h2 : ou.length + 30 * ps.length ≤ 150 := HGP.out.2.2.2.1
              exact IntWalk.i64_in _ (by omega)
            have hnn := HXN2.out
            rw [HFIN.out] at hnn
            simp only at hnn
            rw [hme] at hnn
            have HNN := Hid.mk hnn
            clear hnn hme
            have KO2 : Hid (∀ U, Below Xe.heap.size Xe U → Calls Try.prog 27 #[.agg #[.slice rz0 mz0 dz0, .int .i64 td, .slice rz2 mz2 dz2, .slice re3 0 de3, .slice re4 me4 de4, .int .i64 le, .int .i64 ue]] U fun e w' => CpRet e U w' (sd, td, qd, [], oe, le, ue)) := Hid.mk (fun U hU =>
              l16Own_any rz0 mz0 dz0 rz2 mz2 dz2 re3 0 de3 re4 me4 de4 td le ue sd qd [] oe U HQ0.out.1 HQ2.out.1 rfl HQ4.out.1 hm0 hm2 (by omega) hm4 HQ0.out.2.2.2 HQ2.out.2.2.2 HNE.out HQ4.out.2.2.2 (fun i x h => by simp at h) (At.below HQ0.out.2.2.1 hU) (At.below HQ2.out.2.2.1 hU) (.inl rfl) (At.below HQ4.out.2.2.1 hU))
            have zp1 : ¬ P = w.heap.size + 1 := by omega
            have zp0 : ¬ w.heap.size = w.heap.size + 1 := by omega
            have p0 := blk_cell bp 0 (v := .slice rz0 mz0 dz0) rfl
            have p1 := blk_cell bp 1 (v := .int .i64 td) rfl
            have p2 := blk_cell bp 2 (v := .slice rz2 mz2 dz2) rfl
            have p3 := blk_cell bp 3 (v := .slice re3 0 de3) rfl
            have p4 := blk_cell bp 4 (v := .slice re4 me4 de4) rfl
            have p5 := blk_cell bp 5 (v := .int .i64 le) rfl
            have p6 := blk_cell bp 6 (v := .int .i64 ue) rfl
            have s4 := blk_cell b0 4 (v := .slice a4 n4 c4) rfl
            refine wp_region_held_drew (S := fun w' => Off (fun b => b = w.heap.size + 1) Xe w') (by kernel_rfl) ?_ (fun hHeld => ?_)
            · (try dsimp only)
              exact (Off.refl _ _).drew
            refine tk 0 ?_ (hy := fun wS hSw => by (have p0 := Off.cell hSw p0 zp1; have p1 := Off.cell hSw p1 zp1; have p2 := Off.cell hSw p2 zp1; have p3 := Off.cell hSw p3 zp1; have p4 := Off.cell hSw p4 zp1; have p5 := Off.cell hSw p5 zp1; have p6 := Off.cell hSw p6 zp1; go_simp; (try with_reducible rfl)))
            refine tk 2 ?_
            refine tk 3 ?_ (hy := fun wS hSw => by (have p4 := Off.cell hSw p4 zp1; go_simp; (try with_reducible rfl)))
            refine tk 4 ?_
            refine tk 5 ?_
            refine tk 6 ?_ (hy := fun wS hSw => by (have s4 := Off.cell hSw s4 zp0; go_simp; (try with_reducible rfl)))
            refine tk 7 ?_
            refine tk 8 ?_
            obtain ⟨u0, hu0⟩ : ∃ u, u = Xe.drew := ⟨_, rfl⟩
            have Y0 : Below Xe.heap.size Xe u0 := by rw [hu0]; exact (Below.refl _ _).drew
            rw [← hu0]
            rw [← hu0] at hHeld
            clear hu0
            refine wpAnyH_ready (rs := [1]) (by kernel_rfl) (by simp) ?_
            refine AllReadyH.cons (o := ?_) ?_ (fun K hK => ?_) AllReadyH.nil
            rotate_left
            · (simp only [List.getElem?_toArray, List.getElem?_cons_zero, List.getElem?_cons_succ]; rfl)
            go_simp
            go_at_call 27
            refine (KO2.out u0 Y0).mono ?_
            rintro e wf ⟨rf0, mf0, df0, rf2, mf2, df2, rf3, mf3, df3, rf4, mf4, df4, rfl, hof, hbf⟩
            simp only at hof
            have YF : Below Xe.heap.size Xe wf := Y0.trans (hbf.mono Y0.size)
            have b1 := blk_below b1 YF
            have zf := YF.size
            have zu := Y0.size
            have Bf : Below w.heap.size w wf := BXe.trans (YF.mono BXe.size)
            have HOF := Hid.mk hof
            clear hof hbf
            (try go_wp2_with fail)
            refine hK.out _ _ ?_ (fun hHeld' => ?_)
            · (try dsimp only)
              exact Off.below YF
            clear hK K hHeld
            have hHeld := hHeld'
            clear hHeld'
            (try simp only [Act.put, List.setIfInBounds_toArray, List.set_cons_zero, List.set_cons_succ])
            have y0 := blk_cell b1 0 (v := .slice none 0 0) rfl
            have y1 := blk_cell b1 1 (v := .int .i64 0) rfl
            have y2 := blk_cell b1 2 (v := .slice none 0 0) rfl
            have y3 := blk_cell b1 3 (v := .slice none 0 0) rfl
            have y4 := blk_cell b1 4 (v := .slice none 0 0) rfl
            have y5 := blk_cell b1 5 (v := .int .i64 0) rfl
            have y6 := blk_cell b1 6 (v := .int .i64 0) rfl
            have fz0 := blk_frozen b1 0
            have fz1 := blk_frozen b1 1
            have fz2 := blk_frozen b1 2
            have fz3 := blk_frozen b1 3
            have fz4 := blk_frozen b1 4
            have fz5 := blk_frozen b1 5
            have fz6 := blk_frozen b1 6
            refine wpAnyH_ready (rs := [9]) (by kernel_rfl) (by simp) ?_
            refine AllReadyH.cons (o := ?_) ?_ (fun K hK => ?_) AllReadyH.nil
            rotate_left
            · (simp only [List.getElem?_toArray, List.getElem?_cons_zero, List.getElem?_cons_succ]; rfl)
            go_simp
            skip
            (try go_wp2_with fail)
            refine hK.out _ _ ?_ (fun hHeld' => ?_)
            · (try dsimp only)
              exact (Off.below YF).trans (stores_off (F := fun b => b = w.heap.size + 1) wf (w.heap.size + 1) 0 [.slice rf0 mf0 df0, .int .i64 td, .slice rf2 mf2 df2, .slice rf3 mf3 df3, .slice rf4 mf4 df4, .int .i64 le, .int .i64 ue] rfl)
            clear hK K hHeld
            have hHeld := hHeld'
            clear hHeld'
            (try simp only [Act.put, List.setIfInBounds_toArray, List.set_cons_zero, List.set_cons_succ])
            refine tk 10 ?_
            refine tk 11 ?_
            refine wpAnyH_done (by kernel_rfl) ?_ _
            obtain ⟨Y, hY⟩ : ∃ u, u = stores wf (w.heap.size + 1) 0 [.slice rf0 mf0 df0, .int .i64 td, .slice rf2 mf2 df2, .slice rf3 mf3 df3, .slice rf4 mf4 df4, .int .i64 le, .int .i64 ue] := ⟨_, rfl⟩
            have S : Off (fun b => b = w.heap.size + 1) wf Y := by rw [hY]; exact stores_off (F := fun b => b = w.heap.size + 1) _ _ _ _ rfl
            have zY := S.size
            have D : Below w.heap.size w Y := Bf.trans (S.belowOf (fun b h => by have h2 : b = w.heap.size + 1 := h; omega) (by omega))
            have RR : Hid (SinkRetN (.returned (.tuple #[.agg #[.slice rf0 mf0 df0, .int .i64 td, .slice rf2 mf2 df2, .slice rf3 mf3 df3, .slice rf4 mf4 df4, .int .i64 le, .int .i64 ue], .int .i64 ((me4 : Int) - (n4 : Int)), .bool true])) Y w.heap.size XN true XX ∧ Below w.heap.size w Y) := Hid.mk (by
              rw [HFIN.out, ← HNN.out]
              exact ⟨⟨rf0, mf0, df0, rf2, mf2, df2, rf3, mf3, df3, rf4, mf4, df4, rfl, RSink.mono (RSink.ownOff HOF.out S (fun b h e => by have h2 : b = w.heap.size + 1 := e; have := h.1; omega)) (fun b h => ⟨by have := h.1; omega, by have := h.2; omega⟩)⟩, D⟩)
            have HY := Hid.mk hY
            clear D S hY b0 b1 bp zY
            go_wp2
            refine bodyPost_ret (v := .tuple #[.agg #[.slice rf0 mf0 df0, .int .i64 td, .slice rf2 mf2 df2, .slice rf3 mf3 df3, .slice rf4 mf4 df4, .int .i64 le, .int .i64 ue], .int .i64 ((me4 : Int) - (n4 : Int)), .bool true]) (by simp [results, Try.results21, go_sem, y0, y1, y2, y3, y4, y5, y6]) rfl ?_
            have h := RR.out
            rw [HY.out] at h
            exact h
          · have h3 := prK_yes (x := (sc, tc, qc, vc, oc, lc, uc)) hc
            have KS := Hid.mk (prepU G rz0 mz0 dz0 rz2 mz2 dz2 rz3 mz3 dz3 rz4 mz4 dz4 tc lc uc sc qc vc oc Xg (fun b h => (hGg b h).2.1) HD2'.out.2.2.2.2.1 HD2'.out.2.2.2.2.2 (by have q : qc.length + (sc.length - tc.toNat) ≤ 30 := HD2'.out.1.2.2.2; omega) hst)
            rw [h3, show (prK (sc, tc, qc, vc, oc, lc, uc)).1 = (sd, td, qd, vd, od, ld, ud) from H3E.out] at KS
            clear hc h3 hlz hst
            go_wp2_with fail
            refine KS.out.mono ?_
            rintro e wh ⟨rd0, md0, dd0, rd2, md2, dd2, rd3, md3, dd3, rd4, md4, dd4, rfl, hst, hO⟩
            (try simp only at hst)
            have zwh := hO.size
            have b0 := (hO.block w.heap.size (by omega) (fun h => by have := hGg _ h; omega)).trans b0
            have b1 := (hO.block (w.heap.size + 1) (by omega) (fun h => by have := hGg _ h; omega)).trans b1
            have bp := (hO.block P (by omega) (fun h => by have := hGg _ h; omega)).trans bp
            have Bwh : Below w.heap.size w wh := BXg.trans (hO.belowOf (fun b h => by have := hGg _ h; omega) (by omega))
            clear KS hO p0 p1 p2 p3 p4 p5 p6
            obtain ⟨Xh, hX⟩ : ∃ u, u = wh.alloc (.cells #[.slice rd0 md0 dd0, .int .i64 td, .slice rd2 md2 dd2, .slice rd3 md3 dd3, .slice rd4 md4 dd4, .int .i64 ld, .int .i64 ud] 29) := ⟨_, rfl⟩
            have bX : Below wh.heap.size wh Xh := by rw [hX]; exact (Below.refl _ _).alloc (Nat.le_refl _) _
            have x0 : Xh.heap[wh.heap.size]? = some (.cells #[.slice rd0 md0 dd0, .int .i64 td, .slice rd2 md2 dd2, .slice rd3 md3 dd3, .slice rd4 md4 dd4, .int .i64 ld, .int .i64 ud] 29 (0, 0)) := by rw [hX]; exact heap_alloc_new wh _
            have b0 := blk_below b0 bX
            have b1 := blk_below b1 bX
            have bp := blk_below bp bX
            have zXh := bX.size
            have zXhl : wh.heap.size < Xh.heap.size := by rw [hX]; simp
            have BXh : Below w.heap.size w Xh := Bwh.trans (bX.mono Bwh.size)
            have hst := hst_below hst bX
            go_upto_region 10 with fail
            (try simp only)
            rw [← hX]
            clear hX bX
            have p0 := blk_cell x0 0 (v := .slice rd0 md0 dd0) rfl
            have p1 := blk_cell x0 1 (v := .int .i64 td) rfl
            have p2 := blk_cell x0 2 (v := .slice rd2 md2 dd2) rfl
            have p3 := blk_cell x0 3 (v := .slice rd3 md3 dd3) rfl
            have p4 := blk_cell x0 4 (v := .slice rd4 md4 dd4) rfl
            have p5 := blk_cell x0 5 (v := .int .i64 ld) rfl
            have p6 := blk_cell x0 6 (v := .int .i64 ud) rfl
            have y0 := blk_cell bp 0 (v := .slice rz0 mz0 dz0) rfl
            have y1 := blk_cell bp 1 (v := .int .i64 tc) rfl
            have y2 := blk_cell bp 2 (v := .slice rz2 mz2 dz2) rfl
            have y3 := blk_cell bp 3 (v := .slice rz3 mz3 dz3) rfl
            have y4 := blk_cell bp 4 (v := .slice rz4 mz4 dz4) rfl
            have y5 := blk_cell bp 5 (v := .int .i64 lc) rfl
            have y6 := blk_cell bp 6 (v := .int .i64 uc) rfl
            have fy0 := blk_frozen bp 0
            have fy1 := blk_frozen bp 1
            have fy2 := blk_frozen bp 2
            have fy3 := blk_frozen bp 3
            have fy4 := blk_frozen bp 4
            have fy5 := blk_frozen bp 5
            have fy6 := blk_frozen bp 6
            obtain ⟨Xi, hX⟩ : ∃ u, u = (((((((Xh.setCell ⟨P, 0, none⟩ (.slice rd0 md0 dd0)).setCell ⟨P, 1, none⟩ (.int .i64 td)).setCell ⟨P, 2, none⟩ (.slice rd2 md2 dd2)).setCell ⟨P, 3, none⟩ (.slice rd3 md3 dd3)).setCell ⟨P, 4, none⟩ (.slice rd4 md4 dd4)).setCell ⟨P, 5, none⟩ (.int .i64 ld)).setCell ⟨P, 6, none⟩ (.int .i64 ud)) := ⟨_, rfl⟩
            have bp' : Xi.heap[P]? = some (.cells #[.slice rd0 md0 dd0, .int .i64 td, .slice rd2 md2 dd2, .slice rd3 md3 dd3, .slice rd4 md4 dd4, .int .i64 ld, .int .i64 ud] 29 (0, 0)) := by rw [hX]; exact (blk_set (blk_set (blk_set (blk_set (blk_set (blk_set (blk_set bp 0 _) 1 _) 2 _) 3 _) 4 _) 5 _) 6 _)
            have b1' : Xi.heap[w.heap.size + 1]? = some (.cells #[.slice none 0 0, .int .i64 0, .slice none 0 0, .slice none 0 0, .slice none 0 0, .int .i64 0, .int .i64 0] 29 (0, 0)) := by rw [hX]; exact (blk_other (blk_other (blk_other (blk_other (blk_other (blk_other (blk_other b1 (by simp; omega) _) (by simp; omega) _) (by simp; omega) _) (by simp; omega) _) (by simp; omega) _) (by simp; omega) _) (by simp; omega) _)
            have b0' : Xi.heap[w.heap.size]? = some (.cells #[.slice a0 n0 c0, .int .i64 t, .slice a2 n2 c2, .slice a3 n3 c3, .slice a4 n4 c4, .int .i64 la, .int .i64 up] 29 (0, 0)) := by rw [hX]; exact (blk_other (blk_other (blk_other (blk_other (blk_other (blk_other (blk_other b0 (by simp; omega) _) (by simp; omega) _) (by simp; omega) _) (by simp; omega) _) (by simp; omega) _) (by simp; omega) _) (by simp; omega) _)
            have hS : Off (fun b => b = P) Xh Xi := by rw [hX]; exact stores_off (F := fun b => b = P) Xh P 0 [.slice rd0 md0 dd0, .int .i64 td, .slice rd2 md2 dd2, .slice rd3 md3 dd3, .slice rd4 md4 dd4, .int .i64 ld, .int .i64 ud] rfl
            have zXia : Xi.heap.size ≤ Xh.heap.size := by rw [hX]; exact Nat.le_of_eq (stores_size Xh P 0 [.slice rd0 md0 dd0, .int .i64 td, .slice rd2 md2 dd2, .slice rd3 md3 dd3, .slice rd4 md4 dd4, .int .i64 ld, .int .i64 ud])
            have zXib := hS.size
            have BXi : Below w.heap.size w Xi := BXh.trans (hS.belowOf (fun b h => by have h2 : b = P := h; omega) (by omega))
            clear b0 b1 bp
            have b0 := b0'
            have b1 := b1'
            have bp := bp'
            clear b0' b1' bp'
            obtain ⟨GG, hGG, hst⟩ : ∃ FF : Nat → Prop, (∀ b, FF b → w.heap.size + 2 ≤ b ∧ b < Xi.heap.size ∧ b ≠ P) ∧ HSt Xi FF 1 rd0 md0 dd0 rd2 md2 dd2 rd3 md3 dd3 rd4 md4 dd4 (sd, td, qd, vd, od, ld, ud) :=
              ⟨_, fun b h => (by rcases h with h | h; have := hGg _ h; omega; omega), hst_off hst hS (fun b h e => by have h2 : b = P := e; rcases h with h | h; have := hGg _ h; omega; omega)⟩
            clear hS hGg x0
            go_upto_region 12 with fail
            rw [← hX]
            clear hX
            clear y0 y1 y2 y3 y4 y5 y6 fy0 fy1 fy2 fy3 fy4 fy5 fy6
            clear p0 p1 p2 p3 p4 p5 p6
            have hl4 := hst_lens hst
            simp only at hl4
            obtain ⟨oe, h5⟩ : ∃ x, ouC od vd = x := ⟨_, rfl⟩
            obtain ⟨le, h6⟩ : ∃ x, noC ld vd = x := ⟨_, rfl⟩
            obtain ⟨ue, h7⟩ : ∃ x, upF ud vd = x := ⟨_, rfl⟩
            have h4e := dr4_eq sd td qd vd od ld ud
            rw [h5, h6, h7] at h4e
            have hE3 : oe.length ≤ 300 := by have q := (dr4_PD HD3.out).1; rw [h4e] at q; exact q
            have HFIN : Hid (XX = (sd, td, qd, [], oe, le, ue)) := Hid.mk (by rw [← HXX2.out, HDR1.out, H2E.out, H3E.out, h4e])
            have KC := Hid.mk (lastU GG rd0 md0 dd0 rd2 md2 dd2 rd3 md3 dd3 rd4 md4 dd4 td ld ud sd qd vd od Xi (fun b h => (hGG b h).2.1) (by have q : od.length + 30 * vd.length ≤ 300 := HD3.out.2.2; have := hl4.2.2.1; omega) hst)
            rw [h5, h6, h7] at KC
            clear h5 h6 h7 h4e hl4 hst
            have p0 := blk_cell bp 0 (v := .slice rd0 md0 dd0) rfl
            have p1 := blk_cell bp 1 (v := .int .i64 td) rfl
            have p2 := blk_cell bp 2 (v := .slice rd2 md2 dd2) rfl
            have p3 := blk_cell bp 3 (v := .slice rd3 md3 dd3) rfl
            have p4 := blk_cell bp 4 (v := .slice rd4 md4 dd4) rfl
            have p5 := blk_cell bp 5 (v := .int .i64 ld) rfl
            have p6 := blk_cell bp 6 (v := .int .i64 ud) rfl
            go_wp2_with fail
            refine KC.out.mono ?_
            rintro e we ⟨ga3, gn3, gc3, pso, re3, de3, re4, me4, de4, rfl, hne3, hge3, hke3, hoe, hO⟩
            have zwe := hO.size
            have b0 := (hO.block w.heap.size (by omega) (fun h => by have := hGG _ h; omega)).trans b0
            have b1 := (hO.block (w.heap.size + 1) (by omega) (fun h => by have := hGG _ h; omega)).trans b1
            have bp := (hO.block P (by omega) (fun h => by have := hGG _ h; omega)).trans bp
            have Bwe : Below w.heap.size w we := BXi.trans (hO.belowOf (fun b h => by have := hGG _ h; omega) (by omega))
            clear KC hge3 hke3 p0 p1 p2 p3 p4 p5 p6
            have y0 := blk_cell bp 0 (v := .slice rd0 md0 dd0) rfl
            have y1 := blk_cell bp 1 (v := .int .i64 td) rfl
            have y2 := blk_cell bp 2 (v := .slice rd2 md2 dd2) rfl
            have y3 := blk_cell bp 3 (v := .slice rd3 md3 dd3) rfl
            have y4 := blk_cell bp 4 (v := .slice rd4 md4 dd4) rfl
            have y5 := blk_cell bp 5 (v := .int .i64 ld) rfl
            have y6 := blk_cell bp 6 (v := .int .i64 ud) rfl
            have fy0 := blk_frozen bp 0
            have fy1 := blk_frozen bp 1
            have fy2 := blk_frozen bp 2
            have fy3 := blk_frozen bp 3
            have fy4 := blk_frozen bp 4
            have fy5 := blk_frozen bp 5
            have fy6 := blk_frozen bp 6
            obtain ⟨Xe, hX⟩ : ∃ u, u = (((((((we.setCell ⟨P, 0, none⟩ (.slice rd0 md0 dd0)).setCell ⟨P, 1, none⟩ (.int .i64 td)).setCell ⟨P, 2, none⟩ (.slice rd2 md2 dd2)).setCell ⟨P, 3, none⟩ (.slice re3 0 de3)).setCell ⟨P, 4, none⟩ (.slice re4 me4 de4)).setCell ⟨P, 5, none⟩ (.int .i64 le)).setCell ⟨P, 6, none⟩ (.int .i64 ue)) := ⟨_, rfl⟩
            have bp' : Xe.heap[P]? = some (.cells #[.slice rd0 md0 dd0, .int .i64 td, .slice rd2 md2 dd2, .slice re3 0 de3, .slice re4 me4 de4, .int .i64 le, .int .i64 ue] 29 (0, 0)) := by rw [hX]; exact (blk_set (blk_set (blk_set (blk_set (blk_set (blk_set (blk_set bp 0 _) 1 _) 2 _) 3 _) 4 _) 5 _) 6 _)
            have b1' : Xe.heap[w.heap.size + 1]? = some (.cells #[.slice none 0 0, .int .i64 0, .slice none 0 0, .slice none 0 0, .slice none 0 0, .int .i64 0, .int .i64 0] 29 (0, 0)) := by rw [hX]; exact (blk_other (blk_other (blk_other (blk_other (blk_other (blk_other (blk_other b1 (by simp; omega) _) (by simp; omega) _) (by simp; omega) _) (by simp; omega) _) (by simp; omega) _) (by simp; omega) _) (by simp; omega) _)
            have b0' : Xe.heap[w.heap.size]? = some (.cells #[.slice a0 n0 c0, .int .i64 t, .slice a2 n2 c2, .slice a3 n3 c3, .slice a4 n4 c4, .int .i64 la, .int .i64 up] 29 (0, 0)) := by rw [hX]; exact (blk_other (blk_other (blk_other (blk_other (blk_other (blk_other (blk_other b0 (by simp; omega) _) (by simp; omega) _) (by simp; omega) _) (by simp; omega) _) (by simp; omega) _) (by simp; omega) _) (by simp; omega) _)
            have hS : Off (fun b => b = P) we Xe := by rw [hX]; exact stores_off (F := fun b => b = P) we P 0 [.slice rd0 md0 dd0, .int .i64 td, .slice rd2 md2 dd2, .slice re3 0 de3, .slice re4 me4 de4, .int .i64 le, .int .i64 ue] rfl
            have zXea : Xe.heap.size ≤ we.heap.size := by rw [hX]; exact Nat.le_of_eq (stores_size we P 0 [.slice rd0 md0 dd0, .int .i64 td, .slice rd2 md2 dd2, .slice re3 0 de3, .slice re4 me4 de4, .int .i64 le, .int .i64 ue])
            have zXeb := hS.size
            have BXe : Below w.heap.size w Xe := Bwe.trans (hS.belowOf (fun b h => by have h2 : b = P := h; omega) (by omega))
            clear b0 b1 bp
            have b0 := b0'
            have b1 := b1'
            have bp := bp'
            clear b0' b1' bp'
            have q4 := RSink.at_iff (RSink.toAt (RSink.ownOff hoe hS (fun b h e => by have h2 : b = P := e; rcases h with h | h; have := hGG _ h; omega; omega)))
            have HQ0 := Hid.mk q4.1
            have HQ2 := Hid.mk q4.2.1
            have HQ4 := Hid.mk q4.2.2.2
            have hm0 : md0 ≤ 1048576 := by have := q4.1.1; have := HS3.out.1; omega
            have hm2 : md2 ≤ 1048576 := by have := q4.2.1.1; have := HS3.out.2; omega
            have hm4 : me4 ≤ 1048576 := by have := q4.2.2.2.1; omega
            have hme : oe.length = me4 := q4.2.2.2.1
            have HNE := Hid.mk hne3
            clear q4 hoe hO hS hne3
            (try simp only)
            go_upto_region 13 with fail
            rw [← hX]
            clear hX
            clear y0 y1 y2 y3 y4 y5 y6 fy0 fy1 fy2 fy3 fy4 fy5 fy6
            have hwx : IntKind.i64.wrap ((me4 : Int) - (n4 : Int)) = (me4 : Int) - (n4 : Int) := by
              have h1 := H4.out
              have h2 : ou.length + 30 * ps.length ≤ 150 := HGP.out.2.2.2.1
              exact IntWalk.i64_in _ (by omega)
            have hnn := HXN2.out
            rw [HFIN.out] at hnn
            simp only at hnn
            rw [hme] at hnn
            have HNN := Hid.mk hnn
            clear hnn hme
            have KO2 : Hid (∀ U, Below Xe.heap.size Xe U → Calls Try.prog 27 #[.agg #[.slice rd0 md0 dd0, .int .i64 td, .slice rd2 md2 dd2, .slice re3 0 de3, .slice re4 me4 de4, .int .i64 le, .int .i64 ue]] U fun e w' => CpRet e U w' (sd, td, qd, [], oe, le, ue)) := Hid.mk (fun U hU =>
              l16Own_any rd0 md0 dd0 rd2 md2 dd2 re3 0 de3 re4 me4 de4 td le ue sd qd [] oe U HQ0.out.1 HQ2.out.1 rfl HQ4.out.1 hm0 hm2 (by omega) hm4 HQ0.out.2.2.2 HQ2.out.2.2.2 HNE.out HQ4.out.2.2.2 (fun i x h => by simp at h) (At.below HQ0.out.2.2.1 hU) (At.below HQ2.out.2.2.1 hU) (.inl rfl) (At.below HQ4.out.2.2.1 hU))
            have zp1 : ¬ P = w.heap.size + 1 := by omega
            have zp0 : ¬ w.heap.size = w.heap.size + 1 := by omega
            have p0 := blk_cell bp 0 (v := .slice rd0 md0 dd0) rfl
            have p1 := blk_cell bp 1 (v := .int .i64 td) rfl
            have p2 := blk_cell bp 2 (v := .slice rd2 md2 dd2) rfl
            have p3 := blk_cell bp 3 (v := .slice re3 0 de3) rfl
            have p4 := blk_cell bp 4 (v := .slice re4 me4 de4) rfl
            have p5 := blk_cell bp 5 (v := .int .i64 le) rfl
            have p6 := blk_cell bp 6 (v := .int .i64 ue) rfl
            have s4 := blk_cell b0 4 (v := .slice a4 n4 c4) rfl
            refine wp_region_held_drew (S := fun w' => Off (fun b => b = w.heap.size + 1) Xe w') (by kernel_rfl) ?_ (fun hHeld => ?_)
            · (try dsimp only)
              exact (Off.refl _ _).drew
            refine tk 0 ?_ (hy := fun wS hSw => by (have p0 := Off.cell hSw p0 zp1; have p1 := Off.cell hSw p1 zp1; have p2 := Off.cell hSw p2 zp1; have p3 := Off.cell hSw p3 zp1; have p4 := Off.cell hSw p4 zp1; have p5 := Off.cell hSw p5 zp1; have p6 := Off.cell hSw p6 zp1; go_simp; (try with_reducible rfl)))
            refine tk 2 ?_
            refine tk 3 ?_ (hy := fun wS hSw => by (have p4 := Off.cell hSw p4 zp1; go_simp; (try with_reducible rfl)))
            refine tk 4 ?_
            refine tk 5 ?_
            refine tk 6 ?_ (hy := fun wS hSw => by (have s4 := Off.cell hSw s4 zp0; go_simp; (try with_reducible rfl)))
            refine tk 7 ?_
            refine tk 8 ?_
            obtain ⟨u0, hu0⟩ : ∃ u, u = Xe.drew := ⟨_, rfl⟩
            have Y0 : Below Xe.heap.size Xe u0 := by rw [hu0]; exact (Below.refl _ _).drew
            rw [← hu0]
            rw [← hu0] at hHeld
            clear hu0
            refine wpAnyH_ready (rs := [1]) (by kernel_rfl) (by simp) ?_
            refine AllReadyH.cons (o := ?_) ?_ (fun K hK => ?_) AllReadyH.nil
            rotate_left
            · (simp only [List.getElem?_toArray, List.getElem?_cons_zero, List.getElem?_cons_succ]; rfl)
            go_simp
            go_at_call 27
            refine (KO2.out u0 Y0).mono ?_
            rintro e wf ⟨rf0, mf0, df0, rf2, mf2, df2, rf3, mf3, df3, rf4, mf4, df4, rfl, hof, hbf⟩
            simp only at hof
            have YF : Below Xe.heap.size Xe wf := Y0.trans (hbf.mono Y0.size)
            have b1 := blk_below b1 YF
            have zf := YF.size
            have zu := Y0.size
            have Bf : Below w.heap.size w wf := BXe.trans (YF.mono BXe.size)
            have HOF := Hid.mk hof
            clear hof hbf
            (try go_wp2_with fail)
            refine hK.out _ _ ?_ (fun hHeld' => ?_)
            · (try dsimp only)
              exact Off.below YF
            clear hK K hHeld
            have hHeld := hHeld'
            clear hHeld'
            (try simp only [Act.put, List.setIfInBounds_toArray, List.set_cons_zero, List.set_cons_succ])
            have y0 := blk_cell b1 0 (v := .slice none 0 0) rfl
            have y1 := blk_cell b1 1 (v := .int .i64 0) rfl
            have y2 := blk_cell b1 2 (v := .slice none 0 0) rfl
            have y3 := blk_cell b1 3 (v := .slice none 0 0) rfl
            have y4 := blk_cell b1 4 (v := .slice none 0 0) rfl
            have y5 := blk_cell b1 5 (v := .int .i64 0) rfl
            have y6 := blk_cell b1 6 (v := .int .i64 0) rfl
            have fz0 := blk_frozen b1 0
            have fz1 := blk_frozen b1 1
            have fz2 := blk_frozen b1 2
            have fz3 := blk_frozen b1 3
            have fz4 := blk_frozen b1 4
            have fz5 := blk_frozen b1 5
            have fz6 := blk_frozen b1 6
            refine wpAnyH_ready (rs := [9]) (by kernel_rfl) (by simp) ?_
            refine AllReadyH.cons (o := ?_) ?_ (fun K hK => ?_) AllReadyH.nil
            rotate_left
            · (simp only [List.getElem?_toArray, List.getElem?_cons_zero, List.getElem?_cons_succ]; rfl)
            go_simp
            skip
            (try go_wp2_with fail)
            refine hK.out _ _ ?_ (fun hHeld' => ?_)
            · (try dsimp only)
              exact (Off.below YF).trans (stores_off (F := fun b => b = w.heap.size + 1) wf (w.heap.size + 1) 0 [.slice rf0 mf0 df0, .int .i64 td, .slice rf2 mf2 df2, .slice rf3 mf3 df3, .slice rf4 mf4 df4, .int .i64 le, .int .i64 ue] rfl)
            clear hK K hHeld
            have hHeld := hHeld'
            clear hHeld'
            (try simp only [Act.put, List.setIfInBounds_toArray, List.set_cons_zero, List.set_cons_succ])
            refine tk 10 ?_
            refine tk 11 ?_
            refine wpAnyH_done (by kernel_rfl) ?_ _
            obtain ⟨Y, hY⟩ : ∃ u, u = stores wf (w.heap.size + 1) 0 [.slice rf0 mf0 df0, .int .i64 td, .slice rf2 mf2 df2, .slice rf3 mf3 df3, .slice rf4 mf4 df4, .int .i64 le, .int .i64 ue] := ⟨_, rfl⟩
            have S : Off (fun b => b = w.heap.size + 1) wf Y := by rw [hY]; exact stores_off (F := fun b => b = w.heap.size + 1) _ _ _ _ rfl
            have zY := S.size
            have D : Below w.heap.size w Y := Bf.trans (S.belowOf (fun b h => by have h2 : b = w.heap.size + 1 := h; omega) (by omega))
            have RR : Hid (SinkRetN (.returned (.tuple #[.agg #[.slice rf0 mf0 df0, .int .i64 td, .slice rf2 mf2 df2, .slice rf3 mf3 df3, .slice rf4 mf4 df4, .int .i64 le, .int .i64 ue], .int .i64 ((me4 : Int) - (n4 : Int)), .bool true])) Y w.heap.size XN true XX ∧ Below w.heap.size w Y) := Hid.mk (by
              rw [HFIN.out, ← HNN.out]
              exact ⟨⟨rf0, mf0, df0, rf2, mf2, df2, rf3, mf3, df3, rf4, mf4, df4, rfl, RSink.mono (RSink.ownOff HOF.out S (fun b h e => by have h2 : b = w.heap.size + 1 := e; have := h.1; omega)) (fun b h => ⟨by have := h.1; omega, by have := h.2; omega⟩)⟩, D⟩)
            have HY := Hid.mk hY
            clear D S hY b0 b1 bp zY
            go_wp2
            refine bodyPost_ret (v := .tuple #[.agg #[.slice rf0 mf0 df0, .int .i64 td, .slice rf2 mf2 df2, .slice rf3 mf3 df3, .slice rf4 mf4 df4, .int .i64 le, .int .i64 ue], .int .i64 ((me4 : Int) - (n4 : Int)), .bool true]) (by simp [results, Try.results21, go_sem, y0, y1, y2, y3, y4, y5, y6]) rfl ?_
            have h := RR.out
            rw [HY.out] at h
            exact h
        · obtain ⟨⟨sy, ty, qy, vy, oy, ly, uy⟩, hy⟩ : ∃ y, (rdK (sz, tz, qz, vz, oz, lz, uz)).1 = y := ⟨_, rfl⟩
          have hyes := rdK_yes (x := (sz, tz, qz, vz, oz, lz, uz)) hend
          have KS := Hid.mk (readU 0 G rz0 mz0 dz0 rz2 mz2 dz2 rz3 mz3 dz3 rz4 mz4 dz4 tz lz uz sz qz vz oz wY (fun b h => (hG b h).2.1) hpz hst)
          rw [hyes, hy] at KS
          have hstep := rdK_step (sz, tz, qz, vz, oz, lz, uz) hpz hyes
          rw [hy] at hstep
          rw [← hstep.2, itK_yes hyes, hy] at hxz
          have HST2 := Hid.mk hstep
          have HXZ := Hid.mk hxz
          have HMZ := Hid.mk hmz
          clear hend hyes hy hstep hxz hmz hpz hst hlz
          have p0 := blk_cell bp 0 (v := .slice rz0 mz0 dz0) rfl
          have p1 := blk_cell bp 1 (v := .int .i64 tz) rfl
          have p2 := blk_cell bp 2 (v := .slice rz2 mz2 dz2) rfl
          have p3 := blk_cell bp 3 (v := .slice rz3 mz3 dz3) rfl
          have p4 := blk_cell bp 4 (v := .slice rz4 mz4 dz4) rfl
          have p5 := blk_cell bp 5 (v := .int .i64 lz) rfl
          have p6 := blk_cell bp 6 (v := .int .i64 uz) rfl
          go_wp2_with fail
          refine KS.out.mono ?_
          rintro e wy ⟨ry0, my0, dy0, ry2, my2, dy2, ry3, my3, dy3, ry4, my4, dy4, rfl, hsy, hO⟩
          (try simp only at hsy)
          have zwy := hO.size
          have b0 := (hO.block w.heap.size (by omega) (fun h => by have := hG _ h; omega)).trans b0
          have b1 := (hO.block (w.heap.size + 1) (by omega) (fun h => by have := hG _ h; omega)).trans b1
          have bp := (hO.block P (by omega) (fun h => by have := hG _ h; omega)).trans bp
          have Bwy : Below w.heap.size w wy := BwY.trans (hO.belowOf (fun b h => by have := hG _ h; omega) (by omega))
          clear KS p0 p1 p2 p3 p4 p5 p6 hO
          obtain ⟨Xx, hX⟩ : ∃ u, u = wy.alloc (.cells #[.slice ry0 my0 dy0, .int .i64 ty, .slice ry2 my2 dy2, .slice ry3 my3 dy3, .slice ry4 my4 dy4, .int .i64 ly, .int .i64 uy] 29) := ⟨_, rfl⟩
          have bX : Below wy.heap.size wy Xx := by rw [hX]; exact (Below.refl _ _).alloc (Nat.le_refl _) _
          have x0 : Xx.heap[wy.heap.size]? = some (.cells #[.slice ry0 my0 dy0, .int .i64 ty, .slice ry2 my2 dy2, .slice ry3 my3 dy3, .slice ry4 my4 dy4, .int .i64 ly, .int .i64 uy] 29 (0, 0)) := by rw [hX]; exact heap_alloc_new wy _
          have b0 := blk_below b0 bX
          have b1 := blk_below b1 bX
          have bp := blk_below bp bX
          have zXx := bX.size
          have zXxl : wy.heap.size < Xx.heap.size := by rw [hX]; simp
          have BXx : Below w.heap.size w Xx := Bwy.trans (bX.mono Bwy.size)
          go_upto_region 7 with fail
          (try simp only)
          rw [← hX]
          clear hX
          have p0 := blk_cell x0 0 (v := .slice ry0 my0 dy0) rfl
          have p1 := blk_cell x0 1 (v := .int .i64 ty) rfl
          have p2 := blk_cell x0 2 (v := .slice ry2 my2 dy2) rfl
          have p3 := blk_cell x0 3 (v := .slice ry3 my3 dy3) rfl
          have p4 := blk_cell x0 4 (v := .slice ry4 my4 dy4) rfl
          have p5 := blk_cell x0 5 (v := .int .i64 ly) rfl
          have p6 := blk_cell x0 6 (v := .int .i64 uy) rfl
          have y0 := blk_cell bp 0 (v := .slice rz0 mz0 dz0) rfl
          have y1 := blk_cell bp 1 (v := .int .i64 tz) rfl
          have y2 := blk_cell bp 2 (v := .slice rz2 mz2 dz2) rfl
          have y3 := blk_cell bp 3 (v := .slice rz3 mz3 dz3) rfl
          have y4 := blk_cell bp 4 (v := .slice rz4 mz4 dz4) rfl
          have y5 := blk_cell bp 5 (v := .int .i64 lz) rfl
          have y6 := blk_cell bp 6 (v := .int .i64 uz) rfl
          have fy0 := blk_frozen bp 0
          have fy1 := blk_frozen bp 1
          have fy2 := blk_frozen bp 2
          have fy3 := blk_frozen bp 3
          have fy4 := blk_frozen bp 4
          have fy5 := blk_frozen bp 5
          have fy6 := blk_frozen bp 6
          obtain ⟨Xr, hX⟩ : ∃ u, u = (((((((Xx.setCell ⟨P, 0, none⟩ (.slice ry0 my0 dy0)).setCell ⟨P, 1, none⟩ (.int .i64 ty)).setCell ⟨P, 2, none⟩ (.slice ry2 my2 dy2)).setCell ⟨P, 3, none⟩ (.slice ry3 my3 dy3)).setCell ⟨P, 4, none⟩ (.slice ry4 my4 dy4)).setCell ⟨P, 5, none⟩ (.int .i64 ly)).setCell ⟨P, 6, none⟩ (.int .i64 uy)) := ⟨_, rfl⟩
          have bp' : Xr.heap[P]? = some (.cells #[.slice ry0 my0 dy0, .int .i64 ty, .slice ry2 my2 dy2, .slice ry3 my3 dy3, .slice ry4 my4 dy4, .int .i64 ly, .int .i64 uy] 29 (0, 0)) := by rw [hX]; exact (blk_set (blk_set (blk_set (blk_set (blk_set (blk_set (blk_set bp 0 _) 1 _) 2 _) 3 _) 4 _) 5 _) 6 _)
          have b1' : Xr.heap[w.heap.size + 1]? = some (.cells #[.slice none 0 0, .int .i64 0, .slice none 0 0, .slice none 0 0, .slice none 0 0, .int .i64 0, .int .i64 0] 29 (0, 0)) := by rw [hX]; exact (blk_other (blk_other (blk_other (blk_other (blk_other (blk_other (blk_other b1 (by simp; omega) _) (by simp; omega) _) (by simp; omega) _) (by simp; omega) _) (by simp; omega) _) (by simp; omega) _) (by simp; omega) _)
          have b0' : Xr.heap[w.heap.size]? = some (.cells #[.slice a0 n0 c0, .int .i64 t, .slice a2 n2 c2, .slice a3 n3 c3, .slice a4 n4 c4, .int .i64 la, .int .i64 up] 29 (0, 0)) := by rw [hX]; exact (blk_other (blk_other (blk_other (blk_other (blk_other (blk_other (blk_other b0 (by simp; omega) _) (by simp; omega) _) (by simp; omega) _) (by simp; omega) _) (by simp; omega) _) (by simp; omega) _) (by simp; omega) _)
          have hS : Off (fun b => b = P) Xx Xr := by rw [hX]; exact stores_off (F := fun b => b = P) Xx P 0 [.slice ry0 my0 dy0, .int .i64 ty, .slice ry2 my2 dy2, .slice ry3 my3 dy3, .slice ry4 my4 dy4, .int .i64 ly, .int .i64 uy] rfl
          have zXra : Xr.heap.size ≤ Xx.heap.size := by rw [hX]; exact Nat.le_of_eq (stores_size Xx P 0 [.slice ry0 my0 dy0, .int .i64 ty, .slice ry2 my2 dy2, .slice ry3 my3 dy3, .slice ry4 my4 dy4, .int .i64 ly, .int .i64 uy])
          have zXrb := hS.size
          have BXr : Below w.heap.size w Xr := BXx.trans (hS.belowOf (fun b h => by have h2 : b = P := h; omega) (by omega))
          clear b0 b1 bp
          have b0 := b0'
          have b1 := b1'
          have bp := bp'
          clear b0' b1' bp'
          have HREL : Hid (∃ (rz0 : Option Addr) (mz0 dz0 : Nat) (rz2 : Option Addr) (mz2 dz2 : Nat) (rz3 : Option Addr) (mz3 dz3 : Nat) (rz4 : Option Addr) (mz4 dz4 : Nat) (sz : List Int) (tz : Int) (qz : List Int) (vz : List TPrepared) (oz : List Int) (lz uz : Int) (G : Nat → Prop),
            Xr.heap[P]? = some (.cells #[.slice rz0 mz0 dz0, .int .i64 tz, .slice rz2 mz2 dz2, .slice rz3 mz3 dz3, .slice rz4 mz4 dz4, .int .i64 lz, .int .i64 uz] 29 (0, 0)) ∧ Xr.heap[w.heap.size + 1]? = some (.cells #[.slice none 0 0, .int .i64 0, .slice none 0 0, .slice none 0 0, .slice none 0 0, .int .i64 0, .int .i64 0] 29 (0, 0)) ∧ Xr.heap[w.heap.size]? = some (.cells #[.slice a0 n0 c0, .int .i64 t, .slice a2 n2 c2, .slice a3 n3 c3, .slice a4 n4 c4, .int .i64 la, .int .i64 up] 29 (0, 0)) ∧ HSt Xr G 0 rz0 mz0 dz0 rz2 mz2 dz2 rz3 mz3 dz3 rz4 mz4 dz4 (sz, tz, qz, vz, oz, lz, uz) ∧ PR (sz, tz, qz, vz, oz, lz, uz) ∧ muR (sz, tz, qz, vz, oz, lz, uz) = muR (sy, ty, qy, vy, oy, ly, uy) ∧ (itK rdK (muR (sz, tz, qz, vz, oz, lz, uz)) (sz, tz, qz, vz, oz, lz, uz)).1 = (sc, tc, qc, vc, oc, lc, uc) ∧ (∀ b, G b → w.heap.size + 2 ≤ b ∧ b < Xr.heap.size ∧ b ≠ P) ∧ Below w.heap.size w Xr ∧ P < Xr.heap.size) := Hid.mk
            ⟨ry0, my0, dy0, ry2, my2, dy2, ry3, my3, dy3, ry4, my4, dy4, sy, ty, qy, vy, oy, ly, uy, Gr G wY wy, bp, b1, b0, hst_off (hst_below hsy bX) hS (fun b h e => by have h2 : b = P := e; rcases h with h | h; have := hG _ h; omega; omega), HST2.out.1, rfl, HXZ.out, fun b h => (by rcases h with h | h; have := hG _ h; omega; omega), BXr, by omega⟩
          clear hS bX hsy b0 b1 bp
          go_wp2_with fail
          rw [← hX]
          clear hX
          go_roundg (muR (sy, ty, qy, vy, oy, ly, uy))
          case measure => have q := HST2.out.2; have := HMZ.out; omega
          case rel => exact HREL.out

    · have hb4 : ((ma3 : Int) == 4) = false := beq_eq_false_iff_ne.2 (by omega)
      have hps4 : ¬ ps.length = 4 := by rw [H3.out]; exact h4
      have HDR1 : Hid (dr1 (src, t, pd, ps, ou, la, up) = (src, t, pd, ps, ou, la, up)) := Hid.mk (by unfold dr1; rw [if_neg hps4])
      have HD1 := HGP.out
      have hst := hst_whole 0 (by have q : ps.length ≤ 4 := HD1.2.1; have := H3.out; omega) HD1.2.2.1 hoa
      clear h4 hna hps4 hoa
      have p3 := blk_cell bp 3 (v := .slice ra3 ma3 da3) rfl
      obtain ⟨⟨sc, tc, qc, vc, oc, lc, uc⟩, h2⟩ : ∃ y, dr2 (src, t, pd, ps, ou, la, up) = y := ⟨_, rfl⟩
      obtain ⟨⟨sd, td, qd, vd, od, ld, ud⟩, h3⟩ : ∃ y, dr3 (sc, tc, qc, vc, oc, lc, uc) = y := ⟨_, rfl⟩
      have HD2 := dr2_DP HD1
      rw [h2] at HD2
      have hd3 := dr3_PD HD2
      rw [h3] at hd3
      have hs3 := dr3_keeps (sc, tc, qc, vc, oc, lc, uc)
      rw [h3] at hs3
      simp only at hs3
      have HS3 : Hid (sd.length ≤ 30 ∧ qd.length ≤ 30) := Hid.mk ⟨by rw [hs3.1]; exact HD2.1.1, Nat.le_trans hs3.2 (by have q : qc.length + (sc.length - tc.toNat) ≤ 30 := HD2.1.2.2.2; omega)⟩
      have HD3 := Hid.mk hd3
      have HD2' := Hid.mk HD2
      have hPRp : PR (src, t, pd, ps, ou, la, up) := HD1.1
      have H2L : (itK rdK (muR (src, t, pd, ps, ou, la, up)) (src, t, pd, ps, ou, la, up)).1 = (sc, tc, qc, vc, oc, lc, uc) := h2
      have H2E := Hid.mk h2
      have H3E := Hid.mk h3
      have HHST := Hid.mk hst
      have HHF := Hid.mk hFFa
      have HPRP := Hid.mk hPRp
      have H2LL := Hid.mk H2L
      have HB0 := Hid.mk b0
      have HB1 := Hid.mk b1
      have HBP := Hid.mk bp
      have HBX := Hid.mk BXa
      have HZX : Hid (P < Xa.heap.size) := Hid.mk (by omega)
      clear h2 h3 HD1 HD2 hd3 hs3 hPRp H2L hst hFFa b0 b1 bp
      go_wp2_with fail
      clear p3
      go_loopg [6] (muR (src, t, pd, ps, ou, la, up)) (fun gk _ wr => ∃ (rz0 : Option Addr) (mz0 dz0 : Nat) (rz2 : Option Addr) (mz2 dz2 : Nat) (rz3 : Option Addr) (mz3 dz3 : Nat) (rz4 : Option Addr) (mz4 dz4 : Nat) (sz : List Int) (tz : Int) (qz : List Int) (vz : List TPrepared) (oz : List Int) (lz uz : Int) (G : Nat → Prop),
        wr.heap[P]? = some (.cells #[.slice rz0 mz0 dz0, .int .i64 tz, .slice rz2 mz2 dz2, .slice rz3 mz3 dz3, .slice rz4 mz4 dz4, .int .i64 lz, .int .i64 uz] 29 (0, 0)) ∧ wr.heap[w.heap.size + 1]? = some (.cells #[.slice none 0 0, .int .i64 0, .slice none 0 0, .slice none 0 0, .slice none 0 0, .int .i64 0, .int .i64 0] 29 (0, 0)) ∧ wr.heap[w.heap.size]? = some (.cells #[.slice a0 n0 c0, .int .i64 t, .slice a2 n2 c2, .slice a3 n3 c3, .slice a4 n4 c4, .int .i64 la, .int .i64 up] 29 (0, 0)) ∧ HSt wr G 0 rz0 mz0 dz0 rz2 mz2 dz2 rz3 mz3 dz3 rz4 mz4 dz4 (sz, tz, qz, vz, oz, lz, uz) ∧ PR (sz, tz, qz, vz, oz, lz, uz) ∧ muR (sz, tz, qz, vz, oz, lz, uz) = gk ∧ (itK rdK (muR (sz, tz, qz, vz, oz, lz, uz)) (sz, tz, qz, vz, oz, lz, uz)).1 = (sc, tc, qc, vc, oc, lc, uc) ∧ (∀ b, G b → w.heap.size + 2 ≤ b ∧ b < wr.heap.size ∧ b ≠ P) ∧ Below w.heap.size w wr ∧ P < wr.heap.size)
      case atStart => exact ⟨ra0, ma0, da0, ra2, ma2, da2, ra3, ma3, da3, ra4, ma4, da4, src, t, pd, ps, ou, la, up, FFa, HBP.out, HB1.out, HB0.out, HHST.out, HPRP.out, rfl, H2LL.out, HHF.out, HBX.out, HZX.out⟩
      case round =>
        clear HHST HHF HPRP H2LL HB0 HB1 HBP HBX HZX
        obtain ⟨rz0, mz0, dz0, rz2, mz2, dz2, rz3, mz3, dz3, rz4, mz4, dz4, sz, tz, qz, vz, oz, lz, uz, G, bp, b1, b0, hst, hpz, hmz, hxz, hG, BwY, zwY⟩ := hrel
        obtain ⟨wY, rfl⟩ : ∃ x, x = wr := ⟨_, rfl⟩
        have hlz := hst_lens hst
        simp only at hlz
        by_cases hend : tz = sz.length
        · have hno : rdK (sz, tz, qz, vz, oz, lz, uz) = ((sz, tz, qz, vz, oz, lz, uz), false) := rdK_no hend
          rw [itK_no (by rw [hno])] at hxz
          simp only [Prod.mk.injEq] at hxz
          obtain ⟨e1, e2, e3, e4, e5, e6, e7⟩ := hxz
          rw [e2, e6, e7] at bp
          rw [e1, e2, e3, e4, e5, e6, e7] at hst
          rw [e1, e3, e4, e5] at hlz
          rw [e1, e2] at hend
          have KS := Hid.mk (step1g_no rz0 mz0 dz0 rz2 mz2 dz2 rz3 mz3 dz3 rz4 mz4 dz4 tc lc uc wY (by have := hlz.1; omega))
          clear e1 e2 e3 e4 e5 e6 e7 hno hmz hpz hend
          have p0 := blk_cell bp 0 (v := .slice rz0 mz0 dz0) rfl
          have p1 := blk_cell bp 1 (v := .int .i64 tc) rfl
          have p2 := blk_cell bp 2 (v := .slice rz2 mz2 dz2) rfl
          have p3 := blk_cell bp 3 (v := .slice rz3 mz3 dz3) rfl
          have p4 := blk_cell bp 4 (v := .slice rz4 mz4 dz4) rfl
          have p5 := blk_cell bp 5 (v := .int .i64 lc) rfl
          have p6 := blk_cell bp 6 (v := .int .i64 uc) rfl
          go_wp2_with fail
          refine KS.out.mono ?_
          rintro e wf0 ⟨rfl, hbf⟩
          have b0 := blk_below b0 hbf
          have b1 := blk_below b1 hbf
          have bp := blk_below bp hbf
          have zf0 := hbf.size
          have Bf0 := BwY.trans (hbf.mono BwY.size)
          have hst := hst_below hst hbf
          clear KS hbf p0 p1 p2 p3 p4 p5 p6
          obtain ⟨Xg, hX⟩ : ∃ u, u = wf0.alloc (.cells #[.slice rz0 mz0 dz0, .int .i64 tc, .slice rz2 mz2 dz2, .slice rz3 mz3 dz3, .slice rz4 mz4 dz4, .int .i64 lc, .int .i64 uc] 29) := ⟨_, rfl⟩
          have bX : Below wf0.heap.size wf0 Xg := by rw [hX]; exact (Below.refl _ _).alloc (Nat.le_refl _) _
          have x0 : Xg.heap[wf0.heap.size]? = some (.cells #[.slice rz0 mz0 dz0, .int .i64 tc, .slice rz2 mz2 dz2, .slice rz3 mz3 dz3, .slice rz4 mz4 dz4, .int .i64 lc, .int .i64 uc] 29 (0, 0)) := by rw [hX]; exact heap_alloc_new wf0 _
          have b0 := blk_below b0 bX
          have b1 := blk_below b1 bX
          have bp := blk_below bp bX
          have zXg := bX.size
          have zXgl : wf0.heap.size < Xg.heap.size := by rw [hX]; simp
          have BXg : Below w.heap.size w Xg := Bf0.trans (bX.mono Bf0.size)
          have hst := hst_below hst bX
          have hGg : ∀ b, G b → w.heap.size + 2 ≤ b ∧ b < Xg.heap.size ∧ b ≠ P := fun b h => by have := hG b h; omega
          clear hG bX x0
          go_upto_region 7 with fail
          (try simp only)
          rw [← hX]
          clear hX
          have p0 := blk_cell bp 0 (v := .slice rz0 mz0 dz0) rfl
          have p1 := blk_cell bp 1 (v := .int .i64 tc) rfl
          have p2 := blk_cell bp 2 (v := .slice rz2 mz2 dz2) rfl
          have p3 := blk_cell bp 3 (v := .slice rz3 mz3 dz3) rfl
          have p4 := blk_cell bp 4 (v := .slice rz4 mz4 dz4) rfl
          have p5 := blk_cell bp 5 (v := .int .i64 lc) rfl
          have p6 := blk_cell bp 6 (v := .int .i64 uc) rfl
          by_cases hc : qc.length = 0 ∨ vc.length = 4 ∨ 1000 < lc + (vc.length : Int) + 1
          · have h3 := prK_no (x := (sc, tc, qc, vc, oc, lc, uc)) hc
            have h3e : (sc, tc, qc, vc, oc, lc, uc) = (sd, td, qd, vd, od, ld, ud) := by rw [← H3E.out]; unfold dr3; rw [h3]
            simp only [Prod.mk.injEq] at h3e
            obtain ⟨e1, e2, e3, e4, e5, e6, e7⟩ := h3e
            rw [hlz.2.1, hlz.2.2.1] at hc
            have KS := Hid.mk (step2g_no rz0 mz0 dz0 rz2 mz2 dz2 rz3 mz3 dz3 rz4 mz4 dz4 tc lc uc Xg hc (by have q : vc.length ≤ 4 := HD2'.out.2.1; have := hlz.2.2.1; omega) HD2'.out.2.2.2.2.1 HD2'.out.2.2.2.2.2)
            rw [e2, e6, e7] at KS bp
            rw [e2] at p1
            rw [e6] at p5
            rw [e7] at p6
            rw [e1, e2, e3, e4, e5, e6, e7] at hst
            clear hc h3 e1 e2 e3 e4 e5 e6 e7 hlz
            go_wp2_with fail
            refine KS.out.mono ?_
            rintro e wh ⟨rfl, hbh⟩
            have b0 := blk_below b0 hbh
            have b1 := blk_below b1 hbh
            have bp := blk_below bp hbh
            have zh := hbh.size
            have Bh := BXg.trans (hbh.mono BXg.size)
            have hst := hst_below hst hbh
            clear KS hbh p0 p1 p2 p3 p4 p5 p6
            obtain ⟨Xh, hX⟩ : ∃ u, u = wh.alloc (.cells #[.slice rz0 mz0 dz0, .int .i64 td, .slice rz2 mz2 dz2, .slice rz3 mz3 dz3, .slice rz4 mz4 dz4, .int .i64 ld, .int .i64 ud] 29) := ⟨_, rfl⟩
            have bX : Below wh.heap.size wh Xh := by rw [hX]; exact (Below.refl _ _).alloc (Nat.le_refl _) _
            have x0 : Xh.heap[wh.heap.size]? = some (.cells #[.slice rz0 mz0 dz0, .int .i64 td, .slice rz2 mz2 dz2, .slice rz3 mz3 dz3, .slice rz4 mz4 dz4, .int .i64 ld, .int .i64 ud] 29 (0, 0)) := by rw [hX]; exact heap_alloc_new wh _
            have b0 := blk_below b0 bX
            have b1 := blk_below b1 bX
            have bp := blk_below bp bX
            have zXh := bX.size
            have zXhl : wh.heap.size < Xh.heap.size := by rw [hX]; simp
            have BXh : Below w.heap.size w Xh := Bh.trans (bX.mono Bh.size)
            have hst := hst_up (hst_below hst bX)
            have hGh : ∀ b, G b → w.heap.size + 2 ≤ b ∧ b < Xh.heap.size ∧ b ≠ P := fun b h => by have := hGg b h; omega
            clear hGg bX x0
            go_upto_region 10 with fail
            (try simp only)
            rw [← hX]
            clear hX
            obtain ⟨GG, hGG⟩ : ∃ GG, GG = G := ⟨_, rfl⟩
            rw [← hGG] at hst hGh
            clear hGG
            have hGG := hGh
            clear hGh
            have hl4 := hst_lens hst
            simp only at hl4
            obtain ⟨oe, h5⟩ : ∃ x, ouC od vd = x := ⟨_, rfl⟩
            obtain ⟨le, h6⟩ : ∃ x, noC ld vd = x := ⟨_, rfl⟩
            obtain ⟨ue, h7⟩ : ∃ x, upF ud vd = x := ⟨_, rfl⟩
            have h4e := dr4_eq sd td qd vd od ld ud
            rw [h5, h6, h7] at h4e
            have hE3 : oe.length ≤ 300 := by have q := (dr4_PD HD3.out).1; rw [h4e] at q; exact q
            have HFIN : Hid (XX = (sd, td, qd, [], oe, le, ue)) := Hid.mk (by rw [← HXX2.out, HDR1.out, H2E.out, H3E.out, h4e])
            have KC := Hid.mk (lastU GG rz0 mz0 dz0 rz2 mz2 dz2 rz3 mz3 dz3 rz4 mz4 dz4 td ld ud sd qd vd od Xh (fun b h => (hGG b h).2.1) (by have q : od.length + 30 * vd.length ≤ 300 := HD3.out.2.2; have := hl4.2.2.1; omega) hst)
            rw [h5, h6, h7] at KC
            clear h5 h6 h7 h4e hl4 hst
            have p0 := blk_cell bp 0 (v := .slice rz0 mz0 dz0) rfl
            have p1 := blk_cell bp 1 (v := .int .i64 td) rfl
            have p2 := blk_cell bp 2 (v := .slice rz2 mz2 dz2) rfl
            have p3 := blk_cell bp 3 (v := .slice rz3 mz3 dz3) rfl
            have p4 := blk_cell bp 4 (v := .slice rz4 mz4 dz4) rfl
            have p5 := blk_cell bp 5 (v := .int .i64 ld) rfl
            have p6 := blk_cell bp 6 (v := .int .i64 ud) rfl
            go_wp2_with fail
            refine KC.out.mono ?_
            rintro e we ⟨ga3, gn3, gc3, pso, re3, de3, re4, me4, de4, rfl, hne3, hge3, hke3, hoe, hO⟩
            have zwe := hO.size
            have b0 := (hO.block w.heap.size (by omega) (fun h => by have := hGG _ h; omega)).trans b0
            have b1 := (hO.block (w.heap.size + 1) (by omega) (fun h => by have := hGG _ h; omega)).trans b1
            have bp := (hO.block P (by omega) (fun h => by have := hGG _ h; omega)).trans bp
            have Bwe : Below w.heap.size w we := BXh.trans (hO.belowOf (fun b h => by have := hGG _ h; omega) (by omega))
            clear KC hge3 hke3 p0 p1 p2 p3 p4 p5 p6
            have y0 := blk_cell bp 0 (v := .slice rz0 mz0 dz0) rfl
            have y1 := blk_cell bp 1 (v := .int .i64 td) rfl
            have y2 := blk_cell bp 2 (v := .slice rz2 mz2 dz2) rfl
            have y3 := blk_cell bp 3 (v := .slice rz3 mz3 dz3) rfl
            have y4 := blk_cell bp 4 (v := .slice rz4 mz4 dz4) rfl
            have y5 := blk_cell bp 5 (v := .int .i64 ld) rfl
            have y6 := blk_cell bp 6 (v := .int .i64 ud) rfl
            have fy0 := blk_frozen bp 0
            have fy1 := blk_frozen bp 1
            have fy2 := blk_frozen bp 2
            have fy3 := blk_frozen bp 3
            have fy4 := blk_frozen bp 4
            have fy5 := blk_frozen bp 5
            have fy6 := blk_frozen bp 6
            obtain ⟨Xe, hX⟩ : ∃ u, u = (((((((we.setCell ⟨P, 0, none⟩ (.slice rz0 mz0 dz0)).setCell ⟨P, 1, none⟩ (.int .i64 td)).setCell ⟨P, 2, none⟩ (.slice rz2 mz2 dz2)).setCell ⟨P, 3, none⟩ (.slice re3 0 de3)).setCell ⟨P, 4, none⟩ (.slice re4 me4 de4)).setCell ⟨P, 5, none⟩ (.int .i64 le)).setCell ⟨P, 6, none⟩ (.int .i64 ue)) := ⟨_, rfl⟩
            have bp' : Xe.heap[P]? = some (.cells #[.slice rz0 mz0 dz0, .int .i64 td, .slice rz2 mz2 dz2, .slice re3 0 de3, .slice re4 me4 de4, .int .i64 le, .int .i64 ue] 29 (0, 0)) := by rw [hX]; exact (blk_set (blk_set (blk_set (blk_set (blk_set (blk_set (blk_set bp 0 _) 1 _) 2 _) 3 _) 4 _) 5 _) 6 _)
            have b1' : Xe.heap[w.heap.size + 1]? = some (.cells #[.slice none 0 0, .int .i64 0, .slice none 0 0, .slice none 0 0, .slice none 0 0, .int .i64 0, .int .i64 0] 29 (0, 0)) := by rw [hX]; exact (blk_other (blk_other (blk_other (blk_other (blk_other (blk_other (blk_other b1 (by simp; omega) _) (by simp; omega) _) (by simp; omega) _) (by simp; omega) _) (by simp; omega) _) (by simp; omega) _) (by simp; omega) _)
            have b0' : Xe.heap[w.heap.size]? = some (.cells #[.slice a0 n0 c0, .int .i64 t, .slice a2 n2 c2, .slice a3 n3 c3, .slice a4 n4 c4, .int .i64 la, .int .i64 up] 29 (0, 0)) := by rw [hX]; exact (blk_other (blk_other (blk_other (blk_other (blk_other (blk_other (blk_other b0 (by simp; omega) _) (by simp; omega) _) (by simp; omega) _) (by simp; omega) _) (by simp; omega) _) (by simp; omega) _) (by simp; omega) _)
            have hS : Off (fun b => b = P) we Xe := by rw [hX]; exact stores_off (F := fun b => b = P) we P 0 [.slice rz0 mz0 dz0, .int .i64 td, .slice rz2 mz2 dz2, .slice re3 0 de3, .slice re4 me4 de4, .int .i64 le, .int .i64 ue] rfl
            have zXea : Xe.heap.size ≤ we.heap.size := by rw [hX]; exact Nat.le_of_eq (stores_size we P 0 [.slice rz0 mz0 dz0, .int .i64 td, .slice rz2 mz2 dz2, .slice re3 0 de3, .slice re4 me4 de4, .int .i64 le, .int .i64 ue])
            have zXeb := hS.size
            have BXe : Below w.heap.size w Xe := Bwe.trans (hS.belowOf (fun b h => by have h2 : b = P := h; omega) (by omega))
            clear b0 b1 bp
            have b0 := b0'
            have b1 := b1'
            have bp := bp'
            clear b0' b1' bp'
            have q4 := RSink.at_iff (RSink.toAt (RSink.ownOff hoe hS (fun b h e => by have h2 : b = P := e; rcases h with h | h; have := hGG _ h; omega; omega)))
            have HQ0 := Hid.mk q4.1
            have HQ2 := Hid.mk q4.2.1
            have HQ4 := Hid.mk q4.2.2.2
            have hm0 : mz0 ≤ 1048576 := by have := q4.1.1; have := HS3.out.1; omega
            have hm2 : mz2 ≤ 1048576 := by have := q4.2.1.1; have := HS3.out.2; omega
            have hm4 : me4 ≤ 1048576 := by have := q4.2.2.2.1; omega
            have hme : oe.length = me4 := q4.2.2.2.1
            have HNE := Hid.mk hne3
            clear q4 hoe hO hS hne3
            (try simp only)
            go_upto_region 13 with fail
            rw [← hX]
            clear hX
            clear y0 y1 y2 y3 y4 y5 y6 fy0 fy1 fy2 fy3 fy4 fy5 fy6
            have hwx : IntKind.i64.wrap ((me4 : Int) - (n4 : Int)) = (me4 : Int) - (n4 : Int) := by
              have h1 := H4.out
              have h2 : ou.length + 30 * ps.length ≤ 150 := HGP.out.2.2.2.1
              exact IntWalk.i64_in _ (by omega)
            have hnn := HXN2.out
            rw [HFIN.out] at hnn
            simp only at hnn
            rw [hme] at hnn
            have HNN := Hid.mk hnn
            clear hnn hme
            have KO2 : Hid (∀ U, Below Xe.heap.size Xe U → Calls Try.prog 27 #[.agg #[.slice rz0 mz0 dz0, .int .i64 td, .slice rz2 mz2 dz2, .slice re3 0 de3, .slice re4 me4 de4, .int .i64 le, .int .i64 ue]] U fun e w' => CpRet e U w' (sd, td, qd, [], oe, le, ue)) := Hid.mk (fun U hU =>
              l16Own_any rz0 mz0 dz0 rz2 mz2 dz2 re3 0 de3 re4 me4 de4 td le ue sd qd [] oe U HQ0.out.1 HQ2.out.1 rfl HQ4.out.1 hm0 hm2 (by omega) hm4 HQ0.out.2.2.2 HQ2.out.2.2.2 HNE.out HQ4.out.2.2.2 (fun i x h => by simp at h) (At.below HQ0.out.2.2.1 hU) (At.below HQ2.out.2.2.1 hU) (.inl rfl) (At.below HQ4.out.2.2.1 hU))
            have zp1 : ¬ P = w.heap.size + 1 := by omega
            have zp0 : ¬ w.heap.size = w.heap.size + 1 := by omega
            have p0 := blk_cell bp 0 (v := .slice rz0 mz0 dz0) rfl
            have p1 := blk_cell bp 1 (v := .int .i64 td) rfl
            have p2 := blk_cell bp 2 (v := .slice rz2 mz2 dz2) rfl
            have p3 := blk_cell bp 3 (v := .slice re3 0 de3) rfl
            have p4 := blk_cell bp 4 (v := .slice re4 me4 de4) rfl
            have p5 := blk_cell bp 5 (v := .int .i64 le) rfl
            have p6 := blk_cell bp 6 (v := .int .i64 ue) rfl
            have s4 := blk_cell b0 4 (v := .slice a4 n4 c4) rfl
            refine wp_region_held_drew (S := fun w' => Off (fun b => b = w.heap.size + 1) Xe w') (by kernel_rfl) ?_ (fun hHeld => ?_)
            · (try dsimp only)
              exact (Off.refl _ _).drew
            refine tk 0 ?_ (hy := fun wS hSw => by (have p0 := Off.cell hSw p0 zp1; have p1 := Off.cell hSw p1 zp1; have p2 := Off.cell hSw p2 zp1; have p3 := Off.cell hSw p3 zp1; have p4 := Off.cell hSw p4 zp1; have p5 := Off.cell hSw p5 zp1; have p6 := Off.cell hSw p6 zp1; go_simp; (try with_reducible rfl)))
            refine tk 2 ?_
            refine tk 3 ?_ (hy := fun wS hSw => by (have p4 := Off.cell hSw p4 zp1; go_simp; (try with_reducible rfl)))
            refine tk 4 ?_
            refine tk 5 ?_
            refine tk 6 ?_ (hy := fun wS hSw => by (have s4 := Off.cell hSw s4 zp0; go_simp; (try with_reducible rfl)))
            refine tk 7 ?_
            refine tk 8 ?_
            obtain ⟨u0, hu0⟩ : ∃ u, u = Xe.drew := ⟨_, rfl⟩
            have Y0 : Below Xe.heap.size Xe u0 := by rw [hu0]; exact (Below.refl _ _).drew
            rw [← hu0]
            rw [← hu0] at hHeld
            clear hu0
            refine wpAnyH_ready (rs := [1]) (by kernel_rfl) (by simp) ?_
            refine AllReadyH.cons (o := ?_) ?_ (fun K hK => ?_) AllReadyH.nil
            rotate_left
            · (simp only [List.getElem?_toArray, List.getElem?_cons_zero, List.getElem?_cons_succ]; rfl)
            go_simp
            go_at_call 27
            refine (KO2.out u0 Y0).mono ?_
            rintro e wf ⟨rf0, mf0, df0, rf2, mf2, df2, rf3, mf3, df3, rf4, mf4, df4, rfl, hof, hbf⟩
            simp only at hof
            have YF : Below Xe.heap.size Xe wf := Y0.trans (hbf.mono Y0.size)
            have b1 := blk_below b1 YF
            have zf := YF.size
            have zu := Y0.size
            have Bf : Below w.heap.size w wf := BXe.trans (YF.mono BXe.size)
            have HOF := Hid.mk hof
            clear hof hbf
            (try go_wp2_with fail)
            refine hK.out _ _ ?_ (fun hHeld' => ?_)
            · (try dsimp only)
              exact Off.below YF
            clear hK K hHeld
            have hHeld := hHeld'
            clear hHeld'
            (try simp only [Act.put, List.setIfInBounds_toArray, List.set_cons_zero, List.set_cons_succ])
            have y0 := blk_cell b1 0 (v := .slice none 0 0) rfl
            have y1 := blk_cell b1 1 (v := .int .i64 0) rfl
            have y2 := blk_cell b1 2 (v := .slice none 0 0) rfl
            have y3 := blk_cell b1 3 (v := .slice none 0 0) rfl
            have y4 := blk_cell b1 4 (v := .slice none 0 0) rfl
            have y5 := blk_cell b1 5 (v := .int .i64 0) rfl
            have y6 := blk_cell b1 6 (v := .int .i64 0) rfl
            have fz0 := blk_frozen b1 0
            have fz1 := blk_frozen b1 1
            have fz2 := blk_frozen b1 2
            have fz3 := blk_frozen b1 3
            have fz4 := blk_frozen b1 4
            have fz5 := blk_frozen b1 5
            have fz6 := blk_frozen b1 6
            refine wpAnyH_ready (rs := [9]) (by kernel_rfl) (by simp) ?_
            refine AllReadyH.cons (o := ?_) ?_ (fun K hK => ?_) AllReadyH.nil
            rotate_left
            · (simp only [List.getElem?_toArray, List.getElem?_cons_zero, List.getElem?_cons_succ]; rfl)
            go_simp
            skip
            (try go_wp2_with fail)
            refine hK.out _ _ ?_ (fun hHeld' => ?_)
            · (try dsimp only)
              exact (Off.below YF).trans (stores_off (F := fun b => b = w.heap.size + 1) wf (w.heap.size + 1) 0 [.slice rf0 mf0 df0, .int .i64 td, .slice rf2 mf2 df2, .slice rf3 mf3 df3, .slice rf4 mf4 df4, .int .i64 le, .int .i64 ue] rfl)
            clear hK K hHeld
            have hHeld := hHeld'
            clear hHeld'
            (try simp only [Act.put, List.setIfInBounds_toArray, List.set_cons_zero, List.set_cons_succ])
            refine tk 10 ?_
            refine tk 11 ?_
            refine wpAnyH_done (by kernel_rfl) ?_ _
            obtain ⟨Y, hY⟩ : ∃ u, u = stores wf (w.heap.size + 1) 0 [.slice rf0 mf0 df0, .int .i64 td, .slice rf2 mf2 df2, .slice rf3 mf3 df3, .slice rf4 mf4 df4, .int .i64 le, .int .i64 ue] := ⟨_, rfl⟩
            have S : Off (fun b => b = w.heap.size + 1) wf Y := by rw [hY]; exact stores_off (F := fun b => b = w.heap.size + 1) _ _ _ _ rfl
            have zY := S.size
            have D : Below w.heap.size w Y := Bf.trans (S.belowOf (fun b h => by have h2 : b = w.heap.size + 1 := h; omega) (by omega))
            have RR : Hid (SinkRetN (.returned (.tuple #[.agg #[.slice rf0 mf0 df0, .int .i64 td, .slice rf2 mf2 df2, .slice rf3 mf3 df3, .slice rf4 mf4 df4, .int .i64 le, .int .i64 ue], .int .i64 ((me4 : Int) - (n4 : Int)), .bool true])) Y w.heap.size XN true XX ∧ Below w.heap.size w Y) := Hid.mk (by
              rw [HFIN.out, ← HNN.out]
              exact ⟨⟨rf0, mf0, df0, rf2, mf2, df2, rf3, mf3, df3, rf4, mf4, df4, rfl, RSink.mono (RSink.ownOff HOF.out S (fun b h e => by have h2 : b = w.heap.size + 1 := e; have := h.1; omega)) (fun b h => ⟨by have := h.1; omega, by have := h.2; omega⟩)⟩, D⟩)
            have HY := Hid.mk hY
            clear D S hY b0 b1 bp zY
            go_wp2
            refine bodyPost_ret (v := .tuple #[.agg #[.slice rf0 mf0 df0, .int .i64 td, .slice rf2 mf2 df2, .slice rf3 mf3 df3, .slice rf4 mf4 df4, .int .i64 le, .int .i64 ue], .int .i64 ((me4 : Int) - (n4 : Int)), .bool true]) (by simp [results, Try.results21, go_sem, y0, y1, y2, y3, y4, y5, y6]) rfl ?_
            have h := RR.out
            rw [HY.out] at h
            exact h
          · have h3 := prK_yes (x := (sc, tc, qc, vc, oc, lc, uc)) hc
            have KS := Hid.mk (prepU G rz0 mz0 dz0 rz2 mz2 dz2 rz3 mz3 dz3 rz4 mz4 dz4 tc lc uc sc qc vc oc Xg (fun b h => (hGg b h).2.1) HD2'.out.2.2.2.2.1 HD2'.out.2.2.2.2.2 (by have q : qc.length + (sc.length - tc.toNat) ≤ 30 := HD2'.out.1.2.2.2; omega) hst)
            rw [h3, show (prK (sc, tc, qc, vc, oc, lc, uc)).1 = (sd, td, qd, vd, od, ld, ud) from H3E.out] at KS
            clear hc h3 hlz hst
            go_wp2_with fail
            refine KS.out.mono ?_
            rintro e wh ⟨rd0, md0, dd0, rd2, md2, dd2, rd3, md3, dd3, rd4, md4, dd4, rfl, hst, hO⟩
            (try simp only at hst)
            have zwh := hO.size
            have b0 := (hO.block w.heap.size (by omega) (fun h => by have := hGg _ h; omega)).trans b0
            have b1 := (hO.block (w.heap.size + 1) (by omega) (fun h => by have := hGg _ h; omega)).trans b1
            have bp := (hO.block P (by omega) (fun h => by have := hGg _ h; omega)).trans bp
            have Bwh : Below w.heap.size w wh := BXg.trans (hO.belowOf (fun b h => by have := hGg _ h; omega) (by omega))
            clear KS hO p0 p1 p2 p3 p4 p5 p6
            obtain ⟨Xh, hX⟩ : ∃ u, u = wh.alloc (.cells #[.slice rd0 md0 dd0, .int .i64 td, .slice rd2 md2 dd2, .slice rd3 md3 dd3, .slice rd4 md4 dd4, .int .i64 ld, .int .i64 ud] 29) := ⟨_, rfl⟩
            have bX : Below wh.heap.size wh Xh := by rw [hX]; exact (Below.refl _ _).alloc (Nat.le_refl _) _
            have x0 : Xh.heap[wh.heap.size]? = some (.cells #[.slice rd0 md0 dd0, .int .i64 td, .slice rd2 md2 dd2, .slice rd3 md3 dd3, .slice rd4 md4 dd4, .int .i64 ld, .int .i64 ud] 29 (0, 0)) := by rw [hX]; exact heap_alloc_new wh _
            have b0 := blk_below b0 bX
            have b1 := blk_below b1 bX
            have bp := blk_below bp bX
            have zXh := bX.size
            have zXhl : wh.heap.size < Xh.heap.size := by rw [hX]; simp
            have BXh : Below w.heap.size w Xh := Bwh.trans (bX.mono Bwh.size)
            have hst := hst_below hst bX
            go_upto_region 10 with fail
            (try simp only)
            rw [← hX]
            clear hX bX
            have p0 := blk_cell x0 0 (v := .slice rd0 md0 dd0) rfl
            have p1 := blk_cell x0 1 (v := .int .i64 td) rfl
            have p2 := blk_cell x0 2 (v := .slice rd2 md2 dd2) rfl
            have p3 := blk_cell x0 3 (v := .slice rd3 md3 dd3) rfl
            have p4 := blk_cell x0 4 (v := .slice rd4 md4 dd4) rfl
            have p5 := blk_cell x0 5 (v := .int .i64 ld) rfl
            have p6 := blk_cell x0 6 (v := .int .i64 ud) rfl
            have y0 := blk_cell bp 0 (v := .slice rz0 mz0 dz0) rfl
            have y1 := blk_cell bp 1 (v := .int .i64 tc) rfl
            have y2 := blk_cell bp 2 (v := .slice rz2 mz2 dz2) rfl
            have y3 := blk_cell bp 3 (v := .slice rz3 mz3 dz3) rfl
            have y4 := blk_cell bp 4 (v := .slice rz4 mz4 dz4) rfl
            have y5 := blk_cell bp 5 (v := .int .i64 lc) rfl
            have y6 := blk_cell bp 6 (v := .int .i64 uc) rfl
            have fy0 := blk_frozen bp 0
            have fy1 := blk_frozen bp 1
            have fy2 := blk_frozen bp 2
            have fy3 := blk_frozen bp 3
            have fy4 := blk_frozen bp 4
            have fy5 := blk_frozen bp 5
            have fy6 := blk_frozen bp 6
            obtain ⟨Xi, hX⟩ : ∃ u, u = (((((((Xh.setCell ⟨P, 0, none⟩ (.slice rd0 md0 dd0)).setCell ⟨P, 1, none⟩ (.int .i64 td)).setCell ⟨P, 2, none⟩ (.slice rd2 md2 dd2)).setCell ⟨P, 3, none⟩ (.slice rd3 md3 dd3)).setCell ⟨P, 4, none⟩ (.slice rd4 md4 dd4)).setCell ⟨P, 5, none⟩ (.int .i64 ld)).setCell ⟨P, 6, none⟩ (.int .i64 ud)) := ⟨_, rfl⟩
            have bp' : Xi.heap[P]? = some (.cells #[.slice rd0 md0 dd0, .int .i64 td, .slice rd2 md2 dd2, .slice rd3 md3 dd3, .slice rd4 md4 dd4, .int .i64 ld, .int .i64 ud] 29 (0, 0)) := by rw [hX]; exact (blk_set (blk_set (blk_set (blk_set (blk_set (blk_set (blk_set bp 0 _) 1 _) 2 _) 3 _) 4 _) 5 _) 6 _)
            have b1' : Xi.heap[w.heap.size + 1]? = some (.cells #[.slice none 0 0, .int .i64 0, .slice none 0 0, .slice none 0 0, .slice none 0 0, .int .i64 0, .int .i64 0] 29 (0, 0)) := by rw [hX]; exact (blk_other (blk_other (blk_other (blk_other (blk_other (blk_other (blk_other b1 (by simp; omega) _) (by simp; omega) _) (by simp; omega) _) (by simp; omega) _) (by simp; omega) _) (by simp; omega) _) (by simp; omega) _)
            have b0' : Xi.heap[w.heap.size]? = some (.cells #[.slice a0 n0 c0, .int .i64 t, .slice a2 n2 c2, .slice a3 n3 c3, .slice a4 n4 c4, .int .i64 la, .int .i64 up] 29 (0, 0)) := by rw [hX]; exact (blk_other (blk_other (blk_other (blk_other (blk_other (blk_other (blk_other b0 (by simp; omega) _) (by simp; omega) _) (by simp; omega) _) (by simp; omega) _) (by simp; omega) _) (by simp; omega) _) (by simp; omega) _)
            have hS : Off (fun b => b = P) Xh Xi := by rw [hX]; exact stores_off (F := fun b => b = P) Xh P 0 [.slice rd0 md0 dd0, .int .i64 td, .slice rd2 md2 dd2, .slice rd3 md3 dd3, .slice rd4 md4 dd4, .int .i64 ld, .int .i64 ud] rfl
            have zXia : Xi.heap.size ≤ Xh.heap.size := by rw [hX]; exact Nat.le_of_eq (stores_size Xh P 0 [.slice rd0 md0 dd0, .int .i64 td, .slice rd2 md2 dd2, .slice rd3 md3 dd3, .slice rd4 md4 dd4, .int .i64 ld, .int .i64 ud])
            have zXib := hS.size
            have BXi : Below w.heap.size w Xi := BXh.trans (hS.belowOf (fun b h => by have h2 : b = P := h; omega) (by omega))
            clear b0 b1 bp
            have b0 := b0'
            have b1 := b1'
            have bp := bp'
            clear b0' b1' bp'
            obtain ⟨GG, hGG, hst⟩ : ∃ FF : Nat → Prop, (∀ b, FF b → w.heap.size + 2 ≤ b ∧ b < Xi.heap.size ∧ b ≠ P) ∧ HSt Xi FF 1 rd0 md0 dd0 rd2 md2 dd2 rd3 md3 dd3 rd4 md4 dd4 (sd, td, qd, vd, od, ld, ud) :=
              ⟨_, fun b h => (by rcases h with h | h; have := hGg _ h; omega; omega), hst_off hst hS (fun b h e => by have h2 : b = P := e; rcases h with h | h; have := hGg _ h; omega; omega)⟩
            clear hS hGg x0
            go_upto_region 12 with fail
            rw [← hX]
            clear hX
            clear y0 y1 y2 y3 y4 y5 y6 fy0 fy1 fy2 fy3 fy4 fy5 fy6
            clear p0 p1 p2 p3 p4 p5 p6
            have hl4 := hst_lens hst
            simp only at hl4
            obtain ⟨oe, h5⟩ : ∃ x, ouC od vd = x := ⟨_, rfl⟩
            obtain ⟨le, h6⟩ : ∃ x, noC ld vd = x := ⟨_, rfl⟩
            obtain ⟨ue, h7⟩ : ∃ x, upF ud vd = x := ⟨_, rfl⟩
            have h4e := dr4_eq sd td qd vd od ld ud
            rw [h5, h6, h7] at h4e
            have hE3 : oe.length ≤ 300 := by have q := (dr4_PD HD3.out).1; rw [h4e] at q; exact q
            have HFIN : Hid (XX = (sd, td, qd, [], oe, le, ue)) := Hid.mk (by rw [← HXX2.out, HDR1.out, H2E.out, H3E.out, h4e])
            have KC := Hid.mk (lastU GG rd0 md0 dd0 rd2 md2 dd2 rd3 md3 dd3 rd4 md4 dd4 td ld ud sd qd vd od Xi (fun b h => (hGG b h).2.1) (by have q : od.length + 30 * vd.length ≤ 300 := HD3.out.2.2; have := hl4.2.2.1; omega) hst)
            rw [h5, h6, h7] at KC
            clear h5 h6 h7 h4e hl4 hst
            have p0 := blk_cell bp 0 (v := .slice rd0 md0 dd0) rfl
            have p1 := blk_cell bp 1 (v := .int .i64 td) rfl
            have p2 := blk_cell bp 2 (v := .slice rd2 md2 dd2) rfl
            have p3 := blk_cell bp 3 (v := .slice rd3 md3 dd3) rfl
            have p4 := blk_cell bp 4 (v := .slice rd4 md4 dd4) rfl
            have p5 := blk_cell bp 5 (v := .int .i64 ld) rfl
            have p6 := blk_cell bp 6 (v := .int .i64 ud) rfl
            go_wp2_with fail
            refine KC.out.mono ?_
            rintro e we ⟨ga3, gn3, gc3, pso, re3, de3, re4, me4, de4, rfl, hne3, hge3, hke3, hoe, hO⟩
            have zwe := hO.size
            have b0 := (hO.block w.heap.size (by omega) (fun h => by have := hGG _ h; omega)).trans b0
            have b1 := (hO.block (w.heap.size + 1) (by omega) (fun h => by have := hGG _ h; omega)).trans b1
            have bp := (hO.block P (by omega) (fun h => by have := hGG _ h; omega)).trans bp
            have Bwe : Below w.heap.size w we := BXi.trans (hO.belowOf (fun b h => by have := hGG _ h; omega) (by omega))
            clear KC hge3 hke3 p0 p1 p2 p3 p4 p5 p6
            have y0 := blk_cell bp 0 (v := .slice rd0 md0 dd0) rfl
            have y1 := blk_cell bp 1 (v := .int .i64 td) rfl
            have y2 := blk_cell bp 2 (v := .slice rd2 md2 dd2) rfl
            have y3 := blk_cell bp 3 (v := .slice rd3 md3 dd3) rfl
            have y4 := blk_cell bp 4 (v := .slice rd4 md4 dd4) rfl
            have y5 := blk_cell bp 5 (v := .int .i64 ld) rfl
            have y6 := blk_cell bp 6 (v := .int .i64 ud) rfl
            have fy0 := blk_frozen bp 0
            have fy1 := blk_frozen bp 1
            have fy2 := blk_frozen bp 2
            have fy3 := blk_frozen bp 3
            have fy4 := blk_frozen bp 4
            have fy5 := blk_frozen bp 5
            have fy6 := blk_frozen bp 6
            obtain ⟨Xe, hX⟩ : ∃ u, u = (((((((we.setCell ⟨P, 0, none⟩ (.slice rd0 md0 dd0)).setCell ⟨P, 1, none⟩ (.int .i64 td)).setCell ⟨P, 2, none⟩ (.slice rd2 md2 dd2)).setCell ⟨P, 3, none⟩ (.slice re3 0 de3)).setCell ⟨P, 4, none⟩ (.slice re4 me4 de4)).setCell ⟨P, 5, none⟩ (.int .i64 le)).setCell ⟨P, 6, none⟩ (.int .i64 ue)) := ⟨_, rfl⟩
            have bp' : Xe.heap[P]? = some (.cells #[.slice rd0 md0 dd0, .int .i64 td, .slice rd2 md2 dd2, .slice re3 0 de3, .slice re4 me4 de4, .int .i64 le, .int .i64 ue] 29 (0, 0)) := by rw [hX]; exact (blk_set (blk_set (blk_set (blk_set (blk_set (blk_set (blk_set bp 0 _) 1 _) 2 _) 3 _) 4 _) 5 _) 6 _)
            have b1' : Xe.heap[w.heap.size + 1]? = some (.cells #[.slice none 0 0, .int .i64 0, .slice none 0 0, .slice none 0 0, .slice none 0 0, .int .i64 0, .int .i64 0] 29 (0, 0)) := by rw [hX]; exact (blk_other (blk_other (blk_other (blk_other (blk_other (blk_other (blk_other b1 (by simp; omega) _) (by simp; omega) _) (by simp; omega) _) (by simp; omega) _) (by simp; omega) _) (by simp; omega) _) (by simp; omega) _)
            have b0' : Xe.heap[w.heap.size]? = some (.cells #[.slice a0 n0 c0, .int .i64 t, .slice a2 n2 c2, .slice a3 n3 c3, .slice a4 n4 c4, .int .i64 la, .int .i64 up] 29 (0, 0)) := by rw [hX]; exact (blk_other (blk_other (blk_other (blk_other (blk_other (blk_other (blk_other b0 (by simp; omega) _) (by simp; omega) _) (by simp; omega) _) (by simp; omega) _) (by simp; omega) _) (by simp; omega) _) (by simp; omega) _)
            have hS : Off (fun b => b = P) we Xe := by rw [hX]; exact stores_off (F := fun b => b = P) we P 0 [.slice rd0 md0 dd0, .int .i64 td, .slice rd2 md2 dd2, .slice re3 0 de3, .slice re4 me4 de4, .int .i64 le, .int .i64 ue] rfl
            have zXea : Xe.heap.size ≤ we.heap.size := by rw [hX]; exact Nat.le_of_eq (stores_size we P 0 [.slice rd0 md0 dd0, .int .i64 td, .slice rd2 md2 dd2, .slice re3 0 de3, .slice re4 me4 de4, .int .i64 le, .int .i64 ue])
            have zXeb := hS.size
            have BXe : Below w.heap.size w Xe := Bwe.trans (hS.belowOf (fun b h => by have h2 : b = P := h; omega) (by omega))
            clear b0 b1 bp
            have b0 := b0'
            have b1 := b1'
            have bp := bp'
            clear b0' b1' bp'
            have q4 := RSink.at_iff (RSink.toAt (RSink.ownOff hoe hS (fun b h e => by have h2 : b = P := e; rcases h with h | h; have := hGG _ h; omega; omega)))
            have HQ0 := Hid.mk q4.1
            have HQ2 := Hid.mk q4.2.1
            have HQ4 := Hid.mk q4.2.2.2
            have hm0 : md0 ≤ 1048576 := by have := q4.1.1; have := HS3.out.1; omega
            have hm2 : md2 ≤ 1048576 := by have := q4.2.1.1; have := HS3.out.2; omega
            have hm4 : me4 ≤ 1048576 := by have := q4.2.2.2.1; omega
            have hme : oe.length = me4 := q4.2.2.2.1
            have HNE := Hid.mk hne3
            clear q4 hoe hO hS hne3
            (try simp only)
            go_upto_region 13 with fail
            rw [← hX]
            clear hX
            clear y0 y1 y2 y3 y4 y5 y6 fy0 fy1 fy2 fy3 fy4 fy5 fy6
            have hwx : IntKind.i64.wrap ((me4 : Int) - (n4 : Int)) = (me4 : Int) - (n4 : Int) := by
              have h1 := H4.out
              have h2 : ou.length + 30 * ps.length ≤ 150 := HGP.out.2.2.2.1
              exact IntWalk.i64_in _ (by omega)
            have hnn := HXN2.out
            rw [HFIN.out] at hnn
            simp only at hnn
            rw [hme] at hnn
            have HNN := Hid.mk hnn
            clear hnn hme
            have KO2 : Hid (∀ U, Below Xe.heap.size Xe U → Calls Try.prog 27 #[.agg #[.slice rd0 md0 dd0, .int .i64 td, .slice rd2 md2 dd2, .slice re3 0 de3, .slice re4 me4 de4, .int .i64 le, .int .i64 ue]] U fun e w' => CpRet e U w' (sd, td, qd, [], oe, le, ue)) := Hid.mk (fun U hU =>
              l16Own_any rd0 md0 dd0 rd2 md2 dd2 re3 0 de3 re4 me4 de4 td le ue sd qd [] oe U HQ0.out.1 HQ2.out.1 rfl HQ4.out.1 hm0 hm2 (by omega) hm4 HQ0.out.2.2.2 HQ2.out.2.2.2 HNE.out HQ4.out.2.2.2 (fun i x h => by simp at h) (At.below HQ0.out.2.2.1 hU) (At.below HQ2.out.2.2.1 hU) (.inl rfl) (At.below HQ4.out.2.2.1 hU))
            have zp1 : ¬ P = w.heap.size + 1 := by omega
            have zp0 : ¬ w.heap.size = w.heap.size + 1 := by omega
            have p0 := blk_cell bp 0 (v := .slice rd0 md0 dd0) rfl
            have p1 := blk_cell bp 1 (v := .int .i64 td) rfl
            have p2 := blk_cell bp 2 (v := .slice rd2 md2 dd2) rfl
            have p3 := blk_cell bp 3 (v := .slice re3 0 de3) rfl
            have p4 := blk_cell bp 4 (v := .slice re4 me4 de4) rfl
            have p5 := blk_cell bp 5 (v := .int .i64 le) rfl
            have p6 := blk_cell bp 6 (v := .int .i64 ue) rfl
            have s4 := blk_cell b0 4 (v := .slice a4 n4 c4) rfl
            refine wp_region_held_drew (S := fun w' => Off (fun b => b = w.heap.size + 1) Xe w') (by kernel_rfl) ?_ (fun hHeld => ?_)
            · (try dsimp only)
              exact (Off.refl _ _).drew
            refine tk 0 ?_ (hy := fun wS hSw => by (have p0 := Off.cell hSw p0 zp1; have p1 := Off.cell hSw p1 zp1; have p2 := Off.cell hSw p2 zp1; have p3 := Off.cell hSw p3 zp1; have p4 := Off.cell hSw p4 zp1; have p5 := Off.cell hSw p5 zp1; have p6 := Off.cell hSw p6 zp1; go_simp; (try with_reducible rfl)))
            refine tk 2 ?_
            refine tk 3 ?_ (hy := fun wS hSw => by (have p4 := Off.cell hSw p4 zp1; go_simp; (try with_reducible rfl)))
            refine tk 4 ?_
            refine tk 5 ?_
            refine tk 6 ?_ (hy := fun wS hSw => by (have s4 := Off.cell hSw s4 zp0; go_simp; (try with_reducible rfl)))
            refine tk 7 ?_
            refine tk 8 ?_
            obtain ⟨u0, hu0⟩ : ∃ u, u = Xe.drew := ⟨_, rfl⟩
            have Y0 : Below Xe.heap.size Xe u0 := by rw [hu0]; exact (Below.refl _ _).drew
            rw [← hu0]
            rw [← hu0] at hHeld
            clear hu0
            refine wpAnyH_ready (rs := [1]) (by kernel_rfl) (by simp) ?_
            refine AllReadyH.cons (o := ?_) ?_ (fun K hK => ?_) AllReadyH.nil
            rotate_left
            · (simp only [List.getElem?_toArray, List.getElem?_cons_zero, List.getElem?_cons_succ]; rfl)
            go_simp
            go_at_call 27
            refine (KO2.out u0 Y0).mono ?_
            rintro e wf ⟨rf0, mf0, df0, rf2, mf2, df2, rf3, mf3, df3, rf4, mf4, df4, rfl, hof, hbf⟩
            simp only at hof
            have YF : Below Xe.heap.size Xe wf := Y0.trans (hbf.mono Y0.size)
            have b1 := blk_below b1 YF
            have zf := YF.size
            have zu := Y0.size
            have Bf : Below w.heap.size w wf := BXe.trans (YF.mono BXe.size)
            have HOF := Hid.mk hof
            clear hof hbf
            (try go_wp2_with fail)
            refine hK.out _ _ ?_ (fun hHeld' => ?_)
            · (try dsimp only)
              exact Off.below YF
            clear hK K hHeld
            have hHeld := hHeld'
            clear hHeld'
            (try simp only [Act.put, List.setIfInBounds_toArray, List.set_cons_zero, List.set_cons_succ])
            have y0 := blk_cell b1 0 (v := .slice none 0 0) rfl
            have y1 := blk_cell b1 1 (v := .int .i64 0) rfl
            have y2 := blk_cell b1 2 (v := .slice none 0 0) rfl
            have y3 := blk_cell b1 3 (v := .slice none 0 0) rfl
            have y4 := blk_cell b1 4 (v := .slice none 0 0) rfl
            have y5 := blk_cell b1 5 (v := .int .i64 0) rfl
            have y6 := blk_cell b1 6 (v := .int .i64 0) rfl
            have fz0 := blk_frozen b1 0
            have fz1 := blk_frozen b1 1
            have fz2 := blk_frozen b1 2
            have fz3 := blk_frozen b1 3
            have fz4 := blk_frozen b1 4
            have fz5 := blk_frozen b1 5
            have fz6 := blk_frozen b1 6
            refine wpAnyH_ready (rs := [9]) (by kernel_rfl) (by simp) ?_
            refine AllReadyH.cons (o := ?_) ?_ (fun K hK => ?_) AllReadyH.nil
            rotate_left
            · (simp only [List.getElem?_toArray, List.getElem?_cons_zero, List.getElem?_cons_succ]; rfl)
            go_simp
            skip
            (try go_wp2_with fail)
            refine hK.out _ _ ?_ (fun hHeld' => ?_)
            · (try dsimp only)
              exact (Off.below YF).trans (stores_off (F := fun b => b = w.heap.size + 1) wf (w.heap.size + 1) 0 [.slice rf0 mf0 df0, .int .i64 td, .slice rf2 mf2 df2, .slice rf3 mf3 df3, .slice rf4 mf4 df4, .int .i64 le, .int .i64 ue] rfl)
            clear hK K hHeld
            have hHeld := hHeld'
            clear hHeld'
            (try simp only [Act.put, List.setIfInBounds_toArray, List.set_cons_zero, List.set_cons_succ])
            refine tk 10 ?_
            refine tk 11 ?_
            refine wpAnyH_done (by kernel_rfl) ?_ _
            obtain ⟨Y, hY⟩ : ∃ u, u = stores wf (w.heap.size + 1) 0 [.slice rf0 mf0 df0, .int .i64 td, .slice rf2 mf2 df2, .slice rf3 mf3 df3, .slice rf4 mf4 df4, .int .i64 le, .int .i64 ue] := ⟨_, rfl⟩
            have S : Off (fun b => b = w.heap.size + 1) wf Y := by rw [hY]; exact stores_off (F := fun b => b = w.heap.size + 1) _ _ _ _ rfl
            have zY := S.size
            have D : Below w.heap.size w Y := Bf.trans (S.belowOf (fun b h => by have h2 : b = w.heap.size + 1 := h; omega) (by omega))
            have RR : Hid (SinkRetN (.returned (.tuple #[.agg #[.slice rf0 mf0 df0, .int .i64 td, .slice rf2 mf2 df2, .slice rf3 mf3 df3, .slice rf4 mf4 df4, .int .i64 le, .int .i64 ue], .int .i64 ((me4 : Int) - (n4 : Int)), .bool true])) Y w.heap.size XN true XX ∧ Below w.heap.size w Y) := Hid.mk (by
              rw [HFIN.out, ← HNN.out]
              exact ⟨⟨rf0, mf0, df0, rf2, mf2, df2, rf3, mf3, df3, rf4, mf4, df4, rfl, RSink.mono (RSink.ownOff HOF.out S (fun b h e => by have h2 : b = w.heap.size + 1 := e; have := h.1; omega)) (fun b h => ⟨by have := h.1; omega, by have := h.2; omega⟩)⟩, D⟩)
            have HY := Hid.mk hY
            clear D S hY b0 b1 bp zY
            go_wp2
            refine bodyPost_ret (v := .tuple #[.agg #[.slice rf0 mf0 df0, .int .i64 td, .slice rf2 mf2 df2, .slice rf3 mf3 df3, .slice rf4 mf4 df4, .int .i64 le, .int .i64 ue], .int .i64 ((me4 : Int) - (n4 : Int)), .bool true]) (by simp [results, Try.results21, go_sem, y0, y1, y2, y3, y4, y5, y6]) rfl ?_
            have h := RR.out
            rw [HY.out] at h
            exact h
        · obtain ⟨⟨sy, ty, qy, vy, oy, ly, uy⟩, hy⟩ : ∃ y, (rdK (sz, tz, qz, vz, oz, lz, uz)).1 = y := ⟨_, rfl⟩
          have hyes := rdK_yes (x := (sz, tz, qz, vz, oz, lz, uz)) hend
          have KS := Hid.mk (readU 0 G rz0 mz0 dz0 rz2 mz2 dz2 rz3 mz3 dz3 rz4 mz4 dz4 tz lz uz sz qz vz oz wY (fun b h => (hG b h).2.1) hpz hst)
          rw [hyes, hy] at KS
          have hstep := rdK_step (sz, tz, qz, vz, oz, lz, uz) hpz hyes
          rw [hy] at hstep
          rw [← hstep.2, itK_yes hyes, hy] at hxz
          have HST2 := Hid.mk hstep
          have HXZ := Hid.mk hxz
          have HMZ := Hid.mk hmz
          clear hend hyes hy hstep hxz hmz hpz hst hlz
          have p0 := blk_cell bp 0 (v := .slice rz0 mz0 dz0) rfl
          have p1 := blk_cell bp 1 (v := .int .i64 tz) rfl
          have p2 := blk_cell bp 2 (v := .slice rz2 mz2 dz2) rfl
          have p3 := blk_cell bp 3 (v := .slice rz3 mz3 dz3) rfl
          have p4 := blk_cell bp 4 (v := .slice rz4 mz4 dz4) rfl
          have p5 := blk_cell bp 5 (v := .int .i64 lz) rfl
          have p6 := blk_cell bp 6 (v := .int .i64 uz) rfl
          go_wp2_with fail
          refine KS.out.mono ?_
          rintro e wy ⟨ry0, my0, dy0, ry2, my2, dy2, ry3, my3, dy3, ry4, my4, dy4, rfl, hsy, hO⟩
          (try simp only at hsy)
          have zwy := hO.size
          have b0 := (hO.block w.heap.size (by omega) (fun h => by have := hG _ h; omega)).trans b0
          have b1 := (hO.block (w.heap.size + 1) (by omega) (fun h => by have := hG _ h; omega)).trans b1
          have bp := (hO.block P (by omega) (fun h => by have := hG _ h; omega)).trans bp
          have Bwy : Below w.heap.size w wy := BwY.trans (hO.belowOf (fun b h => by have := hG _ h; omega) (by omega))
          clear KS p0 p1 p2 p3 p4 p5 p6 hO
          obtain ⟨Xx, hX⟩ : ∃ u, u = wy.alloc (.cells #[.slice ry0 my0 dy0, .int .i64 ty, .slice ry2 my2 dy2, .slice ry3 my3 dy3, .slice ry4 my4 dy4, .int .i64 ly, .int .i64 uy] 29) := ⟨_, rfl⟩
          have bX : Below wy.heap.size wy Xx := by rw [hX]; exact (Below.refl _ _).alloc (Nat.le_refl _) _
          have x0 : Xx.heap[wy.heap.size]? = some (.cells #[.slice ry0 my0 dy0, .int .i64 ty, .slice ry2 my2 dy2, .slice ry3 my3 dy3, .slice ry4 my4 dy4, .int .i64 ly, .int .i64 uy] 29 (0, 0)) := by rw [hX]; exact heap_alloc_new wy _
          have b0 := blk_below b0 bX
          have b1 := blk_below b1 bX
          have bp := blk_below bp bX
          have zXx := bX.size
          have zXxl : wy.heap.size < Xx.heap.size := by rw [hX]; simp
          have BXx : Below w.heap.size w Xx := Bwy.trans (bX.mono Bwy.size)
          go_upto_region 7 with fail
          (try simp only)
          rw [← hX]
          clear hX
          have p0 := blk_cell x0 0 (v := .slice ry0 my0 dy0) rfl
          have p1 := blk_cell x0 1 (v := .int .i64 ty) rfl
          have p2 := blk_cell x0 2 (v := .slice ry2 my2 dy2) rfl
          have p3 := blk_cell x0 3 (v := .slice ry3 my3 dy3) rfl
          have p4 := blk_cell x0 4 (v := .slice ry4 my4 dy4) rfl
          have p5 := blk_cell x0 5 (v := .int .i64 ly) rfl
          have p6 := blk_cell x0 6 (v := .int .i64 uy) rfl
          have y0 := blk_cell bp 0 (v := .slice rz0 mz0 dz0) rfl
          have y1 := blk_cell bp 1 (v := .int .i64 tz) rfl
          have y2 := blk_cell bp 2 (v := .slice rz2 mz2 dz2) rfl
          have y3 := blk_cell bp 3 (v := .slice rz3 mz3 dz3) rfl
          have y4 := blk_cell bp 4 (v := .slice rz4 mz4 dz4) rfl
          have y5 := blk_cell bp 5 (v := .int .i64 lz) rfl
          have y6 := blk_cell bp 6 (v := .int .i64 uz) rfl
          have fy0 := blk_frozen bp 0
          have fy1 := blk_frozen bp 1
          have fy2 := blk_frozen bp 2
          have fy3 := blk_frozen bp 3
          have fy4 := blk_frozen bp 4
          have fy5 := blk_frozen bp 5
          have fy6 := blk_frozen bp 6
          obtain ⟨Xr, hX⟩ : ∃ u, u = (((((((Xx.setCell ⟨P, 0, none⟩ (.slice ry0 my0 dy0)).setCell ⟨P, 1, none⟩ (.int .i64 ty)).setCell ⟨P, 2, none⟩ (.slice ry2 my2 dy2)).setCell ⟨P, 3, none⟩ (.slice ry3 my3 dy3)).setCell ⟨P, 4, none⟩ (.slice ry4 my4 dy4)).setCell ⟨P, 5, none⟩ (.int .i64 ly)).setCell ⟨P, 6, none⟩ (.int .i64 uy)) := ⟨_, rfl⟩
          have bp' : Xr.heap[P]? = some (.cells #[.slice ry0 my0 dy0, .int .i64 ty, .slice ry2 my2 dy2, .slice ry3 my3 dy3, .slice ry4 my4 dy4, .int .i64 ly, .int .i64 uy] 29 (0, 0)) := by rw [hX]; exact (blk_set (blk_set (blk_set (blk_set (blk_set (blk_set (blk_set bp 0 _) 1 _) 2 _) 3 _) 4 _) 5 _) 6 _)
          have b1' : Xr.heap[w.heap.size + 1]? = some (.cells #[.slice none 0 0, .int .i64 0, .slice none 0 0, .slice none 0 0, .slice none 0 0, .int .i64 0, .int .i64 0] 29 (0, 0)) := by rw [hX]; exact (blk_other (blk_other (blk_other (blk_other (blk_other (blk_other (blk_other b1 (by simp; omega) _) (by simp; omega) _) (by simp; omega) _) (by simp; omega) _) (by simp; omega) _) (by simp; omega) _) (by simp; omega) _)
          have b0' : Xr.heap[w.heap.size]? = some (.cells #[.slice a0 n0 c0, .int .i64 t, .slice a2 n2 c2, .slice a3 n3 c3, .slice a4 n4 c4, .int .i64 la, .int .i64 up] 29 (0, 0)) := by rw [hX]; exact (blk_other (blk_other (blk_other (blk_other (blk_other (blk_other (blk_other b0 (by simp; omega) _) (by simp; omega) _) (by simp; omega) _) (by simp; omega) _) (by simp; omega) _) (by simp; omega) _) (by simp; omega) _)
          have hS : Off (fun b => b = P) Xx Xr := by rw [hX]; exact stores_off (F := fun b => b = P) Xx P 0 [.slice ry0 my0 dy0, .int .i64 ty, .slice ry2 my2 dy2, .slice ry3 my3 dy3, .slice ry4 my4 dy4, .int .i64 ly, .int .i64 uy] rfl
          have zXra : Xr.heap.size ≤ Xx.heap.size := by rw [hX]; exact Nat.le_of_eq (stores_size Xx P 0 [.slice ry0 my0 dy0, .int .i64 ty, .slice ry2 my2 dy2, .slice ry3 my3 dy3, .slice ry4 my4 dy4, .int .i64 ly, .int .i64 uy])
          have zXrb := hS.size
          have BXr : Below w.heap.size w Xr := BXx.trans (hS.belowOf (fun b h => by have h2 : b = P := h; omega) (by omega))
          clear b0 b1 bp
          have b0 := b0'
          have b1 := b1'
          have bp := bp'
          clear b0' b1' bp'
          have HREL : Hid (∃ (rz0 : Option Addr) (mz0 dz0 : Nat) (rz2 : Option Addr) (mz2 dz2 : Nat) (rz3 : Option Addr) (mz3 dz3 : Nat) (rz4 : Option Addr) (mz4 dz4 : Nat) (sz : List Int) (tz : Int) (qz : List Int) (vz : List TPrepared) (oz : List Int) (lz uz : Int) (G : Nat → Prop),
            Xr.heap[P]? = some (.cells #[.slice rz0 mz0 dz0, .int .i64 tz, .slice rz2 mz2 dz2, .slice rz3 mz3 dz3, .slice rz4 mz4 dz4, .int .i64 lz, .int .i64 uz] 29 (0, 0)) ∧ Xr.heap[w.heap.size + 1]? = some (.cells #[.slice none 0 0, .int .i64 0, .slice none 0 0, .slice none 0 0, .slice none 0 0, .int .i64 0, .int .i64 0] 29 (0, 0)) ∧ Xr.heap[w.heap.size]? = some (.cells #[.slice a0 n0 c0, .int .i64 t, .slice a2 n2 c2, .slice a3 n3 c3, .slice a4 n4 c4, .int .i64 la, .int .i64 up] 29 (0, 0)) ∧ HSt Xr G 0 rz0 mz0 dz0 rz2 mz2 dz2 rz3 mz3 dz3 rz4 mz4 dz4 (sz, tz, qz, vz, oz, lz, uz) ∧ PR (sz, tz, qz, vz, oz, lz, uz) ∧ muR (sz, tz, qz, vz, oz, lz, uz) = muR (sy, ty, qy, vy, oy, ly, uy) ∧ (itK rdK (muR (sz, tz, qz, vz, oz, lz, uz)) (sz, tz, qz, vz, oz, lz, uz)).1 = (sc, tc, qc, vc, oc, lc, uc) ∧ (∀ b, G b → w.heap.size + 2 ≤ b ∧ b < Xr.heap.size ∧ b ≠ P) ∧ Below w.heap.size w Xr ∧ P < Xr.heap.size) := Hid.mk
            ⟨ry0, my0, dy0, ry2, my2, dy2, ry3, my3, dy3, ry4, my4, dy4, sy, ty, qy, vy, oy, ly, uy, Gr G wY wy, bp, b1, b0, hst_off (hst_below hsy bX) hS (fun b h e => by have h2 : b = P := e; rcases h with h | h; have := hG _ h; omega; omega), HST2.out.1, rfl, HXZ.out, fun b h => (by rcases h with h | h; have := hG _ h; omega; omega), BXr, by omega⟩
          clear hS bX hsy b0 b1 bp
          go_wp2_with fail
          rw [← hX]
          clear hX
          go_roundg (muR (sy, ty, qy, vy, oy, ly, uy))
          case measure => have q := HST2.out.2; have := HMZ.out; omega
          case rel => exact HREL.out


end Go.Proofs.Ytmbjmmnodcebbaa
