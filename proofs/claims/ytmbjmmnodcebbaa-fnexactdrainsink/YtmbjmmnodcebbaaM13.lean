/- Contract of the program's DrainSink. -/
import Derived.Test.YtmbjmmnodcebbaaM11
import Derived.Test.YtmbjmmnodcebbaaM12
import Derived.Test.YtmbjmmnodcebbaaM5
namespace Go.Proofs.Ytmbjmmnodcebbaa
open Go.RowKit

theorem Try.enterCommitD : ∀ args w, (callFunc 40 args).run Try.prog w = .ok (.enter 40 args) w := fun _ _ => rfl
theorem Try.enterRead : ∀ args w, (callFunc 41 args).run Try.prog w = .ok (.enter 41 args) w := fun _ _ => rfl

set_option maxRecDepth 100000 in
set_option maxHeartbeats 2000000 in
theorem implDrainSink (a0 : Option Addr) (n0 c0 : Nat) (a2 : Option Addr) (n2 c2 : Nat) (a3 : Option Addr) (n3 c3 : Nat) (a4 : Option Addr) (n4 c4 : Nat) (t la up : Int) (src pd : List Int) (ps : List TPrepared) (ou : List Int) (w : World) (hnc : n0 ≤ c0) (h0 : src.length = n0) (h2 : pd.length = n2) (h3 : ps.length = n3) (h4 : ou.length = n4) (hb0 : n0 ≤ 1048576) (hb2 : n2 ≤ 1048576) (hb3 : n3 ≤ 1048576) (hb4 : n4 ≤ 1048576) (hsm : ∀ (i : Nat) (x : TPrepared), ps[i]? = some x → costPrepared x ≤ 1048576)
    (ha0 : At w a0 src) (ha2 : At w a2 pd) (ha3 : AtSl RPrepared w a3 ps) (ha4 : At w a4 ou) (hF0 : a0 = none → c0 = 0) (hF2 : a2 = none → c2 = 0) (hF3 : a3 = none → c3 = 0) (hF4 : a4 = none → c4 = 0) :
    Calls Try.prog 22 #[.agg #[.slice a0 n0 c0, .int .i64 t, .slice a2 n2 c2, .slice a3 n3 c3, .slice a4 n4 c4, .int .i64 la, .int .i64 up]] w fun e w' => SinkRetN e w' w.heap.size (drN (src, t, pd, ps, ou, la, up)) (gkB (src, t, pd, ps, ou, la, up)) (drX (src, t, pd, ps, ou, la, up)) ∧ Below w.heap.size w w' := by
  obtain ⟨W, hW⟩ : ∃ W, W = (w.alloc (.cells #[.slice a0 n0 c0, .int .i64 t, .slice a2 n2 c2, .slice a3 n3 c3, .slice a4 n4 c4, .int .i64 la, .int .i64 up] 29)).alloc (.cells #[.slice none 0 0, .int .i64 0, .slice none 0 0, .slice none 0 0, .slice none 0 0, .int .i64 0, .int .i64 0] 29) := ⟨_, rfl⟩
  have B0 : Below w.heap.size w W := by rw [hW]; exact ((Below.refl _ _).alloc (Nat.le_refl _) _).alloc (by simp) _
  have b0 : W.heap[w.heap.size]? = some (.cells #[.slice a0 n0 c0, .int .i64 t, .slice a2 n2 c2, .slice a3 n3 c3, .slice a4 n4 c4, .int .i64 la, .int .i64 up] 29 (0, 0)) := by rw [hW]; exact blk_alloc (heap_alloc_new w _) _
  have b1 : W.heap[w.heap.size + 1]? = some (.cells #[.slice none 0 0, .int .i64 0, .slice none 0 0, .slice none 0 0, .slice none 0 0, .int .i64 0, .int .i64 0] 29 (0, 0)) := by
    rw [hW]
    have q := heap_alloc_new (w.alloc (.cells #[.slice a0 n0 c0, .int .i64 t, .slice a2 n2 c2, .slice a3 n3 c3, .slice a4 n4 c4, .int .i64 la, .int .i64 up] 29)) (.cells #[.slice none 0 0, .int .i64 0, .slice none 0 0, .slice none 0 0, .slice none 0 0, .int .i64 0, .int .i64 0] 29)
    simpa only [World.size_alloc] using q
  have zW : W.heap.size = w.heap.size + 2 := by rw [hW]; simp
  obtain ⟨PB, hPB⟩ : ∃ b, gkB (src, t, pd, ps, ou, la, up) = b := ⟨_, rfl⟩
  obtain ⟨XN, hXN⟩ : ∃ b, drN (src, t, pd, ps, ou, la, up) = b := ⟨_, rfl⟩
  obtain ⟨XX, hXX⟩ : ∃ b, drX (src, t, pd, ps, ou, la, up) = b := ⟨_, rfl⟩
  have KG := Hid.mk (implGoodSink a0 n0 c0 a2 n2 c2 a3 n3 c3 a4 n4 c4 t la up src pd ps ou W hnc h0 h2 h3 h4 hb0 hb2 hb3 hb4 hsm (At.below ha0 B0) (At.below ha2 B0) (AtSl.below ha3 B0) (At.below ha4 B0))
  rw [hPB] at KG
  rw [hPB, hXN, hXX]
  have HPB := Hid.mk hPB
  have HXN := Hid.mk hXN
  have HXX := Hid.mk hXX
  have H0 := Hid.mk h0
  have H2 := Hid.mk h2
  have H3 := Hid.mk h3
  have H4 := Hid.mk h4
  have HSM := Hid.mk hsm
  have HA0 := Hid.mk (At.below ha0 B0)
  have HA2 := Hid.mk (At.below ha2 B0)
  have HA3 := Hid.mk (AtSl.below ha3 B0)
  have HA4 := Hid.mk (At.below ha4 B0)
  have p0 := blk_cell b0 0 (v := .slice a0 n0 c0) rfl
  have p1 := blk_cell b0 1 (v := .int .i64 t) rfl
  have p2 := blk_cell b0 2 (v := .slice a2 n2 c2) rfl
  have p3 := blk_cell b0 3 (v := .slice a3 n3 c3) rfl
  have p4 := blk_cell b0 4 (v := .slice a4 n4 c4) rfl
  have p5 := blk_cell b0 5 (v := .int .i64 la) rfl
  have p6 := blk_cell b0 6 (v := .int .i64 up) rfl
  clear ha0 ha2 ha3 ha4 h0 h2 h3 h4 hsm hPB hXN hXX
  go_enter Try.func22, Try.ntmps22
  go_upto_region 1 with fail
  rw [← hW]
  clear hW
  go_wp2_with fail
  refine KG.out.mono ?_
  rintro e w1 ⟨rfl, hb1⟩
  have b0 := blk_below b0 hb1
  have b1 := blk_below b1 hb1
  have z1 := hb1.size
  have B1 := B0.trans (hb1.mono B0.size)
  have BW1 := Hid.mk hb1
  clear hb1 KG p0 p1 p2 p3 p4 p5 p6
  cases PB with
  | false =>
    obtain rfl : (0 : Int) = XN := by rw [← HXN.out]; unfold drN; rw [HPB.out]; rfl
    obtain rfl : newK [] = XX := by rw [← HXX.out]; unfold drX; rw [HPB.out]; rfl
    have y0 := blk_cell b1 0 (v := .slice none 0 0) rfl
    have y1 := blk_cell b1 1 (v := .int .i64 0) rfl
    have y2 := blk_cell b1 2 (v := .slice none 0 0) rfl
    have y3 := blk_cell b1 3 (v := .slice none 0 0) rfl
    have y4 := blk_cell b1 4 (v := .slice none 0 0) rfl
    have y5 := blk_cell b1 5 (v := .int .i64 0) rfl
    have y6 := blk_cell b1 6 (v := .int .i64 0) rfl
    have fz0 := blk_frozen b1 0
    have fz1 := blk_frozen b1 1
    have fz2 := blk_frozen b1 2
    have fz3 := blk_frozen b1 3
    have fz4 := blk_frozen b1 4
    have fz5 := blk_frozen b1 5
    have fz6 := blk_frozen b1 6
    go_wp2
    refine bodyPost_ret (v := .tuple #[.agg #[.slice none 0 0, .int .i64 0, .slice none 0 0, .slice none 0 0, .slice none 0 0, .int .i64 0, .int .i64 0], .int .i64 0, .bool false]) (by simp [results, Try.results22, go_sem, y0, y1, y2, y3, y4, y5, y6]) rfl ⟨⟨none, 0, 0, none, 0, 0, none, 0, 0, none, 0, 0, rfl, RSink.void _ _⟩, ?_⟩
    exact ((((((B1.setCell (Nat.le_succ _) _).setCell (Nat.le_succ _) _).setCell (Nat.le_succ _) _).setCell (Nat.le_succ _) _).setCell (Nat.le_succ _) _).setCell (Nat.le_succ _) _).setCell (Nat.le_succ _) _
  | true =>
    have hXN : ((dr4 (dr3 (dr2 (dr1 (src, t, pd, ps, ou, la, up))))).2.2.2.2.1.length : Int) - n4 = XN := by rw [← HXN.out]; unfold drN; rw [HPB.out, if_pos rfl]; simp only [H4.out]
    have hXX : dr4 (dr3 (dr2 (dr1 (src, t, pd, ps, ou, la, up)))) = XX := by rw [← HXX.out]; unfold drX; rw [HPB.out]; rfl
    rw [hXX] at hXN
    have hDP := dr1_DP HPB.out
    have hGP := gk_DP HPB.out
    have p0 := blk_cell b0 0 (v := .slice a0 n0 c0) rfl
    have p1 := blk_cell b0 1 (v := .int .i64 t) rfl
    have p2 := blk_cell b0 2 (v := .slice a2 n2 c2) rfl
    have p3 := blk_cell b0 3 (v := .slice a3 n3 c3) rfl
    have p4 := blk_cell b0 4 (v := .slice a4 n4 c4) rfl
    have p5 := blk_cell b0 5 (v := .int .i64 la) rfl
    have p6 := blk_cell b0 6 (v := .int .i64 up) rfl
    have KC := Hid.mk (copySink_any a0 n0 c0 a2 n2 c2 a3 n3 c3 a4 n4 c4 t la up src pd ps ou w1 H0.out H2.out H3.out H4.out hb0 hb2 hb3 hb4 hF0 hF2 hF3 hF4 HSM.out (At.below HA0.out BW1.out) (At.below HA2.out BW1.out) (AtSl.below HA3.out BW1.out) (At.below HA4.out BW1.out))
    have HDP := Hid.mk hDP
    have HGP := Hid.mk hGP
    have HXN2 := Hid.mk hXN
    have HXX2 := Hid.mk hXX
    clear hXN hXX HXN HXX hDP hGP
    go_wp2_with fail
    refine KC.out.mono ?_
    rintro e w2 ⟨ra0, ma0, da0, ra2, ma2, da2, ra3, ma3, da3, ra4, ma4, da4, rfl, ho2, hb2⟩
    simp only at ho2
    have b0 := blk_below b0 hb2
    have b1 := blk_below b1 hb2
    have z2 := hb2.size
    have B2 := B1.trans (hb2.mono B1.size)
    obtain ⟨P, hP⟩ : ∃ P, w2.heap.size = P := ⟨_, rfl⟩
    obtain ⟨Xa, hX⟩ : ∃ u, u = w2.alloc (.cells #[.slice ra0 ma0 da0, .int .i64 t, .slice ra2 ma2 da2, .slice ra3 ma3 da3, .slice ra4 ma4 da4, .int .i64 la, .int .i64 up] 29) := ⟨_, rfl⟩
    have bX : Below w2.heap.size w2 Xa := by rw [hX]; exact (Below.refl _ _).alloc (Nat.le_refl _) _
    have bp : Xa.heap[P]? = some (.cells #[.slice ra0 ma0 da0, .int .i64 t, .slice ra2 ma2 da2, .slice ra3 ma3 da3, .slice ra4 ma4 da4, .int .i64 la, .int .i64 up] 29 (0, 0)) := by rw [hX, ← hP]; exact heap_alloc_new w2 _
    have zXa : P < Xa.heap.size := by rw [hX, ← hP]; simp
    have b0 := blk_below b0 bX
    have b1 := blk_below b1 bX
    have BXa := B2.trans (bX.mono B2.size)
    obtain ⟨FFa, hFFa, hoa⟩ : ∃ FF : Nat → Prop, (∀ b, FF b → w.heap.size + 2 ≤ b ∧ b < Xa.heap.size ∧ b ≠ P) ∧ RSink.Own Xa FF [.slice ra0 ma0 da0, .int .i64 t, .slice ra2 ma2 da2, .slice ra3 ma3 da3, .slice ra4 ma4 da4, .int .i64 la, .int .i64 up] (src, t, pd, ps, ou, la, up) :=
      ⟨_, fun b h => ⟨by have := h.1; omega, by have := h.2; omega, by have := h.2; omega⟩, RSink.ownBelow ho2 bX⟩
    have hPN : w.heap.size + 2 ≤ P := by omega
    have HPP := Hid.mk hP
    clear ho2 hb2 KC p0 p1 p2 p3 p4 p5 p6 bX
    go_upto_region 4 with fail
    (try simp only)
    rw [← hX]
    clear hX
    (try rw [hP])
    clear hP
    have hna : ma3 = n3 := by have q := (RSink.lens hoa).2.2.2.2.1; rw [← q]; exact H3.out
    by_cases h4 : n3 = 4
    · have hb4 : ((ma3 : Int) == 4) = true := beq_iff_eq.2 (by omega)
      have hps4 : ps.length = 4 := by rw [H3.out]; exact h4
      obtain ⟨⟨sb, tb, qb, vb, ob, lb, ub⟩, h1⟩ : ∃ y, dr1 (src, t, pd, ps, ou, la, up) = y := ⟨_, rfl⟩
      have h1' : (itK cmK (muK (src, t, pd, ps, ou, la, up)) (src, t, pd, ps, ou, la, up)).1 = (sb, tb, qb, vb, ob, lb, ub) := by rw [← h1]; unfold dr1; rw [if_pos hps4]
      have HD1 := HDP.out
      rw [h1] at HD1
      have HDR1 : dr1 (src, t, pd, ps, ou, la, up) = (sb, tb, qb, vb, ob, lb, ub) := h1
      have hpd := DP_PD HGP.out
      have hml : ps.length ≤ 4 := by omega
      clear h4 hna hps4
      have p3 := blk_cell bp 3 (v := .slice ra3 ma3 da3) rfl
      go_upto_region 5 with fail
      clear p3
      have p0 := blk_cell bp 0 (v := .slice ra0 ma0 da0) rfl
      have p1 := blk_cell bp 1 (v := .int .i64 t) rfl
      have p2 := blk_cell bp 2 (v := .slice ra2 ma2 da2) rfl
      have p3 := blk_cell bp 3 (v := .slice ra3 ma3 da3) rfl
      have p4 := blk_cell bp 4 (v := .slice ra4 ma4 da4) rfl
      have p5 := blk_cell bp 5 (v := .int .i64 la) rfl
      have p6 := blk_cell bp 6 (v := .int .i64 up) rfl
      have KSb := Hid.mk (again_any 40 cmK PD muK Try.enterCommitD commit_stepD (fun x hp h => cmD_step x hp h) FFa ra0 ma0 da0 ra2 ma2 da2 ra3 ma3 da3 ra4 ma4 da4 t la up src pd ps ou Xa hpd (by show ps.length ≤ 1000; omega) (fun b h => (hFFa b h).2.1) hoa)
      rw [h1'] at KSb
      clear h1' h1 hpd
      clear hoa
      go_wp2_with fail
      refine KSb.out.mono ?_
      rintro e wb ⟨rb0, mb0, db0, rb2, mb2, db2, rb3, mb3, db3, rb4, mb4, db4, rfl, hob, hOb⟩
      simp only at hob
      have zb := hOb.size
      have b0 := (hOb.block w.heap.size (by omega) (fun h => by have := hFFa _ h; omega)).trans b0
      have b1 := (hOb.block (w.heap.size + 1) (by omega) (fun h => by have := hFFa _ h; omega)).trans b1
      have bp := (hOb.block P (by omega) (fun h => by have := hFFa _ h; omega)).trans bp
      have Bb : Below w.heap.size w wb := BXa.trans (hOb.belowOf (fun b h => by have := hFFa _ h; omega) (by omega))
      clear hOb KSb p0 p1 p2 p3 p4 p5 p6
      have y0 := blk_cell bp 0 (v := .slice ra0 ma0 da0) rfl
      have y1 := blk_cell bp 1 (v := .int .i64 t) rfl
      have y2 := blk_cell bp 2 (v := .slice ra2 ma2 da2) rfl
      have y3 := blk_cell bp 3 (v := .slice ra3 ma3 da3) rfl
      have y4 := blk_cell bp 4 (v := .slice ra4 ma4 da4) rfl
      have y5 := blk_cell bp 5 (v := .int .i64 la) rfl
      have y6 := blk_cell bp 6 (v := .int .i64 up) rfl
      have fy0 := blk_frozen bp 0
      have fy1 := blk_frozen bp 1
      have fy2 := blk_frozen bp 2
      have fy3 := blk_frozen bp 3
      have fy4 := blk_frozen bp 4
      have fy5 := blk_frozen bp 5
      have fy6 := blk_frozen bp 6
      obtain ⟨Xb, hX⟩ : ∃ u, u = (((((((wb.setCell ⟨P, 0, none⟩ (.slice rb0 mb0 db0)).setCell ⟨P, 1, none⟩ (.int .i64 tb)).setCell ⟨P, 2, none⟩ (.slice rb2 mb2 db2)).setCell ⟨P, 3, none⟩ (.slice rb3 mb3 db3)).setCell ⟨P, 4, none⟩ (.slice rb4 mb4 db4)).setCell ⟨P, 5, none⟩ (.int .i64 lb)).setCell ⟨P, 6, none⟩ (.int .i64 ub)) := ⟨_, rfl⟩
      have bp' : Xb.heap[P]? = some (.cells #[.slice rb0 mb0 db0, .int .i64 tb, .slice rb2 mb2 db2, .slice rb3 mb3 db3, .slice rb4 mb4 db4, .int .i64 lb, .int .i64 ub] 29 (0, 0)) := by rw [hX]; exact (blk_set (blk_set (blk_set (blk_set (blk_set (blk_set (blk_set bp 0 _) 1 _) 2 _) 3 _) 4 _) 5 _) 6 _)
      have b1' : Xb.heap[w.heap.size + 1]? = some (.cells #[.slice none 0 0, .int .i64 0, .slice none 0 0, .slice none 0 0, .slice none 0 0, .int .i64 0, .int .i64 0] 29 (0, 0)) := by rw [hX]; exact (blk_other (blk_other (blk_other (blk_other (blk_other (blk_other (blk_other b1 (by simp; omega) _) (by simp; omega) _) (by simp; omega) _) (by simp; omega) _) (by simp; omega) _) (by simp; omega) _) (by simp; omega) _)
      have b0' : Xb.heap[w.heap.size]? = some (.cells #[.slice a0 n0 c0, .int .i64 t, .slice a2 n2 c2, .slice a3 n3 c3, .slice a4 n4 c4, .int .i64 la, .int .i64 up] 29 (0, 0)) := by rw [hX]; exact (blk_other (blk_other (blk_other (blk_other (blk_other (blk_other (blk_other b0 (by simp; omega) _) (by simp; omega) _) (by simp; omega) _) (by simp; omega) _) (by simp; omega) _) (by simp; omega) _) (by simp; omega) _)
      have hS : Off (fun b => b = P) wb Xb := by rw [hX]; exact stores_off (F := fun b => b = P) wb P 0 [.slice rb0 mb0 db0, .int .i64 tb, .slice rb2 mb2 db2, .slice rb3 mb3 db3, .slice rb4 mb4 db4, .int .i64 lb, .int .i64 ub] rfl
      have zXba : Xb.heap.size ≤ wb.heap.size := by rw [hX]; exact Nat.le_of_eq (stores_size wb P 0 [.slice rb0 mb0 db0, .int .i64 tb, .slice rb2 mb2 db2, .slice rb3 mb3 db3, .slice rb4 mb4 db4, .int .i64 lb, .int .i64 ub])
      have zXbb := hS.size
      have BXb : Below w.heap.size w Xb := Bb.trans (hS.belowOf (fun b h => by have h2 : b = P := h; omega) (by omega))
      obtain ⟨FFb, hFFb, hob⟩ : ∃ FF : Nat → Prop, (∀ b, FF b → w.heap.size + 2 ≤ b ∧ b < Xb.heap.size ∧ b ≠ P) ∧ RSink.Own Xb FF [.slice rb0 mb0 db0, .int .i64 tb, .slice rb2 mb2 db2, .slice rb3 mb3 db3, .slice rb4 mb4 db4, .int .i64 lb, .int .i64 ub] (sb, tb, qb, vb, ob, lb, ub) :=
        ⟨_, fun b h => (by rcases h with h | h; have := hFFa _ h; omega; omega), RSink.ownOff hob hS (fun b h e => by have h2 : b = P := e; rcases h with h | h; have := hFFa _ h; omega; omega)⟩
      clear b0 b1 bp hS
      have b0 := b0'
      have b1 := b1'
      have bp := bp'
      clear b0' b1' bp'
      go_upto_region 6 with fail
      rw [← hX]
      clear hX y0 y1 y2 y3 y4 y5 y6 fy0 fy1 fy2 fy3 fy4 fy5 fy6
      obtain ⟨⟨sc, tc, qc, vc, oc, lc, uc⟩, h2⟩ : ∃ y, dr2 (sb, tb, qb, vb, ob, lb, ub) = y := ⟨_, rfl⟩
      obtain ⟨⟨sd, td, qd, vd, od, ld, ud⟩, h3⟩ : ∃ y, dr3 (sc, tc, qc, vc, oc, lc, uc) = y := ⟨_, rfl⟩
      obtain ⟨⟨se, te, qe, ve, oe, le, ue⟩, h4e⟩ : ∃ y, dr4 (sd, td, qd, vd, od, ld, ud) = y := ⟨_, rfl⟩
      have HD2 := dr2_DP HD1
      rw [h2] at HD2
      have HD3 := dr3_PD HD2
      rw [h3] at HD3
      have HE := dr4_PD HD3
      rw [h4e] at HE
      have HFIN : Hid (XX = (se, te, qe, ve, oe, le, ue)) := Hid.mk (by rw [← HXX2.out, HDR1, h2, h3, h4e])
      have H2E := Hid.mk h2
      have H3E := Hid.mk h3
      have H4E := Hid.mk h4e
      have HD1' := Hid.mk HD1
      have HD2' := Hid.mk HD2
      have HD3' := Hid.mk HD3
      have HE' := Hid.mk HE
      clear h2 h3 h4e HD1 HD2 HD3 HE HDR1
      have p0 := blk_cell bp 0 (v := .slice rb0 mb0 db0) rfl
      have p1 := blk_cell bp 1 (v := .int .i64 tb) rfl
      have p2 := blk_cell bp 2 (v := .slice rb2 mb2 db2) rfl
      have p3 := blk_cell bp 3 (v := .slice rb3 mb3 db3) rfl
      have p4 := blk_cell bp 4 (v := .slice rb4 mb4 db4) rfl
      have p5 := blk_cell bp 5 (v := .int .i64 lb) rfl
      have p6 := blk_cell bp 6 (v := .int .i64 ub) rfl
      have KSc := Hid.mk (again_any 41 rdK PR muR Try.enterRead read_step (fun x hp h => rdK_step x hp h) FFb rb0 mb0 db0 rb2 mb2 db2 rb3 mb3 db3 rb4 mb4 db4 tb lb ub sb qb vb ob Xb HD1'.out.1 (muR_le HD1'.out) (fun b h => (hFFb b h).2.1) hob)
      rw [show (itK rdK (muR (sb, tb, qb, vb, ob, lb, ub)) (sb, tb, qb, vb, ob, lb, ub)).1 = (sc, tc, qc, vc, oc, lc, uc) from H2E.out] at KSc
      clear hob
      go_wp2_with fail
      refine KSc.out.mono ?_
      rintro e wc ⟨rc0, mc0, dc0, rc2, mc2, dc2, rc3, mc3, dc3, rc4, mc4, dc4, rfl, hoc, hOc⟩
      simp only at hoc
      have zc := hOc.size
      have b0 := (hOc.block w.heap.size (by omega) (fun h => by have := hFFb _ h; omega)).trans b0
      have b1 := (hOc.block (w.heap.size + 1) (by omega) (fun h => by have := hFFb _ h; omega)).trans b1
      have bp := (hOc.block P (by omega) (fun h => by have := hFFb _ h; omega)).trans bp
      have Bc : Below w.heap.size w wc := BXb.trans (hOc.belowOf (fun b h => by have := hFFb _ h; omega) (by omega))
      clear hOc KSc p0 p1 p2 p3 p4 p5 p6
      have y0 := blk_cell bp 0 (v := .slice rb0 mb0 db0) rfl
      have y1 := blk_cell bp 1 (v := .int .i64 tb) rfl
      have y2 := blk_cell bp 2 (v := .slice rb2 mb2 db2) rfl
      have y3 := blk_cell bp 3 (v := .slice rb3 mb3 db3) rfl
      have y4 := blk_cell bp 4 (v := .slice rb4 mb4 db4) rfl
      have y5 := blk_cell bp 5 (v := .int .i64 lb) rfl
      have y6 := blk_cell bp 6 (v := .int .i64 ub) rfl
      have fy0 := blk_frozen bp 0
      have fy1 := blk_frozen bp 1
      have fy2 := blk_frozen bp 2
      have fy3 := blk_frozen bp 3
      have fy4 := blk_frozen bp 4
      have fy5 := blk_frozen bp 5
      have fy6 := blk_frozen bp 6
      obtain ⟨Xc, hX⟩ : ∃ u, u = (((((((wc.setCell ⟨P, 0, none⟩ (.slice rc0 mc0 dc0)).setCell ⟨P, 1, none⟩ (.int .i64 tc)).setCell ⟨P, 2, none⟩ (.slice rc2 mc2 dc2)).setCell ⟨P, 3, none⟩ (.slice rc3 mc3 dc3)).setCell ⟨P, 4, none⟩ (.slice rc4 mc4 dc4)).setCell ⟨P, 5, none⟩ (.int .i64 lc)).setCell ⟨P, 6, none⟩ (.int .i64 uc)) := ⟨_, rfl⟩
      have bp' : Xc.heap[P]? = some (.cells #[.slice rc0 mc0 dc0, .int .i64 tc, .slice rc2 mc2 dc2, .slice rc3 mc3 dc3, .slice rc4 mc4 dc4, .int .i64 lc, .int .i64 uc] 29 (0, 0)) := by rw [hX]; exact (blk_set (blk_set (blk_set (blk_set (blk_set (blk_set (blk_set bp 0 _) 1 _) 2 _) 3 _) 4 _) 5 _) 6 _)
      have b1' : Xc.heap[w.heap.size + 1]? = some (.cells #[.slice none 0 0, .int .i64 0, .slice none 0 0, .slice none 0 0, .slice none 0 0, .int .i64 0, .int .i64 0] 29 (0, 0)) := by rw [hX]; exact (blk_other (blk_other (blk_other (blk_other (blk_other (blk_other (blk_other b1 (by simp; omega) _) (by simp; omega) _) (by simp; omega) _) (by simp; omega) _) (by simp; omega) _) (by simp; omega) _) (by simp; omega) _)
      have b0' : Xc.heap[w.heap.size]? = some (.cells #[.slice a0 n0 c0, .int .i64 t, .slice a2 n2 c2, .slice a3 n3 c3, .slice a4 n4 c4, .int .i64 la, .int .i64 up] 29 (0, 0)) := by rw [hX]; exact (blk_other (blk_other (blk_other (blk_other (blk_other (blk_other (blk_other b0 (by simp; omega) _) (by simp; omega) _) (by simp; omega) _) (by simp; omega) _) (by simp; omega) _) (by simp; omega) _) (by simp; omega) _)
      have hS : Off (fun b => b = P) wc Xc := by rw [hX]; exact stores_off (F := fun b => b = P) wc P 0 [.slice rc0 mc0 dc0, .int .i64 tc, .slice rc2 mc2 dc2, .slice rc3 mc3 dc3, .slice rc4 mc4 dc4, .int .i64 lc, .int .i64 uc] rfl
      have zXca : Xc.heap.size ≤ wc.heap.size := by rw [hX]; exact Nat.le_of_eq (stores_size wc P 0 [.slice rc0 mc0 dc0, .int .i64 tc, .slice rc2 mc2 dc2, .slice rc3 mc3 dc3, .slice rc4 mc4 dc4, .int .i64 lc, .int .i64 uc])
      have zXcb := hS.size
      have BXc : Below w.heap.size w Xc := Bc.trans (hS.belowOf (fun b h => by have h2 : b = P := h; omega) (by omega))
      obtain ⟨FFc, hFFc, hoc⟩ : ∃ FF : Nat → Prop, (∀ b, FF b → w.heap.size + 2 ≤ b ∧ b < Xc.heap.size ∧ b ≠ P) ∧ RSink.Own Xc FF [.slice rc0 mc0 dc0, .int .i64 tc, .slice rc2 mc2 dc2, .slice rc3 mc3 dc3, .slice rc4 mc4 dc4, .int .i64 lc, .int .i64 uc] (sc, tc, qc, vc, oc, lc, uc) :=
        ⟨_, fun b h => (by rcases h with h | h; have := hFFb _ h; omega; omega), RSink.ownOff hoc hS (fun b h e => by have h2 : b = P := e; rcases h with h | h; have := hFFb _ h; omega; omega)⟩
      clear b0 b1 bp hS
      have b0 := b0'
      have b1 := b1'
      have bp := bp'
      clear b0' b1' bp'
      go_upto_region 7 with fail
      rw [← hX]
      clear hX y0 y1 y2 y3 y4 y5 y6 fy0 fy1 fy2 fy3 fy4 fy5 fy6
      have p0 := blk_cell bp 0 (v := .slice rc0 mc0 dc0) rfl
      have p1 := blk_cell bp 1 (v := .int .i64 tc) rfl
      have p2 := blk_cell bp 2 (v := .slice rc2 mc2 dc2) rfl
      have p3 := blk_cell bp 3 (v := .slice rc3 mc3 dc3) rfl
      have p4 := blk_cell bp 4 (v := .slice rc4 mc4 dc4) rfl
      have p5 := blk_cell bp 5 (v := .int .i64 lc) rfl
      have p6 := blk_cell bp 6 (v := .int .i64 uc) rfl
      have KSd := Hid.mk (prepare_any FFc rc0 mc0 dc0 rc2 mc2 dc2 rc3 mc3 dc3 rc4 mc4 dc4 tc lc uc sc qc vc oc Xc (fun b h => (hFFc b h).2.1) (by have q := (RSink.lens hoc).2.2.2.2.1; have q2 : vc.length ≤ 4 := HD2'.out.2.1; omega) HD2'.out.2.2.2.2.1 HD2'.out.2.2.2.2.2 hoc)
      rw [show (prK (sc, tc, qc, vc, oc, lc, uc)).1 = (sd, td, qd, vd, od, ld, ud) from H3E.out] at KSd
      obtain ⟨OK3, hOK3⟩ : ∃ b, (prK (sc, tc, qc, vc, oc, lc, uc)).2 = b := ⟨_, rfl⟩
      rw [hOK3] at KSd
      clear hOK3
      clear hoc
      go_wp2_with fail
      refine KSd.out.mono ?_
      rintro e wd ⟨rd0, md0, dd0, rd2, md2, dd2, rd3, md3, dd3, rd4, md4, dd4, rfl, hod, hOd⟩
      simp only at hod
      have zd := hOd.size
      have b0 := (hOd.block w.heap.size (by omega) (fun h => by have := hFFc _ h; omega)).trans b0
      have b1 := (hOd.block (w.heap.size + 1) (by omega) (fun h => by have := hFFc _ h; omega)).trans b1
      have bp := (hOd.block P (by omega) (fun h => by have := hFFc _ h; omega)).trans bp
      have Bd : Below w.heap.size w wd := BXc.trans (hOd.belowOf (fun b h => by have := hFFc _ h; omega) (by omega))
      clear hOd KSd p0 p1 p2 p3 p4 p5 p6
      have y0 := blk_cell bp 0 (v := .slice rc0 mc0 dc0) rfl
      have y1 := blk_cell bp 1 (v := .int .i64 tc) rfl
      have y2 := blk_cell bp 2 (v := .slice rc2 mc2 dc2) rfl
      have y3 := blk_cell bp 3 (v := .slice rc3 mc3 dc3) rfl
      have y4 := blk_cell bp 4 (v := .slice rc4 mc4 dc4) rfl
      have y5 := blk_cell bp 5 (v := .int .i64 lc) rfl
      have y6 := blk_cell bp 6 (v := .int .i64 uc) rfl
      have fy0 := blk_frozen bp 0
      have fy1 := blk_frozen bp 1
      have fy2 := blk_frozen bp 2
      have fy3 := blk_frozen bp 3
      have fy4 := blk_frozen bp 4
      have fy5 := blk_frozen bp 5
      have fy6 := blk_frozen bp 6
      obtain ⟨Xd, hX⟩ : ∃ u, u = (((((((wd.setCell ⟨P, 0, none⟩ (.slice rd0 md0 dd0)).setCell ⟨P, 1, none⟩ (.int .i64 td)).setCell ⟨P, 2, none⟩ (.slice rd2 md2 dd2)).setCell ⟨P, 3, none⟩ (.slice rd3 md3 dd3)).setCell ⟨P, 4, none⟩ (.slice rd4 md4 dd4)).setCell ⟨P, 5, none⟩ (.int .i64 ld)).setCell ⟨P, 6, none⟩ (.int .i64 ud)) := ⟨_, rfl⟩
      have bp' : Xd.heap[P]? = some (.cells #[.slice rd0 md0 dd0, .int .i64 td, .slice rd2 md2 dd2, .slice rd3 md3 dd3, .slice rd4 md4 dd4, .int .i64 ld, .int .i64 ud] 29 (0, 0)) := by rw [hX]; exact (blk_set (blk_set (blk_set (blk_set (blk_set (blk_set (blk_set bp 0 _) 1 _) 2 _) 3 _) 4 _) 5 _) 6 _)
      have b1' : Xd.heap[w.heap.size + 1]? = some (.cells #[.slice none 0 0, .int .i64 0, .slice none 0 0, .slice none 0 0, .slice none 0 0, .int .i64 0, .int .i64 0] 29 (0, 0)) := by rw [hX]; exact (blk_other (blk_other (blk_other (blk_other (blk_other (blk_other (blk_other b1 (by simp; omega) _) (by simp; omega) _) (by simp; omega) _) (by simp; omega) _) (by simp; omega) _) (by simp; omega) _) (by simp; omega) _)
      have b0' : Xd.heap[w.heap.size]? = some (.cells #[.slice a0 n0 c0, .int .i64 t, .slice a2 n2 c2, .slice a3 n3 c3, .slice a4 n4 c4, .int .i64 la, .int .i64 up] 29 (0, 0)) := by rw [hX]; exact (blk_other (blk_other (blk_other (blk_other (blk_other (blk_other (blk_other b0 (by simp; omega) _) (by simp; omega) _) (by simp; omega) _) (by simp; omega) _) (by simp; omega) _) (by simp; omega) _) (by simp; omega) _)
      have hS : Off (fun b => b = P) wd Xd := by rw [hX]; exact stores_off (F := fun b => b = P) wd P 0 [.slice rd0 md0 dd0, .int .i64 td, .slice rd2 md2 dd2, .slice rd3 md3 dd3, .slice rd4 md4 dd4, .int .i64 ld, .int .i64 ud] rfl
      have zXda : Xd.heap.size ≤ wd.heap.size := by rw [hX]; exact Nat.le_of_eq (stores_size wd P 0 [.slice rd0 md0 dd0, .int .i64 td, .slice rd2 md2 dd2, .slice rd3 md3 dd3, .slice rd4 md4 dd4, .int .i64 ld, .int .i64 ud])
      have zXdb := hS.size
      have BXd : Below w.heap.size w Xd := Bd.trans (hS.belowOf (fun b h => by have h2 : b = P := h; omega) (by omega))
      obtain ⟨FFd, hFFd, hod⟩ : ∃ FF : Nat → Prop, (∀ b, FF b → w.heap.size + 2 ≤ b ∧ b < Xd.heap.size ∧ b ≠ P) ∧ RSink.Own Xd FF [.slice rd0 md0 dd0, .int .i64 td, .slice rd2 md2 dd2, .slice rd3 md3 dd3, .slice rd4 md4 dd4, .int .i64 ld, .int .i64 ud] (sd, td, qd, vd, od, ld, ud) :=
        ⟨_, fun b h => (by rcases h with h | h; have := hFFc _ h; omega; omega), RSink.ownOff hod hS (fun b h e => by have h2 : b = P := e; rcases h with h | h; have := hFFc _ h; omega; omega)⟩
      clear b0 b1 bp hS
      have b0 := b0'
      have b1 := b1'
      have bp := bp'
      clear b0' b1' bp'
      go_upto_region 8 with fail
      rw [← hX]
      clear hX y0 y1 y2 y3 y4 y5 y6 fy0 fy1 fy2 fy3 fy4 fy5 fy6
      have p0 := blk_cell bp 0 (v := .slice rd0 md0 dd0) rfl
      have p1 := blk_cell bp 1 (v := .int .i64 td) rfl
      have p2 := blk_cell bp 2 (v := .slice rd2 md2 dd2) rfl
      have p3 := blk_cell bp 3 (v := .slice rd3 md3 dd3) rfl
      have p4 := blk_cell bp 4 (v := .slice rd4 md4 dd4) rfl
      have p5 := blk_cell bp 5 (v := .int .i64 ld) rfl
      have p6 := blk_cell bp 6 (v := .int .i64 ud) rfl
      have KSe := Hid.mk (again_any 40 cmK PD muK Try.enterCommitD commit_stepD (fun x hp h => cmD_step x hp h) FFd rd0 md0 dd0 rd2 md2 dd2 rd3 md3 dd3 rd4 md4 dd4 td ld ud sd qd vd od Xd HD3'.out (by have q2 : vd.length ≤ 4 := HD3'.out.1; show vd.length ≤ 1000; omega) (fun b h => (hFFd b h).2.1) hod)
      rw [show (itK cmK (muK (sd, td, qd, vd, od, ld, ud)) (sd, td, qd, vd, od, ld, ud)).1 = (se, te, qe, ve, oe, le, ue) from H4E.out] at KSe
      clear hod
      go_wp2_with fail
      refine KSe.out.mono ?_
      rintro e we ⟨re0, me0, de0, re2, me2, de2, re3, me3, de3, re4, me4, de4, rfl, hoe, hOe⟩
      simp only at hoe
      have ze := hOe.size
      have b0 := (hOe.block w.heap.size (by omega) (fun h => by have := hFFd _ h; omega)).trans b0
      have b1 := (hOe.block (w.heap.size + 1) (by omega) (fun h => by have := hFFd _ h; omega)).trans b1
      have bp := (hOe.block P (by omega) (fun h => by have := hFFd _ h; omega)).trans bp
      have Be : Below w.heap.size w we := BXd.trans (hOe.belowOf (fun b h => by have := hFFd _ h; omega) (by omega))
      clear hOe KSe p0 p1 p2 p3 p4 p5 p6
      have y0 := blk_cell bp 0 (v := .slice rd0 md0 dd0) rfl
      have y1 := blk_cell bp 1 (v := .int .i64 td) rfl
      have y2 := blk_cell bp 2 (v := .slice rd2 md2 dd2) rfl
      have y3 := blk_cell bp 3 (v := .slice rd3 md3 dd3) rfl
      have y4 := blk_cell bp 4 (v := .slice rd4 md4 dd4) rfl
      have y5 := blk_cell bp 5 (v := .int .i64 ld) rfl
      have y6 := blk_cell bp 6 (v := .int .i64 ud) rfl
      have fy0 := blk_frozen bp 0
      have fy1 := blk_frozen bp 1
      have fy2 := blk_frozen bp 2
      have fy3 := blk_frozen bp 3
      have fy4 := blk_frozen bp 4
      have fy5 := blk_frozen bp 5
      have fy6 := blk_frozen bp 6
      obtain ⟨Xe, hX⟩ : ∃ u, u = (((((((we.setCell ⟨P, 0, none⟩ (.slice re0 me0 de0)).setCell ⟨P, 1, none⟩ (.int .i64 te)).setCell ⟨P, 2, none⟩ (.slice re2 me2 de2)).setCell ⟨P, 3, none⟩ (.slice re3 me3 de3)).setCell ⟨P, 4, none⟩ (.slice re4 me4 de4)).setCell ⟨P, 5, none⟩ (.int .i64 le)).setCell ⟨P, 6, none⟩ (.int .i64 ue)) := ⟨_, rfl⟩
      have bp' : Xe.heap[P]? = some (.cells #[.slice re0 me0 de0, .int .i64 te, .slice re2 me2 de2, .slice re3 me3 de3, .slice re4 me4 de4, .int .i64 le, .int .i64 ue] 29 (0, 0)) := by rw [hX]; exact (blk_set (blk_set (blk_set (blk_set (blk_set (blk_set (blk_set bp 0 _) 1 _) 2 _) 3 _) 4 _) 5 _) 6 _)
      have b1' : Xe.heap[w.heap.size + 1]? = some (.cells #[.slice none 0 0, .int .i64 0, .slice none 0 0, .slice none 0 0, .slice none 0 0, .int .i64 0, .int .i64 0] 29 (0, 0)) := by rw [hX]; exact (blk_other (blk_other (blk_other (blk_other (blk_other (blk_other (blk_other b1 (by simp; omega) _) (by simp; omega) _) (by simp; omega) _) (by simp; omega) _) (by simp; omega) _) (by simp; omega) _) (by simp; omega) _)
      have b0' : Xe.heap[w.heap.size]? = some (.cells #[.slice a0 n0 c0, .int .i64 t, .slice a2 n2 c2, .slice a3 n3 c3, .slice a4 n4 c4, .int .i64 la, .int .i64 up] 29 (0, 0)) := by rw [hX]; exact (blk_other (blk_other (blk_other (blk_other (blk_other (blk_other (blk_other b0 (by simp; omega) _) (by simp; omega) _) (by simp; omega) _) (by simp; omega) _) (by simp; omega) _) (by simp; omega) _) (by simp; omega) _)
      have hS : Off (fun b => b = P) we Xe := by rw [hX]; exact stores_off (F := fun b => b = P) we P 0 [.slice re0 me0 de0, .int .i64 te, .slice re2 me2 de2, .slice re3 me3 de3, .slice re4 me4 de4, .int .i64 le, .int .i64 ue] rfl
      have zXea : Xe.heap.size ≤ we.heap.size := by rw [hX]; exact Nat.le_of_eq (stores_size we P 0 [.slice re0 me0 de0, .int .i64 te, .slice re2 me2 de2, .slice re3 me3 de3, .slice re4 me4 de4, .int .i64 le, .int .i64 ue])
      have zXeb := hS.size
      have BXe : Below w.heap.size w Xe := Be.trans (hS.belowOf (fun b h => by have h2 : b = P := h; omega) (by omega))
      obtain ⟨FFe, hFFe, hoe⟩ : ∃ FF : Nat → Prop, (∀ b, FF b → w.heap.size + 2 ≤ b ∧ b < Xe.heap.size ∧ b ≠ P) ∧ RSink.Own Xe FF [.slice re0 me0 de0, .int .i64 te, .slice re2 me2 de2, .slice re3 me3 de3, .slice re4 me4 de4, .int .i64 le, .int .i64 ue] (se, te, qe, ve, oe, le, ue) :=
        ⟨_, fun b h => (by rcases h with h | h; have := hFFd _ h; omega; omega), RSink.ownOff hoe hS (fun b h e => by have h2 : b = P := e; rcases h with h | h; have := hFFd _ h; omega; omega)⟩
      clear b0 b1 bp hS
      have b0 := b0'
      have b1 := b1'
      have bp := bp'
      clear b0' b1' bp'
      go_upto_region 9 with fail
      rw [← hX]
      clear hX y0 y1 y2 y3 y4 y5 y6 fy0 fy1 fy2 fy3 fy4 fy5 fy6
      have hme : oe.length = me4 := (RSink.lens hoe).2.2.2.2.2.2.1
      have hwx : IntKind.i64.wrap ((me4 : Int) - (n4 : Int)) = (me4 : Int) - (n4 : Int) := by
        have := HE'.out.1
        (try simp only at this)
        exact IntWalk.i64_in _ (by omega)
      have hxe := HFIN.out
      have hnn := HXN2.out
      rw [hxe] at hnn
      (try simp only at hnn)
      rw [hme] at hnn
      have HXE := Hid.mk hxe
      have HNN := Hid.mk hnn
      have HOE := Hid.mk hoe
      have p0 := blk_cell bp 0 (v := .slice re0 me0 de0) rfl
      have p1 := blk_cell bp 1 (v := .int .i64 te) rfl
      have p2 := blk_cell bp 2 (v := .slice re2 me2 de2) rfl
      have p3 := blk_cell bp 3 (v := .slice re3 me3 de3) rfl
      have p4 := blk_cell bp 4 (v := .slice re4 me4 de4) rfl
      have p5 := blk_cell bp 5 (v := .int .i64 le) rfl
      have p6 := blk_cell bp 6 (v := .int .i64 ue) rfl
      have y0 := blk_cell b1 0 (v := .slice none 0 0) rfl
      have y1 := blk_cell b1 1 (v := .int .i64 0) rfl
      have y2 := blk_cell b1 2 (v := .slice none 0 0) rfl
      have y3 := blk_cell b1 3 (v := .slice none 0 0) rfl
      have y4 := blk_cell b1 4 (v := .slice none 0 0) rfl
      have y5 := blk_cell b1 5 (v := .int .i64 0) rfl
      have y6 := blk_cell b1 6 (v := .int .i64 0) rfl
      have fz0 := blk_frozen b1 0
      have fz1 := blk_frozen b1 1
      have fz2 := blk_frozen b1 2
      have fz3 := blk_frozen b1 3
      have fz4 := blk_frozen b1 4
      have fz5 := blk_frozen b1 5
      have fz6 := blk_frozen b1 6
      have s4 := blk_cell b0 4 (v := .slice a4 n4 c4) rfl
      clear hme hxe hnn hoe
      go_region
      obtain ⟨Y, hY⟩ : ∃ u, u = (stores Xe (w.heap.size + 1) 0 [.slice re0 me0 de0, .int .i64 te, .slice re2 me2 de2, .slice re3 me3 de3, .slice re4 me4 de4, .int .i64 le, .int .i64 ue]).drew := ⟨_, rfl⟩
      have S : Off (fun b => b = w.heap.size + 1) Xe Y := by rw [hY]; exact (stores_off (F := fun b => b = w.heap.size + 1) _ _ _ _ rfl).drew
      have D : Below w.heap.size w Y := BXe.trans (S.belowOf (fun b h => by have h2 : b = w.heap.size + 1 := h; omega) (by omega))
      have R : Hid (SinkRetN (.returned (.tuple #[.agg #[.slice re0 me0 de0, .int .i64 te, .slice re2 me2 de2, .slice re3 me3 de3, .slice re4 me4 de4, .int .i64 le, .int .i64 ue], .int .i64 ((me4 : Int) - (n4 : Int)), .bool true])) Y w.heap.size XN true XX ∧ Below w.heap.size w Y) := Hid.mk (by
        rw [HXE.out, ← HNN.out]
        exact ⟨⟨re0, me0, de0, re2, me2, de2, re3, me3, de3, re4, me4, de4, rfl, RSink.mono (RSink.ownOff HOE.out S (fun b h e => by have h2 : b = w.heap.size + 1 := e; have := hFFe b h; omega)) (fun b h => by have := hFFe b h; have h2 := S.size; exact ⟨by omega, by omega⟩)⟩, D⟩)
      have HY := Hid.mk hY
      clear D S hY b0 b1 bp
      go_wp2
      refine bodyPost_ret (v := .tuple #[.agg #[.slice re0 me0 de0, .int .i64 te, .slice re2 me2 de2, .slice re3 me3 de3, .slice re4 me4 de4, .int .i64 le, .int .i64 ue], .int .i64 ((me4 : Int) - (n4 : Int)), .bool true]) (by simp [results, Try.results22, go_sem, y0, y1, y2, y3, y4, y5, y6]) rfl ?_
      have h := R.out
      rw [HY.out] at h
      exact h
    · have hb4 : ((ma3 : Int) == 4) = false := beq_eq_false_iff_ne.2 (by omega)
      have hps4 : ¬ ps.length = 4 := by rw [H3.out]; exact h4
      have HDR1 : dr1 (src, t, pd, ps, ou, la, up) = (src, t, pd, ps, ou, la, up) := by unfold dr1; rw [if_neg hps4]
      have HD1 := HGP.out
      clear h4 hna hps4
      have p3 := blk_cell bp 3 (v := .slice ra3 ma3 da3) rfl
      go_upto_region 6 with fail
      clear p3
      obtain ⟨⟨sc, tc, qc, vc, oc, lc, uc⟩, h2⟩ : ∃ y, dr2 (src, t, pd, ps, ou, la, up) = y := ⟨_, rfl⟩
      obtain ⟨⟨sd, td, qd, vd, od, ld, ud⟩, h3⟩ : ∃ y, dr3 (sc, tc, qc, vc, oc, lc, uc) = y := ⟨_, rfl⟩
      obtain ⟨⟨se, te, qe, ve, oe, le, ue⟩, h4e⟩ : ∃ y, dr4 (sd, td, qd, vd, od, ld, ud) = y := ⟨_, rfl⟩
      have HD2 := dr2_DP HD1
      rw [h2] at HD2
      have HD3 := dr3_PD HD2
      rw [h3] at HD3
      have HE := dr4_PD HD3
      rw [h4e] at HE
      have HFIN : Hid (XX = (se, te, qe, ve, oe, le, ue)) := Hid.mk (by rw [← HXX2.out, HDR1, h2, h3, h4e])
      have H2E := Hid.mk h2
      have H3E := Hid.mk h3
      have H4E := Hid.mk h4e
      have HD1' := Hid.mk HD1
      have HD2' := Hid.mk HD2
      have HD3' := Hid.mk HD3
      have HE' := Hid.mk HE
      clear h2 h3 h4e HD1 HD2 HD3 HE HDR1
      have p0 := blk_cell bp 0 (v := .slice ra0 ma0 da0) rfl
      have p1 := blk_cell bp 1 (v := .int .i64 t) rfl
      have p2 := blk_cell bp 2 (v := .slice ra2 ma2 da2) rfl
      have p3 := blk_cell bp 3 (v := .slice ra3 ma3 da3) rfl
      have p4 := blk_cell bp 4 (v := .slice ra4 ma4 da4) rfl
      have p5 := blk_cell bp 5 (v := .int .i64 la) rfl
      have p6 := blk_cell bp 6 (v := .int .i64 up) rfl
      have KSc := Hid.mk (again_any 41 rdK PR muR Try.enterRead read_step (fun x hp h => rdK_step x hp h) FFa ra0 ma0 da0 ra2 ma2 da2 ra3 ma3 da3 ra4 ma4 da4 t la up src pd ps ou Xa HD1'.out.1 (muR_le HD1'.out) (fun b h => (hFFa b h).2.1) hoa)
      rw [show (itK rdK (muR (src, t, pd, ps, ou, la, up)) (src, t, pd, ps, ou, la, up)).1 = (sc, tc, qc, vc, oc, lc, uc) from H2E.out] at KSc
      clear hoa
      go_wp2_with fail
      refine KSc.out.mono ?_
      rintro e wc ⟨rc0, mc0, dc0, rc2, mc2, dc2, rc3, mc3, dc3, rc4, mc4, dc4, rfl, hoc, hOc⟩
      simp only at hoc
      have zc := hOc.size
      have b0 := (hOc.block w.heap.size (by omega) (fun h => by have := hFFa _ h; omega)).trans b0
      have b1 := (hOc.block (w.heap.size + 1) (by omega) (fun h => by have := hFFa _ h; omega)).trans b1
      have bp := (hOc.block P (by omega) (fun h => by have := hFFa _ h; omega)).trans bp
      have Bc : Below w.heap.size w wc := BXa.trans (hOc.belowOf (fun b h => by have := hFFa _ h; omega) (by omega))
      clear hOc KSc p0 p1 p2 p3 p4 p5 p6
      have y0 := blk_cell bp 0 (v := .slice ra0 ma0 da0) rfl
      have y1 := blk_cell bp 1 (v := .int .i64 t) rfl
      have y2 := blk_cell bp 2 (v := .slice ra2 ma2 da2) rfl
      have y3 := blk_cell bp 3 (v := .slice ra3 ma3 da3) rfl
      have y4 := blk_cell bp 4 (v := .slice ra4 ma4 da4) rfl
      have y5 := blk_cell bp 5 (v := .int .i64 la) rfl
      have y6 := blk_cell bp 6 (v := .int .i64 up) rfl
      have fy0 := blk_frozen bp 0
      have fy1 := blk_frozen bp 1
      have fy2 := blk_frozen bp 2
      have fy3 := blk_frozen bp 3
      have fy4 := blk_frozen bp 4
      have fy5 := blk_frozen bp 5
      have fy6 := blk_frozen bp 6
      obtain ⟨Xc, hX⟩ : ∃ u, u = (((((((wc.setCell ⟨P, 0, none⟩ (.slice rc0 mc0 dc0)).setCell ⟨P, 1, none⟩ (.int .i64 tc)).setCell ⟨P, 2, none⟩ (.slice rc2 mc2 dc2)).setCell ⟨P, 3, none⟩ (.slice rc3 mc3 dc3)).setCell ⟨P, 4, none⟩ (.slice rc4 mc4 dc4)).setCell ⟨P, 5, none⟩ (.int .i64 lc)).setCell ⟨P, 6, none⟩ (.int .i64 uc)) := ⟨_, rfl⟩
      have bp' : Xc.heap[P]? = some (.cells #[.slice rc0 mc0 dc0, .int .i64 tc, .slice rc2 mc2 dc2, .slice rc3 mc3 dc3, .slice rc4 mc4 dc4, .int .i64 lc, .int .i64 uc] 29 (0, 0)) := by rw [hX]; exact (blk_set (blk_set (blk_set (blk_set (blk_set (blk_set (blk_set bp 0 _) 1 _) 2 _) 3 _) 4 _) 5 _) 6 _)
      have b1' : Xc.heap[w.heap.size + 1]? = some (.cells #[.slice none 0 0, .int .i64 0, .slice none 0 0, .slice none 0 0, .slice none 0 0, .int .i64 0, .int .i64 0] 29 (0, 0)) := by rw [hX]; exact (blk_other (blk_other (blk_other (blk_other (blk_other (blk_other (blk_other b1 (by simp; omega) _) (by simp; omega) _) (by simp; omega) _) (by simp; omega) _) (by simp; omega) _) (by simp; omega) _) (by simp; omega) _)
      have b0' : Xc.heap[w.heap.size]? = some (.cells #[.slice a0 n0 c0, .int .i64 t, .slice a2 n2 c2, .slice a3 n3 c3, .slice a4 n4 c4, .int .i64 la, .int .i64 up] 29 (0, 0)) := by rw [hX]; exact (blk_other (blk_other (blk_other (blk_other (blk_other (blk_other (blk_other b0 (by simp; omega) _) (by simp; omega) _) (by simp; omega) _) (by simp; omega) _) (by simp; omega) _) (by simp; omega) _) (by simp; omega) _)
      have hS : Off (fun b => b = P) wc Xc := by rw [hX]; exact stores_off (F := fun b => b = P) wc P 0 [.slice rc0 mc0 dc0, .int .i64 tc, .slice rc2 mc2 dc2, .slice rc3 mc3 dc3, .slice rc4 mc4 dc4, .int .i64 lc, .int .i64 uc] rfl
      have zXca : Xc.heap.size ≤ wc.heap.size := by rw [hX]; exact Nat.le_of_eq (stores_size wc P 0 [.slice rc0 mc0 dc0, .int .i64 tc, .slice rc2 mc2 dc2, .slice rc3 mc3 dc3, .slice rc4 mc4 dc4, .int .i64 lc, .int .i64 uc])
      have zXcb := hS.size
      have BXc : Below w.heap.size w Xc := Bc.trans (hS.belowOf (fun b h => by have h2 : b = P := h; omega) (by omega))
      obtain ⟨FFc, hFFc, hoc⟩ : ∃ FF : Nat → Prop, (∀ b, FF b → w.heap.size + 2 ≤ b ∧ b < Xc.heap.size ∧ b ≠ P) ∧ RSink.Own Xc FF [.slice rc0 mc0 dc0, .int .i64 tc, .slice rc2 mc2 dc2, .slice rc3 mc3 dc3, .slice rc4 mc4 dc4, .int .i64 lc, .int .i64 uc] (sc, tc, qc, vc, oc, lc, uc) :=
        ⟨_, fun b h => (by rcases h with h | h; have := hFFa _ h; omega; omega), RSink.ownOff hoc hS (fun b h e => by have h2 : b = P := e; rcases h with h | h; have := hFFa _ h; omega; omega)⟩
      clear b0 b1 bp hS
      have b0 := b0'
      have b1 := b1'
      have bp := bp'
      clear b0' b1' bp'
      go_upto_region 7 with fail
      rw [← hX]
      clear hX y0 y1 y2 y3 y4 y5 y6 fy0 fy1 fy2 fy3 fy4 fy5 fy6
      have p0 := blk_cell bp 0 (v := .slice rc0 mc0 dc0) rfl
      have p1 := blk_cell bp 1 (v := .int .i64 tc) rfl
      have p2 := blk_cell bp 2 (v := .slice rc2 mc2 dc2) rfl
      have p3 := blk_cell bp 3 (v := .slice rc3 mc3 dc3) rfl
      have p4 := blk_cell bp 4 (v := .slice rc4 mc4 dc4) rfl
      have p5 := blk_cell bp 5 (v := .int .i64 lc) rfl
      have p6 := blk_cell bp 6 (v := .int .i64 uc) rfl
      have KSd := Hid.mk (prepare_any FFc rc0 mc0 dc0 rc2 mc2 dc2 rc3 mc3 dc3 rc4 mc4 dc4 tc lc uc sc qc vc oc Xc (fun b h => (hFFc b h).2.1) (by have q := (RSink.lens hoc).2.2.2.2.1; have q2 : vc.length ≤ 4 := HD2'.out.2.1; omega) HD2'.out.2.2.2.2.1 HD2'.out.2.2.2.2.2 hoc)
      rw [show (prK (sc, tc, qc, vc, oc, lc, uc)).1 = (sd, td, qd, vd, od, ld, ud) from H3E.out] at KSd
      obtain ⟨OK3, hOK3⟩ : ∃ b, (prK (sc, tc, qc, vc, oc, lc, uc)).2 = b := ⟨_, rfl⟩
      rw [hOK3] at KSd
      clear hOK3
      clear hoc
      go_wp2_with fail
      refine KSd.out.mono ?_
      rintro e wd ⟨rd0, md0, dd0, rd2, md2, dd2, rd3, md3, dd3, rd4, md4, dd4, rfl, hod, hOd⟩
      simp only at hod
      have zd := hOd.size
      have b0 := (hOd.block w.heap.size (by omega) (fun h => by have := hFFc _ h; omega)).trans b0
      have b1 := (hOd.block (w.heap.size + 1) (by omega) (fun h => by have := hFFc _ h; omega)).trans b1
      have bp := (hOd.block P (by omega) (fun h => by have := hFFc _ h; omega)).trans bp
      have Bd : Below w.heap.size w wd := BXc.trans (hOd.belowOf (fun b h => by have := hFFc _ h; omega) (by omega))
      clear hOd KSd p0 p1 p2 p3 p4 p5 p6
      have y0 := blk_cell bp 0 (v := .slice rc0 mc0 dc0) rfl
      have y1 := blk_cell bp 1 (v := .int .i64 tc) rfl
      have y2 := blk_cell bp 2 (v := .slice rc2 mc2 dc2) rfl
      have y3 := blk_cell bp 3 (v := .slice rc3 mc3 dc3) rfl
      have y4 := blk_cell bp 4 (v := .slice rc4 mc4 dc4) rfl
      have y5 := blk_cell bp 5 (v := .int .i64 lc) rfl
      have y6 := blk_cell bp 6 (v := .int .i64 uc) rfl
      have fy0 := blk_frozen bp 0
      have fy1 := blk_frozen bp 1
      have fy2 := blk_frozen bp 2
      have fy3 := blk_frozen bp 3
      have fy4 := blk_frozen bp 4
      have fy5 := blk_frozen bp 5
      have fy6 := blk_frozen bp 6
      obtain ⟨Xd, hX⟩ : ∃ u, u = (((((((wd.setCell ⟨P, 0, none⟩ (.slice rd0 md0 dd0)).setCell ⟨P, 1, none⟩ (.int .i64 td)).setCell ⟨P, 2, none⟩ (.slice rd2 md2 dd2)).setCell ⟨P, 3, none⟩ (.slice rd3 md3 dd3)).setCell ⟨P, 4, none⟩ (.slice rd4 md4 dd4)).setCell ⟨P, 5, none⟩ (.int .i64 ld)).setCell ⟨P, 6, none⟩ (.int .i64 ud)) := ⟨_, rfl⟩
      have bp' : Xd.heap[P]? = some (.cells #[.slice rd0 md0 dd0, .int .i64 td, .slice rd2 md2 dd2, .slice rd3 md3 dd3, .slice rd4 md4 dd4, .int .i64 ld, .int .i64 ud] 29 (0, 0)) := by rw [hX]; exact (blk_set (blk_set (blk_set (blk_set (blk_set (blk_set (blk_set bp 0 _) 1 _) 2 _) 3 _) 4 _) 5 _) 6 _)
      have b1' : Xd.heap[w.heap.size + 1]? = some (.cells #[.slice none 0 0, .int .i64 0, .slice none 0 0, .slice none 0 0, .slice none 0 0, .int .i64 0, .int .i64 0] 29 (0, 0)) := by rw [hX]; exact (blk_other (blk_other (blk_other (blk_other (blk_other (blk_other (blk_other b1 (by simp; omega) _) (by simp; omega) _) (by simp; omega) _) (by simp; omega) _) (by simp; omega) _) (by simp; omega) _) (by simp; omega) _)
      have b0' : Xd.heap[w.heap.size]? = some (.cells #[.slice a0 n0 c0, .int .i64 t, .slice a2 n2 c2, .slice a3 n3 c3, .slice a4 n4 c4, .int .i64 la, .int .i64 up] 29 (0, 0)) := by rw [hX]; exact (blk_other (blk_other (blk_other (blk_other (blk_other (blk_other (blk_other b0 (by simp; omega) _) (by simp; omega) _) (by simp; omega) _) (by simp; omega) _) (by simp; omega) _) (by simp; omega) _) (by simp; omega) _)
      have hS : Off (fun b => b = P) wd Xd := by rw [hX]; exact stores_off (F := fun b => b = P) wd P 0 [.slice rd0 md0 dd0, .int .i64 td, .slice rd2 md2 dd2, .slice rd3 md3 dd3, .slice rd4 md4 dd4, .int .i64 ld, .int .i64 ud] rfl
      have zXda : Xd.heap.size ≤ wd.heap.size := by rw [hX]; exact Nat.le_of_eq (stores_size wd P 0 [.slice rd0 md0 dd0, .int .i64 td, .slice rd2 md2 dd2, .slice rd3 md3 dd3, .slice rd4 md4 dd4, .int .i64 ld, .int .i64 ud])
      have zXdb := hS.size
      have BXd : Below w.heap.size w Xd := Bd.trans (hS.belowOf (fun b h => by have h2 : b = P := h; omega) (by omega))
      obtain ⟨FFd, hFFd, hod⟩ : ∃ FF : Nat → Prop, (∀ b, FF b → w.heap.size + 2 ≤ b ∧ b < Xd.heap.size ∧ b ≠ P) ∧ RSink.Own Xd FF [.slice rd0 md0 dd0, .int .i64 td, .slice rd2 md2 dd2, .slice rd3 md3 dd3, .slice rd4 md4 dd4, .int .i64 ld, .int .i64 ud] (sd, td, qd, vd, od, ld, ud) :=
        ⟨_, fun b h => (by rcases h with h | h; have := hFFc _ h; omega; omega), RSink.ownOff hod hS (fun b h e => by have h2 : b = P := e; rcases h with h | h; have := hFFc _ h; omega; omega)⟩
      clear b0 b1 bp hS
      have b0 := b0'
      have b1 := b1'
      have bp := bp'
      clear b0' b1' bp'
      go_upto_region 8 with fail
      rw [← hX]
      clear hX y0 y1 y2 y3 y4 y5 y6 fy0 fy1 fy2 fy3 fy4 fy5 fy6
      have p0 := blk_cell bp 0 (v := .slice rd0 md0 dd0) rfl
      have p1 := blk_cell bp 1 (v := .int .i64 td) rfl
      have p2 := blk_cell bp 2 (v := .slice rd2 md2 dd2) rfl
      have p3 := blk_cell bp 3 (v := .slice rd3 md3 dd3) rfl
      have p4 := blk_cell bp 4 (v := .slice rd4 md4 dd4) rfl
      have p5 := blk_cell bp 5 (v := .int .i64 ld) rfl
      have p6 := blk_cell bp 6 (v := .int .i64 ud) rfl
      have KSe := Hid.mk (again_any 40 cmK PD muK Try.enterCommitD commit_stepD (fun x hp h => cmD_step x hp h) FFd rd0 md0 dd0 rd2 md2 dd2 rd3 md3 dd3 rd4 md4 dd4 td ld ud sd qd vd od Xd HD3'.out (by have q2 : vd.length ≤ 4 := HD3'.out.1; show vd.length ≤ 1000; omega) (fun b h => (hFFd b h).2.1) hod)
      rw [show (itK cmK (muK (sd, td, qd, vd, od, ld, ud)) (sd, td, qd, vd, od, ld, ud)).1 = (se, te, qe, ve, oe, le, ue) from H4E.out] at KSe
      clear hod
      go_wp2_with fail
      refine KSe.out.mono ?_
      rintro e we ⟨re0, me0, de0, re2, me2, de2, re3, me3, de3, re4, me4, de4, rfl, hoe, hOe⟩
      simp only at hoe
      have ze := hOe.size
      have b0 := (hOe.block w.heap.size (by omega) (fun h => by have := hFFd _ h; omega)).trans b0
      have b1 := (hOe.block (w.heap.size + 1) (by omega) (fun h => by have := hFFd _ h; omega)).trans b1
      have bp := (hOe.block P (by omega) (fun h => by have := hFFd _ h; omega)).trans bp
      have Be : Below w.heap.size w we := BXd.trans (hOe.belowOf (fun b h => by have := hFFd _ h; omega) (by omega))
      clear hOe KSe p0 p1 p2 p3 p4 p5 p6
      have y0 := blk_cell bp 0 (v := .slice rd0 md0 dd0) rfl
      have y1 := blk_cell bp 1 (v := .int .i64 td) rfl
      have y2 := blk_cell bp 2 (v := .slice rd2 md2 dd2) rfl
      have y3 := blk_cell bp 3 (v := .slice rd3 md3 dd3) rfl
      have y4 := blk_cell bp 4 (v := .slice rd4 md4 dd4) rfl
      have y5 := blk_cell bp 5 (v := .int .i64 ld) rfl
      have y6 := blk_cell bp 6 (v := .int .i64 ud) rfl
      have fy0 := blk_frozen bp 0
      have fy1 := blk_frozen bp 1
      have fy2 := blk_frozen bp 2
      have fy3 := blk_frozen bp 3
      have fy4 := blk_frozen bp 4
      have fy5 := blk_frozen bp 5
      have fy6 := blk_frozen bp 6
      obtain ⟨Xe, hX⟩ : ∃ u, u = (((((((we.setCell ⟨P, 0, none⟩ (.slice re0 me0 de0)).setCell ⟨P, 1, none⟩ (.int .i64 te)).setCell ⟨P, 2, none⟩ (.slice re2 me2 de2)).setCell ⟨P, 3, none⟩ (.slice re3 me3 de3)).setCell ⟨P, 4, none⟩ (.slice re4 me4 de4)).setCell ⟨P, 5, none⟩ (.int .i64 le)).setCell ⟨P, 6, none⟩ (.int .i64 ue)) := ⟨_, rfl⟩
      have bp' : Xe.heap[P]? = some (.cells #[.slice re0 me0 de0, .int .i64 te, .slice re2 me2 de2, .slice re3 me3 de3, .slice re4 me4 de4, .int .i64 le, .int .i64 ue] 29 (0, 0)) := by rw [hX]; exact (blk_set (blk_set (blk_set (blk_set (blk_set (blk_set (blk_set bp 0 _) 1 _) 2 _) 3 _) 4 _) 5 _) 6 _)
      have b1' : Xe.heap[w.heap.size + 1]? = some (.cells #[.slice none 0 0, .int .i64 0, .slice none 0 0, .slice none 0 0, .slice none 0 0, .int .i64 0, .int .i64 0] 29 (0, 0)) := by rw [hX]; exact (blk_other (blk_other (blk_other (blk_other (blk_other (blk_other (blk_other b1 (by simp; omega) _) (by simp; omega) _) (by simp; omega) _) (by simp; omega) _) (by simp; omega) _) (by simp; omega) _) (by simp; omega) _)
      have b0' : Xe.heap[w.heap.size]? = some (.cells #[.slice a0 n0 c0, .int .i64 t, .slice a2 n2 c2, .slice a3 n3 c3, .slice a4 n4 c4, .int .i64 la, .int .i64 up] 29 (0, 0)) := by rw [hX]; exact (blk_other (blk_other (blk_other (blk_other (blk_other (blk_other (blk_other b0 (by simp; omega) _) (by simp; omega) _) (by simp; omega) _) (by simp; omega) _) (by simp; omega) _) (by simp; omega) _) (by simp; omega) _)
      have hS : Off (fun b => b = P) we Xe := by rw [hX]; exact stores_off (F := fun b => b = P) we P 0 [.slice re0 me0 de0, .int .i64 te, .slice re2 me2 de2, .slice re3 me3 de3, .slice re4 me4 de4, .int .i64 le, .int .i64 ue] rfl
      have zXea : Xe.heap.size ≤ we.heap.size := by rw [hX]; exact Nat.le_of_eq (stores_size we P 0 [.slice re0 me0 de0, .int .i64 te, .slice re2 me2 de2, .slice re3 me3 de3, .slice re4 me4 de4, .int .i64 le, .int .i64 ue])
      have zXeb := hS.size
      have BXe : Below w.heap.size w Xe := Be.trans (hS.belowOf (fun b h => by have h2 : b = P := h; omega) (by omega))
      obtain ⟨FFe, hFFe, hoe⟩ : ∃ FF : Nat → Prop, (∀ b, FF b → w.heap.size + 2 ≤ b ∧ b < Xe.heap.size ∧ b ≠ P) ∧ RSink.Own Xe FF [.slice re0 me0 de0, .int .i64 te, .slice re2 me2 de2, .slice re3 me3 de3, .slice re4 me4 de4, .int .i64 le, .int .i64 ue] (se, te, qe, ve, oe, le, ue) :=
        ⟨_, fun b h => (by rcases h with h | h; have := hFFd _ h; omega; omega), RSink.ownOff hoe hS (fun b h e => by have h2 : b = P := e; rcases h with h | h; have := hFFd _ h; omega; omega)⟩
      clear b0 b1 bp hS
      have b0 := b0'
      have b1 := b1'
      have bp := bp'
      clear b0' b1' bp'
      go_upto_region 9 with fail
      rw [← hX]
      clear hX y0 y1 y2 y3 y4 y5 y6 fy0 fy1 fy2 fy3 fy4 fy5 fy6
      have hme : oe.length = me4 := (RSink.lens hoe).2.2.2.2.2.2.1
      have hwx : IntKind.i64.wrap ((me4 : Int) - (n4 : Int)) = (me4 : Int) - (n4 : Int) := by
        have := HE'.out.1
        (try simp only at this)
        exact IntWalk.i64_in _ (by omega)
      have hxe := HFIN.out
      have hnn := HXN2.out
      rw [hxe] at hnn
      (try simp only at hnn)
      rw [hme] at hnn
      have HXE := Hid.mk hxe
      have HNN := Hid.mk hnn
      have HOE := Hid.mk hoe
      have p0 := blk_cell bp 0 (v := .slice re0 me0 de0) rfl
      have p1 := blk_cell bp 1 (v := .int .i64 te) rfl
      have p2 := blk_cell bp 2 (v := .slice re2 me2 de2) rfl
      have p3 := blk_cell bp 3 (v := .slice re3 me3 de3) rfl
      have p4 := blk_cell bp 4 (v := .slice re4 me4 de4) rfl
      have p5 := blk_cell bp 5 (v := .int .i64 le) rfl
      have p6 := blk_cell bp 6 (v := .int .i64 ue) rfl
      have y0 := blk_cell b1 0 (v := .slice none 0 0) rfl
      have y1 := blk_cell b1 1 (v := .int .i64 0) rfl
      have y2 := blk_cell b1 2 (v := .slice none 0 0) rfl
      have y3 := blk_cell b1 3 (v := .slice none 0 0) rfl
      have y4 := blk_cell b1 4 (v := .slice none 0 0) rfl
      have y5 := blk_cell b1 5 (v := .int .i64 0) rfl
      have y6 := blk_cell b1 6 (v := .int .i64 0) rfl
      have fz0 := blk_frozen b1 0
      have fz1 := blk_frozen b1 1
      have fz2 := blk_frozen b1 2
      have fz3 := blk_frozen b1 3
      have fz4 := blk_frozen b1 4
      have fz5 := blk_frozen b1 5
      have fz6 := blk_frozen b1 6
      have s4 := blk_cell b0 4 (v := .slice a4 n4 c4) rfl
      clear hme hxe hnn hoe
      go_region
      obtain ⟨Y, hY⟩ : ∃ u, u = (stores Xe (w.heap.size + 1) 0 [.slice re0 me0 de0, .int .i64 te, .slice re2 me2 de2, .slice re3 me3 de3, .slice re4 me4 de4, .int .i64 le, .int .i64 ue]).drew := ⟨_, rfl⟩
      have S : Off (fun b => b = w.heap.size + 1) Xe Y := by rw [hY]; exact (stores_off (F := fun b => b = w.heap.size + 1) _ _ _ _ rfl).drew
      have D : Below w.heap.size w Y := BXe.trans (S.belowOf (fun b h => by have h2 : b = w.heap.size + 1 := h; omega) (by omega))
      have R : Hid (SinkRetN (.returned (.tuple #[.agg #[.slice re0 me0 de0, .int .i64 te, .slice re2 me2 de2, .slice re3 me3 de3, .slice re4 me4 de4, .int .i64 le, .int .i64 ue], .int .i64 ((me4 : Int) - (n4 : Int)), .bool true])) Y w.heap.size XN true XX ∧ Below w.heap.size w Y) := Hid.mk (by
        rw [HXE.out, ← HNN.out]
        exact ⟨⟨re0, me0, de0, re2, me2, de2, re3, me3, de3, re4, me4, de4, rfl, RSink.mono (RSink.ownOff HOE.out S (fun b h e => by have h2 : b = w.heap.size + 1 := e; have := hFFe b h; omega)) (fun b h => by have := hFFe b h; have h2 := S.size; exact ⟨by omega, by omega⟩)⟩, D⟩)
      have HY := Hid.mk hY
      clear D S hY b0 b1 bp
      go_wp2
      refine bodyPost_ret (v := .tuple #[.agg #[.slice re0 me0 de0, .int .i64 te, .slice re2 me2 de2, .slice re3 me3 de3, .slice re4 me4 de4, .int .i64 le, .int .i64 ue], .int .i64 ((me4 : Int) - (n4 : Int)), .bool true]) (by simp [results, Try.results22, go_sem, y0, y1, y2, y3, y4, y5, y6]) rfl ?_
      have h := R.out
      rw [HY.out] at h
      exact h

end Go.Proofs.Ytmbjmmnodcebbaa
