/- Contract of spec.CoreOf. -/
import Derived.Test.YtociphdhkjoofaaM24
import Derived.Test.YtociphdhkjoofaaM25
import Derived.Deep.CutRange
import Derived.Deep.CutBlock
namespace Go.Proofs.Ytociphdhkjoofaa
open Go.RowKit

theorem l10Same_good (pha : Option Addr) (phn phc : Nat) (ph : List Int) (pa : Option Addr) (pn pc : Nat) (pz : List Atm) (qha : Option Addr) (qhn qhc : Nat) (qh : List Int) (qa : Option Addr) (qn qc : Nat) (qz : List Atm) (ts : List Int) (w : World)
    (h1 : ph.length = phn) (h2 : phn ≤ 9223372036854775807) (h3 : At w pha ph) (h4 : pz.length = pn) (h5 : pn ≤ 9223372036854775807) (h6 : AtQ w pa pz) (g1 : qh.length = qhn) (g2 : qhn ≤ 9223372036854775807) (g3 : At w qha qh) (g4 : qz.length = qn) (g5 : qn ≤ 9223372036854775807) (g6 : AtQ w qa qz) (hp : gqB ph pz ts = true) (hq : gqB qh qz ts = true) (hl : phn = qhn) :
    Calls Try.prog 32 #[.agg #[.slice pha phn phc, .slice pa pn pc], .agg #[.slice qha qhn qhc, .slice qa qn qc]] w fun e w' => e = .returned (.bool (smV ph pz qh qz ts)) ∧ Below w.heap.size w w' := by
  have hB : icB ph pz qh qz ts = true := by unfold icB; rw [hp, hq, decide_eq_true (by omega)]; rfl
  rw [smV_yes hB]
  exact l10Same_any pha phn phc ph pa pn pc pz qha qhn qhc qh qa qn qc qz w h1 h2 h3 h4 h5 h6 g1 g2 g3 g4 g5 g6 ⟨gq_head hq, gq_in hq⟩ ⟨gq_head hp, gq_in hp⟩ hl (gq_fit hq hp) (gq_fit hp hq)

theorem gq_vars {hs : List Int} {zs : List Atm} {ts : List Int} (h : gqB hs zs ts = true) : ∀ x ∈ zs, x.2.length ≤ 1048576 := by
  have h1 := (gq_parts h).2.2.1
  simp only [qvB, Bool.and_eq_true, decide_eq_true_eq, List.all_eq_true] at h1
  intro x hx
  have h2 := h1.2 x hx
  simp only [aOk, Bool.and_eq_true, decide_eq_true_eq] at h2
  omega
theorem qry_nil {w : World} {F : Nat → Prop} {fa : Option Addr} {fn fc : Nat} {ta : Option Addr} {tn tc : Nat} {x : Qry} (h : RQry.Own w F [.slice fa fn fc, .slice ta tn tc] x) : fa = none → fc = 0 := (RQry.at_iff (RQry.toAt h)).1.2.2.2

set_option maxRecDepth 100000 in
set_option maxHeartbeats 4000000 in
theorem specCoreOf (fa : Option Addr) (fn fc : Nat) (hs : List Int) (aa : Option Addr) (an ac : Nat) (zs : List Atm) (ta : Option Addr) (tn tc : Nat) (ts : List Int) (w : World) (hfz : hs.length = fn) (hfn : fn ≤ 1048576) (hfF : fa = none → fc = 0) (hfa : At w fa hs) (hz : zs.length = an) (han : an ≤ 1048576) (hsm : ∀ x ∈ zs, x.2.length ≤ 1048576) (haa : AtQ w aa zs) (htz : ts.length = tn) (htn : tn ≤ 9223372036854775807) (hta : At w ta ts) :
    Calls Try.prog 7 #[.agg #[.slice fa fn fc, .slice aa an ac], .slice ta tn tc] w fun e w' => QryRet e w' w.heap.size (gqB hs zs ts) (crH hs zs ts) (crZ hs zs ts) ∧ Below w.heap.size w w' := by
  obtain ⟨j0, hj0, hy0, hy1, hy2⟩ := info_parts Try.infoAtom2
  obtain ⟨W, hW⟩ : ∃ W, W = (w.alloc (.cells #[.slice fa fn fc, .slice aa an ac] 29)).alloc (.cells #[.slice none 0 0, .slice none 0 0] 29) := ⟨_, rfl⟩
  have zW : W.heap.size = w.heap.size + 1 + 1 := by rw [hW]; simp
  have B0 : Below w.heap.size w W := by rw [hW]; exact ((Below.refl _ _).alloc (Nat.le_refl _) _).alloc (by simp) _
  have a0 : W.heap[w.heap.size]? = some (.cells #[.slice fa fn fc, .slice aa an ac] 29 (0, 0)) := by rw [hW]; exact blk_alloc (heap_alloc_new w _) _
  have a1 : W.heap[w.heap.size + 1]? = some (.cells #[.slice none 0 0, .slice none 0 0] 29 (0, 0)) := by
    rw [hW]
    have q := heap_alloc_new (w.alloc (.cells #[.slice fa fn fc, .slice aa an ac] 29)) (.cells #[.slice none 0 0, .slice none 0 0] 29)
    simpa only [World.size_alloc] using q
  have q0 : W.cell? ⟨w.heap.size, 0, none⟩ = some (.slice fa fn fc) := blk_cell a0 0 rfl
  have q1 : W.cell? ⟨w.heap.size, 1, none⟩ = some (.slice aa an ac) := blk_cell a0 1 rfl
  have KG := Hid.mk (specGoodQuery fa fn fc hs aa an ac zs ta tn tc ts W hfz (by omega) (At.below hfa B0) hz (by omega) (AtSl.below haa B0) htz htn (At.below hta B0))
  have HFA := Hid.mk (At.below hfa B0)
  have HAA := Hid.mk (AtSl.below haa B0)
  have HTA := Hid.mk (At.below hta B0)
  have HZ := Hid.mk hz
  have HSM := Hid.mk hsm
  have HFZ := Hid.mk hfz
  have HTZ := Hid.mk htz
  have HFF := Hid.mk hfF
  have HZW := Hid.mk zW
  have HA0 := Hid.mk a0
  have HA1 := Hid.mk a1
  have HB0 := Hid.mk B0
  have zlW : w.heap.size + 1 < W.heap.size := by omega
  clear hfa haa hta hz hsm hfz htz hfF zW a0 a1 B0
  go_enter Try.func7, Try.ntmps7
  go_upto_region 1 with fail
  rw [← hW]
  clear hW
  go_wp2_with fail
  refine KG.out.mono ?_
  rintro e w1 ⟨rfl, hb1⟩
  clear KG
  have rb1 : w1.heap[w.heap.size + 1]? = some (.cells #[.slice none 0 0, .slice none 0 0] 29 (0, 0)) := blk_below HA1.out hb1
  cases hg : gqB hs zs ts with
  | false =>
    have y0 : w1.cell? ⟨w.heap.size + 1, 0, none⟩ = some (.slice none 0 0) := blk_cell rb1 0 rfl
    have y1 : w1.cell? ⟨w.heap.size + 1, 1, none⟩ = some (.slice none 0 0) := blk_cell rb1 1 rfl
    have f0 := blk_frozen rb1 0
    have f1 := blk_frozen rb1 1
    obtain ⟨Y, hY⟩ : ∃ Y, Y = (w1.setCell ⟨w.heap.size + 1, 0, none⟩ (.slice none 0 0)).setCell ⟨w.heap.size + 1, 1, none⟩ (.slice none 0 0) := ⟨_, rfl⟩
    have g0 : Y.cell? ⟨w.heap.size + 1, 0, none⟩ = some (.slice none 0 0) := by rw [hY]; exact blk_cell (blk_set (blk_set rb1 0 _) 1 _) 0 rfl
    have g1 : Y.cell? ⟨w.heap.size + 1, 1, none⟩ = some (.slice none 0 0) := by rw [hY]; exact blk_cell (blk_set (blk_set rb1 0 _) 1 _) 1 rfl
    have HR : Hid (QryRet (.returned (.tuple #[.agg #[.slice none 0 0, .slice none 0 0], .bool false])) Y w.heap.size (gqB hs zs ts) (crH hs zs ts) (crZ hs zs ts)) := Hid.mk (by
      rw [hg, show crH hs zs ts = [] by unfold crH; rw [hg]; rfl, show crZ hs zs ts = [] by unfold crZ; rw [hg]; rfl]
      exact ⟨none, 0, 0, none, 0, 0, rfl, RQry.own_mk (F1 := fun _ => False) (F2 := fun _ => False) ⟨none, 0, 0, [], fun _ _ => False, rfl, Laid.none _ _ _ _⟩ ⟨none, 0, 0, [], fun _ _ => False, rfl, Laid.none _ _ _ _⟩ (fun _ h => h.elim) (fun _ h => h.elim) (fun _ h => h.elim)⟩)
    have HBY : Hid (Below w.heap.size w Y) := Hid.mk (by
      rw [hY]
      exact ((HB0.out.trans (hb1.mono HB0.out.size)).setCell (p := ⟨w.heap.size + 1, 0, none⟩) (by show w.heap.size ≤ w.heap.size + 1; omega) _).setCell (p := ⟨w.heap.size + 1, 1, none⟩) (by show w.heap.size ≤ w.heap.size + 1; omega) _)
    clear rb1
    go_wp2
    rw [← hY]
    clear hY
    refine bodyPost_ret (v := .tuple #[.agg #[.slice none 0 0, .slice none 0 0], .bool false]) (by simp [results, Try.results7, go_sem, g0, g1]) rfl ⟨HR.out, HBY.out⟩
  | true =>
  have q0 := cell_later hb1 q0
  have q1 := cell_later hb1 q1
  have KC := Hid.mk (l10Own_any fa fn fc hs aa an ac zs w1 HFZ.out hfn HFF.out (At.below HFA.out hb1) HZ.out han HSM.out (AtSl.below HAA.out hb1))
  have HG := Hid.mk hg
  have HB1 := Hid.mk hb1
  have HT1 := Hid.mk (At.below HTA.out hb1)
  obtain ⟨B, hB⟩ : ∃ B, w1.heap.size = B := ⟨_, rfl⟩
  have hB1 : W.heap.size ≤ B := by rw [← hB]; exact hb1.size
  have HRB : Hid (w1.heap[w.heap.size + 1]? = some (.cells #[.slice none 0 0, .slice none 0 0] 29 (0, 0))) := Hid.mk rb1
  have HBB := Hid.mk hB
  clear hg hb1 rb1 hB
  go_wp2_with fail
  refine KC.out.mono ?_
  rintro e w2 ⟨r, d, r0, d0, rfl, ho2, hb2⟩
  obtain ⟨P, hP⟩ : ∃ P, w2.heap.size = P := ⟨_, rfl⟩
  obtain ⟨V, hV⟩ : ∃ V, V = w2.alloc (.cells #[.slice r fn d, .slice r0 an d0] 29) := ⟨_, rfl⟩
  have hBP : B ≤ P := by rw [← hP, ← HBB.out]; exact hb2.size
  have hbV : Below w2.heap.size w2 V := by rw [hV]; exact (Below.refl _ _).alloc (Nat.le_refl _) _
  have hC0 : CVar V P B hs r fn d zs r0 an d0 := ⟨by rw [hV, ← hP]; exact heap_alloc_new w2 _, RQry.mono (RQry.ownBelow ho2 hbV) (fun b hb => by
    have h1 := hb.1
    have h2 := hb.2
    have h3 := hbV.size
    rw [HBB.out] at h1
    exact ⟨h1, by omega, by omega⟩), hBP⟩
  have HC0 := Hid.mk hC0
  have HBV : Hid (Below B w1 V) := Hid.mk (by
    have h9 := hb2.trans (hbV.mono hb2.size)
    rw [HBB.out] at h9
    exact h9)
  clear KC ho2 hb2 hbV hC0 q0 q1
  go_upto_region 4 with fail
  rw [← hV]
  clear hV
  (try rw [hP])
  clear hP
  go_wp2_with fail
  go_loopw [7] (fun q wr => ∃ (i m : Nat) (r : Option Addr) (d : Nat) (r' : Option Addr) (d' : Nat) (zs' : List Atm), i ≤ m ∧ q = .int .i64 i ∧ CVar wr P B hs r fn d zs' r' m d' ∧ coreF hs ts zs.length zs 0 = coreF hs ts (m - i) zs' i ∧ gqB hs zs' ts = true ∧ Below B w1 wr) (fun q wr => lenC wr P - (intOf q).toNat)
  case atStart => exact ⟨0, an, r, d, r0, d0, zs, Nat.zero_le _, rfl, HC0.out, by rw [HZ.out]; rfl, HG.out, HBV.out⟩
  case round =>
    clear HC0 HBV
    obtain ⟨i, m, r, d, r', d', zs', him, rfl, hC, hcore, hgz, hbw⟩ := hrel
    obtain ⟨wY, rfl⟩ : ∃ x, x = wr := ⟨_, rfl⟩
    have hLC := hC.lenC
    have x0 := hC.cell0
    have x1 := hC.cell1
    have hzl := hC.cut.1
    have hm5 : m ≤ 5 := by rw [← hzl]; exact gq_five hgz
    by_cases hlt : i < m
    · have hii : (i : Int) < (m : Int) := by omega
      have hC' := hC
      have KO := Hid.mk (l10Own_any r fn d hs r' m d' zs' wY HFZ.out hfn (qry_nil hC.own) (qry_at hC.own).1 hzl (by omega) (gq_vars hgz) (qry_at hC.own).2)
      have HC := Hid.mk hC
      have HCR := Hid.mk hcore
      have HGZ := Hid.mk hgz
      have HBW := Hid.mk hbw
      have HLC := Hid.mk hLC
      have HZL := Hid.mk hzl
      have hPw : P < wY.heap.size := hC'.size
      clear hC hC' hcore hgz hbw hLC hzl
      go_wp2_with fail
      refine KO.out.mono ?_
      rintro e w6 ⟨r2, d2, r3, d3, rfl, ho6, hb6⟩
      obtain ⟨Q, hQ⟩ : ∃ Q, w6.heap.size = Q := ⟨_, rfl⟩
      obtain ⟨U, hU⟩ : ∃ U, U = w6.alloc (.cells #[.slice r2 fn d2, .slice r3 m d3] 29) := ⟨_, rfl⟩
      have hbU : Below w6.heap.size w6 U := by rw [hU]; exact (Below.refl _ _).alloc (Nat.le_refl _) _
      have hNQ : wY.heap.size ≤ Q := by rw [← hQ]; exact hb6.size
      have hL : CVar U Q wY.heap.size hs r2 fn d2 zs' r3 m d3 := ⟨by rw [hU, ← hQ]; exact heap_alloc_new w6 _, RQry.mono (RQry.ownBelow ho6 hbU) (fun b hb => by
        have h1 := hb.1
        have h2 := hb.2
        have h3 := hbU.size
        exact ⟨h1, by omega, by omega⟩), hNQ⟩
      have hbYU : Below wY.heap.size wY U := hb6.trans (hbU.mono hb6.size)
      obtain ⟨g, hg'⟩ : ∃ g, r3 = some ⟨g, 0, none⟩ := by
        obtain ⟨_, _, cells, hoc, _⟩ := hL.cut
        rcases hoc.2 with ⟨_, h1⟩ | ⟨g, cap, cur, hv, _⟩
        · omega
        · simp only [Value.slice.injEq, true_and] at hv; exact ⟨g, hv.1⟩
      subst hg'
      obtain ⟨_, cells, hoc, hone, hcut⟩ := hL.cutIn
      have hmc : m ≤ d3 := by
        rcases hoc.2 with ⟨_, h1⟩ | ⟨g, cap, cur, hv, _, _, h1, _⟩
        · omega
        · simp only [Value.slice.injEq, true_and] at hv; omega
      obtain ⟨q, hq⟩ : ∃ q, i + 1 = q := ⟨_, rfl⟩
      have hwq : IntKind.i64.wrap ((i : Int) + 1) = (q : Int) := by rw [IntWalk.i64_in _ (by omega)]; omega
      have hqm : q ≤ m := by omega
      have hqc : q ≤ d3 := by omega
      have hid : i ≤ d3 := by omega
      have him' : i ≤ m := by omega
      obtain ⟨M1, hM1⟩ : ∃ M1, m - 1 = M1 := ⟨_, rfl⟩
      have hgl : g < U.heap.size := (hoc.lt g rfl).2
      have hgN : wY.heap.size ≤ g := (hoc.lt g rfl).1
      have hgQ : g ≠ Q := fun e => blk_not_ownQ hL.blk (by decide) hoc (by rw [← e]; rfl)
      have HHB := Hid.mk hL.blk
      have hcl : cells.length = m * 2 := hoc.1
      have HTK := Hid.mk (owns_take hoc him')
      have HDL : Hid ((cells.drop (q * 2)).length = (m - q) * 2) := Hid.mk (by rw [List.length_drop, hcl]; omega)
      have HVD : Hid (∀ ad, some (⟨g, q * 2, none⟩ : Addr) = some ad → ∀ (j : Nat) (u : Value), (cells.drop (q * 2))[j]? = some u → U.cell? (ad.add j) = some u) := Hid.mk (fun ad e j u hu => by
        cases e
        exact vals_drop (owns_mono hoc (Nat.zero_le _)) _ j u hu)
      have HON : Hid (∀ u ∈ cells.drop (q * 2), u.oneCell' = true) := Hid.mk (fun u hu => hone u (List.mem_of_mem_drop hu))
      have HCUT : Hid (∀ (w' : World) (rn : Option Addr) (dn : Nat), U.drew.grownBy w' (some g) → w'.ownsRow wY.heap.size 58 2 (.slice rn M1 dn) M1 (cells.take (i * 2) ++ cells.drop (q * 2)) → ((Value.slice rn M1 dn).ownBlock = some g ∨ (Value.slice rn M1 dn).ownBlock = some U.heap.size) → RQry.Own w' (Bk wY.heap.size Q w') [.slice r2 fn d2, .slice rn M1 dn] (hs, zs'.eraseIdx i)) := Hid.mk (fun w' rn dn hg ho ht => by
        rw [← hM1] at ho ht ⊢
        exact hcut i w' rn dn hlt ⟨hg.os, hg.tape, hg.output, hg.size, hg.block⟩ (by unfold cutC; rw [hq]; exact ho) ht)
      have HM1 := Hid.mk hM1
      have HYU := Hid.mk hbYU
      obtain ⟨LT, hLT⟩ : ∃ LT, cells.take (i * 2) = LT := ⟨_, rfl⟩
      obtain ⟨LD, hLD⟩ : ∃ LD, cells.drop (q * 2) = LD := ⟨_, rfl⟩
      rw [hLT] at HTK HCUT
      rw [hLD] at HDL HVD HON HCUT
      have HMQ : Hid (i + (m - q) = M1) := Hid.mk (by omega)
      clear ho6 hb6 hbU hL hoc hone hcut hM1 hcl hbYU KO hLT hLD
      go_upto_region 7 with fail
      rw [← hU]
      clear hU
      (try rw [hQ])
      clear hQ
      go_cut [8] from 21 to 44 (fun t8 wx => ∃ (rn : Option Addr) (dn : Nat), t8 = .pointer (some ⟨Q, 0, none⟩) ∧ wx.heap[Q]? = some (.cells #[.slice r2 fn d2, .slice rn M1 dn] 29 (0, 0)) ∧ RQry.Own wx (Bk B P wx) [.slice r2 fn d2, .slice rn M1 dn] (hs, zs'.eraseIdx i) ∧ Below wY.heap.size wY wx)
      case first =>
        have pb : U.drew.heap[Q]? = some (.cells #[.slice r2 fn d2, .slice (some ⟨g, 0, none⟩) m d3] 29 (0, 0)) := HHB.out
        have hQU : Q < U.drew.heap.size := (Array.getElem?_eq_some_iff.1 pb).1
        have HTK : Hid (U.drew.ownsRow wY.heap.size 58 2 (.slice (some ⟨g, 0, none⟩) i d3) i LT) := Hid.mk (owns_below HTK.out (Below.refl _ _).drew)
        have hBN : B ≤ wY.heap.size := by have := HC.out.lt; omega
        by_cases hdq : d3 = q
        · have hmq : m = q := by omega
          have HL0 : Hid (LD = []) := Hid.mk (List.eq_nil_of_length_eq_zero (by rw [HDL.out, hmq]; simp))
          have HM0 : Hid (i + 0 = M1) := Hid.mk (by have := HMQ.out; omega)
          have hdq' : q = d3 := hdq.symm
          subst hdq
          clear hmq
          refine wp_region_held_drew (S := fun w' => True) (by kernel_rfl) ?_ (fun hHeld => ?_)
          · (try dsimp only)
            (try trivial)
          refine tk 0 ?_
          refine tk 2 ?_
          refine tk 4 ?_
          refine tk 6 ?_
          refine tk 7 ?_
          have qs1 := blk_cell (v := .slice (some ⟨g, 0, none⟩) m d3) pb 1 rfl
          have qs1 := blk_cell (v := .slice (some ⟨g, 0, none⟩) m d3) pb 1 rfl
          refine wpAnyH_ready (rs := [1, 5]) (by kernel_rfl) (by simp) ?_
          refine AllReadyH.cons (o := ?_) ?_ (fun K hK => ?_) ?_
          rotate_left
          · (simp only [List.getElem?_toArray, List.getElem?_cons_zero, List.getElem?_cons_succ]; rfl)
          · go_simp
            (try go_wp2_with fail)
            refine hK.out _ _ ?_ (fun hHeld' => ?_)
            · (try dsimp only)
              (try trivial)
            clear hK K hHeld
            have hHeld := hHeld'
            clear hHeld'
            (try simp only [Act.put, List.setIfInBounds_toArray, List.set_cons_zero, List.set_cons_succ])
            refine tk 3 ?_
            have qs1 := blk_cell (v := .slice (some ⟨g, 0, none⟩) m d3) pb 1 rfl
            refine wpAnyH_ready (rs := [5]) (by kernel_rfl) (by simp) ?_
            refine AllReadyH.cons (o := ?_) ?_ (fun K hK => ?_) AllReadyH.nil
            rotate_left
            · (simp only [List.getElem?_toArray, List.getElem?_cons_zero, List.getElem?_cons_succ]; rfl)
            go_simp
            (try go_wp2_with fail)
            refine hK.out _ _ ?_ (fun hHeld' => ?_)
            · (try dsimp only)
              (try trivial)
            clear hK K hHeld
            have hHeld := hHeld'
            clear hHeld'
            (try simp only [Act.put, List.setIfInBounds_toArray, List.set_cons_zero, List.set_cons_succ])
            refine tk 8 ?_
            refine wpAnyH_ready (rs := [9]) (by kernel_rfl) (by simp) ?_
            refine AllReadyH.cons (o := ?_) ?_ (fun K hK => ?_) AllReadyH.nil
            rotate_left
            · (simp only [List.getElem?_toArray, List.getElem?_cons_zero, List.getElem?_cons_succ]; rfl)
            refine step_append_vals rfl (.tmp 26) (.tmp 31) 27 rfl wY.heap.size 58 j0 (.agg #[.int .i64 0, .slice none 0 0]) 2 32 Try.underlying27 hj0 hy0 hy1 hy2 rfl (by decide) (.slice (some ⟨g, 0, none⟩) i d3) i LT (by simp [Act.eval]) HTK.out (some ⟨g, 0, none⟩) 0 (0) [] (by simp [Act.eval]) rfl (fun ad e j u hu => by simp at hu) (fun u hu => by simp at hu) (fun h => by cases h) (by unfold maxLen; omega) (by omega) HYU.out.size (fun r5 d5 wk3 ho5 hg5 ht5 => ?_)
            rw [HM0.out] at ho5 ht5 ⊢
            have HBk3 : Below wY.heap.size wY wk3 := HYU.out.drew.grown hg5 HYU.out.size (fun j hj => by simp [Value.ownBlock] at hj; omega)
            have pb := (hg5.block Q hQU (fun e => by simp [Value.ownBlock] at e; omega)).trans pb
            have HOX : Hid (wk3.ownsRow wY.heap.size 58 2 (.slice r5 M1 d5) M1 (LT ++ LD)) := Hid.mk (by rw [HL0.out]; exact ho5)
            have HGX : Hid (U.drew.grownBy wk3 (some g)) := Hid.mk hg5
            have HTX : Hid ((Value.slice r5 M1 d5).ownBlock = some g ∨ (Value.slice r5 M1 d5).ownBlock = some U.heap.size) := Hid.mk ht5
            clear ho5 hg5 ht5
            refine hK.out _ _ ?_ (fun hHeld' => ?_)
            · (try dsimp only)
              (try trivial)
            clear hK K hHeld
            have hHeld := hHeld'
            clear hHeld'
            (try simp only [Act.put, List.setIfInBounds_toArray, List.set_cons_zero, List.set_cons_succ])
            refine tk 10 ?_
            have qs0 := blk_cell pb 0 rfl
            have qs1 := blk_cell pb 1 rfl
            have fs0 := blk_frozen pb 0
            have fs1 := blk_frozen pb 1
            refine wpAnyH_ready (rs := [11]) (by kernel_rfl) (by simp) ?_
            refine AllReadyH.cons (o := ?_) ?_ (fun K hK => ?_) AllReadyH.nil
            rotate_left
            · (simp only [List.getElem?_toArray, List.getElem?_cons_zero, List.getElem?_cons_succ]; rfl)
            go_simp
            (try go_wp2_with fail)
            refine hK.out _ _ ?_ (fun hHeld' => ?_)
            · (try dsimp only)
              (try trivial)
            clear hK K hHeld
            have hHeld := hHeld'
            clear hHeld'
            (try simp only [Act.put, List.setIfInBounds_toArray, List.set_cons_zero, List.set_cons_succ])
            refine wpAnyH_done (by kernel_rfl) ?_ _
            (try go_wp2_with fail)
            go_meet
            case rel =>
              have hxs : (wk3.setCell ⟨Q, 1, none⟩ (.slice r5 M1 d5)).heap.size = wk3.heap.size := by simp [World.setCell]
              refine ⟨r5, d5, rfl, blk_set pb 1 _, RQry.mono (RQry.frame (HCUT.out _ r5 d5 HGX.out HOX.out HTX.out) (fun b hb _ => Below.heap_setCell _ _ _ b (by have := hb.2.2; simpa using this))) (fun b hb => ⟨Nat.le_trans hBN hb.1, by rw [hxs]; exact hb.2.1, by have := hb.1; omega⟩), HBk3.setCell (p := ⟨Q, 1, none⟩) hNQ _⟩
          refine AllReadyH.cons (o := ?_) ?_ (fun K hK => ?_) AllReadyH.nil
          rotate_left
          · (simp only [List.getElem?_toArray, List.getElem?_cons_zero, List.getElem?_cons_succ]; rfl)
          · go_simp
            (try go_wp2_with fail)
            refine hK.out _ _ ?_ (fun hHeld' => ?_)
            · (try dsimp only)
              (try trivial)
            clear hK K hHeld
            have hHeld := hHeld'
            clear hHeld'
            (try simp only [Act.put, List.setIfInBounds_toArray, List.set_cons_zero, List.set_cons_succ])
            refine tk 8 ?_
            have qs1 := blk_cell (v := .slice (some ⟨g, 0, none⟩) m d3) pb 1 rfl
            refine wpAnyH_ready (rs := [1]) (by kernel_rfl) (by simp) ?_
            refine AllReadyH.cons (o := ?_) ?_ (fun K hK => ?_) AllReadyH.nil
            rotate_left
            · (simp only [List.getElem?_toArray, List.getElem?_cons_zero, List.getElem?_cons_succ]; rfl)
            go_simp
            (try go_wp2_with fail)
            refine hK.out _ _ ?_ (fun hHeld' => ?_)
            · (try dsimp only)
              (try trivial)
            clear hK K hHeld
            have hHeld := hHeld'
            clear hHeld'
            (try simp only [Act.put, List.setIfInBounds_toArray, List.set_cons_zero, List.set_cons_succ])
            refine tk 3 ?_
            refine wpAnyH_ready (rs := [9]) (by kernel_rfl) (by simp) ?_
            refine AllReadyH.cons (o := ?_) ?_ (fun K hK => ?_) AllReadyH.nil
            rotate_left
            · (simp only [List.getElem?_toArray, List.getElem?_cons_zero, List.getElem?_cons_succ]; rfl)
            refine step_append_vals rfl (.tmp 26) (.tmp 31) 27 rfl wY.heap.size 58 j0 (.agg #[.int .i64 0, .slice none 0 0]) 2 32 Try.underlying27 hj0 hy0 hy1 hy2 rfl (by decide) (.slice (some ⟨g, 0, none⟩) i d3) i LT (by simp [Act.eval]) HTK.out (some ⟨g, 0, none⟩) 0 (0) [] (by simp [Act.eval]) rfl (fun ad e j u hu => by simp at hu) (fun u hu => by simp at hu) (fun h => by cases h) (by unfold maxLen; omega) (by omega) HYU.out.size (fun r5 d5 wk7 ho5 hg5 ht5 => ?_)
            rw [HM0.out] at ho5 ht5 ⊢
            have HBk7 : Below wY.heap.size wY wk7 := HYU.out.drew.grown hg5 HYU.out.size (fun j hj => by simp [Value.ownBlock] at hj; omega)
            have pb := (hg5.block Q hQU (fun e => by simp [Value.ownBlock] at e; omega)).trans pb
            have HOX : Hid (wk7.ownsRow wY.heap.size 58 2 (.slice r5 M1 d5) M1 (LT ++ LD)) := Hid.mk (by rw [HL0.out]; exact ho5)
            have HGX : Hid (U.drew.grownBy wk7 (some g)) := Hid.mk hg5
            have HTX : Hid ((Value.slice r5 M1 d5).ownBlock = some g ∨ (Value.slice r5 M1 d5).ownBlock = some U.heap.size) := Hid.mk ht5
            clear ho5 hg5 ht5
            refine hK.out _ _ ?_ (fun hHeld' => ?_)
            · (try dsimp only)
              (try trivial)
            clear hK K hHeld
            have hHeld := hHeld'
            clear hHeld'
            (try simp only [Act.put, List.setIfInBounds_toArray, List.set_cons_zero, List.set_cons_succ])
            refine tk 10 ?_
            have qs0 := blk_cell pb 0 rfl
            have qs1 := blk_cell pb 1 rfl
            have fs0 := blk_frozen pb 0
            have fs1 := blk_frozen pb 1
            refine wpAnyH_ready (rs := [11]) (by kernel_rfl) (by simp) ?_
            refine AllReadyH.cons (o := ?_) ?_ (fun K hK => ?_) AllReadyH.nil
            rotate_left
            · (simp only [List.getElem?_toArray, List.getElem?_cons_zero, List.getElem?_cons_succ]; rfl)
            go_simp
            (try go_wp2_with fail)
            refine hK.out _ _ ?_ (fun hHeld' => ?_)
            · (try dsimp only)
              (try trivial)
            clear hK K hHeld
            have hHeld := hHeld'
            clear hHeld'
            (try simp only [Act.put, List.setIfInBounds_toArray, List.set_cons_zero, List.set_cons_succ])
            refine wpAnyH_done (by kernel_rfl) ?_ _
            (try go_wp2_with fail)
            go_meet
            case rel =>
              have hxs : (wk7.setCell ⟨Q, 1, none⟩ (.slice r5 M1 d5)).heap.size = wk7.heap.size := by simp [World.setCell]
              refine ⟨r5, d5, rfl, blk_set pb 1 _, RQry.mono (RQry.frame (HCUT.out _ r5 d5 HGX.out HOX.out HTX.out) (fun b hb _ => Below.heap_setCell _ _ _ b (by have := hb.2.2; simpa using this))) (fun b hb => ⟨Nat.le_trans hBN hb.1, by rw [hxs]; exact hb.2.1, by have := hb.1; omega⟩), HBk7.setCell (p := ⟨Q, 1, none⟩) hNQ _⟩
        · have hdq' : ¬ q = d3 := fun e => hdq e.symm
          refine wp_region_held_drew (S := fun w' => True) (by kernel_rfl) ?_ (fun hHeld => ?_)
          · (try dsimp only)
            (try trivial)
          refine tk 0 ?_
          refine tk 2 ?_
          refine tk 4 ?_
          refine tk 6 ?_
          refine tk 7 ?_
          have qs1 := blk_cell (v := .slice (some ⟨g, 0, none⟩) m d3) pb 1 rfl
          have qs1 := blk_cell (v := .slice (some ⟨g, 0, none⟩) m d3) pb 1 rfl
          refine wpAnyH_ready (rs := [1, 5]) (by kernel_rfl) (by simp) ?_
          refine AllReadyH.cons (o := ?_) ?_ (fun K hK => ?_) ?_
          rotate_left
          · (simp only [List.getElem?_toArray, List.getElem?_cons_zero, List.getElem?_cons_succ]; rfl)
          · go_simp
            (try go_wp2_with fail)
            refine hK.out _ _ ?_ (fun hHeld' => ?_)
            · (try dsimp only)
              (try trivial)
            clear hK K hHeld
            have hHeld := hHeld'
            clear hHeld'
            (try simp only [Act.put, List.setIfInBounds_toArray, List.set_cons_zero, List.set_cons_succ])
            refine tk 3 ?_
            have qs1 := blk_cell (v := .slice (some ⟨g, 0, none⟩) m d3) pb 1 rfl
            refine wpAnyH_ready (rs := [5]) (by kernel_rfl) (by simp) ?_
            refine AllReadyH.cons (o := ?_) ?_ (fun K hK => ?_) AllReadyH.nil
            rotate_left
            · (simp only [List.getElem?_toArray, List.getElem?_cons_zero, List.getElem?_cons_succ]; rfl)
            go_simp
            (try go_wp2_with fail)
            refine hK.out _ _ ?_ (fun hHeld' => ?_)
            · (try dsimp only)
              (try trivial)
            clear hK K hHeld
            have hHeld := hHeld'
            clear hHeld'
            (try simp only [Act.put, List.setIfInBounds_toArray, List.set_cons_zero, List.set_cons_succ])
            refine tk 8 ?_
            refine wpAnyH_ready (rs := [9]) (by kernel_rfl) (by simp) ?_
            refine AllReadyH.cons (o := ?_) ?_ (fun K hK => ?_) AllReadyH.nil
            rotate_left
            · (simp only [List.getElem?_toArray, List.getElem?_cons_zero, List.getElem?_cons_succ]; rfl)
            refine step_append_vals rfl (.tmp 26) (.tmp 31) 27 rfl wY.heap.size 58 j0 (.agg #[.int .i64 0, .slice none 0 0]) 2 32 Try.underlying27 hj0 hy0 hy1 hy2 rfl (by decide) (.slice (some ⟨g, 0, none⟩) i d3) i LT (by simp [Act.eval]) HTK.out (some ⟨g, q * 2, none⟩) (m - q) (d3 - q) LD (by simp [Act.eval]) HDL.out (HVD.out) HON.out (fun h => by cases h) (by unfold maxLen; omega) (by omega) HYU.out.size (fun r5 d5 wk3 ho5 hg5 ht5 => ?_)
            rw [HMQ.out] at ho5 ht5 ⊢
            have HBk3 : Below wY.heap.size wY wk3 := HYU.out.drew.grown hg5 HYU.out.size (fun j hj => by simp [Value.ownBlock] at hj; omega)
            have pb := (hg5.block Q hQU (fun e => by simp [Value.ownBlock] at e; omega)).trans pb
            have HOX : Hid (wk3.ownsRow wY.heap.size 58 2 (.slice r5 M1 d5) M1 (LT ++ LD)) := Hid.mk (ho5)
            have HGX : Hid (U.drew.grownBy wk3 (some g)) := Hid.mk hg5
            have HTX : Hid ((Value.slice r5 M1 d5).ownBlock = some g ∨ (Value.slice r5 M1 d5).ownBlock = some U.heap.size) := Hid.mk ht5
            clear ho5 hg5 ht5
            refine hK.out _ _ ?_ (fun hHeld' => ?_)
            · (try dsimp only)
              (try trivial)
            clear hK K hHeld
            have hHeld := hHeld'
            clear hHeld'
            (try simp only [Act.put, List.setIfInBounds_toArray, List.set_cons_zero, List.set_cons_succ])
            refine tk 10 ?_
            have qs0 := blk_cell pb 0 rfl
            have qs1 := blk_cell pb 1 rfl
            have fs0 := blk_frozen pb 0
            have fs1 := blk_frozen pb 1
            refine wpAnyH_ready (rs := [11]) (by kernel_rfl) (by simp) ?_
            refine AllReadyH.cons (o := ?_) ?_ (fun K hK => ?_) AllReadyH.nil
            rotate_left
            · (simp only [List.getElem?_toArray, List.getElem?_cons_zero, List.getElem?_cons_succ]; rfl)
            go_simp
            (try go_wp2_with fail)
            refine hK.out _ _ ?_ (fun hHeld' => ?_)
            · (try dsimp only)
              (try trivial)
            clear hK K hHeld
            have hHeld := hHeld'
            clear hHeld'
            (try simp only [Act.put, List.setIfInBounds_toArray, List.set_cons_zero, List.set_cons_succ])
            refine wpAnyH_done (by kernel_rfl) ?_ _
            (try go_wp2_with fail)
            go_meet
            case rel =>
              have hxs : (wk3.setCell ⟨Q, 1, none⟩ (.slice r5 M1 d5)).heap.size = wk3.heap.size := by simp [World.setCell]
              refine ⟨r5, d5, rfl, blk_set pb 1 _, RQry.mono (RQry.frame (HCUT.out _ r5 d5 HGX.out HOX.out HTX.out) (fun b hb _ => Below.heap_setCell _ _ _ b (by have := hb.2.2; simpa using this))) (fun b hb => ⟨Nat.le_trans hBN hb.1, by rw [hxs]; exact hb.2.1, by have := hb.1; omega⟩), HBk3.setCell (p := ⟨Q, 1, none⟩) hNQ _⟩
          refine AllReadyH.cons (o := ?_) ?_ (fun K hK => ?_) AllReadyH.nil
          rotate_left
          · (simp only [List.getElem?_toArray, List.getElem?_cons_zero, List.getElem?_cons_succ]; rfl)
          · go_simp
            (try go_wp2_with fail)
            refine hK.out _ _ ?_ (fun hHeld' => ?_)
            · (try dsimp only)
              (try trivial)
            clear hK K hHeld
            have hHeld := hHeld'
            clear hHeld'
            (try simp only [Act.put, List.setIfInBounds_toArray, List.set_cons_zero, List.set_cons_succ])
            refine tk 8 ?_
            have qs1 := blk_cell (v := .slice (some ⟨g, 0, none⟩) m d3) pb 1 rfl
            refine wpAnyH_ready (rs := [1]) (by kernel_rfl) (by simp) ?_
            refine AllReadyH.cons (o := ?_) ?_ (fun K hK => ?_) AllReadyH.nil
            rotate_left
            · (simp only [List.getElem?_toArray, List.getElem?_cons_zero, List.getElem?_cons_succ]; rfl)
            go_simp
            (try go_wp2_with fail)
            refine hK.out _ _ ?_ (fun hHeld' => ?_)
            · (try dsimp only)
              (try trivial)
            clear hK K hHeld
            have hHeld := hHeld'
            clear hHeld'
            (try simp only [Act.put, List.setIfInBounds_toArray, List.set_cons_zero, List.set_cons_succ])
            refine tk 3 ?_
            refine wpAnyH_ready (rs := [9]) (by kernel_rfl) (by simp) ?_
            refine AllReadyH.cons (o := ?_) ?_ (fun K hK => ?_) AllReadyH.nil
            rotate_left
            · (simp only [List.getElem?_toArray, List.getElem?_cons_zero, List.getElem?_cons_succ]; rfl)
            refine step_append_vals rfl (.tmp 26) (.tmp 31) 27 rfl wY.heap.size 58 j0 (.agg #[.int .i64 0, .slice none 0 0]) 2 32 Try.underlying27 hj0 hy0 hy1 hy2 rfl (by decide) (.slice (some ⟨g, 0, none⟩) i d3) i LT (by simp [Act.eval]) HTK.out (some ⟨g, q * 2, none⟩) (m - q) (d3 - q) LD (by simp [Act.eval]) HDL.out (HVD.out) HON.out (fun h => by cases h) (by unfold maxLen; omega) (by omega) HYU.out.size (fun r5 d5 wk7 ho5 hg5 ht5 => ?_)
            rw [HMQ.out] at ho5 ht5 ⊢
            have HBk7 : Below wY.heap.size wY wk7 := HYU.out.drew.grown hg5 HYU.out.size (fun j hj => by simp [Value.ownBlock] at hj; omega)
            have pb := (hg5.block Q hQU (fun e => by simp [Value.ownBlock] at e; omega)).trans pb
            have HOX : Hid (wk7.ownsRow wY.heap.size 58 2 (.slice r5 M1 d5) M1 (LT ++ LD)) := Hid.mk (ho5)
            have HGX : Hid (U.drew.grownBy wk7 (some g)) := Hid.mk hg5
            have HTX : Hid ((Value.slice r5 M1 d5).ownBlock = some g ∨ (Value.slice r5 M1 d5).ownBlock = some U.heap.size) := Hid.mk ht5
            clear ho5 hg5 ht5
            refine hK.out _ _ ?_ (fun hHeld' => ?_)
            · (try dsimp only)
              (try trivial)
            clear hK K hHeld
            have hHeld := hHeld'
            clear hHeld'
            (try simp only [Act.put, List.setIfInBounds_toArray, List.set_cons_zero, List.set_cons_succ])
            refine tk 10 ?_
            have qs0 := blk_cell pb 0 rfl
            have qs1 := blk_cell pb 1 rfl
            have fs0 := blk_frozen pb 0
            have fs1 := blk_frozen pb 1
            refine wpAnyH_ready (rs := [11]) (by kernel_rfl) (by simp) ?_
            refine AllReadyH.cons (o := ?_) ?_ (fun K hK => ?_) AllReadyH.nil
            rotate_left
            · (simp only [List.getElem?_toArray, List.getElem?_cons_zero, List.getElem?_cons_succ]; rfl)
            go_simp
            (try go_wp2_with fail)
            refine hK.out _ _ ?_ (fun hHeld' => ?_)
            · (try dsimp only)
              (try trivial)
            clear hK K hHeld
            have hHeld := hHeld'
            clear hHeld'
            (try simp only [Act.put, List.setIfInBounds_toArray, List.set_cons_zero, List.set_cons_succ])
            refine wpAnyH_done (by kernel_rfl) ?_ _
            (try go_wp2_with fail)
            go_meet
            case rel =>
              have hxs : (wk7.setCell ⟨Q, 1, none⟩ (.slice r5 M1 d5)).heap.size = wk7.heap.size := by simp [World.setCell]
              refine ⟨r5, d5, rfl, blk_set pb 1 _, RQry.mono (RQry.frame (HCUT.out _ r5 d5 HGX.out HOX.out HTX.out) (fun b hb _ => Below.heap_setCell _ _ _ b (by have := hb.2.2; simpa using this))) (fun b hb => ⟨Nat.le_trans hBN hb.1, by rw [hxs]; exact hb.2.1, by have := hb.1; omega⟩), HBk7.setCell (p := ⟨Q, 1, none⟩) hNQ _⟩
      case rest =>
        obtain ⟨rn, dn, rfl, pbk, hol, hb6⟩ := hcut
        obtain ⟨wZ, rfl⟩ : ∃ x, x = wc := ⟨_, rfl⟩
        have hCZ := HC.out.below hb6
        have x0 := hCZ.cell0
        have x1 := hCZ.cell1
        have p0 : wZ.cell? ⟨Q, 0, none⟩ = some (.slice r2 fn d2) := blk_cell pbk 0 rfl
        have p1 : wZ.cell? ⟨Q, 1, none⟩ = some (.slice rn M1 dn) := blk_cell pbk 1 rfl
        have hel : (zs'.eraseIdx i).length = M1 := by rw [List.length_eraseIdx, HZL.out, if_pos hlt]; exact HM1.out
        have hM5 : M1 ≤ 5 := by have := HM1.out; omega
        have KG2 := Hid.mk (specGoodQuery r2 fn d2 hs rn M1 dn (zs'.eraseIdx i) ta tn tc ts wZ HFZ.out (by omega) (qry_at hol).1 hel (by omega) (qry_at hol).2 HTZ.out htn (At.below (At.below HT1.out (by rw [HBB.out]; exact HBW.out)) hb6))
        have HCC := Hid.mk (core_cond hs zs' (zs'.eraseIdx i) ts)
        have HCZ := Hid.mk hCZ
        have HOL := Hid.mk hol
        have HEL := Hid.mk hel
        have HB6 : Hid (Below B w1 wZ) := Hid.mk (HBW.out.trans (hb6.mono (by have := HC.out.lt; omega)))
        clear hCZ hol pbk hel hb6 HC HBW
        cases hge : gqB hs (zs'.eraseIdx i) ts with
        | false =>
          rw [hge] at KG2
          have hsv : smV hs zs' hs (zs'.eraseIdx i) ts = false := by rw [← HCC.out, hge]; rfl
          have HN : Hid (coreF hs ts zs.length zs 0 = coreF hs ts (m - (i + 1)) zs' (i + 1)) := Hid.mk (by
            rw [HCR.out, show m - i = (m - (i + 1)) + 1 by omega, coreF_no (by rw [HZL.out]; exact hlt) hsv])
          clear hsv
          go_wp2_with (go_at_call 30; refine KG2.out.mono ?_; rintro e w7 ⟨rfl, hb7⟩)
          have HC7 := Hid.mk (HCZ.out.below hb7)
          have HB7 : Hid (Below B w1 w7) := Hid.mk (HB6.out.trans (hb7.mono (by have := HCZ.out.lt; have := HCZ.out.size; omega)))
          go_roundw
          case rel => exact ⟨i + 1, m, r, d, r', d', zs', by omega, by go_num, HC7.out, HN.out, HGZ.out, HB7.out⟩
          case measure => rw [HC7.out.lenC, HLC.out]; simp [intOf]; omega
        | true =>
          rw [hge] at KG2 HCC
          go_wp2_with fail
          refine KG2.out.mono ?_
          rintro e w7 ⟨rfl, hb7⟩
          have hC7 := HCZ.out.below hb7
          have hO7 := own_belowQ HOL.out hb7
          have KS := Hid.mk (l10Same_good r2 fn d2 hs rn M1 dn (zs'.eraseIdx i) r fn d hs r' m d' zs' ts w7 HFZ.out (by omega) (qry_at hO7).1 HEL.out (by omega) (qry_at hO7).2 HFZ.out (by omega) (qry_at hC7.own).1 HZL.out (by omega) (qry_at hC7.own).2 hge HGZ.out rfl)
          have x0 := hC7.cell0
          have x1 := hC7.cell1
          have p0 := cell_later hb7 p0
          have p1 := cell_later hb7 p1
          have HC7 := Hid.mk hC7
          have HO7 := Hid.mk hO7
          have HB7 : Hid (Below B w1 w7) := Hid.mk (HB6.out.trans (hb7.mono (by have := HCZ.out.lt; have := HCZ.out.size; omega)))
          clear hC7 hO7 hb7 KG2 HCZ HOL HB6
          go_wp2_with fail
          refine KS.out.mono ?_
          rintro e w8 ⟨rfl, hb8⟩
          have hC8 := HC7.out.below hb8
          have x0 := hC8.cell0
          have x1 := hC8.cell1
          have p0 := cell_later hb8 p0
          have p1 := cell_later hb8 p1
          have f0 := blk_frozen hC8.blk 0
          have f1 := blk_frozen hC8.blk 1
          have HO8 := Hid.mk (own_belowQ HO7.out hb8)
          have HB8 : Hid (Below B w1 w8) := Hid.mk (HB7.out.trans (hb8.mono (by have := HC7.out.lt; have := HC7.out.size; omega)))
          have hBP' : B ≤ P := hC8.lt
          have HC8 := Hid.mk hC8
          clear hC8 hb8 KS HC7 HO7 HB7
          cases hsw : smV hs (zs'.eraseIdx i) hs zs' ts with
          | true =>
            have hsv : smV hs zs' hs (zs'.eraseIdx i) ts = true := by rw [← HCC.out, hsw]; rfl
            obtain ⟨X, hX⟩ : ∃ X, X = (w8.setCell ⟨P, 0, none⟩ (.slice r2 fn d2)).setCell ⟨P, 1, none⟩ (.slice rn M1 dn) := ⟨_, rfl⟩
            have HCX : Hid (CVar X P B hs r2 fn d2 (zs'.eraseIdx i) rn M1 dn) := Hid.mk (by rw [hX]; exact HC8.out.set2 HO8.out)
            have HBX : Hid (Below B w1 X) := Hid.mk (by rw [hX]; exact (HB8.out.setCell (p := ⟨P, 0, none⟩) hBP' _).setCell (p := ⟨P, 1, none⟩) hBP' _)
            have HN : Hid (coreF hs ts zs.length zs 0 = coreF hs ts (M1 - i) (zs'.eraseIdx i) i) := Hid.mk (by
              have hm9 := HM1.out
              rw [HCR.out, show m - i = (M1 - i) + 1 by omega, coreF_yes (by rw [HZL.out]; exact hlt) hsv])
            have HGN := Hid.mk hge
            clear hsv hge
            go_wp2
            rw [← hX]
            clear hX
            go_roundw
            case rel => exact ⟨i, M1, r2, d2, rn, dn, zs'.eraseIdx i, by have := HM1.out; omega, rfl, HCX.out, HN.out, HGN.out, HBX.out⟩
            case measure => rw [HCX.out.lenC, HLC.out]; have := HM1.out; simp [intOf]; omega
          | false =>
            have hsv : smV hs zs' hs (zs'.eraseIdx i) ts = false := by rw [← HCC.out, hsw]; rfl
            have HN : Hid (coreF hs ts zs.length zs 0 = coreF hs ts (m - (i + 1)) zs' (i + 1)) := Hid.mk (by
              rw [HCR.out, show m - i = (m - (i + 1)) + 1 by omega, coreF_no (by rw [HZL.out]; exact hlt) hsv])
            clear hsv
            go_wp2
            go_roundw
            case rel => exact ⟨i + 1, m, r, d, r', d', zs', by omega, by go_num, HC8.out, HN.out, HGZ.out, HB8.out⟩
            case measure => rw [HC8.out.lenC, HLC.out]; simp [intOf]; omega
    · obtain rfl : i = m := by omega
      have hii : ¬ (i : Int) < (i : Int) := by omega
      have rb := (hbw.block (w.heap.size + 1) (by omega)).trans HRB.out
      have y0 : wY.cell? ⟨w.heap.size + 1, 0, none⟩ = some (.slice none 0 0) := blk_cell rb 0 rfl
      have y1 : wY.cell? ⟨w.heap.size + 1, 1, none⟩ = some (.slice none 0 0) := blk_cell rb 1 rfl
      have f0 := blk_frozen rb 0
      have f1 := blk_frozen rb 1
      obtain ⟨Y, hY⟩ : ∃ Y, Y = (wY.setCell ⟨w.heap.size + 1, 0, none⟩ (.slice r fn d)).setCell ⟨w.heap.size + 1, 1, none⟩ (.slice r' i d') := ⟨_, rfl⟩
      have g0 : Y.cell? ⟨w.heap.size + 1, 0, none⟩ = some (.slice r fn d) := by rw [hY]; exact blk_cell (blk_set (blk_set rb 0 _) 1 _) 0 rfl
      have g1 : Y.cell? ⟨w.heap.size + 1, 1, none⟩ = some (.slice r' i d') := by rw [hY]; exact blk_cell (blk_set (blk_set rb 0 _) 1 _) 1 rfl
      have hYs : Y.heap.size = wY.heap.size := by rw [hY]; simp [World.setCell]
      have hW2 := HZW.out
      have hown : RQry.Own Y (From w.heap.size Y.heap.size) [.slice r fn d, .slice r' i d'] (hs, zs') := RQry.mono (RQry.frame hC.own (fun b hb _ => by
        have h1 := hb.1
        rw [hY, Below.heap_setCell _ _ _ b (show b ≠ w.heap.size + 1 by omega), Below.heap_setCell _ _ _ b (show b ≠ w.heap.size + 1 by omega)])) (fun b hb => ⟨by have := hb.1; omega, by rw [hYs]; exact hb.2.1⟩)
      have HR : Hid (QryRet (.returned (.tuple #[.agg #[.slice r fn d, .slice r' i d'], .bool true])) Y w.heap.size (gqB hs zs ts) (crH hs zs ts) (crZ hs zs ts)) := Hid.mk (by
        have hv : crZ hs zs ts = zs' := by unfold crZ; rw [HG.out, if_pos rfl, hcore, coreF_end (by rw [hzl]; exact Nat.le_refl _)]
        rw [HG.out, hv, show crH hs zs ts = hs by unfold crH; rw [HG.out]; rfl]
        exact ⟨r, fn, d, r', i, d', rfl, hown⟩)
      have HBY : Hid (Below w.heap.size w Y) := Hid.mk (by
        have h9 := (HB0.out.trans (HB1.out.mono HB0.out.size)).trans (hbw.mono (by omega))
        rw [hY]
        exact (h9.setCell (p := ⟨w.heap.size + 1, 0, none⟩) (by show w.heap.size ≤ w.heap.size + 1; omega) _).setCell (p := ⟨w.heap.size + 1, 1, none⟩) (by show w.heap.size ≤ w.heap.size + 1; omega) _)
      clear hC hcore hgz hbw hLC hzl hown hYs hW2 rb
      go_wp2
      rw [← hY]
      clear hY
      refine bodyPost_ret (v := .tuple #[.agg #[.slice r fn d, .slice r' i d'], .bool true]) (by simp [results, Try.results7, go_sem, g0, g1]) rfl ⟨HR.out, HBY.out⟩

end Go.Proofs.Ytociphdhkjoofaa
