/- Contract of impl.CoreOf. -/
import Derived.Test.YtociphdhkjoofaaM23
import Derived.Deep.CutRange
import Derived.Deep.CutBlock
namespace Go.Proofs.Ytociphdhkjoofaa
open Go.RowKit

theorem gq_five {hs : List Int} {zs : List Atm} {ts : List Int} (h : gqB hs zs ts = true) : zs.length ≤ 5 := by
  have h1 := (gq_parts h).2.2.1
  simp only [qvB, Bool.and_eq_true, decide_eq_true_eq, List.all_eq_true] at h1
  exact h1.1
def lenX : Value → Nat
  | .slice _ n _ => n
  | _ => 0
def lenC (w : World) (P : Nat) : Nat := match w.cell? ⟨P, 1, none⟩ with
  | some v => lenX v
  | none => 0
theorem CVar.lenC {w : World} {P B : Nat} {hs : List Int} {r : Option Addr} {fn d : Nat} {zs : List Atm} {r' : Option Addr} {m d' : Nat} (h : CVar w P B hs r fn d zs r' m d') : lenC w P = m := by unfold Go.Proofs.Ytociphdhkjoofaa.lenC; rw [h.cell1]; rfl
theorem vals_take {w : World} {g n c : Nat} {cells : List Value} (h : w.ownsRow 0 58 2 (.slice (some ⟨g, 0, none⟩) n c) n cells) (q : Nat) : ∀ (j : Nat) (u : Value), (cells.take q)[j]? = some u → w.cell? ((⟨g, 0, none⟩ : Addr).add j) = some u := by
  intro j u hu
  have hj := (List.getElem?_eq_some_iff.1 hu).1
  rw [List.length_take, h.1] at hj
  rw [List.getElem?_take_of_lt (by omega)] at hu
  rw [Addr.add_lit, Nat.zero_add, h.cellAt j (by omega)]
  exact hu
theorem vals_drop {w : World} {g n c : Nat} {cells : List Value} (h : w.ownsRow 0 58 2 (.slice (some ⟨g, 0, none⟩) n c) n cells) (q : Nat) : ∀ (j : Nat) (u : Value), (cells.drop q)[j]? = some u → w.cell? ((⟨g, q, none⟩ : Addr).add j) = some u := by
  intro j u hu
  have hj := (List.getElem?_eq_some_iff.1 hu).1
  rw [List.length_drop, h.1] at hj
  rw [List.getElem?_drop] at hu
  rw [Addr.add_lit, h.cellAt (q + j) (by omega)]
  exact hu

set_option maxRecDepth 100000 in
set_option maxHeartbeats 4000000 in
theorem implCoreOf (fa : Option Addr) (fn fc : Nat) (hs : List Int) (aa : Option Addr) (an ac : Nat) (zs : List Atm) (ta : Option Addr) (tn tc : Nat) (ts : List Int) (w : World) (hfz : hs.length = fn) (hfn : fn ≤ 1048576) (hfF : fa = none → fc = 0) (hfa : At w fa hs) (hz : zs.length = an) (han : an ≤ 1048576) (hsm : ∀ x ∈ zs, x.2.length ≤ 1048576) (haa : AtQ w aa zs) (htz : ts.length = tn) (htn : tn ≤ 9223372036854775807) (hta : At w ta ts) :
    Calls Try.prog 10 #[.agg #[.slice fa fn fc, .slice aa an ac], .slice ta tn tc] w fun e w' => QryRet e w' w.heap.size (gqB hs zs ts) (crH hs zs ts) (crZ hs zs ts) ∧ Below w.heap.size w w' := by
  obtain ⟨W, hW⟩ : ∃ W, W = (w.alloc (.cells #[.slice fa fn fc, .slice aa an ac] 29)).alloc (.cells #[.slice none 0 0, .slice none 0 0] 29) := ⟨_, rfl⟩
  have zW : W.heap.size = w.heap.size + 1 + 1 := by rw [hW]; simp
  have B0 : Below w.heap.size w W := by rw [hW]; exact ((Below.refl _ _).alloc (Nat.le_refl _) _).alloc (by simp) _
  have a0 : W.heap[w.heap.size]? = some (.cells #[.slice fa fn fc, .slice aa an ac] 29 (0, 0)) := by rw [hW]; exact blk_alloc (heap_alloc_new w _) _
  have a1 : W.heap[w.heap.size + 1]? = some (.cells #[.slice none 0 0, .slice none 0 0] 29 (0, 0)) := by
    rw [hW]
    have q := heap_alloc_new (w.alloc (.cells #[.slice fa fn fc, .slice aa an ac] 29)) (.cells #[.slice none 0 0, .slice none 0 0] 29)
    simpa only [World.size_alloc] using q
  have q0 : W.cell? ⟨w.heap.size, 0, none⟩ = some (.slice fa fn fc) := blk_cell a0 0 rfl
  have q1 : W.cell? ⟨w.heap.size, 1, none⟩ = some (.slice aa an ac) := blk_cell a0 1 rfl
  have KG := Hid.mk (implGoodQuery fa fn fc hs aa an ac zs ta tn tc ts W hfz (by omega) (At.below hfa B0) hz (by omega) (AtSl.below haa B0) htz htn (At.below hta B0))
  have HFA := Hid.mk (At.below hfa B0)
  have HAA := Hid.mk (AtSl.below haa B0)
  have HTA := Hid.mk (At.below hta B0)
  have HZ := Hid.mk hz
  have HSM := Hid.mk hsm
  have HFZ := Hid.mk hfz
  have HTZ := Hid.mk htz
  have HFF := Hid.mk hfF
  have HZW := Hid.mk zW
  have HA0 := Hid.mk a0
  have HA1 := Hid.mk a1
  have HB0 := Hid.mk B0
  have zlW : w.heap.size + 1 < W.heap.size := by omega
  clear hfa haa hta hz hsm hfz htz hfF zW a0 a1 B0
  go_enter Try.func10, Try.ntmps10
  go_upto_region 1 with fail
  rw [← hW]
  clear hW
  go_wp2_with fail
  refine KG.out.mono ?_
  rintro e w1 ⟨rfl, hb1⟩
  clear KG
  have rb1 : w1.heap[w.heap.size + 1]? = some (.cells #[.slice none 0 0, .slice none 0 0] 29 (0, 0)) := blk_below HA1.out hb1
  cases hg : gqB hs zs ts with
  | false =>
    have y0 : w1.cell? ⟨w.heap.size + 1, 0, none⟩ = some (.slice none 0 0) := blk_cell rb1 0 rfl
    have y1 : w1.cell? ⟨w.heap.size + 1, 1, none⟩ = some (.slice none 0 0) := blk_cell rb1 1 rfl
    have f0 := blk_frozen rb1 0
    have f1 := blk_frozen rb1 1
    obtain ⟨Y, hY⟩ : ∃ Y, Y = (w1.setCell ⟨w.heap.size + 1, 0, none⟩ (.slice none 0 0)).setCell ⟨w.heap.size + 1, 1, none⟩ (.slice none 0 0) := ⟨_, rfl⟩
    have g0 : Y.cell? ⟨w.heap.size + 1, 0, none⟩ = some (.slice none 0 0) := by rw [hY]; exact blk_cell (blk_set (blk_set rb1 0 _) 1 _) 0 rfl
    have g1 : Y.cell? ⟨w.heap.size + 1, 1, none⟩ = some (.slice none 0 0) := by rw [hY]; exact blk_cell (blk_set (blk_set rb1 0 _) 1 _) 1 rfl
    have HR : Hid (QryRet (.returned (.tuple #[.agg #[.slice none 0 0, .slice none 0 0], .bool false])) Y w.heap.size (gqB hs zs ts) (crH hs zs ts) (crZ hs zs ts)) := Hid.mk (by
      rw [hg, show crH hs zs ts = [] by unfold crH; rw [hg]; rfl, show crZ hs zs ts = [] by unfold crZ; rw [hg]; rfl]
      exact ⟨none, 0, 0, none, 0, 0, rfl, RQry.own_mk (F1 := fun _ => False) (F2 := fun _ => False) ⟨none, 0, 0, [], fun _ _ => False, rfl, Laid.none _ _ _ _⟩ ⟨none, 0, 0, [], fun _ _ => False, rfl, Laid.none _ _ _ _⟩ (fun _ h => h.elim) (fun _ h => h.elim) (fun _ h => h.elim)⟩)
    have HBY : Hid (Below w.heap.size w Y) := Hid.mk (by
      rw [hY]
      exact ((HB0.out.trans (hb1.mono HB0.out.size)).setCell (p := ⟨w.heap.size + 1, 0, none⟩) (by show w.heap.size ≤ w.heap.size + 1; omega) _).setCell (p := ⟨w.heap.size + 1, 1, none⟩) (by show w.heap.size ≤ w.heap.size + 1; omega) _)
    clear rb1
    go_wp2
    rw [← hY]
    clear hY
    refine bodyPost_ret (v := .tuple #[.agg #[.slice none 0 0, .slice none 0 0], .bool false]) (by simp [results, Try.results10, go_sem, g0, g1]) rfl ⟨HR.out, HBY.out⟩
  | true =>
  have q0 := cell_later hb1 q0
  have q1 := cell_later hb1 q1
  have KC := Hid.mk (copyQuery_any fa fn fc hs aa an ac zs w1 HFZ.out hfn HFF.out (At.below HFA.out hb1) HZ.out han HSM.out (AtSl.below HAA.out hb1))
  have HG := Hid.mk hg
  have HB1 := Hid.mk hb1
  have HT1 := Hid.mk (At.below HTA.out hb1)
  obtain ⟨B, hB⟩ : ∃ B, w1.heap.size = B := ⟨_, rfl⟩
  have hB1 : W.heap.size ≤ B := by rw [← hB]; exact hb1.size
  have HRB : Hid (w1.heap[w.heap.size + 1]? = some (.cells #[.slice none 0 0, .slice none 0 0] 29 (0, 0))) := Hid.mk rb1
  have HBB := Hid.mk hB
  clear hg hb1 rb1 hB
  go_wp2_with fail
  refine KC.out.mono ?_
  rintro e w2 ⟨r, d, r0, d0, rfl, ho2, hb2⟩
  obtain ⟨P, hP⟩ : ∃ P, w2.heap.size = P := ⟨_, rfl⟩
  obtain ⟨V, hV⟩ : ∃ V, V = w2.alloc (.cells #[.slice r fn d, .slice r0 an d0] 29) := ⟨_, rfl⟩
  have hBP : B ≤ P := by rw [← hP, ← HBB.out]; exact hb2.size
  have hbV : Below w2.heap.size w2 V := by rw [hV]; exact (Below.refl _ _).alloc (Nat.le_refl _) _
  have hC0 : CVar V P B hs r fn d zs r0 an d0 := ⟨by rw [hV, ← hP]; exact heap_alloc_new w2 _, RQry.mono (RQry.ownBelow ho2 hbV) (fun b hb => by
    have h1 := hb.1
    have h2 := hb.2
    have h3 := hbV.size
    rw [HBB.out] at h1
    exact ⟨h1, by omega, by omega⟩), hBP⟩
  have HC0 := Hid.mk hC0
  have HBV : Hid (Below B w1 V) := Hid.mk (by
    have h9 := hb2.trans (hbV.mono hb2.size)
    rw [HBB.out] at h9
    exact h9)
  clear KC ho2 hb2 hbV hC0 q0 q1
  go_upto_region 4 with fail
  rw [← hV]
  clear hV
  (try rw [hP])
  clear hP
  go_wp2_with fail
  go_loopw [7] (fun q wr => ∃ (i m : Nat) (r' : Option Addr) (d' : Nat) (zs' : List Atm), i ≤ m ∧ q = .int .i64 i ∧ CVar wr P B hs r fn d zs' r' m d' ∧ coreF hs ts zs.length zs 0 = coreF hs ts (m - i) zs' i ∧ gqB hs zs' ts = true ∧ Below B w1 wr) (fun q wr => lenC wr P - (intOf q).toNat)
  case atStart => exact ⟨0, an, r0, d0, zs, Nat.zero_le _, rfl, HC0.out, by rw [HZ.out]; rfl, HG.out, HBV.out⟩
  case round =>
    clear HC0 HBV
    obtain ⟨i, m, r', d', zs', him, rfl, hC, hcore, hgz, hbw⟩ := hrel
    obtain ⟨wY, rfl⟩ : ∃ x, x = wr := ⟨_, rfl⟩
    have hLC := hC.lenC
    have x0 := hC.cell0
    have x1 := hC.cell1
    obtain ⟨hzl, _, cells, hoc, hone, hcut⟩ := hC.cut
    have hm5 : m ≤ 5 := by rw [← hzl]; exact gq_five hgz
    by_cases hlt : i < m
    · have hii : (i : Int) < (m : Int) := by omega
      obtain ⟨g, hg'⟩ : ∃ g, r' = some ⟨g, 0, none⟩ := by
        rcases hoc.2 with ⟨_, h1⟩ | ⟨g, cap, cur, hv, _⟩
        · omega
        · simp only [Value.slice.injEq, true_and] at hv; exact ⟨g, hv.1⟩
      subst hg'
      have hmc : m ≤ d' := by
        rcases hoc.2 with ⟨_, h1⟩ | ⟨g, cap, cur, hv, _, _, h1, _⟩
        · omega
        · simp only [Value.slice.injEq, true_and] at hv; omega
      obtain ⟨q, hq⟩ : ∃ q, i + 1 = q := ⟨_, rfl⟩
      have hwq : IntKind.i64.wrap ((i : Int) + 1) = (q : Int) := by rw [IntWalk.i64_in _ (by omega)]; omega
      have hqm : q ≤ m := by omega
      have hqc : q ≤ d' := by omega
      have hid : i ≤ d' := by omega
      obtain ⟨M1, hM1⟩ : ∃ M1, m - 1 = M1 := ⟨_, rfl⟩
      have hPw : P < wY.heap.size := hC.size
      have HC := Hid.mk hC
      have HCR := Hid.mk hcore
      have HGZ := Hid.mk hgz
      have HBW := Hid.mk hbw
      have HCUT : Hid (∀ (w' : World) (rn : Option Addr) (dn : Nat), Below wY.heap.size wY w' → w'.ownsRow wY.heap.size 58 2 (.slice rn M1 dn) M1 (cutC cells 2 i) → RQry.Own w' (Bk B P w') [.slice r fn d, .slice rn M1 dn] (hs, zs'.eraseIdx i)) := Hid.mk (fun w' rn dn hb ho => by
        rw [← hM1] at ho ⊢
        exact hcut i w' rn dn hlt hb ho)
      have KK : Hid (∀ (A2 : Addr) (c2 : Nat), (∀ (j : Nat) (u : Value), (cells.drop (q * 2))[j]? = some u → wY.cell? (A2.add j) = some u) → ∀ (w' : World) (B0 : Nat), Below wY.heap.size wY w' → w'.cell? ⟨B0, 0, none⟩ = some (.slice (some ⟨g, 0, none⟩) i d') → w'.cell? ⟨B0, 1, none⟩ = some (.slice (some A2) (m - q) c2) →
          Calls Try.prog 36 #[.slice (some ⟨B0, 0, none⟩) 2 2] w' fun e w'' => ∃ rn dn, e = .returned (.slice rn M1 dn) ∧ w''.ownsRow w'.heap.size 58 2 (.slice rn M1 dn) M1 (cutC cells 2 i) ∧ Below w'.heap.size w' w'') := Hid.mk (fun A2 c2 hd w' B0 hb h0 h1 => by
        have hcl : cells.length = m * 2 := hoc.1
        have h9 := concatA_any B0 ⟨g, 0, none⟩ A2 i (m - q) d' c2 (cells.take (i * 2)) (cells.drop (q * 2)) w' (by omega) (by omega) (by rw [List.length_take, hcl]; omega) (by rw [List.length_drop, hcl]; omega) (fun j u hu => cell_later hb (vals_take hoc _ j u hu)) (fun j u hu => cell_later hb (hd j u hu)) (fun u hu => hone u (List.mem_of_mem_take hu)) (fun u hu => hone u (List.mem_of_mem_drop hu)) h0 h1
        rw [show i + (m - q) = M1 by omega, show cells.take (i * 2) ++ cells.drop (q * 2) = cutC cells 2 i by unfold cutC; rw [hq]] at h9
        exact h9)
      have HVD : Hid (∀ (j : Nat) (u : Value), (cells.drop (q * 2))[j]? = some u → wY.cell? ((⟨g, q * 2, none⟩ : Addr).add j) = some u) := Hid.mk (vals_drop hoc _)
      have HVE : Hid (m = q → ∀ (j : Nat) (u : Value), (cells.drop (q * 2))[j]? = some u → wY.cell? ((⟨g, 0, none⟩ : Addr).add j) = some u) := Hid.mk (fun e j u hu => by
        have := (List.getElem?_eq_some_iff.1 hu).1
        rw [List.length_drop, hoc.1, e] at this
        omega)
      have HM1 := Hid.mk hM1
      have HLC := Hid.mk hLC
      have HZL := Hid.mk hzl
      clear hC hcore hgz hbw hoc hone hcut hM1 hLC hzl
      go_upto_region 6 with fail
      go_cut [8] from 23 to 47 (fun t8 wx => ∃ (PB : Nat) (rn : Option Addr) (dn : Nat), t8 = .pointer (some ⟨PB, 0, none⟩) ∧ wx.heap[PB]? = some (.cells #[.slice r fn d, .slice rn M1 dn] 29 (0, 0)) ∧ P < PB ∧ RQry.Own wx (Bk B P wx) [.slice r fn d, .slice rn M1 dn] (hs, zs'.eraseIdx i) ∧ Below wY.heap.size wY wx)
      case first =>
        have s0 := x0
        have s1 := x1
        by_cases hdq : d' = q
        · have hmq : m = q := by omega
          have HV0 := Hid.mk (HVE.out hmq)
          have hdq' : q = d' := hdq.symm
          subst hdq
          clear hmq
          refine wp_region_held_drew (S := fun w' => w'.cell? ⟨P, 0, none⟩ = some (.slice r fn d) ∧ w'.cell? ⟨P, 1, none⟩ = some (.slice (some ⟨g, 0, none⟩) m d')) (by kernel_rfl) ?_ (fun hHeld => ?_)
          · (try dsimp only)
            exact ⟨s0, s1⟩
          refine tk 0 ?_
          refine tk 1 ?_
          refine tk 2 ?_
          refine tk 3 ?_
          refine tk 4 ?_
          refine tk 5 ?_
          refine tk 6 ?_
          refine tk 7 ?_
          refine tk 8 ?_
          refine tk 9 ?_
          refine tk 10 ?_
          obtain ⟨u0, hu0⟩ : ∃ u, u = wY.drew := ⟨_, rfl⟩
          have Y0 : Below wY.heap.size wY u0 := by rw [hu0]; exact (Below.refl _ _).drew
          rw [← hu0]
          have s0 : u0.cell? ⟨P, 0, none⟩ = some (.slice r fn d) := by rw [hu0]; exact s0
          have s1 : u0.cell? ⟨P, 1, none⟩ = some (.slice (some ⟨g, 0, none⟩) m d') := by rw [hu0]; exact s1
          clear hu0
          refine wpAnyH_ready (rs := [11, 14]) (by kernel_rfl) (by simp) ?_
          refine AllReadyH.cons (o := ?_) ?_ (fun K hK => ?_) ?_
          rotate_left
          · (simp only [List.getElem?_toArray, List.getElem?_cons_zero, List.getElem?_cons_succ]; rfl)
          · go_simp
            (try go_wp2_with fail)
            refine hK.out _ _ ?_ (fun hHeld' => ?_)
            · (try dsimp only)
              exact ⟨cell_later ((Below.refl _ _).alloc (Nat.le_refl _) _) s0, cell_later ((Below.refl _ _).alloc (Nat.le_refl _) _) s1⟩
            clear hK K hHeld
            have hHeld := hHeld'
            clear hHeld'
            (try simp only [Act.put, List.setIfInBounds_toArray, List.set_cons_zero, List.set_cons_succ])
            obtain ⟨vk1, hv1⟩ : ∃ u, u = u0.alloc (.cells #[.slice (some ⟨g, 0, none⟩) i d', .slice (some ⟨g, 0, none⟩) 0 (0)] 27) := ⟨_, rfl⟩
            have hbk1 : Below u0.heap.size u0 vk1 := by rw [hv1]; exact (Below.refl _ _).alloc (Nat.le_refl _) _
            have HBk1 : Below wY.heap.size wY vk1 := Y0.trans (hbk1.mono Y0.size)
            have s0 := cell_later hbk1 s0
            have s1 := cell_later hbk1 s1
            have nq0 : vk1.cell? ⟨u0.heap.size, 0, none⟩ = some (.slice (some ⟨g, 0, none⟩) i d') := by rw [hv1]; simp
            have nq1 : vk1.cell? ⟨u0.heap.size, 1, none⟩ = some (.slice (some ⟨g, 0, none⟩) (m - d') (0)) := by rw [hv1, show m - d' = 0 by omega]; simp
            rw [← hv1]
            clear hv1
            refine wpAnyH_ready (rs := [12, 14]) (by kernel_rfl) (by simp) ?_
            refine AllReadyH.cons (o := ?_) ?_ (fun K hK => ?_) ?_
            rotate_left
            · (simp only [List.getElem?_toArray, List.getElem?_cons_zero, List.getElem?_cons_succ]; rfl)
            · go_simp
              go_at_call 36
              refine (KK.out ⟨g, 0, none⟩ (0) HV0.out vk1 u0.heap.size HBk1 nq0 nq1).mono ?_
              rintro e wk2 ⟨rn, dn, rfl, ho3, hbk2⟩
              have HBk2 : Below wY.heap.size wY wk2 := HBk1.trans (hbk2.mono HBk1.size)
              have s0 := cell_later hbk2 s0
              have s1 := cell_later hbk2 s1
              have nq0 := cell_later hbk2 nq0
              have nq1 := cell_later hbk2 nq1
              have HOR : Hid (wk2.ownsRow wY.heap.size 58 2 (.slice rn M1 dn) M1 (cutC cells 2 i)) := Hid.mk (owns_mono ho3 HBk1.size)
              clear ho3
              (try go_wp2_with fail)
              refine hK.out _ _ ?_ (fun hHeld' => ?_)
              · (try dsimp only)
                exact ⟨s0, s1⟩
              clear hK K hHeld
              have hHeld := hHeld'
              clear hHeld'
              (try simp only [Act.put, List.setIfInBounds_toArray, List.set_cons_zero, List.set_cons_succ])
              refine tk 13 ?_
              refine wpAnyH_ready (rs := [14]) (by kernel_rfl) (by simp) ?_
              refine AllReadyH.cons (o := ?_) ?_ (fun K hK => ?_) AllReadyH.nil
              rotate_left
              · (simp only [List.getElem?_toArray, List.getElem?_cons_zero, List.getElem?_cons_succ]; rfl)
              go_simp
              (try go_wp2_with fail)
              refine hK.out _ _ ?_ (fun hHeld' => ?_)
              · (try dsimp only)
                exact ⟨cell_later ((Below.refl _ _).alloc (Nat.le_refl _) _) s0, cell_later ((Below.refl _ _).alloc (Nat.le_refl _) _) s1⟩
              clear hK K hHeld
              have hHeld := hHeld'
              clear hHeld'
              (try simp only [Act.put, List.setIfInBounds_toArray, List.set_cons_zero, List.set_cons_succ])
              obtain ⟨vk3, hv3⟩ : ∃ u, u = wk2.alloc (.cells #[.slice none 0 0, .slice none 0 0] 29) := ⟨_, rfl⟩
              have hbk3 : Below wk2.heap.size wk2 vk3 := by rw [hv3]; exact (Below.refl _ _).alloc (Nat.le_refl _) _
              have HBk3 : Below wY.heap.size wY vk3 := HBk2.trans (hbk3.mono HBk2.size)
              have s0 := cell_later hbk3 s0
              have s1 := cell_later hbk3 s1
              have nq0 := cell_later hbk3 nq0
              have nq1 := cell_later hbk3 nq1
              have HOR := Hid.mk (owns_below HOR.out hbk3)
              have pb : vk3.heap[wk2.heap.size]? = some (.cells #[.slice none 0 0, .slice none 0 0] 29 (0, 0)) := by rw [hv3]; exact heap_alloc_new _ _
              have zpb : wY.heap.size ≤ wk2.heap.size := HBk2.size
              rw [← hv3]
              clear hv3
              have qs0 := blk_cell pb 0 rfl
              have qs1 := blk_cell pb 1 rfl
              have fs0 := blk_frozen pb 0
              have fs1 := blk_frozen pb 1
              refine wpAnyH_ready (rs := [15]) (by kernel_rfl) (by simp) ?_
              refine AllReadyH.cons (o := ?_) ?_ (fun K hK => ?_) AllReadyH.nil
              rotate_left
              · (simp only [List.getElem?_toArray, List.getElem?_cons_zero, List.getElem?_cons_succ]; rfl)
              go_simp
              (try go_wp2_with fail)
              refine hK.out _ _ ?_ (fun hHeld' => ?_)
              · (try dsimp only)
                exact ⟨keep_far (keep_far s0 (by omega)) (by omega), keep_far (keep_far s1 (by omega)) (by omega)⟩
              clear hK K hHeld
              have hHeld := hHeld'
              clear hHeld'
              (try simp only [Act.put, List.setIfInBounds_toArray, List.set_cons_zero, List.set_cons_succ])
              refine wpAnyH_done (by kernel_rfl) ?_ _
              (try go_wp2_with fail)
              go_meet
              case rel =>
                have hbX : Below wY.heap.size wY ((vk3.setCell ⟨wk2.heap.size, 0, none⟩ (.slice r fn d)).setCell ⟨wk2.heap.size, 1, none⟩ (.slice rn M1 dn)) := ((HBk3.setCell (p := ⟨wk2.heap.size, 0, none⟩) zpb _).setCell (p := ⟨wk2.heap.size, 1, none⟩) zpb _)
                refine ⟨wk2.heap.size, rn, dn, rfl, blk_set (blk_set pb 0 _) 1 _, by omega, HCUT.out _ rn dn hbX ?_, hbX⟩
                exact ownsRow_frame HOR.out (fun b hb _ => by
                  have hne : b ≠ wk2.heap.size := fun e => blk_not_ownQ pb (by decide) HOR.out (e ▸ hb)
                  rw [Below.heap_setCell _ _ _ b (by simpa using hne), Below.heap_setCell _ _ _ b (by simpa using hne)])
            refine AllReadyH.cons (o := ?_) ?_ (fun K hK => ?_) AllReadyH.nil
            rotate_left
            · (simp only [List.getElem?_toArray, List.getElem?_cons_zero, List.getElem?_cons_succ]; rfl)
            · go_simp
              (try go_wp2_with fail)
              refine hK.out _ _ ?_ (fun hHeld' => ?_)
              · (try dsimp only)
                exact ⟨cell_later ((Below.refl _ _).alloc (Nat.le_refl _) _) s0, cell_later ((Below.refl _ _).alloc (Nat.le_refl _) _) s1⟩
              clear hK K hHeld
              have hHeld := hHeld'
              clear hHeld'
              (try simp only [Act.put, List.setIfInBounds_toArray, List.set_cons_zero, List.set_cons_succ])
              obtain ⟨vk5, hv5⟩ : ∃ u, u = vk1.alloc (.cells #[.slice none 0 0, .slice none 0 0] 29) := ⟨_, rfl⟩
              have hbk5 : Below vk1.heap.size vk1 vk5 := by rw [hv5]; exact (Below.refl _ _).alloc (Nat.le_refl _) _
              have HBk5 : Below wY.heap.size wY vk5 := HBk1.trans (hbk5.mono HBk1.size)
              have s0 := cell_later hbk5 s0
              have s1 := cell_later hbk5 s1
              have nq0 := cell_later hbk5 nq0
              have nq1 := cell_later hbk5 nq1
              have pb : vk5.heap[vk1.heap.size]? = some (.cells #[.slice none 0 0, .slice none 0 0] 29 (0, 0)) := by rw [hv5]; exact heap_alloc_new _ _
              have zpb : wY.heap.size ≤ vk1.heap.size := HBk1.size
              rw [← hv5]
              clear hv5
              refine wpAnyH_ready (rs := [12]) (by kernel_rfl) (by simp) ?_
              refine AllReadyH.cons (o := ?_) ?_ (fun K hK => ?_) AllReadyH.nil
              rotate_left
              · (simp only [List.getElem?_toArray, List.getElem?_cons_zero, List.getElem?_cons_succ]; rfl)
              go_simp
              go_at_call 36
              refine (KK.out ⟨g, 0, none⟩ (0) HV0.out vk5 u0.heap.size HBk5 nq0 nq1).mono ?_
              rintro e wk6 ⟨rn, dn, rfl, ho3, hbk6⟩
              have HBk6 : Below wY.heap.size wY wk6 := HBk5.trans (hbk6.mono HBk5.size)
              have s0 := cell_later hbk6 s0
              have s1 := cell_later hbk6 s1
              have nq0 := cell_later hbk6 nq0
              have nq1 := cell_later hbk6 nq1
              have pb := blk_below pb hbk6
              have HOR : Hid (wk6.ownsRow wY.heap.size 58 2 (.slice rn M1 dn) M1 (cutC cells 2 i)) := Hid.mk (owns_mono ho3 HBk5.size)
              clear ho3
              (try go_wp2_with fail)
              refine hK.out _ _ ?_ (fun hHeld' => ?_)
              · (try dsimp only)
                exact ⟨s0, s1⟩
              clear hK K hHeld
              have hHeld := hHeld'
              clear hHeld'
              (try simp only [Act.put, List.setIfInBounds_toArray, List.set_cons_zero, List.set_cons_succ])
              refine tk 13 ?_
              have qs0 := blk_cell pb 0 rfl
              have qs1 := blk_cell pb 1 rfl
              have fs0 := blk_frozen pb 0
              have fs1 := blk_frozen pb 1
              refine wpAnyH_ready (rs := [15]) (by kernel_rfl) (by simp) ?_
              refine AllReadyH.cons (o := ?_) ?_ (fun K hK => ?_) AllReadyH.nil
              rotate_left
              · (simp only [List.getElem?_toArray, List.getElem?_cons_zero, List.getElem?_cons_succ]; rfl)
              go_simp
              (try go_wp2_with fail)
              refine hK.out _ _ ?_ (fun hHeld' => ?_)
              · (try dsimp only)
                exact ⟨keep_far (keep_far s0 (by omega)) (by omega), keep_far (keep_far s1 (by omega)) (by omega)⟩
              clear hK K hHeld
              have hHeld := hHeld'
              clear hHeld'
              (try simp only [Act.put, List.setIfInBounds_toArray, List.set_cons_zero, List.set_cons_succ])
              refine wpAnyH_done (by kernel_rfl) ?_ _
              (try go_wp2_with fail)
              go_meet
              case rel =>
                have hbX : Below wY.heap.size wY ((wk6.setCell ⟨vk1.heap.size, 0, none⟩ (.slice r fn d)).setCell ⟨vk1.heap.size, 1, none⟩ (.slice rn M1 dn)) := ((HBk6.setCell (p := ⟨vk1.heap.size, 0, none⟩) zpb _).setCell (p := ⟨vk1.heap.size, 1, none⟩) zpb _)
                refine ⟨vk1.heap.size, rn, dn, rfl, blk_set (blk_set pb 0 _) 1 _, by omega, HCUT.out _ rn dn hbX ?_, hbX⟩
                exact ownsRow_frame HOR.out (fun b hb _ => by
                  have hne : b ≠ vk1.heap.size := fun e => blk_not_ownQ pb (by decide) HOR.out (e ▸ hb)
                  rw [Below.heap_setCell _ _ _ b (by simpa using hne), Below.heap_setCell _ _ _ b (by simpa using hne)])
          refine AllReadyH.cons (o := ?_) ?_ (fun K hK => ?_) AllReadyH.nil
          rotate_left
          · (simp only [List.getElem?_toArray, List.getElem?_cons_zero, List.getElem?_cons_succ]; rfl)
          · go_simp
            (try go_wp2_with fail)
            refine hK.out _ _ ?_ (fun hHeld' => ?_)
            · (try dsimp only)
              exact ⟨cell_later ((Below.refl _ _).alloc (Nat.le_refl _) _) s0, cell_later ((Below.refl _ _).alloc (Nat.le_refl _) _) s1⟩
            clear hK K hHeld
            have hHeld := hHeld'
            clear hHeld'
            (try simp only [Act.put, List.setIfInBounds_toArray, List.set_cons_zero, List.set_cons_succ])
            obtain ⟨vk8, hv8⟩ : ∃ u, u = u0.alloc (.cells #[.slice none 0 0, .slice none 0 0] 29) := ⟨_, rfl⟩
            have hbk8 : Below u0.heap.size u0 vk8 := by rw [hv8]; exact (Below.refl _ _).alloc (Nat.le_refl _) _
            have HBk8 : Below wY.heap.size wY vk8 := Y0.trans (hbk8.mono Y0.size)
            have s0 := cell_later hbk8 s0
            have s1 := cell_later hbk8 s1
            have pb : vk8.heap[u0.heap.size]? = some (.cells #[.slice none 0 0, .slice none 0 0] 29 (0, 0)) := by rw [hv8]; exact heap_alloc_new _ _
            have zpb : wY.heap.size ≤ u0.heap.size := Y0.size
            rw [← hv8]
            clear hv8
            refine wpAnyH_ready (rs := [11]) (by kernel_rfl) (by simp) ?_
            refine AllReadyH.cons (o := ?_) ?_ (fun K hK => ?_) AllReadyH.nil
            rotate_left
            · (simp only [List.getElem?_toArray, List.getElem?_cons_zero, List.getElem?_cons_succ]; rfl)
            go_simp
            (try go_wp2_with fail)
            refine hK.out _ _ ?_ (fun hHeld' => ?_)
            · (try dsimp only)
              exact ⟨cell_later ((Below.refl _ _).alloc (Nat.le_refl _) _) s0, cell_later ((Below.refl _ _).alloc (Nat.le_refl _) _) s1⟩
            clear hK K hHeld
            have hHeld := hHeld'
            clear hHeld'
            (try simp only [Act.put, List.setIfInBounds_toArray, List.set_cons_zero, List.set_cons_succ])
            obtain ⟨vk9, hv9⟩ : ∃ u, u = vk8.alloc (.cells #[.slice (some ⟨g, 0, none⟩) i d', .slice (some ⟨g, 0, none⟩) 0 (0)] 27) := ⟨_, rfl⟩
            have hbk9 : Below vk8.heap.size vk8 vk9 := by rw [hv9]; exact (Below.refl _ _).alloc (Nat.le_refl _) _
            have HBk9 : Below wY.heap.size wY vk9 := HBk8.trans (hbk9.mono HBk8.size)
            have s0 := cell_later hbk9 s0
            have s1 := cell_later hbk9 s1
            have pb := blk_below pb hbk9
            have nq0 : vk9.cell? ⟨vk8.heap.size, 0, none⟩ = some (.slice (some ⟨g, 0, none⟩) i d') := by rw [hv9]; simp
            have nq1 : vk9.cell? ⟨vk8.heap.size, 1, none⟩ = some (.slice (some ⟨g, 0, none⟩) (m - d') (0)) := by rw [hv9, show m - d' = 0 by omega]; simp
            rw [← hv9]
            clear hv9
            refine wpAnyH_ready (rs := [12]) (by kernel_rfl) (by simp) ?_
            refine AllReadyH.cons (o := ?_) ?_ (fun K hK => ?_) AllReadyH.nil
            rotate_left
            · (simp only [List.getElem?_toArray, List.getElem?_cons_zero, List.getElem?_cons_succ]; rfl)
            go_simp
            go_at_call 36
            refine (KK.out ⟨g, 0, none⟩ (0) HV0.out vk9 vk8.heap.size HBk9 nq0 nq1).mono ?_
            rintro e wk10 ⟨rn, dn, rfl, ho3, hbk10⟩
            have HBk10 : Below wY.heap.size wY wk10 := HBk9.trans (hbk10.mono HBk9.size)
            have s0 := cell_later hbk10 s0
            have s1 := cell_later hbk10 s1
            have pb := blk_below pb hbk10
            have nq0 := cell_later hbk10 nq0
            have nq1 := cell_later hbk10 nq1
            have HOR : Hid (wk10.ownsRow wY.heap.size 58 2 (.slice rn M1 dn) M1 (cutC cells 2 i)) := Hid.mk (owns_mono ho3 HBk9.size)
            clear ho3
            (try go_wp2_with fail)
            refine hK.out _ _ ?_ (fun hHeld' => ?_)
            · (try dsimp only)
              exact ⟨s0, s1⟩
            clear hK K hHeld
            have hHeld := hHeld'
            clear hHeld'
            (try simp only [Act.put, List.setIfInBounds_toArray, List.set_cons_zero, List.set_cons_succ])
            refine tk 13 ?_
            have qs0 := blk_cell pb 0 rfl
            have qs1 := blk_cell pb 1 rfl
            have fs0 := blk_frozen pb 0
            have fs1 := blk_frozen pb 1
            refine wpAnyH_ready (rs := [15]) (by kernel_rfl) (by simp) ?_
            refine AllReadyH.cons (o := ?_) ?_ (fun K hK => ?_) AllReadyH.nil
            rotate_left
            · (simp only [List.getElem?_toArray, List.getElem?_cons_zero, List.getElem?_cons_succ]; rfl)
            go_simp
            (try go_wp2_with fail)
            refine hK.out _ _ ?_ (fun hHeld' => ?_)
            · (try dsimp only)
              exact ⟨keep_far (keep_far s0 (by omega)) (by omega), keep_far (keep_far s1 (by omega)) (by omega)⟩
            clear hK K hHeld
            have hHeld := hHeld'
            clear hHeld'
            (try simp only [Act.put, List.setIfInBounds_toArray, List.set_cons_zero, List.set_cons_succ])
            refine wpAnyH_done (by kernel_rfl) ?_ _
            (try go_wp2_with fail)
            go_meet
            case rel =>
              have hbX : Below wY.heap.size wY ((wk10.setCell ⟨u0.heap.size, 0, none⟩ (.slice r fn d)).setCell ⟨u0.heap.size, 1, none⟩ (.slice rn M1 dn)) := ((HBk10.setCell (p := ⟨u0.heap.size, 0, none⟩) zpb _).setCell (p := ⟨u0.heap.size, 1, none⟩) zpb _)
              refine ⟨u0.heap.size, rn, dn, rfl, blk_set (blk_set pb 0 _) 1 _, by omega, HCUT.out _ rn dn hbX ?_, hbX⟩
              exact ownsRow_frame HOR.out (fun b hb _ => by
                have hne : b ≠ u0.heap.size := fun e => blk_not_ownQ pb (by decide) HOR.out (e ▸ hb)
                rw [Below.heap_setCell _ _ _ b (by simpa using hne), Below.heap_setCell _ _ _ b (by simpa using hne)])
        · have hdq' : ¬ q = d' := fun e => hdq e.symm
          refine wp_region_held_drew (S := fun w' => w'.cell? ⟨P, 0, none⟩ = some (.slice r fn d) ∧ w'.cell? ⟨P, 1, none⟩ = some (.slice (some ⟨g, 0, none⟩) m d')) (by kernel_rfl) ?_ (fun hHeld => ?_)
          · (try dsimp only)
            exact ⟨s0, s1⟩
          refine tk 0 ?_
          refine tk 1 ?_
          refine tk 2 ?_
          refine tk 3 ?_
          refine tk 4 ?_
          refine tk 5 ?_
          refine tk 6 ?_
          refine tk 7 ?_
          refine tk 8 ?_
          refine tk 9 ?_
          refine tk 10 ?_
          obtain ⟨u0, hu0⟩ : ∃ u, u = wY.drew := ⟨_, rfl⟩
          have Y0 : Below wY.heap.size wY u0 := by rw [hu0]; exact (Below.refl _ _).drew
          rw [← hu0]
          have s0 : u0.cell? ⟨P, 0, none⟩ = some (.slice r fn d) := by rw [hu0]; exact s0
          have s1 : u0.cell? ⟨P, 1, none⟩ = some (.slice (some ⟨g, 0, none⟩) m d') := by rw [hu0]; exact s1
          clear hu0
          refine wpAnyH_ready (rs := [11, 14]) (by kernel_rfl) (by simp) ?_
          refine AllReadyH.cons (o := ?_) ?_ (fun K hK => ?_) ?_
          rotate_left
          · (simp only [List.getElem?_toArray, List.getElem?_cons_zero, List.getElem?_cons_succ]; rfl)
          · go_simp
            (try go_wp2_with fail)
            refine hK.out _ _ ?_ (fun hHeld' => ?_)
            · (try dsimp only)
              exact ⟨cell_later ((Below.refl _ _).alloc (Nat.le_refl _) _) s0, cell_later ((Below.refl _ _).alloc (Nat.le_refl _) _) s1⟩
            clear hK K hHeld
            have hHeld := hHeld'
            clear hHeld'
            (try simp only [Act.put, List.setIfInBounds_toArray, List.set_cons_zero, List.set_cons_succ])
            obtain ⟨vk1, hv1⟩ : ∃ u, u = u0.alloc (.cells #[.slice (some ⟨g, 0, none⟩) i d', .slice (some ⟨g, q * 2, none⟩) (m - q) (d' - q)] 27) := ⟨_, rfl⟩
            have hbk1 : Below u0.heap.size u0 vk1 := by rw [hv1]; exact (Below.refl _ _).alloc (Nat.le_refl _) _
            have HBk1 : Below wY.heap.size wY vk1 := Y0.trans (hbk1.mono Y0.size)
            have s0 := cell_later hbk1 s0
            have s1 := cell_later hbk1 s1
            have nq0 : vk1.cell? ⟨u0.heap.size, 0, none⟩ = some (.slice (some ⟨g, 0, none⟩) i d') := by rw [hv1]; simp
            have nq1 : vk1.cell? ⟨u0.heap.size, 1, none⟩ = some (.slice (some ⟨g, q * 2, none⟩) (m - q) (d' - q)) := by rw [hv1]; simp
            rw [← hv1]
            clear hv1
            refine wpAnyH_ready (rs := [12, 14]) (by kernel_rfl) (by simp) ?_
            refine AllReadyH.cons (o := ?_) ?_ (fun K hK => ?_) ?_
            rotate_left
            · (simp only [List.getElem?_toArray, List.getElem?_cons_zero, List.getElem?_cons_succ]; rfl)
            · go_simp
              go_at_call 36
              refine (KK.out ⟨g, q * 2, none⟩ (d' - q) HVD.out vk1 u0.heap.size HBk1 nq0 nq1).mono ?_
              rintro e wk2 ⟨rn, dn, rfl, ho3, hbk2⟩
              have HBk2 : Below wY.heap.size wY wk2 := HBk1.trans (hbk2.mono HBk1.size)
              have s0 := cell_later hbk2 s0
              have s1 := cell_later hbk2 s1
              have nq0 := cell_later hbk2 nq0
              have nq1 := cell_later hbk2 nq1
              have HOR : Hid (wk2.ownsRow wY.heap.size 58 2 (.slice rn M1 dn) M1 (cutC cells 2 i)) := Hid.mk (owns_mono ho3 HBk1.size)
              clear ho3
              (try go_wp2_with fail)
              refine hK.out _ _ ?_ (fun hHeld' => ?_)
              · (try dsimp only)
                exact ⟨s0, s1⟩
              clear hK K hHeld
              have hHeld := hHeld'
              clear hHeld'
              (try simp only [Act.put, List.setIfInBounds_toArray, List.set_cons_zero, List.set_cons_succ])
              refine tk 13 ?_
              refine wpAnyH_ready (rs := [14]) (by kernel_rfl) (by simp) ?_
              refine AllReadyH.cons (o := ?_) ?_ (fun K hK => ?_) AllReadyH.nil
              rotate_left
              · (simp only [List.getElem?_toArray, List.getElem?_cons_zero, List.getElem?_cons_succ]; rfl)
              go_simp
              (try go_wp2_with fail)
              refine hK.out _ _ ?_ (fun hHeld' => ?_)
              · (try dsimp only)
                exact ⟨cell_later ((Below.refl _ _).alloc (Nat.le_refl _) _) s0, cell_later ((Below.refl _ _).alloc (Nat.le_refl _) _) s1⟩
              clear hK K hHeld
              have hHeld := hHeld'
              clear hHeld'
              (try simp only [Act.put, List.setIfInBounds_toArray, List.set_cons_zero, List.set_cons_succ])
              obtain ⟨vk3, hv3⟩ : ∃ u, u = wk2.alloc (.cells #[.slice none 0 0, .slice none 0 0] 29) := ⟨_, rfl⟩
              have hbk3 : Below wk2.heap.size wk2 vk3 := by rw [hv3]; exact (Below.refl _ _).alloc (Nat.le_refl _) _
              have HBk3 : Below wY.heap.size wY vk3 := HBk2.trans (hbk3.mono HBk2.size)
              have s0 := cell_later hbk3 s0
              have s1 := cell_later hbk3 s1
              have nq0 := cell_later hbk3 nq0
              have nq1 := cell_later hbk3 nq1
              have HOR := Hid.mk (owns_below HOR.out hbk3)
              have pb : vk3.heap[wk2.heap.size]? = some (.cells #[.slice none 0 0, .slice none 0 0] 29 (0, 0)) := by rw [hv3]; exact heap_alloc_new _ _
              have zpb : wY.heap.size ≤ wk2.heap.size := HBk2.size
              rw [← hv3]
              clear hv3
              have qs0 := blk_cell pb 0 rfl
              have qs1 := blk_cell pb 1 rfl
              have fs0 := blk_frozen pb 0
              have fs1 := blk_frozen pb 1
              refine wpAnyH_ready (rs := [15]) (by kernel_rfl) (by simp) ?_
              refine AllReadyH.cons (o := ?_) ?_ (fun K hK => ?_) AllReadyH.nil
              rotate_left
              · (simp only [List.getElem?_toArray, List.getElem?_cons_zero, List.getElem?_cons_succ]; rfl)
              go_simp
              (try go_wp2_with fail)
              refine hK.out _ _ ?_ (fun hHeld' => ?_)
              · (try dsimp only)
                exact ⟨keep_far (keep_far s0 (by omega)) (by omega), keep_far (keep_far s1 (by omega)) (by omega)⟩
              clear hK K hHeld
              have hHeld := hHeld'
              clear hHeld'
              (try simp only [Act.put, List.setIfInBounds_toArray, List.set_cons_zero, List.set_cons_succ])
              refine wpAnyH_done (by kernel_rfl) ?_ _
              (try go_wp2_with fail)
              go_meet
              case rel =>
                have hbX : Below wY.heap.size wY ((vk3.setCell ⟨wk2.heap.size, 0, none⟩ (.slice r fn d)).setCell ⟨wk2.heap.size, 1, none⟩ (.slice rn M1 dn)) := ((HBk3.setCell (p := ⟨wk2.heap.size, 0, none⟩) zpb _).setCell (p := ⟨wk2.heap.size, 1, none⟩) zpb _)
                refine ⟨wk2.heap.size, rn, dn, rfl, blk_set (blk_set pb 0 _) 1 _, by omega, HCUT.out _ rn dn hbX ?_, hbX⟩
                exact ownsRow_frame HOR.out (fun b hb _ => by
                  have hne : b ≠ wk2.heap.size := fun e => blk_not_ownQ pb (by decide) HOR.out (e ▸ hb)
                  rw [Below.heap_setCell _ _ _ b (by simpa using hne), Below.heap_setCell _ _ _ b (by simpa using hne)])
            refine AllReadyH.cons (o := ?_) ?_ (fun K hK => ?_) AllReadyH.nil
            rotate_left
            · (simp only [List.getElem?_toArray, List.getElem?_cons_zero, List.getElem?_cons_succ]; rfl)
            · go_simp
              (try go_wp2_with fail)
              refine hK.out _ _ ?_ (fun hHeld' => ?_)
              · (try dsimp only)
                exact ⟨cell_later ((Below.refl _ _).alloc (Nat.le_refl _) _) s0, cell_later ((Below.refl _ _).alloc (Nat.le_refl _) _) s1⟩
              clear hK K hHeld
              have hHeld := hHeld'
              clear hHeld'
              (try simp only [Act.put, List.setIfInBounds_toArray, List.set_cons_zero, List.set_cons_succ])
              obtain ⟨vk5, hv5⟩ : ∃ u, u = vk1.alloc (.cells #[.slice none 0 0, .slice none 0 0] 29) := ⟨_, rfl⟩
              have hbk5 : Below vk1.heap.size vk1 vk5 := by rw [hv5]; exact (Below.refl _ _).alloc (Nat.le_refl _) _
              have HBk5 : Below wY.heap.size wY vk5 := HBk1.trans (hbk5.mono HBk1.size)
              have s0 := cell_later hbk5 s0
              have s1 := cell_later hbk5 s1
              have nq0 := cell_later hbk5 nq0
              have nq1 := cell_later hbk5 nq1
              have pb : vk5.heap[vk1.heap.size]? = some (.cells #[.slice none 0 0, .slice none 0 0] 29 (0, 0)) := by rw [hv5]; exact heap_alloc_new _ _
              have zpb : wY.heap.size ≤ vk1.heap.size := HBk1.size
              rw [← hv5]
              clear hv5
              refine wpAnyH_ready (rs := [12]) (by kernel_rfl) (by simp) ?_
              refine AllReadyH.cons (o := ?_) ?_ (fun K hK => ?_) AllReadyH.nil
              rotate_left
              · (simp only [List.getElem?_toArray, List.getElem?_cons_zero, List.getElem?_cons_succ]; rfl)
              go_simp
              go_at_call 36
              refine (KK.out ⟨g, q * 2, none⟩ (d' - q) HVD.out vk5 u0.heap.size HBk5 nq0 nq1).mono ?_
              rintro e wk6 ⟨rn, dn, rfl, ho3, hbk6⟩
              have HBk6 : Below wY.heap.size wY wk6 := HBk5.trans (hbk6.mono HBk5.size)
              have s0 := cell_later hbk6 s0
              have s1 := cell_later hbk6 s1
              have nq0 := cell_later hbk6 nq0
              have nq1 := cell_later hbk6 nq1
              have pb := blk_below pb hbk6
              have HOR : Hid (wk6.ownsRow wY.heap.size 58 2 (.slice rn M1 dn) M1 (cutC cells 2 i)) := Hid.mk (owns_mono ho3 HBk5.size)
              clear ho3
              (try go_wp2_with fail)
              refine hK.out _ _ ?_ (fun hHeld' => ?_)
              · (try dsimp only)
                exact ⟨s0, s1⟩
              clear hK K hHeld
              have hHeld := hHeld'
              clear hHeld'
              (try simp only [Act.put, List.setIfInBounds_toArray, List.set_cons_zero, List.set_cons_succ])
              refine tk 13 ?_
              have qs0 := blk_cell pb 0 rfl
              have qs1 := blk_cell pb 1 rfl
              have fs0 := blk_frozen pb 0
              have fs1 := blk_frozen pb 1
              refine wpAnyH_ready (rs := [15]) (by kernel_rfl) (by simp) ?_
              refine AllReadyH.cons (o := ?_) ?_ (fun K hK => ?_) AllReadyH.nil
              rotate_left
              · (simp only [List.getElem?_toArray, List.getElem?_cons_zero, List.getElem?_cons_succ]; rfl)
              go_simp
              (try go_wp2_with fail)
              refine hK.out _ _ ?_ (fun hHeld' => ?_)
              · (try dsimp only)
                exact ⟨keep_far (keep_far s0 (by omega)) (by omega), keep_far (keep_far s1 (by omega)) (by omega)⟩
              clear hK K hHeld
              have hHeld := hHeld'
              clear hHeld'
              (try simp only [Act.put, List.setIfInBounds_toArray, List.set_cons_zero, List.set_cons_succ])
              refine wpAnyH_done (by kernel_rfl) ?_ _
              (try go_wp2_with fail)
              go_meet
              case rel =>
                have hbX : Below wY.heap.size wY ((wk6.setCell ⟨vk1.heap.size, 0, none⟩ (.slice r fn d)).setCell ⟨vk1.heap.size, 1, none⟩ (.slice rn M1 dn)) := ((HBk6.setCell (p := ⟨vk1.heap.size, 0, none⟩) zpb _).setCell (p := ⟨vk1.heap.size, 1, none⟩) zpb _)
                refine ⟨vk1.heap.size, rn, dn, rfl, blk_set (blk_set pb 0 _) 1 _, by omega, HCUT.out _ rn dn hbX ?_, hbX⟩
                exact ownsRow_frame HOR.out (fun b hb _ => by
                  have hne : b ≠ vk1.heap.size := fun e => blk_not_ownQ pb (by decide) HOR.out (e ▸ hb)
                  rw [Below.heap_setCell _ _ _ b (by simpa using hne), Below.heap_setCell _ _ _ b (by simpa using hne)])
          refine AllReadyH.cons (o := ?_) ?_ (fun K hK => ?_) AllReadyH.nil
          rotate_left
          · (simp only [List.getElem?_toArray, List.getElem?_cons_zero, List.getElem?_cons_succ]; rfl)
          · go_simp
            (try go_wp2_with fail)
            refine hK.out _ _ ?_ (fun hHeld' => ?_)
            · (try dsimp only)
              exact ⟨cell_later ((Below.refl _ _).alloc (Nat.le_refl _) _) s0, cell_later ((Below.refl _ _).alloc (Nat.le_refl _) _) s1⟩
            clear hK K hHeld
            have hHeld := hHeld'
            clear hHeld'
            (try simp only [Act.put, List.setIfInBounds_toArray, List.set_cons_zero, List.set_cons_succ])
            obtain ⟨vk8, hv8⟩ : ∃ u, u = u0.alloc (.cells #[.slice none 0 0, .slice none 0 0] 29) := ⟨_, rfl⟩
            have hbk8 : Below u0.heap.size u0 vk8 := by rw [hv8]; exact (Below.refl _ _).alloc (Nat.le_refl _) _
            have HBk8 : Below wY.heap.size wY vk8 := Y0.trans (hbk8.mono Y0.size)
            have s0 := cell_later hbk8 s0
            have s1 := cell_later hbk8 s1
            have pb : vk8.heap[u0.heap.size]? = some (.cells #[.slice none 0 0, .slice none 0 0] 29 (0, 0)) := by rw [hv8]; exact heap_alloc_new _ _
            have zpb : wY.heap.size ≤ u0.heap.size := Y0.size
            rw [← hv8]
            clear hv8
            refine wpAnyH_ready (rs := [11]) (by kernel_rfl) (by simp) ?_
            refine AllReadyH.cons (o := ?_) ?_ (fun K hK => ?_) AllReadyH.nil
            rotate_left
            · (simp only [List.getElem?_toArray, List.getElem?_cons_zero, List.getElem?_cons_succ]; rfl)
            go_simp
            (try go_wp2_with fail)
            refine hK.out _ _ ?_ (fun hHeld' => ?_)
            · (try dsimp only)
              exact ⟨cell_later ((Below.refl _ _).alloc (Nat.le_refl _) _) s0, cell_later ((Below.refl _ _).alloc (Nat.le_refl _) _) s1⟩
            clear hK K hHeld
            have hHeld := hHeld'
            clear hHeld'
            (try simp only [Act.put, List.setIfInBounds_toArray, List.set_cons_zero, List.set_cons_succ])
            obtain ⟨vk9, hv9⟩ : ∃ u, u = vk8.alloc (.cells #[.slice (some ⟨g, 0, none⟩) i d', .slice (some ⟨g, q * 2, none⟩) (m - q) (d' - q)] 27) := ⟨_, rfl⟩
            have hbk9 : Below vk8.heap.size vk8 vk9 := by rw [hv9]; exact (Below.refl _ _).alloc (Nat.le_refl _) _
            have HBk9 : Below wY.heap.size wY vk9 := HBk8.trans (hbk9.mono HBk8.size)
            have s0 := cell_later hbk9 s0
            have s1 := cell_later hbk9 s1
            have pb := blk_below pb hbk9
            have nq0 : vk9.cell? ⟨vk8.heap.size, 0, none⟩ = some (.slice (some ⟨g, 0, none⟩) i d') := by rw [hv9]; simp
            have nq1 : vk9.cell? ⟨vk8.heap.size, 1, none⟩ = some (.slice (some ⟨g, q * 2, none⟩) (m - q) (d' - q)) := by rw [hv9]; simp
            rw [← hv9]
            clear hv9
            refine wpAnyH_ready (rs := [12]) (by kernel_rfl) (by simp) ?_
            refine AllReadyH.cons (o := ?_) ?_ (fun K hK => ?_) AllReadyH.nil
            rotate_left
            · (simp only [List.getElem?_toArray, List.getElem?_cons_zero, List.getElem?_cons_succ]; rfl)
            go_simp
            go_at_call 36
            refine (KK.out ⟨g, q * 2, none⟩ (d' - q) HVD.out vk9 vk8.heap.size HBk9 nq0 nq1).mono ?_
            rintro e wk10 ⟨rn, dn, rfl, ho3, hbk10⟩
            have HBk10 : Below wY.heap.size wY wk10 := HBk9.trans (hbk10.mono HBk9.size)
            have s0 := cell_later hbk10 s0
            have s1 := cell_later hbk10 s1
            have pb := blk_below pb hbk10
            have nq0 := cell_later hbk10 nq0
            have nq1 := cell_later hbk10 nq1
            have HOR : Hid (wk10.ownsRow wY.heap.size 58 2 (.slice rn M1 dn) M1 (cutC cells 2 i)) := Hid.mk (owns_mono ho3 HBk9.size)
            clear ho3
            (try go_wp2_with fail)
            refine hK.out _ _ ?_ (fun hHeld' => ?_)
            · (try dsimp only)
              exact ⟨s0, s1⟩
            clear hK K hHeld
            have hHeld := hHeld'
            clear hHeld'
            (try simp only [Act.put, List.setIfInBounds_toArray, List.set_cons_zero, List.set_cons_succ])
            refine tk 13 ?_
            have qs0 := blk_cell pb 0 rfl
            have qs1 := blk_cell pb 1 rfl
            have fs0 := blk_frozen pb 0
            have fs1 := blk_frozen pb 1
            refine wpAnyH_ready (rs := [15]) (by kernel_rfl) (by simp) ?_
            refine AllReadyH.cons (o := ?_) ?_ (fun K hK => ?_) AllReadyH.nil
            rotate_left
            · (simp only [List.getElem?_toArray, List.getElem?_cons_zero, List.getElem?_cons_succ]; rfl)
            go_simp
            (try go_wp2_with fail)
            refine hK.out _ _ ?_ (fun hHeld' => ?_)
            · (try dsimp only)
              exact ⟨keep_far (keep_far s0 (by omega)) (by omega), keep_far (keep_far s1 (by omega)) (by omega)⟩
            clear hK K hHeld
            have hHeld := hHeld'
            clear hHeld'
            (try simp only [Act.put, List.setIfInBounds_toArray, List.set_cons_zero, List.set_cons_succ])
            refine wpAnyH_done (by kernel_rfl) ?_ _
            (try go_wp2_with fail)
            go_meet
            case rel =>
              have hbX : Below wY.heap.size wY ((wk10.setCell ⟨u0.heap.size, 0, none⟩ (.slice r fn d)).setCell ⟨u0.heap.size, 1, none⟩ (.slice rn M1 dn)) := ((HBk10.setCell (p := ⟨u0.heap.size, 0, none⟩) zpb _).setCell (p := ⟨u0.heap.size, 1, none⟩) zpb _)
              refine ⟨u0.heap.size, rn, dn, rfl, blk_set (blk_set pb 0 _) 1 _, by omega, HCUT.out _ rn dn hbX ?_, hbX⟩
              exact ownsRow_frame HOR.out (fun b hb _ => by
                have hne : b ≠ u0.heap.size := fun e => blk_not_ownQ pb (by decide) HOR.out (e ▸ hb)
                rw [Below.heap_setCell _ _ _ b (by simpa using hne), Below.heap_setCell _ _ _ b (by simpa using hne)])
      case rest =>
        obtain ⟨PB, rn, dn, rfl, pbk, hPB, hol, hb6⟩ := hcut
        obtain ⟨wZ, rfl⟩ : ∃ x, x = wc := ⟨_, rfl⟩
        have hCZ := HC.out.below hb6
        have x0 := hCZ.cell0
        have x1 := hCZ.cell1
        have p0 : wZ.cell? ⟨PB, 0, none⟩ = some (.slice r fn d) := blk_cell pbk 0 rfl
        have p1 : wZ.cell? ⟨PB, 1, none⟩ = some (.slice rn M1 dn) := blk_cell pbk 1 rfl
        have hel : (zs'.eraseIdx i).length = M1 := by rw [List.length_eraseIdx, HZL.out, if_pos hlt]; exact HM1.out
        have hM5 : M1 ≤ 5 := by have := HM1.out; omega
        have KS := Hid.mk (implSameQueries r fn d hs (some ⟨g, 0, none⟩) m d' zs' r fn d hs rn M1 dn (zs'.eraseIdx i) ta tn tc ts wZ HFZ.out (by omega) (qry_at hCZ.own).1 HZL.out (by omega) (qry_at hCZ.own).2 HFZ.out (by omega) (qry_at hol).1 hel (by omega) (qry_at hol).2 HTZ.out htn (At.below (At.below HT1.out (by rw [HBB.out]; exact HBW.out)) hb6))
        have HCZ := Hid.mk hCZ
        have HOL := Hid.mk hol
        have HPK := Hid.mk pbk
        have HEL := Hid.mk hel
        have HB6 : Hid (Below B w1 wZ) := Hid.mk (HBW.out.trans (hb6.mono (by have := HC.out.lt; omega)))
        clear hCZ hol pbk hel hb6 HC HBW
        go_wp2_with fail
        refine KS.out.mono ?_
        rintro e w7 ⟨rfl, hb7⟩
        have hC7 := HCZ.out.below hb7
        have x0 := hC7.cell0
        have x1 := hC7.cell1
        have p0 := cell_later hb7 p0
        have p1 := cell_later hb7 p1
        have f0 := blk_frozen hC7.blk 0
        have f1 := blk_frozen hC7.blk 1
        have HC7 := Hid.mk hC7
        have HO7 := Hid.mk (own_belowQ HOL.out hb7)
        have HB7 : Hid (Below B w1 w7) := Hid.mk (HB6.out.trans (hb7.mono (by have := HCZ.out.lt; have := HCZ.out.size; omega)))
        have hBP' : B ≤ P := HCZ.out.lt
        clear hC7 hb7 KS HCZ HOL HB6 HPK
        cases hsv : smV hs zs' hs (zs'.eraseIdx i) ts with
        | true =>
          obtain ⟨X, hX⟩ : ∃ X, X = (w7.setCell ⟨P, 0, none⟩ (.slice r fn d)).setCell ⟨P, 1, none⟩ (.slice rn M1 dn) := ⟨_, rfl⟩
          have HCX : Hid (CVar X P B hs r fn d (zs'.eraseIdx i) rn M1 dn) := Hid.mk (by rw [hX]; exact HC7.out.set HO7.out)
          have HBX : Hid (Below B w1 X) := Hid.mk (by rw [hX]; exact (HB7.out.setCell (p := ⟨P, 0, none⟩) hBP' _).setCell (p := ⟨P, 1, none⟩) hBP' _)
          have HN : Hid (coreF hs ts zs.length zs 0 = coreF hs ts (M1 - i) (zs'.eraseIdx i) i) := Hid.mk (by
            have hm9 := HM1.out
            rw [HCR.out, show m - i = (M1 - i) + 1 by omega, coreF_yes (by rw [HZL.out]; exact hlt) hsv])
          have HGN : Hid (gqB hs (zs'.eraseIdx i) ts = true) := Hid.mk (smV_good hsv)
          go_wp2
          rw [← hX]
          clear hX
          go_roundw
          case rel => exact ⟨i, M1, rn, dn, zs'.eraseIdx i, by have := HM1.out; omega, rfl, HCX.out, HN.out, HGN.out, HBX.out⟩
          case measure => rw [HCX.out.lenC, HLC.out]; have := HM1.out; simp [intOf]; omega
        | false =>
          have HN : Hid (coreF hs ts zs.length zs 0 = coreF hs ts (m - (i + 1)) zs' (i + 1)) := Hid.mk (by
            rw [HCR.out, show m - i = (m - (i + 1)) + 1 by omega, coreF_no (by rw [HZL.out]; exact hlt) hsv])
          go_wp2
          go_roundw
          case rel => exact ⟨i + 1, m, some ⟨g, 0, none⟩, d', zs', by omega, by go_num, HC7.out, HN.out, HGZ.out, HB7.out⟩
          case measure => rw [HC7.out.lenC, HLC.out]; simp [intOf]; omega
    · obtain rfl : i = m := by omega
      have hii : ¬ (i : Int) < (i : Int) := by omega
      have rb := (hbw.block (w.heap.size + 1) (by omega)).trans HRB.out
      have y0 : wY.cell? ⟨w.heap.size + 1, 0, none⟩ = some (.slice none 0 0) := blk_cell rb 0 rfl
      have y1 : wY.cell? ⟨w.heap.size + 1, 1, none⟩ = some (.slice none 0 0) := blk_cell rb 1 rfl
      have f0 := blk_frozen rb 0
      have f1 := blk_frozen rb 1
      obtain ⟨Y, hY⟩ : ∃ Y, Y = (wY.setCell ⟨w.heap.size + 1, 0, none⟩ (.slice r fn d)).setCell ⟨w.heap.size + 1, 1, none⟩ (.slice r' i d') := ⟨_, rfl⟩
      have g0 : Y.cell? ⟨w.heap.size + 1, 0, none⟩ = some (.slice r fn d) := by rw [hY]; exact blk_cell (blk_set (blk_set rb 0 _) 1 _) 0 rfl
      have g1 : Y.cell? ⟨w.heap.size + 1, 1, none⟩ = some (.slice r' i d') := by rw [hY]; exact blk_cell (blk_set (blk_set rb 0 _) 1 _) 1 rfl
      have hYs : Y.heap.size = wY.heap.size := by rw [hY]; simp [World.setCell]
      have hW2 := HZW.out
      have hown : RQry.Own Y (From w.heap.size Y.heap.size) [.slice r fn d, .slice r' i d'] (hs, zs') := RQry.mono (RQry.frame hC.own (fun b hb _ => by
        have h1 := hb.1
        rw [hY, Below.heap_setCell _ _ _ b (show b ≠ w.heap.size + 1 by omega), Below.heap_setCell _ _ _ b (show b ≠ w.heap.size + 1 by omega)])) (fun b hb => ⟨by have := hb.1; omega, by rw [hYs]; exact hb.2.1⟩)
      have HR : Hid (QryRet (.returned (.tuple #[.agg #[.slice r fn d, .slice r' i d'], .bool true])) Y w.heap.size (gqB hs zs ts) (crH hs zs ts) (crZ hs zs ts)) := Hid.mk (by
        have hv : crZ hs zs ts = zs' := by unfold crZ; rw [HG.out, if_pos rfl, hcore, coreF_end (by rw [hzl]; exact Nat.le_refl _)]
        rw [HG.out, hv, show crH hs zs ts = hs by unfold crH; rw [HG.out]; rfl]
        exact ⟨r, fn, d, r', i, d', rfl, hown⟩)
      have HBY : Hid (Below w.heap.size w Y) := Hid.mk (by
        have h9 := (HB0.out.trans (HB1.out.mono HB0.out.size)).trans (hbw.mono (by omega))
        rw [hY]
        exact (h9.setCell (p := ⟨w.heap.size + 1, 0, none⟩) (by show w.heap.size ≤ w.heap.size + 1; omega) _).setCell (p := ⟨w.heap.size + 1, 1, none⟩) (by show w.heap.size ≤ w.heap.size + 1; omega) _)
      clear hC hcore hgz hbw hoc hone hcut hLC hzl hown hYs hW2 rb
      go_wp2
      rw [← hY]
      clear hY
      refine bodyPost_ret (v := .tuple #[.agg #[.slice r fn d, .slice r' i d'], .bool true]) (by simp [results, Try.results10, go_sem, g0, g1]) rfl ⟨HR.out, HBY.out⟩

end Go.Proofs.Ytociphdhkjoofaa
