/- Several texts of one proof, in build order: Nought, SjJ. -/
import Derived.Test.YtkcmlphpilggpaaM18
import Derived.Test.YtkcmlphpilggpaaM6
import Derived.Test.YtkcmlphpilggpaaM15
import Derived.Deep.DeepCutAuto
import Derived.Deep.AppendLies

/- Contract of impl.noughts. -/
namespace Go.Proofs.Ytkcmlphpilggpaa
open Go.RowKit

set_option maxRecDepth 100000 in
set_option maxHeartbeats 1000000 in
theorem noughts_any (q : Nat) (w : World) (h6 : q ≤ 6) :
    Calls Try.prog 79 #[.int .i64 q] w fun e w' => ∃ r d, e = .returned (.agg #[.slice r q d]) ∧ (r = none → d = 0) ∧ At w' r (List.replicate q 0) ∧ Below w.heap.size w w' := by
  obtain ⟨i0, hi, hz0, hz1, hz2⟩ := info_parts Try.infoInt
  have hbL : Below w.heap.size w (w.alloc (.cells #[.slice none 0 0] 97)) := (Below.refl _ _).alloc (Nat.le_refl _) _
  have c0 : (w.alloc (.cells #[.slice none 0 0] 97)).cell? ⟨w.heap.size, 0, none⟩ = some (.slice none 0 0) := by simp
  have f0 : (w.alloc (.cells #[.slice none 0 0] 97)).frozen? ⟨w.heap.size, 0, none⟩ = false := by simp
  obtain ⟨w2, hr, ho, hg⟩ := run_makeSlice_full (P := Try.prog) (w.alloc (.cells #[.slice none 0 0] 97)) (w.heap.size + 1) 22 3 i0 (.int .i64 0) 1 Try.underlying22 hi hz0 hz1 .i64 .i64 q (by omega) (by rw [hz2]; omega) (by unfold maxLen; omega) (by simp)
  have hmc : (madeCells (Value.int .i64 0).cells (q * 1)).toList = (List.replicate q 0).map (.int .i64) := by
    have : q = 0 ∨ q = 1 ∨ q = 2 ∨ q = 3 ∨ q = 4 ∨ q = 5 ∨ q = 6 := by omega
    rcases this with rfl | rfl | rfl | rfl | rfl | rfl | rfl <;> simp [madeCells, Value.cells, Array.toList_map, Array.toList_range, List.range, List.range.loop, List.replicate]
  rw [hmc] at ho
  have e2 := hg.cell c0 (by simp)
  have k2 : w2.frozen? ⟨w.heap.size, 0, none⟩ = false := (World.frozen?_of_block (hg.block w.heap.size (by simp) (by simp))).trans f0
  have hb2 : Below w.heap.size w w2 := hbL.grown hg hbL.size (fun j hj => by cases hj)
  have HA2 := Hid.mk (At.owned ho)
  have HO := Hid.mk ho
  clear hmc ho hg hbL c0 f0
  simp only [World.size_alloc] at hr
  go_enter Try.func79, Try.ntmps79
  go_wp2
  refine bodyPost_ret (v := .agg #[.slice (some ⟨w.heap.size + 1, 0, none⟩) q q]) (by simp [results, Try.results79, go_sem, e2]) rfl ⟨_, _, rfl, fun h => (by cases h), ?_, ?_⟩
  · have h2 := HO.out
    rw [World.size_alloc] at h2
    exact At.owned (ownsRow_setCell_below h2 (by show w.heap.size < _; omega) _)
  · exact hb2.setCell (by show w.heap.size ≤ w.heap.size; omega) _
end Go.Proofs.Ytkcmlphpilggpaa

/- The contract of impl.joinable. -/
namespace Go.Proofs.Ytkcmlphpilggpaa
open Go.RowKit Go.Shelf

theorem lt_belowJ {w w' : World} {k : Nat} (h : k < w.heap.size) (hb : Below w.heap.size w w') : k < w'.heap.size := Nat.lt_of_lt_of_le h hb.size
theorem plain_lens {q : Nat} {ts : List WRow} (h : goodT q ts = true) : ∀ k, k < (ts.filterMap plainG).length → (wat (ts.filterMap plainG) k).1.length = q := by
  refine at_of_mem (Q := fun t => t.1.length = q) fun t ht => ?_
  obtain ⟨s, hs, e⟩ := some_mem (g := plainG) ht
  unfold plainG at e
  split at e
  · cases e; exact (goodT_mem h s hs).2
  · cases e

set_option maxRecDepth 100000 in
set_option maxHeartbeats 8000000 in
theorem joinable_any (a a' ap : Option Addr) (n n' np c c' cp : Nat) (ts ts' : List WRow) (ps : List (List Int)) (q q' : Nat) (w : World) (hz : ts.length = n) (hz' : ts'.length = n') (hzp : ps.length = np) (hg : goodT q ts = true) (hg' : goodT q' ts' = true) (hok : pairsOk ps q q' = true) (ha : AtM w a ts) (ha' : AtM w a' ts') (hap : AtS w ap ps) :
    Calls Try.prog 48 #[.agg #[.int .i64 q, .slice a n c], .agg #[.int .i64 q', .slice a' n' c'], .slice ap np cp] w fun e w' => ∃ r m d cells, e = .returned (.agg #[.int .i64 q, .slice r m d]) ∧ OwnW w' w.heap.size w'.heap.size 99 3 r m d (semiW ts ts' ps) cells ∧ Below w.heap.size w w' := by
  have h6 : q ≤ 6 := by have := inc_range (goodT_parts hg).1; omega
  have h6' : q' ≤ 6 := by have := inc_range (goodT_parts hg').1; omega
  have n60 := goodT_len60 hg
  have n60' := goodT_len60 hg'
  obtain ⟨W, hW⟩ : ∃ W, W = ((w.alloc (.cells #[.int .i64 q, .slice a n c] 47)).alloc (.cells #[.int .i64 q', .slice a' n' c'] 47)).alloc (.cells #[.int .i64 0, .slice none 0 0] 47) := ⟨_, rfl⟩
  have zW : W.heap.size = w.heap.size + 1 + 1 + 1 := by rw [hW]; simp
  have B0 : Below w.heap.size w W := by rw [hW]; exact (((Below.refl _ _).alloc (Nat.le_refl _) _).alloc (by simp) _).alloc (by simp; omega) _
  have s0 : W.cell? ⟨w.heap.size, 0, none⟩ = some (.int .i64 q) := by rw [hW]; exact alloc_keeps (alloc_keeps (pair0 w _ _ _) _) _
  have s1 : W.cell? ⟨w.heap.size, 1, none⟩ = some (.slice a n c) := by rw [hW]; exact alloc_keeps (alloc_keeps (pair1 w _ _ _) _) _
  have g0 : W.heap[w.heap.size + 1 + 1]? = some (.cells #[.int .i64 0, .slice none 0 0] 47 (0, 0)) := by
    rw [hW]
    have := heap_alloc_new ((w.alloc (.cells #[.int .i64 q, .slice a n c] 47)).alloc (.cells #[.int .i64 q', .slice a' n' c'] 47)) (.cells #[.int .i64 0, .slice none 0 0] 47)
    rwa [World.size_alloc, World.size_alloc] at this
  have b0 : W.cell? ⟨w.heap.size + 1, 0, none⟩ = some (.int .i64 q') := by
    rw [hW]; refine alloc_keeps ?_ _; have := pair0 (w.alloc (.cells #[.int .i64 q, .slice a n c] 47)) (.int .i64 q') (.slice a' n' c') 47; rwa [World.size_alloc] at this
  have b1 : W.cell? ⟨w.heap.size + 1, 1, none⟩ = some (.slice a' n' c') := by
    rw [hW]; refine alloc_keeps ?_ _; have := pair1 (w.alloc (.cells #[.int .i64 q, .slice a n c] 47)) (.int .i64 q') (.slice a' n' c') 47; rwa [World.size_alloc] at this
  have HA := Hid.mk (ha.below B0)
  have HA' := Hid.mk (ha'.below B0)
  have HP := Hid.mk (hap.below B0)
  have HG := Hid.mk hg
  have HG' := Hid.mk hg'
  have HOK := Hid.mk hok
  clear ha ha' hap hg hg' hok
  go_enter Try.func48, Try.ntmps48
  go_wp2_with fail
  rw [← hW]
  clear hW
  refine (rowsOf_hands _ _ _ ts' _ _ hz' (by omega) HA'.out).mono ?_
  rintro e w1 ⟨T1, rfl, hH1, hb1⟩
  have B1 := B0.trans (hb1.mono B0.size)
  go_wp2_with fail
  refine (plainRows_hands _ _ ts' _ (enters_of Try.func101 (by kernel_rfl) rfl) hH1).mono ?_
  rintro e w2 ⟨T2, rfl, hH2, hb2⟩
  have B2 := B1.trans (hb2.mono B1.size)
  have hbW2 : Below W.heap.size W w2 := hb1.trans (hb2.mono hb1.size)
  obtain ⟨V, hV⟩ : ∃ V, V = w2.alloc (.cells #[.func (.func 100) #[] #[.pointer (some ⟨T2, 0, none⟩)], .slice ap np cp] 119) := ⟨_, rfl⟩
  have hbV : Below w2.heap.size w2 V := by rw [hV]; exact (Below.refl _ _).alloc (Nat.le_refl _) _
  have BV : Below W.heap.size W V := hbW2.trans (hbV.mono hbW2.size)
  have zV : V.heap.size = w2.heap.size + 1 := by rw [hV]; simp
  have z2 := hbW2.size
  have p0 : V.cell? ⟨w2.heap.size, 0, none⟩ = some (.func (.func 100) #[] #[.pointer (some ⟨T2, 0, none⟩)]) := by rw [hV]; exact pair0 w2 _ _ _
  have p1 : V.cell? ⟨w2.heap.size, 1, none⟩ = some (.slice ap np cp) := by rw [hV]; exact pair1 w2 _ _ _
  have s0 := cell_later BV s0
  have s1 := cell_later BV s1
  have HA := Hid.mk (AtM.below HA.out BV)
  have HSV : Hid (SieveB Try.prog 85 (.agg #[.func (.func 100) #[] #[.pointer (some ⟨T2, 0, none⟩)], .slice ap np cp]) (haveB (ts'.filterMap plainG) ps) (fun zs => zs.length = q) V) :=
    haveOneFor_any _ _ _ ap np cp ps q q' V (enters_of Try.func100 (by kernel_rfl) rfl) (hH2.later hbV) h6 h6' hzp HOK.out (plain_lens HG'.out) (AtS.below HP.out BV)
  have g0 := (BV.block _ (by omega)).trans g0
  have zlt : w.heap.size < V.heap.size := by omega
  have zlt1 : w2.heap.size < V.heap.size := by omega
  have zlt2 : w.heap.size + 1 + 1 < V.heap.size := by omega
  have BWV : Below w.heap.size w V := B0.trans (BV.mono B0.size)
  clear hH1 hH2 hb1 hb2 B1 B2 hbW2 hbV HA' HP b0 b1 BV B0 z2
  have hst : ∀ (a : Addr) (fn : Fn) (first cap : Array Value) (m : Mode) (w : World), (store a (.func fn first cap) m).run Try.prog w = stored Try.prog w a (.func fn first cap) m := fun a fn first cap m w => run_store Try.prog w a _ m rfl
  go_wp2_with (rw [hst])
  rw [← hV]
  clear hV hst
  refine wp_region_held_drew (S := fun w' => w'.cell? ⟨w.heap.size, 0, none⟩ = some (.int .i64 q) ∧ w'.cell? ⟨w.heap.size, 1, none⟩ = some (.slice a n c) ∧ w'.cell? ⟨w2.heap.size, 0, none⟩ = some (.func (.func 100) #[] #[.pointer (some ⟨T2, 0, none⟩)]) ∧ w'.cell? ⟨w2.heap.size, 1, none⟩ = some (.slice ap np cp)) (by kernel_rfl) ?_ (fun hHeld => ?_)
  · (try dsimp only)
    exact ⟨s0, s1, p0, p1⟩
  refine tk 0 ?_
  refine tk 2 ?_
  refine tk 3 ?_
  refine tk 5 ?_
  refine tk 6 ?_
  obtain ⟨u0, hu0⟩ : ∃ u, u = V.drew := ⟨_, rfl⟩
  have Y0 : Below V.heap.size V u0 := by rw [hu0]; exact (Below.refl _ _).drew
  rw [← hu0]
  clear hu0
  refine wpAnyH_ready (rs := [1, 11]) (by kernel_rfl) (by simp) ?_
  refine AllReadyH.cons (o := ?_) ?_ (fun K hK => ?_) ?_
  rotate_left
  · (simp only [List.getElem?_toArray, List.getElem?_cons_zero, List.getElem?_cons_succ]; rfl)
  · go_simp
    go_at_call 82
    refine (rowsOf_hands _ _ _ ts _ u0 hz (by omega) (AtM.below HA.out Y0)).mono ?_
    rintro e wk1 ⟨T3, rfl, hH3, hbk1⟩
    have HBk1 : Below V.heap.size V wk1 := Y0.trans (hbk1.mono Y0.size)
    have HH3 := Hid.mk hH3.all
    clear hH3
    (try go_wp2_with fail)
    refine hK.out _ _ ?_ (fun hHeld' => ?_)
    · (try dsimp only)
      exact ⟨(HBk1.cell zlt).trans s0, (HBk1.cell zlt).trans s1, (HBk1.cell zlt1).trans p0, (HBk1.cell zlt1).trans p1⟩
    clear hK K hHeld
    have hHeld := hHeld'
    clear hHeld'
    (try simp only [Act.put, List.setIfInBounds_toArray, List.set_cons_zero, List.set_cons_succ])
    refine wpAnyH_ready (rs := [4, 11]) (by kernel_rfl) (by simp) ?_
    refine AllReadyH.cons (o := ?_) ?_ (fun K hK => ?_) ?_
    rotate_left
    · (simp only [List.getElem?_toArray, List.getElem?_cons_zero, List.getElem?_cons_succ]; rfl)
    · go_simp
      go_at_call 84
      refine (keptRowsB_hands _ _ _ _ ts _ _ wk1 (enters_of Try.func101 (by kernel_rfl) rfl) (enters_of Try.func85 (by kernel_rfl) rfl) HH3.out (SieveB.later HSV.out HBk1) (at_of_mem (fun t ht => (goodT_mem HG.out t ht).2))).mono ?_
      rintro e wk2 ⟨T4, K4, rfl, hH4, hbk2⟩
      have HBk2 : Below V.heap.size V wk2 := HBk1.trans (hbk2.mono HBk1.size)
      have HH3 := Hid.mk (Hands.later HH3.out hbk2)
      have HH4 := Hid.mk hH4
      clear hH4
      (try go_wp2_with fail)
      refine hK.out _ _ ?_ (fun hHeld' => ?_)
      · (try dsimp only)
        exact ⟨(HBk2.cell zlt).trans s0, (HBk2.cell zlt).trans s1, (HBk2.cell zlt1).trans p0, (HBk2.cell zlt1).trans p1⟩
      clear hK K hHeld
      have hHeld := hHeld'
      clear hHeld'
      (try simp only [Act.put, List.setIfInBounds_toArray, List.set_cons_zero, List.set_cons_succ])
      refine wpAnyH_ready (rs := [7, 11]) (by kernel_rfl) (by simp) ?_
      refine AllReadyH.cons (o := ?_) ?_ (fun K hK => ?_) ?_
      rotate_left
      · (simp only [List.getElem?_toArray, List.getElem?_cons_zero, List.getElem?_cons_succ]; rfl)
      · go_simp
        go_at_call 83
        refine (tableOf_semi _ _ ts ts' ps q wk2 (enters_of Try.func103 (by kernel_rfl) rfl) HH4.out HG.out).mono ?_
        rintro e wk3 ⟨r7, m7, d7, cells7, rfl, ho7, hbk3⟩
        have HBk3 : Below V.heap.size V wk3 := HBk2.trans (hbk3.mono HBk2.size)
        have HO7 := Hid.mk ho7
        have zo7 : V.heap.size ≤ wk2.heap.size := HBk2.size
        clear ho7
        (try go_wp2_with fail)
        refine hK.out _ _ ?_ (fun hHeld' => ?_)
        · (try dsimp only)
          exact ⟨(HBk3.cell zlt).trans s0, (HBk3.cell zlt).trans s1, (HBk3.cell zlt1).trans p0, (HBk3.cell zlt1).trans p1⟩
        clear hK K hHeld
        have hHeld := hHeld'
        clear hHeld'
        (try simp only [Act.put, List.setIfInBounds_toArray, List.set_cons_zero, List.set_cons_succ])
        refine tk 8 ?_
        refine tk 9 ?_
        refine tk 10 ?_
        refine wpAnyH_ready (rs := [11]) (by kernel_rfl) (by simp) ?_
        refine AllReadyH.cons (o := ?_) ?_ (fun K hK => ?_) AllReadyH.nil
        rotate_left
        · (simp only [List.getElem?_toArray, List.getElem?_cons_zero, List.getElem?_cons_succ]; rfl)
        go_simp
        (try go_wp2_with fail)
        refine hK.out _ _ ?_ (fun hHeld' => ?_)
        · (try dsimp only)
          exact ⟨((HBk3.alloc HBk3.size _).cell zlt).trans s0, ((HBk3.alloc HBk3.size _).cell zlt).trans s1, ((HBk3.alloc HBk3.size _).cell zlt1).trans p0, ((HBk3.alloc HBk3.size _).cell zlt1).trans p1⟩
        clear hK K hHeld
        have hHeld := hHeld'
        clear hHeld'
        (try simp only [Act.put, List.setIfInBounds_toArray, List.set_cons_zero, List.set_cons_succ])
        obtain ⟨vk4, hv4⟩ : ∃ u, u = wk3.alloc (.cells #[.int .i64 0, .slice none 0 0] 47) := ⟨_, rfl⟩
        have hbk4 : Below wk3.heap.size wk3 vk4 := by rw [hv4]; exact (Below.refl _ _).alloc (Nat.le_refl _) _
        have HBk4 : Below V.heap.size V vk4 := HBk3.trans (hbk4.mono HBk3.size)
        have HO7 := Hid.mk (OwnWk.below HO7.out hbk4)
        have pb : vk4.heap[wk3.heap.size]? = some (.cells #[.int .i64 0, .slice none 0 0] 47 (0, 0)) := by rw [hv4]; exact heap_alloc_new _ _
        have zpb : V.heap.size ≤ wk3.heap.size := HBk3.size
        have HLT : Hid (wk3.heap.size < vk4.heap.size) := (Array.getElem?_eq_some_iff.1 pb).1
        rw [← hv4]
        clear hv4
        have qs0 := blk_cell pb 0 rfl
        have qs1 := blk_cell pb 1 rfl
        have fs0 := blk_frozen pb 0
        have fs1 := blk_frozen pb 1
        refine wpAnyH_ready (rs := [12]) (by kernel_rfl) (by simp) ?_
        refine AllReadyH.cons (o := ?_) ?_ (fun K hK => ?_) AllReadyH.nil
        rotate_left
        · (simp only [List.getElem?_toArray, List.getElem?_cons_zero, List.getElem?_cons_succ]; rfl)
        go_simp
        (try go_wp2_with fail)
        refine hK.out _ _ ?_ (fun hHeld' => ?_)
        · (try dsimp only)
          exact ⟨(((HBk4.setCell (p := ⟨wk3.heap.size, 0, none⟩) zpb _).setCell (p := ⟨wk3.heap.size, 1, none⟩) zpb _).cell zlt).trans s0, (((HBk4.setCell (p := ⟨wk3.heap.size, 0, none⟩) zpb _).setCell (p := ⟨wk3.heap.size, 1, none⟩) zpb _).cell zlt).trans s1, (((HBk4.setCell (p := ⟨wk3.heap.size, 0, none⟩) zpb _).setCell (p := ⟨wk3.heap.size, 1, none⟩) zpb _).cell zlt1).trans p0, (((HBk4.setCell (p := ⟨wk3.heap.size, 0, none⟩) zpb _).setCell (p := ⟨wk3.heap.size, 1, none⟩) zpb _).cell zlt1).trans p1⟩
        clear hK K hHeld
        have hHeld := hHeld'
        clear hHeld'
        (try simp only [Act.put, List.setIfInBounds_toArray, List.set_cons_zero, List.set_cons_succ])
        refine tk 13 ?_
        refine wpAnyH_done (by kernel_rfl) ?_ _
        have gz := blk_other (blk_other ((HBk4.block _ zlt2).trans g0) (a := ⟨wk3.heap.size, 0, none⟩) (show w.heap.size + 1 + 1 ≠ wk3.heap.size by omega) (.int .i64 q)) (a := ⟨wk3.heap.size, 1, none⟩) (show w.heap.size + 1 + 1 ≠ wk3.heap.size by omega) (.slice r7 m7 d7)
        have pz := blk_set (blk_set pb 0 (.int .i64 q)) 1 (.slice r7 m7 d7)
        have zhi : wk3.heap.size ≤ vk4.heap.size := hbk4.size
        have HOZ := Hid.mk ((OwnWk.setCell HO7.out (a0 := ⟨wk3.heap.size, 0, none⟩) (.inr (Nat.le_refl _)) (.int .i64 q)).setCell (a0 := ⟨wk3.heap.size, 1, none⟩) (.inr (Nat.le_refl _)) (.slice r7 m7 d7))
        have HBZ : Hid (Below w.heap.size w ((vk4.setCell ⟨wk3.heap.size, 0, none⟩ (.int .i64 q)).setCell ⟨wk3.heap.size, 1, none⟩ (.slice r7 m7 d7))) := BWV.trans (((HBk4.setCell (p := ⟨wk3.heap.size, 0, none⟩) zpb _).setCell (p := ⟨wk3.heap.size, 1, none⟩) zpb _).mono BWV.size)
        have zz : ((vk4.setCell ⟨wk3.heap.size, 0, none⟩ (.int .i64 q)).setCell ⟨wk3.heap.size, 1, none⟩ (.slice r7 m7 d7)).heap.size = vk4.heap.size := by simp
        obtain ⟨Z, hZ⟩ : ∃ Z, Z = (vk4.setCell ⟨wk3.heap.size, 0, none⟩ (.int .i64 q)).setCell ⟨wk3.heap.size, 1, none⟩ (.slice r7 m7 d7) := ⟨_, rfl⟩
        rw [← hZ] at gz pz HOZ HBZ zz ⊢
        clear hZ hHeld
        have x0 := blk_cell pz 0 (v := .int .i64 q) rfl
        have x1 := blk_cell pz 1 (v := .slice r7 m7 d7) rfl
        have e0 := blk_cell gz 0 (v := .int .i64 0) rfl
        have e1 := blk_cell gz 1 (v := .slice none 0 0) rfl
        have f0 := blk_frozen gz 0
        have f1 := blk_frozen gz 1
        go_wp2
        refine bodyPost_ret (v := .agg #[.int .i64 q, .slice r7 m7 d7]) (by simp [results, Try.results48, go_sem, e0, e1]) rfl ⟨r7, m7, d7, cells7, rfl, ?_, ?_⟩
        · exact ((OwnWk.setCell HOZ.out (a0 := ⟨w.heap.size + 1 + 1, 0, none⟩) (.inl (by show w.heap.size + 1 + 1 < _; omega)) (.int .i64 q)).setCell (a0 := ⟨w.heap.size + 1 + 1, 1, none⟩) (.inl (by show w.heap.size + 1 + 1 < _; omega)) (.slice r7 m7 d7)).widen (by omega) (by simp; omega) (Nat.le_refl _)
        · exact (HBZ.out.setCell (p := ⟨w.heap.size + 1 + 1, 0, none⟩) (by show w.heap.size ≤ w.heap.size + 1 + 1; omega) _).setCell (p := ⟨w.heap.size + 1 + 1, 1, none⟩) (by show w.heap.size ≤ w.heap.size + 1 + 1; omega) _
      refine AllReadyH.cons (o := ?_) ?_ (fun K hK => ?_) AllReadyH.nil
      rotate_left
      · (simp only [List.getElem?_toArray, List.getElem?_cons_zero, List.getElem?_cons_succ]; rfl)
      · go_simp
        (try go_wp2_with fail)
        refine hK.out _ _ ?_ (fun hHeld' => ?_)
        · (try dsimp only)
          exact ⟨((HBk2.alloc HBk2.size _).cell zlt).trans s0, ((HBk2.alloc HBk2.size _).cell zlt).trans s1, ((HBk2.alloc HBk2.size _).cell zlt1).trans p0, ((HBk2.alloc HBk2.size _).cell zlt1).trans p1⟩
        clear hK K hHeld
        have hHeld := hHeld'
        clear hHeld'
        (try simp only [Act.put, List.setIfInBounds_toArray, List.set_cons_zero, List.set_cons_succ])
        obtain ⟨vk6, hv6⟩ : ∃ u, u = wk2.alloc (.cells #[.int .i64 0, .slice none 0 0] 47) := ⟨_, rfl⟩
        have hbk6 : Below wk2.heap.size wk2 vk6 := by rw [hv6]; exact (Below.refl _ _).alloc (Nat.le_refl _) _
        have HBk6 : Below V.heap.size V vk6 := HBk2.trans (hbk6.mono HBk2.size)
        have HH3 := Hid.mk (Hands.later HH3.out hbk6)
        have HH4 := Hid.mk (Hands.later HH4.out hbk6)
        have pb : vk6.heap[wk2.heap.size]? = some (.cells #[.int .i64 0, .slice none 0 0] 47 (0, 0)) := by rw [hv6]; exact heap_alloc_new _ _
        have zpb : V.heap.size ≤ wk2.heap.size := HBk2.size
        have HLT : Hid (wk2.heap.size < vk6.heap.size) := (Array.getElem?_eq_some_iff.1 pb).1
        rw [← hv6]
        clear hv6
        refine wpAnyH_ready (rs := [7]) (by kernel_rfl) (by simp) ?_
        refine AllReadyH.cons (o := ?_) ?_ (fun K hK => ?_) AllReadyH.nil
        rotate_left
        · (simp only [List.getElem?_toArray, List.getElem?_cons_zero, List.getElem?_cons_succ]; rfl)
        go_simp
        go_at_call 83
        refine (tableOf_semi _ _ ts ts' ps q vk6 (enters_of Try.func103 (by kernel_rfl) rfl) HH4.out HG.out).mono ?_
        rintro e wk7 ⟨r7, m7, d7, cells7, rfl, ho7, hbk7⟩
        have HBk7 : Below V.heap.size V wk7 := HBk6.trans (hbk7.mono HBk6.size)
        have pb := blk_below pb hbk7
        have zsd : wk2.heap.size < vk6.heap.size := HLT.out
        have HO7 := Hid.mk ho7
        have zo7 : V.heap.size ≤ vk6.heap.size := HBk6.size
        clear ho7
        (try go_wp2_with fail)
        refine hK.out _ _ ?_ (fun hHeld' => ?_)
        · (try dsimp only)
          exact ⟨(HBk7.cell zlt).trans s0, (HBk7.cell zlt).trans s1, (HBk7.cell zlt1).trans p0, (HBk7.cell zlt1).trans p1⟩
        clear hK K hHeld
        have hHeld := hHeld'
        clear hHeld'
        (try simp only [Act.put, List.setIfInBounds_toArray, List.set_cons_zero, List.set_cons_succ])
        refine tk 8 ?_
        refine tk 9 ?_
        refine tk 10 ?_
        have qs0 := blk_cell pb 0 rfl
        have qs1 := blk_cell pb 1 rfl
        have fs0 := blk_frozen pb 0
        have fs1 := blk_frozen pb 1
        refine wpAnyH_ready (rs := [12]) (by kernel_rfl) (by simp) ?_
        refine AllReadyH.cons (o := ?_) ?_ (fun K hK => ?_) AllReadyH.nil
        rotate_left
        · (simp only [List.getElem?_toArray, List.getElem?_cons_zero, List.getElem?_cons_succ]; rfl)
        go_simp
        (try go_wp2_with fail)
        refine hK.out _ _ ?_ (fun hHeld' => ?_)
        · (try dsimp only)
          exact ⟨(((HBk7.setCell (p := ⟨wk2.heap.size, 0, none⟩) zpb _).setCell (p := ⟨wk2.heap.size, 1, none⟩) zpb _).cell zlt).trans s0, (((HBk7.setCell (p := ⟨wk2.heap.size, 0, none⟩) zpb _).setCell (p := ⟨wk2.heap.size, 1, none⟩) zpb _).cell zlt).trans s1, (((HBk7.setCell (p := ⟨wk2.heap.size, 0, none⟩) zpb _).setCell (p := ⟨wk2.heap.size, 1, none⟩) zpb _).cell zlt1).trans p0, (((HBk7.setCell (p := ⟨wk2.heap.size, 0, none⟩) zpb _).setCell (p := ⟨wk2.heap.size, 1, none⟩) zpb _).cell zlt1).trans p1⟩
        clear hK K hHeld
        have hHeld := hHeld'
        clear hHeld'
        (try simp only [Act.put, List.setIfInBounds_toArray, List.set_cons_zero, List.set_cons_succ])
        refine tk 13 ?_
        refine wpAnyH_done (by kernel_rfl) ?_ _
        have gz := blk_other (blk_other ((HBk7.block _ zlt2).trans g0) (a := ⟨wk2.heap.size, 0, none⟩) (show w.heap.size + 1 + 1 ≠ wk2.heap.size by omega) (.int .i64 q)) (a := ⟨wk2.heap.size, 1, none⟩) (show w.heap.size + 1 + 1 ≠ wk2.heap.size by omega) (.slice r7 m7 d7)
        have pz := blk_set (blk_set pb 0 (.int .i64 q)) 1 (.slice r7 m7 d7)
        have zside : wk2.heap.size < vk6.heap.size := zsd
        have zhi : wk7.heap.size ≤ wk7.heap.size := Nat.le_refl _
        have HOZ := Hid.mk ((OwnWk.setCell HO7.out (a0 := ⟨wk2.heap.size, 0, none⟩) (.inl zside) (.int .i64 q)).setCell (a0 := ⟨wk2.heap.size, 1, none⟩) (.inl zside) (.slice r7 m7 d7))
        have HBZ : Hid (Below w.heap.size w ((wk7.setCell ⟨wk2.heap.size, 0, none⟩ (.int .i64 q)).setCell ⟨wk2.heap.size, 1, none⟩ (.slice r7 m7 d7))) := BWV.trans (((HBk7.setCell (p := ⟨wk2.heap.size, 0, none⟩) zpb _).setCell (p := ⟨wk2.heap.size, 1, none⟩) zpb _).mono BWV.size)
        have zz : ((wk7.setCell ⟨wk2.heap.size, 0, none⟩ (.int .i64 q)).setCell ⟨wk2.heap.size, 1, none⟩ (.slice r7 m7 d7)).heap.size = wk7.heap.size := by simp
        obtain ⟨Z, hZ⟩ : ∃ Z, Z = (wk7.setCell ⟨wk2.heap.size, 0, none⟩ (.int .i64 q)).setCell ⟨wk2.heap.size, 1, none⟩ (.slice r7 m7 d7) := ⟨_, rfl⟩
        rw [← hZ] at gz pz HOZ HBZ zz ⊢
        clear hZ hHeld
        have x0 := blk_cell pz 0 (v := .int .i64 q) rfl
        have x1 := blk_cell pz 1 (v := .slice r7 m7 d7) rfl
        have e0 := blk_cell gz 0 (v := .int .i64 0) rfl
        have e1 := blk_cell gz 1 (v := .slice none 0 0) rfl
        have f0 := blk_frozen gz 0
        have f1 := blk_frozen gz 1
        go_wp2
        refine bodyPost_ret (v := .agg #[.int .i64 q, .slice r7 m7 d7]) (by simp [results, Try.results48, go_sem, e0, e1]) rfl ⟨r7, m7, d7, cells7, rfl, ?_, ?_⟩
        · exact ((OwnWk.setCell HOZ.out (a0 := ⟨w.heap.size + 1 + 1, 0, none⟩) (.inl (by show w.heap.size + 1 + 1 < _; omega)) (.int .i64 q)).setCell (a0 := ⟨w.heap.size + 1 + 1, 1, none⟩) (.inl (by show w.heap.size + 1 + 1 < _; omega)) (.slice r7 m7 d7)).widen (by omega) (by simp; omega) (Nat.le_refl _)
        · exact (HBZ.out.setCell (p := ⟨w.heap.size + 1 + 1, 0, none⟩) (by show w.heap.size ≤ w.heap.size + 1 + 1; omega) _).setCell (p := ⟨w.heap.size + 1 + 1, 1, none⟩) (by show w.heap.size ≤ w.heap.size + 1 + 1; omega) _
    refine AllReadyH.cons (o := ?_) ?_ (fun K hK => ?_) AllReadyH.nil
    rotate_left
    · (simp only [List.getElem?_toArray, List.getElem?_cons_zero, List.getElem?_cons_succ]; rfl)
    · go_simp
      (try go_wp2_with fail)
      refine hK.out _ _ ?_ (fun hHeld' => ?_)
      · (try dsimp only)
        exact ⟨((HBk1.alloc HBk1.size _).cell zlt).trans s0, ((HBk1.alloc HBk1.size _).cell zlt).trans s1, ((HBk1.alloc HBk1.size _).cell zlt1).trans p0, ((HBk1.alloc HBk1.size _).cell zlt1).trans p1⟩
      clear hK K hHeld
      have hHeld := hHeld'
      clear hHeld'
      (try simp only [Act.put, List.setIfInBounds_toArray, List.set_cons_zero, List.set_cons_succ])
      obtain ⟨vk9, hv9⟩ : ∃ u, u = wk1.alloc (.cells #[.int .i64 0, .slice none 0 0] 47) := ⟨_, rfl⟩
      have hbk9 : Below wk1.heap.size wk1 vk9 := by rw [hv9]; exact (Below.refl _ _).alloc (Nat.le_refl _) _
      have HBk9 : Below V.heap.size V vk9 := HBk1.trans (hbk9.mono HBk1.size)
      have HH3 := Hid.mk (Hands.later HH3.out hbk9)
      have pb : vk9.heap[wk1.heap.size]? = some (.cells #[.int .i64 0, .slice none 0 0] 47 (0, 0)) := by rw [hv9]; exact heap_alloc_new _ _
      have zpb : V.heap.size ≤ wk1.heap.size := HBk1.size
      have HLT : Hid (wk1.heap.size < vk9.heap.size) := (Array.getElem?_eq_some_iff.1 pb).1
      rw [← hv9]
      clear hv9
      refine wpAnyH_ready (rs := [4]) (by kernel_rfl) (by simp) ?_
      refine AllReadyH.cons (o := ?_) ?_ (fun K hK => ?_) AllReadyH.nil
      rotate_left
      · (simp only [List.getElem?_toArray, List.getElem?_cons_zero, List.getElem?_cons_succ]; rfl)
      go_simp
      go_at_call 84
      refine (keptRowsB_hands _ _ _ _ ts _ _ vk9 (enters_of Try.func101 (by kernel_rfl) rfl) (enters_of Try.func85 (by kernel_rfl) rfl) HH3.out (SieveB.later HSV.out HBk9) (at_of_mem (fun t ht => (goodT_mem HG.out t ht).2))).mono ?_
      rintro e wk10 ⟨T4, K4, rfl, hH4, hbk10⟩
      have HBk10 : Below V.heap.size V wk10 := HBk9.trans (hbk10.mono HBk9.size)
      have HH3 := Hid.mk (Hands.later HH3.out hbk10)
      have pb := blk_below pb hbk10
      have HLT := Hid.mk (lt_belowJ HLT.out hbk10)
      have HH4 := Hid.mk hH4
      clear hH4
      (try go_wp2_with fail)
      refine hK.out _ _ ?_ (fun hHeld' => ?_)
      · (try dsimp only)
        exact ⟨(HBk10.cell zlt).trans s0, (HBk10.cell zlt).trans s1, (HBk10.cell zlt1).trans p0, (HBk10.cell zlt1).trans p1⟩
      clear hK K hHeld
      have hHeld := hHeld'
      clear hHeld'
      (try simp only [Act.put, List.setIfInBounds_toArray, List.set_cons_zero, List.set_cons_succ])
      refine wpAnyH_ready (rs := [7]) (by kernel_rfl) (by simp) ?_
      refine AllReadyH.cons (o := ?_) ?_ (fun K hK => ?_) AllReadyH.nil
      rotate_left
      · (simp only [List.getElem?_toArray, List.getElem?_cons_zero, List.getElem?_cons_succ]; rfl)
      go_simp
      go_at_call 83
      refine (tableOf_semi _ _ ts ts' ps q wk10 (enters_of Try.func103 (by kernel_rfl) rfl) HH4.out HG.out).mono ?_
      rintro e wk11 ⟨r7, m7, d7, cells7, rfl, ho7, hbk11⟩
      have HBk11 : Below V.heap.size V wk11 := HBk10.trans (hbk11.mono HBk10.size)
      have pb := blk_below pb hbk11
      have zsd : wk1.heap.size < wk10.heap.size := HLT.out
      have HO7 := Hid.mk ho7
      have zo7 : V.heap.size ≤ wk10.heap.size := HBk10.size
      clear ho7
      (try go_wp2_with fail)
      refine hK.out _ _ ?_ (fun hHeld' => ?_)
      · (try dsimp only)
        exact ⟨(HBk11.cell zlt).trans s0, (HBk11.cell zlt).trans s1, (HBk11.cell zlt1).trans p0, (HBk11.cell zlt1).trans p1⟩
      clear hK K hHeld
      have hHeld := hHeld'
      clear hHeld'
      (try simp only [Act.put, List.setIfInBounds_toArray, List.set_cons_zero, List.set_cons_succ])
      refine tk 8 ?_
      refine tk 9 ?_
      refine tk 10 ?_
      have qs0 := blk_cell pb 0 rfl
      have qs1 := blk_cell pb 1 rfl
      have fs0 := blk_frozen pb 0
      have fs1 := blk_frozen pb 1
      refine wpAnyH_ready (rs := [12]) (by kernel_rfl) (by simp) ?_
      refine AllReadyH.cons (o := ?_) ?_ (fun K hK => ?_) AllReadyH.nil
      rotate_left
      · (simp only [List.getElem?_toArray, List.getElem?_cons_zero, List.getElem?_cons_succ]; rfl)
      go_simp
      (try go_wp2_with fail)
      refine hK.out _ _ ?_ (fun hHeld' => ?_)
      · (try dsimp only)
        exact ⟨(((HBk11.setCell (p := ⟨wk1.heap.size, 0, none⟩) zpb _).setCell (p := ⟨wk1.heap.size, 1, none⟩) zpb _).cell zlt).trans s0, (((HBk11.setCell (p := ⟨wk1.heap.size, 0, none⟩) zpb _).setCell (p := ⟨wk1.heap.size, 1, none⟩) zpb _).cell zlt).trans s1, (((HBk11.setCell (p := ⟨wk1.heap.size, 0, none⟩) zpb _).setCell (p := ⟨wk1.heap.size, 1, none⟩) zpb _).cell zlt1).trans p0, (((HBk11.setCell (p := ⟨wk1.heap.size, 0, none⟩) zpb _).setCell (p := ⟨wk1.heap.size, 1, none⟩) zpb _).cell zlt1).trans p1⟩
      clear hK K hHeld
      have hHeld := hHeld'
      clear hHeld'
      (try simp only [Act.put, List.setIfInBounds_toArray, List.set_cons_zero, List.set_cons_succ])
      refine tk 13 ?_
      refine wpAnyH_done (by kernel_rfl) ?_ _
      have gz := blk_other (blk_other ((HBk11.block _ zlt2).trans g0) (a := ⟨wk1.heap.size, 0, none⟩) (show w.heap.size + 1 + 1 ≠ wk1.heap.size by omega) (.int .i64 q)) (a := ⟨wk1.heap.size, 1, none⟩) (show w.heap.size + 1 + 1 ≠ wk1.heap.size by omega) (.slice r7 m7 d7)
      have pz := blk_set (blk_set pb 0 (.int .i64 q)) 1 (.slice r7 m7 d7)
      have zside : wk1.heap.size < wk10.heap.size := zsd
      have zhi : wk11.heap.size ≤ wk11.heap.size := Nat.le_refl _
      have HOZ := Hid.mk ((OwnWk.setCell HO7.out (a0 := ⟨wk1.heap.size, 0, none⟩) (.inl zside) (.int .i64 q)).setCell (a0 := ⟨wk1.heap.size, 1, none⟩) (.inl zside) (.slice r7 m7 d7))
      have HBZ : Hid (Below w.heap.size w ((wk11.setCell ⟨wk1.heap.size, 0, none⟩ (.int .i64 q)).setCell ⟨wk1.heap.size, 1, none⟩ (.slice r7 m7 d7))) := BWV.trans (((HBk11.setCell (p := ⟨wk1.heap.size, 0, none⟩) zpb _).setCell (p := ⟨wk1.heap.size, 1, none⟩) zpb _).mono BWV.size)
      have zz : ((wk11.setCell ⟨wk1.heap.size, 0, none⟩ (.int .i64 q)).setCell ⟨wk1.heap.size, 1, none⟩ (.slice r7 m7 d7)).heap.size = wk11.heap.size := by simp
      obtain ⟨Z, hZ⟩ : ∃ Z, Z = (wk11.setCell ⟨wk1.heap.size, 0, none⟩ (.int .i64 q)).setCell ⟨wk1.heap.size, 1, none⟩ (.slice r7 m7 d7) := ⟨_, rfl⟩
      rw [← hZ] at gz pz HOZ HBZ zz ⊢
      clear hZ hHeld
      have x0 := blk_cell pz 0 (v := .int .i64 q) rfl
      have x1 := blk_cell pz 1 (v := .slice r7 m7 d7) rfl
      have e0 := blk_cell gz 0 (v := .int .i64 0) rfl
      have e1 := blk_cell gz 1 (v := .slice none 0 0) rfl
      have f0 := blk_frozen gz 0
      have f1 := blk_frozen gz 1
      go_wp2
      refine bodyPost_ret (v := .agg #[.int .i64 q, .slice r7 m7 d7]) (by simp [results, Try.results48, go_sem, e0, e1]) rfl ⟨r7, m7, d7, cells7, rfl, ?_, ?_⟩
      · exact ((OwnWk.setCell HOZ.out (a0 := ⟨w.heap.size + 1 + 1, 0, none⟩) (.inl (by show w.heap.size + 1 + 1 < _; omega)) (.int .i64 q)).setCell (a0 := ⟨w.heap.size + 1 + 1, 1, none⟩) (.inl (by show w.heap.size + 1 + 1 < _; omega)) (.slice r7 m7 d7)).widen (by omega) (by simp; omega) (Nat.le_refl _)
      · exact (HBZ.out.setCell (p := ⟨w.heap.size + 1 + 1, 0, none⟩) (by show w.heap.size ≤ w.heap.size + 1 + 1; omega) _).setCell (p := ⟨w.heap.size + 1 + 1, 1, none⟩) (by show w.heap.size ≤ w.heap.size + 1 + 1; omega) _
  refine AllReadyH.cons (o := ?_) ?_ (fun K hK => ?_) AllReadyH.nil
  rotate_left
  · (simp only [List.getElem?_toArray, List.getElem?_cons_zero, List.getElem?_cons_succ]; rfl)
  · go_simp
    (try go_wp2_with fail)
    refine hK.out _ _ ?_ (fun hHeld' => ?_)
    · (try dsimp only)
      exact ⟨((Y0.alloc Y0.size _).cell zlt).trans s0, ((Y0.alloc Y0.size _).cell zlt).trans s1, ((Y0.alloc Y0.size _).cell zlt1).trans p0, ((Y0.alloc Y0.size _).cell zlt1).trans p1⟩
    clear hK K hHeld
    have hHeld := hHeld'
    clear hHeld'
    (try simp only [Act.put, List.setIfInBounds_toArray, List.set_cons_zero, List.set_cons_succ])
    obtain ⟨vk13, hv13⟩ : ∃ u, u = u0.alloc (.cells #[.int .i64 0, .slice none 0 0] 47) := ⟨_, rfl⟩
    have hbk13 : Below u0.heap.size u0 vk13 := by rw [hv13]; exact (Below.refl _ _).alloc (Nat.le_refl _) _
    have HBk13 : Below V.heap.size V vk13 := Y0.trans (hbk13.mono Y0.size)
    have pb : vk13.heap[u0.heap.size]? = some (.cells #[.int .i64 0, .slice none 0 0] 47 (0, 0)) := by rw [hv13]; exact heap_alloc_new _ _
    have zpb : V.heap.size ≤ u0.heap.size := Y0.size
    have HLT : Hid (u0.heap.size < vk13.heap.size) := (Array.getElem?_eq_some_iff.1 pb).1
    rw [← hv13]
    clear hv13
    refine wpAnyH_ready (rs := [1]) (by kernel_rfl) (by simp) ?_
    refine AllReadyH.cons (o := ?_) ?_ (fun K hK => ?_) AllReadyH.nil
    rotate_left
    · (simp only [List.getElem?_toArray, List.getElem?_cons_zero, List.getElem?_cons_succ]; rfl)
    go_simp
    go_at_call 82
    refine (rowsOf_hands _ _ _ ts _ vk13 hz (by omega) (AtM.below HA.out HBk13)).mono ?_
    rintro e wk14 ⟨T3, rfl, hH3, hbk14⟩
    have HBk14 : Below V.heap.size V wk14 := HBk13.trans (hbk14.mono HBk13.size)
    have pb := blk_below pb hbk14
    have HLT := Hid.mk (lt_belowJ HLT.out hbk14)
    have HH3 := Hid.mk hH3.all
    clear hH3
    (try go_wp2_with fail)
    refine hK.out _ _ ?_ (fun hHeld' => ?_)
    · (try dsimp only)
      exact ⟨(HBk14.cell zlt).trans s0, (HBk14.cell zlt).trans s1, (HBk14.cell zlt1).trans p0, (HBk14.cell zlt1).trans p1⟩
    clear hK K hHeld
    have hHeld := hHeld'
    clear hHeld'
    (try simp only [Act.put, List.setIfInBounds_toArray, List.set_cons_zero, List.set_cons_succ])
    refine wpAnyH_ready (rs := [4]) (by kernel_rfl) (by simp) ?_
    refine AllReadyH.cons (o := ?_) ?_ (fun K hK => ?_) AllReadyH.nil
    rotate_left
    · (simp only [List.getElem?_toArray, List.getElem?_cons_zero, List.getElem?_cons_succ]; rfl)
    go_simp
    go_at_call 84
    refine (keptRowsB_hands _ _ _ _ ts _ _ wk14 (enters_of Try.func101 (by kernel_rfl) rfl) (enters_of Try.func85 (by kernel_rfl) rfl) HH3.out (SieveB.later HSV.out HBk14) (at_of_mem (fun t ht => (goodT_mem HG.out t ht).2))).mono ?_
    rintro e wk15 ⟨T4, K4, rfl, hH4, hbk15⟩
    have HBk15 : Below V.heap.size V wk15 := HBk14.trans (hbk15.mono HBk14.size)
    have pb := blk_below pb hbk15
    have HLT := Hid.mk (lt_belowJ HLT.out hbk15)
    have HH3 := Hid.mk (Hands.later HH3.out hbk15)
    have HH4 := Hid.mk hH4
    clear hH4
    (try go_wp2_with fail)
    refine hK.out _ _ ?_ (fun hHeld' => ?_)
    · (try dsimp only)
      exact ⟨(HBk15.cell zlt).trans s0, (HBk15.cell zlt).trans s1, (HBk15.cell zlt1).trans p0, (HBk15.cell zlt1).trans p1⟩
    clear hK K hHeld
    have hHeld := hHeld'
    clear hHeld'
    (try simp only [Act.put, List.setIfInBounds_toArray, List.set_cons_zero, List.set_cons_succ])
    refine wpAnyH_ready (rs := [7]) (by kernel_rfl) (by simp) ?_
    refine AllReadyH.cons (o := ?_) ?_ (fun K hK => ?_) AllReadyH.nil
    rotate_left
    · (simp only [List.getElem?_toArray, List.getElem?_cons_zero, List.getElem?_cons_succ]; rfl)
    go_simp
    go_at_call 83
    refine (tableOf_semi _ _ ts ts' ps q wk15 (enters_of Try.func103 (by kernel_rfl) rfl) HH4.out HG.out).mono ?_
    rintro e wk16 ⟨r7, m7, d7, cells7, rfl, ho7, hbk16⟩
    have HBk16 : Below V.heap.size V wk16 := HBk15.trans (hbk16.mono HBk15.size)
    have pb := blk_below pb hbk16
    have zsd : u0.heap.size < wk15.heap.size := HLT.out
    have HO7 := Hid.mk ho7
    have zo7 : V.heap.size ≤ wk15.heap.size := HBk15.size
    clear ho7
    (try go_wp2_with fail)
    refine hK.out _ _ ?_ (fun hHeld' => ?_)
    · (try dsimp only)
      exact ⟨(HBk16.cell zlt).trans s0, (HBk16.cell zlt).trans s1, (HBk16.cell zlt1).trans p0, (HBk16.cell zlt1).trans p1⟩
    clear hK K hHeld
    have hHeld := hHeld'
    clear hHeld'
    (try simp only [Act.put, List.setIfInBounds_toArray, List.set_cons_zero, List.set_cons_succ])
    refine tk 8 ?_
    refine tk 9 ?_
    refine tk 10 ?_
    have qs0 := blk_cell pb 0 rfl
    have qs1 := blk_cell pb 1 rfl
    have fs0 := blk_frozen pb 0
    have fs1 := blk_frozen pb 1
    refine wpAnyH_ready (rs := [12]) (by kernel_rfl) (by simp) ?_
    refine AllReadyH.cons (o := ?_) ?_ (fun K hK => ?_) AllReadyH.nil
    rotate_left
    · (simp only [List.getElem?_toArray, List.getElem?_cons_zero, List.getElem?_cons_succ]; rfl)
    go_simp
    (try go_wp2_with fail)
    refine hK.out _ _ ?_ (fun hHeld' => ?_)
    · (try dsimp only)
      exact ⟨(((HBk16.setCell (p := ⟨u0.heap.size, 0, none⟩) zpb _).setCell (p := ⟨u0.heap.size, 1, none⟩) zpb _).cell zlt).trans s0, (((HBk16.setCell (p := ⟨u0.heap.size, 0, none⟩) zpb _).setCell (p := ⟨u0.heap.size, 1, none⟩) zpb _).cell zlt).trans s1, (((HBk16.setCell (p := ⟨u0.heap.size, 0, none⟩) zpb _).setCell (p := ⟨u0.heap.size, 1, none⟩) zpb _).cell zlt1).trans p0, (((HBk16.setCell (p := ⟨u0.heap.size, 0, none⟩) zpb _).setCell (p := ⟨u0.heap.size, 1, none⟩) zpb _).cell zlt1).trans p1⟩
    clear hK K hHeld
    have hHeld := hHeld'
    clear hHeld'
    (try simp only [Act.put, List.setIfInBounds_toArray, List.set_cons_zero, List.set_cons_succ])
    refine tk 13 ?_
    refine wpAnyH_done (by kernel_rfl) ?_ _
    have gz := blk_other (blk_other ((HBk16.block _ zlt2).trans g0) (a := ⟨u0.heap.size, 0, none⟩) (show w.heap.size + 1 + 1 ≠ u0.heap.size by omega) (.int .i64 q)) (a := ⟨u0.heap.size, 1, none⟩) (show w.heap.size + 1 + 1 ≠ u0.heap.size by omega) (.slice r7 m7 d7)
    have pz := blk_set (blk_set pb 0 (.int .i64 q)) 1 (.slice r7 m7 d7)
    have zside : u0.heap.size < wk15.heap.size := zsd
    have zhi : wk16.heap.size ≤ wk16.heap.size := Nat.le_refl _
    have HOZ := Hid.mk ((OwnWk.setCell HO7.out (a0 := ⟨u0.heap.size, 0, none⟩) (.inl zside) (.int .i64 q)).setCell (a0 := ⟨u0.heap.size, 1, none⟩) (.inl zside) (.slice r7 m7 d7))
    have HBZ : Hid (Below w.heap.size w ((wk16.setCell ⟨u0.heap.size, 0, none⟩ (.int .i64 q)).setCell ⟨u0.heap.size, 1, none⟩ (.slice r7 m7 d7))) := BWV.trans (((HBk16.setCell (p := ⟨u0.heap.size, 0, none⟩) zpb _).setCell (p := ⟨u0.heap.size, 1, none⟩) zpb _).mono BWV.size)
    have zz : ((wk16.setCell ⟨u0.heap.size, 0, none⟩ (.int .i64 q)).setCell ⟨u0.heap.size, 1, none⟩ (.slice r7 m7 d7)).heap.size = wk16.heap.size := by simp
    obtain ⟨Z, hZ⟩ : ∃ Z, Z = (wk16.setCell ⟨u0.heap.size, 0, none⟩ (.int .i64 q)).setCell ⟨u0.heap.size, 1, none⟩ (.slice r7 m7 d7) := ⟨_, rfl⟩
    rw [← hZ] at gz pz HOZ HBZ zz ⊢
    clear hZ hHeld
    have x0 := blk_cell pz 0 (v := .int .i64 q) rfl
    have x1 := blk_cell pz 1 (v := .slice r7 m7 d7) rfl
    have e0 := blk_cell gz 0 (v := .int .i64 0) rfl
    have e1 := blk_cell gz 1 (v := .slice none 0 0) rfl
    have f0 := blk_frozen gz 0
    have f1 := blk_frozen gz 1
    go_wp2
    refine bodyPost_ret (v := .agg #[.int .i64 q, .slice r7 m7 d7]) (by simp [results, Try.results48, go_sem, e0, e1]) rfl ⟨r7, m7, d7, cells7, rfl, ?_, ?_⟩
    · exact ((OwnWk.setCell HOZ.out (a0 := ⟨w.heap.size + 1 + 1, 0, none⟩) (.inl (by show w.heap.size + 1 + 1 < _; omega)) (.int .i64 q)).setCell (a0 := ⟨w.heap.size + 1 + 1, 1, none⟩) (.inl (by show w.heap.size + 1 + 1 < _; omega)) (.slice r7 m7 d7)).widen (by omega) (by simp; omega) (Nat.le_refl _)
    · exact (HBZ.out.setCell (p := ⟨w.heap.size + 1 + 1, 0, none⟩) (by show w.heap.size ≤ w.heap.size + 1 + 1; omega) _).setCell (p := ⟨w.heap.size + 1 + 1, 1, none⟩) (by show w.heap.size ≤ w.heap.size + 1 + 1; omega) _

end Go.Proofs.Ytkcmlphpilggpaa
