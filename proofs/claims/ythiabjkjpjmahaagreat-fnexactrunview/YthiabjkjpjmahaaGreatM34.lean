/- Contracts of spec.JoinTables and impl.JoinTables. -/
import Derived.Test.YthiabjkjpjmahaaGreatM22
import Derived.Test.YthiabjkjpjmahaaGreatM33
import Derived.Test.YthiabjkjpjmahaaGreatM29
import Derived.Test.YthiabjkjpjmahaaGreatM17
import Derived.Test.YthiabjkjpjmahaaGreatM11
import Derived.Deep.DeepCutAuto
namespace Go.Proofs.YthiabjkjpjmahaaGreat
open Go.RowKit Go.Shelf

theorem AtS.drew {w : World} {a : Option Addr} {zss : List (List Int)} (h : AtS w a zss) : AtS w.drew a zss := h.below (Below.refl _ _).drew

set_option maxRecDepth 100000 in
set_option maxHeartbeats 16000000 in
theorem implJoinTables (a a' ap : Option Addr) (n n' np c c' cp : Nat) (ts ts' : List WRow) (ps : List (List Int)) (p p' : Int) (w : World) (hz : ts.length = n) (hz' : ts'.length = n') (hzp : ps.length = np) (hn : n ≤ 1048576) (hn' : n' ≤ 1048576) (hnp : np ≤ 1048576) (ha : AtM w a ts) (ha' : AtM w a' ts') (hap : AtS w ap ps) :
   Calls Tryz.prog 110 #[.agg #[.int .i64 p, .slice a n c], .agg #[.int .i64 p', .slice a' n' c'], .slice ap np cp] w fun e w' => TabAns e w' w.heap.size (joinB p p' ts ts' ps) (joinC p p' ps) (joinW ts ts' ps) ∧ Below w.heap.size w w' := by
  obtain ⟨W, hW⟩ : ∃ W, W = ((w.alloc (.cells #[.int .i64 p, .slice a n c] 32)).alloc (.cells #[.int .i64 p', .slice a' n' c'] 32)).alloc (.cells #[.int .i64 0, .slice none 0 0] 32) := ⟨_, rfl⟩
  have zW : W.heap.size = w.heap.size + 1 + 1 + 1 := by rw [hW]; simp
  have B0 : Below w.heap.size w W := by rw [hW]; exact (((Below.refl _ _).alloc (Nat.le_refl _) _).alloc (by simp) _).alloc (by simp; omega) _
  have c0 : W.cell? ⟨w.heap.size, 0, none⟩ = some (.int .i64 p) := by rw [hW]; exact alloc_keeps (alloc_keeps (pair0 w _ _ _) _) _
  have c1 : W.cell? ⟨w.heap.size, 1, none⟩ = some (.slice a n c) := by rw [hW]; exact alloc_keeps (alloc_keeps (pair1 w _ _ _) _) _
  have b1 : W.cell? ⟨w.heap.size + 1, 1, none⟩ = some (.slice a' n' c') := by rw [hW]; refine alloc_keeps ?_ _; have := pair1 (w.alloc (.cells #[.int .i64 p, .slice a n c] 32)) (.int .i64 p') (.slice a' n' c') 32; rwa [World.size_alloc] at this
  have b0 : W.cell? ⟨w.heap.size + 1, 0, none⟩ = some (.int .i64 p') := by rw [hW]; refine alloc_keeps ?_ _; have := pair0 (w.alloc (.cells #[.int .i64 p, .slice a n c] 32)) (.int .i64 p') (.slice a' n' c') 32; rwa [World.size_alloc] at this
  have q0 : W.heap[w.heap.size + 1 + 1]? = some (.cells #[.int .i64 0, .slice none 0 0] 32 (0, 0)) := by
   rw [hW]
   have := heap_alloc_new ((w.alloc (.cells #[.int .i64 p, .slice a n c] 32)).alloc (.cells #[.int .i64 p', .slice a' n' c'] 32)) (.cells #[.int .i64 0, .slice none 0 0] 32)
   rwa [World.size_alloc, World.size_alloc] at this
  have e0 : W.cell? ⟨w.heap.size + 1 + 1, 0, none⟩ = some (.int .i64 0) := by rw [cell_of_row _ _ 0 _ _ (0, 0) q0]; rfl
  have e1 : W.cell? ⟨w.heap.size + 1 + 1, 1, none⟩ = some (.slice none 0 0) := by rw [cell_of_row _ _ 1 _ _ (0, 0) q0]; rfl
  have f0 : W.frozen? ⟨w.heap.size + 1 + 1, 0, none⟩ = false := frozen_of_row _ _ 0 _ _ q0
  have f1 : W.frozen? ⟨w.heap.size + 1 + 1, 1, none⟩ = false := frozen_of_row _ _ 1 _ _ q0
  have HA := ha.below B0
  have HA' := ha'.below B0
  clear ha ha' q0
  have HP := hap.below B0
  clear hap
  cases hg : goodT p ts with
  | false =>
   have HG := Hid.mk hg
   clear hg
   go_enter Tryz.func110, Tryz.ntmps110
   go_wp2_with fail
   rw [← hW]
   clear hW
   refine (implGoodTable_any _ _ _ ts _ _ hz hn HA.atW).mono ?_
   rintro e w1 ⟨rfl, hb1⟩
   rw [HG.out]
   have B1 := B0.trans (hb1.mono B0.size)
   have f0 := frozen_later hb1 e0 f0
   have f1 := frozen_later hb1 e1 f1
   have e0 := cell_later hb1 e0
   have e1 := cell_later hb1 e1
   have c0 := cell_later hb1 c0
   have c1 := cell_later hb1 c1
   have b0 := cell_later hb1 b0
   have b1 := cell_later hb1 b1
   have HA := HA.below hb1
   have HA' := HA'.below hb1
   have HP := HP.below hb1
   clear hb1
   go_wp2
   refine bodyPost_ret (v := .tuple #[.agg #[.int .i64 0, .slice none 0 0], .bool false]) (by simp [results, Tryz.results110, go_sem, e0, e1]) rfl ⟨TabAns.zero (joinB_a HG.out) rfl, ?_⟩
   exact (B1.setCell (by show w.heap.size ≤ w.heap.size + 1 + 1; omega) _).setCell (by show w.heap.size ≤ w.heap.size + 1 + 1; omega) _
  | true =>
   have HG := Hid.mk hg
   clear hg
   cases hg' : goodT p' ts' with
   | false =>
    have HG' := Hid.mk hg'
    clear hg'
    go_enter Tryz.func110, Tryz.ntmps110
    go_wp2_with fail
    rw [← hW]
    clear hW
    refine (implGoodTable_any _ _ _ ts _ _ hz hn HA.atW).mono ?_
    rintro e w1 ⟨rfl, hb1⟩
    rw [HG.out]
    have B1 := B0.trans (hb1.mono B0.size)
    have f0 := frozen_later hb1 e0 f0
    have f1 := frozen_later hb1 e1 f1
    have e0 := cell_later hb1 e0
    have e1 := cell_later hb1 e1
    have c0 := cell_later hb1 c0
    have c1 := cell_later hb1 c1
    have b0 := cell_later hb1 b0
    have b1 := cell_later hb1 b1
    have HA := HA.below hb1
    have HA' := HA'.below hb1
    have HP := HP.below hb1
    clear hb1
    go_wp2_with fail
    refine (implGoodTable_any _ _ _ ts' _ _ hz' hn' HA'.atW).mono ?_
    rintro e w2 ⟨rfl, hb2⟩
    rw [HG'.out]
    have B2 := B1.trans (hb2.mono B1.size)
    have f0 := frozen_later hb2 e0 f0
    have f1 := frozen_later hb2 e1 f1
    have e0 := cell_later hb2 e0
    have e1 := cell_later hb2 e1
    have c0 := cell_later hb2 c0
    have c1 := cell_later hb2 c1
    have b0 := cell_later hb2 b0
    have b1 := cell_later hb2 b1
    have HA := HA.below hb2
    have HA' := HA'.below hb2
    have HP := HP.below hb2
    clear hb2
    go_wp2
    refine bodyPost_ret (v := .tuple #[.agg #[.int .i64 0, .slice none 0 0], .bool false]) (by simp [results, Tryz.results110, go_sem, e0, e1]) rfl ⟨TabAns.zero (joinB_b HG'.out) rfl, ?_⟩
    exact (B2.setCell (by show w.heap.size ≤ w.heap.size + 1 + 1; omega) _).setCell (by show w.heap.size ≤ w.heap.size + 1 + 1; omega) _
   | true =>
    have HG' := Hid.mk hg'
    clear hg'
    obtain ⟨q, hq⟩ : ∃ q : Nat, p = q := ⟨p.toNat, by have := inc_range (goodT_parts HG.out).1; omega⟩
    subst hq
    have h6 : q ≤ 6 := by have := inc_range (goodT_parts HG.out).1; omega
    obtain ⟨q', hq'⟩ : ∃ q' : Nat, p' = q' := ⟨p'.toNat, by have := inc_range (goodT_parts HG'.out).1; omega⟩
    subst hq'
    have h6' : q' ≤ 6 := by have := inc_range (goodT_parts HG'.out).1; omega
    have n60 := goodT_len60 HG.out
    have n60' := goodT_len60 HG'.out
    obtain ⟨ok, hok⟩ : ∃ ok, ok = joinOk (List.replicate q 0) (List.replicate q' 0) ps := ⟨_, rfl⟩
    have HOK := Hid.mk hok
    have HON : Hid (ok = (pairsOk ps q q' && decide (joinC q q' ps ≤ 6))) := by show _ = _; rw [hok, joinOk_noughts h6 h6']
    clear hok
    go_enter Tryz.func110, Tryz.ntmps110
    go_wp2_with fail
    rw [← hW]
    clear hW
    refine (implGoodTable_any _ _ _ ts _ _ hz hn HA.atW).mono ?_
    rintro e w1 ⟨rfl, hb1⟩
    rw [HG.out]
    have B1 := B0.trans (hb1.mono B0.size)
    have f0 := frozen_later hb1 e0 f0
    have f1 := frozen_later hb1 e1 f1
    have e0 := cell_later hb1 e0
    have e1 := cell_later hb1 e1
    have c0 := cell_later hb1 c0
    have c1 := cell_later hb1 c1
    have b0 := cell_later hb1 b0
    have b1 := cell_later hb1 b1
    have HA := HA.below hb1
    have HA' := HA'.below hb1
    have HP := HP.below hb1
    clear hb1
    go_wp2_with fail
    refine (implGoodTable_any _ _ _ ts' _ _ hz' hn' HA'.atW).mono ?_
    rintro e w2 ⟨rfl, hb2⟩
    rw [HG'.out]
    have B2 := B1.trans (hb2.mono B1.size)
    have f0 := frozen_later hb2 e0 f0
    have f1 := frozen_later hb2 e1 f1
    have e0 := cell_later hb2 e0
    have e1 := cell_later hb2 e1
    have c0 := cell_later hb2 c0
    have c1 := cell_later hb2 c1
    have b0 := cell_later hb2 b0
    have b1 := cell_later hb2 b1
    have HA := HA.below hb2
    have HA' := HA'.below hb2
    have HP := HP.below hb2
    clear hb2
    have zR0 : Hid (w.heap.size + 1 + 1 < w2.heap.size) := World.block_lt_of_cell? _ _ e0
    go_upto_region 3 with fail
    go_cut [8, 9] (fun ta tb wx => ∃ (Pb : Nat) (r : Option Addr) (m d : Nat), ta = .pointer (some ⟨Pb, 0, none⟩) ∧ tb = .bool ok ∧ wx.cell? ⟨Pb, 0, none⟩ = some (.slice r m d) ∧ (joinAns (List.replicate q 0) (List.replicate q' 0) ps).length = m ∧ w2.heap.size ≤ Pb ∧ Pb < wx.heap.size ∧ Below w2.heap.size w2 wx)
    case first =>
     refine wp_region_held_drew (S := fun w' => w'.cell? ⟨w.heap.size, 0, none⟩ = some (.int .i64 q) ∧ w'.cell? ⟨w.heap.size + 1, 0, none⟩ = some (.int .i64 q')) (by kernel_rfl) ?_ (fun hHeld => ?_)
     ·(try dsimp only)
      exact ⟨c0, b0⟩
     refine tk 0 ?_
     refine tk 1 ?_
     refine tk 3 ?_
     refine tk 4 ?_
     refine tk 6 ?_
     obtain ⟨u0, hu0⟩ : ∃ u, u = w2.drew := ⟨_, rfl⟩
     have Y0 : Below w2.heap.size w2 u0 := by rw [hu0]; exact (Below.refl _ _).drew
     rw [← hu0]
     clear hu0
     have k0_0 := cell_later Y0 c0
     have k1_0 := cell_later Y0 b0
     have P_0 := HP.below Y0
     have zz0 := Y0.size
     refine wpAnyH_ready (rs := [2, 11]) (by kernel_rfl) (by simp) ?_
     refine AllReadyH.cons (o := ?_) ?_ (fun K hK => ?_) ?_
     rotate_left
     ·(simp only [List.getElem?_toArray, List.getElem?_cons_zero, List.getElem?_cons_succ]; rfl)
     ·go_simp
      go_at_call 146
      refine (noughts_any q _ h6).mono ?_
      rintro e v1 ⟨r1, d1, rfl, n1, a1, hb1⟩
      have k0_1 := cell_later hb1 k0_0
      have k1_1 := cell_later hb1 k1_0
      have P_1 := P_0.below hb1
      have Y1 := Y0.trans (hb1.mono Y0.size)
      have zz1 := Y1.size
      have zw1 := hb1.size
      (try go_wp2_with fail)
      refine hK.out _ _ ?_ (fun hHeld' => ?_)
      ·(try dsimp only)
       exact ⟨k0_1, k1_1⟩
      clear hK K hHeld
      have hHeld := hHeld'
      clear hHeld'
      (try simp only [Act.put, List.setIfInBounds_toArray, List.set_cons_zero, List.set_cons_succ])
      refine wpAnyH_ready (rs := [5, 11]) (by kernel_rfl) (by simp) ?_
      refine AllReadyH.cons (o := ?_) ?_ (fun K hK => ?_) ?_
      rotate_left
      ·(simp only [List.getElem?_toArray, List.getElem?_cons_zero, List.getElem?_cons_succ]; rfl)
      ·go_simp
       go_at_call 146
       refine (noughts_any q' _ h6').mono ?_
       rintro e v2 ⟨r2, d2, rfl, n2, a2, hb2⟩
       have k0_2 := cell_later hb2 k0_1
       have k1_2 := cell_later hb2 k1_1
       have P_2 := P_1.below hb2
       have Y2 := Y1.trans (hb2.mono Y1.size)
       have zz2 := Y2.size
       have zw2 := hb2.size
       have A0_2 := a1.below hb2
       (try go_wp2_with fail)
       refine hK.out _ _ ?_ (fun hHeld' => ?_)
       ·(try dsimp only)
        exact ⟨k0_2, k1_2⟩
       clear hK K hHeld
       have hHeld := hHeld'
       clear hHeld'
       (try simp only [Act.put, List.setIfInBounds_toArray, List.set_cons_zero, List.set_cons_succ])
       refine wpAnyH_ready (rs := [7, 11]) (by kernel_rfl) (by simp) ?_
       refine AllReadyH.cons (o := ?_) ?_ (fun K hK => ?_) ?_
       rotate_left
       ·(simp only [List.getElem?_toArray, List.getElem?_cons_zero, List.getElem?_cons_succ]; rfl)
       ·go_simp
        go_at_call 148
        refine (implJoinRows _ _ _ _ _ _ (List.replicate q 0) (List.replicate q' 0) _ _ _ ps _ (by simp) (by simp) hzp (by omega) (by omega) (by omega) n1 A0_2 a2 P_2).mono ?_
        rintro e v3 ⟨r3, m3, d3, rfl, hm3, ho3, hb3⟩
        rw [← HOK.out]
        have k0_3 := cell_later hb3 k0_2
        have k1_3 := cell_later hb3 k1_2
        have P_3 := P_2.below hb3
        have Y3 := Y2.trans (hb3.mono Y2.size)
        have zz3 := Y3.size
        have zw3 := hb3.size
        have A0_3 := A0_2.below hb3
        have A1_3 := a2.below hb3
        (try go_wp2_with fail)
        refine hK.out _ _ ?_ (fun hHeld' => ?_)
        ·(try dsimp only)
         exact ⟨k0_3, k1_3⟩
        clear hK K hHeld
        have hHeld := hHeld'
        clear hHeld'
        (try simp only [Act.put, List.setIfInBounds_toArray, List.set_cons_zero, List.set_cons_succ])
        refine tk 8 ?_
        refine tk 9 ?_
        refine tk 10 ?_
        refine tr 11 (fun K hK => ?_)
        go_simp
        skip
        (try go_wp2_with fail)
        refine hK.out _ _ ?_ (fun hHeld' => ?_)
        ·(try dsimp only)
         exact ⟨cell_later ((Below.refl _ _).alloc (Nat.le_refl _) _) k0_3, cell_later ((Below.refl _ _).alloc (Nat.le_refl _) _) k1_3⟩
        clear hK K hHeld
        have hHeld := hHeld'
        clear hHeld'
        (try simp only [Act.put, List.setIfInBounds_toArray, List.set_cons_zero, List.set_cons_succ])
        refine tr 12 (fun K hK => ?_)
        go_simp
        skip
        (try go_wp2_with fail)
        refine hK.out _ _ ?_ (fun hHeld' => ?_)
        ·(try dsimp only)
         exact ⟨cell_later ((Below.refl _ _).alloc (Nat.le_refl _) _) k0_3, cell_later ((Below.refl _ _).alloc (Nat.le_refl _) _) k1_3⟩
        clear hK K hHeld
        have hHeld := hHeld'
        clear hHeld'
        (try simp only [Act.put, List.setIfInBounds_toArray, List.set_cons_zero, List.set_cons_succ])
        refine tk 13 ?_
        refine wpAnyH_done (by kernel_rfl) ?_ _
        (try go_wp2_with fail)
        go_meet
        case rel =>
         exact ⟨v3.heap.size, r3, m3, d3, rfl, rfl, newcell v3 _ _, hm3, Y3.size, size_lt _ _, Y3.alloc Y3.size _⟩
       refine AllReadyH.cons (o := ?_) ?_ (fun K hK => ?_) AllReadyH.nil
       rotate_left
       ·(simp only [List.getElem?_toArray, List.getElem?_cons_zero, List.getElem?_cons_succ]; rfl)
       ·go_simp
        (try go_wp2_with fail)
        refine hK.out _ _ ?_ (fun hHeld' => ?_)
        ·(try dsimp only)
         exact ⟨cell_later ((Below.refl _ _).alloc (Nat.le_refl _) _) k0_2, cell_later ((Below.refl _ _).alloc (Nat.le_refl _) _) k1_2⟩
        clear hK K hHeld
        have hHeld := hHeld'
        clear hHeld'
        (try simp only [Act.put, List.setIfInBounds_toArray, List.set_cons_zero, List.set_cons_succ])
        obtain ⟨v4, hU4⟩ : ∃ u, u = v2.alloc (.cells #[.slice none 0 0] 80) := ⟨_, rfl⟩
        have hb4 : Below v2.heap.size v2 v4 := by rw [hU4]; exact (Below.refl _ _).alloc (Nat.le_refl _) _
        have hp4 : v4.heap[v2.heap.size]? = some (.cells #[.slice none 0 0] 80 (0, 0)) := by rw [hU4]; exact heap_alloc_new _ _
        have zp4 : v4.heap.size = v2.heap.size + 1 := by rw [hU4]; simp
        rw [← hU4]
        clear hU4
        have k0_4 := cell_later hb4 k0_2
        have k1_4 := cell_later hb4 k1_2
        have P_4 := P_2.below hb4
        have Y4 := Y2.trans (hb4.mono Y2.size)
        have zz4 := Y4.size
        have zw4 := hb4.size
        have A0_4 := A0_2.below hb4
        have A1_4 := a2.below hb4
        refine tr 7 (fun K hK => ?_)
        go_simp
        go_at_call 148
        refine (implJoinRows _ _ _ _ _ _ (List.replicate q 0) (List.replicate q' 0) _ _ _ ps _ (by simp) (by simp) hzp (by omega) (by omega) (by omega) n1 A0_4 A1_4 P_4).mono ?_
        rintro e v5 ⟨r5, m5, d5, rfl, hm5, ho5, hb5⟩
        rw [← HOK.out]
        have k0_5 := cell_later hb5 k0_4
        have k1_5 := cell_later hb5 k1_4
        have P_5 := P_4.below hb5
        have Y5 := Y4.trans (hb5.mono Y4.size)
        have zz5 := Y5.size
        have zw5 := hb5.size
        have A0_5 := A0_4.below hb5
        have A1_5 := A1_4.below hb5
        have hp5 := (hb5.block v2.heap.size (Array.getElem?_eq_some_iff.1 hp4).1).trans hp4
        (try go_wp2_with fail)
        refine hK.out _ _ ?_ (fun hHeld' => ?_)
        ·(try dsimp only)
         exact ⟨k0_5, k1_5⟩
        clear hK K hHeld
        have hHeld := hHeld'
        clear hHeld'
        (try simp only [Act.put, List.setIfInBounds_toArray, List.set_cons_zero, List.set_cons_succ])
        refine tk 8 ?_
        refine tk 9 ?_
        refine tk 10 ?_
        have g0 : v5.cell? ⟨v2.heap.size, 0, none⟩ = some (.slice none 0 0) := by rw [cell_of_row _ _ 0 _ _ (0, 0) hp5]; rfl
        have g1 : v5.frozen? ⟨v2.heap.size, 0, none⟩ = false := frozen_of_row _ _ 0 _ _ hp5
        have zc := World.block_lt_of_cell? _ _ c0
        have zd := World.block_lt_of_cell? _ _ b0
        simp only at zc zd
        refine tr 12 (fun K hK => ?_)
        go_simp
        skip
        (try go_wp2_with fail)
        refine hK.out _ _ ?_ (fun hHeld' => ?_)
        ·(try dsimp only)
         exact ⟨keep_far k0_5 (by omega), keep_far k1_5 (by omega)⟩
        clear hK K hHeld
        have hHeld := hHeld'
        clear hHeld'
        (try simp only [Act.put, List.setIfInBounds_toArray, List.set_cons_zero, List.set_cons_succ])
        refine tk 13 ?_
        refine wpAnyH_done (by kernel_rfl) ?_ _
        (try go_wp2_with fail)
        go_meet
        case rel =>
         exact ⟨v2.heap.size, r5, m5, d5, rfl, rfl, cell_set g0 _, hm5, by omega, lt_set g0 _, Y5.setCell (by show w2.heap.size ≤ v2.heap.size; omega) _⟩
      refine AllReadyH.cons (o := ?_) ?_ (fun K hK => ?_) AllReadyH.nil
      rotate_left
      ·(simp only [List.getElem?_toArray, List.getElem?_cons_zero, List.getElem?_cons_succ]; rfl)
      ·go_simp
       (try go_wp2_with fail)
       refine hK.out _ _ ?_ (fun hHeld' => ?_)
       ·(try dsimp only)
        exact ⟨cell_later ((Below.refl _ _).alloc (Nat.le_refl _) _) k0_1, cell_later ((Below.refl _ _).alloc (Nat.le_refl _) _) k1_1⟩
       clear hK K hHeld
       have hHeld := hHeld'
       clear hHeld'
       (try simp only [Act.put, List.setIfInBounds_toArray, List.set_cons_zero, List.set_cons_succ])
       obtain ⟨v6, hU6⟩ : ∃ u, u = v1.alloc (.cells #[.slice none 0 0] 80) := ⟨_, rfl⟩
       have hb6 : Below v1.heap.size v1 v6 := by rw [hU6]; exact (Below.refl _ _).alloc (Nat.le_refl _) _
       have hp6 : v6.heap[v1.heap.size]? = some (.cells #[.slice none 0 0] 80 (0, 0)) := by rw [hU6]; exact heap_alloc_new _ _
       have zp6 : v6.heap.size = v1.heap.size + 1 := by rw [hU6]; simp
       rw [← hU6]
       clear hU6
       have k0_6 := cell_later hb6 k0_1
       have k1_6 := cell_later hb6 k1_1
       have P_6 := P_1.below hb6
       have Y6 := Y1.trans (hb6.mono Y1.size)
       have zz6 := Y6.size
       have zw6 := hb6.size
       have A0_6 := a1.below hb6
       refine tr 5 (fun K hK => ?_)
       go_simp
       go_at_call 146
       refine (noughts_any q' _ h6').mono ?_
       rintro e v7 ⟨r7, d7, rfl, n7, a7, hb7⟩
       have k0_7 := cell_later hb7 k0_6
       have k1_7 := cell_later hb7 k1_6
       have P_7 := P_6.below hb7
       have Y7 := Y6.trans (hb7.mono Y6.size)
       have zz7 := Y7.size
       have zw7 := hb7.size
       have A0_7 := A0_6.below hb7
       have hp7 := (hb7.block v1.heap.size (Array.getElem?_eq_some_iff.1 hp6).1).trans hp6
       (try go_wp2_with fail)
       refine hK.out _ _ ?_ (fun hHeld' => ?_)
       ·(try dsimp only)
        exact ⟨k0_7, k1_7⟩
       clear hK K hHeld
       have hHeld := hHeld'
       clear hHeld'
       (try simp only [Act.put, List.setIfInBounds_toArray, List.set_cons_zero, List.set_cons_succ])
       refine tr 7 (fun K hK => ?_)
       go_simp
       go_at_call 148
       refine (implJoinRows _ _ _ _ _ _ (List.replicate q 0) (List.replicate q' 0) _ _ _ ps _ (by simp) (by simp) hzp (by omega) (by omega) (by omega) n1 A0_7 a7 P_7).mono ?_
       rintro e v8 ⟨r8, m8, d8, rfl, hm8, ho8, hb8⟩
       rw [← HOK.out]
       have k0_8 := cell_later hb8 k0_7
       have k1_8 := cell_later hb8 k1_7
       have P_8 := P_7.below hb8
       have Y8 := Y7.trans (hb8.mono Y7.size)
       have zz8 := Y8.size
       have zw8 := hb8.size
       have A0_8 := A0_7.below hb8
       have A1_8 := a7.below hb8
       have hp8 := (hb8.block v1.heap.size (Array.getElem?_eq_some_iff.1 hp7).1).trans hp7
       (try go_wp2_with fail)
       refine hK.out _ _ ?_ (fun hHeld' => ?_)
       ·(try dsimp only)
        exact ⟨k0_8, k1_8⟩
       clear hK K hHeld
       have hHeld := hHeld'
       clear hHeld'
       (try simp only [Act.put, List.setIfInBounds_toArray, List.set_cons_zero, List.set_cons_succ])
       refine tk 8 ?_
       refine tk 9 ?_
       refine tk 10 ?_
       have g0 : v8.cell? ⟨v1.heap.size, 0, none⟩ = some (.slice none 0 0) := by rw [cell_of_row _ _ 0 _ _ (0, 0) hp8]; rfl
       have g1 : v8.frozen? ⟨v1.heap.size, 0, none⟩ = false := frozen_of_row _ _ 0 _ _ hp8
       have zc := World.block_lt_of_cell? _ _ c0
       have zd := World.block_lt_of_cell? _ _ b0
       simp only at zc zd
       refine tr 12 (fun K hK => ?_)
       go_simp
       skip
       (try go_wp2_with fail)
       refine hK.out _ _ ?_ (fun hHeld' => ?_)
       ·(try dsimp only)
        exact ⟨keep_far k0_8 (by omega), keep_far k1_8 (by omega)⟩
       clear hK K hHeld
       have hHeld := hHeld'
       clear hHeld'
       (try simp only [Act.put, List.setIfInBounds_toArray, List.set_cons_zero, List.set_cons_succ])
       refine tk 13 ?_
       refine wpAnyH_done (by kernel_rfl) ?_ _
       (try go_wp2_with fail)
       go_meet
       case rel =>
        exact ⟨v1.heap.size, r8, m8, d8, rfl, rfl, cell_set g0 _, hm8, by omega, lt_set g0 _, Y8.setCell (by show w2.heap.size ≤ v1.heap.size; omega) _⟩
     refine AllReadyH.cons (o := ?_) ?_ (fun K hK => ?_) AllReadyH.nil
     rotate_left
     ·(simp only [List.getElem?_toArray, List.getElem?_cons_zero, List.getElem?_cons_succ]; rfl)
     ·go_simp
      (try go_wp2_with fail)
      refine hK.out _ _ ?_ (fun hHeld' => ?_)
      ·(try dsimp only)
       exact ⟨cell_later ((Below.refl _ _).alloc (Nat.le_refl _) _) k0_0, cell_later ((Below.refl _ _).alloc (Nat.le_refl _) _) k1_0⟩
      clear hK K hHeld
      have hHeld := hHeld'
      clear hHeld'
      (try simp only [Act.put, List.setIfInBounds_toArray, List.set_cons_zero, List.set_cons_succ])
      obtain ⟨v9, hU9⟩ : ∃ u, u = u0.alloc (.cells #[.slice none 0 0] 80) := ⟨_, rfl⟩
      have hb9 : Below u0.heap.size u0 v9 := by rw [hU9]; exact (Below.refl _ _).alloc (Nat.le_refl _) _
      have hp9 : v9.heap[u0.heap.size]? = some (.cells #[.slice none 0 0] 80 (0, 0)) := by rw [hU9]; exact heap_alloc_new _ _
      have zp9 : v9.heap.size = u0.heap.size + 1 := by rw [hU9]; simp
      rw [← hU9]
      clear hU9
      have k0_9 := cell_later hb9 k0_0
      have k1_9 := cell_later hb9 k1_0
      have P_9 := P_0.below hb9
      have Y9 := Y0.trans (hb9.mono Y0.size)
      have zz9 := Y9.size
      have zw9 := hb9.size
      refine tr 2 (fun K hK => ?_)
      go_simp
      go_at_call 146
      refine (noughts_any q _ h6).mono ?_
      rintro e v10 ⟨r10, d10, rfl, n10, a10, hb10⟩
      have k0_10 := cell_later hb10 k0_9
      have k1_10 := cell_later hb10 k1_9
      have P_10 := P_9.below hb10
      have Y10 := Y9.trans (hb10.mono Y9.size)
      have zz10 := Y10.size
      have zw10 := hb10.size
      have hp10 := (hb10.block u0.heap.size (Array.getElem?_eq_some_iff.1 hp9).1).trans hp9
      (try go_wp2_with fail)
      refine hK.out _ _ ?_ (fun hHeld' => ?_)
      ·(try dsimp only)
       exact ⟨k0_10, k1_10⟩
      clear hK K hHeld
      have hHeld := hHeld'
      clear hHeld'
      (try simp only [Act.put, List.setIfInBounds_toArray, List.set_cons_zero, List.set_cons_succ])
      refine tr 5 (fun K hK => ?_)
      go_simp
      go_at_call 146
      refine (noughts_any q' _ h6').mono ?_
      rintro e v11 ⟨r11, d11, rfl, n11, a11, hb11⟩
      have k0_11 := cell_later hb11 k0_10
      have k1_11 := cell_later hb11 k1_10
      have P_11 := P_10.below hb11
      have Y11 := Y10.trans (hb11.mono Y10.size)
      have zz11 := Y11.size
      have zw11 := hb11.size
      have A0_11 := a10.below hb11
      have hp11 := (hb11.block u0.heap.size (Array.getElem?_eq_some_iff.1 hp10).1).trans hp10
      (try go_wp2_with fail)
      refine hK.out _ _ ?_ (fun hHeld' => ?_)
      ·(try dsimp only)
       exact ⟨k0_11, k1_11⟩
      clear hK K hHeld
      have hHeld := hHeld'
      clear hHeld'
      (try simp only [Act.put, List.setIfInBounds_toArray, List.set_cons_zero, List.set_cons_succ])
      refine tr 7 (fun K hK => ?_)
      go_simp
      go_at_call 148
      refine (implJoinRows _ _ _ _ _ _ (List.replicate q 0) (List.replicate q' 0) _ _ _ ps _ (by simp) (by simp) hzp (by omega) (by omega) (by omega) n10 A0_11 a11 P_11).mono ?_
      rintro e v12 ⟨r12, m12, d12, rfl, hm12, ho12, hb12⟩
      rw [← HOK.out]
      have k0_12 := cell_later hb12 k0_11
      have k1_12 := cell_later hb12 k1_11
      have P_12 := P_11.below hb12
      have Y12 := Y11.trans (hb12.mono Y11.size)
      have zz12 := Y12.size
      have zw12 := hb12.size
      have A0_12 := A0_11.below hb12
      have A1_12 := a11.below hb12
      have hp12 := (hb12.block u0.heap.size (Array.getElem?_eq_some_iff.1 hp11).1).trans hp11
      (try go_wp2_with fail)
      refine hK.out _ _ ?_ (fun hHeld' => ?_)
      ·(try dsimp only)
       exact ⟨k0_12, k1_12⟩
      clear hK K hHeld
      have hHeld := hHeld'
      clear hHeld'
      (try simp only [Act.put, List.setIfInBounds_toArray, List.set_cons_zero, List.set_cons_succ])
      refine tk 8 ?_
      refine tk 9 ?_
      refine tk 10 ?_
      have g0 : v12.cell? ⟨u0.heap.size, 0, none⟩ = some (.slice none 0 0) := by rw [cell_of_row _ _ 0 _ _ (0, 0) hp12]; rfl
      have g1 : v12.frozen? ⟨u0.heap.size, 0, none⟩ = false := frozen_of_row _ _ 0 _ _ hp12
      have zc := World.block_lt_of_cell? _ _ c0
      have zd := World.block_lt_of_cell? _ _ b0
      simp only at zc zd
      refine tr 12 (fun K hK => ?_)
      go_simp
      skip
      (try go_wp2_with fail)
      refine hK.out _ _ ?_ (fun hHeld' => ?_)
      ·(try dsimp only)
       exact ⟨keep_far k0_12 (by omega), keep_far k1_12 (by omega)⟩
      clear hK K hHeld
      have hHeld := hHeld'
      clear hHeld'
      (try simp only [Act.put, List.setIfInBounds_toArray, List.set_cons_zero, List.set_cons_succ])
      refine tk 13 ?_
      refine wpAnyH_done (by kernel_rfl) ?_ _
      (try go_wp2_with fail)
      go_meet
      case rel =>
       exact ⟨u0.heap.size, r12, m12, d12, rfl, rfl, cell_set g0 _, hm12, by omega, lt_set g0 _, Y12.setCell (by show w2.heap.size ≤ u0.heap.size; omega) _⟩
    case rest =>
     obtain ⟨Pb, rs, ms, ds, rfl, rfl, s4, hms, pl, ph, hb3⟩ := hcut
     obtain ⟨w3, rfl⟩ : ∃ x, x = wc := ⟨_, rfl⟩
     have B3 := B2.trans (hb3.mono B2.size)
     have f0 := frozen_later hb3 e0 f0
     have f1 := frozen_later hb3 e1 f1
     have e0 := cell_later hb3 e0
     have e1 := cell_later hb3 e1
     have c0 := cell_later hb3 c0
     have c1 := cell_later hb3 c1
     have b0 := cell_later hb3 b0
     have b1 := cell_later hb3 b1
     have HA := HA.below hb3
     have HA' := HA'.below hb3
     have HP := HP.below hb3
     have zR2 : w.heap.size + 1 + 1 < w3.heap.size := World.block_lt_of_cell? _ _ e0
     clear hb3
     have HOK2 := HOK.out
     cases ok with
     | false =>
      have HNO : Hid (joinB q q' ts ts' ps = false) := by
       show _ = _
       cases hpo : pairsOk ps q q' with
       | false => exact joinB_p hpo
       | true =>
        have := HON.out
        rw [hpo] at this
        exact joinB_c (by simpa using this)
      clear HOK2 HON HOK
      go_wp2_with fail
      (try go_wp2)
      refine bodyPost_ret (v := .tuple #[.agg #[.int .i64 0, .slice none 0 0], .bool false]) (by simp [results, Tryz.results110, go_sem, e0, e1]) rfl ⟨TabAns.zero HNO.out rfl, ?_⟩
      exact (B3.setCell (by show w.heap.size ≤ w.heap.size + 1 + 1; omega) _).setCell (by show w.heap.size ≤ w.heap.size + 1 + 1; omega) _
     | true =>
      have hpo : pairsOk ps q q' = true ∧ joinC q q' ps ≤ 6 := by
       have := HON.out
       simpa using this.symm
      have hmc : joinC q q' ps = ms := by rw [← hms]; exact (joinAns_noughts HOK2.symm).symm
      have HPO := Hid.mk hpo
      have HNB : Hid (joinB q q' ts ts' ps = goodT (joinC q q' ps) (joinW ts ts' ps)) := joinB_yes HG.out HG'.out hpo.1 hpo.2
      have ms6 : ms ≤ 6 := by omega
      have HMC := Hid.mk hmc
      clear hpo HOK2 hms HON HOK hmc
      have HX : Hid (∀ k, k < ts.length → (wat ts k).1.length ≤ 6 ∧ -1000000 ≤ (wat ts k).2 ∧ (wat ts k).2 ≤ 1000000) := fun k hk => by
       have h1 := at_of_mem (goodT_mem HG.out) k hk
       exact ⟨by omega, (at_of_mem (goodL_mem (goodL_of_goodT HG.out)) k hk).2.2⟩
      have HX' : Hid (∀ k, k < ts'.length → (wat ts' k).1.length ≤ 6 ∧ -1000000 ≤ (wat ts' k).2 ∧ (wat ts' k).2 ≤ 1000000) := fun k hk => by
       have h1 := at_of_mem (goodT_mem HG'.out) k hk
       exact ⟨by omega, (at_of_mem (goodL_mem (goodL_of_goodT HG'.out)) k hk).2.2⟩
      have HG1 : Hid (∀ k, k < (joinL ts ts' ps).length → good (wat (joinL ts ts' ps) k).1 = true ∧ -1000000000000 ≤ (wat (joinL ts ts' ps) k).2 ∧ (wat (joinL ts ts' ps) k).2 ≤ 1000000000000) := fun k hk => by
       have h1 := at_of_mem (joinL_rows HG.out HG'.out) k hk
       exact ⟨h1.1, h1.2.2⟩
      have HG2 : Hid (∀ t ∈ joinL ts ts' ps, t.1.length = ms) := fun t ht => by rw [← HMC.out]; exact (joinL_rows HG.out HG'.out t ht).2.1
      have HLN : Hid ((joinL ts ts' ps).length ≤ 3600) := Nat.le_trans (joinL_len ts ts' ps) (Nat.mul_le_mul n60 n60')
      have HTN : Hid (Tells ms (sumAt (joinL ts ts' ps) (joinL ts ts' ps).length 1) (joinW ts ts' ps)) := by
       have := tells_join (ps := ps) HG.out HG'.out
       rw [HMC.out] at this
       exact this
      go_wp2_with fail
      have zP : w.heap.size + 1 + 1 < w2.heap.size := zR0.out
      refine wp_region_held_drew (S := fun w' => w'.cell? ⟨w.heap.size, 0, none⟩ = some (.int .i64 q) ∧ w'.cell? ⟨w.heap.size, 1, none⟩ = some (.slice a n c) ∧ w'.cell? ⟨w.heap.size + 1, 0, none⟩ = some (.int .i64 q') ∧ w'.cell? ⟨w.heap.size + 1, 1, none⟩ = some (.slice a' n' c') ∧ w'.cell? ⟨Pb, 0, none⟩ = some (.slice rs ms ds)) (by kernel_rfl) ?_ (fun hHeld => ?_)
      ·(try dsimp only)
       exact ⟨c0, c1, b0, b1, s4⟩
      refine tk 0 ?_
      refine tk 2 ?_
      refine tk 4 ?_
      refine tk 6 ?_
      refine tk 7 ?_
      refine tk 8 ?_
      refine tr 1 (fun K hK => ?_)
      go_simp
      go_at_call 141; refine (rowsOf_any _ _ _ _ _).mono ?_; rintro e w5 ⟨rfl, hw5⟩; have hb5 : Below w3.drew.heap.size w3.drew w5 := (by rw [hw5]; exact (Below.refl _ _).alloc (Nat.le_refl _) _); have t5 : w5.cell? ⟨w3.heap.size, 1, none⟩ = some (.slice a n c) := (by rw [hw5]; exact pair1 w3.drew _ _ _); have f0 := frozen_later (w := w3.drew) hb5 e0 f0; have f1 := frozen_later (w := w3.drew) hb5 e1 f1; have e0 := cell_later hb5 e0; have e1 := cell_later hb5 e1; have c0 := cell_later hb5 c0; have c1 := cell_later hb5 c1; have b0 := cell_later hb5 b0; have b1 := cell_later hb5 b1; have s4 := cell_later hb5 s4; have HA5 := HA.drew.below hb5; have HA5' := HA'.drew.below hb5; have HP5 := (HP.below (Below.refl _ _).drew).below hb5; have B5 := B3.drew.trans (hb5.mono B3.size); have hR := rowsOf1_hands w3.heap.size a n c ts w5 hz hn t5 HA5; clear hw5
      (try go_wp2_with fail)
      refine hK.out _ _ ?_ (fun hHeld' => ?_)
      ·(try dsimp only)
       exact ⟨c0, c1, b0, b1, s4⟩
      clear hK K hHeld
      have hHeld := hHeld'
      clear hHeld'
      (try simp only [Act.put, List.setIfInBounds_toArray, List.set_cons_zero, List.set_cons_succ])
      refine tr 3 (fun K hK => ?_)
      go_simp
      go_at_call 141; refine (rowsOf_any _ _ _ _ _).mono ?_; rintro e w6 ⟨rfl, hw6⟩; have hb6 : Below w5.heap.size w5 w6 := (by rw [hw6]; exact (Below.refl _ _).alloc (Nat.le_refl _) _); have t6 : w6.cell? ⟨w5.heap.size, 1, none⟩ = some (.slice a' n' c') := (by rw [hw6]; exact pair1 w5 _ _ _); have f0 := frozen_later hb6 e0 f0; have f1 := frozen_later hb6 e1 f1; have e0 := cell_later hb6 e0; have e1 := cell_later hb6 e1; have c0 := cell_later hb6 c0; have c1 := cell_later hb6 c1; have b0 := cell_later hb6 b0; have b1 := cell_later hb6 b1; have s4 := cell_later hb6 s4; have HP6 := HP5.below hb6; have B6 := B5.trans (hb6.mono B5.size); have hR' := rowsOf1_hands w5.heap.size a' n' c' ts' w6 hz' hn' t6 (HA5'.below hb6); have hR := hR.later hb6; clear hw6
      (try go_wp2_with fail)
      refine hK.out _ _ ?_ (fun hHeld' => ?_)
      ·(try dsimp only)
       exact ⟨c0, c1, b0, b1, s4⟩
      clear hK K hHeld
      have hHeld := hHeld'
      clear hHeld'
      (try simp only [Act.put, List.setIfInBounds_toArray, List.set_cons_zero, List.set_cons_succ])
      refine tr 5 (fun K hK => ?_)
      go_simp
      go_at_call 149; refine (joinedRows_any _ _ _ _ _ _ _ _).mono ?_; rintro e w7 ⟨rfl, hw7⟩; have hb7 : Below w6.heap.size w6 w7 := (by rw [hw7]; exact (((Below.refl _ _).alloc (Nat.le_refl _) _).alloc (by simp) _).alloc (by simp; omega) _); have t7 : w7.cell? ⟨w6.heap.size, 0, none⟩ = some (.func (.func 164) #[] #[.pointer (some ⟨w3.heap.size, 0, none⟩)]) := (by rw [hw7]; exact alloc_keeps (alloc_keeps (by simp) _) _); have u7 : w7.cell? ⟨w6.heap.size + 1, 0, none⟩ = some (.func (.func 164) #[] #[.pointer (some ⟨w5.heap.size, 0, none⟩)]) := (by rw [hw7]; exact alloc_keeps (by simp) _); have x7 : w7.cell? ⟨w6.heap.size + 1 + 1, 0, none⟩ = some (.slice ap np cp) := (by have h7 := newcell ((w6.alloc (.cells #[.func (.func 164) #[] #[.pointer (some ⟨w3.heap.size, 0, none⟩)]] 195)).alloc (.cells #[.func (.func 164) #[] #[.pointer (some ⟨w5.heap.size, 0, none⟩)]] 195)) (.slice ap np cp) 72; simp only [World.size_alloc] at h7; rw [hw7]; exact h7); have f0 := frozen_later hb7 e0 f0; have f1 := frozen_later hb7 e1 f1; have e0 := cell_later hb7 e0; have e1 := cell_later hb7 e1; have c0 := cell_later hb7 c0; have c1 := cell_later hb7 c1; have b0 := cell_later hb7 b0; have b1 := cell_later hb7 b1; have s4 := cell_later hb7 s4; have B7 := B6.trans (hb7.mono B6.size); have hJ := joinedRows1_hands w6.heap.size (w6.heap.size + 1) (w6.heap.size + 1 + 1) 164 164 #[.pointer (some ⟨w3.heap.size, 0, none⟩)] #[.pointer (some ⟨w5.heap.size, 0, none⟩)] ts ts' ap np cp ps w7 t7 u7 x7 (enters_of Tryz.func164 (by kernel_rfl) rfl) (enters_of Tryz.func164 (by kernel_rfl) rfl) (hR.later hb7) (hR'.later hb7) hzp hnp (HP6.below hb7) HX.out HX'.out; clear hw7
      (try go_wp2_with fail)
      refine hK.out _ _ ?_ (fun hHeld' => ?_)
      ·(try dsimp only)
       exact ⟨c0, c1, b0, b1, s4⟩
      clear hK K hHeld
      have hHeld := hHeld'
      clear hHeld'
      (try simp only [Act.put, List.setIfInBounds_toArray, List.set_cons_zero, List.set_cons_succ])
      refine tr 9 (fun K hK => ?_)
      go_simp
      go_at_call 144; refine (tableOf_any 170 #[.pointer (some ⟨w6.heap.size, 0, none⟩), .pointer (some ⟨w6.heap.size + 1, 0, none⟩), .pointer (some ⟨w6.heap.size + 1 + 1, 0, none⟩)] (joinL ts ts' ps) ms w7 (enters_of Tryz.func170 (by kernel_rfl) rfl) hJ ms6 HLN.out HG1.out HG2.out).mono ?_; rintro e w8 ⟨us, ⟨r4, m4, d4, cells4, rfl, ho4⟩, hTl, hb8⟩; have t0 := frozen_later hb8 e0 f0; have t1 := frozen_later hb8 e1 f1; have s0 := cell_later hb8 e0; have s1 := cell_later hb8 e1; have i0 := cell_later hb8 c0; have i1 := cell_later hb8 c1; have j0 := cell_later hb8 b0; have j1 := cell_later hb8 b1; have i4 := cell_later hb8 s4
      (try go_wp2_with fail)
      refine hK.out _ _ ?_ (fun hHeld' => ?_)
      ·(try dsimp only)
       exact ⟨i0, i1, j0, j1, i4⟩
      clear hK K hHeld
      have hHeld := hHeld'
      clear hHeld'
      (try simp only [Act.put, List.setIfInBounds_toArray, List.set_cons_zero, List.set_cons_succ])
      refine tk 10 ?_
      refine tk 11 ?_
      refine tr 12 (fun K hK => ?_)
      go_simp
      skip
      (try go_wp2_with fail)
      refine hK.out _ _ ?_ (fun hHeld' => ?_)
      ·(try dsimp only)
       exact ⟨keep_far (keep_far i0 (by omega)) (by omega), keep_far (keep_far i1 (by omega)) (by omega), keep_far (keep_far j0 (by omega)) (by omega), keep_far (keep_far j1 (by omega)) (by omega), keep_far (keep_far i4 (by omega)) (by omega)⟩
      clear hK K hHeld
      have hHeld := hHeld'
      clear hHeld'
      (try simp only [Act.put, List.setIfInBounds_toArray, List.set_cons_zero, List.set_cons_succ])
      refine tk 13 ?_
      refine wpAnyH_done (by kernel_rfl) ?_ _
      have hus : us = joinW ts ts' ps := hTl.unique HTN.out
      subst hus
      have B8 := B7.trans (hb8.mono B7.size)
      have zR : w.heap.size + 1 + 1 < w7.heap.size := World.block_lt_of_cell? _ _ (by assumption : w7.cell? ⟨w.heap.size + 1 + 1, 0, none⟩ = _)
      have e0 := s0
      have e1 := s1
      rw [← HMC.out] at ho4
      clear HA HA5 HA' HA5' HP HP5 HP6 hb5 hb6 hb7 hb8 hHeld hR hR' hJ hTl
      have hqi := HMC.out
      go_wp2
      refine bodyPost_ret (v := .tuple #[.agg #[.int .i64 _, .slice r4 m4 d4], .bool _]) (by simp [results, Tryz.results110, go_sem, e0, e1, hqi]) rfl ⟨TabAns.tell HNB.out ⟨r4, m4, d4, cells4, rfl, ho4.stored zR (by omega) _ _⟩, ?_⟩
      exact (B8.setCell (by show w.heap.size ≤ w.heap.size + 1 + 1; omega) _).setCell (by show w.heap.size ≤ w.heap.size + 1 + 1; omega) _
end Go.Proofs.YthiabjkjpjmahaaGreat
