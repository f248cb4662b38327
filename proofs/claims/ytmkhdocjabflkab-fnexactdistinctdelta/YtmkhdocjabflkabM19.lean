/- Contract of spec.DistinctDelta. -/
import Derived.Test.YtmkhdocjabflkabM18
import Derived.Deep.AppendLies
namespace Go.Proofs.Ytmkhdocjabflkab
open Go.RowKit

theorem ddB_alike {p : Int} {ts : List WRow} {p' : Int} {us : List WRow} (h : alike p ts p' us = false) : ddB p ts p' us = false := by simp [ddB, h]
theorem ddB_sum {p : Int} {ts : List WRow} {p' : Int} {us : List WRow} (h : goodT p (putAll ts us) = false) : ddB p ts p' us = false := by simp [ddB, h]
theorem alike_fst' {p : Int} {ts : List WRow} {p' : Int} {ts' : List WRow} (h : goodT p ts = false) : alike p ts p' ts' = false := by simp [alike, h]
theorem alike_snd' {p : Int} {ts : List WRow} {p' : Int} {ts' : List WRow} (h : goodT p' ts' = false) : alike p ts p' ts' = false := by simp [alike, h]
theorem alike_col' {p : Int} {ts : List WRow} {p' : Int} {ts' : List WRow} (h : p ≠ p') : alike p ts p' ts' = false := by simp [alike, h]
theorem ddW_six {ts us : List WRow} (h : ∀ t ∈ us, t.1.length ≤ 6 ∧ -1000000 ≤ t.2 ∧ t.2 ≤ 1000000) : ∀ t ∈ ddW ts us, t.1.length ≤ 6 := fun t ht => by
  obtain ⟨s, hs, e⟩ := mem_filterMap_of ht
  rw [(ddG_some e).1]; exact (h s hs).1
theorem ddB_on {p : Int} {ts us : List WRow} (h1 : goodT p ts = true) (h2 : goodT p us = true) (h3 : goodT p (putAll ts us) = true) : ddB p ts p us = goodT p (ddW ts us) := by simp [ddB, alike, h1, h2, h3]

set_option maxRecDepth 100000 in
set_option maxHeartbeats 8000000 in
theorem specDistinctDelta (a a' : Option Addr) (n n' c c' : Nat) (ts ts' : List WRow) (p p' : Int) (w : World) (hz : ts.length = n) (hz' : ts'.length = n') (hn : n ≤ 1048576) (hn' : n' ≤ 1048576) (ha : AtM w a ts) (ha' : AtM w a' ts') (hF : Formed a n c) :
    Calls Try.prog 6 #[.agg #[.int .i64 p, .slice a n c], .agg #[.int .i64 p', .slice a' n' c']] w fun e w' => TabAns e w' w.heap.size (ddB p ts p' ts') p (ddW ts ts') ∧ Below w.heap.size w w' := by
  obtain ⟨i0, hi, hz0, hz1, hz2⟩ := info_parts Try.infoW
  obtain ⟨W, hW⟩ : ∃ W, W = ((w.alloc (.cells #[.int .i64 p, .slice a n c] 28)).alloc (.cells #[.int .i64 p', .slice a' n' c'] 28)).alloc (.cells #[.int .i64 0, .slice none 0 0] 28) := ⟨_, rfl⟩
  have zW : W.heap.size = w.heap.size + 1 + 1 + 1 := by rw [hW]; simp
  have B0 : Below w.heap.size w W := by rw [hW]; exact (((Below.refl _ _).alloc (Nat.le_refl _) _).alloc (by simp) _).alloc (by simp; omega) _
  have c0 : W.cell? ⟨w.heap.size, 0, none⟩ = some (.int .i64 p) := by rw [hW]; exact alloc_keeps (alloc_keeps (pair0 w _ _ _) _) _
  have c1 : W.cell? ⟨w.heap.size, 1, none⟩ = some (.slice a n c) := by rw [hW]; exact alloc_keeps (alloc_keeps (pair1 w _ _ _) _) _
  have b1 : W.cell? ⟨w.heap.size + 1, 1, none⟩ = some (.slice a' n' c') := by rw [hW]; refine alloc_keeps ?_ _; have := pair1 (w.alloc (.cells #[.int .i64 p, .slice a n c] 28)) (.int .i64 p') (.slice a' n' c') 28; rwa [World.size_alloc] at this
  have b0 : W.cell? ⟨w.heap.size + 1, 0, none⟩ = some (.int .i64 p') := by rw [hW]; refine alloc_keeps ?_ _; have := pair0 (w.alloc (.cells #[.int .i64 p, .slice a n c] 28)) (.int .i64 p') (.slice a' n' c') 28; rwa [World.size_alloc] at this
  have q0 : W.heap[w.heap.size + 1 + 1]? = some (.cells #[.int .i64 0, .slice none 0 0] 28 (0, 0)) := by
    rw [hW]
    have := heap_alloc_new ((w.alloc (.cells #[.int .i64 p, .slice a n c] 28)).alloc (.cells #[.int .i64 p', .slice a' n' c'] 28)) (.cells #[.int .i64 0, .slice none 0 0] 28)
    rwa [World.size_alloc, World.size_alloc] at this
  have e0 : W.cell? ⟨w.heap.size + 1 + 1, 0, none⟩ = some (.int .i64 0) := by rw [cell_of_row _ _ 0 _ _ (0, 0) q0]; rfl
  have e1 : W.cell? ⟨w.heap.size + 1 + 1, 1, none⟩ = some (.slice none 0 0) := by rw [cell_of_row _ _ 1 _ _ (0, 0) q0]; rfl
  have f0 : W.frozen? ⟨w.heap.size + 1 + 1, 0, none⟩ = false := frozen_of_row _ _ 0 _ _ q0
  have f1 : W.frozen? ⟨w.heap.size + 1 + 1, 1, none⟩ = false := frozen_of_row _ _ 1 _ _ q0
  have HA := ha.below B0
  have HA' := ha'.below B0
  clear ha ha' q0
  cases hg : goodT p ts with
  | false =>
    have HG := Hid.mk hg
    clear hg
    go_enter Try.func6, Try.ntmps6
    go_wp2_with fail
    rw [← hW]
    clear hW
    refine (specGoodTable_any _ _ _ ts _ _ hz hn HA.atW).mono ?_
    rintro e w1 ⟨rfl, hb1⟩
    rw [HG.out]
    have B1 := B0.trans (hb1.mono B0.size)
    replace f0 := frozen_later hb1 e0 f0
    replace f1 := frozen_later hb1 e1 f1
    replace e0 := cell_later hb1 e0
    replace e1 := cell_later hb1 e1
    replace c0 := cell_later hb1 c0
    replace c1 := cell_later hb1 c1
    replace b0 := cell_later hb1 b0
    replace b1 := cell_later hb1 b1
    go_wp2
    refine bodyPost_ret (v := .tuple #[.agg #[.int .i64 0, .slice none 0 0], .bool false]) (by simp [results, Try.results6, go_sem, e0, e1]) rfl ⟨TabAns.zero (ddB_alike (alike_fst' HG.out)) rfl, ?_⟩
    exact (B1.setCell (by show w.heap.size ≤ w.heap.size + 1 + 1; omega) _).setCell (by show w.heap.size ≤ w.heap.size + 1 + 1; omega) _
  | true =>
    have HG := Hid.mk hg
    clear hg
    cases hg' : goodT p' ts' with
    | false =>
      have HG' := Hid.mk hg'
      clear hg'
      go_enter Try.func6, Try.ntmps6
      go_wp2_with fail
      rw [← hW]
      clear hW
      refine (specGoodTable_any _ _ _ ts _ _ hz hn HA.atW).mono ?_
      rintro e w1 ⟨rfl, hb1⟩
      rw [HG.out]
      have B1 := B0.trans (hb1.mono B0.size)
      replace f0 := frozen_later hb1 e0 f0
      replace f1 := frozen_later hb1 e1 f1
      replace e0 := cell_later hb1 e0
      replace e1 := cell_later hb1 e1
      replace c0 := cell_later hb1 c0
      replace c1 := cell_later hb1 c1
      replace b0 := cell_later hb1 b0
      replace b1 := cell_later hb1 b1
      go_wp2_with fail
      refine (specGoodTable_any _ _ _ ts' _ _ hz' hn' (HA'.below hb1).atW).mono ?_
      rintro e w2 ⟨rfl, hb2⟩
      rw [HG'.out]
      have B2 := B1.trans (hb2.mono B1.size)
      replace f0 := frozen_later hb2 e0 f0
      replace f1 := frozen_later hb2 e1 f1
      replace e0 := cell_later hb2 e0
      replace e1 := cell_later hb2 e1
      replace c0 := cell_later hb2 c0
      replace c1 := cell_later hb2 c1
      replace b0 := cell_later hb2 b0
      replace b1 := cell_later hb2 b1
      go_wp2
      refine bodyPost_ret (v := .tuple #[.agg #[.int .i64 0, .slice none 0 0], .bool false]) (by simp [results, Try.results6, go_sem, e0, e1]) rfl ⟨TabAns.zero (ddB_alike (alike_snd' HG'.out)) rfl, ?_⟩
      exact (B2.setCell (by show w.heap.size ≤ w.heap.size + 1 + 1; omega) _).setCell (by show w.heap.size ≤ w.heap.size + 1 + 1; omega) _
    | true =>
      have HG' := Hid.mk hg'
      clear hg'
      by_cases hpp : p = p'
      · subst hpp
        have n60 := goodT_len60 HG.out
        have n60' := goodT_len60 HG'.out
        go_enter Try.func6, Try.ntmps6
        go_wp2_with fail
        rw [← hW]
        clear hW
        refine (specGoodTable_any _ _ _ ts _ _ hz hn HA.atW).mono ?_
        rintro e w1 ⟨rfl, hb1⟩
        rw [HG.out]
        have B1 := B0.trans (hb1.mono B0.size)
        replace f0 := frozen_later hb1 e0 f0
        replace f1 := frozen_later hb1 e1 f1
        replace e0 := cell_later hb1 e0
        replace e1 := cell_later hb1 e1
        replace c0 := cell_later hb1 c0
        replace c1 := cell_later hb1 c1
        replace b0 := cell_later hb1 b0
        replace b1 := cell_later hb1 b1
        go_wp2_with fail
        refine (specGoodTable_any _ _ _ ts' _ _ hz' hn' (HA'.below hb1).atW).mono ?_
        rintro e w2 ⟨rfl, hb2⟩
        rw [HG'.out]
        have B2 := B1.trans (hb2.mono B1.size)
        replace f0 := frozen_later hb2 e0 f0
        replace f1 := frozen_later hb2 e1 f1
        replace e0 := cell_later hb2 e0
        replace e1 := cell_later hb2 e1
        replace c0 := cell_later hb2 c0
        replace c1 := cell_later hb2 c1
        replace b0 := cell_later hb2 b0
        replace b1 := cell_later hb2 b1
        have HA2 := (HA.below hb1).below hb2
        have HA2' := (HA'.below hb1).below hb2
        clear hb1 hb2 HA HA'
        go_upto_region 3 with fail
        go_cut [7] (fun tb wx => tb = .bool (goodT p (putAll ts ts')) ∧ Below w2.heap.size w2 wx)
        case first =>
          have zw : w.heap.size + 1 + 1 < w2.heap.size := World.block_lt_of_cell? _ _ e0
          refine wp_region_held_drew (S := fun w' => w'.cell? ⟨w.heap.size, 0, none⟩ = some (.int .i64 p) ∧ w'.cell? ⟨w.heap.size, 1, none⟩ = some (.slice a n c) ∧ w'.cell? ⟨w.heap.size + 1, 0, none⟩ = some (.int .i64 p) ∧ w'.cell? ⟨w.heap.size + 1, 1, none⟩ = some (.slice a' n' c')) (by kernel_rfl) ?_ (fun hHeld => ?_)
          · (try dsimp only)
            exact ⟨c0, c1, b0, b1⟩
          refine wpAnyH_take (i := 0) (oi := ?_) (v := ?_) ?_ (by kernel_rfl) (by kernel_rfl) (by kernel_rfl) ?_ (Or.inl ⟨?_, ?_⟩) (by assumption) ?_
          rotate_left 2
          · (simp only [List.getElem?_toArray, List.getElem?_cons_zero]; rfl)
          · exact fun _ _ _ h => h
          · rfl
          · (intro wS hSw; (try dsimp only at hSw); go_simp; (try with_reducible rfl))
          (try simp only [Act.put, List.setIfInBounds_toArray, List.set_cons_zero, List.set_cons_succ])
          refine wpAnyH_take (i := 1) (oi := ?_) (v := ?_) ?_ (by kernel_rfl) (by kernel_rfl) (by kernel_rfl) ?_ (Or.inl ⟨?_, ?_⟩) (by assumption) ?_
          rotate_left 2
          · (simp only [List.getElem?_toArray, List.getElem?_cons_zero, List.getElem?_cons_succ]; rfl)
          · exact fun _ _ _ h => h
          · rfl
          · (intro wS hSw; (try dsimp only at hSw); go_simp; (try with_reducible rfl))
          (try simp only [Act.put, List.setIfInBounds_toArray, List.set_cons_zero, List.set_cons_succ])
          refine wpAnyH_take (i := 2) (oi := ?_) (v := ?_) ?_ (by kernel_rfl) (by kernel_rfl) (by kernel_rfl) ?_ (Or.inl ⟨?_, ?_⟩) (by assumption) ?_
          rotate_left 2
          · (simp only [List.getElem?_toArray, List.getElem?_cons_zero, List.getElem?_cons_succ]; rfl)
          · exact fun _ _ _ h => h
          · rfl
          · (intro wS hSw; (try dsimp only at hSw); go_simp; (try with_reducible rfl))
          (try simp only [Act.put, List.setIfInBounds_toArray, List.set_cons_zero, List.set_cons_succ])
          refine wpAnyH_take (i := 3) (oi := ?_) (v := ?_) ?_ (by kernel_rfl) (by kernel_rfl) (by kernel_rfl) ?_ (Or.inl ⟨?_, ?_⟩) (by assumption) ?_
          rotate_left 2
          · (simp only [List.getElem?_toArray, List.getElem?_cons_zero, List.getElem?_cons_succ]; rfl)
          · exact fun _ _ _ h => h
          · rfl
          · (intro wS hSw; (try dsimp only at hSw); go_simp; (try with_reducible rfl))
          (try simp only [Act.put, List.setIfInBounds_toArray, List.set_cons_zero, List.set_cons_succ])
          refine wpAnyH_take (i := 4) (oi := ?_) (v := ?_) ?_ (by kernel_rfl) (by kernel_rfl) (by kernel_rfl) ?_ (Or.inl ⟨?_, ?_⟩) (by assumption) ?_
          rotate_left 2
          · (simp only [List.getElem?_toArray, List.getElem?_cons_zero, List.getElem?_cons_succ]; rfl)
          · exact fun _ _ _ h => h
          · rfl
          · (intro wS hSw; (try dsimp only at hSw); go_simp; (try with_reducible rfl))
          (try simp only [Act.put, List.setIfInBounds_toArray, List.set_cons_zero, List.set_cons_succ])
          refine wpAnyH_take (i := 5) (oi := ?_) (v := ?_) ?_ (by kernel_rfl) (by kernel_rfl) (by kernel_rfl) ?_ (Or.inl ⟨?_, ?_⟩) (by assumption) ?_
          rotate_left 2
          · (simp only [List.getElem?_toArray, List.getElem?_cons_zero, List.getElem?_cons_succ]; rfl)
          · exact fun _ _ _ h => h
          · rfl
          · (intro wS hSw; (try dsimp only at hSw); go_simp; (try with_reducible rfl))
          (try simp only [Act.put, List.setIfInBounds_toArray, List.set_cons_zero, List.set_cons_succ])
          obtain ⟨w11, hU11⟩ : ∃ u, u = w2.drew := ⟨_, rfl⟩
          have hb11 : Below w2.heap.size w2 w11 := by rw [hU11]; exact (Below.refl _ _).drew
          rw [← hU11]
          clear hU11
          have c0 := cell_later hb11 c0
          have c1 := cell_later hb11 c1
          have b0 := cell_later hb11 b0
          have b1 := cell_later hb11 b1
          have HA2 := HA2.below hb11
          have HA2' := HA2'.below hb11
          have Y11 : Below w2.heap.size w2 w11 := hb11
          have zz11 : w2.heap.size ≤ w11.heap.size := by have q := hb11.size; first | exact q | simpa using q
          refine wpAnyH_ready (rs := [6, 11]) (by kernel_rfl) (by simp) ?_
          refine AllReadyH.cons (o := ?_) ?_ (fun K hK => ?_) ?_
          rotate_left
          · (simp only [List.getElem?_toArray, List.getElem?_cons_zero, List.getElem?_cons_succ]; rfl)
          · go_simp
            go_at_call 20
            refine (l2Add_any _ _ _ _ _ _ ts ts' _ hz hz' (by omega) (by omega) hF (goodT_rises HG.out) (goodT_six HG.out) (goodT_six HG'.out) HA2 HA2').mono ?_
            rintro e w12 ⟨r12, m12, d12, rfl, hm12, _, ha12, hb12⟩
            have c0 := cell_later hb12 c0
            have c1 := cell_later hb12 c1
            have b0 := cell_later hb12 b0
            have b1 := cell_later hb12 b1
            have HA2 := HA2.below hb12
            have HA2' := HA2'.below hb12
            have Y12 : Below w2.heap.size w2 w12 := Y11.trans (hb12.mono Y11.size)
            have zz12 : w11.heap.size ≤ w12.heap.size := by have q := hb12.size; first | exact q | simpa using q
            (try go_wp2_with fail)
            refine hK.out _ _ ?_ (fun hHeld' => ?_)
            · (try dsimp only)
              exact ⟨c0, c1, b0, b1⟩
            clear hK K hHeld
            have hHeld := hHeld'
            clear hHeld'
            (try simp only [Act.put, List.setIfInBounds_toArray, List.set_cons_zero, List.set_cons_succ])
            refine wpAnyH_ready (rs := [7, 11]) (by kernel_rfl) (by simp) ?_
            refine AllReadyH.cons (o := ?_) ?_ (fun K hK => ?_) ?_
            rotate_left
            · (simp only [List.getElem?_toArray, List.getElem?_cons_zero, List.getElem?_cons_succ]; rfl)
            · go_simp
              go_at_call 19
              have HPL : Hid (m12 ≤ 1048576) := (by show _ ≤ _; have := putAll_len ts' ts; omega)
              have HPR : Hid (∀ k, k < m12 → (wat (putAll ts ts') k).1.length ≤ 1048576) := (fun k hk => by have := (at_of_mem (putAll_ok (M0 := 1000000) (M := 1000000) (by omega) (by omega) (goodT_rises HG.out) (goodT_six HG.out) (goodT_six HG'.out)) k (by omega)).1; omega)
              refine (l2Tell_any _ _ _ (putAll ts ts') _ _ hm12 HPL.out HPR.out ha12).mono ?_
              rintro e w13 ⟨⟨r13, m13, d13, cs13, rfl, ho13⟩, hb13⟩
              have c0 := cell_later hb13 c0
              have c1 := cell_later hb13 c1
              have b0 := cell_later hb13 b0
              have b1 := cell_later hb13 b1
              have HA2 := HA2.below hb13
              have HA2' := HA2'.below hb13
              have Y13 : Below w2.heap.size w2 w13 := Y12.trans (hb13.mono Y12.size)
              have zz13 : w12.heap.size ≤ w13.heap.size := by have q := hb13.size; first | exact q | simpa using q
              (try go_wp2_with fail)
              refine hK.out _ _ ?_ (fun hHeld' => ?_)
              · (try dsimp only)
                exact ⟨c0, c1, b0, b1⟩
              clear hK K hHeld
              have hHeld := hHeld'
              clear hHeld'
              (try simp only [Act.put, List.setIfInBounds_toArray, List.set_cons_zero, List.set_cons_succ])
              refine wpAnyH_take (i := 8) (oi := ?_) (v := ?_) ?_ (by kernel_rfl) (by kernel_rfl) (by kernel_rfl) ?_ (Or.inl ⟨?_, ?_⟩) (by assumption) ?_
              rotate_left 2
              · (simp only [List.getElem?_toArray, List.getElem?_cons_zero, List.getElem?_cons_succ]; rfl)
              · exact fun _ _ _ h => h
              · rfl
              · (intro wS hSw; (try dsimp only at hSw); go_simp; (try with_reducible rfl))
              (try simp only [Act.put, List.setIfInBounds_toArray, List.set_cons_zero, List.set_cons_succ])
              refine wpAnyH_take (i := 9) (oi := ?_) (v := ?_) ?_ (by kernel_rfl) (by kernel_rfl) (by kernel_rfl) ?_ (Or.inl ⟨?_, ?_⟩) (by assumption) ?_
              rotate_left 2
              · (simp only [List.getElem?_toArray, List.getElem?_cons_zero, List.getElem?_cons_succ]; rfl)
              · exact fun _ _ _ h => h
              · rfl
              · (intro wS hSw; (try dsimp only at hSw); go_simp; (try with_reducible rfl))
              (try simp only [Act.put, List.setIfInBounds_toArray, List.set_cons_zero, List.set_cons_succ])
              refine wpAnyH_take (i := 10) (oi := ?_) (v := ?_) ?_ (by kernel_rfl) (by kernel_rfl) (by kernel_rfl) ?_ (Or.inl ⟨?_, ?_⟩) (by assumption) ?_
              rotate_left 2
              · (simp only [List.getElem?_toArray, List.getElem?_cons_zero, List.getElem?_cons_succ]; rfl)
              · exact fun _ _ _ h => h
              · rfl
              · (intro wS hSw; (try dsimp only at hSw); go_simp; (try with_reducible rfl))
              (try simp only [Act.put, List.setIfInBounds_toArray, List.set_cons_zero, List.set_cons_succ])
              refine wpAnyH_ready (rs := [11]) (by kernel_rfl) (by simp) ?_
              refine AllReadyH.cons (o := ?_) ?_ (fun K hK => ?_) AllReadyH.nil
              rotate_left
              · (simp only [List.getElem?_toArray, List.getElem?_cons_zero, List.getElem?_cons_succ]; rfl)
              go_simp
              skip
              (try go_wp2_with fail)
              refine hK.out _ _ ?_ (fun hHeld' => ?_)
              · (try dsimp only)
                exact ⟨cell_later ((Below.refl _ _).alloc (Nat.le_refl _) _) c0, cell_later ((Below.refl _ _).alloc (Nat.le_refl _) _) c1, cell_later ((Below.refl _ _).alloc (Nat.le_refl _) _) b0, cell_later ((Below.refl _ _).alloc (Nat.le_refl _) _) b1⟩
              clear hK K hHeld
              have hHeld := hHeld'
              clear hHeld'
              (try simp only [Act.put, List.setIfInBounds_toArray, List.set_cons_zero, List.set_cons_succ])
              refine wpAnyH_ready (rs := [12]) (by kernel_rfl) (by simp) ?_
              refine AllReadyH.cons (o := ?_) ?_ (fun K hK => ?_) AllReadyH.nil
              rotate_left
              · (simp only [List.getElem?_toArray, List.getElem?_cons_zero, List.getElem?_cons_succ]; rfl)
              go_simp
              skip
              (try go_wp2_with fail)
              refine hK.out _ _ ?_ (fun hHeld' => ?_)
              · (try dsimp only)
                exact ⟨cell_later ((Below.refl _ _).alloc (Nat.le_refl _) _) c0, cell_later ((Below.refl _ _).alloc (Nat.le_refl _) _) c1, cell_later ((Below.refl _ _).alloc (Nat.le_refl _) _) b0, cell_later ((Below.refl _ _).alloc (Nat.le_refl _) _) b1⟩
              clear hK K hHeld
              have hHeld := hHeld'
              clear hHeld'
              (try simp only [Act.put, List.setIfInBounds_toArray, List.set_cons_zero, List.set_cons_succ])
              refine wpAnyH_take (i := 13) (oi := ?_) (v := ?_) ?_ (by kernel_rfl) (by kernel_rfl) (by kernel_rfl) ?_ (Or.inl ⟨?_, ?_⟩) (by assumption) ?_
              rotate_left 2
              · (simp only [List.getElem?_toArray, List.getElem?_cons_zero, List.getElem?_cons_succ]; rfl)
              · exact fun _ _ _ h => h
              · rfl
              · (intro wS hSw; (try dsimp only at hSw); go_simp; (try with_reducible rfl))
              (try simp only [Act.put, List.setIfInBounds_toArray, List.set_cons_zero, List.set_cons_succ])
              refine wpAnyH_done (by kernel_rfl) ?_ _
              (try go_wp2_with fail)
              go_meet
              case rel =>
                exact ⟨rfl, Y13.alloc Y13.size _⟩
            refine AllReadyH.cons (o := ?_) ?_ (fun K hK => ?_) AllReadyH.nil
            rotate_left
            · (simp only [List.getElem?_toArray, List.getElem?_cons_zero, List.getElem?_cons_succ]; rfl)
            · go_simp
              (try go_wp2_with fail)
              refine hK.out _ _ ?_ (fun hHeld' => ?_)
              · (try dsimp only)
                exact ⟨cell_later ((Below.refl _ _).alloc (Nat.le_refl _) _) c0, cell_later ((Below.refl _ _).alloc (Nat.le_refl _) _) c1, cell_later ((Below.refl _ _).alloc (Nat.le_refl _) _) b0, cell_later ((Below.refl _ _).alloc (Nat.le_refl _) _) b1⟩
              clear hK K hHeld
              have hHeld := hHeld'
              clear hHeld'
              (try simp only [Act.put, List.setIfInBounds_toArray, List.set_cons_zero, List.set_cons_succ])
              obtain ⟨w13, hU13⟩ : ∃ u, u = w12.alloc (.cells #[.int .i64 0, .slice none 0 0] 28) := ⟨_, rfl⟩
              have hb13 : Below w12.heap.size w12 w13 := by rw [hU13]; exact (Below.refl _ _).alloc (Nat.le_refl _) _
              have hp13 : w13.heap[w12.heap.size]? = some (.cells #[.int .i64 0, .slice none 0 0] 28 (0, 0)) := by rw [hU13]; exact heap_alloc_new _ _
              rw [← hU13]
              clear hU13
              have c0 := cell_later hb13 c0
              have c1 := cell_later hb13 c1
              have b0 := cell_later hb13 b0
              have b1 := cell_later hb13 b1
              have HA2 := HA2.below hb13
              have HA2' := HA2'.below hb13
              have ha12 := ha12.below hb13
              have Y13 : Below w2.heap.size w2 w13 := Y12.trans (hb13.mono Y12.size)
              have zz13 : w12.heap.size ≤ w13.heap.size := by have q := hb13.size; first | exact q | simpa using q
              refine wpAnyH_ready (rs := [7]) (by kernel_rfl) (by simp) ?_
              refine AllReadyH.cons (o := ?_) ?_ (fun K hK => ?_) AllReadyH.nil
              rotate_left
              · (simp only [List.getElem?_toArray, List.getElem?_cons_zero, List.getElem?_cons_succ]; rfl)
              go_simp
              go_at_call 19
              have HPL : Hid (m12 ≤ 1048576) := (by show _ ≤ _; have := putAll_len ts' ts; omega)
              have HPR : Hid (∀ k, k < m12 → (wat (putAll ts ts') k).1.length ≤ 1048576) := (fun k hk => by have := (at_of_mem (putAll_ok (M0 := 1000000) (M := 1000000) (by omega) (by omega) (goodT_rises HG.out) (goodT_six HG.out) (goodT_six HG'.out)) k (by omega)).1; omega)
              refine (l2Tell_any _ _ _ (putAll ts ts') _ _ hm12 HPL.out HPR.out ha12).mono ?_
              rintro e w14 ⟨⟨r14, m14, d14, cs14, rfl, ho14⟩, hb14⟩
              have c0 := cell_later hb14 c0
              have c1 := cell_later hb14 c1
              have b0 := cell_later hb14 b0
              have b1 := cell_later hb14 b1
              have HA2 := HA2.below hb14
              have HA2' := HA2'.below hb14
              have hq14 := (hb14.block (w12.heap.size) (Array.getElem?_eq_some_iff.1 hp13).1).trans hp13
              have Y14 : Below w2.heap.size w2 w14 := Y13.trans (hb14.mono Y13.size)
              have zz14 : w13.heap.size ≤ w14.heap.size := by have q := hb14.size; first | exact q | simpa using q
              (try go_wp2_with fail)
              refine hK.out _ _ ?_ (fun hHeld' => ?_)
              · (try dsimp only)
                exact ⟨c0, c1, b0, b1⟩
              clear hK K hHeld
              have hHeld := hHeld'
              clear hHeld'
              (try simp only [Act.put, List.setIfInBounds_toArray, List.set_cons_zero, List.set_cons_succ])
              refine wpAnyH_take (i := 8) (oi := ?_) (v := ?_) ?_ (by kernel_rfl) (by kernel_rfl) (by kernel_rfl) ?_ (Or.inl ⟨?_, ?_⟩) (by assumption) ?_
              rotate_left 2
              · (simp only [List.getElem?_toArray, List.getElem?_cons_zero, List.getElem?_cons_succ]; rfl)
              · exact fun _ _ _ h => h
              · rfl
              · (intro wS hSw; (try dsimp only at hSw); go_simp; (try with_reducible rfl))
              (try simp only [Act.put, List.setIfInBounds_toArray, List.set_cons_zero, List.set_cons_succ])
              refine wpAnyH_take (i := 9) (oi := ?_) (v := ?_) ?_ (by kernel_rfl) (by kernel_rfl) (by kernel_rfl) ?_ (Or.inl ⟨?_, ?_⟩) (by assumption) ?_
              rotate_left 2
              · (simp only [List.getElem?_toArray, List.getElem?_cons_zero, List.getElem?_cons_succ]; rfl)
              · exact fun _ _ _ h => h
              · rfl
              · (intro wS hSw; (try dsimp only at hSw); go_simp; (try with_reducible rfl))
              (try simp only [Act.put, List.setIfInBounds_toArray, List.set_cons_zero, List.set_cons_succ])
              refine wpAnyH_take (i := 10) (oi := ?_) (v := ?_) ?_ (by kernel_rfl) (by kernel_rfl) (by kernel_rfl) ?_ (Or.inl ⟨?_, ?_⟩) (by assumption) ?_
              rotate_left 2
              · (simp only [List.getElem?_toArray, List.getElem?_cons_zero, List.getElem?_cons_succ]; rfl)
              · exact fun _ _ _ h => h
              · rfl
              · (intro wS hSw; (try dsimp only at hSw); go_simp; (try with_reducible rfl))
              (try simp only [Act.put, List.setIfInBounds_toArray, List.set_cons_zero, List.set_cons_succ])
              have u0 : w14.cell? ⟨w12.heap.size, 0, none⟩ = some (.int .i64 0) := by rw [cell_of_row _ _ 0 _ _ (0, 0) hq14]; rfl
              have u1 : w14.cell? ⟨w12.heap.size, 1, none⟩ = some (.slice none 0 0) := by rw [cell_of_row _ _ 1 _ _ (0, 0) hq14]; rfl
              have v0 : w14.frozen? ⟨w12.heap.size, 0, none⟩ = false := frozen_of_row _ _ 0 _ _ hq14
              have v1 : w14.frozen? ⟨w12.heap.size, 1, none⟩ = false := frozen_of_row _ _ 1 _ _ hq14
              refine wpAnyH_ready (rs := [12]) (by kernel_rfl) (by simp) ?_
              refine AllReadyH.cons (o := ?_) ?_ (fun K hK => ?_) AllReadyH.nil
              rotate_left
              · (simp only [List.getElem?_toArray, List.getElem?_cons_zero, List.getElem?_cons_succ]; rfl)
              go_simp
              skip
              (try go_wp2_with fail)
              refine hK.out _ _ ?_ (fun hHeld' => ?_)
              · (try dsimp only)
                exact ⟨keep_far (keep_far c0 (by omega)) (by omega), keep_far (keep_far c1 (by omega)) (by omega), keep_far (keep_far b0 (by omega)) (by omega), keep_far (keep_far b1 (by omega)) (by omega)⟩
              clear hK K hHeld
              have hHeld := hHeld'
              clear hHeld'
              (try simp only [Act.put, List.setIfInBounds_toArray, List.set_cons_zero, List.set_cons_succ])
              refine wpAnyH_take (i := 13) (oi := ?_) (v := ?_) ?_ (by kernel_rfl) (by kernel_rfl) (by kernel_rfl) ?_ (Or.inl ⟨?_, ?_⟩) (by assumption) ?_
              rotate_left 2
              · (simp only [List.getElem?_toArray, List.getElem?_cons_zero, List.getElem?_cons_succ]; rfl)
              · exact fun _ _ _ h => h
              · rfl
              · (intro wS hSw; (try dsimp only at hSw); go_simp; (try with_reducible rfl))
              (try simp only [Act.put, List.setIfInBounds_toArray, List.set_cons_zero, List.set_cons_succ])
              refine wpAnyH_done (by kernel_rfl) ?_ _
              (try go_wp2_with fail)
              go_meet
              case rel =>
                exact ⟨rfl, (Y14.setCell (by show w2.heap.size ≤ w12.heap.size; omega) _).setCell (by show w2.heap.size ≤ w12.heap.size; omega) _⟩
          refine AllReadyH.cons (o := ?_) ?_ (fun K hK => ?_) AllReadyH.nil
          rotate_left
          · (simp only [List.getElem?_toArray, List.getElem?_cons_zero, List.getElem?_cons_succ]; rfl)
          · go_simp
            (try go_wp2_with fail)
            refine hK.out _ _ ?_ (fun hHeld' => ?_)
            · (try dsimp only)
              exact ⟨cell_later ((Below.refl _ _).alloc (Nat.le_refl _) _) c0, cell_later ((Below.refl _ _).alloc (Nat.le_refl _) _) c1, cell_later ((Below.refl _ _).alloc (Nat.le_refl _) _) b0, cell_later ((Below.refl _ _).alloc (Nat.le_refl _) _) b1⟩
            clear hK K hHeld
            have hHeld := hHeld'
            clear hHeld'
            (try simp only [Act.put, List.setIfInBounds_toArray, List.set_cons_zero, List.set_cons_succ])
            obtain ⟨w12, hU12⟩ : ∃ u, u = w11.alloc (.cells #[.int .i64 0, .slice none 0 0] 28) := ⟨_, rfl⟩
            have hb12 : Below w11.heap.size w11 w12 := by rw [hU12]; exact (Below.refl _ _).alloc (Nat.le_refl _) _
            have hp12 : w12.heap[w11.heap.size]? = some (.cells #[.int .i64 0, .slice none 0 0] 28 (0, 0)) := by rw [hU12]; exact heap_alloc_new _ _
            rw [← hU12]
            clear hU12
            have c0 := cell_later hb12 c0
            have c1 := cell_later hb12 c1
            have b0 := cell_later hb12 b0
            have b1 := cell_later hb12 b1
            have HA2 := HA2.below hb12
            have HA2' := HA2'.below hb12
            have Y12 : Below w2.heap.size w2 w12 := Y11.trans (hb12.mono Y11.size)
            have zz12 : w11.heap.size ≤ w12.heap.size := by have q := hb12.size; first | exact q | simpa using q
            refine wpAnyH_ready (rs := [6]) (by kernel_rfl) (by simp) ?_
            refine AllReadyH.cons (o := ?_) ?_ (fun K hK => ?_) AllReadyH.nil
            rotate_left
            · (simp only [List.getElem?_toArray, List.getElem?_cons_zero, List.getElem?_cons_succ]; rfl)
            go_simp
            go_at_call 20
            refine (l2Add_any _ _ _ _ _ _ ts ts' _ hz hz' (by omega) (by omega) hF (goodT_rises HG.out) (goodT_six HG.out) (goodT_six HG'.out) HA2 HA2').mono ?_
            rintro e w13 ⟨r13, m13, d13, rfl, hm13, _, ha13, hb13⟩
            have c0 := cell_later hb13 c0
            have c1 := cell_later hb13 c1
            have b0 := cell_later hb13 b0
            have b1 := cell_later hb13 b1
            have HA2 := HA2.below hb13
            have HA2' := HA2'.below hb13
            have hq13 := (hb13.block (w11.heap.size) (Array.getElem?_eq_some_iff.1 hp12).1).trans hp12
            have Y13 : Below w2.heap.size w2 w13 := Y12.trans (hb13.mono Y12.size)
            have zz13 : w12.heap.size ≤ w13.heap.size := by have q := hb13.size; first | exact q | simpa using q
            (try go_wp2_with fail)
            refine hK.out _ _ ?_ (fun hHeld' => ?_)
            · (try dsimp only)
              exact ⟨c0, c1, b0, b1⟩
            clear hK K hHeld
            have hHeld := hHeld'
            clear hHeld'
            (try simp only [Act.put, List.setIfInBounds_toArray, List.set_cons_zero, List.set_cons_succ])
            refine wpAnyH_ready (rs := [7]) (by kernel_rfl) (by simp) ?_
            refine AllReadyH.cons (o := ?_) ?_ (fun K hK => ?_) AllReadyH.nil
            rotate_left
            · (simp only [List.getElem?_toArray, List.getElem?_cons_zero, List.getElem?_cons_succ]; rfl)
            go_simp
            go_at_call 19
            have HPL : Hid (m13 ≤ 1048576) := (by show _ ≤ _; have := putAll_len ts' ts; omega)
            have HPR : Hid (∀ k, k < m13 → (wat (putAll ts ts') k).1.length ≤ 1048576) := (fun k hk => by have := (at_of_mem (putAll_ok (M0 := 1000000) (M := 1000000) (by omega) (by omega) (goodT_rises HG.out) (goodT_six HG.out) (goodT_six HG'.out)) k (by omega)).1; omega)
            refine (l2Tell_any _ _ _ (putAll ts ts') _ _ hm13 HPL.out HPR.out ha13).mono ?_
            rintro e w14 ⟨⟨r14, m14, d14, cs14, rfl, ho14⟩, hb14⟩
            have c0 := cell_later hb14 c0
            have c1 := cell_later hb14 c1
            have b0 := cell_later hb14 b0
            have b1 := cell_later hb14 b1
            have HA2 := HA2.below hb14
            have HA2' := HA2'.below hb14
            have hq14 := (hb14.block (w11.heap.size) (Array.getElem?_eq_some_iff.1 hq13).1).trans hq13
            have Y14 : Below w2.heap.size w2 w14 := Y13.trans (hb14.mono Y13.size)
            have zz14 : w13.heap.size ≤ w14.heap.size := by have q := hb14.size; first | exact q | simpa using q
            (try go_wp2_with fail)
            refine hK.out _ _ ?_ (fun hHeld' => ?_)
            · (try dsimp only)
              exact ⟨c0, c1, b0, b1⟩
            clear hK K hHeld
            have hHeld := hHeld'
            clear hHeld'
            (try simp only [Act.put, List.setIfInBounds_toArray, List.set_cons_zero, List.set_cons_succ])
            refine wpAnyH_take (i := 8) (oi := ?_) (v := ?_) ?_ (by kernel_rfl) (by kernel_rfl) (by kernel_rfl) ?_ (Or.inl ⟨?_, ?_⟩) (by assumption) ?_
            rotate_left 2
            · (simp only [List.getElem?_toArray, List.getElem?_cons_zero, List.getElem?_cons_succ]; rfl)
            · exact fun _ _ _ h => h
            · rfl
            · (intro wS hSw; (try dsimp only at hSw); go_simp; (try with_reducible rfl))
            (try simp only [Act.put, List.setIfInBounds_toArray, List.set_cons_zero, List.set_cons_succ])
            refine wpAnyH_take (i := 9) (oi := ?_) (v := ?_) ?_ (by kernel_rfl) (by kernel_rfl) (by kernel_rfl) ?_ (Or.inl ⟨?_, ?_⟩) (by assumption) ?_
            rotate_left 2
            · (simp only [List.getElem?_toArray, List.getElem?_cons_zero, List.getElem?_cons_succ]; rfl)
            · exact fun _ _ _ h => h
            · rfl
            · (intro wS hSw; (try dsimp only at hSw); go_simp; (try with_reducible rfl))
            (try simp only [Act.put, List.setIfInBounds_toArray, List.set_cons_zero, List.set_cons_succ])
            refine wpAnyH_take (i := 10) (oi := ?_) (v := ?_) ?_ (by kernel_rfl) (by kernel_rfl) (by kernel_rfl) ?_ (Or.inl ⟨?_, ?_⟩) (by assumption) ?_
            rotate_left 2
            · (simp only [List.getElem?_toArray, List.getElem?_cons_zero, List.getElem?_cons_succ]; rfl)
            · exact fun _ _ _ h => h
            · rfl
            · (intro wS hSw; (try dsimp only at hSw); go_simp; (try with_reducible rfl))
            (try simp only [Act.put, List.setIfInBounds_toArray, List.set_cons_zero, List.set_cons_succ])
            have u0 : w14.cell? ⟨w11.heap.size, 0, none⟩ = some (.int .i64 0) := by rw [cell_of_row _ _ 0 _ _ (0, 0) hq14]; rfl
            have u1 : w14.cell? ⟨w11.heap.size, 1, none⟩ = some (.slice none 0 0) := by rw [cell_of_row _ _ 1 _ _ (0, 0) hq14]; rfl
            have v0 : w14.frozen? ⟨w11.heap.size, 0, none⟩ = false := frozen_of_row _ _ 0 _ _ hq14
            have v1 : w14.frozen? ⟨w11.heap.size, 1, none⟩ = false := frozen_of_row _ _ 1 _ _ hq14
            refine wpAnyH_ready (rs := [12]) (by kernel_rfl) (by simp) ?_
            refine AllReadyH.cons (o := ?_) ?_ (fun K hK => ?_) AllReadyH.nil
            rotate_left
            · (simp only [List.getElem?_toArray, List.getElem?_cons_zero, List.getElem?_cons_succ]; rfl)
            go_simp
            skip
            (try go_wp2_with fail)
            refine hK.out _ _ ?_ (fun hHeld' => ?_)
            · (try dsimp only)
              exact ⟨keep_far (keep_far c0 (by omega)) (by omega), keep_far (keep_far c1 (by omega)) (by omega), keep_far (keep_far b0 (by omega)) (by omega), keep_far (keep_far b1 (by omega)) (by omega)⟩
            clear hK K hHeld
            have hHeld := hHeld'
            clear hHeld'
            (try simp only [Act.put, List.setIfInBounds_toArray, List.set_cons_zero, List.set_cons_succ])
            refine wpAnyH_take (i := 13) (oi := ?_) (v := ?_) ?_ (by kernel_rfl) (by kernel_rfl) (by kernel_rfl) ?_ (Or.inl ⟨?_, ?_⟩) (by assumption) ?_
            rotate_left 2
            · (simp only [List.getElem?_toArray, List.getElem?_cons_zero, List.getElem?_cons_succ]; rfl)
            · exact fun _ _ _ h => h
            · rfl
            · (intro wS hSw; (try dsimp only at hSw); go_simp; (try with_reducible rfl))
            (try simp only [Act.put, List.setIfInBounds_toArray, List.set_cons_zero, List.set_cons_succ])
            refine wpAnyH_done (by kernel_rfl) ?_ _
            (try go_wp2_with fail)
            go_meet
            case rel =>
              exact ⟨rfl, (Y14.setCell (by show w2.heap.size ≤ w11.heap.size; omega) _).setCell (by show w2.heap.size ≤ w11.heap.size; omega) _⟩
        case rest =>
          obtain ⟨rfl, hb3⟩ := hcut
          obtain ⟨w3, rfl⟩ : ∃ x, x = wc := ⟨_, rfl⟩
          have B3 := B2.trans (hb3.mono B2.size)
          replace f0 := frozen_later hb3 e0 f0
          replace f1 := frozen_later hb3 e1 f1
          replace e0 := cell_later hb3 e0
          replace e1 := cell_later hb3 e1
          replace c0 := cell_later hb3 c0
          replace c1 := cell_later hb3 c1
          replace b0 := cell_later hb3 b0
          replace b1 := cell_later hb3 b1
          have HA3 := HA2.below hb3
          have HA3' := HA2'.below hb3
          clear HA2 HA2' hb3
          cases hs : goodT p (putAll ts ts') with
          | false =>
            have HS := Hid.mk hs
            clear hs
            go_wp2
            refine bodyPost_ret (v := .tuple #[.agg #[.int .i64 0, .slice none 0 0], .bool false]) (by simp [results, Try.results6, go_sem, e0, e1]) rfl ⟨TabAns.zero (ddB_sum HS.out) rfl, ?_⟩
            exact (B3.setCell (by show w.heap.size ≤ w.heap.size + 1 + 1; omega) _).setCell (by show w.heap.size ≤ w.heap.size + 1 + 1; omega) _
          | true =>
            have HNB : Hid (ddB p ts p ts' = goodT p (ddW ts ts')) := ddB_on HG.out HG'.out hs
            clear hs
            have hz6 := goodT_six HG'.out
            have hzt := goodT_six HG.out
            go_wp2
            go_loopw [8, 45] (fun o i wr => ∃ (k : Nat) (r : Option Addr) (m d : Nat) (cs : List Value), k ≤ n' ∧ i = .int .i64 k ∧ o = .slice r m d ∧ m = (ddW ts (ts'.take k)).length ∧ wr.ownsRow w3.heap.size 48 2 (.slice r m d) m cs ∧ Means w3 cs (ddW ts (ts'.take k)) ∧ Below w3.heap.size w3 wr) (fun _ i _ => n' - (intOf i).toNat)
            case atStart => exact ⟨0, none, 0, 0, [], Nat.zero_le _, rfl, rfl, by simp [ddW], World.ownsRow_nil _ _ _ _, trivial, Below.refl _ _⟩
            case round =>
              obtain ⟨k, r, m, d, cs, hk, rfl, rfl, hml, ho, hme, hbw⟩ := hrel
              have HML := Hid.mk hml
              clear hml
              replace f0 := frozen_later hbw e0 f0
              replace f1 := frozen_later hbw e1 f1
              replace e0 := cell_later hbw e0
              replace e1 := cell_later hbw e1
              replace c0 := cell_later hbw c0
              replace c1 := cell_later hbw c1
              replace b0 := cell_later hbw b0
              replace b1 := cell_later hbw b1
              have B4 := B3.trans (hbw.mono B3.size)
              have HT := HA3.below hbw
              by_cases hlt : k < n'
              · have hl1 : k < ts'.length := by rw [hz']; exact hlt
                have hl0 : 0 < ts'.length := Nat.lt_of_le_of_lt (Nat.zero_le _) hl1
                have hex := HA3'.some hl0
                obtain ⟨b, off, hab, hc⟩ := hex
                subst hab
                obtain ⟨q, dd, hcx, hwx, hm1, hnil, hat⟩ := hc k hl1
                have hgk := at_of_mem hz6 k (by omega)
                have hwo := wOf_bound (zs := (wat ts' k).1) (show (0 : Int) ≤ 1000000 by omega) (fun s hs => (hzt s hs).2)
                have hdt := ddW_take ts ts' k (by omega)
                have hml2 := ddW_len ts (ts'.take k)
                have hki : (k : Int) < (n' : Int) := by omega
                have HZ6 : Hid (∀ k, k < n → (wat ts k).1.length ≤ 6) := fun k hk => (at_of_mem hzt k (by omega)).1
                have hm60 : m ≤ 60 := by have := HML.out; rw [List.length_take] at hml2; omega
                clear hml2
                have hG : ddG ts (wat ts' k) = if 0 < wOf ts (wat ts' k).1 ∧ wOf ts (wat ts' k).1 + (wat ts' k).2 ≤ 0 then some ((wat ts' k).1, -1) else if wOf ts (wat ts' k).1 ≤ 0 ∧ 0 < wOf ts (wat ts' k).1 + (wat ts' k).2 then some ((wat ts' k).1, 1) else none := rfl
                generalize wat ts' k = Y at *
                obtain ⟨ys, x⟩ := Y
                simp only at hcx hwx hat hm1 hgk hwo hG
                obtain ⟨m2, hmm⟩ : ∃ m2, ys.length = m2 := ⟨_, rfl⟩
                rw [hmm] at hcx hm1 hgk
                have HM := Hid.mk hmm
                obtain ⟨h6, hx1, hx2⟩ := hgk
                obtain ⟨u, hu⟩ : ∃ u, wOf ts ys = u := ⟨_, rfl⟩
                rw [hu] at hwo hG
                have HU := Hid.mk hu
                have hadd : IntKind.i64.wrap (u + x) = u + x := IntWalk.i64_in _ (by omega)
                have HATW := Hid.mk hat
                have hcx := cell_later hbw hcx
                have hwx := cell_later hbw hwx
                obtain ⟨V, hV⟩ : ∃ V, V = wr.alloc (.cells #[.slice q m2 dd, .int .i64 x] 48) := ⟨_, rfl⟩
                have hbV : Below wr.heap.size wr V := by rw [hV]; exact (Below.refl _ _).alloc (Nat.le_refl _) _
                have v3 : V.cell? ⟨wr.heap.size, 0, none⟩ = some (.slice q m2 dd) := by rw [hV]; exact pair0 wr _ _ _
                have v4 : V.cell? ⟨wr.heap.size, 1, none⟩ = some (.int .i64 x) := by rw [hV]; exact pair1 wr _ _ _
                have B5 := hbw.trans (hbV.mono hbw.size)
                have zV : V.heap.size = wr.heap.size + 1 := by rw [hV]; simp
                have a0 := alloc_keeps c0 (.cells #[.slice q m2 dd, .int .i64 x] 48)
                have a1 := alloc_keeps c1 (.cells #[.slice q m2 dd, .int .i64 x] 48)
                have HTV := HT.below hbV
                have hatV := (hat.below hbw).below hbV
                have hoV := owns_below ho hbV
                have HMN : Hid (Means w3 [.slice q m2 dd, .int .i64 (-1)] [(ys, -1)] ∧ Means w3 [.slice q m2 dd, .int .i64 1] [(ys, 1)]) := ⟨Means.one HM.out hm1 hnil HATW.out, Means.one HM.out hm1 hnil HATW.out⟩
                clear hmm hc hu
                have v3w : wr.heap.size < V.heap.size := by omega
                by_cases k1 : 0 < u ∧ u + x ≤ 0
                · rw [if_pos k1] at hG
                  have p1 : 0 < u := k1.1
                  have p2 : u + x ≤ 0 := k1.2
                  have HE : Hid (ddW ts (ts'.take (k + 1)) = ddW ts (ts'.take k) ++ [(ys, -1)]) := by show _ = _; rw [hdt, hG]; rfl
                  clear hdt hG k1
                  go_wp2_with (first | (go_at_call 21; rw [← hV]; clear hV hcx hwx; refine (l2Of_any _ _ _ _ _ _ ts _ ys _ hz HM.out (by omega) h6 HZ6.out HTV.atW hatV).mono ?_; rintro e w4 ⟨rfl, hb4⟩; rw [HU.out]; have v3 := cell_later hb4 v3; have v4 := cell_later hb4 v4; have B6 := B5.trans (hb4.mono B5.size); have ho4 := owns_below hoV hb4; clear hb4 hbV HT HTV hat hatV ho hoV hbw B5) | (at_builtin; refine wpList_append_lies _ rfl (.tmp 63) (.tmp 67) 26 rfl w3.heap.size 48 i0 (.agg #[.slice none 0 0, .int .i64 0]) 2 32 Try.underlying26 hi hz0 hz1 hz2 rfl (by decide) (.slice r m d) m cs rfl (ho4.alloc _) ⟨w4.heap.size, 0, none⟩ 1 1 [.slice q m2 dd, .int .i64 (-1)] (by simp [Act.eval]) rfl (by simpa using news_at w4 #[.slice q m2 dd, .int .i64 (-1)] 48) (by intro u hu; simp at hu; rcases hu with rfl | rfl <;> rfl) (by decide) (by unfold maxLen; omega) (by omega) (by have := B6.size; simp; omega) (w4.heap.size + 1) (by simp) ?_; intro g2 cap2 w5 hown5 hgrow5 hat5 hlt5))
                  have hgr : w4.grownBy w5 (Value.slice r m d).ownBlock := grown_alloc hgrow5
                  have hrb : ∀ k, (Value.slice r m d).ownBlock = some k → w3.heap.size ≤ k := fun k hk => (ho4.lt k hk).1
                  have HB5 := Hid.mk (B6.grown hgr B6.size (fun j hj => hrb j hj))
                  have HMX : Hid (Means w3 (cs ++ [.slice q m2 dd, .int .i64 (-1)]) (ddW ts (ts'.take (k + 1)))) := by
                    show Means _ _ _
                    rw [HE.out]; exact Means.append hme HMN.out.1
                  have HLX : Hid (m + 1 = (ddW ts (ts'.take (k + 1))).length) := by
                    show _ = _
                    rw [HE.out, List.length_append, ← HML.out]; rfl
                  have HOW := Hid.mk hown5
                  clear hown5 hgrow5 hat5 hlt5 hgr hrb ho4 hme
                  go_wp2
                  go_roundw
                  case rel => exact ⟨k + 1, _, _, _, _, by omega, by go_num, rfl, HLX.out, HOW.out, HMX.out, HB5.out⟩
                  case measure => simp [intOf]; omega
                · rw [if_neg k1] at hG
                  by_cases k2 : u ≤ 0 ∧ 0 < u + x
                  · rw [if_pos k2] at hG
                    have p1 : u ≤ 0 := k2.1
                    have p2 : 0 < u + x := k2.2
                    have p3 : ¬ 0 < u := by omega
                    have HE : Hid (ddW ts (ts'.take (k + 1)) = ddW ts (ts'.take k) ++ [(ys, 1)]) := by show _ = _; rw [hdt, hG]; rfl
                    clear hdt hG k1 k2
                    go_wp2_with (first | (go_at_call 21; rw [← hV]; clear hV hcx hwx; refine (l2Of_any _ _ _ _ _ _ ts _ ys _ hz HM.out (by omega) h6 HZ6.out HTV.atW hatV).mono ?_; rintro e w4 ⟨rfl, hb4⟩; rw [HU.out]; have v3 := cell_later hb4 v3; have v4 := cell_later hb4 v4; have B6 := B5.trans (hb4.mono B5.size); have ho4 := owns_below hoV hb4; clear hb4 hbV HT HTV hat hatV ho hoV hbw B5) | (at_builtin; refine wpList_append_lies _ rfl (.tmp 79) (.tmp 83) 26 rfl w3.heap.size 48 i0 (.agg #[.slice none 0 0, .int .i64 0]) 2 32 Try.underlying26 hi hz0 hz1 hz2 rfl (by decide) (.slice r m d) m cs rfl (ho4.alloc _) ⟨w4.heap.size, 0, none⟩ 1 1 [.slice q m2 dd, .int .i64 (1)] (by simp [Act.eval]) rfl (by simpa using news_at w4 #[.slice q m2 dd, .int .i64 (1)] 48) (by intro u hu; simp at hu; rcases hu with rfl | rfl <;> rfl) (by decide) (by unfold maxLen; omega) (by omega) (by have := B6.size; simp; omega) (w4.heap.size + 1) (by simp) ?_; intro g2 cap2 w5 hown5 hgrow5 hat5 hlt5))
                    have hgr : w4.grownBy w5 (Value.slice r m d).ownBlock := grown_alloc hgrow5
                    have hrb : ∀ k, (Value.slice r m d).ownBlock = some k → w3.heap.size ≤ k := fun k hk => (ho4.lt k hk).1
                    have HB5 := Hid.mk (B6.grown hgr B6.size (fun j hj => hrb j hj))
                    have HMX : Hid (Means w3 (cs ++ [.slice q m2 dd, .int .i64 (1)]) (ddW ts (ts'.take (k + 1)))) := by
                      show Means _ _ _
                      rw [HE.out]; exact Means.append hme HMN.out.2
                    have HLX : Hid (m + 1 = (ddW ts (ts'.take (k + 1))).length) := by
                      show _ = _
                      rw [HE.out, List.length_append, ← HML.out]; rfl
                    have HOW := Hid.mk hown5
                    clear hown5 hgrow5 hat5 hlt5 hgr hrb ho4 hme
                    go_wp2
                    go_roundw
                    case rel => exact ⟨k + 1, _, _, _, _, by omega, by go_num, rfl, HLX.out, HOW.out, HMX.out, HB5.out⟩
                    case measure => simp [intOf]; omega
                  · rw [if_neg k2] at hG
                    have HE : Hid (ddW ts (ts'.take (k + 1)) = ddW ts (ts'.take k)) := by show _ = _; rw [hdt, hG]; simp
                    have HMX : Hid (Means w3 cs (ddW ts (ts'.take (k + 1)))) := by
                      show Means _ _ _
                      rw [HE.out]; exact hme
                    have HLX : Hid (m = (ddW ts (ts'.take (k + 1))).length) := by
                      show _ = _
                      rw [HE.out]; exact HML.out
                    by_cases p1 : 0 < u
                    · have p2 : ¬ u + x ≤ 0 := fun h => k1 ⟨p1, h⟩
                      have p3 : ¬ u ≤ 0 := by omega
                      clear hdt hG k1 k2 hme
                      go_wp2_with (go_at_call 21; rw [← hV]; clear hV hcx hwx; refine (l2Of_any _ _ _ _ _ _ ts _ ys _ hz HM.out (by omega) h6 HZ6.out HTV.atW hatV).mono ?_; rintro e w4 ⟨rfl, hb4⟩; rw [HU.out]; have v3 := cell_later hb4 v3; have v4 := cell_later hb4 v4; have B6 := B5.trans (hb4.mono B5.size); have ho4 := owns_below hoV hb4; clear hb4 hbV HT HTV hat hatV ho hoV hbw B5)
                      go_roundw
                      case rel => exact ⟨k + 1, _, _, _, _, by omega, by go_num, rfl, HLX.out, ho4, HMX.out, B6⟩
                      case measure => simp [intOf]; omega
                    · have p2 : u ≤ 0 := by omega
                      have p3 : ¬ 0 < u + x := fun h => k2 ⟨p2, h⟩
                      clear hdt hG k1 k2 hme
                      go_wp2_with (go_at_call 21; rw [← hV]; clear hV hcx hwx; refine (l2Of_any _ _ _ _ _ _ ts _ ys _ hz HM.out (by omega) h6 HZ6.out HTV.atW hatV).mono ?_; rintro e w4 ⟨rfl, hb4⟩; rw [HU.out]; have v3 := cell_later hb4 v3; have v4 := cell_later hb4 v4; have B6 := B5.trans (hb4.mono B5.size); have ho4 := owns_below hoV hb4; clear hb4 hbV HT HTV hat hatV ho hoV hbw B5)
                      go_roundw
                      case rel => exact ⟨k + 1, _, _, _, _, by omega, by go_num, rfl, HLX.out, ho4, HMX.out, B6⟩
                      case measure => simp [intOf]; omega
              · obtain rfl : k = n' := by omega
                have hml := HML.out
                rw [wtake_all' ts' hz'] at hml hme
                have HDL : Hid ((ddW ts ts').length = m) := hml.symm
                clear hml
                have ZR : Hid (w.heap.size + 1 + 1 < wr.heap.size) := World.block_lt_of_cell? _ _ e0
                have HAD := (hme.below hbw).ownedM HDL.out ho
                have HPL : Hid (m ≤ 1048576) := by show _ ≤ _; have := ddW_len ts ts'; have := HDL.out; omega
                have HD6 := ddW_six (ts := ts) (goodT_six HG'.out)
                have HPR : Hid (∀ j, j < m → (wat (ddW ts ts') j).1.length ≤ 1048576) := fun j hj => by
                  have := HD6 _ (wat_mem (show j < (ddW ts ts').length by rw [HDL.out]; exact hj))
                  omega
                clear hme HD6
                go_wp2_with fail
                refine (l2Tell_any _ _ _ (ddW ts ts') _ _ HDL.out HPL.out HPR.out HAD).mono ?_
                rintro e w5 ⟨⟨r5, m5, d5, cells5, rfl, ho5⟩, hb5⟩
                replace f0 := frozen_later hb5 e0 f0
                replace f1 := frozen_later hb5 e1 f1
                replace e0 := cell_later hb5 e0
                replace e1 := cell_later hb5 e1
                go_wp2
                have B7 := B4.trans (hb5.mono B4.size)
                have zR : w.heap.size + 1 + 1 < wr.heap.size := ZR.out
                refine bodyPost_ret (v := .tuple #[.agg #[.int .i64 _, .slice r5 m5 d5], .bool _]) (by simp [results, Try.results6, go_sem, e0, e1]) rfl ⟨TabAns.tell HNB.out ⟨r5, m5, d5, cells5, rfl, ho5.stored zR (by omega) _ _⟩, ?_⟩
                exact (B7.setCell (by show w.heap.size ≤ w.heap.size + 1 + 1; omega) _).setCell (by show w.heap.size ≤ w.heap.size + 1 + 1; omega) _
      · have hne : (p != p') = true := by simp [hpp]
        have HP := Hid.mk hpp
        clear hpp
        go_enter Try.func6, Try.ntmps6
        go_wp2_with fail
        rw [← hW]
        clear hW
        refine (specGoodTable_any _ _ _ ts _ _ hz hn HA.atW).mono ?_
        rintro e w1 ⟨rfl, hb1⟩
        rw [HG.out]
        have B1 := B0.trans (hb1.mono B0.size)
        replace f0 := frozen_later hb1 e0 f0
        replace f1 := frozen_later hb1 e1 f1
        replace e0 := cell_later hb1 e0
        replace e1 := cell_later hb1 e1
        replace c0 := cell_later hb1 c0
        replace c1 := cell_later hb1 c1
        replace b0 := cell_later hb1 b0
        replace b1 := cell_later hb1 b1
        go_wp2_with fail
        refine (specGoodTable_any _ _ _ ts' _ _ hz' hn' (HA'.below hb1).atW).mono ?_
        rintro e w2 ⟨rfl, hb2⟩
        rw [HG'.out]
        have B2 := B1.trans (hb2.mono B1.size)
        replace f0 := frozen_later hb2 e0 f0
        replace f1 := frozen_later hb2 e1 f1
        replace e0 := cell_later hb2 e0
        replace e1 := cell_later hb2 e1
        replace c0 := cell_later hb2 c0
        replace c1 := cell_later hb2 c1
        replace b0 := cell_later hb2 b0
        replace b1 := cell_later hb2 b1
        go_wp2
        refine bodyPost_ret (v := .tuple #[.agg #[.int .i64 0, .slice none 0 0], .bool false]) (by simp [results, Try.results6, go_sem, e0, e1]) rfl ⟨TabAns.zero (ddB_alike (alike_col' HP.out)) rfl, ?_⟩
        exact (B2.setCell (by show w.heap.size ≤ w.heap.size + 1 + 1; omega) _).setCell (by show w.heap.size ≤ w.heap.size + 1 + 1; omega) _

end Go.Proofs.Ytmkhdocjabflkab
