/- Contracts of impl.plainRows, impl.DistinctTable, spec.l3Distinct, spec.DistinctTable. -/
import Derived.Test.YtpnaoahlfhbbmaaM13
import Derived.Test.YtpnaoahlfhbbmaaM18
import Derived.Test.YtpnaoahlfhbbmaaM20
namespace Go.Proofs.Ytpnaoahlfhbbmaa
open Go.RowKit Go.Shelf

theorem plainRows_any (gf : Nat) (lb : Array Value) (w : World) :
    Calls Try.prog 71 #[.func (.func gf) #[] lb] w fun e w' => e = .returned (.func (.func 76) #[] #[.pointer (some ⟨w.heap.size, 0, none⟩)]) ∧ w' = w.alloc (.cells #[.func (.func gf) #[] lb] 94) := by
  go_enter Try.func71, Try.ntmps71
  go_wp2
  go_ret
  exact ⟨rfl, rfl⟩

/-- The rows that are there, once. -/
def distW (ts : List WRow) : List WRow := ts.filterMap plainG
def distB (p : Int) (ts : List WRow) : Bool := goodT p ts && goodT p (distW ts)
theorem distB_no {p : Int} {ts : List WRow} (h : goodT p ts = false) : distB p ts = false := by simp [distB, h]
theorem distB_yes {p : Int} {ts : List WRow} (h : goodT p ts = true) : distB p ts = goodT p (distW ts) := by simp [distB, h]
theorem plainG_some {t s : WRow} (h : plainG t = some s) : s = (t.1, 1) ∧ 0 < t.2 := by
  unfold plainG at h
  split at h
  · exact ⟨by simpa using h.symm, by assumption⟩
  · cases h
theorem tells_dist {q : Nat} {ts : List WRow} (h : goodT q ts = true) : Tells q (sumAt (distW ts) (distW ts).length 1) (distW ts) :=
  tells_self (rises_some (fun t s hs => by rw [(plainG_some hs).1]) (goodT_rises h)) (fun t ht => by obtain ⟨s, hs, e⟩ := some_mem ht; rw [(plainG_some e).1]; simp) (fun t ht => by obtain ⟨s, hs, e⟩ := some_mem ht; rw [(plainG_some e).1]; exact goodT_mem h s hs)
theorem distW_len (ts : List WRow) : (distW ts).length ≤ ts.length := List.length_filterMap_le _ _
theorem distW_ok {p : Int} {ts : List WRow} (h : goodT p ts = true) : ∀ t ∈ distW ts, good t.1 = true ∧ -1000000000000 ≤ t.2 ∧ t.2 ≤ 1000000000000 := fun t ht => by
  obtain ⟨s, hs, e⟩ := some_mem ht
  rw [(plainG_some e).1]
  exact ⟨(goodL_mem (goodL_of_goodT h) s hs).1, by simp, by simp⟩

set_option maxRecDepth 100000 in
set_option maxHeartbeats 4000000 in
theorem implDistinctTable (a : Option Addr) (n c : Nat) (ts : List WRow) (p : Int) (w : World) (hz : ts.length = n) (hn : n ≤ 1048576) (ha : AtM w a ts) :
    Calls Try.prog 56 #[.agg #[.int .i64 p, .slice a n c]] w fun e w' => TabAns e w' w.heap.size (distB p ts) p (distW ts) ∧ Below w.heap.size w w' := by
  obtain ⟨W, hW⟩ : ∃ W, W = (w.alloc (.cells #[.int .i64 p, .slice a n c] 36)).alloc (.cells #[.int .i64 0, .slice none 0 0] 36) := ⟨_, rfl⟩
  have zW : W.heap.size = w.heap.size + 1 + 1 := by rw [hW]; simp
  have B0 : Below w.heap.size w W := by rw [hW]; exact ((Below.refl _ _).alloc (Nat.le_refl _) _).alloc (by simp) _
  have c0 : W.cell? ⟨w.heap.size, 0, none⟩ = some (.int .i64 p) := by rw [hW]; exact alloc_keeps (pair0 w _ _ _) _
  have c1 : W.cell? ⟨w.heap.size, 1, none⟩ = some (.slice a n c) := by rw [hW]; exact alloc_keeps (pair1 w _ _ _) _
  have q0 : W.heap[w.heap.size + 1]? = some (.cells #[.int .i64 0, .slice none 0 0] 36 (0, 0)) := by
    rw [hW]
    have := heap_alloc_new (w.alloc (.cells #[.int .i64 p, .slice a n c] 36)) (.cells #[.int .i64 0, .slice none 0 0] 36)
    rwa [World.size_alloc] at this
  have e0 : W.cell? ⟨w.heap.size + 1, 0, none⟩ = some (.int .i64 0) := by rw [cell_of_row _ _ 0 _ _ (0, 0) q0]; rfl
  have e1 : W.cell? ⟨w.heap.size + 1, 1, none⟩ = some (.slice none 0 0) := by rw [cell_of_row _ _ 1 _ _ (0, 0) q0]; rfl
  have f0 : W.frozen? ⟨w.heap.size + 1, 0, none⟩ = false := frozen_of_row _ _ 0 _ _ q0
  have f1 : W.frozen? ⟨w.heap.size + 1, 1, none⟩ = false := frozen_of_row _ _ 1 _ _ q0
  have HA := ha.below B0
  clear ha q0
  cases hg : goodT p ts with
  | false =>
    have HG := Hid.mk hg
    clear hg
    go_enter Try.func56, Try.ntmps56
    go_wp2_with fail
    rw [← hW]
    clear hW
    refine (implGoodTable_any _ _ _ ts _ _ hz hn HA.atW).mono ?_
    rintro e w1 ⟨rfl, hb1⟩
    rw [HG.out]
    have B1 := B0.trans (hb1.mono B0.size)
    have f0 := frozen_later hb1 e0 f0
    have f1 := frozen_later hb1 e1 f1
    have e0 := cell_later hb1 e0
    have e1 := cell_later hb1 e1
    have c0 := cell_later hb1 c0
    have c1 := cell_later hb1 c1
    go_wp2
    refine bodyPost_ret (v := .tuple #[.agg #[.int .i64 0, .slice none 0 0], .bool false]) (by simp [results, Try.results56, go_sem, e0, e1]) rfl ⟨TabAns.zero (distB_no HG.out) rfl, ?_⟩
    exact (B1.setCell (by show w.heap.size ≤ w.heap.size + 1; omega) _).setCell (by show w.heap.size ≤ w.heap.size + 1; omega) _
  | true =>
    have HG := Hid.mk hg
    obtain ⟨q, hq⟩ : ∃ q : Nat, p = q := ⟨p.toNat, by have := inc_range (goodT_parts hg).1; omega⟩
    subst hq
    have h6 : q ≤ 6 := by have := inc_range (goodT_parts hg).1; omega
    have n60 := goodT_len60 hg
    clear hg
    go_enter Try.func56, Try.ntmps56
    go_wp2_with fail
    rw [← hW]
    clear hW
    refine (implGoodTable_any _ _ _ ts _ _ hz hn HA.atW).mono ?_
    rintro e w1 ⟨rfl, hb1⟩
    rw [HG.out]
    have B1 := B0.trans (hb1.mono B0.size)
    have f0 := frozen_later hb1 e0 f0
    have f1 := frozen_later hb1 e1 f1
    have e0 := cell_later hb1 e0
    have e1 := cell_later hb1 e1
    have c0 := cell_later hb1 c0
    have c1 := cell_later hb1 c1
    have HA2 := HA.below hb1
    have HNB : Hid (distB q ts = goodT q (distW ts)) := distB_yes HG.out
    go_wp2_with fail
    refine wp_region_held_drew (S := fun w' => w'.cell? ⟨w.heap.size, 0, none⟩ = some (.int .i64 q) ∧ w'.cell? ⟨w.heap.size, 1, none⟩ = some (.slice a n c)) (by kernel_rfl) ?_ (fun hHeld => ?_)
    · (try dsimp only)
      exact ⟨c0, c1⟩
    refine wpAnyH_take (i := 0) (oi := ?_) (v := ?_) ?_ (by kernel_rfl) (by kernel_rfl) (by kernel_rfl) ?_ (Or.inl ⟨?_, ?_⟩) (by assumption) ?_
    rotate_left 2
    · (simp only [List.getElem?_toArray, List.getElem?_cons_zero]; rfl)
    · exact fun _ _ _ h => h
    · rfl
    · (intro wS hSw; (try dsimp only at hSw); go_simp; (try with_reducible rfl))
    (try simp only [Act.put, List.setIfInBounds_toArray, List.set_cons_zero, List.set_cons_succ])
    refine wpAnyH_take (i := 3) (oi := ?_) (v := ?_) ?_ (by kernel_rfl) (by kernel_rfl) (by kernel_rfl) ?_ (Or.inl ⟨?_, ?_⟩) (by assumption) ?_
    rotate_left 2
    · (simp only [List.getElem?_toArray, List.getElem?_cons_zero, List.getElem?_cons_succ]; rfl)
    · exact fun _ _ _ h => h
    · rfl
    · (intro wS hSw; (try dsimp only at hSw); go_simp; (try with_reducible rfl))
    (try simp only [Act.put, List.setIfInBounds_toArray, List.set_cons_zero, List.set_cons_succ])
    refine wpAnyH_take (i := 4) (oi := ?_) (v := ?_) ?_ (by kernel_rfl) (by kernel_rfl) (by kernel_rfl) ?_ (Or.inl ⟨?_, ?_⟩) (by assumption) ?_
    rotate_left 2
    · (simp only [List.getElem?_toArray, List.getElem?_cons_zero, List.getElem?_cons_succ]; rfl)
    · exact fun _ _ _ h => h
    · rfl
    · (intro wS hSw; (try dsimp only at hSw); go_simp; (try with_reducible rfl))
    (try simp only [Act.put, List.setIfInBounds_toArray, List.set_cons_zero, List.set_cons_succ])
    refine wpAnyH_ready (rs := [1]) (by kernel_rfl) (by simp) ?_
    refine AllReadyH.cons (o := ?_) ?_ (fun K hK => ?_) AllReadyH.nil
    rotate_left
    · (simp only [List.getElem?_toArray, List.getElem?_cons_zero, List.getElem?_cons_succ]; rfl)
    go_simp
    go_at_call 70; refine (rowsOf_any _ _ _ _ _).mono ?_; rintro e w2 ⟨rfl, hw2⟩; have hb2 : Below w1.drew.heap.size w1.drew w2 := (by rw [hw2]; exact (Below.refl _ _).alloc (Nat.le_refl _) _); have t2 : w2.cell? ⟨w1.heap.size, 1, none⟩ = some (.slice a n c) := (by rw [hw2]; exact pair1 w1.drew _ _ _); have f0 := frozen_later (w := w1.drew) hb2 e0 f0; have f1 := frozen_later (w := w1.drew) hb2 e1 f1; have e0 := cell_later hb2 e0; have e1 := cell_later hb2 e1; have c0 := cell_later hb2 c0; have c1 := cell_later hb2 c1; have HA3 := HA2.drew.below hb2; have B2 := B1.drew.trans (hb2.mono B1.size); have hR := rowsOf1_hands w1.heap.size a n c ts w2 hz hn t2 HA3; clear hw2
    (try go_wp2_with fail)
    refine hK.out _ _ ?_ (fun hHeld' => ?_)
    · (try dsimp only)
      exact ⟨c0, c1⟩
    clear hK K hHeld
    have hHeld := hHeld'
    clear hHeld'
    (try simp only [Act.put, List.setIfInBounds_toArray, List.set_cons_zero, List.set_cons_succ])
    refine wpAnyH_ready (rs := [2]) (by kernel_rfl) (by simp) ?_
    refine AllReadyH.cons (o := ?_) ?_ (fun K hK => ?_) AllReadyH.nil
    rotate_left
    · (simp only [List.getElem?_toArray, List.getElem?_cons_zero, List.getElem?_cons_succ]; rfl)
    go_simp
    go_at_call 71; refine (plainRows_any _ _ _).mono ?_; rintro e w3 ⟨rfl, hw3⟩; have hb3 : Below w2.heap.size w2 w3 := (by rw [hw3]; exact (Below.refl _ _).alloc (Nat.le_refl _) _); have t3 : w3.cell? ⟨w2.heap.size, 0, none⟩ = some (.func (.func 75) #[] #[.pointer (some ⟨w1.heap.size, 0, none⟩)]) := (by rw [hw3]; simp); have f0 := frozen_later hb3 e0 f0; have f1 := frozen_later hb3 e1 f1; have e0 := cell_later hb3 e0; have e1 := cell_later hb3 e1; have c0 := cell_later hb3 c0; have c1 := cell_later hb3 c1; have B3 := B2.trans (hb3.mono B2.size); have hP := plainRows1_hands w2.heap.size 75 #[.pointer (some ⟨w1.heap.size, 0, none⟩)] ts w3 t3 (enters_of Try.func75 (by kernel_rfl) rfl) (hR.later hb3); clear hw3
    (try go_wp2_with fail)
    refine hK.out _ _ ?_ (fun hHeld' => ?_)
    · (try dsimp only)
      exact ⟨c0, c1⟩
    clear hK K hHeld
    have hHeld := hHeld'
    clear hHeld'
    (try simp only [Act.put, List.setIfInBounds_toArray, List.set_cons_zero, List.set_cons_succ])
    refine wpAnyH_ready (rs := [5]) (by kernel_rfl) (by simp) ?_
    refine AllReadyH.cons (o := ?_) ?_ (fun K hK => ?_) AllReadyH.nil
    rotate_left
    · (simp only [List.getElem?_toArray, List.getElem?_cons_zero, List.getElem?_cons_succ]; rfl)
    go_simp
    go_at_call 68; refine (tableOf_any 76 #[.pointer (some ⟨w2.heap.size, 0, none⟩)] (distW ts) q w3 (enters_of Try.func76 (by kernel_rfl) rfl) hP h6 (by have := distW_len ts; omega) (at_of_mem (distW_ok HG.out)) (fun t ht => ((tells_dist HG.out).rows t ht).2)).mono ?_; rintro e w4 ⟨us, ⟨r4, m4, d4, cells4, rfl, ho4⟩, hTl, hb4⟩; have t0 := frozen_later hb4 e0 f0; have t1 := frozen_later hb4 e1 f1; have s0 := cell_later hb4 e0; have s1 := cell_later hb4 e1; have i0 := cell_later hb4 c0; have i1 := cell_later hb4 c1
    (try go_wp2_with fail)
    refine hK.out _ _ ?_ (fun hHeld' => ?_)
    · (try dsimp only)
      exact ⟨i0, i1⟩
    clear hK K hHeld
    have hHeld := hHeld'
    clear hHeld'
    (try simp only [Act.put, List.setIfInBounds_toArray, List.set_cons_zero, List.set_cons_succ])
    refine wpAnyH_take (i := 6) (oi := ?_) (v := ?_) ?_ (by kernel_rfl) (by kernel_rfl) (by kernel_rfl) ?_ (Or.inl ⟨?_, ?_⟩) (by assumption) ?_
    rotate_left 2
    · (simp only [List.getElem?_toArray, List.getElem?_cons_zero, List.getElem?_cons_succ]; rfl)
    · exact fun _ _ _ h => h
    · rfl
    · (intro wS hSw; (try dsimp only at hSw); go_simp; (try with_reducible rfl))
    (try simp only [Act.put, List.setIfInBounds_toArray, List.set_cons_zero, List.set_cons_succ])
    refine wpAnyH_take (i := 7) (oi := ?_) (v := ?_) ?_ (by kernel_rfl) (by kernel_rfl) (by kernel_rfl) ?_ (Or.inl ⟨?_, ?_⟩) (by assumption) ?_
    rotate_left 2
    · (simp only [List.getElem?_toArray, List.getElem?_cons_zero, List.getElem?_cons_succ]; rfl)
    · exact fun _ _ _ h => h
    · rfl
    · (intro wS hSw; (try dsimp only at hSw); go_simp; (try with_reducible rfl))
    (try simp only [Act.put, List.setIfInBounds_toArray, List.set_cons_zero, List.set_cons_succ])
    refine wpAnyH_ready (rs := [8]) (by kernel_rfl) (by simp) ?_
    refine AllReadyH.cons (o := ?_) ?_ (fun K hK => ?_) AllReadyH.nil
    rotate_left
    · (simp only [List.getElem?_toArray, List.getElem?_cons_zero, List.getElem?_cons_succ]; rfl)
    go_simp
    skip
    (try go_wp2_with fail)
    refine hK.out _ _ ?_ (fun hHeld' => ?_)
    · (try dsimp only)
      exact ⟨keep_far (keep_far i0 (by omega)) (by omega), keep_far (keep_far i1 (by omega)) (by omega)⟩
    clear hK K hHeld
    have hHeld := hHeld'
    clear hHeld'
    (try simp only [Act.put, List.setIfInBounds_toArray, List.set_cons_zero, List.set_cons_succ])
    refine wpAnyH_take (i := 9) (oi := ?_) (v := ?_) ?_ (by kernel_rfl) (by kernel_rfl) (by kernel_rfl) ?_ (Or.inl ⟨?_, ?_⟩) (by assumption) ?_
    rotate_left 2
    · (simp only [List.getElem?_toArray, List.getElem?_cons_zero, List.getElem?_cons_succ]; rfl)
    · exact fun _ _ _ h => h
    · rfl
    · (intro wS hSw; (try dsimp only at hSw); go_simp; (try with_reducible rfl))
    (try simp only [Act.put, List.setIfInBounds_toArray, List.set_cons_zero, List.set_cons_succ])
    refine wpAnyH_done (by kernel_rfl) ?_ _
    have hus : us = distW ts := hTl.unique (tells_dist HG.out)
    subst hus
    have B4 := B3.trans (hb4.mono B3.size)
    have zR : w.heap.size + 1 < w3.heap.size := World.block_lt_of_cell? _ _ (by assumption : w3.cell? ⟨w.heap.size + 1, 0, none⟩ = _)
    have e0 := s0
    have e1 := s1
    clear HA HA2 HA3 hb1 hb2 hb3 hb4 hHeld hR hP hTl
    go_wp2
    refine bodyPost_ret (v := .tuple #[.agg #[.int .i64 _, .slice r4 m4 d4], .bool _]) (by simp [results, Try.results56, go_sem, e0, e1]) rfl ⟨TabAns.tell HNB.out ⟨r4, m4, d4, cells4, rfl, ho4.stored zR (by omega) _ _⟩, ?_⟩
    exact (B4.setCell (by show w.heap.size ≤ w.heap.size + 1; omega) _).setCell (by show w.heap.size ≤ w.heap.size + 1; omega) _

theorem distW_take (ts : List WRow) (k : Nat) (h : k < ts.length) : distW (ts.take (k + 1)) = distW (ts.take k) ++ (plainG (wat ts k)).toList := by
  unfold distW
  rw [wtake_succ ts k h, List.filterMap_append, List.filterMap_cons]
  cases plainG (wat ts k) <;> rfl

set_option maxRecDepth 100000 in
set_option maxHeartbeats 4000000 in
theorem l3Distinct_any (a : Option Addr) (n c : Nat) (ts : List WRow) (w : World) (hz : ts.length = n) (hn : n ≤ 2048) (hg : ∀ s ∈ ts, s.1.length ≤ 6) (ha : AtM w a ts) :
    Calls Try.prog 50 #[.slice a n c] w fun e w' => ∃ r k d, e = .returned (.slice r k d) ∧ (distW ts).length = k ∧ AtM w' r (distW ts) ∧ Below w.heap.size w w' := by
  obtain ⟨i0, hi, hz0, hz1, hz2⟩ := info_parts Try.infoW
  go_enter Try.func50, Try.ntmps50
  go_wp2
  go_loopw [3, 8] (fun o i wr => ∃ (k m : Nat) (r : Option Addr) (d : Nat) (cs : List Value), k ≤ n ∧ m ≤ k ∧ i = .int .i64 k ∧ o = .slice r m d ∧ (distW (ts.take k)).length = m ∧ wr.ownsRow w.heap.size 71 2 (.slice r m d) m cs ∧ Means w cs (distW (ts.take k)) ∧ Below w.heap.size w wr) (fun _ i _ => n - (intOf i).toNat)
  case atStart => exact ⟨0, 0, none, 0, [], Nat.zero_le _, Nat.le_refl _, rfl, rfl, rfl, World.ownsRow_nil _ _ _ _, trivial, Below.refl _ _⟩
  case round =>
    obtain ⟨k, m, r, d, cs, hk, hmk, rfl, rfl, hml, ho, hme, hbw⟩ := hrel
    by_cases hlt : k < n
    · obtain ⟨b, off, rfl, hc⟩ := ha.some (by omega)
      obtain ⟨q, dd, hcx, hwx, hm1, hnil, hat⟩ := hc k (by omega)
      have hgk := at_of_mem hg k (by omega)
      have HS := Hid.mk (distW_take ts k (by omega))
      have hki : (k : Int) < (n : Int) := by omega
      generalize wat ts k = Y at *
      obtain ⟨ys, x⟩ := Y
      simp only at hcx hwx hat hm1 hgk
      obtain ⟨m2, hmm⟩ : ∃ m2, ys.length = m2 := ⟨_, rfl⟩
      rw [hmm] at hcx hm1 hgk
      have HM := Hid.mk hmm
      have HATW := Hid.mk hat
      have hcx := cell_later hbw hcx
      have hwx := cell_later hbw hwx
      have zz := hbw.size
      clear hmm hc hat
      by_cases hx : 0 < x
      · have HSX : Hid (distW (ts.take (k + 1)) = distW (ts.take k) ++ [(ys, 1)]) := by show _ = _; rw [HS.out]; unfold plainG; rw [if_pos hx]; rfl
        have oV := ho.alloc (.cells #[.slice q m2 dd, .int .i64 x] 71)
        go_wp2_with (at_builtin; refine wpList_append_lies _ rfl (.tmp 15) (.tmp 19) 34 rfl w.heap.size 71 i0 (.agg #[.slice none 0 0, .int .i64 0]) 2 32 Try.underlying34 hi hz0 hz1 hz2 rfl (by decide) (.slice r m d) m cs rfl (oV.alloc _) ⟨wr.heap.size + 1, 0, none⟩ 1 1 [.slice q m2 dd, .int .i64 1] (by simp [Act.eval]) rfl (by simpa using news_at (wr.alloc (.cells #[.slice q m2 dd, .int .i64 x] 71)) #[.slice q m2 dd, .int .i64 1] 71) (by intro u hu; simp at hu; rcases hu with rfl | rfl <;> rfl) (by decide) (by unfold maxLen; omega) (by omega) (by simp; omega) (wr.heap.size + 1 + 1) (by simp) ?_; intro g2 cap2 w4 hown4 hgrow4 hat4 hlt4)
        have hgr : wr.grownBy w4 (Value.slice r m d).ownBlock := grown_alloc (grown_alloc hgrow4)
        have HB := Hid.mk (hbw.grown hgr hbw.size (fun j hj => (ho.lt j hj).1))
        have HO := Hid.mk hown4
        have HME : Hid (Means w (cs ++ [.slice q m2 dd, .int .i64 1]) (distW (ts.take (k + 1)))) := by
          show Means _ _ _
          rw [HSX.out]
          exact hme.append (Means.one HM.out (by omega) hnil HATW.out)
        have HL : Hid ((distW (ts.take (k + 1))).length = m + 1) := by show _ = _; rw [HSX.out, List.length_append, hml]; rfl
        clear hown4 hgrow4 hat4 hlt4 hgr ho hme hbw hcx hwx oV hml
        go_wp2
        go_roundw
        case rel => exact ⟨k + 1, m + 1, _, _, _, by omega, by omega, by go_num, rfl, HL.out, HO.out, HME.out, HB.out⟩
        case measure => simp [intOf]; omega
      · have HSX : Hid (distW (ts.take (k + 1)) = distW (ts.take k)) := by show _ = _; rw [HS.out]; unfold plainG; rw [if_neg hx]; simp
        have hxx : x ≤ 0 := by omega
        have HO := Hid.mk (ho.alloc (.cells #[.slice q m2 dd, .int .i64 x] 71))
        have HB := Hid.mk (hbw.alloc hbw.size (.cells #[.slice q m2 dd, .int .i64 x] 71))
        have HL : Hid ((distW (ts.take (k + 1))).length = m) := by show _ = _; rw [HSX.out, hml]
        have HME : Hid (Means w cs (distW (ts.take (k + 1)))) := by show Means _ _ _; rw [HSX.out]; exact hme
        clear ho hme hbw hml
        go_wp2
        go_roundw
        case rel => exact ⟨k + 1, m, _, _, _, by omega, by omega, by go_num, rfl, HL.out, HO.out, HME.out, HB.out⟩
        case measure => simp [intOf]; omega
    · obtain rfl : k = n := by omega
      rw [wtake_all' ts hz] at hme hml
      go_wp2
      go_ret
      exact ⟨_, _, _, rfl, hml, (hme.below hbw).ownedM hml ho, hbw⟩

set_option maxRecDepth 100000 in
set_option maxHeartbeats 4000000 in
theorem specDistinctTable (a : Option Addr) (n c : Nat) (ts : List WRow) (p : Int) (w : World) (hz : ts.length = n) (hn : n ≤ 1048576) (ha : AtM w a ts) :
    Calls Try.prog 33 #[.agg #[.int .i64 p, .slice a n c]] w fun e w' => TabAns e w' w.heap.size (distB p ts) p (distW ts) ∧ Below w.heap.size w w' := by
  obtain ⟨W, hW⟩ : ∃ W, W = (w.alloc (.cells #[.int .i64 p, .slice a n c] 36)).alloc (.cells #[.int .i64 0, .slice none 0 0] 36) := ⟨_, rfl⟩
  have zW : W.heap.size = w.heap.size + 1 + 1 := by rw [hW]; simp
  have B0 : Below w.heap.size w W := by rw [hW]; exact ((Below.refl _ _).alloc (Nat.le_refl _) _).alloc (by simp) _
  have c0 : W.cell? ⟨w.heap.size, 0, none⟩ = some (.int .i64 p) := by rw [hW]; exact alloc_keeps (pair0 w _ _ _) _
  have c1 : W.cell? ⟨w.heap.size, 1, none⟩ = some (.slice a n c) := by rw [hW]; exact alloc_keeps (pair1 w _ _ _) _
  have q0 : W.heap[w.heap.size + 1]? = some (.cells #[.int .i64 0, .slice none 0 0] 36 (0, 0)) := by
    rw [hW]
    have := heap_alloc_new (w.alloc (.cells #[.int .i64 p, .slice a n c] 36)) (.cells #[.int .i64 0, .slice none 0 0] 36)
    rwa [World.size_alloc] at this
  have e0 : W.cell? ⟨w.heap.size + 1, 0, none⟩ = some (.int .i64 0) := by rw [cell_of_row _ _ 0 _ _ (0, 0) q0]; rfl
  have e1 : W.cell? ⟨w.heap.size + 1, 1, none⟩ = some (.slice none 0 0) := by rw [cell_of_row _ _ 1 _ _ (0, 0) q0]; rfl
  have f0 : W.frozen? ⟨w.heap.size + 1, 0, none⟩ = false := frozen_of_row _ _ 0 _ _ q0
  have f1 : W.frozen? ⟨w.heap.size + 1, 1, none⟩ = false := frozen_of_row _ _ 1 _ _ q0
  have HA := ha.below B0
  clear ha q0
  cases hg : goodT p ts with
  | false =>
    have HG := Hid.mk hg
    clear hg
    go_enter Try.func33, Try.ntmps33
    go_wp2_with fail
    rw [← hW]
    clear hW
    refine (specGoodTable_any _ _ _ ts _ _ hz hn HA.atW).mono ?_
    rintro e w1 ⟨rfl, hb1⟩
    rw [HG.out]
    have B1 := B0.trans (hb1.mono B0.size)
    have f0 := frozen_later hb1 e0 f0
    have f1 := frozen_later hb1 e1 f1
    have e0 := cell_later hb1 e0
    have e1 := cell_later hb1 e1
    have c0 := cell_later hb1 c0
    have c1 := cell_later hb1 c1
    go_wp2
    refine bodyPost_ret (v := .tuple #[.agg #[.int .i64 0, .slice none 0 0], .bool false]) (by simp [results, Try.results33, go_sem, e0, e1]) rfl ⟨TabAns.zero (distB_no HG.out) rfl, ?_⟩
    exact (B1.setCell (by show w.heap.size ≤ w.heap.size + 1; omega) _).setCell (by show w.heap.size ≤ w.heap.size + 1; omega) _
  | true =>
    have HG := Hid.mk hg
    have n60 := goodT_len60 hg
    clear hg
    go_enter Try.func33, Try.ntmps33
    go_wp2_with fail
    rw [← hW]
    clear hW
    refine (specGoodTable_any _ _ _ ts _ _ hz hn HA.atW).mono ?_
    rintro e w1 ⟨rfl, hb1⟩
    rw [HG.out]
    have B1 := B0.trans (hb1.mono B0.size)
    have f0 := frozen_later hb1 e0 f0
    have f1 := frozen_later hb1 e1 f1
    have e0 := cell_later hb1 e0
    have e1 := cell_later hb1 e1
    have c0 := cell_later hb1 c0
    have c1 := cell_later hb1 c1
    have HA2 := HA.below hb1
    have HNB : Hid (distB p ts = goodT p (distW ts)) := distB_yes HG.out
    go_wp2_with fail
    refine wp_region_held_drew (S := fun w' => w'.cell? ⟨w.heap.size, 0, none⟩ = some (.int .i64 p) ∧ w'.cell? ⟨w.heap.size, 1, none⟩ = some (.slice a n c)) (by kernel_rfl) ?_ (fun hHeld => ?_)
    · (try dsimp only)
      exact ⟨c0, c1⟩
    refine wpAnyH_take (i := 0) (oi := ?_) (v := ?_) ?_ (by kernel_rfl) (by kernel_rfl) (by kernel_rfl) ?_ (Or.inl ⟨?_, ?_⟩) (by assumption) ?_
    rotate_left 2
    · (simp only [List.getElem?_toArray, List.getElem?_cons_zero]; rfl)
    · exact fun _ _ _ h => h
    · rfl
    · (intro wS hSw; (try dsimp only at hSw); go_simp; (try with_reducible rfl))
    (try simp only [Act.put, List.setIfInBounds_toArray, List.set_cons_zero, List.set_cons_succ])
    refine wpAnyH_take (i := 1) (oi := ?_) (v := ?_) ?_ (by kernel_rfl) (by kernel_rfl) (by kernel_rfl) ?_ (Or.inl ⟨?_, ?_⟩) (by assumption) ?_
    rotate_left 2
    · (simp only [List.getElem?_toArray, List.getElem?_cons_zero, List.getElem?_cons_succ]; rfl)
    · exact fun _ _ _ h => h
    · rfl
    · (intro wS hSw; (try dsimp only at hSw); go_simp; (try with_reducible rfl))
    (try simp only [Act.put, List.setIfInBounds_toArray, List.set_cons_zero, List.set_cons_succ])
    refine wpAnyH_take (i := 2) (oi := ?_) (v := ?_) ?_ (by kernel_rfl) (by kernel_rfl) (by kernel_rfl) ?_ (Or.inl ⟨?_, ?_⟩) (by assumption) ?_
    rotate_left 2
    · (simp only [List.getElem?_toArray, List.getElem?_cons_zero, List.getElem?_cons_succ]; rfl)
    · exact fun _ _ _ h => h
    · rfl
    · (intro wS hSw; (try dsimp only at hSw); go_simp; (try with_reducible rfl))
    (try simp only [Act.put, List.setIfInBounds_toArray, List.set_cons_zero, List.set_cons_succ])
    refine wpAnyH_take (i := 3) (oi := ?_) (v := ?_) ?_ (by kernel_rfl) (by kernel_rfl) (by kernel_rfl) ?_ (Or.inl ⟨?_, ?_⟩) (by assumption) ?_
    rotate_left 2
    · (simp only [List.getElem?_toArray, List.getElem?_cons_zero, List.getElem?_cons_succ]; rfl)
    · exact fun _ _ _ h => h
    · rfl
    · (intro wS hSw; (try dsimp only at hSw); go_simp; (try with_reducible rfl))
    (try simp only [Act.put, List.setIfInBounds_toArray, List.set_cons_zero, List.set_cons_succ])
    refine wpAnyH_ready (rs := [4]) (by kernel_rfl) (by simp) ?_
    refine AllReadyH.cons (o := ?_) ?_ (fun K hK => ?_) AllReadyH.nil
    rotate_left
    · (simp only [List.getElem?_toArray, List.getElem?_cons_zero, List.getElem?_cons_succ]; rfl)
    go_simp
    go_at_call 50; refine (l3Distinct_any _ _ _ ts _ hz (by omega) (fun s hs => (goodT_six HG.out s hs).1) HA2.drew).mono ?_; rintro e w3 ⟨r3, m3, d3, rfl, hm3, ha3, hb3⟩; have f0 := frozen_later (w := w1.drew) hb3 e0 f0; have f1 := frozen_later (w := w1.drew) hb3 e1 f1; have e0 := cell_later hb3 e0; have e1 := cell_later hb3 e1; have c0 := cell_later hb3 c0; have c1 := cell_later hb3 c1
    (try go_wp2_with fail)
    refine hK.out _ _ ?_ (fun hHeld' => ?_)
    · (try dsimp only)
      exact ⟨c0, c1⟩
    clear hK K hHeld
    have hHeld := hHeld'
    clear hHeld'
    (try simp only [Act.put, List.setIfInBounds_toArray, List.set_cons_zero, List.set_cons_succ])
    refine wpAnyH_ready (rs := [5]) (by kernel_rfl) (by simp) ?_
    refine AllReadyH.cons (o := ?_) ?_ (fun K hK => ?_) AllReadyH.nil
    rotate_left
    · (simp only [List.getElem?_toArray, List.getElem?_cons_zero, List.getElem?_cons_succ]; rfl)
    go_simp
    go_at_call 48; have HPL : Hid (m3 ≤ 1048576) := (by show _ ≤ _; have := distW_len ts; omega); have HPR : Hid (∀ k, k < m3 → (wat (distW ts) k).1.length ≤ 1048576) := (fun k hk => by have := good_len (at_of_mem (distW_ok HG.out) k (by omega)).1; omega); refine (l2Tell_any _ _ _ (distW ts) _ _ hm3 HPL.out HPR.out ha3).mono ?_; rintro e w4 ⟨⟨r4, m4, d4, cells4, rfl, ho4⟩, hb4⟩; have i0 := cell_later hb4 c0; have i1 := cell_later hb4 c1; have t0 := frozen_later hb4 e0 f0; have t1 := frozen_later hb4 e1 f1; have s0 := cell_later hb4 e0; have s1 := cell_later hb4 e1
    (try go_wp2_with fail)
    refine hK.out _ _ ?_ (fun hHeld' => ?_)
    · (try dsimp only)
      exact ⟨i0, i1⟩
    clear hK K hHeld
    have hHeld := hHeld'
    clear hHeld'
    (try simp only [Act.put, List.setIfInBounds_toArray, List.set_cons_zero, List.set_cons_succ])
    refine wpAnyH_take (i := 6) (oi := ?_) (v := ?_) ?_ (by kernel_rfl) (by kernel_rfl) (by kernel_rfl) ?_ (Or.inl ⟨?_, ?_⟩) (by assumption) ?_
    rotate_left 2
    · (simp only [List.getElem?_toArray, List.getElem?_cons_zero, List.getElem?_cons_succ]; rfl)
    · exact fun _ _ _ h => h
    · rfl
    · (intro wS hSw; (try dsimp only at hSw); go_simp; (try with_reducible rfl))
    (try simp only [Act.put, List.setIfInBounds_toArray, List.set_cons_zero, List.set_cons_succ])
    refine wpAnyH_take (i := 7) (oi := ?_) (v := ?_) ?_ (by kernel_rfl) (by kernel_rfl) (by kernel_rfl) ?_ (Or.inl ⟨?_, ?_⟩) (by assumption) ?_
    rotate_left 2
    · (simp only [List.getElem?_toArray, List.getElem?_cons_zero, List.getElem?_cons_succ]; rfl)
    · exact fun _ _ _ h => h
    · rfl
    · (intro wS hSw; (try dsimp only at hSw); go_simp; (try with_reducible rfl))
    (try simp only [Act.put, List.setIfInBounds_toArray, List.set_cons_zero, List.set_cons_succ])
    refine wpAnyH_ready (rs := [8]) (by kernel_rfl) (by simp) ?_
    refine AllReadyH.cons (o := ?_) ?_ (fun K hK => ?_) AllReadyH.nil
    rotate_left
    · (simp only [List.getElem?_toArray, List.getElem?_cons_zero, List.getElem?_cons_succ]; rfl)
    go_simp
    skip
    (try go_wp2_with fail)
    refine hK.out _ _ ?_ (fun hHeld' => ?_)
    · (try dsimp only)
      exact ⟨keep_far (keep_far i0 (by omega)) (by omega), keep_far (keep_far i1 (by omega)) (by omega)⟩
    clear hK K hHeld
    have hHeld := hHeld'
    clear hHeld'
    (try simp only [Act.put, List.setIfInBounds_toArray, List.set_cons_zero, List.set_cons_succ])
    refine wpAnyH_take (i := 9) (oi := ?_) (v := ?_) ?_ (by kernel_rfl) (by kernel_rfl) (by kernel_rfl) ?_ (Or.inl ⟨?_, ?_⟩) (by assumption) ?_
    rotate_left 2
    · (simp only [List.getElem?_toArray, List.getElem?_cons_zero, List.getElem?_cons_succ]; rfl)
    · exact fun _ _ _ h => h
    · rfl
    · (intro wS hSw; (try dsimp only at hSw); go_simp; (try with_reducible rfl))
    (try simp only [Act.put, List.setIfInBounds_toArray, List.set_cons_zero, List.set_cons_succ])
    refine wpAnyH_done (by kernel_rfl) ?_ _
    have B3 := B1.drew.trans (hb3.mono B1.size)
    have B4 := B3.trans (hb4.mono B3.size)
    have e0 := s0
    have e1 := s1
    have zR : w.heap.size + 1 < w3.heap.size := World.block_lt_of_cell? _ _ (by assumption : w3.cell? ⟨w.heap.size + 1, 0, none⟩ = _)
    clear HA HA2 hb1 hb3 hb4 hHeld ha3 hm3
    go_wp2
    refine bodyPost_ret (v := .tuple #[.agg #[.int .i64 _, .slice r4 m4 d4], .bool _]) (by simp [results, Try.results33, go_sem, e0, e1]) rfl ⟨TabAns.tell HNB.out ⟨r4, m4, d4, cells4, rfl, ho4.stored zR (by omega) _ _⟩, ?_⟩
    exact (B4.setCell (by show w.heap.size ≤ w.heap.size + 1; omega) _).setCell (by show w.heap.size ≤ w.heap.size + 1; omega) _

theorem distB_goodT {p : Int} {ts : List WRow} (h : distB p ts = true) : goodT p (distW ts) = true := by
  simp only [distB, Bool.and_eq_true] at h
  exact h.2

end Go.Proofs.Ytpnaoahlfhbbmaa
