/- Contracts of impl.ExceptTables and spec.ExceptTables. -/
import Derived.Test.YtogokgegkakmbacKeptR
import Derived.Test.YtogokgegkakmbacDist0
import Derived.Test.YtogokgegkakmbacOfW
import Derived.Test.YtogokgegkakmbacAlike
namespace Go.Proofs.Ytogokgegkakmbac
open Go.RowKit Go.Shelf Go.Maps

/-- Whether a row is in the other table, or is not. -/
def inW (ts : List WRow) (inn : Bool) (zs : List Int) : Bool := decide (0 < wOf ts zs) == inn
def keepL (keep : List Int → Bool) (us : List WRow) : List WRow := us.filterMap (keptG keep)
def bothW (ts ts' : List WRow) (inn : Bool) : List WRow := keepL (inW ts' inn) (distW ts)
def bothB (p : Int) (ts : List WRow) (p' : Int) (ts' : List WRow) (inn : Bool) : Bool := alike p ts p' ts' && goodT p (bothW ts ts' inn)
theorem bothB_no {p : Int} {ts : List WRow} {p' : Int} {ts' : List WRow} {inn : Bool} (h : alike p ts p' ts' = false) : bothB p ts p' ts' inn = false := by simp [bothB, h]
theorem bothB_yes {p : Int} {ts : List WRow} {p' : Int} {ts' : List WRow} {inn : Bool} (h : alike p ts p' ts' = true) : bothB p ts p' ts' inn = goodT p (bothW ts ts' inn) := by simp [bothB, h]
theorem bothB_goodT {p : Int} {ts : List WRow} {p' : Int} {ts' : List WRow} {inn : Bool} (h : bothB p ts p' ts' inn = true) : goodT p (bothW ts ts' inn) = true := by
  simp only [bothB, Bool.and_eq_true] at h
  exact h.2
theorem keptG_some {keep : List Int → Bool} {t s : WRow} (h : keptG keep t = some s) : s = t := by
  unfold keptG at h
  split at h
  · simpa using h.symm
  · cases h
theorem keepL_mem {keep : List Int → Bool} {us : List WRow} {t : WRow} (h : t ∈ keepL keep us) : t ∈ us := by
  obtain ⟨s, hs, e⟩ := some_mem h
  rw [keptG_some e]; exact hs
theorem keepL_len (keep : List Int → Bool) (us : List WRow) : (keepL keep us).length ≤ us.length := List.length_filterMap_le _ _
theorem keepL_take (keep : List Int → Bool) (us : List WRow) (k : Nat) (h : k < us.length) : keepL keep (us.take (k + 1)) = keepL keep (us.take k) ++ (keptG keep (wat us k)).toList := by
  unfold keepL
  rw [wtake_succ us k h, List.filterMap_append, List.filterMap_cons]
  cases keptG keep (wat us k) <;> rfl
theorem tells_both {q : Nat} {ts ts' : List WRow} {inn : Bool} (h : goodT q ts = true) : Tells q (sumAt (bothW ts ts' inn) (bothW ts ts' inn).length 1) (bothW ts ts' inn) :=
  tells_self (rises_some (fun t s hs => by rw [keptG_some hs]) (tells_dist h).rises) (fun t ht => (tells_dist h).noZero t (keepL_mem ht)) (fun t ht => (tells_dist h).rows t (keepL_mem ht))
theorem bothW_len (ts ts' : List WRow) (inn : Bool) : (bothW ts ts' inn).length ≤ ts.length := Nat.le_trans (keepL_len _ _) (distW_len ts)

set_option maxRecDepth 100000 in
set_option maxHeartbeats 4000000 in
theorem sieveExceptTables (M b n' : Nat) (D : DataW Unit) (ts' : List WRow) (w : World) (hM : w.cell? ⟨M, 0, none⟩ = some (.map (some b))) (ho : w.ownsMap Try.prog 50 (plainElem Try.prog 3) b n' D) (hm : MapIs D (sumAt ts' n' 1) (keysTo ts' n'))
    (hz' : ts'.length = n') (hg' : ∀ t ∈ ts', good t.1 = true) (hr' : Rises ts') : Sieve Try.prog 19 #[.pointer (some ⟨M, 0, none⟩)] (inW ts' false) (fun zs => good zs = true) w := by
  intro W a n c zs hb hg hz ha
  show Calls Try.prog 19 #[.agg #[.slice a n c], .pointer (some ⟨M, 0, none⟩)] W _
  have l6 : n ≤ 6 := by have := good_len hg; omega
  obtain ⟨W1, hW1⟩ : ∃ W1, W1 = W.alloc (.cells #[.slice a n c] 48) := ⟨_, rfl⟩
  have B0 : Below W.heap.size W W1 := by rw [hW1]; exact (Below.refl _ _).alloc (Nat.le_refl _) _
  have t2 := cell_later B0 (cell_later hb hM)
  have r2 : W1.cell? ⟨W.heap.size, 0, none⟩ = some (.slice a n c) := by rw [hW1]; simp
  have HR2 := ha.below B0
  have ho2 := (ho.kept (Below.toGrown hb none) (by simp)).kept (Below.toGrown B0 none) (by simp)
  have HGR := Hid.mk hg
  have HW : Hid (sumAt ts' n' 1 (raised zs) = wOf ts' zs) := by show _ = _; rw [← hz', sumAt_wOf hg' hg hr']
  clear hg hb hM ha ho
  go_enter Try.func19, Try.ntmps19
  go_wp2_with fail
  rw [← hW1]
  clear hW1
  refine wp_region_held_drew (S := fun w' => w'.cell? ⟨M, 0, none⟩ = some (.map (some b)) ∧ w'.cell? ⟨W.heap.size, 0, none⟩ = some (.slice a n c)) (by kernel_rfl) ?_ (fun hHeld => ?_)
  · (try dsimp only)
    exact ⟨t2, r2⟩
  refine wpAnyH_take (i := 0) (oi := ?_) (v := ?_) ?_ (by kernel_rfl) (by kernel_rfl) (by kernel_rfl) ?_ (Or.inl ⟨?_, ?_⟩) (by assumption) ?_
  rotate_left 2
  · (simp only [List.getElem?_toArray, List.getElem?_cons_zero]; rfl)
  · exact fun _ _ _ h => h
  · rfl
  · (intro wS hSw; (try dsimp only at hSw); go_simp; (try with_reducible rfl))
  (try simp only [Act.put, List.setIfInBounds_toArray, List.set_cons_zero, List.set_cons_succ])
  refine wpAnyH_take (i := 1) (oi := ?_) (v := ?_) ?_ (by kernel_rfl) (by kernel_rfl) (by kernel_rfl) ?_ (Or.inl ⟨?_, ?_⟩) (by assumption) ?_
  rotate_left 2
  · (simp only [List.getElem?_toArray, List.getElem?_cons_zero, List.getElem?_cons_succ]; rfl)
  · exact fun _ _ _ h => h
  · rfl
  · (intro wS hSw; (try dsimp only at hSw); go_simp; (try with_reducible rfl))
  (try simp only [Act.put, List.setIfInBounds_toArray, List.set_cons_zero, List.set_cons_succ])
  refine wpAnyH_ready (rs := [2]) (by kernel_rfl) (by simp) ?_
  refine AllReadyH.cons (o := ?_) ?_ (fun K hK => ?_) AllReadyH.nil
  rotate_left
  · (simp only [List.getElem?_toArray, List.getElem?_cons_zero, List.getElem?_cons_succ]; rfl)
  go_simp
  go_at_call 20
  refine (arrayOf_any _ _ _ zs _ hz l6 (fun j hj => good_cell HGR.out j (by omega)) HR2.drew).mono ?_
  rintro e w4 ⟨x0, x1, x2, x3, x4, x5, rfl, hr, hb4⟩
  have t4 := cell_later hb4 t2
  have r4 := cell_later hb4 r2
  have ho4 := ho2.drew.kept (Below.toGrown hb4 none) (by simp)
  have hkey : keyOf Try.prog 50 (.agg #[.int .i64 x0, .int .i64 x1, .int .i64 x2, .int .i64 x3, .int .i64 x4, .int .i64 x5]) = some (klit (raised zs)) := by
    have := keyOf_arr (raised zs) (fits_raised HGR.out)
    rw [hr] at this ⊢
    exact this
  obtain ⟨cc, hlk, hat, _⟩ := ho4.lookup_int Try.keyedA Try.underlying39 Try.underlying3 (Try.zeroInt _) hkey
  have HCC := Hid.mk (hm.at (fits_raised HGR.out) hat)
  clear hat hr
  (try go_wp2_with fail)
  refine hK.out _ _ ?_ (fun hHeld' => ?_)
  · (try dsimp only)
    exact ⟨t4, r4⟩
  clear hK K hHeld
  have hHeld := hHeld'
  clear hHeld'
  (try simp only [Act.put, List.setIfInBounds_toArray, List.set_cons_zero, List.set_cons_succ])
  refine wpAnyH_ready (rs := [3]) (by kernel_rfl) (by simp) ?_
  refine AllReadyH.cons (o := ?_) ?_ (fun K hK => ?_) AllReadyH.nil
  rotate_left
  · (simp only [List.getElem?_toArray, List.getElem?_cons_zero, List.getElem?_cons_succ]; rfl)
  go_simp
  skip
  (try go_wp2_with fail)
  refine hK.out _ _ ?_ (fun hHeld' => ?_)
  · (try dsimp only)
    exact ⟨t4, r4⟩
  clear hK K hHeld
  have hHeld := hHeld'
  clear hHeld'
  (try simp only [Act.put, List.setIfInBounds_toArray, List.set_cons_zero, List.set_cons_succ])
  refine wpAnyH_take (i := 4) (oi := ?_) (v := ?_) ?_ (by kernel_rfl) (by kernel_rfl) (by kernel_rfl) ?_ (Or.inl ⟨?_, ?_⟩) (by assumption) ?_
  rotate_left 2
  · (simp only [List.getElem?_toArray, List.getElem?_cons_zero, List.getElem?_cons_succ]; rfl)
  · exact fun _ _ _ h => h
  · rfl
  · (intro wS hSw; (try dsimp only at hSw); go_simp; (try with_reducible rfl))
  (try simp only [Act.put, List.setIfInBounds_toArray, List.set_cons_zero, List.set_cons_succ])
  refine wpAnyH_take (i := 5) (oi := ?_) (v := ?_) ?_ (by kernel_rfl) (by kernel_rfl) (by kernel_rfl) ?_ (Or.inl ⟨?_, ?_⟩) (by assumption) ?_
  rotate_left 2
  · (simp only [List.getElem?_toArray, List.getElem?_cons_zero, List.getElem?_cons_succ]; rfl)
  · exact fun _ _ _ h => h
  · rfl
  · (intro wS hSw; (try dsimp only at hSw); go_simp; (try with_reducible rfl))
  (try simp only [Act.put, List.setIfInBounds_toArray, List.set_cons_zero, List.set_cons_succ])
  refine wpAnyH_done (by kernel_rfl) ?_ _
  have HE : Hid (cc = wOf ts' zs) := HCC.out.trans HW.out
  have B4 := B0.drew.trans (hb4.mono B0.size)
  clear HW HCC hHeld ho4 hkey hlk hb4
  go_wp2
  go_ret
  exact ⟨ret_bool (by rw [HE.out]; unfold inW; rcases Int.lt_or_le 0 (wOf ts' zs) with h | h <;> simp [h, Int.not_lt.2, Int.not_le.2]), B4⟩

set_option maxRecDepth 100000 in
set_option maxHeartbeats 4000000 in
theorem implExceptTables (a a' : Option Addr) (n n' c c' : Nat) (ts ts' : List WRow) (p p' : Int) (w : World) (hz : ts.length = n) (hz' : ts'.length = n') (hn : n ≤ 1048576) (hn' : n' ≤ 1048576) (ha : AtM w a ts) (ha' : AtM w a' ts') :
    Calls Try.prog 7 #[.agg #[.int .i64 p, .slice a n c], .agg #[.int .i64 p', .slice a' n' c']] w fun e w' => TabAns e w' w.heap.size (bothB p ts p' ts' false) p (bothW ts ts' false) ∧ Below w.heap.size w w' := by
  obtain ⟨W, hW⟩ : ∃ W, W = ((w.alloc (.cells #[.int .i64 p, .slice a n c] 28)).alloc (.cells #[.int .i64 p', .slice a' n' c'] 28)).alloc (.cells #[.int .i64 0, .slice none 0 0] 28) := ⟨_, rfl⟩
  have zW : W.heap.size = w.heap.size + 1 + 1 + 1 := by rw [hW]; simp
  have B0 : Below w.heap.size w W := by rw [hW]; exact (((Below.refl _ _).alloc (Nat.le_refl _) _).alloc (by simp) _).alloc (by simp; omega) _
  have c0 : W.cell? ⟨w.heap.size, 0, none⟩ = some (.int .i64 p) := by rw [hW]; exact alloc_keeps (alloc_keeps (pair0 w _ _ _) _) _
  have c1 : W.cell? ⟨w.heap.size, 1, none⟩ = some (.slice a n c) := by rw [hW]; exact alloc_keeps (alloc_keeps (pair1 w _ _ _) _) _
  have b1 : W.cell? ⟨w.heap.size + 1, 1, none⟩ = some (.slice a' n' c') := by rw [hW]; refine alloc_keeps ?_ _; have := pair1 (w.alloc (.cells #[.int .i64 p, .slice a n c] 28)) (.int .i64 p') (.slice a' n' c') 28; rwa [World.size_alloc] at this
  have b0 : W.cell? ⟨w.heap.size + 1, 0, none⟩ = some (.int .i64 p') := by rw [hW]; refine alloc_keeps ?_ _; have := pair0 (w.alloc (.cells #[.int .i64 p, .slice a n c] 28)) (.int .i64 p') (.slice a' n' c') 28; rwa [World.size_alloc] at this
  have q0 : W.heap[w.heap.size + 1 + 1]? = some (.cells #[.int .i64 0, .slice none 0 0] 28 (0, 0)) := by
    rw [hW]
    have := heap_alloc_new ((w.alloc (.cells #[.int .i64 p, .slice a n c] 28)).alloc (.cells #[.int .i64 p', .slice a' n' c'] 28)) (.cells #[.int .i64 0, .slice none 0 0] 28)
    rwa [World.size_alloc, World.size_alloc] at this
  have e0 : W.cell? ⟨w.heap.size + 1 + 1, 0, none⟩ = some (.int .i64 0) := by rw [cell_of_row _ _ 0 _ _ (0, 0) q0]; rfl
  have e1 : W.cell? ⟨w.heap.size + 1 + 1, 1, none⟩ = some (.slice none 0 0) := by rw [cell_of_row _ _ 1 _ _ (0, 0) q0]; rfl
  have f0 : W.frozen? ⟨w.heap.size + 1 + 1, 0, none⟩ = false := frozen_of_row _ _ 0 _ _ q0
  have f1 : W.frozen? ⟨w.heap.size + 1 + 1, 1, none⟩ = false := frozen_of_row _ _ 1 _ _ q0
  have HA := ha.below B0
  have HA' := ha'.below B0
  clear ha ha' q0
  go_enter Try.func7, Try.ntmps7
  go_wp2_with fail
  rw [← hW]
  clear hW
  refine (goodAlike_any _ _ _ _ _ _ ts ts' _ _ _ hz hz' hn hn' HA.atW HA'.atW).mono ?_
  rintro e w1 ⟨rfl, hb1⟩
  have B1 := B0.trans (hb1.mono B0.size)
  have f0 := frozen_later hb1 e0 f0
  have f1 := frozen_later hb1 e1 f1
  have e0 := cell_later hb1 e0
  have e1 := cell_later hb1 e1
  have c0 := cell_later hb1 c0
  have c1 := cell_later hb1 c1
  have b1 := cell_later hb1 b1
  have HA := HA.below hb1
  have HA' := HA'.below hb1
  clear b0 hb1
  cases hal : alike p ts p' ts' with
  | false =>
    have HL := Hid.mk hal
    clear hal
    go_wp2
    refine bodyPost_ret (v := .tuple #[.agg #[.int .i64 0, .slice none 0 0], .bool false]) (by simp [results, Try.results7, go_sem, e0, e1]) rfl ⟨TabAns.zero (bothB_no HL.out) rfl, ?_⟩
    exact (B1.setCell (by show w.heap.size ≤ w.heap.size + 1 + 1; omega) _).setCell (by show w.heap.size ≤ w.heap.size + 1 + 1; omega) _
  | true =>
    have HL := Hid.mk hal
    obtain ⟨hg, hg', rfl⟩ := alike_parts hal
    obtain ⟨q, hq⟩ : ∃ q : Nat, p = q := ⟨p.toNat, by have := inc_range (goodT_parts hg).1; omega⟩
    subst hq
    have h6 : q ≤ 6 := by have := inc_range (goodT_parts hg).1; omega
    have n60 := goodT_len60 hg
    have n60' := goodT_len60 hg'
    have HGC := Hid.mk hg
    have HGC' := Hid.mk hg'
    clear hal hg hg'
    go_wp2_with fail
    refine (sumsOf_any _ _ _ ts' _ _ hz' (by omega) (by decide) (by decide) (fun k hk => goodT_cells HGC'.out k (by omega)) HA'.atW).mono ?_
    rintro e w2 ⟨b, D, rfl, hbb, ho2, hm2, hb2⟩
    have B2 := B1.trans (hb2.mono B1.size)
    have f0 := frozen_later hb2 e0 f0
    have f1 := frozen_later hb2 e1 f1
    have e0 := cell_later hb2 e0
    have e1 := cell_later hb2 e1
    have c0 := cell_later hb2 c0
    have c1 := cell_later hb2 c1
    have HA := HA.below hb2
    clear HA' b1 hb2
    have hbL : Below w2.heap.size w2 (w2.alloc (.cells #[.map (some b)] 39)) := (Below.refl _ _).alloc (Nat.le_refl _) _
    obtain ⟨w3, hw3⟩ : ∃ w3, w3 = w2.alloc (.cells #[.map (some b)] 39) := ⟨_, rfl⟩
    have hc0 := cell_later hbL c0
    have hc1 := cell_later hbL c1
    go_wp2_with fail
    rw [← hw3] at hbL hc0 hc1 ⊢
    have z3 : w3.heap.size = w2.heap.size + 1 := by rw [hw3]; simp
    have hM : w3.cell? ⟨w2.heap.size, 0, none⟩ = some (.map (some b)) := by rw [hw3]; simp
    clear hw3 hc0 hc1
    have ho3 := ho2.kept (Below.toGrown hbL none) (by simp)
    have B3 := B2.trans (hbL.mono B2.size)
    have f0 := frozen_later hbL e0 f0
    have f1 := frozen_later hbL e1 f1
    have e0 := cell_later hbL e0
    have e1 := cell_later hbL e1
    have c0 := cell_later hbL c0
    have c1 := cell_later hbL c1
    have HA := HA.below hbL
    have hS3 := sieveExceptTables w2.heap.size b n' D ts' w3 hM ho3 hm2 hz' (goodT_rows HGC'.out) (goodT_rises HGC'.out)
    clear hbL ho2 ho3 hm2 hM
    refine (rowsOf_any _ _ _ _ _).mono ?_
    rintro e w4 ⟨rfl, hw4⟩
    have hb4 : Below w3.heap.size w3 w4 := by rw [hw4]; exact (Below.refl _ _).alloc (Nat.le_refl _) _
    have t4 : w4.cell? ⟨w3.heap.size, 1, none⟩ = some (.slice a n c) := by rw [hw4]; exact pair1 w3 _ _ _
    have hR := rowsOf1_hands w3.heap.size a n c ts w4 hz hn t4 (HA.below hb4)
    have B4 := B3.trans (hb4.mono B3.size)
    have hS4 := hS3.later hb4
    have f0 := frozen_later hb4 e0 f0
    have f1 := frozen_later hb4 e1 f1
    have e0 := cell_later hb4 e0
    have e1 := cell_later hb4 e1
    have c0 := cell_later hb4 c0
    have c1 := cell_later hb4 c1
    clear HA hS3 hb4 t4 hw4
    go_wp2_with fail
    refine (plainRows_any _ _ _).mono ?_
    rintro e w5 ⟨rfl, hw5⟩
    have hb5 : Below w4.heap.size w4 w5 := by rw [hw5]; exact (Below.refl _ _).alloc (Nat.le_refl _) _
    have t5 : w5.cell? ⟨w4.heap.size, 0, none⟩ = some (.func (.func 35) #[] #[.pointer (some ⟨w3.heap.size, 0, none⟩)]) := by rw [hw5]; simp
    have hP := plainRows1_hands w4.heap.size 35 #[.pointer (some ⟨w3.heap.size, 0, none⟩)] ts w5 t5 (enters_of Try.func35 (by kernel_rfl) rfl) (hR.later hb5)
    have B5 := B4.trans (hb5.mono B4.size)
    have hS5 := hS4.later hb5
    have f0 := frozen_later hb5 e0 f0
    have f1 := frozen_later hb5 e1 f1
    have e0 := cell_later hb5 e0
    have e1 := cell_later hb5 e1
    have c0 := cell_later hb5 c0
    have c1 := cell_later hb5 c1
    clear hR hS4 hb5 t5 hw5
    go_wp2_with fail
    refine (keptRows_any _ _ _ _ _).mono ?_
    rintro e w6 ⟨rfl, hw6⟩
    have hb6 : Below w5.heap.size w5 w6 := by rw [hw6]; exact ((Below.refl _ _).alloc (Nat.le_refl _) _).alloc (by simp) _
    have t6 : w6.cell? ⟨w5.heap.size, 0, none⟩ = some (.func (.func 34) #[] #[.pointer (some ⟨w4.heap.size, 0, none⟩)]) := by rw [hw6]; exact alloc_keeps (by simp) _
    have u6 : w6.cell? ⟨w5.heap.size + 1, 0, none⟩ = some (.func (.func 19) #[] #[.pointer (some ⟨w2.heap.size, 0, none⟩)]) := by rw [hw6]; simp
    have hH := keptRows1_hands w5.heap.size (w5.heap.size + 1) 34 19 #[.pointer (some ⟨w4.heap.size, 0, none⟩)] #[.pointer (some ⟨w2.heap.size, 0, none⟩)] (distW ts) (inW ts' false) (fun zs => good zs = true) w6 t6 u6 (enters_of Try.func34 (by kernel_rfl) rfl) (enters_of Try.func19 (by kernel_rfl) rfl) (hP.later hb6) (hS5.later hb6) (at_of_mem (fun t ht => ((tells_dist HGC.out).rows t ht).1))
    have B6 := B5.trans (hb6.mono B5.size)
    have f0 := frozen_later hb6 e0 f0
    have f1 := frozen_later hb6 e1 f1
    have e0 := cell_later hb6 e0
    have e1 := cell_later hb6 e1
    have c0 := cell_later hb6 c0
    have c1 := cell_later hb6 c1
    clear hP hS5 hb6 t6 u6 hw6
    go_wp2_with fail
    refine (tableOf_any 33 #[.pointer (some ⟨w5.heap.size, 0, none⟩), .pointer (some ⟨w5.heap.size + 1, 0, none⟩)] (bothW ts ts' false) q w6 (enters_of Try.func33 (by kernel_rfl) rfl) hH h6 (by have := bothW_len ts ts' false; omega) (at_of_mem (fun t ht => distW_ok HGC.out t (keepL_mem ht))) (fun t ht => ((tells_both HGC.out).rows t ht).2)).mono ?_
    rintro e w7 ⟨us, ⟨r4, m4, d4, cells4, rfl, ho4⟩, hTl, hb7⟩
    have zR : w.heap.size + 1 + 1 < w6.heap.size := World.block_lt_of_cell? _ _ (by assumption : w6.cell? ⟨w.heap.size + 1 + 1, 0, none⟩ = _)
    have B7 := B6.trans (hb7.mono B6.size)
    have f0 := frozen_later hb7 e0 f0
    have f1 := frozen_later hb7 e1 f1
    have e0 := cell_later hb7 e0
    have e1 := cell_later hb7 e1
    have c0 := cell_later hb7 c0
    have c1 := cell_later hb7 c1
    have hus : us = (bothW ts ts' false) := hTl.unique (tells_both HGC.out)
    subst hus
    have HNB : Hid (bothB q ts q ts' false = goodT q (bothW ts ts' false)) := bothB_yes HL.out
    clear hH hTl hb7 c0 c1
    go_wp2
    refine bodyPost_ret (v := .tuple #[.agg #[.int .i64 _, .slice r4 m4 d4], .bool _]) (by simp [results, Try.results7, go_sem, e0, e1]) rfl ⟨TabAns.tell HNB.out ⟨r4, m4, d4, cells4, rfl, ho4.stored zR (by omega) _ _⟩, ?_⟩
    exact (B7.setCell (by show w.heap.size ≤ w.heap.size + 1 + 1; omega) _).setCell (by show w.heap.size ≤ w.heap.size + 1 + 1; omega) _

set_option maxRecDepth 100000 in
set_option maxHeartbeats 8000000 in
theorem l3Both_any (a a' : Option Addr) (n n' c c' : Nat) (ts ts' : List WRow) (p p' : Int) (w : World) (hz : ts.length = n) (hz' : ts'.length = n') (hn : n ≤ 1048576) (hn' : n' ≤ 1048576) (ha : AtM w a ts) (ha' : AtM w a' ts') :
    Calls Try.prog 12 #[.agg #[.int .i64 p, .slice a n c], .agg #[.int .i64 p', .slice a' n' c'], .bool false] w fun e w' => TabAns e w' w.heap.size (bothB p ts p' ts' false) p (bothW ts ts' false) ∧ Below w.heap.size w w' := by
  obtain ⟨i0, hi, hz0, hz1, hz2⟩ := info_parts Try.infoW
  obtain ⟨W, hW⟩ : ∃ W, W = ((w.alloc (.cells #[.int .i64 p, .slice a n c] 28)).alloc (.cells #[.int .i64 p', .slice a' n' c'] 28)).alloc (.cells #[.int .i64 0, .slice none 0 0] 28) := ⟨_, rfl⟩
  have zW : W.heap.size = w.heap.size + 1 + 1 + 1 := by rw [hW]; simp
  have B0 : Below w.heap.size w W := by rw [hW]; exact (((Below.refl _ _).alloc (Nat.le_refl _) _).alloc (by simp) _).alloc (by simp; omega) _
  have c0 : W.cell? ⟨w.heap.size, 0, none⟩ = some (.int .i64 p) := by rw [hW]; exact alloc_keeps (alloc_keeps (pair0 w _ _ _) _) _
  have c1 : W.cell? ⟨w.heap.size, 1, none⟩ = some (.slice a n c) := by rw [hW]; exact alloc_keeps (alloc_keeps (pair1 w _ _ _) _) _
  have b1 : W.cell? ⟨w.heap.size + 1, 1, none⟩ = some (.slice a' n' c') := by rw [hW]; refine alloc_keeps ?_ _; have := pair1 (w.alloc (.cells #[.int .i64 p, .slice a n c] 28)) (.int .i64 p') (.slice a' n' c') 28; rwa [World.size_alloc] at this
  have b0 : W.cell? ⟨w.heap.size + 1, 0, none⟩ = some (.int .i64 p') := by rw [hW]; refine alloc_keeps ?_ _; have := pair0 (w.alloc (.cells #[.int .i64 p, .slice a n c] 28)) (.int .i64 p') (.slice a' n' c') 28; rwa [World.size_alloc] at this
  have q0 : W.heap[w.heap.size + 1 + 1]? = some (.cells #[.int .i64 0, .slice none 0 0] 28 (0, 0)) := by
    rw [hW]
    have := heap_alloc_new ((w.alloc (.cells #[.int .i64 p, .slice a n c] 28)).alloc (.cells #[.int .i64 p', .slice a' n' c'] 28)) (.cells #[.int .i64 0, .slice none 0 0] 28)
    rwa [World.size_alloc, World.size_alloc] at this
  have e0 : W.cell? ⟨w.heap.size + 1 + 1, 0, none⟩ = some (.int .i64 0) := by rw [cell_of_row _ _ 0 _ _ (0, 0) q0]; rfl
  have e1 : W.cell? ⟨w.heap.size + 1 + 1, 1, none⟩ = some (.slice none 0 0) := by rw [cell_of_row _ _ 1 _ _ (0, 0) q0]; rfl
  have f0 : W.frozen? ⟨w.heap.size + 1 + 1, 0, none⟩ = false := frozen_of_row _ _ 0 _ _ q0
  have f1 : W.frozen? ⟨w.heap.size + 1 + 1, 1, none⟩ = false := frozen_of_row _ _ 1 _ _ q0
  have HA := ha.below B0
  have HA' := ha'.below B0
  clear ha ha' q0
  cases hg : goodT p ts with
  | false =>
    have HG := Hid.mk hg
    have HL : Hid (alike p ts p' ts' = false) := by show _ = _; simp [alike, hg]
    clear hg
    go_enter Try.func12, Try.ntmps12
    go_wp2_with fail
    rw [← hW]
    clear hW
    refine (specGoodTable_any _ _ _ ts _ _ hz hn HA.atW).mono ?_
    rintro e w1 ⟨rfl, hb1⟩
    rw [HG.out]
    have B1 := B0.trans (hb1.mono B0.size)
    have f0 := frozen_later hb1 e0 f0
    have f1 := frozen_later hb1 e1 f1
    have e0 := cell_later hb1 e0
    have e1 := cell_later hb1 e1
    have c0 := cell_later hb1 c0
    have c1 := cell_later hb1 c1
    have b0 := cell_later hb1 b0
    have b1 := cell_later hb1 b1
    go_wp2
    refine bodyPost_ret (v := .tuple #[.agg #[.int .i64 0, .slice none 0 0], .bool false]) (by simp [results, Try.results12, go_sem, e0, e1]) rfl ⟨TabAns.zero (bothB_no HL.out) rfl, ?_⟩
    exact (B1.setCell (by show w.heap.size ≤ w.heap.size + 1 + 1; omega) _).setCell (by show w.heap.size ≤ w.heap.size + 1 + 1; omega) _
  | true =>
    have HG := Hid.mk hg
    clear hg
    cases hg' : goodT p' ts' with
    | false =>
      have HG' := Hid.mk hg'
      have HL : Hid (alike p ts p' ts' = false) := by show _ = _; simp [alike, hg']
      clear hg'
      go_enter Try.func12, Try.ntmps12
      go_wp2_with fail
      rw [← hW]
      clear hW
      refine (specGoodTable_any _ _ _ ts _ _ hz hn HA.atW).mono ?_
      rintro e w1 ⟨rfl, hb1⟩
      rw [HG.out]
      have B1 := B0.trans (hb1.mono B0.size)
      have f0 := frozen_later hb1 e0 f0
      have f1 := frozen_later hb1 e1 f1
      have e0 := cell_later hb1 e0
      have e1 := cell_later hb1 e1
      have c0 := cell_later hb1 c0
      have c1 := cell_later hb1 c1
      have b0 := cell_later hb1 b0
      have b1 := cell_later hb1 b1
      have HA := HA.below hb1
      have HA' := HA'.below hb1
      clear hb1
      go_wp2_with fail
      refine (specGoodTable_any _ _ _ ts' _ _ hz' hn' HA'.atW).mono ?_
      rintro e w2 ⟨rfl, hb2⟩
      rw [HG'.out]
      have B2 := B1.trans (hb2.mono B1.size)
      have f0 := frozen_later hb2 e0 f0
      have f1 := frozen_later hb2 e1 f1
      have e0 := cell_later hb2 e0
      have e1 := cell_later hb2 e1
      have c0 := cell_later hb2 c0
      have c1 := cell_later hb2 c1
      have b0 := cell_later hb2 b0
      have b1 := cell_later hb2 b1
      go_wp2
      refine bodyPost_ret (v := .tuple #[.agg #[.int .i64 0, .slice none 0 0], .bool false]) (by simp [results, Try.results12, go_sem, e0, e1]) rfl ⟨TabAns.zero (bothB_no HL.out) rfl, ?_⟩
      exact (B2.setCell (by show w.heap.size ≤ w.heap.size + 1 + 1; omega) _).setCell (by show w.heap.size ≤ w.heap.size + 1 + 1; omega) _
    | true =>
      have HG' := Hid.mk hg'
      clear hg'
      by_cases hpp : p = p'
      rotate_left
      · have HL : Hid (alike p ts p' ts' = false) := by show _ = _; simp [alike, hpp]
        have hne : (p != p') = true := by simp [hpp]
        go_enter Try.func12, Try.ntmps12
        go_wp2_with fail
        rw [← hW]
        clear hW
        refine (specGoodTable_any _ _ _ ts _ _ hz hn HA.atW).mono ?_
        rintro e w1 ⟨rfl, hb1⟩
        rw [HG.out]
        have B1 := B0.trans (hb1.mono B0.size)
        have f0 := frozen_later hb1 e0 f0
        have f1 := frozen_later hb1 e1 f1
        have e0 := cell_later hb1 e0
        have e1 := cell_later hb1 e1
        have c0 := cell_later hb1 c0
        have c1 := cell_later hb1 c1
        have b0 := cell_later hb1 b0
        have b1 := cell_later hb1 b1
        have HA := HA.below hb1
        have HA' := HA'.below hb1
        clear hb1
        go_wp2_with fail
        refine (specGoodTable_any _ _ _ ts' _ _ hz' hn' HA'.atW).mono ?_
        rintro e w2 ⟨rfl, hb2⟩
        rw [HG'.out]
        have B2 := B1.trans (hb2.mono B1.size)
        have f0 := frozen_later hb2 e0 f0
        have f1 := frozen_later hb2 e1 f1
        have e0 := cell_later hb2 e0
        have e1 := cell_later hb2 e1
        have c0 := cell_later hb2 c0
        have c1 := cell_later hb2 c1
        have b0 := cell_later hb2 b0
        have b1 := cell_later hb2 b1
        go_wp2
        refine bodyPost_ret (v := .tuple #[.agg #[.int .i64 0, .slice none 0 0], .bool false]) (by simp [results, Try.results12, go_sem, e0, e1]) rfl ⟨TabAns.zero (bothB_no HL.out) rfl, ?_⟩
        exact (B2.setCell (by show w.heap.size ≤ w.heap.size + 1 + 1; omega) _).setCell (by show w.heap.size ≤ w.heap.size + 1 + 1; omega) _
      subst hpp
      have HL : Hid (alike p ts p ts' = true) := by show _ = _; simp [alike, HG.out, HG'.out]
      have n60 := goodT_len60 HG.out
      have n60' := goodT_len60 HG'.out
      go_enter Try.func12, Try.ntmps12
      go_wp2_with fail
      rw [← hW]
      clear hW
      refine (specGoodTable_any _ _ _ ts _ _ hz hn HA.atW).mono ?_
      rintro e w1 ⟨rfl, hb1⟩
      rw [HG.out]
      have B1 := B0.trans (hb1.mono B0.size)
      have f0 := frozen_later hb1 e0 f0
      have f1 := frozen_later hb1 e1 f1
      have e0 := cell_later hb1 e0
      have e1 := cell_later hb1 e1
      have c0 := cell_later hb1 c0
      have c1 := cell_later hb1 c1
      have b0 := cell_later hb1 b0
      have b1 := cell_later hb1 b1
      have HA := HA.below hb1
      have HA' := HA'.below hb1
      clear hb1
      go_wp2_with fail
      refine (specGoodTable_any _ _ _ ts' _ _ hz' hn' HA'.atW).mono ?_
      rintro e w2 ⟨rfl, hb2⟩
      rw [HG'.out]
      have B2 := B1.trans (hb2.mono B1.size)
      have f0 := frozen_later hb2 e0 f0
      have f1 := frozen_later hb2 e1 f1
      have e0 := cell_later hb2 e0
      have e1 := cell_later hb2 e1
      have c0 := cell_later hb2 c0
      have c1 := cell_later hb2 c1
      have b0 := cell_later hb2 b0
      have b1 := cell_later hb2 b1
      have HA := HA.below hb2
      have HA' := HA'.below hb2
      clear hb2
      go_wp2_with fail
      refine (l3Distinct_any _ _ _ ts _ hz (by omega) (fun s hs => (goodT_six HG.out s hs).1) HA).mono ?_
      rintro e w3 ⟨ra, na, da, rfl, hna, ha3, hb3⟩
      have B3 := B2.trans (hb3.mono B2.size)
      have f0 := frozen_later hb3 e0 f0
      have f1 := frozen_later hb3 e1 f1
      have e0 := cell_later hb3 e0
      have e1 := cell_later hb3 e1
      have c0 := cell_later hb3 c0
      have c1 := cell_later hb3 c1
      have b0 := cell_later hb3 b0
      have b1 := cell_later hb3 b1
      have HA' := HA'.below hb3
      clear HA hb3
      have n60a : na ≤ 60 := by have := distW_len ts; omega
      have hd6 : ∀ t ∈ distW ts, t.1.length ≤ 6 := fun t ht => good_len (distW_ok HG.out t ht).1
      obtain ⟨us, hus⟩ : ∃ us, us = distW ts := ⟨_, rfl⟩
      rw [← hus] at hna ha3 hd6
      have HBW : Hid (bothW ts ts' false = keepL (inW ts' false) us) := by show _ = _; rw [hus]; rfl
      have hgk2 : Hid (∀ t ∈ us, good t.1 = true) := by show ∀ t ∈ us, _; rw [hus]; exact fun t ht => (distW_ok HG.out t ht).1
      clear hus
      have hg6 : ∀ k, k < n' → (wat ts' k).1.length ≤ 6 := fun k hk => (at_of_mem (goodT_six HG'.out) k (by omega)).1
      go_wp2
      go_loopw [8, 31] (fun o i wr => ∃ (k m : Nat) (r : Option Addr) (d : Nat) (cs : List Value), k ≤ na ∧ m ≤ k ∧ i = .int .i64 k ∧ o = .slice r m d ∧ (keepL (inW ts' false) (us.take k)).length = m ∧ wr.ownsRow w3.heap.size 63 2 (.slice r m d) m cs ∧ Means w3 cs (keepL (inW ts' false) (us.take k)) ∧ Below w3.heap.size w3 wr) (fun _ i _ => na - (intOf i).toNat)
      case atStart => exact ⟨0, 0, none, 0, [], Nat.zero_le _, Nat.le_refl _, rfl, rfl, rfl, World.ownsRow_nil _ _ _ _, trivial, Below.refl _ _⟩
      case round =>
        obtain ⟨k, m, r, d, cs, hk, hmk, rfl, rfl, hml, ho, hme, hbw⟩ := hrel
        by_cases hlt : k < na
        · obtain ⟨b, off, rfl, hc⟩ := ha3.some (by omega)
          obtain ⟨q, dd, hcx, hwx, hm1, hnil, hat⟩ := hc k (by omega)
          have hgk := at_of_mem hd6 k (by omega)
          have HS := Hid.mk (keepL_take (inW ts' false) us k (by omega))
          have hki : (k : Int) < (na : Int) := by omega
          generalize wat us k = Y at *
          obtain ⟨ys, x⟩ := Y
          simp only at hcx hwx hat hm1 hgk
          obtain ⟨m2, hmm⟩ : ∃ m2, ys.length = m2 := ⟨_, rfl⟩
          rw [hmm] at hcx hm1 hgk
          have HM := Hid.mk hmm
          have HATW := Hid.mk hat
          have hcx := cell_later hbw hcx
          have hwx := cell_later hbw hwx
          have b0r := cell_later hbw b0
          have b1r := cell_later hbw b1
          have zz := hbw.size
          clear hc hat
          have hbL : Below wr.heap.size wr (wr.alloc (.cells #[.slice q m2 dd, .int .i64 x] 63)) := (Below.refl _ _).alloc (Nat.le_refl _) _
          have b0L := cell_later hbL b0r
          have b1L := cell_later hbL b1r
          have oL := ho.alloc (.cells #[.slice q m2 dd, .int .i64 x] 63)
          obtain ⟨w4, hw4⟩ : ∃ w4, w4 = wr.alloc (.cells #[.slice q m2 dd, .int .i64 x] 63) := ⟨_, rfl⟩
          go_wp2_with fail
          rw [← hw4] at hbL b0L b1L oL ⊢
          have z4 : w4.heap.size = wr.heap.size + 1 := by rw [hw4]; simp
          have x4 : w4.cell? ⟨wr.heap.size, 0, none⟩ = some (.slice q m2 dd) := by rw [hw4]; simp
          have y4 : w4.cell? ⟨wr.heap.size, 1, none⟩ = some (.int .i64 x) := by rw [hw4]; simp
          clear hw4
          have hb4 := hbw.trans (hbL.mono hbw.size)
          refine (l2Of_any _ _ _ _ _ _ ts' _ ys _ hz' hmm hn' hgk hg6 (HA'.atW.below hb4) (HATW.out.below hb4)).mono ?_
          rintro e w5 ⟨rfl, hb5⟩
          have x5 := cell_later hb5 x4
          have y5 := cell_later hb5 y4
          have hbw5 := hb4.trans (hb5.mono hb4.size)
          have o5 := oL.kept (Below.toGrown hb5 none) (by simp; exact Classical.em _)
          have z5 := hb5.size
          clear hbL b0L b1L oL hb4 b0r b1r hmm x4 y4 ho hbw hcx hwx hb5
          by_cases hx : 0 < wOf ts' ys
          · have HSX : Hid (keepL (inW ts' false) (us.take (k + 1)) = keepL (inW ts' false) (us.take k)) := by show _ = _; rw [HS.out]; unfold keptG inW; simp [hx]
            have HL2 : Hid ((keepL (inW ts' false) (us.take (k + 1))).length = m) := by show _ = _; rw [HSX.out, hml]
            have HME : Hid (Means w3 cs (keepL (inW ts' false) (us.take (k + 1)))) := by show Means _ _ _; rw [HSX.out]; exact hme
            have HO := Hid.mk o5
            have HB := Hid.mk hbw5
            clear o5 hme hbw5 hml
            go_wp2
            go_roundw
            case rel => exact ⟨k + 1, m, _, _, _, by omega, by omega, by go_num, rfl, HL2.out, HO.out, HME.out, HB.out⟩
            case measure => simp [intOf]; omega
          · have HSX : Hid (keepL (inW ts' false) (us.take (k + 1)) = keepL (inW ts' false) (us.take k) ++ [(ys, x)]) := by show _ = _; rw [HS.out]; unfold keptG inW; simp [hx]
            have hd : (!decide (0 < wOf ts' ys)) = true := by simp [hx]
            go_wp2_with (at_builtin; refine wpList_append_lies _ rfl (.tmp 42) (.tmp 44) 26 rfl w3.heap.size 63 i0 (.agg #[.slice none 0 0, .int .i64 0]) 2 32 Try.underlying26 hi hz0 hz1 hz2 rfl (by decide) (.slice r m d) m cs rfl (o5.alloc _) ⟨w5.heap.size, 0, none⟩ 1 1 [.slice q m2 dd, .int .i64 x] (by simp [Act.eval]) rfl (by simpa using news_at w5 #[.slice q m2 dd, .int .i64 x] 63) (by intro u hu; simp at hu; rcases hu with rfl | rfl <;> rfl) (by decide) (by unfold maxLen; omega) (by omega) (by simp; omega) (w5.heap.size + 1) (by simp) ?_; intro g2 cap2 w6 hown6 hgrow6 hat6 hlt6)
            have hgr : w5.grownBy w6 (Value.slice r m d).ownBlock := grown_alloc hgrow6
            have HB := Hid.mk (hbw5.grown hgr hbw5.size (fun j hj => (o5.lt j hj).1))
            have HO := Hid.mk hown6
            have HME : Hid (Means w3 (cs ++ [.slice q m2 dd, .int .i64 x]) (keepL (inW ts' false) (us.take (k + 1)))) := by
              show Means _ _ _
              rw [HSX.out]
              exact hme.append (Means.one HM.out (by omega) hnil HATW.out)
            have HL2 : Hid ((keepL (inW ts' false) (us.take (k + 1))).length = m + 1) := by show _ = _; rw [HSX.out, List.length_append, hml]; rfl
            clear hown6 hgrow6 hat6 hlt6 hgr o5 hme hbw5 hml x5 y5
            go_wp2
            go_roundw
            case rel => exact ⟨k + 1, m + 1, _, _, _, by omega, by omega, by go_num, rfl, HL2.out, HO.out, HME.out, HB.out⟩
            case measure => simp [intOf]; omega
        · obtain rfl : k = na := by omega
          rw [wtake_all' us hna] at hme hml
          have h8 := (hme.below hbw).ownedM hml ho
          have B4 := B3.trans (hbw.mono B3.size)
          have f0 := frozen_later hbw e0 f0
          have f1 := frozen_later hbw e1 f1
          have e0 := cell_later hbw e0
          have e1 := cell_later hbw e1
          have c0 := cell_later hbw c0
          have c1 := cell_later hbw c1
          have zR : w.heap.size + 1 + 1 < wr.heap.size := World.block_lt_of_cell? _ _ (by assumption : wr.cell? ⟨w.heap.size + 1 + 1, 0, none⟩ = _)
          go_wp2_with fail
          refine (l2Tell_any _ _ _ (keepL (inW ts' false) us) _ _ hml (by omega) (fun j hj => by have := at_of_mem (fun t ht => good_len (hgk2.out t (keepL_mem ht))) j (by omega : j < (keepL (inW ts' false) us).length); omega) h8).mono ?_
          rintro e w5 ⟨⟨r4, m4, d4, cells4, rfl, ho4⟩, hb5⟩
          have B5 := B4.trans (hb5.mono B4.size)
          have f0 := frozen_later hb5 e0 f0
          have f1 := frozen_later hb5 e1 f1
          have e0 := cell_later hb5 e0
          have e1 := cell_later hb5 e1
          have HNB : Hid (bothB p ts p ts' false = goodT p (bothW ts ts' false)) := bothB_yes HL.out
          rw [← HBW.out] at ho4 ⊢
          clear hb5 h8 hme ho hbw c0 c1 b0 b1
          go_wp2
          refine bodyPost_ret (v := .tuple #[.agg #[.int .i64 _, .slice r4 m4 d4], .bool _]) (by simp [results, Try.results12, go_sem, e0, e1]) rfl ⟨TabAns.tell HNB.out ⟨r4, m4, d4, cells4, rfl, ho4.stored zR (by omega) _ _⟩, ?_⟩
          exact (B5.setCell (by show w.heap.size ≤ w.heap.size + 1 + 1; omega) _).setCell (by show w.heap.size ≤ w.heap.size + 1 + 1; omega) _

set_option maxHeartbeats 4000000 in
theorem specExceptTables (a a' : Option Addr) (n n' c c' : Nat) (ts ts' : List WRow) (p p' : Int) (w : World) (hz : ts.length = n) (hz' : ts'.length = n') (hn : n ≤ 1048576) (hn' : n' ≤ 1048576) (ha : AtM w a ts) (ha' : AtM w a' ts') :
    Calls Try.prog 5 #[.agg #[.int .i64 p, .slice a n c], .agg #[.int .i64 p', .slice a' n' c']] w fun e w' => TabAns e w' w.heap.size (bothB p ts p' ts' false) p (bothW ts ts' false) ∧ Below w.heap.size w w' := by
  obtain ⟨W, hW⟩ : ∃ W, W = ((w.alloc (.cells #[.int .i64 p, .slice a n c] 28)).alloc (.cells #[.int .i64 p', .slice a' n' c'] 28)).alloc (.cells #[.int .i64 0, .slice none 0 0] 28) := ⟨_, rfl⟩
  have zW : W.heap.size = w.heap.size + 1 + 1 + 1 := by rw [hW]; simp
  have B0 : Below w.heap.size w W := by rw [hW]; exact (((Below.refl _ _).alloc (Nat.le_refl _) _).alloc (by simp) _).alloc (by simp; omega) _
  have c0 : W.cell? ⟨w.heap.size, 0, none⟩ = some (.int .i64 p) := by rw [hW]; exact alloc_keeps (alloc_keeps (pair0 w _ _ _) _) _
  have c1 : W.cell? ⟨w.heap.size, 1, none⟩ = some (.slice a n c) := by rw [hW]; exact alloc_keeps (alloc_keeps (pair1 w _ _ _) _) _
  have b1 : W.cell? ⟨w.heap.size + 1, 1, none⟩ = some (.slice a' n' c') := by rw [hW]; refine alloc_keeps ?_ _; have := pair1 (w.alloc (.cells #[.int .i64 p, .slice a n c] 28)) (.int .i64 p') (.slice a' n' c') 28; rwa [World.size_alloc] at this
  have b0 : W.cell? ⟨w.heap.size + 1, 0, none⟩ = some (.int .i64 p') := by rw [hW]; refine alloc_keeps ?_ _; have := pair0 (w.alloc (.cells #[.int .i64 p, .slice a n c] 28)) (.int .i64 p') (.slice a' n' c') 28; rwa [World.size_alloc] at this
  have q0 : W.heap[w.heap.size + 1 + 1]? = some (.cells #[.int .i64 0, .slice none 0 0] 28 (0, 0)) := by
    rw [hW]
    have := heap_alloc_new ((w.alloc (.cells #[.int .i64 p, .slice a n c] 28)).alloc (.cells #[.int .i64 p', .slice a' n' c'] 28)) (.cells #[.int .i64 0, .slice none 0 0] 28)
    rwa [World.size_alloc, World.size_alloc] at this
  have e0 : W.cell? ⟨w.heap.size + 1 + 1, 0, none⟩ = some (.int .i64 0) := by rw [cell_of_row _ _ 0 _ _ (0, 0) q0]; rfl
  have e1 : W.cell? ⟨w.heap.size + 1 + 1, 1, none⟩ = some (.slice none 0 0) := by rw [cell_of_row _ _ 1 _ _ (0, 0) q0]; rfl
  have f0 : W.frozen? ⟨w.heap.size + 1 + 1, 0, none⟩ = false := frozen_of_row _ _ 0 _ _ q0
  have f1 : W.frozen? ⟨w.heap.size + 1 + 1, 1, none⟩ = false := frozen_of_row _ _ 1 _ _ q0
  have HA := ha.below B0
  have HA' := ha'.below B0
  clear ha ha' q0
  go_enter Try.func5, Try.ntmps5
  go_wp2_with fail
  rw [← hW]
  clear hW
  refine (l3Both_any _ _ _ _ _ _ ts ts' _ _ _ hz hz' hn hn' HA HA').mono ?_
  rintro e w1 ⟨⟨r1, m1, d1, cells1, rfl, ho1⟩, hb1⟩
  have B1 := B0.trans (hb1.mono B0.size)
  have f0 := frozen_later hb1 e0 f0
  have f1 := frozen_later hb1 e1 f1
  have e0 := cell_later hb1 e0
  have e1 := cell_later hb1 e1
  have zR : w.heap.size + 1 + 1 < W.heap.size := by omega
  clear hb1
  go_wp2
  refine bodyPost_ret (v := .tuple #[.agg #[.int .i64 _, .slice r1 m1 d1], .bool _]) (by simp [results, Try.results5, go_sem, e0, e1]) rfl ⟨⟨r1, m1, d1, cells1, rfl, ho1.stored zR (by omega) _ _⟩, ?_⟩
  exact (B1.setCell (by show w.heap.size ≤ w.heap.size + 1 + 1; omega) _).setCell (by show w.heap.size ≤ w.heap.size + 1 + 1; omega) _
end Go.Proofs.Ytogokgegkakmbac
