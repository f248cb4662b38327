/- Several texts of one proof, in build order: ProjS, Nought. -/
import Derived.Test.YtpnaoahlfhbbmaaM14
import Derived.Test.YtpnaoahlfhbbmaaM18
import Derived.Test.YtpnaoahlfhbbmaaM20
import Derived.Test.YtpnaoahlfhbbmaaM7

/- Contracts of impl.ProjectTable, spec.l3Project, spec.ProjectTable. -/
namespace Go.Proofs.Ytpnaoahlfhbbmaa
open Go.RowKit Go.Shelf

/-- The rows' picked cells, and those rows put together. -/
def projL (ts : List WRow) (cols : List Int) : List WRow := ts.filterMap (pickG cols)
def projW (ts : List WRow) (cols : List Int) : List WRow := putAll [] (projL ts cols)
def projB (p : Int) (ts : List WRow) (cols : List Int) : Bool := goodT p ts && (colsOk cols p.toNat && goodT cols.length (projW ts cols))
theorem projB_no {p : Int} {ts : List WRow} {cols : List Int} (h : goodT p ts = false) : projB p ts cols = false := by simp [projB, h]
theorem projB_not {p : Int} {ts : List WRow} {cols : List Int} (h : colsOk cols p.toNat = false) : projB p ts cols = false := by simp [projB, h]
theorem projB_yes {p : Int} {ts : List WRow} {cols : List Int} (h : goodT p ts = true) (h2 : colsOk cols p.toNat = true) : projB p ts cols = goodT cols.length (projW ts cols) := by simp [projB, h, h2]
theorem projB_goodT {p : Int} {ts : List WRow} {cols : List Int} (h : projB p ts cols = true) : goodT cols.length (projW ts cols) = true := by
  simp only [projB, Bool.and_eq_true] at h
  exact h.2.2
theorem projL_eq (ts : List WRow) (cols : List Int) : projL ts cols = ts.map fun t => (pick t.1 cols, t.2) := by
  unfold projL
  induction ts with
  | nil => rfl
  | cons t ts ih => rw [List.filterMap_cons, List.map_cons, ← ih]; rfl
theorem projL_len (ts : List WRow) (cols : List Int) : (projL ts cols).length = ts.length := by rw [projL_eq]; simp
theorem projL_at (ts : List WRow) (cols : List Int) (k : Nat) (h : k < ts.length) : wat (projL ts cols) k = (pick (wat ts k).1 cols, (wat ts k).2) := by
  rw [projL_eq]; simp [wat, List.getD, h]
theorem good_pick {zs cols : List Int} (h : good zs = true) (hc : colsOk cols zs.length = true) : good (pick zs cols) = true := by
  refine good_of (by have := colsOk_len hc; simpa [pick] using this) fun k hk => ?_
  have hk' : k < cols.length := by simpa [pick] using hk
  have h1 := colsOk_at hc k hk'
  have h2 := good_cell h (cols.getD k 0).toNat (by omega)
  have e : (pick zs cols).getD k 0 = zs.getD (cols.getD k 0).toNat 0 := by simp [pick, List.getD, hk']
  rw [e]; exact h2
theorem good_noughts {q : Nat} (h : q ≤ 6) : good (List.replicate q 0) = true := by
  refine good_of (by simpa using h) fun k hk => ?_
  have : (List.replicate q (0 : Int)).getD k 0 = 0 := by
    rw [List.getD_eq_getElem?_getD, List.getElem?_replicate]; split <;> rfl
  rw [this]; omega
theorem projL_rows {q : Nat} {ts : List WRow} {cols : List Int} (h : goodT q ts = true) (hc : colsOk cols q = true) : ∀ t ∈ projL ts cols, good t.1 = true ∧ t.1.length = cols.length ∧ -1000000 ≤ t.2 ∧ t.2 ≤ 1000000 := fun t ht => by
  rw [projL_eq] at ht
  obtain ⟨s, hs, rfl⟩ := List.mem_map.1 ht
  have h1 := goodT_mem h s hs
  have h2 := (goodL_mem (goodL_of_goodT h) s hs).2.2
  exact ⟨good_pick h1.1 (by rw [h1.2]; exact hc), by simp [pick], h2⟩
theorem projL_goodL {q : Nat} {ts : List WRow} {cols : List Int} (h : goodT q ts = true) (hc : colsOk cols q = true) : goodL (cols.length : Nat) (projL ts cols) = true := by
  refine List.all_eq_true.2 fun t ht => ?_
  have := projL_rows h hc t ht
  exact goodW_mk this.1 (by rw [this.2.1]) (by simp [inw]; omega)
theorem putAll_in {l : List WRow} {M : Int} (hM : 0 ≤ M) (hl : ∀ t ∈ l, t.1.length ≤ 6 ∧ -M ≤ t.2 ∧ t.2 ≤ M) : ∀ t ∈ putAll [] l, t.1.length ≤ 6 ∧ -(M * l.length) ≤ t.2 ∧ t.2 ≤ M * l.length := fun t h => by
  have hr : Rises [] := List.Pairwise.nil
  have h6 : t.1.length ≤ 6 := by
    rcases putAll_rows h with ⟨s, hs, e⟩ | ⟨s, hs, e⟩
    · cases hs
    · rw [← e]; exact (hl s hs).1
  have hw := wOf_mem (putAll_rises (l := l) hr) h
  rw [putAll_wOf t.1 hr] at hw
  have b2 := sumW_bound (zs := t.1) hM (fun s hs => (hl s hs).2)
  have b0 : wOf [] t.1 = 0 := rfl
  omega

set_option maxRecDepth 100000 in
set_option maxHeartbeats 4000000 in
theorem l3Project_any (a a' : Option Addr) (n n' c c' : Nat) (ts : List WRow) (cols : List Int) (q0 : Nat) (w : World) (hz : ts.length = n) (hz' : cols.length = n') (hn : n ≤ 60) (hgT : goodT q0 ts = true) (hok : colsOk cols q0 = true) (ha : AtM w a ts) (ha' : At w a' cols) :
    Calls Try.prog 49 #[.slice a n c, .slice a' n' c'] w fun e w' => ∃ r k d, e = .returned (.slice r k d) ∧ (projW ts cols).length = k ∧ AtM w' r (projW ts cols) ∧ Below w.heap.size w w' := by
  have n6' : n' ≤ 6 := by have := colsOk_len hok; omega
  obtain ⟨xs, hxs⟩ : ∃ xs, xs = projL ts cols := ⟨_, rfl⟩
  have hxl : xs.length = n := by rw [hxs, projL_len]; exact hz
  have HXA : Hid (∀ k, k < n → wat xs k = (pick (wat ts k).1 cols, (wat ts k).2)) := fun k hk => by rw [hxs]; exact projL_at ts cols k (by omega)
  have HXR : Hid (∀ t ∈ xs, t.1.length ≤ 6 ∧ -1000000 ≤ t.2 ∧ t.2 ≤ 1000000) := fun t ht => by
    rw [hxs] at ht
    have := projL_rows hgT hok t ht
    exact ⟨by omega, this.2.2⟩
  have HPW : Hid (projW ts cols = putAll [] xs) := by show _ = _; rw [hxs]; rfl
  have HROW : Hid (∀ k, k < n → (wat ts k).1.length = q0) := fun k hk => (at_of_mem (goodT_mem hgT) k (by omega)).2
  have q6 : q0 ≤ 6 := by have := inc_range (goodT_parts hgT).1; omega
  have HOK := Hid.mk hok
  clear hxs hgT hok
  go_enter Try.func49, Try.ntmps49
  go_wp2
  go_loopw [5, 10] (fun o i wr => ∃ (k : Nat) (r : Option Addr) (m d : Nat), k ≤ n ∧ i = .int .i64 k ∧ o = .slice r m d ∧ (putAll [] (xs.take k)).length = m ∧ Formed r m d ∧ AtM wr r (putAll [] (xs.take k)) ∧ Below w.heap.size w wr) (fun _ i _ => n - (intOf i).toNat)
  case atStart => exact ⟨0, none, 0, 0, Nat.zero_le _, rfl, rfl, rfl, Formed.nil, atM_nil _ _, Below.refl _ _⟩
  case round =>
    obtain ⟨k, r, m, d, hk, rfl, rfl, hm, hFr, har, hbw⟩ := hrel
    by_cases hlt : k < n
    · obtain ⟨b, off, rfl, hc⟩ := (ha.below hbw).some (by omega)
      obtain ⟨q, dd, hcx, hwx, hm1, hnil, hat⟩ := hc k (by omega)
      have hro := HROW.out k hlt
      have hxk := at_of_mem HXR.out k (by omega)
      have HS := Hid.mk (putAll_take [] xs k (by omega))
      have hxa := HXA.out k hlt
      have hki : (k : Int) < (n : Int) := by omega
      have hml : m ≤ k := by have := putAll_len (xs.take k) []; rw [List.length_take] at this; simp at this; omega
      have hokk : ∀ j, j < m → (wat (putAll [] (xs.take k)) j).1.length ≤ 6 ∧ -4000000000000000000 ≤ (wat (putAll [] (xs.take k)) j).2 ∧ (wat (putAll [] (xs.take k)) j).2 ≤ 4000000000000000000 := fun j hj => by
        have := at_of_mem (putAll_in (M := 1000000) (by omega) (fun t ht => HXR.out t (List.mem_of_mem_take ht))) j (show j < (putAll [] (xs.take k)).length by omega)
        rw [List.length_take] at this
        refine ⟨this.1, ?_, ?_⟩ <;> omega
      rw [hxa] at HS hxk
      generalize wat ts k = Y at *
      obtain ⟨ys, x⟩ := Y
      simp only at hcx hwx hat hm1 HS hxk hro
      obtain ⟨m2, hmm⟩ : ∃ m2, ys.length = m2 := ⟨_, rfl⟩
      rw [hmm] at hcx hm1 hro
      have HM := Hid.mk hmm
      obtain ⟨V, hV⟩ : ∃ V, V = wr.alloc (.cells #[.slice q m2 dd, .int .i64 x] 71) := ⟨_, rfl⟩
      have hbV : Below wr.heap.size wr V := by rw [hV]; exact (Below.refl _ _).alloc (Nat.le_refl _) _
      have v0 : V.cell? ⟨wr.heap.size, 0, none⟩ = some (.slice q m2 dd) := by rw [hV]; exact pair0 wr _ _ _
      have v1 : V.cell? ⟨wr.heap.size, 1, none⟩ = some (.int .i64 x) := by rw [hV]; exact pair1 wr _ _ _
      have B1 := hbw.trans (hbV.mono hbw.size)
      have HC := Hid.mk (ha'.below B1)
      have HAT := Hid.mk (hat.below hbV)
      have HAR := Hid.mk (har.below hbV)
      have hcl : colsOk cols ys.length = true := by rw [HM.out, hro]; exact HOK.out
      have HCL := Hid.mk hcl
      have HPL : Hid ((pick ys cols).length = n') := by show _ = _; simp [pick, hz']
      have HXX := Hid.mk hxk
      have l6 : m2 ≤ 6 := by omega
      clear hmm hc hat har hcl hxa hxk hro
      go_wp2_with fail
      rw [← hV]
      clear hV hcx hwx
      refine wp_region_held_drew (S := fun w' => w'.cell? ⟨wr.heap.size, 0, none⟩ = some (.slice q m2 dd) ∧ w'.cell? ⟨wr.heap.size, 1, none⟩ = some (.int .i64 x)) (by kernel_rfl) ?_ (fun hHeld => ?_)
      · (try dsimp only)
        exact ⟨v0, v1⟩
      refine wpAnyH_take (i := 0) (oi := ?_) (v := ?_) ?_ (by kernel_rfl) (by kernel_rfl) (by kernel_rfl) ?_ (Or.inl ⟨?_, ?_⟩) (by assumption) ?_
      rotate_left 2
      · (simp only [List.getElem?_toArray, List.getElem?_cons_zero]; rfl)
      · exact fun _ _ _ h => h
      · rfl
      · (intro wS hSw; (try dsimp only at hSw); go_simp; (try with_reducible rfl))
      (try simp only [Act.put, List.setIfInBounds_toArray, List.set_cons_zero, List.set_cons_succ])
      refine wpAnyH_take (i := 1) (oi := ?_) (v := ?_) ?_ (by kernel_rfl) (by kernel_rfl) (by kernel_rfl) ?_ (Or.inl ⟨?_, ?_⟩) (by assumption) ?_
      rotate_left 2
      · (simp only [List.getElem?_toArray, List.getElem?_cons_zero, List.getElem?_cons_succ]; rfl)
      · exact fun _ _ _ h => h
      · rfl
      · (intro wS hSw; (try dsimp only at hSw); go_simp; (try with_reducible rfl))
      (try simp only [Act.put, List.setIfInBounds_toArray, List.set_cons_zero, List.set_cons_succ])
      refine wpAnyH_take (i := 2) (oi := ?_) (v := ?_) ?_ (by kernel_rfl) (by kernel_rfl) (by kernel_rfl) ?_ (Or.inl ⟨?_, ?_⟩) (by assumption) ?_
      rotate_left 2
      · (simp only [List.getElem?_toArray, List.getElem?_cons_zero, List.getElem?_cons_succ]; rfl)
      · exact fun _ _ _ h => h
      · rfl
      · (intro wS hSw; (try dsimp only at hSw); go_simp; (try with_reducible rfl))
      (try simp only [Act.put, List.setIfInBounds_toArray, List.set_cons_zero, List.set_cons_succ])
      refine wpAnyH_take (i := 3) (oi := ?_) (v := ?_) ?_ (by kernel_rfl) (by kernel_rfl) (by kernel_rfl) ?_ (Or.inl ⟨?_, ?_⟩) (by assumption) ?_
      rotate_left 2
      · (simp only [List.getElem?_toArray, List.getElem?_cons_zero, List.getElem?_cons_succ]; rfl)
      · exact fun _ _ _ h => h
      · rfl
      · (intro wS hSw; (try dsimp only at hSw); go_simp; (try with_reducible rfl))
      (try simp only [Act.put, List.setIfInBounds_toArray, List.set_cons_zero, List.set_cons_succ])
      refine wpAnyH_take (i := 5) (oi := ?_) (v := ?_) ?_ (by kernel_rfl) (by kernel_rfl) (by kernel_rfl) ?_ (Or.inl ⟨?_, ?_⟩) (by assumption) ?_
      rotate_left 2
      · (simp only [List.getElem?_toArray, List.getElem?_cons_zero, List.getElem?_cons_succ]; rfl)
      · exact fun _ _ _ h => h
      · rfl
      · (intro wS hSw; (try dsimp only at hSw); go_simp; (try with_reducible rfl))
      (try simp only [Act.put, List.setIfInBounds_toArray, List.set_cons_zero, List.set_cons_succ])
      refine wpAnyH_take (i := 6) (oi := ?_) (v := ?_) ?_ (by kernel_rfl) (by kernel_rfl) (by kernel_rfl) ?_ (Or.inl ⟨?_, ?_⟩) (by assumption) ?_
      rotate_left 2
      · (simp only [List.getElem?_toArray, List.getElem?_cons_zero, List.getElem?_cons_succ]; rfl)
      · exact fun _ _ _ h => h
      · rfl
      · (intro wS hSw; (try dsimp only at hSw); go_simp; (try with_reducible rfl))
      (try simp only [Act.put, List.setIfInBounds_toArray, List.set_cons_zero, List.set_cons_succ])
      refine wpAnyH_ready (rs := [4]) (by kernel_rfl) (by simp) ?_
      refine AllReadyH.cons (o := ?_) ?_ (fun K hK => ?_) AllReadyH.nil
      rotate_left
      · (simp only [List.getElem?_toArray, List.getElem?_cons_zero, List.getElem?_cons_succ]; rfl)
      go_simp
      go_at_call 62; refine (l1Pick_any _ _ _ _ _ _ ys cols _ HM.out hz' (by omega) HAT.out.drew HC.out.drew HCL.out).mono ?_; rintro e w5 ⟨r5, d5, rfl, ho5, hb5⟩; have x5 := cell_later hb5 v0; have y5 := cell_later hb5 v1
      (try go_wp2_with fail)
      refine hK.out _ _ ?_ (fun hHeld' => ?_)
      · (try dsimp only)
        exact ⟨x5, y5⟩
      clear hK K hHeld
      have hHeld := hHeld'
      clear hHeld'
      (try simp only [Act.put, List.setIfInBounds_toArray, List.set_cons_zero, List.set_cons_succ])
      refine wpAnyH_ready (rs := [7]) (by kernel_rfl) (by simp) ?_
      refine AllReadyH.cons (o := ?_) ?_ (fun K hK => ?_) AllReadyH.nil
      rotate_left
      · (simp only [List.getElem?_toArray, List.getElem?_cons_zero, List.getElem?_cons_succ]; rfl)
      go_simp
      go_at_call 61; refine (l2Put_any _ _ _ _ _ _ (putAll [] (xs.take k)) (pick ys cols) x _ hm HPL.out (by omega) hFr n6' (owns_formed ho5).2.1 hokk (by have := HXX.out; omega) (by have := HXX.out; omega) (HAR.out.drew.below hb5) (At.owned ho5)).mono ?_; rintro e w6 ⟨r2, m3, d2, rfl, hm3, hF2, ha2, hb6⟩; have x6 := cell_later hb6 x5; have y6 := cell_later hb6 y5
      (try go_wp2_with fail)
      refine hK.out _ _ ?_ (fun hHeld' => ?_)
      · (try dsimp only)
        exact ⟨x6, y6⟩
      clear hK K hHeld
      have hHeld := hHeld'
      clear hHeld'
      (try simp only [Act.put, List.setIfInBounds_toArray, List.set_cons_zero, List.set_cons_succ])
      refine wpAnyH_take (i := 8) (oi := ?_) (v := ?_) ?_ (by kernel_rfl) (by kernel_rfl) (by kernel_rfl) ?_ (Or.inl ⟨?_, ?_⟩) (by assumption) ?_
      rotate_left 2
      · (simp only [List.getElem?_toArray, List.getElem?_cons_zero, List.getElem?_cons_succ]; rfl)
      · exact fun _ _ _ h => h
      · rfl
      · (intro wS hSw; (try dsimp only at hSw); go_simp; (try with_reducible rfl))
      (try simp only [Act.put, List.setIfInBounds_toArray, List.set_cons_zero, List.set_cons_succ])
      refine wpAnyH_done (by kernel_rfl) ?_ _
      rw [← HS.out] at hm3 ha2
      have HM3 := Hid.mk hm3
      have HF2 := Hid.mk hF2
      have HA2 := Hid.mk ha2
      have B5 := B1.drew.trans (hb5.mono B1.size)
      have HB := Hid.mk (B5.trans (hb6.mono B5.size))
      clear hm3 hF2 ha2 hb5 hb6 B1 B5 hbw hm hFr hokk hbV ho5 hHeld v0 v1 x5 y5 x6 y6
      go_wp2
      go_roundw
      case rel => exact ⟨k + 1, _, _, _, by omega, by go_num, rfl, HM3.out, HF2.out, HA2.out, HB.out⟩
      case measure => simp [intOf]; omega
    · obtain rfl : k = n := by omega
      rw [wtake_all' xs hxl] at hm har
      rw [← HPW.out] at hm har
      go_wp2
      go_ret
      exact ⟨_, _, _, rfl, hm, har, hbw⟩

set_option maxRecDepth 100000 in
set_option maxHeartbeats 4000000 in
theorem specProjectTable (a a' : Option Addr) (n n' c c' : Nat) (ts : List WRow) (p : Int) (cols : List Int) (w : World) (hz : ts.length = n) (hz' : cols.length = n') (hn : n ≤ 1048576) (hn' : n' ≤ 1048576) (ha : AtM w a ts) (ha' : At w a' cols) :
    Calls Try.prog 32 #[.agg #[.int .i64 p, .slice a n c], .slice a' n' c'] w fun e w' => TabAns e w' w.heap.size (projB p ts cols) cols.length (projW ts cols) ∧ Below w.heap.size w w' := by
  obtain ⟨W, hW⟩ : ∃ W, W = (w.alloc (.cells #[.int .i64 p, .slice a n c] 36)).alloc (.cells #[.int .i64 0, .slice none 0 0] 36) := ⟨_, rfl⟩
  have zW : W.heap.size = w.heap.size + 1 + 1 := by rw [hW]; simp
  have B0 : Below w.heap.size w W := by rw [hW]; exact ((Below.refl _ _).alloc (Nat.le_refl _) _).alloc (by simp) _
  have c0 : W.cell? ⟨w.heap.size, 0, none⟩ = some (.int .i64 p) := by rw [hW]; exact alloc_keeps (pair0 w _ _ _) _
  have c1 : W.cell? ⟨w.heap.size, 1, none⟩ = some (.slice a n c) := by rw [hW]; exact alloc_keeps (pair1 w _ _ _) _
  have q0 : W.heap[w.heap.size + 1]? = some (.cells #[.int .i64 0, .slice none 0 0] 36 (0, 0)) := by
    rw [hW]
    have := heap_alloc_new (w.alloc (.cells #[.int .i64 p, .slice a n c] 36)) (.cells #[.int .i64 0, .slice none 0 0] 36)
    rwa [World.size_alloc] at this
  have e0 : W.cell? ⟨w.heap.size + 1, 0, none⟩ = some (.int .i64 0) := by rw [cell_of_row _ _ 0 _ _ (0, 0) q0]; rfl
  have e1 : W.cell? ⟨w.heap.size + 1, 1, none⟩ = some (.slice none 0 0) := by rw [cell_of_row _ _ 1 _ _ (0, 0) q0]; rfl
  have f0 : W.frozen? ⟨w.heap.size + 1, 0, none⟩ = false := frozen_of_row _ _ 0 _ _ q0
  have f1 : W.frozen? ⟨w.heap.size + 1, 1, none⟩ = false := frozen_of_row _ _ 1 _ _ q0
  have HA := ha.below B0
  clear ha q0
  have HC := ha'.below B0
  clear ha'
  cases hg : goodT p ts with
  | false =>
    have HG := Hid.mk hg
    clear hg
    go_enter Try.func32, Try.ntmps32
    go_wp2_with fail
    rw [← hW]
    clear hW
    refine (specGoodTable_any _ _ _ ts _ _ hz hn HA.atW).mono ?_
    rintro e w1 ⟨rfl, hb1⟩
    rw [HG.out]
    have B1 := B0.trans (hb1.mono B0.size)
    have f0 := frozen_later hb1 e0 f0
    have f1 := frozen_later hb1 e1 f1
    have e0 := cell_later hb1 e0
    have e1 := cell_later hb1 e1
    have c0 := cell_later hb1 c0
    have c1 := cell_later hb1 c1
    go_wp2
    refine bodyPost_ret (v := .tuple #[.agg #[.int .i64 0, .slice none 0 0], .bool false]) (by simp [results, Try.results32, go_sem, e0, e1]) rfl ⟨TabAns.zero (projB_no HG.out) rfl, ?_⟩
    exact (B1.setCell (by show w.heap.size ≤ w.heap.size + 1; omega) _).setCell (by show w.heap.size ≤ w.heap.size + 1; omega) _
  | true =>
    obtain ⟨q, hq⟩ : ∃ q : Nat, p = q := ⟨p.toNat, by have := inc_range (goodT_parts hg).1; omega⟩
    subst hq
    have h6 : q ≤ 6 := by have := inc_range (goodT_parts hg).1; omega
    have n60 := goodT_len60 hg
    have HG := Hid.mk hg
    clear hg
    go_enter Try.func32, Try.ntmps32
    go_wp2_with fail
    rw [← hW]
    clear hW
    refine (specGoodTable_any _ _ _ ts _ _ hz hn HA.atW).mono ?_
    rintro e w1 ⟨rfl, hb1⟩
    rw [HG.out]
    have B1 := B0.trans (hb1.mono B0.size)
    have f0 := frozen_later hb1 e0 f0
    have f1 := frozen_later hb1 e1 f1
    have e0 := cell_later hb1 e0
    have e1 := cell_later hb1 e1
    have c0 := cell_later hb1 c0
    have c1 := cell_later hb1 c1
    have HA := HA.below hb1
    have HC := HC.below hb1
    clear hb1
    go_wp2_with fail
    refine (l1Columns_any _ _ _ cols q _ hz' (by omega) (by omega) HC).mono ?_
    rintro e w1' ⟨rfl, rfl⟩
    cases hc : colsOk cols q with
    | false =>
      have HCO : Hid (colsOk cols (q : Int).toNat = false) := by show _ = _; simpa using hc
      clear hc
      go_wp2
      refine bodyPost_ret (v := .tuple #[.agg #[.int .i64 0, .slice none 0 0], .bool false]) (by simp [results, Try.results32, go_sem, e0, e1]) rfl ⟨TabAns.zero (projB_not HCO.out) rfl, ?_⟩
      exact (B1.setCell (by show w.heap.size ≤ w.heap.size + 1; omega) _).setCell (by show w.heap.size ≤ w.heap.size + 1; omega) _
    | true =>
      have HCO : Hid (colsOk cols (q : Int).toNat = true) := by show _ = _; simpa using hc
      have HCN := Hid.mk hc
      clear hc
      have HNB : Hid (projB q ts cols = goodT cols.length (projW ts cols)) := projB_yes HG.out HCO.out
      go_wp2_with fail
      refine (l3Project_any _ _ _ _ _ _ ts cols q _ hz hz' (by omega) HG.out HCN.out HA HC).mono ?_
      rintro e w3 ⟨r3, m3, d3, rfl, hm3, ha3, hb3⟩
      have B3 := B1.trans (hb3.mono B1.size)
      have f0 := frozen_later hb3 e0 f0
      have f1 := frozen_later hb3 e1 f1
      have e0 := cell_later hb3 e0
      have e1 := cell_later hb3 e1
      have c0 := cell_later hb3 c0
      have c1 := cell_later hb3 c1
      have zR : w.heap.size + 1 < w3.heap.size := World.block_lt_of_cell? _ _ (by assumption : w3.cell? ⟨w.heap.size + 1, 0, none⟩ = _)
      have hPL : m3 ≤ 1048576 := by have := putAll_len (projL ts cols) []; rw [projL_len] at this; simp at this; unfold projW at hm3; omega
      have hPR : Hid (∀ k, k < m3 → (wat (projW ts cols) k).1.length ≤ 1048576) := fun k hk => by
        have := at_of_mem (putAll_in (l := projL ts cols) (M := 1000000) (by omega) (fun t ht => by have := projL_rows HG.out HCN.out t ht; exact ⟨good_len this.1, this.2.2⟩)) k (show k < (putAll [] (projL ts cols)).length by unfold projW at hm3; omega)
        unfold projW
        omega
      clear HA HC hb3 c0 c1
      go_wp2_with fail
      refine (l2Tell_any _ _ _ (projW ts cols) _ _ hm3 hPL hPR.out ha3).mono ?_
      rintro e w4 ⟨⟨r4, m4, d4, cells4, rfl, ho4⟩, hb4⟩
      rw [← hz'] at ho4
      have B4 := B3.trans (hb4.mono B3.size)
      have f0 := frozen_later hb4 e0 f0
      have f1 := frozen_later hb4 e1 f1
      have e0 := cell_later hb4 e0
      have e1 := cell_later hb4 e1
      clear hb4 ha3 hm3
      go_wp2
      refine bodyPost_ret (v := .tuple #[.agg #[.int .i64 _, .slice r4 m4 d4], .bool _]) (by simp [results, Try.results32, go_sem, e0, e1, hz']) rfl ⟨TabAns.tell HNB.out ⟨r4, m4, d4, cells4, rfl, ho4.stored zR (by omega) _ _⟩, ?_⟩
      exact (B4.setCell (by show w.heap.size ≤ w.heap.size + 1; omega) _).setCell (by show w.heap.size ≤ w.heap.size + 1; omega) _
end Go.Proofs.Ytpnaoahlfhbbmaa

/- Contract of impl.noughts. -/
namespace Go.Proofs.Ytpnaoahlfhbbmaa
open Go.RowKit

set_option maxRecDepth 100000 in
set_option maxHeartbeats 1000000 in
theorem noughts_any (q : Nat) (w : World) (h6 : q ≤ 6) :
    Calls Try.prog 67 #[.int .i64 q] w fun e w' => ∃ r d, e = .returned (.agg #[.slice r q d]) ∧ (r = none → d = 0) ∧ At w' r (List.replicate q 0) ∧ Below w.heap.size w w' := by
  obtain ⟨i0, hi, hz0, hz1, hz2⟩ := info_parts Try.infoInt
  have hbL : Below w.heap.size w (w.alloc (.cells #[.slice none 0 0] 69)) := (Below.refl _ _).alloc (Nat.le_refl _) _
  have c0 : (w.alloc (.cells #[.slice none 0 0] 69)).cell? ⟨w.heap.size, 0, none⟩ = some (.slice none 0 0) := by simp
  have f0 : (w.alloc (.cells #[.slice none 0 0] 69)).frozen? ⟨w.heap.size, 0, none⟩ = false := by simp
  obtain ⟨w2, hr, ho, hg⟩ := run_makeSlice_full (P := Try.prog) (w.alloc (.cells #[.slice none 0 0] 69)) (w.heap.size + 1) 44 3 i0 (.int .i64 0) 1 Try.underlying44 hi hz0 hz1 .i64 .i64 q (by omega) (by rw [hz2]; omega) (by unfold maxLen; omega) (by simp)
  have hmc : (madeCells (Value.int .i64 0).cells (q * 1)).toList = (List.replicate q 0).map (.int .i64) := by
    have : q = 0 ∨ q = 1 ∨ q = 2 ∨ q = 3 ∨ q = 4 ∨ q = 5 ∨ q = 6 := by omega
    rcases this with rfl | rfl | rfl | rfl | rfl | rfl | rfl <;> simp [madeCells, Value.cells, Array.toList_map, Array.toList_range, List.range, List.range.loop, List.replicate]
  rw [hmc] at ho
  have e2 := hg.cell c0 (by simp)
  have k2 : w2.frozen? ⟨w.heap.size, 0, none⟩ = false := (World.frozen?_of_block (hg.block w.heap.size (by simp) (by simp))).trans f0
  have hb2 : Below w.heap.size w w2 := hbL.grown hg hbL.size (fun j hj => by cases hj)
  have HA2 := Hid.mk (At.owned ho)
  have HO := Hid.mk ho
  clear hmc ho hg hbL c0 f0
  simp only [World.size_alloc] at hr
  go_enter Try.func67, Try.ntmps67
  go_wp2
  refine bodyPost_ret (v := .agg #[.slice (some ⟨w.heap.size + 1, 0, none⟩) q q]) (by simp [results, Try.results67, go_sem, e2]) rfl ⟨_, _, rfl, fun h => (by cases h), ?_, ?_⟩
  · have h2 := HO.out
    rw [World.size_alloc] at h2
    exact At.owned (ownsRow_setCell_below h2 (by show w.heap.size < _; omega) _)
  · exact hb2.setCell (by show w.heap.size ≤ w.heap.size; omega) _
end Go.Proofs.Ytpnaoahlfhbbmaa
