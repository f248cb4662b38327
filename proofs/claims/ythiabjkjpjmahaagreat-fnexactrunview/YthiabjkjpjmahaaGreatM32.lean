/- Several texts of one proof, in build order: ProjS, ProjI, RngN. -/
import Derived.Test.YthiabjkjpjmahaaGreatM31
import Derived.Test.YthiabjkjpjmahaaGreatM14
import Derived.Test.YthiabjkjpjmahaaGreatM29
import Derived.Test.YthiabjkjpjmahaaGreatM12
import Derived.Test.YthiabjkjpjmahaaGreatM11
import Derived.Test.YthiabjkjpjmahaaGreatM17
import Derived.Test.YthiabjkjpjmahaaGreatM24

/- Contracts of impl.ProjectTable, spec.l3Project, spec.ProjectTable. -/
namespace Go.Proofs.YthiabjkjpjmahaaGreat
open Go.RowKit Go.Shelf

/-- The rows' picked cells, and those rows put together. -/
def projL (ts : List WRow) (cols : List Int) : List WRow := ts.filterMap (pickG cols)
def projW (ts : List WRow) (cols : List Int) : List WRow := putAll [] (projL ts cols)
def projB (p : Int) (ts : List WRow) (cols : List Int) : Bool := goodT p ts && (colsOk cols p.toNat && goodT cols.length (projW ts cols))
theorem projB_no {p : Int} {ts : List WRow} {cols : List Int} (h : goodT p ts = false) : projB p ts cols = false := by simp [projB, h]
theorem projB_not {p : Int} {ts : List WRow} {cols : List Int} (h : colsOk cols p.toNat = false) : projB p ts cols = false := by simp [projB, h]
theorem projB_yes {p : Int} {ts : List WRow} {cols : List Int} (h : goodT p ts = true) (h2 : colsOk cols p.toNat = true) : projB p ts cols = goodT cols.length (projW ts cols) := by simp [projB, h, h2]
theorem projB_goodT {p : Int} {ts : List WRow} {cols : List Int} (h : projB p ts cols = true) : goodT cols.length (projW ts cols) = true := by
  simp only [projB, Bool.and_eq_true] at h
  exact h.2.2
theorem projL_eq (ts : List WRow) (cols : List Int) : projL ts cols = ts.map fun t => (pick t.1 cols, t.2) := by
  unfold projL
  induction ts with
  | nil => rfl
  | cons t ts ih => rw [List.filterMap_cons, List.map_cons, ← ih]; rfl
theorem projL_len (ts : List WRow) (cols : List Int) : (projL ts cols).length = ts.length := by rw [projL_eq]; simp
theorem projL_at (ts : List WRow) (cols : List Int) (k : Nat) (h : k < ts.length) : wat (projL ts cols) k = (pick (wat ts k).1 cols, (wat ts k).2) := by
  rw [projL_eq]; simp [wat, List.getD, h]
theorem good_pick {zs cols : List Int} (h : good zs = true) (hc : colsOk cols zs.length = true) : good (pick zs cols) = true := by
  refine good_of (by have := colsOk_len hc; simpa [pick] using this) fun k hk => ?_
  have hk' : k < cols.length := by simpa [pick] using hk
  have h1 := colsOk_at hc k hk'
  have h2 := good_cell h (cols.getD k 0).toNat (by omega)
  have e : (pick zs cols).getD k 0 = zs.getD (cols.getD k 0).toNat 0 := by simp [pick, List.getD, hk']
  rw [e]; exact h2
theorem good_noughts {q : Nat} (h : q ≤ 6) : good (List.replicate q 0) = true := by
  refine good_of (by simpa using h) fun k hk => ?_
  have : (List.replicate q (0 : Int)).getD k 0 = 0 := by
    rw [List.getD_eq_getElem?_getD, List.getElem?_replicate]; split <;> rfl
  rw [this]; omega
theorem projL_rows {q : Nat} {ts : List WRow} {cols : List Int} (h : goodT q ts = true) (hc : colsOk cols q = true) : ∀ t ∈ projL ts cols, good t.1 = true ∧ t.1.length = cols.length ∧ -1000000 ≤ t.2 ∧ t.2 ≤ 1000000 := fun t ht => by
  rw [projL_eq] at ht
  obtain ⟨s, hs, rfl⟩ := List.mem_map.1 ht
  have h1 := goodT_mem h s hs
  have h2 := (goodL_mem (goodL_of_goodT h) s hs).2.2
  exact ⟨good_pick h1.1 (by rw [h1.2]; exact hc), by simp [pick], h2⟩
theorem projL_goodL {q : Nat} {ts : List WRow} {cols : List Int} (h : goodT q ts = true) (hc : colsOk cols q = true) : goodL (cols.length : Nat) (projL ts cols) = true := by
  refine List.all_eq_true.2 fun t ht => ?_
  have := projL_rows h hc t ht
  exact goodW_mk this.1 (by rw [this.2.1]) (by simp [inw]; omega)
theorem putAll_in {l : List WRow} {M : Int} (hM : 0 ≤ M) (hl : ∀ t ∈ l, t.1.length ≤ 6 ∧ -M ≤ t.2 ∧ t.2 ≤ M) : ∀ t ∈ putAll [] l, t.1.length ≤ 6 ∧ -(M * l.length) ≤ t.2 ∧ t.2 ≤ M * l.length := fun t h => by
  have hr : Rises [] := List.Pairwise.nil
  have h6 : t.1.length ≤ 6 := by
    rcases putAll_rows h with ⟨s, hs, e⟩ | ⟨s, hs, e⟩
    · cases hs
    · rw [← e]; exact (hl s hs).1
  have hw := wOf_mem (putAll_rises (l := l) hr) h
  rw [putAll_wOf t.1 hr] at hw
  have b2 := sumW_bound (zs := t.1) hM (fun s hs => (hl s hs).2)
  have b0 : wOf [] t.1 = 0 := rfl
  omega

set_option maxRecDepth 100000 in
set_option maxHeartbeats 4000000 in
theorem l3Project_any (a a' : Option Addr) (n n' c c' : Nat) (ts : List WRow) (cols : List Int) (q0 : Nat) (w : World) (hz : ts.length = n) (hz' : cols.length = n') (hn : n ≤ 60) (hgT : goodT q0 ts = true) (hok : colsOk cols q0 = true) (ha : AtM w a ts) (ha' : At w a' cols) :
    Calls Tryz.prog 82 #[.slice a n c, .slice a' n' c'] w fun e w' => ∃ r k d, e = .returned (.slice r k d) ∧ (projW ts cols).length = k ∧ AtM w' r (projW ts cols) ∧ Below w.heap.size w w' := by
  have n6' : n' ≤ 6 := by have := colsOk_len hok; omega
  obtain ⟨xs, hxs⟩ : ∃ xs, xs = projL ts cols := ⟨_, rfl⟩
  have hxl : xs.length = n := by rw [hxs, projL_len]; exact hz
  have HXA : Hid (∀ k, k < n → wat xs k = (pick (wat ts k).1 cols, (wat ts k).2)) := fun k hk => by rw [hxs]; exact projL_at ts cols k (by omega)
  have HXR : Hid (∀ t ∈ xs, t.1.length ≤ 6 ∧ -1000000 ≤ t.2 ∧ t.2 ≤ 1000000) := fun t ht => by
    rw [hxs] at ht
    have := projL_rows hgT hok t ht
    exact ⟨by omega, this.2.2⟩
  have HPW : Hid (projW ts cols = putAll [] xs) := by show _ = _; rw [hxs]; rfl
  have HROW : Hid (∀ k, k < n → (wat ts k).1.length = q0) := fun k hk => (at_of_mem (goodT_mem hgT) k (by omega)).2
  have q6 : q0 ≤ 6 := by have := inc_range (goodT_parts hgT).1; omega
  have HOK := Hid.mk hok
  clear hxs hgT hok
  go_enter Tryz.func82, Tryz.ntmps82
  go_wp2
  go_loopw [5, 10] (fun o i wr => ∃ (k : Nat) (r : Option Addr) (m d : Nat), k ≤ n ∧ i = .int .i64 k ∧ o = .slice r m d ∧ (putAll [] (xs.take k)).length = m ∧ Formed r m d ∧ AtM wr r (putAll [] (xs.take k)) ∧ Below w.heap.size w wr) (fun _ i _ => n - (intOf i).toNat)
  case atStart => exact ⟨0, none, 0, 0, Nat.zero_le _, rfl, rfl, rfl, Formed.nil, atM_nil _ _, Below.refl _ _⟩
  case round =>
    obtain ⟨k, r, m, d, hk, rfl, rfl, hm, hFr, har, hbw⟩ := hrel
    by_cases hlt : k < n
    · obtain ⟨b, off, rfl, hc⟩ := (ha.below hbw).some (by omega)
      obtain ⟨q, dd, hcx, hwx, hm1, hnil, hat⟩ := hc k (by omega)
      have hro := HROW.out k hlt
      have hxk := at_of_mem HXR.out k (by omega)
      have HS := Hid.mk (putAll_take [] xs k (by omega))
      have hxa := HXA.out k hlt
      have hki : (k : Int) < (n : Int) := by omega
      have hml : m ≤ k := by have := putAll_len (xs.take k) []; rw [List.length_take] at this; simp at this; omega
      have hokk : ∀ j, j < m → (wat (putAll [] (xs.take k)) j).1.length ≤ 6 ∧ -4000000000000000000 ≤ (wat (putAll [] (xs.take k)) j).2 ∧ (wat (putAll [] (xs.take k)) j).2 ≤ 4000000000000000000 := fun j hj => by
        have := at_of_mem (putAll_in (M := 1000000) (by omega) (fun t ht => HXR.out t (List.mem_of_mem_take ht))) j (show j < (putAll [] (xs.take k)).length by omega)
        rw [List.length_take] at this
        refine ⟨this.1, ?_, ?_⟩ <;> omega
      rw [hxa] at HS hxk
      generalize wat ts k = Y at *
      obtain ⟨ys, x⟩ := Y
      simp only at hcx hwx hat hm1 HS hxk hro
      obtain ⟨m2, hmm⟩ : ∃ m2, ys.length = m2 := ⟨_, rfl⟩
      rw [hmm] at hcx hm1 hro
      have HM := Hid.mk hmm
      obtain ⟨V, hV⟩ : ∃ V, V = wr.alloc (.cells #[.slice q m2 dd, .int .i64 x] 82) := ⟨_, rfl⟩
      have hbV : Below wr.heap.size wr V := by rw [hV]; exact (Below.refl _ _).alloc (Nat.le_refl _) _
      have v0 : V.cell? ⟨wr.heap.size, 0, none⟩ = some (.slice q m2 dd) := by rw [hV]; exact pair0 wr _ _ _
      have v1 : V.cell? ⟨wr.heap.size, 1, none⟩ = some (.int .i64 x) := by rw [hV]; exact pair1 wr _ _ _
      have B1 := hbw.trans (hbV.mono hbw.size)
      have HC := Hid.mk (ha'.below B1)
      have HAT := Hid.mk (hat.below hbV)
      have HAR := Hid.mk (har.below hbV)
      have hcl : colsOk cols ys.length = true := by rw [HM.out, hro]; exact HOK.out
      have HCL := Hid.mk hcl
      have HPL : Hid ((pick ys cols).length = n') := by show _ = _; simp [pick, hz']
      have HXX := Hid.mk hxk
      have l6 : m2 ≤ 6 := by omega
      clear hmm hc hat har hcl hxa hxk hro
      go_wp2_with fail
      rw [← hV]
      clear hV hcx hwx
      refine wp_region_held_drew (S := fun w' => w'.cell? ⟨wr.heap.size, 0, none⟩ = some (.slice q m2 dd) ∧ w'.cell? ⟨wr.heap.size, 1, none⟩ = some (.int .i64 x)) (by kernel_rfl) ?_ (fun hHeld => ?_)
      · (try dsimp only)
        exact ⟨v0, v1⟩
      refine tk 0 ?_
      refine tk 1 ?_
      refine tk 2 ?_
      refine tk 3 ?_
      refine tk 5 ?_
      refine tk 6 ?_
      refine tr 4 (fun K hK => ?_)
      go_simp
      go_at_call 125; refine (l1Pick_any _ _ _ _ _ _ ys cols _ HM.out hz' (by omega) HAT.out.drew HC.out.drew HCL.out).mono ?_; rintro e w5 ⟨r5, d5, rfl, ho5, hb5⟩; have x5 := cell_later hb5 v0; have y5 := cell_later hb5 v1
      (try go_wp2_with fail)
      refine hK.out _ _ ?_ (fun hHeld' => ?_)
      · (try dsimp only)
        exact ⟨x5, y5⟩
      clear hK K hHeld
      have hHeld := hHeld'
      clear hHeld'
      (try simp only [Act.put, List.setIfInBounds_toArray, List.set_cons_zero, List.set_cons_succ])
      refine tr 7 (fun K hK => ?_)
      go_simp
      go_at_call 122; refine (l2Put_any _ _ _ _ _ _ (putAll [] (xs.take k)) (pick ys cols) x _ hm HPL.out (by omega) hFr n6' (owns_formed ho5).2.1 hokk (by have := HXX.out; omega) (by have := HXX.out; omega) (HAR.out.drew.below hb5) (At.owned ho5)).mono ?_; rintro e w6 ⟨r2, m3, d2, rfl, hm3, hF2, ha2, hb6⟩; have x6 := cell_later hb6 x5; have y6 := cell_later hb6 y5
      (try go_wp2_with fail)
      refine hK.out _ _ ?_ (fun hHeld' => ?_)
      · (try dsimp only)
        exact ⟨x6, y6⟩
      clear hK K hHeld
      have hHeld := hHeld'
      clear hHeld'
      (try simp only [Act.put, List.setIfInBounds_toArray, List.set_cons_zero, List.set_cons_succ])
      refine tk 8 ?_
      refine wpAnyH_done (by kernel_rfl) ?_ _
      rw [← HS.out] at hm3 ha2
      have HM3 := Hid.mk hm3
      have HF2 := Hid.mk hF2
      have HA2 := Hid.mk ha2
      have B5 := B1.drew.trans (hb5.mono B1.size)
      have HB := Hid.mk (B5.trans (hb6.mono B5.size))
      clear hm3 hF2 ha2 hb5 hb6 B1 B5 hbw hm hFr hokk hbV ho5 hHeld v0 v1 x5 y5 x6 y6
      go_wp2
      go_roundw
      case rel => exact ⟨k + 1, _, _, _, by omega, by go_num, rfl, HM3.out, HF2.out, HA2.out, HB.out⟩
      case measure => simp [intOf]; omega
    · obtain rfl : k = n := by omega
      rw [wtake_all' xs hxl] at hm har
      rw [← HPW.out] at hm har
      go_wp2
      go_ret
      exact ⟨_, _, _, rfl, hm, har, hbw⟩

end Go.Proofs.YthiabjkjpjmahaaGreat

/- Contract of impl.ProjectTable. -/
namespace Go.Proofs.YthiabjkjpjmahaaGreat
open Go.RowKit Go.Shelf

theorem noughts_pick {q : Nat} (h6 : q ≤ 6) (cols : List Int) : pickOk (List.replicate q 0) cols = colsOk cols q := by
  unfold pickOk
  rw [good_noughts h6, List.length_replicate]; rfl

set_option maxRecDepth 100000 in
set_option maxHeartbeats 4000000 in
theorem implProjectTable (a a' : Option Addr) (n n' c c' : Nat) (ts : List WRow) (p : Int) (cols : List Int) (w : World) (hz : ts.length = n) (hz' : cols.length = n') (hn : n ≤ 1048576) (hn' : n' ≤ 1048576) (ha : AtM w a ts) (ha' : At w a' cols) :
    Calls Tryz.prog 109 #[.agg #[.int .i64 p, .slice a n c], .slice a' n' c'] w fun e w' => TabAns e w' w.heap.size (projB p ts cols) cols.length (projW ts cols) ∧ Below w.heap.size w w' := by
  obtain ⟨W, hW⟩ : ∃ W, W = (w.alloc (.cells #[.int .i64 p, .slice a n c] 32)).alloc (.cells #[.int .i64 0, .slice none 0 0] 32) := ⟨_, rfl⟩
  have zW : W.heap.size = w.heap.size + 1 + 1 := by rw [hW]; simp
  have B0 : Below w.heap.size w W := by rw [hW]; exact ((Below.refl _ _).alloc (Nat.le_refl _) _).alloc (by simp) _
  have c0 : W.cell? ⟨w.heap.size, 0, none⟩ = some (.int .i64 p) := by rw [hW]; exact alloc_keeps (pair0 w _ _ _) _
  have c1 : W.cell? ⟨w.heap.size, 1, none⟩ = some (.slice a n c) := by rw [hW]; exact alloc_keeps (pair1 w _ _ _) _
  have q0 : W.heap[w.heap.size + 1]? = some (.cells #[.int .i64 0, .slice none 0 0] 32 (0, 0)) := by
    rw [hW]
    have := heap_alloc_new (w.alloc (.cells #[.int .i64 p, .slice a n c] 32)) (.cells #[.int .i64 0, .slice none 0 0] 32)
    rwa [World.size_alloc] at this
  have e0 : W.cell? ⟨w.heap.size + 1, 0, none⟩ = some (.int .i64 0) := by rw [cell_of_row _ _ 0 _ _ (0, 0) q0]; rfl
  have e1 : W.cell? ⟨w.heap.size + 1, 1, none⟩ = some (.slice none 0 0) := by rw [cell_of_row _ _ 1 _ _ (0, 0) q0]; rfl
  have f0 : W.frozen? ⟨w.heap.size + 1, 0, none⟩ = false := frozen_of_row _ _ 0 _ _ q0
  have f1 : W.frozen? ⟨w.heap.size + 1, 1, none⟩ = false := frozen_of_row _ _ 1 _ _ q0
  have HA := ha.below B0
  clear ha q0
  have HC := ha'.below B0
  clear ha'
  cases hg : goodT p ts with
  | false =>
    have HG := Hid.mk hg
    clear hg
    go_enter Tryz.func109, Tryz.ntmps109
    go_wp2_with fail
    rw [← hW]
    clear hW
    refine (implGoodTable_any _ _ _ ts _ _ hz hn HA.atW).mono ?_
    rintro e w1 ⟨rfl, hb1⟩
    rw [HG.out]
    have B1 := B0.trans (hb1.mono B0.size)
    have f0 := frozen_later hb1 e0 f0
    have f1 := frozen_later hb1 e1 f1
    have e0 := cell_later hb1 e0
    have e1 := cell_later hb1 e1
    have c0 := cell_later hb1 c0
    have c1 := cell_later hb1 c1
    go_wp2
    refine bodyPost_ret (v := .tuple #[.agg #[.int .i64 0, .slice none 0 0], .bool false]) (by simp [results, Tryz.results109, go_sem, e0, e1]) rfl ⟨TabAns.zero (projB_no HG.out) rfl, ?_⟩
    exact (B1.setCell (by show w.heap.size ≤ w.heap.size + 1; omega) _).setCell (by show w.heap.size ≤ w.heap.size + 1; omega) _
  | true =>
    obtain ⟨q, hq⟩ : ∃ q : Nat, p = q := ⟨p.toNat, by have := inc_range (goodT_parts hg).1; omega⟩
    subst hq
    have h6 : q ≤ 6 := by have := inc_range (goodT_parts hg).1; omega
    have n60 := goodT_len60 hg
    have HG := Hid.mk hg
    clear hg
    go_enter Tryz.func109, Tryz.ntmps109
    go_wp2_with fail
    rw [← hW]
    clear hW
    refine (implGoodTable_any _ _ _ ts _ _ hz hn HA.atW).mono ?_
    rintro e w1 ⟨rfl, hb1⟩
    rw [HG.out]
    have B1 := B0.trans (hb1.mono B0.size)
    have f0 := frozen_later hb1 e0 f0
    have f1 := frozen_later hb1 e1 f1
    have e0 := cell_later hb1 e0
    have e1 := cell_later hb1 e1
    have c0 := cell_later hb1 c0
    have c1 := cell_later hb1 c1
    have HA := HA.below hb1
    have HC := HC.below hb1
    clear hb1
    go_wp2_with fail
    refine (noughts_any q _ h6).mono ?_
    rintro e w2 ⟨rn, dn, rfl, _, han, hb2⟩
    have B2 := B1.trans (hb2.mono B1.size)
    have f0 := frozen_later hb2 e0 f0
    have f1 := frozen_later hb2 e1 f1
    have e0 := cell_later hb2 e0
    have e1 := cell_later hb2 e1
    have c0 := cell_later hb2 c0
    have c1 := cell_later hb2 c1
    have HA := HA.below hb2
    have HC := HC.below hb2
    clear hb2
    go_wp2_with fail
    refine (implPickCells _ _ _ _ _ _ (List.replicate q 0) cols _ (by simp) hz' (by omega) (by omega) han HC).mono ?_
    rintro e w3 ⟨rs, ms, ds, rfl, hms, hos, hb3⟩
    rw [noughts_pick h6] at *
    have B3 := B2.trans (hb3.mono B2.size)
    have f0 := frozen_later hb3 e0 f0
    have f1 := frozen_later hb3 e1 f1
    have e0 := cell_later hb3 e0
    have e1 := cell_later hb3 e1
    have c0 := cell_later hb3 c0
    have c1 := cell_later hb3 c1
    have HA := HA.below hb3
    have HC := HC.below hb3
    clear hb3 han
    have ZS : Hid (w.heap.size + 1 < w3.heap.size) := World.block_lt_of_cell? _ _ e0
    have hbL : Below w3.heap.size w3 (w3.alloc (.cells #[.slice rs ms ds] 80)) := (Below.refl _ _).alloc (Nat.le_refl _) _
    obtain ⟨w4, hw4⟩ : ∃ w4, w4 = w3.alloc (.cells #[.slice rs ms ds] 80) := ⟨_, rfl⟩
    have z4 : w4.heap.size = w3.heap.size + 1 := by rw [hw4]; simp
    have s4 : w4.cell? ⟨w3.heap.size, 0, none⟩ = some (.slice rs ms ds) := by rw [hw4]; simp
    have B4 : Below w.heap.size w w4 := by rw [hw4]; exact B3.alloc B3.size _
    have f0 := frozen_later hbL e0 f0
    have f1 := frozen_later hbL e1 f1
    have e0 := cell_later hbL e0
    have e1 := cell_later hbL e1
    have c0 := cell_later hbL c0
    have c1 := cell_later hbL c1
    have HA := HA.below hbL
    have HC := HC.below hbL
    cases hc : colsOk cols q with
    | false =>
      have HCO : Hid (colsOk cols (q : Int).toNat = false) := by show _ = _; simpa using hc
      clear hc
      go_wp2_with fail
      rw [← hw4] at hbL e0 e1 f0 f1 c0 c1 HA HC ⊢
      clear hw4
      (try go_wp2)
      refine bodyPost_ret (v := .tuple #[.agg #[.int .i64 0, .slice none 0 0], .bool false]) (by simp [results, Tryz.results109, go_sem, e0, e1]) rfl ⟨TabAns.zero (projB_not HCO.out) rfl, ?_⟩
      exact (B4.setCell (by show w.heap.size ≤ w.heap.size + 1; omega) _).setCell (by show w.heap.size ≤ w.heap.size + 1; omega) _
    | true =>
      have HCO : Hid (colsOk cols (q : Int).toNat = true) := by show _ = _; simpa using hc
      have HCN := Hid.mk hc
      have hpz : pickZ (List.replicate q 0) cols = pick (List.replicate q 0) cols := by unfold pickZ; rw [noughts_pick h6, if_pos hc]
      rw [hpz] at hms
      obtain rfl : n' = ms := by rw [← hms]; simp [pick, hz']
      have n6' : n' ≤ 6 := by have := colsOk_len hc; omega
      clear hc hpz hms hos
      have HNB : Hid (projB q ts cols = goodT cols.length (projW ts cols)) := projB_yes HG.out HCO.out
      go_wp2_with fail
      rw [← hw4] at hbL e0 e1 f0 f1 c0 c1 HA HC ⊢
      clear hw4
      have zS := ZS.out
      have HQ : Hid (∀ k, k < ts.length → pickOk (wat ts k).1 cols = true ∧ (wat ts k).1.length ≤ 6) := fun k hk => by
        have h1 := at_of_mem (goodT_mem HG.out) k hk
        refine ⟨?_, by omega⟩
        unfold pickOk
        rw [h1.1, h1.2, HCN.out]; rfl
      have HG1 : Hid (∀ k, k < (projL ts cols).length → good (wat (projL ts cols) k).1 = true ∧ -1000000000000 ≤ (wat (projL ts cols) k).2 ∧ (wat (projL ts cols) k).2 ≤ 1000000000000) := fun k hk => by
        have h1 := at_of_mem (projL_rows HG.out HCN.out) k hk
        exact ⟨h1.1, by omega, by omega⟩
      have HG2 : Hid (∀ t ∈ projL ts cols, t.1.length = n') := fun t ht => by have := (projL_rows HG.out HCN.out t ht).2.1; omega
      have HTN : Hid (Tells n' (sumAt (projL ts cols) (projL ts cols).length 1) (projW ts cols)) := by
        have := tells_new (q := cols.length) (rfl : (projL ts cols).length = _) (projL_goodL HG.out HCN.out)
        rw [hz'] at this
        exact this
      refine wp_region_held_drew (S := fun w' => w'.cell? ⟨w.heap.size, 0, none⟩ = some (.int .i64 q) ∧ w'.cell? ⟨w.heap.size, 1, none⟩ = some (.slice a n c) ∧ w'.cell? ⟨w3.heap.size, 0, none⟩ = some (.slice rs n' ds)) (by kernel_rfl) ?_ (fun hHeld => ?_)
      · (try dsimp only)
        exact ⟨c0, c1, s4⟩
      refine tk 0 ?_
      refine tk 2 ?_
      refine tk 4 ?_
      refine tk 5 ?_
      refine tk 6 ?_
      refine tr 1 (fun K hK => ?_)
      go_simp
      go_at_call 141; refine (rowsOf_any _ _ _ _ _).mono ?_; rintro e w5 ⟨rfl, hw5⟩; have hb5 : Below w4.drew.heap.size w4.drew w5 := (by rw [hw5]; exact (Below.refl _ _).alloc (Nat.le_refl _) _); have t5 : w5.cell? ⟨w4.heap.size, 1, none⟩ = some (.slice a n c) := (by rw [hw5]; exact pair1 w4.drew _ _ _); have f0 := frozen_later (w := w4.drew) hb5 e0 f0; have f1 := frozen_later (w := w4.drew) hb5 e1 f1; have e0 := cell_later hb5 e0; have e1 := cell_later hb5 e1; have c0 := cell_later hb5 c0; have c1 := cell_later hb5 c1; have s4 := cell_later hb5 s4; have HA3 := HA.drew.below hb5; have HC3 := HC.drew.below hb5; have B5 := B4.drew.trans (hb5.mono B4.size); have hR := rowsOf1_hands w4.heap.size a n c ts w5 hz hn t5 HA3; clear hw5
      (try go_wp2_with fail)
      refine hK.out _ _ ?_ (fun hHeld' => ?_)
      · (try dsimp only)
        exact ⟨c0, c1, s4⟩
      clear hK K hHeld
      have hHeld := hHeld'
      clear hHeld'
      (try simp only [Act.put, List.setIfInBounds_toArray, List.set_cons_zero, List.set_cons_succ])
      refine tr 3 (fun K hK => ?_)
      go_simp
      go_at_call 147; refine (pickedRows_any _ _ _ _ _ _).mono ?_; rintro e w6 ⟨rfl, hw6⟩; have hb6 : Below w5.heap.size w5 w6 := (by rw [hw6]; exact ((Below.refl _ _).alloc (Nat.le_refl _) _).alloc (by simp) _); have t6 : w6.cell? ⟨w5.heap.size, 0, none⟩ = some (.func (.func 164) #[] #[.pointer (some ⟨w4.heap.size, 0, none⟩)]) := (by rw [hw6]; exact alloc_keeps (by simp) _); have u6 : w6.cell? ⟨w5.heap.size + 1, 0, none⟩ = some (.slice a' n' c') := (by rw [hw6]; simp); have f0 := frozen_later hb6 e0 f0; have f1 := frozen_later hb6 e1 f1; have e0 := cell_later hb6 e0; have e1 := cell_later hb6 e1; have c0 := cell_later hb6 c0; have c1 := cell_later hb6 c1; have s4 := cell_later hb6 s4; have B6 := B5.trans (hb6.mono B5.size); have hP := pickedRows1_hands w5.heap.size (w5.heap.size + 1) 164 #[.pointer (some ⟨w4.heap.size, 0, none⟩)] ts a' n' c' cols w6 t6 u6 (enters_of Tryz.func164 (by kernel_rfl) rfl) (hR.later hb6) hz' n6' (HC3.below hb6) (fun k hk => HQ.out k hk); clear hw6
      (try go_wp2_with fail)
      refine hK.out _ _ ?_ (fun hHeld' => ?_)
      · (try dsimp only)
        exact ⟨c0, c1, s4⟩
      clear hK K hHeld
      have hHeld := hHeld'
      clear hHeld'
      (try simp only [Act.put, List.setIfInBounds_toArray, List.set_cons_zero, List.set_cons_succ])
      refine tr 7 (fun K hK => ?_)
      go_simp
      go_at_call 144; refine (tableOf_any 166 #[.pointer (some ⟨w5.heap.size, 0, none⟩), .pointer (some ⟨w5.heap.size + 1, 0, none⟩)] (projL ts cols) n' w6 (enters_of Tryz.func166 (by kernel_rfl) rfl) hP n6' (by rw [projL_len]; omega) HG1.out HG2.out).mono ?_; rintro e w7 ⟨us, ⟨r4, m4, d4, cells4, rfl, ho4⟩, hTl, hb7⟩; have t0 := frozen_later hb7 e0 f0; have t1 := frozen_later hb7 e1 f1; have s0 := cell_later hb7 e0; have s1 := cell_later hb7 e1; have i0 := cell_later hb7 c0; have i1 := cell_later hb7 c1; have i4 := cell_later hb7 s4
      (try go_wp2_with fail)
      refine hK.out _ _ ?_ (fun hHeld' => ?_)
      · (try dsimp only)
        exact ⟨i0, i1, i4⟩
      clear hK K hHeld
      have hHeld := hHeld'
      clear hHeld'
      (try simp only [Act.put, List.setIfInBounds_toArray, List.set_cons_zero, List.set_cons_succ])
      refine tk 8 ?_
      refine tk 9 ?_
      refine tr 10 (fun K hK => ?_)
      go_simp
      skip
      (try go_wp2_with fail)
      refine hK.out _ _ ?_ (fun hHeld' => ?_)
      · (try dsimp only)
        exact ⟨keep_far (keep_far i0 (by omega)) (by omega), keep_far (keep_far i1 (by omega)) (by omega), keep_far (keep_far i4 (by omega)) (by omega)⟩
      clear hK K hHeld
      have hHeld := hHeld'
      clear hHeld'
      (try simp only [Act.put, List.setIfInBounds_toArray, List.set_cons_zero, List.set_cons_succ])
      refine tk 11 ?_
      refine wpAnyH_done (by kernel_rfl) ?_ _
      have hus : us = projW ts cols := hTl.unique HTN.out
      subst hus
      have B7 := B6.trans (hb7.mono B6.size)
      have zR : w.heap.size + 1 < w6.heap.size := World.block_lt_of_cell? _ _ (by assumption : w6.cell? ⟨w.heap.size + 1, 0, none⟩ = _)
      have e0 := s0
      have e1 := s1
      rw [← hz'] at ho4
      clear HA HA3 HC HC3 hb5 hb6 hb7 hHeld hR hP hTl
      go_wp2
      refine bodyPost_ret (v := .tuple #[.agg #[.int .i64 _, .slice r4 m4 d4], .bool _]) (by simp [results, Tryz.results109, go_sem, e0, e1, hz']) rfl ⟨TabAns.tell HNB.out ⟨r4, m4, d4, cells4, rfl, ho4.stored zR (by omega) _ _⟩, ?_⟩
      exact (B7.setCell (by show w.heap.size ≤ w.heap.size + 1; omega) _).setCell (by show w.heap.size ≤ w.heap.size + 1; omega) _
end Go.Proofs.YthiabjkjpjmahaaGreat

/- A range over such a function within a round of another one. -/
namespace Go.Proofs.YthiabjkjpjmahaaGreat
open Go.RowKit Go.Shelf

section
variable {P : Program} {Q : Exit → Act → World → Prop}

theorem round_core1 {xs : List WRow} {p0 p1 : Tmp} {assign body : Code} {a : Act} {I : Nat → World → Prop} {n₀ N l N' : Nat} {fn : FuncId} (hNl : N ≤ l) (hlN : l < N') (_hn₀ : n₀ ≤ N)
    (rec : LoopState → Option Code → Loop) (hrec : ∀ s j, (rec s j).params = #[p0, p1] ∧ (rec s j).tmps = a.tmps ∧ (rec s j).fn = fn ∧ (rec s j).assign = assign ∧ (rec s j).body = body ∧ (rec s j).state = s ∧
      (∀ s', { rec s j with state := s' } = rec s' j) ∧ (∀ s' j', { rec s j with state := s', pending := j' } = rec s' j'))
    (hI : ∀ k A B, Below N A B → I k A → I k B) (hround : RoundWalk P xs p0 p1 assign body a.tmps I n₀ N)
    (k : Nat) (W : World) (b : Option Addr) (n c : Nat) (hk : k < xs.length) (hJ : I k W ∧ W.heap[l]? = some (.loop (rec .ready none))) (hsz : N' ≤ W.heap.size) (hn : (wat xs k).1.length = n) (hnil : b = none → c = 0) (hat : At W b (wat xs k).1) (hfar : Far n₀ N' b (wat xs k).1) :
    YieldAt Fence.wide 0 P l #[.agg #[.slice b n c], .int .i64 (wat xs k).2] W fun e W' => e = .returned (.bool true) ∧ (I (k + 1) W' ∧ W'.heap[l]? = some (.loop (rec .ready none))) ∧ Apart n₀ N' W W' := by
  obtain ⟨hi, hl⟩ := hJ
  obtain ⟨h1, h2, h3, h4, h5, _, h7, h8⟩ := hrec .ready none
  have hy := run_yield (P := P) (args := #[.agg #[.slice b n c], .int .i64 (wat xs k).2]) hl (by rw [h1]; rfl)
  rw [h1, h2, h3, h4, h5] at hy
  refine ⟨fn, _, assign, body, hy, roundIn_of_wpIn trivial ?_⟩
  clear hy
  rw [zip_two]
  refine wpIn_mono (hround l k W b n c hNl hk hi (by omega) ⟨_, hl⟩ hn hnil hat (hfar.mono (by omega))) ?_
  intro e a' W2 hq
  cases e with
  | normal =>
    obtain ⟨hb2, hbody⟩ := hq
    have hl2 : W2.heap[l]? = some (.loop (rec .ready none)) := (hb2.block l (by omega)).trans hl
    have hbr := run_beginRound (P := P) hl2 (hrec .ready none).2.2.2.2.2.1
    rw [h7 .busy] at hbr
    refine ⟨_, hbr, ?_⟩
    have hlt2 : l < W2.heap.size := by have := hb2.size; omega
    have hT := turned_put hl2 (.loop (rec .busy none))
    have hl3 : (W2.putObj l (.loop (rec .busy none))).heap[l]? = some (.loop (rec .busy none)) := World.putObj_heap_same hlt2
    refine wpIn_mono (hbody _ hT ⟨_, hl3⟩) ?_
    intro e' a'' W4 hq'
    obtain ⟨rfl, hi4, hap⟩ := hq'
    have hs3 : (W2.putObj l (.loop (rec .busy none))).heap.size = W2.heap.size := hT.size
    have hl4 : W4.heap[l]? = some (.loop (rec .busy none)) := (hap.block l (by omega) (.inr hNl)).trans hl3
    have her := run_endRound (P := P) none hl4
    have e9 := (hrec .busy none).2.2.2.2.2.2.2
    simp only [Option.isNone_none, if_true] at her
    rw [e9 .ready none] at her
    have hT4 := turned_put hl4 (.loop (rec .ready none))
    have hlt4 : l < W4.heap.size := (Array.getElem?_eq_some_iff.1 hl4).1
    refine ⟨_, _, her, rfl, ⟨hI _ _ _ (hT4.below hNl) hi4, World.putObj_heap_same hlt4⟩, ?_⟩
    refine ⟨hT4.grown.os.trans (hap.os.trans (hT.grown.os.trans hb2.os)), hT4.grown.tape.trans (hap.tape.trans (hT.grown.tape.trans hb2.tape)), hT4.grown.output.trans (hap.output.trans (hT.grown.output.trans hb2.output)), ?_, fun j hj hc => ?_⟩
    · have := hb2.size; have := hap.size; have := hT4.grown.size; omega
    · have hjl : j ≠ l := by omega
      have z2 := hb2.size
      have z4 := hap.size
      rw [hT4.grown.block j (by omega) (fun e => hjl (by simpa using e)), hap.block j (by omega) (by omega), hT.grown.block j (by omega) (fun e => hjl (by simpa using e)), hb2.block j hj]
  | _ => exact hq.elim

/-- **A range over such a function**, within a round of loop l₀. -/
theorem range_hands_in {l₀ : Nat} {g : Operand} {p0 p1 : Tmp} {assign body : Code} {a : Act} {w w0 : World} {gf : Nat} {lb : Array Value} {xs : List WRow} (hg : a.eval g = .func (.func gf) #[] lb) (eg : ∀ args w, (callFunc gf args).run P w = .ok (.enter gf args) w)
    (hH : Hands P gf lb xs w0) (hw : Below w0.heap.size w0 w) (n₀ : Nat) (hn0 : w0.heap.size ≤ n₀) (hn1 : n₀ ≤ w.heap.size) (hl₀ : ∃ r, w.heap[l₀]? = some (.loop r)) (I : Nat → World → Prop) (hI : ∀ k A B, Below w.heap.size A B → I k A → I k B) (h0 : I 0 w)
    (hround : RoundWalk P xs p0 p1 assign body a.tmps I n₀ w.heap.size)
    (hdone : ∀ W, I xs.length W → Apart n₀ w.heap.size w W → Q .normal a W) :
    (Code.rangeFunc g #[p0, p1] assign body).wpIn (Fence.wide.inRound l₀) 0 P Q a w := by
  obtain ⟨r₀, hr₀⟩ := hl₀
  refine wpIn_rangeFunc ?_
  intro fn _
  obtain ⟨rec, hrec⟩ : ∃ rec : LoopState → Option Code → Loop, rec = fun st pe => { state := st, pending := pe, fn, tmps := a.tmps, params := #[p0, p1], assign, body, defers := r₀.defers } := ⟨_, rfl⟩
  obtain ⟨W1, hW1⟩ : ∃ W1, W1 = w.alloc (.loop (rec .ready none)) := ⟨_, rfl⟩
  have z1 : W1.heap.size = w.heap.size + 1 := by rw [hW1]; simp
  have hL : W1.heap[w.heap.size]? = some (.loop (rec .ready none)) := by rw [hW1]; exact heap_alloc_new w _
  have hb1 : Below w.heap.size w W1 := by rw [hW1]; exact (Below.refl _ w).alloc (Nat.le_refl _) _
  refine ⟨w.heap.size, [], W1, { target := .fn (.func gf) lb, args := #[.func (.yield w.heap.size) #[] #[]] }, W1, gf, #[.func (.yield w.heap.size) #[] #[]] ++ lb, W1, ?_, ?_, fun _ _ => trivial, ?_, fun h => by simp [Fence.wide, Fence.inRound] at h, ?_⟩
  · rw [hW1, hrec]; exact run_enterLoop_inner hr₀ _ _ _ _ _
  · simp only [resolve, hg]
    simp [go_sem]
  · simp [invoke, go_sem, eg]
  · refine (hH n₀ w.heap.size (fun k W => I k W ∧ W.heap[w.heap.size]? = some (.loop (rec .ready none))) W1 hn0 (by omega) (hw.trans (hb1.mono hw.size))
      (fun k A B hb ⟨j1, j2⟩ => ⟨hI k A B (hb.mono (by omega)) j1, (hb.block _ (by omega)).trans j2⟩)
      (fun k W b n c hk hJ hsz hn hnil hat hfar => round_core1 (N' := W1.heap.size) (Nat.le_refl _) (by omega) hn1 rec (fun s j => by rw [hrec]; exact ⟨rfl, rfl, rfl, rfl, rfl, rfl, fun _ => rfl, fun _ _ => rfl⟩) hI hround k W b n c hk hJ hsz hn hnil hat hfar)
      ⟨hI 0 w W1 hb1 h0, hL⟩).mono ?_
    rintro e W2 ⟨⟨v, rfl⟩, ⟨hi, hl⟩, hap⟩
    have hst : (rec .ready none).state ≠ .busy := by rw [hrec]; simp
    have hel : (Instr.endLoop w.heap.size).run P W2 = .ok none (W2.putObj w.heap.size (.loop { rec .ready none with state := .exhausted })) := by
      have h := run_endLoop (P := P) hl hst
      rw [h, hrec]
    have hT := turned_put hl (.loop { rec .ready none with state := .exhausted })
    refine ⟨none, _, hel, hdone _ (hI _ _ _ (hT.below (B := w.heap.size) (Nat.le_refl _)) hi) ?_⟩
    refine ⟨hT.grown.os.trans (hap.os.trans hb1.os), hT.grown.tape.trans (hap.tape.trans hb1.tape), hT.grown.output.trans (hap.output.trans hb1.output), ?_, fun j hj hc => ?_⟩
    · have := hap.size; have := hT.grown.size; omega
    · have z2 := hap.size
      rw [hT.grown.block j (by omega) (fun e => by simp only [Option.some.injEq] at e; omega), hap.block j (by omega) (by omega), hb1.block j (by omega)]

end
end Go.Proofs.YthiabjkjpjmahaaGreat
