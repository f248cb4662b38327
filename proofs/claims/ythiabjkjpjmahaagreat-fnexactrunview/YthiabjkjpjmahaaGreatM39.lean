/- Several texts of one proof, in build order: RaQ, RaS, RaV. -/
import Derived.Test.YthiabjkjpjmahaaGreatM35
import Derived.Test.YthiabjkjpjmahaaGreatM38

/- Plain: the model's rows of a part, and that they tell the program's table. -/
namespace Go.Proofs.YthiabjkjpjmahaaGreat
open Go.RowKit

theorem scale_one (ts : List WRow) : scaleW ts 1 = ts := by
  unfold scaleW
  rw [if_neg (by decide)]
  conv => rhs; rw [← List.map_id ts]
  refine List.map_congr_left fun s _ => ?_
  simp
theorem neg_at {ts : List WRow} {k : Nat} (h : k < ts.length) : wat (scaleW ts (-1)) k = ((wat ts k).1, -(wat ts k).2) := by
  unfold scaleW
  rw [if_neg (by decide)]
  simp [wat, List.getD, h]
theorem neg_len (ts : List WRow) : (scaleW ts (-1)).length = ts.length := by unfold scaleW; rw [if_neg (by decide), List.length_map]
theorem neg_good {p : Int} {ts : List WRow} (h : goodT p ts = true) : goodT p (scaleW ts (-1)) = true := by
  obtain ⟨h1, h2, h3⟩ := goodT_parts h
  refine goodT_of h1 (by rw [neg_len]; exact h2) fun k hk => ?_
  rw [neg_len] at hk
  have hs := h3 k hk
  unfold stepB at hs ⊢
  rw [neg_at hk]
  simp only [Bool.and_eq_true] at hs ⊢
  obtain ⟨s1, s2, s3⟩ := hs
  obtain ⟨w1, w2, w3, w4⟩ := goodW_cells s1
  refine ⟨goodW_mk w1 w2 (by unfold inw; rw [decide_eq_true (show -1000000 ≤ -(wat ts k).2 by omega), decide_eq_true (show -(wat ts k).2 ≤ 1000000 by omega)]; rfl), ?_, ?_⟩
  · have : ¬ (wat ts k).2 = 0 := by simpa using s2
    rw [decide_eq_false (show ¬ -(wat ts k).2 = 0 by omega)]; rfl
  · cases k with
    | zero => rfl
    | succ k =>
      rw [show k + 1 - 1 = k by omega] at s3 ⊢
      rw [neg_at (show k < ts.length by omega)]
      exact s3

/-- The model's rows of a part. -/
def rowsM (src ah : List Tab) (x : PartD) : List WRow :=
  if x.K = 1 then (tat src x.A.toNat).2
  else if x.K = 2 then selW (tat ah x.A.toNat).2 x.ts
  else if x.K = 3 then projW (tat ah x.A.toNat).2 x.cs
  else if x.K = 4 then joinW (tat ah x.A.toNat).2 (tat ah x.B.toNat).2 x.ps
  else if x.K = 5 then putAll (tat ah x.A.toNat).2 (tat ah x.B.toNat).2
  else if x.K = 6 then putAll (tat ah x.A.toNat).2 (scaleW (tat ah x.B.toNat).2 (-1))
  else distW (tat ah x.A.toNat).2
/-- Tables that are good and have so many columns. -/
def Fit (l : List Tab) (ss : List Int) : Prop := ∀ i, i < ss.length → (tat l i).1 = ss.getD i 0 ∧ goodT (tat l i).1 (tat l i).2 = true

theorem Fit.num {l : List Tab} {ss : List Int} (h : Fit l ss) {i z : Int} (hn : numAt ss i = some z) : (tat l i.toNat).1 = z ∧ goodT z (tat l i.toNat).2 = true := by
  obtain ⟨k, rfl, hk, hg, _⟩ := numAt_some hn
  obtain ⟨h1, h2⟩ := h k hk
  rw [Int.toNat_natCast]
  rw [hg] at h1
  rw [h1] at h2
  exact ⟨h1, h2⟩

theorem tab_tell {ss wd : List Int} {src ah : List Tab} {x : PartD} {n : Int} (hs : Fit src ss) (ha : Fit ah wd) (h : widthP ss wd x = some n) :
    tabC src ah x = n ∧ tabW src ah x = rowsM src ah x ∧ tabB src ah x = goodT n (rowsM src ah x) := by
  by_cases k1 : x.K = 1
  · rw [widthP_1 k1] at h
    obtain ⟨e, g⟩ := hs.num h
    simp only [tabC, tabW, tabB, rowsM, if_pos k1]
    rw [scale_one, e]
    refine ⟨rfl, rfl, ?_⟩
    rw [scaleB_yes g (by decide), scale_one]
  by_cases k2 : x.K = 2
  · rw [widthP_2 k2] at h
    obtain ⟨a, h1, h2⟩ := Option.bind_eq_some_iff.1 h
    obtain ⟨e, g⟩ := ha.num h1
    have h3 : goodEs a x.ts = true ∧ a = n := by
      split at h2
      · exact ⟨by assumption, by cases h2; rfl⟩
      · cases h2
    obtain ⟨h3, rfl⟩ := h3
    have n1 : ¬ x.K = 3 := by omega
    have n2 : ¬ x.K = 4 := by omega
    simp only [tabC, tabW, tabB, rowsM, if_neg k1, if_pos k2, if_neg n1, if_neg n2]
    rw [e]
    refine ⟨by first | rfl | trivial, by first | rfl | trivial, ?_⟩
    exact selB_yes g h3
  by_cases k3 : x.K = 3
  · rw [widthP_3 k3] at h
    obtain ⟨a, h1, h2⟩ := Option.bind_eq_some_iff.1 h
    obtain ⟨e, g⟩ := ha.num h1
    have h3 : colsOk x.cs a.toNat = true ∧ (x.cs.length : Int) = n := by
      split at h2
      · exact ⟨by assumption, by cases h2; rfl⟩
      · cases h2
    obtain ⟨h3, rfl⟩ := h3
    simp only [tabC, tabW, tabB, rowsM, if_neg k1, if_neg k2, if_pos k3]
    rw [e]
    refine ⟨by first | rfl | trivial, by first | rfl | trivial, ?_⟩
    exact projB_yes g h3
  by_cases k4 : x.K = 4
  · rw [widthP_4 k4] at h
    obtain ⟨a, h1, h2⟩ := Option.bind_eq_some_iff.1 h
    obtain ⟨b, h3, h4⟩ := Option.bind_eq_some_iff.1 h2
    obtain ⟨e, g⟩ := ha.num h1
    obtain ⟨e', g'⟩ := ha.num h3
    have h5 : (pairsOk x.ps a.toNat b.toNat = true ∧ joinC a b x.ps ≤ 6) ∧ (joinC a b x.ps : Int) = n := by
      split at h4
      · exact ⟨by assumption, by cases h4; rfl⟩
      · cases h4
    obtain ⟨⟨h5, h6⟩, rfl⟩ := h5
    simp only [tabC, tabW, tabB, rowsM, if_neg k1, if_neg k2, if_neg k3, if_pos k4]
    rw [e, e']
    refine ⟨by first | rfl | trivial, by first | rfl | trivial, ?_⟩
    unfold joinB
    rw [g, g', h5, decide_eq_true h6]; rfl
  by_cases k5 : x.K = 5
  · rw [widthP_5 k5] at h
    obtain ⟨a, h1, h2⟩ := Option.bind_eq_some_iff.1 h
    obtain ⟨b, h3, h4⟩ := Option.bind_eq_some_iff.1 h2
    obtain ⟨e, g⟩ := ha.num h1
    obtain ⟨e', g'⟩ := ha.num h3
    have h5 : a = b ∧ a = n := by
      split at h4
      · exact ⟨by assumption, by cases h4; rfl⟩
      · cases h4
    obtain ⟨rfl, rfl⟩ := h5
    simp only [tabC, tabW, tabB, rowsM, if_neg k1, if_neg k2, if_neg k3, if_neg k4, if_pos k5]
    rw [e, e']
    refine ⟨by first | rfl | trivial, by first | rfl | trivial, ?_⟩
    unfold addB alike
    rw [g, g', decide_eq_true rfl]; rfl
  by_cases k6 : x.K = 6
  · rw [widthP_6 k6] at h
    obtain ⟨a, h1, h2⟩ := Option.bind_eq_some_iff.1 h
    obtain ⟨b, h3, h4⟩ := Option.bind_eq_some_iff.1 h2
    obtain ⟨e, g⟩ := ha.num h1
    obtain ⟨e', g'⟩ := ha.num h3
    have h5 : a = b ∧ a = n := by
      split at h4
      · exact ⟨by assumption, by cases h4; rfl⟩
      · cases h4
    obtain ⟨rfl, rfl⟩ := h5
    have hsc : scaleB a (tat ah x.B.toNat).2 (-1) = true := by rw [scaleB_yes g' (by decide)]; exact neg_good g'
    simp only [tabC, tabW, tabB, rowsM, if_neg k1, if_neg k2, if_neg k3, if_neg k4, if_neg k5, if_pos k6, lessP, lessT]
    rw [e, e', hsc]
    refine ⟨by first | rfl | trivial, by first | rfl | trivial, ?_⟩
    unfold addB alike
    simp only [ansP, ansT, if_true]
    rw [g, neg_good g']; simp
  by_cases k7 : x.K = 7
  · rw [widthP_7 k7] at h
    obtain ⟨e, g⟩ := ha.num h
    simp only [tabC, tabW, tabB, rowsM, if_neg k1, if_neg k2, if_neg k3, if_neg k4, if_neg k5, if_neg k6]
    rw [e]
    exact ⟨by first | rfl | trivial, by first | rfl | trivial, distB_yes g⟩
  · rw [widthP_no (by omega)] at h
    cases h

/-- The model's rows are small. -/
theorem rows_small {ss wd : List Int} {src ah : List Tab} {x : PartD} {n : Int} (hs : Fit src ss) (ha : Fit ah wd) (h : widthP ss wd x = some n) :
    (rowsM src ah x).length ≤ 3600 ∧ ∀ t ∈ rowsM src ah x, t.1.length ≤ 6 := by
  by_cases k1 : x.K = 1
  · rw [widthP_1 k1] at h
    obtain ⟨_, g⟩ := hs.num h
    simp only [rowsM, if_pos k1]
    exact ⟨by have := goodT_len60 g; omega, fun t ht => (goodT_six g t ht).1⟩
  by_cases k2 : x.K = 2
  · rw [widthP_2 k2] at h
    obtain ⟨a, h1, h2⟩ := Option.bind_eq_some_iff.1 h
    obtain ⟨_, g⟩ := ha.num h1
    simp only [rowsM, if_neg k1, if_pos k2]
    exact ⟨by have := goodT_len60 g; have := selW_len (tat ah x.A.toNat).2 x.ts; omega, fun t ht => (goodT_six g t (selW_mem ht)).1⟩
  by_cases k3 : x.K = 3
  · rw [widthP_3 k3] at h
    obtain ⟨a, h1, h2⟩ := Option.bind_eq_some_iff.1 h
    obtain ⟨_, g⟩ := ha.num h1
    have h3 : colsOk x.cs a.toNat = true := by
      split at h2
      · assumption
      · cases h2
    simp only [rowsM, if_neg k1, if_neg k2, if_pos k3]
    have l1 := goodT_len60 g
    have l2 := putAll_len (projL (tat ah x.A.toNat).2 x.cs) []
    rw [projL_len] at l2
    simp only [List.length_nil] at l2
    refine ⟨by unfold projW; omega, fun t ht => ?_⟩
    unfold projW at ht
    obtain ⟨qa, rfl⟩ : ∃ q : Nat, a = q := ⟨a.toNat, by have := inc_range (goodT_parts g).1; omega⟩
    rw [Int.toNat_natCast] at h3
    exact (putAll_in (l := projL (tat ah x.A.toNat).2 x.cs) (M := 1000000) (by omega) (fun t ht => by have := projL_rows g h3 t ht; exact ⟨good_len this.1, this.2.2⟩) t ht).1
  by_cases k4 : x.K = 4
  · rw [widthP_4 k4] at h
    obtain ⟨a, h1, h2⟩ := Option.bind_eq_some_iff.1 h
    obtain ⟨b, h3, h4⟩ := Option.bind_eq_some_iff.1 h2
    obtain ⟨_, g⟩ := ha.num h1
    obtain ⟨_, g'⟩ := ha.num h3
    simp only [rowsM, if_neg k1, if_neg k2, if_neg k3, if_pos k4]
    obtain ⟨qa, rfl⟩ : ∃ q : Nat, a = q := ⟨a.toNat, by have := inc_range (goodT_parts g).1; omega⟩
    obtain ⟨qb, rfl⟩ : ∃ q : Nat, b = q := ⟨b.toNat, by have := inc_range (goodT_parts g').1; omega⟩
    have l1 := putAll_len (joinL (tat ah x.A.toNat).2 (tat ah x.B.toNat).2 x.ps) []
    have l2 := joinL_len (tat ah x.A.toNat).2 (tat ah x.B.toNat).2 x.ps
    have l3 : (tat ah x.A.toNat).2.length * (tat ah x.B.toNat).2.length ≤ 60 * 60 := Nat.mul_le_mul (goodT_len60 g) (goodT_len60 g')
    simp only [List.length_nil] at l1
    refine ⟨by unfold joinW; omega, fun t ht => ?_⟩
    unfold joinW at ht
    exact (putAll_in' (l := joinL (tat ah x.A.toNat).2 (tat ah x.B.toNat).2 x.ps) (M := 1000000000000) (by omega) (fun t ht => by have := joinL_rows g g' t ht; exact ⟨good_len this.1, this.2.2⟩) t ht).1
  by_cases k56 : x.K = 5 ∨ x.K = 6
  · have h' : twoAt wd x.A x.B = some n := by
      rcases k56 with k | k
      · rw [widthP_5 k] at h; exact h
      · rw [widthP_6 k] at h; exact h
    obtain ⟨a, h1, h2⟩ := Option.bind_eq_some_iff.1 h'
    obtain ⟨b, h3, _⟩ := Option.bind_eq_some_iff.1 h2
    obtain ⟨_, g⟩ := ha.num h1
    obtain ⟨_, g'⟩ := ha.num h3
    have l1 := goodT_len60 g
    by_cases k5 : x.K = 5
    · simp only [rowsM, if_neg k1, if_neg k2, if_neg k3, if_neg k4, if_pos k5]
      have l2 := goodT_len60 g'
      have l3 := putAll_len (tat ah x.B.toNat).2 (tat ah x.A.toNat).2
      exact ⟨by omega, fun t ht => (putAll_ok (M0 := 1000000) (M := 1000000) (by omega) (by omega) (goodT_rises g) (goodT_six g) (goodT_six g') t ht).1⟩
    · have k6 : x.K = 6 := by omega
      simp only [rowsM, if_neg k1, if_neg k2, if_neg k3, if_neg k4, if_neg k5, if_pos k6]
      have l2 := goodT_len60 (neg_good g')
      have l3 := putAll_len (scaleW (tat ah x.B.toNat).2 (-1)) (tat ah x.A.toNat).2
      exact ⟨by omega, fun t ht => (putAll_ok (M0 := 1000000) (M := 1000000) (by omega) (by omega) (goodT_rises g) (goodT_six g) (goodT_six (neg_good g')) t ht).1⟩
  by_cases k7 : x.K = 7
  · rw [widthP_7 k7] at h
    obtain ⟨_, g⟩ := ha.num h
    have k5 : ¬ x.K = 5 := by omega
    have k6 : ¬ x.K = 6 := by omega
    simp only [rowsM, if_neg k1, if_neg k2, if_neg k3, if_neg k4, if_neg k5, if_neg k6]
    have := goodT_len60 g
    have := distW_len (tat ah x.A.toNat).2
    exact ⟨by omega, fun t ht => good_len (distW_ok g t ht).1⟩
  · rw [widthP_no (by omega)] at h
    cases h
/-- The widths of the parts ahead of each. -/
theorem checkTo_at {ss : List Int} {xs : List PartD} (hs : ss.all inc = true) : ∀ {n : Nat} {wd : List Int}, checkTo ss xs n = some wd → ∀ (k : Nat) (x : PartD), k < n → xs[k]? = some x → ∃ z, widthP ss (wd.take k) x = some z ∧ wd[k]? = some z ∧ wd.take (k + 1) = wd.take k ++ [z]
  | 0, wd, _, k, x, h, _ => by omega
  | n + 1, wd, h, k, x, hk, hx => by
    obtain ⟨a, h1, h2⟩ := Option.bind_eq_some_iff.1 h
    obtain ⟨y, h3, h4⟩ := Option.bind_eq_some_iff.1 h2
    obtain ⟨q, h5, rfl⟩ := Option.map_eq_some_iff.1 h4
    have hl := (checkTo_some hs h1).1
    by_cases e : k < n
    · obtain ⟨z, z1, z2, z3⟩ := checkTo_at hs h1 k x e hx
      refine ⟨z, ?_, ?_, ?_⟩
      · rw [List.take_append_of_le_length (by omega)]; exact z1
      · rw [List.getElem?_append_left (by omega)]; exact z2
      · rw [List.take_append_of_le_length (by omega), List.take_append_of_le_length (by omega)]; exact z3
    · obtain rfl : k = n := by omega
      rw [hx] at h3
      cases h3
      unfold partW at h5
      split at h5
      · refine ⟨q, ?_, ?_, ?_⟩
        · rw [List.take_append_of_le_length (by omega), List.take_of_length_le (by omega)]; exact h5
        · rw [List.getElem?_append_right (by omega), hl, Nat.sub_self]; rfl
        · rw [List.take_of_length_le (by simp; omega), List.take_append_of_le_length (by omega), List.take_of_length_le (by omega)]
      · cases h5

theorem suitB_fit {l : List Tab} {ss : List Int} (h : suitB l ss = true) : l.length = ss.length ∧ Fit l ss := by
  unfold suitB at h
  rw [Bool.and_eq_true, decide_eq_true_eq] at h
  refine ⟨h.1, fun i hi => ?_⟩
  have := suitTo_at h.2 (k := i) (by omega)
  unfold suit1 at this
  rw [Bool.and_eq_true, decide_eq_true_eq] at this
  exact this
theorem Fit.nil (l : List Tab) : Fit l [] := fun i hi => by simp at hi
theorem Fit.push {ah : List Tab} {wd : List Int} {t : Tab} (h : Fit ah wd) (hl : ah.length = wd.length) (hg : goodT t.1 t.2 = true) : Fit (ah ++ [t]) (wd ++ [t.1]) := fun i hi => by
  by_cases e : i < wd.length
  · rw [tat_left (by omega)]
    obtain ⟨h1, h2⟩ := h i e
    refine ⟨?_, h2⟩
    rw [h1]
    simp [List.getD, List.getElem?_append_left e]
  · obtain rfl : i = wd.length := by simp at hi; omega
    rw [← hl, tat_last]
    refine ⟨?_, hg⟩
    simp [List.getD, hl]

end Go.Proofs.YthiabjkjpjmahaaGreat

/- Contract of spec.l6Part: the model's rows of a part that is no join and no distinct one. -/
namespace Go.Proofs.YthiabjkjpjmahaaGreat
open Go.RowKit

/-- What a function answers that tells rows. -/
def RowsRet (e : Ending) (w w' : World) (ts : List WRow) : Prop := ∃ r k d, e = .returned (.slice r k d) ∧ ts.length = k ∧ AtM w' r ts ∧ Below w.heap.size w w'


set_option linter.unusedVariables false in
set_option maxRecDepth 100000 in
set_option maxHeartbeats 4000000 in
theorem part_1 (j : Nat) (B : Int) (ta : Option Addr) (tn tc : Nat) (ca : Option Addr) (cn cc : Nat) (pa : Option Addr) (pn pc : Nat) (sa : Option Addr) (sn sc : Nat) (aa : Option Addr) (an ac : Nat) (src : List Tab) (p : Nat) (w : World) (hl : src.length = sn) (hln : sn ≤ 1048576) (hA : AtSM w sa src) (hj : j < sn) (hg : goodT (p : Nat) (tat src j).2 = true) :
    Calls Tryz.prog 41 #[.agg (cellsP 1 (j : Nat) B ta tn tc ca cn cc pa pn pc).toArray, .slice sa sn sc, .slice aa an ac] w fun e w' => RowsRet e w w' ((tat src j).2) := by
  obtain ⟨b, off, a1, c1, rfl, g0, g1, hf1, at1⟩ := hA.at hl hj
  generalize (tat src j).2 = ts at *
  obtain ⟨m, hz⟩ : ∃ m, ts.length = m := ⟨_, rfl⟩
  rw [hz] at g1 hf1
  have hji : (j : Int) < (sn : Int) := by omega
  have m60 : m ≤ 60 := by have := goodT_len60 hg; omega
  obtain ⟨W, hW⟩ : ∃ W, W = w.alloc (.cells (cellsP 1 (j : Nat) B ta tn tc ca cn cc pa pn pc).toArray 74) := ⟨_, rfl⟩
  have B0 : Below w.heap.size w W := by rw [hW]; exact (Below.refl _ _).alloc (Nat.le_refl _) _
  have b0 : W.heap[w.heap.size]? = some (.cells (cellsP 1 (j : Nat) B ta tn tc ca cn cc pa pn pc).toArray 74 (0, 0)) := by rw [hW]; exact heap_alloc_new w _
  have k0 := blk_cell b0 0 (v := .int .i64 1) rfl
  have k1 := blk_cell b0 1 (v := .int .i64 (j : Nat)) rfl
  have k2 := blk_cell b0 2 (v := .int .i64 B) rfl
  have k3 := blk_cell b0 3 (v := .slice ta tn tc) rfl
  have k4 := blk_cell b0 4 (v := .slice ca cn cc) rfl
  have g1 := cell_later B0 g1
  have HAT := Hid.mk (at1.below B0)
  have HB0 := Hid.mk B0
  have HG := Hid.mk hg
  have HZ := Hid.mk hz
  clear hA hl b0 at1 hg B0 g0 hz
  go_enter Tryz.func41, Tryz.ntmps41
  go_upto_region 3 with fail
  rw [← hW]
  clear hW
  go_wp2
  exact bodyPost_ret (v := .slice a1 m c1) (by simp [results, Tryz.results41, go_sem]) rfl ⟨a1, m, c1, rfl, HZ.out, HAT.out, HB0.out⟩


set_option linter.unusedVariables false in
set_option maxRecDepth 100000 in
set_option maxHeartbeats 4000000 in
theorem part_2 (j : Nat) (B : Int) (ta : Option Addr) (tn tc : Nat) (ca : Option Addr) (cn cc : Nat) (pa : Option Addr) (pn pc : Nat) (sa : Option Addr) (sn sc : Nat) (aa : Option Addr) (an ac : Nat) (ah : List Tab) (p : Nat) (w : World) (hl : ah.length = an) (hln : an ≤ 1048576) (hA : AtSM w aa ah) (hj : j < an) (hg : goodT (p : Nat) (tat ah j).2 = true) (es : List Tst) (htz : es.length = tn) (hta : AtE w ta es) (hge : goodEs (p : Nat) es = true) :
    Calls Tryz.prog 41 #[.agg (cellsP 2 (j : Nat) B ta tn tc ca cn cc pa pn pc).toArray, .slice sa sn sc, .slice aa an ac] w fun e w' => RowsRet e w w' (selW (tat ah j).2 es) := by
  obtain ⟨b, off, a1, c1, rfl, g0, g1, hf1, at1⟩ := hA.at hl hj
  generalize (tat ah j).2 = ts at *
  obtain ⟨m, hz⟩ : ∃ m, ts.length = m := ⟨_, rfl⟩
  rw [hz] at g1 hf1
  have hji : (j : Int) < (an : Int) := by omega
  have m60 : m ≤ 60 := by have := goodT_len60 hg; omega
  obtain ⟨W, hW⟩ : ∃ W, W = w.alloc (.cells (cellsP 2 (j : Nat) B ta tn tc ca cn cc pa pn pc).toArray 74) := ⟨_, rfl⟩
  have B0 : Below w.heap.size w W := by rw [hW]; exact (Below.refl _ _).alloc (Nat.le_refl _) _
  have b0 : W.heap[w.heap.size]? = some (.cells (cellsP 2 (j : Nat) B ta tn tc ca cn cc pa pn pc).toArray 74 (0, 0)) := by rw [hW]; exact heap_alloc_new w _
  have k0 := blk_cell b0 0 (v := .int .i64 2) rfl
  have k1 := blk_cell b0 1 (v := .int .i64 (j : Nat)) rfl
  have k2 := blk_cell b0 2 (v := .int .i64 B) rfl
  have k3 := blk_cell b0 3 (v := .slice ta tn tc) rfl
  have k4 := blk_cell b0 4 (v := .slice ca cn cc) rfl
  have g1 := cell_later B0 g1
  have HAT := Hid.mk (at1.below B0)
  have HB0 := Hid.mk B0
  have HG := Hid.mk hg
  have HZ := Hid.mk hz
  have HTA := Hid.mk (AtE.below hta B0)
  have hp6 : p ≤ 6 := by have := inc_range (goodT_parts hg).1; omega
  clear hta
  clear hA hl b0 at1 hg B0 g0 hz
  go_enter Tryz.func41, Tryz.ntmps41
  go_upto_region 5 with fail
  rw [← hW]
  clear hW
  go_region_held3 (fun w' => w'.cell? ⟨w.heap.size, 1, none⟩ = some (.int .i64 (j : Nat)) ∧ w'.cell? ⟨w.heap.size, 2, none⟩ = some (.int .i64 B) ∧ w'.cell? ⟨w.heap.size, 3, none⟩ = some (.slice ta tn tc) ∧ w'.cell? ⟨w.heap.size, 4, none⟩ = some (.slice ca cn cc) ∧ w'.cell? ⟨b, off + j * 2 + 1, none⟩ = some (.slice a1 m c1)) (refine ⟨?_, ?_, ?_, ?_, ?_⟩ <;> assumption)
    (first
      | (go_at_call 81; refine (l3Select_any a1 ta m tn c1 tc ts es p W.drew HZ.out htz m60 hp6 (fun t ht => (goodT_mem HG.out t ht).2) hge (HAT.out.below (Below.refl _ _).drew) (AtE.below HTA.out (Below.refl _ _).drew)).mono ?_; rintro e w3 ⟨r3, m3, d3, rfl, hm3, ha3, hb3⟩; have k1 := cell_later hb3 k1; have k2 := cell_later hb3 k2; have k3 := cell_later hb3 k3; have k4 := cell_later hb3 k4; have g1 := cell_later hb3 g1))
  have BW := HB0.out.drew.trans (hb3.mono HB0.out.size)
  go_wp2
  exact bodyPost_ret (v := .slice r3 m3 d3) (by simp [results, Tryz.results41, go_sem]) rfl ⟨r3, m3, d3, rfl, hm3, ha3, BW⟩


set_option linter.unusedVariables false in
set_option maxRecDepth 100000 in
set_option maxHeartbeats 4000000 in
theorem part_3 (j : Nat) (B : Int) (ta : Option Addr) (tn tc : Nat) (ca : Option Addr) (cn cc : Nat) (pa : Option Addr) (pn pc : Nat) (sa : Option Addr) (sn sc : Nat) (aa : Option Addr) (an ac : Nat) (ah : List Tab) (p : Nat) (w : World) (hl : ah.length = an) (hln : an ≤ 1048576) (hA : AtSM w aa ah) (hj : j < an) (hg : goodT (p : Nat) (tat ah j).2 = true) (zs : List Int) (htz : zs.length = cn) (hta : At w ca zs) (hge : colsOk zs p = true) :
    Calls Tryz.prog 41 #[.agg (cellsP 3 (j : Nat) B ta tn tc ca cn cc pa pn pc).toArray, .slice sa sn sc, .slice aa an ac] w fun e w' => RowsRet e w w' (projW (tat ah j).2 zs) := by
  obtain ⟨b, off, a1, c1, rfl, g0, g1, hf1, at1⟩ := hA.at hl hj
  generalize (tat ah j).2 = ts at *
  obtain ⟨m, hz⟩ : ∃ m, ts.length = m := ⟨_, rfl⟩
  rw [hz] at g1 hf1
  have hji : (j : Int) < (an : Int) := by omega
  have m60 : m ≤ 60 := by have := goodT_len60 hg; omega
  obtain ⟨W, hW⟩ : ∃ W, W = w.alloc (.cells (cellsP 3 (j : Nat) B ta tn tc ca cn cc pa pn pc).toArray 74) := ⟨_, rfl⟩
  have B0 : Below w.heap.size w W := by rw [hW]; exact (Below.refl _ _).alloc (Nat.le_refl _) _
  have b0 : W.heap[w.heap.size]? = some (.cells (cellsP 3 (j : Nat) B ta tn tc ca cn cc pa pn pc).toArray 74 (0, 0)) := by rw [hW]; exact heap_alloc_new w _
  have k0 := blk_cell b0 0 (v := .int .i64 3) rfl
  have k1 := blk_cell b0 1 (v := .int .i64 (j : Nat)) rfl
  have k2 := blk_cell b0 2 (v := .int .i64 B) rfl
  have k3 := blk_cell b0 3 (v := .slice ta tn tc) rfl
  have k4 := blk_cell b0 4 (v := .slice ca cn cc) rfl
  have g1 := cell_later B0 g1
  have HAT := Hid.mk (at1.below B0)
  have HB0 := Hid.mk B0
  have HG := Hid.mk hg
  have HZ := Hid.mk hz
  have HTA := Hid.mk (At.below hta B0)
  clear hta
  clear hA hl b0 at1 hg B0 g0 hz
  go_enter Tryz.func41, Tryz.ntmps41
  go_upto_region 7 with fail
  rw [← hW]
  clear hW
  go_region_held3 (fun w' => w'.cell? ⟨w.heap.size, 1, none⟩ = some (.int .i64 (j : Nat)) ∧ w'.cell? ⟨w.heap.size, 2, none⟩ = some (.int .i64 B) ∧ w'.cell? ⟨w.heap.size, 3, none⟩ = some (.slice ta tn tc) ∧ w'.cell? ⟨w.heap.size, 4, none⟩ = some (.slice ca cn cc) ∧ w'.cell? ⟨b, off + j * 2 + 1, none⟩ = some (.slice a1 m c1)) (refine ⟨?_, ?_, ?_, ?_, ?_⟩ <;> assumption)
    (first
      | (go_at_call 82; refine (l3Project_any a1 ca m cn c1 cc ts zs p W.drew HZ.out htz m60 HG.out hge (HAT.out.below (Below.refl _ _).drew) (At.below HTA.out (Below.refl _ _).drew)).mono ?_; rintro e w3 ⟨r3, m3, d3, rfl, hm3, ha3, hb3⟩; have k1 := cell_later hb3 k1; have k2 := cell_later hb3 k2; have k3 := cell_later hb3 k3; have k4 := cell_later hb3 k4; have g1 := cell_later hb3 g1))
  have BW := HB0.out.drew.trans (hb3.mono HB0.out.size)
  go_wp2
  exact bodyPost_ret (v := .slice r3 m3 d3) (by simp [results, Tryz.results41, go_sem]) rfl ⟨r3, m3, d3, rfl, hm3, ha3, BW⟩


set_option linter.unusedVariables false in
set_option maxRecDepth 100000 in
set_option maxHeartbeats 4000000 in
theorem part_5 (j i : Nat) (ta : Option Addr) (tn tc : Nat) (ca : Option Addr) (cn cc : Nat) (pa : Option Addr) (pn pc : Nat) (sa : Option Addr) (sn sc : Nat) (aa : Option Addr) (an ac : Nat) (ah : List Tab) (p : Nat) (w : World) (hl : ah.length = an) (hln : an ≤ 1048576) (hA : AtSM w aa ah) (hj : j < an) (hi : i < an) (hg : goodT (p : Nat) (tat ah j).2 = true) (p' : Nat) (hg' : goodT (p' : Nat) (tat ah i).2 = true) :
    Calls Tryz.prog 41 #[.agg (cellsP 5 (j : Nat) (i : Nat) ta tn tc ca cn cc pa pn pc).toArray, .slice sa sn sc, .slice aa an ac] w fun e w' => RowsRet e w w' (putAll (tat ah j).2 (tat ah i).2) := by
  obtain ⟨b, off, a1, c1, rfl, g0, g1, hf1, at1⟩ := hA.at hl hj
  obtain ⟨b', off', a2, c2, hbb, d0, d1, hf2, at2⟩ := hA.at hl hi
  simp only [Option.some.injEq, Addr.mk.injEq, and_true] at hbb
  obtain ⟨rfl, rfl⟩ := hbb
  generalize (tat ah j).2 = ts at *
  obtain ⟨m, hz⟩ : ∃ m, ts.length = m := ⟨_, rfl⟩
  rw [hz] at g1 hf1
  have hji : (j : Int) < (an : Int) := by omega
  have m60 : m ≤ 60 := by have := goodT_len60 hg; omega
  generalize (tat ah i).2 = us at *
  obtain ⟨m', hz'⟩ : ∃ m, us.length = m := ⟨_, rfl⟩
  rw [hz'] at d1 hf2
  have hii : (i : Int) < (an : Int) := by omega
  have m60' : m' ≤ 60 := by have := goodT_len60 hg'; omega
  obtain ⟨W, hW⟩ : ∃ W, W = w.alloc (.cells (cellsP 5 (j : Nat) (i : Nat) ta tn tc ca cn cc pa pn pc).toArray 74) := ⟨_, rfl⟩
  have B0 : Below w.heap.size w W := by rw [hW]; exact (Below.refl _ _).alloc (Nat.le_refl _) _
  have b0 : W.heap[w.heap.size]? = some (.cells (cellsP 5 (j : Nat) (i : Nat) ta tn tc ca cn cc pa pn pc).toArray 74 (0, 0)) := by rw [hW]; exact heap_alloc_new w _
  have k0 := blk_cell b0 0 (v := .int .i64 5) rfl
  have k1 := blk_cell b0 1 (v := .int .i64 (j : Nat)) rfl
  have k2 := blk_cell b0 2 (v := .int .i64 (i : Nat)) rfl
  have k3 := blk_cell b0 3 (v := .slice ta tn tc) rfl
  have k4 := blk_cell b0 4 (v := .slice ca cn cc) rfl
  have g1 := cell_later B0 g1
  have d1 := cell_later B0 d1
  have HAT := Hid.mk (at1.below B0)
  have HAT' := Hid.mk (at2.below B0)
  have HB0 := Hid.mk B0
  have HG := Hid.mk hg
  have HG' := Hid.mk hg'
  have HZ := Hid.mk hz
  have HZ' := Hid.mk hz'
  clear hA hl b0 at1 hg B0 g0 at2 hg' d0 hz' hz
  go_enter Tryz.func41, Tryz.ntmps41
  go_upto_region 9 with fail
  rw [← hW]
  clear hW
  go_region_held3 (fun w' => w'.cell? ⟨w.heap.size, 1, none⟩ = some (.int .i64 (j : Nat)) ∧ w'.cell? ⟨w.heap.size, 2, none⟩ = some (.int .i64 (i : Nat)) ∧ w'.cell? ⟨w.heap.size, 3, none⟩ = some (.slice ta tn tc) ∧ w'.cell? ⟨w.heap.size, 4, none⟩ = some (.slice ca cn cc) ∧ w'.cell? ⟨b, off + j * 2 + 1, none⟩ = some (.slice a1 m c1) ∧ w'.cell? ⟨b, off + i * 2 + 1, none⟩ = some (.slice a2 m' c2)) (refine ⟨?_, ?_, ?_, ?_, ?_, ?_⟩ <;> assumption)
    (first
      | (go_at_call 77; refine (l2Add_any a1 a2 m m' c1 c2 ts us W.drew HZ.out HZ'.out (by omega) (by omega) hf1 (goodT_rises HG.out) (goodT_six HG.out) (goodT_six HG'.out) (HAT.out.below (Below.refl _ _).drew) (HAT'.out.below (Below.refl _ _).drew)).mono ?_; rintro e w3 ⟨r3, m3, d3, rfl, hm3, hff0, ha3, hb3⟩; have k1 := cell_later hb3 k1; have k2 := cell_later hb3 k2; have k3 := cell_later hb3 k3; have k4 := cell_later hb3 k4; have g1 := cell_later hb3 g1; have d1 := cell_later hb3 d1))
  have BW := HB0.out.drew.trans (hb3.mono HB0.out.size)
  go_wp2
  exact bodyPost_ret (v := .slice r3 m3 d3) (by simp [results, Tryz.results41, go_sem]) rfl ⟨r3, m3, d3, rfl, hm3, ha3, BW⟩


set_option linter.unusedVariables false in
set_option maxRecDepth 100000 in
set_option maxHeartbeats 4000000 in
theorem part_6 (j i : Nat) (ta : Option Addr) (tn tc : Nat) (ca : Option Addr) (cn cc : Nat) (pa : Option Addr) (pn pc : Nat) (sa : Option Addr) (sn sc : Nat) (aa : Option Addr) (an ac : Nat) (ah : List Tab) (p : Nat) (w : World) (hl : ah.length = an) (hln : an ≤ 1048576) (hA : AtSM w aa ah) (hj : j < an) (hi : i < an) (hg : goodT (p : Nat) (tat ah j).2 = true) (p' : Nat) (hg' : goodT (p' : Nat) (tat ah i).2 = true) :
    Calls Tryz.prog 41 #[.agg (cellsP 6 (j : Nat) (i : Nat) ta tn tc ca cn cc pa pn pc).toArray, .slice sa sn sc, .slice aa an ac] w fun e w' => RowsRet e w w' (putAll (tat ah j).2 (scaleW (tat ah i).2 (-1))) := by
  obtain ⟨b, off, a1, c1, rfl, g0, g1, hf1, at1⟩ := hA.at hl hj
  obtain ⟨b', off', a2, c2, hbb, d0, d1, hf2, at2⟩ := hA.at hl hi
  simp only [Option.some.injEq, Addr.mk.injEq, and_true] at hbb
  obtain ⟨rfl, rfl⟩ := hbb
  generalize (tat ah j).2 = ts at *
  obtain ⟨m, hz⟩ : ∃ m, ts.length = m := ⟨_, rfl⟩
  rw [hz] at g1 hf1
  have hji : (j : Int) < (an : Int) := by omega
  have m60 : m ≤ 60 := by have := goodT_len60 hg; omega
  generalize (tat ah i).2 = us at *
  obtain ⟨m', hz'⟩ : ∃ m, us.length = m := ⟨_, rfl⟩
  rw [hz'] at d1 hf2
  have hii : (i : Int) < (an : Int) := by omega
  have m60' : m' ≤ 60 := by have := goodT_len60 hg'; omega
  obtain ⟨W, hW⟩ : ∃ W, W = w.alloc (.cells (cellsP 6 (j : Nat) (i : Nat) ta tn tc ca cn cc pa pn pc).toArray 74) := ⟨_, rfl⟩
  have B0 : Below w.heap.size w W := by rw [hW]; exact (Below.refl _ _).alloc (Nat.le_refl _) _
  have b0 : W.heap[w.heap.size]? = some (.cells (cellsP 6 (j : Nat) (i : Nat) ta tn tc ca cn cc pa pn pc).toArray 74 (0, 0)) := by rw [hW]; exact heap_alloc_new w _
  have k0 := blk_cell b0 0 (v := .int .i64 6) rfl
  have k1 := blk_cell b0 1 (v := .int .i64 (j : Nat)) rfl
  have k2 := blk_cell b0 2 (v := .int .i64 (i : Nat)) rfl
  have k3 := blk_cell b0 3 (v := .slice ta tn tc) rfl
  have k4 := blk_cell b0 4 (v := .slice ca cn cc) rfl
  have g1 := cell_later B0 g1
  have d1 := cell_later B0 d1
  have HAT := Hid.mk (at1.below B0)
  have HAT' := Hid.mk (at2.below B0)
  have HB0 := Hid.mk B0
  have HG := Hid.mk hg
  have HG' := Hid.mk hg'
  have HZ := Hid.mk hz
  have HZ' := Hid.mk hz'
  clear hA hl b0 at1 hg B0 g0 at2 hg' d0 hz' hz
  go_enter Tryz.func41, Tryz.ntmps41
  go_upto_region 10 with fail
  rw [← hW]
  clear hW
  go_region_held3 (fun w' => w'.cell? ⟨w.heap.size, 1, none⟩ = some (.int .i64 (j : Nat)) ∧ w'.cell? ⟨w.heap.size, 2, none⟩ = some (.int .i64 (i : Nat)) ∧ w'.cell? ⟨w.heap.size, 3, none⟩ = some (.slice ta tn tc) ∧ w'.cell? ⟨w.heap.size, 4, none⟩ = some (.slice ca cn cc) ∧ w'.cell? ⟨b, off + j * 2 + 1, none⟩ = some (.slice a1 m c1) ∧ w'.cell? ⟨b, off + i * 2 + 1, none⟩ = some (.slice a2 m' c2)) (refine ⟨?_, ?_, ?_, ?_, ?_, ?_⟩ <;> assumption)
    (first
      | (go_at_call 83; refine (l2Scale_any a2 m' c2 us (-1) W.drew HZ'.out (by omega) (by omega) (by omega) (goodT_six HG'.out) (HAT'.out.below (Below.refl _ _).drew)).mono ?_; rintro e w3 ⟨r3, m3, d3, rfl, hm3, ha3, hb3⟩; have k1 := cell_later hb3 k1; have k2 := cell_later hb3 k2; have k3 := cell_later hb3 k3; have k4 := cell_later hb3 k4; have g1 := cell_later hb3 g1; have d1 := cell_later hb3 d1)
      | (go_at_call 77; refine (l2Add_any a1 r3 m m3 c1 d3 ts (scaleW us (-1)) w3 HZ.out hm3 (by omega) (by have := goodT_len60 (neg_good HG'.out); omega) hf1 (goodT_rises HG.out) (goodT_six HG.out) (goodT_six (neg_good HG'.out)) ((HAT.out.below (Below.refl _ _).drew).below hb3) ha3).mono ?_; rintro e w4 ⟨r4, m4, d4, rfl, hm4, hff1, ha4, hb4⟩; have k1 := cell_later hb4 k1; have k2 := cell_later hb4 k2; have k3 := cell_later hb4 k3; have k4 := cell_later hb4 k4; have g1 := cell_later hb4 g1; have d1 := cell_later hb4 d1))
  have BW := HB0.out.drew.trans (hb3.mono HB0.out.size)
  have BW := BW.trans (hb4.mono BW.size)
  go_wp2
  exact bodyPost_ret (v := .slice r4 m4 d4) (by simp [results, Tryz.results41, go_sem]) rfl ⟨r4, m4, d4, rfl, hm4, ha4, BW⟩

end Go.Proofs.YthiabjkjpjmahaaGreat

/- Contract of spec.l6Part, whatever the kind. -/
namespace Go.Proofs.YthiabjkjpjmahaaGreat
open Go.RowKit

theorem rowsM_1 {src ah : List Tab} {x : PartD} (k : x.K = 1) : rowsM src ah x = (tat src x.A.toNat).2 := by unfold rowsM; rw [if_pos k]
theorem rowsM_2 {src ah : List Tab} {x : PartD} (k : x.K = 2) : rowsM src ah x = selW (tat ah x.A.toNat).2 x.ts := by unfold rowsM; rw [if_neg (by omega), if_pos k]
theorem rowsM_3 {src ah : List Tab} {x : PartD} (k : x.K = 3) : rowsM src ah x = projW (tat ah x.A.toNat).2 x.cs := by unfold rowsM; rw [if_neg (by omega), if_neg (by omega), if_pos k]
theorem rowsM_4 {src ah : List Tab} {x : PartD} (k : x.K = 4) : rowsM src ah x = joinW (tat ah x.A.toNat).2 (tat ah x.B.toNat).2 x.ps := by unfold rowsM; rw [if_neg (by omega), if_neg (by omega), if_neg (by omega), if_pos k]
theorem rowsM_5 {src ah : List Tab} {x : PartD} (k : x.K = 5) : rowsM src ah x = putAll (tat ah x.A.toNat).2 (tat ah x.B.toNat).2 := by unfold rowsM; rw [if_neg (by omega), if_neg (by omega), if_neg (by omega), if_neg (by omega), if_pos k]
theorem rowsM_6 {src ah : List Tab} {x : PartD} (k : x.K = 6) : rowsM src ah x = putAll (tat ah x.A.toNat).2 (scaleW (tat ah x.B.toNat).2 (-1)) := by unfold rowsM; rw [if_neg (by omega), if_neg (by omega), if_neg (by omega), if_neg (by omega), if_neg (by omega), if_pos k]
theorem rowsM_7 {src ah : List Tab} {x : PartD} (k : x.K = 7) : rowsM src ah x = distW (tat ah x.A.toNat).2 := by unfold rowsM; rw [if_neg (by omega), if_neg (by omega), if_neg (by omega), if_neg (by omega), if_neg (by omega), if_neg (by omega)]
theorem Fit.nat {l : List Tab} {ss : List Int} (h : Fit l ss) {i z : Int} (hn : numAt ss i = some z) : ∃ (j p : Nat), i = j ∧ j < ss.length ∧ z = p ∧ goodT (p : Nat) (tat l j).2 = true := by
  obtain ⟨_, g⟩ := h.num hn
  obtain ⟨k, rfl, hk, _, _⟩ := numAt_some hn
  rw [Int.toNat_natCast] at g
  refine ⟨k, z.toNat, rfl, hk, by have := inc_range (goodT_parts g).1; omega, ?_⟩
  rw [show ((z.toNat : Nat) : Int) = z by have := inc_range (goodT_parts g).1; omega]
  exact g

set_option linter.unusedVariables false in
theorem l6Part_any (x : PartD) (ta : Option Addr) (tn tc : Nat) (ca : Option Addr) (cn cc : Nat) (pa : Option Addr) (pn pc : Nat) (sa : Option Addr) (sn sc : Nat) (aa : Option Addr) (an ac : Nat) (src ah : List Tab) (ss wd : List Int) (z : Int) (w : World) (n4 : ¬ x.K = 4) (n7 : ¬ x.K = 7) (hw : widthP ss wd x = some z) (fs : Fit src ss) (fa : Fit ah wd)
    (hs : src.length = sn) (hs' : ss.length = sn) (hsn : sn ≤ 1048576) (hl : ah.length = an) (hl' : wd.length = an) (han : an ≤ 1048576) (hSa : AtSM w sa src) (hAa : AtSM w aa ah) (t1 : x.ts.length = tn) (t3 : AtE w ta x.ts) (u1 : x.cs.length = cn) (u3 : At w ca x.cs) :
    Calls Tryz.prog 41 #[.agg (cellsP x.K x.A x.B ta tn tc ca cn cc pa pn pc).toArray, .slice sa sn sc, .slice aa an ac] w fun e w' => RowsRet e w w' (rowsM src ah x) := by
  by_cases k1 : x.K = 1
  · rw [widthP_1 k1] at hw
    obtain ⟨j, p, hj, hjl, _, g⟩ := fs.nat hw
    rw [rowsM_1 k1, k1, hj, Int.toNat_natCast]
    exact part_1 j x.B ta tn tc ca cn cc pa pn pc sa sn sc aa an ac src p w hs hsn hSa (by omega) g
  by_cases k2 : x.K = 2
  · rw [widthP_2 k2] at hw
    obtain ⟨a, h1, h2⟩ := Option.bind_eq_some_iff.1 hw
    obtain ⟨j, p, hj, hjl, rfl, g⟩ := fa.nat h1
    have h3 : goodEs (p : Int) x.ts = true := by
      split at h2
      · assumption
      · cases h2
    rw [rowsM_2 k2, k2, hj, Int.toNat_natCast]
    exact part_2 j x.B ta tn tc ca cn cc pa pn pc sa sn sc aa an ac ah p w hl han hAa (by omega) g x.ts t1 t3 h3
  by_cases k3 : x.K = 3
  · rw [widthP_3 k3] at hw
    obtain ⟨a, h1, h2⟩ := Option.bind_eq_some_iff.1 hw
    obtain ⟨j, p, hj, hjl, rfl, g⟩ := fa.nat h1
    have h3 : colsOk x.cs p = true := by
      split at h2
      · rename_i h; rw [Int.toNat_natCast] at h; exact h
      · cases h2
    rw [rowsM_3 k3, k3, hj, Int.toNat_natCast]
    exact part_3 j x.B ta tn tc ca cn cc pa pn pc sa sn sc aa an ac ah p w hl han hAa (by omega) g x.cs u1 u3 h3
  by_cases k5 : x.K = 5
  · rw [widthP_5 k5] at hw
    obtain ⟨a, h1, h2⟩ := Option.bind_eq_some_iff.1 hw
    obtain ⟨b, h3, _⟩ := Option.bind_eq_some_iff.1 h2
    obtain ⟨j, p, hj, hjl, _, g⟩ := fa.nat h1
    obtain ⟨i, p', hi, hil, _, g'⟩ := fa.nat h3
    rw [rowsM_5 k5, k5, hj, hi, Int.toNat_natCast, Int.toNat_natCast]
    exact part_5 j i ta tn tc ca cn cc pa pn pc sa sn sc aa an ac ah p w hl han hAa (by omega) (by omega) g p' g'
  by_cases k6 : x.K = 6
  · rw [widthP_6 k6] at hw
    obtain ⟨a, h1, h2⟩ := Option.bind_eq_some_iff.1 hw
    obtain ⟨b, h3, _⟩ := Option.bind_eq_some_iff.1 h2
    obtain ⟨j, p, hj, hjl, _, g⟩ := fa.nat h1
    obtain ⟨i, p', hi, hil, _, g'⟩ := fa.nat h3
    rw [rowsM_6 k6, k6, hj, hi, Int.toNat_natCast, Int.toNat_natCast]
    exact part_6 j i ta tn tc ca cn cc pa pn pc sa sn sc aa an ac ah p w hl han hAa (by omega) (by omega) g p' g'
  · rw [widthP_no (by omega)] at hw
    cases hw

end Go.Proofs.YthiabjkjpjmahaaGreat
