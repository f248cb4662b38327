/- Plain functions: pairs of columns, rows that are joined. -/
import Derived.Test.YtagijnfiiifppabPlainPick
import Derived.Test.YtagijnfiiifppabGroundS
namespace Go.Proofs.Ytagijnfiiifppab

def pairs2 (ps : List (List Int)) : Bool := decide (ps.length ≤ 6) && ps.all fun p => decide (p.length = 2)
def side (ps : List (List Int)) (s : Nat) : List Int := ps.map fun p => p.getD s 0
def pairIn (na nb : Nat) (p : List Int) : Bool := decide (p.length = 2) && colIn na (p.getD 0 0) && colIn nb (p.getD 1 0)
def pairsOk (ps : List (List Int)) (na nb : Nat) : Bool := decide (ps.length ≤ 6) && ps.all (pairIn na nb)
def restTo (ys cols : List Int) (k : Nat) : List Int := ((List.range k).filter fun (j : Nat) => !cols.contains (j : Int)).map fun (j : Nat) => ys.getD j 0
def joinZ (xs ys cols : List Int) : List Int := xs ++ restTo ys cols ys.length
def joinOk (xs ys : List Int) (ps : List (List Int)) : Bool :=
  good xs && good ys && pairsOk ps xs.length ys.length && decide (pick xs (side ps 0) = pick ys (side ps 1)) && decide ((joinZ xs ys (side ps 1)).length ≤ 6)
def joinAns (xs ys : List Int) (ps : List (List Int)) : List Int := if joinOk xs ys ps then joinZ xs ys (side ps 1) else []

theorem side_length (ps : List (List Int)) (s : Nat) : (side ps s).length = ps.length := by simp [side]
theorem side_take (ps : List (List Int)) (s k : Nat) (h : k < ps.length) : side (ps.take (k + 1)) s = side (ps.take k) s ++ [(ps.getD k []).getD s 0] := by
  unfold side
  rw [List.take_succ_eq_append_getElem h, List.map_append]
  simp [List.getD, h]
theorem side_getD (ps : List (List Int)) (s k : Nat) (h : k < ps.length) : (side ps s).getD k 0 = (ps.getD k []).getD s 0 := by
  simp [side, List.getD, h]
theorem restTo_skip (ys cols : List Int) (k : Nat) (h : cols.contains (k : Int) = true) : restTo ys cols (k + 1) = restTo ys cols k := by
  simp only [restTo, List.range_succ, List.filter_append, List.filter_cons, List.filter_nil, h, Bool.not_true, Bool.false_eq_true, if_false, List.append_nil]
theorem restTo_take (ys cols : List Int) (k : Nat) (h : cols.contains (k : Int) = false) : restTo ys cols (k + 1) = restTo ys cols k ++ [ys.getD k 0] := by
  simp only [restTo, List.range_succ, List.filter_append, List.map_append, List.filter_cons, List.filter_nil, h, Bool.not_false, if_true, List.map_cons, List.map_nil]
theorem restTo_length (ys cols : List Int) (k : Nat) : (restTo ys cols k).length ≤ k := by
  simp only [restTo, List.length_map]
  have := List.length_filter_le (fun j : Nat => !cols.contains (j : Int)) (List.range k)
  simpa using this

/-- The joined row while it is made. -/
def joinTo (xs ys cols : List Int) (k : Nat) : List Int := xs ++ restTo ys cols k
theorem joinTo_skip (xs ys cols : List Int) (k : Nat) (h : cols.contains (k : Int) = true) : joinTo xs ys cols (k + 1) = joinTo xs ys cols k := by rw [joinTo, joinTo, restTo_skip ys cols k h]
theorem joinTo_take (xs ys cols : List Int) (k : Nat) (h : cols.contains (k : Int) = false) : joinTo xs ys cols (k + 1) = joinTo xs ys cols k ++ [ys.getD k 0] := by rw [joinTo, joinTo, restTo_take ys cols k h, List.append_assoc]
theorem joinTo_length (xs ys cols : List Int) (k : Nat) : (joinTo xs ys cols k).length ≤ xs.length + k := by have := restTo_length ys cols k; simp [joinTo]; omega

theorem pairs2_at {ps : List (List Int)} (h : pairs2 ps = true) (k : Nat) (hk : k < ps.length) : (ps.getD k []).length = 2 := by
  simp only [pairs2, Bool.and_eq_true, decide_eq_true_eq, List.all_eq_true] at h
  have := h.2 ps[k] (List.getElem_mem hk)
  simpa [List.getD, hk] using this
theorem pairs2_len {ps : List (List Int)} (h : pairs2 ps = true) : ps.length ≤ 6 := by simp only [pairs2, Bool.and_eq_true, decide_eq_true_eq] at h; exact h.1
theorem pairs2_of {ps : List (List Int)} (hl : ps.length ≤ 6) (h : ∀ k, k < ps.length → (ps.getD k []).length = 2) : pairs2 ps = true := by
  simp only [pairs2, Bool.and_eq_true, decide_eq_true_eq, List.all_eq_true]
  refine ⟨hl, fun x hx => ?_⟩
  obtain ⟨k, hk, rfl⟩ := List.getElem_of_mem hx
  simpa [List.getD, hk] using h k hk
theorem pairs2_long {ps : List (List Int)} (h : 6 < ps.length) : pairs2 ps = false := by simp [pairs2]; omega
theorem not_pairs2 {ps : List (List Int)} (k : Nat) (hk : k < ps.length) (h : (ps.getD k []).length ≠ 2) : pairs2 ps = false := by
  cases hg : pairs2 ps with
  | false => rfl
  | true => exact absurd (pairs2_at hg k hk) h

theorem pairsOk_at {ps : List (List Int)} {na nb : Nat} (h : pairsOk ps na nb = true) (k : Nat) (hk : k < ps.length) :
    (ps.getD k []).length = 2 ∧ (0 ≤ (ps.getD k []).getD 0 0 ∧ (ps.getD k []).getD 0 0 < na) ∧ (0 ≤ (ps.getD k []).getD 1 0 ∧ (ps.getD k []).getD 1 0 < nb) := by
  simp only [pairsOk, pairIn, colIn, Bool.and_eq_true, decide_eq_true_eq, List.all_eq_true] at h
  have := h.2 ps[k] (List.getElem_mem hk)
  rw [show ps.getD k [] = ps[k] by simp [List.getD, hk]]
  exact ⟨this.1.1, this.1.2, this.2⟩
theorem pairsOk_len {ps : List (List Int)} {na nb : Nat} (h : pairsOk ps na nb = true) : ps.length ≤ 6 := by simp only [pairsOk, Bool.and_eq_true, decide_eq_true_eq] at h; exact h.1
theorem pairsOk_of {ps : List (List Int)} {na nb : Nat} (hl : ps.length ≤ 6) (h : ∀ k, k < ps.length → (ps.getD k []).length = 2 ∧ (0 ≤ (ps.getD k []).getD 0 0 ∧ (ps.getD k []).getD 0 0 < na) ∧ (0 ≤ (ps.getD k []).getD 1 0 ∧ (ps.getD k []).getD 1 0 < nb)) : pairsOk ps na nb = true := by
  simp only [pairsOk, pairIn, colIn, Bool.and_eq_true, decide_eq_true_eq, List.all_eq_true]
  refine ⟨hl, fun x hx => ?_⟩
  obtain ⟨k, hk, rfl⟩ := List.getElem_of_mem hx
  have := h k hk
  rw [show ps.getD k [] = ps[k] by simp [List.getD, hk]] at this
  exact ⟨⟨this.1, this.2.1⟩, this.2.2⟩
theorem pairsOk_long {ps : List (List Int)} {na nb : Nat} (h : 6 < ps.length) : pairsOk ps na nb = false := by simp [pairsOk]; omega
theorem not_pairsOk {ps : List (List Int)} {na nb : Nat} (k : Nat) (hk : k < ps.length) (h : ¬ ((ps.getD k []).length = 2 ∧ (0 ≤ (ps.getD k []).getD 0 0 ∧ (ps.getD k []).getD 0 0 < na) ∧ (0 ≤ (ps.getD k []).getD 1 0 ∧ (ps.getD k []).getD 1 0 < nb))) : pairsOk ps na nb = false := by
  cases hg : pairsOk ps na nb with
  | false => rfl
  | true => exact absurd (pairsOk_at hg k hk) h

theorem pairsOk_split (ps : List (List Int)) (na nb : Nat) : pairsOk ps na nb = (pairs2 ps && colsOk (side ps 0) na && colsOk (side ps 1) nb) := by
  rw [Bool.eq_iff_iff]
  simp only [Bool.and_eq_true]
  constructor
  · intro h
    have hl := pairsOk_len h
    refine ⟨⟨pairs2_of hl (fun k hk => (pairsOk_at h k hk).1), colsOk_of (by rw [side_length]; exact hl) (fun j hj => ?_)⟩, colsOk_of (by rw [side_length]; exact hl) (fun j hj => ?_)⟩
    · rw [side_length] at hj; rw [side_getD ps 0 j hj]; exact (pairsOk_at h j hj).2.1
    · rw [side_length] at hj; rw [side_getD ps 1 j hj]; exact (pairsOk_at h j hj).2.2
  · rintro ⟨⟨h1, h2⟩, h3⟩
    refine pairsOk_of (pairs2_len h1) (fun k hk => ⟨pairs2_at h1 k hk, ?_, ?_⟩)
    · have := colsOk_at h2 k (by rw [side_length]; exact hk); rwa [side_getD ps 0 k hk] at this
    · have := colsOk_at h3 k (by rw [side_length]; exact hk); rwa [side_getD ps 1 k hk] at this

theorem raised_inj {xs ys : List Int} (hl : xs.length = ys.length) : decide (raised xs = raised ys) = decide (xs = ys) := by
  rw [Bool.eq_iff_iff, decide_eq_true_eq, decide_eq_true_eq]
  constructor
  · intro h
    unfold raised at h
    have h2 := (List.append_inj h (by simpa using hl)).1
    apply List.ext_getElem hl
    intro i h1 h3
    have := congrArg (fun l => l.getD i 0) h2
    simp [List.getD, h1, h3] at this
    exact this
  · rintro rfl; rfl

theorem pick_good {zs cols : List Int} (h : pickOk zs cols = true) : ∀ k, k < (pick zs cols).length → -100000 ≤ (pick zs cols).getD k 0 ∧ (pick zs cols).getD k 0 ≤ 100000 := by
  intro k hk
  simp only [pickOk, Bool.and_eq_true] at h
  have hk' : k < cols.length := by simpa [pick] using hk
  have hc := colsOk_at h.2 k hk'
  rw [show (pick zs cols).getD k 0 = zs.getD (cols.getD k 0).toNat 0 by simp [pick, List.getD, hk']]
  exact good_cell h.1 _ (by omega)

theorem restTo_mem {ys cols : List Int} {k : Nat} (hk : k ≤ ys.length) : ∀ z ∈ restTo ys cols k, z ∈ ys := by
  intro z hz
  simp only [restTo, List.mem_map, List.mem_filter, List.mem_range] at hz
  obtain ⟨j, ⟨hj, _⟩, rfl⟩ := hz
  rw [show ys.getD j 0 = ys[j]'(by omega) by simp [List.getD, show j < ys.length by omega]]
  exact List.getElem_mem _

theorem good_joinZ {xs ys cols : List Int} (hx : good xs = true) (hy : good ys = true) : good (joinZ xs ys cols) = decide ((joinZ xs ys cols).length ≤ 6) := by
  have hall : (joinZ xs ys cols).all inb = true := by
    rw [List.all_eq_true]
    intro z hz
    rcases List.mem_append.1 hz with h | h
    · have := good_mem hx z h; simp [inb, this]
    · have := good_mem hy z (restTo_mem (Nat.le_refl _) z h); simp [inb, this]
  simp [good, hall]

end Go.Proofs.Ytagijnfiiifppab
