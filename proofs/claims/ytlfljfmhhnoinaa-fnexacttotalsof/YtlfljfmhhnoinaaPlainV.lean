/- Plain functions on lists of groups: what good groups are. -/
import Derived.Test.YtlfljfmhhnoinaaGroundV
import Derived.Test.YtlfljfmhhnoinaaPlainT
namespace Go.Proofs.Ytlfljfmhhnoinaa

def ins (x : Int) : Bool := decide (-100000000000000 ≤ x) && decide (x ≤ 100000000000000)
/-- Both numbers are nothing. -/
def nought (x y : Int) : Bool := decide (x = 0) && decide (y = 0)
/-- A group by a key of p cells. -/
def goodG (p : Nat) (g : GRow) : Bool := good g.1 && (decide (g.1.length = p) && (ins g.2.1 && (ins g.2.2 && !nought g.2.1 g.2.2)))
/-- How many cells the first key has. -/
def keyN (ts : List GRow) : Nat := (gat ts 0).1.length
/-- The k-th group may stand where it stands. -/
def stepV (ts : List GRow) (k : Nat) : Bool := goodG (keyN ts) (gat ts k) && (decide (k = 0) || decide (cmp (gat ts (k - 1)).1 (gat ts k).1 < 0))
/-- Good groups. -/
def goodV (ts : List GRow) : Bool := decide (ts.length ≤ 60) && (List.range ts.length).all (stepV ts)

theorem ins_range {x : Int} (h : ins x = true) : -100000000000000 ≤ x ∧ x ≤ 100000000000000 := by simpa [ins] using h
theorem goodG_cells {p : Nat} {g : GRow} (h : goodG p g = true) : good g.1 = true ∧ g.1.length = p ∧ ins g.2.1 = true ∧ ins g.2.2 = true ∧ nought g.2.1 g.2.2 = false := by simpa [goodG] using h
theorem goodG_mk {p : Nat} {g : GRow} (h1 : good g.1 = true) (h2 : g.1.length = p) (h3 : ins g.2.1 = true) (h4 : ins g.2.2 = true) (h5 : nought g.2.1 g.2.2 = false) : goodG p g = true := by simp [goodG, h1, h2, h3, h4, h5]
theorem goodG_row {p : Nat} {g : GRow} (h : good g.1 = false) : goodG p g = false := by simp [goodG, h]
theorem goodG_len {p : Nat} {g : GRow} (h : g.1.length ≠ p) : goodG p g = false := by simp [goodG, h]
theorem goodG_count {p : Nat} {g : GRow} (h : ins g.2.1 = false) : goodG p g = false := by simp [goodG, h]
theorem goodG_sum {p : Nat} {g : GRow} (h : ins g.2.2 = false) : goodG p g = false := by simp [goodG, h]
theorem goodG_zero {p : Nat} {g : GRow} (h : nought g.2.1 g.2.2 = true) : goodG p g = false := by simp [goodG, h]

theorem gat_mem {ts : List GRow} {k : Nat} (h : k < ts.length) : gat ts k ∈ ts := by
  rw [show gat ts k = ts[k] by simp [gat, List.getD, h]]; exact List.getElem_mem h

theorem goodV_of {ts : List GRow} (h2 : ts.length ≤ 60) (h : ∀ k, k < ts.length → stepV ts k = true) : goodV ts = true := by
  simp only [goodV, decide_eq_true h2, Bool.true_and, List.all_eq_true, List.mem_range]; exact h
theorem goodV_parts {ts : List GRow} (h : goodV ts = true) : ts.length ≤ 60 ∧ ∀ k, k < ts.length → stepV ts k = true := by
  simpa only [goodV, Bool.and_eq_true, decide_eq_true_eq, List.all_eq_true, List.mem_range] using h
theorem goodV_len {ts : List GRow} (h : 60 < ts.length) : goodV ts = false := by
  have : decide (ts.length ≤ 60) = false := by simp; omega
  simp [goodV, this]
theorem goodV_not {ts : List GRow} (k : Nat) (hk : k < ts.length) (h : stepV ts k = false) : goodV ts = false := by
  cases hg : goodV ts with
  | false => rfl
  | true => rw [(goodV_parts hg).2 k hk] at h; cases h
theorem stepV_good {ts : List GRow} {k : Nat} (h : stepV ts k = true) : goodG (keyN ts) (gat ts k) = true := by
  simp only [stepV, Bool.and_eq_true] at h; exact h.1
theorem stepV_row {ts : List GRow} {k : Nat} (h : goodG (keyN ts) (gat ts k) = false) : stepV ts k = false := by simp only [stepV, h, Bool.false_and]
theorem stepV_cmp {ts : List GRow} {k : Nat} (h0 : k ≠ 0) (h : ¬ cmp (gat ts (k - 1)).1 (gat ts k).1 < 0) : stepV ts k = false := by
  simp only [stepV, decide_eq_false h0, decide_eq_false h, Bool.or_false, Bool.and_false]
theorem stepV_mk {ts : List GRow} {k : Nat} (h1 : goodG (keyN ts) (gat ts k) = true) (h3 : k = 0 ∨ cmp (gat ts (k - 1)).1 (gat ts k).1 < 0) : stepV ts k = true := by
  rcases h3 with h3 | h3 <;> simp only [stepV, h1, decide_eq_true h3, Bool.true_and, Bool.or_true, Bool.true_or]

/-- All keys are as long as the first one. -/
def oneLen (ts : List GRow) : Bool := ts.all fun g => decide (g.1.length = keyN ts)
theorem oneLen_of {ts : List GRow} (h : ∀ k, k < ts.length → (gat ts k).1.length = keyN ts) : oneLen ts = true := by
  unfold oneLen
  rw [List.all_eq_true]
  intro t ht
  obtain ⟨k, hk, rfl⟩ := List.getElem_of_mem ht
  simpa [gat, List.getD, hk] using h k hk
theorem oneLen_at {ts : List GRow} (h : oneLen ts = true) (k : Nat) (hk : k < ts.length) : (gat ts k).1.length = keyN ts := by
  simpa using List.all_eq_true.1 h _ (gat_mem hk)
theorem oneLen_not {ts : List GRow} (k : Nat) (hk : k < ts.length) (h : (gat ts k).1.length ≠ keyN ts) : oneLen ts = false := by
  cases hg : oneLen ts with
  | false => rfl
  | true => exact absurd (oneLen_at hg k hk) h
theorem goodV_oneLen {ts : List GRow} (h : oneLen ts = false) : goodV ts = false := by
  cases hg : goodV ts with
  | false => rfl
  | true =>
    rw [oneLen_of fun k hk => (goodG_cells (stepV_good ((goodV_parts hg).2 k hk))).2.1] at h
    cases h

end Go.Proofs.Ytlfljfmhhnoinaa
