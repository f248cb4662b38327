/- Plain: when a query is good for tables. -/
import Derived.Test.YtipgepienagplaaQvP
namespace Go.Proofs.Ytipgepienagplaa
open Go.RowKit

def tabOk (ts : List Int) : Bool := decide (1 ≤ ts.length) && decide (ts.length ≤ 4) && ts.all fun n => decide (1 ≤ n) && decide (n ≤ 3)
/-- An atom is of a table, with as many variables. -/
def atOk (ts : List Int) (a : Atm) : Bool := decide (0 ≤ a.1) && decide (a.1 < ts.length) && decide ((a.2.length : Int) = ts.getD a.1.toNat 0)
def gqB (hs : List Int) (zs : List Atm) (ts : List Int) : Bool :=
  tabOk ts && decide (1 ≤ zs.length) && decide (hs.length ≤ 6) && qvB zs && zs.all (atOk ts) && hs.all fun v => decide (v ∈ bl (vset zs))

theorem tabOk_in {ts : List Int} (h : tabOk ts = true) : ∀ i, i < ts.length → 1 ≤ ts.getD i 0 ∧ ts.getD i 0 ≤ 3 := fun i hi => by
  simp only [tabOk, Bool.and_eq_true, List.all_eq_true, decide_eq_true_eq] at h
  have := h.2 ts[i] (List.getElem_mem hi)
  simpa [List.getD, hi] using this
theorem atOk_len {ts : List Int} {a : Atm} (ht : tabOk ts = true) (h : atOk ts a = true) : a.2.length ≤ 3 := by
  simp only [atOk, Bool.and_eq_true, decide_eq_true_eq] at h
  have := tabOk_in ht a.1.toNat (by omega)
  omega
/-- As the model asks it: atom by atom, that it is of its table, and that its variables are such. -/
theorem gq_model {hs : List Int} {zs : List Atm} {ts : List Int} (ht : tabOk ts = true) (h1 : 1 ≤ zs.length) (h5 : zs.length ≤ 5) (h6 : hs.length ≤ 6) :
    gqB hs zs ts = ((zs.all fun a => atOk ts a && a.2.all vOk) && hs.all fun v => decide (v ∈ bl (vset zs))) := by
  have key : (qvB zs && zs.all (atOk ts)) = zs.all fun a => atOk ts a && a.2.all vOk := by
    cases hx : zs.all fun a => atOk ts a && a.2.all vOk with
    | true =>
      rw [List.all_eq_true] at hx
      have h2 : zs.all (atOk ts) = true := List.all_eq_true.2 fun a ha => (Bool.and_eq_true_iff.1 (hx a ha)).1
      have h3 : zs.all aOk = true := List.all_eq_true.2 fun a ha => by
        obtain ⟨h8, h9⟩ := Bool.and_eq_true_iff.1 (hx a ha)
        have := atOk_len ht h8
        unfold aOk
        rw [h9, decide_eq_true (by omega)]
        rfl
      rw [h2]
      unfold qvB
      rw [h3, decide_eq_true h5]
      rfl
    | false =>
      rw [← Bool.not_eq_true] at hx ⊢
      intro h'
      apply hx
      obtain ⟨h8, h9⟩ := Bool.and_eq_true_iff.1 h'
      rw [List.all_eq_true] at h9 ⊢
      intro a ha
      unfold qvB at h8
      have h7 := List.all_eq_true.1 (Bool.and_eq_true_iff.1 h8).2 a ha
      unfold aOk at h7
      rw [h9 a ha, (Bool.and_eq_true_iff.1 h7).2]
      rfl
  unfold gqB
  rw [ht, decide_eq_true h1, decide_eq_true h6, Bool.and_assoc (true && true && true), key]
  simp
theorem gq_not {hs : List Int} {zs : List Atm} {ts : List Int} (h : tabOk ts = false ∨ ¬ 1 ≤ zs.length ∨ ¬ hs.length ≤ 6 ∨ qvB zs = false ∨ zs.all (atOk ts) = false) : gqB hs zs ts = false := by
  unfold gqB
  rcases h with h | h | h | h | h
  · rw [h]; simp
  · rw [decide_eq_false h]; simp
  · rw [decide_eq_false h]; simp
  · rw [h]; simp
  · rw [h]; simp
theorem gq_yes {hs : List Int} {zs : List Atm} {ts : List Int} (h1 : tabOk ts = true) (h2 : 1 ≤ zs.length) (h3 : hs.length ≤ 6) (h4 : qvB zs = true) (h5 : zs.all (atOk ts) = true) : gqB hs zs ts = hs.all fun v => decide (v ∈ bl (vset zs)) := by
  unfold gqB
  rw [h1, decide_eq_true h2, decide_eq_true h3, h4, h5]
  simp
theorem all_drop_atm {zs : List Atm} {k : Nat} {x : Atm} (f : Atm → Bool) (h : zs[k]? = some x) : (zs.drop k).all f = (f x && (zs.drop (k + 1)).all f) := by
  obtain ⟨h1, h2⟩ := List.getElem?_eq_some_iff.1 h
  rw [List.drop_eq_getElem_cons h1, h2, List.all_cons]
theorem all_drop_int {zs : List Int} {k : Nat} (f : Int → Bool) (h : k < zs.length) : (zs.drop k).all f = (f (zs.getD k 0) && (zs.drop (k + 1)).all f) := by
  rw [List.drop_eq_getElem_cons h, List.all_cons]
  simp [List.getD, h]

end Go.Proofs.Ytipgepienagplaa
