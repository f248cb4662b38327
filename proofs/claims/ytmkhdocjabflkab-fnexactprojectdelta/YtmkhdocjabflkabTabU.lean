/- Plain facts on tables that are good, and on a result's variable behind 'return f(..)'. -/
import Derived.Test.YtmkhdocjabflkabLawG
import Derived.Test.YtmkhdocjabflkabL2Tell
namespace Go.Proofs.Ytmkhdocjabflkab
open Go.RowKit

theorem OwnWk.stored {w : World} {lo hi R : Nat} {te ti : TypeId} {a : Option Addr} {n c : Nat} {ts : List WRow} {cells : List Value} {lo' : Nat} (h : OwnW w lo hi te ti a n c ts cells) (hR : R < lo) (hlo : lo' ≤ lo) (u v : Value) :
    OwnW ((w.setCell ⟨R, 0, none⟩ u).setCell ⟨R, 1, none⟩ v) lo' ((w.setCell ⟨R, 0, none⟩ u).setCell ⟨R, 1, none⟩ v).heap.size te ti a n c ts cells :=
  ((h.setCell (a0 := ⟨R, 0, none⟩) (.inl hR) u).setCell (a0 := ⟨R, 1, none⟩) (.inl hR) v).widen hlo (by have := h.top; simp [World.setCell]; omega) (Nat.le_refl _)
theorem alloc_keeps {w : World} {a : Addr} {v : Value} (h : w.cell? a = some v) (o : Obj) : (w.alloc o).cell? a = some v := cell_later ((Below.refl _ _).alloc (Nat.le_refl _) o) h
theorem goodT_noZero {p : Int} {ts : List WRow} (h : goodT p ts = true) : NoZero ts := fun t ht => by
  obtain ⟨k, hk, rfl⟩ := List.getElem_of_mem ht
  have := (goodT_parts h).2.2 k hk
  simp only [stepB, Bool.and_eq_true, Bool.not_eq_true', decide_eq_false_iff_not] at this
  have e : wat ts k = ts[k] := by simp [wat, List.getD, hk]
  rw [e] at this
  exact this.2.1
theorem goodT_len60 {p : Int} {ts : List WRow} (h : goodT p ts = true) : ts.length ≤ 60 := (goodT_parts h).2.1
theorem goodT_cells {p : Int} {ts : List WRow} (h : goodT p ts = true) (k : Nat) (hk : k < ts.length) : good (wat ts k).1 = true ∧ -1000000 ≤ (wat ts k).2 ∧ (wat ts k).2 ≤ 1000000 := by
  have := goodW_cells (goodL_at (goodL_of_goodT h) k hk)
  exact ⟨this.1, this.2.2⟩
theorem goodT_mem {q : Nat} {ts : List WRow} (h : goodT q ts = true) : ∀ t ∈ ts, good t.1 = true ∧ t.1.length = q := fun t ht => by
  have := goodL_mem (goodL_of_goodT h) t ht
  exact ⟨this.1, by omega⟩
theorem goodT_six {p : Int} {ts : List WRow} (h : goodT p ts = true) : ∀ t ∈ ts, t.1.length ≤ 6 ∧ -1000000 ≤ t.2 ∧ t.2 ≤ 1000000 := fun t ht => by
  have := goodL_mem (goodL_of_goodT h) t ht
  exact ⟨good_len this.1, this.2.2⟩
theorem at_of_mem {ts : List WRow} {Q : WRow → Prop} (h : ∀ t ∈ ts, Q t) (k : Nat) (hk : k < ts.length) : Q (wat ts k) := h _ (wat_mem hk)

/-- A rising list that has no zeros tells its own weights. -/
theorem tells_self {q : Nat} {us : List WRow} (hr : Rises us) (hn : NoZero us) (hrow : ∀ t ∈ us, good t.1 = true ∧ t.1.length = q) : Tells q (sumAt us us.length 1) us :=
  ⟨hr, hn, hrow, fun zs h1 _ => by rw [sumAt_sumW rfl 1 (fun t ht => (hrow t ht).1) h1, sumW_rises hr]; omega⟩
/-- Some of its rows, the rows as they are, rise. -/
theorem rises_some {g : WRow → Option WRow} (hg : ∀ t s, g t = some s → s.1 = t.1) {ts : List WRow} (h : Rises ts) : Rises (ts.filterMap g) := by
  unfold Rises at *
  rw [List.pairwise_filterMap]
  exact h.imp fun {a b} hab s hs t ht => by rw [hg a s hs, hg b t ht]; exact hab
theorem some_mem {g : WRow → Option WRow} {ts : List WRow} {t : WRow} (h : t ∈ ts.filterMap g) : ∃ s ∈ ts, g s = some t := List.mem_filterMap.1 h

end Go.Proofs.Ytmkhdocjabflkab
