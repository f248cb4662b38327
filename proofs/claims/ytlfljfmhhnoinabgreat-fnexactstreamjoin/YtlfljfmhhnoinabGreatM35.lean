/- Slices of lists of rows that lie outside the slice's own block; sums of lists. -/
import Derived.Test.YtlfljfmhhnoinabGreatM34
namespace Go.Proofs.YtlfljfmhhnoinabGreat
open Go.RowKit

/-- Every block but the slice's own. -/
abbrev NotIn (v : Value) : Nat → Prop := fun k => v.ownBlock ≠ some k
theorem AtMG.appended {w w5 : World} {v : Value} {r : Option Addr} {g H m c : Nat} {a : Option Addr} {ts : List WRow} (h : AtMG (NotIn v) w a ts) (hg : w.grownBy w5 v.ownBlock) (hat : v.ownBlock = some g ∨ g = H) (hH : w.heap.size ≤ H) (hr : r = some ⟨g, 0, none⟩) : AtMG (NotIn (.slice r m c)) w5 a ts := by
  subst hr
  have h1 : AtMG (fun k => NotIn v k ∧ k ≠ g) w a ts := h.mono fun k hk hG => ⟨hG, by
    rcases hat with e | e
    · intro e2; subst e2; exact hG e
    · omega⟩
  have h2 := h1.grown hg (fun k hk hG => hG.1 hk)
  refine h2.mono fun k _ hG e => hG.2 ?_
  have : g = k := by simpa [Value.ownBlock] using e
  exact this.symm
/-- Cells that mean the lists g 0, g 1 .. in blocks of G. -/
def MeansLG (G : Nat → Prop) (w : World) (cs : List Value) (g : Nat → List WRow) (k : Nat) : Prop := cs.length = k ∧ ∀ i, i < k → ∃ a c, cs[i]? = some (.slice a (g i).length c) ∧ AtMG G w a (g i)
theorem MeansLG.nil (G : Nat → Prop) (w : World) (g : Nat → List WRow) : MeansLG G w [] g 0 := ⟨rfl, fun i hi => by omega⟩
theorem MeansLG.below {G : Nat → Prop} {w w' : World} {cs : List Value} {g : Nat → List WRow} {k : Nat} (h : MeansLG G w cs g k) (hb : Below w.heap.size w w') : MeansLG G w' cs g k :=
  ⟨h.1, fun i hi => by obtain ⟨a, c, h1, h2⟩ := h.2 i hi; exact ⟨a, c, h1, h2.below hb⟩⟩
theorem MeansLG.push {G : Nat → Prop} {w : World} {cs : List Value} {f : Nat → List WRow} {k : Nat} (h : MeansLG G w cs f k) {a : Option Addr} {m c : Nat} (hm : (f k).length = m) (ha : AtMG G w a (f k)) : MeansLG G w (cs ++ [.slice a m c]) f (k + 1) := by
  refine ⟨by simp [h.1], fun i hi => ?_⟩
  by_cases e : i = k
  · subst e
    refine ⟨a, c, ?_, ha⟩
    rw [← h.1]; simp [hm, h.1]
  · obtain ⟨a', c', h1, h2⟩ := h.2 i (by omega)
    exact ⟨a', c', by rw [List.getElem?_append_left (by rw [h.1]; omega)]; exact h1, h2⟩
theorem MeansLG.appended {w w5 : World} {v : Value} {r : Option Addr} {g H m c : Nat} {cs : List Value} {f : Nat → List WRow} {k : Nat} (h : MeansLG (NotIn v) w cs f k) (hg : w.grownBy w5 v.ownBlock) (hat : v.ownBlock = some g ∨ g = H) (hH : w.heap.size ≤ H) (hr : r = some ⟨g, 0, none⟩) : MeansLG (NotIn (.slice r m c)) w5 cs f k :=
  ⟨h.1, fun i hi => by obtain ⟨a, c', h1, h2⟩ := h.2 i hi; exact ⟨a, c', h1, h2.appended hg hat hH hr⟩⟩
theorem MeansLG.atL {G : Nat → Prop} {w : World} {cs : List Value} {f : Nat → List WRow} {k lo : Nat} {r : Option Addr} {d : Nat} (h : MeansLG G w cs f k) (ho : w.ownsRow lo 45 1 (.slice r k d) k cs) : AtL w r (upto f k) := by
  rcases ho.2 with ⟨hv, h0⟩ | ⟨g, cap, cur, hv, _⟩
  · left; rw [h0]; rfl
  · simp only [Value.slice.injEq, true_and] at hv
    obtain ⟨rfl, rfl⟩ := hv
    refine .inr ⟨g, 0, rfl, fun i hi => ?_⟩
    rw [upto_length] at hi
    obtain ⟨a', c', h1, h2⟩ := h.2 i hi
    rw [upto_at f k i hi]
    exact ⟨a', c', by rw [Nat.zero_add, ho.cellAt i (by omega)]; exact h1, h2.atM⟩
theorem notIn_fresh {w : World} {lo n d s : Nat} {e : TypeId} {r : Option Addr} {xs : List Value} (ho : w.ownsRow lo e s (.slice r n d) n xs) {W : World} (hW : w.heap.size ≤ W.heap.size) : ∀ k, W.heap.size ≤ k → NotIn (.slice r n d) k := fun k hk e => by
  have := (ho.lt k e).2
  omega
theorem notIn_low {w : World} {lo n d s : Nat} {e : TypeId} {r : Option Addr} {xs : List Value} (ho : w.ownsRow lo e s (.slice r n d) n xs) : ∀ k, k < lo → NotIn (.slice r n d) k := fun k hk e => by
  have := (ho.lt k e).1
  omega
theorem notIn_none : ∀ k : Nat, NotIn (.slice none 0 0) k := fun k e => by simp [Value.ownBlock] at e

end Go.Proofs.YtlfljfmhhnoinabGreat
