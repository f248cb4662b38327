/- A question's core in memory: an atom left out in its own block; another question put in the variable. -/
import Derived.Test.YtociphdhkjoofaaM23
import Derived.Test.YtociphdhkjoofaaM13
namespace Go.Proofs.Ytociphdhkjoofaa
open Go.RowKit

section
variable {w w' : World} {P B : Nat} {hs hs' : List Int} {r r' rn r2 : Option Addr} {fn d m d' dn k fn2 d2 : Nat} {zs zs' : List Atm}
theorem CVar.set2 (h : CVar w P B hs r fn d zs r' m d') (ho : RQry.Own w (Bk B P w) [.slice r2 fn2 d2, .slice rn k dn] (hs', zs')) : CVar ((w.setCell ⟨P, 0, none⟩ (.slice r2 fn2 d2)).setCell ⟨P, 1, none⟩ (.slice rn k dn)) P B hs' r2 fn2 d2 zs' rn k dn := by
  refine ⟨blk_set (blk_set h.blk 0 _) 1 _, RQry.mono (RQry.frame ho (fun b hb _ => ?_)) (fun b hb => ⟨hb.1, by simpa [World.setCell] using hb.2.1, hb.2.2⟩), h.lt⟩
  rw [Below.heap_setCell _ _ _ b (by simpa using hb.2.2), Below.heap_setCell _ _ _ b (by simpa using hb.2.2)]
theorem CVar.cutIn {g : Nat} (h : CVar w P B hs r fn d zs (some ⟨g, 0, none⟩) m d') : zs.length = m ∧ ∃ cells, w.ownsRow B 58 2 (.slice (some ⟨g, 0, none⟩) m d') m cells ∧ (∀ u ∈ cells, u.oneCell' = true) ∧ ∀ (i : Nat) (w' : World) (rn : Option Addr) (dn : Nat), i < m → w.grownBy w' (some g) →
    w'.ownsRow B 58 2 (.slice rn (m - 1) dn) (m - 1) (cutC cells 2 i) → ((Value.slice rn (m - 1) dn).ownBlock = some g ∨ (Value.slice rn (m - 1) dn).ownBlock = some w.heap.size) → RQry.Own w' (Bk B P w') [.slice r fn d, .slice rn (m - 1) dn] (hs, zs.eraseIdx i) := by
  have hP := h.size
  obtain ⟨_, _, cells0, hc0, hone0, _⟩ := h.cut
  obtain ⟨F1, F2, h1, h2, f1, f2, d12⟩ := RQry.own_open (RQry.tight h.own)
  obtain ⟨a', n', c', cells, G, he, hl⟩ := h2
  simp only [List.cons.injEq, Value.slice.injEq, and_true] at he
  obtain ⟨rfl, rfl, rfl⟩ := he
  have hgF : F2 g := hl.outerF g rfl
  have hgB := f2 g hgF
  have hcc : cells = cells0 := by
    have e1 := hl.outer
    apply List.ext_getElem?
    intro j
    by_cases hj : j < m * 2
    · have c1 := e1.cellAt j hj
      have c2 := hc0.cellAt j hj
      exact c1.symm.trans c2
    · rw [List.getElem?_eq_none (by rw [e1.1]; show m * 2 ≤ j; omega), List.getElem?_eq_none (by rw [hc0.1]; omega)]
  refine ⟨hl.len, cells, owns_base hl.outer (fun b hb => (f2 b (hl.outerF b hb)).1.1), by rw [hcc]; exact hone0, fun i w' rn dn hi hg ho ht => ?_⟩
  have hne : ∀ b, F2 b ∨ F1 b → b < w.heap.size := fun b hb => by rcases hb with h9 | h9; exact (f2 b h9).2; exact (f1 b h9).2
  have hw := Laid.without (F' := fun b => F2 b ∨ (Value.slice rn (m - 1) dn).ownBlock = some b) (w' := w') (a' := rn) (c' := dn) hl hi (fun j b hj _ hG hb9 => hg.block b hb9 (fun e => (hl.rowF j b hj hG).2 (by simpa [Value.ownBlock] using e.symm))) (owns_mono ho (Nat.zero_le _)) (fun b hb9 => .inr hb9)
    (fun j b hj hG => ⟨.inl (hl.rowF j b hj hG).1, fun e => by
      have h1 := hl.rowF j b hj hG
      rcases ht with h9 | h9
      · rw [h9] at e; exact h1.2 (by simpa [Value.ownBlock] using e)
      · rw [h9] at e
        have := hne b (.inl h1.1)
        simp only [Option.some.injEq] at e
        omega⟩)
  refine RQry.own_mk (F1 := F1) (F2 := fun b => F2 b ∨ (Value.slice rn (m - 1) dn).ownBlock = some b) (RInts.frame h1 (fun b hb9 hlt => hg.block b hlt (fun e => d12 b hb9 (by simp only [Option.some.injEq] at e; rw [e]; exact hgF)))) ⟨_, _, _, _, _, rfl, hw⟩ (fun b hb9 => (f1 b hb9).1.grow hg.size) (fun b hb9 => ?_) (fun b hb9 hb8 => ?_)
  · rcases hb9 with h9 | h9
    · exact (f2 b h9).1.grow hg.size
    · have h8 := ho.lt b h9
      refine ⟨h8.1, h8.2, ?_⟩
      rcases ht with h7 | h7
      · rw [h7] at h9
        simp only [Option.some.injEq] at h9
        rw [← h9]; exact hgB.1.2.2
      · rw [h7] at h9
        simp only [Option.some.injEq] at h9
        omega
  · rcases hb8 with h9 | h9
    · exact d12 b hb9 h9
    · rcases ht with h7 | h7
      · rw [h7] at h9
        simp only [Option.some.injEq] at h9
        exact d12 b hb9 (by rw [← h9]; exact hgF)
      · rw [h7] at h9
        simp only [Option.some.injEq] at h9
        have := (f1 b hb9).2
        omega
end

end Go.Proofs.Ytociphdhkjoofaa
