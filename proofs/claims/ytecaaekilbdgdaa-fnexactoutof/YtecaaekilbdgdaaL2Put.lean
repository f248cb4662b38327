/- Contract of spec.l2Put. -/
import Derived.Test.YtecaaekilbdgdaaL2Own
import Derived.Test.YtecaaekilbdgdaaTableH
import Derived.Test.YtecaaekilbdgdaaCompare
import Derived.Test.YtecaaekilbdgdaaPlainP
import Derived.Deep.AppendLies
namespace Go.Proofs.Ytecaaekilbdgdaa
open Go.RowKit

theorem atM_cells {w : World} {b off : Nat} {ts : List WRow} (h : AtM w (some ⟨b, off, none⟩) ts) : ∃ cs, Means w cs ts ∧ ∀ j u, cs[j]? = some u → w.cell? ⟨b, off + j, none⟩ = some u := by
  rcases h with rfl | ⟨b', off', cs, he, hm, hc⟩
  · exact ⟨[], trivial, fun j u h => by simp at h⟩
  · simp only [Option.some.injEq, Addr.mk.injEq, and_true] at he
    obtain ⟨rfl, rfl⟩ := he
    exact ⟨cs, hm, hc⟩
theorem take_cells {cs : List Value} {w : World} {b off : Nat} (hc : ∀ j u, cs[j]? = some u → w.cell? ⟨b, off + j, none⟩ = some u) (k : Nat) : ∀ j u, (cs.take k)[j]? = some u → w.cell? ((⟨b, off, none⟩ : Addr).add j) = some u := fun j u hj => by
  rw [Addr.add_lit]
  refine hc j u ?_
  rw [List.getElem?_take] at hj
  split at hj
  · exact hj
  · cases hj
theorem drop_cells {cs : List Value} {w : World} {b off : Nat} (hc : ∀ j u, cs[j]? = some u → w.cell? ⟨b, off + j, none⟩ = some u) (k : Nat) : ∀ j u, (cs.drop k)[j]? = some u → w.cell? ((⟨b, off + k, none⟩ : Addr).add j) = some u := fun j u hj => by
  rw [Addr.add_lit]
  rw [List.getElem?_drop] at hj
  rw [show off + k + j = off + (k + j) by omega]
  exact hc _ _ hj
theorem owns_cap {w : World} {base : Nat} {e : TypeId} {size : Nat} {a : Option Addr} {n c : Nat} {xs : List Value} (h : w.ownsRow base e size (.slice a n c) n xs) : n ≤ c := by
  rcases h.2 with ⟨h', h0⟩ | ⟨g, cap, cur, h', _, _, h1, _⟩
  · simp at h'; omega
  · simp at h'; omega
/-- A slice's head as Go makes them. -/
def Formed (a : Option Addr) (n c : Nat) : Prop := n ≤ c ∧ (a = none → c = 0) ∧ ∀ ad, a = some ad → ∃ b off, ad = ⟨b, off, none⟩
theorem Formed.nil : Formed none 0 0 := ⟨Nat.le_refl _, fun _ => rfl, fun _ h => by cases h⟩
theorem Formed.some {b off n c : Nat} (h : n ≤ c) : Formed (Option.some ⟨b, off, none⟩) n c := ⟨h, fun h => (by cases h), fun ad h => ⟨b, off, by cases h; rfl⟩⟩
theorem owns_formed {w : World} {base : Nat} {e : TypeId} {size : Nat} {a : Option Addr} {n c : Nat} {xs : List Value} (h : w.ownsRow base e size (.slice a n c) n xs) : Formed a n c := by
  rcases h.2 with ⟨h', h0⟩ | ⟨g, cap, cur, h', _, _, h1, _⟩
  · simp at h'
    obtain ⟨rfl, rfl, rfl⟩ := h'
    exact Formed.nil
  · simp at h'
    obtain ⟨rfl, rfl⟩ := h'
    exact Formed.some h1
theorem oneW_no {zs : List Int} {x : Int} (h : x = 0) : oneW zs x = [] := if_pos h
theorem oneW_yes {zs : List Int} {x : Int} (h : x ≠ 0) : oneW zs x = [(zs, x)] := if_neg h

end Go.Proofs.Ytecaaekilbdgdaa
