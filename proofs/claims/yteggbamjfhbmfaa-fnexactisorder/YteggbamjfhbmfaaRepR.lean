/- Rows of a slice, one by one: a slice that is cut and grown at its end. -/
import Derived.Test.YteggbamjfhbmfaaRepP
namespace Go.Proofs.Yteggbamjfhbmfaa
open Go.RowKit

structure RowsOf {α : Type} (A : Rep α) (w : World) (F : Nat → Prop) (ob : Option Nat) (n : Nat) (xs : List α) (cells : List Value) (G : Nat → Nat → Prop) : Prop where
  len : xs.length = n
  clen : cells.length = n * A.k
  row : ∀ i x, i < n → xs[i]? = some x → A.Own w (G i) (sub cells (i * A.k) A.k) x
  rowF : ∀ i b, i < n → G i b → F b ∧ ob ≠ some b
  apart : ∀ i j b, i < n → j < n → i ≠ j → G i b → ¬ G j b

section
variable {α : Type} {A : Rep α} {w w' : World} {F F' H : Nat → Prop} {e : TypeId} {a : Option Addr} {n m c : Nat} {xs : List α} {cells vs : List Value} {G : Nat → Nat → Prop} {x : α} {ob ob' : Option Nat}

theorem sub_take {cells : List Value} {o k m : Nat} (h : o + k ≤ m) : sub (cells.take m) o k = sub cells o k := by
  unfold sub
  rw [List.drop_take, List.take_take, Nat.min_eq_left (by omega)]

theorem RowsOf.of (h : Laid A w F e a n c xs cells G n) (hm : m ≤ n) : RowsOf A w F (Value.slice a n c).ownBlock m (xs.take m) (cells.take (m * A.k)) G where
  len := by rw [List.length_take, h.len]; omega
  clen := by
    have h1 : cells.length = n * A.k := h.outer.1
    have h2 := Nat.mul_le_mul_right A.k hm
    rw [List.length_take, h1]; omega
  row := fun i x hi hx => by
    rw [List.getElem?_take, if_pos hi] at hx
    rw [sub_take (at_mul hi)]
    exact h.row i x (by omega) hx
  rowF := fun i b hi hb => h.rowF i b (by omega) hb
  apart := fun i j b hi hj hij => h.apart i j b (by omega) (by omega) hij

theorem RowsOf.to (h : RowsOf A w F ob n xs cells G) (hf : ∀ i b, i < n → G i b → b < w.heap.size → w'.heap[b]? = w.heap[b]?) (hF : ∀ i b, i < n → G i b → F' b ∧ ob' ≠ some b) : RowsOf A w' F' ob' n xs cells G where
  len := h.len
  clen := h.clen
  row := fun i x hi hx => A.frame (h.row i x hi hx) (fun b h1 h2 => hf i b hi h1 h2)
  rowF := hF
  apart := h.apart

theorem RowsOf.add (h : RowsOf A w F ob n xs cells G) (ho : A.Own w H vs x) (hH : ∀ b, H b → F b ∧ ob ≠ some b) (hd : ∀ i b, i < n → G i b → ¬ H b) : RowsOf A w F ob (n + 1) (xs ++ [x]) (cells ++ vs) (fun i => if i = n then H else G i) where
  len := by simp [h.len]
  clen := by rw [List.length_append, h.clen, A.ownLen ho, Nat.succ_mul]
  row := fun i y hi hy => by
    by_cases ei : i = n
    · subst ei
      simp only [if_true]
      obtain rfl : x = y := by
        rw [List.getElem?_append_right (by rw [h.len]; exact Nat.le_refl _)] at hy
        simpa [h.len] using hy
      have := sub_append_right (cells := cells) (A.ownLen ho)
      rw [h.clen] at this
      rw [this]
      exact ho
    · simp only [if_neg ei]
      have hi' : i < n := by omega
      rw [List.getElem?_append_left (by rw [h.len]; exact hi')] at hy
      rw [sub_append_left (by rw [h.clen]; exact at_mul hi')]
      exact h.row i y hi' hy
  rowF := fun i b hi hb => by
    by_cases ei : i = n
    · simp only [if_pos ei] at hb; exact hH b hb
    · simp only [if_neg ei] at hb; exact h.rowF i b (by omega) hb
  apart := fun i j b hi hj hij hb => by
    by_cases ei : i = n
    · simp only [if_pos ei] at hb
      rw [if_neg (by omega)]
      exact fun hj' => hd j b (by omega) hj' hb
    · simp only [if_neg ei] at hb
      by_cases ej : j = n
      · rw [if_pos ej]
        exact hd i b (by omega) hb
      · rw [if_neg ej]
        exact h.apart i j b (by omega) (by omega) hij hb

theorem RowsOf.laid (h : RowsOf A w F (Value.slice a n c).ownBlock n xs cells G) (hbig : n ≤ 9223372036854775807) (ho : w.ownsRow 0 e A.k (.slice a n c) n cells) (hF : ∀ b, (Value.slice a n c).ownBlock = some b → F b) : Laid A w F e a n c xs cells G n :=
  ⟨h.len, hbig, ho, hF, h.row, h.rowF, h.apart⟩

theorem owns_take {base : Nat} {size : Nat} {g : Nat} {ys : List Value} (h : w.ownsRow base e size (.slice (some ⟨g, 0, none⟩) n c) n ys) (hm : m ≤ n) : w.ownsRow base e size (.slice (some ⟨g, 0, none⟩) m c) m (ys.take (m * size)) := by
  have h2 := Nat.mul_le_mul_right size hm
  refine ⟨by rw [List.length_take, h.1]; omega, ?_⟩
  rcases h.2 with ⟨h0, _⟩ | ⟨g', cap, cur, e1, e2, e3, e4, e5, e6, e7⟩
  · cases h0
  · simp only [Value.slice.injEq, Option.some.injEq, Addr.mk.injEq, and_true, true_and] at e1
    obtain ⟨rfl, rfl⟩ := e1
    refine .inr ⟨g, c, cur, rfl, e2, e3, by omega, e5, e6, ?_⟩
    rw [← e7, List.take_take, Nat.min_eq_left h2]
end

end Go.Proofs.Yteggbamjfhbmfaa
