/- Plain: a number put to its place in a rising list, as sets of columns tell it. -/
import Derived.Test.YtociphdhkjoofaaDoorCloI
namespace Go.Proofs.YtociphdhkjoofaaDoor
open Go.RowKit

/-- A number put to its place, once: ahead of the first that is not less. -/
def lessN (n : Int) : List Int → Nat
  | [] => 0
  | z :: zs => if z < n then lessN n zs + 1 else 0
def insI (l : List Int) (n : Int) : List Int := if n ∈ l then l else l.take (lessN n l) ++ n :: l.drop (lessN n l)
theorem lessN_le (n : Int) : ∀ l, lessN n l ≤ l.length
  | [] => Nat.le_refl _
  | z :: zs => by unfold lessN; split; have := lessN_le n zs; simp; omega; simp
theorem lessN_is (n : Int) : ∀ (l : List Int) (k : Nat), k ≤ l.length → (∀ j, j < k → l.getD j 0 < n) → (k < l.length → ¬ l.getD k 0 < n) → lessN n l = k
  | [], k, h, _, _ => by simp at h; simp [lessN, h]
  | z :: zs, 0, _, _, h => by have := h (by simp); simp at this; unfold lessN; rw [if_neg (by omega)]
  | z :: zs, k + 1, h1, h2, h3 => by
    have h0 := h2 0 (by omega)
    simp at h0
    unfold lessN
    rw [if_pos h0, lessN_is n zs k (by simpa using h1) (fun j hj => by simpa using h2 (j + 1) (by omega)) (fun hk => by simpa using h3 (by simpa using hk))]
theorem insI_yes {l : List Int} {n : Int} (h : n ∈ l) : insI l n = l := if_pos h
theorem insI_no {l : List Int} {n : Int} (h : ¬ n ∈ l) : insI l n = l.take (lessN n l) ++ n :: l.drop (lessN n l) := if_neg h
theorem insI_bl_all : ∀ s : Nat, s < 64 → ∀ n : Nat, n < 6 → insI (bl s) (n : Int) = bl (s ||| 2 ^ n) := by decide +kernel
theorem insI_bl {s : Nat} {n : Int} (hs : s < 64) (h0 : 0 ≤ n) (h1 : n < 6) : insI (bl s) n = bl (s ||| 2 ^ n.toNat) := by
  have := insI_bl_all s hs n.toNat (by omega)
  rw [Int.toNat_of_nonneg h0] at this
  exact this
theorem len_bl_all : ∀ s : Nat, s < 64 → ∀ t : Nat, t < 64 → sb s t = true → (bl t).length = (bl s).length → t = s := by decide +kernel
theorem all_bl {D T : Nat} (hD : D < 64) : (bl D).all (fun k => decide (k ∈ bl T)) = sb D T := by
  cases h : sb D T with
  | true =>
    rw [List.all_eq_true]
    intro k hk
    obtain ⟨i, h1, h2, rfl⟩ := mem_bl.1 hk
    exact decide_eq_true (mem_bl.2 ⟨i, h1, sb_bit h i h2, rfl⟩)
  | false =>
    rw [← Bool.not_eq_true]
    intro h'
    rw [List.all_eq_true] at h'
    have : sb D T = true := sb_of_bits fun i hi => by
      have hi6 : i < 6 := by
        by_cases h6 : i < 6
        · exact h6
        · rw [Nat.testBit_lt_two_pow (Nat.lt_of_lt_of_le hD (by have : 2 ^ 6 ≤ 2 ^ i := Nat.pow_le_pow_right (by omega) (by omega); omega))] at hi; cases hi
      have h9 := of_decide_eq_true (h' (i : Int) (mem_bl.2 ⟨i, hi6, hi, rfl⟩))
      obtain ⟨j, _, h4, h5⟩ := mem_bl.1 h9
      obtain rfl : i = j := by omega
      exact h4
    rw [h] at this; cases this
/-- Putting all of a list, one by one. -/
theorem mk_or (l : List Int) (s : Nat) : l.foldl (fun s k => s ||| 2 ^ k.toNat) s = s ||| mk l := by
  apply Nat.eq_of_testBit_eq
  have key : ∀ (l : List Int) (s i : Nat), (l.foldl (fun s k => s ||| 2 ^ k.toNat) s).testBit i = (s.testBit i || (l.foldl (fun (s : Nat) (k : Int) => s ||| 2 ^ k.toNat) 0).testBit i) := by
    intro l
    induction l with
    | nil => intro s i; simp
    | cons x l ih => intro s i; rw [List.foldl_cons, List.foldl_cons, ih, ih (0 ||| _), Nat.testBit_or, Nat.testBit_or]; simp [Bool.or_assoc]
  intro i
  rw [key, Nat.testBit_or]
  rfl

end Go.Proofs.YtociphdhkjoofaaDoor
