/- Plain: whose later steps clash with a transaction's, as sets. -/
import Derived.Test.YtociphdhkjoofaaDoorSrP
import Derived.Test.YtociphdhkjoofaaDoorColP
namespace Go.Proofs.YtociphdhkjoofaaDoor
open Go.RowKit

def cfS (x y : TStep) (cs : List Nat) : List Nat := if clB x y then cs.set x.1.toNat (cs.getD x.1.toNat 0 ||| 2 ^ y.1.toNat) else cs
def cfI (x : TStep) (l : List TStep) (cs : List Nat) : List Nat := l.foldl (fun cs y => cfS x y cs) cs
def cfO (xs : List TStep) : Nat → List Nat
  | 0 => List.replicate 6 0
  | k + 1 => cfI (xs.getD k (0, 0, 0)) (xs.drop (k + 1)) (cfO xs k)
def cfL (xs : List TStep) : List Nat := cfO xs xs.length
def Six (cs : List Nat) : Prop := cs.length = 6 ∧ ∀ c ∈ cs, c < 64
theorem Six.get {cs : List Nat} (h : Six cs) (t : Nat) : cs.getD t 0 < 64 := by
  rw [List.getD_eq_getElem?_getD]
  cases hc : cs[t]? with
  | none => simp
  | some c => exact h.2 c (List.mem_of_getElem? hc)
theorem Six.set {cs : List Nat} (h : Six cs) (t : Nat) {c : Nat} (hc : c < 64) : Six (cs.set t c) := by
  refine ⟨by simp [h.1], fun x hx => ?_⟩
  rcases List.mem_or_eq_of_mem_set hx with h1 | h1
  · exact h.2 x h1
  · rw [h1]; exact hc
theorem pow_lt64 {y : Int} (h : y < 6) : 2 ^ y.toNat < 64 := by
  have h6 : y.toNat < 6 := by omega
  calc 2 ^ y.toNat ≤ 2 ^ 5 := Nat.pow_le_pow_right (by omega) (by omega)
    _ < 64 := by decide
theorem cfS_six {x y : TStep} {cs : List Nat} (h : Six cs) (hy : y.1 < 6) : Six (cfS x y cs) := by
  unfold cfS
  split
  · exact h.set _ (or_lt64 (h.get _) (pow_lt64 hy))
  · exact h
theorem cfI_six {x : TStep} : ∀ (l : List TStep) (cs : List Nat), (∀ y ∈ l, y.1 < 6) → Six cs → Six (cfI x l cs)
  | [], _, _, h => h
  | y :: l, cs, hl, h => cfI_six l (cfS x y cs) (fun z hz => hl z (List.mem_cons_of_mem _ hz)) (cfS_six h (hl y (List.mem_cons_self ..)))
theorem cfI_take {x : TStep} {l : List TStep} {cs : List Nat} {j : Nat} {y : TStep} (h : l[j]? = some y) : cfI x (l.take (j + 1)) cs = cfS x y (cfI x (l.take j) cs) := by
  obtain ⟨hj, rfl⟩ := List.getElem?_eq_some_iff.1 h
  unfold cfI
  rw [List.take_succ_eq_append_getElem hj, List.foldl_append]; rfl
theorem cfO_six {xs : List TStep} (h : ∀ y ∈ xs, y.1 < 6) : ∀ k, Six (cfO xs k)
  | 0 => ⟨by simp [cfO], fun c hc => by simp [cfO] at hc; omega⟩
  | k + 1 => cfI_six _ _ (fun y hy => h y (List.mem_of_mem_drop hy)) (cfO_six h k)
theorem cfO_succ {xs : List TStep} {k : Nat} {x : TStep} (h : xs[k]? = some x) : cfO xs (k + 1) = cfI x (xs.drop (k + 1)) (cfO xs k) := by
  rw [cfO, List.getD_eq_getElem?_getD, h]; rfl
theorem gp_txn {xs : List TStep} (h : gpB xs = true) : ∀ y ∈ xs, 0 ≤ y.1 ∧ y.1 < 6 := fun y hy => by
  simp only [gpB, Bool.and_eq_true, List.all_eq_true] at h
  have := stOk_iff.1 (h.2 y hy)
  exact ⟨this.1, this.2.1⟩
theorem cfI_take_six {xs : List TStep} (h : gpB xs = true) {k : Nat} (x : TStep) (j : Nat) : Six (cfI x ((xs.drop (k + 1)).take j) (cfO xs k)) :=
  cfI_six _ _ (fun y hy => (gp_txn h y (List.mem_of_mem_drop (List.mem_of_mem_take hy))).2) (cfO_six (fun y hy => (gp_txn h y hy).2) k)
def cnL13 (xs : List TStep) : List (List Int) := if gpB xs then (cfL xs).map bl else []

end Go.Proofs.YtociphdhkjoofaaDoor
