/- Plain: where reads read from. What is told of it: sources, numbers and a bool. -/
import Derived.Test.YtociphdhkjoofaaSrP
import Derived.Test.YtociphdhkjoofaaSoF
import Derived.Test.YtociphdhkjoofaaIntsR
namespace Go.Proofs.Ytociphdhkjoofaa
open Go.RowKit

def stN (xs : List TStep) (k : Nat) : TStep := xs.getD k (0, 0, 0)
theorem stN_at {xs : List TStep} {k : Nat} {x : TStep} (h : xs[k]? = some x) : stN xs k = x := by
  unfold stN; rw [List.getD_eq_getElem?_getD, h]; rfl
/-- The last write of an item ahead of a place. -/
def lastAt (xs : List TStep) (it : Int) : Nat → Int
  | 0 => -1
  | k + 1 => if (stN xs k).2.1 = 2 ∧ (stN xs k).2.2 = it then (k : Int) else lastAt xs it k
def srcs (xs : List TStep) : Nat → List TSource
  | 0 => []
  | k + 1 => if (stN xs k).2.1 = 1 then srcs xs k ++ [((k : Int), lastAt xs (stN xs k).2.2 k)] else srcs xs k
def lasts (xs : List TStep) (k : Nat) : List Int := [lastAt xs 0 k, lastAt xs 1 k, lastAt xs 2 k, lastAt xs 3 k]
theorem lastAt_yes {xs : List TStep} {k : Nat} {x0 it : Int} (h : xs[k]? = some (x0, 2, it)) : lastAt xs it (k + 1) = (k : Int) := by
  rw [lastAt, stN_at h, if_pos ⟨rfl, rfl⟩]
theorem lastAt_no {xs : List TStep} {k : Nat} {x : TStep} {it : Int} (h : xs[k]? = some x) (hn : ¬ (x.2.1 = 2 ∧ x.2.2 = it)) : lastAt xs it (k + 1) = lastAt xs it k := by
  rw [lastAt, stN_at h, if_neg hn]
theorem srcs_read {xs : List TStep} {k : Nat} {x0 it : Int} (h : xs[k]? = some (x0, 1, it)) : srcs xs (k + 1) = srcs xs k ++ [((k : Int), lastAt xs it k)] := by
  rw [srcs, stN_at h, if_pos rfl]
theorem srcs_write {xs : List TStep} {k : Nat} {x : TStep} (h : xs[k]? = some x) (hn : x.2.1 ≠ 1) : srcs xs (k + 1) = srcs xs k := by
  rw [srcs, stN_at h, if_neg hn]
theorem lasts_read {xs : List TStep} {k : Nat} {x : TStep} (h : xs[k]? = some x) (hn : x.2.1 ≠ 2) : lasts xs (k + 1) = lasts xs k := by
  unfold lasts
  rw [lastAt_no h (fun e => hn e.1), lastAt_no h (fun e => hn e.1), lastAt_no h (fun e => hn e.1), lastAt_no h (fun e => hn e.1)]
theorem lasts_write {xs : List TStep} {k : Nat} {x0 : Int} {j : Nat} (h : xs[k]? = some (x0, 2, (j : Int))) (hj : j < 4) : lasts xs (k + 1) = (lasts xs k).set j (k : Int) := by
  unfold lasts
  match j, hj with
  | 0, _ => rw [lastAt_yes (it := 0) h, lastAt_no (it := 1) h (by simp only; omega), lastAt_no (it := 2) h (by simp only; omega), lastAt_no (it := 3) h (by simp only; omega)]; rfl
  | 1, _ => rw [lastAt_no (it := 0) h (by simp only; omega), lastAt_yes (it := 1) h, lastAt_no (it := 2) h (by simp only; omega), lastAt_no (it := 3) h (by simp only; omega)]; rfl
  | 2, _ => rw [lastAt_no (it := 0) h (by simp only; omega), lastAt_no (it := 1) h (by simp only; omega), lastAt_yes (it := 2) h, lastAt_no (it := 3) h (by simp only; omega)]; rfl
  | 3, _ => rw [lastAt_no (it := 0) h (by simp only; omega), lastAt_no (it := 1) h (by simp only; omega), lastAt_no (it := 2) h (by simp only; omega), lastAt_yes (it := 3) h]; rfl
theorem lasts_get (xs : List TStep) (k j : Nat) (hj : j < 4) : (lasts xs k)[j]? = some (lastAt xs (j : Int) k) := by
  match j, hj with
  | 0, _ => rfl
  | 1, _ => rfl
  | 2, _ => rfl
  | 3, _ => rfl
theorem lastAt_lt (xs : List TStep) (it : Int) : ∀ k, -1 ≤ lastAt xs it k ∧ lastAt xs it k < (k : Int)
  | 0 => by simp [lastAt]
  | k + 1 => by
    have ih := lastAt_lt xs it k
    unfold lastAt
    split <;> omega
theorem srcs_len (xs : List TStep) : ∀ k, (srcs xs k).length ≤ k
  | 0 => by simp [srcs]
  | k + 1 => by
    have ih := srcs_len xs k
    unfold srcs
    split
    · simp; omega
    · omega
def rfA (xs : List TStep) : List TSource := if gpB xs then srcs xs xs.length else []
def rfB (xs : List TStep) : List Int := if gpB xs then lasts xs xs.length else []
theorem rfA_len (xs : List TStep) : (rfA xs).length ≤ 40 := by
  unfold rfA
  split
  · rename_i h; exact Nat.le_trans (srcs_len _ _) (gp_len h)
  · simp
theorem rfB_len (xs : List TStep) : (rfB xs).length ≤ 40 := by
  unfold rfB
  split <;> simp [lasts]
def RfRet (e : Ending) (w' : World) (lo : Nat) (ok : Bool) (ta : List TSource) (tb : List Int) : Prop :=
  ∃ r m d r' m' d' l1 h1 l2 h2, e = .returned (.tuple #[.slice r m d, .slice r' m' d', .bool ok]) ∧ ta.length = m ∧ tb.length = m' ∧ RSources.Own w' (From l1 h1) [.slice r m d] ta ∧ RInts.Own w' (From l2 h2) [.slice r' m' d'] tb ∧
    lo ≤ l1 ∧ l1 ≤ h1 ∧ h1 ≤ w'.heap.size ∧ lo ≤ l2 ∧ l2 ≤ h2 ∧ h2 ≤ w'.heap.size ∧ (h1 ≤ l2 ∨ h2 ≤ l1)
theorem blk_from {w : World} {base : Nat} {e : TypeId} {k : Nat} {v : Value} {n : Nat} {cs : List Value} (h : w.ownsRow base e k v n cs) : (v.ownBlock = none) ∨ ∃ g, v.ownBlock = some g ∧ base ≤ g ∧ g < w.heap.size := by
  cases hv : v.ownBlock with
  | none => exact .inl rfl
  | some g => exact .inr ⟨g, rfl, (h.lt g hv).1, (h.lt g hv).2⟩
theorem RfRet.mk {w' : World} {lo : Nat} {ok : Bool} {ta : List TSource} {tb : List Int} {r r' : Option Addr} {m d m' d' : Nat} (hl : lo ≤ w'.heap.size) (h1 : ta.length = m) (h2 : tb.length = m') (b1 : m ≤ 1048576) (b2 : m' ≤ 1048576)
    (o1 : w'.ownsRow lo 73 2 (.slice r m d) m ((flSource ta).map (.int .i64))) (o2 : w'.ownsRow lo 3 1 (.slice r' m' d') m' (tb.map (.int .i64)))
    (hd : ∀ g, (Value.slice r m d).ownBlock = some g → (Value.slice r' m' d').ownBlock ≠ some g) : RfRet (.returned (.tuple #[.slice r m d, .slice r' m' d', .bool ok])) w' lo ok ta tb := by
  have p1 : ∀ F : Nat → Prop, (∀ b, (Value.slice r m d).ownBlock = some b → F b) → RSources.Own w' F [.slice r m d] ta := fun F hF => flat_own_iff.2 ⟨h1, by omega, owns_mono o1 (Nat.zero_le _), hF⟩
  have p2 : ∀ F : Nat → Prop, (∀ b, (Value.slice r' m' d').ownBlock = some b → F b) → RInts.Own w' F [.slice r' m' d'] tb := fun F hF => RInts.own_iff.2 ⟨h2, by omega, owns_mono o2 (Nat.zero_le _), hF⟩
  rcases blk_from o1 with e1 | ⟨g1, e1, q1, q2⟩
  · rcases blk_from o2 with e2 | ⟨g2, e2, q3, q4⟩
    · exact ⟨r, m, d, r', m', d', lo, lo, lo, lo, rfl, h1, h2, p1 _ (fun b hb => by rw [e1] at hb; cases hb), p2 _ (fun b hb => by rw [e2] at hb; cases hb), by omega, by omega, by omega, by omega, by omega, by omega, by omega⟩
    · exact ⟨r, m, d, r', m', d', lo, lo, g2, g2 + 1, rfl, h1, h2, p1 _ (fun b hb => by rw [e1] at hb; cases hb), p2 _ (fun b hb => by rw [e2] at hb; cases hb; exact ⟨Nat.le_refl _, Nat.lt_succ_self _⟩), by omega, by omega, by omega, by omega, by omega, by omega, by omega⟩
  · rcases blk_from o2 with e2 | ⟨g2, e2, q3, q4⟩
    · exact ⟨r, m, d, r', m', d', g1, g1 + 1, lo, lo, rfl, h1, h2, p1 _ (fun b hb => by rw [e1] at hb; cases hb; exact ⟨Nat.le_refl _, Nat.lt_succ_self _⟩), p2 _ (fun b hb => by rw [e2] at hb; cases hb), by omega, by omega, by omega, by omega, by omega, by omega, by omega⟩
    · have hne : g1 ≠ g2 := fun e => hd g1 e1 (by rw [e2, e])
      exact ⟨r, m, d, r', m', d', g1, g1 + 1, g2, g2 + 1, rfl, h1, h2, p1 _ (fun b hb => by rw [e1] at hb; cases hb; exact ⟨Nat.le_refl _, Nat.lt_succ_self _⟩), p2 _ (fun b hb => by rw [e2] at hb; cases hb; exact ⟨Nat.le_refl _, Nat.lt_succ_self _⟩), by omega, by omega, by omega, by omega, by omega, by omega, by omega⟩
theorem RfRet.no {w' : World} {lo : Nat} {xs : List TStep} (h : gpB xs = false) (hl : lo ≤ w'.heap.size) : RfRet (.returned (.tuple #[.slice none 0 0, .slice none 0 0, .bool false])) w' lo (gpB xs) (rfA xs) (rfB xs) := by
  rw [show rfA xs = [] by unfold rfA; rw [h]; rfl, show rfB xs = [] by unfold rfB; rw [h]; rfl, h]
  exact RfRet.mk hl rfl rfl (by omega) (by omega) (World.ownsRow_nil _ _ _ _) (World.ownsRow_nil _ _ _ _) (fun g hg => by cases hg)

end Go.Proofs.Ytociphdhkjoofaa
