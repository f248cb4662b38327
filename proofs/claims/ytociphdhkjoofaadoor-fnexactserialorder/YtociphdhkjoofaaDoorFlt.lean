/- Things of so many numbers each, one behind the other, and slices of them. No Go function is spoken of here. -/
import Derived.Test.YtociphdhkjoofaaDoorMkL
namespace Go.Proofs.YtociphdhkjoofaaDoor
open Go.RowKit

/-- A thing of k numbers. -/
def Rep.flat {α : Type} (k : Nat) (en : α → List Int) (hk : ∀ x, (en x).length = k) : Rep α where
  k := k
  At _ cs x := cs = (en x).map (.int .i64)
  Own _ _ cs x := cs = (en x).map (.int .i64)
  len h := by rw [h, List.length_map, hk]
  below h _ := h
  toAt h := h
  mono h _ := h
  frame h _ := h
  tight h := h
def flatF {α : Type} (en : α → List Int) (xs : List α) : List Int := xs.flatMap en

section
variable {α : Type} {k : Nat} {en : α → List Int}
theorem flatF_len (hk : ∀ x, (en x).length = k) : ∀ xs : List α, (flatF en xs).length = xs.length * k
  | [] => by simp [flatF]
  | x :: xs => by
    have ih := flatF_len hk xs
    unfold flatF at *
    rw [List.flatMap_cons, List.length_append, ih, hk, List.length_cons, Nat.succ_mul]; omega
theorem flatF_get (hk : ∀ x, (en x).length = k) : ∀ (xs : List α) (i j : Nat) (x : α), xs[i]? = some x → j < k → (flatF en xs)[i * k + j]? = (en x)[j]?
  | [], i, j, x, h, _ => by simp at h
  | y :: ys, 0, j, x, h, hj => by
    obtain rfl : y = x := by simpa using h
    unfold flatF
    rw [List.flatMap_cons, Nat.zero_mul, Nat.zero_add, List.getElem?_append_left (by rw [hk]; exact hj)]
  | y :: ys, i + 1, j, x, h, hj => by
    have ih := flatF_get hk ys i j x (by simpa using h) hj
    unfold flatF at *
    rw [List.flatMap_cons, List.getElem?_append_right (by rw [hk, Nat.succ_mul]; omega), hk, ← ih]
    congr 1
    rw [Nat.succ_mul]; omega
theorem flatF_getD (hk : ∀ x, (en x).length = k) {xs : List α} {i j : Nat} {x : α} (h : xs[i]? = some x) (hj : j < k) : (flatF en xs).getD (i * k + j) 0 = (en x).getD j 0 := by
  rw [List.getD_eq_getElem?_getD, flatF_get hk xs i j x h hj, ← List.getD_eq_getElem?_getD]
theorem flatF_snoc (xs : List α) (x : α) : flatF en (xs ++ [x]) = flatF en xs ++ en x := by simp [flatF]

theorem flat_sub (hk : ∀ x, (en x).length = k) : ∀ (xs : List α) (i : Nat) (x : α), xs[i]? = some x → sub ((flatF en xs).map (Value.int .i64)) (i * k) k = (en x).map (.int .i64) := by
  intro xs i x hx
  have hi := (List.getElem?_eq_some_iff.1 hx).1
  have hle : i * k + k ≤ xs.length * k := by
    have := Nat.mul_le_mul_right k hi
    rw [Nat.succ_mul] at this
    exact this
  apply List.ext_getElem?
  intro j
  by_cases hj : j < k
  · rw [sub_at hj, List.getElem?_map, List.getElem?_map, flatF_get hk xs i j x hx hj]
  · rw [List.getElem?_eq_none (by rw [sub_len (by rw [List.length_map, flatF_len hk]; exact hle)]; omega), List.getElem?_eq_none (by rw [List.length_map, hk]; omega)]
theorem cells_flat (hk : ∀ x, (en x).length = k) : ∀ (xs : List α) (cells : List Value), cells.length = xs.length * k → (∀ i x, xs[i]? = some x → sub cells (i * k) k = (en x).map (.int .i64)) → cells = (flatF en xs).map (.int .i64)
  | [], cells, h, _ => by
    have : cells = [] := List.eq_nil_of_length_eq_zero (by simpa using h)
    rw [this]; rfl
  | x :: xs, cells, h, hr => by
    rw [List.length_cons, Nat.succ_mul] at h
    have h0 := hr 0 x rfl
    have e0 : sub cells (0 * k) k = cells.take k := by simp [sub]
    rw [e0] at h0
    have ih := cells_flat hk xs (cells.drop k) (by rw [List.length_drop]; omega) (fun i y hy => by
      have := hr (i + 1) y (by simpa using hy)
      rw [← this]
      unfold sub
      rw [List.drop_drop, Nat.succ_mul, Nat.add_comm k])
    rw [← List.take_append_drop k cells, h0, ih]
    simp [flatF]
theorem flat_own_iff {hk : ∀ x, (en x).length = k} {e : TypeId} {w : World} {F : Nat → Prop} {a : Option Addr} {n c : Nat} {xs : List α} :
    (Rep.slice e (Rep.flat k en hk)).Own w F [.slice a n c] xs ↔ xs.length = n ∧ n ≤ 9223372036854775807 ∧ w.ownsRow 0 e k (.slice a n c) n ((flatF en xs).map (.int .i64)) ∧ ∀ b, (Value.slice a n c).ownBlock = some b → F b := by
  constructor
  · rintro ⟨a', n', c', cells, G, e, h⟩
    simp only [List.cons.injEq, Value.slice.injEq, and_true] at e
    obtain ⟨rfl, rfl, rfl⟩ := e
    have hc : cells = (flatF en xs).map (.int .i64) := by
      refine cells_flat hk xs cells ?_ (fun i x hx => ?_)
      · have h9 := h.outer.1
        rw [h.len]
        exact h9
      · exact h.row i x (by rw [← h.len]; exact (List.getElem?_eq_some_iff.1 hx).1) hx
    refine ⟨h.len, h.big, ?_, h.outerF⟩
    rw [← hc]; exact h.outer
  · rintro ⟨h1, h2, h3, h4⟩
    exact ⟨a, n, c, _, fun _ _ => False, rfl, h1, h2, h3, h4, fun i x hi hx => flat_sub hk xs i x hx, fun i b hi hb => hb.elim, fun i j b _ _ _ hb => hb.elim⟩
theorem flat_of_owns {hk : ∀ x, (en x).length = k} {e : TypeId} {w : World} {base : Nat} {a : Option Addr} {n c : Nat} {xs : List α} (hz : xs.length = n) (hn : n ≤ 9223372036854775807) (h : w.ownsRow base e k (.slice a n c) n ((flatF en xs).map (.int .i64))) :
    (Rep.slice e (Rep.flat k en hk)).Own w (From base w.heap.size) [.slice a n c] xs := flat_own_iff.2 ⟨hz, hn, owns_mono h (Nat.zero_le _), fun b hb => h.lt b hb⟩
theorem At.ownedK {w : World} {base : Nat} {e : TypeId} {k : Nat} {a : Option Addr} {n c : Nat} {zs : List Int} (h : w.ownsRow base e k (.slice a n c) n (zs.map (.int .i64))) : At w a zs := by
  have hl := h.1
  rcases h.2 with ⟨h', rfl⟩ | ⟨g, cap, cur, h', _⟩
  · left; simpa using hl
  · right
    simp only [Value.slice.injEq, true_and] at h'
    obtain ⟨rfl, rfl⟩ := h'
    refine ⟨g, 0, rfl, fun i hi => ?_⟩
    rw [Nat.zero_add, h.cellAt i (by simp at hl; omega)]
    simp [List.getD, hi]
theorem flat_at {hk : ∀ x, (en x).length = k} {e : TypeId} {w : World} {F : Nat → Prop} {a : Option Addr} {n c : Nat} {xs : List α} (h : (Rep.slice e (Rep.flat k en hk)).Own w F [.slice a n c] xs) : At w a (flatF en xs) := At.ownedK (flat_own_iff.1 h).2.2.1
/-- The slice's things, as they are read. -/
theorem flat_atSl {hk : ∀ x, (en x).length = k} (h0 : 0 < k) {w : World} {a : Option Addr} {xs : List α} (h : AtSl (Rep.flat k en hk) w a xs) : At w a (flatF en xs) := by
  rcases h with rfl | ⟨b, off, rfl, hc⟩
  · exact .inl rfl
  · refine .inr ⟨b, off, rfl, fun i hi => ?_⟩
    rw [flatF_len hk] at hi
    have hq : i / k < xs.length := Nat.div_lt_of_lt_mul (by rw [Nat.mul_comm]; exact hi)
    have hr : i % k < k := Nat.mod_lt _ h0
    have hx : xs[i / k]? = some xs[i / k] := List.getElem?_eq_getElem hq
    obtain ⟨cs, h1, h2⟩ := hc _ _ hx
    have e : i = i / k * k + i % k := by rw [Nat.mul_comm]; exact (Nat.div_add_mod i k).symm
    have h3 := flatF_getD hk hx hr
    rw [← e] at h3
    have hlen : i % k < (en xs[i / k]).length := by rw [hk]; exact hr
    have h4 := h1 (i % k) (.int .i64 ((en xs[i / k]).getD (i % k) 0)) (by
      have h2' : cs = (en xs[i / k]).map (.int .i64) := h2
      rw [h2', List.getElem?_map, List.getElem?_eq_getElem hlen]
      simp [List.getD, hlen])
    rw [h3]
    have e2 : off + i / k * k + i % k = off + i := by omega
    rw [← e2]
    exact h4
theorem marks_app (m : Int) (a b : Nat) : marks m (a + b) = marks m a ++ marks (m + a) b := by
  unfold marks
  rw [List.range_add, List.map_append, List.map_map]
  congr 1
  apply List.map_congr_left
  intro i _
  simp only [Function.comp]
  push_cast
  omega
/-- Marked things. -/
def mkFl (de : List Int → α) (k : Nat) (m : Int) (n : Nat) : List α := (List.range n).map fun i => de (marks (m + (i * k : Nat)) k)
theorem mkFl_len (de : List Int → α) (k : Nat) (m : Int) (n : Nat) : (mkFl de k m n).length = n := by simp [mkFl]
theorem mkFl_flat {de : List Int → α} (hde : ∀ l : List Int, l.length = k → en (de l) = l) (m : Int) : ∀ n, flatF en (mkFl de k m n) = marks m (n * k)
  | 0 => by simp [flatF, mkFl, marks]
  | n + 1 => by
    have ih := mkFl_flat hde m n
    unfold mkFl at *
    rw [List.range_succ, List.map_append, List.map_cons, List.map_nil, flatF_snoc, ih, hde _ (marks_length _ _), Nat.succ_mul, marks_app]
end

end Go.Proofs.YtociphdhkjoofaaDoor
