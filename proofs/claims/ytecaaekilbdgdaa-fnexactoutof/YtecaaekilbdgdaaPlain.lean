/- Plain functions on lists of numbers: what the program's row functions answer. -/
import Derived.Test.YtecaaekilbdgdaaGround
namespace Go.Proofs.Ytecaaekilbdgdaa

def inb (z : Int) : Bool := decide (-100000 ≤ z) && decide (z ≤ 100000)
/-- A good row's cells. -/
def good (zs : List Int) : Bool := decide (zs.length ≤ 6) && zs.all inb

theorem good_len {zs : List Int} (h : good zs = true) : zs.length ≤ 6 := by simp [good] at h; exact h.1
theorem good_cell {zs : List Int} (h : good zs = true) (k : Nat) (hk : k < zs.length) : -100000 ≤ zs.getD k 0 ∧ zs.getD k 0 ≤ 100000 := by
  simp [good, inb] at h
  have := h.2 (zs[k]) (List.getElem_mem hk)
  simpa [List.getD, hk] using this
theorem good_long {zs : List Int} (h : 6 < zs.length) : good zs = false := by simp [good]; omega
theorem not_good_cell {zs : List Int} (k : Nat) (hk : k < zs.length) (h : zs.getD k 0 < -100000 ∨ 100000 < zs.getD k 0) : good zs = false := by
  cases hg : good zs with
  | false => rfl
  | true => have := good_cell hg k hk; omega
theorem good_of {zs : List Int} (hl : zs.length ≤ 6) (h : ∀ k, k < zs.length → -100000 ≤ zs.getD k 0 ∧ zs.getD k 0 ≤ 100000) : good zs = true := by
  simp only [good, Bool.and_eq_true, decide_eq_true_eq, List.all_eq_true, inb]
  refine ⟨hl, fun x hx => ?_⟩
  obtain ⟨k, hk, rfl⟩ := List.getElem_of_mem hx
  simpa [List.getD, hk] using h k hk

/-- Cell by cell; the first unlike one decides; a row that ends there is less. -/
def cmp : List Int → List Int → Int
  | [], [] => 0
  | [], _ :: _ => -1
  | _ :: _, [] => 1
  | x :: xs, y :: ys => if x < y then -1 else if y < x then 1 else cmp xs ys

theorem cmp_drop (xs ys : List Int) (k : Nat) (h1 : k < xs.length) (h2 : k < ys.length) :
    cmp (xs.drop k) (ys.drop k) = if xs.getD k 0 < ys.getD k 0 then -1 else if ys.getD k 0 < xs.getD k 0 then 1 else cmp (xs.drop (k + 1)) (ys.drop (k + 1)) := by
  rw [List.drop_eq_getElem_cons h1, List.drop_eq_getElem_cons h2, cmp]
  simp [List.getD, h1, h2]

theorem cmp_end (xs ys : List Int) (k : Nat) (h : k = xs.length ∨ k = ys.length) (h1 : k ≤ xs.length) (h2 : k ≤ ys.length) :
    cmp (xs.drop k) (ys.drop k) = if xs.length < ys.length then -1 else if ys.length < xs.length then 1 else 0 := by
  rcases h with rfl | rfl
  · rw [List.drop_length]
    by_cases e : xs.length = ys.length
    · rw [List.drop_eq_nil_of_le (by omega), if_neg (by omega), if_neg (by omega)]; rfl
    · rw [List.drop_eq_getElem_cons (by omega), if_pos (by omega)]; rfl
  · rw [List.drop_length]
    by_cases e : xs.length = ys.length
    · rw [List.drop_eq_nil_of_le (by omega), if_neg (by omega), if_neg (by omega)]; rfl
    · rw [List.drop_eq_getElem_cons (by omega), if_neg (by omega), if_pos (by omega)]; rfl

theorem cmp_self (xs : List Int) : cmp xs xs = 0 := by
  induction xs with
  | nil => rfl
  | cons x xs ih => simp [cmp, ih]

def good2 (xs ys : List Int) : Bool := good xs && good ys
def cmpAns (xs ys : List Int) : Int := if good xs && good ys then cmp xs ys else 0

/-- A cell's three bytes. -/
def cellNums (z : Int) : List Int := [(z + 100000) / 65536, (z + 100000) / 256 % 256, (z + 100000) % 256]
def rowNumsTo (zs : List Int) (k : Nat) : List Int := (zs.length : Int) :: (zs.take k).flatMap cellNums
def rowNums (zs : List Int) : List Int := (zs.length : Int) :: zs.flatMap cellNums

theorem take_snocD (zs : List Int) (k : Nat) (h : k < zs.length) : zs.take (k + 1) = zs.take k ++ [zs.getD k 0] := by
  rw [List.take_succ_eq_append_getElem h]; simp [List.getD, h]
theorem rowNumsTo_succ (zs : List Int) (k : Nat) (h : k < zs.length) : rowNumsTo zs (k + 1) = rowNumsTo zs k ++ cellNums (zs.getD k 0) := by
  unfold rowNumsTo
  rw [take_snocD zs k h, List.flatMap_append]
  simp only [List.flatMap_cons, List.flatMap_nil, List.append_nil, List.cons_append]
theorem rowNumsTo_all (zs : List Int) : rowNumsTo zs zs.length = rowNums zs := by simp [rowNumsTo, rowNums]
theorem rowNumsTo_length (zs : List Int) (k : Nat) (h : k ≤ zs.length) : (rowNumsTo zs k).length = 1 + 3 * k := by
  induction k with
  | zero => simp [rowNumsTo]
  | succ k ih => rw [rowNumsTo_succ zs k (by omega), List.length_append, ih (by omega)]; simp [cellNums]; omega

/-- The row itself where it is good, else the empty one. -/
def goodOr (zs : List Int) : List Int := if good zs then zs else []

def byt (s : ByteArray) (k : Nat) : Nat := (s.data.toList.getD k 0).toNat
/-- The j-th cell that a row's bytes tell. -/
def cellAt (s : ByteArray) (j : Nat) : Int := (byt s (1 + 3 * j) : Int) * 65536 + (byt s (1 + 3 * j + 1) : Int) * 256 + (byt s (1 + 3 * j + 2) : Int) - 100000
def cellsTo (s : ByteArray) (k : Nat) : List Int := (List.range k).map (cellAt s)
theorem byt_lt (s : ByteArray) (k : Nat) : byt s k < 256 := (s.data.toList.getD k 0).toNat_lt
theorem byt_at (s : ByteArray) (k : Nat) (h : k < s.size) : (s[k]'h).toNat = byt s k := by
  have h' : k < s.data.size := h
  unfold byt
  rw [show s.data.toList.getD k 0 = s[k] from by simp only [List.getD, Array.getElem?_toList, Array.getElem?_eq_getElem h', Option.getD_some]; rfl]
theorem cellsTo_succ (s : ByteArray) (k : Nat) : cellsTo s (k + 1) = cellsTo s k ++ [cellAt s k] := by simp [cellsTo, List.range_succ]
theorem cellsTo_length (s : ByteArray) (k : Nat) : (cellsTo s k).length = k := by simp [cellsTo]

/-- A good row's cells raised above 0, and 0 behind the last one. -/
def raised (zs : List Int) : List Int := zs.map (· + 100001) ++ List.replicate (6 - zs.length) 0

theorem cmp_raised' (xs : List Int) : ∀ (ys : List Int) (a b : Nat), (∀ x ∈ xs, -100000 ≤ x) → (∀ y ∈ ys, -100000 ≤ y) → xs.length + a = ys.length + b →
    cmp (xs.map (· + 100001) ++ List.replicate a 0) (ys.map (· + 100001) ++ List.replicate b 0) = cmp xs ys := by
  induction xs with
  | nil =>
    intro ys a b _ hy hl
    cases ys with
    | nil => simp at hl; subst hl; simp [cmp_self, cmp]
    | cons y ys =>
      obtain ⟨a', rfl⟩ : ∃ a', a = a' + 1 := ⟨a - 1, by simp at hl; omega⟩
      have := hy y (by simp)
      simp [List.replicate_succ, cmp]
      omega
  | cons x xs ih =>
    intro ys a b hx hy hl
    have h0 := hx x (by simp)
    cases ys with
    | nil =>
      obtain ⟨b', rfl⟩ : ∃ b', b = b' + 1 := ⟨b - 1, by simp at hl; omega⟩
      simp only [List.map_cons, List.cons_append, List.map_nil, List.nil_append, List.replicate_succ, cmp]
      rw [if_neg (by omega), if_pos (by omega)]
    | cons y ys =>
      have h1 := hy y (by simp)
      simp only [List.map_cons, List.cons_append, cmp]
      rw [ih ys a b (fun z hz => hx z (by simp [hz])) (fun z hz => hy z (by simp [hz])) (by simp at hl; omega)]
      by_cases e1 : x < y
      · rw [if_pos (by omega), if_pos e1]
      · rw [if_neg (by omega), if_neg e1]
        by_cases e2 : y < x
        · rw [if_pos (by omega), if_pos e2]
        · rw [if_neg (by omega), if_neg e2]

theorem good_mem {zs : List Int} (h : good zs = true) : ∀ z ∈ zs, -100000 ≤ z ∧ z ≤ 100000 := by
  simp only [good, Bool.and_eq_true, List.all_eq_true, inb, decide_eq_true_eq] at h
  exact h.2

theorem cmp_raised {xs ys : List Int} (hx : good xs = true) (hy : good ys = true) : cmp (raised xs) (raised ys) = cmp xs ys := by
  have h1 := good_len hx
  have h2 := good_len hy
  exact cmp_raised' xs ys _ _ (fun z hz => (good_mem hx z hz).1) (fun z hz => (good_mem hy z hz).1) (by omega)

/-- The array while it is filled. -/
def rowTo (zs : List Int) (k : Nat) : List Int := (zs.take k).map (· + 100001) ++ List.replicate (6 - k) 0

theorem rowTo_length (zs : List Int) (k : Nat) (h : k ≤ zs.length) (h6 : k ≤ 6) : (rowTo zs k).length = 6 := by simp [rowTo]; omega

theorem rowTo_set (zs : List Int) (k : Nat) (h : k < zs.length) (h6 : k < 6) : (rowTo zs k).set k (zs.getD k 0 + 100001) = rowTo zs (k + 1) := by
  unfold rowTo
  rw [List.set_append_right _ _ (by simp; omega)]
  rw [show k - (List.map (· + 100001) (List.take k zs)).length = 0 by simp; omega]
  rw [show 6 - k = (6 - (k + 1)) + 1 by omega, List.replicate_succ, List.set_cons_zero]
  rw [List.take_succ_eq_append_getElem h, List.map_append, List.append_assoc]
  simp [List.getD, h]

theorem rowTo_all (zs : List Int) : rowTo zs zs.length = raised zs := by simp [rowTo, raised]

theorem raised_length {zs : List Int} (h : zs.length ≤ 6) : (raised zs).length = 6 := by simp [raised]; omega

end Go.Proofs.Ytecaaekilbdgdaa
