/- Several texts of one proof, in build order: Plain, GoodRow, ArrayOf, Compare, PlainT, PlainC, PlainP, L2Put, ConcI. -/
import Derived.Test.YtecaaekilbdgdaaM0
import Derived.Test.YtecaaekilbdgdaaM13
import Derived.Test.YtecaaekilbdgdaaM4
import Derived.Deep.AppendLies
import Derived.Lib.Walk
import Derived.Lib.AppendZerosOnto
import Derived.Test.YtecaaekilbdgdaaM8

/- Plain functions on lists of numbers: what the program's row functions answer. -/
namespace Go.Proofs.Ytecaaekilbdgdaa

def inb (z : Int) : Bool := decide (-100000 ≤ z) && decide (z ≤ 100000)
/-- A good row's cells. -/
def good (zs : List Int) : Bool := decide (zs.length ≤ 6) && zs.all inb

theorem good_len {zs : List Int} (h : good zs = true) : zs.length ≤ 6 := by simp [good] at h; exact h.1
theorem good_cell {zs : List Int} (h : good zs = true) (k : Nat) (hk : k < zs.length) : -100000 ≤ zs.getD k 0 ∧ zs.getD k 0 ≤ 100000 := by
  simp [good, inb] at h
  have := h.2 (zs[k]) (List.getElem_mem hk)
  simpa [List.getD, hk] using this
theorem good_long {zs : List Int} (h : 6 < zs.length) : good zs = false := by simp [good]; omega
theorem not_good_cell {zs : List Int} (k : Nat) (hk : k < zs.length) (h : zs.getD k 0 < -100000 ∨ 100000 < zs.getD k 0) : good zs = false := by
  cases hg : good zs with
  | false => rfl
  | true => have := good_cell hg k hk; omega
theorem good_of {zs : List Int} (hl : zs.length ≤ 6) (h : ∀ k, k < zs.length → -100000 ≤ zs.getD k 0 ∧ zs.getD k 0 ≤ 100000) : good zs = true := by
  simp only [good, Bool.and_eq_true, decide_eq_true_eq, List.all_eq_true, inb]
  refine ⟨hl, fun x hx => ?_⟩
  obtain ⟨k, hk, rfl⟩ := List.getElem_of_mem hx
  simpa [List.getD, hk] using h k hk

/-- Cell by cell; the first unlike one decides; a row that ends there is less. -/
def cmp : List Int → List Int → Int
  | [], [] => 0
  | [], _ :: _ => -1
  | _ :: _, [] => 1
  | x :: xs, y :: ys => if x < y then -1 else if y < x then 1 else cmp xs ys

theorem cmp_drop (xs ys : List Int) (k : Nat) (h1 : k < xs.length) (h2 : k < ys.length) :
    cmp (xs.drop k) (ys.drop k) = if xs.getD k 0 < ys.getD k 0 then -1 else if ys.getD k 0 < xs.getD k 0 then 1 else cmp (xs.drop (k + 1)) (ys.drop (k + 1)) := by
  rw [List.drop_eq_getElem_cons h1, List.drop_eq_getElem_cons h2, cmp]
  simp [List.getD, h1, h2]

theorem cmp_end (xs ys : List Int) (k : Nat) (h : k = xs.length ∨ k = ys.length) (h1 : k ≤ xs.length) (h2 : k ≤ ys.length) :
    cmp (xs.drop k) (ys.drop k) = if xs.length < ys.length then -1 else if ys.length < xs.length then 1 else 0 := by
  rcases h with rfl | rfl
  · rw [List.drop_length]
    by_cases e : xs.length = ys.length
    · rw [List.drop_eq_nil_of_le (by omega), if_neg (by omega), if_neg (by omega)]; rfl
    · rw [List.drop_eq_getElem_cons (by omega), if_pos (by omega)]; rfl
  · rw [List.drop_length]
    by_cases e : xs.length = ys.length
    · rw [List.drop_eq_nil_of_le (by omega), if_neg (by omega), if_neg (by omega)]; rfl
    · rw [List.drop_eq_getElem_cons (by omega), if_neg (by omega), if_pos (by omega)]; rfl

theorem cmp_self (xs : List Int) : cmp xs xs = 0 := by
  induction xs with
  | nil => rfl
  | cons x xs ih => simp [cmp, ih]

def good2 (xs ys : List Int) : Bool := good xs && good ys
def cmpAns (xs ys : List Int) : Int := if good xs && good ys then cmp xs ys else 0

/-- A cell's three bytes. -/
def cellNums (z : Int) : List Int := [(z + 100000) / 65536, (z + 100000) / 256 % 256, (z + 100000) % 256]
def rowNumsTo (zs : List Int) (k : Nat) : List Int := (zs.length : Int) :: (zs.take k).flatMap cellNums
def rowNums (zs : List Int) : List Int := (zs.length : Int) :: zs.flatMap cellNums

theorem take_snocD (zs : List Int) (k : Nat) (h : k < zs.length) : zs.take (k + 1) = zs.take k ++ [zs.getD k 0] := by
  rw [List.take_succ_eq_append_getElem h]; simp [List.getD, h]
theorem rowNumsTo_succ (zs : List Int) (k : Nat) (h : k < zs.length) : rowNumsTo zs (k + 1) = rowNumsTo zs k ++ cellNums (zs.getD k 0) := by
  unfold rowNumsTo
  rw [take_snocD zs k h, List.flatMap_append]
  simp only [List.flatMap_cons, List.flatMap_nil, List.append_nil, List.cons_append]
theorem rowNumsTo_all (zs : List Int) : rowNumsTo zs zs.length = rowNums zs := by simp [rowNumsTo, rowNums]
theorem rowNumsTo_length (zs : List Int) (k : Nat) (h : k ≤ zs.length) : (rowNumsTo zs k).length = 1 + 3 * k := by
  induction k with
  | zero => simp [rowNumsTo]
  | succ k ih => rw [rowNumsTo_succ zs k (by omega), List.length_append, ih (by omega)]; simp [cellNums]; omega

/-- The row itself where it is good, else the empty one. -/
def goodOr (zs : List Int) : List Int := if good zs then zs else []

def byt (s : ByteArray) (k : Nat) : Nat := (s.data.toList.getD k 0).toNat
/-- The j-th cell that a row's bytes tell. -/
def cellAt (s : ByteArray) (j : Nat) : Int := (byt s (1 + 3 * j) : Int) * 65536 + (byt s (1 + 3 * j + 1) : Int) * 256 + (byt s (1 + 3 * j + 2) : Int) - 100000
def cellsTo (s : ByteArray) (k : Nat) : List Int := (List.range k).map (cellAt s)
theorem byt_lt (s : ByteArray) (k : Nat) : byt s k < 256 := (s.data.toList.getD k 0).toNat_lt
theorem byt_at (s : ByteArray) (k : Nat) (h : k < s.size) : (s[k]'h).toNat = byt s k := by
  have h' : k < s.data.size := h
  unfold byt
  rw [show s.data.toList.getD k 0 = s[k] from by simp only [List.getD, Array.getElem?_toList, Array.getElem?_eq_getElem h', Option.getD_some]; rfl]
theorem cellsTo_succ (s : ByteArray) (k : Nat) : cellsTo s (k + 1) = cellsTo s k ++ [cellAt s k] := by simp [cellsTo, List.range_succ]
theorem cellsTo_length (s : ByteArray) (k : Nat) : (cellsTo s k).length = k := by simp [cellsTo]

/-- A good row's cells raised above 0, and 0 behind the last one. -/
def raised (zs : List Int) : List Int := zs.map (· + 100001) ++ List.replicate (6 - zs.length) 0

theorem cmp_raised' (xs : List Int) : ∀ (ys : List Int) (a b : Nat), (∀ x ∈ xs, -100000 ≤ x) → (∀ y ∈ ys, -100000 ≤ y) → xs.length + a = ys.length + b →
    cmp (xs.map (· + 100001) ++ List.replicate a 0) (ys.map (· + 100001) ++ List.replicate b 0) = cmp xs ys := by
  induction xs with
  | nil =>
    intro ys a b _ hy hl
    cases ys with
    | nil => simp at hl; subst hl; simp [cmp_self, cmp]
    | cons y ys =>
      obtain ⟨a', rfl⟩ : ∃ a', a = a' + 1 := ⟨a - 1, by simp at hl; omega⟩
      have := hy y (by simp)
      simp [List.replicate_succ, cmp]
      omega
  | cons x xs ih =>
    intro ys a b hx hy hl
    have h0 := hx x (by simp)
    cases ys with
    | nil =>
      obtain ⟨b', rfl⟩ : ∃ b', b = b' + 1 := ⟨b - 1, by simp at hl; omega⟩
      simp only [List.map_cons, List.cons_append, List.map_nil, List.nil_append, List.replicate_succ, cmp]
      rw [if_neg (by omega), if_pos (by omega)]
    | cons y ys =>
      have h1 := hy y (by simp)
      simp only [List.map_cons, List.cons_append, cmp]
      rw [ih ys a b (fun z hz => hx z (by simp [hz])) (fun z hz => hy z (by simp [hz])) (by simp at hl; omega)]
      by_cases e1 : x < y
      · rw [if_pos (by omega), if_pos e1]
      · rw [if_neg (by omega), if_neg e1]
        by_cases e2 : y < x
        · rw [if_pos (by omega), if_pos e2]
        · rw [if_neg (by omega), if_neg e2]

theorem good_mem {zs : List Int} (h : good zs = true) : ∀ z ∈ zs, -100000 ≤ z ∧ z ≤ 100000 := by
  simp only [good, Bool.and_eq_true, List.all_eq_true, inb, decide_eq_true_eq] at h
  exact h.2

theorem cmp_raised {xs ys : List Int} (hx : good xs = true) (hy : good ys = true) : cmp (raised xs) (raised ys) = cmp xs ys := by
  have h1 := good_len hx
  have h2 := good_len hy
  exact cmp_raised' xs ys _ _ (fun z hz => (good_mem hx z hz).1) (fun z hz => (good_mem hy z hz).1) (by omega)

/-- The array while it is filled. -/
def rowTo (zs : List Int) (k : Nat) : List Int := (zs.take k).map (· + 100001) ++ List.replicate (6 - k) 0

theorem rowTo_length (zs : List Int) (k : Nat) (h : k ≤ zs.length) (h6 : k ≤ 6) : (rowTo zs k).length = 6 := by simp [rowTo]; omega

theorem rowTo_set (zs : List Int) (k : Nat) (h : k < zs.length) (h6 : k < 6) : (rowTo zs k).set k (zs.getD k 0 + 100001) = rowTo zs (k + 1) := by
  unfold rowTo
  rw [List.set_append_right _ _ (by simp; omega)]
  rw [show k - (List.map (· + 100001) (List.take k zs)).length = 0 by simp; omega]
  rw [show 6 - k = (6 - (k + 1)) + 1 by omega, List.replicate_succ, List.set_cons_zero]
  rw [List.take_succ_eq_append_getElem h, List.map_append, List.append_assoc]
  simp [List.getD, h]

theorem rowTo_all (zs : List Int) : rowTo zs zs.length = raised zs := by simp [rowTo, raised]

theorem raised_length {zs : List Int} (h : zs.length ≤ 6) : (raised zs).length = 6 := by simp [raised]; omega

end Go.Proofs.Ytecaaekilbdgdaa

/- Contracts of impl.GoodRow and spec.GoodRow. -/
namespace Go.Proofs.Ytecaaekilbdgdaa
open Go.RowKit

end Go.Proofs.Ytecaaekilbdgdaa

/- Contract of impl.arrayOf. -/
namespace Go.Proofs.Ytecaaekilbdgdaa
open Go.RowKit

end Go.Proofs.Ytecaaekilbdgdaa

/- Contracts of spec.l1Compare, impl.compareArrays. -/
namespace Go.Proofs.Ytecaaekilbdgdaa
open Go.RowKit

end Go.Proofs.Ytecaaekilbdgdaa

/- Plain functions on lists of weighted rows: what a good table is. -/
namespace Go.Proofs.Ytecaaekilbdgdaa

def inw (x : Int) : Bool := decide (-1000000 ≤ x) && decide (x ≤ 1000000)
def inc (p : Int) : Bool := decide (0 ≤ p) && decide (p ≤ 6)
/-- A row that may be handed in. -/
def goodW (p : Int) (t : WRow) : Bool := good t.1 && (decide ((t.1.length : Int) = p) && inw t.2)
/-- The k-th row may stand in a table. -/
def stepB (p : Int) (ts : List WRow) (k : Nat) : Bool := goodW p (wat ts k) && (!decide ((wat ts k).2 = 0) && (decide (k = 0) || decide (cmp (wat ts (k - 1)).1 (wat ts k).1 < 0)))
/-- A good table. -/
def goodT (p : Int) (ts : List WRow) : Bool := inc p && (decide (ts.length ≤ 60) && (List.range ts.length).all (stepB p ts))
def goodL (p : Int) (ts : List WRow) : Bool := ts.all (goodW p)

theorem goodW_cells {p : Int} {t : WRow} (h : goodW p t = true) : good t.1 = true ∧ (t.1.length : Int) = p ∧ -1000000 ≤ t.2 ∧ t.2 ≤ 1000000 := by
  simpa [goodW, inw] using h
theorem goodW_mk {p : Int} {t : WRow} (h1 : good t.1 = true) (h2 : (t.1.length : Int) = p) (h3 : inw t.2 = true) : goodW p t = true := by
  simp [goodW, h1, h2, h3]
theorem goodW_row {p : Int} {t : WRow} (h : good t.1 = false) : goodW p t = false := by simp [goodW, h]
theorem goodW_len {p : Int} {t : WRow} (h : (t.1.length : Int) ≠ p) : goodW p t = false := by simp [goodW, h]
theorem goodW_wt {p : Int} {t : WRow} (h : inw t.2 = false) : goodW p t = false := by simp [goodW, h]

theorem wat_mem {ts : List WRow} {k : Nat} (h : k < ts.length) : wat ts k ∈ ts := by
  rw [show wat ts k = ts[k] by simp [wat, List.getD, h]]; exact List.getElem_mem h

theorem goodL_of {p : Int} {ts : List WRow} (h : ∀ k, k < ts.length → goodW p (wat ts k) = true) : goodL p ts = true := by
  unfold goodL
  rw [List.all_eq_true]
  intro t ht
  obtain ⟨k, hk, rfl⟩ := List.getElem_of_mem ht
  simpa [wat, List.getD, hk] using h k hk
theorem goodL_at {p : Int} {ts : List WRow} (h : goodL p ts = true) (k : Nat) (hk : k < ts.length) : goodW p (wat ts k) = true := List.all_eq_true.1 h _ (wat_mem hk)
theorem goodL_not {p : Int} {ts : List WRow} (k : Nat) (hk : k < ts.length) (h : goodW p (wat ts k) = false) : goodL p ts = false := by
  cases hg : goodL p ts with
  | false => rfl
  | true => rw [goodL_at hg k hk] at h; cases h

theorem goodT_of {p : Int} {ts : List WRow} (h1 : inc p = true) (h2 : ts.length ≤ 60) (h : ∀ k, k < ts.length → stepB p ts k = true) : goodT p ts = true := by
  simp only [goodT, h1, decide_eq_true h2, Bool.true_and, List.all_eq_true, List.mem_range]; exact h
theorem goodT_parts {p : Int} {ts : List WRow} (h : goodT p ts = true) : inc p = true ∧ ts.length ≤ 60 ∧ ∀ k, k < ts.length → stepB p ts k = true := by
  simpa only [goodT, Bool.and_eq_true, decide_eq_true_eq, List.all_eq_true, List.mem_range] using h
theorem goodT_col {p : Int} {ts : List WRow} (h : inc p = false) : goodT p ts = false := by simp [goodT, h]
theorem goodT_len {p : Int} {ts : List WRow} (h : 60 < ts.length) : goodT p ts = false := by
  have : decide (ts.length ≤ 60) = false := by simp; omega
  simp [goodT, this]
theorem goodT_not {p : Int} {ts : List WRow} (k : Nat) (hk : k < ts.length) (h : stepB p ts k = false) : goodT p ts = false := by
  cases hg : goodT p ts with
  | false => rfl
  | true => rw [(goodT_parts hg).2.2 k hk] at h; cases h
theorem stepB_good {p : Int} {ts : List WRow} {k : Nat} (h : stepB p ts k = true) : goodW p (wat ts k) = true := by
  simp only [stepB, Bool.and_eq_true] at h; exact h.1
theorem stepB_row {p : Int} {ts : List WRow} {k : Nat} (h : goodW p (wat ts k) = false) : stepB p ts k = false := by simp only [stepB, h, Bool.false_and]
theorem stepB_zero {p : Int} {ts : List WRow} {k : Nat} (h : (wat ts k).2 = 0) : stepB p ts k = false := by simp only [stepB, h, decide_true, Bool.not_true, Bool.false_and, Bool.and_false]
theorem stepB_cmp {p : Int} {ts : List WRow} {k : Nat} (h0 : k ≠ 0) (h : ¬ cmp (wat ts (k - 1)).1 (wat ts k).1 < 0) : stepB p ts k = false := by
  simp only [stepB, decide_eq_false h0, decide_eq_false h, Bool.or_false, Bool.and_false]
theorem stepB_mk {p : Int} {ts : List WRow} {k : Nat} (h1 : goodW p (wat ts k) = true) (h2 : (wat ts k).2 ≠ 0) (h3 : k = 0 ∨ cmp (wat ts (k - 1)).1 (wat ts k).1 < 0) : stepB p ts k = true := by
  rcases h3 with h3 | h3 <;> simp only [stepB, h1, decide_eq_false h2, decide_eq_true h3, Bool.not_false, Bool.true_and, Bool.or_true, Bool.true_or]
theorem goodL_of_goodT {p : Int} {ts : List WRow} (h : goodT p ts = true) : goodL p ts = true := goodL_of fun k hk => stepB_good ((goodT_parts h).2.2 k hk)
theorem goodT_goodL {p : Int} {ts : List WRow} (h : goodL p ts = false) : goodT p ts = false := by
  cases hg : goodT p ts with
  | false => rfl
  | true => rw [goodL_of_goodT hg] at h; cases h
theorem inc_range {p : Int} (h : inc p = true) : 0 ≤ p ∧ p ≤ 6 := by simpa [inc] using h

/-- cmp tells -1, 0 or 1. -/
theorem cmp_range (xs : List Int) : ∀ ys, cmp xs ys = -1 ∨ cmp xs ys = 0 ∨ cmp xs ys = 1 := by
  induction xs with
  | nil => intro ys; cases ys <;> simp [cmp]
  | cons x xs ih =>
    intro ys
    cases ys with
    | nil => simp [cmp]
    | cons y ys =>
      simp only [cmp]
      by_cases h1 : x < y
      · simp [h1]
      · by_cases h2 : y < x
        · simp [h1, h2]
        · simp [h1, h2, ih ys]

end Go.Proofs.Ytecaaekilbdgdaa

/- Plain facts: cmp is an order of the rows; the rows of a good table rise; the weight of a row. -/
namespace Go.Proofs.Ytecaaekilbdgdaa

theorem cmp_eq {xs : List Int} : ∀ {ys : List Int}, cmp xs ys = 0 → xs = ys := by
  induction xs with
  | nil => intro ys h; cases ys with
    | nil => rfl
    | cons y ys => simp [cmp] at h
  | cons x xs ih =>
    intro ys h
    cases ys with
    | nil => simp [cmp] at h
    | cons y ys =>
      simp only [cmp] at h
      by_cases h1 : x < y
      · simp [h1] at h
      · by_cases h2 : y < x
        · simp [h1, h2] at h
        · simp only [if_neg h1, if_neg h2] at h
          obtain rfl : x = y := by omega
          rw [ih h]

theorem cmp_swap (xs : List Int) : ∀ ys, cmp ys xs = - cmp xs ys := by
  induction xs with
  | nil => intro ys; cases ys <;> simp [cmp]
  | cons x xs ih =>
    intro ys
    cases ys with
    | nil => simp [cmp]
    | cons y ys =>
      simp only [cmp]
      by_cases h1 : x < y
      · rw [if_neg (by omega), if_pos h1, if_pos h1]; rfl
      · by_cases h2 : y < x
        · rw [if_pos h2, if_neg h1, if_pos h2]
        · rw [if_neg h2, if_neg h1, if_neg h1, if_neg h2, ih ys]

theorem cmp_trans {xs : List Int} : ∀ {ys zs : List Int}, cmp xs ys < 0 → cmp ys zs < 0 → cmp xs zs < 0 := by
  induction xs with
  | nil =>
    intro ys zs h1 h2
    cases ys with
    | nil => simp [cmp] at h1
    | cons y ys => cases zs with
      | nil => simp [cmp] at h2
      | cons z zs => simp [cmp]
  | cons x xs ih =>
    intro ys zs h1 h2
    cases ys with
    | nil => simp [cmp] at h1
    | cons y ys => cases zs with
      | nil => simp [cmp] at h2
      | cons z zs =>
        simp only [cmp] at *
        by_cases a1 : x < y
        · by_cases a2 : y < z
          · rw [if_pos (by omega)]; omega
          · rw [if_neg a2] at h2
            by_cases a3 : z < y
            · rw [if_pos a3] at h2; omega
            · rw [if_pos (by omega)]; omega
        · rw [if_neg a1] at h1
          by_cases a1' : y < x
          · rw [if_pos a1'] at h1; omega
          · rw [if_neg a1'] at h1
            by_cases a2 : y < z
            · rw [if_pos (by omega)]; omega
            · rw [if_neg a2] at h2
              by_cases a3 : z < y
              · rw [if_pos a3] at h2; omega
              · rw [if_neg a3] at h2
                rw [if_neg (by omega), if_neg (by omega)]
                exact ih h1 h2

theorem cmp_irrefl (xs : List Int) : ¬ cmp xs xs < 0 := by rw [cmp_self]; omega
theorem cmp_ne {xs ys : List Int} (h : cmp xs ys < 0) : xs ≠ ys := fun e => by rw [e] at h; exact cmp_irrefl ys h

/-- Rows that rise. -/
def Rises (ts : List WRow) : Prop := ts.Pairwise fun s t => cmp s.1 t.1 < 0

theorem rises_of {ts : List WRow} (h : ∀ k, k + 1 < ts.length → cmp (wat ts k).1 (wat ts (k + 1)).1 < 0) : Rises ts := by
  induction ts with
  | nil => exact List.Pairwise.nil
  | cons t ts ih =>
    have ih' : Rises ts := ih fun k hk => by simpa [wat, List.getD] using h (k + 1) (by simpa using hk)
    refine List.pairwise_cons.2 ⟨fun s hs => ?_, ih'⟩
    cases ts with
    | nil => simp at hs
    | cons u us =>
      have h0 : cmp t.1 u.1 < 0 := by simpa [wat, List.getD] using h 0 (by simp)
      rcases List.mem_cons.1 hs with rfl | hs
      · exact h0
      · exact cmp_trans h0 ((List.pairwise_cons.1 ih').1 s hs)

theorem goodT_rises {p : Int} {ts : List WRow} (h : goodT p ts = true) : Rises ts := rises_of fun k hk => by
  have := (goodT_parts h).2.2 (k + 1) hk
  simp only [stepB, Bool.and_eq_true, Bool.or_eq_true, decide_eq_true_eq] at this
  rcases this.2.2 with h0 | h0
  · omega
  · simpa using h0

theorem raised_inj {xs ys : List Int} (hx : good xs = true) (hy : good ys = true) (h : raised xs = raised ys) : xs = ys := by
  apply cmp_eq
  rw [← cmp_raised hx hy, h, cmp_self]

/-- The weight of a row, 0 where it is not there. -/
def wOf (ts : List WRow) (zs : List Int) : Int := ((ts.find? fun t => decide (t.1 = zs)).map fun t => t.2).getD 0

theorem wOf_nil (zs : List Int) : wOf [] zs = 0 := rfl
theorem wOf_cons (t : WRow) (ts : List WRow) (zs : List Int) : wOf (t :: ts) zs = if t.1 = zs then t.2 else wOf ts zs := by
  unfold wOf
  by_cases e : t.1 = zs <;> simp [e]
theorem wOf_absent {ts : List WRow} {zs : List Int} (h : ∀ t ∈ ts, t.1 ≠ zs) : wOf ts zs = 0 := by
  induction ts with
  | nil => rfl
  | cons t ts ih => rw [wOf_cons, if_neg (h t (by simp))]; exact ih fun s hs => h s (by simp [hs])
theorem wOf_drop (ts : List WRow) (k : Nat) (zs : List Int) (h : k < ts.length) : wOf (ts.drop k) zs = if (wat ts k).1 = zs then (wat ts k).2 else wOf (ts.drop (k + 1)) zs := by
  rw [List.drop_eq_getElem_cons h, wOf_cons]
  simp [wat, List.getD, h]

end Go.Proofs.Ytecaaekilbdgdaa

/- Plain facts: a weight put to a row, many of them, and that a rising list is told by its weights. -/
namespace Go.Proofs.Ytecaaekilbdgdaa

/-- A row with its weight, nothing where it is 0. -/
def oneW (zs : List Int) (x : Int) : List WRow := if x = 0 then [] else [(zs, x)]
/-- What is left behind the place at which a row is put. -/
def restW (zs : List Int) (x : Int) : List WRow → List WRow
  | [] => oneW zs x
  | t :: ts => if cmp t.1 zs = 0 then oneW zs (x + t.2) ++ ts else oneW zs x ++ t :: ts
/-- A weight is put to a row. -/
def putW : List WRow → List Int → Int → List WRow
  | [], zs, x => restW zs x []
  | t :: ts, zs, x => if cmp t.1 zs < 0 then t :: putW ts zs x else restW zs x (t :: ts)

theorem putW_at (zs : List Int) (x : Int) : ∀ (ts : List WRow) (k : Nat), k ≤ ts.length → (∀ j, j < k → cmp (wat ts j).1 zs < 0) → (k < ts.length → ¬ cmp (wat ts k).1 zs < 0) → putW ts zs x = ts.take k ++ restW zs x (ts.drop k) := by
  intro ts
  induction ts with
  | nil => intro k hk _ _; obtain rfl : k = 0 := by simpa using hk
           rfl
  | cons t ts ih =>
    intro k hk h1 h2
    cases k with
    | zero =>
      have : ¬ cmp t.1 zs < 0 := by simpa [wat, List.getD] using h2 (by simp)
      simp only [putW, if_neg this, List.take_zero, List.drop_zero, List.nil_append]
    | succ k =>
      have h0 : cmp t.1 zs < 0 := by simpa [wat, List.getD] using h1 0 (by omega)
      simp only [putW, if_pos h0, List.take_succ_cons, List.drop_succ_cons, List.cons_append]
      rw [ih k (by simpa using hk) (fun j hj => by simpa [wat, List.getD] using h1 (j + 1) (by omega)) (fun h => by simpa [wat, List.getD] using h2 (by simpa using h))]

theorem restW_cons (zs : List Int) (x : Int) (ts : List WRow) (k : Nat) (h : k < ts.length) :
    restW zs x (ts.drop k) = if cmp (wat ts k).1 zs = 0 then oneW zs (x + (wat ts k).2) ++ ts.drop (k + 1) else oneW zs x ++ ts.drop k := by
  rw [List.drop_eq_getElem_cons h]
  simp [restW, wat, List.getD, h]

/-- No weight is 0. -/
def NoZero (ts : List WRow) : Prop := ∀ t ∈ ts, t.2 ≠ 0

theorem oneW_mem {zs : List Int} {x : Int} {t : WRow} (h : t ∈ oneW zs x) : t = (zs, x) ∧ x ≠ 0 := by
  unfold oneW at h
  by_cases e : x = 0
  · simp [e] at h
  · rw [if_neg e] at h; exact ⟨by simpa using h, e⟩

theorem cmp_tri (xs ys : List Int) : cmp xs ys < 0 ∨ xs = ys ∨ cmp ys xs < 0 := by
  rcases cmp_range xs ys with h | h | h
  · left; omega
  · right; left; exact cmp_eq h
  · right; right; have := cmp_swap xs ys; omega

theorem putW_mem {zs : List Int} {x : Int} {t : WRow} : ∀ {ts : List WRow}, t ∈ putW ts zs x → t ∈ ts ∨ t.1 = zs := by
  intro ts
  induction ts with
  | nil => intro h; right; exact congrArg Prod.fst (oneW_mem h).1
  | cons s ts ih =>
    intro h
    simp only [putW] at h
    by_cases e : cmp s.1 zs < 0
    · rw [if_pos e] at h
      rcases List.mem_cons.1 h with rfl | h
      · left; simp
      · rcases ih h with h | h
        · left; simp [h]
        · right; exact h
    · rw [if_neg e] at h
      simp only [restW] at h
      by_cases e2 : cmp s.1 zs = 0
      · rw [if_pos e2] at h
        rcases List.mem_append.1 h with h | h
        · right; exact congrArg Prod.fst (oneW_mem h).1
        · left; simp [h]
      · rw [if_neg e2] at h
        rcases List.mem_append.1 h with h | h
        · right; exact congrArg Prod.fst (oneW_mem h).1
        · left; exact h

theorem rises_one (zs : List Int) (x : Int) (ts : List WRow) (hr : Rises ts) (h : ∀ t ∈ ts, cmp zs t.1 < 0) : Rises (oneW zs x ++ ts) := by
  unfold oneW
  by_cases e : x = 0
  · simpa [e] using hr
  · rw [if_neg e]; exact List.pairwise_cons.2 ⟨h, hr⟩

theorem putW_rises {zs : List Int} {x : Int} : ∀ {ts : List WRow}, Rises ts → Rises (putW ts zs x) := by
  intro ts
  induction ts with
  | nil => intro _; have := rises_one zs x [] List.Pairwise.nil (by simp); simpa [putW, restW] using this
  | cons s ts ih =>
    intro h
    obtain ⟨h1, h2⟩ := List.pairwise_cons.1 h
    simp only [putW]
    by_cases e : cmp s.1 zs < 0
    · rw [if_pos e]
      refine List.pairwise_cons.2 ⟨fun t ht => ?_, ih h2⟩
      rcases putW_mem ht with h' | h'
      · exact h1 t h'
      · rw [h']; exact e
    · rw [if_neg e]
      simp only [restW]
      by_cases e2 : cmp s.1 zs = 0
      · rw [if_pos e2]
        refine rises_one _ _ _ h2 fun t ht => ?_
        rw [← cmp_eq e2]; exact h1 t ht
      · rw [if_neg e2]
        have e3 : cmp zs s.1 < 0 := by have := cmp_swap s.1 zs; have := cmp_range s.1 zs; omega
        refine rises_one _ _ _ h fun t ht => ?_
        rcases List.mem_cons.1 ht with rfl | ht
        · exact e3
        · exact cmp_trans e3 (h1 t ht)

theorem putW_nozero {zs : List Int} {x : Int} : ∀ {ts : List WRow}, NoZero ts → NoZero (putW ts zs x) := by
  intro ts
  induction ts with
  | nil => intro _ t ht; obtain ⟨rfl, h⟩ := oneW_mem ht; exact h
  | cons s ts ih =>
    intro h t ht
    simp only [putW] at ht
    have hts : NoZero ts := fun t ht => h t (by simp [ht])
    by_cases e : cmp s.1 zs < 0
    · rw [if_pos e] at ht
      rcases List.mem_cons.1 ht with rfl | ht
      · exact h _ (by simp)
      · exact ih hts t ht
    · rw [if_neg e] at ht
      simp only [restW] at ht
      by_cases e2 : cmp s.1 zs = 0
      · rw [if_pos e2] at ht
        rcases List.mem_append.1 ht with ht | ht
        · obtain ⟨rfl, h⟩ := oneW_mem ht; exact h
        · exact hts t ht
      · rw [if_neg e2] at ht
        rcases List.mem_append.1 ht with ht | ht
        · obtain ⟨rfl, h⟩ := oneW_mem ht; exact h
        · exact h t ht

theorem wOf_one (zs : List Int) (x : Int) (ts : List WRow) (ys : List Int) (h : ∀ t ∈ ts, t.1 ≠ zs) : wOf (oneW zs x ++ ts) ys = wOf ts ys + if zs = ys then x else 0 := by
  unfold oneW
  by_cases e : x = 0
  · rw [if_pos e]; simp [e]
  · rw [if_neg e, List.singleton_append, wOf_cons]
    by_cases e2 : zs = ys
    · subst e2
      rw [if_pos rfl, if_pos rfl, wOf_absent h]; simp
    · rw [if_neg e2, if_neg e2]; simp

theorem putW_wOf {zs : List Int} {x : Int} (ys : List Int) : ∀ {ts : List WRow}, Rises ts → wOf (putW ts zs x) ys = wOf ts ys + if zs = ys then x else 0 := by
  intro ts
  induction ts with
  | nil => intro _; have := wOf_one zs x [] ys (by simp); simpa [putW, restW] using this
  | cons s ts ih =>
    intro h
    obtain ⟨h1, h2⟩ := List.pairwise_cons.1 h
    simp only [putW]
    by_cases e : cmp s.1 zs < 0
    · rw [if_pos e, wOf_cons, wOf_cons, ih h2]
      by_cases e2 : s.1 = ys
      · rw [if_pos e2, if_pos e2, if_neg (fun e3 => cmp_ne e (e2.trans e3.symm))]; simp
      · rw [if_neg e2, if_neg e2]
    · rw [if_neg e]
      simp only [restW]
      by_cases e2 : cmp s.1 zs = 0
      · have es := cmp_eq e2
        rw [if_pos e2, wOf_one _ _ _ _ (fun t ht e' => cmp_ne (h1 t ht) (es.trans e'.symm)), wOf_cons, es]
        by_cases e3 : zs = ys
        · subst e3
          rw [if_pos rfl, if_pos rfl, if_pos rfl, wOf_absent (fun t ht e' => cmp_ne (h1 t ht) (es.trans e'.symm))]; omega
        · rw [if_neg e3, if_neg e3, if_neg e3]
      · rw [if_neg e2]
        have e3 : cmp zs s.1 < 0 := by have := cmp_swap s.1 zs; have := cmp_range s.1 zs; omega
        exact wOf_one _ _ _ _ fun t ht e' => by
          rcases List.mem_cons.1 ht with rfl | ht
          · exact cmp_ne e3 e'.symm
          · exact cmp_ne (cmp_trans e3 (h1 t ht)) e'.symm

theorem wOf_mem {ts : List WRow} (hr : Rises ts) {t : WRow} (h : t ∈ ts) : wOf ts t.1 = t.2 := by
  induction ts with
  | nil => simp at h
  | cons s ts ih =>
    obtain ⟨h1, h2⟩ := List.pairwise_cons.1 hr
    rw [wOf_cons]
    rcases List.mem_cons.1 h with rfl | h
    · simp
    · rw [if_neg (fun e => cmp_ne (h1 t h) e)]; exact ih h2 h
theorem mem_wOf {ts : List WRow} {zs : List Int} (h : wOf ts zs ≠ 0) : (zs, wOf ts zs) ∈ ts := by
  induction ts with
  | nil => exact absurd rfl h
  | cons s ts ih =>
    rw [wOf_cons] at h ⊢
    by_cases e : s.1 = zs
    · rw [if_pos e]; subst e; simp
    · rw [if_neg e] at h ⊢; simp [ih h]

/-- Two rising lists without zeros that have the same weights are one. -/
theorem rises_ext : ∀ {ts us : List WRow}, Rises ts → Rises us → NoZero ts → NoZero us → (∀ zs, wOf ts zs = wOf us zs) → ts = us := by
  intro ts
  induction ts with
  | nil =>
    intro us _ hu _ nu h
    cases us with
    | nil => rfl
    | cons u us =>
      have := h u.1
      rw [wOf_mem hu (by simp), wOf_nil] at this
      exact absurd this.symm (nu u (by simp))
  | cons t ts ih =>
    intro us ht hu nt nu h
    cases us with
    | nil =>
      have := h t.1
      rw [wOf_mem ht (by simp), wOf_nil] at this
      exact absurd this (nt t (by simp))
    | cons u us =>
      obtain ⟨t1, t2⟩ := List.pairwise_cons.1 ht
      obtain ⟨u1, u2⟩ := List.pairwise_cons.1 hu
      have e1 : (t.1, t.2) ∈ u :: us := by
        have := h t.1
        rw [wOf_mem ht (by simp)] at this
        rw [this]; exact mem_wOf (by rw [← this]; exact nt t (by simp))
      have e2 : (u.1, u.2) ∈ t :: ts := by
        have := h u.1
        rw [wOf_mem hu (by simp)] at this
        rw [← this]; exact mem_wOf (by rw [this]; exact nu u (by simp))
      have e : t = u := by
        rcases List.mem_cons.1 e1 with e1 | e1
        · exact e1
        · rcases List.mem_cons.1 e2 with e2 | e2
          · exact e2.symm
          · exact absurd (cmp_trans (u1 _ e1) (t1 _ e2)) (cmp_irrefl _)
      subst e
      congr 1
      refine ih t2 u2 (fun s hs => nt s (by simp [hs])) (fun s hs => nu s (by simp [hs])) fun zs => ?_
      have := h zs
      rw [wOf_cons, wOf_cons] at this
      by_cases e : t.1 = zs
      · subst e
        rw [wOf_absent fun s hs e' => cmp_ne (t1 s hs) e'.symm, wOf_absent fun s hs e' => cmp_ne (u1 s hs) e'.symm]
      · rwa [if_neg e, if_neg e] at this

/-- What rows add at a row. -/
def sumW (l : List WRow) (zs : List Int) : Int := (l.map fun t => if t.1 = zs then t.2 else 0).sum
/-- All rows are put, one by one. -/
def putAll (ts l : List WRow) : List WRow := l.foldl (fun acc t => putW acc t.1 t.2) ts
theorem putAll_nil (ts : List WRow) : putAll ts [] = ts := rfl
theorem putAll_snoc (ts l : List WRow) (t : WRow) : putAll ts (l ++ [t]) = putW (putAll ts l) t.1 t.2 := by simp [putAll]
theorem putAll_take (ts l : List WRow) (k : Nat) (h : k < l.length) : putAll ts (l.take (k + 1)) = putW (putAll ts (l.take k)) (wat l k).1 (wat l k).2 := by rw [wtake_succ l k h, putAll_snoc]
theorem putAll_rises {l : List WRow} : ∀ {ts : List WRow}, Rises ts → Rises (putAll ts l) := by
  induction l with
  | nil => intro ts h; exact h
  | cons t l ih => intro ts h; exact ih (putW_rises h)
theorem putAll_nozero {l : List WRow} : ∀ {ts : List WRow}, NoZero ts → NoZero (putAll ts l) := by
  induction l with
  | nil => intro ts h; exact h
  | cons t l ih => intro ts h; exact ih (putW_nozero h)
theorem putAll_wOf {l : List WRow} (zs : List Int) : ∀ {ts : List WRow}, Rises ts → wOf (putAll ts l) zs = wOf ts zs + sumW l zs := by
  induction l with
  | nil => intro ts h; simp [putAll, sumW]
  | cons t l ih =>
    intro ts h
    have := ih (ts := putW ts t.1 t.2) (putW_rises h)
    rw [putW_wOf zs h] at this
    simp only [putAll, List.foldl_cons] at this ⊢
    rw [this]
    simp only [sumW, List.map_cons, List.sum_cons]
    omega
theorem putW_len {zs : List Int} {x : Int} : ∀ {ts : List WRow}, (putW ts zs x).length ≤ ts.length + 1 := by
  have h1 : ∀ y, (oneW zs y).length ≤ 1 := fun y => by unfold oneW; split <;> simp
  intro ts
  induction ts with
  | nil => simpa [putW, restW] using h1 x
  | cons t ts ih =>
    simp only [putW]
    split
    · simpa using ih
    · simp only [restW]
      split
      · have := h1 (x + t.2); simp; omega
      · have := h1 x; simp; omega
theorem putAll_len (l : List WRow) : ∀ (ts : List WRow), (putAll ts l).length ≤ ts.length + l.length := by
  induction l with
  | nil => intro ts; simp [putAll]
  | cons t l ih => intro ts; have := ih (putW ts t.1 t.2); have := putW_len (zs := t.1) (x := t.2) (ts := ts); simp only [putAll, List.foldl_cons, List.length_cons] at *; omega
/-- Each row of it is one that was there or was put. -/
theorem putAll_rows {l : List WRow} {t : WRow} : ∀ {ts : List WRow}, t ∈ putAll ts l → (∃ s ∈ ts, s.1 = t.1) ∨ ∃ s ∈ l, s.1 = t.1 := by
  induction l with
  | nil => intro ts h; exact .inl ⟨t, h, rfl⟩
  | cons s l ih =>
    intro ts h
    rcases ih (ts := putW ts s.1 s.2) h with ⟨u, hu, e⟩ | ⟨u, hu, e⟩
    · rcases putW_mem hu with h' | h'
      · exact .inl ⟨u, h', e⟩
      · exact .inr ⟨s, by simp, by rw [← e, h']⟩
    · exact .inr ⟨u, by simp [hu], e⟩
/-- Weights stay within what was there and what was put. -/
theorem sumW_bound {l : List WRow} {zs : List Int} {M : Int} (hM : 0 ≤ M) (h : ∀ t ∈ l, -M ≤ t.2 ∧ t.2 ≤ M) : -(M * l.length) ≤ sumW l zs ∧ sumW l zs ≤ M * l.length := by
  induction l with
  | nil => simp [sumW]
  | cons t l ih =>
    have h1 := ih fun s hs => h s (by simp [hs])
    have h2 := h t (by simp)
    have e : M * ((t :: l).length : Int) = M * (l.length : Int) + M := by rw [List.length_cons]; push_cast; rw [Int.mul_add]; omega
    rw [e]
    simp only [sumW, List.map_cons, List.sum_cons] at h1 ⊢
    by_cases e2 : t.1 = zs
    · rw [if_pos e2]; omega
    · rw [if_neg e2]; omega
theorem wOf_bound {ts : List WRow} {zs : List Int} {M : Int} (hM : 0 ≤ M) (h : ∀ t ∈ ts, -M ≤ t.2 ∧ t.2 ≤ M) : -M ≤ wOf ts zs ∧ wOf ts zs ≤ M := by
  by_cases e : wOf ts zs = 0
  · rw [e]; omega
  · exact h _ (mem_wOf e)

end Go.Proofs.Ytecaaekilbdgdaa

/- Contract of spec.l2Put. -/
namespace Go.Proofs.Ytecaaekilbdgdaa
open Go.RowKit

theorem atM_cells {w : World} {b off : Nat} {ts : List WRow} (h : AtM w (some ⟨b, off, none⟩) ts) : ∃ cs, Means w cs ts ∧ ∀ j u, cs[j]? = some u → w.cell? ⟨b, off + j, none⟩ = some u := by
  rcases h with rfl | ⟨b', off', cs, he, hm, hc⟩
  · exact ⟨[], trivial, fun j u h => by simp at h⟩
  · simp only [Option.some.injEq, Addr.mk.injEq, and_true] at he
    obtain ⟨rfl, rfl⟩ := he
    exact ⟨cs, hm, hc⟩
theorem take_cells {cs : List Value} {w : World} {b off : Nat} (hc : ∀ j u, cs[j]? = some u → w.cell? ⟨b, off + j, none⟩ = some u) (k : Nat) : ∀ j u, (cs.take k)[j]? = some u → w.cell? ((⟨b, off, none⟩ : Addr).add j) = some u := fun j u hj => by
  rw [Addr.add_lit]
  refine hc j u ?_
  rw [List.getElem?_take] at hj
  split at hj
  · exact hj
  · cases hj
theorem drop_cells {cs : List Value} {w : World} {b off : Nat} (hc : ∀ j u, cs[j]? = some u → w.cell? ⟨b, off + j, none⟩ = some u) (k : Nat) : ∀ j u, (cs.drop k)[j]? = some u → w.cell? ((⟨b, off + k, none⟩ : Addr).add j) = some u := fun j u hj => by
  rw [Addr.add_lit]
  rw [List.getElem?_drop] at hj
  rw [show off + k + j = off + (k + j) by omega]
  exact hc _ _ hj
theorem owns_cap {w : World} {base : Nat} {e : TypeId} {size : Nat} {a : Option Addr} {n c : Nat} {xs : List Value} (h : w.ownsRow base e size (.slice a n c) n xs) : n ≤ c := by
  rcases h.2 with ⟨h', h0⟩ | ⟨g, cap, cur, h', _, _, h1, _⟩
  · simp at h'; omega
  · simp at h'; omega
/-- A slice's head as Go makes them. -/
def Formed (a : Option Addr) (n c : Nat) : Prop := n ≤ c ∧ (a = none → c = 0) ∧ ∀ ad, a = some ad → ∃ b off, ad = ⟨b, off, none⟩
theorem Formed.nil : Formed none 0 0 := ⟨Nat.le_refl _, fun _ => rfl, fun _ h => by cases h⟩
theorem Formed.some {b off n c : Nat} (h : n ≤ c) : Formed (Option.some ⟨b, off, none⟩) n c := ⟨h, fun h => (by cases h), fun ad h => ⟨b, off, by cases h; rfl⟩⟩
theorem owns_formed {w : World} {base : Nat} {e : TypeId} {size : Nat} {a : Option Addr} {n c : Nat} {xs : List Value} (h : w.ownsRow base e size (.slice a n c) n xs) : Formed a n c := by
  rcases h.2 with ⟨h', h0⟩ | ⟨g, cap, cur, h', _, _, h1, _⟩
  · simp at h'
    obtain ⟨rfl, rfl, rfl⟩ := h'
    exact Formed.nil
  · simp at h'
    obtain ⟨rfl, rfl⟩ := h'
    exact Formed.some h1
theorem oneW_no {zs : List Int} {x : Int} (h : x = 0) : oneW zs x = [] := if_pos h
theorem oneW_yes {zs : List Int} {x : Int} (h : x ≠ 0) : oneW zs x = [(zs, x)] := if_neg h

end Go.Proofs.Ytecaaekilbdgdaa

/- Contracts of slices.Grow, slices.Concat at []int: a nil slice grown, two slices put together. An append at a region's step that draws. -/
namespace Go.Proofs.Ytecaaekilbdgdaa
open Go.RowKit

/-- 'append(out, xs...)' of whatever ints, at a step of a region that draws. -/
theorem step_append_all {P : Program} {w : World} {ops : Array Oper} {o : Oper} {a : Act} {K : Act → World → Prop} {Q : Exit → Act → World → Prop} {E : Prop} (hgd : o.guard = none) (s x : Operand) (t : TypeId)
    (ho : o.op = .call { callee := .builtin .append, args := #[s, x], argTypes := #[t, t] })
    (base : Nat) (e : TypeId) (i : TypeInfo) (z : Value) (bytes : Nat) (ht : P.underlying t = some (.slice e)) (hi : P.info? e = some i) (hz : i.zero = some z)
    (hsize : i.size = 1) (hby : i.bytes = bytes) (hzs : z.cells.size = 1)
    (v : Value) (n : Nat) (xs : List Value) (hs : a.eval s = v) (hown : w.ownsRow base e 1 v n xs)
    (ao : Option Addr) (m c : Nat) (zs : List Int) (hx : a.eval x = .slice ao m c) (hl : zs.length = m) (hat : At w ao zs) (hnil : ao = none → c = 0)
    (h63 : n + m ≤ maxLen) (hbytes : (n + m) * bytes ≤ 140737488355328) (hbase : base ≤ w.heap.size)
    (h : ∀ r cap w', w'.ownsRow base e 1 (.slice r (n + m) cap) (n + m) (xs ++ zs.map (.int .i64)) → w.grownBy w' v.ownBlock → ((Value.slice r (n + m) cap).ownBlock = v.ownBlock ∨ (Value.slice r (n + m) cap).ownBlock = some w.heap.size) → K (a.put o.dst (.slice r (n + m) cap)) w') :
    if Region.wanted o (yielded ops a.tmps) = true then Oper.wp P o a w K Q else E := by
  have hw : Region.wanted o (yielded ops a.tmps) = true := by simp [Region.wanted, hgd]
  rw [if_pos hw]
  cases ao with
  | none =>
    have hc := hnil rfl
    have hzs' : zs = [] := by
      rcases hat with h | ⟨b, off, h, _⟩
      · exact h
      · cases h
    subst hzs' hc
    simp at hl
    subst hl
    obtain ⟨r, cap, rfl⟩ := owns_slice hown
    have hrun := run_append_owned_none (P := P) (w := w) base t o.type e i 1 ht hi (.slice r n cap) n xs hown
    have := h r cap w (by simpa using hown) (World.grownBy.refl _ _) (.inl rfl)
    unfold Oper.wp
    simp [execOp, ho, resolve, invoke, builtin, hs, hx, hrun, Result.andThen]
    rw [Nat.add_zero] at this
    exact this
  | some ad =>
    obtain ⟨v', w', hr, h2, h3, _, h5⟩ := run_append_own_at (P := P) w base t o.type e i z 1 bytes ht hi hz hsize hby hzs (by decide) v n xs hown ad m c (zs.map (.int .i64)) (by simpa using hl) (fun j u hj => by
      have hjl : j < zs.length := by
        have := (List.getElem?_eq_some_iff.1 hj).1
        simpa using this
      obtain ⟨b, off, he, _, hc⟩ := hat.some (by omega)
      simp only [Option.some.injEq] at he
      subst he
      rw [Addr.add_lit, hc j hjl]
      simpa [List.getD, hjl] using hj) (fun u hu => by
      obtain ⟨y, _, rfl⟩ := List.mem_map.1 hu
      rfl) h63 hbytes hbase
    obtain ⟨r, cap, rfl⟩ := owns_slice h2
    unfold Oper.wp execOp
    simp only [ho, resolve, invoke, builtin, Sem.run_bind, Sem.run_pure, Result.andThen_ok, List.map_toArray, List.map_cons, List.map_nil, hs, hx, hr]
    exact h r cap w' h2 h3 h5

end Go.Proofs.Ytecaaekilbdgdaa
