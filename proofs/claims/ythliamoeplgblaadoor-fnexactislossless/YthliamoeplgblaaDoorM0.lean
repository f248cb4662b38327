/- Several texts of one proof, in build order: Ground, Plain, TbP, GroundS. -/
import Derived.WalkKit
import Derived.WalkSpells
import Derived.WalkLawsBesides
import Derived.Deep.RegionHeld3
import Derived.Deep.RegionWith
import Derived.Deep.QuietTactic
import Derived.BigQuiet

/- Plain facts on worlds and lists that the walks of this seat lean on; no Go function is spoken of here. -/
namespace Go.Proofs.YthliamoeplgblaaDoor
open Go.RowKit

/-- A slice of ints with the address a holds the numbers zs in the world w. -/
def At (w : World) (a : Option Addr) (zs : List Int) : Prop :=
  zs = [] ∨ ∃ b off, a = some ⟨b, off, none⟩ ∧ ∀ i, i < zs.length → w.cell? ⟨b, off + i, none⟩ = some (.int .i64 (zs.getD i 0))

theorem At.nil (w : World) (a : Option Addr) : At w a [] := .inl rfl

theorem At.below {w w' : World} {a : Option Addr} {zs : List Int} (h : At w a zs) (hb : Below w.heap.size w w') : At w' a zs := by
  rcases h with h | ⟨b, off, rfl, hc⟩
  · exact .inl h
  · refine .inr ⟨b, off, rfl, fun i hi => ?_⟩
    have := hc i hi
    rw [hb.cell (World.block_lt_of_cell? w _ this)]
    exact this

theorem At.alloc {w : World} {a : Option Addr} {zs : List Int} (h : At w a zs) (o : Obj) : At (w.alloc o) a zs :=
  h.below ((Below.refl _ _).alloc (Nat.le_refl _) o)

theorem At.drew {w : World} {a : Option Addr} {zs : List Int} (h : At w a zs) : At w.drew a zs := h.below (Below.refl _ _).drew

theorem At.some {w : World} {a : Option Addr} {zs : List Int} (h : At w a zs) (hp : 0 < zs.length) :
    ∃ b off, a = Option.some ⟨b, off, none⟩ ∧ b < w.heap.size ∧ ∀ i, i < zs.length → w.cell? ⟨b, off + i, none⟩ = Option.some (.int .i64 (zs.getD i 0)) := by
  rcases h with rfl | ⟨b, off, rfl, hc⟩
  · simp at hp
  · exact ⟨b, off, rfl, World.block_lt_of_cell? w _ (hc 0 hp), hc⟩

theorem At.owned {w : World} {base : Nat} {e : TypeId} {a : Option Addr} {n c : Nat} {zs : List Int}
    (h : w.ownsRow base e 1 (.slice a n c) n (zs.map (.int .i64))) : At w a zs := by
  have hl := h.1
  rcases h.2 with ⟨h', rfl⟩ | ⟨g, cap, cur, h', _⟩
  · left; simpa using hl
  · right
    simp only [Value.slice.injEq, true_and] at h'
    obtain ⟨rfl, rfl⟩ := h'
    refine ⟨g, 0, rfl, fun i hi => ?_⟩
    rw [Nat.zero_add, h.cellAt i (by simp at hl; omega)]
    simp [List.getD, hi]

theorem bcell {W w1 : World} (hb : Below W.heap.size W w1) : (∀ b o, b < W.heap.size → w1.cell? ⟨b, o, none⟩ = W.cell? ⟨b, o, none⟩) ∧ (∀ b o, b < W.heap.size → w1.frozen? ⟨b, o, none⟩ = W.frozen? ⟨b, o, none⟩) :=
  ⟨fun b o h => hb.cell (p := ⟨b, o, none⟩) h, fun b o h => hb.frozen (p := ⟨b, o, none⟩) h⟩

theorem owns_mono {w : World} {base base' : Nat} {e : TypeId} {size : Nat} {v : Value} {n : Nat} {xs : List Value} (h : w.ownsRow base e size v n xs) (hb : base' ≤ base) : w.ownsRow base' e size v n xs := by
  refine ⟨h.1, ?_⟩
  rcases h.2 with hn | ⟨g, cap, cur, rfl, hbb, rest⟩
  · exact .inl hn
  · exact .inr ⟨g, cap, cur, rfl, by omega, rest⟩

theorem owns_below {w w' : World} {base : Nat} {e : TypeId} {size : Nat} {v : Value} {n : Nat} {xs : List Value} (h : w.ownsRow base e size v n xs) (hb : Below w.heap.size w w') : w'.ownsRow base e size v n xs := by
  refine ⟨h.1, ?_⟩
  rcases h.2 with hn | ⟨g, cap, cur, rfl, hbb, hg, rest⟩
  · exact .inl hn
  · exact .inr ⟨g, cap, cur, rfl, hbb, (hb.block g (Array.getElem?_eq_some_iff.1 hg).1).trans hg, rest⟩

theorem grown_trans {a b c : World} {row : Option Nat} (h : a.grownBy b row) (k : b.grownBy c row) : a.grownBy c row :=
  ⟨k.os.trans h.os, k.tape.trans h.tape, k.output.trans h.output, Nat.le_trans h.size k.size, fun i hi hn => (k.block i (Nat.lt_of_lt_of_le hi h.size) hn).trans (h.block i hi hn)⟩

theorem grown_undrew {w w' : World} {row : Option Nat} (h : w.drew.grownBy w' row) : w.grownBy w' row := ⟨h.os, h.tape, h.output, h.size, h.block⟩
theorem grown_alloc {w w' : World} {o : Obj} {row : Option Nat} (h : (w.alloc o).grownBy w' row) : w.grownBy w' row := grown_trans (World.grownBy_alloc w o row) h

theorem ret_int {k : IntKind} {a b : Int} (h : a = b) : Ending.returned (.int k a) = .returned (.int k b) := by rw [h]
theorem ret_bool {a b : Bool} (h : a = b) : Ending.returned (.bool a) = .returned (.bool b) := by rw [h]

/-- Block g is an array of the numbers xs, free to be written. -/
def Arr (w : World) (g : Nat) (t : TypeId) (xs : List Int) : Prop := w.heap[g]? = some (.cells (xs.map (Value.int .i64)).toArray t (0, 0))

theorem Arr.cell {w : World} {g : Nat} {t : TypeId} {xs : List Int} (h : Arr w g t xs) (k : Nat) (hk : k < xs.length) : w.cell? ⟨g, k, none⟩ = some (.int .i64 (xs.getD k 0)) := by
  rw [cell_of_row w g k _ t (0, 0) h]
  simp [List.getD, hk]
theorem Arr.frozen {w : World} {g : Nat} {t : TypeId} {xs : List Int} (h : Arr w g t xs) (k : Nat) : w.frozen? ⟨g, k, none⟩ = false := frozen_of_row w g k _ t h
theorem Arr.set {w : World} {g : Nat} {t : TypeId} {xs : List Int} (h : Arr w g t xs) (k : Nat) (v : Int) : Arr (w.setCell ⟨g, k, none⟩ (.int .i64 v)) g t (xs.set k v) := by
  have := heap_setCell_same w g k _ t (.int .i64 v) h
  unfold Arr
  rw [this]
  simp [List.map_set]
theorem Arr.other {w : World} {g : Nat} {t : TypeId} {xs : List Int} (h : Arr w g t xs) (a : Addr) (hg : g ≠ a.block) (v : Value) : Arr (w.setCell a v) g t xs := (Below.heap_setCell w a v g hg).trans h
theorem Arr.below {w w' : World} {g : Nat} {t : TypeId} {xs : List Int} {B : Nat} (h : Arr w g t xs) (hb : Below B w w') (hg : g < B) : Arr w' g t xs := (hb.block g hg).trans h

theorem Arr.new {w : World} {cs : Array Value} {t : TypeId} {xs : List Int} {g : Nat} (hg : g = w.heap.size) (hcs : cs = (xs.map (Value.int .i64)).toArray) : Arr (w.alloc (.cells cs t)) g t xs := by
  subst hg hcs; exact heap_alloc_new w _
theorem Arr.alloc {w : World} {g : Nat} {t : TypeId} {xs : List Int} (h : Arr w g t xs) (o : Obj) : Arr (w.alloc o) g t xs :=
  (Below.heap_alloc w o g (Array.getElem?_eq_some_iff.1 h).1).trans h

theorem list6 {xs : List Int} (h : xs.length = 6) : ∃ x0 x1 x2 x3 x4 x5, xs = [x0, x1, x2, x3, x4, x5] := by
  match xs, h with
  | [x0, x1, x2, x3, x4, x5], _ => exact ⟨x0, x1, x2, x3, x4, x5, rfl⟩

theorem ret_ib {k : IntKind} {a b : Int} {p q : Bool} (h : a = b) (h' : p = q) : Ending.returned (.tuple #[.int k a, .bool p]) = .returned (.tuple #[.int k b, .bool q]) := by rw [h, h']

theorem news_at (w : World) (cs : Array Value) (t : TypeId) : ∀ (j : Nat) (u : Value), cs.toList[j]? = some u → (w.alloc (.cells cs t)).cell? ((⟨w.heap.size, 0, none⟩ : Addr).add j) = some u := by
  intro j u hj
  rw [Addr.add_lit, Nat.zero_add, World.cell?_alloc_new]
  simpa using hj

/-- A variable of one slice (block R), whose cells, the call's own from 'base' on, hold the numbers zs. -/
def RowVar (w : World) (R : Nat) (t : TypeId) (base : Nat) (e : TypeId) (a : Option Addr) (n c : Nat) (zs : List Int) : Prop :=
  zs.length = n ∧ R < base ∧ w.heap[R]? = some (.cells #[.slice a n c] t (0, 0)) ∧ w.ownsRow base e 1 (.slice a n c) n (zs.map (.int .i64))

theorem RowVar.cell {w : World} {R : Nat} {t : TypeId} {base : Nat} {e : TypeId} {a : Option Addr} {n c : Nat} {zs : List Int} (h : RowVar w R t base e a n c zs) : w.cell? ⟨R, 0, none⟩ = some (.slice a n c) := by
  rw [cell_of_row w R 0 _ t (0, 0) h.2.2.1]; simp
theorem RowVar.frozen {w : World} {R : Nat} {t : TypeId} {base : Nat} {e : TypeId} {a : Option Addr} {n c : Nat} {zs : List Int} (h : RowVar w R t base e a n c zs) : w.frozen? ⟨R, 0, none⟩ = false := frozen_of_row w R 0 _ t h.2.2.1
theorem RowVar.own {w : World} {R : Nat} {t : TypeId} {base : Nat} {e : TypeId} {a : Option Addr} {n c : Nat} {zs : List Int} (h : RowVar w R t base e a n c zs) : w.ownsRow base e 1 (.slice a n c) n (zs.map (.int .i64)) := h.2.2.2
theorem RowVar.below {w w' : World} {R : Nat} {t : TypeId} {base : Nat} {e : TypeId} {a : Option Addr} {n c : Nat} {zs : List Int} (h : RowVar w R t base e a n c zs) (hb : Below w.heap.size w w') : RowVar w' R t base e a n c zs :=
  ⟨h.1, h.2.1, (hb.block R (Array.getElem?_eq_some_iff.1 h.2.2.1).1).trans h.2.2.1, owns_below h.2.2.2 hb⟩
theorem RowVar.new {w : World} {R : Nat} {t : TypeId} {base : Nat} {e : TypeId} (hR : R = w.heap.size) (hb : R < base) : RowVar (w.alloc (.cells #[.slice none 0 0] t)) R t base e none 0 0 [] :=
  ⟨rfl, hb, by subst hR; exact heap_alloc_new w _, World.ownsRow_nil _ _ _ _⟩

/-- Behind 'x.f = append(x.f, v)': the append's world w1, and the store. -/
theorem RowVar.pushed {w w1 : World} {R : Nat} {t : TypeId} {base : Nat} {e : TypeId} {a : Option Addr} {n c g cap : Nat} {zs : List Int} {x : Int} {o : Obj} (h : RowVar w R t base e a n c zs)
    (hown : w1.ownsRow base e 1 (.slice (some ⟨g, 0, none⟩) (n + 1) cap) (n + 1) (zs.map (.int .i64) ++ [.int .i64 x])) (hg : (w.alloc o).grownBy w1 (Value.slice a n c).ownBlock) :
    w1.cell? ⟨R, 0, none⟩ = some (.slice a n c) ∧ w1.frozen? ⟨R, 0, none⟩ = false ∧
      RowVar (w1.setCell ⟨R, 0, none⟩ (.slice (some ⟨g, 0, none⟩) (n + 1) cap)) R t base e (some ⟨g, 0, none⟩) (n + 1) cap (zs ++ [x]) := by
  have hlt := (Array.getElem?_eq_some_iff.1 h.2.2.1).1
  have hR : w1.heap[R]? = some (.cells #[.slice a n c] t (0, 0)) := by
    rw [hg.block R (by simp; omega) (fun e' => by have := (h.2.2.2.lt R e'.symm).1; have := h.2.1; omega), Below.heap_alloc w o R hlt]
    exact h.2.2.1
  refine ⟨by rw [cell_of_row w1 R 0 _ t (0, 0) hR]; simp, frozen_of_row w1 R 0 _ t hR, ?_, h.2.1, ?_, ?_⟩
  · simp [h.1]
  · rw [heap_setCell_same w1 R 0 _ t _ hR]; simp
  · rw [List.map_append]
    exact ownsRow_setCell_below hown h.2.1 _

theorem RowVar.pushed_below {w w1 : World} {R : Nat} {t : TypeId} {base : Nat} {e : TypeId} {a : Option Addr} {n c : Nat} {zs : List Int} {o : Obj} {B : Nat} {W : World} {v : Value} (h : RowVar w R t base e a n c zs)
    (hg : (w.alloc o).grownBy w1 (Value.slice a n c).ownBlock) (hB : Below B W w) (hBR : B ≤ R) : Below B W (w1.setCell ⟨R, 0, none⟩ v) := by
  have hlt := (Array.getElem?_eq_some_iff.1 h.2.2.1).1
  have hb := h.2.1
  exact ((hB.alloc (by omega) o).grown hg (by simp; omega) (fun j hj => by have := (h.2.2.2.lt j hj).1; omega)).setCell hBR _

theorem frozen_later {w wx : World} {a : Addr} {v : Value} {p : Bool} (hb : Below w.heap.size w wx) (hc : w.cell? a = some v) (h : w.frozen? a = p) : wx.frozen? a = p :=
  (hb.frozen (World.block_lt_of_cell? _ _ hc)).trans h
theorem ret_rb {v v' : Value} {p q : Bool} (h : v = v') (h' : p = q) : Ending.returned (.tuple #[v, .bool p]) = .returned (.tuple #[v', .bool q]) := by rw [h, h']
theorem own_apart {v v' : Value} {lo hi lo' hi' : Nat} (h : ∀ k, v.ownBlock = some k → lo ≤ k ∧ k < hi) (h' : ∀ k, v'.ownBlock = some k → lo' ≤ k ∧ k < hi') (ha : hi ≤ lo' ∨ hi' ≤ lo) : v.ownBlock = none ∨ v.ownBlock ≠ v'.ownBlock := by
  cases hv : v.ownBlock with
  | none => exact .inl rfl
  | some k => exact .inr (fun e => by have := h k hv; have := h' k e.symm; omega)
theorem drew_size (w : World) : w.drew.heap.size = w.heap.size := rfl
theorem Hid.mk {p : Prop} (h : p) : Hid p := h

/-- The first k cells are those of the numbers zs. -/
def Upto (cs : List Value) (zs : List Int) (k : Nat) : Prop := cs.length = zs.length ∧ ∀ j, j < k → cs[j]? = some (.int .i64 (zs.getD j 0))

theorem Upto.zero {cs : List Value} {zs : List Int} (h : cs.length = zs.length) : Upto cs zs 0 := ⟨h, fun j hj => by omega⟩

theorem Upto.set {cs : List Value} {zs : List Int} {k : Nat} (h : Upto cs zs k) (hk : k < zs.length) : Upto (cs.set k (.int .i64 (zs.getD k 0))) zs (k + 1) := by
  refine ⟨by simpa using h.1, fun j hj => ?_⟩
  rw [List.getElem?_set]
  have hl := h.1
  by_cases e : k = j
  · subst e; rw [if_pos rfl, if_pos (by omega)]
  · rw [if_neg e]; exact h.2 j (by omega)

theorem Upto.all {cs : List Value} {zs : List Int} {k : Nat} (h : Upto cs zs k) (hk : zs.length ≤ k) : cs = zs.map (.int .i64) := by
  apply List.ext_getElem?
  intro j
  by_cases hj : j < zs.length
  · rw [h.2 j (by omega)]; simp [List.getD, hj]
  · rw [List.getElem?_eq_none (by have := h.1; omega), List.getElem?_eq_none (by simp; omega)]

theorem take_succ_getD (zs : List Int) (k : Nat) (h : k < zs.length) : zs.take (k + 1) = zs.take k ++ [zs.getD k 0] := by
  rw [List.take_succ_eq_append_getElem h]; simp [List.getD, h]

theorem take_all_eq {zs zs' : List Int} {k : Nat} (h1 : zs.length ≤ k) (h2 : zs'.length ≤ k) (h : zs.take k = zs'.take k) : zs = zs' := by
  rwa [List.take_of_length_le h1, List.take_of_length_le h2] at h

theorem ne_of_getD {zs zs' : List Int} {k : Nat} (h : zs.getD k 0 ≠ zs'.getD k 0) : zs ≠ zs' := fun e => h (by rw [e])

/-- The numbers that the laws mark n cells with, from k on. -/
def marks (k : Int) (n : Nat) : List Int := (List.range n).map fun (i : Nat) => k + (i : Int)
theorem marks_length (k : Int) (n : Nat) : (marks k n).length = n := by simp [marks]
theorem marks_getD (k : Int) (n j : Nat) (h : j < n) : (marks k n).getD j 0 = k + j := by simp [marks, List.getD, h]

end Go.Proofs.YthliamoeplgblaaDoor

/- Plain functions on lists of numbers: what the program's row functions answer. -/
namespace Go.Proofs.YthliamoeplgblaaDoor

def inb (z : Int) : Bool := decide (-100000 ≤ z) && decide (z ≤ 100000)
/-- A good row's cells. -/
def good (zs : List Int) : Bool := decide (zs.length ≤ 6) && zs.all inb

theorem good_len {zs : List Int} (h : good zs = true) : zs.length ≤ 6 := by simp [good] at h; exact h.1
theorem good_cell {zs : List Int} (h : good zs = true) (k : Nat) (hk : k < zs.length) : -100000 ≤ zs.getD k 0 ∧ zs.getD k 0 ≤ 100000 := by
  simp [good, inb] at h
  have := h.2 (zs[k]) (List.getElem_mem hk)
  simpa [List.getD, hk] using this
theorem good_long {zs : List Int} (h : 6 < zs.length) : good zs = false := by simp [good]; omega
theorem not_good_cell {zs : List Int} (k : Nat) (hk : k < zs.length) (h : zs.getD k 0 < -100000 ∨ 100000 < zs.getD k 0) : good zs = false := by
  cases hg : good zs with
  | false => rfl
  | true => have := good_cell hg k hk; omega
theorem good_of {zs : List Int} (hl : zs.length ≤ 6) (h : ∀ k, k < zs.length → -100000 ≤ zs.getD k 0 ∧ zs.getD k 0 ≤ 100000) : good zs = true := by
  simp only [good, Bool.and_eq_true, decide_eq_true_eq, List.all_eq_true, inb]
  refine ⟨hl, fun x hx => ?_⟩
  obtain ⟨k, hk, rfl⟩ := List.getElem_of_mem hx
  simpa [List.getD, hk] using h k hk

/-- Cell by cell; the first unlike one decides; a row that ends there is less. -/
def cmp : List Int → List Int → Int
  | [], [] => 0
  | [], _ :: _ => -1
  | _ :: _, [] => 1
  | x :: xs, y :: ys => if x < y then -1 else if y < x then 1 else cmp xs ys

theorem cmp_drop (xs ys : List Int) (k : Nat) (h1 : k < xs.length) (h2 : k < ys.length) :
    cmp (xs.drop k) (ys.drop k) = if xs.getD k 0 < ys.getD k 0 then -1 else if ys.getD k 0 < xs.getD k 0 then 1 else cmp (xs.drop (k + 1)) (ys.drop (k + 1)) := by
  rw [List.drop_eq_getElem_cons h1, List.drop_eq_getElem_cons h2, cmp]
  simp [List.getD, h1, h2]

theorem cmp_end (xs ys : List Int) (k : Nat) (h : k = xs.length ∨ k = ys.length) (h1 : k ≤ xs.length) (h2 : k ≤ ys.length) :
    cmp (xs.drop k) (ys.drop k) = if xs.length < ys.length then -1 else if ys.length < xs.length then 1 else 0 := by
  rcases h with rfl | rfl
  · rw [List.drop_length]
    by_cases e : xs.length = ys.length
    · rw [List.drop_eq_nil_of_le (by omega), if_neg (by omega), if_neg (by omega)]; rfl
    · rw [List.drop_eq_getElem_cons (by omega), if_pos (by omega)]; rfl
  · rw [List.drop_length]
    by_cases e : xs.length = ys.length
    · rw [List.drop_eq_nil_of_le (by omega), if_neg (by omega), if_neg (by omega)]; rfl
    · rw [List.drop_eq_getElem_cons (by omega), if_neg (by omega), if_pos (by omega)]; rfl

theorem cmp_self (xs : List Int) : cmp xs xs = 0 := by
  induction xs with
  | nil => rfl
  | cons x xs ih => simp [cmp, ih]

def good2 (xs ys : List Int) : Bool := good xs && good ys
def cmpAns (xs ys : List Int) : Int := if good xs && good ys then cmp xs ys else 0

/-- A cell's three bytes. -/
def cellNums (z : Int) : List Int := [(z + 100000) / 65536, (z + 100000) / 256 % 256, (z + 100000) % 256]
def rowNumsTo (zs : List Int) (k : Nat) : List Int := (zs.length : Int) :: (zs.take k).flatMap cellNums
def rowNums (zs : List Int) : List Int := (zs.length : Int) :: zs.flatMap cellNums

theorem take_snocD (zs : List Int) (k : Nat) (h : k < zs.length) : zs.take (k + 1) = zs.take k ++ [zs.getD k 0] := by
  rw [List.take_succ_eq_append_getElem h]; simp [List.getD, h]
theorem rowNumsTo_succ (zs : List Int) (k : Nat) (h : k < zs.length) : rowNumsTo zs (k + 1) = rowNumsTo zs k ++ cellNums (zs.getD k 0) := by
  unfold rowNumsTo
  rw [take_snocD zs k h, List.flatMap_append]
  simp only [List.flatMap_cons, List.flatMap_nil, List.append_nil, List.cons_append]
theorem rowNumsTo_all (zs : List Int) : rowNumsTo zs zs.length = rowNums zs := by simp [rowNumsTo, rowNums]
theorem rowNumsTo_length (zs : List Int) (k : Nat) (h : k ≤ zs.length) : (rowNumsTo zs k).length = 1 + 3 * k := by
  induction k with
  | zero => simp [rowNumsTo]
  | succ k ih => rw [rowNumsTo_succ zs k (by omega), List.length_append, ih (by omega)]; simp [cellNums]; omega

/-- The row itself where it is good, else the empty one. -/
def goodOr (zs : List Int) : List Int := if good zs then zs else []

def byt (s : ByteArray) (k : Nat) : Nat := (s.data.toList.getD k 0).toNat
/-- The j-th cell that a row's bytes tell. -/
def cellAt (s : ByteArray) (j : Nat) : Int := (byt s (1 + 3 * j) : Int) * 65536 + (byt s (1 + 3 * j + 1) : Int) * 256 + (byt s (1 + 3 * j + 2) : Int) - 100000
def cellsTo (s : ByteArray) (k : Nat) : List Int := (List.range k).map (cellAt s)
theorem byt_lt (s : ByteArray) (k : Nat) : byt s k < 256 := (s.data.toList.getD k 0).toNat_lt
theorem byt_at (s : ByteArray) (k : Nat) (h : k < s.size) : (s[k]'h).toNat = byt s k := by
  have h' : k < s.data.size := h
  unfold byt
  rw [show s.data.toList.getD k 0 = s[k] from by simp only [List.getD, Array.getElem?_toList, Array.getElem?_eq_getElem h', Option.getD_some]; rfl]
theorem cellsTo_succ (s : ByteArray) (k : Nat) : cellsTo s (k + 1) = cellsTo s k ++ [cellAt s k] := by simp [cellsTo, List.range_succ]
theorem cellsTo_length (s : ByteArray) (k : Nat) : (cellsTo s k).length = k := by simp [cellsTo]

/-- A good row's cells raised above 0, and 0 behind the last one. -/
def raised (zs : List Int) : List Int := zs.map (· + 100001) ++ List.replicate (6 - zs.length) 0

theorem cmp_raised' (xs : List Int) : ∀ (ys : List Int) (a b : Nat), (∀ x ∈ xs, -100000 ≤ x) → (∀ y ∈ ys, -100000 ≤ y) → xs.length + a = ys.length + b →
    cmp (xs.map (· + 100001) ++ List.replicate a 0) (ys.map (· + 100001) ++ List.replicate b 0) = cmp xs ys := by
  induction xs with
  | nil =>
    intro ys a b _ hy hl
    cases ys with
    | nil => simp at hl; subst hl; simp [cmp_self, cmp]
    | cons y ys =>
      obtain ⟨a', rfl⟩ : ∃ a', a = a' + 1 := ⟨a - 1, by simp at hl; omega⟩
      have := hy y (by simp)
      simp [List.replicate_succ, cmp]
      omega
  | cons x xs ih =>
    intro ys a b hx hy hl
    have h0 := hx x (by simp)
    cases ys with
    | nil =>
      obtain ⟨b', rfl⟩ : ∃ b', b = b' + 1 := ⟨b - 1, by simp at hl; omega⟩
      simp only [List.map_cons, List.cons_append, List.map_nil, List.nil_append, List.replicate_succ, cmp]
      rw [if_neg (by omega), if_pos (by omega)]
    | cons y ys =>
      have h1 := hy y (by simp)
      simp only [List.map_cons, List.cons_append, cmp]
      rw [ih ys a b (fun z hz => hx z (by simp [hz])) (fun z hz => hy z (by simp [hz])) (by simp at hl; omega)]
      by_cases e1 : x < y
      · rw [if_pos (by omega), if_pos e1]
      · rw [if_neg (by omega), if_neg e1]
        by_cases e2 : y < x
        · rw [if_pos (by omega), if_pos e2]
        · rw [if_neg (by omega), if_neg e2]

theorem good_mem {zs : List Int} (h : good zs = true) : ∀ z ∈ zs, -100000 ≤ z ∧ z ≤ 100000 := by
  simp only [good, Bool.and_eq_true, List.all_eq_true, inb, decide_eq_true_eq] at h
  exact h.2

theorem cmp_raised {xs ys : List Int} (hx : good xs = true) (hy : good ys = true) : cmp (raised xs) (raised ys) = cmp xs ys := by
  have h1 := good_len hx
  have h2 := good_len hy
  exact cmp_raised' xs ys _ _ (fun z hz => (good_mem hx z hz).1) (fun z hz => (good_mem hy z hz).1) (by omega)

/-- The array while it is filled. -/
def rowTo (zs : List Int) (k : Nat) : List Int := (zs.take k).map (· + 100001) ++ List.replicate (6 - k) 0

theorem rowTo_length (zs : List Int) (k : Nat) (h : k ≤ zs.length) (h6 : k ≤ 6) : (rowTo zs k).length = 6 := by simp [rowTo]; omega

theorem rowTo_set (zs : List Int) (k : Nat) (h : k < zs.length) (h6 : k < 6) : (rowTo zs k).set k (zs.getD k 0 + 100001) = rowTo zs (k + 1) := by
  unfold rowTo
  rw [List.set_append_right _ _ (by simp; omega)]
  rw [show k - (List.map (· + 100001) (List.take k zs)).length = 0 by simp; omega]
  rw [show 6 - k = (6 - (k + 1)) + 1 by omega, List.replicate_succ, List.set_cons_zero]
  rw [List.take_succ_eq_append_getElem h, List.map_append, List.append_assoc]
  simp [List.getD, h]

theorem rowTo_all (zs : List Int) : rowTo zs zs.length = raised zs := by simp [rowTo, raised]

theorem raised_length {zs : List Int} (h : zs.length ≤ 6) : (raised zs).length = 6 := by simp [raised]; omega

end Go.Proofs.YthliamoeplgblaaDoor

/- Plain: good tableaus. -/
namespace Go.Proofs.YthliamoeplgblaaDoor

def rowOk (C : Int) (z : List Int) : Bool := good z && decide ((z.length : Int) = C) && z.all (fun x => decide (0 ≤ x))
/-- A tableau of C columns that is good. -/
def tbB (C : Int) (zss : List (List Int)) : Bool := (decide (1 ≤ C) && decide (C ≤ 6)) && (decide (1 ≤ zss.length) && decide (zss.length ≤ 8)) && zss.all (rowOk C)

theorem rowOk_good {C : Int} {z : List Int} (h : rowOk C z = true) : good z = true := by simp [rowOk] at h; exact h.1.1
theorem rowOk_len {C : Int} {z : List Int} (h : rowOk C z = true) : (z.length : Int) = C := by simp [rowOk] at h; exact h.1.2
theorem rowOk_cell {C : Int} {z : List Int} (h : rowOk C z = true) (k : Nat) (hk : k < z.length) : 0 ≤ z.getD k 0 ∧ z.getD k 0 ≤ 100000 := by
  have h1 := good_cell (rowOk_good h) k hk
  simp [rowOk] at h
  have h2 := h.2 z[k] (List.getElem_mem hk)
  refine ⟨?_, h1.2⟩
  simpa [List.getD, hk] using h2
theorem rowOk_of {C : Int} {z : List Int} (hg : good z = true) (hl : (z.length : Int) = C) (h : ∀ k, k < z.length → 0 ≤ z.getD k 0) : rowOk C z = true := by
  simp only [rowOk, hg, Bool.true_and, Bool.and_eq_true, decide_eq_true_eq, List.all_eq_true]
  refine ⟨hl, fun x hx => ?_⟩
  obtain ⟨k, hk, rfl⟩ := List.getElem_of_mem hx
  simpa [List.getD, hk] using h k hk
theorem tbB_C {C : Int} {zss : List (List Int)} (h : tbB C zss = true) : 1 ≤ C ∧ C ≤ 6 := by simp [tbB] at h; exact h.1.1
theorem tbB_n {C : Int} {zss : List (List Int)} (h : tbB C zss = true) : 1 ≤ zss.length ∧ zss.length ≤ 8 := by simp [tbB] at h; exact h.1.2
theorem tbB_row {C : Int} {zss : List (List Int)} (h : tbB C zss = true) {k : Nat} {z : List Int} (hz : zss[k]? = some z) : rowOk C z = true := by
  have h1 : zss.all (rowOk C) = true := by simp only [tbB, Bool.and_eq_true] at h; exact h.2
  exact List.all_eq_true.1 h1 z (List.mem_of_getElem? hz)
theorem tbB_of {C : Int} {zss : List (List Int)} (h1 : 1 ≤ C ∧ C ≤ 6) (h2 : 1 ≤ zss.length ∧ zss.length ≤ 8) (h : ∀ z ∈ zss, rowOk C z = true) : tbB C zss = true := by
  simp only [tbB, Bool.and_eq_true, decide_eq_true_eq, List.all_eq_true]
  exact ⟨⟨h1, h2⟩, h⟩
theorem all_drop {α : Type} {p : α → Bool} {xs : List α} {k : Nat} {x : α} (h : xs[k]? = some x) : (xs.drop k).all p = (p x && (xs.drop (k + 1)).all p) := by
  obtain ⟨hk, rfl⟩ := List.getElem?_eq_some_iff.1 h
  rw [List.drop_eq_getElem_cons hk, List.all_cons]
theorem tbB_sum {C : Int} {zss : List (List Int)} (h : tbB C zss = true) : ∀ z ∈ zss, z.length ≤ 6 := fun z hz => by
  obtain ⟨k, hk, rfl⟩ := List.getElem_of_mem hz
  exact good_len (rowOk_good (tbB_row h (List.getElem?_eq_getElem hk)))

end Go.Proofs.YthliamoeplgblaaDoor

/- Plain facts on slices of slices of ints. -/
namespace Go.Proofs.YthliamoeplgblaaDoor
open Go.RowKit

/-- A slice of slices of ints with the address a holds the lists zss in the world w. -/
def AtS (w : World) (a : Option Addr) (zss : List (List Int)) : Prop :=
  zss = [] ∨ ∃ b off, a = some ⟨b, off, none⟩ ∧ ∀ i, i < zss.length → ∃ a' c', w.cell? ⟨b, off + i, none⟩ = some (.slice a' (zss.getD i []).length c') ∧ (zss.getD i []).length ≤ 9223372036854775807 ∧ At w a' (zss.getD i [])

theorem AtS.below {w w' : World} {a : Option Addr} {zss : List (List Int)} (h : AtS w a zss) (hb : Below w.heap.size w w') : AtS w' a zss := by
  rcases h with h | ⟨b, off, rfl, hc⟩
  · exact .inl h
  · refine .inr ⟨b, off, rfl, fun i hi => ?_⟩
    obtain ⟨a', c', h1, h2, h3⟩ := hc i hi
    exact ⟨a', c', cell_later hb h1, h2, h3.below hb⟩

theorem AtS.some {w : World} {a : Option Addr} {zss : List (List Int)} (h : AtS w a zss) (hp : 0 < zss.length) :
    ∃ b off, a = Option.some ⟨b, off, none⟩ ∧ ∀ i, i < zss.length → ∃ a' c', w.cell? ⟨b, off + i, none⟩ = Option.some (.slice a' (zss.getD i []).length c') ∧ (zss.getD i []).length ≤ 9223372036854775807 ∧ At w a' (zss.getD i []) := by
  rcases h with rfl | h
  · simp at hp
  · exact h

/-- The first k lists: each owned, in blocks that rise. -/
def RowsOwned (w : World) (e : TypeId) (vs : List Value) (zss : List (List Int)) (k : Nat) (L : Nat → Nat) : Prop :=
  ∀ i, i < k → ∃ a c, vs[i]? = some (.slice a (zss.getD i []).length c) ∧ w.ownsRow (L i) e 1 (.slice a (zss.getD i []).length c) (zss.getD i []).length ((zss.getD i []).map (.int .i64)) ∧
    ∀ b, (Value.slice a (zss.getD i []).length c).ownBlock = some b → b < L (i + 1)

/-- A slice of slices that the call itself made: its blocks lie from lo on and below hi. -/
def OwnS (w : World) (lo hi : Nat) (t e : TypeId) (g n : Nat) (zss : List (List Int)) : Prop :=
  ∃ (vs : List Value) (L : Nat → Nat), zss.length = n ∧ vs.length = n ∧ lo ≤ g ∧ g < L 0 ∧ (∀ i, i < n → L i ≤ L (i + 1)) ∧ L n ≤ hi ∧ hi ≤ w.heap.size ∧
    w.heap[g]? = some (.cells vs.toArray t (0, 0)) ∧ RowsOwned w e vs zss n L

theorem mono_le {L : Nat → Nat} {n : Nat} (h : ∀ i, i < n → L i ≤ L (i + 1)) : ∀ i j, i ≤ j → j ≤ n → L i ≤ L j := by
  intro i j hij hj
  induction j with
  | zero => obtain rfl : i = 0 := by omega
            exact Nat.le_refl _
  | succ j ih =>
    by_cases e : i = j + 1
    · subst e; exact Nat.le_refl _
    · exact Nat.le_trans (ih (by omega) (by omega)) (h j (by omega))

theorem RowsOwned.below {w w' : World} {e : TypeId} {vs : List Value} {zss : List (List Int)} {k : Nat} {L : Nat → Nat} (h : RowsOwned w e vs zss k L) (hb : Below w.heap.size w w') : RowsOwned w' e vs zss k L := fun i hi => by
  obtain ⟨a, c, h1, h2, h3⟩ := h i hi
  exact ⟨a, c, h1, owns_below h2 hb, h3⟩

theorem OwnS.below {w w' : World} {lo hi : Nat} {t e : TypeId} {g n : Nat} {zss : List (List Int)} (h : OwnS w lo hi t e g n zss) (hb : Below w.heap.size w w') : OwnS w' lo hi t e g n zss := by
  obtain ⟨vs, L, h1, h2, h3, h4, h5, h6, h7, h8, h9⟩ := h
  exact ⟨vs, L, h1, h2, h3, h4, h5, h6, Nat.le_trans h7 hb.size, (hb.block g (Array.getElem?_eq_some_iff.1 h8).1).trans h8, h9.below hb⟩

theorem OwnS.drew {w : World} {lo hi : Nat} {t e : TypeId} {g n : Nat} {zss : List (List Int)} (h : OwnS w lo hi t e g n zss) : OwnS w.drew lo hi t e g n zss := h.below (Below.refl _ _).drew

theorem OwnS.atS {w : World} {lo hi : Nat} {t e : TypeId} {g n : Nat} {zss : List (List Int)} (h : OwnS w lo hi t e g n zss) (hs : ∀ i, i < zss.length → (zss.getD i []).length ≤ 9223372036854775807) : AtS w (some ⟨g, 0, none⟩) zss := by
  obtain ⟨vs, L, h1, h2, h3, h4, h5, h6, h7, h8, h9⟩ := h
  refine .inr ⟨g, 0, rfl, fun i hi => ?_⟩
  obtain ⟨a, c, k1, k2, k3⟩ := h9 i (by omega)
  refine ⟨a, c, ?_, hs i hi, At.owned k2⟩
  rw [Nat.zero_add, cell_of_row w g i _ t (0, 0) h8]
  simpa using k1

theorem OwnS.kept {w w' : World} {lo hi : Nat} {t e : TypeId} {g n : Nat} {zss : List (List Int)} {row : Option Nat} (h : OwnS w lo hi t e g n zss) (hg : w.grownBy w' row) (hr : ∀ k, row = some k → k < lo ∨ hi ≤ k) : OwnS w' lo hi t e g n zss := by
  obtain ⟨vs, L, h1, h2, h3, h4, h5, h6, h7, h8, h9⟩ := h
  have hm := mono_le h5
  have q0 := hm 0 n (by omega) (Nat.le_refl _)
  refine ⟨vs, L, h1, h2, h3, h4, h5, h6, Nat.le_trans h7 hg.size, ?_, fun i hi => ?_⟩
  · rw [hg.block g (Array.getElem?_eq_some_iff.1 h8).1 (fun e' => by have := hr g e'.symm; omega)]; exact h8
  · obtain ⟨a, c, k1, k2, k3⟩ := h9 i hi
    refine ⟨a, c, k1, k2.kept hg ?_, k3⟩
    cases hv : (Value.slice a (zss.getD i []).length c).ownBlock with
    | none => exact .inl rfl
    | some k =>
      refine .inr (fun e' => ?_)
      have q1 := (k2.lt k hv).1
      have q2 := k3 k hv
      have q3 := hr k e'.symm
      have q4 := hm 0 i (by omega) (by omega)
      have q5 := hm (i + 1) n (by omega) (Nat.le_refl _)
      omega

/-- Outside the blocks lo .. hi - 1 nothing has turned. -/
structure Apart (lo hi : Nat) (w w' : World) : Prop where
  os : w'.os = w.os
  tape : w'.tape = w.tape
  output : w'.output = w.output
  size : w.heap.size ≤ w'.heap.size
  block : ∀ k, k < w.heap.size → (k < lo ∨ hi ≤ k) → w'.heap[k]? = w.heap[k]?

theorem Apart.refl (lo hi : Nat) (w : World) : Apart lo hi w w := ⟨rfl, rfl, rfl, Nat.le_refl _, fun _ _ _ => rfl⟩
theorem Apart.trans {lo hi : Nat} {a b c : World} (h : Apart lo hi a b) (k : Apart lo hi b c) : Apart lo hi a c :=
  ⟨k.os.trans h.os, k.tape.trans h.tape, k.output.trans h.output, Nat.le_trans h.size k.size, fun i hi hn => (k.block i (Nat.lt_of_lt_of_le hi h.size) hn).trans (h.block i hi hn)⟩
theorem Apart.grown {lo hi : Nat} {w w' : World} {row : Option Nat} (h : w.grownBy w' row) (hr : ∀ k, row = some k → lo ≤ k ∧ k < hi) : Apart lo hi w w' :=
  ⟨h.os, h.tape, h.output, h.size, fun k hk hn => h.block k hk (fun e => by have := hr k e.symm; omega)⟩
theorem Apart.below {lo hi B : Nat} {w w' : World} (h : Apart lo hi w w') (hB : B ≤ w.heap.size) (hl : B ≤ lo) : Below B w w' := ⟨h.os, h.tape, h.output, h.size, fun k hk => h.block k (by omega) (.inl (by omega))⟩
theorem Apart.cell {lo hi : Nat} {w w' : World} (h : Apart lo hi w w') {a : Addr} {v : Value} (hc : w.cell? a = some v) (ha : a.block < lo ∨ hi ≤ a.block) : w'.cell? a = some v :=
  (World.cell?_of_block (h.block a.block (World.block_lt_of_cell? _ _ hc) ha)).trans hc
theorem Apart.owns {lo hi : Nat} {w w' : World} (h : Apart lo hi w w') {base : Nat} {e : TypeId} {size : Nat} {v : Value} {n : Nat} {xs : List Value} (ho : w.ownsRow base e size v n xs) (ha : ∀ k, v.ownBlock = some k → k < lo ∨ hi ≤ k) : w'.ownsRow base e size v n xs := by
  refine ⟨ho.1, ?_⟩
  rcases ho.2 with hn | ⟨g, cap, cur, rfl, hb, hg, rest⟩
  · exact .inl hn
  · exact .inr ⟨g, cap, cur, rfl, hb, (h.block g (Array.getElem?_eq_some_iff.1 hg).1 (ha g rfl)).trans hg, rest⟩

/-- What is left of l when s is taken, -1 where it is not enough. -/
def leftOf (l s : Int) : Int := if l < s then -1 else l - s
theorem leftOf_no {l s : Int} (h : l < s) : leftOf l s = -1 := if_pos h
theorem leftOf_yes {l s : Int} (h : ¬ l < s) : leftOf l s = l - s := if_neg h

/-- How many numbers the first k lists hold. -/
def tot (zss : List (List Int)) (k : Nat) : Nat := ((zss.take k).map List.length).sum
theorem tot_zero (zss : List (List Int)) : tot zss 0 = 0 := rfl
theorem tot_succ (zss : List (List Int)) (k : Nat) (h : k < zss.length) : tot zss (k + 1) = tot zss k + (zss.getD k []).length := by
  unfold tot
  rw [List.take_succ_eq_append_getElem h, List.map_append, List.sum_append]
  simp only [List.map_cons, List.map_nil, List.sum_cons, List.sum_nil, Nat.add_zero]
  simp [List.getD, h]
theorem tot_mono (zss : List (List Int)) (j k : Nat) (h : j ≤ k) : tot zss j ≤ tot zss k := by
  obtain ⟨d, rfl⟩ := Nat.le.dest h
  induction d with
  | zero => exact Nat.le_refl _
  | succ d ih =>
    by_cases hk : j + d < zss.length
    · rw [show j + (d + 1) = (j + d) + 1 from rfl, tot_succ zss _ hk]; have := ih (by omega); omega
    · have e1 : tot zss (j + (d + 1)) = tot zss (j + d) := by unfold tot; rw [List.take_of_length_le (by omega), List.take_of_length_le (by omega)]
      rw [e1]; exact ih (by omega)

end Go.Proofs.YthliamoeplgblaaDoor
