/- Things that lie in memory, by their shape: numbers, pairs of things, slices of things; what a call owns of them, by the blocks that it may lie in. No Go function is spoken of here. -/
import Derived.Test.YtnfdncofobkjhaaM0
namespace Go.Proofs.Ytnfdncofobkjhaa
open Go.RowKit

/-- How a thing lies in so many cells, and in the memory behind them. -/
structure Rep (α : Type) where
  k : Nat
  At : World → List Value → α → Prop
  Own : World → (Nat → Prop) → List Value → α → Prop
  len : ∀ {w cs x}, At w cs x → cs.length = k
  below : ∀ {w w' cs x}, At w cs x → Below w.heap.size w w' → At w' cs x
  toAt : ∀ {w F cs x}, Own w F cs x → At w cs x
  mono : ∀ {w F F' cs x}, Own w F cs x → (∀ b, F b → F' b) → Own w F' cs x
  frame : ∀ {w w' F cs x}, Own w F cs x → (∀ b, F b → b < w.heap.size → w'.heap[b]? = w.heap[b]?) → Own w' F cs x
  tight : ∀ {w F cs x}, Own w F cs x → Own w (fun b => F b ∧ b < w.heap.size) cs x

/-- Blocks from lo on and below hi. -/
def From (lo hi : Nat) : Nat → Prop := fun b => lo ≤ b ∧ b < hi

/-- Outside F nothing has turned. -/
structure Off (F : Nat → Prop) (w w' : World) : Prop where
  os : w'.os = w.os
  tape : w'.tape = w.tape
  output : w'.output = w.output
  size : w.heap.size ≤ w'.heap.size
  block : ∀ b, b < w.heap.size → ¬ F b → w'.heap[b]? = w.heap[b]?

theorem Off.refl (F : Nat → Prop) (w : World) : Off F w w := ⟨rfl, rfl, rfl, Nat.le_refl _, fun _ _ _ => rfl⟩
theorem Off.trans {F : Nat → Prop} {a b c : World} (h : Off F a b) (k : Off F b c) : Off F a c :=
  ⟨k.os.trans h.os, k.tape.trans h.tape, k.output.trans h.output, Nat.le_trans h.size k.size, fun i hi hn => (k.block i (Nat.lt_of_lt_of_le hi h.size) hn).trans (h.block i hi hn)⟩
theorem Off.mono {F F' : Nat → Prop} {a b : World} (h : Off F a b) (hF : ∀ b, F b → F' b) : Off F' a b := ⟨h.os, h.tape, h.output, h.size, fun b hb hn => h.block b hb (fun e => hn (hF b e))⟩
theorem Off.below {F : Nat → Prop} {a b : World} (h : Below a.heap.size a b) : Off F a b := ⟨h.os, h.tape, h.output, h.size, fun b hb _ => h.block b hb⟩
theorem Off.grown {F : Nat → Prop} {a b : World} {row : Option Nat} (h : a.grownBy b row) (hr : ∀ k, row = some k → F k) : Off F a b :=
  ⟨h.os, h.tape, h.output, h.size, fun k hk hn => h.block k hk (fun e => hn (hr k e.symm))⟩
theorem Off.set {F : Nat → Prop} {w : World} {a : Addr} (ha : F a.block) (v : Value) : Off F w (w.setCell a v) :=
  ⟨rfl, rfl, rfl, by simp [World.setCell], fun k _ hn => Below.heap_setCell w a v k (fun e => hn (by rw [e]; exact ha))⟩
theorem Off.drew {F : Nat → Prop} {a b : World} (h : Off F a b) : Off F a b.drew := ⟨h.os, h.tape, h.output, h.size, h.block⟩
theorem Off.apart {lo hi : Nat} {a b : World} (h : Off (From lo hi) a b) : Apart lo hi a b := ⟨h.os, h.tape, h.output, h.size, fun k hk hn => h.block k hk (fun e => by have := e.1; have := e.2; omega)⟩
theorem Off.of_apart {lo hi : Nat} {a b : World} (h : Apart lo hi a b) : Off (From lo hi) a b := ⟨h.os, h.tape, h.output, h.size, fun k hk hn => h.block k hk (by by_cases e : k < lo; exact .inl e; by_cases e' : hi ≤ k; exact .inr e'; exact absurd ⟨by omega, by omega⟩ hn)⟩
theorem Off.cell {F : Nat → Prop} {w w' : World} (h : Off F w w') {a : Addr} {v : Value} (hc : w.cell? a = some v) (ha : ¬ F a.block) : w'.cell? a = some v :=
  (World.cell?_of_block (h.block a.block (World.block_lt_of_cell? _ _ hc) ha)).trans hc

section
variable {α : Type} (A : Rep α) {w w' : World} {F F' : Nat → Prop} {cs : List Value} {x : α}
theorem Rep.ownBelow (h : A.Own w F cs x) (hb : Below w.heap.size w w') : A.Own w' F cs x := A.frame h (fun b _ h2 => hb.block b h2)
theorem Rep.ownOff (h : A.Own w F cs x) (hb : Off F' w w') (hd : ∀ b, F b → ¬ F' b) : A.Own w' F cs x := A.frame h (fun b h1 h2 => hb.block b h2 (hd b h1))
theorem Rep.ownLen (h : A.Own w F cs x) : cs.length = A.k := A.len (A.toAt h)
end

/-- A number. -/
def Rep.int : Rep Int where
  k := 1
  At _ cs z := cs = [.int .i64 z]
  Own _ _ cs z := cs = [.int .i64 z]
  len h := by rw [h]; rfl
  below h _ := h
  toAt h := h
  mono h _ := h
  frame h _ := h
  tight h := h

/-- Two things, one behind the other. -/
def Rep.pair {α β : Type} (A : Rep α) (B : Rep β) : Rep (α × β) where
  k := A.k + B.k
  At w cs x := ∃ c1 c2, cs = c1 ++ c2 ∧ A.At w c1 x.1 ∧ B.At w c2 x.2
  Own w F cs x := ∃ c1 c2 F1 F2, cs = c1 ++ c2 ∧ A.Own w F1 c1 x.1 ∧ B.Own w F2 c2 x.2 ∧ (∀ b, F1 b → F b) ∧ (∀ b, F2 b → F b) ∧ ∀ b, F1 b → ¬ F2 b
  len h := by obtain ⟨c1, c2, rfl, h1, h2⟩ := h; rw [List.length_append, A.len h1, B.len h2]
  below h hb := by obtain ⟨c1, c2, e, h1, h2⟩ := h; exact ⟨c1, c2, e, A.below h1 hb, B.below h2 hb⟩
  toAt h := by obtain ⟨c1, c2, _, _, e, h1, h2, _⟩ := h; exact ⟨c1, c2, e, A.toAt h1, B.toAt h2⟩
  mono h hF := by obtain ⟨c1, c2, F1, F2, e, h1, h2, h3, h4, h5⟩ := h; exact ⟨c1, c2, F1, F2, e, h1, h2, fun b hb => hF b (h3 b hb), fun b hb => hF b (h4 b hb), h5⟩
  frame h hF := by obtain ⟨c1, c2, F1, F2, e, h1, h2, h3, h4, h5⟩ := h; exact ⟨c1, c2, F1, F2, e, A.frame h1 (fun b hb => hF b (h3 b hb)), B.frame h2 (fun b hb => hF b (h4 b hb)), h3, h4, h5⟩
  tight h := by obtain ⟨c1, c2, F1, F2, e, h1, h2, h3, h4, h5⟩ := h; exact ⟨c1, c2, _, _, e, A.tight h1, B.tight h2, fun b hb => ⟨h3 b hb.1, hb.2⟩, fun b hb => ⟨h4 b hb.1, hb.2⟩, fun b hb hn => h5 b hb.1 hn.1⟩

/-- k cells from o on. -/
def sub (cells : List Value) (o k : Nat) : List Value := (cells.drop o).take k
theorem sub_at {cells : List Value} {o k j : Nat} (h : j < k) : (sub cells o k)[j]? = cells[o + j]? := by
  simp [sub, h]
theorem sub_len {cells : List Value} {o k : Nat} (h : o + k ≤ cells.length) : (sub cells o k).length = k := by simp [sub]; omega

/-- Slices of things: what of the first m is laid. -/
structure Laid {α : Type} (A : Rep α) (w : World) (F : Nat → Prop) (e : TypeId) (a : Option Addr) (n c : Nat) (xs : List α) (cells : List Value) (G : Nat → Nat → Prop) (m : Nat) : Prop where
  len : xs.length = n
  big : n ≤ 9223372036854775807
  outer : w.ownsRow 0 e A.k (.slice a n c) n cells
  outerF : ∀ b, (Value.slice a n c).ownBlock = some b → F b
  row : ∀ i x, i < m → xs[i]? = some x → A.Own w (G i) (sub cells (i * A.k) A.k) x
  rowF : ∀ i b, i < m → G i b → F b ∧ (Value.slice a n c).ownBlock ≠ some b
  apart : ∀ i j b, i < m → j < m → i ≠ j → G i b → ¬ G j b

section
variable {α : Type} {A : Rep α} {w w' : World} {F F' : Nat → Prop} {e : TypeId} {a : Option Addr} {n c m : Nat} {xs : List α} {cells : List Value} {G : Nat → Nat → Prop}

theorem ownsRow_frame {base : Nat} {size : Nat} {v : Value} {ys : List Value} (h : w.ownsRow base e size v n ys) (hb : ∀ b, v.ownBlock = some b → b < w.heap.size → w'.heap[b]? = w.heap[b]?) : w'.ownsRow base e size v n ys := by
  refine ⟨h.1, ?_⟩
  rcases h.2 with hn | ⟨g, cap, cur, rfl, hbb, hg, rest⟩
  · exact .inl hn
  · exact .inr ⟨g, cap, cur, rfl, hbb, (hb g rfl (Array.getElem?_eq_some_iff.1 hg).1).trans hg, rest⟩

theorem Laid.frame (h : Laid A w F e a n c xs cells G m) (hF : ∀ b, F b → b < w.heap.size → w'.heap[b]? = w.heap[b]?) : Laid A w' F e a n c xs cells G m :=
  ⟨h.len, h.big, ownsRow_frame h.outer (fun b hb => hF b (h.outerF b hb)), h.outerF, fun i x hi hx => A.frame (h.row i x hi hx) (fun b hb => hF b (h.rowF i b hi hb).1), h.rowF, h.apart⟩
theorem Laid.below (h : Laid A w F e a n c xs cells G m) (hb : Below w.heap.size w w') : Laid A w' F e a n c xs cells G m := h.frame (fun b _ h2 => hb.block b h2)
theorem Laid.mono (h : Laid A w F e a n c xs cells G m) (hF : ∀ b, F b → F' b) : Laid A w F' e a n c xs cells G m :=
  ⟨h.len, h.big, h.outer, fun b hb => hF b (h.outerF b hb), h.row, fun i b hi hb => ⟨hF b (h.rowF i b hi hb).1, (h.rowF i b hi hb).2⟩, h.apart⟩
theorem Laid.tight (h : Laid A w F e a n c xs cells G m) : Laid A w (fun b => F b ∧ b < w.heap.size) e a n c xs cells (fun i b => G i b ∧ b < w.heap.size) m :=
  ⟨h.len, h.big, h.outer, fun b hb => ⟨h.outerF b hb, (h.outer.lt b hb).2⟩, fun i x hi hx => A.tight (h.row i x hi hx), fun i b hi hb => ⟨⟨(h.rowF i b hi hb.1).1, hb.2⟩, (h.rowF i b hi hb.1).2⟩, fun i j b hi hj hij hb hn => h.apart i j b hi hj hij hb.1 hn.1⟩
theorem Laid.start (hl : xs.length = n) (hb : n ≤ 9223372036854775807) (ho : w.ownsRow 0 e A.k (.slice a n c) n cells) (hF : ∀ b, (Value.slice a n c).ownBlock = some b → F b) (G : Nat → Nat → Prop) : Laid A w F e a n c xs cells G 0 :=
  ⟨hl, hb, ho, hF, fun i x h => by omega, fun i b h => by omega, fun i j b h => by omega⟩
end

/-- Things in a slice, as they are read. -/
def AtSl {α : Type} (A : Rep α) (w : World) (a : Option Addr) (xs : List α) : Prop :=
  xs = [] ∨ ∃ b off, a = some ⟨b, off, none⟩ ∧ ∀ i x, xs[i]? = some x → ∃ cs, (∀ j v, cs[j]? = some v → w.cell? ⟨b, off + i * A.k + j, none⟩ = some v) ∧ A.At w cs x

theorem AtSl.below {α : Type} {A : Rep α} {w w' : World} {a : Option Addr} {xs : List α} (h : AtSl A w a xs) (hb : Below w.heap.size w w') : AtSl A w' a xs := by
  rcases h with h | ⟨b, off, rfl, hc⟩
  · exact .inl h
  · refine .inr ⟨b, off, rfl, fun i x hx => ?_⟩
    obtain ⟨cs, h1, h2⟩ := hc i x hx
    exact ⟨cs, fun j v hv => cell_later hb (h1 j v hv), A.below h2 hb⟩

theorem AtSl.each {α : Type} {A : Rep α} {w : World} {a : Option Addr} {xs : List α} (h : AtSl A w a xs) (hp : 0 < xs.length) :
    ∃ b off, a = some ⟨b, off, none⟩ ∧ ∀ i x, xs[i]? = some x → ∃ cs, (∀ j v, cs[j]? = some v → w.cell? ⟨b, off + i * A.k + j, none⟩ = some v) ∧ A.At w cs x := by
  rcases h with rfl | h
  · simp at hp
  · exact h

theorem Laid.atSl {α : Type} {A : Rep α} {w : World} {F : Nat → Prop} {e : TypeId} {a : Option Addr} {n c : Nat} {xs : List α} {cells : List Value} {G : Nat → Nat → Prop} (h : Laid A w F e a n c xs cells G n) : AtSl A w a xs := by
  rcases h.outer.2 with ⟨hv, h0⟩ | ⟨g, cap, cur, hv, _⟩
  · left
    have := h.len
    rw [h0] at this
    exact List.eq_nil_of_length_eq_zero this
  · simp only [Value.slice.injEq, true_and] at hv
    obtain ⟨rfl, rfl⟩ := hv
    refine .inr ⟨g, 0, rfl, fun i x hx => ?_⟩
    have hi : i < n := by rw [← h.len]; exact (List.getElem?_eq_some_iff.1 hx).1
    have hA := h.row i x hi hx
    refine ⟨_, fun j v hv => ?_, A.toAt hA⟩
    have hj : j < A.k := by rw [← A.ownLen hA]; exact (List.getElem?_eq_some_iff.1 hv).1
    rw [sub_at hj] at hv
    rw [Nat.zero_add, h.outer.cellAt _ (Nat.lt_of_lt_of_le (Nat.add_lt_add_left hj _) (by rw [← Nat.succ_mul]; exact Nat.mul_le_mul_right _ hi))]
    exact hv

theorem rep_nil {w : World} {base : Nat} {e : TypeId} {size : Nat} {a : Option Addr} {n c m : Nat} {xs : List Value} (h : w.ownsRow base e size (.slice a n c) m xs) : a = none → c = 0 := fun ha => by
  rcases h.2 with ⟨hv, _⟩ | ⟨g, cap, cur, hv, _⟩
  · simp only [Value.slice.injEq] at hv; exact hv.2.2
  · simp only [Value.slice.injEq] at hv; rw [ha] at hv; cases hv.1

/-- A slice of things. -/
def Rep.slice {α : Type} (e : TypeId) (A : Rep α) : Rep (List α) where
  k := 1
  At w cs xs := ∃ a n c, cs = [.slice a n c] ∧ xs.length = n ∧ n ≤ 9223372036854775807 ∧ AtSl A w a xs ∧ (a = none → c = 0)
  Own w F cs xs := ∃ a n c cells G, cs = [.slice a n c] ∧ Laid A w F e a n c xs cells G n
  len h := by obtain ⟨a, n, c, rfl, _⟩ := h; rfl
  below h hb := by obtain ⟨a, n, c, e, h1, h2, h3, h4⟩ := h; exact ⟨a, n, c, e, h1, h2, h3.below hb, h4⟩
  toAt h := by obtain ⟨a, n, c, cells, G, e, h⟩ := h; exact ⟨a, n, c, e, h.len, h.big, h.atSl, rep_nil h.outer⟩
  mono h hF := by obtain ⟨a, n, c, cells, G, e, h⟩ := h; exact ⟨a, n, c, cells, G, e, h.mono hF⟩
  frame h hF := by obtain ⟨a, n, c, cells, G, e, h⟩ := h; exact ⟨a, n, c, cells, G, e, h.frame hF⟩
  tight h := by obtain ⟨a, n, c, cells, G, e, h⟩ := h; exact ⟨a, n, c, cells, _, e, h.tight⟩

/-- Cells that are stored one behind the other. -/
def stores (w : World) (g : Nat) : Nat → List Value → World
  | _, [] => w
  | o, v :: vs => stores (w.setCell ⟨g, o, none⟩ v) g (o + 1) vs
def sets (cells : List Value) : Nat → List Value → List Value
  | _, [] => cells
  | o, v :: vs => sets (cells.set o v) (o + 1) vs
theorem sets_len (cells : List Value) (o : Nat) (vs : List Value) : (sets cells o vs).length = cells.length := by
  induction vs generalizing cells o with
  | nil => rfl
  | cons v vs ih => rw [sets, ih]; simp
theorem sets_far (cells : List Value) (o : Nat) (vs : List Value) (j : Nat) (h : j < o ∨ o + vs.length ≤ j) : (sets cells o vs)[j]? = cells[j]? := by
  induction vs generalizing cells o with
  | nil => rfl
  | cons v vs ih => rw [sets, ih _ _ (by simp at h; omega), List.getElem?_set_ne (by simp at h; omega)]
theorem sets_in (cells : List Value) (o : Nat) (vs : List Value) (j : Nat) (hj : j < vs.length) (h : o + vs.length ≤ cells.length) : (sets cells o vs)[o + j]? = vs[j]? := by
  induction vs generalizing cells o j with
  | nil => simp at hj
  | cons v vs ih =>
    rw [sets]
    cases j with
    | zero =>
      simp only [List.length_cons] at h
      show (sets (cells.set o v) (o + 1) vs)[o]? = some v
      rw [sets_far _ _ _ _ (by omega), List.getElem?_set_self (by omega)]
    | succ j => rw [show o + (j + 1) = (o + 1) + j by omega, ih _ _ _ (by simpa using hj) (by simp at h ⊢; omega)]; simp
theorem sub_sets (cells : List Value) (o : Nat) (vs : List Value) (h : o + vs.length ≤ cells.length) : sub (sets cells o vs) o vs.length = vs := by
  apply List.ext_getElem?
  intro j
  by_cases hj : j < vs.length
  · rw [sub_at hj, sets_in _ _ _ _ hj h]
  · rw [List.getElem?_eq_none (by simp [sub, sets_len]; omega), List.getElem?_eq_none (by omega)]
theorem sub_sets_far (cells : List Value) (o : Nat) (vs : List Value) (o' k : Nat) (h : o' + k ≤ o ∨ o + vs.length ≤ o') : sub (sets cells o vs) o' k = sub cells o' k := by
  apply List.ext_getElem?
  intro j
  by_cases hj : j < k
  · rw [sub_at hj, sub_at hj, sets_far _ _ _ _ (by omega)]
  · rw [List.getElem?_eq_none (by simp [sub]; omega), List.getElem?_eq_none (by simp [sub]; omega)]

section
variable {w : World} {base : Nat} {e : TypeId} {size g n cap : Nat}
theorem owns_stores {xs : List Value} (h : w.ownsRow base e size (.slice (some ⟨g, 0, none⟩) n cap) n xs) (o : Nat) (vs : List Value) :
    (stores w g o vs).ownsRow base e size (.slice (some ⟨g, 0, none⟩) n cap) n (sets xs o vs) := by
  induction vs generalizing w xs o with
  | nil => exact h
  | cons v vs ih => exact ih (h.stored o v).1 (o + 1)
theorem stores_block (w : World) (g o : Nat) (vs : List Value) (b : Nat) (hb : b ≠ g) : (stores w g o vs).heap[b]? = w.heap[b]? := by
  induction vs generalizing w o with
  | nil => rfl
  | cons v vs ih => rw [stores, ih, Below.heap_setCell _ _ _ _ hb]
theorem stores_off {F : Nat → Prop} (w : World) (g o : Nat) (vs : List Value) (hg : F g) : Off F w (stores w g o vs) := by
  induction vs generalizing w o with
  | nil => exact Off.refl _ _
  | cons v vs ih => exact (Off.set (a := ⟨g, o, none⟩) hg v).trans (ih _ _)
theorem stores_below {B : Nat} {W : World} (w : World) (g o : Nat) (vs : List Value) (h : Below B W w) (hg : B ≤ g) : Below B W (stores w g o vs) := by
  induction vs generalizing w o with
  | nil => exact h
  | cons v vs ih => exact ih _ _ (h.setCell hg v)
theorem stores_size (w : World) (g o : Nat) (vs : List Value) : (stores w g o vs).heap.size = w.heap.size := by
  induction vs generalizing w o with
  | nil => rfl
  | cons v vs ih => rw [stores, ih]; simp [World.setCell]
end

section
variable {α : Type} {A : Rep α} {w w2 : World} {F : Nat → Prop} {e : TypeId} {a : Option Addr} {n c m : Nat} {xs : List α} {cells : List Value} {G : Nat → Nat → Prop}

theorem at_mul {i n k : Nat} (h : i < n) : i * k + k ≤ n * k := by rw [← Nat.succ_mul]; exact Nat.mul_le_mul_right _ h
theorem mul_far {i j k : Nat} (h : i ≠ j) : i * k + k ≤ j * k ∨ j * k + k ≤ i * k := by
  rcases Nat.lt_or_gt_of_ne h with h | h
  · exact .inl (at_mul h)
  · exact .inr (at_mul h)

/-- One more thing is laid: its cells, and the memory behind them, which is new. -/
theorem Laid.put {g : Nat} {H : Nat → Prop} {vs : List Value} {x : α} (h : Laid A w F e (some ⟨g, 0, none⟩) n c xs cells G m) (hm : m < n) (hF : ∀ b, F b → b < w.heap.size) (hb : Below w.heap.size w w2)
    (hx : xs[m]? = some x) (ho : A.Own w2 H vs x) (hH : ∀ b, H b → w.heap.size ≤ b) :
    Laid A (stores w2 g (m * A.k) vs) (fun b => F b ∨ H b) e (some ⟨g, 0, none⟩) n c xs (sets cells (m * A.k) vs) (fun i => if i = m then H else G i) (m + 1) := by
  have hl := A.ownLen ho
  have hcl := h.outer.1
  have hgF : F g := h.outerF g rfl
  have hgl := hF g hgF
  have hmk := at_mul (k := A.k) hm
  refine ⟨h.len, h.big, owns_stores (h.below hb).outer _ _, fun b hb' => .inl (h.outerF b hb'), fun i y hi hy => ?_, fun i b hi hb' => ?_, fun i j b hi hj hij hb' => ?_⟩
  · by_cases ei : i = m
    · subst ei
      obtain rfl : x = y := by rw [hx] at hy; exact Option.some.inj hy
      simp only [if_true]
      have := sub_sets cells (i * A.k) vs (by rw [hl, hcl]; exact hmk)
      rw [hl] at this
      rw [this]
      exact A.frame ho (fun b hb' _ => stores_block _ _ _ _ _ (by have := hH b hb'; omega))
    · simp only [if_neg ei]
      rw [sub_sets_far _ _ _ _ _ (by rw [hl]; exact mul_far ei)]
      exact A.frame ((h.below hb).row i y (by omega) hy) (fun b hb' _ => stores_block _ _ _ _ _ (fun e' => (h.rowF i b (by omega) hb').2 (by simp [Value.ownBlock, e'])))
  · by_cases ei : i = m
    · subst ei
      simp only [if_true] at hb'
      exact ⟨.inr hb', by have := hH b hb'; simp [Value.ownBlock]; omega⟩
    · simp only [if_neg ei] at hb'
      exact ⟨.inl (h.rowF i b (by omega) hb').1, (h.rowF i b (by omega) hb').2⟩
  · by_cases ei : i = m
    · subst ei
      simp only [if_true] at hb'
      simp only [if_neg (Ne.symm hij)]
      intro e'
      have := hF b (h.rowF j b (by omega) e').1
      have := hH b hb'
      omega
    · simp only [if_neg ei] at hb'
      by_cases ej : j = m
      · simp only [if_pos ej]
        intro e'
        have := hF b (h.rowF i b (by omega) hb').1
        have := hH b e'
        omega
      · simp only [if_neg ej]
        exact h.apart i j b (by omega) (by omega) hij hb'

/-- One thing of it is turned, in its own memory. -/
theorem Laid.turn {w' : World} {i : Nat} {cells' : List Value} {x' : α} (h : Laid A w F e a n c xs cells G n) (hi : i < n) (hw : ∀ b, b < w.heap.size → ¬ G i b → (Value.slice a n c).ownBlock ≠ some b → w'.heap[b]? = w.heap[b]?)
    (ho : w'.ownsRow 0 e A.k (.slice a n c) n cells') (hc : ∀ j, j ≠ i → sub cells' (j * A.k) A.k = sub cells (j * A.k) A.k) (hx : A.Own w' (G i) (sub cells' (i * A.k) A.k) x') :
    Laid A w' F e a n c (xs.set i x') cells' G n := by
  refine ⟨by simp [h.len], h.big, ho, h.outerF, fun j y hj hy => ?_, h.rowF, h.apart⟩
  by_cases ej : j = i
  · subst ej
    rw [List.getElem?_set_self (by rw [h.len]; exact hi)] at hy
    obtain rfl := Option.some.inj hy
    exact hx
  · rw [List.getElem?_set_ne (Ne.symm ej)] at hy
    rw [hc j ej]
    exact A.frame (h.row j y hj hy) (fun b hb hl => hw b hl (fun e' => h.apart i j b hi hj (Ne.symm ej) e' hb) (h.rowF j b hj hb).2)
end

end Go.Proofs.Ytnfdncofobkjhaa
