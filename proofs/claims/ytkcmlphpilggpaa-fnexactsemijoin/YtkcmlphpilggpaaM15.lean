/- Several texts of one proof, in build order: PlainJoin, Rep, RepN, RepD, Blk. -/
import Derived.Test.YtkcmlphpilggpaaM14
import Derived.Test.YtkcmlphpilggpaaM1
import Derived.Test.YtkcmlphpilggpaaM13

/- Plain functions: pairs of columns, rows that are joined. -/
namespace Go.Proofs.Ytkcmlphpilggpaa

def pairs2 (ps : List (List Int)) : Bool := decide (ps.length ≤ 6) && ps.all fun p => decide (p.length = 2)
def side (ps : List (List Int)) (s : Nat) : List Int := ps.map fun p => p.getD s 0
def pairIn (na nb : Nat) (p : List Int) : Bool := decide (p.length = 2) && colIn na (p.getD 0 0) && colIn nb (p.getD 1 0)
def pairsOk (ps : List (List Int)) (na nb : Nat) : Bool := decide (ps.length ≤ 6) && ps.all (pairIn na nb)
def restTo (ys cols : List Int) (k : Nat) : List Int := ((List.range k).filter fun (j : Nat) => !cols.contains (j : Int)).map fun (j : Nat) => ys.getD j 0
def joinZ (xs ys cols : List Int) : List Int := xs ++ restTo ys cols ys.length
def joinOk (xs ys : List Int) (ps : List (List Int)) : Bool :=
  good xs && good ys && pairsOk ps xs.length ys.length && decide (pick xs (side ps 0) = pick ys (side ps 1)) && decide ((joinZ xs ys (side ps 1)).length ≤ 6)
def joinAns (xs ys : List Int) (ps : List (List Int)) : List Int := if joinOk xs ys ps then joinZ xs ys (side ps 1) else []

theorem side_length (ps : List (List Int)) (s : Nat) : (side ps s).length = ps.length := by simp [side]
theorem side_take (ps : List (List Int)) (s k : Nat) (h : k < ps.length) : side (ps.take (k + 1)) s = side (ps.take k) s ++ [(ps.getD k []).getD s 0] := by
  unfold side
  rw [List.take_succ_eq_append_getElem h, List.map_append]
  simp [List.getD, h]
theorem side_getD (ps : List (List Int)) (s k : Nat) (h : k < ps.length) : (side ps s).getD k 0 = (ps.getD k []).getD s 0 := by
  simp [side, List.getD, h]
theorem restTo_skip (ys cols : List Int) (k : Nat) (h : cols.contains (k : Int) = true) : restTo ys cols (k + 1) = restTo ys cols k := by
  simp only [restTo, List.range_succ, List.filter_append, List.filter_cons, List.filter_nil, h, Bool.not_true, Bool.false_eq_true, if_false, List.append_nil]
theorem restTo_take (ys cols : List Int) (k : Nat) (h : cols.contains (k : Int) = false) : restTo ys cols (k + 1) = restTo ys cols k ++ [ys.getD k 0] := by
  simp only [restTo, List.range_succ, List.filter_append, List.map_append, List.filter_cons, List.filter_nil, h, Bool.not_false, if_true, List.map_cons, List.map_nil]
theorem restTo_length (ys cols : List Int) (k : Nat) : (restTo ys cols k).length ≤ k := by
  simp only [restTo, List.length_map]
  have := List.length_filter_le (fun j : Nat => !cols.contains (j : Int)) (List.range k)
  simpa using this

/-- The joined row while it is made. -/
def joinTo (xs ys cols : List Int) (k : Nat) : List Int := xs ++ restTo ys cols k
theorem joinTo_skip (xs ys cols : List Int) (k : Nat) (h : cols.contains (k : Int) = true) : joinTo xs ys cols (k + 1) = joinTo xs ys cols k := by rw [joinTo, joinTo, restTo_skip ys cols k h]
theorem joinTo_take (xs ys cols : List Int) (k : Nat) (h : cols.contains (k : Int) = false) : joinTo xs ys cols (k + 1) = joinTo xs ys cols k ++ [ys.getD k 0] := by rw [joinTo, joinTo, restTo_take ys cols k h, List.append_assoc]
theorem joinTo_length (xs ys cols : List Int) (k : Nat) : (joinTo xs ys cols k).length ≤ xs.length + k := by have := restTo_length ys cols k; simp [joinTo]; omega

theorem pairs2_at {ps : List (List Int)} (h : pairs2 ps = true) (k : Nat) (hk : k < ps.length) : (ps.getD k []).length = 2 := by
  simp only [pairs2, Bool.and_eq_true, decide_eq_true_eq, List.all_eq_true] at h
  have := h.2 ps[k] (List.getElem_mem hk)
  simpa [List.getD, hk] using this
theorem pairs2_len {ps : List (List Int)} (h : pairs2 ps = true) : ps.length ≤ 6 := by simp only [pairs2, Bool.and_eq_true, decide_eq_true_eq] at h; exact h.1
theorem pairs2_of {ps : List (List Int)} (hl : ps.length ≤ 6) (h : ∀ k, k < ps.length → (ps.getD k []).length = 2) : pairs2 ps = true := by
  simp only [pairs2, Bool.and_eq_true, decide_eq_true_eq, List.all_eq_true]
  refine ⟨hl, fun x hx => ?_⟩
  obtain ⟨k, hk, rfl⟩ := List.getElem_of_mem hx
  simpa [List.getD, hk] using h k hk
theorem pairs2_long {ps : List (List Int)} (h : 6 < ps.length) : pairs2 ps = false := by simp [pairs2]; omega
theorem not_pairs2 {ps : List (List Int)} (k : Nat) (hk : k < ps.length) (h : (ps.getD k []).length ≠ 2) : pairs2 ps = false := by
  cases hg : pairs2 ps with
  | false => rfl
  | true => exact absurd (pairs2_at hg k hk) h

theorem pairsOk_at {ps : List (List Int)} {na nb : Nat} (h : pairsOk ps na nb = true) (k : Nat) (hk : k < ps.length) :
    (ps.getD k []).length = 2 ∧ (0 ≤ (ps.getD k []).getD 0 0 ∧ (ps.getD k []).getD 0 0 < na) ∧ (0 ≤ (ps.getD k []).getD 1 0 ∧ (ps.getD k []).getD 1 0 < nb) := by
  simp only [pairsOk, pairIn, colIn, Bool.and_eq_true, decide_eq_true_eq, List.all_eq_true] at h
  have := h.2 ps[k] (List.getElem_mem hk)
  rw [show ps.getD k [] = ps[k] by simp [List.getD, hk]]
  exact ⟨this.1.1, this.1.2, this.2⟩
theorem pairsOk_len {ps : List (List Int)} {na nb : Nat} (h : pairsOk ps na nb = true) : ps.length ≤ 6 := by simp only [pairsOk, Bool.and_eq_true, decide_eq_true_eq] at h; exact h.1
theorem pairsOk_of {ps : List (List Int)} {na nb : Nat} (hl : ps.length ≤ 6) (h : ∀ k, k < ps.length → (ps.getD k []).length = 2 ∧ (0 ≤ (ps.getD k []).getD 0 0 ∧ (ps.getD k []).getD 0 0 < na) ∧ (0 ≤ (ps.getD k []).getD 1 0 ∧ (ps.getD k []).getD 1 0 < nb)) : pairsOk ps na nb = true := by
  simp only [pairsOk, pairIn, colIn, Bool.and_eq_true, decide_eq_true_eq, List.all_eq_true]
  refine ⟨hl, fun x hx => ?_⟩
  obtain ⟨k, hk, rfl⟩ := List.getElem_of_mem hx
  have := h k hk
  rw [show ps.getD k [] = ps[k] by simp [List.getD, hk]] at this
  exact ⟨⟨this.1, this.2.1⟩, this.2.2⟩
theorem pairsOk_long {ps : List (List Int)} {na nb : Nat} (h : 6 < ps.length) : pairsOk ps na nb = false := by simp [pairsOk]; omega
theorem not_pairsOk {ps : List (List Int)} {na nb : Nat} (k : Nat) (hk : k < ps.length) (h : ¬ ((ps.getD k []).length = 2 ∧ (0 ≤ (ps.getD k []).getD 0 0 ∧ (ps.getD k []).getD 0 0 < na) ∧ (0 ≤ (ps.getD k []).getD 1 0 ∧ (ps.getD k []).getD 1 0 < nb))) : pairsOk ps na nb = false := by
  cases hg : pairsOk ps na nb with
  | false => rfl
  | true => exact absurd (pairsOk_at hg k hk) h

theorem pairsOk_split (ps : List (List Int)) (na nb : Nat) : pairsOk ps na nb = (pairs2 ps && colsOk (side ps 0) na && colsOk (side ps 1) nb) := by
  rw [Bool.eq_iff_iff]
  simp only [Bool.and_eq_true]
  constructor
  · intro h
    have hl := pairsOk_len h
    refine ⟨⟨pairs2_of hl (fun k hk => (pairsOk_at h k hk).1), colsOk_of (by rw [side_length]; exact hl) (fun j hj => ?_)⟩, colsOk_of (by rw [side_length]; exact hl) (fun j hj => ?_)⟩
    · rw [side_length] at hj; rw [side_getD ps 0 j hj]; exact (pairsOk_at h j hj).2.1
    · rw [side_length] at hj; rw [side_getD ps 1 j hj]; exact (pairsOk_at h j hj).2.2
  · rintro ⟨⟨h1, h2⟩, h3⟩
    refine pairsOk_of (pairs2_len h1) (fun k hk => ⟨pairs2_at h1 k hk, ?_, ?_⟩)
    · have := colsOk_at h2 k (by rw [side_length]; exact hk); rwa [side_getD ps 0 k hk] at this
    · have := colsOk_at h3 k (by rw [side_length]; exact hk); rwa [side_getD ps 1 k hk] at this

theorem raised_dec {xs ys : List Int} (hl : xs.length = ys.length) : decide (raised xs = raised ys) = decide (xs = ys) := by
  rw [Bool.eq_iff_iff, decide_eq_true_eq, decide_eq_true_eq]
  constructor
  · intro h
    unfold raised at h
    have h2 := (List.append_inj h (by simpa using hl)).1
    apply List.ext_getElem hl
    intro i h1 h3
    have := congrArg (fun l => l.getD i 0) h2
    simp [List.getD, h1, h3] at this
    exact this
  · rintro rfl; rfl

theorem pick_good {zs cols : List Int} (h : pickOk zs cols = true) : ∀ k, k < (pick zs cols).length → -100000 ≤ (pick zs cols).getD k 0 ∧ (pick zs cols).getD k 0 ≤ 100000 := by
  intro k hk
  simp only [pickOk, Bool.and_eq_true] at h
  have hk' : k < cols.length := by simpa [pick] using hk
  have hc := colsOk_at h.2 k hk'
  rw [show (pick zs cols).getD k 0 = zs.getD (cols.getD k 0).toNat 0 by simp [pick, List.getD, hk']]
  exact good_cell h.1 _ (by omega)

theorem restTo_mem {ys cols : List Int} {k : Nat} (hk : k ≤ ys.length) : ∀ z ∈ restTo ys cols k, z ∈ ys := by
  intro z hz
  simp only [restTo, List.mem_map, List.mem_filter, List.mem_range] at hz
  obtain ⟨j, ⟨hj, _⟩, rfl⟩ := hz
  rw [show ys.getD j 0 = ys[j]'(by omega) by simp [List.getD, show j < ys.length by omega]]
  exact List.getElem_mem _

theorem good_joinZ {xs ys cols : List Int} (hx : good xs = true) (hy : good ys = true) : good (joinZ xs ys cols) = decide ((joinZ xs ys cols).length ≤ 6) := by
  have hall : (joinZ xs ys cols).all inb = true := by
    rw [List.all_eq_true]
    intro z hz
    rcases List.mem_append.1 hz with h | h
    · have := good_mem hx z h; simp [inb, this]
    · have := good_mem hy z (restTo_mem (Nat.le_refl _) z h); simp [inb, this]
  simp [good, hall]

end Go.Proofs.Ytkcmlphpilggpaa

/- Things that lie in memory, by their shape: numbers, pairs of things, slices of things; what a call owns of them, by the blocks that it may lie in. No Go function is spoken of here. -/
namespace Go.Proofs.Ytkcmlphpilggpaa
open Go.RowKit

/-- How a thing lies in so many cells, and in the memory behind them. -/
structure Rep (α : Type) where
  k : Nat
  At : World → List Value → α → Prop
  Own : World → (Nat → Prop) → List Value → α → Prop
  len : ∀ {w cs x}, At w cs x → cs.length = k
  below : ∀ {w w' cs x}, At w cs x → Below w.heap.size w w' → At w' cs x
  toAt : ∀ {w F cs x}, Own w F cs x → At w cs x
  mono : ∀ {w F F' cs x}, Own w F cs x → (∀ b, F b → F' b) → Own w F' cs x
  frame : ∀ {w w' F cs x}, Own w F cs x → (∀ b, F b → b < w.heap.size → w'.heap[b]? = w.heap[b]?) → Own w' F cs x
  tight : ∀ {w F cs x}, Own w F cs x → Own w (fun b => F b ∧ b < w.heap.size) cs x

/-- Blocks from lo on and below hi. -/
def From (lo hi : Nat) : Nat → Prop := fun b => lo ≤ b ∧ b < hi

/-- Outside F nothing has turned. -/
structure Off (F : Nat → Prop) (w w' : World) : Prop where
  os : w'.os = w.os
  tape : w'.tape = w.tape
  output : w'.output = w.output
  size : w.heap.size ≤ w'.heap.size
  block : ∀ b, b < w.heap.size → ¬ F b → w'.heap[b]? = w.heap[b]?

theorem Off.refl (F : Nat → Prop) (w : World) : Off F w w := ⟨rfl, rfl, rfl, Nat.le_refl _, fun _ _ _ => rfl⟩
theorem Off.trans {F : Nat → Prop} {a b c : World} (h : Off F a b) (k : Off F b c) : Off F a c :=
  ⟨k.os.trans h.os, k.tape.trans h.tape, k.output.trans h.output, Nat.le_trans h.size k.size, fun i hi hn => (k.block i (Nat.lt_of_lt_of_le hi h.size) hn).trans (h.block i hi hn)⟩
theorem Off.mono {F F' : Nat → Prop} {a b : World} (h : Off F a b) (hF : ∀ b, F b → F' b) : Off F' a b := ⟨h.os, h.tape, h.output, h.size, fun b hb hn => h.block b hb (fun e => hn (hF b e))⟩
theorem Off.below {F : Nat → Prop} {a b : World} (h : Below a.heap.size a b) : Off F a b := ⟨h.os, h.tape, h.output, h.size, fun b hb _ => h.block b hb⟩
theorem Off.grown {F : Nat → Prop} {a b : World} {row : Option Nat} (h : a.grownBy b row) (hr : ∀ k, row = some k → F k) : Off F a b :=
  ⟨h.os, h.tape, h.output, h.size, fun k hk hn => h.block k hk (fun e => hn (hr k e.symm))⟩
theorem Off.set {F : Nat → Prop} {w : World} {a : Addr} (ha : F a.block) (v : Value) : Off F w (w.setCell a v) :=
  ⟨rfl, rfl, rfl, by simp [World.setCell], fun k _ hn => Below.heap_setCell w a v k (fun e => hn (by rw [e]; exact ha))⟩
theorem Off.drew {F : Nat → Prop} {a b : World} (h : Off F a b) : Off F a b.drew := ⟨h.os, h.tape, h.output, h.size, h.block⟩
theorem Off.apart {lo hi : Nat} {a b : World} (h : Off (From lo hi) a b) : Apart lo hi a b := ⟨h.os, h.tape, h.output, h.size, fun k hk hn => h.block k hk (fun e => by have := e.1; have := e.2; omega)⟩
theorem Off.of_apart {lo hi : Nat} {a b : World} (h : Apart lo hi a b) : Off (From lo hi) a b := ⟨h.os, h.tape, h.output, h.size, fun k hk hn => h.block k hk (by by_cases e : k < lo; exact .inl e; by_cases e' : hi ≤ k; exact .inr e'; exact absurd ⟨by omega, by omega⟩ hn)⟩
theorem Off.cell {F : Nat → Prop} {w w' : World} (h : Off F w w') {a : Addr} {v : Value} (hc : w.cell? a = some v) (ha : ¬ F a.block) : w'.cell? a = some v :=
  (World.cell?_of_block (h.block a.block (World.block_lt_of_cell? _ _ hc) ha)).trans hc

section
variable {α : Type} (A : Rep α) {w w' : World} {F F' : Nat → Prop} {cs : List Value} {x : α}
theorem Rep.ownBelow (h : A.Own w F cs x) (hb : Below w.heap.size w w') : A.Own w' F cs x := A.frame h (fun b _ h2 => hb.block b h2)
theorem Rep.ownOff (h : A.Own w F cs x) (hb : Off F' w w') (hd : ∀ b, F b → ¬ F' b) : A.Own w' F cs x := A.frame h (fun b h1 h2 => hb.block b h2 (hd b h1))
theorem Rep.ownLen (h : A.Own w F cs x) : cs.length = A.k := A.len (A.toAt h)
end

/-- A number. -/
def Rep.int : Rep Int where
  k := 1
  At _ cs z := cs = [.int .i64 z]
  Own _ _ cs z := cs = [.int .i64 z]
  len h := by rw [h]; rfl
  below h _ := h
  toAt h := h
  mono h _ := h
  frame h _ := h
  tight h := h

/-- Two things, one behind the other. -/
def Rep.pair {α β : Type} (A : Rep α) (B : Rep β) : Rep (α × β) where
  k := A.k + B.k
  At w cs x := ∃ c1 c2, cs = c1 ++ c2 ∧ A.At w c1 x.1 ∧ B.At w c2 x.2
  Own w F cs x := ∃ c1 c2 F1 F2, cs = c1 ++ c2 ∧ A.Own w F1 c1 x.1 ∧ B.Own w F2 c2 x.2 ∧ (∀ b, F1 b → F b) ∧ (∀ b, F2 b → F b) ∧ ∀ b, F1 b → ¬ F2 b
  len h := by obtain ⟨c1, c2, rfl, h1, h2⟩ := h; rw [List.length_append, A.len h1, B.len h2]
  below h hb := by obtain ⟨c1, c2, e, h1, h2⟩ := h; exact ⟨c1, c2, e, A.below h1 hb, B.below h2 hb⟩
  toAt h := by obtain ⟨c1, c2, _, _, e, h1, h2, _⟩ := h; exact ⟨c1, c2, e, A.toAt h1, B.toAt h2⟩
  mono h hF := by obtain ⟨c1, c2, F1, F2, e, h1, h2, h3, h4, h5⟩ := h; exact ⟨c1, c2, F1, F2, e, h1, h2, fun b hb => hF b (h3 b hb), fun b hb => hF b (h4 b hb), h5⟩
  frame h hF := by obtain ⟨c1, c2, F1, F2, e, h1, h2, h3, h4, h5⟩ := h; exact ⟨c1, c2, F1, F2, e, A.frame h1 (fun b hb => hF b (h3 b hb)), B.frame h2 (fun b hb => hF b (h4 b hb)), h3, h4, h5⟩
  tight h := by obtain ⟨c1, c2, F1, F2, e, h1, h2, h3, h4, h5⟩ := h; exact ⟨c1, c2, _, _, e, A.tight h1, B.tight h2, fun b hb => ⟨h3 b hb.1, hb.2⟩, fun b hb => ⟨h4 b hb.1, hb.2⟩, fun b hb hn => h5 b hb.1 hn.1⟩

/-- k cells from o on. -/
def sub (cells : List Value) (o k : Nat) : List Value := (cells.drop o).take k
theorem sub_at {cells : List Value} {o k j : Nat} (h : j < k) : (sub cells o k)[j]? = cells[o + j]? := by
  simp [sub, h]
theorem sub_len {cells : List Value} {o k : Nat} (h : o + k ≤ cells.length) : (sub cells o k).length = k := by simp [sub]; omega

/-- Slices of things: what of the first m is laid. -/
structure Laid {α : Type} (A : Rep α) (w : World) (F : Nat → Prop) (e : TypeId) (a : Option Addr) (n c : Nat) (xs : List α) (cells : List Value) (G : Nat → Nat → Prop) (m : Nat) : Prop where
  len : xs.length = n
  big : n ≤ 9223372036854775807
  outer : w.ownsRow 0 e A.k (.slice a n c) n cells
  outerF : ∀ b, (Value.slice a n c).ownBlock = some b → F b
  row : ∀ i x, i < m → xs[i]? = some x → A.Own w (G i) (sub cells (i * A.k) A.k) x
  rowF : ∀ i b, i < m → G i b → F b ∧ (Value.slice a n c).ownBlock ≠ some b
  apart : ∀ i j b, i < m → j < m → i ≠ j → G i b → ¬ G j b

section
variable {α : Type} {A : Rep α} {w w' : World} {F F' : Nat → Prop} {e : TypeId} {a : Option Addr} {n c m : Nat} {xs : List α} {cells : List Value} {G : Nat → Nat → Prop}

theorem ownsRow_frame {base : Nat} {size : Nat} {v : Value} {ys : List Value} (h : w.ownsRow base e size v n ys) (hb : ∀ b, v.ownBlock = some b → b < w.heap.size → w'.heap[b]? = w.heap[b]?) : w'.ownsRow base e size v n ys := by
  refine ⟨h.1, ?_⟩
  rcases h.2 with hn | ⟨g, cap, cur, rfl, hbb, hg, rest⟩
  · exact .inl hn
  · exact .inr ⟨g, cap, cur, rfl, hbb, (hb g rfl (Array.getElem?_eq_some_iff.1 hg).1).trans hg, rest⟩

theorem Laid.frame (h : Laid A w F e a n c xs cells G m) (hF : ∀ b, F b → b < w.heap.size → w'.heap[b]? = w.heap[b]?) : Laid A w' F e a n c xs cells G m :=
  ⟨h.len, h.big, ownsRow_frame h.outer (fun b hb => hF b (h.outerF b hb)), h.outerF, fun i x hi hx => A.frame (h.row i x hi hx) (fun b hb => hF b (h.rowF i b hi hb).1), h.rowF, h.apart⟩
theorem Laid.below (h : Laid A w F e a n c xs cells G m) (hb : Below w.heap.size w w') : Laid A w' F e a n c xs cells G m := h.frame (fun b _ h2 => hb.block b h2)
theorem Laid.mono (h : Laid A w F e a n c xs cells G m) (hF : ∀ b, F b → F' b) : Laid A w F' e a n c xs cells G m :=
  ⟨h.len, h.big, h.outer, fun b hb => hF b (h.outerF b hb), h.row, fun i b hi hb => ⟨hF b (h.rowF i b hi hb).1, (h.rowF i b hi hb).2⟩, h.apart⟩
theorem Laid.tight (h : Laid A w F e a n c xs cells G m) : Laid A w (fun b => F b ∧ b < w.heap.size) e a n c xs cells (fun i b => G i b ∧ b < w.heap.size) m :=
  ⟨h.len, h.big, h.outer, fun b hb => ⟨h.outerF b hb, (h.outer.lt b hb).2⟩, fun i x hi hx => A.tight (h.row i x hi hx), fun i b hi hb => ⟨⟨(h.rowF i b hi hb.1).1, hb.2⟩, (h.rowF i b hi hb.1).2⟩, fun i j b hi hj hij hb hn => h.apart i j b hi hj hij hb.1 hn.1⟩
theorem Laid.start (hl : xs.length = n) (hb : n ≤ 9223372036854775807) (ho : w.ownsRow 0 e A.k (.slice a n c) n cells) (hF : ∀ b, (Value.slice a n c).ownBlock = some b → F b) (G : Nat → Nat → Prop) : Laid A w F e a n c xs cells G 0 :=
  ⟨hl, hb, ho, hF, fun i x h => by omega, fun i b h => by omega, fun i j b h => by omega⟩
end

/-- Things in a slice, as they are read. -/
def AtSl {α : Type} (A : Rep α) (w : World) (a : Option Addr) (xs : List α) : Prop :=
  xs = [] ∨ ∃ b off, a = some ⟨b, off, none⟩ ∧ ∀ i x, xs[i]? = some x → ∃ cs, (∀ j v, cs[j]? = some v → w.cell? ⟨b, off + i * A.k + j, none⟩ = some v) ∧ A.At w cs x

theorem AtSl.below {α : Type} {A : Rep α} {w w' : World} {a : Option Addr} {xs : List α} (h : AtSl A w a xs) (hb : Below w.heap.size w w') : AtSl A w' a xs := by
  rcases h with h | ⟨b, off, rfl, hc⟩
  · exact .inl h
  · refine .inr ⟨b, off, rfl, fun i x hx => ?_⟩
    obtain ⟨cs, h1, h2⟩ := hc i x hx
    exact ⟨cs, fun j v hv => cell_later hb (h1 j v hv), A.below h2 hb⟩

theorem AtSl.each {α : Type} {A : Rep α} {w : World} {a : Option Addr} {xs : List α} (h : AtSl A w a xs) (hp : 0 < xs.length) :
    ∃ b off, a = some ⟨b, off, none⟩ ∧ ∀ i x, xs[i]? = some x → ∃ cs, (∀ j v, cs[j]? = some v → w.cell? ⟨b, off + i * A.k + j, none⟩ = some v) ∧ A.At w cs x := by
  rcases h with rfl | h
  · simp at hp
  · exact h

theorem Laid.atSl {α : Type} {A : Rep α} {w : World} {F : Nat → Prop} {e : TypeId} {a : Option Addr} {n c : Nat} {xs : List α} {cells : List Value} {G : Nat → Nat → Prop} (h : Laid A w F e a n c xs cells G n) : AtSl A w a xs := by
  rcases h.outer.2 with ⟨hv, h0⟩ | ⟨g, cap, cur, hv, _⟩
  · left
    have := h.len
    rw [h0] at this
    exact List.eq_nil_of_length_eq_zero this
  · simp only [Value.slice.injEq, true_and] at hv
    obtain ⟨rfl, rfl⟩ := hv
    refine .inr ⟨g, 0, rfl, fun i x hx => ?_⟩
    have hi : i < n := by rw [← h.len]; exact (List.getElem?_eq_some_iff.1 hx).1
    have hA := h.row i x hi hx
    refine ⟨_, fun j v hv => ?_, A.toAt hA⟩
    have hj : j < A.k := by rw [← A.ownLen hA]; exact (List.getElem?_eq_some_iff.1 hv).1
    rw [sub_at hj] at hv
    rw [Nat.zero_add, h.outer.cellAt _ (Nat.lt_of_lt_of_le (Nat.add_lt_add_left hj _) (by rw [← Nat.succ_mul]; exact Nat.mul_le_mul_right _ hi))]
    exact hv

theorem rep_nil {w : World} {base : Nat} {e : TypeId} {size : Nat} {a : Option Addr} {n c m : Nat} {xs : List Value} (h : w.ownsRow base e size (.slice a n c) m xs) : a = none → c = 0 := fun ha => by
  rcases h.2 with ⟨hv, _⟩ | ⟨g, cap, cur, hv, _⟩
  · simp only [Value.slice.injEq] at hv; exact hv.2.2
  · simp only [Value.slice.injEq] at hv; rw [ha] at hv; cases hv.1

/-- A slice of things. -/
def Rep.slice {α : Type} (e : TypeId) (A : Rep α) : Rep (List α) where
  k := 1
  At w cs xs := ∃ a n c, cs = [.slice a n c] ∧ xs.length = n ∧ n ≤ 9223372036854775807 ∧ AtSl A w a xs ∧ (a = none → c = 0)
  Own w F cs xs := ∃ a n c cells G, cs = [.slice a n c] ∧ Laid A w F e a n c xs cells G n
  len h := by obtain ⟨a, n, c, rfl, _⟩ := h; rfl
  below h hb := by obtain ⟨a, n, c, e, h1, h2, h3, h4⟩ := h; exact ⟨a, n, c, e, h1, h2, h3.below hb, h4⟩
  toAt h := by obtain ⟨a, n, c, cells, G, e, h⟩ := h; exact ⟨a, n, c, e, h.len, h.big, h.atSl, rep_nil h.outer⟩
  mono h hF := by obtain ⟨a, n, c, cells, G, e, h⟩ := h; exact ⟨a, n, c, cells, G, e, h.mono hF⟩
  frame h hF := by obtain ⟨a, n, c, cells, G, e, h⟩ := h; exact ⟨a, n, c, cells, G, e, h.frame hF⟩
  tight h := by obtain ⟨a, n, c, cells, G, e, h⟩ := h; exact ⟨a, n, c, cells, _, e, h.tight⟩

/-- Cells that are stored one behind the other. -/
def stores (w : World) (g : Nat) : Nat → List Value → World
  | _, [] => w
  | o, v :: vs => stores (w.setCell ⟨g, o, none⟩ v) g (o + 1) vs
def sets (cells : List Value) : Nat → List Value → List Value
  | _, [] => cells
  | o, v :: vs => sets (cells.set o v) (o + 1) vs
theorem sets_len (cells : List Value) (o : Nat) (vs : List Value) : (sets cells o vs).length = cells.length := by
  induction vs generalizing cells o with
  | nil => rfl
  | cons v vs ih => rw [sets, ih]; simp
theorem sets_far (cells : List Value) (o : Nat) (vs : List Value) (j : Nat) (h : j < o ∨ o + vs.length ≤ j) : (sets cells o vs)[j]? = cells[j]? := by
  induction vs generalizing cells o with
  | nil => rfl
  | cons v vs ih => rw [sets, ih _ _ (by simp at h; omega), List.getElem?_set_ne (by simp at h; omega)]
theorem sets_in (cells : List Value) (o : Nat) (vs : List Value) (j : Nat) (hj : j < vs.length) (h : o + vs.length ≤ cells.length) : (sets cells o vs)[o + j]? = vs[j]? := by
  induction vs generalizing cells o j with
  | nil => simp at hj
  | cons v vs ih =>
    rw [sets]
    cases j with
    | zero =>
      simp only [List.length_cons] at h
      show (sets (cells.set o v) (o + 1) vs)[o]? = some v
      rw [sets_far _ _ _ _ (by omega), List.getElem?_set_self (by omega)]
    | succ j => rw [show o + (j + 1) = (o + 1) + j by omega, ih _ _ _ (by simpa using hj) (by simp at h ⊢; omega)]; simp
theorem sub_sets (cells : List Value) (o : Nat) (vs : List Value) (h : o + vs.length ≤ cells.length) : sub (sets cells o vs) o vs.length = vs := by
  apply List.ext_getElem?
  intro j
  by_cases hj : j < vs.length
  · rw [sub_at hj, sets_in _ _ _ _ hj h]
  · rw [List.getElem?_eq_none (by simp [sub, sets_len]; omega), List.getElem?_eq_none (by omega)]
theorem sub_sets_far (cells : List Value) (o : Nat) (vs : List Value) (o' k : Nat) (h : o' + k ≤ o ∨ o + vs.length ≤ o') : sub (sets cells o vs) o' k = sub cells o' k := by
  apply List.ext_getElem?
  intro j
  by_cases hj : j < k
  · rw [sub_at hj, sub_at hj, sets_far _ _ _ _ (by omega)]
  · rw [List.getElem?_eq_none (by simp [sub]; omega), List.getElem?_eq_none (by simp [sub]; omega)]

section
variable {w : World} {base : Nat} {e : TypeId} {size g n cap : Nat}
theorem owns_stores {xs : List Value} (h : w.ownsRow base e size (.slice (some ⟨g, 0, none⟩) n cap) n xs) (o : Nat) (vs : List Value) :
    (stores w g o vs).ownsRow base e size (.slice (some ⟨g, 0, none⟩) n cap) n (sets xs o vs) := by
  induction vs generalizing w xs o with
  | nil => exact h
  | cons v vs ih => exact ih (h.stored o v).1 (o + 1)
theorem stores_block (w : World) (g o : Nat) (vs : List Value) (b : Nat) (hb : b ≠ g) : (stores w g o vs).heap[b]? = w.heap[b]? := by
  induction vs generalizing w o with
  | nil => rfl
  | cons v vs ih => rw [stores, ih, Below.heap_setCell _ _ _ _ hb]
theorem stores_off {F : Nat → Prop} (w : World) (g o : Nat) (vs : List Value) (hg : F g) : Off F w (stores w g o vs) := by
  induction vs generalizing w o with
  | nil => exact Off.refl _ _
  | cons v vs ih => exact (Off.set (a := ⟨g, o, none⟩) hg v).trans (ih _ _)
theorem stores_below {B : Nat} {W : World} (w : World) (g o : Nat) (vs : List Value) (h : Below B W w) (hg : B ≤ g) : Below B W (stores w g o vs) := by
  induction vs generalizing w o with
  | nil => exact h
  | cons v vs ih => exact ih _ _ (h.setCell hg v)
theorem stores_size (w : World) (g o : Nat) (vs : List Value) : (stores w g o vs).heap.size = w.heap.size := by
  induction vs generalizing w o with
  | nil => rfl
  | cons v vs ih => rw [stores, ih]; simp [World.setCell]
end

section
variable {α : Type} {A : Rep α} {w w2 : World} {F : Nat → Prop} {e : TypeId} {a : Option Addr} {n c m : Nat} {xs : List α} {cells : List Value} {G : Nat → Nat → Prop}

theorem at_mul {i n k : Nat} (h : i < n) : i * k + k ≤ n * k := by rw [← Nat.succ_mul]; exact Nat.mul_le_mul_right _ h
theorem mul_far {i j k : Nat} (h : i ≠ j) : i * k + k ≤ j * k ∨ j * k + k ≤ i * k := by
  rcases Nat.lt_or_gt_of_ne h with h | h
  · exact .inl (at_mul h)
  · exact .inr (at_mul h)

/-- One more thing is laid: its cells, and the memory behind them, which is new. -/
theorem Laid.put {g : Nat} {H : Nat → Prop} {vs : List Value} {x : α} (h : Laid A w F e (some ⟨g, 0, none⟩) n c xs cells G m) (hm : m < n) (hF : ∀ b, F b → b < w.heap.size) (hb : Below w.heap.size w w2)
    (hx : xs[m]? = some x) (ho : A.Own w2 H vs x) (hH : ∀ b, H b → w.heap.size ≤ b) :
    Laid A (stores w2 g (m * A.k) vs) (fun b => F b ∨ H b) e (some ⟨g, 0, none⟩) n c xs (sets cells (m * A.k) vs) (fun i => if i = m then H else G i) (m + 1) := by
  have hl := A.ownLen ho
  have hcl := h.outer.1
  have hgF : F g := h.outerF g rfl
  have hgl := hF g hgF
  have hmk := at_mul (k := A.k) hm
  refine ⟨h.len, h.big, owns_stores (h.below hb).outer _ _, fun b hb' => .inl (h.outerF b hb'), fun i y hi hy => ?_, fun i b hi hb' => ?_, fun i j b hi hj hij hb' => ?_⟩
  · by_cases ei : i = m
    · subst ei
      obtain rfl : x = y := by rw [hx] at hy; exact Option.some.inj hy
      simp only [if_true]
      have := sub_sets cells (i * A.k) vs (by rw [hl, hcl]; exact hmk)
      rw [hl] at this
      rw [this]
      exact A.frame ho (fun b hb' _ => stores_block _ _ _ _ _ (by have := hH b hb'; omega))
    · simp only [if_neg ei]
      rw [sub_sets_far _ _ _ _ _ (by rw [hl]; exact mul_far ei)]
      exact A.frame ((h.below hb).row i y (by omega) hy) (fun b hb' _ => stores_block _ _ _ _ _ (fun e' => (h.rowF i b (by omega) hb').2 (by simp [Value.ownBlock, e'])))
  · by_cases ei : i = m
    · subst ei
      simp only [if_true] at hb'
      exact ⟨.inr hb', by have := hH b hb'; simp [Value.ownBlock]; omega⟩
    · simp only [if_neg ei] at hb'
      exact ⟨.inl (h.rowF i b (by omega) hb').1, (h.rowF i b (by omega) hb').2⟩
  · by_cases ei : i = m
    · subst ei
      simp only [if_true] at hb'
      simp only [if_neg (Ne.symm hij)]
      intro e'
      have := hF b (h.rowF j b (by omega) e').1
      have := hH b hb'
      omega
    · simp only [if_neg ei] at hb'
      by_cases ej : j = m
      · simp only [if_pos ej]
        intro e'
        have := hF b (h.rowF i b (by omega) hb').1
        have := hH b e'
        omega
      · simp only [if_neg ej]
        exact h.apart i j b (by omega) (by omega) hij hb'

/-- One thing of it is turned, in its own memory. -/
theorem Laid.turn {w' : World} {i : Nat} {cells' : List Value} {x' : α} (h : Laid A w F e a n c xs cells G n) (hi : i < n) (hw : ∀ b, b < w.heap.size → ¬ G i b → (Value.slice a n c).ownBlock ≠ some b → w'.heap[b]? = w.heap[b]?)
    (ho : w'.ownsRow 0 e A.k (.slice a n c) n cells') (hc : ∀ j, j ≠ i → sub cells' (j * A.k) A.k = sub cells (j * A.k) A.k) (hx : A.Own w' (G i) (sub cells' (i * A.k) A.k) x') :
    Laid A w' F e a n c (xs.set i x') cells' G n := by
  refine ⟨by simp [h.len], h.big, ho, h.outerF, fun j y hj hy => ?_, h.rowF, h.apart⟩
  by_cases ej : j = i
  · subst ej
    rw [List.getElem?_set_self (by rw [h.len]; exact hi)] at hy
    obtain rfl := Option.some.inj hy
    exact hx
  · rw [List.getElem?_set_ne (Ne.symm ej)] at hy
    rw [hc j ej]
    exact A.frame (h.row j y hj hy) (fun b hb hl => hw b hl (fun e' => h.apart i j b hi hj (Ne.symm ej) e' hb) (h.rowF j b hj hb).2)
end

end Go.Proofs.Ytkcmlphpilggpaa

/- Slices of numbers and of slices of numbers as things in memory. -/
namespace Go.Proofs.Ytkcmlphpilggpaa
open Go.RowKit

theorem atSl_int {w : World} {a : Option Addr} {zs : List Int} : AtSl Rep.int w a zs ↔ At w a zs := by
  constructor
  · rintro (h | ⟨b, off, rfl, hc⟩)
    · exact .inl h
    · refine .inr ⟨b, off, rfl, fun i hi => ?_⟩
      obtain ⟨cs, h1, h2⟩ := hc i zs[i] (List.getElem?_eq_getElem hi)
      obtain rfl : cs = [.int .i64 zs[i]] := h2
      have := h1 0 _ rfl
      simpa [Rep.int, List.getD, hi] using this
  · rintro (h | ⟨b, off, rfl, hc⟩)
    · exact .inl h
    · refine .inr ⟨b, off, rfl, fun i x hx => ⟨[.int .i64 x], fun j v hv => ?_, rfl⟩⟩
      have hi := (List.getElem?_eq_some_iff.1 hx).1
      have := hc i hi
      match j, hv with
      | 0, hv =>
        obtain rfl := Option.some.inj hv
        simpa [Rep.int, List.getD, hx] using this

abbrev RInts : Rep (List Int) := Rep.slice 3 Rep.int
abbrev RPairs : Rep (List (List Int)) := Rep.slice 22 RInts

theorem RInts.at_iff {w : World} {a : Option Addr} {n c : Nat} {zs : List Int} : RInts.At w [.slice a n c] zs ↔ zs.length = n ∧ n ≤ 9223372036854775807 ∧ At w a zs ∧ (a = none → c = 0) := by
  constructor
  · rintro ⟨a', n', c', e, h1, h2, h3, h4⟩
    simp only [List.cons.injEq, Value.slice.injEq, and_true] at e
    obtain ⟨rfl, rfl, rfl⟩ := e
    exact ⟨h1, h2, atSl_int.1 h3, h4⟩
  · rintro ⟨h1, h2, h3, h4⟩
    exact ⟨a, n, c, rfl, h1, h2, atSl_int.2 h3, h4⟩

theorem cells_ints {cells : List Value} {zs : List Int} (hl : cells.length = zs.length) (h : ∀ (i : Nat) (x : Int), zs[i]? = some x → cells[i]? = some (Value.int .i64 x)) : cells = zs.map (.int .i64) := by
  apply List.ext_getElem?
  intro j
  by_cases hj : j < zs.length
  · rw [h j _ (List.getElem?_eq_getElem hj)]; simp [hj]
  · rw [List.getElem?_eq_none (by omega), List.getElem?_eq_none (by simp; omega)]

theorem owns_base {w : World} {base : Nat} {e : TypeId} {size : Nat} {v : Value} {n : Nat} {xs : List Value} (h : w.ownsRow 0 e size v n xs) (hb : ∀ b, v.ownBlock = some b → base ≤ b) : w.ownsRow base e size v n xs := by
  refine ⟨h.1, ?_⟩
  rcases h.2 with hn | ⟨g, cap, cur, rfl, _, rest⟩
  · exact .inl hn
  · exact .inr ⟨g, cap, cur, rfl, hb g rfl, rest⟩

theorem RInts.own_iff {w : World} {F : Nat → Prop} {a : Option Addr} {n c : Nat} {zs : List Int} :
    RInts.Own w F [.slice a n c] zs ↔ zs.length = n ∧ n ≤ 9223372036854775807 ∧ w.ownsRow 0 3 1 (.slice a n c) n (zs.map (.int .i64)) ∧ ∀ b, (Value.slice a n c).ownBlock = some b → F b := by
  constructor
  · rintro ⟨a', n', c', cells, G, e, h⟩
    simp only [List.cons.injEq, Value.slice.injEq, and_true] at e
    obtain ⟨rfl, rfl, rfl⟩ := e
    have hc : cells = zs.map (.int .i64) := by
      refine cells_ints (by have := h.outer.1; simp [Rep.int] at this; rw [this, h.len]) (fun i x hx => ?_)
      have hi : i < n := by rw [← h.len]; exact (List.getElem?_eq_some_iff.1 hx).1
      have e : sub cells (i * 1) 1 = [.int .i64 x] := h.row i x hi hx
      have e2 : (sub cells (i * 1) 1)[0]? = cells[i * 1 + 0]? := sub_at (by omega)
      rw [e] at e2
      simpa using e2.symm
    refine ⟨h.len, h.big, ?_, h.outerF⟩
    rw [← hc]; exact h.outer
  · rintro ⟨h1, h2, h3, h4⟩
    refine ⟨a, n, c, _, fun _ _ => False, rfl, h1, h2, h3, h4, fun i x hi hx => ?_, fun i b hi hb => hb.elim, fun i j b _ _ _ hb => hb.elim⟩
    show sub (zs.map (.int .i64)) (i * 1) 1 = [.int .i64 x]
    apply List.ext_getElem?
    intro j
    by_cases hj : j < 1
    · rw [sub_at hj]
      obtain rfl : j = 0 := by omega
      simp [hx]
    · rw [List.getElem?_eq_none (by simp [sub]; omega), List.getElem?_eq_none (by simp; omega)]

/-- What the contracts of stage 1 to 5 say of a slice of numbers, told as a thing that is owned. -/
theorem RInts.of_owns {w : World} {base : Nat} {a : Option Addr} {n c : Nat} {zs : List Int} (hz : zs.length = n) (hn : n ≤ 9223372036854775807) (h : w.ownsRow base 3 1 (.slice a n c) n (zs.map (.int .i64))) :
    RInts.Own w (From base w.heap.size) [.slice a n c] zs := RInts.own_iff.2 ⟨hz, hn, owns_mono h (Nat.zero_le _), fun b hb => h.lt b hb⟩

theorem atSl_ints {w : World} {a : Option Addr} {zss : List (List Int)} (h : AtSl RInts w a zss) : AtS w a zss := by
  rcases h with h | ⟨b, off, rfl, hc⟩
  · exact .inl h
  · refine .inr ⟨b, off, rfl, fun i hi => ?_⟩
    obtain ⟨cs, h1, h2⟩ := hc i zss[i] (List.getElem?_eq_getElem hi)
    obtain ⟨a', n', c', rfl, e1, e2, e3, _⟩ := h2
    have g0 := h1 0 _ rfl
    have ht : zss.getD i [] = zss[i] := by simp [List.getD, hi]
    rw [ht, e1]
    exact ⟨a', c', by simpa [RInts, Rep.slice] using g0, e2, atSl_int.1 e3⟩

/-- A slice of slices of numbers that a contract of stage 1 owns, as a thing that is owned. -/
theorem RPairs.of_own {w : World} {lo hi g n : Nat} {zss : List (List Int)} (h : OwnS w lo hi 22 3 g n zss) (hn : n ≤ 1048576) (hs : ∀ i, i < zss.length → (zss.getD i []).length ≤ 1048576) : RPairs.Own w (From lo hi) [.slice (some ⟨g, 0, none⟩) n n] zss := by
  obtain ⟨vs, L, h1, h2, h3, h4, h5, h6, h7, h8, h9⟩ := h
  have hm := mono_le h5
  have q0 := hm 0 n (by omega) (Nat.le_refl _)
  refine ⟨some ⟨g, 0, none⟩, n, n, vs, fun i b => L i ≤ b ∧ b < L (i + 1), rfl, h1, by omega, ⟨by simpa [Rep.slice] using h2, .inr ⟨g, n, vs.toArray, rfl, Nat.zero_le _, h8, Nat.le_refl _, by unfold maxLen; omega, by simpa [Rep.slice] using h2, by simp [Rep.slice, ← h2]⟩⟩,
    fun b hb => ?_, fun i x hi hx => ?_, fun i b hi hb => ?_, fun i j b hi hj hij hb hb' => ?_⟩
  · obtain rfl : g = b := by simpa [Value.ownBlock] using hb
    exact ⟨h3, by omega⟩
  · obtain ⟨a', c', k1, k2, k3⟩ := h9 i hi
    have ht : zss.getD i [] = x := by simp [List.getD, hx]
    have hsx := hs i (by omega)
    rw [ht] at k1 k2 k3 hsx
    have e : sub vs (i * 1) 1 = [.slice a' x.length c'] := by
      apply List.ext_getElem?
      intro j
      by_cases hj : j < 1
      · rw [sub_at hj]; obtain rfl : j = 0 := by omega
        simpa using k1
      · rw [List.getElem?_eq_none (by simp [sub]; omega), List.getElem?_eq_none (by simp; omega)]
    show RInts.Own w _ (sub vs (i * 1) 1) x
    rw [e]
    exact RInts.own_iff.2 ⟨rfl, by omega, owns_mono k2 (Nat.zero_le _), fun b hb => ⟨(k2.lt b hb).1, k3 b hb⟩⟩
  · have q1 := hm 0 i (by omega) (by omega)
    have q2 := hm (i + 1) n (by omega) (Nat.le_refl _)
    exact ⟨⟨by omega, by omega⟩, by simp [Value.ownBlock]; omega⟩
  · rcases Nat.lt_or_gt_of_ne hij with hlt | hlt
    · have := hm (i + 1) j (by omega) (by omega); omega
    · have := hm (j + 1) i (by omega) (by omega); omega

end Go.Proofs.Ytkcmlphpilggpaa

/- The laws' copies of slices of numbers, of slices of numbers, as things that are owned. -/
namespace Go.Proofs.Ytkcmlphpilggpaa
open Go.RowKit

theorem toInts_rep (a : Option Addr) (n c : Nat) (zs : List Int) (w : World) (hz : zs.length = n) (hn : n ≤ 1048576) (ha : At w a zs) :
    Calls Try.prog 8 #[.slice a n c] w fun e w' => ∃ g, e = .returned (.slice (some ⟨g, 0, none⟩) n n) ∧ RInts.Own w' (From w.heap.size w'.heap.size) [.slice (some ⟨g, 0, none⟩) n n] zs ∧ Below w.heap.size w w' :=
  (toIntS_any a n c zs w hz hn ha).mono fun _ _ ⟨h1, h2, h3⟩ => ⟨_, h1, RInts.of_owns hz (by omega) h2, h3⟩
theorem toPairs_rep (a : Option Addr) (n c : Nat) (ps : List (List Int)) (w : World) (hz : ps.length = n) (hn : n ≤ 1048576) (hs : ∀ i, i < ps.length → (ps.getD i []).length ≤ 1048576) (ha : AtS w a ps) :
    Calls Try.prog 19 #[.slice a n c] w fun e w' => ∃ g, e = .returned (.slice (some ⟨g, 0, none⟩) n n) ∧ RPairs.Own w' (From w.heap.size w'.heap.size) [.slice (some ⟨g, 0, none⟩) n n] ps ∧ Below w.heap.size w w' :=
  (toIntSS_at a n c ps w hz hn hs ha).mono fun _ _ ⟨g, h1, h2, h3⟩ => ⟨g, h1, RPairs.of_own h2 hn hs, h3⟩

end Go.Proofs.Ytkcmlphpilggpaa

/- A block of cells that a function holds: what is stored, what stays. -/
namespace Go.Proofs.Ytkcmlphpilggpaa
open Go.RowKit

theorem blk_set {w : World} {g : Nat} {cs : Array Value} {t : TypeId} (h : w.heap[g]? = some (.cells cs t (0, 0))) (k : Nat) (v : Value) : (w.setCell ⟨g, k, none⟩ v).heap[g]? = some (.cells (cs.setIfInBounds k v) t (0, 0)) := heap_setCell_same w g k cs t v h
theorem blk_cell {w : World} {g : Nat} {cs : Array Value} {t : TypeId} (h : w.heap[g]? = some (.cells cs t (0, 0))) (k : Nat) {v : Value} (hv : cs[k]? = some v) : w.cell? ⟨g, k, none⟩ = some v := by
  rw [cell_of_row w g k _ t (0, 0) h]; exact hv
theorem blk_frozen {w : World} {g : Nat} {cs : Array Value} {t : TypeId} (h : w.heap[g]? = some (.cells cs t (0, 0))) (k : Nat) : w.frozen? ⟨g, k, none⟩ = false := frozen_of_row w g k _ t h
theorem blk_below {w w' : World} {g : Nat} {o : Obj} (h : w.heap[g]? = some o) (hb : Below w.heap.size w w') : w'.heap[g]? = some o := (hb.block g (Array.getElem?_eq_some_iff.1 h).1).trans h
theorem blk_other {w : World} {g : Nat} {o : Obj} (h : w.heap[g]? = some o) {a : Addr} (ha : g ≠ a.block) (v : Value) : (w.setCell a v).heap[g]? = some o := (Below.heap_setCell w a v g ha).trans h
theorem blk_alloc {w : World} {g : Nat} {o : Obj} (h : w.heap[g]? = some o) (o' : Obj) : (w.alloc o').heap[g]? = some o := (Below.heap_alloc w o' g (Array.getElem?_eq_some_iff.1 h).1).trans h

end Go.Proofs.Ytkcmlphpilggpaa
