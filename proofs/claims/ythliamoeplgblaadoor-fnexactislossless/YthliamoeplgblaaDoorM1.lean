/- Several texts of one proof, in build order: GroundT, Rep. -/
import Derived.Test.YthliamoeplgblaaDoorM0

/- Plain facts on slices of weighted rows: what lies in memory, what a call owns, what the laws mark. -/
namespace Go.Proofs.YthliamoeplgblaaDoor
open Go.RowKit

theorem pair0 (w : World) (u v : Value) (t : TypeId) : (w.alloc (.cells #[u, v] t)).cell? ⟨w.heap.size, 0, none⟩ = some u := by simp
theorem pair1 (w : World) (u v : Value) (t : TypeId) : (w.alloc (.cells #[u, v] t)).cell? ⟨w.heap.size, 1, none⟩ = some v := by simp

/-- A weighted row: its cells and its weight. -/
abbrev WRow := List Int × Int
abbrev wat (ts : List WRow) (i : Nat) : WRow := ts.getD i ([], 0)

/-- A slice of weighted rows with the address a holds ts in the world w. -/
def AtW (w : World) (a : Option Addr) (ts : List WRow) : Prop :=
  ts = [] ∨ ∃ b off, a = some ⟨b, off, none⟩ ∧ ∀ i, i < ts.length → ∃ a' c', w.cell? ⟨b, off + i * 2, none⟩ = some (.slice a' (wat ts i).1.length c') ∧ w.cell? ⟨b, off + i * 2 + 1, none⟩ = some (.int .i64 (wat ts i).2) ∧
    (wat ts i).1.length ≤ 9223372036854775807 ∧ At w a' (wat ts i).1

theorem AtW.nil (w : World) (a : Option Addr) : AtW w a [] := .inl rfl

theorem AtW.below {w w' : World} {a : Option Addr} {ts : List WRow} (h : AtW w a ts) (hb : Below w.heap.size w w') : AtW w' a ts := by
  rcases h with h | ⟨b, off, rfl, hc⟩
  · exact .inl h
  · refine .inr ⟨b, off, rfl, fun i hi => ?_⟩
    obtain ⟨a', c', h1, h2, h3, h4⟩ := hc i hi
    exact ⟨a', c', cell_later hb h1, cell_later hb h2, h3, h4.below hb⟩
theorem AtW.alloc {w : World} {a : Option Addr} {ts : List WRow} (h : AtW w a ts) (o : Obj) : AtW (w.alloc o) a ts := h.below ((Below.refl _ _).alloc (Nat.le_refl _) o)
theorem AtW.drew {w : World} {a : Option Addr} {ts : List WRow} (h : AtW w a ts) : AtW w.drew a ts := h.below (Below.refl _ _).drew

theorem AtW.some {w : World} {a : Option Addr} {ts : List WRow} (h : AtW w a ts) (hp : 0 < ts.length) :
    ∃ b off, a = Option.some ⟨b, off, none⟩ ∧ ∀ i, i < ts.length → ∃ a' c', w.cell? ⟨b, off + i * 2, none⟩ = Option.some (.slice a' (wat ts i).1.length c') ∧ w.cell? ⟨b, off + i * 2 + 1, none⟩ = Option.some (.int .i64 (wat ts i).2) ∧
      (wat ts i).1.length ≤ 9223372036854775807 ∧ At w a' (wat ts i).1 := by
  rcases h with rfl | h
  · simp at hp
  · exact h

/-- The block of the i-th row's cells. -/
def blkW (cells : List Value) (i : Nat) : Option Nat := (cells.getD (i * 2) (.bool false)).ownBlock

/-- A slice of weighted rows that the call itself made, its first k rows laid: all its blocks, each its own, lie from lo on and below hi. -/
structure OwnWk (w : World) (lo hi : Nat) (te ti : TypeId) (a : Option Addr) (n c : Nat) (ts : List WRow) (cells : List Value) (k : Nat) : Prop where
  len : ts.length = n
  top : hi ≤ w.heap.size
  outer : w.ownsRow lo te 2 (.slice a n c) n cells
  outerLt : ∀ b, (Value.slice a n c).ownBlock = some b → b < hi
  row : ∀ i, i < k → ∃ a' c', cells[i * 2]? = some (.slice a' (wat ts i).1.length c') ∧ cells[i * 2 + 1]? = some (.int .i64 (wat ts i).2) ∧
    w.ownsRow lo ti 1 (.slice a' (wat ts i).1.length c') (wat ts i).1.length ((wat ts i).1.map (.int .i64))
  rowLt : ∀ i, i < k → ∀ b, blkW cells i = some b → b < hi ∧ (Value.slice a n c).ownBlock ≠ some b
  apart : ∀ i j, i < k → j < k → i ≠ j → ∀ b, blkW cells i = some b → blkW cells j ≠ some b
/-- All its rows are laid. -/
abbrev OwnW (w : World) (lo hi : Nat) (te ti : TypeId) (a : Option Addr) (n c : Nat) (ts : List WRow) (cells : List Value) : Prop := OwnWk w lo hi te ti a n c ts cells n

theorem blkW_of {cells : List Value} {i : Nat} {v : Value} (h : cells[i * 2]? = some v) : blkW cells i = v.ownBlock := by simp [blkW, List.getD, h]

section
variable {w w' : World} {lo hi : Nat} {te ti : TypeId} {a : Option Addr} {n c k : Nat} {ts : List WRow} {cells : List Value}

theorem OwnWk.below (h : OwnWk w lo hi te ti a n c ts cells k) (hb : Below w.heap.size w w') : OwnWk w' lo hi te ti a n c ts cells k :=
  ⟨h.len, Nat.le_trans h.top hb.size, owns_below h.outer hb, h.outerLt, fun i hi => by obtain ⟨a', c', h1, h2, h3⟩ := h.row i hi; exact ⟨a', c', h1, h2, owns_below h3 hb⟩, h.rowLt, h.apart⟩
theorem OwnWk.drew (h : OwnWk w lo hi te ti a n c ts cells k) : OwnWk w.drew lo hi te ti a n c ts cells k := h.below (Below.refl _ _).drew
theorem OwnWk.alloc (h : OwnWk w lo hi te ti a n c ts cells k) (o : Obj) : OwnWk (w.alloc o) lo hi te ti a n c ts cells k := h.below ((Below.refl _ _).alloc (Nat.le_refl _) o)

theorem OwnWk.widen {lo' hi' : Nat} (h : OwnWk w lo hi te ti a n c ts cells k) (h1 : lo' ≤ lo) (h2 : hi ≤ hi') (h3 : hi' ≤ w.heap.size) : OwnWk w lo' hi' te ti a n c ts cells k :=
  ⟨h.len, h3, owns_mono h.outer h1, fun b hb => Nat.lt_of_lt_of_le (h.outerLt b hb) h2, fun i hi => by obtain ⟨a', c', k1, k2, k3⟩ := h.row i hi; exact ⟨a', c', k1, k2, owns_mono k3 h1⟩,
    fun i hi b hb => ⟨Nat.lt_of_lt_of_le (h.rowLt i hi b hb).1 h2, (h.rowLt i hi b hb).2⟩, h.apart⟩

/-- Every block of it lies from lo on and below hi. -/
theorem OwnWk.blocks (h : OwnWk w lo hi te ti a n c ts cells k) :
    (∀ b, (Value.slice a n c).ownBlock = some b → lo ≤ b ∧ b < hi) ∧ ∀ i, i < k → ∀ b, blkW cells i = some b → lo ≤ b ∧ b < hi := by
  refine ⟨fun b hb => ⟨(h.outer.lt b hb).1, h.outerLt b hb⟩, fun i hi b hb => ⟨?_, (h.rowLt i hi b hb).1⟩⟩
  obtain ⟨a', c', k1, _, k3⟩ := h.row i hi
  rw [blkW_of k1] at hb
  exact (k3.lt b hb).1

theorem OwnWk.apartW {lo' hi' : Nat} (h : OwnWk w lo hi te ti a n c ts cells k) (hp : Apart lo' hi' w w') (hd : hi ≤ lo' ∨ hi' ≤ lo) : OwnWk w' lo hi te ti a n c ts cells k := by
  have hB := h.blocks
  refine ⟨h.len, Nat.le_trans h.top hp.size, hp.owns h.outer (fun k hk => by have := hB.1 k hk; omega), h.outerLt, fun i hi => ?_, h.rowLt, h.apart⟩
  obtain ⟨a', c', k1, k2, k3⟩ := h.row i hi
  refine ⟨a', c', k1, k2, hp.owns k3 (fun k hk => ?_)⟩
  have := hB.2 i hi k (by rw [blkW_of k1]; exact hk)
  omega

theorem OwnWk.kept {row : Option Nat} (h : OwnWk w lo hi te ti a n c ts cells k) (hg : w.grownBy w' row) (hr : ∀ k, row = some k → k < lo ∨ hi ≤ k) : OwnWk w' lo hi te ti a n c ts cells k := by
  have hB := h.blocks
  refine ⟨h.len, Nat.le_trans h.top hg.size, h.outer.kept hg ?_, h.outerLt, fun i hi => ?_, h.rowLt, h.apart⟩
  · cases hv : (Value.slice a n c).ownBlock with
    | none => exact .inl rfl
    | some k => exact .inr (fun e => by have := hr k e.symm; have := hB.1 k hv; omega)
  · obtain ⟨a', c', k1, k2, k3⟩ := h.row i hi
    refine ⟨a', c', k1, k2, k3.kept hg ?_⟩
    cases hv : (Value.slice a' (wat ts i).1.length c').ownBlock with
    | none => exact .inl rfl
    | some k => exact .inr (fun e => by have := hr k e.symm; have := hB.2 i hi k (by rw [blkW_of k1]; exact hv); omega)

theorem OwnWk.setCell {a0 : Addr} (h : OwnWk w lo hi te ti a n c ts cells k) (ha : a0.block < lo ∨ hi ≤ a0.block) (v : Value) : OwnWk (w.setCell a0 v) lo hi te ti a n c ts cells k :=
  h.kept (row := some a0.block) ⟨rfl, rfl, rfl, by simp [World.setCell], fun k _ hn => Below.heap_setCell w a0 v k (fun e => hn (by rw [e]))⟩ (fun k hk => by simp at hk; omega)

theorem OwnWk.atW (h : OwnWk w lo hi te ti a n c ts cells n) (hs : ∀ i, i < n → (wat ts i).1.length ≤ 9223372036854775807) : AtW w a ts := by
  rcases h.outer.2 with ⟨hv, h0⟩ | ⟨g, cap, cur, hv, _⟩
  · left
    have := h.len
    rw [h0] at this
    exact List.eq_nil_of_length_eq_zero this
  · simp only [Value.slice.injEq, true_and] at hv
    obtain ⟨rfl, rfl⟩ := hv
    refine .inr ⟨g, 0, rfl, fun i hi => ?_⟩
    rw [h.len] at hi
    obtain ⟨a', c', k1, k2, k3⟩ := h.row i hi
    refine ⟨a', c', ?_, ?_, hs i hi, At.owned k3⟩
    · rw [Nat.zero_add, h.outer.cellAt _ (by omega)]; exact k1
    · rw [Nat.zero_add, h.outer.cellAt _ (by omega)]; exact k2

/-- Two stores into one row's cells. -/
theorem owns_two {base : Nat} {e : TypeId} {g n cap : Nat} {xs : List Value} (h : w.ownsRow base e 2 (.slice (some ⟨g, 0, none⟩) n cap) n xs) (i j : Nat) (u v : Value) :
    ((w.setCell ⟨g, i, none⟩ u).setCell ⟨g, j, none⟩ v).ownsRow base e 2 (.slice (some ⟨g, 0, none⟩) n cap) n ((xs.set i u).set j v) := (((h.stored i u).1).stored j v).1

/-- One more row is laid: its cells, which a call made, and its weight. -/
theorem OwnWk.put {w2 : World} {g m c' : Nat} {a' : Option Addr} {x : Int} (h : OwnWk w lo hi te ti (some ⟨g, 0, none⟩) n c ts cells k) (hb : Below w.heap.size w w2) (hk : k < n)
    (hm : (wat ts k).1.length = m) (hx : (wat ts k).2 = x) (hlo : lo ≤ w.heap.size) (hrow : w2.ownsRow w.heap.size ti 1 (.slice a' m c') m ((wat ts k).1.map (.int .i64))) :
    OwnWk ((w2.setCell ⟨g, k * 2, none⟩ (.slice a' m c')).setCell ⟨g, k * 2 + 1, none⟩ (.int .i64 x)) lo w2.heap.size te ti (some ⟨g, 0, none⟩) n c ts ((cells.set (k * 2) (.slice a' m c')).set (k * 2 + 1) (.int .i64 x)) (k + 1) := by
  have h2 := h.below hb
  have hz := hb.size
  have hgl : lo ≤ g ∧ g < hi := h.blocks.1 g rfl
  have htop := h.top
  have hl := h.outer.1
  have hg1 : w2.grownBy ((w2.setCell ⟨g, k * 2, none⟩ (.slice a' m c')).setCell ⟨g, k * 2 + 1, none⟩ (.int .i64 x)) (some g) :=
    ⟨rfl, rfl, rfl, by simp [World.setCell], fun j _ hn => (Below.heap_setCell _ _ _ j (fun e => hn (by rw [e]))).trans (Below.heap_setCell _ _ _ j (fun e => hn (by rw [e])))⟩
  have hset : ∀ i, i < k → ∀ d, d < 2 → ((cells.set (k * 2) (.slice a' m c')).set (k * 2 + 1) (.int .i64 x))[i * 2 + d]? = cells[i * 2 + d]? := fun i hi d hd => by
    rw [List.getElem?_set_ne (by omega), List.getElem?_set_ne (by omega)]
  have hsk : ((cells.set (k * 2) (.slice a' m c')).set (k * 2 + 1) (.int .i64 x))[k * 2]? = some (.slice a' m c') := by
    rw [List.getElem?_set_ne (by omega), List.getElem?_set_self (by omega)]
  have hbk : ∀ i, i < k → blkW ((cells.set (k * 2) (.slice a' m c')).set (k * 2 + 1) (.int .i64 x)) i = blkW cells i := fun i hi => by
    have := hset i hi 0 (by omega)
    simp only [Nat.add_zero] at this
    simp only [blkW, List.getD, this]
  have hold : ∀ i, i < k → ∀ b, blkW cells i = some b → b < w.heap.size := fun i hi b hb' => Nat.lt_of_lt_of_le (h.rowLt i hi b hb').1 h.top
  have hnew : ∀ b, (Value.slice a' m c').ownBlock = some b → w.heap.size ≤ b ∧ b < w2.heap.size := fun b hb' => hrow.lt b hb'
  refine ⟨h.len, by simp [World.setCell], owns_two h2.outer _ _ _ _, fun b hb' => ?_, fun i hi => ?_, fun i hi b hb' => ?_, fun i j hi hj hij b hb' => ?_⟩
  · have := h.outerLt b hb'
    omega
  · by_cases e : i = k
    · subst e
      refine ⟨a', c', by rw [hm]; exact hsk, ?_, ?_⟩
      · rw [List.getElem?_set_self (by simp; omega), hx]
      · rw [hm]
        refine owns_mono (hrow.kept hg1 ?_) hlo
        cases hv : (Value.slice a' m c').ownBlock with
        | none => exact .inl rfl
        | some b => exact .inr (fun e => by have := hnew b hv; simp at e; omega)
    · obtain ⟨a1, c1, k1, k2, k3⟩ := h2.row i (by omega)
      refine ⟨a1, c1, ?_, ?_, k3.kept hg1 ?_⟩
      · have := hset i (by omega) 0 (by omega); simp only [Nat.add_zero] at this; rw [this]; exact k1
      · rw [hset i (by omega) 1 (by omega)]; exact k2
      · cases hv : (Value.slice a1 (wat ts i).1.length c1).ownBlock with
        | none => exact .inl rfl
        | some b => exact .inr (fun e => by have := (h.rowLt i (by omega) b (by rw [blkW_of k1]; exact hv)).2; simp [Value.ownBlock] at e this; omega)
  · by_cases e : i = k
    · subst e
      rw [blkW_of hsk] at hb'
      have := hnew b hb'
      refine ⟨by omega, ?_⟩
      simp [Value.ownBlock]
      omega
    · rw [hbk i (by omega)] at hb'
      have := h.rowLt i (by omega) b hb'
      exact ⟨by omega, this.2⟩
  · by_cases e : i = k
    · subst e
      rw [blkW_of hsk] at hb'
      rw [hbk j (by omega)]
      intro e'
      have := hold j (by omega) b e'
      have := hnew b hb'
      omega
    · rw [hbk i (by omega)] at hb'
      by_cases e2 : j = k
      · subst e2
        rw [blkW_of hsk]
        intro e'
        have := hold i (by omega) b hb'
        have := hnew b e'
        omega
      · rw [hbk j (by omega)]
        exact h.apart i j (by omega) (by omega) hij b hb'

theorem OwnWk.start (hl : ts.length = n) (hh : hi ≤ w.heap.size) (ho : w.ownsRow lo te 2 (.slice a n c) n cells) (hb : ∀ b, (Value.slice a n c).ownBlock = some b → b < hi) : OwnWk w lo hi te ti a n c ts cells 0 :=
  ⟨hl, hh, ho, hb, fun i h => by omega, fun i h => by omega, fun i j h => by omega⟩

end

/-- How many marks the first k rows take: their cells, and one a weight. -/
def wtot (ts : List WRow) (k : Nat) : Nat := ((ts.take k).map fun t => t.1.length + 1).sum
theorem wtot_zero (ts : List WRow) : wtot ts 0 = 0 := rfl
theorem wtot_succ (ts : List WRow) (k : Nat) (h : k < ts.length) : wtot ts (k + 1) = wtot ts k + ((wat ts k).1.length + 1) := by
  unfold wtot
  rw [List.take_succ_eq_append_getElem h, List.map_append, List.sum_append]
  simp only [List.map_cons, List.map_nil, List.sum_cons, List.sum_nil, Nat.add_zero]
  simp [h]
theorem wtot_mono (ts : List WRow) (j k : Nat) (h : j ≤ k) : wtot ts j ≤ wtot ts k := by
  obtain ⟨d, rfl⟩ := Nat.le.dest h
  induction d with
  | zero => exact Nat.le_refl _
  | succ d ih =>
    by_cases hk : j + d < ts.length
    · rw [show j + (d + 1) = (j + d) + 1 from rfl, wtot_succ ts _ hk]; have := ih (by omega); omega
    · have e1 : wtot ts (j + (d + 1)) = wtot ts (j + d) := by unfold wtot; rw [List.take_of_length_le (by omega), List.take_of_length_le (by omega)]
      rw [e1]; exact ih (by omega)
theorem wtot_each (ts : List WRow) (n : Nat) (hn : ts.length = n) (i : Nat) (hi : i < n) : (wat ts i).1.length ≤ wtot ts n := by
  have h1 := wtot_succ ts i (by omega)
  have h2 := wtot_mono ts (i + 1) n (by omega)
  omega
theorem wtot_len (ts : List WRow) (k : Nat) (h : k ≤ ts.length) : k ≤ wtot ts k := by
  induction k with
  | zero => exact Nat.zero_le _
  | succ k ih => rw [wtot_succ ts k (by omega)]; have := ih (by omega); omega

/-- The rows as the laws mark them, from m on. -/
def markW (m : Int) (ts : List WRow) : List WRow := (List.range ts.length).map fun i => (marks (m + wtot ts i) (wat ts i).1.length, m + wtot ts i + (wat ts i).1.length)
theorem markW_length (m : Int) (ts : List WRow) : (markW m ts).length = ts.length := by simp [markW]
theorem markW_at (m : Int) (ts : List WRow) (i : Nat) (h : i < ts.length) : wat (markW m ts) i = (marks (m + wtot ts i) (wat ts i).1.length, m + wtot ts i + (wat ts i).1.length) := by
  simp [markW, h]

theorem wtake_succ (ts : List WRow) (k : Nat) (h : k < ts.length) : ts.take (k + 1) = ts.take k ++ [wat ts k] := by
  rw [List.take_succ_eq_append_getElem h]; simp [h]
theorem wne_of {ts ts' : List WRow} {k : Nat} (h : wat ts k ≠ wat ts' k) : ts ≠ ts' := fun e => h (by rw [e])
theorem wtake_all {ts ts' : List WRow} {k : Nat} (h1 : ts.length ≤ k) (h2 : ts'.length ≤ k) (h : ts.take k = ts'.take k) : ts = ts' := by
  rwa [List.take_of_length_le h1, List.take_of_length_le h2] at h

end Go.Proofs.YthliamoeplgblaaDoor

/- Things that lie in memory, by their shape: numbers, pairs of things, slices of things; what a call owns of them, by the blocks that it may lie in. No Go function is spoken of here. -/
namespace Go.Proofs.YthliamoeplgblaaDoor
open Go.RowKit

/-- How a thing lies in so many cells, and in the memory behind them. -/
structure Rep (α : Type) where
  k : Nat
  At : World → List Value → α → Prop
  Own : World → (Nat → Prop) → List Value → α → Prop
  len : ∀ {w cs x}, At w cs x → cs.length = k
  below : ∀ {w w' cs x}, At w cs x → Below w.heap.size w w' → At w' cs x
  toAt : ∀ {w F cs x}, Own w F cs x → At w cs x
  mono : ∀ {w F F' cs x}, Own w F cs x → (∀ b, F b → F' b) → Own w F' cs x
  frame : ∀ {w w' F cs x}, Own w F cs x → (∀ b, F b → b < w.heap.size → w'.heap[b]? = w.heap[b]?) → Own w' F cs x
  tight : ∀ {w F cs x}, Own w F cs x → Own w (fun b => F b ∧ b < w.heap.size) cs x

/-- Blocks from lo on and below hi. -/
def From (lo hi : Nat) : Nat → Prop := fun b => lo ≤ b ∧ b < hi

/-- Outside F nothing has turned. -/
structure Off (F : Nat → Prop) (w w' : World) : Prop where
  os : w'.os = w.os
  tape : w'.tape = w.tape
  output : w'.output = w.output
  size : w.heap.size ≤ w'.heap.size
  block : ∀ b, b < w.heap.size → ¬ F b → w'.heap[b]? = w.heap[b]?

theorem Off.refl (F : Nat → Prop) (w : World) : Off F w w := ⟨rfl, rfl, rfl, Nat.le_refl _, fun _ _ _ => rfl⟩
theorem Off.trans {F : Nat → Prop} {a b c : World} (h : Off F a b) (k : Off F b c) : Off F a c :=
  ⟨k.os.trans h.os, k.tape.trans h.tape, k.output.trans h.output, Nat.le_trans h.size k.size, fun i hi hn => (k.block i (Nat.lt_of_lt_of_le hi h.size) hn).trans (h.block i hi hn)⟩
theorem Off.mono {F F' : Nat → Prop} {a b : World} (h : Off F a b) (hF : ∀ b, F b → F' b) : Off F' a b := ⟨h.os, h.tape, h.output, h.size, fun b hb hn => h.block b hb (fun e => hn (hF b e))⟩
theorem Off.below {F : Nat → Prop} {a b : World} (h : Below a.heap.size a b) : Off F a b := ⟨h.os, h.tape, h.output, h.size, fun b hb _ => h.block b hb⟩
theorem Off.grown {F : Nat → Prop} {a b : World} {row : Option Nat} (h : a.grownBy b row) (hr : ∀ k, row = some k → F k) : Off F a b :=
  ⟨h.os, h.tape, h.output, h.size, fun k hk hn => h.block k hk (fun e => hn (hr k e.symm))⟩
theorem Off.set {F : Nat → Prop} {w : World} {a : Addr} (ha : F a.block) (v : Value) : Off F w (w.setCell a v) :=
  ⟨rfl, rfl, rfl, by simp [World.setCell], fun k _ hn => Below.heap_setCell w a v k (fun e => hn (by rw [e]; exact ha))⟩
theorem Off.drew {F : Nat → Prop} {a b : World} (h : Off F a b) : Off F a b.drew := ⟨h.os, h.tape, h.output, h.size, h.block⟩
theorem Off.apart {lo hi : Nat} {a b : World} (h : Off (From lo hi) a b) : Apart lo hi a b := ⟨h.os, h.tape, h.output, h.size, fun k hk hn => h.block k hk (fun e => by have := e.1; have := e.2; omega)⟩
theorem Off.of_apart {lo hi : Nat} {a b : World} (h : Apart lo hi a b) : Off (From lo hi) a b := ⟨h.os, h.tape, h.output, h.size, fun k hk hn => h.block k hk (by by_cases e : k < lo; exact .inl e; by_cases e' : hi ≤ k; exact .inr e'; exact absurd ⟨by omega, by omega⟩ hn)⟩
theorem Off.cell {F : Nat → Prop} {w w' : World} (h : Off F w w') {a : Addr} {v : Value} (hc : w.cell? a = some v) (ha : ¬ F a.block) : w'.cell? a = some v :=
  (World.cell?_of_block (h.block a.block (World.block_lt_of_cell? _ _ hc) ha)).trans hc

section
variable {α : Type} (A : Rep α) {w w' : World} {F F' : Nat → Prop} {cs : List Value} {x : α}
theorem Rep.ownBelow (h : A.Own w F cs x) (hb : Below w.heap.size w w') : A.Own w' F cs x := A.frame h (fun b _ h2 => hb.block b h2)
theorem Rep.ownOff (h : A.Own w F cs x) (hb : Off F' w w') (hd : ∀ b, F b → ¬ F' b) : A.Own w' F cs x := A.frame h (fun b h1 h2 => hb.block b h2 (hd b h1))
theorem Rep.ownLen (h : A.Own w F cs x) : cs.length = A.k := A.len (A.toAt h)
end

/-- A number. -/
def Rep.int : Rep Int where
  k := 1
  At _ cs z := cs = [.int .i64 z]
  Own _ _ cs z := cs = [.int .i64 z]
  len h := by rw [h]; rfl
  below h _ := h
  toAt h := h
  mono h _ := h
  frame h _ := h
  tight h := h

/-- Two things, one behind the other. -/
def Rep.pair {α β : Type} (A : Rep α) (B : Rep β) : Rep (α × β) where
  k := A.k + B.k
  At w cs x := ∃ c1 c2, cs = c1 ++ c2 ∧ A.At w c1 x.1 ∧ B.At w c2 x.2
  Own w F cs x := ∃ c1 c2 F1 F2, cs = c1 ++ c2 ∧ A.Own w F1 c1 x.1 ∧ B.Own w F2 c2 x.2 ∧ (∀ b, F1 b → F b) ∧ (∀ b, F2 b → F b) ∧ ∀ b, F1 b → ¬ F2 b
  len h := by obtain ⟨c1, c2, rfl, h1, h2⟩ := h; rw [List.length_append, A.len h1, B.len h2]
  below h hb := by obtain ⟨c1, c2, e, h1, h2⟩ := h; exact ⟨c1, c2, e, A.below h1 hb, B.below h2 hb⟩
  toAt h := by obtain ⟨c1, c2, _, _, e, h1, h2, _⟩ := h; exact ⟨c1, c2, e, A.toAt h1, B.toAt h2⟩
  mono h hF := by obtain ⟨c1, c2, F1, F2, e, h1, h2, h3, h4, h5⟩ := h; exact ⟨c1, c2, F1, F2, e, h1, h2, fun b hb => hF b (h3 b hb), fun b hb => hF b (h4 b hb), h5⟩
  frame h hF := by obtain ⟨c1, c2, F1, F2, e, h1, h2, h3, h4, h5⟩ := h; exact ⟨c1, c2, F1, F2, e, A.frame h1 (fun b hb => hF b (h3 b hb)), B.frame h2 (fun b hb => hF b (h4 b hb)), h3, h4, h5⟩
  tight h := by obtain ⟨c1, c2, F1, F2, e, h1, h2, h3, h4, h5⟩ := h; exact ⟨c1, c2, _, _, e, A.tight h1, B.tight h2, fun b hb => ⟨h3 b hb.1, hb.2⟩, fun b hb => ⟨h4 b hb.1, hb.2⟩, fun b hb hn => h5 b hb.1 hn.1⟩

/-- k cells from o on. -/
def sub (cells : List Value) (o k : Nat) : List Value := (cells.drop o).take k
theorem sub_at {cells : List Value} {o k j : Nat} (h : j < k) : (sub cells o k)[j]? = cells[o + j]? := by
  simp [sub, h]
theorem sub_len {cells : List Value} {o k : Nat} (h : o + k ≤ cells.length) : (sub cells o k).length = k := by simp [sub]; omega

/-- Slices of things: what of the first m is laid. -/
structure Laid {α : Type} (A : Rep α) (w : World) (F : Nat → Prop) (e : TypeId) (a : Option Addr) (n c : Nat) (xs : List α) (cells : List Value) (G : Nat → Nat → Prop) (m : Nat) : Prop where
  len : xs.length = n
  big : n ≤ 9223372036854775807
  outer : w.ownsRow 0 e A.k (.slice a n c) n cells
  outerF : ∀ b, (Value.slice a n c).ownBlock = some b → F b
  row : ∀ i x, i < m → xs[i]? = some x → A.Own w (G i) (sub cells (i * A.k) A.k) x
  rowF : ∀ i b, i < m → G i b → F b ∧ (Value.slice a n c).ownBlock ≠ some b
  apart : ∀ i j b, i < m → j < m → i ≠ j → G i b → ¬ G j b

section
variable {α : Type} {A : Rep α} {w w' : World} {F F' : Nat → Prop} {e : TypeId} {a : Option Addr} {n c m : Nat} {xs : List α} {cells : List Value} {G : Nat → Nat → Prop}

theorem ownsRow_frame {base : Nat} {size : Nat} {v : Value} {ys : List Value} (h : w.ownsRow base e size v n ys) (hb : ∀ b, v.ownBlock = some b → b < w.heap.size → w'.heap[b]? = w.heap[b]?) : w'.ownsRow base e size v n ys := by
  refine ⟨h.1, ?_⟩
  rcases h.2 with hn | ⟨g, cap, cur, rfl, hbb, hg, rest⟩
  · exact .inl hn
  · exact .inr ⟨g, cap, cur, rfl, hbb, (hb g rfl (Array.getElem?_eq_some_iff.1 hg).1).trans hg, rest⟩

theorem Laid.frame (h : Laid A w F e a n c xs cells G m) (hF : ∀ b, F b → b < w.heap.size → w'.heap[b]? = w.heap[b]?) : Laid A w' F e a n c xs cells G m :=
  ⟨h.len, h.big, ownsRow_frame h.outer (fun b hb => hF b (h.outerF b hb)), h.outerF, fun i x hi hx => A.frame (h.row i x hi hx) (fun b hb => hF b (h.rowF i b hi hb).1), h.rowF, h.apart⟩
theorem Laid.below (h : Laid A w F e a n c xs cells G m) (hb : Below w.heap.size w w') : Laid A w' F e a n c xs cells G m := h.frame (fun b _ h2 => hb.block b h2)
theorem Laid.mono (h : Laid A w F e a n c xs cells G m) (hF : ∀ b, F b → F' b) : Laid A w F' e a n c xs cells G m :=
  ⟨h.len, h.big, h.outer, fun b hb => hF b (h.outerF b hb), h.row, fun i b hi hb => ⟨hF b (h.rowF i b hi hb).1, (h.rowF i b hi hb).2⟩, h.apart⟩
theorem Laid.tight (h : Laid A w F e a n c xs cells G m) : Laid A w (fun b => F b ∧ b < w.heap.size) e a n c xs cells (fun i b => G i b ∧ b < w.heap.size) m :=
  ⟨h.len, h.big, h.outer, fun b hb => ⟨h.outerF b hb, (h.outer.lt b hb).2⟩, fun i x hi hx => A.tight (h.row i x hi hx), fun i b hi hb => ⟨⟨(h.rowF i b hi hb.1).1, hb.2⟩, (h.rowF i b hi hb.1).2⟩, fun i j b hi hj hij hb hn => h.apart i j b hi hj hij hb.1 hn.1⟩
theorem Laid.start (hl : xs.length = n) (hb : n ≤ 9223372036854775807) (ho : w.ownsRow 0 e A.k (.slice a n c) n cells) (hF : ∀ b, (Value.slice a n c).ownBlock = some b → F b) (G : Nat → Nat → Prop) : Laid A w F e a n c xs cells G 0 :=
  ⟨hl, hb, ho, hF, fun i x h => by omega, fun i b h => by omega, fun i j b h => by omega⟩
end

/-- Things in a slice, as they are read. -/
def AtSl {α : Type} (A : Rep α) (w : World) (a : Option Addr) (xs : List α) : Prop :=
  xs = [] ∨ ∃ b off, a = some ⟨b, off, none⟩ ∧ ∀ i x, xs[i]? = some x → ∃ cs, (∀ j v, cs[j]? = some v → w.cell? ⟨b, off + i * A.k + j, none⟩ = some v) ∧ A.At w cs x

theorem AtSl.below {α : Type} {A : Rep α} {w w' : World} {a : Option Addr} {xs : List α} (h : AtSl A w a xs) (hb : Below w.heap.size w w') : AtSl A w' a xs := by
  rcases h with h | ⟨b, off, rfl, hc⟩
  · exact .inl h
  · refine .inr ⟨b, off, rfl, fun i x hx => ?_⟩
    obtain ⟨cs, h1, h2⟩ := hc i x hx
    exact ⟨cs, fun j v hv => cell_later hb (h1 j v hv), A.below h2 hb⟩

theorem AtSl.each {α : Type} {A : Rep α} {w : World} {a : Option Addr} {xs : List α} (h : AtSl A w a xs) (hp : 0 < xs.length) :
    ∃ b off, a = some ⟨b, off, none⟩ ∧ ∀ i x, xs[i]? = some x → ∃ cs, (∀ j v, cs[j]? = some v → w.cell? ⟨b, off + i * A.k + j, none⟩ = some v) ∧ A.At w cs x := by
  rcases h with rfl | h
  · simp at hp
  · exact h

theorem Laid.atSl {α : Type} {A : Rep α} {w : World} {F : Nat → Prop} {e : TypeId} {a : Option Addr} {n c : Nat} {xs : List α} {cells : List Value} {G : Nat → Nat → Prop} (h : Laid A w F e a n c xs cells G n) : AtSl A w a xs := by
  rcases h.outer.2 with ⟨hv, h0⟩ | ⟨g, cap, cur, hv, _⟩
  · left
    have := h.len
    rw [h0] at this
    exact List.eq_nil_of_length_eq_zero this
  · simp only [Value.slice.injEq, true_and] at hv
    obtain ⟨rfl, rfl⟩ := hv
    refine .inr ⟨g, 0, rfl, fun i x hx => ?_⟩
    have hi : i < n := by rw [← h.len]; exact (List.getElem?_eq_some_iff.1 hx).1
    have hA := h.row i x hi hx
    refine ⟨_, fun j v hv => ?_, A.toAt hA⟩
    have hj : j < A.k := by rw [← A.ownLen hA]; exact (List.getElem?_eq_some_iff.1 hv).1
    rw [sub_at hj] at hv
    rw [Nat.zero_add, h.outer.cellAt _ (Nat.lt_of_lt_of_le (Nat.add_lt_add_left hj _) (by rw [← Nat.succ_mul]; exact Nat.mul_le_mul_right _ hi))]
    exact hv

theorem rep_nil {w : World} {base : Nat} {e : TypeId} {size : Nat} {a : Option Addr} {n c m : Nat} {xs : List Value} (h : w.ownsRow base e size (.slice a n c) m xs) : a = none → c = 0 := fun ha => by
  rcases h.2 with ⟨hv, _⟩ | ⟨g, cap, cur, hv, _⟩
  · simp only [Value.slice.injEq] at hv; exact hv.2.2
  · simp only [Value.slice.injEq] at hv; rw [ha] at hv; cases hv.1

/-- A slice of things. -/
def Rep.slice {α : Type} (e : TypeId) (A : Rep α) : Rep (List α) where
  k := 1
  At w cs xs := ∃ a n c, cs = [.slice a n c] ∧ xs.length = n ∧ n ≤ 9223372036854775807 ∧ AtSl A w a xs ∧ (a = none → c = 0)
  Own w F cs xs := ∃ a n c cells G, cs = [.slice a n c] ∧ Laid A w F e a n c xs cells G n
  len h := by obtain ⟨a, n, c, rfl, _⟩ := h; rfl
  below h hb := by obtain ⟨a, n, c, e, h1, h2, h3, h4⟩ := h; exact ⟨a, n, c, e, h1, h2, h3.below hb, h4⟩
  toAt h := by obtain ⟨a, n, c, cells, G, e, h⟩ := h; exact ⟨a, n, c, e, h.len, h.big, h.atSl, rep_nil h.outer⟩
  mono h hF := by obtain ⟨a, n, c, cells, G, e, h⟩ := h; exact ⟨a, n, c, cells, G, e, h.mono hF⟩
  frame h hF := by obtain ⟨a, n, c, cells, G, e, h⟩ := h; exact ⟨a, n, c, cells, G, e, h.frame hF⟩
  tight h := by obtain ⟨a, n, c, cells, G, e, h⟩ := h; exact ⟨a, n, c, cells, _, e, h.tight⟩

/-- Cells that are stored one behind the other. -/
def stores (w : World) (g : Nat) : Nat → List Value → World
  | _, [] => w
  | o, v :: vs => stores (w.setCell ⟨g, o, none⟩ v) g (o + 1) vs
def sets (cells : List Value) : Nat → List Value → List Value
  | _, [] => cells
  | o, v :: vs => sets (cells.set o v) (o + 1) vs
theorem sets_len (cells : List Value) (o : Nat) (vs : List Value) : (sets cells o vs).length = cells.length := by
  induction vs generalizing cells o with
  | nil => rfl
  | cons v vs ih => rw [sets, ih]; simp
theorem sets_far (cells : List Value) (o : Nat) (vs : List Value) (j : Nat) (h : j < o ∨ o + vs.length ≤ j) : (sets cells o vs)[j]? = cells[j]? := by
  induction vs generalizing cells o with
  | nil => rfl
  | cons v vs ih => rw [sets, ih _ _ (by simp at h; omega), List.getElem?_set_ne (by simp at h; omega)]
theorem sets_in (cells : List Value) (o : Nat) (vs : List Value) (j : Nat) (hj : j < vs.length) (h : o + vs.length ≤ cells.length) : (sets cells o vs)[o + j]? = vs[j]? := by
  induction vs generalizing cells o j with
  | nil => simp at hj
  | cons v vs ih =>
    rw [sets]
    cases j with
    | zero =>
      simp only [List.length_cons] at h
      show (sets (cells.set o v) (o + 1) vs)[o]? = some v
      rw [sets_far _ _ _ _ (by omega), List.getElem?_set_self (by omega)]
    | succ j => rw [show o + (j + 1) = (o + 1) + j by omega, ih _ _ _ (by simpa using hj) (by simp at h ⊢; omega)]; simp
theorem sub_sets (cells : List Value) (o : Nat) (vs : List Value) (h : o + vs.length ≤ cells.length) : sub (sets cells o vs) o vs.length = vs := by
  apply List.ext_getElem?
  intro j
  by_cases hj : j < vs.length
  · rw [sub_at hj, sets_in _ _ _ _ hj h]
  · rw [List.getElem?_eq_none (by simp [sub, sets_len]; omega), List.getElem?_eq_none (by omega)]
theorem sub_sets_far (cells : List Value) (o : Nat) (vs : List Value) (o' k : Nat) (h : o' + k ≤ o ∨ o + vs.length ≤ o') : sub (sets cells o vs) o' k = sub cells o' k := by
  apply List.ext_getElem?
  intro j
  by_cases hj : j < k
  · rw [sub_at hj, sub_at hj, sets_far _ _ _ _ (by omega)]
  · rw [List.getElem?_eq_none (by simp [sub]; omega), List.getElem?_eq_none (by simp [sub]; omega)]

section
variable {w : World} {base : Nat} {e : TypeId} {size g n cap : Nat}
theorem owns_stores {xs : List Value} (h : w.ownsRow base e size (.slice (some ⟨g, 0, none⟩) n cap) n xs) (o : Nat) (vs : List Value) :
    (stores w g o vs).ownsRow base e size (.slice (some ⟨g, 0, none⟩) n cap) n (sets xs o vs) := by
  induction vs generalizing w xs o with
  | nil => exact h
  | cons v vs ih => exact ih (h.stored o v).1 (o + 1)
theorem stores_block (w : World) (g o : Nat) (vs : List Value) (b : Nat) (hb : b ≠ g) : (stores w g o vs).heap[b]? = w.heap[b]? := by
  induction vs generalizing w o with
  | nil => rfl
  | cons v vs ih => rw [stores, ih, Below.heap_setCell _ _ _ _ hb]
theorem stores_off {F : Nat → Prop} (w : World) (g o : Nat) (vs : List Value) (hg : F g) : Off F w (stores w g o vs) := by
  induction vs generalizing w o with
  | nil => exact Off.refl _ _
  | cons v vs ih => exact (Off.set (a := ⟨g, o, none⟩) hg v).trans (ih _ _)
theorem stores_below {B : Nat} {W : World} (w : World) (g o : Nat) (vs : List Value) (h : Below B W w) (hg : B ≤ g) : Below B W (stores w g o vs) := by
  induction vs generalizing w o with
  | nil => exact h
  | cons v vs ih => exact ih _ _ (h.setCell hg v)
theorem stores_size (w : World) (g o : Nat) (vs : List Value) : (stores w g o vs).heap.size = w.heap.size := by
  induction vs generalizing w o with
  | nil => rfl
  | cons v vs ih => rw [stores, ih]; simp [World.setCell]
end

section
variable {α : Type} {A : Rep α} {w w2 : World} {F : Nat → Prop} {e : TypeId} {a : Option Addr} {n c m : Nat} {xs : List α} {cells : List Value} {G : Nat → Nat → Prop}

theorem at_mul {i n k : Nat} (h : i < n) : i * k + k ≤ n * k := by rw [← Nat.succ_mul]; exact Nat.mul_le_mul_right _ h
theorem mul_far {i j k : Nat} (h : i ≠ j) : i * k + k ≤ j * k ∨ j * k + k ≤ i * k := by
  rcases Nat.lt_or_gt_of_ne h with h | h
  · exact .inl (at_mul h)
  · exact .inr (at_mul h)

/-- One more thing is laid: its cells, and the memory behind them, which is new. -/
theorem Laid.put {g : Nat} {H : Nat → Prop} {vs : List Value} {x : α} (h : Laid A w F e (some ⟨g, 0, none⟩) n c xs cells G m) (hm : m < n) (hF : ∀ b, F b → b < w.heap.size) (hb : Below w.heap.size w w2)
    (hx : xs[m]? = some x) (ho : A.Own w2 H vs x) (hH : ∀ b, H b → w.heap.size ≤ b) :
    Laid A (stores w2 g (m * A.k) vs) (fun b => F b ∨ H b) e (some ⟨g, 0, none⟩) n c xs (sets cells (m * A.k) vs) (fun i => if i = m then H else G i) (m + 1) := by
  have hl := A.ownLen ho
  have hcl := h.outer.1
  have hgF : F g := h.outerF g rfl
  have hgl := hF g hgF
  have hmk := at_mul (k := A.k) hm
  refine ⟨h.len, h.big, owns_stores (h.below hb).outer _ _, fun b hb' => .inl (h.outerF b hb'), fun i y hi hy => ?_, fun i b hi hb' => ?_, fun i j b hi hj hij hb' => ?_⟩
  · by_cases ei : i = m
    · subst ei
      obtain rfl : x = y := by rw [hx] at hy; exact Option.some.inj hy
      simp only [if_true]
      have := sub_sets cells (i * A.k) vs (by rw [hl, hcl]; exact hmk)
      rw [hl] at this
      rw [this]
      exact A.frame ho (fun b hb' _ => stores_block _ _ _ _ _ (by have := hH b hb'; omega))
    · simp only [if_neg ei]
      rw [sub_sets_far _ _ _ _ _ (by rw [hl]; exact mul_far ei)]
      exact A.frame ((h.below hb).row i y (by omega) hy) (fun b hb' _ => stores_block _ _ _ _ _ (fun e' => (h.rowF i b (by omega) hb').2 (by simp [Value.ownBlock, e'])))
  · by_cases ei : i = m
    · subst ei
      simp only [if_true] at hb'
      exact ⟨.inr hb', by have := hH b hb'; simp [Value.ownBlock]; omega⟩
    · simp only [if_neg ei] at hb'
      exact ⟨.inl (h.rowF i b (by omega) hb').1, (h.rowF i b (by omega) hb').2⟩
  · by_cases ei : i = m
    · subst ei
      simp only [if_true] at hb'
      simp only [if_neg (Ne.symm hij)]
      intro e'
      have := hF b (h.rowF j b (by omega) e').1
      have := hH b hb'
      omega
    · simp only [if_neg ei] at hb'
      by_cases ej : j = m
      · simp only [if_pos ej]
        intro e'
        have := hF b (h.rowF i b (by omega) hb').1
        have := hH b e'
        omega
      · simp only [if_neg ej]
        exact h.apart i j b (by omega) (by omega) hij hb'

/-- One thing of it is turned, in its own memory. -/
theorem Laid.turn {w' : World} {i : Nat} {cells' : List Value} {x' : α} (h : Laid A w F e a n c xs cells G n) (hi : i < n) (hw : ∀ b, b < w.heap.size → ¬ G i b → (Value.slice a n c).ownBlock ≠ some b → w'.heap[b]? = w.heap[b]?)
    (ho : w'.ownsRow 0 e A.k (.slice a n c) n cells') (hc : ∀ j, j ≠ i → sub cells' (j * A.k) A.k = sub cells (j * A.k) A.k) (hx : A.Own w' (G i) (sub cells' (i * A.k) A.k) x') :
    Laid A w' F e a n c (xs.set i x') cells' G n := by
  refine ⟨by simp [h.len], h.big, ho, h.outerF, fun j y hj hy => ?_, h.rowF, h.apart⟩
  by_cases ej : j = i
  · subst ej
    rw [List.getElem?_set_self (by rw [h.len]; exact hi)] at hy
    obtain rfl := Option.some.inj hy
    exact hx
  · rw [List.getElem?_set_ne (Ne.symm ej)] at hy
    rw [hc j ej]
    exact A.frame (h.row j y hj hy) (fun b hb hl => hw b hl (fun e' => h.apart i j b hi hj (Ne.symm ej) e' hb) (h.rowF j b hj hb).2)
end

end Go.Proofs.YthliamoeplgblaaDoor
