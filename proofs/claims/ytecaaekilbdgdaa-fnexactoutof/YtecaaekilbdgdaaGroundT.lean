/- Plain facts on slices of weighted rows: what lies in memory, what a call owns, what the laws mark. -/
import Derived.Test.YtecaaekilbdgdaaGroundS
namespace Go.Proofs.Ytecaaekilbdgdaa
open Go.RowKit

theorem pair0 (w : World) (u v : Value) (t : TypeId) : (w.alloc (.cells #[u, v] t)).cell? ⟨w.heap.size, 0, none⟩ = some u := by simp
theorem pair1 (w : World) (u v : Value) (t : TypeId) : (w.alloc (.cells #[u, v] t)).cell? ⟨w.heap.size, 1, none⟩ = some v := by simp

/-- A weighted row: its cells and its weight. -/
abbrev WRow := List Int × Int
abbrev wat (ts : List WRow) (i : Nat) : WRow := ts.getD i ([], 0)

/-- A slice of weighted rows with the address a holds ts in the world w. -/
def AtW (w : World) (a : Option Addr) (ts : List WRow) : Prop :=
  ts = [] ∨ ∃ b off, a = some ⟨b, off, none⟩ ∧ ∀ i, i < ts.length → ∃ a' c', w.cell? ⟨b, off + i * 2, none⟩ = some (.slice a' (wat ts i).1.length c') ∧ w.cell? ⟨b, off + i * 2 + 1, none⟩ = some (.int .i64 (wat ts i).2) ∧
    (wat ts i).1.length ≤ 9223372036854775807 ∧ At w a' (wat ts i).1

theorem AtW.nil (w : World) (a : Option Addr) : AtW w a [] := .inl rfl

theorem AtW.below {w w' : World} {a : Option Addr} {ts : List WRow} (h : AtW w a ts) (hb : Below w.heap.size w w') : AtW w' a ts := by
  rcases h with h | ⟨b, off, rfl, hc⟩
  · exact .inl h
  · refine .inr ⟨b, off, rfl, fun i hi => ?_⟩
    obtain ⟨a', c', h1, h2, h3, h4⟩ := hc i hi
    exact ⟨a', c', cell_later hb h1, cell_later hb h2, h3, h4.below hb⟩
theorem AtW.alloc {w : World} {a : Option Addr} {ts : List WRow} (h : AtW w a ts) (o : Obj) : AtW (w.alloc o) a ts := h.below ((Below.refl _ _).alloc (Nat.le_refl _) o)
theorem AtW.drew {w : World} {a : Option Addr} {ts : List WRow} (h : AtW w a ts) : AtW w.drew a ts := h.below (Below.refl _ _).drew

theorem AtW.some {w : World} {a : Option Addr} {ts : List WRow} (h : AtW w a ts) (hp : 0 < ts.length) :
    ∃ b off, a = Option.some ⟨b, off, none⟩ ∧ ∀ i, i < ts.length → ∃ a' c', w.cell? ⟨b, off + i * 2, none⟩ = Option.some (.slice a' (wat ts i).1.length c') ∧ w.cell? ⟨b, off + i * 2 + 1, none⟩ = Option.some (.int .i64 (wat ts i).2) ∧
      (wat ts i).1.length ≤ 9223372036854775807 ∧ At w a' (wat ts i).1 := by
  rcases h with rfl | h
  · simp at hp
  · exact h

/-- The block of the i-th row's cells. -/
def blkW (cells : List Value) (i : Nat) : Option Nat := (cells.getD (i * 2) (.bool false)).ownBlock

/-- A slice of weighted rows that the call itself made, its first k rows laid: all its blocks, each its own, lie from lo on and below hi. -/
structure OwnWk (w : World) (lo hi : Nat) (te ti : TypeId) (a : Option Addr) (n c : Nat) (ts : List WRow) (cells : List Value) (k : Nat) : Prop where
  len : ts.length = n
  top : hi ≤ w.heap.size
  outer : w.ownsRow lo te 2 (.slice a n c) n cells
  outerLt : ∀ b, (Value.slice a n c).ownBlock = some b → b < hi
  row : ∀ i, i < k → ∃ a' c', cells[i * 2]? = some (.slice a' (wat ts i).1.length c') ∧ cells[i * 2 + 1]? = some (.int .i64 (wat ts i).2) ∧
    w.ownsRow lo ti 1 (.slice a' (wat ts i).1.length c') (wat ts i).1.length ((wat ts i).1.map (.int .i64))
  rowLt : ∀ i, i < k → ∀ b, blkW cells i = some b → b < hi ∧ (Value.slice a n c).ownBlock ≠ some b
  apart : ∀ i j, i < k → j < k → i ≠ j → ∀ b, blkW cells i = some b → blkW cells j ≠ some b
/-- All its rows are laid. -/
abbrev OwnW (w : World) (lo hi : Nat) (te ti : TypeId) (a : Option Addr) (n c : Nat) (ts : List WRow) (cells : List Value) : Prop := OwnWk w lo hi te ti a n c ts cells n

theorem blkW_of {cells : List Value} {i : Nat} {v : Value} (h : cells[i * 2]? = some v) : blkW cells i = v.ownBlock := by simp [blkW, List.getD, h]

section
variable {w w' : World} {lo hi : Nat} {te ti : TypeId} {a : Option Addr} {n c k : Nat} {ts : List WRow} {cells : List Value}

theorem OwnWk.below (h : OwnWk w lo hi te ti a n c ts cells k) (hb : Below w.heap.size w w') : OwnWk w' lo hi te ti a n c ts cells k :=
  ⟨h.len, Nat.le_trans h.top hb.size, owns_below h.outer hb, h.outerLt, fun i hi => by obtain ⟨a', c', h1, h2, h3⟩ := h.row i hi; exact ⟨a', c', h1, h2, owns_below h3 hb⟩, h.rowLt, h.apart⟩
theorem OwnWk.drew (h : OwnWk w lo hi te ti a n c ts cells k) : OwnWk w.drew lo hi te ti a n c ts cells k := h.below (Below.refl _ _).drew
theorem OwnWk.alloc (h : OwnWk w lo hi te ti a n c ts cells k) (o : Obj) : OwnWk (w.alloc o) lo hi te ti a n c ts cells k := h.below ((Below.refl _ _).alloc (Nat.le_refl _) o)

theorem OwnWk.widen {lo' hi' : Nat} (h : OwnWk w lo hi te ti a n c ts cells k) (h1 : lo' ≤ lo) (h2 : hi ≤ hi') (h3 : hi' ≤ w.heap.size) : OwnWk w lo' hi' te ti a n c ts cells k :=
  ⟨h.len, h3, owns_mono h.outer h1, fun b hb => Nat.lt_of_lt_of_le (h.outerLt b hb) h2, fun i hi => by obtain ⟨a', c', k1, k2, k3⟩ := h.row i hi; exact ⟨a', c', k1, k2, owns_mono k3 h1⟩,
    fun i hi b hb => ⟨Nat.lt_of_lt_of_le (h.rowLt i hi b hb).1 h2, (h.rowLt i hi b hb).2⟩, h.apart⟩

/-- Every block of it lies from lo on and below hi. -/
theorem OwnWk.blocks (h : OwnWk w lo hi te ti a n c ts cells k) :
    (∀ b, (Value.slice a n c).ownBlock = some b → lo ≤ b ∧ b < hi) ∧ ∀ i, i < k → ∀ b, blkW cells i = some b → lo ≤ b ∧ b < hi := by
  refine ⟨fun b hb => ⟨(h.outer.lt b hb).1, h.outerLt b hb⟩, fun i hi b hb => ⟨?_, (h.rowLt i hi b hb).1⟩⟩
  obtain ⟨a', c', k1, _, k3⟩ := h.row i hi
  rw [blkW_of k1] at hb
  exact (k3.lt b hb).1

theorem OwnWk.apartW {lo' hi' : Nat} (h : OwnWk w lo hi te ti a n c ts cells k) (hp : Apart lo' hi' w w') (hd : hi ≤ lo' ∨ hi' ≤ lo) : OwnWk w' lo hi te ti a n c ts cells k := by
  have hB := h.blocks
  refine ⟨h.len, Nat.le_trans h.top hp.size, hp.owns h.outer (fun k hk => by have := hB.1 k hk; omega), h.outerLt, fun i hi => ?_, h.rowLt, h.apart⟩
  obtain ⟨a', c', k1, k2, k3⟩ := h.row i hi
  refine ⟨a', c', k1, k2, hp.owns k3 (fun k hk => ?_)⟩
  have := hB.2 i hi k (by rw [blkW_of k1]; exact hk)
  omega

theorem OwnWk.kept {row : Option Nat} (h : OwnWk w lo hi te ti a n c ts cells k) (hg : w.grownBy w' row) (hr : ∀ k, row = some k → k < lo ∨ hi ≤ k) : OwnWk w' lo hi te ti a n c ts cells k := by
  have hB := h.blocks
  refine ⟨h.len, Nat.le_trans h.top hg.size, h.outer.kept hg ?_, h.outerLt, fun i hi => ?_, h.rowLt, h.apart⟩
  · cases hv : (Value.slice a n c).ownBlock with
    | none => exact .inl rfl
    | some k => exact .inr (fun e => by have := hr k e.symm; have := hB.1 k hv; omega)
  · obtain ⟨a', c', k1, k2, k3⟩ := h.row i hi
    refine ⟨a', c', k1, k2, k3.kept hg ?_⟩
    cases hv : (Value.slice a' (wat ts i).1.length c').ownBlock with
    | none => exact .inl rfl
    | some k => exact .inr (fun e => by have := hr k e.symm; have := hB.2 i hi k (by rw [blkW_of k1]; exact hv); omega)

theorem OwnWk.setCell {a0 : Addr} (h : OwnWk w lo hi te ti a n c ts cells k) (ha : a0.block < lo ∨ hi ≤ a0.block) (v : Value) : OwnWk (w.setCell a0 v) lo hi te ti a n c ts cells k :=
  h.kept (row := some a0.block) ⟨rfl, rfl, rfl, by simp [World.setCell], fun k _ hn => Below.heap_setCell w a0 v k (fun e => hn (by rw [e]))⟩ (fun k hk => by simp at hk; omega)

theorem OwnWk.atW (h : OwnWk w lo hi te ti a n c ts cells n) (hs : ∀ i, i < n → (wat ts i).1.length ≤ 9223372036854775807) : AtW w a ts := by
  rcases h.outer.2 with ⟨hv, h0⟩ | ⟨g, cap, cur, hv, _⟩
  · left
    have := h.len
    rw [h0] at this
    exact List.eq_nil_of_length_eq_zero this
  · simp only [Value.slice.injEq, true_and] at hv
    obtain ⟨rfl, rfl⟩ := hv
    refine .inr ⟨g, 0, rfl, fun i hi => ?_⟩
    rw [h.len] at hi
    obtain ⟨a', c', k1, k2, k3⟩ := h.row i hi
    refine ⟨a', c', ?_, ?_, hs i hi, At.owned k3⟩
    · rw [Nat.zero_add, h.outer.cellAt _ (by omega)]; exact k1
    · rw [Nat.zero_add, h.outer.cellAt _ (by omega)]; exact k2

/-- Two stores into one row's cells. -/
theorem owns_two {base : Nat} {e : TypeId} {g n cap : Nat} {xs : List Value} (h : w.ownsRow base e 2 (.slice (some ⟨g, 0, none⟩) n cap) n xs) (i j : Nat) (u v : Value) :
    ((w.setCell ⟨g, i, none⟩ u).setCell ⟨g, j, none⟩ v).ownsRow base e 2 (.slice (some ⟨g, 0, none⟩) n cap) n ((xs.set i u).set j v) := (((h.stored i u).1).stored j v).1

/-- One more row is laid: its cells, which a call made, and its weight. -/
theorem OwnWk.put {w2 : World} {g m c' : Nat} {a' : Option Addr} {x : Int} (h : OwnWk w lo hi te ti (some ⟨g, 0, none⟩) n c ts cells k) (hb : Below w.heap.size w w2) (hk : k < n)
    (hm : (wat ts k).1.length = m) (hx : (wat ts k).2 = x) (hlo : lo ≤ w.heap.size) (hrow : w2.ownsRow w.heap.size ti 1 (.slice a' m c') m ((wat ts k).1.map (.int .i64))) :
    OwnWk ((w2.setCell ⟨g, k * 2, none⟩ (.slice a' m c')).setCell ⟨g, k * 2 + 1, none⟩ (.int .i64 x)) lo w2.heap.size te ti (some ⟨g, 0, none⟩) n c ts ((cells.set (k * 2) (.slice a' m c')).set (k * 2 + 1) (.int .i64 x)) (k + 1) := by
  have h2 := h.below hb
  have hz := hb.size
  have hgl : lo ≤ g ∧ g < hi := h.blocks.1 g rfl
  have htop := h.top
  have hl := h.outer.1
  have hg1 : w2.grownBy ((w2.setCell ⟨g, k * 2, none⟩ (.slice a' m c')).setCell ⟨g, k * 2 + 1, none⟩ (.int .i64 x)) (some g) :=
    ⟨rfl, rfl, rfl, by simp [World.setCell], fun j _ hn => (Below.heap_setCell _ _ _ j (fun e => hn (by rw [e]))).trans (Below.heap_setCell _ _ _ j (fun e => hn (by rw [e])))⟩
  have hset : ∀ i, i < k → ∀ d, d < 2 → ((cells.set (k * 2) (.slice a' m c')).set (k * 2 + 1) (.int .i64 x))[i * 2 + d]? = cells[i * 2 + d]? := fun i hi d hd => by
    rw [List.getElem?_set_ne (by omega), List.getElem?_set_ne (by omega)]
  have hsk : ((cells.set (k * 2) (.slice a' m c')).set (k * 2 + 1) (.int .i64 x))[k * 2]? = some (.slice a' m c') := by
    rw [List.getElem?_set_ne (by omega), List.getElem?_set_self (by omega)]
  have hbk : ∀ i, i < k → blkW ((cells.set (k * 2) (.slice a' m c')).set (k * 2 + 1) (.int .i64 x)) i = blkW cells i := fun i hi => by
    have := hset i hi 0 (by omega)
    simp only [Nat.add_zero] at this
    simp only [blkW, List.getD, this]
  have hold : ∀ i, i < k → ∀ b, blkW cells i = some b → b < w.heap.size := fun i hi b hb' => Nat.lt_of_lt_of_le (h.rowLt i hi b hb').1 h.top
  have hnew : ∀ b, (Value.slice a' m c').ownBlock = some b → w.heap.size ≤ b ∧ b < w2.heap.size := fun b hb' => hrow.lt b hb'
  refine ⟨h.len, by simp [World.setCell], owns_two h2.outer _ _ _ _, fun b hb' => ?_, fun i hi => ?_, fun i hi b hb' => ?_, fun i j hi hj hij b hb' => ?_⟩
  · have := h.outerLt b hb'
    omega
  · by_cases e : i = k
    · subst e
      refine ⟨a', c', by rw [hm]; exact hsk, ?_, ?_⟩
      · rw [List.getElem?_set_self (by simp; omega), hx]
      · rw [hm]
        refine owns_mono (hrow.kept hg1 ?_) hlo
        cases hv : (Value.slice a' m c').ownBlock with
        | none => exact .inl rfl
        | some b => exact .inr (fun e => by have := hnew b hv; simp at e; omega)
    · obtain ⟨a1, c1, k1, k2, k3⟩ := h2.row i (by omega)
      refine ⟨a1, c1, ?_, ?_, k3.kept hg1 ?_⟩
      · have := hset i (by omega) 0 (by omega); simp only [Nat.add_zero] at this; rw [this]; exact k1
      · rw [hset i (by omega) 1 (by omega)]; exact k2
      · cases hv : (Value.slice a1 (wat ts i).1.length c1).ownBlock with
        | none => exact .inl rfl
        | some b => exact .inr (fun e => by have := (h.rowLt i (by omega) b (by rw [blkW_of k1]; exact hv)).2; simp [Value.ownBlock] at e this; omega)
  · by_cases e : i = k
    · subst e
      rw [blkW_of hsk] at hb'
      have := hnew b hb'
      refine ⟨by omega, ?_⟩
      simp [Value.ownBlock]
      omega
    · rw [hbk i (by omega)] at hb'
      have := h.rowLt i (by omega) b hb'
      exact ⟨by omega, this.2⟩
  · by_cases e : i = k
    · subst e
      rw [blkW_of hsk] at hb'
      rw [hbk j (by omega)]
      intro e'
      have := hold j (by omega) b e'
      have := hnew b hb'
      omega
    · rw [hbk i (by omega)] at hb'
      by_cases e2 : j = k
      · subst e2
        rw [blkW_of hsk]
        intro e'
        have := hold i (by omega) b hb'
        have := hnew b e'
        omega
      · rw [hbk j (by omega)]
        exact h.apart i j (by omega) (by omega) hij b hb'

theorem OwnWk.start (hl : ts.length = n) (hh : hi ≤ w.heap.size) (ho : w.ownsRow lo te 2 (.slice a n c) n cells) (hb : ∀ b, (Value.slice a n c).ownBlock = some b → b < hi) : OwnWk w lo hi te ti a n c ts cells 0 :=
  ⟨hl, hh, ho, hb, fun i h => by omega, fun i h => by omega, fun i j h => by omega⟩

end

/-- How many marks the first k rows take: their cells, and one a weight. -/
def wtot (ts : List WRow) (k : Nat) : Nat := ((ts.take k).map fun t => t.1.length + 1).sum
theorem wtot_zero (ts : List WRow) : wtot ts 0 = 0 := rfl
theorem wtot_succ (ts : List WRow) (k : Nat) (h : k < ts.length) : wtot ts (k + 1) = wtot ts k + ((wat ts k).1.length + 1) := by
  unfold wtot
  rw [List.take_succ_eq_append_getElem h, List.map_append, List.sum_append]
  simp only [List.map_cons, List.map_nil, List.sum_cons, List.sum_nil, Nat.add_zero]
  simp [h]
theorem wtot_mono (ts : List WRow) (j k : Nat) (h : j ≤ k) : wtot ts j ≤ wtot ts k := by
  obtain ⟨d, rfl⟩ := Nat.le.dest h
  induction d with
  | zero => exact Nat.le_refl _
  | succ d ih =>
    by_cases hk : j + d < ts.length
    · rw [show j + (d + 1) = (j + d) + 1 from rfl, wtot_succ ts _ hk]; have := ih (by omega); omega
    · have e1 : wtot ts (j + (d + 1)) = wtot ts (j + d) := by unfold wtot; rw [List.take_of_length_le (by omega), List.take_of_length_le (by omega)]
      rw [e1]; exact ih (by omega)
theorem wtot_each (ts : List WRow) (n : Nat) (hn : ts.length = n) (i : Nat) (hi : i < n) : (wat ts i).1.length ≤ wtot ts n := by
  have h1 := wtot_succ ts i (by omega)
  have h2 := wtot_mono ts (i + 1) n (by omega)
  omega
theorem wtot_len (ts : List WRow) (k : Nat) (h : k ≤ ts.length) : k ≤ wtot ts k := by
  induction k with
  | zero => exact Nat.zero_le _
  | succ k ih => rw [wtot_succ ts k (by omega)]; have := ih (by omega); omega

/-- The rows as the laws mark them, from m on. -/
def markW (m : Int) (ts : List WRow) : List WRow := (List.range ts.length).map fun i => (marks (m + wtot ts i) (wat ts i).1.length, m + wtot ts i + (wat ts i).1.length)
theorem markW_length (m : Int) (ts : List WRow) : (markW m ts).length = ts.length := by simp [markW]
theorem markW_at (m : Int) (ts : List WRow) (i : Nat) (h : i < ts.length) : wat (markW m ts) i = (marks (m + wtot ts i) (wat ts i).1.length, m + wtot ts i + (wat ts i).1.length) := by
  simp [markW, h]

theorem wtake_succ (ts : List WRow) (k : Nat) (h : k < ts.length) : ts.take (k + 1) = ts.take k ++ [wat ts k] := by
  rw [List.take_succ_eq_append_getElem h]; simp [h]
theorem wne_of {ts ts' : List WRow} {k : Nat} (h : wat ts k ≠ wat ts' k) : ts ≠ ts' := fun e => h (by rw [e])
theorem wtake_all {ts ts' : List WRow} {k : Nat} (h1 : ts.length ≤ k) (h2 : ts'.length ≤ k) (h : ts.take k = ts'.take k) : ts = ts' := by
  rwa [List.take_of_length_le h1, List.take_of_length_le h2] at h

end Go.Proofs.Ytecaaekilbdgdaa
