/- Several texts of one proof, in build order: GroundV, PlainV, PutV, PlainPick. -/
import Derived.Test.YtlfljfmhhnoinabM2
import Derived.Test.YtlfljfmhhnoinabM7

/- Plain facts on slices of groups: what lies in memory, what a call owns, what the laws mark. -/
namespace Go.Proofs.Ytlfljfmhhnoinab
open Go.RowKit

/-- A group: its key's cells and its two numbers. -/
abbrev GRow := List Int × Int × Int
abbrev gat (ts : List GRow) (i : Nat) : GRow := ts.getD i ([], 0, 0)

/-- A slice of weighted rows with the address a holds ts in the world w. -/
def AtV (w : World) (a : Option Addr) (ts : List GRow) : Prop :=
  ts = [] ∨ ∃ b off, a = some ⟨b, off, none⟩ ∧ ∀ i, i < ts.length → ∃ a' c', w.cell? ⟨b, off + i * 3, none⟩ = some (.slice a' (gat ts i).1.length c') ∧ w.cell? ⟨b, off + i * 3 + 1, none⟩ = some (.int .i64 (gat ts i).2.1) ∧ w.cell? ⟨b, off + i * 3 + 2, none⟩ = some (.int .i64 (gat ts i).2.2) ∧
    (gat ts i).1.length ≤ 9223372036854775807 ∧ At w a' (gat ts i).1

theorem AtV.nil (w : World) (a : Option Addr) : AtV w a [] := .inl rfl

theorem AtV.below {w w' : World} {a : Option Addr} {ts : List GRow} (h : AtV w a ts) (hb : Below w.heap.size w w') : AtV w' a ts := by
  rcases h with h | ⟨b, off, rfl, hc⟩
  · exact .inl h
  · refine .inr ⟨b, off, rfl, fun i hi => ?_⟩
    obtain ⟨a', c', h1, h2, h2', h3, h4⟩ := hc i hi
    exact ⟨a', c', cell_later hb h1, cell_later hb h2, cell_later hb h2', h3, h4.below hb⟩
theorem AtV.alloc {w : World} {a : Option Addr} {ts : List GRow} (h : AtV w a ts) (o : Obj) : AtV (w.alloc o) a ts := h.below ((Below.refl _ _).alloc (Nat.le_refl _) o)
theorem AtV.drew {w : World} {a : Option Addr} {ts : List GRow} (h : AtV w a ts) : AtV w.drew a ts := h.below (Below.refl _ _).drew

theorem AtV.some {w : World} {a : Option Addr} {ts : List GRow} (h : AtV w a ts) (hp : 0 < ts.length) :
    ∃ b off, a = Option.some ⟨b, off, none⟩ ∧ ∀ i, i < ts.length → ∃ a' c', w.cell? ⟨b, off + i * 3, none⟩ = Option.some (.slice a' (gat ts i).1.length c') ∧ w.cell? ⟨b, off + i * 3 + 1, none⟩ = Option.some (.int .i64 (gat ts i).2.1) ∧ w.cell? ⟨b, off + i * 3 + 2, none⟩ = Option.some (.int .i64 (gat ts i).2.2) ∧
      (gat ts i).1.length ≤ 9223372036854775807 ∧ At w a' (gat ts i).1 := by
  rcases h with rfl | h
  · simp at hp
  · exact h

/-- The block of the i-th row's cells. -/
def blkV (cells : List Value) (i : Nat) : Option Nat := (cells.getD (i * 3) (.bool false)).ownBlock

/-- A slice of weighted rows that the call itself made, its first k rows laid: all its blocks, each its own, lie from lo on and below hi. -/
structure OwnVk (w : World) (lo hi : Nat) (te ti : TypeId) (a : Option Addr) (n c : Nat) (ts : List GRow) (cells : List Value) (k : Nat) : Prop where
  len : ts.length = n
  top : hi ≤ w.heap.size
  outer : w.ownsRow lo te 3 (.slice a n c) n cells
  outerLt : ∀ b, (Value.slice a n c).ownBlock = some b → b < hi
  row : ∀ i, i < k → ∃ a' c', cells[i * 3]? = some (.slice a' (gat ts i).1.length c') ∧ cells[i * 3 + 1]? = some (.int .i64 (gat ts i).2.1) ∧ cells[i * 3 + 2]? = some (.int .i64 (gat ts i).2.2) ∧
    w.ownsRow lo ti 1 (.slice a' (gat ts i).1.length c') (gat ts i).1.length ((gat ts i).1.map (.int .i64))
  rowLt : ∀ i, i < k → ∀ b, blkV cells i = some b → b < hi ∧ (Value.slice a n c).ownBlock ≠ some b
  apart : ∀ i j, i < k → j < k → i ≠ j → ∀ b, blkV cells i = some b → blkV cells j ≠ some b
/-- All its rows are laid. -/
abbrev OwnV (w : World) (lo hi : Nat) (te ti : TypeId) (a : Option Addr) (n c : Nat) (ts : List GRow) (cells : List Value) : Prop := OwnVk w lo hi te ti a n c ts cells n

theorem blkV_of {cells : List Value} {i : Nat} {v : Value} (h : cells[i * 3]? = some v) : blkV cells i = v.ownBlock := by simp [blkV, List.getD, h]

section
variable {w w' : World} {lo hi : Nat} {te ti : TypeId} {a : Option Addr} {n c k : Nat} {ts : List GRow} {cells : List Value}

theorem OwnVk.below (h : OwnVk w lo hi te ti a n c ts cells k) (hb : Below w.heap.size w w') : OwnVk w' lo hi te ti a n c ts cells k :=
  ⟨h.len, Nat.le_trans h.top hb.size, owns_below h.outer hb, h.outerLt, fun i hi => by obtain ⟨a', c', h1, h2, h2', h3⟩ := h.row i hi; exact ⟨a', c', h1, h2, h2', owns_below h3 hb⟩, h.rowLt, h.apart⟩
theorem OwnVk.drew (h : OwnVk w lo hi te ti a n c ts cells k) : OwnVk w.drew lo hi te ti a n c ts cells k := h.below (Below.refl _ _).drew
theorem OwnVk.alloc (h : OwnVk w lo hi te ti a n c ts cells k) (o : Obj) : OwnVk (w.alloc o) lo hi te ti a n c ts cells k := h.below ((Below.refl _ _).alloc (Nat.le_refl _) o)

theorem OwnVk.widen {lo' hi' : Nat} (h : OwnVk w lo hi te ti a n c ts cells k) (h1 : lo' ≤ lo) (h2 : hi ≤ hi') (h3 : hi' ≤ w.heap.size) : OwnVk w lo' hi' te ti a n c ts cells k :=
  ⟨h.len, h3, owns_mono h.outer h1, fun b hb => Nat.lt_of_lt_of_le (h.outerLt b hb) h2, fun i hi => by obtain ⟨a', c', k1, k2, k2', k3⟩ := h.row i hi; exact ⟨a', c', k1, k2, k2', owns_mono k3 h1⟩,
    fun i hi b hb => ⟨Nat.lt_of_lt_of_le (h.rowLt i hi b hb).1 h2, (h.rowLt i hi b hb).2⟩, h.apart⟩

/-- Every block of it lies from lo on and below hi. -/
theorem OwnVk.blocks (h : OwnVk w lo hi te ti a n c ts cells k) :
    (∀ b, (Value.slice a n c).ownBlock = some b → lo ≤ b ∧ b < hi) ∧ ∀ i, i < k → ∀ b, blkV cells i = some b → lo ≤ b ∧ b < hi := by
  refine ⟨fun b hb => ⟨(h.outer.lt b hb).1, h.outerLt b hb⟩, fun i hi b hb => ⟨?_, (h.rowLt i hi b hb).1⟩⟩
  obtain ⟨a', c', k1, _, _, k3⟩ := h.row i hi
  rw [blkV_of k1] at hb
  exact (k3.lt b hb).1

theorem OwnVk.kept {row : Option Nat} (h : OwnVk w lo hi te ti a n c ts cells k) (hg : w.grownBy w' row) (hr : ∀ k, row = some k → k < lo ∨ hi ≤ k) : OwnVk w' lo hi te ti a n c ts cells k := by
  have hB := h.blocks
  refine ⟨h.len, Nat.le_trans h.top hg.size, h.outer.kept hg ?_, h.outerLt, fun i hi => ?_, h.rowLt, h.apart⟩
  · cases hv : (Value.slice a n c).ownBlock with
    | none => exact .inl rfl
    | some k => exact .inr (fun e => by have := hr k e.symm; have := hB.1 k hv; omega)
  · obtain ⟨a', c', k1, k2, k2', k3⟩ := h.row i hi
    refine ⟨a', c', k1, k2, k2', k3.kept hg ?_⟩
    cases hv : (Value.slice a' (gat ts i).1.length c').ownBlock with
    | none => exact .inl rfl
    | some k => exact .inr (fun e => by have := hr k e.symm; have := hB.2 i hi k (by rw [blkV_of k1]; exact hv); omega)

theorem OwnVk.setCell {a0 : Addr} (h : OwnVk w lo hi te ti a n c ts cells k) (ha : a0.block < lo ∨ hi ≤ a0.block) (v : Value) : OwnVk (w.setCell a0 v) lo hi te ti a n c ts cells k :=
  h.kept (row := some a0.block) ⟨rfl, rfl, rfl, by simp [World.setCell], fun k _ hn => Below.heap_setCell w a0 v k (fun e => hn (by rw [e]))⟩ (fun k hk => by simp at hk; omega)

theorem OwnVk.atV (h : OwnVk w lo hi te ti a n c ts cells n) (hs : ∀ i, i < n → (gat ts i).1.length ≤ 9223372036854775807) : AtV w a ts := by
  rcases h.outer.2 with ⟨hv, h0⟩ | ⟨g, cap, cur, hv, _⟩
  · left
    have := h.len
    rw [h0] at this
    exact List.eq_nil_of_length_eq_zero this
  · simp only [Value.slice.injEq, true_and] at hv
    obtain ⟨rfl, rfl⟩ := hv
    refine .inr ⟨g, 0, rfl, fun i hi => ?_⟩
    rw [h.len] at hi
    obtain ⟨a', c', k1, k2, k2', k3⟩ := h.row i hi
    refine ⟨a', c', ?_, ?_, ?_, hs i hi, At.owned k3⟩
    · rw [Nat.zero_add, h.outer.cellAt _ (by omega)]; exact k1
    · rw [Nat.zero_add, h.outer.cellAt _ (by omega)]; exact k2
    · rw [Nat.zero_add, h.outer.cellAt _ (by omega)]; exact k2'

/-- Three stores into one row's cells. -/
theorem owns_three {base : Nat} {e : TypeId} {g n cap : Nat} {xs : List Value} (h : w.ownsRow base e 3 (.slice (some ⟨g, 0, none⟩) n cap) n xs) (i j l : Nat) (u v x : Value) :
    (((w.setCell ⟨g, i, none⟩ u).setCell ⟨g, j, none⟩ v).setCell ⟨g, l, none⟩ x).ownsRow base e 3 (.slice (some ⟨g, 0, none⟩) n cap) n (((xs.set i u).set j v).set l x) := ((((h.stored i u).1).stored j v).1.stored l x).1

/-- One more row is laid: its cells, which a call made, and its weight. -/
theorem OwnVk.put {w2 : World} {g m c' : Nat} {a' : Option Addr} {x y : Int} (h : OwnVk w lo hi te ti (some ⟨g, 0, none⟩) n c ts cells k) (hb : Below w.heap.size w w2) (hk : k < n)
    (hm : (gat ts k).1.length = m) (hx : (gat ts k).2.1 = x) (hy : (gat ts k).2.2 = y) (hlo : lo ≤ w.heap.size) (hrow : w2.ownsRow w.heap.size ti 1 (.slice a' m c') m ((gat ts k).1.map (.int .i64))) :
    OwnVk (((w2.setCell ⟨g, k * 3, none⟩ (.slice a' m c')).setCell ⟨g, k * 3 + 1, none⟩ (.int .i64 x)).setCell ⟨g, k * 3 + 2, none⟩ (.int .i64 y)) lo w2.heap.size te ti (some ⟨g, 0, none⟩) n c ts (((cells.set (k * 3) (.slice a' m c')).set (k * 3 + 1) (.int .i64 x)).set (k * 3 + 2) (.int .i64 y)) (k + 1) := by
  have h2 := h.below hb
  have hz := hb.size
  have hgl : lo ≤ g ∧ g < hi := h.blocks.1 g rfl
  have htop := h.top
  have hl := h.outer.1
  have hg1 : w2.grownBy (((w2.setCell ⟨g, k * 3, none⟩ (.slice a' m c')).setCell ⟨g, k * 3 + 1, none⟩ (.int .i64 x)).setCell ⟨g, k * 3 + 2, none⟩ (.int .i64 y)) (some g) :=
    ⟨rfl, rfl, rfl, by simp [World.setCell], fun j _ hn => (Below.heap_setCell _ _ _ j (fun e => hn (by rw [e]))).trans ((Below.heap_setCell _ _ _ j (fun e => hn (by rw [e]))).trans (Below.heap_setCell _ _ _ j (fun e => hn (by rw [e]))))⟩
  have hset : ∀ i, i < k → ∀ d, d < 3 → (((cells.set (k * 3) (.slice a' m c')).set (k * 3 + 1) (.int .i64 x)).set (k * 3 + 2) (.int .i64 y))[i * 3 + d]? = cells[i * 3 + d]? := fun i hi d hd => by
    rw [List.getElem?_set_ne (by omega), List.getElem?_set_ne (by omega), List.getElem?_set_ne (by omega)]
  have hsk : (((cells.set (k * 3) (.slice a' m c')).set (k * 3 + 1) (.int .i64 x)).set (k * 3 + 2) (.int .i64 y))[k * 3]? = some (.slice a' m c') := by
    rw [List.getElem?_set_ne (by omega), List.getElem?_set_ne (by omega), List.getElem?_set_self (by omega)]
  have hbk : ∀ i, i < k → blkV (((cells.set (k * 3) (.slice a' m c')).set (k * 3 + 1) (.int .i64 x)).set (k * 3 + 2) (.int .i64 y)) i = blkV cells i := fun i hi => by
    have := hset i hi 0 (by omega)
    simp only [Nat.add_zero] at this
    simp only [blkV, List.getD, this]
  have hold : ∀ i, i < k → ∀ b, blkV cells i = some b → b < w.heap.size := fun i hi b hb' => Nat.lt_of_lt_of_le (h.rowLt i hi b hb').1 h.top
  have hnew : ∀ b, (Value.slice a' m c').ownBlock = some b → w.heap.size ≤ b ∧ b < w2.heap.size := fun b hb' => hrow.lt b hb'
  refine ⟨h.len, by simp [World.setCell], owns_three h2.outer _ _ _ _ _ _, fun b hb' => ?_, fun i hi => ?_, fun i hi b hb' => ?_, fun i j hi hj hij b hb' => ?_⟩
  · have := h.outerLt b hb'
    omega
  · by_cases e : i = k
    · subst e
      refine ⟨a', c', by rw [hm]; exact hsk, ?_, ?_, ?_⟩
      · rw [List.getElem?_set_ne (by omega), List.getElem?_set_self (by simp; omega), hx]
      · rw [List.getElem?_set_self (by simp; omega), hy]
      · rw [hm]
        refine owns_mono (hrow.kept hg1 ?_) hlo
        cases hv : (Value.slice a' m c').ownBlock with
        | none => exact .inl rfl
        | some b => exact .inr (fun e => by have := hnew b hv; simp at e; omega)
    · obtain ⟨a1, c1, k1, k2, k2', k3⟩ := h2.row i (by omega)
      refine ⟨a1, c1, ?_, ?_, ?_, k3.kept hg1 ?_⟩
      · have := hset i (by omega) 0 (by omega); simp only [Nat.add_zero] at this; rw [this]; exact k1
      · rw [hset i (by omega) 1 (by omega)]; exact k2
      · rw [hset i (by omega) 2 (by omega)]; exact k2'
      · cases hv : (Value.slice a1 (gat ts i).1.length c1).ownBlock with
        | none => exact .inl rfl
        | some b => exact .inr (fun e => by have := (h.rowLt i (by omega) b (by rw [blkV_of k1]; exact hv)).2; simp [Value.ownBlock] at e this; omega)
  · by_cases e : i = k
    · subst e
      rw [blkV_of hsk] at hb'
      have := hnew b hb'
      refine ⟨by omega, ?_⟩
      simp [Value.ownBlock]
      omega
    · rw [hbk i (by omega)] at hb'
      have := h.rowLt i (by omega) b hb'
      exact ⟨by omega, this.2⟩
  · by_cases e : i = k
    · subst e
      rw [blkV_of hsk] at hb'
      rw [hbk j (by omega)]
      intro e'
      have := hold j (by omega) b e'
      have := hnew b hb'
      omega
    · rw [hbk i (by omega)] at hb'
      by_cases e2 : j = k
      · subst e2
        rw [blkV_of hsk]
        intro e'
        have := hold i (by omega) b hb'
        have := hnew b e'
        omega
      · rw [hbk j (by omega)]
        exact h.apart i j (by omega) (by omega) hij b hb'

theorem OwnVk.start (hl : ts.length = n) (hh : hi ≤ w.heap.size) (ho : w.ownsRow lo te 3 (.slice a n c) n cells) (hb : ∀ b, (Value.slice a n c).ownBlock = some b → b < hi) : OwnVk w lo hi te ti a n c ts cells 0 :=
  ⟨hl, hh, ho, hb, fun i h => by omega, fun i h => by omega, fun i j h => by omega⟩

end

/-- What szGroupS takes for the first k groups. -/
def vtot (ts : List GRow) (k : Nat) : Nat := ((ts.take k).map fun t => t.1.length + 1).sum
theorem vtot_zero (ts : List GRow) : vtot ts 0 = 0 := rfl
theorem vtot_succ (ts : List GRow) (k : Nat) (h : k < ts.length) : vtot ts (k + 1) = vtot ts k + ((gat ts k).1.length + 1) := by
  unfold vtot
  rw [List.take_succ_eq_append_getElem h, List.map_append, List.sum_append]
  simp only [List.map_cons, List.map_nil, List.sum_cons, List.sum_nil, Nat.add_zero]
  simp [h]
theorem vtot_mono (ts : List GRow) (j k : Nat) (h : j ≤ k) : vtot ts j ≤ vtot ts k := by
  obtain ⟨d, rfl⟩ := Nat.le.dest h
  induction d with
  | zero => exact Nat.le_refl _
  | succ d ih =>
    by_cases hk : j + d < ts.length
    · rw [show j + (d + 1) = (j + d) + 1 from rfl, vtot_succ ts _ hk]; have := ih (by omega); omega
    · have e1 : vtot ts (j + (d + 1)) = vtot ts (j + d) := by unfold vtot; rw [List.take_of_length_le (by omega), List.take_of_length_le (by omega)]
      rw [e1]; exact ih (by omega)
theorem vtot_each (ts : List GRow) (n : Nat) (hn : ts.length = n) (i : Nat) (hi : i < n) : (gat ts i).1.length ≤ vtot ts n := by
  have h1 := vtot_succ ts i (by omega)
  have h2 := vtot_mono ts (i + 1) n (by omega)
  omega
theorem vtot_len (ts : List GRow) (k : Nat) (h : k ≤ ts.length) : k ≤ vtot ts k := by
  induction k with
  | zero => exact Nat.zero_le _
  | succ k ih => rw [vtot_succ ts k (by omega)]; have := ih (by omega); omega

theorem vtake_succ (ts : List GRow) (k : Nat) (h : k < ts.length) : ts.take (k + 1) = ts.take k ++ [gat ts k] := by
  rw [List.take_succ_eq_append_getElem h]; simp [h]
end Go.Proofs.Ytlfljfmhhnoinab

/- Plain functions on lists of groups: what good groups are. -/
namespace Go.Proofs.Ytlfljfmhhnoinab

def ins (x : Int) : Bool := decide (-100000000000000 ≤ x) && decide (x ≤ 100000000000000)
/-- Both numbers are nothing. -/
def nought (x y : Int) : Bool := decide (x = 0) && decide (y = 0)
/-- A group by a key of p cells. -/
def goodG (p : Nat) (g : GRow) : Bool := good g.1 && (decide (g.1.length = p) && (ins g.2.1 && (ins g.2.2 && !nought g.2.1 g.2.2)))
/-- How many cells the first key has. -/
def keyN (ts : List GRow) : Nat := (gat ts 0).1.length
/-- The k-th group may stand where it stands. -/
def stepV (ts : List GRow) (k : Nat) : Bool := goodG (keyN ts) (gat ts k) && (decide (k = 0) || decide (cmp (gat ts (k - 1)).1 (gat ts k).1 < 0))
/-- Good groups. -/
def goodV (ts : List GRow) : Bool := decide (ts.length ≤ 60) && (List.range ts.length).all (stepV ts)

theorem ins_range {x : Int} (h : ins x = true) : -100000000000000 ≤ x ∧ x ≤ 100000000000000 := by simpa [ins] using h
theorem goodG_cells {p : Nat} {g : GRow} (h : goodG p g = true) : good g.1 = true ∧ g.1.length = p ∧ ins g.2.1 = true ∧ ins g.2.2 = true ∧ nought g.2.1 g.2.2 = false := by simpa [goodG] using h
theorem goodG_mk {p : Nat} {g : GRow} (h1 : good g.1 = true) (h2 : g.1.length = p) (h3 : ins g.2.1 = true) (h4 : ins g.2.2 = true) (h5 : nought g.2.1 g.2.2 = false) : goodG p g = true := by simp [goodG, h1, h2, h3, h4, h5]
theorem goodG_row {p : Nat} {g : GRow} (h : good g.1 = false) : goodG p g = false := by simp [goodG, h]
theorem goodG_len {p : Nat} {g : GRow} (h : g.1.length ≠ p) : goodG p g = false := by simp [goodG, h]
theorem goodG_count {p : Nat} {g : GRow} (h : ins g.2.1 = false) : goodG p g = false := by simp [goodG, h]
theorem goodG_sum {p : Nat} {g : GRow} (h : ins g.2.2 = false) : goodG p g = false := by simp [goodG, h]
theorem goodG_zero {p : Nat} {g : GRow} (h : nought g.2.1 g.2.2 = true) : goodG p g = false := by simp [goodG, h]

theorem gat_mem {ts : List GRow} {k : Nat} (h : k < ts.length) : gat ts k ∈ ts := by
  rw [show gat ts k = ts[k] by simp [gat, List.getD, h]]; exact List.getElem_mem h

theorem goodV_of {ts : List GRow} (h2 : ts.length ≤ 60) (h : ∀ k, k < ts.length → stepV ts k = true) : goodV ts = true := by
  simp only [goodV, decide_eq_true h2, Bool.true_and, List.all_eq_true, List.mem_range]; exact h
theorem goodV_parts {ts : List GRow} (h : goodV ts = true) : ts.length ≤ 60 ∧ ∀ k, k < ts.length → stepV ts k = true := by
  simpa only [goodV, Bool.and_eq_true, decide_eq_true_eq, List.all_eq_true, List.mem_range] using h
theorem goodV_len {ts : List GRow} (h : 60 < ts.length) : goodV ts = false := by
  have : decide (ts.length ≤ 60) = false := by simp; omega
  simp [goodV, this]
theorem goodV_not {ts : List GRow} (k : Nat) (hk : k < ts.length) (h : stepV ts k = false) : goodV ts = false := by
  cases hg : goodV ts with
  | false => rfl
  | true => rw [(goodV_parts hg).2 k hk] at h; cases h
theorem stepV_good {ts : List GRow} {k : Nat} (h : stepV ts k = true) : goodG (keyN ts) (gat ts k) = true := by
  simp only [stepV, Bool.and_eq_true] at h; exact h.1
theorem stepV_row {ts : List GRow} {k : Nat} (h : goodG (keyN ts) (gat ts k) = false) : stepV ts k = false := by simp only [stepV, h, Bool.false_and]
theorem stepV_cmp {ts : List GRow} {k : Nat} (h0 : k ≠ 0) (h : ¬ cmp (gat ts (k - 1)).1 (gat ts k).1 < 0) : stepV ts k = false := by
  simp only [stepV, decide_eq_false h0, decide_eq_false h, Bool.or_false, Bool.and_false]
theorem stepV_mk {ts : List GRow} {k : Nat} (h1 : goodG (keyN ts) (gat ts k) = true) (h3 : k = 0 ∨ cmp (gat ts (k - 1)).1 (gat ts k).1 < 0) : stepV ts k = true := by
  rcases h3 with h3 | h3 <;> simp only [stepV, h1, decide_eq_true h3, Bool.true_and, Bool.or_true, Bool.true_or]

/-- All keys are as long as the first one. -/
def oneLen (ts : List GRow) : Bool := ts.all fun g => decide (g.1.length = keyN ts)
theorem oneLen_of {ts : List GRow} (h : ∀ k, k < ts.length → (gat ts k).1.length = keyN ts) : oneLen ts = true := by
  unfold oneLen
  rw [List.all_eq_true]
  intro t ht
  obtain ⟨k, hk, rfl⟩ := List.getElem_of_mem ht
  simpa [gat, List.getD, hk] using h k hk
theorem oneLen_at {ts : List GRow} (h : oneLen ts = true) (k : Nat) (hk : k < ts.length) : (gat ts k).1.length = keyN ts := by
  simpa using List.all_eq_true.1 h _ (gat_mem hk)
theorem oneLen_not {ts : List GRow} (k : Nat) (hk : k < ts.length) (h : (gat ts k).1.length ≠ keyN ts) : oneLen ts = false := by
  cases hg : oneLen ts with
  | false => rfl
  | true => exact absurd (oneLen_at hg k hk) h
theorem goodV_oneLen {ts : List GRow} (h : oneLen ts = false) : goodV ts = false := by
  cases hg : goodV ts with
  | false => rfl
  | true =>
    rw [oneLen_of fun k hk => (goodG_cells (stepV_good ((goodV_parts hg).2 k hk))).2.1] at h
    cases h

end Go.Proofs.Ytlfljfmhhnoinab

/- Plain facts: an amount put to a key, many of them, and that a rising list of groups is told by its amounts. -/
namespace Go.Proofs.Ytlfljfmhhnoinab

/-- Two numbers of a group. -/
abbrev Amt := Int × Int
def addA (x y : Amt) : Amt := (x.1 + y.1, x.2 + y.2)
theorem addA_zero (x : Amt) : addA x (0, 0) = x := by simp [addA]
theorem zero_addA (x : Amt) : addA (0, 0) x = x := by simp [addA]
theorem addA_comm (x y : Amt) : addA x y = addA y x := by simp [addA, Int.add_comm]
theorem addA_assoc (x y z : Amt) : addA (addA x y) z = addA x (addA y z) := by simp [addA, Int.add_assoc]

/-- Keys that rise. -/
def RisesV (ts : List GRow) : Prop := ts.Pairwise fun s t => cmp s.1 t.1 < 0
/-- The amount of a key, nothing where it is not there. -/
def vOf (ts : List GRow) (zs : List Int) : Amt := ((ts.find? fun t => decide (t.1 = zs)).map fun t => t.2).getD (0, 0)
theorem vOf_nil (zs : List Int) : vOf [] zs = (0, 0) := rfl
theorem vOf_cons (t : GRow) (ts : List GRow) (zs : List Int) : vOf (t :: ts) zs = if t.1 = zs then t.2 else vOf ts zs := by
  unfold vOf
  by_cases e : t.1 = zs <;> simp [e]
theorem vOf_absent {ts : List GRow} {zs : List Int} (h : ∀ t ∈ ts, t.1 ≠ zs) : vOf ts zs = (0, 0) := by
  induction ts with
  | nil => rfl
  | cons t ts ih => rw [vOf_cons, if_neg (h t (by simp))]; exact ih fun s hs => h s (by simp [hs])

/-- A key with its amount, nothing where it is nothing. -/
def oneV (zs : List Int) (x : Amt) : List GRow := if x = (0, 0) then [] else [(zs, x)]
/-- What is left behind the place at which a key is put. -/
def restV (zs : List Int) (x : Amt) : List GRow → List GRow
  | [] => oneV zs x
  | t :: ts => if cmp t.1 zs = 0 then oneV zs (addA x t.2) ++ ts else oneV zs x ++ t :: ts
/-- An amount is put to a key. -/
def putV : List GRow → List Int → Amt → List GRow
  | [], zs, x => restV zs x []
  | t :: ts, zs, x => if cmp t.1 zs < 0 then t :: putV ts zs x else restV zs x (t :: ts)

theorem putV_at (zs : List Int) (x : Amt) : ∀ (ts : List GRow) (k : Nat), k ≤ ts.length → (∀ j, j < k → cmp (gat ts j).1 zs < 0) → (k < ts.length → ¬ cmp (gat ts k).1 zs < 0) → putV ts zs x = ts.take k ++ restV zs x (ts.drop k) := by
  intro ts
  induction ts with
  | nil => intro k hk _ _; obtain rfl : k = 0 := by simpa using hk
           rfl
  | cons t ts ih =>
    intro k hk h1 h2
    cases k with
    | zero =>
      have : ¬ cmp t.1 zs < 0 := by simpa [gat, List.getD] using h2 (by simp)
      simp only [putV, if_neg this, List.take_zero, List.drop_zero, List.nil_append]
    | succ k =>
      have h0 : cmp t.1 zs < 0 := by simpa [gat, List.getD] using h1 0 (by omega)
      simp only [putV, if_pos h0, List.take_succ_cons, List.drop_succ_cons, List.cons_append]
      rw [ih k (by simpa using hk) (fun j hj => by simpa [gat, List.getD] using h1 (j + 1) (by omega)) (fun h => by simpa [gat, List.getD] using h2 (by simpa using h))]

theorem restV_cons (zs : List Int) (x : Amt) (ts : List GRow) (k : Nat) (h : k < ts.length) :
    restV zs x (ts.drop k) = if cmp (gat ts k).1 zs = 0 then oneV zs (addA x (gat ts k).2) ++ ts.drop (k + 1) else oneV zs x ++ ts.drop k := by
  rw [List.drop_eq_getElem_cons h]
  simp [restV, gat, List.getD, h]

/-- No amount is nothing. -/
def NoZeroV (ts : List GRow) : Prop := ∀ t ∈ ts, t.2 ≠ (0, 0)

theorem oneV_mem {zs : List Int} {x : Amt} {t : GRow} (h : t ∈ oneV zs x) : t = (zs, x) ∧ x ≠ (0, 0) := by
  unfold oneV at h
  by_cases e : x = (0, 0)
  · simp [e] at h
  · rw [if_neg e] at h; exact ⟨by simpa using h, e⟩

theorem putV_mem {zs : List Int} {x : Amt} {t : GRow} : ∀ {ts : List GRow}, t ∈ putV ts zs x → t ∈ ts ∨ t.1 = zs := by
  intro ts
  induction ts with
  | nil => intro h; right; exact congrArg Prod.fst (oneV_mem h).1
  | cons s ts ih =>
    intro h
    simp only [putV] at h
    by_cases e : cmp s.1 zs < 0
    · rw [if_pos e] at h
      rcases List.mem_cons.1 h with rfl | h
      · left; simp
      · rcases ih h with h | h
        · left; simp [h]
        · right; exact h
    · rw [if_neg e] at h
      simp only [restV] at h
      by_cases e2 : cmp s.1 zs = 0
      · rw [if_pos e2] at h
        rcases List.mem_append.1 h with h | h
        · right; exact congrArg Prod.fst (oneV_mem h).1
        · left; simp [h]
      · rw [if_neg e2] at h
        rcases List.mem_append.1 h with h | h
        · right; exact congrArg Prod.fst (oneV_mem h).1
        · left; exact h

theorem risesV_one (zs : List Int) (x : Amt) (ts : List GRow) (hr : RisesV ts) (h : ∀ t ∈ ts, cmp zs t.1 < 0) : RisesV (oneV zs x ++ ts) := by
  unfold oneV
  by_cases e : x = (0, 0)
  · simpa [e] using hr
  · rw [if_neg e]; exact List.pairwise_cons.2 ⟨h, hr⟩

theorem putV_rises {zs : List Int} {x : Amt} : ∀ {ts : List GRow}, RisesV ts → RisesV (putV ts zs x) := by
  intro ts
  induction ts with
  | nil => intro _; have := risesV_one zs x [] List.Pairwise.nil (by simp); simpa [putV, restV] using this
  | cons s ts ih =>
    intro h
    obtain ⟨h1, h2⟩ := List.pairwise_cons.1 h
    simp only [putV]
    by_cases e : cmp s.1 zs < 0
    · rw [if_pos e]
      refine List.pairwise_cons.2 ⟨fun t ht => ?_, ih h2⟩
      rcases putV_mem ht with h' | h'
      · exact h1 t h'
      · rw [h']; exact e
    · rw [if_neg e]
      simp only [restV]
      by_cases e2 : cmp s.1 zs = 0
      · rw [if_pos e2]
        refine risesV_one _ _ _ h2 fun t ht => ?_
        rw [← cmp_eq e2]; exact h1 t ht
      · rw [if_neg e2]
        have e3 : cmp zs s.1 < 0 := by have := cmp_swap s.1 zs; have := cmp_range s.1 zs; omega
        refine risesV_one _ _ _ h fun t ht => ?_
        rcases List.mem_cons.1 ht with rfl | ht
        · exact e3
        · exact cmp_trans e3 (h1 t ht)

theorem putV_nozero {zs : List Int} {x : Amt} : ∀ {ts : List GRow}, NoZeroV ts → NoZeroV (putV ts zs x) := by
  intro ts
  induction ts with
  | nil => intro _ t ht; obtain ⟨rfl, h⟩ := oneV_mem ht; exact h
  | cons s ts ih =>
    intro h t ht
    simp only [putV] at ht
    have hts : NoZeroV ts := fun t ht => h t (by simp [ht])
    by_cases e : cmp s.1 zs < 0
    · rw [if_pos e] at ht
      rcases List.mem_cons.1 ht with rfl | ht
      · exact h _ (by simp)
      · exact ih hts t ht
    · rw [if_neg e] at ht
      simp only [restV] at ht
      by_cases e2 : cmp s.1 zs = 0
      · rw [if_pos e2] at ht
        rcases List.mem_append.1 ht with ht | ht
        · obtain ⟨rfl, h⟩ := oneV_mem ht; exact h
        · exact hts t ht
      · rw [if_neg e2] at ht
        rcases List.mem_append.1 ht with ht | ht
        · obtain ⟨rfl, h⟩ := oneV_mem ht; exact h
        · exact h t ht

theorem vOf_one (zs : List Int) (x : Amt) (ts : List GRow) (ys : List Int) (h : ∀ t ∈ ts, t.1 ≠ zs) : vOf (oneV zs x ++ ts) ys = addA (vOf ts ys) (if zs = ys then x else (0, 0)) := by
  unfold oneV
  by_cases e : x = (0, 0)
  · rw [if_pos e]; simp [e, addA_zero]
  · rw [if_neg e, List.singleton_append, vOf_cons]
    by_cases e2 : zs = ys
    · subst e2
      rw [if_pos rfl, if_pos rfl, vOf_absent h, zero_addA]
    · rw [if_neg e2, if_neg e2, addA_zero]

theorem putV_vOf {zs : List Int} {x : Amt} (ys : List Int) : ∀ {ts : List GRow}, RisesV ts → vOf (putV ts zs x) ys = addA (vOf ts ys) (if zs = ys then x else (0, 0)) := by
  intro ts
  induction ts with
  | nil => intro _; have := vOf_one zs x [] ys (by simp); simpa [putV, restV] using this
  | cons s ts ih =>
    intro h
    obtain ⟨h1, h2⟩ := List.pairwise_cons.1 h
    simp only [putV]
    by_cases e : cmp s.1 zs < 0
    · rw [if_pos e, vOf_cons, vOf_cons, ih h2]
      by_cases e2 : s.1 = ys
      · rw [if_pos e2, if_pos e2, if_neg (fun e3 => cmp_ne e (e2.trans e3.symm)), addA_zero]
      · rw [if_neg e2, if_neg e2]
    · rw [if_neg e]
      simp only [restV]
      by_cases e2 : cmp s.1 zs = 0
      · have es := cmp_eq e2
        rw [if_pos e2, vOf_one _ _ _ _ (fun t ht e' => cmp_ne (h1 t ht) (es.trans e'.symm)), vOf_cons, es]
        by_cases e3 : zs = ys
        · subst e3
          rw [if_pos rfl, if_pos rfl, if_pos rfl, vOf_absent (fun t ht e' => cmp_ne (h1 t ht) (es.trans e'.symm)), zero_addA, addA_comm]
        · rw [if_neg e3, if_neg e3, if_neg e3]
      · rw [if_neg e2]
        have e3 : cmp zs s.1 < 0 := by have := cmp_swap s.1 zs; have := cmp_range s.1 zs; omega
        exact vOf_one _ _ _ _ fun t ht e' => by
          rcases List.mem_cons.1 ht with rfl | ht
          · exact cmp_ne e3 e'.symm
          · exact cmp_ne (cmp_trans e3 (h1 t ht)) e'.symm

theorem vOf_mem {ts : List GRow} (hr : RisesV ts) {t : GRow} (h : t ∈ ts) : vOf ts t.1 = t.2 := by
  induction ts with
  | nil => simp at h
  | cons s ts ih =>
    obtain ⟨h1, h2⟩ := List.pairwise_cons.1 hr
    rw [vOf_cons]
    rcases List.mem_cons.1 h with rfl | h
    · simp
    · rw [if_neg (fun e => cmp_ne (h1 t h) e)]; exact ih h2 h
theorem mem_vOf {ts : List GRow} {zs : List Int} (h : vOf ts zs ≠ (0, 0)) : (zs, vOf ts zs) ∈ ts := by
  induction ts with
  | nil => exact absurd rfl h
  | cons s ts ih =>
    rw [vOf_cons] at h ⊢
    by_cases e : s.1 = zs
    · rw [if_pos e]; subst e; simp
    · rw [if_neg e] at h ⊢; simp [ih h]

/-- Two rising lists that have the same amounts, none nothing, are one. -/
theorem risesV_ext : ∀ {ts us : List GRow}, RisesV ts → RisesV us → NoZeroV ts → NoZeroV us → (∀ zs, vOf ts zs = vOf us zs) → ts = us := by
  intro ts
  induction ts with
  | nil =>
    intro us _ hu _ nu h
    cases us with
    | nil => rfl
    | cons u us =>
      have := h u.1
      rw [vOf_mem hu (by simp), vOf_nil] at this
      exact absurd this.symm (nu u (by simp))
  | cons t ts ih =>
    intro us ht hu nt nu h
    cases us with
    | nil =>
      have := h t.1
      rw [vOf_mem ht (by simp), vOf_nil] at this
      exact absurd this (nt t (by simp))
    | cons u us =>
      obtain ⟨t1, t2⟩ := List.pairwise_cons.1 ht
      obtain ⟨u1, u2⟩ := List.pairwise_cons.1 hu
      have e1 : (t.1, t.2) ∈ u :: us := by
        have := h t.1
        rw [vOf_mem ht (by simp)] at this
        rw [this]; exact mem_vOf (by rw [← this]; exact nt t (by simp))
      have e2 : (u.1, u.2) ∈ t :: ts := by
        have := h u.1
        rw [vOf_mem hu (by simp)] at this
        rw [← this]; exact mem_vOf (by rw [this]; exact nu u (by simp))
      have e : t = u := by
        rcases List.mem_cons.1 e1 with e1 | e1
        · exact e1
        · rcases List.mem_cons.1 e2 with e2 | e2
          · exact e2.symm
          · exact absurd (cmp_trans (u1 _ e1) (t1 _ e2)) (cmp_irrefl _)
      subst e
      congr 1
      refine ih t2 u2 (fun s hs => nt s (by simp [hs])) (fun s hs => nu s (by simp [hs])) fun zs => ?_
      have := h zs
      rw [vOf_cons, vOf_cons] at this
      by_cases e : t.1 = zs
      · subst e
        rw [vOf_absent fun s hs e' => cmp_ne (t1 s hs) e'.symm, vOf_absent fun s hs e' => cmp_ne (u1 s hs) e'.symm]
      · rwa [if_neg e, if_neg e] at this

/-- What groups add at a key. -/
def sumV (l : List GRow) (zs : List Int) : Amt := l.foldl (fun acc t => addA acc (if t.1 = zs then t.2 else (0, 0))) (0, 0)
theorem sumV_from (l : List GRow) (zs : List Int) : ∀ x : Amt, l.foldl (fun acc t => addA acc (if t.1 = zs then t.2 else (0, 0))) x = addA x (sumV l zs) := by
  unfold sumV
  induction l with
  | nil => intro x; simp [addA_zero]
  | cons t l ih => intro x; rw [List.foldl_cons, List.foldl_cons, ih, ih (addA (0, 0) _), zero_addA, addA_assoc]
theorem sumV_nil (zs : List Int) : sumV [] zs = (0, 0) := rfl
theorem sumV_cons (t : GRow) (l : List GRow) (zs : List Int) : sumV (t :: l) zs = addA (if t.1 = zs then t.2 else (0, 0)) (sumV l zs) := by
  show List.foldl _ _ _ = _
  rw [List.foldl_cons, sumV_from, zero_addA]
/-- All groups are put, one by one. -/
def putAllV (ts l : List GRow) : List GRow := l.foldl (fun acc t => putV acc t.1 t.2) ts
theorem putAllV_nil (ts : List GRow) : putAllV ts [] = ts := rfl
theorem putAllV_snoc (ts l : List GRow) (t : GRow) : putAllV ts (l ++ [t]) = putV (putAllV ts l) t.1 t.2 := by simp [putAllV]
theorem putAllV_take (ts l : List GRow) (k : Nat) (h : k < l.length) : putAllV ts (l.take (k + 1)) = putV (putAllV ts (l.take k)) (gat l k).1 (gat l k).2 := by rw [vtake_succ l k h, putAllV_snoc]
theorem putAllV_rises {l : List GRow} : ∀ {ts : List GRow}, RisesV ts → RisesV (putAllV ts l) := by
  induction l with
  | nil => intro ts h; exact h
  | cons t l ih => intro ts h; exact ih (putV_rises h)
theorem putAllV_vOf {l : List GRow} (zs : List Int) : ∀ {ts : List GRow}, RisesV ts → vOf (putAllV ts l) zs = addA (vOf ts zs) (sumV l zs) := by
  induction l with
  | nil => intro ts h; simp [putAllV, sumV_nil, addA_zero]
  | cons t l ih =>
    intro ts h
    have := ih (ts := putV ts t.1 t.2) (putV_rises h)
    rw [putV_vOf zs h] at this
    simp only [putAllV, List.foldl_cons] at this ⊢
    rw [this, sumV_cons, addA_assoc]
theorem putV_len {zs : List Int} {x : Amt} : ∀ {ts : List GRow}, (putV ts zs x).length ≤ ts.length + 1 := by
  have h1 : ∀ y, (oneV zs y).length ≤ 1 := fun y => by unfold oneV; split <;> simp
  intro ts
  induction ts with
  | nil => simpa [putV, restV] using h1 x
  | cons t ts ih =>
    simp only [putV]
    split
    · simpa using ih
    · simp only [restV]
      split
      · have := h1 (addA x t.2); simp; omega
      · have := h1 x; simp; omega
theorem putAllV_len (l : List GRow) : ∀ (ts : List GRow), (putAllV ts l).length ≤ ts.length + l.length := by
  induction l with
  | nil => intro ts; simp [putAllV]
  | cons t l ih => intro ts; have := ih (putV ts t.1 t.2); have := putV_len (zs := t.1) (x := t.2) (ts := ts); simp only [putAllV, List.foldl_cons, List.length_cons] at *; omega
/-- Each key of it is one that was there or was put. -/
theorem putAllV_rows {l : List GRow} {t : GRow} : ∀ {ts : List GRow}, t ∈ putAllV ts l → (∃ s ∈ ts, s.1 = t.1) ∨ ∃ s ∈ l, s.1 = t.1 := by
  induction l with
  | nil => intro ts h; exact .inl ⟨t, h, rfl⟩
  | cons s l ih =>
    intro ts h
    rcases ih (ts := putV ts s.1 s.2) h with ⟨u, hu, e⟩ | ⟨u, hu, e⟩
    · rcases putV_mem hu with h' | h'
      · exact .inl ⟨u, h', e⟩
      · exact .inr ⟨s, by simp, by rw [← e, h']⟩
    · exact .inr ⟨u, by simp [hu], e⟩
/-- Both numbers lie within a bound. -/
def InA (M : Int) (x : Amt) : Prop := -M ≤ x.1 ∧ x.1 ≤ M ∧ -M ≤ x.2 ∧ x.2 ≤ M
theorem inA_zero {M : Int} (h : 0 ≤ M) : InA M (0, 0) := ⟨by show -M ≤ 0; omega, h, by show -M ≤ 0; omega, h⟩
theorem InA.add {M M' : Int} {x y : Amt} (h : InA M x) (k : InA M' y) : InA (M + M') (addA x y) := by
  obtain ⟨h1, h2, h3, h4⟩ := h
  obtain ⟨k1, k2, k3, k4⟩ := k
  refine ⟨?_, ?_, ?_, ?_⟩ <;> (simp only [addA]; omega)
theorem InA.mono {M M' : Int} {x : Amt} (h : InA M x) (hM : M ≤ M') : InA M' x := by
  obtain ⟨h1, h2, h3, h4⟩ := h
  refine ⟨?_, ?_, ?_, ?_⟩ <;> omega
theorem sumV_bound {l : List GRow} {zs : List Int} {M : Int} (hM : 0 ≤ M) (h : ∀ t ∈ l, InA M t.2) : InA (M * l.length) (sumV l zs) := by
  induction l with
  | nil => simpa [sumV_nil] using inA_zero (Int.le_refl 0)
  | cons t l ih =>
    have h1 := ih fun s hs => h s (by simp [hs])
    have h2 := h t (by simp)
    have e : M * ((t :: l).length : Int) = M + M * (l.length : Int) := by rw [List.length_cons]; push_cast; rw [Int.mul_add]; omega
    rw [e, sumV_cons]
    refine InA.add ?_ h1
    by_cases e2 : t.1 = zs
    · rw [if_pos e2]; exact h2
    · rw [if_neg e2]; exact inA_zero hM
theorem vOf_bound {ts : List GRow} {zs : List Int} {M : Int} (hM : 0 ≤ M) (h : ∀ t ∈ ts, InA M t.2) : InA M (vOf ts zs) := by
  by_cases e : vOf ts zs = (0, 0)
  · rw [e]; exact inA_zero hM
  · exact h _ (mem_vOf e)

end Go.Proofs.Ytlfljfmhhnoinab

/- Plain functions: picking cells. -/
namespace Go.Proofs.Ytlfljfmhhnoinab

def colIn (n : Nat) (k : Int) : Bool := decide (0 ≤ k) && decide (k < n)
def colsOk (cols : List Int) (n : Nat) : Bool := decide (cols.length ≤ 6) && cols.all (colIn n)
def pick (zs cols : List Int) : List Int := cols.map fun k => zs.getD k.toNat 0
def pickOk (zs cols : List Int) : Bool := good zs && colsOk cols zs.length
def pickZ (zs cols : List Int) : List Int := if pickOk zs cols then pick zs cols else []

theorem colsOk_of {cols : List Int} {n : Nat} (hl : cols.length ≤ 6) (h : ∀ j, j < cols.length → 0 ≤ cols.getD j 0 ∧ cols.getD j 0 < n) : colsOk cols n = true := by
  simp only [colsOk, Bool.and_eq_true, decide_eq_true_eq, List.all_eq_true, colIn]
  refine ⟨hl, fun x hx => ?_⟩
  obtain ⟨k, hk, rfl⟩ := List.getElem_of_mem hx
  simpa [List.getD, hk] using h k hk
theorem colsOk_at {cols : List Int} {n : Nat} (h : colsOk cols n = true) (k : Nat) (hk : k < cols.length) : 0 ≤ cols.getD k 0 ∧ cols.getD k 0 < n := by
  simp only [colsOk, Bool.and_eq_true, decide_eq_true_eq, List.all_eq_true, colIn] at h
  have := h.2 (cols[k]) (List.getElem_mem hk)
  simpa [List.getD, hk] using this
theorem colsOk_long {cols : List Int} {n : Nat} (h : 6 < cols.length) : colsOk cols n = false := by simp [colsOk]; omega
theorem colsOk_len {cols : List Int} {n : Nat} (h : colsOk cols n = true) : cols.length ≤ 6 := by
  simp only [colsOk, Bool.and_eq_true, decide_eq_true_eq] at h; exact h.1
theorem not_colsOk {cols : List Int} {n : Nat} (k : Nat) (hk : k < cols.length) (h : cols.getD k 0 < 0 ∨ (n : Int) ≤ cols.getD k 0) : colsOk cols n = false := by
  cases hg : colsOk cols n with
  | false => rfl
  | true => have := colsOk_at hg k hk; omega
theorem pick_succ (zs cols : List Int) (k : Nat) (h : k < cols.length) : pick zs (cols.take (k + 1)) = pick zs (cols.take k) ++ [zs.getD (cols.getD k 0).toNat 0] := by
  unfold pick
  rw [take_snocD cols k h, List.map_append]; rfl
end Go.Proofs.Ytlfljfmhhnoinab
